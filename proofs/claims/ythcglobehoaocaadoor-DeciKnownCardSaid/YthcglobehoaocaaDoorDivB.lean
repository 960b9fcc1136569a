/- The contract of bits.Div64. -/
import Derived.Test.YthcglobehoaocaaDoorNatC
import Derived.Test.YthcglobehoaocaaDoorDivA
import Derived.Test.YthcglobehoaocaaDoorShelf
import Derived.Laws.Bits64b
namespace Go.Proofs.YthcglobehoaocaaDoor
open Go.RowKit

theorem wrapN (n : Nat) (h : n < LB) : IntKind.u64.wrap (n : Int) = (n : Int) := by unfold LB at h; rw [IntKind.wrap_u64]; omega
theorem wrapM (n : Nat) : IntKind.u64.wrap (n : Int) = ((n % 18446744073709551616 : Nat) : Int) := by rw [IntKind.wrap_u64]; omega
theorem wrap_less (A D B R : Int) (h : A + D = B + R) (h0 : 0 ≤ R) (h1 : R < 18446744073709551616) : IntKind.u64.wrap (IntKind.u64.wrap (IntKind.u64.wrap A + D) - IntKind.u64.wrap B) = R := by
  simp only [IntKind.wrap_u64]; omega
theorem and_low (a : Nat) (h : a < LB) : bits .and .u64 (a : Int) 4294967295 = ((a % 4294967296 : Nat) : Int) := by
  unfold LB at h
  have := bits_and_u64_nat a 4294967295 h (by omega)
  rw [show (4294967295 : Nat) = 2 ^ 32 - 1 from rfl, Nat.and_two_pow_sub_one_eq_mod] at this
  exact this
theorem or_sum (a b s : Nat) (h : b < 2 ^ s) (h1 : a * 2 ^ s + b < LB) : bits .or .u64 ((a * 2 ^ s : Nat) : Int) (b : Int) = ((a * 2 ^ s + b : Nat) : Int) := by
  unfold LB at h1
  rw [bits_or_u64_nat _ _ (by omega) (by omega), Nat.mul_comm a, Nat.two_pow_add_eq_or_of_lt h]

/-- How far a divisor is moved to the left. -/
def lz (y : Nat) : Nat := 64 - Lib.bitLen y
theorem lz_le (y : Nat) : lz y ≤ 64 := Nat.sub_le _ _
theorem lz_bounds (y : Nat) (h0 : 0 < y) (h : y < LB) : 9223372036854775808 ≤ y * 2 ^ lz y ∧ y * 2 ^ lz y < LB ∧ lz y ≤ 63 := by
  unfold LB at *
  obtain ⟨a, b, c⟩ := Lib.bitLenAux_bounds 64 y h (by omega)
  have hL : Lib.bitLenAux 64 y ≤ 64 := Lib.bitLen_le y 64 (Nat.le_refl _) h
  unfold lz Lib.bitLen
  generalize Lib.bitLenAux 64 y = L at a b c hL ⊢
  have e1 : (2 : Nat) ^ (L - 1) * 2 ^ (64 - L) = 9223372036854775808 := by rw [← Nat.pow_add, show L - 1 + (64 - L) = 63 by omega]
  have e2 : (2 : Nat) ^ L * 2 ^ (64 - L) = 18446744073709551616 := by rw [← Nat.pow_add, show L + (64 - L) = 64 by omega]
  refine ⟨?_, ?_, by omega⟩
  · rw [← e1]; exact Nat.mul_le_mul_right _ b
  · rw [← e2]; exact Nat.mul_lt_mul_of_pos_right c (Nat.two_pow_pos _)

theorem leading (y : Nat) (h : y < LB) (w : World) : Calls Tryd.prog 68 #[.int .u64 y] w fun e w' => e = .returned (.int .i64 (lz y : Nat)) ∧ w = w' := by
  have hb := Lib.bitLen_le y 64 (Nat.le_refl _) (by unfold LB at h; omega)
  have e : (64 : Int) - (Lib.bitLen y : Int) = ((lz y : Nat) : Int) := by unfold lz; omega
  have hq := fun w => Tryd.bits_Len64 (y : Int) w (by omega) (by unfold LB at h; omega)
  rw [Int.toNat_natCast] at hq
  go_enter Tryd.func68, Tryd.ntmps68
  go_wp2_with (first | (go_at_call 80; refine (hq _).mono ?_; rintro e w' ⟨rfl, rfl⟩))
  go_ret
  refine ⟨?_, rfl⟩
  rw [← e]
  try rfl

/-- The values of one step, as the walk meets them. -/
theorem step_facts (q r Y0 D : Nat) (hq : q < 4294967296) (hr : r < 4294967296) (hY0 : Y0 < 4294967296) (hD : D < 4294967296) :
    ∃ m a b : Nat, IntKind.u64.wrap ((q : Int) * (Y0 : Int)) = (m : Int) ∧ IntKind.u64.wrap (4294967296 * (r : Int)) = (a : Int) ∧ IntKind.u64.wrap ((a : Int) + (D : Int)) = (b : Int) ∧ (b < m ↔ 4294967296 * r + D < q * Y0) := by
  have h1 : q * Y0 ≤ 4294967295 * 4294967295 := Nat.mul_le_mul (by omega) (by omega)
  refine ⟨q * Y0, 4294967296 * r, 4294967296 * r + D, ?_, ?_, ?_, Iff.rfl⟩
  · rw [← Int.natCast_mul]; exact wrapN _ (by unfold LB; omega)
  · rw [show (4294967296 : Int) * (r : Int) = ((4294967296 * r : Nat) : Int) by omega]; exact wrapN _ (by unfold LB; omega)
  · rw [← Int.natCast_add]; exact wrapN _ (by unfold LB; omega)
theorem down_fact (q : Nat) (h0 : 0 < q) (h : q ≤ 4294967297) : IntKind.u64.wrap ((q : Int) - 1) = ((q - 1 : Nat) : Int) := by
  rw [show (q : Int) - 1 = ((q - 1 : Nat) : Int) by omega]; exact wrapN _ (by unfold LB; omega)
theorem up_fact (r Y1 : Nat) (hr : r < 4294967296) (hy : Y1 < 4294967296) : IntKind.u64.wrap ((r : Int) + (Y1 : Int)) = ((r + Y1 : Nat) : Int) := by
  rw [← Int.natCast_add]; exact wrapN _ (by unfold LB; omega)
theorem first_facts (N Y1 : Nat) (hN : N < LB) : IntKind.u64.wrap ((N : Int).tdiv (Y1 : Int)) = ((N / Y1 : Nat) : Int) ∧ IntKind.u64.wrap ((N : Int) - IntKind.u64.wrap (((N / Y1 : Nat) : Int) * (Y1 : Int))) = ((N - N / Y1 * Y1 : Nat) : Int) := by
  have h1 := Nat.div_le_self N Y1
  have h2 := Nat.div_mul_le_self N Y1
  constructor
  · exact wrapN (N / Y1) (by omega)
  · rw [← Int.natCast_mul, wrapN (N / Y1 * Y1) (by omega), ← Int.ofNat_sub h2]; exact wrapN _ (by omega)
theorem rest_fact (N D T Y R : Nat) (h : N * 4294967296 + D = T * Y + R) (hR : R < LB) : IntKind.u64.wrap (IntKind.u64.wrap (IntKind.u64.wrap ((N : Int) * 4294967296) + (D : Int)) - IntKind.u64.wrap ((T : Int) * (Y : Int))) = (R : Int) := by
  unfold LB at hR
  have h1 : (T : Int) * (Y : Int) = ((T * Y : Nat) : Int) := by rw [Int.natCast_mul]
  rw [h1]
  generalize T * Y = B at *
  exact wrap_less _ _ _ _ (by omega) (by omega) (by omega)

theorem step_facts' {q r Y0 D : Nat} {qi ri Y0i Di : Int} (e1 : qi = (q : Int)) (e2 : ri = (r : Int)) (e3 : Y0i = (Y0 : Int)) (e4 : Di = (D : Int)) (hq : q < 4294967296) (hr : r < 4294967296) (hY0 : Y0 < 4294967296) (hD : D < 4294967296) :
    ∃ m a b : Int, IntKind.u64.wrap (qi * Y0i) = m ∧ IntKind.u64.wrap (4294967296 * ri) = a ∧ IntKind.u64.wrap (a + Di) = b ∧ (b < m ↔ 4294967296 * r + D < q * Y0) := by
  obtain ⟨m, a, b, h1, h2, h3, h4⟩ := step_facts q r Y0 D hq hr hY0 hD
  subst e1 e2 e3 e4
  exact ⟨m, a, b, h1, h2, h3, by rw [← h4]; omega⟩

/-- One round of a step's loop, as the walk meets it. -/
theorem div_round {Y1 Y0 N D T : Nat} {Y1i Y0i Di Ti qi ri : Int} (hY1i : Y1i = (Y1 : Int)) (hY0i : Y0i = (Y0 : Int)) (hDi : Di = (D : Int)) (hTi : Ti = (T : Int))
    (hY1 : 2147483648 ≤ Y1) (hY1' : Y1 < 4294967296) (hY0 : Y0 < 4294967296) (hD : D < 4294967296) (hN : N < Y1 * 4294967296 + Y0) (hT : T = (N * 4294967296 + D) / (Y1 * 4294967296 + Y0))
    (hinv : ∃ q r : Nat, qi = q ∧ ri = r ∧ Knuth.Inv Y1 Y0 N D q r) :
    (4294967296 ≤ qi ∧ ∃ pi r' : Int, IntKind.u64.wrap (qi - 1) = pi ∧ IntKind.u64.wrap (ri + Y1i) = r' ∧ Hid (0 ≤ r') ∧
      Hid ((r' < 4294967296 → Hid (∃ q r : Nat, pi = q ∧ r' = r ∧ Knuth.Inv Y1 Y0 N D q r) ∧ pi.toNat < qi.toNat) ∧ (¬ r' < 4294967296 → pi = Ti))) ∨
    (¬ 4294967296 ≤ qi ∧ ∃ m a b : Int, IntKind.u64.wrap (qi * Y0i) = m ∧ IntKind.u64.wrap (4294967296 * ri) = a ∧ IntKind.u64.wrap (a + Di) = b ∧ b < m ∧ ∃ pi r' : Int, IntKind.u64.wrap (qi - 1) = pi ∧ IntKind.u64.wrap (ri + Y1i) = r' ∧ Hid (0 ≤ r') ∧
      Hid ((r' < 4294967296 → Hid (∃ q r : Nat, pi = q ∧ r' = r ∧ Knuth.Inv Y1 Y0 N D q r) ∧ pi.toNat < qi.toNat) ∧ (¬ r' < 4294967296 → pi = Ti))) ∨
    (¬ 4294967296 ≤ qi ∧ ∃ m a b : Int, IntKind.u64.wrap (qi * Y0i) = m ∧ IntKind.u64.wrap (4294967296 * ri) = a ∧ IntKind.u64.wrap (a + Di) = b ∧ ¬ b < m ∧ qi = Ti) := by
  obtain ⟨q, r, rfl, rfl, hI⟩ := hinv
  have hr := hI.rlt
  have hup := up_fact r Y1 hr hY1'
  rw [← hY1i] at hup
  have next : (N * 4294967296 + D) / (Y1 * 4294967296 + Y0) < q → ∃ pi r' : Int, IntKind.u64.wrap ((q : Int) - 1) = pi ∧ IntKind.u64.wrap ((r : Int) + Y1i) = r' ∧ Hid (0 ≤ r') ∧
      Hid ((r' < 4294967296 → Hid (∃ q r : Nat, pi = q ∧ r' = r ∧ Knuth.Inv Y1 Y0 N D q r) ∧ pi.toNat < (q : Int).toNat) ∧ (¬ r' < 4294967296 → pi = Ti)) := by
    intro ha
    have hpos := Nat.lt_of_le_of_lt (Nat.zero_le _) ha
    refine ⟨_, _, down_fact q hpos hI.le, hup, by show (0 : Int) ≤ _; omega, fun h => ⟨⟨_, _, rfl, rfl, hI.next ha (by omega)⟩, by omega⟩, fun h => ?_⟩
    rw [hTi, hT, hI.stop (by omega) hY0 ha (by omega)]
  rcases Nat.lt_or_ge q 4294967296 with hq | hq
  · right
    obtain ⟨m, a, b, h1, h2, h3, h4⟩ := step_facts' (q := q) (r := r) rfl rfl hY0i hDi hq hr hY0 hD
    by_cases hbm : b < m
    · exact .inl ⟨by omega, m, a, b, h1, h2, h3, hbm, next (Knuth.above2 (by omega) hI.split (h4.1 hbm))⟩
    · refine .inr ⟨by omega, m, a, b, h1, h2, h3, hbm, ?_⟩
      rw [hTi, hT, hI.done (by omega) (fun h => hbm (h4.2 h))]
  · exact .inl ⟨by omega, next (Knuth.above1 hN hD hq)⟩

set_option maxHeartbeats 2000000 in
/-- The walk, where all values are named. -/
theorem div64_core (hi lo y s Y N U Y1 Y0 D1 D0 T1 R1 T0 R0 : Nat) (w : World) (h : hi < y) (h0 : 0 < hi) (hs : s ≤ 63)
    (hlz : ∀ w, Calls Tryd.prog 68 #[.int .u64 y] w fun e w' => e = .returned (.int .i64 s) ∧ w = w')
    (e1 : IntKind.u64.wrap ((y : Int) * 2 ^ s) = (Y : Int)) (e2 : (Y : Int) / 4294967296 = (Y1 : Int)) (e3 : bits .and .u64 (Y : Int) 4294967295 = (Y0 : Int))
    (e4 : bits .or .u64 (IntKind.u64.wrap ((hi : Int) * 2 ^ s)) ((lo : Int) / 2 ^ (64 - s)) = (N : Int))
    (e5 : IntKind.u64.wrap ((lo : Int) * 2 ^ s) = (U : Int)) (e6 : (U : Int) / 4294967296 = (D1 : Int)) (e7 : bits .and .u64 (U : Int) 4294967295 = (D0 : Int))
    (hY1 : 2147483648 ≤ Y1) (hY1' : Y1 < 4294967296) (hY0 : Y0 < 4294967296) (hD1 : D1 < 4294967296) (hD0 : D0 < 4294967296) (hY : Y = Y1 * 4294967296 + Y0) (hN : N < Y)
    (hT1 : T1 = (N * 4294967296 + D1) / Y) (hR1 : R1 = (N * 4294967296 + D1) % Y) (hT0 : T0 = (R1 * 4294967296 + D0) / Y) (hR0 : R0 = (R1 * 4294967296 + D0) % Y) :
    Calls Tryd.prog 55 #[.int .u64 hi, .int .u64 lo, .int .u64 y] w fun e w' => e = .returned (.tuple #[.int .u64 ((T1 * 4294967296 + T0 : Nat) : Int), .int .u64 ((R0 / 2 ^ s : Nat) : Int)]) ∧ w = w' := by
  have hYpos : 0 < Y := by omega
  have hYlt : Y < LB := by unfold LB; omega
  have hR1lt : R1 < Y := by rw [hR1]; exact Nat.mod_lt _ hYpos
  have hR0lt : R0 < Y := by rw [hR0]; exact Nat.mod_lt _ hYpos
  have hst1 := Lib.hid (Knuth.start (n := N) (d := D1) hY1 hY1' hY0 (by omega) hD1)
  have hst0 := Lib.hid (Knuth.start (n := R1) (d := D0) hY1 hY1' hY0 (by omega) hD0)
  have hT1' : Hid (T1 = (N * 4294967296 + D1) / (Y1 * 4294967296 + Y0)) := by rw [← hY]; exact hT1
  have hT0' : Hid (T0 = (R1 * 4294967296 + D0) / (Y1 * 4294967296 + Y0)) := by rw [← hY]; exact hT0
  have hT1lt : T1 < 4294967296 := by rw [hT1'.out]; exact Knuth.digit_lt (by omega) hD1
  have hT0lt : T0 < 4294967296 := by rw [hT0'.out]; exact Knuth.digit_lt (by omega) hD0
  obtain ⟨f1, f2⟩ := first_facts N Y1 (by omega)
  obtain ⟨g1, g2⟩ := first_facts R1 Y1 (by omega)
  have hre1 := rest_fact N D1 T1 Y R1 (by rw [hT1, hR1]; exact (Nat.div_add_mod' _ _).symm) (by omega)
  have hre0 := rest_fact R1 D0 T0 Y R0 (by rw [hT0, hR0]; exact (Nat.div_add_mod' _ _).symm) (by omega)
  have hq1 : IntKind.u64.wrap ((T1 : Int) * 4294967296) = ((T1 * 4294967296 : Nat) : Int) := by
    rw [show (T1 : Int) * 4294967296 = ((T1 * 4294967296 : Nat) : Int) by omega]; exact wrapN _ (by unfold LB; omega)
  have hq2 : IntKind.u64.wrap (((T1 * 4294967296 : Nat) : Int) + (T0 : Int)) = ((T1 * 4294967296 + T0 : Nat) : Int) := by
    rw [show ((T1 * 4294967296 : Nat) : Int) + (T0 : Int) = ((T1 * 4294967296 + T0 : Nat) : Int) by omega]; exact wrapN _ (by unfold LB; omega)
  have hq3 : (R0 : Int) / 2 ^ s = ((R0 / 2 ^ s : Nat) : Int) := by rw [Int.natCast_ediv, Int.natCast_pow]; rfl
  have hnd1 : N < Y1 * 4294967296 + Y0 := by omega
  have hnd0 : R1 < Y1 * 4294967296 + Y0 := by omega
  clear hT1 hT0 hR1 hR0 hN hY hYlt hYpos hR1lt hR0lt
  -- no cast in the frame
  obtain ⟨Yi, hYi⟩ : ∃ x : Int, x = (Y : Int) := ⟨_, rfl⟩
  obtain ⟨Ni, hNi⟩ : ∃ x : Int, x = (N : Int) := ⟨_, rfl⟩
  obtain ⟨Ui, hUi⟩ : ∃ x : Int, x = (U : Int) := ⟨_, rfl⟩
  obtain ⟨Y1i, hY1i⟩ : ∃ x : Int, x = (Y1 : Int) := ⟨_, rfl⟩
  obtain ⟨Y0i, hY0i⟩ : ∃ x : Int, x = (Y0 : Int) := ⟨_, rfl⟩
  obtain ⟨D1i, hD1i⟩ : ∃ x : Int, x = (D1 : Int) := ⟨_, rfl⟩
  obtain ⟨D0i, hD0i⟩ : ∃ x : Int, x = (D0 : Int) := ⟨_, rfl⟩
  obtain ⟨T1i, hT1i⟩ : ∃ x : Int, x = (T1 : Int) := ⟨_, rfl⟩
  obtain ⟨T0i, hT0i⟩ : ∃ x : Int, x = (T0 : Int) := ⟨_, rfl⟩
  obtain ⟨R1i, hR1i⟩ : ∃ x : Int, x = (R1 : Int) := ⟨_, rfl⟩
  obtain ⟨R0i, hR0i⟩ : ∃ x : Int, x = (R0 : Int) := ⟨_, rfl⟩
  obtain ⟨Qi, hQi⟩ : ∃ x : Int, x = ((N / Y1 : Nat) : Int) := ⟨_, rfl⟩
  obtain ⟨Ri, hRi⟩ : ∃ x : Int, x = ((N - N / Y1 * Y1 : Nat) : Int) := ⟨_, rfl⟩
  obtain ⟨Qj, hQj⟩ : ∃ x : Int, x = ((R1 / Y1 : Nat) : Int) := ⟨_, rfl⟩
  obtain ⟨Rj, hRj⟩ : ∃ x : Int, x = ((R1 - R1 / Y1 * Y1 : Nat) : Int) := ⟨_, rfl⟩
  obtain ⟨Ti, hTi⟩ : ∃ x : Int, x = ((T1 * 4294967296 : Nat) : Int) := ⟨_, rfl⟩
  obtain ⟨Vi, hVi⟩ : ∃ x : Int, x = ((T1 * 4294967296 + T0 : Nat) : Int) := ⟨_, rfl⟩
  obtain ⟨Wi, hWi⟩ : ∃ x : Int, x = ((R0 / 2 ^ s : Nat) : Int) := ⟨_, rfl⟩
  rw [← hQi] at f1 f2
  rw [← hRi] at f2
  rw [← hQj] at g1 g2
  rw [← hRj] at g2
  rw [← hTi] at hq1 hq2
  rw [← hVi] at hq2 ⊢
  rw [← hWi] at hq3 ⊢
  rw [← hT1i] at hq1
  rw [← hT0i] at hq2
  rw [← hR0i] at hq3
  rw [← hNi, ← hD1i, ← hT1i, ← hYi, ← hR1i] at hre1
  rw [← hR1i, ← hD0i, ← hT0i, ← hYi, ← hR0i] at hre0
  rw [← hNi, ← hY1i] at f1 f2
  rw [← hR1i, ← hY1i] at g1 g2
  rw [← hYi] at e1 e2 e3
  rw [← hY1i] at e2
  rw [← hY0i] at e3
  rw [← hNi] at e4
  rw [← hUi] at e5 e6 e7
  rw [← hD1i] at e6
  rw [← hD0i] at e7
  have hY1z : ¬ Y1i = 0 := by omega
  have hstart1 : Hid (∃ q r : Nat, Qi = q ∧ Ri = r ∧ Knuth.Inv Y1 Y0 N D1 q r) := ⟨_, _, hQi, hRi, hst1.out⟩
  have hstart0 : Hid (∃ q r : Nat, Qj = q ∧ Rj = r ∧ Knuth.Inv Y1 Y0 R1 D0 q r) := ⟨_, _, hQj, hRj, hst0.out⟩
  have HH : Hid (Y1i = (Y1 : Int) ∧ Y0i = (Y0 : Int) ∧ D1i = (D1 : Int) ∧ D0i = (D0 : Int) ∧ T1i = (T1 : Int) ∧ T0i = (T0 : Int) ∧ 2147483648 ≤ Y1 ∧ Y1 < 4294967296 ∧ Y0 < 4294967296 ∧ D1 < 4294967296 ∧ D0 < 4294967296 ∧ N < Y1 * 4294967296 + Y0 ∧ R1 < Y1 * 4294967296 + Y0 ∧
      T1 = (N * 4294967296 + D1) / (Y1 * 4294967296 + Y0) ∧ T0 = (R1 * 4294967296 + D0) / (Y1 * 4294967296 + Y0)) :=
    ⟨hY1i, hY0i, hD1i, hD0i, hT1i, hT0i, hY1, hY1', hY0, hD1, hD0, hnd1, hnd0, hT1'.out, hT0'.out⟩
  clear hYi hNi hUi hY1i hY0i hD1i hD0i hT1i hT0i hR1i hR0i hQi hRi hQj hRj hTi hVi hWi hst1 hst0 hT1' hT0' hT1lt hT0lt hY1 hY1' hY0 hD1 hD0 hnd1 hnd0
  go_enter Tryd.func55, Tryd.ntmps55
  go_wp2_with (first | (go_at_call 68; refine (hlz _).mono ?_; rintro e w' ⟨rfl, rfl⟩))
  go_loopw [15, 16] (fun qv rv wr => ∃ qi ri : Int, qv = .int .u64 qi ∧ rv = .int .u64 ri ∧ Hid (∃ q r : Nat, qi = q ∧ ri = r ∧ Knuth.Inv Y1 Y0 N D1 q r) ∧ w = wr) (fun qv _ _ => (intOf qv).toNat)
  case atStart => exact ⟨Qi, Ri, rfl, rfl, hstart1, rfl⟩
  case round =>
    obtain ⟨qi, ri, rfl, rfl, hinv, rfl⟩ := hrel
    have hcase := div_round HH.out.1 HH.out.2.1 HH.out.2.2.1 HH.out.2.2.2.2.1 HH.out.2.2.2.2.2.2.1 HH.out.2.2.2.2.2.2.2.1 HH.out.2.2.2.2.2.2.2.2.1 HH.out.2.2.2.2.2.2.2.2.2.1 HH.out.2.2.2.2.2.2.2.2.2.2.2.1 HH.out.2.2.2.2.2.2.2.2.2.2.2.2.2.1 hinv.out
    rcases hcase with ⟨hA, pi, r', hdn, hup, hb, hend⟩ | ⟨hA, m, a, b, s1, s2, s3, hbm, pi, r', hdn, hup, hb, hend⟩ | ⟨hA, m, a, b, s1, s2, s3, hbm, rfl⟩
    case' inl =>
      by_cases hnx : r' < 4294967296
      · have hI := hend.out.1 hnx
        go_wp2_with fail
        exact ⟨⟨_, _, rfl, rfl, hI.1, trivial⟩, hI.2⟩
      obtain rfl := hend.out.2 hnx
      clear hend
      go_wp2_with fail
    case' inr.inl =>
      by_cases hnx : r' < 4294967296
      · have hI := hend.out.1 hnx
        go_wp2_with fail
        exact ⟨⟨_, _, rfl, rfl, hI.1, trivial⟩, hI.2⟩
      obtain rfl := hend.out.2 hnx
      clear hend
      go_wp2_with fail
    case' inr.inr =>
      go_wp2_with fail
    all_goals
      go_loopw [18, 16] (fun qv rv wr => ∃ qi ri : Int, qv = .int .u64 qi ∧ rv = .int .u64 ri ∧ Hid (∃ q r : Nat, qi = q ∧ ri = r ∧ Knuth.Inv Y1 Y0 R1 D0 q r) ∧ w = wr) (fun qv _ _ => (intOf qv).toNat)
      case atStart => exact ⟨Qj, Rj, rfl, rfl, hstart0, rfl⟩
      case round =>
        obtain ⟨qj, rj, rfl, rfl, hinv2, rfl⟩ := hrel
        have hcase := div_round HH.out.1 HH.out.2.1 HH.out.2.2.2.1 HH.out.2.2.2.2.2.1 HH.out.2.2.2.2.2.2.1 HH.out.2.2.2.2.2.2.2.1 HH.out.2.2.2.2.2.2.2.2.1 HH.out.2.2.2.2.2.2.2.2.2.2.1 HH.out.2.2.2.2.2.2.2.2.2.2.2.2.1 HH.out.2.2.2.2.2.2.2.2.2.2.2.2.2.2 hinv2.out
        rcases hcase with ⟨hA2, pj, r2, hdn2, hup2, hb2, hend2⟩ | ⟨hA2, m2, a2, b2, t1, t2, t3, hbm2, pj, r2, hdn2, hup2, hb2, hend2⟩ | ⟨hA2, m2, a2, b2, t1, t2, t3, hbm2, rfl⟩
        case' inl =>
          by_cases hnx2 : r2 < 4294967296
          · have hI := hend2.out.1 hnx2
            go_wp2_with fail
            exact ⟨⟨_, _, rfl, rfl, hI.1, trivial⟩, hI.2⟩
          obtain rfl := hend2.out.2 hnx2
          clear hend2
          go_wp2_with fail
        case' inr.inl =>
          by_cases hnx2 : r2 < 4294967296
          · have hI := hend2.out.1 hnx2
            go_wp2_with fail
            exact ⟨⟨_, _, rfl, rfl, hI.1, trivial⟩, hI.2⟩
          obtain rfl := hend2.out.2 hnx2
          clear hend2
          go_wp2_with fail
        case' inr.inr =>
          go_wp2_with fail
        all_goals
          go_ret2
          exact ⟨rfl, rfl⟩
end Go.Proofs.YthcglobehoaocaaDoor
