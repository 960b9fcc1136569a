/- Plain mathematics of a division by two digits: Knuth's step. Nothing of the program. The contract of bits.Div64. The contract of bits.Div64, whole; deci's divide and Div. The contracts of deci's divide and Div. Deferred calls: a deferred function that defers itself; WriteByte, deferred; deci's putRow. deci's putRow: a row's digits, put by deferred calls. deci's putRows: a number's rows of digits, put by deferred calls. The contracts of deci's putRows, Text and Digits. -/
import Derived.Test.YtijliimiojjjdaaDoorGMath
import Derived.Test.YtijliimiojjjdaaDoorGNatA
import Derived.Test.YtijliimiojjjdaaDoorShelf
import Derived.Laws.Bits64b
import Derived.Test.YtijliimiojjjdaaDoorGNatD
import Derived.Defers
import Derived.Lib.ItoaNum
namespace Go.Proofs.YtijliimiojjjdaaDoor
section
namespace Knuth

/-- The state of one step's loop: the guessed digit is not too small, and what is left over by the divisor's upper half. -/
structure Inv (y1 y0 n d q r : Nat) : Prop where
  split : q * y1 + r = n
  ge : (n * 4294967296 + d) / (y1 * 4294967296 + y0) ≤ q
  le : q ≤ 4294967297
  rlt : r < 4294967296

variable {y1 y0 n d q r : Nat}

theorem whole (q y1 y0 : Nat) : q * (y1 * 4294967296 + y0) = q * y1 * 4294967296 + q * y0 := by rw [Nat.mul_add, Nat.mul_assoc]

theorem digit_lt (hn : n < y1 * 4294967296 + y0) (hd : d < 4294967296) : (n * 4294967296 + d) / (y1 * 4294967296 + y0) < 4294967296 := by
  rw [Nat.div_lt_iff_lt_mul (by omega)]
  omega

theorem start (hy1 : 2147483648 ≤ y1) (hy1' : y1 < 4294967296) (hy0 : y0 < 4294967296) (hn : n < y1 * 4294967296 + y0) (hd : d < 4294967296) : Inv y1 y0 n d (n / y1) (n - n / y1 * y1) := by
  have hdm := Nat.div_add_mod n y1
  have hml := Nat.mod_lt n (show 0 < y1 by omega)
  have hc : n / y1 * y1 = y1 * (n / y1) := Nat.mul_comm _ _
  refine ⟨by omega, ?_, ?_, by omega⟩
  · rw [Nat.le_div_iff_mul_le (by omega)]
    have h1 := Nat.div_mul_le_self (n * 4294967296 + d) (y1 * 4294967296 + y0)
    generalize (n * 4294967296 + d) / (y1 * 4294967296 + y0) = t at h1 ⊢
    rw [whole] at h1
    generalize t * y1 = z at h1 ⊢
    omega
  · have : n / y1 < 4294967298 := by
      rw [Nat.div_lt_iff_lt_mul (by omega)]
      omega
    omega

theorem above1 (hn : n < y1 * 4294967296 + y0) (hd : d < 4294967296) (h : 4294967296 ≤ q) : (n * 4294967296 + d) / (y1 * 4294967296 + y0) < q := Nat.lt_of_lt_of_le (digit_lt hn hd) h
theorem above2 (hp : 0 < y1) (hs : q * y1 + r = n) (h : 4294967296 * r + d < q * y0) : (n * 4294967296 + d) / (y1 * 4294967296 + y0) < q := by
  rw [Nat.div_lt_iff_lt_mul (by omega), whole]
  generalize q * y1 = z at *
  generalize q * y0 = m at *
  omega
theorem Inv.next (h : Inv y1 y0 n d q r) (ha : (n * 4294967296 + d) / (y1 * 4294967296 + y0) < q) (hr : r + y1 < 4294967296) : Inv y1 y0 n d (q - 1) (r + y1) := by
  obtain ⟨p, rfl⟩ : ∃ p, q = p + 1 := ⟨q - 1, by have := Nat.lt_of_le_of_lt (Nat.zero_le _) ha; omega⟩
  have h1 := h.split
  have h2 := h.le
  rw [Nat.add_mul, Nat.one_mul] at h1
  refine ⟨?_, by omega, by omega, hr⟩
  rw [Nat.add_sub_cancel]
  omega
theorem Inv.stop (h : Inv y1 y0 n d q r) (hp : 0 < y1) (hy0 : y0 < 4294967296) (ha : (n * 4294967296 + d) / (y1 * 4294967296 + y0) < q) (hr : 4294967296 ≤ r + y1) : q - 1 = (n * 4294967296 + d) / (y1 * 4294967296 + y0) := by
  obtain ⟨p, rfl⟩ : ∃ p, q = p + 1 := ⟨q - 1, by have := Nat.lt_of_le_of_lt (Nat.zero_le _) ha; omega⟩
  have h1 := h.split
  have h2 := h.le
  rw [Nat.add_mul, Nat.one_mul] at h1
  have h3 : p ≤ (n * 4294967296 + d) / (y1 * 4294967296 + y0) := by
    rw [Nat.le_div_iff_mul_le (by omega), whole]
    have h4 : p * y0 ≤ 4294967296 * 4294967296 := Nat.mul_le_mul (by omega) (by omega)
    generalize p * y1 = z at *
    generalize p * y0 = m at *
    omega
  omega
theorem Inv.done (h : Inv y1 y0 n d q r) (hp : 0 < y1) (h2 : ¬ 4294967296 * r + d < q * y0) : q = (n * 4294967296 + d) / (y1 * 4294967296 + y0) := by
  have h1 := h.split
  have h3 : q ≤ (n * 4294967296 + d) / (y1 * 4294967296 + y0) := by
    rw [Nat.le_div_iff_mul_le (by omega), whole]
    generalize q * y1 = z at *
    generalize q * y0 = m at *
    omega
  have := h.ge
  omega

/-- Two steps make the whole. -/
theorem both_any (h A Y D0 : Nat) (hY : 0 < Y) : (A * h + D0) / Y = A / Y * h + (A % Y * h + D0) / Y ∧ (A * h + D0) % Y = (A % Y * h + D0) % Y := by
  have h1 := Nat.div_add_mod A Y
  have e : A * h + D0 = (A % Y * h + D0) + Y * (A / Y * h) := by
    have : A * h = (Y * (A / Y) + A % Y) * h := by rw [h1]
    rw [this, Nat.add_mul, Nat.mul_assoc]
    omega
  rw [e, Nat.add_mul_div_left _ _ hY, Nat.add_mul_mod_self_left]
  exact ⟨Nat.add_comm _ _, rfl⟩
theorem both (Y N D1 D0 : Nat) (hY : 0 < Y) : ((N * 4294967296 + D1) * 4294967296 + D0) / Y = (N * 4294967296 + D1) / Y * 4294967296 + ((N * 4294967296 + D1) % Y * 4294967296 + D0) / Y ∧ ((N * 4294967296 + D1) * 4294967296 + D0) % Y = ((N * 4294967296 + D1) % Y * 4294967296 + D0) % Y :=
  both_any 4294967296 (N * 4294967296 + D1) Y D0 hY

/-- Both are moved to the left by s digits. -/
theorem moved (hi lo s : Nat) (hs : s ≤ 64) :
    (hi * 18446744073709551616 + lo) * 2 ^ s = ((hi * 2 ^ s + lo / 2 ^ (64 - s)) * 4294967296 + lo * 2 ^ s % 18446744073709551616 / 4294967296) * 4294967296 + lo * 2 ^ s % 18446744073709551616 % 4294967296 := by
  have hp : (2 : Nat) ^ (64 - s) * 2 ^ s = 18446744073709551616 := by rw [← Nat.pow_add, show 64 - s + s = 64 by omega]
  have e : lo * 2 ^ s = lo / 2 ^ (64 - s) * 18446744073709551616 + lo % 2 ^ (64 - s) * 2 ^ s := by
    have h1 := Nat.div_add_mod lo (2 ^ (64 - s))
    calc lo * 2 ^ s = (2 ^ (64 - s) * (lo / 2 ^ (64 - s)) + lo % 2 ^ (64 - s)) * 2 ^ s := by rw [h1]
      _ = _ := by rw [Nat.add_mul, ← hp, Nat.mul_comm (2 ^ (64 - s)) (lo / _), Nat.mul_assoc]
  have hlt : lo % 2 ^ (64 - s) * 2 ^ s < 18446744073709551616 := by
    rw [← hp]
    exact Nat.mul_lt_mul_of_pos_right (Nat.mod_lt _ (Nat.two_pow_pos _)) (Nat.two_pow_pos _)
  rw [Nat.add_mul, e]
  have e2 : hi * 18446744073709551616 * 2 ^ s = hi * 2 ^ s * 18446744073709551616 := by rw [Nat.mul_assoc, Nat.mul_comm 18446744073709551616, ← Nat.mul_assoc]
  rw [e2]
  generalize hi * 2 ^ s = a
  generalize lo / 2 ^ (64 - s) = b
  generalize lo % 2 ^ (64 - s) * 2 ^ s = c at *
  omega

theorem all (hi lo y s : Nat) (hs : s ≤ 64) (hy : 0 < y) (N D1 D0 : Nat) (hN : N = hi * 2 ^ s + lo / 2 ^ (64 - s)) (h1 : D1 = lo * 2 ^ s % 18446744073709551616 / 4294967296) (h0 : D0 = lo * 2 ^ s % 18446744073709551616 % 4294967296) :
    (N * 4294967296 + D1) / (y * 2 ^ s) * 4294967296 + ((N * 4294967296 + D1) % (y * 2 ^ s) * 4294967296 + D0) / (y * 2 ^ s) = (hi * 18446744073709551616 + lo) / y ∧
      ((N * 4294967296 + D1) % (y * 2 ^ s) * 4294967296 + D0) % (y * 2 ^ s) / 2 ^ s = (hi * 18446744073709551616 + lo) % y := by
  have hm := moved hi lo s hs
  rw [← hN, ← h1, ← h0] at hm
  have hb := both (y * 2 ^ s) N D1 D0 (Nat.mul_pos hy (Nat.two_pow_pos _))
  rw [← hm] at hb
  rw [← hb.1, ← hb.2, Nat.mul_div_mul_right _ _ (Nat.two_pow_pos _), Nat.mul_mod_mul_right, Nat.mul_div_cancel _ (Nat.two_pow_pos _)]
  exact ⟨rfl, rfl⟩

/-- The number moved to the left is less than the divisor moved. -/
theorem top_lt (hi lo y s : Nat) (hs : s ≤ 64) (hlo : lo < 18446744073709551616) (h : hi < y) : hi * 2 ^ s + lo / 2 ^ (64 - s) < y * 2 ^ s := by
  have h1 : lo / 2 ^ (64 - s) < 2 ^ s := by
    rw [Nat.div_lt_iff_lt_mul (Nat.two_pow_pos _), ← Nat.pow_add, show s + (64 - s) = 64 by omega]
    exact hlo
  have h2 : (hi + 1) * 2 ^ s ≤ y * 2 ^ s := Nat.mul_le_mul_right _ h
  rw [Nat.add_mul, Nat.one_mul] at h2
  omega
end Knuth
end

section
open Go.RowKit

theorem wrapN (n : Nat) (h : n < LB) : IntKind.u64.wrap (n : Int) = (n : Int) := by unfold LB at h; rw [IntKind.wrap_u64]; omega
theorem wrapM (n : Nat) : IntKind.u64.wrap (n : Int) = ((n % 18446744073709551616 : Nat) : Int) := by rw [IntKind.wrap_u64]; omega
theorem wrap_less (A D B R : Int) (h : A + D = B + R) (h0 : 0 ≤ R) (h1 : R < 18446744073709551616) : IntKind.u64.wrap (IntKind.u64.wrap (IntKind.u64.wrap A + D) - IntKind.u64.wrap B) = R := by
  simp only [IntKind.wrap_u64]; omega
theorem and_low (a : Nat) (h : a < LB) : bits .and .u64 (a : Int) 4294967295 = ((a % 4294967296 : Nat) : Int) := by
  unfold LB at h
  have := bits_and_u64_nat a 4294967295 h (by omega)
  rw [show (4294967295 : Nat) = 2 ^ 32 - 1 from rfl, Nat.and_two_pow_sub_one_eq_mod] at this
  exact this
theorem or_sum (a b s : Nat) (h : b < 2 ^ s) (h1 : a * 2 ^ s + b < LB) : bits .or .u64 ((a * 2 ^ s : Nat) : Int) (b : Int) = ((a * 2 ^ s + b : Nat) : Int) := by
  unfold LB at h1
  rw [bits_or_u64_nat _ _ (by omega) (by omega), Nat.mul_comm a, Nat.two_pow_add_eq_or_of_lt h]

/-- How far a divisor is moved to the left. -/
def lz (y : Nat) : Nat := 64 - Lib.bitLen y
theorem lz_le (y : Nat) : lz y ≤ 64 := Nat.sub_le _ _
theorem lz_bounds (y : Nat) (h0 : 0 < y) (h : y < LB) : 9223372036854775808 ≤ y * 2 ^ lz y ∧ y * 2 ^ lz y < LB ∧ lz y ≤ 63 := by
  unfold LB at *
  obtain ⟨a, b, c⟩ := Lib.bitLenAux_bounds 64 y h (by omega)
  have hL : Lib.bitLenAux 64 y ≤ 64 := Lib.bitLen_le y 64 (Nat.le_refl _) h
  unfold lz Lib.bitLen
  generalize Lib.bitLenAux 64 y = L at a b c hL ⊢
  have e1 : (2 : Nat) ^ (L - 1) * 2 ^ (64 - L) = 9223372036854775808 := by rw [← Nat.pow_add, show L - 1 + (64 - L) = 63 by omega]
  have e2 : (2 : Nat) ^ L * 2 ^ (64 - L) = 18446744073709551616 := by rw [← Nat.pow_add, show L + (64 - L) = 64 by omega]
  refine ⟨?_, ?_, by omega⟩
  · rw [← e1]; exact Nat.mul_le_mul_right _ b
  · rw [← e2]; exact Nat.mul_lt_mul_of_pos_right c (Nat.two_pow_pos _)

/-- The values of one step, as the walk meets them. -/
theorem step_facts (q r Y0 D : Nat) (hq : q < 4294967296) (hr : r < 4294967296) (hY0 : Y0 < 4294967296) (hD : D < 4294967296) :
    ∃ m a b : Nat, IntKind.u64.wrap ((q : Int) * (Y0 : Int)) = (m : Int) ∧ IntKind.u64.wrap (4294967296 * (r : Int)) = (a : Int) ∧ IntKind.u64.wrap ((a : Int) + (D : Int)) = (b : Int) ∧ (b < m ↔ 4294967296 * r + D < q * Y0) := by
  have h1 : q * Y0 ≤ 4294967295 * 4294967295 := Nat.mul_le_mul (by omega) (by omega)
  refine ⟨q * Y0, 4294967296 * r, 4294967296 * r + D, ?_, ?_, ?_, Iff.rfl⟩
  · rw [← Int.natCast_mul]; exact wrapN _ (by unfold LB; omega)
  · rw [show (4294967296 : Int) * (r : Int) = ((4294967296 * r : Nat) : Int) by omega]; exact wrapN _ (by unfold LB; omega)
  · rw [← Int.natCast_add]; exact wrapN _ (by unfold LB; omega)
theorem down_fact (q : Nat) (h0 : 0 < q) (h : q ≤ 4294967297) : IntKind.u64.wrap ((q : Int) - 1) = ((q - 1 : Nat) : Int) := by
  rw [show (q : Int) - 1 = ((q - 1 : Nat) : Int) by omega]; exact wrapN _ (by unfold LB; omega)
theorem up_fact (r Y1 : Nat) (hr : r < 4294967296) (hy : Y1 < 4294967296) : IntKind.u64.wrap ((r : Int) + (Y1 : Int)) = ((r + Y1 : Nat) : Int) := by
  rw [← Int.natCast_add]; exact wrapN _ (by unfold LB; omega)
theorem first_facts (N Y1 : Nat) (hN : N < LB) : IntKind.u64.wrap ((N : Int).tdiv (Y1 : Int)) = ((N / Y1 : Nat) : Int) ∧ IntKind.u64.wrap ((N : Int) - IntKind.u64.wrap (((N / Y1 : Nat) : Int) * (Y1 : Int))) = ((N - N / Y1 * Y1 : Nat) : Int) := by
  have h1 := Nat.div_le_self N Y1
  have h2 := Nat.div_mul_le_self N Y1
  constructor
  · exact wrapN (N / Y1) (by omega)
  · rw [← Int.natCast_mul, wrapN (N / Y1 * Y1) (by omega), ← Int.ofNat_sub h2]; exact wrapN _ (by omega)
theorem rest_fact (N D T Y R : Nat) (h : N * 4294967296 + D = T * Y + R) (hR : R < LB) : IntKind.u64.wrap (IntKind.u64.wrap (IntKind.u64.wrap ((N : Int) * 4294967296) + (D : Int)) - IntKind.u64.wrap ((T : Int) * (Y : Int))) = (R : Int) := by
  unfold LB at hR
  have h1 : (T : Int) * (Y : Int) = ((T * Y : Nat) : Int) := by rw [Int.natCast_mul]
  rw [h1]
  generalize T * Y = B at *
  exact wrap_less _ _ _ _ (by omega) (by omega) (by omega)

theorem step_facts' {q r Y0 D : Nat} {qi ri Y0i Di : Int} (e1 : qi = (q : Int)) (e2 : ri = (r : Int)) (e3 : Y0i = (Y0 : Int)) (e4 : Di = (D : Int)) (hq : q < 4294967296) (hr : r < 4294967296) (hY0 : Y0 < 4294967296) (hD : D < 4294967296) :
    ∃ m a b : Int, IntKind.u64.wrap (qi * Y0i) = m ∧ IntKind.u64.wrap (4294967296 * ri) = a ∧ IntKind.u64.wrap (a + Di) = b ∧ (b < m ↔ 4294967296 * r + D < q * Y0) := by
  obtain ⟨m, a, b, h1, h2, h3, h4⟩ := step_facts q r Y0 D hq hr hY0 hD
  subst e1 e2 e3 e4
  exact ⟨m, a, b, h1, h2, h3, by rw [← h4]; omega⟩

/-- One round of a step's loop, as the walk meets it. -/
theorem div_round {Y1 Y0 N D T : Nat} {Y1i Y0i Di Ti qi ri : Int} (hY1i : Y1i = (Y1 : Int)) (hY0i : Y0i = (Y0 : Int)) (hDi : Di = (D : Int)) (hTi : Ti = (T : Int))
    (hY1 : 2147483648 ≤ Y1) (hY1' : Y1 < 4294967296) (hY0 : Y0 < 4294967296) (hD : D < 4294967296) (hN : N < Y1 * 4294967296 + Y0) (hT : T = (N * 4294967296 + D) / (Y1 * 4294967296 + Y0))
    (hinv : ∃ q r : Nat, qi = q ∧ ri = r ∧ Knuth.Inv Y1 Y0 N D q r) :
    (4294967296 ≤ qi ∧ ∃ pi r' : Int, IntKind.u64.wrap (qi - 1) = pi ∧ IntKind.u64.wrap (ri + Y1i) = r' ∧ Hid (0 ≤ r') ∧
      Hid ((r' < 4294967296 → Hid (∃ q r : Nat, pi = q ∧ r' = r ∧ Knuth.Inv Y1 Y0 N D q r) ∧ pi.toNat < qi.toNat) ∧ (¬ r' < 4294967296 → pi = Ti))) ∨
    (¬ 4294967296 ≤ qi ∧ ∃ m a b : Int, IntKind.u64.wrap (qi * Y0i) = m ∧ IntKind.u64.wrap (4294967296 * ri) = a ∧ IntKind.u64.wrap (a + Di) = b ∧ b < m ∧ ∃ pi r' : Int, IntKind.u64.wrap (qi - 1) = pi ∧ IntKind.u64.wrap (ri + Y1i) = r' ∧ Hid (0 ≤ r') ∧
      Hid ((r' < 4294967296 → Hid (∃ q r : Nat, pi = q ∧ r' = r ∧ Knuth.Inv Y1 Y0 N D q r) ∧ pi.toNat < qi.toNat) ∧ (¬ r' < 4294967296 → pi = Ti))) ∨
    (¬ 4294967296 ≤ qi ∧ ∃ m a b : Int, IntKind.u64.wrap (qi * Y0i) = m ∧ IntKind.u64.wrap (4294967296 * ri) = a ∧ IntKind.u64.wrap (a + Di) = b ∧ ¬ b < m ∧ qi = Ti) := by
  obtain ⟨q, r, rfl, rfl, hI⟩ := hinv
  have hr := hI.rlt
  have hup := up_fact r Y1 hr hY1'
  rw [← hY1i] at hup
  have next : (N * 4294967296 + D) / (Y1 * 4294967296 + Y0) < q → ∃ pi r' : Int, IntKind.u64.wrap ((q : Int) - 1) = pi ∧ IntKind.u64.wrap ((r : Int) + Y1i) = r' ∧ Hid (0 ≤ r') ∧
      Hid ((r' < 4294967296 → Hid (∃ q r : Nat, pi = q ∧ r' = r ∧ Knuth.Inv Y1 Y0 N D q r) ∧ pi.toNat < (q : Int).toNat) ∧ (¬ r' < 4294967296 → pi = Ti)) := by
    intro ha
    have hpos := Nat.lt_of_le_of_lt (Nat.zero_le _) ha
    refine ⟨_, _, down_fact q hpos hI.le, hup, by show (0 : Int) ≤ _; omega, fun h => ⟨⟨_, _, rfl, rfl, hI.next ha (by omega)⟩, by omega⟩, fun h => ?_⟩
    rw [hTi, hT, hI.stop (by omega) hY0 ha (by omega)]
  rcases Nat.lt_or_ge q 4294967296 with hq | hq
  · right
    obtain ⟨m, a, b, h1, h2, h3, h4⟩ := step_facts' (q := q) (r := r) rfl rfl hY0i hDi hq hr hY0 hD
    by_cases hbm : b < m
    · exact .inl ⟨by omega, m, a, b, h1, h2, h3, hbm, next (Knuth.above2 (by omega) hI.split (h4.1 hbm))⟩
    · refine .inr ⟨by omega, m, a, b, h1, h2, h3, hbm, ?_⟩
      rw [hTi, hT, hI.done (by omega) (fun h => hbm (h4.2 h))]
  · exact .inl ⟨by omega, next (Knuth.above1 hN hD hq)⟩
end

section
open Go.RowKit

theorem grownBy_drewN {w wr : World} {r : Option Nat} (h : w.grownBy wr r) (m : Nat) : w.grownBy (wr.drewN m) r := ⟨h.os, h.tape, h.output, h.size, h.block⟩

/-- A row of the call's own: one of its cells is set. -/
theorem Own.set_ {w : World} {base e n c g i : Nat} {k : IntKind} {l : List Nat} (h : Own w base e k (some ⟨g, 0, none⟩) n c l) (_hi : i < n) (x : Nat) : Own (w.setCell ⟨g, i, none⟩ (.int k (x : Int))) base e k (some ⟨g, 0, none⟩) n c (l.set i x) := by
  refine ⟨by rw [← ints_set, List.length_set]; exact h.1, ?_⟩
  rcases h.2 with ⟨hv, h0⟩ | ⟨g', cap, cur, hv, hg, hh, h1, h2, h3, h4⟩
  · injection hv with h1
    cases h1
  · injection hv with e1 _ e3
    injection e1 with e1
    injection e1 with e1
    subst e1 e3
    refine .inr ⟨g, c, cur.setIfInBounds i (.int k (x : Int)), rfl, hg, ?_, h1, h2, by simpa using h3, ?_⟩
    · simp [World.setCell, Array.getElem?_modify, hh]
    · rw [← ints_set, ← h4]
      simp [List.take_set]
theorem Own.take {w : World} {base e n c g m : Nat} {k : IntKind} {l : List Nat} (h : Own w base e k (some ⟨g, 0, none⟩) n c l) (hm : m ≤ n) : Own w base e k (some ⟨g, 0, none⟩) m c (l.take m) := by
  have hl := h.len
  refine ⟨by rw [ints_length, List.length_take]; omega, ?_⟩
  rcases h.2 with ⟨hv, h0⟩ | ⟨g', cap, cur, hv, hg, hh, h1, h2, h3, h4⟩
  · injection hv with h1
    cases h1
  · injection hv with e1 _ e3
    injection e1 with e1
    injection e1 with e1
    subst e1 e3
    refine .inr ⟨g, c, cur, rfl, hg, hh, by omega, h2, h3, ?_⟩
    have : ints k (l.take m) = (ints k l).take m := by simp [ints, List.map_take]
    rw [this, ← h4, List.take_take]
    congr 1
    omega
theorem Own.drewN {w : World} {base e n c : Nat} {k : IntKind} {A : Option Addr} {l : List Nat} (h : Own w base e k A n c l) (m : Nat) : Own (w.drewN m) base e k A n c l := h
theorem Own.cellAt {w : World} {base e n c g i : Nat} {k : IntKind} {l : List Nat} (h : Own w base e k (some ⟨g, 0, none⟩) n c l) (hi : i < n) : w.cell? ⟨g, i, none⟩ = some (.int k ((Dig.at_ l i : Nat) : Int)) ∧ w.frozen? ⟨g, i, none⟩ = false := by
  obtain ⟨ad, e1, _, hc⟩ := h.row.at_ hi
  injection e1 with e1
  subst e1
  have e2 : (⟨g, 0, none⟩ : Addr).add i = ⟨g, i, none⟩ := by unfold Addr.add; split <;> simp_all
  rw [e2] at hc
  refine ⟨hc, ?_⟩
  rcases h.2 with ⟨hv, h0⟩ | ⟨g', cap, cur, hv, hg, hh, _⟩
  · injection hv with h1
    cases h1
  · injection hv with e1 _ e3
    injection e1 with e1
    injection e1 with e1
    subst e1
    simp [World.frozen?, hh]

/-- A row divided by a number: the quotient's row, and what is left over. -/
def dvd (y : Nat) : List Nat → List Nat × Nat
  | [] => ([], 0)
  | x :: r => (((dvd y r).2 * LB + x) / y :: (dvd y r).1, ((dvd y r).2 * LB + x) % y)
theorem dvd_length (y : Nat) (l : List Nat) : (dvd y l).1.length = l.length := by
  induction l with
  | nil => rfl
  | cons x r ih => simp [dvd, ih]
theorem dvd_lt {y : Nat} (hy : 0 < y) (l : List Nat) : (dvd y l).2 < y := by
  cases l with
  | nil => exact hy
  | cons x r => exact Nat.mod_lt _ hy
theorem dvd_below {y : Nat} (hy : 0 < y) {l : List Nat} (bl : Dig.Below LB l) : Dig.Below LB (dvd y l).1 := by
  induction l with
  | nil => exact Dig.Below.nil _
  | cons x r ih =>
    refine Dig.Below.cons ?_ (ih bl.tail)
    rw [Nat.div_lt_iff_lt_mul hy]
    have h1 := dvd_lt hy r
    have h2 := bl.head
    have h3 : ((dvd y r).2 + 1) * LB ≤ y * LB := Nat.mul_le_mul_right _ h1
    rw [Nat.add_mul, Nat.one_mul] at h3
    rw [Nat.mul_comm LB]
    omega
theorem dvd_val {y : Nat} (l : List Nat) : Dig.val LB l = y * Dig.val LB (dvd y l).1 + (dvd y l).2 := by
  induction l with
  | nil => simp [dvd, Dig.val]
  | cons x r ih =>
    have h := Nat.div_add_mod ((dvd y r).2 * LB + x) y
    show x + LB * Dig.val LB r = y * (((dvd y r).2 * LB + x) / y + LB * Dig.val LB (dvd y r).1) + ((dvd y r).2 * LB + x) % y
    rw [ih, Nat.mul_add, Nat.mul_add, Nat.mul_left_comm LB y, Nat.mul_comm LB (dvd y r).2]
    omega
theorem dvd_div {y : Nat} (hy : 0 < y) (l : List Nat) : Dig.val LB (dvd y l).1 = Dig.val LB l / y ∧ (dvd y l).2 = Dig.val LB l % y := by
  have h := dvd_val (y := y) l
  have h2 := dvd_lt hy l
  rw [h]
  refine ⟨?_, ?_⟩
  · rw [Nat.mul_add_div hy, Nat.div_eq_of_lt h2]; rfl
  · rw [Nat.mul_add_mod, Nat.mod_eq_of_lt h2]

/-- Where the loop stands at place j: above it all is done. -/
theorem dvd_at {y j : Nat} {l : List Nat} (hj : j < l.length) : (l.take (j + 1) ++ (dvd y (l.drop (j + 1))).1).set j (((dvd y (l.drop (j + 1))).2 * LB + Dig.at_ l j) / y) = l.take j ++ (dvd y (l.drop j)).1 := by
  rw [← List.getElem_cons_drop hj, List.take_succ_eq_append_getElem hj, List.append_assoc, List.set_append_right _ _ (by rw [List.length_take]; omega), List.length_take, Nat.min_eq_left (by omega), Nat.sub_self, Dig.at_lt hj]
  rfl
theorem dvd_rest {y j : Nat} {l : List Nat} (hj : j < l.length) : ((dvd y (l.drop (j + 1))).2 * LB + Dig.at_ l j) % y = (dvd y (l.drop j)).2 := by
  rw [← List.getElem_cons_drop hj, Dig.at_lt hj]
  rfl
theorem dvd_cell {y j : Nat} {l : List Nat} (hj : j < l.length) : Dig.at_ (l.take (j + 1) ++ (dvd y (l.drop (j + 1))).1) j = Dig.at_ l j := by
  have h1 : j < (l.take (j + 1) ++ (dvd y (l.drop (j + 1))).1).length := by simp; omega
  rw [Dig.at_lt h1, Dig.at_lt hj, List.getElem_append_left (by rw [List.length_take]; omega)]
  simp
end

section
open Go.RowKit

theorem below_grown {base g : Nat} {w w' : World} (h : w.grownBy w' (some g)) (hb : base ≤ g) (hw : base ≤ w.heap.size) : Below base w w' :=
  (Below.refl _ _).grown h hw (fun k hk => by injection hk with hk; omega)
end

section
open Go.RowKit

theorem leavesD_steps {P : Program} {fn : Func} {tmps : Array Value} {R : Ending → World → Prop} : ∀ (ds : List Deferred) (u : FrameMode) (w : World) (fr : Frame)
    (cs : List Frame), fr.mode = u → fr.defers = ds → fr.tmps = tmps → P.funcs[fr.fn]? = some fn → fr.kind = .deferred → Leaves P fn tmps R ds u w →
    ∃ e w' fr', R e w' ∧ Comes P (lone fr cs w) (lone fr' cs w') e ∧ fr'.kind = .deferred ∧ fr'.going P w' e := by
  intro ds
  induction ds with
  | nil =>
    intro u w fr cs hu hd ht hf hk h
    cases u with
    | run => exact h.elim
    | returning =>
      obtain ⟨v, hr, hR⟩ := h
      exact ⟨.returned v, w, fr, hR, Steps.refl P _, hk, hu, hd, fn, hf, ht ▸ hr⟩
    | panicking chain => exact ⟨.panicked chain, w, fr, h, Steps.refl P _, hk, hu, hd, fn, hf⟩
  | cons d ds ih =>
    intro u w fr cs hu hd ht hf hk h
    obtain ⟨hrun, fv, cap, f, args, htar, hinv, hcall⟩ := h
    have h1 := step_defer (cs := cs) (hu ▸ hrun) hd htar hinv
    obtain ⟨e, u', w', frX, hR, hsteps, hkX, hgo⟩ := hcall { fr with defers := ds } cs hu
    cases e with
    | returned v =>
      have h2 := step_going_returned (c := { { fr with defers := ds } with mode := u' }) (cs := cs) hkX hgo
      obtain ⟨e', w'', fr', hR', hs', hfn', hl'⟩ := ih (settle u') w' { { { fr with defers := ds } with mode := u' } with mode := settle u' } cs rfl rfl ht hf hk hR
      exact ⟨e', w'', fr', hR', Comes.of_steps (.head h1 (Steps.trans hsteps (.one h2))) hs', hfn', hl'⟩
    | panicked chain =>
      have h2 := step_going_panicked (c := { { fr with defers := ds } with mode := u' }) (cs := cs) hgo
      obtain ⟨e', w'', fr', hR', hs', hfn', hl'⟩ := ih (raised u' chain) w' { { { fr with defers := ds } with mode := u' } with mode := raised u' chain } cs rfl rfl ht hf hk hR
      exact ⟨e', w'', fr', hR', Comes.of_steps (.head h1 (Steps.trans hsteps (.one h2))) hs', hfn', hl'⟩
    | outgrown => exact ⟨.outgrown, w', fr, hR, Outgrown.of_steps (.one h1) hsteps, hk, trivial⟩

/-- A deferred function that has deferred calls of its own. -/
theorem callsD_of_wp_defers {P : Program} {f : FuncId} {fn : Func} {c : Code} {args : Array Value} {u : FrameMode} {w : World} {R : Ending → World → Prop}
    (hf : P.funcs[f]? = some fn) (hb : fn.body = some c)
    (h : c.wp P (bodyPostD P fn R) { tmps := args ++ Array.replicate (fn.ntmps - args.size) undef, defers := [] } w) :
    CallsD P f args u w fun e u' w' => u' = u ∧ R e w' := by
  intro c₀ cs hu
  let b : Frame := { (default : Frame) with fn := f, kind := .deferred }
  have henter : Frame.enter P f args .deferred =
      b.at { tmps := args ++ Array.replicate (fn.ntmps - args.size) undef, defers := [] } [.code c] := by
    simp [Frame.enter, Frame.at, hf, hb, b]
  have hc : ({ c₀ with mode := u } : Frame) = c₀ := by subst hu; rfl
  obtain ⟨e, a', w', hq, harr⟩ := h b [] (c₀ :: cs)
  rw [← henter] at harr
  cases e with
  | normal =>
    obtain ⟨e', w'', fr', hR, hs, hk, hl⟩ := leavesD_steps a'.defers .returning w' { b.at a' [] with mode := .returning } (c₀ :: cs) rfl rfl rfl hf rfl hq
    exact ⟨e', u, w'', fr', ⟨rfl, hR⟩, (by rw [hc]; exact Comes.of_steps (Steps.trans harr (.one step_end)) hs), hk, hl⟩
  | ret =>
    obtain ⟨todo, hs₀⟩ := harr
    obtain ⟨e', w'', fr', hR, hs, hk, hl⟩ := leavesD_steps a'.defers .returning w' { b.at a' todo with mode := .returning } (c₀ :: cs) rfl rfl rfl hf rfl hq
    exact ⟨e', u, w'', fr', ⟨rfl, hR⟩, (by rw [hc]; exact Comes.of_steps hs₀ hs), hk, hl⟩
  | panic chain =>
    obtain ⟨todo, hs₀⟩ := harr
    obtain ⟨e', w'', fr', hR, hs, hk, hl⟩ := leavesD_steps a'.defers (.panicking chain) w' { b.at a' todo with mode := .panicking chain } (c₀ :: cs) rfl rfl rfl hf rfl hq
    exact ⟨e', u, w'', fr', ⟨rfl, hR⟩, (by rw [hc]; exact Comes.of_steps hs₀ hs), hk, hl⟩
  | exit id => exact hq.elim
  | goto l => exact hq.elim
  | outgrown => exact ⟨.outgrown, u, w', b, ⟨rfl, hq⟩, harr.resolve_left (by simp [b]), rfl, trivial⟩

theorem infoByte : (Tryd.prog.info? 5).map (fun i => (i.zero, i.size, i.bytes)) = some (some (.int .u8 0), 1, 1) := by kernel_rfl
end

section
open Go.RowKit

/-- The j digits at the right, the last one behind. -/
def digs (x : Nat) : Nat → List UInt8
  | 0 => []
  | j + 1 => UInt8.ofNat (48 + x / 10 ^ j % 10) :: digs x j
theorem digs_length (x j : Nat) : (digs x j).length = j := by induction j with | zero => rfl | succ j ih => simp [digs, ih]

theorem put_facts (x j : Nat) (hx : x < LB) : ∃ d : UInt8, d = UInt8.ofNat (48 + x / 10 ^ j % 10) ∧ 48 + ((x / 10 ^ j : Nat) : Int) % 10 = (d.toNat : Int) ∧ IntKind.u64.wrap (((x / 10 ^ j : Nat) : Int).tdiv 10) = ((x / 10 ^ (j + 1) : Nat) : Int) := by
  have h1 := Nat.div_le_self x (10 ^ j)
  refine ⟨_, rfl, ?_, ?_⟩
  · have e : (UInt8.ofNat (48 + x / 10 ^ j % 10)).toNat = 48 + x / 10 ^ j % 10 := by
      simp only [UInt8.toNat_ofNat']
      omega
    rw [e]
    omega
  · rw [Nat.pow_succ, ← Nat.div_div_eq_div_mul]
    generalize x / 10 ^ j = y at *
    exact wrapN (y / 10) (by omega)
end

section
open Go.RowKit

/-- 10 to the 19: what a row of digits counts up to. -/
def TT : Nat := 10000000000000000000
theorem TT_eq : TT = 10 ^ 19 := by unfold TT; rfl
theorem TT_pos : 0 < TT := by unfold TT; omega
theorem TT_lt : TT < LB := by unfold TT LB; omega

theorem digs_eq (x j : Nat) : digs x j = (List.range j).map fun t => Lib.dg x (j - 1 - t) := by
  induction j with
  | zero => rfl
  | succ j ih =>
    rw [List.range_succ_eq_map, List.map_cons, List.map_map]
    show UInt8.ofNat (48 + x / 10 ^ j % 10) :: digs x j = _
    rw [ih]
    congr 1
    refine List.map_congr_left fun t ht => ?_
    have : t < j := List.mem_range.1 ht
    simp only [Function.comp]
    rw [show j + 1 - 1 - t.succ = j - 1 - t by omega]
theorem digs_dec (x : Nat) : digs x (Lib.nDigits x) = Lib.decDigits x := by rw [digs_eq, Lib.decDigits_eq]
theorem pow_nDigits_le (x : Nat) (h : 0 < x) : 10 ^ (Lib.nDigits x - 1) ≤ x := by
  induction x using Nat.strongRecOn with
  | _ x ih =>
    by_cases h1 : x < 10
    · rw [Lib.nDigits_small h1]; exact h
    · rw [Lib.nDigits_big h1]
      have h2 := ih (x / 10) (by omega) (by omega)
      have h3 := Lib.nDigits_pos (x / 10)
      rw [Nat.add_sub_cancel, show Lib.nDigits (x / 10) = Lib.nDigits (x / 10) - 1 + 1 by omega, Nat.pow_succ]
      omega
theorem nDigits_iff (x j : Nat) : j < Lib.nDigits x ↔ ((j : Int) < 1 ∨ 0 < x / 10 ^ j) := by
  rw [Nat.div_pos_iff]
  have h1 := Lib.lt_pow_nDigits x
  have h2 := Lib.nDigits_pos x
  have hp := Nat.pow_pos (a := 10) (n := j) (by omega)
  constructor
  · intro h
    rcases Nat.eq_zero_or_pos j with h0 | h0
    · left; omega
    · right
      refine ⟨hp, ?_⟩
      have hx : 0 < x := by
        rcases Nat.eq_zero_or_pos x with hx | hx
        · subst hx
          rw [Lib.nDigits_small (by omega)] at h
          omega
        · exact hx
      exact Nat.le_trans (Nat.pow_le_pow_right (by omega) (by omega)) (pow_nDigits_le x hx)
  · rintro (h | ⟨_, h⟩)
    · omega
    · exact (Nat.pow_lt_pow_iff_right (a := 10) (by omega)).1 (Nat.lt_of_le_of_lt h h1)
theorem nDigits_le (x : Nat) (h : x < LB) : Lib.nDigits x ≤ 20 := by
  rcases Nat.lt_or_ge 20 (Lib.nDigits x) with h1 | h1
  · have := (nDigits_iff x 20).1 h1
    rcases this with h2 | h2
    · omega
    · rw [Nat.div_pos_iff] at h2
      have h3 : (10 : Nat) ^ 20 = 100000000000000000000 := by decide
      unfold LB at h
      omega
  · exact h1
theorem row_iff (x j : Nat) (h : x < TT) : j < 19 ↔ ((j : Int) < 19 ∨ 0 < x / 10 ^ j) := by
  constructor
  · intro h; left; omega
  · rintro (h1 | h1)
    · omega
    · rcases Nat.lt_or_ge j 19 with h2 | h2
      · exact h2
      · rw [Nat.div_pos_iff] at h1
        have h3 : 10 ^ 19 ≤ 10 ^ j := Nat.pow_le_pow_right (by omega) h2
        rw [← TT_eq] at h3
        omega

theorem dec_split (M : Nat) : ∀ j, 1 ≤ M / 10 ^ j → Lib.decDigits M = Lib.decDigits (M / 10 ^ j) ++ digs M j := by
  intro j
  induction j with
  | zero => intro _; simp [digs]
  | succ j ih =>
    intro h
    rw [Nat.pow_succ, ← Nat.div_div_eq_div_mul] at h ⊢
    rw [ih (by omega)]
    have e : Lib.decDigits (M / 10 ^ j) = Lib.decDigits (M / 10 ^ j / 10) ++ [UInt8.ofNat (48 + M / 10 ^ j % 10)] := by
      rw [Lib.decDigits, dif_neg (by omega)]
    rw [e, List.append_assoc]
    rfl
theorem digs_mod (M : Nat) : ∀ j k, j ≤ k → digs M j = digs (M % 10 ^ k) j := by
  intro j
  induction j with
  | zero => intro k _; rfl
  | succ j ih =>
    intro k h
    show UInt8.ofNat (48 + M / 10 ^ j % 10) :: digs M j = UInt8.ofNat (48 + M % 10 ^ k / 10 ^ j % 10) :: digs (M % 10 ^ k) j
    rw [← ih k (by omega)]
    congr 3
    have e : (10 : Nat) ^ k = 10 ^ j * 10 ^ (k - j) := by rw [← Nat.pow_add, show j + (k - j) = k by omega]
    rw [e, Nat.mod_mul_right_div_self]
    obtain ⟨d, hd⟩ : ∃ d, k - j = d + 1 := ⟨k - j - 1, by omega⟩
    rw [hd, Nat.pow_succ, Nat.mul_comm, Nat.mod_mul_right_mod]

/-- The number without its k lowest rows; those rows, the highest first. -/
def mdiv (N : Nat) : Nat → Nat
  | 0 => N
  | k + 1 => mdiv N k / TT
def rowsL (N : Nat) : Nat → List Nat
  | 0 => []
  | k + 1 => mdiv N k % TT :: rowsL N k
theorem rowsL_length (N k : Nat) : (rowsL N k).length = k := by induction k with | zero => rfl | succ k ih => simp [rowsL, ih]
theorem rowsL_lt (N k : Nat) : ∀ r ∈ rowsL N k, r < TT := by
  induction k with
  | zero => intro r h; cases h
  | succ k ih =>
    intro r h
    rcases List.mem_cons.1 h with rfl | h
    · exact Nat.mod_lt _ TT_pos
    · exact ih r h
theorem rows_text (N : Nat) : ∀ k, (k = 0 ∨ 1 ≤ mdiv N k) → Lib.decDigits N = Lib.decDigits (mdiv N k) ++ (rowsL N k).flatMap fun r => digs r 19 := by
  intro k
  induction k with
  | zero => intro _; simp [mdiv, rowsL]
  | succ k ih =>
    intro h
    have h1 : 1 ≤ mdiv N k / TT := by rcases h with h | h; cases h; exact h
    have h2 : 1 ≤ mdiv N k := by have := Nat.div_le_self (mdiv N k) TT; omega
    rw [ih (.inr h2), dec_split (mdiv N k) 19 (by rw [← TT_eq]; exact h1), digs_mod (mdiv N k) 19 19 (Nat.le_refl _), ← TT_eq, List.append_assoc]
    rfl
theorem mdiv_eq (N k : Nat) : mdiv N k = N / TT ^ k := by
  induction k with
  | zero => simp [mdiv]
  | succ k ih => rw [mdiv, ih, Nat.div_div_eq_div_mul, Nat.pow_succ]
end

section
open Go.RowKit

/-- Where the rows' loop stands. -/
structure RowsAt (b N : Nat) (w : World) (k : Nat) (A : Option Addr) (n c : Nat) (wr : World) : Prop where
  own : ∃ l, Own wr (b + 1) 78 .u64 A n c l ∧ Dig.Below LB l ∧ Dig.val LB l = mdiv N k
  more : k = 0 ∨ 1 ≤ mdiv N k
  len : n ≤ 1000000000000
  below : Below (b + 1) w wr

theorem rows_next {b N k n c j : Nat} {w w1 : World} {A : Option Addr} {q : List Nat} (hown : Own w1 (b + 1) 78 .u64 A n c q) (bq : Dig.Below LB q) (hq : Dig.val LB q = mdiv N (k + 1)) (hj : j < n) (hn : n ≤ 1000000000000) (hst : Dig.nrm (q.take (j + 1)) = Dig.nrm q) (hz : Dig.at_ q j ≠ 0) (hb : Below (b + 1) w w1) :
    RowsAt b N w (k + 1) A (j + 1) c w1 := by
  have hl := hown.len
  have hv : Dig.val LB (q.take (j + 1)) = mdiv N (k + 1) := by rw [← hq, ← Dig.val_nrm LB (q.take (j + 1)), hst, Dig.val_nrm]
  have hnorm : Dig.Norm (q.take (j + 1)) := nrm_take_stop q j (by omega) hz
  have hpos := Dig.norm_pos (b := LB) hnorm (by rw [List.length_take]; omega)
  have h1 : 1 ≤ LB ^ ((q.take (j + 1)).length - 1) := Nat.one_le_pow _ _ LB_pos
  refine ⟨⟨q.take (j + 1), ?_, bq.take _, hv⟩, .inr (by omega), by omega, hb⟩
  rcases hown.2 with ⟨hv, h0⟩ | ⟨g, cap, cur, hv, _⟩
  · omega
  · injection hv with e1 _ _
    subst e1
    exact hown.take (by omega)

theorem mdiv_bound {N n : Nat} (h : N < LB ^ n) (hn : n ≤ 1000) : ∀ k, 1 ≤ mdiv N k → k ≤ 1000000 := by
  intro k hk
  rw [mdiv_eq, Nat.succ_le_iff, Nat.div_pos_iff] at hk
  have h1 : LB ^ n ≤ (TT ^ 2) ^ n := Nat.pow_le_pow_left (by unfold LB TT; omega) n
  rw [← Nat.pow_mul] at h1
  have h2 : TT ^ k < TT ^ (2 * n) := Nat.lt_of_le_of_lt hk.2 (Nat.lt_of_lt_of_le h h1)
  have h3 := (Nat.pow_lt_pow_iff_right (a := TT) (by unfold TT; omega)).1 h2
  omega
theorem nDigits_lt {N n : Nat} (h : N < LB ^ n) (hn : n ≤ 1000) : Lib.nDigits N ≤ 1000000 := by
  rcases Nat.lt_or_ge 1000000 (Lib.nDigits N) with h1 | h1
  · have h2 := (nDigits_iff N 1000000).1 h1
    rcases h2 with h2 | h2
    · omega
    · rw [Nat.div_pos_iff] at h2
      have h3 : LB ^ n ≤ (10 ^ 20) ^ n := Nat.pow_le_pow_left (by unfold LB; decide) n
      rw [← Nat.pow_mul] at h3
      have h4 := (Nat.pow_lt_pow_iff_right (a := 10) (by omega)).1 (Nat.lt_of_le_of_lt h2.2 (Nat.lt_of_lt_of_le h h3))
      omega
  · exact h1
theorem size_list (l : List UInt8) : (⟨l.toArray⟩ : ByteArray).size = l.length := by simp [ByteArray.size]
end
end Go.Proofs.YtijliimiojjjdaaDoor
