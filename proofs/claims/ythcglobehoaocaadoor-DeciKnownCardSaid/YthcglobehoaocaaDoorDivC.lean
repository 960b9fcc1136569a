/- The contract of bits.Div64, whole; deci's divide and Div. -/
import Derived.Test.YthcglobehoaocaaDoorDivB
namespace Go.Proofs.YthcglobehoaocaaDoor
open Go.RowKit

theorem div64_pos (hi lo y : Nat) (w : World) (hy : y < LB) (hlo : lo < LB) (h : hi < y) (h0 : 0 < hi) :
    Calls Tryd.prog 55 #[.int .u64 hi, .int .u64 lo, .int .u64 y] w fun e w' => e = .returned (.tuple #[.int .u64 (((hi * LB + lo) / y : Nat) : Int), .int .u64 (((hi * LB + lo) % y : Nat) : Int)]) ∧ w = w' := by
  obtain ⟨b1, b2, b3⟩ := lz_bounds y (by omega) hy
  have hs := lz_le y
  have hpow : ((2 : Int) ^ lz y) = ((2 ^ lz y : Nat) : Int) := by rw [Int.natCast_pow]; rfl
  have hpow2 : ((2 : Int) ^ (64 - lz y)) = ((2 ^ (64 - lz y) : Nat) : Int) := by rw [Int.natCast_pow]; rfl
  have htop := Knuth.top_lt hi lo y (lz y) hs hlo h
  have hall := Knuth.all hi lo y (lz y) hs (by omega) (hi * 2 ^ lz y + lo / 2 ^ (64 - lz y)) _ _ rfl rfl rfl
  have hl2 : lo / 2 ^ (64 - lz y) < 2 ^ lz y := by
    rw [Nat.div_lt_iff_lt_mul (Nat.two_pow_pos _), ← Nat.pow_add, show lz y + (64 - lz y) = 64 by omega]
    exact hlo
  have hlt := Nat.lt_trans htop b2
  have e4 := or_sum hi (lo / 2 ^ (64 - lz y)) (lz y) hl2 hlt
  have hN := wrapN (hi * 2 ^ lz y) (Nat.lt_of_le_of_lt (Nat.le_add_right _ _) hlt)
  have hq := div64_core hi lo y (lz y) (y * 2 ^ lz y) (hi * 2 ^ lz y + lo / 2 ^ (64 - lz y)) (lo * 2 ^ lz y % 18446744073709551616) (y * 2 ^ lz y / 4294967296) (y * 2 ^ lz y % 4294967296) (lo * 2 ^ lz y % 18446744073709551616 / 4294967296) (lo * 2 ^ lz y % 18446744073709551616 % 4294967296) _ _ _ _ w h h0 b3 (fun w => leading y hy w)
    (by rw [hpow, ← Int.natCast_mul]; exact wrapN _ b2) (by rw [Int.natCast_ediv]; rfl) (and_low _ b2) (by rw [hpow, hpow2, ← Int.natCast_mul, hN, ← Int.natCast_ediv]; exact e4)
    (by rw [hpow, ← Int.natCast_mul]; exact wrapM _) (by rw [Int.natCast_ediv]; rfl) (and_low _ (by unfold LB; exact Nat.mod_lt _ (by omega)))
    (by omega) (by unfold LB at b2; omega) (Nat.mod_lt _ (by omega)) (by have := Nat.mod_lt (lo * 2 ^ lz y) (show 0 < 18446744073709551616 by omega); omega) (Nat.mod_lt _ (by omega)) (by omega) (by omega) rfl rfl rfl rfl
  rw [hall.1, hall.2] at hq
  exact hq

set_option maxHeartbeats 400000 in
theorem div64_zero (lo y : Nat) (w : World) (hlo : lo < LB) (h : 0 < y) :
    Calls Tryd.prog 55 #[.int .u64 0, .int .u64 lo, .int .u64 y] w fun e w' => e = .returned (.tuple #[.int .u64 ((lo / y : Nat) : Int), .int .u64 ((lo % y : Nat) : Int)]) ∧ ∃ m, w' = w.drewN m := by
  obtain ⟨li, hli⟩ : ∃ x : Int, x = (lo : Int) := ⟨_, rfl⟩
  obtain ⟨yi, hyi⟩ : ∃ x : Int, x = (y : Int) := ⟨_, rfl⟩
  have hz : ¬ yi = 0 := by omega
  have hz2 : ¬ yi ≤ 0 := by omega
  have h1 : IntKind.u64.wrap (li.tdiv yi) = ((lo / y : Nat) : Int) := by rw [hli, hyi]; exact wrapN (lo / y) (by have := Nat.div_le_self lo y; omega)
  have h2 : li.tmod yi = ((lo % y : Nat) : Int) := by rw [hli, hyi]; rfl
  rw [← hli, ← hyi]
  obtain ⟨a, ha⟩ : ∃ x : Int, x = ((lo / y : Nat) : Int) := ⟨_, rfl⟩
  obtain ⟨b, hb⟩ : ∃ x : Int, x = ((lo % y : Nat) : Int) := ⟨_, rfl⟩
  rw [← ha] at h1 ⊢
  rw [← hb] at h2 ⊢
  clear ha hb hli hyi hlo h
  go_enter Tryd.func55, Tryd.ntmps55
  go_wp2_with fail
  go_region
  go_wp2_with fail
  go_ret2
  exact ⟨rfl, 1, rfl⟩

theorem div64 (hi lo y : Nat) (w : World) (hy : y < LB) (hlo : lo < LB) (h : hi < y) :
    Calls Tryd.prog 55 #[.int .u64 hi, .int .u64 lo, .int .u64 y] w fun e w' => e = .returned (.tuple #[.int .u64 (((hi * LB + lo) / y : Nat) : Int), .int .u64 (((hi * LB + lo) % y : Nat) : Int)]) ∧ ∃ m, w' = w.drewN m := by
  rcases Nat.eq_zero_or_pos hi with h0 | h0
  · subst h0
    rw [Nat.zero_mul, Nat.zero_add]
    exact div64_zero lo y w hlo h
  · exact (div64_pos hi lo y w hy hlo h h0).mono fun e w' ⟨he, hw⟩ => ⟨he, 0, hw.symm⟩

theorem grownBy_drewN {w wr : World} {r : Option Nat} (h : w.grownBy wr r) (m : Nat) : w.grownBy (wr.drewN m) r := ⟨h.os, h.tape, h.output, h.size, h.block⟩

/-- A row of the call's own: one of its cells is set. -/
theorem Own.set_ {w : World} {base e n c g i : Nat} {k : IntKind} {l : List Nat} (h : Own w base e k (some ⟨g, 0, none⟩) n c l) (_hi : i < n) (x : Nat) : Own (w.setCell ⟨g, i, none⟩ (.int k (x : Int))) base e k (some ⟨g, 0, none⟩) n c (l.set i x) := by
  refine ⟨by rw [← ints_set, List.length_set]; exact h.1, ?_⟩
  rcases h.2 with ⟨hv, h0⟩ | ⟨g', cap, cur, hv, hg, hh, h1, h2, h3, h4⟩
  · injection hv with h1
    cases h1
  · injection hv with e1 _ e3
    injection e1 with e1
    injection e1 with e1
    subst e1 e3
    refine .inr ⟨g, c, cur.setIfInBounds i (.int k (x : Int)), rfl, hg, ?_, h1, h2, by simpa using h3, ?_⟩
    · simp [World.setCell, Array.getElem?_modify, hh]
    · rw [← ints_set, ← h4]
      simp [List.take_set]
theorem Own.take {w : World} {base e n c g m : Nat} {k : IntKind} {l : List Nat} (h : Own w base e k (some ⟨g, 0, none⟩) n c l) (hm : m ≤ n) : Own w base e k (some ⟨g, 0, none⟩) m c (l.take m) := by
  have hl := h.len
  refine ⟨by rw [ints_length, List.length_take]; omega, ?_⟩
  rcases h.2 with ⟨hv, h0⟩ | ⟨g', cap, cur, hv, hg, hh, h1, h2, h3, h4⟩
  · injection hv with h1
    cases h1
  · injection hv with e1 _ e3
    injection e1 with e1
    injection e1 with e1
    subst e1 e3
    refine .inr ⟨g, c, cur, rfl, hg, hh, by omega, h2, h3, ?_⟩
    have : ints k (l.take m) = (ints k l).take m := by simp [ints, List.map_take]
    rw [this, ← h4, List.take_take]
    congr 1
    omega
theorem Own.drewN {w : World} {base e n c : Nat} {k : IntKind} {A : Option Addr} {l : List Nat} (h : Own w base e k A n c l) (m : Nat) : Own (w.drewN m) base e k A n c l := h
theorem Own.cellAt {w : World} {base e n c g i : Nat} {k : IntKind} {l : List Nat} (h : Own w base e k (some ⟨g, 0, none⟩) n c l) (hi : i < n) : w.cell? ⟨g, i, none⟩ = some (.int k ((Dig.at_ l i : Nat) : Int)) ∧ w.frozen? ⟨g, i, none⟩ = false := by
  obtain ⟨ad, e1, _, hc⟩ := h.row.at_ hi
  injection e1 with e1
  subst e1
  have e2 : (⟨g, 0, none⟩ : Addr).add i = ⟨g, i, none⟩ := by unfold Addr.add; split <;> simp_all
  rw [e2] at hc
  refine ⟨hc, ?_⟩
  rcases h.2 with ⟨hv, h0⟩ | ⟨g', cap, cur, hv, hg, hh, _⟩
  · injection hv with h1
    cases h1
  · injection hv with e1 _ e3
    injection e1 with e1
    injection e1 with e1
    subst e1
    simp [World.frozen?, hh]

/-- A row divided by a number: the quotient's row, and what is left over. -/
def dvd (y : Nat) : List Nat → List Nat × Nat
  | [] => ([], 0)
  | x :: r => (((dvd y r).2 * LB + x) / y :: (dvd y r).1, ((dvd y r).2 * LB + x) % y)
theorem dvd_length (y : Nat) (l : List Nat) : (dvd y l).1.length = l.length := by
  induction l with
  | nil => rfl
  | cons x r ih => simp [dvd, ih]
theorem dvd_lt {y : Nat} (hy : 0 < y) (l : List Nat) : (dvd y l).2 < y := by
  cases l with
  | nil => exact hy
  | cons x r => exact Nat.mod_lt _ hy
theorem dvd_below {y : Nat} (hy : 0 < y) {l : List Nat} (bl : Dig.Below LB l) : Dig.Below LB (dvd y l).1 := by
  induction l with
  | nil => exact Dig.Below.nil _
  | cons x r ih =>
    refine Dig.Below.cons ?_ (ih bl.tail)
    rw [Nat.div_lt_iff_lt_mul hy]
    have h1 := dvd_lt hy r
    have h2 := bl.head
    have h3 : ((dvd y r).2 + 1) * LB ≤ y * LB := Nat.mul_le_mul_right _ h1
    rw [Nat.add_mul, Nat.one_mul] at h3
    rw [Nat.mul_comm LB]
    omega
theorem dvd_val {y : Nat} (l : List Nat) : Dig.val LB l = y * Dig.val LB (dvd y l).1 + (dvd y l).2 := by
  induction l with
  | nil => simp [dvd, Dig.val]
  | cons x r ih =>
    have h := Nat.div_add_mod ((dvd y r).2 * LB + x) y
    show x + LB * Dig.val LB r = y * (((dvd y r).2 * LB + x) / y + LB * Dig.val LB (dvd y r).1) + ((dvd y r).2 * LB + x) % y
    rw [ih, Nat.mul_add, Nat.mul_add, Nat.mul_left_comm LB y, Nat.mul_comm LB (dvd y r).2]
    omega
theorem dvd_div {y : Nat} (hy : 0 < y) (l : List Nat) : Dig.val LB (dvd y l).1 = Dig.val LB l / y ∧ (dvd y l).2 = Dig.val LB l % y := by
  have h := dvd_val (y := y) l
  have h2 := dvd_lt hy l
  rw [h]
  refine ⟨?_, ?_⟩
  · rw [Nat.mul_add_div hy, Nat.div_eq_of_lt h2]; rfl
  · rw [Nat.mul_add_mod, Nat.mod_eq_of_lt h2]

/-- Where the loop stands at place j: above it all is done. -/
theorem dvd_at {y j : Nat} {l : List Nat} (hj : j < l.length) : (l.take (j + 1) ++ (dvd y (l.drop (j + 1))).1).set j (((dvd y (l.drop (j + 1))).2 * LB + Dig.at_ l j) / y) = l.take j ++ (dvd y (l.drop j)).1 := by
  rw [← List.getElem_cons_drop hj, List.take_succ_eq_append_getElem hj, List.append_assoc, List.set_append_right _ _ (by rw [List.length_take]; omega), List.length_take, Nat.min_eq_left (by omega), Nat.sub_self, Dig.at_lt hj]
  rfl
theorem dvd_rest {y j : Nat} {l : List Nat} (hj : j < l.length) : ((dvd y (l.drop (j + 1))).2 * LB + Dig.at_ l j) % y = (dvd y (l.drop j)).2 := by
  rw [← List.getElem_cons_drop hj, Dig.at_lt hj]
  rfl
theorem dvd_cell {y j : Nat} {l : List Nat} (hj : j < l.length) : Dig.at_ (l.take (j + 1) ++ (dvd y (l.drop (j + 1))).1) j = Dig.at_ l j := by
  have h1 : j < (l.take (j + 1) ++ (dvd y (l.drop (j + 1))).1).length := by simp; omega
  rw [Dig.at_lt h1, Dig.at_lt hj, List.getElem_append_left (by rw [List.length_take]; omega)]
  simp
end Go.Proofs.YthcglobehoaocaaDoor
