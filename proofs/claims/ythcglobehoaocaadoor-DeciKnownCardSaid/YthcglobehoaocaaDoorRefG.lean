/- Plain mathematics of the reference's division, one binary digit behind the other. -/
import Derived.Test.YthcglobehoaocaaDoorRefE
namespace Go.Proofs.YthcglobehoaocaaDoor
open Go.RowKit

/-- A row of bytes divided by a number: the quotient's row, and what is left over. -/
def bdv (y : Nat) : List Nat → List Nat × Nat
  | [] => ([], 0)
  | x :: r => (((bdv y r).2 * 256 + x) / y :: (bdv y r).1, ((bdv y r).2 * 256 + x) % y)
theorem bdv_length (y : Nat) (l : List Nat) : (bdv y l).1.length = l.length := by
  induction l with
  | nil => rfl
  | cons x r ih => simp [bdv, ih]
theorem bdv_lt {y : Nat} (hy : 0 < y) (l : List Nat) : (bdv y l).2 < y := by
  cases l with
  | nil => exact hy
  | cons x r => exact Nat.mod_lt _ hy
theorem bdv_below {y : Nat} (hy : 0 < y) {l : List Nat} (bl : Dig.Below 256 l) : Dig.Below 256 (bdv y l).1 := by
  induction l with
  | nil => exact Dig.Below.nil _
  | cons x r ih =>
    refine Dig.Below.cons ?_ (ih bl.tail)
    rw [Nat.div_lt_iff_lt_mul hy]
    have h1 := bdv_lt hy r
    have h2 := bl.head
    have h3 : ((bdv y r).2 + 1) * 256 ≤ y * 256 := Nat.mul_le_mul_right _ h1
    omega
theorem bdv_val {y : Nat} (l : List Nat) : Dig.val 256 l = y * Dig.val 256 (bdv y l).1 + (bdv y l).2 := by
  induction l with
  | nil => simp [bdv, Dig.val]
  | cons x r ih =>
    have h := Nat.div_add_mod ((bdv y r).2 * 256 + x) y
    show x + 256 * Dig.val 256 r = y * (((bdv y r).2 * 256 + x) / y + 256 * Dig.val 256 (bdv y r).1) + ((bdv y r).2 * 256 + x) % y
    rw [ih, Nat.mul_add, Nat.mul_add, Nat.mul_left_comm 256 y]
    omega
theorem bdv_div {y : Nat} (hy : 0 < y) (l : List Nat) : Dig.val 256 (bdv y l).1 = Dig.val 256 l / y ∧ (bdv y l).2 = Dig.val 256 l % y := by
  have h := bdv_val (y := y) l
  have h2 := bdv_lt hy l
  rw [h]
  refine ⟨?_, ?_⟩
  · rw [Nat.mul_add_div hy, Nat.div_eq_of_lt h2]; rfl
  · rw [Nat.mul_add_mod, Nat.mod_eq_of_lt h2]
/-- Where the loop stands at place j: noughts below, above it all is done. -/
theorem bdv_at {y j : Nat} {l : List Nat} (hj : j < l.length) : (List.replicate (j + 1) 0 ++ (bdv y (l.drop (j + 1))).1).set j (((bdv y (l.drop (j + 1))).2 * 256 + Dig.at_ l j) / y) = List.replicate j 0 ++ (bdv y (l.drop j)).1 := by
  rw [← List.getElem_cons_drop hj, List.replicate_succ', List.append_assoc, List.set_append_right _ _ (by simp), List.length_replicate, Nat.sub_self, Dig.at_lt hj]
  rfl
theorem bdv_rest {y j : Nat} {l : List Nat} (hj : j < l.length) : ((bdv y (l.drop (j + 1))).2 * 256 + Dig.at_ l j) % y = (bdv y (l.drop j)).2 := by
  rw [← List.getElem_cons_drop hj, Dig.at_lt hj]
  rfl

/-- The number of the k highest digits of x, behind r. -/
def topBits (r x k : Nat) : Nat := r * 2 ^ k + x / 2 ^ (8 - k)
theorem topBits_zero (r x : Nat) (hx : x < 256) : topBits r x 0 = r := by
  unfold topBits
  rw [show (2 : Nat) ^ (8 - 0) = 256 from rfl, Nat.div_eq_of_lt hx]
  simp
theorem topBits_all (r x : Nat) : topBits r x 8 = r * 256 + x := by simp [topBits]
theorem topBits_succ (r x k : Nat) (hk : k < 8) : topBits r x (k + 1) = 2 * topBits r x k + x / 2 ^ (7 - k) % 2 := by
  unfold topBits
  have e : x / 2 ^ (8 - k) = x / 2 ^ (7 - k) / 2 := by rw [Nat.div_div_eq_div_mul, ← Nat.pow_succ, show (7 - k).succ = 8 - k by omega]
  rw [e, show 8 - (k + 1) = 7 - k by omega, Nat.pow_succ]
  generalize x / 2 ^ (7 - k) = z
  rw [← Nat.mul_assoc]
  generalize r * 2 ^ k = u
  omega
theorem half128 (k : Nat) (hk : k < 8) : 128 / 2 ^ k = 2 ^ (7 - k) := by
  have h : ∀ k : Fin 8, 128 / 2 ^ k.val = 2 ^ (7 - k.val) := by decide
  exact h ⟨k, hk⟩
/-- One digit more. -/
theorem bit_step (r x y k : Nat) (hr : r < y) (hk : k < 8) :
    (y ≤ 2 * (topBits r x k % y) + x / 2 ^ (7 - k) % 2 → topBits r x (k + 1) % y = 2 * (topBits r x k % y) + x / 2 ^ (7 - k) % 2 - y ∧ topBits r x (k + 1) / y * 2 ^ (8 - (k + 1)) = topBits r x k / y * 2 ^ (8 - k) + 128 / 2 ^ k) ∧
    (2 * (topBits r x k % y) + x / 2 ^ (7 - k) % 2 < y → topBits r x (k + 1) % y = 2 * (topBits r x k % y) + x / 2 ^ (7 - k) % 2 ∧ topBits r x (k + 1) / y * 2 ^ (8 - (k + 1)) = topBits r x k / y * 2 ^ (8 - k)) := by
  have hy : 0 < y := by omega
  rw [topBits_succ r x k hk, half128 k hk, show 8 - (k + 1) = 7 - k by omega, show 8 - k = (7 - k) + 1 by omega, Nat.pow_succ]
  have h1 := Nat.div_add_mod (topBits r x k) y
  have h2 := Nat.mod_lt (topBits r x k) hy
  have h3 : x / 2 ^ (7 - k) % 2 < 2 := Nat.mod_lt _ (by omega)
  generalize x / 2 ^ (7 - k) % 2 = d at *
  generalize hq : topBits r x k / y = q at *
  generalize topBits r x k % y = m at *
  generalize topBits r x k = t at *
  generalize 2 ^ (7 - k) = p at *
  have e : 2 * t + d = (2 * m + d) + y * (2 * q) := by rw [← h1, Nat.mul_add, Nat.mul_left_comm]; omega
  constructor
  · intro h
    have e2 : 2 * t + d = (2 * m + d - y) + y * (2 * q + 1) := by rw [e, Nat.mul_add]; omega
    rw [e2, Nat.add_mul_mod_self_left, Nat.add_mul_div_left _ _ hy, Nat.mod_eq_of_lt (by omega), Nat.div_eq_of_lt (by omega)]
    refine ⟨rfl, ?_⟩
    rw [Nat.zero_add, Nat.add_mul, Nat.one_mul, Nat.mul_comm 2 q, Nat.mul_assoc, Nat.mul_comm 2 p]
  · intro h
    rw [e, Nat.add_mul_mod_self_left, Nat.add_mul_div_left _ _ hy, Nat.mod_eq_of_lt h, Nat.div_eq_of_lt h]
    refine ⟨rfl, ?_⟩
    rw [Nat.zero_add, Nat.mul_comm 2 q, Nat.mul_assoc, Nat.mul_comm 2 p]
theorem bits_lt (r x y k : Nat) (hr : r < y) (hx : x < 256) (hk : k ≤ 8) : topBits r x k / y * 2 ^ (8 - k) < 256 := by
  have hy : 0 < y := by omega
  have h1 : topBits r x k < y * 2 ^ k := by
    unfold topBits
    have h2 : x / 2 ^ (8 - k) < 2 ^ k := by
      rw [Nat.div_lt_iff_lt_mul (Nat.two_pow_pos _), ← Nat.pow_add, show k + (8 - k) = 8 by omega]
      exact hx
    have h3 : (r + 1) * 2 ^ k ≤ y * 2 ^ k := Nat.mul_le_mul_right _ hr
    rw [Nat.add_mul, Nat.one_mul] at h3
    omega
  have h4 : topBits r x k / y < 2 ^ k := by rw [Nat.div_lt_iff_lt_mul hy, Nat.mul_comm]; exact h1
  calc topBits r x k / y * 2 ^ (8 - k) < 2 ^ k * 2 ^ (8 - k) := Nat.mul_lt_mul_of_pos_right h4 (Nat.two_pow_pos _)
    _ = 256 := by rw [← Nat.pow_add, show k + (8 - k) = 8 by omega]
end Go.Proofs.YthcglobehoaocaaDoor
