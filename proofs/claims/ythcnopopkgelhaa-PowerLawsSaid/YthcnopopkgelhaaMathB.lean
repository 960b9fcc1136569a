/- Plain mathematics of the reference: bytes gathered into words; sums and differences digit by digit. -/
import Derived.Test.YthcnopopkgelhaaMath
namespace Go.Proofs.Ythcnopopkgelhaa
namespace Dig

/-- The value of the digits from place a to place b. -/
def seg (b : Nat) (l : List Nat) (i j : Nat) : Nat := val b ((l.take j).drop i)
theorem seg_end (b : Nat) (l : List Nat) (i j : Nat) (h : j ≤ i) : seg b l i j = 0 := by
  unfold seg
  rw [List.drop_of_length_le (by rw [List.length_take]; omega)]
  rfl
theorem seg_step (b : Nat) (l : List Nat) (i j : Nat) (h : i < j) (hj : j ≤ l.length) : seg b l i j = at_ l i + b * seg b l (i + 1) j := by
  unfold seg
  have hi : i < (l.take j).length := by rw [List.length_take]; omega
  rw [← List.getElem_cons_drop hi, val_cons, at_lt (by omega)]
  simp
theorem seg_lt {b : Nat} (hb : 0 < b) {l : List Nat} (bl : Below b l) (i j : Nat) : seg b l i j < b ^ (j - i) := by
  unfold seg
  have h1 : Below b ((l.take j).drop i) := fun x hx => bl x (List.mem_of_mem_take (List.mem_of_mem_drop hx))
  have h2 := val_lt h1
  have h3 : ((l.take j).drop i).length ≤ j - i := by rw [List.length_drop, List.length_take]; omega
  exact Nat.lt_of_lt_of_le h2 (Nat.pow_le_pow_right hb h3)

/-- The words of 8 digits each. -/
def wordAt (l : List Nat) (j : Nat) : Nat := seg 256 l (8 * j) (min l.length (8 * j + 8))
def words (l : List Nat) (k : Nat) : List Nat := (List.range k).map (wordAt l)
theorem words_length (l : List Nat) (k : Nat) : (words l k).length = k := by simp [words]
theorem words_succ (l : List Nat) (k : Nat) : words l (k + 1) = words l k ++ [wordAt l k] := by simp [words, List.range_succ]
theorem words_zero (l : List Nat) : words l 0 = [] := rfl
theorem wordAt_lt {l : List Nat} (bl : Below 256 l) (j : Nat) : wordAt l j < 256 ^ 8 := by
  have h := seg_lt (by omega) bl (8 * j) (min l.length (8 * j + 8))
  exact Nat.lt_of_lt_of_le h (Nat.pow_le_pow_right (by omega) (by omega))
theorem words_val (l : List Nat) (k : Nat) (h : 8 * k ≤ l.length + 7) : val (256 ^ 8) (words l k) = val 256 (l.take (8 * k)) := by
  induction k with
  | zero => simp [words_zero, val]
  | succ k ih =>
    have hk : 8 * k < l.length := by omega
    rw [words_succ, val_snoc, words_length, ih (by omega)]
    have e : l.take (8 * (k + 1)) = l.take (8 * k) ++ (l.take (min l.length (8 * k + 8))).drop (8 * k) := by
      have e1 : l.take (8 * (k + 1)) = l.take (min l.length (8 * k + 8)) := by
        rw [List.take_eq_take_min, show min (8 * (k + 1)) l.length = min l.length (8 * k + 8) by omega]
      rw [e1]
      have e2 : (l.take (min l.length (8 * k + 8))).take (8 * k) = l.take (8 * k) := by rw [List.take_take, show min (8 * k) (min l.length (8 * k + 8)) = 8 * k by omega]
      rw [← e2, List.take_append_drop]
    rw [e, val_append, List.length_take, show min (8 * k) l.length = 8 * k by omega]
    show _ = _ + 256 ^ (8 * k) * wordAt l k
    rw [Nat.pow_mul]

/-- Sums and differences, digit by digit. -/
def aLo (x y c : Nat) : Nat := (x + y + c) % 256
def aHi (x y c : Nat) : Nat := (x + y + c) / 256
theorem a_split (x y c : Nat) : aLo x y c + 256 * aHi x y c = x + y + c := Nat.mod_add_div _ _
theorem aHi_le {x y c : Nat} (hx : x < 256) (hy : y < 256) (hc : c ≤ 1) : aHi x y c ≤ 1 := by unfold aHi; omega
theorem aLo_lt (x y c : Nat) : aLo x y c < 256 := Nat.mod_lt _ (by omega)
def sLo (x y c : Nat) : Nat := (if x < y + c then x + 256 - y - c else x - y - c) % 256
def sHi (x y c : Nat) : Nat := if x < y + c then 1 else 0
theorem s_split {x y c : Nat} (hx : x < 256) (hy : y < 256) (hc : c ≤ 1) : sLo x y c + y + c = x + 256 * sHi x y c := by unfold sLo sHi; split <;> omega
theorem sLo_lt (x y c : Nat) : sLo x y c < 256 := Nat.mod_lt _ (by omega)
theorem sHi_le (x y c : Nat) : sHi x y c ≤ 1 := by unfold sHi; split <;> omega
theorem add_stop (b : Nat) (lo hi : Nat → Nat → Nat → Nat) {l m : List Nat} (h : ∀ x y c, lo x y c + b * hi x y c = x + y + c) (k : Nat) (hl : l.length ≤ k) (hm : m.length ≤ k) (hc : runC hi l m k = 0) :
    val b (runL lo hi l m k) = val b l + val b m := by
  have e := add_run lo hi b l m h k
  rw [low_all b l _ hl, low_all b m _ hm, hc] at e
  omega
/-- A digit is at most the sum of all. -/
theorem at_le_sum (l : List Nat) : ∀ i, at_ l i ≤ val 1 l := by
  induction l with
  | nil => intro i; simp [at_, val]
  | cons x r ih =>
    intro i
    cases i with
    | zero => simp [at_, val]
    | succ i =>
      have := ih i
      have e : at_ (x :: r) (i + 1) = at_ r i := by simp [at_]
      rw [e, val_cons]; omega
theorem sum_set (l : List Nat) (x i : Nat) (h : i < l.length) : val 1 (l.set i x) + at_ l i = val 1 l + x := by
  have := val_set 1 l x i h
  simpa using this
theorem low_le_sum (l : List Nat) (k : Nat) : low 1 l k ≤ val 1 l := by
  have h := val_append 1 (l.take k) (l.drop k)
  rw [List.take_append_drop] at h
  unfold low; omega

/-- One step of the reference's product: digit d times digit e, added at place p. -/
def mstep (S : List Nat) (p P : Nat) : List Nat := ((S.set p ((at_ S p + P) % 256)).set (p + 1) (at_ S (p + 1) + (at_ S p + P) / 256))
theorem mstep_length (S : List Nat) (p P : Nat) : (mstep S p P).length = S.length := by simp [mstep]
theorem mstep_val (S : List Nat) (p P : Nat) (h : p + 1 < S.length) : val 256 (mstep S p P) = val 256 S + 256 ^ p * P := by
  have e1 := val_set 256 S ((at_ S p + P) % 256) p (by omega)
  have e2 := val_set 256 (S.set p ((at_ S p + P) % 256)) (at_ S (p + 1) + (at_ S p + P) / 256) (p + 1) (by simp; omega)
  rw [at_set_other (by omega)] at e2
  have e3 : (at_ S p + P) % 256 + 256 * ((at_ S p + P) / 256) = at_ S p + P := Nat.mod_add_div _ _
  have e4 : 256 ^ p * ((at_ S p + P) % 256 + 256 * ((at_ S p + P) / 256)) = 256 ^ p * (at_ S p + P) := by rw [e3]
  rw [Nat.mul_add, Nat.mul_add, ← Nat.mul_assoc, show 256 ^ p * 256 = 256 ^ (p + 1) from (Nat.pow_succ 256 p).symm] at e4
  rw [Nat.mul_add] at e2
  unfold mstep
  omega
theorem mstep_sum (S : List Nat) (p P : Nat) (h : p + 1 < S.length) (hP : P ≤ 65025) : val 1 (mstep S p P) ≤ val 1 S + 510 := by
  have e1 := sum_set S ((at_ S p + P) % 256) p (by omega)
  have e2 := sum_set (S.set p ((at_ S p + P) % 256)) (at_ S (p + 1) + (at_ S p + P) / 256) (p + 1) (by simp; omega)
  rw [at_set_other (by omega)] at e2
  unfold mstep
  omega

def mrow (m : List Nat) (d i : Nat) (S : List Nat) : Nat → List Nat
  | 0 => S
  | k + 1 => mstep (mrow m d i S k) (i + k) (d * at_ m k)
theorem mrow_length (m : List Nat) (d i : Nat) (S : List Nat) (k : Nat) : (mrow m d i S k).length = S.length := by
  induction k with
  | zero => rfl
  | succ k ih => simp only [mrow]; rw [mstep_length, ih]
theorem mrow_val (m : List Nat) (d i : Nat) (S : List Nat) (k : Nat) (h : i + k + 1 ≤ S.length) : val 256 (mrow m d i S k) = val 256 S + 256 ^ i * (d * low 256 m k) := by
  induction k with
  | zero => simp [mrow, low_zero]
  | succ k ih =>
    simp only [mrow]
    rw [mstep_val _ _ _ (by rw [mrow_length]; omega), ih (by omega), low_succ, Nat.mul_add d, Nat.mul_add, Nat.pow_add, Nat.mul_left_comm d, Nat.mul_assoc]
    omega
theorem mrow_sum (m : List Nat) (d i : Nat) (S : List Nat) (bm : Below 256 m) (hd : d < 256) (k : Nat) (h : i + k + 1 ≤ S.length) : val 1 (mrow m d i S k) ≤ val 1 S + 510 * k := by
  induction k with
  | zero => simp [mrow]
  | succ k ih =>
    have h1 := at_below (by omega) bm k
    have h2 : d * at_ m k ≤ 255 * 255 := Nat.mul_le_mul (by omega) (by omega)
    have h3 := mstep_sum (mrow m d i S k) (i + k) (d * at_ m k) (by rw [mrow_length]; omega) h2
    have h4 := ih (by omega)
    show val 1 (mstep (mrow m d i S k) (i + k) (d * at_ m k)) ≤ val 1 S + 510 * (k + 1)
    rw [Nat.mul_succ, ← Nat.add_assoc]
    exact Nat.le_trans h3 (Nat.add_le_add_right h4 510)
def mall (l m : List Nat) (S : List Nat) : Nat → List Nat
  | 0 => S
  | i + 1 => mrow m (at_ l i) i (mall l m S i) m.length
theorem mall_length (l m S : List Nat) (k : Nat) : (mall l m S k).length = S.length := by
  induction k with
  | zero => rfl
  | succ k ih => simp only [mall]; rw [mrow_length, ih]
theorem mall_val (l m : List Nat) (n k : Nat) (h : k + m.length + 1 ≤ n) : val 256 (mall l m (List.replicate n 0) k) = low 256 l k * val 256 m := by
  induction k with
  | zero => simp [mall, val_zeros, low_zero]
  | succ k ih =>
    simp only [mall]
    rw [mrow_val _ _ _ _ _ (by rw [mall_length, List.length_replicate]; omega), ih (by omega), low_all 256 m _ (Nat.le_refl _), low_succ, Nat.add_mul, Nat.mul_assoc]
theorem mall_sum (l m : List Nat) (bl : Below 256 l) (bm : Below 256 m) (n k : Nat) (h : k + m.length + 1 ≤ n) : val 1 (mall l m (List.replicate n 0) k) ≤ 510 * (m.length * k) := by
  induction k with
  | zero => simp [mall, val_zeros]
  | succ k ih =>
    have h1 := mrow_sum m (at_ l k) k (mall l m (List.replicate n 0) k) bm (at_below (by omega) bl k) m.length (by rw [mall_length, List.length_replicate]; omega)
    have h2 := ih (by omega)
    simp only [mall]
    rw [Nat.mul_succ]
    omega
/-- The carries of a row of great digits. -/
theorem carry_le (S : List Nat) (k : Nat) : runC aHi S [] k ≤ low 1 S k := by
  induction k with
  | zero => simp [runC]
  | succ k ih =>
    rw [low_succ]
    show aHi (at_ S k) (at_ [] k) (runC aHi S [] k) ≤ _
    have : at_ ([] : List Nat) k = 0 := by simp [at_]
    rw [this, Nat.one_pow, Nat.one_mul]
    generalize runC aHi S [] k = c at *
    unfold aHi
    omega
theorem low_nil (b k : Nat) : low b [] k = 0 := by simp [low, val]
/-- One digit of the carry is put behind the row. -/
theorem push_carry (b : Nat) (L : List Nat) (C V : Nat) (h : val b L + b ^ L.length * C = V) : val b (L ++ [C % b]) + b ^ (L ++ [C % b]).length * (C / b) = V := by
  rw [val_snoc, List.length_append, List.length_singleton, Nat.pow_succ, Nat.mul_assoc, Nat.add_assoc, ← Nat.mul_add, Nat.mod_add_div]
  exact h
end Dig
end Go.Proofs.Ythcnopopkgelhaa
