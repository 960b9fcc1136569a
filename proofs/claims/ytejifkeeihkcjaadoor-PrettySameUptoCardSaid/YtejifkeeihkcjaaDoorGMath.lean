/- Plain mathematics on rows of digits: values in a base, rows without noughts at the end. Nothing of the program. Words for memory: a slice that reads as a list; a row of numbers; a number of limbs. Boxes of any cells, and what is kept while nothing old is turned (no program in it). Stage 6, ahead of the code: trees of expressions and statements, and how they lie in memory (no program in it). Stage 4, ahead of the code: places of a text, positions, lines (no program in it). Stage 5, ahead of the code: what bytes and texts are (no program in it). The contracts of the reference's Of, Place, Cmp of layer 4. What Of and Place of layer 4 answer, and what is asked of them (no walk in it; light, so that later layers can use it). The contracts of the reference's Cmp and Lines of layer 4, and of the comparison of two rows of texts. -/
import Derived.Test.YtejifkeeihkcjaaDoorProg
import Derived.WalkKit
import Derived.WalkSpells
import Derived.WalkLawsBesides
import Derived.Handy
import Derived.Lib.Hide
import Derived.Laws.OwnMore
import Derived.Deep.AppendLies
import Derived.Maps.AppendAt
import Derived.KernelRfl
import Derived.Deep.Draws
import Derived.Deep.RegionHeld3
import Derived.Deep.RegionWith
import Derived.Deep.QuietTactic
import Derived.BigQuiet
namespace Go.Proofs.YtejifkeeihkcjaaDoor
section
namespace Dig

def val (b : Nat) : List Nat → Nat
  | [] => 0
  | x :: r => x + b * val b r

def nrm : List Nat → List Nat
  | [] => []
  | x :: r => if nrm r = [] ∧ x = 0 then [] else x :: nrm r

def Norm (l : List Nat) : Prop := nrm l = l

theorem val_nil (b : Nat) : val b [] = 0 := rfl
theorem val_cons (b x : Nat) (r : List Nat) : val b (x :: r) = x + b * val b r := rfl

theorem nrm_nil : nrm [] = [] := rfl
theorem nrm_cons (x : Nat) (r : List Nat) : nrm (x :: r) = if nrm r = [] ∧ x = 0 then [] else x :: nrm r := rfl

theorem val_nrm (b : Nat) (l : List Nat) : val b (nrm l) = val b l := by
  induction l with
  | nil => rfl
  | cons x r ih =>
    rw [nrm_cons]
    split
    · next h =>
      obtain ⟨h1, h2⟩ := h
      rw [h1] at ih
      rw [val_cons, ← ih, h2]
      rfl
    · rw [val_cons, val_cons, ih]

theorem nrm_nrm (l : List Nat) : nrm (nrm l) = nrm l := by
  induction l with
  | nil => rfl
  | cons x r ih =>
    rw [nrm_cons]
    split
    · rfl
    · next h => rw [nrm_cons, ih, if_neg h]

theorem norm_nrm (l : List Nat) : Norm (nrm l) := nrm_nrm l
theorem norm_nil : Norm [] := rfl

theorem nrm_snoc_zero (l : List Nat) : nrm (l ++ [0]) = nrm l := by
  induction l with
  | nil => rfl
  | cons x r ih => rw [List.cons_append, nrm_cons, ih, nrm_cons]

theorem nrm_snoc (l : List Nat) (x : Nat) (h : x ≠ 0) : nrm (l ++ [x]) = l ++ [x] := by
  induction l with
  | nil => show nrm [x] = [x]; rw [nrm_cons, if_neg (by rintro ⟨_, h2⟩; exact h h2)]; rfl
  | cons y r ih => rw [List.cons_append, nrm_cons, ih, if_neg (by simp)]

theorem norm_snoc {l : List Nat} {x : Nat} (h : x ≠ 0) : Norm (l ++ [x]) := nrm_snoc l x h

theorem norm_tail {x : Nat} {r : List Nat} (h : Norm (x :: r)) : Norm r := by
  unfold Norm at h
  rw [nrm_cons] at h
  split at h
  · cases h
  · injection h

theorem norm_one {x : Nat} (h : Norm [x]) : x ≠ 0 := by
  rintro rfl
  unfold Norm at h
  rw [nrm_cons, if_pos ⟨rfl, rfl⟩] at h
  cases h

/-- The last digit of a row without noughts at the end. -/
theorem norm_last {l : List Nat} {x : Nat} (h : Norm (l ++ [x])) : x ≠ 0 := by
  induction l with
  | nil => exact norm_one h
  | cons y r ih => exact ih (norm_tail h)

theorem nrm_length_le (l : List Nat) : (nrm l).length ≤ l.length := by
  induction l with
  | nil => exact Nat.le_refl _
  | cons x r ih =>
    rw [nrm_cons]
    split
    · simp
    · simp; exact ih

/-- A row is its norm and noughts. -/
theorem nrm_prefix (l : List Nat) : l = nrm l ++ List.replicate (l.length - (nrm l).length) 0 := by
  induction l with
  | nil => rfl
  | cons x r ih =>
    rw [nrm_cons]
    split
    · next h =>
      obtain ⟨h1, h2⟩ := h
      rw [h1] at ih
      simp only [List.nil_append, List.length_nil, Nat.sub_zero, List.length_cons] at ih ⊢
      rw [List.replicate_succ, h2, ← ih]
    · simp only [List.cons_append, List.length_cons, Nat.add_sub_add_right]
      rw [← ih]

theorem nrm_take (l : List Nat) : nrm l = l.take (nrm l).length := by
  have h := nrm_prefix l
  have h2 : l.take (nrm l).length = (nrm l ++ List.replicate (l.length - (nrm l).length) 0).take (nrm l).length := by rw [← h]
  rw [h2, List.take_left]

/-- Digits below the base. -/
def Below (b : Nat) (l : List Nat) : Prop := ∀ x, x ∈ l → x < b

theorem Below.nil (b : Nat) : Below b [] := fun _ h => by cases h
theorem Below.tail {b x : Nat} {r : List Nat} (h : Below b (x :: r)) : Below b r := fun y hy => h y (List.mem_cons_of_mem _ hy)
theorem Below.head {b x : Nat} {r : List Nat} (h : Below b (x :: r)) : x < b := h x List.mem_cons_self
theorem Below.cons {b x : Nat} {r : List Nat} (hx : x < b) (h : Below b r) : Below b (x :: r) := fun y hy => by
  rcases List.mem_cons.1 hy with rfl | hy
  · exact hx
  · exact h y hy
theorem Below.append {b : Nat} {l r : List Nat} (h : Below b l) (h2 : Below b r) : Below b (l ++ r) := fun y hy => by
  rcases List.mem_append.1 hy with hy | hy
  · exact h y hy
  · exact h2 y hy
theorem Below.nrm {b : Nat} {l : List Nat} (h : Below b l) : Below b (nrm l) := fun y hy => by
  rw [nrm_take] at hy
  exact h y (List.mem_of_mem_take hy)
theorem Below.take {b : Nat} {l : List Nat} (h : Below b l) (n : Nat) : Below b (l.take n) := fun y hy => h y (List.mem_of_mem_take hy)
theorem Below.get {b : Nat} {l : List Nat} (h : Below b l) {i : Nat} (hi : i < l.length) : l[i] < b := h _ (List.getElem_mem hi)

theorem val_lt {b : Nat} {l : List Nat} (h : Below b l) : val b l < b ^ l.length := by
  induction l with
  | nil => simp [val]
  | cons x r ih =>
    have h1 := ih h.tail
    have h2 := h.head
    rw [val_cons, List.length_cons, Nat.pow_succ]
    calc x + b * val b r < b + b * val b r := by omega
      _ = b * (val b r + 1) := by rw [Nat.mul_add]; omega
      _ ≤ b * b ^ r.length := Nat.mul_le_mul_left _ h1
      _ = b ^ r.length * b := Nat.mul_comm _ _

theorem val_append (b : Nat) (l r : List Nat) : val b (l ++ r) = val b l + b ^ l.length * val b r := by
  induction l with
  | nil => simp [val]
  | cons x l ih =>
    rw [List.cons_append, val_cons, val_cons, ih, List.length_cons, Nat.pow_succ, Nat.mul_add, ← Nat.mul_assoc, Nat.mul_comm b (b ^ l.length)]
    omega

theorem val_snoc (b : Nat) (l : List Nat) (x : Nat) : val b (l ++ [x]) = val b l + b ^ l.length * x := by
  rw [val_append]; simp [val]

theorem val_zeros (b n : Nat) : val b (List.replicate n 0) = 0 := by
  induction n with
  | zero => rfl
  | succ n ih => rw [List.replicate_succ, val_cons, ih]; simp

/-- Only one row of digits has a value. -/
theorem norm_zero {b : Nat} (hb : 0 < b) {l : List Nat} (h : Norm l) (hv : val b l = 0) : l = [] := by
  have aux : ∀ l : List Nat, val b l = 0 → nrm l = [] := by
    intro l
    induction l with
    | nil => intro _; rfl
    | cons x r ih =>
      intro hv
      rw [val_cons] at hv
      have hx : x = 0 := by omega
      have hr : val b r = 0 := by
        rcases Nat.mul_eq_zero.1 (show b * val b r = 0 by omega) with h | h
        · omega
        · exact h
      rw [nrm_cons, if_pos ⟨ih hr, hx⟩]
  rw [← h]
  exact aux l hv

theorem uniq {b : Nat} (hb : 0 < b) : ∀ {l m : List Nat}, Norm l → Norm m → Below b l → Below b m → val b l = val b m → l = m := by
  intro l
  induction l with
  | nil =>
    intro m _ hm _ _ hv
    exact (norm_zero hb hm hv.symm).symm
  | cons x r ih =>
    intro m hl hm bl bm hv
    cases m with
    | nil => exact norm_zero hb hl hv
    | cons y s =>
      rw [val_cons, val_cons] at hv
      have hx := bl.head
      have hy := bm.head
      have e1 : (x + b * val b r) % b = x := by rw [Nat.add_mul_mod_self_left, Nat.mod_eq_of_lt hx]
      have e2 : (y + b * val b s) % b = y := by rw [Nat.add_mul_mod_self_left, Nat.mod_eq_of_lt hy]
      have exy : x = y := by rw [← e1, ← e2, hv]
      have e3 : b * val b r = b * val b s := by omega
      have e4 : val b r = val b s := Nat.eq_of_mul_eq_mul_left hb e3
      rw [exy, ih (norm_tail hl) (norm_tail hm) bl.tail bm.tail e4]

/-- The row of a number. -/
def ofNat (b : Nat) : Nat → Nat → List Nat
  | 0, _ => []
  | k + 1, n => if n = 0 then [] else n % b :: ofNat b k (n / b)

/-- A digit; 0 behind the last one. -/
def at_ (l : List Nat) (i : Nat) : Nat := l.getD i 0

theorem at_lt {l : List Nat} {i : Nat} (h : i < l.length) : at_ l i = l[i] := by simp [at_, h]
theorem at_ge {l : List Nat} {i : Nat} (h : l.length ≤ i) : at_ l i = 0 := by simp [at_, h]
theorem at_below {b : Nat} (hb : 0 < b) {l : List Nat} (h : Below b l) (i : Nat) : at_ l i < b := by
  by_cases hi : i < l.length
  · rw [at_lt hi]; exact h.get hi
  · rw [at_ge (by omega)]; exact hb

/-- A row, padded to a length. -/
def pad (l : List Nat) (n : Nat) : List Nat := (List.range n).map (at_ l)

theorem val_take_succ (b : Nat) (l : List Nat) (k : Nat) (hk : k < l.length) : val b (l.take (k + 1)) = val b (l.take k) + b ^ k * l[k] := by
  rw [List.take_succ_eq_append_getElem hk, val_snoc, List.length_take, Nat.min_eq_left (by omega)]

/-- The value of the first k digits, noughts behind the last one. -/
def low (b : Nat) (l : List Nat) (k : Nat) : Nat := val b (l.take k)

theorem low_zero (b : Nat) (l : List Nat) : low b l 0 = 0 := by simp [low, val]
theorem low_succ (b : Nat) (l : List Nat) (k : Nat) : low b l (k + 1) = low b l k + b ^ k * at_ l k := by
  unfold low
  by_cases hk : k < l.length
  · rw [val_take_succ b l k hk, at_lt hk]
  · rw [at_ge (by omega), List.take_of_length_le (by omega), List.take_of_length_le (by omega)]; simp
theorem low_all (b : Nat) (l : List Nat) (k : Nat) (h : l.length ≤ k) : low b l k = val b l := by unfold low; rw [List.take_of_length_le h]
theorem low_lt {b : Nat} (hb : 0 < b) {l : List Nat} (h : Below b l) (k : Nat) : low b l k < b ^ k := by
  have h1 := val_lt (h.take k)
  have h2 : b ^ (l.take k).length ≤ b ^ k := Nat.pow_le_pow_right hb (by rw [List.length_take]; omega)
  unfold low; omega

theorem val_split (b : Nat) (l : List Nat) (k : Nat) (hk : k < l.length) : val b l = val b (l.take k) + b ^ k * (at_ l k + b * val b (l.drop (k + 1))) := by
  have h : l = l.take k ++ l[k] :: l.drop (k + 1) := by rw [List.getElem_cons_drop, List.take_append_drop]
  have e : val b l = val b (l.take k ++ l[k] :: l.drop (k + 1)) := by rw [← h]
  rw [e, val_append, val_cons, at_lt hk, List.length_take, Nat.min_eq_left (by omega)]

/-- The highest digit that differs tells. -/
theorem val_lt_of_digit {b : Nat} (hb : 0 < b) {l m : List Nat} (bl : Below b l) {k : Nat} (hk : k < l.length) (hm : k < m.length) (hd : l.drop (k + 1) = m.drop (k + 1)) (h : at_ l k < at_ m k) : val b l < val b m := by
  rw [val_split b l k hk, val_split b m k hm, hd]
  have h1 : val b (l.take k) < b ^ k := low_lt hb bl k
  have h2 : b ^ k * (at_ l k + b * val b (m.drop (k + 1))) + b ^ k ≤ b ^ k * (at_ m k + b * val b (m.drop (k + 1))) := by
    have : at_ l k + b * val b (m.drop (k + 1)) + 1 ≤ at_ m k + b * val b (m.drop (k + 1)) := by omega
    calc _ = b ^ k * (at_ l k + b * val b (m.drop (k + 1)) + 1) := by rw [Nat.mul_add _ _ 1, Nat.mul_one]
      _ ≤ _ := Nat.mul_le_mul_left _ this
  omega

theorem norm_pos {b : Nat} {l : List Nat} (hl : Norm l) (h : 0 < l.length) : b ^ (l.length - 1) ≤ val b l := by
  have e : l = l.dropLast ++ [l.getLast (by intro h2; rw [h2] at h; simp at h)] := (List.dropLast_concat_getLast _).symm
  have hx : l.getLast (by intro h2; rw [h2] at h; simp at h) ≠ 0 := by rw [e] at hl; exact norm_last hl
  have e2 : val b l = val b l.dropLast + b ^ l.dropLast.length * l.getLast (by intro h2; rw [h2] at h; simp at h) := by
    have := val_snoc b l.dropLast (l.getLast (by intro h2; rw [h2] at h; simp at h))
    rw [← e] at this
    exact this
  rw [e2, List.length_dropLast]
  have : b ^ (l.length - 1) * 1 ≤ b ^ (l.length - 1) * l.getLast (by intro h2; rw [h2] at h; simp at h) := Nat.mul_le_mul_left _ (by omega)
  omega

theorem val_lt_of_len {b : Nat} (hb : 0 < b) {l m : List Nat} (bl : Below b l) (hm : Norm m) (h : l.length < m.length) : val b l < val b m := by
  have h1 := val_lt bl
  have h2 := norm_pos (b := b) hm (by omega)
  have h3 : b ^ l.length ≤ b ^ (m.length - 1) := Nat.pow_le_pow_right hb (by omega)
  omega

/-- A step's carries, and what it makes, digit by digit. -/
def runC (hi : Nat → Nat → Nat → Nat) (l m : List Nat) : Nat → Nat
  | 0 => 0
  | k + 1 => hi (at_ l k) (at_ m k) (runC hi l m k)
def runL (lo hi : Nat → Nat → Nat → Nat) (l m : List Nat) : Nat → List Nat
  | 0 => []
  | k + 1 => runL lo hi l m k ++ [lo (at_ l k) (at_ m k) (runC hi l m k)]

theorem runL_length (lo hi : Nat → Nat → Nat → Nat) (l m : List Nat) (k : Nat) : (runL lo hi l m k).length = k := by
  induction k with
  | zero => rfl
  | succ k ih => simp [runL, ih]
theorem runC_le (hi : Nat → Nat → Nat → Nat) {b : Nat} (hb : 0 < b) {l m : List Nat} (bl : Below b l) (bm : Below b m) (h : ∀ x y c, x < b → y < b → c ≤ 1 → hi x y c ≤ 1) (k : Nat) : runC hi l m k ≤ 1 := by
  induction k with
  | zero => simp [runC]
  | succ k ih => exact h _ _ _ (at_below hb bl k) (at_below hb bm k) ih
theorem runL_below (lo hi : Nat → Nat → Nat → Nat) {b : Nat} (l m : List Nat) (h : ∀ x y c, lo x y c < b) (k : Nat) : Below b (runL lo hi l m k) := by
  induction k with
  | zero => exact Below.nil b
  | succ k ih => exact ih.append (Below.cons (h _ _ _) (Below.nil b))

/-- The row so far: what is made, then noughts. -/
def sofar (r : List Nat) (n : Nat) : List Nat := r ++ List.replicate (n - r.length) 0
theorem sofar_length (r : List Nat) (n : Nat) (h : r.length ≤ n) : (sofar r n).length = n := by simp [sofar]; omega
theorem sofar_nil (n : Nat) : sofar [] n = List.replicate n 0 := by simp [sofar]
theorem sofar_all (r : List Nat) : sofar r r.length = r := by simp [sofar]
theorem sofar_set (r : List Nat) (n x : Nat) (h : r.length < n) : (sofar r n).set r.length x = sofar (r ++ [x]) n := by
  unfold sofar
  rw [List.set_append_right _ _ (Nat.le_refl _), Nat.sub_self]
  obtain ⟨d, hd⟩ : ∃ d, n - r.length = d + 1 := ⟨n - r.length - 1, by omega⟩
  have e : n - (r ++ [x]).length = d := by simp; omega
  rw [hd, e, List.replicate_succ, List.set_cons_zero, List.append_assoc]
  rfl

theorem add_run (lo hi : Nat → Nat → Nat → Nat) (b : Nat) (l m : List Nat) (h : ∀ x y c, lo x y c + b * hi x y c = x + y + c) (k : Nat) :
    val b (runL lo hi l m k) + b ^ k * runC hi l m k = low b l k + low b m k := by
  induction k with
  | zero => simp [runL, runC, low, val]
  | succ k ih =>
    have e := h (at_ l k) (at_ m k) (runC hi l m k)
    have e2 : b ^ k * (lo (at_ l k) (at_ m k) (runC hi l m k) + b * hi (at_ l k) (at_ m k) (runC hi l m k)) = b ^ k * (at_ l k + at_ m k + runC hi l m k) := by rw [e]
    rw [Nat.mul_add, Nat.mul_add, Nat.mul_add] at e2
    rw [low_succ, low_succ]
    show val b (runL lo hi l m k ++ [lo (at_ l k) (at_ m k) (runC hi l m k)]) + b ^ (k + 1) * hi (at_ l k) (at_ m k) (runC hi l m k) = _
    rw [val_snoc, runL_length, Nat.pow_succ, Nat.mul_assoc]
    omega

theorem sub_run (lo hi : Nat → Nat → Nat → Nat) (b : Nat) (hb : 0 < b) (l m : List Nat) (bl : Below b l) (bm : Below b m) (h1 : ∀ x y c, x < b → y < b → c ≤ 1 → hi x y c ≤ 1)
    (h : ∀ x y c, x < b → y < b → c ≤ 1 → lo x y c + y + c = x + b * hi x y c) (k : Nat) :
    val b (runL lo hi l m k) + low b m k = low b l k + b ^ k * runC hi l m k := by
  induction k with
  | zero => simp [runL, runC, low, val]
  | succ k ih =>
    have e := h (at_ l k) (at_ m k) (runC hi l m k) (at_below hb bl k) (at_below hb bm k) (runC_le hi hb bl bm h1 k)
    have e2 : b ^ k * (lo (at_ l k) (at_ m k) (runC hi l m k) + at_ m k + runC hi l m k) = b ^ k * (at_ l k + b * hi (at_ l k) (at_ m k) (runC hi l m k)) := by rw [e]
    rw [Nat.mul_add, Nat.mul_add, Nat.mul_add] at e2
    rw [low_succ, low_succ]
    show val b (runL lo hi l m k ++ [lo (at_ l k) (at_ m k) (runC hi l m k)]) + _ = _ + b ^ (k + 1) * hi (at_ l k) (at_ m k) (runC hi l m k)
    rw [val_snoc, runL_length, Nat.pow_succ, Nat.mul_assoc]
    omega

/-- Behind the last digits nothing is carried. -/
theorem add_end (lo hi : Nat → Nat → Nat → Nat) (b : Nat) (hb : 2 ≤ b) {l m : List Nat} (bl : Below b l) (bm : Below b m) (h : ∀ x y c, lo x y c + b * hi x y c = x + y + c) (k : Nat) (hl : l.length ≤ k) (hm : m.length ≤ k) :
    val b (runL lo hi l m (k + 1)) = val b l + val b m := by
  have e := add_run lo hi b l m h (k + 1)
  rw [low_all b l _ (by omega), low_all b m _ (by omega)] at e
  have h1 := low_lt (b := b) (by omega) bl k
  have h2 := low_lt (b := b) (by omega) bm k
  rw [low_all b l _ hl] at h1
  rw [low_all b m _ hm] at h2
  have h3 : 2 * b ^ k ≤ b ^ (k + 1) := by rw [Nat.pow_succ, Nat.mul_comm 2]; exact Nat.mul_le_mul_left _ hb
  rcases Nat.eq_zero_or_pos (runC hi l m (k + 1)) with h0 | h0
  · rw [h0] at e; omega
  · have : b ^ (k + 1) * 1 ≤ b ^ (k + 1) * runC hi l m (k + 1) := Nat.mul_le_mul_left _ h0
    omega

theorem sub_end (lo hi : Nat → Nat → Nat → Nat) (b : Nat) (hb : 0 < b) (l m : List Nat) (bl : Below b l) (bm : Below b m) (h0 : ∀ x y c, lo x y c < b) (h1 : ∀ x y c, x < b → y < b → c ≤ 1 → hi x y c ≤ 1)
    (h : ∀ x y c, x < b → y < b → c ≤ 1 → lo x y c + y + c = x + b * hi x y c) (k : Nat) (hl : l.length ≤ k) (hm : m.length ≤ k) (hge : val b m ≤ val b l) :
    val b (runL lo hi l m k) = val b l - val b m := by
  have e := sub_run lo hi b hb l m bl bm h1 h k
  rw [low_all b l _ hl, low_all b m _ hm] at e
  have h2 := val_lt (runL_below lo hi l m h0 k)
  rw [runL_length] at h2
  rcases Nat.eq_zero_or_pos (runC hi l m k) with h3 | h3
  · rw [h3] at e; omega
  · have : b ^ k * 1 ≤ b ^ k * runC hi l m k := Nat.mul_le_mul_left _ h3
    omega

theorem at_set_same {l : List Nat} {i : Nat} (h : i < l.length) (x : Nat) : at_ (l.set i x) i = x := by simp [at_, h]
theorem at_set_other {l : List Nat} {i j : Nat} (h : i ≠ j) (x : Nat) : at_ (l.set i x) j = at_ l j := by simp [at_, h]
theorem Below.set {b : Nat} {l : List Nat} (h : Below b l) (i : Nat) {x : Nat} (hx : x < b) : Below b (l.set i x) := fun y hy => by
  rcases List.mem_or_eq_of_mem_set hy with h1 | h1
  · exact h y h1
  · rw [h1]; exact hx
theorem val_set (b : Nat) (l : List Nat) (x : Nat) : ∀ i, i < l.length → val b (l.set i x) + b ^ i * at_ l i = val b l + b ^ i * x := by
  induction l with
  | nil => intro i h; simp at h
  | cons y r ih =>
    intro i h
    cases i with
    | zero => simp [val, at_]; omega
    | succ i =>
      have e := ih i (by simpa using h)
      have ea : at_ (y :: r) (i + 1) = at_ r i := by simp [at_]
      rw [List.set_cons_succ, val_cons, val_cons, ea, Nat.pow_succ, Nat.mul_comm (b ^ i) b, Nat.mul_assoc, Nat.mul_assoc, Nat.add_assoc, ← Nat.mul_add, e, Nat.mul_add]
      omega

/-- Row and carry while x times m's digits are added from place o on. -/
def mulS (tl th : Nat → Nat → Nat → Nat → Nat) (l m : List Nat) (o x : Nat) : Nat → List Nat × Nat
  | 0 => (l, 0)
  | k + 1 => ((mulS tl th l m o x k).1.set (o + k) (tl x (at_ m k) (at_ (mulS tl th l m o x k).1 (o + k)) (mulS tl th l m o x k).2), th x (at_ m k) (at_ (mulS tl th l m o x k).1 (o + k)) (mulS tl th l m o x k).2)

section
variable (tl th : Nat → Nat → Nat → Nat → Nat) (l m : List Nat) (o x : Nat)
theorem mulS_length (k : Nat) : (mulS tl th l m o x k).1.length = l.length := by
  induction k with
  | zero => rfl
  | succ k ih => simp [mulS, ih]
theorem mulS_at (k j : Nat) (h : o + k ≤ j) : at_ (mulS tl th l m o x k).1 j = at_ l j := by
  induction k with
  | zero => rfl
  | succ k ih => simp only [mulS]; rw [at_set_other (by omega)]; exact ih (by omega)
theorem mulS_below {b : Nat} (hb : 0 < b) (bl : Below b l) (bm : Below b m) (hx : x < b) (h1 : ∀ x y r c, tl x y r c < b) (h2 : ∀ x y r c, x < b → y < b → r < b → c < b → th x y r c < b) (k : Nat) :
    Below b (mulS tl th l m o x k).1 ∧ (mulS tl th l m o x k).2 < b := by
  induction k with
  | zero => exact ⟨bl, hb⟩
  | succ k ih => exact ⟨ih.1.set _ (h1 _ _ _ _), h2 _ _ _ _ hx (at_below hb bm k) (at_below hb ih.1 _) ih.2⟩
theorem mulS_val (b : Nat) (h : ∀ x y r c, tl x y r c + b * th x y r c = x * y + c + r) (k : Nat) (hk : o + k ≤ l.length) :
    val b (mulS tl th l m o x k).1 + b ^ (o + k) * (mulS tl th l m o x k).2 = val b l + b ^ o * (x * low b m k) := by
  induction k with
  | zero => simp [mulS, low, val]
  | succ k ih =>
    have e := ih (by omega)
    have e1 := h x (at_ m k) (at_ (mulS tl th l m o x k).1 (o + k)) (mulS tl th l m o x k).2
    have e2 := val_set b (mulS tl th l m o x k).1 (tl x (at_ m k) (at_ (mulS tl th l m o x k).1 (o + k)) (mulS tl th l m o x k).2) (o + k) (by rw [mulS_length]; omega)
    have e3 : b ^ (o + k) * (tl x (at_ m k) (at_ (mulS tl th l m o x k).1 (o + k)) (mulS tl th l m o x k).2 + b * th x (at_ m k) (at_ (mulS tl th l m o x k).1 (o + k)) (mulS tl th l m o x k).2) = b ^ (o + k) * (x * at_ m k + (mulS tl th l m o x k).2 + at_ (mulS tl th l m o x k).1 (o + k)) := by rw [e1]
    rw [Nat.mul_add, Nat.mul_add, Nat.mul_add] at e3
    rw [low_succ, Nat.mul_add x, Nat.mul_add (b ^ o), show o + (k + 1) = (o + k) + 1 by omega, Nat.pow_succ, Nat.mul_assoc]
    have e4 : b ^ o * (x * (b ^ k * at_ m k)) = b ^ (o + k) * (x * at_ m k) := by rw [Nat.pow_add, Nat.mul_left_comm x, Nat.mul_assoc]
    simp only [mulS]
    rw [e4]
    omega
/-- The row behind the call: the last carry has found its place. -/
def mulEnd : List Nat := (mulS tl th l m o x m.length).1.set (o + m.length) (mulS tl th l m o x m.length).2
theorem mulEnd_length : (mulEnd tl th l m o x).length = l.length := by simp [mulEnd, mulS_length]
theorem mulEnd_at (j : Nat) (h : o + m.length < j) : at_ (mulEnd tl th l m o x) j = at_ l j := by
  unfold mulEnd; rw [at_set_other (by omega)]; exact mulS_at tl th l m o x _ j (by omega)
theorem mulEnd_below {b : Nat} (hb : 0 < b) (bl : Below b l) (bm : Below b m) (hx : x < b) (h1 : ∀ x y r c, tl x y r c < b) (h2 : ∀ x y r c, x < b → y < b → r < b → c < b → th x y r c < b) : Below b (mulEnd tl th l m o x) :=
  (mulS_below tl th l m o x hb bl bm hx h1 h2 _).1.set _ (mulS_below tl th l m o x hb bl bm hx h1 h2 _).2
theorem mulEnd_val (b : Nat) (h : ∀ x y r c, tl x y r c + b * th x y r c = x * y + c + r) (hk : o + m.length < l.length) (h0 : at_ l (o + m.length) = 0) :
    val b (mulEnd tl th l m o x) = val b l + b ^ o * (x * val b m) := by
  have e := mulS_val tl th l m o x b h m.length (by omega)
  have e2 := val_set b (mulS tl th l m o x m.length).1 (mulS tl th l m o x m.length).2 (o + m.length) (by rw [mulS_length]; exact hk)
  rw [mulS_at tl th l m o x _ _ (Nat.le_refl _), h0] at e2
  rw [low_all b m _ (Nat.le_refl _)] at e
  unfold mulEnd
  omega
end

/-- The whole product: row after row. -/
def mulRows (tl th : Nat → Nat → Nat → Nat → Nat) (l m : List Nat) (z : List Nat) : Nat → List Nat
  | 0 => z
  | k + 1 => mulEnd tl th (mulRows tl th l m z k) m k (at_ l k)
theorem mulRows_length (tl th : Nat → Nat → Nat → Nat → Nat) (l m z : List Nat) (k : Nat) : (mulRows tl th l m z k).length = z.length := by
  induction k with
  | zero => rfl
  | succ k ih => simp only [mulRows]; rw [mulEnd_length, ih]
theorem mulRows_at (tl th : Nat → Nat → Nat → Nat → Nat) (l m : List Nat) (n k j : Nat) (h : k + m.length ≤ j) : at_ (mulRows tl th l m (List.replicate n 0) k) j = 0 := by
  induction k with
  | zero => by_cases hj : j < n <;> simp [mulRows, at_, hj]
  | succ k ih => simp only [mulRows]; rw [mulEnd_at _ _ _ _ _ _ _ (by omega)]; exact ih (by omega)
theorem mulRows_below (tl th : Nat → Nat → Nat → Nat → Nat) {b : Nat} (hb : 0 < b) {l m : List Nat} (n : Nat) (bl : Below b l) (bm : Below b m) (h1 : ∀ x y r c, tl x y r c < b) (h2 : ∀ x y r c, x < b → y < b → r < b → c < b → th x y r c < b) (k : Nat) :
    Below b (mulRows tl th l m (List.replicate n 0) k) := by
  induction k with
  | zero => intro y hy; rw [List.eq_of_mem_replicate hy]; exact hb
  | succ k ih => exact mulEnd_below tl th _ m k _ hb ih bm (at_below hb bl k) h1 h2
theorem mulRows_val (tl th : Nat → Nat → Nat → Nat → Nat) (b : Nat) (l m : List Nat) (h : ∀ x y r c, tl x y r c + b * th x y r c = x * y + c + r) (n k : Nat) (hk : k + m.length ≤ n) :
    val b (mulRows tl th l m (List.replicate n 0) k) = low b l k * val b m := by
  induction k with
  | zero => simp [mulRows, val_zeros, low_zero]
  | succ k ih =>
    simp only [mulRows]
    rw [mulEnd_val tl th _ m k _ b h (by rw [mulRows_length, List.length_replicate]; omega) (mulRows_at tl th l m n k _ (Nat.le_refl _)), ih (by omega), low_succ, Nat.add_mul, Nat.mul_assoc]

/-- How many digits a number has, told by powers of the base. -/
theorem len_le_iff {b : Nat} (hb : 1 < b) {l : List Nat} (hl : Norm l) (bl : Below b l) (k : Nat) : l.length ≤ k ↔ val b l < b ^ k := by
  constructor
  · intro h
    exact Nat.lt_of_lt_of_le (val_lt bl) (Nat.pow_le_pow_right (by omega) h)
  · intro h
    rcases Nat.lt_or_ge k l.length with h1 | h1
    · have h2 := norm_pos (b := b) hl (by omega)
      have h3 : b ^ k ≤ b ^ (l.length - 1) := Nat.pow_le_pow_right (by omega) (by omega)
      omega
    · exact h1

end Dig
end

section
open Go.RowKit

theorem block_of_add (a : Addr) (n : Nat) : (a.add n).block = a.block := by unfold Addr.add; split <;> rfl
theorem add_of_add (a : Addr) (i j : Nat) : (a.add i).add j = a.add (i + j) := by
  unfold Addr.add
  by_cases hi : i = 0 <;> by_cases hj : j = 0 <;> simp [hi, hj, Nat.add_assoc]

def Reads (w : World) (B size : Nat) (A : Option Addr) (n : Nat) (xs : List Value) : Prop :=
  xs.length = n * size ∧ (0 < n → ∃ ad, A = some ad ∧ ad.block < B ∧ ∀ j u, xs[j]? = some u → w.cell? (ad.add j) = some u)

section
variable {w w' : World} {B B' size n : Nat} {A : Option Addr} {xs : List Value}
theorem Reads.none_ : Reads w B size A 0 [] := ⟨by simp, fun h => absurd h (by omega)⟩
theorem Reads.at_ {k : Nat} (h : Reads w B 1 A n xs) (hk : k < n) : ∃ ad u, A = some ad ∧ ad.block < B ∧ xs[k]? = some u ∧ w.cell? (ad.add k) = some u := by
  obtain ⟨ad, e, hb, hc⟩ := h.2 (by omega)
  have hl : k < xs.length := by have := h.1; omega
  exact ⟨ad, xs[k], e, hb, List.getElem?_eq_getElem hl, hc k _ (List.getElem?_eq_getElem hl)⟩
theorem Reads.keep (h : Reads w B size A n xs) (hk : ∀ p : Addr, p.block < B → w'.cell? p = w.cell? p) : Reads w' B size A n xs :=
  ⟨h.1, fun hn => by
    obtain ⟨ad, e, hb, hc⟩ := h.2 hn
    exact ⟨ad, e, hb, fun j u hu => (hk _ (by rw [block_of_add]; exact hb)).trans (hc j u hu)⟩⟩
theorem Reads.more (h : Reads w B size A n xs) (hB : B ≤ B') : Reads w B' size A n xs :=
  ⟨h.1, fun hn => by
    obtain ⟨ad, e, hb, hc⟩ := h.2 hn
    exact ⟨ad, e, by omega, hc⟩⟩
theorem Reads.below (h : Reads w B size A n xs) (hb : Below B w w') : Reads w' B size A n xs := h.keep fun _ hp => hb.cell hp
theorem Reads.alloc (h : Reads w B size A n xs) (hB : B ≤ w.heap.size) (o : Obj) : Reads (w.alloc o) B size A n xs := h.keep fun p hp => World.cell?_alloc_lt w o p (by omega)
theorem Reads.setCell (h : Reads w B size A n xs) {p : Addr} (hB : B ≤ p.block) (u : Value) : Reads (w.setCell p u) B size A n xs :=
  h.keep fun q hq => World.cell?_setCell_other w p q u (fun e => by subst e; omega)
theorem Reads.grown (h : Reads w B size A n xs) {row : Option Nat} (hg : w.grownBy w' row) (hB : B ≤ w.heap.size) (hr : ∀ g, row = some g → B ≤ g) : Reads w' B size A n xs :=
  h.keep fun p hp => World.cell?_of_block (hg.block p.block (by omega) (fun e => by have := hr _ e.symm; omega))
theorem Reads.of_own {base : Nat} {e : TypeId} {c : Nat} (h : w.ownsRow base e size (.slice A n c) n xs) : Reads w w.heap.size size A n xs := by
  refine ⟨h.1, fun hn => ?_⟩
  obtain ⟨g, cap, hv, _, hlt⟩ := h.form hn
  have hA : A = some ⟨g, 0, none⟩ := by injection hv
  subst hA
  exact ⟨_, rfl, hlt, h.cells (g := g) rfl⟩
end

/-- The values of a row of numbers of one kind. -/
def ints (k : IntKind) (l : List Nat) : List Value := l.map fun (x : Nat) => Value.int k (x : Int)

theorem ints_length (k : IntKind) (l : List Nat) : (ints k l).length = l.length := by simp [ints]
theorem ints_get (k : IntKind) (l : List Nat) (i : Nat) (h : i < l.length) : (ints k l)[i]? = some (.int k ((Dig.at_ l i : Nat) : Int)) := by
  rw [Dig.at_lt h]; simp [ints, h]
theorem ints_append (k : IntKind) (l m : List Nat) : ints k (l ++ m) = ints k l ++ ints k m := by simp [ints]

/-- A slice of numbers of kind k: its cells are those of l. -/
def Row (w : World) (B : Nat) (k : IntKind) (A : Option Addr) (n : Nat) (l : List Nat) : Prop := Reads w B 1 A n (ints k l)

section
variable {w w' : World} {B B' n : Nat} {k : IntKind} {A : Option Addr} {l : List Nat}
theorem Row.len (h : Row w B k A n l) : n = l.length := by have := h.1; rw [ints_length] at this; omega
theorem Row.at_ {i : Nat} (h : Row w B k A n l) (hi : i < n) : ∃ ad, A = some ad ∧ ad.block < B ∧ w.cell? (ad.add i) = some (.int k ((Dig.at_ l i : Nat) : Int)) := by
  obtain ⟨ad, u, e, hb, hx, hc⟩ := Reads.at_ h hi
  have hl := h.len
  rw [ints_get k l i (by omega)] at hx
  injection hx with hx
  exact ⟨ad, e, hb, by rw [hc, hx]⟩
theorem Row.keep (h : Row w B k A n l) (hk : ∀ p : Addr, p.block < B → w'.cell? p = w.cell? p) : Row w' B k A n l := Reads.keep h hk
theorem Row.more (h : Row w B k A n l) (hB : B ≤ B') : Row w B' k A n l := Reads.more h hB
theorem Row.below (h : Row w B k A n l) (hb : Below B w w') : Row w' B k A n l := Reads.below h hb
theorem Row.alloc (h : Row w B k A n l) (hB : B ≤ w.heap.size) (o : Obj) : Row (w.alloc o) B k A n l := Reads.alloc h hB o
theorem Row.take {m : Nat} (h : Row w B k A n l) (hm : m ≤ n) : Row w B k A m (l.take m) := by
  have hl := h.len
  refine ⟨by rw [ints_length, List.length_take]; omega, fun h0 => ?_⟩
  obtain ⟨ad, e, hb, hc⟩ := h.2 (by omega)
  refine ⟨ad, e, hb, fun j u hu => hc j u ?_⟩
  have : ints k (l.take m) = (ints k l).take m := by simp [ints, List.map_take]
  rw [this, List.getElem?_take] at hu
  split at hu
  · exact hu
  · cases hu
end

/-- A row of the call's own, as a slice in parts. -/
def Own (w : World) (base : Nat) (e : TypeId) (k : IntKind) (A : Option Addr) (n c : Nat) (l : List Nat) : Prop := w.ownsRow base e 1 (.slice A n c) n (ints k l)

section
variable {w w' : World} {base e n c : Nat} {k : IntKind} {A : Option Addr} {l : List Nat}
theorem Own.len (h : Own w base e k A n c l) : n = l.length := by have := h.1; rw [ints_length] at this; omega
theorem Own.row (h : Own w base e k A n c l) : Row w w.heap.size k A n l := Reads.of_own h
theorem Own.cap (h : Own w base e k A n c l) : n ≤ c ∧ c ≤ maxLen := by
  rcases h.2 with ⟨hv, h0⟩ | ⟨g, cap, cur, hv, _, _, h1, h2, _⟩
  · injection hv with _ h1 h2
    subst h0 h2
    exact ⟨Nat.le_refl _, by unfold maxLen; omega⟩
  · injection hv with _ _ h3
    subst h3
    exact ⟨h1, h2⟩
theorem Own.of {v : Value} (h : w.ownsRow base e 1 v n (ints k l)) : ∃ A c, v = .slice A n c ∧ Own w base e k A n c l := by
  rcases h.2 with ⟨hv, h0⟩ | ⟨g, cap, cur, hv, _⟩
  · subst h0
    exact ⟨none, 0, hv, by unfold Own; rw [← hv]; exact h⟩
  · exact ⟨some ⟨g, 0, none⟩, cap, hv, by unfold Own; rw [← hv]; exact h⟩
theorem Own.mono {base' : Nat} (h : Own w base e k A n c l) (hb : base' ≤ base) : Own w base' e k A n c l := by
  refine ⟨h.1, ?_⟩
  rcases h.2 with h2 | ⟨g, cap, cur, hv, hg, r⟩
  · exact Or.inl h2
  · exact Or.inr ⟨g, cap, cur, hv, Nat.le_trans hb hg, r⟩
theorem Own.setCell (h : Own w base e k A n c l) {p : Addr} (hp : p.block < base) (u : Value) : Own (w.setCell p u) base e k A n c l := ownsRow_setCell_below h hp u
theorem Own.below {B : Nat} (h : Own w base e k A n c l) (hb : Below B w w') (hB : w.heap.size ≤ B) : Own w' base e k A n c l := by
  refine ⟨h.1, ?_⟩
  rcases h.2 with h2 | ⟨g, cap, cur, hv, hg, hh, r⟩
  · exact Or.inl h2
  · exact Or.inr ⟨g, cap, cur, hv, hg, by rw [hb.block g (Nat.lt_of_lt_of_le (Array.getElem?_eq_some_iff.1 hh).1 hB)]; exact hh, r⟩
theorem Own.nil (w : World) (base : Nat) (e : TypeId) (k : IntKind) : Own w base e k none 0 0 [] := World.ownsRow_nil w base e 1
end

/-- 2 to the 64, kept behind a name. -/
def LB : Nat := 18446744073709551616
theorem LB_pos : 0 < LB := by unfold LB; omega
theorem LB_lt {x : Nat} (h : x < LB) : (x : Int) < 18446744073709551616 := by unfold LB at h; omega

/-- A number of limbs: a slice in parts that holds the row of N's digits; its memory lies from block 'base' on. -/
def Num (w : World) (base : Nat) (A : Option Addr) (n c N : Nat) : Prop :=
  ∃ l, Row w w.heap.size .u64 A n l ∧ Dig.Norm l ∧ Dig.Below LB l ∧ Dig.val LB l = N ∧ n ≤ c ∧ c ≤ maxLen ∧ (n = 0 → A = none ∧ c = 0) ∧ ∀ ad, A = some ad → base ≤ ad.block

theorem Row.setCell {w : World} {B n : Nat} {k : IntKind} {A : Option Addr} {l : List Nat} (h : Row w B k A n l) {p : Addr} (hp : ∀ ad, A = some ad → p.block ≠ ad.block) (u : Value) : Row (w.setCell p u) B k A n l := by
  refine ⟨h.1, fun hn => ?_⟩
  obtain ⟨ad, e, hb, hc⟩ := h.2 hn
  refine ⟨ad, e, hb, fun j x hx => ?_⟩
  rw [World.cell?_setCell_other w p (ad.add j) u (fun e2 => hp ad e (by rw [e2, block_of_add]))]
  exact hc j x hx
theorem Own.ge {w : World} {base e n c : Nat} {k : IntKind} {A : Option Addr} {l : List Nat} (h : Own w base e k A n c l) : ∀ ad, A = some ad → base ≤ ad.block := by
  rintro ad rfl
  rcases h.2 with ⟨hv, _⟩ | ⟨g, cap, cur, hv, hg, _⟩
  · injection hv with h1; cases h1
  · injection hv with h1; injection h1 with h1; subst h1; exact hg

section
variable {w w' : World} {n c N base : Nat} {A : Option Addr}
theorem Num.below (h : Num w base A n c N) (hb : Below w.heap.size w w') : Num w' base A n c N := by
  obtain ⟨l, h1, h2⟩ := h
  exact ⟨l, (h1.below hb).more hb.size, h2⟩
theorem Num.alloc (h : Num w base A n c N) (o : Obj) : Num (w.alloc o) base A n c N := h.below ((Below.refl _ _).alloc (Nat.le_refl _) o)
theorem Num.zero (w : World) (base : Nat) : Num w base none 0 0 0 := ⟨[], Reads.none_, Dig.norm_nil, Dig.Below.nil _, rfl, Nat.le_refl _, by unfold maxLen; omega, fun _ => ⟨rfl, rfl⟩, fun _ h => by cases h⟩
theorem Num.mono {base' : Nat} (h : Num w base A n c N) (hb : base' ≤ base) : Num w base' A n c N := by
  obtain ⟨l, h1, h2, h3, h4, h5, h6, h7, h8⟩ := h
  exact ⟨l, h1, h2, h3, h4, h5, h6, h7, fun ad ha => Nat.le_trans hb (h8 ad ha)⟩
theorem Num.setCell (h : Num w base A n c N) {p : Addr} (hp : p.block < base) (u : Value) : Num (w.setCell p u) base A n c N := by
  obtain ⟨l, h1, h2, h3, h4, h5, h6, h7, h8⟩ := h
  have e : (w.setCell p u).heap.size = w.heap.size := by simp [World.setCell]
  exact ⟨l, by rw [e]; exact h1.setCell (fun ad ha => by have := h8 ad ha; omega) u, h2, h3, h4, h5, h6, h7, h8⟩
theorem Num.le (h : Num w base A n c N) : n ≤ c ∧ c ≤ maxLen := by
  obtain ⟨l, h1, h2, h3, h4, h5, h6, h7, h8⟩ := h
  exact ⟨h5, h6⟩
end
theorem Num.of_own {w : World} {base n c N e : Nat} {A : Option Addr} {l : List Nat} (h : Own w base e .u64 A n c l) (h1 : Dig.Norm l) (h2 : Dig.Below LB l) (h3 : Dig.val LB l = N) (h4 : n = 0 → A = none ∧ c = 0) : Num w base A n c N :=
  ⟨l, h.row, h1, h2, h3, h.cap.1, h.cap.2, h4, h.ge⟩

theorem bcell {W w1 : World} (hb : Below W.heap.size W w1) : (∀ b o, b < W.heap.size → w1.cell? ⟨b, o, none⟩ = W.cell? ⟨b, o, none⟩) ∧ (∀ b o, b < W.heap.size → w1.frozen? ⟨b, o, none⟩ = W.frozen? ⟨b, o, none⟩) :=
  ⟨fun b o h => hb.cell (p := ⟨b, o, none⟩) h, fun b o h => hb.frozen (p := ⟨b, o, none⟩) h⟩

theorem bcell1 {W w1 : World} (hb : Below W.heap.size W w1) {b o : Nat} {v : Value} (hc : W.cell? ⟨b, o, none⟩ = some v) (hf : W.frozen? ⟨b, o, none⟩ = false) : w1.cell? ⟨b, o, none⟩ = some v ∧ w1.frozen? ⟨b, o, none⟩ = false := by
  have hlt : b < W.heap.size := World.block_lt_of_cell? W ⟨b, o, none⟩ hc
  exact ⟨(hb.cell (p := ⟨b, o, none⟩) hlt).trans hc, (hb.frozen (p := ⟨b, o, none⟩) hlt).trans hf⟩

section
variable {P : Program} (w : World)
theorem run_append_of_nil (base : Nat) (t ty e : TypeId) (i : TypeInfo) (size : Nat) (ht : P.underlying t = some (.slice e)) (hi : P.info? e = some i)
    (v : Value) (n : Nat) (xs : List Value) (hown : w.ownsRow base e size v n xs) (c : Nat) : (Builtin.append_ #[t, t] ty #[v, .slice none 0 c]).run P w = .ok v w := by
  rcases hown.2 with ⟨rfl, rfl⟩ | ⟨g, cap, cur, rfl, _, _, hnc, _⟩
  · simp [Builtin.append_, run_underlying ht, sizeOf, typeInfo, hi, Builtin.lenOf, Builtin.firstCells]
  · simp [Builtin.append_, run_underlying ht, sizeOf, typeInfo, hi, Builtin.lenOf, Builtin.firstCells, hnc, storeCells]

theorem run_append_any (base : Nat) (t ty e : TypeId) (i : TypeInfo) (z : Value) (size bytes : Nat) (ht : P.underlying t = some (.slice e)) (hi : P.info? e = some i) (hz : i.zero = some z)
    (hsize : i.size = size) (hby : i.bytes = bytes) (hzs : z.cells.size = size) (hsz : 0 < size)
    (v : Value) (n : Nat) (xs : List Value) (hown : w.ownsRow base e size v n xs)
    (B : Nat) (A : Option Addr) (m c : Nat) (news : List Value) (hr : Reads w B size A m news) (h1 : ∀ u ∈ news, u.oneCell' = true)
    (h63 : n + m ≤ maxLen) (hbytes : (n + m) * bytes ≤ 140737488355328) (hbase : base ≤ w.heap.size) :
    ∃ v' w', (Builtin.append_ #[t, t] ty #[v, .slice A m c]).run P w = .ok v' w' ∧ w'.ownsRow base e size v' (n + m) (xs ++ news) ∧ w.grownBy w' v.ownBlock ∧
      (v'.ownBlock = v.ownBlock ∨ v'.ownBlock = some w.heap.size) := by
  rcases A with _ | ad
  · have hm : m = 0 := by
      rcases Nat.eq_zero_or_pos m with h0 | h0
      · exact h0
      · obtain ⟨ad, h, _⟩ := hr.2 h0
        cases h
    subst hm
    have hn : news = [] := List.eq_nil_of_length_eq_zero (by simpa using hr.1)
    subst hn
    exact ⟨v, w, run_append_of_nil w base t ty e i size ht hi v n xs hown c, by simpa using hown, World.grownBy.refl w _, .inl rfl⟩
  · have hcells : ∀ j u, news[j]? = some u → w.cell? (ad.add j) = some u := by
      intro j u hu
      rcases Nat.eq_zero_or_pos m with h0 | h0
      · subst h0
        have hn : news = [] := List.eq_nil_of_length_eq_zero (by simpa using hr.1)
        subst hn
        simp at hu
      · obtain ⟨ad', h, _, hc⟩ := hr.2 h0
        injection h with h
        subst h
        exact hc j u hu
    obtain ⟨v', w', hrun, h2, h3, _, h5⟩ := run_append_own_at (P := P) w base t ty e i z size bytes ht hi hz hsize hby hzs hsz v n xs hown ad m c news hr.1 hcells h1 h63 hbytes hbase
    exact ⟨v', w', hrun, h2, h3, h5⟩

theorem wp_append_any {o : Oper} {a : Act} {K : Act → World → Prop} {Q : Exit → Act → World → Prop} (s x : Operand) (t : TypeId)
    (ho : o.op = .call { callee := .builtin .append, args := #[s, x], argTypes := #[t, t] })
    (base : Nat) (e : TypeId) (i : TypeInfo) (z : Value) (size bytes : Nat) (ht : P.underlying t = some (.slice e)) (hi : P.info? e = some i) (hz : i.zero = some z)
    (hsize : i.size = size) (hby : i.bytes = bytes) (hzs : z.cells.size = size) (hsz : 0 < size)
    (v : Value) (n : Nat) (xs : List Value) (hs : a.eval s = v) (hown : w.ownsRow base e size v n xs)
    (B : Nat) (A : Option Addr) (m c : Nat) (news : List Value) (hx : a.eval x = .slice A m c) (hr : Reads w B size A m news) (h1 : ∀ u ∈ news, u.oneCell' = true)
    (h63 : n + m ≤ maxLen) (hbytes : (n + m) * bytes ≤ 140737488355328) (hbase : base ≤ w.heap.size)
    (h : ∀ v' w', w'.ownsRow base e size v' (n + m) (xs ++ news) → w.grownBy w' v.ownBlock → (v'.ownBlock = v.ownBlock ∨ v'.ownBlock = some w.heap.size) → K (a.put o.dst v') w') : o.wp P a w K Q := by
  obtain ⟨v', w', hrun, h2, h3, h4⟩ := run_append_any (P := P) w base t o.type e i z size bytes ht hi hz hsize hby hzs hsz v n xs hown B A m c news hr h1 h63 hbytes hbase
  unfold Oper.wp execOp
  simp only [ho, resolve, invoke, builtin, Sem.run_bind, Sem.run_pure, Result.andThen_ok, List.map_toArray, List.map_cons, List.map_nil, hs, hx, hrun]
  exact h v' w' h2 h3 h4

theorem wpList_append_any {ops : Array Oper} {rest : List Oper} {o : Oper} {a : Act} {Q : Exit → Act → World → Prop} (hgd : o.guard = none) (s x : Operand) (t : TypeId)
    (ho : o.op = .call { callee := .builtin .append, args := #[s, x], argTypes := #[t, t] })
    (base : Nat) (e : TypeId) (i : TypeInfo) (z : Value) (size bytes : Nat) (ht : P.underlying t = some (.slice e)) (hi : P.info? e = some i) (hz : i.zero = some z)
    (hsize : i.size = size) (hby : i.bytes = bytes) (hzs : z.cells.size = size) (hsz : 0 < size)
    (v : Value) (n : Nat) (xs : List Value) (hs : a.eval s = v) (hown : w.ownsRow base e size v n xs)
    (B : Nat) (A : Option Addr) (m c : Nat) (news : List Value) (hx : a.eval x = .slice A m c) (hr : Reads w B size A m news) (h1 : ∀ u ∈ news, u.oneCell' = true)
    (h63 : n + m ≤ maxLen) (hbytes : (n + m) * bytes ≤ 140737488355328) (hbase : base ≤ w.heap.size)
    (h : ∀ v' w', w'.ownsRow base e size v' (n + m) (xs ++ news) → w.grownBy w' v.ownBlock → (v'.ownBlock = v.ownBlock ∨ v'.ownBlock = some w.heap.size) → wpList P ops Q rest (a.put o.dst v') w') : wpList P ops Q (o :: rest) a w :=
  wpList_plain hgd fun _ hK => wp_append_any w s x t ho base e i z size bytes ht hi hz hsize hby hzs hsz v n xs hs hown B A m c news hx hr h1 h63 hbytes hbase fun v' w' h2 h3 h4 => hK _ _ (h v' w' h2 h3 h4)
end

theorem ints_oneCell (k : IntKind) (l : List Nat) : ∀ u ∈ ints k l, u.oneCell' = true := by
  intro u hu
  obtain ⟨x, _, rfl⟩ := List.mem_map.1 hu
  rfl

theorem info_u64 : (Tryd.prog.info? 102).map (fun i => (i.zero, i.size, i.bytes)) = some (some (.int .u64 0), 1, 8) := by kernel_rfl
theorem info_u8 : (Tryd.prog.info? 5).map (fun i => (i.zero, i.size, i.bytes)) = some (some (.int .u8 0), 1, 1) := by kernel_rfl


/-- A block of numbers, known whole. -/
def Blk (w : World) (g e : Nat) (k : IntKind) (L : List Nat) : Prop := w.heap[g]? = some (.cells (ints k L).toArray e (0, 0))

section
variable {w w' : World} {g e : Nat} {k : IntKind} {L : List Nat}
theorem Blk.lt (h : Blk w g e k L) : g < w.heap.size := by
  rcases Nat.lt_or_ge g w.heap.size with hlt | hge
  · exact hlt
  · unfold Blk at h; rw [Array.getElem?_eq_none hge] at h; cases h
theorem Blk.cell (h : Blk w g e k L) {i : Nat} (hi : i < L.length) : w.cell? ⟨g, i, none⟩ = some (.int k (Dig.at_ L i : Nat)) := by
  rw [cell_of_row w g i _ e (0, 0) h]
  simpa using ints_get k L i hi
theorem Blk.frozen (h : Blk w g e k L) (i : Nat) : w.frozen? ⟨g, i, none⟩ = false := by
  unfold Blk at h
  simp [World.frozen?, h]
theorem ints_set (k : IntKind) (L : List Nat) (i x : Nat) : (ints k L).set i (.int k (x : Int)) = ints k (L.set i x) := by simp [ints, List.map_set]
theorem Blk.set_ (h : Blk w g e k L) (i x : Nat) : Blk (w.setCell ⟨g, i, none⟩ (.int k (x : Int))) g e k (L.set i x) := by
  unfold Blk at h ⊢
  rw [← ints_set]
  simp [World.setCell, Array.getElem?_modify, h]
theorem Blk.far (h : Blk w g e k L) {p : Addr} (hp : g ≠ p.block) (u : Value) : Blk (w.setCell p u) g e k L := (Below.heap_setCell w p u g hp).trans h
theorem Blk.below {B : Nat} (h : Blk w g e k L) (hb : Below B w w') (hg : g < B) : Blk w' g e k L := (hb.block g hg).trans h
theorem Blk.own {base : Nat} (h : Blk w g e k L) (hg : base ≤ g) (hm : L.length ≤ maxLen) : Own w base e k (some ⟨g, 0, none⟩) L.length L.length L :=
  ⟨by simp [ints], .inr ⟨g, L.length, _, rfl, hg, h, Nat.le_refl _, hm, by simp [ints], by simp only [Nat.mul_one]; rw [List.take_of_length_le (by simp [ints])]⟩⟩
theorem Blk.row (h : Blk w g e k L) : Row w w.heap.size k (some ⟨g, 0, none⟩) L.length L := by
  refine ⟨by simp [ints], fun _ => ⟨_, rfl, h.lt, fun j u hu => ?_⟩⟩
  have e1 : (⟨g, 0, none⟩ : Addr).add j = ⟨g, j, none⟩ := by unfold Addr.add; split <;> simp_all
  rw [e1, cell_of_row w g j _ e (0, 0) h]
  simpa using hu
end

theorem madeCells_one (v : Value) (n : Nat) : madeCells #[v] n = (List.replicate n v).toArray := by
  apply Array.ext
  · simp [madeCells]
  · intro i h1 h2
    simp [madeCells, Nat.mod_one]

theorem ints_zeros (k : IntKind) (n : Nat) : ints k (List.replicate n 0) = List.replicate n (.int k 0) := by simp [ints]

theorem Blk.made (w : World) (e n : Nat) (k : IntKind) : Blk (w.alloc (.cells (ints k (List.replicate n 0)).toArray e)) w.heap.size e k (List.replicate n 0) := by
  unfold Blk
  exact heap_alloc_new w _
end

section
open Go.RowKit

/-- A box: its cells, that may be written. -/
def Box (W : World) (g : Nat) (vs : List Value) : Prop := ∀ i v, vs[i]? = some v → W.cell? ⟨g, i, none⟩ = some v ∧ W.frozen? ⟨g, i, none⟩ = false
theorem Box.step {W W' : World} {g : Nat} {vs : List Value} (h : Box W g vs) (hb : Below W.heap.size W W') : Box W' g vs := fun i v hv => by
  obtain ⟨h1, h2⟩ := h i v hv
  have hlt := World.block_lt_of_cell? W ⟨g, i, none⟩ h1
  exact ⟨(hb.cell (p := ⟨g, i, none⟩) hlt).trans h1, (hb.frozen (p := ⟨g, i, none⟩) hlt).trans h2⟩
theorem Box.new (W : World) (vs : List Value) (T : TypeId) : Box (W.alloc (.cells vs.toArray T)) W.heap.size vs := fun i v hv => by
  refine ⟨?_, by simp [go_sem]⟩
  rw [cell_of_row _ _ i vs.toArray T (0, 0) (heap_alloc_new W _)]
  simpa using hv
theorem Box.set {W : World} {g : Nat} {vs : List Value} (h : Box W g vs) (j : Nat) (u : Value) : Box (W.setCell ⟨g, j, none⟩ u) g (vs.set j u) := fun i v hv => by
  have hi := (List.getElem?_eq_some_iff.1 hv).1
  rw [List.length_set] at hi
  obtain ⟨h1, h2⟩ := h i vs[i] (List.getElem?_eq_getElem hi)
  refine ⟨?_, by simpa using h2⟩
  by_cases e : i = j
  · subst e
    rw [List.getElem?_set_self hi] at hv
    injection hv with hv
    rw [← hv]
    exact World.cell?_setCell_same _ _ _ h1
  · rw [List.getElem?_set_ne (fun e2 => e e2.symm)] at hv
    rw [List.getElem?_eq_getElem hi] at hv
    rw [World.cell?_setCell_other _ _ _ _ (fun e2 => by injection e2; omega), h1, hv]
theorem Box.far {W : World} {g : Nat} {vs : List Value} (h : Box W g vs) {p : Addr} (hp : p.block ≠ g) (u : Value) : Box (W.setCell p u) g vs := fun i v hv => by
  obtain ⟨h1, h2⟩ := h i v hv
  exact ⟨(World.cell?_setCell_other _ _ _ _ (fun e => hp (by rw [e]))).trans h1, by simpa using h2⟩
theorem Box.far5 {W : World} {g b : Nat} {vs : List Value} (h : Box W g vs) (hp : b ≠ g) (v0 v1 v2 v3 v4 : Value) : Box (((((W.setCell ⟨b, 0, none⟩ v0).setCell ⟨b, 1, none⟩ v1).setCell ⟨b, 2, none⟩ v2).setCell ⟨b, 3, none⟩ v3).setCell ⟨b, 4, none⟩ v4) g vs :=
  ((((h.far hp _).far hp _).far hp _).far hp _).far hp _
theorem Box.far3 {W : World} {g b : Nat} {vs : List Value} (h : Box W g vs) (hp : b ≠ g) (v0 v1 v2 : Value) : Box (((W.setCell ⟨b, 0, none⟩ v0).setCell ⟨b, 1, none⟩ v1).setCell ⟨b, 2, none⟩ v2) g vs :=
  ((h.far hp _).far hp _).far hp _
theorem Box.two {W : World} {g : Nat} {a b : Value} {vs : List Value} (h : Box W g (a :: b :: vs)) : W.cell? ⟨g, 0, none⟩ = some a ∧ W.cell? ⟨g, 1, none⟩ = some b := ⟨(h 0 _ rfl).1, (h 1 _ rfl).1⟩
theorem Box.three {W : World} {g : Nat} {a b c : Value} {vs : List Value} (h : Box W g (a :: b :: c :: vs)) : W.cell? ⟨g, 0, none⟩ = some a ∧ W.cell? ⟨g, 1, none⟩ = some b ∧ W.cell? ⟨g, 2, none⟩ = some c := ⟨(h 0 _ rfl).1, (h 1 _ rfl).1, (h 2 _ rfl).1⟩
theorem Box.drew {W : World} {g : Nat} {vs : List Value} (h : Box W g vs) : Box W.drew g vs := h.step (Below.refl _ _).drew
theorem Box.lt {W : World} {g : Nat} {vs : List Value} (h : Box W g vs) (h0 : vs ≠ []) : g < W.heap.size := by
  cases vs with
  | nil => exact absurd rfl h0
  | cons v r => exact World.block_lt_of_cell? W ⟨g, 0, none⟩ (h 0 v rfl).1
theorem bnew5 (W : World) (o : Obj) : Below W.heap.size W (W.alloc o) := (Below.refl _ _).alloc (Nat.le_refl _) o
theorem bth5 {w W W' : World} (h : Below w.heap.size w W) (hb : Below W.heap.size W W') : Below w.heap.size w W' := h.trans (hb.mono h.size)

theorem cst5 {W W' : World} (hb : Below W.heap.size W W') {p : Addr} {u : Value} (h : W.cell? p = some u) : W'.cell? p = some u :=
  (hb.cell (p := p) (World.block_lt_of_cell? W p h)).trans h
theorem Box.five5 {W : World} {g : Nat} {a b c d e : Value} (h : Box W g [a, b, c, d, e]) : W.cell? ⟨g, 0, none⟩ = some a ∧ W.cell? ⟨g, 1, none⟩ = some b ∧ W.cell? ⟨g, 2, none⟩ = some c ∧ W.cell? ⟨g, 3, none⟩ = some d ∧ W.cell? ⟨g, 4, none⟩ = some e := ⟨(h 0 _ rfl).1, (h 1 _ rfl).1, (h 2 _ rfl).1, (h 3 _ rfl).1, (h 4 _ rfl).1⟩
theorem Box.frz5 {W : World} {g : Nat} {a b c d e : Value} (h : Box W g [a, b, c, d, e]) : W.frozen? ⟨g, 0, none⟩ = false ∧ W.frozen? ⟨g, 1, none⟩ = false ∧ W.frozen? ⟨g, 2, none⟩ = false ∧ W.frozen? ⟨g, 3, none⟩ = false ∧ W.frozen? ⟨g, 4, none⟩ = false := ⟨(h 0 _ rfl).2, (h 1 _ rfl).2, (h 2 _ rfl).2, (h 3 _ rfl).2, (h 4 _ rfl).2⟩
/-- Three boxes, new. -/
theorem threeNew (w : World) (va vt vf : List Value) (Ta Tt Tf : TypeId) : Box (((w.alloc (.cells va.toArray Ta)).alloc (.cells vt.toArray Tt)).alloc (.cells vf.toArray Tf)) w.heap.size va ∧ Box (((w.alloc (.cells va.toArray Ta)).alloc (.cells vt.toArray Tt)).alloc (.cells vf.toArray Tf)) (w.heap.size + 1) vt ∧ Box (((w.alloc (.cells va.toArray Ta)).alloc (.cells vt.toArray Tt)).alloc (.cells vf.toArray Tf)) (w.heap.size + 1 + 1) vf ∧ Below w.heap.size w (((w.alloc (.cells va.toArray Ta)).alloc (.cells vt.toArray Tt)).alloc (.cells vf.toArray Tf)) ∧ (((w.alloc (.cells va.toArray Ta)).alloc (.cells vt.toArray Tt)).alloc (.cells vf.toArray Tf)).heap.size = w.heap.size + 3 := by
  have b1 := Box.new w va Ta
  have b2 := Box.new (w.alloc (.cells va.toArray Ta)) vt Tt
  have b3 := Box.new ((w.alloc (.cells va.toArray Ta)).alloc (.cells vt.toArray Tt)) vf Tf
  have e1 : (w.alloc (.cells va.toArray Ta)).heap.size = w.heap.size + 1 := by simp
  have e2 : ((w.alloc (.cells va.toArray Ta)).alloc (.cells vt.toArray Tt)).heap.size = w.heap.size + 1 + 1 := by simp
  rw [e1] at b2
  rw [e2] at b3
  exact ⟨(b1.step (bnew5 _ _)).step (bnew5 _ _), b2.step (bnew5 _ _), b3, bth5 (bth5 (bnew5 _ _) (bnew5 _ _)) (bnew5 _ _), by simp⟩
end

section
open Go.RowKit

/-- An expression: its kind, number, name, operator, arguments, line and column. -/
inductive XV where
  | mk (k n : Int) (x : List UInt8) (o : Int) (gs : List XV) (l c : Int)
/-- A statement: its kind, name, expressions, then, else, line and column. -/
inductive SV where
  | mk (k : Int) (x : List UInt8) (es : List XV) (ts us : List SV) (l c : Int)
namespace XV
def k : XV → Int | .mk k _ _ _ _ _ _ => k
def n : XV → Int | .mk _ n _ _ _ _ _ => n
def x : XV → List UInt8 | .mk _ _ x _ _ _ _ => x
def o : XV → Int | .mk _ _ _ o _ _ _ => o
def gs : XV → List XV | .mk _ _ _ _ gs _ _ => gs
def l : XV → Int | .mk _ _ _ _ _ l _ => l
def c : XV → Int | .mk _ _ _ _ _ _ c => c
end XV
namespace SV
def k : SV → Int | .mk k _ _ _ _ _ _ => k
def x : SV → List UInt8 | .mk _ x _ _ _ _ _ => x
def es : SV → List XV | .mk _ _ es _ _ _ _ => es
def ts : SV → List SV | .mk _ _ _ ts _ _ _ => ts
def us : SV → List SV | .mk _ _ _ _ us _ _ => us
def l : SV → Int | .mk _ _ _ _ _ l _ => l
def c : SV → Int | .mk _ _ _ _ _ _ c => c
end SV

mutual
/-- How many there are in one; in a row. -/
def xsz1 : XV → Nat
  | .mk _ _ _ _ gs _ _ => 1 + xsz gs
def xsz : List XV → Nat
  | [] => 0
  | e :: r => xsz1 e + xsz r
end
mutual
def ssz1 : SV → Nat
  | .mk _ _ es ts us _ _ => 1 + xsz es + ssz ts + ssz us
def ssz : List SV → Nat
  | [] => 0
  | s :: r => ssz1 s + ssz r
end
theorem xsz1_eq (e : XV) : xsz1 e = 1 + xsz e.gs := by cases e; simp [xsz1, XV.gs]
theorem ssz1_eq (s : SV) : ssz1 s = 1 + xsz s.es + ssz s.ts + ssz s.us := by cases s; simp [ssz1, SV.es, SV.ts, SV.us]
theorem xsz_get {es : List XV} {i : Nat} {e : XV} (h : es[i]? = some e) : xsz1 e ≤ xsz es := by
  induction es generalizing i with
  | nil => simp at h
  | cons a r ih =>
    cases i with
    | zero => simp at h; subst h; simp [xsz]
    | succ i => have := ih (by simpa using h); simp [xsz]; omega
theorem ssz_get {es : List SV} {i : Nat} {e : SV} (h : es[i]? = some e) : ssz1 e ≤ ssz es := by
  induction es generalizing i with
  | nil => simp at h
  | cons a r ih =>
    cases i with
    | zero => simp at h; subst h; simp [ssz]
    | succ i => have := ih (by simpa using h); simp [ssz]; omega
theorem xsz_len (es : List XV) : es.length ≤ xsz es := by
  induction es with
  | nil => simp
  | cons a r ih => simp [xsz, xsz1_eq]; omega
theorem ssz_len (es : List SV) : es.length ≤ ssz es := by
  induction es with
  | nil => simp
  | cons a r ih => simp [ssz, ssz1_eq]; omega
theorem xsz_take {es : List XV} {i : Nat} {e : XV} (h : es[i]? = some e) : xsz (es.take (i + 1)) = xsz (es.take i) + (1 + xsz e.gs) := by
  rw [List.take_add_one, h]
  generalize es.take i = r
  induction r with
  | nil => simp [xsz, xsz1_eq]
  | cons a r ih => simp only [List.cons_append, xsz, ih]; omega
theorem ssz_take {es : List SV} {i : Nat} {e : SV} (h : es[i]? = some e) : ssz (es.take (i + 1)) = ssz (es.take i) + (1 + xsz e.es + ssz e.ts + ssz e.us) := by
  rw [List.take_add_one, h]
  generalize es.take i = r
  induction r with
  | nil => simp [ssz, ssz1_eq]
  | cons a r ih => simp only [List.cons_append, ssz, ih]; omega
theorem xsz_take_le (es : List XV) (i : Nat) : xsz (es.take i) ≤ xsz es := by
  induction es generalizing i with
  | nil => simp
  | cons a r ih =>
    cases i with
    | zero => simp [xsz]
    | succ i => have := ih i; simp [xsz]; omega
theorem ssz_take_le (es : List SV) (i : Nat) : ssz (es.take i) ≤ ssz es := by
  induction es generalizing i with
  | nil => simp
  | cons a r ih =>
    cases i with
    | zero => simp [ssz]
    | succ i => have := ih i; simp [ssz]; omega

mutual
/-- The cells of an expression; a row of expressions from an address on. -/
def XC (W : World) : XV → List Value → Prop
  | .mk k n x o gs l c, cs => ∃ (A : Option Addr) (cap : Nat), cs = [.int .i64 k, .int .i64 n, .string ⟨x.toArray⟩, .int .i64 o, .slice A gs.length cap, .int .i64 l, .int .i64 c] ∧ (gs ≠ [] → ∃ ad, A = some ad ∧ XS W gs ad)
def XS (W : World) : List XV → Addr → Prop
  | [], _ => True
  | e :: r, ad => (∃ cs, XC W e cs ∧ ∀ j v, cs[j]? = some v → W.cell? (ad.add j) = some v) ∧ XS W r (ad.add 7)
end
/-- A slice that reads gs expressions. -/
def XR (W : World) (A : Option Addr) (es : List XV) : Prop := es ≠ [] → ∃ ad, A = some ad ∧ XS W es ad
mutual
def SC (W : World) : SV → List Value → Prop
  | .mk k x es ts us l c, cs => ∃ (A1 : Option Addr) (c1 : Nat) (A2 : Option Addr) (c2 : Nat) (A3 : Option Addr) (c3 : Nat), cs = [.int .i64 k, .string ⟨x.toArray⟩, .slice A1 es.length c1, .slice A2 ts.length c2, .slice A3 us.length c3, .int .i64 l, .int .i64 c] ∧ XR W A1 es ∧ (ts ≠ [] → ∃ ad, A2 = some ad ∧ SS W ts ad) ∧ (us ≠ [] → ∃ ad, A3 = some ad ∧ SS W us ad)
def SS (W : World) : List SV → Addr → Prop
  | [], _ => True
  | e :: r, ad => (∃ cs, SC W e cs ∧ ∀ j v, cs[j]? = some v → W.cell? (ad.add j) = some v) ∧ SS W r (ad.add 7)
end
def SR (W : World) (A : Option Addr) (es : List SV) : Prop := es ≠ [] → ∃ ad, A = some ad ∧ SS W es ad

theorem addr_add (p : Addr) (a b : Nat) : (p.add a).add b = p.add (a + b) := by rw [add_of_add]
/-- One expression of a row, in memory; and of statements. -/
def XE (W : World) (p : Addr) (e : XV) : Prop := ∃ (A : Option Addr) (cap : Nat), W.cell? p = some (.int .i64 e.k) ∧ W.cell? ⟨p.block, p.off + 1, none⟩ = some (.int .i64 e.n) ∧ W.cell? ⟨p.block, p.off + 2, none⟩ = some (.string ⟨e.x.toArray⟩) ∧ W.cell? ⟨p.block, p.off + 3, none⟩ = some (.int .i64 e.o) ∧ W.cell? ⟨p.block, p.off + 4, none⟩ = some (.slice A e.gs.length cap) ∧ W.cell? ⟨p.block, p.off + 5, none⟩ = some (.int .i64 e.l) ∧ W.cell? ⟨p.block, p.off + 6, none⟩ = some (.int .i64 e.c) ∧ XR W A e.gs
def SE (W : World) (p : Addr) (e : SV) : Prop := ∃ (A1 : Option Addr) (c1 : Nat) (A2 : Option Addr) (c2 : Nat) (A3 : Option Addr) (c3 : Nat), W.cell? p = some (.int .i64 e.k) ∧ W.cell? ⟨p.block, p.off + 1, none⟩ = some (.string ⟨e.x.toArray⟩) ∧ W.cell? ⟨p.block, p.off + 2, none⟩ = some (.slice A1 e.es.length c1) ∧ W.cell? ⟨p.block, p.off + 3, none⟩ = some (.slice A2 e.ts.length c2) ∧ W.cell? ⟨p.block, p.off + 4, none⟩ = some (.slice A3 e.us.length c3) ∧ W.cell? ⟨p.block, p.off + 5, none⟩ = some (.int .i64 e.l) ∧ W.cell? ⟨p.block, p.off + 6, none⟩ = some (.int .i64 e.c) ∧ XR W A1 e.es ∧ SR W A2 e.ts ∧ SR W A3 e.us
theorem XS.get {W : World} : ∀ {es : List XV} {ad : Addr} (_ : XS W es ad) {i : Nat} {e : XV} (_ : es[i]? = some e), ∃ cs, XC W e cs ∧ ∀ j v, cs[j]? = some v → W.cell? ((ad.add (i * 7)).add j) = some v
  | [], _, _, i, e, h => by simp at h
  | a :: r, ad, hx, i, e, h => by
    unfold XS at hx
    cases i with
    | zero =>
      simp at h
      subst h
      rw [Nat.zero_mul, show ad.add 0 = ad by simp [Addr.add]]
      exact hx.1
    | succ i =>
      obtain ⟨cs, h1, h2⟩ := XS.get hx.2 (i := i) (by simpa using h)
      refine ⟨cs, h1, fun j v hj => ?_⟩
      have := h2 j v hj
      rw [addr_add ad 7 (i * 7)] at this
      rwa [show (i + 1) * 7 = 7 + i * 7 by omega]
theorem SS.get {W : World} : ∀ {es : List SV} {ad : Addr} (_ : SS W es ad) {i : Nat} {e : SV} (_ : es[i]? = some e), ∃ cs, SC W e cs ∧ ∀ j v, cs[j]? = some v → W.cell? ((ad.add (i * 7)).add j) = some v
  | [], _, _, i, e, h => by simp at h
  | a :: r, ad, hx, i, e, h => by
    unfold SS at hx
    cases i with
    | zero =>
      simp at h
      subst h
      rw [Nat.zero_mul, show ad.add 0 = ad by simp [Addr.add]]
      exact hx.1
    | succ i =>
      obtain ⟨cs, h1, h2⟩ := SS.get hx.2 (i := i) (by simpa using h)
      refine ⟨cs, h1, fun j v hj => ?_⟩
      have := h2 j v hj
      rw [addr_add ad 7 (i * 7)] at this
      rwa [show (i + 1) * 7 = 7 + i * 7 by omega]
theorem XR.el {W : World} {A : Option Addr} {es : List XV} (h : XR W A es) {i : Nat} (hi : i < es.length) : ∃ ad e, A = some ad ∧ es[i]? = some e ∧ XE W (ad.add (i * 7)) e := by
  obtain ⟨ad, hA, hx⟩ := h (by rintro rfl; simp at hi)
  obtain ⟨e, he⟩ : ∃ e, es[i]? = some e := ⟨_, List.getElem?_eq_getElem hi⟩
  obtain ⟨cs, h1, h2⟩ := hx.get he
  cases e with
  | mk k n x o gs l c =>
    unfold XC at h1
    obtain ⟨A', cap, rfl, h3⟩ := h1
    refine ⟨ad, _, hA, he, A', cap, ?_, ?_, ?_, ?_, ?_, ?_, ?_, h3⟩
    · have := h2 0 _ rfl; rwa [show ∀ p : Addr, p.add 0 = p by intro p; simp [Addr.add]] at this
    · exact h2 1 _ rfl
    · exact h2 2 _ rfl
    · exact h2 3 _ rfl
    · exact h2 4 _ rfl
    · exact h2 5 _ rfl
    · exact h2 6 _ rfl
theorem SR.el {W : World} {A : Option Addr} {es : List SV} (h : SR W A es) {i : Nat} (hi : i < es.length) : ∃ ad e, A = some ad ∧ es[i]? = some e ∧ SE W (ad.add (i * 7)) e := by
  obtain ⟨ad, hA, hx⟩ := h (by rintro rfl; simp at hi)
  obtain ⟨e, he⟩ : ∃ e, es[i]? = some e := ⟨_, List.getElem?_eq_getElem hi⟩
  obtain ⟨cs, h1, h2⟩ := hx.get he
  cases e with
  | mk k x es ts us l c =>
    unfold SC at h1
    obtain ⟨A1, c1, A2, c2, A3, c3, rfl, h3, h4, h5⟩ := h1
    refine ⟨ad, _, hA, he, A1, c1, A2, c2, A3, c3, ?_, ?_, ?_, ?_, ?_, ?_, ?_, h3, h4, h5⟩
    · have := h2 0 _ rfl; rwa [show ∀ p : Addr, p.add 0 = p by intro p; simp [Addr.add]] at this
    · exact h2 1 _ rfl
    · exact h2 2 _ rfl
    · exact h2 3 _ rfl
    · exact h2 4 _ rfl
    · exact h2 5 _ rfl
    · exact h2 6 _ rfl

mutual
theorem XC.step {W W' : World} (hb : Below W.heap.size W W') : ∀ (e : XV) (cs : List Value), XC W e cs → XC W' e cs
  | .mk k n x o gs l c, cs, h => by
    unfold XC at h ⊢
    obtain ⟨A, cap, h1, h2⟩ := h
    refine ⟨A, cap, h1, fun h0 => ?_⟩
    obtain ⟨ad, h3, h4⟩ := h2 h0
    exact ⟨ad, h3, XS.step hb gs ad h4⟩
theorem XS.step {W W' : World} (hb : Below W.heap.size W W') : ∀ (es : List XV) (ad : Addr), XS W es ad → XS W' es ad
  | [], _, _ => by unfold XS; trivial
  | e :: r, ad, h => by
    unfold XS at h ⊢
    obtain ⟨⟨cs, h1, h2⟩, h3⟩ := h
    exact ⟨⟨cs, XC.step hb e cs h1, fun j v hj => cst5 hb (h2 j v hj)⟩, XS.step hb r _ h3⟩
end
theorem XR.step {W W' : World} {A : Option Addr} {es : List XV} (h : XR W A es) (hb : Below W.heap.size W W') : XR W' A es := fun h0 => by
  obtain ⟨ad, h1, h2⟩ := h h0
  exact ⟨ad, h1, XS.step hb es ad h2⟩
mutual
theorem SC.step {W W' : World} (hb : Below W.heap.size W W') : ∀ (e : SV) (cs : List Value), SC W e cs → SC W' e cs
  | .mk k x es ts us l c, cs, h => by
    unfold SC at h ⊢
    obtain ⟨A1, c1, A2, c2, A3, c3, h1, h2, h3, h4⟩ := h
    refine ⟨A1, c1, A2, c2, A3, c3, h1, h2.step hb, fun h0 => ?_, fun h0 => ?_⟩
    · obtain ⟨ad, h5, h6⟩ := h3 h0
      exact ⟨ad, h5, SS.step hb ts ad h6⟩
    · obtain ⟨ad, h5, h6⟩ := h4 h0
      exact ⟨ad, h5, SS.step hb us ad h6⟩
theorem SS.step {W W' : World} (hb : Below W.heap.size W W') : ∀ (es : List SV) (ad : Addr), SS W es ad → SS W' es ad
  | [], _, _ => by unfold SS; trivial
  | e :: r, ad, h => by
    unfold SS at h ⊢
    obtain ⟨⟨cs, h1, h2⟩, h3⟩ := h
    exact ⟨⟨cs, SC.step hb e cs h1, fun j v hj => cst5 hb (h2 j v hj)⟩, SS.step hb r _ h3⟩
end
theorem SR.step {W W' : World} {A : Option Addr} {es : List SV} (h : SR W A es) (hb : Below W.heap.size W W') : SR W' A es := fun h0 => by
  obtain ⟨ad, h1, h2⟩ := h h0
  exact ⟨ad, h1, SS.step hb es ad h2⟩
end

section
/-- A whole number of 64 digits. -/
def in64 (z : Int) : Prop := -9223372036854775808 ≤ z ∧ z ≤ 9223372036854775807

/-- Where a place stands: its line and its column, from 1 on. -/
def spot (L : List UInt8) : Nat → Nat × Nat
  | 0 => (1, 1)
  | i + 1 => if L[i]? = some 10 then ((spot L i).1 + 1, 1) else ((spot L i).1, (spot L i).2 + 1)
theorem spot_nl {L : List UInt8} {i : Nat} (h : L[i]? = some 10) : spot L (i + 1) = ((spot L i).1 + 1, 1) := by rw [spot, if_pos h]
theorem spot_ch {L : List UInt8} {i : Nat} (h : L[i]? ≠ some 10) : spot L (i + 1) = ((spot L i).1, (spot L i).2 + 1) := by rw [spot, if_neg h]
theorem spot_pos (L : List UInt8) (i : Nat) : 1 ≤ (spot L i).1 ∧ 1 ≤ (spot L i).2 ∧ (spot L i).1 ≤ i + 1 ∧ (spot L i).2 ≤ i + 1 := by
  induction i with
  | zero => simp [spot]
  | succ i ih =>
    by_cases h : L[i]? = some 10
    · rw [spot_nl h]; omega
    · rw [spot_ch h]; omega
/-- Ahead, by line and then by column. -/
def ahead (a b : Nat × Nat) : Prop := a.1 < b.1 ∨ (a.1 = b.1 ∧ a.2 < b.2)
theorem spot_next (L : List UInt8) (i : Nat) : ahead (spot L i) (spot L (i + 1)) := by
  unfold ahead
  by_cases h : L[i]? = some 10
  · rw [spot_nl h]; exact .inl (Nat.lt_succ_self _)
  · rw [spot_ch h]; exact .inr ⟨rfl, Nat.lt_succ_self _⟩
theorem spot_lt (L : List UInt8) {i j : Nat} (h : i < j) : ahead (spot L i) (spot L j) := by
  induction j with
  | zero => omega
  | succ j ih =>
    have hn := spot_next L j
    rcases Nat.lt_or_ge i j with h1 | h1
    · have := ih h1
      unfold ahead at *
      omega
    · obtain rfl : i = j := by omega
      exact hn
theorem spot_inj (L : List UInt8) {i j : Nat} (h : spot L i = spot L j) : i = j := by
  rcases Nat.lt_trichotomy i j with h1 | h1 | h1
  · have := spot_lt L h1
    unfold ahead at this
    rw [h] at this
    omega
  · exact h1
  · have := spot_lt L h1
    unfold ahead at this
    rw [h] at this
    omega

/-- Does a place stand at this line and column? -/
def standsAt (L : List UInt8) (l c : Int) (i : Nat) : Prop := ((spot L i).1 : Int) = l ∧ ((spot L i).2 : Int) = c
theorem standsAt_uniq {L : List UInt8} {l c : Int} {i j : Nat} (h : standsAt L l c i) (h' : standsAt L l c j) : i = j := by
  refine spot_inj L ?_
  unfold standsAt at h h'
  exact Prod.ext (by omega) (by omega)

/-- The lines of a text. -/
def lines : List UInt8 → List (List UInt8)
  | [] => [[]]
  | c :: r => if c = 10 then [] :: lines r else
    match lines r with
    | [] => [[c]]
    | l :: ls => (c :: l) :: ls
theorem lines_ne (L : List UInt8) : lines L ≠ [] := by
  cases L with
  | nil => simp [lines]
  | cons c r =>
    unfold lines
    split
    · simp
    · split <;> simp
/-- Text between two places. -/
def span (L : List UInt8) (i j : Nat) : List UInt8 := (L.take j).drop i
/-- The lines that end ahead of a place, and where the last one begins. -/
def cuts (L : List UInt8) : Nat → List (List UInt8) × Nat
  | 0 => ([], 0)
  | i + 1 => if L[i]? = some 10 then ((cuts L i).1 ++ [span L (cuts L i).2 i], i + 1) else cuts L i
theorem cuts_nl {L : List UInt8} {i : Nat} (h : L[i]? = some 10) : cuts L (i + 1) = ((cuts L i).1 ++ [span L (cuts L i).2 i], i + 1) := by rw [cuts, if_pos h]
theorem cuts_ch {L : List UInt8} {i : Nat} (h : L[i]? ≠ some 10) : cuts L (i + 1) = cuts L i := by rw [cuts, if_neg h]
theorem cuts_le (L : List UInt8) (i : Nat) : (cuts L i).2 ≤ i := by
  induction i with
  | zero => exact Nat.le_refl _
  | succ i ih =>
    by_cases h : L[i]? = some 10
    · rw [cuts_nl h]; exact Nat.le_refl _
    · rw [cuts_ch h]; omega
theorem cuts_len (L : List UInt8) (i : Nat) : (cuts L i).1.length + 1 = (spot L i).1 ∧ (cuts L i).2 + (spot L i).2 = i + 1 := by
  induction i with
  | zero => simp [cuts, spot]
  | succ i ih =>
    by_cases h : L[i]? = some 10
    · rw [cuts_nl h, spot_nl h]; simp; omega
    · rw [cuts_ch h, spot_ch h]; simp only; omega
/-- All lines, by the places where they end. -/
def rows (L : List UInt8) : List (List UInt8) := (cuts L L.length).1 ++ [span L (cuts L L.length).2 L.length]
theorem rows_len (L : List UInt8) : (rows L).length = (spot L L.length).1 := by
  have := (cuts_len L L.length).1
  simp [rows]; omega
/-- Rows, with bytes 10 between. -/
def joined : List (List UInt8) → List UInt8
  | [] => []
  | [l] => l
  | l :: m :: r => l ++ 10 :: joined (m :: r)
theorem joined_snoc (r : List (List UInt8)) (l : List UInt8) (h : r ≠ []) : joined (r ++ [l]) = joined r ++ 10 :: l := by
  induction r with
  | nil => exact absurd rfl h
  | cons a r ih =>
    cases r with
    | nil => rfl
    | cons b r =>
      show a ++ 10 :: joined (b :: r ++ [l]) = (a ++ 10 :: joined (b :: r)) ++ 10 :: l
      rw [ih (by simp)]
      simp
theorem joined_cuts (L : List UInt8) (i : Nat) (hi : i ≤ L.length) : joined ((cuts L i).1 ++ [span L (cuts L i).2 i]) = L.take i := by
  induction i with
  | zero => simp [cuts, span, joined]
  | succ i ih =>
    have h1 := ih (by omega)
    have hle := cuts_le L i
    by_cases h : L[i]? = some 10
    · rw [cuts_nl h]
      simp only
      rw [joined_snoc _ _ (by simp), h1]
      have e : span L (i + 1) (i + 1) = [] := by unfold span; rw [List.drop_eq_nil_of_le (by rw [List.length_take]; omega)]
      rw [e, List.take_add_one, h]
      rfl
    · rw [cuts_ch h, List.take_add_one]
      have hx : L[i]? = some L[i] := List.getElem?_eq_getElem (by omega)
      have e : span L (cuts L i).2 (i + 1) = span L (cuts L i).2 i ++ [L[i]] := by
        unfold span
        rw [List.take_add_one, hx, List.drop_append_of_le_length (by simp; omega)]
        rfl
      rw [e, hx, ← h1]
      generalize (cuts L i).1 = r
      generalize span L (cuts L i).2 i = l
      cases r with
      | nil => rfl
      | cons a r =>
        rw [joined_snoc _ _ (by simp), joined_snoc _ _ (by simp)]
        simp
theorem joined_rows (L : List UInt8) : joined (rows L) = L := by
  have := joined_cuts L L.length (Nat.le_refl _)
  rwa [List.take_length] at this

/-- The row in which a place stands is long enough for its column. -/
theorem row_of_place (L : List UInt8) (i j : Nat) (hij : i ≤ j) (hj : j ≤ L.length) :
    ∃ l r, (cuts L j).1 ++ [span L (cuts L j).2 j] = (cuts L i).1 ++ l :: r ∧ i ≤ (cuts L i).2 + l.length := by
  induction j with
  | zero =>
    obtain rfl : i = 0 := by omega
    exact ⟨_, [], rfl, by omega⟩
  | succ j ih =>
    rcases Nat.lt_or_ge j i with h1 | h1
    · obtain rfl : i = j + 1 := by omega
      refine ⟨_, [], rfl, ?_⟩
      have := cuts_le L (j + 1)
      unfold span
      simp
      omega
    · obtain ⟨l, r, e, hl⟩ := ih h1 (by omega)
      by_cases h : L[j]? = some 10
      · rw [cuts_nl h]
        simp only
        rw [e]
        exact ⟨l, r ++ [span L (j + 1) (j + 1)], by simp, hl⟩
      · rw [cuts_ch h]
        have hx : L[j]? = some L[j] := List.getElem?_eq_getElem (by omega)
        have hle := cuts_le L j
        have e2 : span L (cuts L j).2 (j + 1) = span L (cuts L j).2 j ++ [L[j]] := by
          unfold span
          rw [List.take_add_one, hx, List.drop_append_of_le_length (by simp; omega)]
          rfl
        rw [e2]
        generalize span L (cuts L j).2 j = s at e ⊢
        generalize (cuts L j).1 = c at e ⊢
        rcases List.eq_nil_or_concat r with rfl | ⟨r', x, rfl⟩
        · have e3 := List.append_inj' e rfl
          obtain ⟨e3, e4⟩ := e3
          injection e4 with e4
          refine ⟨l ++ [L[j]], [], by rw [e3, e4], by simp; omega⟩
        · have e3 : c ++ [s] = ((cuts L i).1 ++ l :: r') ++ [x] := by rw [e]; simp
          obtain ⟨e4, e5⟩ := List.append_inj' e3 rfl
          injection e5 with e5
          exact ⟨l, r' ++ [s ++ [L[j]]], by rw [e4]; simp, hl⟩
theorem spot_row (L : List UInt8) (i : Nat) (hi : i ≤ L.length) : ∃ l, (rows L)[(spot L i).1 - 1]? = some l ∧ (spot L i).2 ≤ l.length + 1 := by
  obtain ⟨l, r, e, hl⟩ := row_of_place L i L.length hi (Nat.le_refl _)
  obtain ⟨h1, h2⟩ := cuts_len L i
  refine ⟨l, ?_, by omega⟩
  show ((cuts L L.length).1 ++ [span L (cuts L L.length).2 L.length])[(spot L i).1 - 1]? = some l
  rw [e, show (spot L i).1 - 1 = (cuts L i).1.length by omega]
  simp
end

section
/-- A digit; a letter; a blank. -/
def dgt (c : UInt8) : Bool := decide (48 ≤ c.toNat ∧ c.toNat ≤ 57)
def ltr (c : UInt8) : Bool := decide (97 ≤ c.toNat ∧ c.toNat ≤ 122 ∨ 65 ≤ c.toNat ∧ c.toNat ≤ 90 ∨ c.toNat = 95)
def blk (c : UInt8) : Bool := decide (c.toNat = 9 ∨ c.toNat = 10 ∨ c.toNat = 13 ∨ c.toNat = 32)
/-- A word's text, however long; an int's; a sign's. -/
def isWordB : List UInt8 → Bool
  | [] => false
  | c :: r => ltr c && r.all fun d => ltr d || dgt d
def isIntB (l : List UInt8) : Bool := !l.isEmpty && l.all dgt
def signs : List (List UInt8) := [[124, 124], [38, 38], [61, 61], [33, 61], [60, 61], [62, 61], [60, 60], [62, 62], [60], [62], [61], [43], [45], [42], [47], [37], [38], [124], [94], [33], [126], [40], [41], [123], [125], [91], [93], [44], [59]]
def isSignB (l : List UInt8) : Bool := signs.contains l

theorem isWordB_iff (l : List UInt8) : isWordB l = true ↔ l ≠ [] ∧ ∀ i, i < l.length → ∀ c, l[i]? = some c → ltr c = true ∨ (i ≠ 0 ∧ dgt c = true) := by
  cases l with
  | nil => simp [isWordB]
  | cons c r =>
    simp only [isWordB, Bool.and_eq_true, List.all_eq_true, Bool.or_eq_true, ne_eq, reduceCtorEq, not_false_eq_true, true_and]
    constructor
    · rintro ⟨h1, h2⟩ i hi d hd
      cases i with
      | zero => simp at hd; subst hd; exact .inl h1
      | succ i =>
        simp only [List.getElem?_cons_succ] at hd
        rcases h2 d (List.mem_iff_getElem?.2 ⟨i, hd⟩) with h | h
        · exact .inl h
        · exact .inr ⟨by omega, h⟩
    · intro h
      refine ⟨?_, fun d hd => ?_⟩
      · rcases h 0 (by simp) c rfl with h | h
        · exact h
        · exact absurd rfl h.1
      · obtain ⟨i, hi⟩ := List.mem_iff_getElem?.1 hd
        have hlt := (List.getElem?_eq_some_iff.1 hi).1
        rcases h (i + 1) (by simp; omega) d (by simpa using hi) with h | h
        · exact .inl h
        · exact .inr h.2
theorem isIntB_iff (l : List UInt8) : isIntB l = true ↔ l ≠ [] ∧ ∀ i, i < l.length → ∀ c, l[i]? = some c → dgt c = true := by
  unfold isIntB
  simp only [Bool.and_eq_true, Bool.not_eq_true', List.isEmpty_eq_false_iff, List.all_eq_true, ne_eq]
  constructor
  · rintro ⟨h1, h2⟩
    exact ⟨h1, fun i _ c hc => h2 c (List.mem_iff_getElem?.2 ⟨i, hc⟩)⟩
  · rintro ⟨h1, h2⟩
    refine ⟨h1, fun d hd => ?_⟩
    obtain ⟨i, hi⟩ := List.mem_iff_getElem?.1 hd
    exact h2 i (List.getElem?_eq_some_iff.1 hi).1 d hi

/-- The place behind blanks and comments: from a place on, within a comment or not. -/
def skipL : List UInt8 → Bool → Nat
  | [], _ => 0
  | c :: r, inn => if inn = false ∧ blk c = false ∧ c ≠ 35 then 0 else skipL r ((inn || c == 35) && c != 10) + 1
theorem skipL_le (l : List UInt8) (b : Bool) : skipL l b ≤ l.length := by
  induction l generalizing b with
  | nil => exact Nat.le_refl _
  | cons c r ih =>
    unfold skipL
    split
    · omega
    · have := ih ((b || c == 35) && c != 10)
      simp; omega
/-- How many bytes the longest token has by which a text begins, and its kind. -/
def kindOf (l : List UInt8) : Option Nat := if isWordB l then some 0 else if isIntB l then some 1 else if l.length ≤ 2 ∧ isSignB l then some 2 else none
def longF : Nat → List UInt8 → Nat → Nat × Nat → Nat × Nat
  | 0, _, _, best => best
  | f + 1, l, i, best =>
    if l.length < i then best else
      match kindOf (l.take i) with
      | some k => longF f l (i + 1) (i, k)
      | none => if 2 < i then best else longF f l (i + 1) best
def longL (l : List UInt8) : Nat × Nat := longF (l.length + 1) l 1 (0, 0)
/-- An int's number, as the reference reckons it (of any bytes); is it none? -/
def numW (l : List UInt8) : Nat := l.foldl (fun n c => (10 * n + (c - 48).toNat) % LB) 0
def topB : List UInt8 := [57, 50, 50, 51, 51, 55, 50, 48, 51, 54, 56, 53, 52, 55, 55, 53, 56, 48, 56]
def gtB (a b : List UInt8) : Bool := !(Go.Op.bytesLess a b || a == b)
def numBad (l : List UInt8) : Bool := (decide (1 < l.length) && (l[0]? == some 48)) || decide (19 < l.length) || (decide (l.length = 19) && gtB l topB)
def numV (l : List UInt8) : Int × Bool := if numBad l then (0, false) else (IntKind.i64.wrap (numW l), true)
theorem numW_next (l : List UInt8) (i : Nat) (c : UInt8) (h : l[i]? = some c) : numW (l.take (i + 1)) = (10 * numW (l.take i) + (c - 48).toNat) % LB := by
  rw [List.take_add_one, h]
  unfold numW
  simp
theorem numW_lt (l : List UInt8) : numW l < LB := by
  unfold numW
  have h : ∀ n, n < LB → l.foldl (fun n c => (10 * n + (c - 48).toNat) % LB) n < LB := by
    induction l with
    | nil => exact fun n h => h
    | cons c r ih => intro n _; exact ih _ (Nat.mod_lt _ (by unfold LB; omega))
  exact h 0 (by unfold LB; omega)
end

section
open Go.RowKit

theorem size_len_ (s : ByteArray) : s.data.toList.length = s.size := by rw [Array.length_toList]; rfl
/-- A byte of a text: what the walk reads there. -/
theorem byte_at (s : ByteArray) (i : Nat) (hi : i < s.size) : ∃ z : Int, 0 ≤ z ∧ z < 256 ∧ (∀ w, (Go.Instr.index 9 (.string s) (.int .i64 (i : Int))).run Tryd.prog w = .ok (.int .u8 z) w) ∧ (z = 10 ↔ s.data.toList[i]? = some 10) ∧ s.data.toList[i]? = some (UInt8.ofNat z.toNat) := by
  refine ⟨((s[i]'hi).toNat : Int), by omega, by have := (s[i]'hi).toNat_lt; omega, fun w => ?_, ?_, ?_⟩
  · rw [run_index_string w 9 s .i64 i Tryd.underlying9, dif_pos ⟨by omega, by omega⟩]
    simp
  · have h : s.data.toList[i]? = some (s[i]'hi) := by
      rw [List.getElem?_eq_getElem (by rw [size_len_]; exact hi)]; rfl
    rw [h]
    constructor
    · intro h2
      congr 1
      exact UInt8.toNat_inj.1 (by show _ = 10; omega)
    · intro h2
      injection h2 with h2
      rw [h2]; rfl
  · rw [List.getElem?_eq_getElem (by rw [size_len_]; exact hi)]
    simp
    rfl

/-- A position in a box: a line and a column. -/
structure PB (W : World) (g : Nat) (l c : Int) : Prop where
  c0 : W.cell? ⟨g, 0, none⟩ = some (.int .i64 l)
  c1 : W.cell? ⟨g, 1, none⟩ = some (.int .i64 c)
  f0 : W.frozen? ⟨g, 0, none⟩ = false
  f1 : W.frozen? ⟨g, 1, none⟩ = false

section
variable {W W' : World} {g : Nat} {l c : Int}
theorem PB.step (h : PB W g l c) (hb : Below W.heap.size W W') : PB W' g l c :=
  ⟨(bcell1 hb h.c0 h.f0).1, (bcell1 hb h.c1 h.f1).1, (bcell1 hb h.c0 h.f0).2, (bcell1 hb h.c1 h.f1).2⟩
theorem PB.far (h : PB W g l c) {p : Addr} (hp : p.block ≠ g) (u : Value) : PB (W.setCell p u) g l c :=
  ⟨(World.cell?_setCell_other _ _ _ _ (fun e => hp (by rw [e]))).trans h.c0, (World.cell?_setCell_other _ _ _ _ (fun e => hp (by rw [e]))).trans h.c1, by simpa using h.f0, by simpa using h.f1⟩
theorem PB.set1 (h : PB W g l c) (x : Int) : PB (W.setCell ⟨g, 1, none⟩ (.int .i64 x)) g l x :=
  ⟨(World.cell?_setCell_other _ _ _ _ (fun e => by injection e; omega)).trans h.c0, World.cell?_setCell_same _ _ _ h.c1, by simpa using h.f0, by simpa using h.f1⟩
theorem PB.set0 (h : PB W g l c) (x : Int) : PB (W.setCell ⟨g, 0, none⟩ (.int .i64 x)) g x c :=
  ⟨World.cell?_setCell_same _ _ _ h.c0, (World.cell?_setCell_other _ _ _ _ (fun e => by injection e; omega)).trans h.c1, by simpa using h.f0, by simpa using h.f1⟩
theorem PB.new (W : World) (l c : Int) (T : TypeId) : PB (W.alloc (.cells #[.int .i64 l, .int .i64 c] T)) W.heap.size l c :=
  ⟨by simp [go_sem], by simp [go_sem], by simp [go_sem], by simp [go_sem]⟩
theorem PB.lt (h : PB W g l c) : g < W.heap.size := World.block_lt_of_cell? W ⟨g, 0, none⟩ h.c0
end

/-- What the loops over a text hold. -/
structure PL4 (w : World) (gr g : Nat) (l c : Int) (W : World) : Prop where
  res : PB W gr 0 0
  cur : PB W g l c
  ne : gr ≠ g
  base : w.heap.size ≤ gr ∧ w.heap.size ≤ g
  below : Below w.heap.size w W

theorem PL4.set0 {w W : World} {gr g : Nat} {l c : Int} (h : PL4 w gr g l c W) (x : Int) : PL4 w gr g x c (W.setCell ⟨g, 0, none⟩ (.int .i64 x)) :=
  ⟨h.res.far (fun e => h.ne e.symm) _, h.cur.set0 x, h.ne, h.base, h.below.setCell h.base.2 _⟩
theorem PL4.set1 {w W : World} {gr g : Nat} {l c : Int} (h : PL4 w gr g l c W) (x : Int) : PL4 w gr g l x (W.setCell ⟨g, 1, none⟩ (.int .i64 x)) :=
  ⟨h.res.far (fun e => h.ne e.symm) _, h.cur.set1 x, h.ne, h.base, h.below.setCell h.base.2 _⟩
/-- A position stored at once into the result's box. -/
theorem PB.both {W : World} {g : Nat} {l c : Int} (h : PB W g l c) (x y : Int) : PB ((W.setCell ⟨g, 0, none⟩ (.int .i64 x)).setCell ⟨g, 1, none⟩ (.int .i64 y)) g x y := (h.set0 x).set1 y

/-- What the loop of Place holds. -/
structure PL5 (w : World) (gp g : Nat) (l c : Int) (l' c' : Int) (W : World) : Prop where
  arg : PB W gp l c
  cur : PB W g l' c'
  ne : gp ≠ g
  base : w.heap.size ≤ g
  below : Below w.heap.size w W
theorem PL5.set0 {w W : World} {gp g : Nat} {l c l' c' : Int} (h : PL5 w gp g l c l' c' W) (x : Int) : PL5 w gp g l c x c' (W.setCell ⟨g, 0, none⟩ (.int .i64 x)) :=
  ⟨h.arg.far (fun e => h.ne e.symm) _, h.cur.set0 x, h.ne, h.base, h.below.setCell h.base _⟩
theorem PL5.set1 {w W : World} {gp g : Nat} {l c l' c' : Int} (h : PL5 w gp g l c l' c' W) (x : Int) : PL5 w gp g l c l' x (W.setCell ⟨g, 1, none⟩ (.int .i64 x)) :=
  ⟨h.arg.far (fun e => h.ne e.symm) _, h.cur.set1 x, h.ne, h.base, h.below.setCell h.base _⟩
/-- How Place ends. -/
def PlaceEnd (s : ByteArray) (l c : Int) (e : Ending) : Prop :=
  (∃ k, k ≤ s.size ∧ standsAt s.data.toList l c k ∧ e = .returned (.tuple #[.int .i64 k, .bool true])) ∨
  ((∀ k, k ≤ s.size → ¬ standsAt s.data.toList l c k) ∧ e = .returned (.tuple #[.int .i64 0, .bool false]))
end

section
open Go.RowKit

theorem below_new__ (W : World) (o : Obj) : Below W.heap.size W (W.alloc o) := (Below.refl _ _).alloc (Nat.le_refl _) o
theorem bthen4 {w W W' : World} (h : Below w.heap.size w W) (hb : Below W.heap.size W W') : Below w.heap.size w W' := h.trans (hb.mono h.size)
theorem extract_span (s : ByteArray) (a b : Nat) : s.extract a b = ⟨(span s.data.toList a b).toArray⟩ := by
  apply ByteArray.ext
  apply Array.ext'
  rw [ByteArray.data_extract, Array.toList_extract]
  show _ = (span s.data.toList a b)
  unfold span
  rw [List.drop_take]

/-- What Of answers. -/
def ofV (L : List UInt8) (z : Int) : Int × Int × Bool := if 0 ≤ z ∧ z ≤ L.length then (((spot L z.toNat).1 : Nat), ((spot L z.toNat).2 : Nat), true) else (0, 0, false)
theorem ofV_yes {L : List UInt8} {k : Nat} (h : k ≤ L.length) : ofV L k = ((((spot L k).1 : Nat) : Int), (((spot L k).2 : Nat) : Int), true) := by
  unfold ofV
  rw [if_pos ⟨by omega, by omega⟩, Int.toNat_natCast]
theorem ofV_no {L : List UInt8} {z : Int} (h : ¬ (0 ≤ z ∧ z ≤ L.length)) : ofV L z = (0, 0, false) := by unfold ofV; rw [if_neg h]
/-- What Place answers. -/
def plV (L : List UInt8) (l c : Int) : Int × Bool :=
  match (List.range (L.length + 1)).find? (fun i => decide (((spot L i).1 : Int) = l ∧ ((spot L i).2 : Int) = c)) with
  | some k => ((k : Nat), true)
  | none => (0, false)
theorem plV_yes {L : List UInt8} {l c : Int} {k : Nat} (h : k ≤ L.length) (hs : standsAt L l c k) : plV L l c = ((k : Int), true) := by
  unfold plV
  cases hf : (List.range (L.length + 1)).find? (fun i => decide (((spot L i).1 : Int) = l ∧ ((spot L i).2 : Int) = c)) with
  | none =>
    have := List.find?_eq_none.1 hf k (by simp; omega)
    simp at this
    exact absurd hs.2 (this hs.1)
  | some j =>
    have h1 := List.find?_some hf
    simp at h1
    have : j = k := standsAt_uniq (L := L) (l := l) (c := c) h1 hs
    rw [this]
theorem plV_no {L : List UInt8} {l c : Int} (h : ∀ k, k ≤ L.length → ¬ standsAt L l c k) : plV L l c = (0, false) := by
  unfold plV
  have hf : (List.range (L.length + 1)).find? (fun i => decide (((spot L i).1 : Int) = l ∧ ((spot L i).2 : Int) = c)) = none := by
    rw [List.find?_eq_none]
    intro k hk
    simp at hk
    have := h k (by omega)
    unfold standsAt at this
    simpa using this
  rw [hf]
end

section
open Go.RowKit

/-- How two positions are compared. -/
def posCmp (l c l' c' : Int) : Int := if l = l' ∧ c = c' then 0 else if l < l' ∨ (l = l' ∧ c < c') then -1 else 1

/-- Texts, as values. -/
def strs (r : List (List UInt8)) : List Value := r.map fun l => .string ⟨l.toArray⟩
theorem strs_oneCell (r : List (List UInt8)) : ∀ u ∈ strs r, u.oneCell' = true := by
  intro u hu
  obtain ⟨x, _, rfl⟩ := List.mem_map.1 hu
  rfl
theorem info_str : (Tryd.prog.info? 9).map (fun i => (i.zero, i.size, i.bytes)) = some (some (.string ByteArray.empty), 1, 16) := by kernel_rfl

/-- A row of the call's own, of texts; nothing that stood before has turned. -/
def GrowS (w : World) (v : Value) (r : List (List UInt8)) (W : World) : Prop := W.ownsRow w.heap.size 9 1 v r.length (strs r) ∧ Below w.heap.size w W
theorem GrowS.start (w : World) : GrowS w (.slice none 0 0) [] w := ⟨World.ownsRow_nil _ _ _ _, Below.refl _ _⟩

theorem wpList_pushS {ops : Array Oper} {rest : List Oper} {o : Oper} {a : Act} {Q : Exit → Act → World → Prop} (hgd : o.guard = none) (s x : Operand)
    (ho : o.op = .call { callee := .builtin .append, args := #[s, x], argTypes := #[45, 45] })
    (v : Value) (r : List (List UInt8)) (y : List UInt8) (z : ByteArray) (w0 wr : World) (hs : a.eval s = v) (hg : GrowS w0 v r wr) (hx : a.eval x = .slice (some ⟨wr.heap.size, 0, none⟩) 1 1) (hz : z = ⟨y.toArray⟩) (hlen : r.length ≤ 1000000000)
    (h : ∀ v' w1, GrowS w0 v' (r ++ [y]) w1 → wpList Tryd.prog ops Q rest (a.put o.dst v') w1) : wpList Tryd.prog ops Q (o :: rest) a (wr.alloc (.cells #[.string z] 9)) := by
  subst hz
  obtain ⟨i0, hi0, hz0, hz1, hz2⟩ := info_parts info_str
  have hr : Reads (wr.alloc (.cells #[.string ⟨y.toArray⟩] 9)) (wr.heap.size + 1) 1 (some ⟨wr.heap.size, 0, none⟩) 1 (strs [y]) :=
    ⟨by simp [strs], fun _ => ⟨_, rfl, by simp, fun j u hu => by
      match j with
      | 0 => simp [strs] at hu; subst hu; simp [Addr.add]
      | j + 1 => simp [strs] at hu⟩⟩
  have hsz := hg.2.size
  refine wpList_append_any _ hgd s x 45 ho w0.heap.size 9 i0 _ 1 16 Tryd.underlying45 hi0 hz0 hz1 hz2 rfl (by omega) v r.length (strs r) hs (hg.1.alloc _) (wr.heap.size + 1) (some ⟨wr.heap.size, 0, none⟩) 1 1 (strs [y]) hx hr (strs_oneCell _)
    (by unfold maxLen; omega) (by omega) (by simp; omega) ?_
  intro v' w1 hown' hg' _
  refine h v' w1 ⟨by simpa [strs] using hown', (hg.2.alloc hsz _).grown hg' (by simp; omega) (fun g hgk => (hg.1.lt g hgk).1)⟩

theorem below_drewN_ {B : Nat} {a w : World} (h : Below B a w) (n : Nat) : Below B a (w.drewN n) := ⟨h.os, h.tape, h.output, h.size, h.block⟩

/-- A slice that reads as texts. -/
def RowS (W : World) (A : Option Addr) (n : Nat) (r : List (List UInt8)) : Prop := Reads W W.heap.size 1 A n (strs r)
theorem RowS.len {W : World} {A : Option Addr} {n : Nat} {r : List (List UInt8)} (h : RowS W A n r) : n = r.length := by have := h.1; simp [strs] at this; omega
theorem RowS.below {W W' : World} {A : Option Addr} {n : Nat} {r : List (List UInt8)} (h : RowS W A n r) (hb : Below W.heap.size W W') : RowS W' A n r := (Reads.below h hb).more hb.size
theorem GrowS.row {w W : World} {v : Value} {r : List (List UInt8)} (h : GrowS w v r W) : ∃ A c, v = .slice A r.length c ∧ RowS W A r.length r := by
  rcases h.1.2 with ⟨hv, h0⟩ | ⟨g, cap, cur, hv, _⟩
  · have hr : r = [] := List.eq_nil_of_length_eq_zero h0
    subst hr
    exact ⟨none, 0, hv, Reads.none_⟩
  · exact ⟨some ⟨g, 0, none⟩, cap, hv, by have := h.1; rw [hv] at this; exact Reads.of_own this⟩
theorem RowS.at_ {W : World} {A : Option Addr} {n : Nat} {r : List (List UInt8)} (h : RowS W A n r) {i : Nat} (hi : i < n) : ∃ ad l, A = some ad ∧ r[i]? = some l ∧ W.cell? (ad.add i) = some (.string ⟨l.toArray⟩) := by
  obtain ⟨ad, u, e, _, hx, hc⟩ := Reads.at_ h hi
  have hl := h.len
  refine ⟨ad, r[i]'(by omega), e, List.getElem?_eq_getElem (by omega), ?_⟩
  rw [hc]
  have : (strs r)[i]? = some (.string ⟨(r[i]'(by omega)).toArray⟩) := by simp [strs]
  rw [this] at hx
  exact hx.symm
end
end Go.Proofs.YtejifkeeihkcjaaDoor
