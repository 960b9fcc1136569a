/- Plain mathematics on rows of digits: values in a base, rows without noughts at the end. Nothing of the program. -/
namespace Go.Proofs.YtkmioieanopafaaDoor
namespace Dig

def val (b : Nat) : List Nat → Nat
  | [] => 0
  | x :: r => x + b * val b r

def nrm : List Nat → List Nat
  | [] => []
  | x :: r => if nrm r = [] ∧ x = 0 then [] else x :: nrm r

def Norm (l : List Nat) : Prop := nrm l = l

theorem val_nil (b : Nat) : val b [] = 0 := rfl
theorem val_cons (b x : Nat) (r : List Nat) : val b (x :: r) = x + b * val b r := rfl

theorem nrm_nil : nrm [] = [] := rfl
theorem nrm_cons (x : Nat) (r : List Nat) : nrm (x :: r) = if nrm r = [] ∧ x = 0 then [] else x :: nrm r := rfl

theorem val_nrm (b : Nat) (l : List Nat) : val b (nrm l) = val b l := by
  induction l with
  | nil => rfl
  | cons x r ih =>
    rw [nrm_cons]
    split
    · next h =>
      obtain ⟨h1, h2⟩ := h
      rw [h1] at ih
      rw [val_cons, ← ih, h2]
      rfl
    · rw [val_cons, val_cons, ih]

theorem nrm_nrm (l : List Nat) : nrm (nrm l) = nrm l := by
  induction l with
  | nil => rfl
  | cons x r ih =>
    rw [nrm_cons]
    split
    · rfl
    · next h => rw [nrm_cons, ih, if_neg h]

theorem norm_nrm (l : List Nat) : Norm (nrm l) := nrm_nrm l
theorem norm_nil : Norm [] := rfl

theorem nrm_snoc_zero (l : List Nat) : nrm (l ++ [0]) = nrm l := by
  induction l with
  | nil => rfl
  | cons x r ih => rw [List.cons_append, nrm_cons, ih, nrm_cons]

theorem nrm_snoc (l : List Nat) (x : Nat) (h : x ≠ 0) : nrm (l ++ [x]) = l ++ [x] := by
  induction l with
  | nil => show nrm [x] = [x]; rw [nrm_cons, if_neg (by rintro ⟨_, h2⟩; exact h h2)]; rfl
  | cons y r ih => rw [List.cons_append, nrm_cons, ih, if_neg (by simp)]

theorem norm_snoc {l : List Nat} {x : Nat} (h : x ≠ 0) : Norm (l ++ [x]) := nrm_snoc l x h

theorem norm_tail {x : Nat} {r : List Nat} (h : Norm (x :: r)) : Norm r := by
  unfold Norm at h
  rw [nrm_cons] at h
  split at h
  · cases h
  · injection h

theorem norm_one {x : Nat} (h : Norm [x]) : x ≠ 0 := by
  rintro rfl
  unfold Norm at h
  rw [nrm_cons, if_pos ⟨rfl, rfl⟩] at h
  cases h

/-- The last digit of a row without noughts at the end. -/
theorem norm_last {l : List Nat} {x : Nat} (h : Norm (l ++ [x])) : x ≠ 0 := by
  induction l with
  | nil => exact norm_one h
  | cons y r ih => exact ih (norm_tail h)

theorem nrm_length_le (l : List Nat) : (nrm l).length ≤ l.length := by
  induction l with
  | nil => exact Nat.le_refl _
  | cons x r ih =>
    rw [nrm_cons]
    split
    · simp
    · simp; exact ih

/-- A row is its norm and noughts. -/
theorem nrm_prefix (l : List Nat) : l = nrm l ++ List.replicate (l.length - (nrm l).length) 0 := by
  induction l with
  | nil => rfl
  | cons x r ih =>
    rw [nrm_cons]
    split
    · next h =>
      obtain ⟨h1, h2⟩ := h
      rw [h1] at ih
      simp only [List.nil_append, List.length_nil, Nat.sub_zero, List.length_cons] at ih ⊢
      rw [List.replicate_succ, h2, ← ih]
    · simp only [List.cons_append, List.length_cons, Nat.add_sub_add_right]
      rw [← ih]

theorem nrm_take (l : List Nat) : nrm l = l.take (nrm l).length := by
  have h := nrm_prefix l
  have h2 : l.take (nrm l).length = (nrm l ++ List.replicate (l.length - (nrm l).length) 0).take (nrm l).length := by rw [← h]
  rw [h2, List.take_left]

/-- Digits below the base. -/
def Below (b : Nat) (l : List Nat) : Prop := ∀ x, x ∈ l → x < b

theorem Below.nil (b : Nat) : Below b [] := fun _ h => by cases h
theorem Below.tail {b x : Nat} {r : List Nat} (h : Below b (x :: r)) : Below b r := fun y hy => h y (List.mem_cons_of_mem _ hy)
theorem Below.head {b x : Nat} {r : List Nat} (h : Below b (x :: r)) : x < b := h x List.mem_cons_self
theorem Below.cons {b x : Nat} {r : List Nat} (hx : x < b) (h : Below b r) : Below b (x :: r) := fun y hy => by
  rcases List.mem_cons.1 hy with rfl | hy
  · exact hx
  · exact h y hy
theorem Below.append {b : Nat} {l r : List Nat} (h : Below b l) (h2 : Below b r) : Below b (l ++ r) := fun y hy => by
  rcases List.mem_append.1 hy with hy | hy
  · exact h y hy
  · exact h2 y hy
theorem Below.nrm {b : Nat} {l : List Nat} (h : Below b l) : Below b (nrm l) := fun y hy => by
  rw [nrm_take] at hy
  exact h y (List.mem_of_mem_take hy)
theorem Below.take {b : Nat} {l : List Nat} (h : Below b l) (n : Nat) : Below b (l.take n) := fun y hy => h y (List.mem_of_mem_take hy)
theorem Below.get {b : Nat} {l : List Nat} (h : Below b l) {i : Nat} (hi : i < l.length) : l[i] < b := h _ (List.getElem_mem hi)

theorem val_lt {b : Nat} {l : List Nat} (h : Below b l) : val b l < b ^ l.length := by
  induction l with
  | nil => simp [val]
  | cons x r ih =>
    have h1 := ih h.tail
    have h2 := h.head
    rw [val_cons, List.length_cons, Nat.pow_succ]
    calc x + b * val b r < b + b * val b r := by omega
      _ = b * (val b r + 1) := by rw [Nat.mul_add]; omega
      _ ≤ b * b ^ r.length := Nat.mul_le_mul_left _ h1
      _ = b ^ r.length * b := Nat.mul_comm _ _

theorem val_append (b : Nat) (l r : List Nat) : val b (l ++ r) = val b l + b ^ l.length * val b r := by
  induction l with
  | nil => simp [val]
  | cons x l ih =>
    rw [List.cons_append, val_cons, val_cons, ih, List.length_cons, Nat.pow_succ, Nat.mul_add, ← Nat.mul_assoc, Nat.mul_comm b (b ^ l.length)]
    omega

theorem val_snoc (b : Nat) (l : List Nat) (x : Nat) : val b (l ++ [x]) = val b l + b ^ l.length * x := by
  rw [val_append]; simp [val]

theorem val_zeros (b n : Nat) : val b (List.replicate n 0) = 0 := by
  induction n with
  | zero => rfl
  | succ n ih => rw [List.replicate_succ, val_cons, ih]; simp

/-- Only one row of digits has a value. -/
theorem norm_zero {b : Nat} (hb : 0 < b) {l : List Nat} (h : Norm l) (hv : val b l = 0) : l = [] := by
  have aux : ∀ l : List Nat, val b l = 0 → nrm l = [] := by
    intro l
    induction l with
    | nil => intro _; rfl
    | cons x r ih =>
      intro hv
      rw [val_cons] at hv
      have hx : x = 0 := by omega
      have hr : val b r = 0 := by
        rcases Nat.mul_eq_zero.1 (show b * val b r = 0 by omega) with h | h
        · omega
        · exact h
      rw [nrm_cons, if_pos ⟨ih hr, hx⟩]
  rw [← h]
  exact aux l hv

theorem uniq {b : Nat} (hb : 0 < b) : ∀ {l m : List Nat}, Norm l → Norm m → Below b l → Below b m → val b l = val b m → l = m := by
  intro l
  induction l with
  | nil =>
    intro m _ hm _ _ hv
    exact (norm_zero hb hm hv.symm).symm
  | cons x r ih =>
    intro m hl hm bl bm hv
    cases m with
    | nil => exact norm_zero hb hl hv
    | cons y s =>
      rw [val_cons, val_cons] at hv
      have hx := bl.head
      have hy := bm.head
      have e1 : (x + b * val b r) % b = x := by rw [Nat.add_mul_mod_self_left, Nat.mod_eq_of_lt hx]
      have e2 : (y + b * val b s) % b = y := by rw [Nat.add_mul_mod_self_left, Nat.mod_eq_of_lt hy]
      have exy : x = y := by rw [← e1, ← e2, hv]
      have e3 : b * val b r = b * val b s := by omega
      have e4 : val b r = val b s := Nat.eq_of_mul_eq_mul_left hb e3
      rw [exy, ih (norm_tail hl) (norm_tail hm) bl.tail bm.tail e4]

/-- The row of a number. -/
def ofNat (b : Nat) : Nat → Nat → List Nat
  | 0, _ => []
  | k + 1, n => if n = 0 then [] else n % b :: ofNat b k (n / b)

/-- A digit; 0 behind the last one. -/
def at_ (l : List Nat) (i : Nat) : Nat := l.getD i 0

theorem at_lt {l : List Nat} {i : Nat} (h : i < l.length) : at_ l i = l[i] := by simp [at_, h]
theorem at_ge {l : List Nat} {i : Nat} (h : l.length ≤ i) : at_ l i = 0 := by simp [at_, h]
theorem at_below {b : Nat} (hb : 0 < b) {l : List Nat} (h : Below b l) (i : Nat) : at_ l i < b := by
  by_cases hi : i < l.length
  · rw [at_lt hi]; exact h.get hi
  · rw [at_ge (by omega)]; exact hb

/-- A row, padded to a length. -/
def pad (l : List Nat) (n : Nat) : List Nat := (List.range n).map (at_ l)

theorem val_take_succ (b : Nat) (l : List Nat) (k : Nat) (hk : k < l.length) : val b (l.take (k + 1)) = val b (l.take k) + b ^ k * l[k] := by
  rw [List.take_succ_eq_append_getElem hk, val_snoc, List.length_take, Nat.min_eq_left (by omega)]

/-- The value of the first k digits, noughts behind the last one. -/
def low (b : Nat) (l : List Nat) (k : Nat) : Nat := val b (l.take k)

theorem low_zero (b : Nat) (l : List Nat) : low b l 0 = 0 := by simp [low, val]
theorem low_succ (b : Nat) (l : List Nat) (k : Nat) : low b l (k + 1) = low b l k + b ^ k * at_ l k := by
  unfold low
  by_cases hk : k < l.length
  · rw [val_take_succ b l k hk, at_lt hk]
  · rw [at_ge (by omega), List.take_of_length_le (by omega), List.take_of_length_le (by omega)]; simp
theorem low_all (b : Nat) (l : List Nat) (k : Nat) (h : l.length ≤ k) : low b l k = val b l := by unfold low; rw [List.take_of_length_le h]
theorem low_lt {b : Nat} (hb : 0 < b) {l : List Nat} (h : Below b l) (k : Nat) : low b l k < b ^ k := by
  have h1 := val_lt (h.take k)
  have h2 : b ^ (l.take k).length ≤ b ^ k := Nat.pow_le_pow_right hb (by rw [List.length_take]; omega)
  unfold low; omega

theorem val_split (b : Nat) (l : List Nat) (k : Nat) (hk : k < l.length) : val b l = val b (l.take k) + b ^ k * (at_ l k + b * val b (l.drop (k + 1))) := by
  have h : l = l.take k ++ l[k] :: l.drop (k + 1) := by rw [List.getElem_cons_drop, List.take_append_drop]
  have e : val b l = val b (l.take k ++ l[k] :: l.drop (k + 1)) := by rw [← h]
  rw [e, val_append, val_cons, at_lt hk, List.length_take, Nat.min_eq_left (by omega)]

/-- The highest digit that differs tells. -/
theorem val_lt_of_digit {b : Nat} (hb : 0 < b) {l m : List Nat} (bl : Below b l) {k : Nat} (hk : k < l.length) (hm : k < m.length) (hd : l.drop (k + 1) = m.drop (k + 1)) (h : at_ l k < at_ m k) : val b l < val b m := by
  rw [val_split b l k hk, val_split b m k hm, hd]
  have h1 : val b (l.take k) < b ^ k := low_lt hb bl k
  have h2 : b ^ k * (at_ l k + b * val b (m.drop (k + 1))) + b ^ k ≤ b ^ k * (at_ m k + b * val b (m.drop (k + 1))) := by
    have : at_ l k + b * val b (m.drop (k + 1)) + 1 ≤ at_ m k + b * val b (m.drop (k + 1)) := by omega
    calc _ = b ^ k * (at_ l k + b * val b (m.drop (k + 1)) + 1) := by rw [Nat.mul_add _ _ 1, Nat.mul_one]
      _ ≤ _ := Nat.mul_le_mul_left _ this
  omega

theorem norm_pos {b : Nat} {l : List Nat} (hl : Norm l) (h : 0 < l.length) : b ^ (l.length - 1) ≤ val b l := by
  have e : l = l.dropLast ++ [l.getLast (by intro h2; rw [h2] at h; simp at h)] := (List.dropLast_concat_getLast _).symm
  have hx : l.getLast (by intro h2; rw [h2] at h; simp at h) ≠ 0 := by rw [e] at hl; exact norm_last hl
  have e2 : val b l = val b l.dropLast + b ^ l.dropLast.length * l.getLast (by intro h2; rw [h2] at h; simp at h) := by
    have := val_snoc b l.dropLast (l.getLast (by intro h2; rw [h2] at h; simp at h))
    rw [← e] at this
    exact this
  rw [e2, List.length_dropLast]
  have : b ^ (l.length - 1) * 1 ≤ b ^ (l.length - 1) * l.getLast (by intro h2; rw [h2] at h; simp at h) := Nat.mul_le_mul_left _ (by omega)
  omega

theorem val_lt_of_len {b : Nat} (hb : 0 < b) {l m : List Nat} (bl : Below b l) (hm : Norm m) (h : l.length < m.length) : val b l < val b m := by
  have h1 := val_lt bl
  have h2 := norm_pos (b := b) hm (by omega)
  have h3 : b ^ l.length ≤ b ^ (m.length - 1) := Nat.pow_le_pow_right hb (by omega)
  omega

/-- A step's carries, and what it makes, digit by digit. -/
def runC (hi : Nat → Nat → Nat → Nat) (l m : List Nat) : Nat → Nat
  | 0 => 0
  | k + 1 => hi (at_ l k) (at_ m k) (runC hi l m k)
def runL (lo hi : Nat → Nat → Nat → Nat) (l m : List Nat) : Nat → List Nat
  | 0 => []
  | k + 1 => runL lo hi l m k ++ [lo (at_ l k) (at_ m k) (runC hi l m k)]

theorem runL_length (lo hi : Nat → Nat → Nat → Nat) (l m : List Nat) (k : Nat) : (runL lo hi l m k).length = k := by
  induction k with
  | zero => rfl
  | succ k ih => simp [runL, ih]
theorem runC_le (hi : Nat → Nat → Nat → Nat) {b : Nat} (hb : 0 < b) {l m : List Nat} (bl : Below b l) (bm : Below b m) (h : ∀ x y c, x < b → y < b → c ≤ 1 → hi x y c ≤ 1) (k : Nat) : runC hi l m k ≤ 1 := by
  induction k with
  | zero => simp [runC]
  | succ k ih => exact h _ _ _ (at_below hb bl k) (at_below hb bm k) ih
theorem runL_below (lo hi : Nat → Nat → Nat → Nat) {b : Nat} (l m : List Nat) (h : ∀ x y c, lo x y c < b) (k : Nat) : Below b (runL lo hi l m k) := by
  induction k with
  | zero => exact Below.nil b
  | succ k ih => exact ih.append (Below.cons (h _ _ _) (Below.nil b))

/-- The row so far: what is made, then noughts. -/
def sofar (r : List Nat) (n : Nat) : List Nat := r ++ List.replicate (n - r.length) 0
theorem sofar_length (r : List Nat) (n : Nat) (h : r.length ≤ n) : (sofar r n).length = n := by simp [sofar]; omega
theorem sofar_nil (n : Nat) : sofar [] n = List.replicate n 0 := by simp [sofar]
theorem sofar_all (r : List Nat) : sofar r r.length = r := by simp [sofar]
theorem sofar_set (r : List Nat) (n x : Nat) (h : r.length < n) : (sofar r n).set r.length x = sofar (r ++ [x]) n := by
  unfold sofar
  rw [List.set_append_right _ _ (Nat.le_refl _), Nat.sub_self]
  obtain ⟨d, hd⟩ : ∃ d, n - r.length = d + 1 := ⟨n - r.length - 1, by omega⟩
  have e : n - (r ++ [x]).length = d := by simp; omega
  rw [hd, e, List.replicate_succ, List.set_cons_zero, List.append_assoc]
  rfl

theorem add_run (lo hi : Nat → Nat → Nat → Nat) (b : Nat) (l m : List Nat) (h : ∀ x y c, lo x y c + b * hi x y c = x + y + c) (k : Nat) :
    val b (runL lo hi l m k) + b ^ k * runC hi l m k = low b l k + low b m k := by
  induction k with
  | zero => simp [runL, runC, low, val]
  | succ k ih =>
    have e := h (at_ l k) (at_ m k) (runC hi l m k)
    have e2 : b ^ k * (lo (at_ l k) (at_ m k) (runC hi l m k) + b * hi (at_ l k) (at_ m k) (runC hi l m k)) = b ^ k * (at_ l k + at_ m k + runC hi l m k) := by rw [e]
    rw [Nat.mul_add, Nat.mul_add, Nat.mul_add] at e2
    rw [low_succ, low_succ]
    show val b (runL lo hi l m k ++ [lo (at_ l k) (at_ m k) (runC hi l m k)]) + b ^ (k + 1) * hi (at_ l k) (at_ m k) (runC hi l m k) = _
    rw [val_snoc, runL_length, Nat.pow_succ, Nat.mul_assoc]
    omega

theorem sub_run (lo hi : Nat → Nat → Nat → Nat) (b : Nat) (hb : 0 < b) (l m : List Nat) (bl : Below b l) (bm : Below b m) (h1 : ∀ x y c, x < b → y < b → c ≤ 1 → hi x y c ≤ 1)
    (h : ∀ x y c, x < b → y < b → c ≤ 1 → lo x y c + y + c = x + b * hi x y c) (k : Nat) :
    val b (runL lo hi l m k) + low b m k = low b l k + b ^ k * runC hi l m k := by
  induction k with
  | zero => simp [runL, runC, low, val]
  | succ k ih =>
    have e := h (at_ l k) (at_ m k) (runC hi l m k) (at_below hb bl k) (at_below hb bm k) (runC_le hi hb bl bm h1 k)
    have e2 : b ^ k * (lo (at_ l k) (at_ m k) (runC hi l m k) + at_ m k + runC hi l m k) = b ^ k * (at_ l k + b * hi (at_ l k) (at_ m k) (runC hi l m k)) := by rw [e]
    rw [Nat.mul_add, Nat.mul_add, Nat.mul_add] at e2
    rw [low_succ, low_succ]
    show val b (runL lo hi l m k ++ [lo (at_ l k) (at_ m k) (runC hi l m k)]) + _ = _ + b ^ (k + 1) * hi (at_ l k) (at_ m k) (runC hi l m k)
    rw [val_snoc, runL_length, Nat.pow_succ, Nat.mul_assoc]
    omega

/-- Behind the last digits nothing is carried. -/
theorem add_end (lo hi : Nat → Nat → Nat → Nat) (b : Nat) (hb : 2 ≤ b) {l m : List Nat} (bl : Below b l) (bm : Below b m) (h : ∀ x y c, lo x y c + b * hi x y c = x + y + c) (k : Nat) (hl : l.length ≤ k) (hm : m.length ≤ k) :
    val b (runL lo hi l m (k + 1)) = val b l + val b m := by
  have e := add_run lo hi b l m h (k + 1)
  rw [low_all b l _ (by omega), low_all b m _ (by omega)] at e
  have h1 := low_lt (b := b) (by omega) bl k
  have h2 := low_lt (b := b) (by omega) bm k
  rw [low_all b l _ hl] at h1
  rw [low_all b m _ hm] at h2
  have h3 : 2 * b ^ k ≤ b ^ (k + 1) := by rw [Nat.pow_succ, Nat.mul_comm 2]; exact Nat.mul_le_mul_left _ hb
  rcases Nat.eq_zero_or_pos (runC hi l m (k + 1)) with h0 | h0
  · rw [h0] at e; omega
  · have : b ^ (k + 1) * 1 ≤ b ^ (k + 1) * runC hi l m (k + 1) := Nat.mul_le_mul_left _ h0
    omega

theorem sub_end (lo hi : Nat → Nat → Nat → Nat) (b : Nat) (hb : 0 < b) (l m : List Nat) (bl : Below b l) (bm : Below b m) (h0 : ∀ x y c, lo x y c < b) (h1 : ∀ x y c, x < b → y < b → c ≤ 1 → hi x y c ≤ 1)
    (h : ∀ x y c, x < b → y < b → c ≤ 1 → lo x y c + y + c = x + b * hi x y c) (k : Nat) (hl : l.length ≤ k) (hm : m.length ≤ k) (hge : val b m ≤ val b l) :
    val b (runL lo hi l m k) = val b l - val b m := by
  have e := sub_run lo hi b hb l m bl bm h1 h k
  rw [low_all b l _ hl, low_all b m _ hm] at e
  have h2 := val_lt (runL_below lo hi l m h0 k)
  rw [runL_length] at h2
  rcases Nat.eq_zero_or_pos (runC hi l m k) with h3 | h3
  · rw [h3] at e; omega
  · have : b ^ k * 1 ≤ b ^ k * runC hi l m k := Nat.mul_le_mul_left _ h3
    omega

theorem at_set_same {l : List Nat} {i : Nat} (h : i < l.length) (x : Nat) : at_ (l.set i x) i = x := by simp [at_, h]
theorem at_set_other {l : List Nat} {i j : Nat} (h : i ≠ j) (x : Nat) : at_ (l.set i x) j = at_ l j := by simp [at_, h]
theorem Below.set {b : Nat} {l : List Nat} (h : Below b l) (i : Nat) {x : Nat} (hx : x < b) : Below b (l.set i x) := fun y hy => by
  rcases List.mem_or_eq_of_mem_set hy with h1 | h1
  · exact h y h1
  · rw [h1]; exact hx
theorem val_set (b : Nat) (l : List Nat) (x : Nat) : ∀ i, i < l.length → val b (l.set i x) + b ^ i * at_ l i = val b l + b ^ i * x := by
  induction l with
  | nil => intro i h; simp at h
  | cons y r ih =>
    intro i h
    cases i with
    | zero => simp [val, at_]; omega
    | succ i =>
      have e := ih i (by simpa using h)
      have ea : at_ (y :: r) (i + 1) = at_ r i := by simp [at_]
      rw [List.set_cons_succ, val_cons, val_cons, ea, Nat.pow_succ, Nat.mul_comm (b ^ i) b, Nat.mul_assoc, Nat.mul_assoc, Nat.add_assoc, ← Nat.mul_add, e, Nat.mul_add]
      omega

/-- Row and carry while x times m's digits are added from place o on. -/
def mulS (tl th : Nat → Nat → Nat → Nat → Nat) (l m : List Nat) (o x : Nat) : Nat → List Nat × Nat
  | 0 => (l, 0)
  | k + 1 => ((mulS tl th l m o x k).1.set (o + k) (tl x (at_ m k) (at_ (mulS tl th l m o x k).1 (o + k)) (mulS tl th l m o x k).2), th x (at_ m k) (at_ (mulS tl th l m o x k).1 (o + k)) (mulS tl th l m o x k).2)

section
variable (tl th : Nat → Nat → Nat → Nat → Nat) (l m : List Nat) (o x : Nat)
theorem mulS_length (k : Nat) : (mulS tl th l m o x k).1.length = l.length := by
  induction k with
  | zero => rfl
  | succ k ih => simp [mulS, ih]
theorem mulS_at (k j : Nat) (h : o + k ≤ j) : at_ (mulS tl th l m o x k).1 j = at_ l j := by
  induction k with
  | zero => rfl
  | succ k ih => simp only [mulS]; rw [at_set_other (by omega)]; exact ih (by omega)
theorem mulS_below {b : Nat} (hb : 0 < b) (bl : Below b l) (bm : Below b m) (hx : x < b) (h1 : ∀ x y r c, tl x y r c < b) (h2 : ∀ x y r c, x < b → y < b → r < b → c < b → th x y r c < b) (k : Nat) :
    Below b (mulS tl th l m o x k).1 ∧ (mulS tl th l m o x k).2 < b := by
  induction k with
  | zero => exact ⟨bl, hb⟩
  | succ k ih => exact ⟨ih.1.set _ (h1 _ _ _ _), h2 _ _ _ _ hx (at_below hb bm k) (at_below hb ih.1 _) ih.2⟩
theorem mulS_val (b : Nat) (h : ∀ x y r c, tl x y r c + b * th x y r c = x * y + c + r) (k : Nat) (hk : o + k ≤ l.length) :
    val b (mulS tl th l m o x k).1 + b ^ (o + k) * (mulS tl th l m o x k).2 = val b l + b ^ o * (x * low b m k) := by
  induction k with
  | zero => simp [mulS, low, val]
  | succ k ih =>
    have e := ih (by omega)
    have e1 := h x (at_ m k) (at_ (mulS tl th l m o x k).1 (o + k)) (mulS tl th l m o x k).2
    have e2 := val_set b (mulS tl th l m o x k).1 (tl x (at_ m k) (at_ (mulS tl th l m o x k).1 (o + k)) (mulS tl th l m o x k).2) (o + k) (by rw [mulS_length]; omega)
    have e3 : b ^ (o + k) * (tl x (at_ m k) (at_ (mulS tl th l m o x k).1 (o + k)) (mulS tl th l m o x k).2 + b * th x (at_ m k) (at_ (mulS tl th l m o x k).1 (o + k)) (mulS tl th l m o x k).2) = b ^ (o + k) * (x * at_ m k + (mulS tl th l m o x k).2 + at_ (mulS tl th l m o x k).1 (o + k)) := by rw [e1]
    rw [Nat.mul_add, Nat.mul_add, Nat.mul_add] at e3
    rw [low_succ, Nat.mul_add x, Nat.mul_add (b ^ o), show o + (k + 1) = (o + k) + 1 by omega, Nat.pow_succ, Nat.mul_assoc]
    have e4 : b ^ o * (x * (b ^ k * at_ m k)) = b ^ (o + k) * (x * at_ m k) := by rw [Nat.pow_add, Nat.mul_left_comm x, Nat.mul_assoc]
    simp only [mulS]
    rw [e4]
    omega
/-- The row behind the call: the last carry has found its place. -/
def mulEnd : List Nat := (mulS tl th l m o x m.length).1.set (o + m.length) (mulS tl th l m o x m.length).2
theorem mulEnd_length : (mulEnd tl th l m o x).length = l.length := by simp [mulEnd, mulS_length]
theorem mulEnd_at (j : Nat) (h : o + m.length < j) : at_ (mulEnd tl th l m o x) j = at_ l j := by
  unfold mulEnd; rw [at_set_other (by omega)]; exact mulS_at tl th l m o x _ j (by omega)
theorem mulEnd_below {b : Nat} (hb : 0 < b) (bl : Below b l) (bm : Below b m) (hx : x < b) (h1 : ∀ x y r c, tl x y r c < b) (h2 : ∀ x y r c, x < b → y < b → r < b → c < b → th x y r c < b) : Below b (mulEnd tl th l m o x) :=
  (mulS_below tl th l m o x hb bl bm hx h1 h2 _).1.set _ (mulS_below tl th l m o x hb bl bm hx h1 h2 _).2
theorem mulEnd_val (b : Nat) (h : ∀ x y r c, tl x y r c + b * th x y r c = x * y + c + r) (hk : o + m.length < l.length) (h0 : at_ l (o + m.length) = 0) :
    val b (mulEnd tl th l m o x) = val b l + b ^ o * (x * val b m) := by
  have e := mulS_val tl th l m o x b h m.length (by omega)
  have e2 := val_set b (mulS tl th l m o x m.length).1 (mulS tl th l m o x m.length).2 (o + m.length) (by rw [mulS_length]; exact hk)
  rw [mulS_at tl th l m o x _ _ (Nat.le_refl _), h0] at e2
  rw [low_all b m _ (Nat.le_refl _)] at e
  unfold mulEnd
  omega
end

/-- The whole product: row after row. -/
def mulRows (tl th : Nat → Nat → Nat → Nat → Nat) (l m : List Nat) (z : List Nat) : Nat → List Nat
  | 0 => z
  | k + 1 => mulEnd tl th (mulRows tl th l m z k) m k (at_ l k)
theorem mulRows_length (tl th : Nat → Nat → Nat → Nat → Nat) (l m z : List Nat) (k : Nat) : (mulRows tl th l m z k).length = z.length := by
  induction k with
  | zero => rfl
  | succ k ih => simp only [mulRows]; rw [mulEnd_length, ih]
theorem mulRows_at (tl th : Nat → Nat → Nat → Nat → Nat) (l m : List Nat) (n k j : Nat) (h : k + m.length ≤ j) : at_ (mulRows tl th l m (List.replicate n 0) k) j = 0 := by
  induction k with
  | zero => by_cases hj : j < n <;> simp [mulRows, at_, hj]
  | succ k ih => simp only [mulRows]; rw [mulEnd_at _ _ _ _ _ _ _ (by omega)]; exact ih (by omega)
theorem mulRows_below (tl th : Nat → Nat → Nat → Nat → Nat) {b : Nat} (hb : 0 < b) {l m : List Nat} (n : Nat) (bl : Below b l) (bm : Below b m) (h1 : ∀ x y r c, tl x y r c < b) (h2 : ∀ x y r c, x < b → y < b → r < b → c < b → th x y r c < b) (k : Nat) :
    Below b (mulRows tl th l m (List.replicate n 0) k) := by
  induction k with
  | zero => intro y hy; rw [List.eq_of_mem_replicate hy]; exact hb
  | succ k ih => exact mulEnd_below tl th _ m k _ hb ih bm (at_below hb bl k) h1 h2
theorem mulRows_val (tl th : Nat → Nat → Nat → Nat → Nat) (b : Nat) (l m : List Nat) (h : ∀ x y r c, tl x y r c + b * th x y r c = x * y + c + r) (n k : Nat) (hk : k + m.length ≤ n) :
    val b (mulRows tl th l m (List.replicate n 0) k) = low b l k * val b m := by
  induction k with
  | zero => simp [mulRows, val_zeros, low_zero]
  | succ k ih =>
    simp only [mulRows]
    rw [mulEnd_val tl th _ m k _ b h (by rw [mulRows_length, List.length_replicate]; omega) (mulRows_at tl th l m n k _ (Nat.le_refl _)), ih (by omega), low_succ, Nat.add_mul, Nat.mul_assoc]

/-- How many digits a number has, told by powers of the base. -/
theorem len_le_iff {b : Nat} (hb : 1 < b) {l : List Nat} (hl : Norm l) (bl : Below b l) (k : Nat) : l.length ≤ k ↔ val b l < b ^ k := by
  constructor
  · intro h
    exact Nat.lt_of_lt_of_le (val_lt bl) (Nat.pow_le_pow_right (by omega) h)
  · intro h
    rcases Nat.lt_or_ge k l.length with h1 | h1
    · have h2 := norm_pos (b := b) hl (by omega)
      have h3 : b ^ k ≤ b ^ (l.length - 1) := Nat.pow_le_pow_right (by omega) (by omega)
      omega
    · exact h1

end Dig
end Go.Proofs.YtkmioieanopafaaDoor
