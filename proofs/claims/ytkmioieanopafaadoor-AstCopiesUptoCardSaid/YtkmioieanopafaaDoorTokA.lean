/- Stage 5, ahead of the code: what bytes and texts are (no program in it). -/
import Derived.Test.YtkmioieanopafaaDoorPosA
namespace Go.Proofs.YtkmioieanopafaaDoor

/-- A digit; a letter; a blank. -/
def dgt (c : UInt8) : Bool := decide (48 ≤ c.toNat ∧ c.toNat ≤ 57)
def ltr (c : UInt8) : Bool := decide (97 ≤ c.toNat ∧ c.toNat ≤ 122 ∨ 65 ≤ c.toNat ∧ c.toNat ≤ 90 ∨ c.toNat = 95)
def blk (c : UInt8) : Bool := decide (c.toNat = 9 ∨ c.toNat = 10 ∨ c.toNat = 13 ∨ c.toNat = 32)
/-- A word's text, however long; an int's; a sign's. -/
def isWordB : List UInt8 → Bool
  | [] => false
  | c :: r => ltr c && r.all fun d => ltr d || dgt d
def isIntB (l : List UInt8) : Bool := !l.isEmpty && l.all dgt
def signs : List (List UInt8) := [[124, 124], [38, 38], [61, 61], [33, 61], [60, 61], [62, 61], [60, 60], [62, 62], [60], [62], [61], [43], [45], [42], [47], [37], [38], [124], [94], [33], [126], [40], [41], [123], [125], [91], [93], [44], [59]]
def isSignB (l : List UInt8) : Bool := signs.contains l

theorem isWordB_iff (l : List UInt8) : isWordB l = true ↔ l ≠ [] ∧ ∀ i, i < l.length → ∀ c, l[i]? = some c → ltr c = true ∨ (i ≠ 0 ∧ dgt c = true) := by
  cases l with
  | nil => simp [isWordB]
  | cons c r =>
    simp only [isWordB, Bool.and_eq_true, List.all_eq_true, Bool.or_eq_true, ne_eq, reduceCtorEq, not_false_eq_true, true_and]
    constructor
    · rintro ⟨h1, h2⟩ i hi d hd
      cases i with
      | zero => simp at hd; subst hd; exact .inl h1
      | succ i =>
        simp only [List.getElem?_cons_succ] at hd
        rcases h2 d (List.mem_iff_getElem?.2 ⟨i, hd⟩) with h | h
        · exact .inl h
        · exact .inr ⟨by omega, h⟩
    · intro h
      refine ⟨?_, fun d hd => ?_⟩
      · rcases h 0 (by simp) c rfl with h | h
        · exact h
        · exact absurd rfl h.1
      · obtain ⟨i, hi⟩ := List.mem_iff_getElem?.1 hd
        have hlt := (List.getElem?_eq_some_iff.1 hi).1
        rcases h (i + 1) (by simp; omega) d (by simpa using hi) with h | h
        · exact .inl h
        · exact .inr h.2
theorem isIntB_iff (l : List UInt8) : isIntB l = true ↔ l ≠ [] ∧ ∀ i, i < l.length → ∀ c, l[i]? = some c → dgt c = true := by
  unfold isIntB
  simp only [Bool.and_eq_true, Bool.not_eq_true', List.isEmpty_eq_false_iff, List.all_eq_true, ne_eq]
  constructor
  · rintro ⟨h1, h2⟩
    exact ⟨h1, fun i _ c hc => h2 c (List.mem_iff_getElem?.2 ⟨i, hc⟩)⟩
  · rintro ⟨h1, h2⟩
    refine ⟨h1, fun d hd => ?_⟩
    obtain ⟨i, hi⟩ := List.mem_iff_getElem?.1 hd
    exact h2 i (List.getElem?_eq_some_iff.1 hi).1 d hi

/-- The place behind blanks and comments: from a place on, within a comment or not. -/
def skipL : List UInt8 → Bool → Nat
  | [], _ => 0
  | c :: r, inn => if inn = false ∧ blk c = false ∧ c ≠ 35 then 0 else skipL r ((inn || c == 35) && c != 10) + 1
theorem skipL_le (l : List UInt8) (b : Bool) : skipL l b ≤ l.length := by
  induction l generalizing b with
  | nil => exact Nat.le_refl _
  | cons c r ih =>
    unfold skipL
    split
    · omega
    · have := ih ((b || c == 35) && c != 10)
      simp; omega
/-- How many bytes the longest token has by which a text begins, and its kind. -/
def kindOf (l : List UInt8) : Option Nat := if isWordB l then some 0 else if isIntB l then some 1 else if l.length ≤ 2 ∧ isSignB l then some 2 else none
def longF : Nat → List UInt8 → Nat → Nat × Nat → Nat × Nat
  | 0, _, _, best => best
  | f + 1, l, i, best =>
    if l.length < i then best else
      match kindOf (l.take i) with
      | some k => longF f l (i + 1) (i, k)
      | none => if 2 < i then best else longF f l (i + 1) best
def longL (l : List UInt8) : Nat × Nat := longF (l.length + 1) l 1 (0, 0)
/-- An int's number, as the reference reckons it (of any bytes); is it none? -/
def numW (l : List UInt8) : Nat := l.foldl (fun n c => (10 * n + (c - 48).toNat) % LB) 0
def topB : List UInt8 := [57, 50, 50, 51, 51, 55, 50, 48, 51, 54, 56, 53, 52, 55, 55, 53, 56, 48, 56]
def gtB (a b : List UInt8) : Bool := !(Go.Op.bytesLess a b || a == b)
def numBad (l : List UInt8) : Bool := (decide (1 < l.length) && (l[0]? == some 48)) || decide (19 < l.length) || (decide (l.length = 19) && gtB l topB)
def numV (l : List UInt8) : Int × Bool := if numBad l then (0, false) else (IntKind.i64.wrap (numW l), true)
theorem numW_next (l : List UInt8) (i : Nat) (c : UInt8) (h : l[i]? = some c) : numW (l.take (i + 1)) = (10 * numW (l.take i) + (c - 48).toNat) % LB := by
  rw [List.take_add_one, h]
  unfold numW
  simp
theorem numW_lt (l : List UInt8) : numW l < LB := by
  unfold numW
  have h : ∀ n, n < LB → l.foldl (fun n c => (10 * n + (c - 48).toNat) % LB) n < LB := by
    induction l with
    | nil => exact fun n h => h
    | cons c r ih => intro n _; exact ih _ (Nat.mod_lt _ (by unfold LB; omega))
  exact h 0 (by unfold LB; omega)
end Go.Proofs.YtkmioieanopafaaDoor
