/- Stage 4, ahead of the code: places of a text, positions, lines (no program in it). -/
import Derived.Test.YtkmioieanopafaaDoorWords
namespace Go.Proofs.YtkmioieanopafaaDoor

/-- A whole number of 64 digits. -/
def in64 (z : Int) : Prop := -9223372036854775808 ≤ z ∧ z ≤ 9223372036854775807

/-- Where a place stands: its line and its column, from 1 on. -/
def spot (L : List UInt8) : Nat → Nat × Nat
  | 0 => (1, 1)
  | i + 1 => if L[i]? = some 10 then ((spot L i).1 + 1, 1) else ((spot L i).1, (spot L i).2 + 1)
theorem spot_nl {L : List UInt8} {i : Nat} (h : L[i]? = some 10) : spot L (i + 1) = ((spot L i).1 + 1, 1) := by rw [spot, if_pos h]
theorem spot_ch {L : List UInt8} {i : Nat} (h : L[i]? ≠ some 10) : spot L (i + 1) = ((spot L i).1, (spot L i).2 + 1) := by rw [spot, if_neg h]
theorem spot_pos (L : List UInt8) (i : Nat) : 1 ≤ (spot L i).1 ∧ 1 ≤ (spot L i).2 ∧ (spot L i).1 ≤ i + 1 ∧ (spot L i).2 ≤ i + 1 := by
  induction i with
  | zero => simp [spot]
  | succ i ih =>
    by_cases h : L[i]? = some 10
    · rw [spot_nl h]; omega
    · rw [spot_ch h]; omega
/-- Ahead, by line and then by column. -/
def ahead (a b : Nat × Nat) : Prop := a.1 < b.1 ∨ (a.1 = b.1 ∧ a.2 < b.2)
theorem spot_next (L : List UInt8) (i : Nat) : ahead (spot L i) (spot L (i + 1)) := by
  unfold ahead
  by_cases h : L[i]? = some 10
  · rw [spot_nl h]; exact .inl (Nat.lt_succ_self _)
  · rw [spot_ch h]; exact .inr ⟨rfl, Nat.lt_succ_self _⟩
theorem spot_lt (L : List UInt8) {i j : Nat} (h : i < j) : ahead (spot L i) (spot L j) := by
  induction j with
  | zero => omega
  | succ j ih =>
    have hn := spot_next L j
    rcases Nat.lt_or_ge i j with h1 | h1
    · have := ih h1
      unfold ahead at *
      omega
    · obtain rfl : i = j := by omega
      exact hn
theorem spot_inj (L : List UInt8) {i j : Nat} (h : spot L i = spot L j) : i = j := by
  rcases Nat.lt_trichotomy i j with h1 | h1 | h1
  · have := spot_lt L h1
    unfold ahead at this
    rw [h] at this
    omega
  · exact h1
  · have := spot_lt L h1
    unfold ahead at this
    rw [h] at this
    omega

/-- Does a place stand at this line and column? -/
def standsAt (L : List UInt8) (l c : Int) (i : Nat) : Prop := ((spot L i).1 : Int) = l ∧ ((spot L i).2 : Int) = c
theorem standsAt_uniq {L : List UInt8} {l c : Int} {i j : Nat} (h : standsAt L l c i) (h' : standsAt L l c j) : i = j := by
  refine spot_inj L ?_
  unfold standsAt at h h'
  exact Prod.ext (by omega) (by omega)

/-- The lines of a text. -/
def lines : List UInt8 → List (List UInt8)
  | [] => [[]]
  | c :: r => if c = 10 then [] :: lines r else
    match lines r with
    | [] => [[c]]
    | l :: ls => (c :: l) :: ls
theorem lines_ne (L : List UInt8) : lines L ≠ [] := by
  cases L with
  | nil => simp [lines]
  | cons c r =>
    unfold lines
    split
    · simp
    · split <;> simp
/-- Text between two places. -/
def span (L : List UInt8) (i j : Nat) : List UInt8 := (L.take j).drop i
/-- The lines that end ahead of a place, and where the last one begins. -/
def cuts (L : List UInt8) : Nat → List (List UInt8) × Nat
  | 0 => ([], 0)
  | i + 1 => if L[i]? = some 10 then ((cuts L i).1 ++ [span L (cuts L i).2 i], i + 1) else cuts L i
theorem cuts_nl {L : List UInt8} {i : Nat} (h : L[i]? = some 10) : cuts L (i + 1) = ((cuts L i).1 ++ [span L (cuts L i).2 i], i + 1) := by rw [cuts, if_pos h]
theorem cuts_ch {L : List UInt8} {i : Nat} (h : L[i]? ≠ some 10) : cuts L (i + 1) = cuts L i := by rw [cuts, if_neg h]
theorem cuts_le (L : List UInt8) (i : Nat) : (cuts L i).2 ≤ i := by
  induction i with
  | zero => exact Nat.le_refl _
  | succ i ih =>
    by_cases h : L[i]? = some 10
    · rw [cuts_nl h]; exact Nat.le_refl _
    · rw [cuts_ch h]; omega
theorem cuts_len (L : List UInt8) (i : Nat) : (cuts L i).1.length + 1 = (spot L i).1 ∧ (cuts L i).2 + (spot L i).2 = i + 1 := by
  induction i with
  | zero => simp [cuts, spot]
  | succ i ih =>
    by_cases h : L[i]? = some 10
    · rw [cuts_nl h, spot_nl h]; simp; omega
    · rw [cuts_ch h, spot_ch h]; simp only; omega
/-- All lines, by the places where they end. -/
def rows (L : List UInt8) : List (List UInt8) := (cuts L L.length).1 ++ [span L (cuts L L.length).2 L.length]
theorem rows_len (L : List UInt8) : (rows L).length = (spot L L.length).1 := by
  have := (cuts_len L L.length).1
  simp [rows]; omega
/-- Rows, with bytes 10 between. -/
def joined : List (List UInt8) → List UInt8
  | [] => []
  | [l] => l
  | l :: m :: r => l ++ 10 :: joined (m :: r)
theorem joined_snoc (r : List (List UInt8)) (l : List UInt8) (h : r ≠ []) : joined (r ++ [l]) = joined r ++ 10 :: l := by
  induction r with
  | nil => exact absurd rfl h
  | cons a r ih =>
    cases r with
    | nil => rfl
    | cons b r =>
      show a ++ 10 :: joined (b :: r ++ [l]) = (a ++ 10 :: joined (b :: r)) ++ 10 :: l
      rw [ih (by simp)]
      simp
theorem joined_cuts (L : List UInt8) (i : Nat) (hi : i ≤ L.length) : joined ((cuts L i).1 ++ [span L (cuts L i).2 i]) = L.take i := by
  induction i with
  | zero => simp [cuts, span, joined]
  | succ i ih =>
    have h1 := ih (by omega)
    have hle := cuts_le L i
    by_cases h : L[i]? = some 10
    · rw [cuts_nl h]
      simp only
      rw [joined_snoc _ _ (by simp), h1]
      have e : span L (i + 1) (i + 1) = [] := by unfold span; rw [List.drop_eq_nil_of_le (by rw [List.length_take]; omega)]
      rw [e, List.take_add_one, h]
      rfl
    · rw [cuts_ch h, List.take_add_one]
      have hx : L[i]? = some L[i] := List.getElem?_eq_getElem (by omega)
      have e : span L (cuts L i).2 (i + 1) = span L (cuts L i).2 i ++ [L[i]] := by
        unfold span
        rw [List.take_add_one, hx, List.drop_append_of_le_length (by simp; omega)]
        rfl
      rw [e, hx, ← h1]
      generalize (cuts L i).1 = r
      generalize span L (cuts L i).2 i = l
      cases r with
      | nil => rfl
      | cons a r =>
        rw [joined_snoc _ _ (by simp), joined_snoc _ _ (by simp)]
        simp
theorem joined_rows (L : List UInt8) : joined (rows L) = L := by
  have := joined_cuts L L.length (Nat.le_refl _)
  rwa [List.take_length] at this

/-- The row in which a place stands is long enough for its column. -/
theorem row_of_place (L : List UInt8) (i j : Nat) (hij : i ≤ j) (hj : j ≤ L.length) :
    ∃ l r, (cuts L j).1 ++ [span L (cuts L j).2 j] = (cuts L i).1 ++ l :: r ∧ i ≤ (cuts L i).2 + l.length := by
  induction j with
  | zero =>
    obtain rfl : i = 0 := by omega
    exact ⟨_, [], rfl, by omega⟩
  | succ j ih =>
    rcases Nat.lt_or_ge j i with h1 | h1
    · obtain rfl : i = j + 1 := by omega
      refine ⟨_, [], rfl, ?_⟩
      have := cuts_le L (j + 1)
      unfold span
      simp
      omega
    · obtain ⟨l, r, e, hl⟩ := ih h1 (by omega)
      by_cases h : L[j]? = some 10
      · rw [cuts_nl h]
        simp only
        rw [e]
        exact ⟨l, r ++ [span L (j + 1) (j + 1)], by simp, hl⟩
      · rw [cuts_ch h]
        have hx : L[j]? = some L[j] := List.getElem?_eq_getElem (by omega)
        have hle := cuts_le L j
        have e2 : span L (cuts L j).2 (j + 1) = span L (cuts L j).2 j ++ [L[j]] := by
          unfold span
          rw [List.take_add_one, hx, List.drop_append_of_le_length (by simp; omega)]
          rfl
        rw [e2]
        generalize span L (cuts L j).2 j = s at e ⊢
        generalize (cuts L j).1 = c at e ⊢
        rcases List.eq_nil_or_concat r with rfl | ⟨r', x, rfl⟩
        · have e3 := List.append_inj' e rfl
          obtain ⟨e3, e4⟩ := e3
          injection e4 with e4
          refine ⟨l ++ [L[j]], [], by rw [e3, e4], by simp; omega⟩
        · have e3 : c ++ [s] = ((cuts L i).1 ++ l :: r') ++ [x] := by rw [e]; simp
          obtain ⟨e4, e5⟩ := List.append_inj' e3 rfl
          injection e5 with e5
          exact ⟨l, r' ++ [s ++ [L[j]]], by rw [e4]; simp, hl⟩
theorem spot_row (L : List UInt8) (i : Nat) (hi : i ≤ L.length) : ∃ l, (rows L)[(spot L i).1 - 1]? = some l ∧ (spot L i).2 ≤ l.length + 1 := by
  obtain ⟨l, r, e, hl⟩ := row_of_place L i L.length hi (Nat.le_refl _)
  obtain ⟨h1, h2⟩ := cuts_len L i
  refine ⟨l, ?_, by omega⟩
  show ((cuts L L.length).1 ++ [span L (cuts L L.length).2 L.length])[(spot L i).1 - 1]? = some l
  rw [e, show (spot L i).1 - 1 = (cuts L i).1.length by omega]
  simp
end Go.Proofs.YtkmioieanopafaaDoor
