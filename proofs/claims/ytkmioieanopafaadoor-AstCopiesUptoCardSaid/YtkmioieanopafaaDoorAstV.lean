/- Rows of trees, cell by cell: from a row's cells to what it reads as (no program in it). -/
import Derived.Test.YtkmioieanopafaaDoorAstI
namespace Go.Proofs.YtkmioieanopafaaDoor
open Go.RowKit

/-- The cells of a row of expressions; of statements; of declarations. -/
def XL (W : World) : List XV → List Value → Prop
  | [], vs => vs = []
  | e :: r, vs => ∃ cs us, vs = cs ++ us ∧ XC W e cs ∧ XL W r us
def SL (W : World) : List SV → List Value → Prop
  | [], vs => vs = []
  | e :: r, vs => ∃ cs us, vs = cs ++ us ∧ SC W e cs ∧ SL W r us
theorem XC.len {W : World} {e : XV} {cs : List Value} (h : XC W e cs) : cs.length = 7 := by
  cases e
  unfold XC at h
  obtain ⟨A, cap, rfl, -⟩ := h
  rfl
theorem SC.len {W : World} {e : SV} {cs : List Value} (h : SC W e cs) : cs.length = 7 := by
  cases e
  unfold SC at h
  obtain ⟨A1, c1, A2, c2, A3, c3, rfl, -⟩ := h
  rfl
theorem XC.one {W : World} {e : XV} {cs : List Value} (h : XC W e cs) : ∀ u ∈ cs, u.oneCell' = true := by
  cases e
  unfold XC at h
  obtain ⟨A, cap, rfl, -⟩ := h
  intro u hu
  simp only [List.mem_cons, List.not_mem_nil, or_false] at hu
  rcases hu with rfl | rfl | rfl | rfl | rfl | rfl | rfl <;> rfl
theorem SC.one {W : World} {e : SV} {cs : List Value} (h : SC W e cs) : ∀ u ∈ cs, u.oneCell' = true := by
  cases e
  unfold SC at h
  obtain ⟨A1, c1, A2, c2, A3, c3, rfl, -⟩ := h
  intro u hu
  simp only [List.mem_cons, List.not_mem_nil, or_false] at hu
  rcases hu with rfl | rfl | rfl | rfl | rfl | rfl | rfl <;> rfl
theorem XL.len {W : World} : ∀ {es : List XV} {vs : List Value}, XL W es vs → vs.length = es.length * 7
  | [], vs, h => by unfold XL at h; subst h; rfl
  | e :: r, vs, h => by
    unfold XL at h
    obtain ⟨cs, us, rfl, h1, h2⟩ := h
    have := h1.len
    have := XL.len h2
    simp; omega
theorem SL.len {W : World} : ∀ {es : List SV} {vs : List Value}, SL W es vs → vs.length = es.length * 7
  | [], vs, h => by unfold SL at h; subst h; rfl
  | e :: r, vs, h => by
    unfold SL at h
    obtain ⟨cs, us, rfl, h1, h2⟩ := h
    have := h1.len
    have := SL.len h2
    simp; omega
theorem XL.step {W W' : World} (hb : Below W.heap.size W W') : ∀ {es : List XV} {vs : List Value}, XL W es vs → XL W' es vs
  | [], vs, h => by unfold XL at h ⊢; exact h
  | e :: r, vs, h => by
    unfold XL at h ⊢
    obtain ⟨cs, us, h0, h1, h2⟩ := h
    exact ⟨cs, us, h0, XC.step hb e cs h1, XL.step hb h2⟩
theorem SL.step {W W' : World} (hb : Below W.heap.size W W') : ∀ {es : List SV} {vs : List Value}, SL W es vs → SL W' es vs
  | [], vs, h => by unfold SL at h ⊢; exact h
  | e :: r, vs, h => by
    unfold SL at h ⊢
    obtain ⟨cs, us, h0, h1, h2⟩ := h
    exact ⟨cs, us, h0, SC.step hb e cs h1, SL.step hb h2⟩
theorem XL.snoc {W : World} : ∀ {es : List XV} {vs : List Value} {e : XV} {cs : List Value}, XL W es vs → XC W e cs → XL W (es ++ [e]) (vs ++ cs)
  | [], vs, e, cs, h, hc => by
    unfold XL at h
    subst h
    exact ⟨cs, [], by simp, hc, rfl⟩
  | a :: r, vs, e, cs, h, hc => by
    unfold XL at h
    obtain ⟨ds, us, rfl, h1, h2⟩ := h
    exact ⟨ds, us ++ cs, by simp, h1, XL.snoc h2 hc⟩
theorem SL.snoc {W : World} : ∀ {es : List SV} {vs : List Value} {e : SV} {cs : List Value}, SL W es vs → SC W e cs → SL W (es ++ [e]) (vs ++ cs)
  | [], vs, e, cs, h, hc => by
    unfold SL at h
    subst h
    exact ⟨cs, [], by simp, hc, rfl⟩
  | a :: r, vs, e, cs, h, hc => by
    unfold SL at h
    obtain ⟨ds, us, rfl, h1, h2⟩ := h
    exact ⟨ds, us ++ cs, by simp, h1, SL.snoc h2 hc⟩
theorem add_at (g o j : Nat) : (⟨g, o, none⟩ : Addr).add j = ⟨g, o + j, none⟩ := by by_cases h : j = 0 <;> simp [Addr.add, h]
theorem XS.of_cells {W : World} {g : Nat} : ∀ {es : List XV} {vs : List Value} {o : Nat}, XL W es vs → (∀ j v, vs[j]? = some v → W.cell? ⟨g, o + j, none⟩ = some v) → XS W es ⟨g, o, none⟩
  | [], _, _, _, _ => by unfold XS; trivial
  | e :: r, vs, o, h, hc => by
    unfold XL at h
    obtain ⟨cs, us, rfl, h1, h2⟩ := h
    have hl := h1.len
    unfold XS
    refine ⟨⟨cs, h1, fun j v hj => ?_⟩, ?_⟩
    · rw [add_at]
      refine hc j v ?_
      rw [List.getElem?_append_left (List.getElem?_eq_some_iff.1 hj).1]
      exact hj
    · rw [add_at]
      refine XS.of_cells h2 fun j v hj => ?_
      have := hc (7 + j) v (by rw [List.getElem?_append_right (by omega), hl]; simpa using hj)
      rwa [← Nat.add_assoc] at this
theorem SS.of_cells {W : World} {g : Nat} : ∀ {es : List SV} {vs : List Value} {o : Nat}, SL W es vs → (∀ j v, vs[j]? = some v → W.cell? ⟨g, o + j, none⟩ = some v) → SS W es ⟨g, o, none⟩
  | [], _, _, _, _ => by unfold SS; trivial
  | e :: r, vs, o, h, hc => by
    unfold SL at h
    obtain ⟨cs, us, rfl, h1, h2⟩ := h
    have hl := h1.len
    unfold SS
    refine ⟨⟨cs, h1, fun j v hj => ?_⟩, ?_⟩
    · rw [add_at]
      refine hc j v ?_
      rw [List.getElem?_append_left (List.getElem?_eq_some_iff.1 hj).1]
      exact hj
    · rw [add_at]
      refine SS.of_cells h2 fun j v hj => ?_
      have := hc (7 + j) v (by rw [List.getElem?_append_right (by omega), hl]; simpa using hj)
      rwa [← Nat.add_assoc] at this
/-- A new block that holds a row's cells. -/
theorem XR.of_block {W : World} {g : Nat} {t : TypeId} {fr : Nat × Nat} {es : List XV} {vs : List Value} (hg : W.heap[g]? = some (.cells vs.toArray t fr)) (h : XL W es vs) : XR W (some ⟨g, 0, none⟩) es := fun _ =>
  ⟨_, rfl, XS.of_cells h fun j v hj => by rw [cell_of_row _ _ _ vs.toArray t fr hg]; simpa using hj⟩
theorem SR.of_block {W : World} {g : Nat} {t : TypeId} {fr : Nat × Nat} {es : List SV} {vs : List Value} (hg : W.heap[g]? = some (.cells vs.toArray t fr)) (h : SL W es vs) : SR W (some ⟨g, 0, none⟩) es := fun _ =>
  ⟨_, rfl, SS.of_cells h fun j v hj => by rw [cell_of_row _ _ _ vs.toArray t fr hg]; simpa using hj⟩
theorem XR.nil (W : World) (A : Option Addr) : XR W A [] := fun h => absurd rfl h
theorem SR.nil (W : World) (A : Option Addr) : SR W A [] := fun h => absurd rfl h
theorem DR.nil (W : World) (A : Option Addr) : DR W A [] := fun h => absurd rfl h
end Go.Proofs.YtkmioieanopafaaDoor
