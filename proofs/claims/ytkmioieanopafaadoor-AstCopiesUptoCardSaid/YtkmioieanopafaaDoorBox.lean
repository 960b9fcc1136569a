/- Boxes of any cells, and what is kept while nothing old is turned (no program in it). -/
import Derived.Test.YtkmioieanopafaaDoorWords
import Derived.Deep.RegionHeld3
namespace Go.Proofs.YtkmioieanopafaaDoor
open Go.RowKit

/-- A box: its cells, that may be written. -/
def Box (W : World) (g : Nat) (vs : List Value) : Prop := ∀ i v, vs[i]? = some v → W.cell? ⟨g, i, none⟩ = some v ∧ W.frozen? ⟨g, i, none⟩ = false
theorem Box.step {W W' : World} {g : Nat} {vs : List Value} (h : Box W g vs) (hb : Below W.heap.size W W') : Box W' g vs := fun i v hv => by
  obtain ⟨h1, h2⟩ := h i v hv
  have hlt := World.block_lt_of_cell? W ⟨g, i, none⟩ h1
  exact ⟨(hb.cell (p := ⟨g, i, none⟩) hlt).trans h1, (hb.frozen (p := ⟨g, i, none⟩) hlt).trans h2⟩
theorem Box.new (W : World) (vs : List Value) (T : TypeId) : Box (W.alloc (.cells vs.toArray T)) W.heap.size vs := fun i v hv => by
  refine ⟨?_, by simp [go_sem]⟩
  rw [cell_of_row _ _ i vs.toArray T (0, 0) (heap_alloc_new W _)]
  simpa using hv
theorem Box.set {W : World} {g : Nat} {vs : List Value} (h : Box W g vs) (j : Nat) (u : Value) : Box (W.setCell ⟨g, j, none⟩ u) g (vs.set j u) := fun i v hv => by
  have hi := (List.getElem?_eq_some_iff.1 hv).1
  rw [List.length_set] at hi
  obtain ⟨h1, h2⟩ := h i vs[i] (List.getElem?_eq_getElem hi)
  refine ⟨?_, by simpa using h2⟩
  by_cases e : i = j
  · subst e
    rw [List.getElem?_set_self hi] at hv
    injection hv with hv
    rw [← hv]
    exact World.cell?_setCell_same _ _ _ h1
  · rw [List.getElem?_set_ne (fun e2 => e e2.symm)] at hv
    rw [List.getElem?_eq_getElem hi] at hv
    rw [World.cell?_setCell_other _ _ _ _ (fun e2 => by injection e2; omega), h1, hv]
theorem Box.far {W : World} {g : Nat} {vs : List Value} (h : Box W g vs) {p : Addr} (hp : p.block ≠ g) (u : Value) : Box (W.setCell p u) g vs := fun i v hv => by
  obtain ⟨h1, h2⟩ := h i v hv
  exact ⟨(World.cell?_setCell_other _ _ _ _ (fun e => hp (by rw [e]))).trans h1, by simpa using h2⟩
theorem Box.far5 {W : World} {g b : Nat} {vs : List Value} (h : Box W g vs) (hp : b ≠ g) (v0 v1 v2 v3 v4 : Value) : Box (((((W.setCell ⟨b, 0, none⟩ v0).setCell ⟨b, 1, none⟩ v1).setCell ⟨b, 2, none⟩ v2).setCell ⟨b, 3, none⟩ v3).setCell ⟨b, 4, none⟩ v4) g vs :=
  ((((h.far hp _).far hp _).far hp _).far hp _).far hp _
theorem Box.far3 {W : World} {g b : Nat} {vs : List Value} (h : Box W g vs) (hp : b ≠ g) (v0 v1 v2 : Value) : Box (((W.setCell ⟨b, 0, none⟩ v0).setCell ⟨b, 1, none⟩ v1).setCell ⟨b, 2, none⟩ v2) g vs :=
  ((h.far hp _).far hp _).far hp _
theorem Box.two {W : World} {g : Nat} {a b : Value} {vs : List Value} (h : Box W g (a :: b :: vs)) : W.cell? ⟨g, 0, none⟩ = some a ∧ W.cell? ⟨g, 1, none⟩ = some b := ⟨(h 0 _ rfl).1, (h 1 _ rfl).1⟩
theorem Box.three {W : World} {g : Nat} {a b c : Value} {vs : List Value} (h : Box W g (a :: b :: c :: vs)) : W.cell? ⟨g, 0, none⟩ = some a ∧ W.cell? ⟨g, 1, none⟩ = some b ∧ W.cell? ⟨g, 2, none⟩ = some c := ⟨(h 0 _ rfl).1, (h 1 _ rfl).1, (h 2 _ rfl).1⟩
theorem Box.drew {W : World} {g : Nat} {vs : List Value} (h : Box W g vs) : Box W.drew g vs := h.step (Below.refl _ _).drew
theorem Box.lt {W : World} {g : Nat} {vs : List Value} (h : Box W g vs) (h0 : vs ≠ []) : g < W.heap.size := by
  cases vs with
  | nil => exact absurd rfl h0
  | cons v r => exact World.block_lt_of_cell? W ⟨g, 0, none⟩ (h 0 v rfl).1
theorem bnew5 (W : World) (o : Obj) : Below W.heap.size W (W.alloc o) := (Below.refl _ _).alloc (Nat.le_refl _) o
theorem bth5 {w W W' : World} (h : Below w.heap.size w W) (hb : Below W.heap.size W W') : Below w.heap.size w W' := h.trans (hb.mono h.size)

theorem cst5 {W W' : World} (hb : Below W.heap.size W W') {p : Addr} {u : Value} (h : W.cell? p = some u) : W'.cell? p = some u :=
  (hb.cell (p := p) (World.block_lt_of_cell? W p h)).trans h
theorem Box.five5 {W : World} {g : Nat} {a b c d e : Value} (h : Box W g [a, b, c, d, e]) : W.cell? ⟨g, 0, none⟩ = some a ∧ W.cell? ⟨g, 1, none⟩ = some b ∧ W.cell? ⟨g, 2, none⟩ = some c ∧ W.cell? ⟨g, 3, none⟩ = some d ∧ W.cell? ⟨g, 4, none⟩ = some e := ⟨(h 0 _ rfl).1, (h 1 _ rfl).1, (h 2 _ rfl).1, (h 3 _ rfl).1, (h 4 _ rfl).1⟩
theorem Box.frz5 {W : World} {g : Nat} {a b c d e : Value} (h : Box W g [a, b, c, d, e]) : W.frozen? ⟨g, 0, none⟩ = false ∧ W.frozen? ⟨g, 1, none⟩ = false ∧ W.frozen? ⟨g, 2, none⟩ = false ∧ W.frozen? ⟨g, 3, none⟩ = false ∧ W.frozen? ⟨g, 4, none⟩ = false := ⟨(h 0 _ rfl).2, (h 1 _ rfl).2, (h 2 _ rfl).2, (h 3 _ rfl).2, (h 4 _ rfl).2⟩
/-- Three boxes, new. -/
theorem threeNew (w : World) (va vt vf : List Value) (Ta Tt Tf : TypeId) : Box (((w.alloc (.cells va.toArray Ta)).alloc (.cells vt.toArray Tt)).alloc (.cells vf.toArray Tf)) w.heap.size va ∧ Box (((w.alloc (.cells va.toArray Ta)).alloc (.cells vt.toArray Tt)).alloc (.cells vf.toArray Tf)) (w.heap.size + 1) vt ∧ Box (((w.alloc (.cells va.toArray Ta)).alloc (.cells vt.toArray Tt)).alloc (.cells vf.toArray Tf)) (w.heap.size + 1 + 1) vf ∧ Below w.heap.size w (((w.alloc (.cells va.toArray Ta)).alloc (.cells vt.toArray Tt)).alloc (.cells vf.toArray Tf)) ∧ (((w.alloc (.cells va.toArray Ta)).alloc (.cells vt.toArray Tt)).alloc (.cells vf.toArray Tf)).heap.size = w.heap.size + 3 := by
  have b1 := Box.new w va Ta
  have b2 := Box.new (w.alloc (.cells va.toArray Ta)) vt Tt
  have b3 := Box.new ((w.alloc (.cells va.toArray Ta)).alloc (.cells vt.toArray Tt)) vf Tf
  have e1 : (w.alloc (.cells va.toArray Ta)).heap.size = w.heap.size + 1 := by simp
  have e2 : ((w.alloc (.cells va.toArray Ta)).alloc (.cells vt.toArray Tt)).heap.size = w.heap.size + 1 + 1 := by simp
  rw [e1] at b2
  rw [e2] at b3
  exact ⟨(b1.step (bnew5 _ _)).step (bnew5 _ _), b2.step (bnew5 _ _), b3, bth5 (bth5 (bnew5 _ _) (bnew5 _ _)) (bnew5 _ _), by simp⟩

end Go.Proofs.YtkmioieanopafaaDoor
