/- The contracts of the reference's Of, Place, Cmp of layer 4. -/
import Derived.Test.YtkmioieanopafaaDoorPosA
import Derived.Deep.RegionWith
namespace Go.Proofs.YtkmioieanopafaaDoor
open Go.RowKit

theorem size_len_ (s : ByteArray) : s.data.toList.length = s.size := by rw [Array.length_toList]; rfl
/-- A byte of a text: what the walk reads there. -/
theorem byte_at (s : ByteArray) (i : Nat) (hi : i < s.size) : ∃ z : Int, 0 ≤ z ∧ z < 256 ∧ (∀ w, (Go.Instr.index 9 (.string s) (.int .i64 (i : Int))).run Tryd.prog w = .ok (.int .u8 z) w) ∧ (z = 10 ↔ s.data.toList[i]? = some 10) ∧ s.data.toList[i]? = some (UInt8.ofNat z.toNat) := by
  refine ⟨((s[i]'hi).toNat : Int), by omega, by have := (s[i]'hi).toNat_lt; omega, fun w => ?_, ?_, ?_⟩
  · rw [run_index_string w 9 s .i64 i Tryd.underlying9, dif_pos ⟨by omega, by omega⟩]
    simp
  · have h : s.data.toList[i]? = some (s[i]'hi) := by
      rw [List.getElem?_eq_getElem (by rw [size_len_]; exact hi)]; rfl
    rw [h]
    constructor
    · intro h2
      congr 1
      exact UInt8.toNat_inj.1 (by show _ = 10; omega)
    · intro h2
      injection h2 with h2
      rw [h2]; rfl
  · rw [List.getElem?_eq_getElem (by rw [size_len_]; exact hi)]
    simp
    rfl

/-- A position in a box: a line and a column. -/
structure PB (W : World) (g : Nat) (l c : Int) : Prop where
  c0 : W.cell? ⟨g, 0, none⟩ = some (.int .i64 l)
  c1 : W.cell? ⟨g, 1, none⟩ = some (.int .i64 c)
  f0 : W.frozen? ⟨g, 0, none⟩ = false
  f1 : W.frozen? ⟨g, 1, none⟩ = false

section
variable {W W' : World} {g : Nat} {l c : Int}
theorem PB.step (h : PB W g l c) (hb : Below W.heap.size W W') : PB W' g l c :=
  ⟨(bcell1 hb h.c0 h.f0).1, (bcell1 hb h.c1 h.f1).1, (bcell1 hb h.c0 h.f0).2, (bcell1 hb h.c1 h.f1).2⟩
theorem PB.far (h : PB W g l c) {p : Addr} (hp : p.block ≠ g) (u : Value) : PB (W.setCell p u) g l c :=
  ⟨(World.cell?_setCell_other _ _ _ _ (fun e => hp (by rw [e]))).trans h.c0, (World.cell?_setCell_other _ _ _ _ (fun e => hp (by rw [e]))).trans h.c1, by simpa using h.f0, by simpa using h.f1⟩
theorem PB.set1 (h : PB W g l c) (x : Int) : PB (W.setCell ⟨g, 1, none⟩ (.int .i64 x)) g l x :=
  ⟨(World.cell?_setCell_other _ _ _ _ (fun e => by injection e; omega)).trans h.c0, World.cell?_setCell_same _ _ _ h.c1, by simpa using h.f0, by simpa using h.f1⟩
theorem PB.set0 (h : PB W g l c) (x : Int) : PB (W.setCell ⟨g, 0, none⟩ (.int .i64 x)) g x c :=
  ⟨World.cell?_setCell_same _ _ _ h.c0, (World.cell?_setCell_other _ _ _ _ (fun e => by injection e; omega)).trans h.c1, by simpa using h.f0, by simpa using h.f1⟩
theorem PB.new (W : World) (l c : Int) (T : TypeId) : PB (W.alloc (.cells #[.int .i64 l, .int .i64 c] T)) W.heap.size l c :=
  ⟨by simp [go_sem], by simp [go_sem], by simp [go_sem], by simp [go_sem]⟩
theorem PB.lt (h : PB W g l c) : g < W.heap.size := World.block_lt_of_cell? W ⟨g, 0, none⟩ h.c0
end

/-- What the loops over a text hold. -/
structure PL4 (w : World) (gr g : Nat) (l c : Int) (W : World) : Prop where
  res : PB W gr 0 0
  cur : PB W g l c
  ne : gr ≠ g
  base : w.heap.size ≤ gr ∧ w.heap.size ≤ g
  below : Below w.heap.size w W

theorem PL4.set0 {w W : World} {gr g : Nat} {l c : Int} (h : PL4 w gr g l c W) (x : Int) : PL4 w gr g x c (W.setCell ⟨g, 0, none⟩ (.int .i64 x)) :=
  ⟨h.res.far (fun e => h.ne e.symm) _, h.cur.set0 x, h.ne, h.base, h.below.setCell h.base.2 _⟩
theorem PL4.set1 {w W : World} {gr g : Nat} {l c : Int} (h : PL4 w gr g l c W) (x : Int) : PL4 w gr g l x (W.setCell ⟨g, 1, none⟩ (.int .i64 x)) :=
  ⟨h.res.far (fun e => h.ne e.symm) _, h.cur.set1 x, h.ne, h.base, h.below.setCell h.base.2 _⟩
/-- A position stored at once into the result's box. -/
theorem PB.both {W : World} {g : Nat} {l c : Int} (h : PB W g l c) (x y : Int) : PB ((W.setCell ⟨g, 0, none⟩ (.int .i64 x)).setCell ⟨g, 1, none⟩ (.int .i64 y)) g x y := (h.set0 x).set1 y

/-- What the loop of Place holds. -/
structure PL5 (w : World) (gp g : Nat) (l c : Int) (l' c' : Int) (W : World) : Prop where
  arg : PB W gp l c
  cur : PB W g l' c'
  ne : gp ≠ g
  base : w.heap.size ≤ g
  below : Below w.heap.size w W
theorem PL5.set0 {w W : World} {gp g : Nat} {l c l' c' : Int} (h : PL5 w gp g l c l' c' W) (x : Int) : PL5 w gp g l c x c' (W.setCell ⟨g, 0, none⟩ (.int .i64 x)) :=
  ⟨h.arg.far (fun e => h.ne e.symm) _, h.cur.set0 x, h.ne, h.base, h.below.setCell h.base _⟩
theorem PL5.set1 {w W : World} {gp g : Nat} {l c l' c' : Int} (h : PL5 w gp g l c l' c' W) (x : Int) : PL5 w gp g l c l' x (W.setCell ⟨g, 1, none⟩ (.int .i64 x)) :=
  ⟨h.arg.far (fun e => h.ne e.symm) _, h.cur.set1 x, h.ne, h.base, h.below.setCell h.base _⟩
/-- How Place ends. -/
def PlaceEnd (s : ByteArray) (l c : Int) (e : Ending) : Prop :=
  (∃ k, k ≤ s.size ∧ standsAt s.data.toList l c k ∧ e = .returned (.tuple #[.int .i64 k, .bool true])) ∨
  ((∀ k, k ≤ s.size → ¬ standsAt s.data.toList l c k) ∧ e = .returned (.tuple #[.int .i64 0, .bool false]))

end Go.Proofs.YtkmioieanopafaaDoor
