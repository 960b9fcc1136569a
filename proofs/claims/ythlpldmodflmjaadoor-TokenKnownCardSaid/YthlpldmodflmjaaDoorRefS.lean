/- The contracts of the reference's Of, Place, Cmp of layer 4. -/
import Derived.Test.YthlpldmodflmjaaDoorPosA
import Derived.Deep.RegionWith
namespace Go.Proofs.YthlpldmodflmjaaDoor
open Go.RowKit

theorem size_len_ (s : ByteArray) : s.data.toList.length = s.size := by rw [Array.length_toList]; rfl
/-- A byte of a text: what the walk reads there. -/
theorem byte_at (s : ByteArray) (i : Nat) (hi : i < s.size) : ∃ z : Int, 0 ≤ z ∧ z < 256 ∧ (∀ w, (Go.Instr.index 9 (.string s) (.int .i64 (i : Int))).run Tryd.prog w = .ok (.int .u8 z) w) ∧ (z = 10 ↔ s.data.toList[i]? = some 10) ∧ s.data.toList[i]? = some (UInt8.ofNat z.toNat) := by
  refine ⟨((s[i]'hi).toNat : Int), by omega, by have := (s[i]'hi).toNat_lt; omega, fun w => ?_, ?_, ?_⟩
  · rw [run_index_string w 9 s .i64 i Tryd.underlying9, dif_pos ⟨by omega, by omega⟩]
    simp
  · have h : s.data.toList[i]? = some (s[i]'hi) := by
      rw [List.getElem?_eq_getElem (by rw [size_len_]; exact hi)]; rfl
    rw [h]
    constructor
    · intro h2
      congr 1
      exact UInt8.toNat_inj.1 (by show _ = 10; omega)
    · intro h2
      injection h2 with h2
      rw [h2]; rfl
  · rw [List.getElem?_eq_getElem (by rw [size_len_]; exact hi)]
    simp
    rfl

/-- A position in a box: a line and a column. -/
structure PB (W : World) (g : Nat) (l c : Int) : Prop where
  c0 : W.cell? ⟨g, 0, none⟩ = some (.int .i64 l)
  c1 : W.cell? ⟨g, 1, none⟩ = some (.int .i64 c)
  f0 : W.frozen? ⟨g, 0, none⟩ = false
  f1 : W.frozen? ⟨g, 1, none⟩ = false

section
variable {W W' : World} {g : Nat} {l c : Int}
theorem PB.step (h : PB W g l c) (hb : Below W.heap.size W W') : PB W' g l c :=
  ⟨(bcell1 hb h.c0 h.f0).1, (bcell1 hb h.c1 h.f1).1, (bcell1 hb h.c0 h.f0).2, (bcell1 hb h.c1 h.f1).2⟩
theorem PB.far (h : PB W g l c) {p : Addr} (hp : p.block ≠ g) (u : Value) : PB (W.setCell p u) g l c :=
  ⟨(World.cell?_setCell_other _ _ _ _ (fun e => hp (by rw [e]))).trans h.c0, (World.cell?_setCell_other _ _ _ _ (fun e => hp (by rw [e]))).trans h.c1, by simpa using h.f0, by simpa using h.f1⟩
theorem PB.set1 (h : PB W g l c) (x : Int) : PB (W.setCell ⟨g, 1, none⟩ (.int .i64 x)) g l x :=
  ⟨(World.cell?_setCell_other _ _ _ _ (fun e => by injection e; omega)).trans h.c0, World.cell?_setCell_same _ _ _ h.c1, by simpa using h.f0, by simpa using h.f1⟩
theorem PB.set0 (h : PB W g l c) (x : Int) : PB (W.setCell ⟨g, 0, none⟩ (.int .i64 x)) g x c :=
  ⟨World.cell?_setCell_same _ _ _ h.c0, (World.cell?_setCell_other _ _ _ _ (fun e => by injection e; omega)).trans h.c1, by simpa using h.f0, by simpa using h.f1⟩
theorem PB.new (W : World) (l c : Int) (T : TypeId) : PB (W.alloc (.cells #[.int .i64 l, .int .i64 c] T)) W.heap.size l c :=
  ⟨by simp [go_sem], by simp [go_sem], by simp [go_sem], by simp [go_sem]⟩
theorem PB.lt (h : PB W g l c) : g < W.heap.size := World.block_lt_of_cell? W ⟨g, 0, none⟩ h.c0
end

set_option maxHeartbeats 1000000 in
theorem refPosOf_no (s : ByteArray) (z : Int) (h : z < 0 ∨ (¬ z < 0 ∧ (s.size : Int) < z)) (w : World) :
    Calls Tryd.prog 27 #[.string s, .int .i64 z] w fun e w' => e = .returned (.tuple #[.agg #[.int .i64 0, .int .i64 0], .bool false]) ∧ Below w.heap.size w w' := by
  rcases h with h | ⟨h, h2⟩
  · go_enter Tryd.func27, Tryd.ntmps27
    go_wp2_with fail
    refine bodyPost_ret (v := .tuple #[.agg #[.int .i64 0, .int .i64 0], .bool false]) (by simp [results, Tryd.results27, go_sem]) rfl ?_
    exact ⟨rfl, (Below.refl _ _).alloc (Nat.le_refl _) _⟩
  · go_enter Tryd.func27, Tryd.ntmps27
    go_wp2_with fail
    refine bodyPost_ret (v := .tuple #[.agg #[.int .i64 0, .int .i64 0], .bool false]) (by simp [results, Tryd.results27, go_sem]) rfl ?_
    exact ⟨rfl, (Below.refl _ _).alloc (Nat.le_refl _) _⟩

/-- What the loops over a text hold. -/
structure PL4 (w : World) (gr g : Nat) (l c : Int) (W : World) : Prop where
  res : PB W gr 0 0
  cur : PB W g l c
  ne : gr ≠ g
  base : w.heap.size ≤ gr ∧ w.heap.size ≤ g
  below : Below w.heap.size w W

theorem PL4.set0 {w W : World} {gr g : Nat} {l c : Int} (h : PL4 w gr g l c W) (x : Int) : PL4 w gr g x c (W.setCell ⟨g, 0, none⟩ (.int .i64 x)) :=
  ⟨h.res.far (fun e => h.ne e.symm) _, h.cur.set0 x, h.ne, h.base, h.below.setCell h.base.2 _⟩
theorem PL4.set1 {w W : World} {gr g : Nat} {l c : Int} (h : PL4 w gr g l c W) (x : Int) : PL4 w gr g l x (W.setCell ⟨g, 1, none⟩ (.int .i64 x)) :=
  ⟨h.res.far (fun e => h.ne e.symm) _, h.cur.set1 x, h.ne, h.base, h.below.setCell h.base.2 _⟩
/-- A position stored at once into the result's box. -/
theorem PB.both {W : World} {g : Nat} {l c : Int} (h : PB W g l c) (x y : Int) : PB ((W.setCell ⟨g, 0, none⟩ (.int .i64 x)).setCell ⟨g, 1, none⟩ (.int .i64 y)) g x y := (h.set0 x).set1 y

set_option maxHeartbeats 1000000 in
theorem refPosOf_yes (s : ByteArray) (k : Nat) (h : k ≤ s.size) (hs : s.size ≤ 100000) (w : World) :
    Calls Tryd.prog 27 #[.string s, .int .i64 k] w fun e w' => e = .returned (.tuple #[.agg #[.int .i64 ((spot s.data.toList k).1 : Nat), .int .i64 ((spot s.data.toList k).2 : Nat)], .bool true]) ∧ Below w.heap.size w w' := by
  have h1 : ¬ ((k : Int) < 0) := by omega
  have h2 : ¬ ((s.size : Int) < (k : Int)) := by omega
  have hst0 : Hid (PL4 w w.heap.size (w.heap.size + 1) 1 1 ((w.alloc (.cells #[.int .i64 0, .int .i64 0] 25)).alloc (.cells #[.int .i64 1, .int .i64 1] 25))) :=
    ⟨(PB.new w 0 0 _).step ((Below.refl _ _).alloc (Nat.le_refl _) _), by have := PB.new (w.alloc (.cells #[.int .i64 0, .int .i64 0] 25)) 1 1 25; simpa using this, by omega, by omega, ((Below.refl _ _).alloc (Nat.le_refl _) _).alloc (by simp) _⟩
  go_enter Tryd.func27, Tryd.ntmps27
  go_wp2_with fail
  go_loopw [7] (fun v W => ∃ i : Nat, i ≤ k ∧ v = .int .i64 i ∧ Hid (PL4 w w.heap.size (w.heap.size + 1) ((spot s.data.toList i).1 : Nat) ((spot s.data.toList i).2 : Nat) W)) (fun v _ => k - (intOf v).toNat)
  case atStart => exact ⟨0, by omega, rfl, hst0⟩
  case round =>
    obtain ⟨i, hi, rfl, hst⟩ := hrel
    clear hst0
    have c0 := hst.out.cur.c0
    have c1 := hst.out.cur.c1
    have f0 := hst.out.cur.f0
    have f1 := hst.out.cur.f1
    have hb := spot_pos s.data.toList i
    by_cases hlt : i < k
    · obtain ⟨z, hz0, hz1, hidx, hz10, _⟩ := byte_at s i (by omega)
      have hlt' : (i : Int) < k := by omega
      by_cases h10 : z = 10
      · have hsp := spot_nl (hz10.1 h10)
        subst h10
        have HS := Lib.hid hsp
        clear hsp hz10
        generalize spot s.data.toList i = p at *
        go_wp2_with fail
        refine ⟨⟨i + 1, by omega, by go_num, ?_⟩, by simp [intOf]; omega⟩
        rw [HS.out]
        exact ((hst.out.set1 _).set0 _).set1 _
      · have hsp := spot_ch (fun h => h10 (hz10.2 h))
        have HS := Lib.hid hsp
        clear hsp hz10
        generalize spot s.data.toList i = p at *
        go_wp2_with fail
        refine ⟨⟨i + 1, by omega, by go_num, ?_⟩, by simp [intOf]; omega⟩
        rw [HS.out]
        exact hst.out.set1 _
    · obtain rfl : i = k := by omega
      have hr := hst.out.res
      have r0 := hr.c0
      have r1 := hr.c1
      have q0 := hr.f0
      have q1 := hr.f1
      go_wp2_with fail
      have hfin := hr.both ((spot s.data.toList i).1 : Nat) ((spot s.data.toList i).2 : Nat)
      have e0 := hfin.c0
      have e1 := hfin.c1
      refine bodyPost_ret (v := .tuple #[.agg #[.int .i64 ((spot s.data.toList i).1 : Nat), .int .i64 ((spot s.data.toList i).2 : Nat)], .bool true]) (by simp [results, Tryd.results27, go_sem, r0, r1]) rfl ?_
      exact ⟨rfl, (hst.out.below.setCell (Nat.le_refl _) _).setCell (Nat.le_refl _) _⟩

/-- What the loop of Place holds. -/
structure PL5 (w : World) (gp g : Nat) (l c : Int) (l' c' : Int) (W : World) : Prop where
  arg : PB W gp l c
  cur : PB W g l' c'
  ne : gp ≠ g
  base : w.heap.size ≤ g
  below : Below w.heap.size w W
theorem PL5.set0 {w W : World} {gp g : Nat} {l c l' c' : Int} (h : PL5 w gp g l c l' c' W) (x : Int) : PL5 w gp g l c x c' (W.setCell ⟨g, 0, none⟩ (.int .i64 x)) :=
  ⟨h.arg.far (fun e => h.ne e.symm) _, h.cur.set0 x, h.ne, h.base, h.below.setCell h.base _⟩
theorem PL5.set1 {w W : World} {gp g : Nat} {l c l' c' : Int} (h : PL5 w gp g l c l' c' W) (x : Int) : PL5 w gp g l c l' x (W.setCell ⟨g, 1, none⟩ (.int .i64 x)) :=
  ⟨h.arg.far (fun e => h.ne e.symm) _, h.cur.set1 x, h.ne, h.base, h.below.setCell h.base _⟩
/-- How Place ends. -/
def PlaceEnd (s : ByteArray) (l c : Int) (e : Ending) : Prop :=
  (∃ k, k ≤ s.size ∧ standsAt s.data.toList l c k ∧ e = .returned (.tuple #[.int .i64 k, .bool true])) ∨
  ((∀ k, k ≤ s.size → ¬ standsAt s.data.toList l c k) ∧ e = .returned (.tuple #[.int .i64 0, .bool false]))

end Go.Proofs.YthlpldmodflmjaaDoor
