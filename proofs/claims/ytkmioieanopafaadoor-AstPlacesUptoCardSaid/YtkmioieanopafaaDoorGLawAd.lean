/- AstPlaces, walked. -/
import Derived.Test.YtkmioieanopafaaDoorGCopC
import Derived.Test.YtkmioieanopafaaDoorGDocA
import Derived.Test.YtkmioieanopafaaDoorLawAa
import Derived.Test.YtkmioieanopafaaDoorAstU
import Derived.Test.YtkmioieanopafaaDoorAstL
namespace Go.Proofs.YtkmioieanopafaaDoor
section
open Go.RowKit

/-- A block that holds these cells, and may be written. -/
def HB (W : World) (g : Nat) (vs : List Value) : Prop := ∃ T, W.heap[g]? = some (.cells vs.toArray T (0, 0))
section
variable {W W' : World} {g : Nat} {vs : List Value}
theorem HB.lt (h : HB W g vs) : g < W.heap.size := (Array.getElem?_eq_some_iff.1 h.choose_spec).1
theorem HB.box (h : HB W g vs) : Box W g vs := fun i v hv => by
  obtain ⟨T, h⟩ := h
  refine ⟨?_, by simp [World.frozen?, h]⟩
  rw [cell_of_row _ _ i _ _ _ h]
  simpa using hv
theorem HB.keep (h : HB W g vs) (he : W'.heap[g]? = W.heap[g]?) : HB W' g vs := let ⟨T, h⟩ := h; ⟨T, he.trans h⟩
theorem HB.step (h : HB W g vs) (hb : Below W.heap.size W W') : HB W' g vs := h.keep (hb.block g h.lt)
theorem HB.new (W : World) (vs : List Value) (T : TypeId) : HB (W.alloc (.cells vs.toArray T)) W.heap.size vs := ⟨T, heap_alloc_new W _⟩
theorem HB.two_of {a b : Value} (h : HB W g [a, b]) : W.cell? ⟨g, 0, none⟩ = some a ∧ W.cell? ⟨g, 1, none⟩ = some b := h.box.two
theorem XR.one {A : Option Addr} {c : Nat} {k n : Int} {x : List UInt8} {o : Int} {gs : List XV} {l cc : Int} (h : HB W g [.int .i64 k, .int .i64 n, .string ⟨x.toArray⟩, .int .i64 o, .slice A gs.length c, .int .i64 l, .int .i64 cc]) (hx : XR W A gs) : XR W (some ⟨g, 0, none⟩) [.mk k n x o gs l cc] := by
  obtain ⟨T, h⟩ := h
  exact XR.of_block h ⟨_, [], (List.append_nil _).symm, by unfold XC; exact ⟨A, c, rfl, hx⟩, rfl⟩
end
/-- The statement that outputs an expression, with some place. -/
def outS (e : XV) (u v : Int) : SV := .mk 4 [] [e] [] [] u v
theorem SR.outS {W : World} {g b : Nat} {c c2 c3 : Nat} {C2 C3 : Option Addr} {e : XV} {u v : Int} (h : HB W g [.int .i64 4, .string ⟨#[]⟩, .slice (some ⟨b, 0, none⟩) 1 c, .slice C2 0 c2, .slice C3 0 c3, .int .i64 u, .int .i64 v]) (hx : XR W (some ⟨b, 0, none⟩) [e]) : SR W (some ⟨g, 0, none⟩) [Proofs.YtkmioieanopafaaDoor.outS e u v] := by
  obtain ⟨T, h⟩ := h
  exact SR.of_block h ⟨_, [], (List.append_nil _).symm, by unfold Proofs.YtkmioieanopafaaDoor.outS SC; exact ⟨_, c, C2, c2, C3, c3, rfl, hx, fun h => absurd rfl h, fun h => absurd rfl h⟩, rfl⟩
/-- What the copy of that program is made of. -/
theorem SO.outS {W : World} {lo hi : Nat} {B : Option Addr} {k nn : Int} {x : List UInt8} {o : Int} {gs : List XV} {l cc : Int} (h : SO W lo hi B [Proofs.YtkmioieanopafaaDoor.outS (.mk k nn x o gs l cc) 0 0]) :
    ∃ b2 b3 m' e1 C2 e2 C3 e3 D e4, B = some ⟨b2, 0, none⟩ ∧ lo ≤ b2 ∧ b2 < b3 ∧ b3 < m' ∧ m' ≤ hi ∧ HB W b2 [.int .i64 4, .string ⟨#[]⟩, .slice (some ⟨b3, 0, none⟩) 1 e1, .slice C2 0 e2, .slice C3 0 e3, .int .i64 0, .int .i64 0] ∧ HB W b3 [.int .i64 k, .int .i64 nn, .string ⟨x.toArray⟩, .int .i64 o, .slice D gs.length e4, .int .i64 l, .int .i64 cc] ∧ XR (only W (frI (b3 + 1) m')) D gs := by
  obtain ⟨b2, vs, T2, rfl, h2, h3, h4, h5⟩ := h (by simp)
  unfold STO at h5
  obtain ⟨q, cs, us, k1, k2, rfl, k4, k5⟩ := h5
  unfold STO at k5
  subst k5
  unfold Proofs.YtkmioieanopafaaDoor.outS SOC at k4
  obtain ⟨C1, e1, C2, e2, C3, e3, m1, m2, rfl, j1, j2, j3, j4, -, -⟩ := k4
  obtain ⟨b3, vs3, T3, rfl, i2, i3, i4, i5⟩ := j4 (by simp)
  unfold XL at i5
  obtain ⟨cs3, us3, rfl, i6, i7⟩ := i5
  unfold XL at i7
  subst i7
  unfold XC at i6
  obtain ⟨D, e4, rfl, i8⟩ := i6
  exact ⟨b2, b3, m1, e1, C2, e2, C3, e3, D, e4, rfl, h2, by omega, i3, by omega, ⟨T2, by simpa using h4⟩, ⟨T3, by simpa using i4⟩, i8⟩

/-- What the walk keeps: before the copy is written, and after it. -/
structure Q2 (w : World) (k nn : Int) (xs : ByteArray) (o : Int) (A : Option Addr) (m c : Nat) (l cc al ac : Int) (qb b2 b3 m' : Nat) (B1 : Option Addr) (d1 d2 e1 : Nat) (C2 : Option Addr) (e2 : Nat) (C3 : Option Addr) (e3 : Nat) (D : Option Addr) (e4 : Nat) (gs : List XV) (u v u' v' : Int) (W : World) : Prop where
  b : Below w.heap.size w W
  e : HB W (w.heap.size) [.int .i64 k, .int .i64 nn, .string xs, .int .i64 o, .slice A m c, .int .i64 l, .int .i64 cc]
  a : HB W (w.heap.size + 1) [.int .i64 al, .int .i64 ac]
  r1 : HB W (w.heap.size + 1 + 1) [.int .i64 k, .int .i64 nn, .string xs, .int .i64 o, .slice A m c, .int .i64 l, .int .i64 cc]
  r2 : HB W (w.heap.size + 1 + 1 + 1) [.int .i64 4, .string ⟨#[]⟩, .slice (some ⟨w.heap.size + 1 + 1, 0, none⟩) 1 1, .slice none 0 0, .slice none 0 0, .int .i64 0, .int .i64 0]
  p : HB W (w.heap.size + 1 + 1 + 1 + 1) [.slice none 0 0, .slice (some ⟨w.heap.size + 1 + 1 + 1, 0, none⟩) 1 1]
  q : HB W qb [.slice B1 0 d1, .slice (some ⟨b2, 0, none⟩) 1 d2]
  h2 : HB W b2 [.int .i64 4, .string ⟨#[]⟩, .slice (some ⟨b3, 0, none⟩) 1 e1, .slice C2 0 e2, .slice C3 0 e3, .int .i64 u, .int .i64 v]
  h3 : HB W b3 [.int .i64 k, .int .i64 nn, .string xs, .int .i64 o, .slice D m e4, .int .i64 u', .int .i64 v']
  dD : XR (only W (frI (b3 + 1) m')) D gs
  ord : w.heap.size + 1 + 1 + 1 + 1 < b2 ∧ b2 < b3 ∧ b3 < qb ∧ m' ≤ W.heap.size
section
variable {w : World} {k nn : Int} {xs : ByteArray} {o : Int} {A : Option Addr} {m c : Nat} {l cc al ac : Int} {qb b2 b3 m' : Nat} {B1 : Option Addr} {d1 d2 e1 : Nat} {C2 : Option Addr} {e2 : Nat} {C3 : Option Addr} {e3 : Nat} {D : Option Addr} {e4 : Nat} {gs : List XV} {u v u' v' : Int} {W W' : World}
theorem Q2.step (h : Q2 w k nn xs o A m c l cc al ac qb b2 b3 m' B1 d1 d2 e1 C2 e2 C3 e3 D e4 gs u v u' v' W) (hb : Below W.heap.size W W') : Q2 w k nn xs o A m c l cc al ac qb b2 b3 m' B1 d1 d2 e1 C2 e2 C3 e3 D e4 gs u v u' v' W' :=
  ⟨bth5 h.b hb, h.e.step hb, h.a.step hb, h.r1.step hb, h.r2.step hb, h.p.step hb, h.q.step hb, h.h2.step hb, h.h3.step hb, h.dD.sub (frI_kp (Kp.of_below hb h.ord.2.2.2)), h.ord.1, h.ord.2.1, h.ord.2.2.1, Nat.le_trans h.ord.2.2.2 hb.size⟩
/-- The places are written. -/
theorem Q2.set2 (h : Q2 w k nn xs o A m c l cc al ac qb b2 b3 m' B1 d1 d2 e1 C2 e2 C3 e3 D e4 gs u v u' v' W) (x y : Int) : Q2 w k nn xs o A m c l cc al ac qb b2 b3 m' B1 d1 d2 e1 C2 e2 C3 e3 D e4 gs x y u' v' ((W.setCell ⟨b2, 5, none⟩ (.int .i64 x)).setCell ⟨b2, 6, none⟩ (.int .i64 y)) := by
  obtain ⟨o1, o2, o3, o4⟩ := h.ord
  have kp : ∀ i, i ≠ b2 → ((W.setCell ⟨b2, 5, none⟩ (.int .i64 x)).setCell ⟨b2, 6, none⟩ (.int .i64 y)).heap[i]? = W.heap[i]? := fun i hi => (Below.heap_setCell _ _ _ i hi).trans (Below.heap_setCell _ _ _ i hi)
  have hs : ((W.setCell ⟨b2, 5, none⟩ (.int .i64 x)).setCell ⟨b2, 6, none⟩ (.int .i64 y)).heap.size = W.heap.size := by simp [World.setCell]
  refine ⟨below_set1 (below_set1 h.b (by omega)) (by omega), h.e.keep (kp _ (by omega)), h.a.keep (kp _ (by omega)), h.r1.keep (kp _ (by omega)), h.r2.keep (kp _ (by omega)), h.p.keep (kp _ (by omega)), h.q.keep (kp _ (by omega)), ?_, h.h3.keep (kp _ (by omega)), h.dD.sub (frI_kp ⟨by rw [hs]; exact Nat.le_refl _, fun i k1 k2 => kp i (by omega)⟩), o1, o2, o3, by rw [hs]; exact o4⟩
  obtain ⟨T, h2⟩ := h.h2
  exact ⟨T, setL_heap [.int .i64 x, .int .i64 y] [.int .i64 u, .int .i64 v] [.int .i64 4, .string ⟨#[]⟩, .slice (some ⟨b3, 0, none⟩) 1 e1, .slice C2 0 e2, .slice C3 0 e3] W (post := []) (by simpa using h2) rfl⟩
theorem Q2.set3 (h : Q2 w k nn xs o A m c l cc al ac qb b2 b3 m' B1 d1 d2 e1 C2 e2 C3 e3 D e4 gs u v u' v' W) (x y : Int) : Q2 w k nn xs o A m c l cc al ac qb b2 b3 m' B1 d1 d2 e1 C2 e2 C3 e3 D e4 gs u v x y ((W.setCell ⟨b3, 5, none⟩ (.int .i64 x)).setCell ⟨b3, 6, none⟩ (.int .i64 y)) := by
  obtain ⟨o1, o2, o3, o4⟩ := h.ord
  have kp : ∀ i, i ≠ b3 → ((W.setCell ⟨b3, 5, none⟩ (.int .i64 x)).setCell ⟨b3, 6, none⟩ (.int .i64 y)).heap[i]? = W.heap[i]? := fun i hi => (Below.heap_setCell _ _ _ i hi).trans (Below.heap_setCell _ _ _ i hi)
  have hs : ((W.setCell ⟨b3, 5, none⟩ (.int .i64 x)).setCell ⟨b3, 6, none⟩ (.int .i64 y)).heap.size = W.heap.size := by simp [World.setCell]
  refine ⟨below_set1 (below_set1 h.b (by omega)) (by omega), h.e.keep (kp _ (by omega)), h.a.keep (kp _ (by omega)), h.r1.keep (kp _ (by omega)), h.r2.keep (kp _ (by omega)), h.p.keep (kp _ (by omega)), h.q.keep (kp _ (by omega)), h.h2.keep (kp _ (by omega)), ?_, h.dD.sub (frI_kp ⟨by rw [hs]; exact Nat.le_refl _, fun i k1 k2 => kp i (by omega)⟩), o1, o2, o3, by rw [hs]; exact o4⟩
  obtain ⟨T, h3⟩ := h.h3
  exact ⟨T, setL_heap [.int .i64 x, .int .i64 y] [.int .i64 u', .int .i64 v'] [.int .i64 k, .int .i64 nn, .string xs, .int .i64 o, .slice D m e4] W (post := []) (by simpa using h3) rfl⟩
end
/-- The end: all is read. -/
structure Q3 (w : World) (k nn : Int) (xs : ByteArray) (o : Int) (A : Option Addr) (m c : Nat) (l cc al ac : Int) (qb b2 b3 m' : Nat) (B1 : Option Addr) (d1 d2 e1 : Nat) (C2 : Option Addr) (e2 : Nat) (C3 : Option Addr) (e3 : Nat) (D : Option Addr) (e4 : Nat) (gs : List XV) (W : World) : Prop where
  q : Q2 w k nn xs o A m c l cc al ac qb b2 b3 m' B1 d1 d2 e1 C2 e2 C3 e3 D e4 gs al ac al ac W
  l : LaidW W
  x : XR W A gs
section
variable {w : World} {k nn : Int} {xs : ByteArray} {o : Int} {A : Option Addr} {m c : Nat} {l cc al ac : Int} {qb b2 b3 m' : Nat} {B1 : Option Addr} {d1 d2 e1 : Nat} {C2 : Option Addr} {e2 : Nat} {C3 : Option Addr} {e3 : Nat} {D : Option Addr} {e4 : Nat} {gs : List XV} {W W' : World}
theorem Q3.step (h : Q3 w k nn xs o A m c l cc al ac qb b2 b3 m' B1 d1 d2 e1 C2 e2 C3 e3 D e4 gs W) (hb : Below W.heap.size W W') : Q3 w k nn xs o A m c l cc al ac qb b2 b3 m' B1 d1 d2 e1 C2 e2 C3 e3 D e4 gs W' := ⟨h.q.step hb, h.l.step hb, h.x.step hb⟩
theorem Q3.d (h : Q3 w k nn xs o A m c l cc al ac qb b2 b3 m' B1 d1 d2 e1 C2 e2 C3 e3 D e4 gs W) : XR W D gs := h.q.dD.sub (Sub.only _ _)
theorem Q3.dp (_h : Q3 w k nn xs o A m c l cc al ac qb b2 b3 m' B1 d1 d2 e1 C2 e2 C3 e3 D e4 gs W) : DR W none [] := DR.nil _ _
theorem Q3.sp {x : List UInt8} (h : Q3 w k nn xs o A m c l cc al ac qb b2 b3 m' B1 d1 d2 e1 C2 e2 C3 e3 D e4 gs W) (hg : xs = ⟨x.toArray⟩ ∧ m = gs.length) : SR W (some ⟨w.heap.size + 1 + 1 + 1, 0, none⟩) [outS (.mk k nn x o gs l cc) 0 0] := by
  obtain ⟨rfl, rfl⟩ := hg
  exact SR.outS h.q.r2 (XR.one h.q.r1 h.x)
theorem Q3.sq {x : List UInt8} (h : Q3 w k nn xs o A m c l cc al ac qb b2 b3 m' B1 d1 d2 e1 C2 e2 C3 e3 D e4 gs W) (hg : xs = ⟨x.toArray⟩ ∧ m = gs.length) : SR W (some ⟨b2, 0, none⟩) [outS (.mk k nn x o gs al ac) al ac] := by
  obtain ⟨rfl, rfl⟩ := hg
  exact SR.outS h.q.h2 (XR.one h.q.h3 h.d)
theorem Q3.cells (h : Q3 w k nn xs o A m c l cc al ac qb b2 b3 m' B1 d1 d2 e1 C2 e2 C3 e3 D e4 gs W) : W.cell? ⟨w.heap.size + 1 + 1 + 1 + 1, 0, none⟩ = some (.slice none 0 0) ∧ W.cell? ⟨w.heap.size + 1 + 1 + 1 + 1, 1, none⟩ = some (.slice (some ⟨w.heap.size + 1 + 1 + 1, 0, none⟩) 1 1) ∧ W.cell? ⟨qb, 0, none⟩ = some (.slice B1 0 d1) ∧ W.cell? ⟨qb, 1, none⟩ = some (.slice (some ⟨b2, 0, none⟩) 1 d2) ∧ W.cell? ⟨b2, 2, none⟩ = some (.slice (some ⟨b3, 0, none⟩) 1 e1) ∧ W.cell? ⟨w.heap.size, 0, none⟩ = some (.int .i64 k) ∧ W.cell? ⟨w.heap.size, 1, none⟩ = some (.int .i64 nn) ∧ W.cell? ⟨w.heap.size, 2, none⟩ = some (.string xs) ∧ W.cell? ⟨w.heap.size, 3, none⟩ = some (.int .i64 o) ∧ W.cell? ⟨w.heap.size, 4, none⟩ = some (.slice A m c) ∧ W.cell? ⟨w.heap.size, 5, none⟩ = some (.int .i64 l) ∧ W.cell? ⟨w.heap.size, 6, none⟩ = some (.int .i64 cc) ∧ W.cell? ⟨b3, 0, none⟩ = some (.int .i64 k) ∧ W.cell? ⟨b3, 1, none⟩ = some (.int .i64 nn) ∧ W.cell? ⟨b3, 2, none⟩ = some (.string xs) ∧ W.cell? ⟨b3, 3, none⟩ = some (.int .i64 o) ∧ W.cell? ⟨b3, 4, none⟩ = some (.slice D m e4) ∧ W.cell? ⟨b3, 5, none⟩ = some (.int .i64 al) ∧ W.cell? ⟨b3, 6, none⟩ = some (.int .i64 ac) :=
  ⟨(h.q.p.box 0 _ rfl).1, (h.q.p.box 1 _ rfl).1, (h.q.q.box 0 _ rfl).1, (h.q.q.box 1 _ rfl).1, (h.q.h2.box 2 _ rfl).1, (h.q.e.box 0 _ rfl).1, (h.q.e.box 1 _ rfl).1, (h.q.e.box 2 _ rfl).1, (h.q.e.box 3 _ rfl).1, (h.q.e.box 4 _ rfl).1, (h.q.e.box 5 _ rfl).1, (h.q.e.box 6 _ rfl).1, (h.q.h3.box 0 _ rfl).1, (h.q.h3.box 1 _ rfl).1, (h.q.h3.box 2 _ rfl).1, (h.q.h3.box 3 _ rfl).1, (h.q.h3.box 4 _ rfl).1, (h.q.h3.box 5 _ rfl).1, (h.q.h3.box 6 _ rfl).1⟩
end
theorem places_same (e f : XV) (h : smx1 e f = true) (u v : Int) : (smd [] [] && smy [outS e 0 0] [outS f u v]) = true := by simp [smd, smy, smy1, outS, smx, h]
theorem moved_same (k n : Int) (x : List UInt8) (o : Int) (gs : List XV) (l c l' c' : Int) : smx1 (.mk k n x o gs l c) (.mk k n x o gs l' c') = true := by simp [smx1, smx_refl]

set_option maxRecDepth 200000 in
set_option maxHeartbeats 40000000 in
theorem places_ast (e : XV) (hs : xbk1 e ≤ 1048576) (A : Option Addr) (c : Nat) (al ac : Int) (w : World) (hL : LaidW w) (hx : XR w A e.gs) :
    Calls Tryd.prog 6 #[xval e A c, .agg #[.int .i64 al, .int .i64 ac]] w fun r w' => r = .returned (.bool true) ∧ Below w.heap.size w w' := by
  cases e with
  | mk k nn x o gs l cc =>
  unfold xval
  simp only [XV.k, XV.n, XV.x, XV.o, XV.gs, XV.l, XV.c] at *
  rw [xbk1_eq] at hs
  simp only [XV.x, XV.gs] at hs
  have hsp : sbk [outS (.mk k nn x o gs l cc) 0 0] + dbk [] ≤ 4000000 := by simp only [outS, sbk, sbk1, xbk, xbk1, dbk, List.length_nil]; omega
  have hss : ssz [outS (.mk k nn x o gs l cc) 0 0] + dbk [] ≤ 4611686018427387904 := by have := ssz_bk [outS (.mk k nn x o gs l cc) 0 0]; omega
  have hgz := xsz_bk gs
  have h0 := Lib.hid (fun W hd hy => docsFew [] [outS (.mk k nn x o gs l cc) 0 0] hsp none 0 (some ⟨w.heap.size + 1 + 1 + 1, 0, none⟩) 1 300 W hd hy)
  have hC := Lib.hid (fun W hd hy => astCopy [] [outS (.mk k nn x o gs l cc) 0 0] hsp none 0 (some ⟨w.heap.size + 1 + 1 + 1, 0, none⟩) 1 W hd hy)
  have h1 := Lib.hid (fun b2 B1 d1 d2 W h1 h2 h3 h4 => astSame6 [] [] [outS (.mk k nn x o gs l cc) 0 0] [outS (.mk k nn x o gs al ac) al ac] hss none 0 (some ⟨w.heap.size + 1 + 1 + 1, 0, none⟩) 1 B1 d1 (some ⟨b2, 0, none⟩) d2 W h1 h2 h3 h4)
  rw [places_same _ _ (moved_same k nn x o gs l cc al ac)] at h1
  have hEq := astSX (xsz gs) gs (Nat.le_refl _) (by omega)
  have h2 := Lib.hid (fun D e4 W h1 h2 => astSX1 (.mk k nn x o gs l cc) (.mk k nn x o gs al ac) hEq A c D e4 W h1 h2)
  have h3 := Lib.hid (fun W h1 h2 => astSX1 (.mk k nn x o gs l cc) (.mk k nn x o gs l cc) hEq A c A c W h1 h2)
  rw [moved_same] at h2 h3
  have hdX := fun A c W h => docsExprs (xsz gs) gs (Nat.le_refl _) (by omega) A c W h
  have h4 := Lib.hid (fun W h => docsExprOf k nn x o gs l cc A c W h (fun W h => hdX A c W h))
  have h5 := Lib.hid (fun D e4 W h => docsExprOf k nn x o gs al ac D e4 W h (fun W h => hdX D e4 W h))
  have hz1 : xsz1 (.mk k nn x o gs l cc) ≤ 1 + xsz gs := by rw [xsz1_eq]; exact Nat.le_refl _
  have hgl := xsz_len gs
  have h6 := Lib.hid (fun E1 x1 E2 x2 W h1 h2 => (refSameX (1 + xsz gs) (by omega)).1 (.mk k nn x o gs l cc) (.mk k nn x o gs al ac) hz1 E1 x1 E2 x2 W (by show gs.length ≤ _; omega) h1 h2)
  rw [moved_same] at h6
  have h7 := Lib.hid (fun W (h : LaidW W) => works_ast W h)
  have HSO := Lib.hid (fun W lo hi B h => SO.outS (W := W) (lo := lo) (hi := hi) (B := B) (k := k) (nn := nn) (x := x) (o := o) (gs := gs) (l := l) (cc := cc) h)
  unfold pval at *
  unfold xval at h2 h3 h6
  simp only [XV.k, XV.n, XV.x, XV.o, XV.gs, XV.l, XV.c, List.length_nil, List.length_cons, Nat.zero_add] at h0 hC h1 h2 h3 h4 h5 h6
  obtain ⟨m, hm⟩ : ∃ m, m = gs.length := ⟨_, rfl⟩
  obtain ⟨xs, hxs⟩ : ∃ s : ByteArray, s = ⟨x.toArray⟩ := ⟨_, rfl⟩
  rw [← hm, ← hxs] at h2 h3 h4 h5 h6 HSO ⊢
  have G : xs = ⟨x.toArray⟩ ∧ m = gs.length := ⟨hxs, hm⟩
  have HG := Lib.hid G
  have hP0 : Hid (Below w.heap.size w (((((w.alloc (.cells #[.int .i64 k, .int .i64 nn, .string xs, .int .i64 o, .slice A m c, .int .i64 l, .int .i64 cc] 66)).alloc (.cells #[.int .i64 al, .int .i64 ac] 60)).alloc (.cells #[.int .i64 k, .int .i64 nn, .string xs, .int .i64 o, .slice A m c, .int .i64 l, .int .i64 cc] 66)).alloc (.cells #[.int .i64 4, .string ⟨#[]⟩, .slice (some ⟨w.heap.size + 1 + 1, 0, none⟩) 1 1, .slice none 0 0, .slice none 0 0, .int .i64 0, .int .i64 0] 62)).alloc (.cells #[.slice none 0 0, .slice (some ⟨w.heap.size + 1 + 1 + 1, 0, none⟩) 1 1] 41)) ∧ HB (((((w.alloc (.cells #[.int .i64 k, .int .i64 nn, .string xs, .int .i64 o, .slice A m c, .int .i64 l, .int .i64 cc] 66)).alloc (.cells #[.int .i64 al, .int .i64 ac] 60)).alloc (.cells #[.int .i64 k, .int .i64 nn, .string xs, .int .i64 o, .slice A m c, .int .i64 l, .int .i64 cc] 66)).alloc (.cells #[.int .i64 4, .string ⟨#[]⟩, .slice (some ⟨w.heap.size + 1 + 1, 0, none⟩) 1 1, .slice none 0 0, .slice none 0 0, .int .i64 0, .int .i64 0] 62)).alloc (.cells #[.slice none 0 0, .slice (some ⟨w.heap.size + 1 + 1 + 1, 0, none⟩) 1 1] 41)) (w.heap.size) [.int .i64 k, .int .i64 nn, .string xs, .int .i64 o, .slice A m c, .int .i64 l, .int .i64 cc] ∧ HB (((((w.alloc (.cells #[.int .i64 k, .int .i64 nn, .string xs, .int .i64 o, .slice A m c, .int .i64 l, .int .i64 cc] 66)).alloc (.cells #[.int .i64 al, .int .i64 ac] 60)).alloc (.cells #[.int .i64 k, .int .i64 nn, .string xs, .int .i64 o, .slice A m c, .int .i64 l, .int .i64 cc] 66)).alloc (.cells #[.int .i64 4, .string ⟨#[]⟩, .slice (some ⟨w.heap.size + 1 + 1, 0, none⟩) 1 1, .slice none 0 0, .slice none 0 0, .int .i64 0, .int .i64 0] 62)).alloc (.cells #[.slice none 0 0, .slice (some ⟨w.heap.size + 1 + 1 + 1, 0, none⟩) 1 1] 41)) (w.heap.size + 1) [.int .i64 al, .int .i64 ac] ∧ HB (((((w.alloc (.cells #[.int .i64 k, .int .i64 nn, .string xs, .int .i64 o, .slice A m c, .int .i64 l, .int .i64 cc] 66)).alloc (.cells #[.int .i64 al, .int .i64 ac] 60)).alloc (.cells #[.int .i64 k, .int .i64 nn, .string xs, .int .i64 o, .slice A m c, .int .i64 l, .int .i64 cc] 66)).alloc (.cells #[.int .i64 4, .string ⟨#[]⟩, .slice (some ⟨w.heap.size + 1 + 1, 0, none⟩) 1 1, .slice none 0 0, .slice none 0 0, .int .i64 0, .int .i64 0] 62)).alloc (.cells #[.slice none 0 0, .slice (some ⟨w.heap.size + 1 + 1 + 1, 0, none⟩) 1 1] 41)) (w.heap.size + 1 + 1) [.int .i64 k, .int .i64 nn, .string xs, .int .i64 o, .slice A m c, .int .i64 l, .int .i64 cc] ∧ HB (((((w.alloc (.cells #[.int .i64 k, .int .i64 nn, .string xs, .int .i64 o, .slice A m c, .int .i64 l, .int .i64 cc] 66)).alloc (.cells #[.int .i64 al, .int .i64 ac] 60)).alloc (.cells #[.int .i64 k, .int .i64 nn, .string xs, .int .i64 o, .slice A m c, .int .i64 l, .int .i64 cc] 66)).alloc (.cells #[.int .i64 4, .string ⟨#[]⟩, .slice (some ⟨w.heap.size + 1 + 1, 0, none⟩) 1 1, .slice none 0 0, .slice none 0 0, .int .i64 0, .int .i64 0] 62)).alloc (.cells #[.slice none 0 0, .slice (some ⟨w.heap.size + 1 + 1 + 1, 0, none⟩) 1 1] 41)) (w.heap.size + 1 + 1 + 1) [.int .i64 4, .string ⟨#[]⟩, .slice (some ⟨w.heap.size + 1 + 1, 0, none⟩) 1 1, .slice none 0 0, .slice none 0 0, .int .i64 0, .int .i64 0] ∧ HB (((((w.alloc (.cells #[.int .i64 k, .int .i64 nn, .string xs, .int .i64 o, .slice A m c, .int .i64 l, .int .i64 cc] 66)).alloc (.cells #[.int .i64 al, .int .i64 ac] 60)).alloc (.cells #[.int .i64 k, .int .i64 nn, .string xs, .int .i64 o, .slice A m c, .int .i64 l, .int .i64 cc] 66)).alloc (.cells #[.int .i64 4, .string ⟨#[]⟩, .slice (some ⟨w.heap.size + 1 + 1, 0, none⟩) 1 1, .slice none 0 0, .slice none 0 0, .int .i64 0, .int .i64 0] 62)).alloc (.cells #[.slice none 0 0, .slice (some ⟨w.heap.size + 1 + 1 + 1, 0, none⟩) 1 1] 41)) (w.heap.size + 1 + 1 + 1 + 1) [.slice none 0 0, .slice (some ⟨w.heap.size + 1 + 1 + 1, 0, none⟩) 1 1] ∧ (((((w.alloc (.cells #[.int .i64 k, .int .i64 nn, .string xs, .int .i64 o, .slice A m c, .int .i64 l, .int .i64 cc] 66)).alloc (.cells #[.int .i64 al, .int .i64 ac] 60)).alloc (.cells #[.int .i64 k, .int .i64 nn, .string xs, .int .i64 o, .slice A m c, .int .i64 l, .int .i64 cc] 66)).alloc (.cells #[.int .i64 4, .string ⟨#[]⟩, .slice (some ⟨w.heap.size + 1 + 1, 0, none⟩) 1 1, .slice none 0 0, .slice none 0 0, .int .i64 0, .int .i64 0] 62)).alloc (.cells #[.slice none 0 0, .slice (some ⟨w.heap.size + 1 + 1 + 1, 0, none⟩) 1 1] 41)).heap.size = w.heap.size + 1 + 1 + 1 + 1 + 1) := by
    have z1 : (w.alloc (.cells #[.int .i64 k, .int .i64 nn, .string xs, .int .i64 o, .slice A m c, .int .i64 l, .int .i64 cc] 66)).heap.size = w.heap.size + 1 := by simp
    have a1 := HB.new w [.int .i64 k, .int .i64 nn, .string xs, .int .i64 o, .slice A m c, .int .i64 l, .int .i64 cc] 66
    have a2 := HB.new (w.alloc (.cells #[.int .i64 k, .int .i64 nn, .string xs, .int .i64 o, .slice A m c, .int .i64 l, .int .i64 cc] 66)) [.int .i64 al, .int .i64 ac] 60
    rw [z1] at a2
    have z2 : ((w.alloc (.cells #[.int .i64 k, .int .i64 nn, .string xs, .int .i64 o, .slice A m c, .int .i64 l, .int .i64 cc] 66)).alloc (.cells #[.int .i64 al, .int .i64 ac] 60)).heap.size = w.heap.size + 1 + 1 := by simp
    have a3 := HB.new ((w.alloc (.cells #[.int .i64 k, .int .i64 nn, .string xs, .int .i64 o, .slice A m c, .int .i64 l, .int .i64 cc] 66)).alloc (.cells #[.int .i64 al, .int .i64 ac] 60)) [.int .i64 k, .int .i64 nn, .string xs, .int .i64 o, .slice A m c, .int .i64 l, .int .i64 cc] 66
    rw [z2] at a3
    have z3 : (((w.alloc (.cells #[.int .i64 k, .int .i64 nn, .string xs, .int .i64 o, .slice A m c, .int .i64 l, .int .i64 cc] 66)).alloc (.cells #[.int .i64 al, .int .i64 ac] 60)).alloc (.cells #[.int .i64 k, .int .i64 nn, .string xs, .int .i64 o, .slice A m c, .int .i64 l, .int .i64 cc] 66)).heap.size = w.heap.size + 1 + 1 + 1 := by simp
    have a4 := HB.new (((w.alloc (.cells #[.int .i64 k, .int .i64 nn, .string xs, .int .i64 o, .slice A m c, .int .i64 l, .int .i64 cc] 66)).alloc (.cells #[.int .i64 al, .int .i64 ac] 60)).alloc (.cells #[.int .i64 k, .int .i64 nn, .string xs, .int .i64 o, .slice A m c, .int .i64 l, .int .i64 cc] 66)) [.int .i64 4, .string ⟨#[]⟩, .slice (some ⟨w.heap.size + 1 + 1, 0, none⟩) 1 1, .slice none 0 0, .slice none 0 0, .int .i64 0, .int .i64 0] 62
    rw [z3] at a4
    have z4 : ((((w.alloc (.cells #[.int .i64 k, .int .i64 nn, .string xs, .int .i64 o, .slice A m c, .int .i64 l, .int .i64 cc] 66)).alloc (.cells #[.int .i64 al, .int .i64 ac] 60)).alloc (.cells #[.int .i64 k, .int .i64 nn, .string xs, .int .i64 o, .slice A m c, .int .i64 l, .int .i64 cc] 66)).alloc (.cells #[.int .i64 4, .string ⟨#[]⟩, .slice (some ⟨w.heap.size + 1 + 1, 0, none⟩) 1 1, .slice none 0 0, .slice none 0 0, .int .i64 0, .int .i64 0] 62)).heap.size = w.heap.size + 1 + 1 + 1 + 1 := by simp
    have a5 := HB.new ((((w.alloc (.cells #[.int .i64 k, .int .i64 nn, .string xs, .int .i64 o, .slice A m c, .int .i64 l, .int .i64 cc] 66)).alloc (.cells #[.int .i64 al, .int .i64 ac] 60)).alloc (.cells #[.int .i64 k, .int .i64 nn, .string xs, .int .i64 o, .slice A m c, .int .i64 l, .int .i64 cc] 66)).alloc (.cells #[.int .i64 4, .string ⟨#[]⟩, .slice (some ⟨w.heap.size + 1 + 1, 0, none⟩) 1 1, .slice none 0 0, .slice none 0 0, .int .i64 0, .int .i64 0] 62)) [.slice none 0 0, .slice (some ⟨w.heap.size + 1 + 1 + 1, 0, none⟩) 1 1] 41
    rw [z4] at a5
    exact ⟨bth5 (bth5 (bth5 (bth5 (bnew5 _ _) (bnew5 _ _)) (bnew5 _ _)) (bnew5 _ _)) (bnew5 _ _), (((a1.step (bnew5 _ _)).step (bnew5 _ _)).step (bnew5 _ _)).step (bnew5 _ _), ((a2.step (bnew5 _ _)).step (bnew5 _ _)).step (bnew5 _ _), (a3.step (bnew5 _ _)).step (bnew5 _ _), a4.step (bnew5 _ _), a5, by simp⟩
  have mkS : Hid (∀ {W : World}, Below w.heap.size w W → HB W (w.heap.size + 1 + 1) [.int .i64 k, .int .i64 nn, .string xs, .int .i64 o, .slice A m c, .int .i64 l, .int .i64 cc] → HB W (w.heap.size + 1 + 1 + 1) [.int .i64 4, .string ⟨#[]⟩, .slice (some ⟨w.heap.size + 1 + 1, 0, none⟩) 1 1, .slice none 0 0, .slice none 0 0, .int .i64 0, .int .i64 0] → SR W (some ⟨w.heap.size + 1 + 1 + 1, 0, none⟩) [outS (.mk k nn x o gs l cc) 0 0]) := fun {W} b a1 a2 => by
    rw [hxs, hm] at a1
    exact SR.outS a2 (XR.one a1 (hx.step b))
  clear hm hxs hs hsp hss hgz hEq hdX hz1 hgl G
  go_enter Tryd.func6, Tryd.ntmps6
  go_wp2_with fail
  generalize ((((w.alloc (.cells #[.int .i64 k, .int .i64 nn, .string xs, .int .i64 o, .slice A m c, .int .i64 l, .int .i64 cc] 66)).alloc (.cells #[.int .i64 al, .int .i64 ac] 60)).alloc (.cells #[.int .i64 k, .int .i64 nn, .string xs, .int .i64 o, .slice A m c, .int .i64 l, .int .i64 cc] 66)).alloc (.cells #[.int .i64 4, .string ⟨#[]⟩, .slice (some ⟨w.heap.size + 1 + 1, 0, none⟩) 1 1, .slice none 0 0, .slice none 0 0, .int .i64 0, .int .i64 0] 62)).alloc (.cells #[.slice none 0 0, .slice (some ⟨w.heap.size + 1 + 1 + 1, 0, none⟩) 1 1] 41) = W0 at *
  obtain ⟨b0, e0, a0, r10, r20, p0, z0⟩ := hP0.out
  have hsr := mkS.out b0 r10 r20
  refine (h0.out W0 (DR.nil _ _) hsr).mono ?_
  rintro e1 w1 ⟨⟨bb, rfl⟩, hb1⟩
  have P1 : Hid (Below w.heap.size w w1 ∧ HB w1 (w.heap.size) [.int .i64 k, .int .i64 nn, .string xs, .int .i64 o, .slice A m c, .int .i64 l, .int .i64 cc] ∧ HB w1 (w.heap.size + 1) [.int .i64 al, .int .i64 ac] ∧ HB w1 (w.heap.size + 1 + 1) [.int .i64 k, .int .i64 nn, .string xs, .int .i64 o, .slice A m c, .int .i64 l, .int .i64 cc] ∧ HB w1 (w.heap.size + 1 + 1 + 1) [.int .i64 4, .string ⟨#[]⟩, .slice (some ⟨w.heap.size + 1 + 1, 0, none⟩) 1 1, .slice none 0 0, .slice none 0 0, .int .i64 0, .int .i64 0] ∧ HB w1 (w.heap.size + 1 + 1 + 1 + 1) [.slice none 0 0, .slice (some ⟨w.heap.size + 1 + 1 + 1, 0, none⟩) 1 1] ∧ w.heap.size + 1 + 1 + 1 + 1 + 1 ≤ w1.heap.size) := ⟨bth5 b0 hb1, e0.step hb1, a0.step hb1, r10.step hb1, r20.step hb1, p0.step hb1, by have := hb1.size; omega⟩
  clear hP0 b0 e0 a0 r10 r20 p0 z0 hsr hb1
  cases bb with
  | false =>
    go_wp2_with fail
    refine (h7.out w1 (hL.step P1.out.1)).mono ?_
    rintro e2 w2 ⟨rfl, hb2⟩
    have hb2 := Lib.hid (bth5 P1.out.1 hb2)
    go_wp2_with fail
    go_ret
    first | exact ⟨rfl, hb2.out⟩ | exact hb2.out
  | true =>
    have s1 := P1.out.2.2.2.2.2.1.two_of
    go_wp2_with fail
    refine (hC.out w1 (DR.nil _ _) (mkS.out P1.out.1 P1.out.2.2.2.1 P1.out.2.2.2.2.1)).mono ?_
    rintro e2 w2 ⟨B1, d1, B2, d2, m1, rfl, g1, g2, -, hso, hb2⟩
    obtain ⟨b2, b3, m', e1, C2, e2, C3, e3, D, e4, rfl, i1, i2, i3, i4, i5, i6, i7⟩ := HSO.out _ _ _ _ hso
    have hbn := bnew5 w2 (.cells #[.slice B1 0 d1, .slice (some ⟨b2, 0, none⟩) 1 d2] 41)
    have hQ : Hid (Q2 w k nn xs o A m c l cc al ac w2.heap.size b2 b3 m' B1 d1 d2 e1 C2 e2 C3 e3 D e4 gs 0 0 l cc (w2.alloc (.cells #[.slice B1 0 d1, .slice (some ⟨b2, 0, none⟩) 1 d2] 41))) := by
      obtain ⟨j1, j2, a1, r11, r21, p1, z1⟩ := P1.out
      exact ⟨bth5 (bth5 j1 hb2) hbn, (j2.step hb2).step hbn, (a1.step hb2).step hbn, (r11.step hb2).step hbn, (r21.step hb2).step hbn, (p1.step hb2).step hbn, HB.new w2 [.slice B1 0 d1, .slice (some ⟨b2, 0, none⟩) 1 d2] _, i5.step hbn, i6.step hbn, i7.sub (frI_kp (Kp.of_below hbn i4)), by omega, i2, by omega, by have := hbn.size; omega⟩
    clear hso hb2 hbn P1 s1 i1 i2 i3 i4 i5 i6 i7 g1 g2 mkS HSO
    go_wp2_with fail
    obtain ⟨qb, hqb⟩ : ∃ n, n = w2.heap.size := ⟨_, rfl⟩
    rw [← hqb] at hQ ⊢
    clear hqb
    generalize w2.alloc (.cells #[.slice B1 0 d1, .slice (some ⟨b2, 0, none⟩) 1 d2] 41) = W5 at *
    have hQ := Lib.hid (hQ.out.step (Below.refl W5.heap.size W5).drew)
    have s5 : W5.drew.cell? ⟨qb, 1, none⟩ = some (.slice (some ⟨b2, 0, none⟩) 1 d2) ∧ W5.drew.cell? ⟨b2, 2, none⟩ = some (.slice (some ⟨b3, 0, none⟩) 1 e1) ∧ W5.drew.cell? ⟨b3, 5, none⟩ = some (.int .i64 l) ∧ W5.drew.cell? ⟨b3, 6, none⟩ = some (.int .i64 cc) ∧ W5.drew.cell? ⟨w.heap.size, 5, none⟩ = some (.int .i64 l) ∧ W5.drew.cell? ⟨w.heap.size, 6, none⟩ = some (.int .i64 cc) := ⟨(hQ.out.q.box 1 _ rfl).1, (hQ.out.h2.box 2 _ rfl).1, (hQ.out.h3.box 5 _ rfl).1, (hQ.out.h3.box 6 _ rfl).1, (hQ.out.e.box 5 _ rfl).1, (hQ.out.e.box 6 _ rfl).1⟩
    go_region_held3 (fun w' => w'.cell? ⟨qb, 1, none⟩ = some (.slice (some ⟨b2, 0, none⟩) 1 d2) ∧ w'.cell? ⟨b2, 2, none⟩ = some (.slice (some ⟨b3, 0, none⟩) 1 e1) ∧ w'.cell? ⟨b3, 5, none⟩ = some (.int .i64 l) ∧ w'.cell? ⟨b3, 6, none⟩ = some (.int .i64 cc) ∧ w'.cell? ⟨w.heap.size, 5, none⟩ = some (.int .i64 l) ∧ w'.cell? ⟨w.heap.size, 6, none⟩ = some (.int .i64 cc)) (with_reducible exact s5) (fail)
    clear s5
    generalize W5.drew = U at *
    have s6 := (hQ.out.q.box 1 _ rfl).1
    have s7 := hQ.out.a.two_of
    have s8 := (hQ.out.h2.box 5 _ rfl).1
    have s9 := (hQ.out.h2.box 6 _ rfl).1
    have f8 := (hQ.out.h2.box 5 _ rfl).2
    have f9 := (hQ.out.h2.box 6 _ rfl).2
    have hQ2 := Lib.hid (hQ.out.set2 al ac)
    go_wp2_with fail
    clear s6 s7 s8 s9 f8 f9 hQ
    generalize (U.setCell ⟨b2, 5, none⟩ (.int .i64 al)).setCell ⟨b2, 6, none⟩ (.int .i64 ac) = U7 at *
    have hQ := Lib.hid (hQ2.out.step (Below.refl U7.heap.size U7).drew)
    have hQ4 := Lib.hid ((hQ2.out.set3 al ac).step (Below.refl _ _).drew)
    have s8 : U7.drew.cell? ⟨qb, 1, none⟩ = some (.slice (some ⟨b2, 0, none⟩) 1 d2) ∧ U7.drew.cell? ⟨b2, 2, none⟩ = some (.slice (some ⟨b3, 0, none⟩) 1 e1) ∧ U7.drew.cell? ⟨w.heap.size + 1, 0, none⟩ = some (.int .i64 al) ∧ U7.drew.cell? ⟨w.heap.size + 1, 1, none⟩ = some (.int .i64 ac) := ⟨(hQ.out.q.box 1 _ rfl).1, (hQ.out.h2.box 2 _ rfl).1, hQ.out.a.two_of.1, hQ.out.a.two_of.2⟩
    have s9 : ((U7.setCell ⟨b3, 5, none⟩ (.int .i64 al)).setCell ⟨b3, 6, none⟩ (.int .i64 ac)).drew.cell? ⟨qb, 1, none⟩ = some (.slice (some ⟨b2, 0, none⟩) 1 d2) ∧ ((U7.setCell ⟨b3, 5, none⟩ (.int .i64 al)).setCell ⟨b3, 6, none⟩ (.int .i64 ac)).drew.cell? ⟨b2, 2, none⟩ = some (.slice (some ⟨b3, 0, none⟩) 1 e1) ∧ ((U7.setCell ⟨b3, 5, none⟩ (.int .i64 al)).setCell ⟨b3, 6, none⟩ (.int .i64 ac)).drew.cell? ⟨w.heap.size + 1, 0, none⟩ = some (.int .i64 al) ∧ ((U7.setCell ⟨b3, 5, none⟩ (.int .i64 al)).setCell ⟨b3, 6, none⟩ (.int .i64 ac)).drew.cell? ⟨w.heap.size + 1, 1, none⟩ = some (.int .i64 ac) := ⟨(hQ4.out.q.box 1 _ rfl).1, (hQ4.out.h2.box 2 _ rfl).1, hQ4.out.a.two_of.1, hQ4.out.a.two_of.2⟩
    have j8 := (hQ2.out.h3.box 5 _ rfl).1
    have j9 := (hQ2.out.h3.box 6 _ rfl).1
    have f8 := (hQ2.out.h3.box 5 _ rfl).2
    have f9 := (hQ2.out.h3.box 6 _ rfl).2
    go_region_held3 (fun w' => w'.cell? ⟨qb, 1, none⟩ = some (.slice (some ⟨b2, 0, none⟩) 1 d2) ∧ w'.cell? ⟨b2, 2, none⟩ = some (.slice (some ⟨b3, 0, none⟩) 1 e1) ∧ w'.cell? ⟨w.heap.size + 1, 0, none⟩ = some (.int .i64 al) ∧ w'.cell? ⟨w.heap.size + 1, 1, none⟩ = some (.int .i64 ac)) (first | with_reducible exact s8 | with_reducible exact s9) (fail)
    clear s8 s9 j8 j9 f8 f9 hQ hQ2
    go_wp2_with fail
    generalize ((U7.setCell ⟨b3, 5, none⟩ (.int .i64 al)).setCell ⟨b3, 6, none⟩ (.int .i64 ac)).drew = U8 at *
    have hQ := Lib.hid (hQ4.out.step (Below.refl U8.heap.size U8).drew)
    have K0 : Hid (Q3 w k nn xs o A m c l cc al ac qb b2 b3 m' B1 d1 d2 e1 C2 e2 C3 e3 D e4 gs U8.drew) := ⟨hQ.out, hL.step hQ.out.b, hx.step hQ.out.b⟩
    have s0 := K0.out.cells
    clear hQ hQ4
    go_region_held3 (fun w' => w'.cell? ⟨w.heap.size + 1 + 1 + 1 + 1, 0, none⟩ = some (.slice none 0 0) ∧ w'.cell? ⟨w.heap.size + 1 + 1 + 1 + 1, 1, none⟩ = some (.slice (some ⟨w.heap.size + 1 + 1 + 1, 0, none⟩) 1 1) ∧ w'.cell? ⟨qb, 0, none⟩ = some (.slice B1 0 d1) ∧ w'.cell? ⟨qb, 1, none⟩ = some (.slice (some ⟨b2, 0, none⟩) 1 d2) ∧ w'.cell? ⟨b2, 2, none⟩ = some (.slice (some ⟨b3, 0, none⟩) 1 e1) ∧ w'.cell? ⟨w.heap.size, 0, none⟩ = some (.int .i64 k) ∧ w'.cell? ⟨w.heap.size, 1, none⟩ = some (.int .i64 nn) ∧ w'.cell? ⟨w.heap.size, 2, none⟩ = some (.string xs) ∧ w'.cell? ⟨w.heap.size, 3, none⟩ = some (.int .i64 o) ∧ w'.cell? ⟨w.heap.size, 4, none⟩ = some (.slice A m c) ∧ w'.cell? ⟨w.heap.size, 5, none⟩ = some (.int .i64 l) ∧ w'.cell? ⟨w.heap.size, 6, none⟩ = some (.int .i64 cc) ∧ w'.cell? ⟨b3, 0, none⟩ = some (.int .i64 k) ∧ w'.cell? ⟨b3, 1, none⟩ = some (.int .i64 nn) ∧ w'.cell? ⟨b3, 2, none⟩ = some (.string xs) ∧ w'.cell? ⟨b3, 3, none⟩ = some (.int .i64 o) ∧ w'.cell? ⟨b3, 4, none⟩ = some (.slice D m e4) ∧ w'.cell? ⟨b3, 5, none⟩ = some (.int .i64 al) ∧ w'.cell? ⟨b3, 6, none⟩ = some (.int .i64 ac)) (first | with_reducible exact s0 | with_reducible exact s1 | with_reducible exact s2 | with_reducible exact s3 | with_reducible exact s4 | with_reducible exact s5 | with_reducible exact s6 | with_reducible exact s7)
      (first
        | (go_at_call 31
           with_reducible refine (h1.out _ _ _ _ _ K0.out.dp (K0.out.sp HG.out) (DR.nil _ B1) (K0.out.sq HG.out)).mono ?_
           rintro e V1 ⟨rfl, hb⟩
           have K1 := Lib.hid (K0.out.step hb)
           have s1 := K1.out.cells)
        | (go_at_call 41
           with_reducible refine (h2.out _ _ _ K1.out.x K1.out.d).mono ?_
           rintro e V2 ⟨rfl, hb⟩
           have K2 := Lib.hid (K1.out.step hb)
           have s2 := K2.out.cells)
        | (go_at_call 41
           with_reducible refine (h3.out _ K2.out.x K2.out.x).mono ?_
           rintro e V3 ⟨rfl, hb⟩
           have K3 := Lib.hid (K2.out.step hb)
           have s3 := K3.out.cells)
        | (go_at_call 43
           with_reducible refine (h4.out _ K3.out.x).mono ?_
           rintro e V4 ⟨E1, x1, rfl, y1, hb⟩
           have y1 := Lib.hid (y1.sub (Sub.only _ _))
           have K4 := Lib.hid (K3.out.step hb)
           have s4 := K4.out.cells)
        | (go_at_call 43
           with_reducible refine (h5.out _ _ _ K4.out.d).mono ?_
           rintro e V5 ⟨E2, x2, rfl, y2, hb⟩
           have y1 := Lib.hid (y1.out.step hb)
           have y2 := Lib.hid (y2.sub (Sub.only _ _))
           have K5 := Lib.hid (K4.out.step hb)
           have s5 := K5.out.cells)
        | (go_at_call 42
           with_reducible refine (h6.out _ _ _ _ _ y1.out y2.out).mono ?_
           rintro e V6 ⟨rfl, hb⟩
           have K6 := Lib.hid (K5.out.step hb)
           have s6 := K6.out.cells)
        | (go_at_call 7
           with_reducible refine (h7.out _ K6.out.l).mono ?_
           rintro e V7 ⟨rfl, hb⟩
           have K7 := Lib.hid (K6.out.step hb)
           have s7 := K7.out.cells))
    go_wp2_with fail
    go_ret
    first | exact ⟨rfl, K7.out.q.b⟩ | exact K7.out.q.b
end
end Go.Proofs.YtkmioieanopafaaDoor
