/- What statements name, by the landed ast: the uses, in order; what a round of the loop over them keeps; expressions' uses. -/
import Derived.Test.YtkmioieanopafaaDoorAstP
import Derived.RangeFuncNested
import Derived.RangeFuncBound
import Derived.RangeFuncCalls
import Derived.RangeFuncLeaves
import Derived.Shelf.Abstract
import Derived.Shelf.RegionOpen
import Derived.WalkKit
import Derived.OwnWalkIn
import Derived.TacticsInMore
import Derived.LoopNIn
import Derived.LoopIn
namespace Go.Proofs.YtkmioieanopafaaDoor
open Go.RowKit Go.Shelf

/-- What an expression names itself; a statement. -/
def xown (e : XV) : List (Int × List UInt8) := if e.k = 1 ∨ e.k = 2 then [(0, e.x)] else []
def sown (s : SV) : List (Int × List UInt8) := if s.k = 0 ∨ s.k = 1 then [(1, s.x)] else if s.k = 5 then [(2, s.x)] else []
mutual
def xus1 : XV → List (Int × List UInt8)
  | .mk k n x o gs l c => xown (.mk k n x o gs l c) ++ xus gs
def xus : List XV → List (Int × List UInt8)
  | [] => []
  | e :: r => xus1 e ++ xus r
end
mutual
def sus1 : SV → List (Int × List UInt8)
  | .mk k x es ts us l c => sown (.mk k x es ts us l c) ++ (xus es ++ (sus ts ++ sus us))
def sus : List SV → List (Int × List UInt8)
  | [] => []
  | s :: r => sus1 s ++ sus r
end
theorem xus1_eq (e : XV) : xus1 e = xown e ++ xus e.gs := by cases e; simp [xus1, XV.gs]
theorem sus1_eq (s : SV) : sus1 s = sown s ++ (xus s.es ++ (sus s.ts ++ sus s.us)) := by cases s; simp [sus1, SV.es, SV.ts, SV.us]
theorem xus_append (a b : List XV) : xus (a ++ b) = xus a ++ xus b := by
  induction a with
  | nil => simp [xus]
  | cons e r ih => simp [xus, ih]
theorem sus_append (a b : List SV) : sus (a ++ b) = sus a ++ sus b := by
  induction a with
  | nil => simp [sus]
  | cons e r ih => simp [sus, ih]
theorem xus_take {es : List XV} {i : Nat} {e : XV} (h : es[i]? = some e) : xus (es.take (i + 1)) = xus (es.take i) ++ (xown e ++ xus e.gs) := by
  rw [List.take_add_one, h]
  simp [xus_append, xus, xus1_eq]
theorem sus_take {es : List SV} {i : Nat} {e : SV} (h : es[i]? = some e) : sus (es.take (i + 1)) = sus (es.take i) ++ (sown e ++ (xus e.es ++ (sus e.ts ++ sus e.us))) := by
  rw [List.take_add_one, h]
  simp [sus_append, sus, sus1_eq]
theorem xus_pre (es : List XV) (i : Nat) : xus (es.take i) <+: xus es := ⟨xus (es.drop i), by rw [← xus_append, List.take_append_drop]⟩
theorem sus_pre (es : List SV) (i : Nat) : sus (es.take i) <+: sus es := ⟨sus (es.drop i), by rw [← sus_append, List.take_append_drop]⟩

theorem xown_len (e : XV) : (xown e).length ≤ 1 := by unfold xown; split <;> simp
theorem sown_len (e : SV) : (sown e).length ≤ 1 := by unfold sown; split; simp; split <;> simp
mutual
theorem xus1_len : ∀ e : XV, (xus1 e).length ≤ xbk1 e
  | .mk k n x o gs l c => by
    have h1 := xus_len gs
    have h2 := xown_len (.mk k n x o gs l c)
    simp only [xus1, xbk1, List.length_append]
    omega
theorem xus_len : ∀ es : List XV, (xus es).length ≤ xbk es
  | [] => by simp [xus]
  | e :: r => by
    have h1 := xus1_len e
    have h2 := xus_len r
    simp only [xus, xbk, List.length_append]
    omega
end
mutual
theorem sus1_len : ∀ e : SV, (sus1 e).length ≤ sbk1 e
  | .mk k x es ts us l c => by
    have h1 := xus_len es
    have h2 := sus_len ts
    have h3 := sus_len us
    have h4 := sown_len (.mk k x es ts us l c)
    simp only [sus1, sbk1, List.length_append]
    omega
theorem sus_len : ∀ es : List SV, (sus es).length ≤ sbk es
  | [] => by simp [sus]
  | e :: r => by
    have h1 := sus1_len e
    have h2 := sus_len r
    simp only [sus, sbk, List.length_append]
    omega
end

/-- Block i is neither the box of the names nor the names' row. -/
def FarN (nb : Nat) (W : World) (i : Nat) : Prop := i ≠ nb ∧ ∀ v, W.cell? ⟨nb, 0, none⟩ = some v → v.ownBlock ≠ some i
def GoodN (nb : Nat) (W : World) : Prop := nb < W.heap.size ∧ ∀ v g, W.cell? ⟨nb, 0, none⟩ = some v → v.ownBlock = some g → g < W.heap.size
/-- What a round keeps. -/
structure KpN (n0 nb : Nat) (A B : World) : Prop where
  below : Below n0 A B
  good : GoodN nb A → GoodN nb B
  same : ∀ i cs t fr, A.heap[i]? = some (.cells cs t fr) → FarN nb A i → B.heap[i]? = some (.cells cs t fr) ∧ FarN nb B i
theorem KpN.refl (n0 nb : Nat) (A : World) : KpN n0 nb A A := ⟨Below.refl _ _, id, fun _ _ _ _ h hf => ⟨h, hf⟩⟩
theorem KpN.trans {n0 nb : Nat} {A B C : World} (h : KpN n0 nb A B) (k : KpN n0 nb B C) : KpN n0 nb A C :=
  ⟨h.below.trans k.below, fun g => k.good (h.good g), fun i cs t fr hc hf => let ⟨h1, h2⟩ := h.same i cs t fr hc hf; k.same i cs t fr h1 h2⟩
theorem cell_alloc_n (W : World) (o : Obj) {nb : Nat} (h : nb < W.heap.size) : (W.alloc o).cell? ⟨nb, 0, none⟩ = W.cell? ⟨nb, 0, none⟩ := World.cell?_alloc_lt W o ⟨nb, 0, none⟩ h
theorem GoodN.alloc {nb : Nat} {W : World} (h : GoodN nb W) (o : Obj) : GoodN nb (W.alloc o) :=
  ⟨by simp; have := h.1; omega, fun v g hv hg => by rw [cell_alloc_n W o h.1] at hv; have := h.2 v g hv hg; simp; omega⟩
theorem KpN.alloc {n0 nb : Nat} (W : World) (o : Obj) (hn : n0 ≤ W.heap.size) (hg : GoodN nb W) : KpN n0 nb W (W.alloc o) :=
  ⟨(Below.refl _ _).alloc hn o, fun g => g.alloc o, fun i cs t fr hc hf => ⟨(Below.heap_alloc W o i (Array.getElem?_eq_some_iff.1 hc).1).trans hc, hf.1, fun v hv => by rw [cell_alloc_n W o hg.1] at hv; exact hf.2 v hv⟩⟩
/-- A block just made is far. -/
theorem FarN.new {nb : Nat} {W : World} (o : Obj) (hg : GoodN nb W) : FarN nb (W.alloc o) W.heap.size :=
  ⟨fun e => by have := hg.1; omega, fun v hv e => by rw [cell_alloc_n W o hg.1] at hv; have := hg.2 v _ hv e; omega⟩
/-- A box of the walk's own, laid in W: behind a round it lies as it lay. -/
theorem KpN.box {n0 nb : Nat} {W W' : World} {vs : List Value} {T : TypeId} (hg : GoodN nb W) (h : KpN n0 nb (W.alloc (.cells vs.toArray T)) W') {i : Nat} {v : Value} (hv : vs[i]? = some v) : W'.cell? ⟨W.heap.size, i, none⟩ = some v := by
  obtain ⟨h1, -⟩ := h.same W.heap.size vs.toArray T (0, 0) (heap_alloc_new W _) (FarN.new _ hg)
  rw [cell_of_row _ _ i _ T (0, 0) h1]
  simpa using hv

/-- How a use is handed over. -/
def encU (x : Int × List UInt8) : Array Value := #[.int .i64 x.1, .string ⟨(x.2.take 4000000).toArray⟩]
theorem encU_of {k : Int} {x : List UInt8} (h : x.length ≤ 4000000) : encU (k, x) = #[.int .i64 k, .string ⟨x.toArray⟩] := by
  unfold encU
  rw [List.take_of_length_le h]

theorem room_of_none {F : Fence} (hd : F.depth = none) (k : Nat) : F.room k := fun d h => by rw [hd] at h; cases h
/-- Where no depth is asked the figures are all one. -/
theorem RoundIn.anyD {F : Fence} (hd : F.depth = none) {m m' : Nat} {P : Program} {l : Nat} {f : FuncId} {tmps : Array Value} {assign body : Code} {w : World} {R : Ending → World → Prop}
    (h : RoundIn F m P l f tmps assign body w R) : RoundIn F m' P l f tmps assign body w R := ⟨h.1, fun c cs _ => h.2 c cs (room_of_none hd _)⟩
theorem YieldAt.anyD {F : Fence} (hd : F.depth = none) {m : Nat} (m' : Nat) {P : Program} {l : Nat} {args : Array Value} {W : World} {R : Ending → World → Prop} (h : YieldAt F m P l args W R) : YieldAt F m' P l args W R := by
  obtain ⟨fn, tmps, assign, body, hy, hR⟩ := h
  exact ⟨fn, tmps, assign, body, hy, RoundIn.anyD hd hR⟩

/-- What the walk over uses is told of a loop's body: J what it knows between two rounds, Jx behind the last one, if it has said 'no more'. -/
structure BodyN (F : Fence) (l n0 nb N : Nat) (J Jx : List (Int × List UInt8) → World → Prop) : Prop where
  al : ∀ pre W o, J pre W → J pre (W.alloc o)
  yi : ∀ m pre x W, J pre W → pre.length < N → YieldAt F m Tryd.prog l (encU x) W fun e W' => (e = .returned (.bool true) ∧ J (pre ++ [x]) W' ∧ KpN n0 nb W W') ∨ (e = .returned (.bool false) ∧ Jx (pre ++ [x]) W')

/-- What the walk over a row of uses answers. -/
def UsesP (n0 nb : Nat) (J Jx : List (Int × List UInt8) → World → Prop) (pre us : List (Int × List UInt8)) (W : World) (e : Ending) (W' : World) : Prop :=
  (e = .returned (.bool true) ∧ J (pre ++ us) W' ∧ KpN n0 nb W W') ∨ (e = .returned (.bool false) ∧ ∃ q, q <+: us ∧ Jx (pre ++ q) W')
end Go.Proofs.YtkmioieanopafaaDoor
