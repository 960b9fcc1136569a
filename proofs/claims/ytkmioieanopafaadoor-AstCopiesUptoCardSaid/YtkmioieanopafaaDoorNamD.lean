/- What statements name, by the landed ast: the closure and its maker; what has been kept. -/
import Derived.Test.YtkmioieanopafaaDoorNamC
import Derived.Test.YtkmioieanopafaaDoorClonL
import Derived.Test.YtkmioieanopafaaDoorRefT
import Derived.RangeFuncBox
import Derived.Maps.OwnIn
import Derived.Maps.AppendAt
namespace Go.Proofs.YtkmioieanopafaaDoor
open Go.RowKit Go.Shelf
attribute [local go_sem] Oper.semAt_some

set_option maxHeartbeats 4000000 in
theorem astUses1 (F : Fence) (hd : F.depth = none) (hfn : ∀ f, F.fn f) (hro : F.round = none) (n l nb N Bn : Nat) (w0 : World) (es : List SV) (A : Option Addr) (c : Nat) (J Jx : List (Int × List UInt8) → World → Prop) (hB : BodyN F l w0.heap.size nb N J Jx) (hM : sbk es ≤ 4000000)
    (W : World) (hbn : W.cell? ⟨Bn, 0, none⟩ = some (.slice A es.length c)) (hx : SR w0 A es) (hbel : Below w0.heap.size w0 W) (hg : GoodN nb W) (h0 : J [] W) (hN : (sus es).length ≤ N) :
    CallsIn F n Tryd.prog 107 #[.func (.yield l) #[] #[], .pointer (some ⟨Bn, 0, none⟩)] W fun e W' => (∃ v, e = .returned v) ∧ ((∃ ys, ys = sus es ∧ J ys W') ∨ (∃ pre, pre <+: sus es ∧ Jx pre W')) := by
  have hq := astUsesS F hd hfn hro l nb N w0 J Jx hB (sbk es) es (Nat.le_refl _) hM (n - 1) A c [] W hx hbel hg h0 (by simpa using hN)
  have hdd : ∀ k : Nat, (F.depth.isSome = true → 1 ≤ k) := fun k h => by rw [hd] at h; cases h
  refine callsIn_of_wp Tryd.func107 rfl (hfn _) ?_ hro
  simp only [Tryd.ntmps107, List.size_toArray, List.length_cons, List.length_nil, Nat.reduceAdd, Nat.reduceSub, Array.replicate_succ, Array.replicate_zero, List.push_toArray, List.append_toArray, List.nil_append, List.cons_append]
  gi_wp2
  try refine ⟨hdd _, ?_⟩
  refine hq.mono ?_
  clear hq
  rintro e W1 (⟨rfl, hJ1, _⟩ | ⟨rfl, q, hq, hx⟩)
  · gi_wp2
    go_end0
    exact ⟨⟨_, rfl⟩, .inl ⟨_, rfl, by simpa using hJ1⟩⟩
  · gi_wp2
    go_end0
    exact ⟨⟨_, rfl⟩, .inr ⟨q, hq, by simpa using hx⟩⟩

theorem astUsesMake (F : Fence) (n : Nat) (hfn : ∀ f, F.fn f) (hro : F.round = none) (A : Option Addr) (m c : Nat) (w : World) :
    CallsIn F n Tryd.prog 103 #[.slice A m c] w fun e w' => e = .returned (.func (.func 107) #[] #[.pointer (some ⟨w.heap.size, 0, none⟩)]) ∧ w' = w.alloc (.cells #[.slice A m c] 39) := by
  refine callsIn_of_wp Tryd.func103 rfl (hfn _) ?_ hro
  simp only [Tryd.ntmps103, List.size_toArray, List.length_cons, List.length_nil, Nat.reduceAdd, Nat.reduceSub, Array.replicate_succ, Array.replicate_zero, List.push_toArray, List.append_toArray, List.nil_append, List.cons_append]
  gi_wp2
  go_ret
  exact ⟨rfl, rfl⟩

theorem GoodN.below {nb : Nat} {w W : World} (h : GoodN nb w) (hb : Below w.heap.size w W) : GoodN nb W := by
  have hs := hb.size
  refine ⟨by have := h.1; omega, fun v g hv hg => ?_⟩
  rw [hb.cell (p := ⟨nb, 0, none⟩) h.1] at hv
  have := h.2 v g hv hg
  omega

/-- The iterator's contract. -/
theorem astUsesStops (F : Fence) (hd : F.depth = none) (hfn : ∀ f, F.fn f) (hro : F.round = none) (n nb Bn : Nat) (w0 w : World) (es : List SV) (A : Option Addr) (c : Nat) (hM : sbk es ≤ 4000000)
    (hbn : w.cell? ⟨Bn, 0, none⟩ = some (.slice A es.length c)) (hx : SR w0 A es) (hbel : Below w0.heap.size w0 w) (hg : GoodN nb w) :
    SeqStopsK F n Tryd.prog 107 #[.pointer (some ⟨Bn, 0, none⟩)] encU (KpN w0.heap.size nb) (fun ys => ys = sus es) (fun pre => pre <+: sus es) (sus es).length w := fun l J Jx W hW hJ hJx hY h0 =>
  astUses1 F hd hfn hro n l nb (sus es).length Bn w0 es A c J Jx
    ⟨fun pre W o h => hJ pre W _ none h (World.grownBy_alloc W o none) (fun r e => by cases e), fun m pre x W h hl => YieldAt.anyD hd m (hY pre x W h hl)⟩ hM W
    ((hW.cell (p := ⟨Bn, 0, none⟩) (World.block_lt_of_cell? w _ hbn)).trans hbn) hx (hbel.trans (hW.mono hbel.size)) (hg.below hW) h0 (Nat.le_refl _)

/-- What has been kept: each name once, of those that are used so. -/
def tk4 (x : List UInt8) : List UInt8 := x.take 4000000
def ddN (wt : Int) (pre : List (Int × List UInt8)) : List (List UInt8) := pre.foldl (fun acc x => if x.1 = wt ∧ acc.contains (tk4 x.2) = false then acc ++ [tk4 x.2] else acc) []
theorem ddN_snoc (wt : Int) (pre : List (Int × List UInt8)) (x : Int × List UInt8) : ddN wt (pre ++ [x]) = if x.1 = wt ∧ (ddN wt pre).contains (tk4 x.2) = false then ddN wt pre ++ [tk4 x.2] else ddN wt pre := by simp [ddN]
theorem ddN_len (wt : Int) (pre : List (Int × List UInt8)) : (ddN wt pre).length ≤ pre.length := by
  unfold ddN
  suffices h : ∀ acc : List (List UInt8), (pre.foldl (fun acc x => if x.1 = wt ∧ acc.contains (tk4 x.2) = false then acc ++ [tk4 x.2] else acc) acc).length ≤ acc.length + pre.length by simpa using h []
  induction pre with
  | nil => intro acc; simp
  | cons x r ih =>
    intro acc
    simp only [List.foldl_cons, List.length_cons]
    refine Nat.le_trans (ih _) ?_
    split <;> simp <;> omega
theorem ddN_bytes (wt : Int) (pre : List (Int × List UInt8)) : ∀ t ∈ ddN wt pre, t.length ≤ 4000000 := by
  unfold ddN
  suffices h : ∀ acc : List (List UInt8), (∀ t ∈ acc, t.length ≤ 4000000) → ∀ t ∈ pre.foldl (fun acc x => if x.1 = wt ∧ acc.contains (tk4 x.2) = false then acc ++ [tk4 x.2] else acc) acc, t.length ≤ 4000000 from h [] (by simp)
  induction pre with
  | nil => intro acc h; simpa using h
  | cons x r ih =>
    intro acc h
    simp only [List.foldl_cons]
    refine ih _ fun t ht => ?_
    split at ht
    · rcases List.mem_append.1 ht with ht | ht
      · exact h t ht
      · rw [List.mem_singleton.1 ht]; unfold tk4; rw [List.length_take]; omega
    · exact h t ht

/-- What the loop keeps: the map of the names met, the row of names, the boxes. -/
structure NI (w : World) (wt : Int) (wb nb mb mp : Nat) (pre : List (Int × List UInt8)) (W : World) : Prop where
  map : ∃ D : DataW Unit, W.ownsMap Tryd.prog 9 unitElem mp pre.length D ∧ ∀ x, Maps.has D (.string x) = (ddN wt pre).contains x
  row : ∃ v, Boxed W nb 28 v ∧ W.ownsRow w.heap.size 9 1 v (ddN wt pre).length (strs (ddN wt pre)) ∧ True
  met : Boxed W mb 137 (.map (some mp))
  how : Boxed W wb 112 (.int .i64 wt)
  bel : Below w.heap.size w W
theorem NI.own (w : World) (wt : Int) (wb nb mb mp B : Nat) (hmp : mp < B) (hw : w.heap.size ≤ B) : OwnFrom B (NI w wt wb nb mb mp) := by
  intro s W W' row h hg hr
  obtain ⟨D, h1, h2⟩ := h.map
  have hc := fun r e => (hr r e).2
  refine ⟨⟨D, h1.kept hg (fun e => by have := (hr _ e.symm).1; omega), h2⟩, holdsRow_own w.heap.size nb 28 9 1 (fun pre => (ddN wt pre).length) (fun pre => strs (ddN wt pre)) (fun _ _ => True) s W W' row h.row hg hc,
    boxed_own mb _ (fun _ : List (Int × List UInt8) => Value.map (some mp)) s W W' row h.met hg hc, boxed_own wb _ (fun _ : List (Int × List UInt8) => Value.int .i64 wt) s W W' row h.how hg hc, ?_⟩
  exact h.bel.grown hg h.bel.size (fun k e => by have := (hr k e).1; omega)
end Go.Proofs.YtkmioieanopafaaDoor
