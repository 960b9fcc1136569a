/- What statements name, by the landed ast: named. -/
import Derived.Test.YtkmioieanopafaaDoorNamD
import Derived.StringKeys
namespace Go.Proofs.YtkmioieanopafaaDoor
open Go.RowKit Go.Shelf
attribute [local go_sem] Oper.semAt_some

/-- The world in which the loop begins. -/
def namW (w : World) (wt : Int) (A : Option Addr) (m c : Nat) : World := ((((w.alloc (.cells #[.int .i64 wt] 112)).alloc (.cells #[.slice none 0 0] 28)).alloc (.map #[] 0)).alloc (.cells #[.map (some (w.heap.size + 1 + 1))] 137)).alloc (.cells #[.slice A m c] 39)
theorem namW_size (w : World) (wt : Int) (A : Option Addr) (m c : Nat) : (namW w wt A m c).heap.size = w.heap.size + 1 + 1 + 1 + 1 + 1 := by simp [namW]
theorem namW_NI (w : World) (wt : Int) (A : Option Addr) (m c : Nat) : NI w wt w.heap.size (w.heap.size + 1) (w.heap.size + 1 + 1 + 1) (w.heap.size + 1 + 1) [] (namW w wt A m c) := by
  have z1 : (w.alloc (.cells #[.int .i64 wt] 112)).heap.size = w.heap.size + 1 := by simp
  have z2 : ((w.alloc (.cells #[.int .i64 wt] 112)).alloc (.cells #[.slice none 0 0] 28)).heap.size = w.heap.size + 1 + 1 := by simp
  have z3 : (((w.alloc (.cells #[.int .i64 wt] 112)).alloc (.cells #[.slice none 0 0] 28)).alloc (.map #[] 0)).heap.size = w.heap.size + 1 + 1 + 1 := by simp
  have b0 := Boxed.new w 112 (.int .i64 wt)
  have b1 := Boxed.new (w.alloc (.cells #[.int .i64 wt] 112)) 28 (.slice none 0 0)
  rw [z1] at b1
  have b2 := World.ownsMap_made (H := Unit) ((w.alloc (.cells #[.int .i64 wt] 112)).alloc (.cells #[.slice none 0 0] 28)) Tryd.prog 9 unitElem
  rw [z2] at b2
  have b3 := Boxed.new (((w.alloc (.cells #[.int .i64 wt] 112)).alloc (.cells #[.slice none 0 0] 28)).alloc (.map #[] 0)) 137 (.map (some (w.heap.size + 1 + 1)))
  rw [z3] at b3
  refine ⟨⟨.map [], (b2.alloc _).alloc _, fun x => by simp [Maps.has, ddN]⟩, ⟨_, ((b1.alloc _).alloc _).alloc _, World.ownsRow_nil _ _ _ _, trivial⟩, b3.alloc _, (((b0.alloc _).alloc _).alloc _).alloc _, ?_⟩
  exact bth5 (bth5 (bth5 (bth5 (bnew5 _ _) (bnew5 _ _)) (bnew5 _ _)) (bnew5 _ _)) (bnew5 _ _)
theorem namW_cell (w : World) (wt : Int) (A : Option Addr) (m c : Nat) : (namW w wt A m c).cell? ⟨w.heap.size + 1 + 1 + 1 + 1, 0, none⟩ = some (.slice A m c) := by
  have h := (Boxed.new ((((w.alloc (.cells #[.int .i64 wt] 112)).alloc (.cells #[.slice none 0 0] 28)).alloc (.map #[] 0)).alloc (.cells #[.map (some (w.heap.size + 1 + 1))] 137)) 39 (.slice A m c)).cell
  rwa [show ((((w.alloc (.cells #[.int .i64 wt] 112)).alloc (.cells #[.slice none 0 0] 28)).alloc (.map #[] 0)).alloc (.cells #[.map (some (w.heap.size + 1 + 1))] 137)).heap.size = w.heap.size + 1 + 1 + 1 + 1 by simp] at h
theorem NI.good {w W : World} {wt : Int} {wb nb mb mp : Nat} {pre : List (Int × List UInt8)} (h : NI w wt wb nb mb mp pre W) : GoodN nb W := by
  obtain ⟨v, hv, hr, -⟩ := h.row
  refine ⟨hv.lt, fun u g hu hg => ?_⟩
  rw [hv.cell] at hu
  injection hu with hu
  subst hu
  rcases hr.2 with ⟨rfl, _⟩ | ⟨g', cap, cur, rfl, _, hgb, _⟩
  · simp [Value.ownBlock] at hg
  · have : g' = g := by simpa [Value.ownBlock] using hg
    subst this
    exact (Array.getElem?_eq_some_iff.1 hgb).1

/-- An append in a region that draws, by its run. -/
theorem stepIn_append {F : Fence} {n : Nat} {P : Program} {o : Oper} {a : Act} {w : World} {K : Act → World → Prop} {Q : Exit → Act → World → Prop} {ys : Nat → Option Bool} (hg : o.guard = none) (s x : Operand) (t : TypeId)
    (ho : o.op = .call { callee := .builtin .append, args := #[s, x], argTypes := #[t, t] }) (v y v' : Value) (w' : World) (hs : a.eval s = v) (hx : a.eval x = y) (hrun : (Builtin.append_ #[t, t] o.type #[v, y]).run P w = .ok v' w') (hK : K (a.put o.dst v') w') :
    if Region.wanted o ys = true then Oper.wpIn F n P o a w K Q else (∀ f, o.about P w a.eval = some f → F.fn f) ∧ K (a.put o.dst undef) w := by
  rw [if_pos (by simp [Region.wanted, hg])]
  unfold Oper.wpIn
  refine ⟨by simp [Oper.about, ho, resolve, Target.leads, Sem.run_pure], ?_⟩
  rw [Oper.semAt_plain F _ _ (by rw [ho]; intro c hc'; cases hc')]
  simp [execOp, ho, resolve, invoke, builtin, hs, hx, hrun, Result.andThen]
  exact hK

/-- From a round's start W to W': what is kept, and what lies there. -/
structure NJ (w : World) (B : Nat) (wt : Int) (wb nb mb mp n : Nat) (D : DataW Unit) (vr : Value) (r : List (List UInt8)) (W W' : World) : Prop where
  kf : KeepsFrom B W W'
  kp : KpN w.heap.size nb W W'
  map : W'.ownsMap Tryd.prog 9 unitElem mp n D
  box : Boxed W' nb 28 vr
  row : W'.ownsRow w.heap.size 9 1 vr r.length (strs r)
  met : Boxed W' mb 137 (.map (some mp))
  how : Boxed W' wb 112 (.int .i64 wt)
  bel : Below w.heap.size w W'
theorem row_lt {W : World} {base e size k : Nat} {v : Value} {xs : List Value} (h : W.ownsRow base e size v k xs) {g : Nat} (hg : v.ownBlock = some g) : base ≤ g ∧ ∃ cs fr, W.heap[g]? = some (.cells cs e fr) := by
  rcases h.2 with ⟨rfl, _⟩ | ⟨g', cap, cur, rfl, hb, hgb, _⟩
  · simp [Value.ownBlock] at hg
  · have : g' = g := by simpa [Value.ownBlock] using hg
    subst this
    exact ⟨hb, _, _, hgb⟩
theorem row_kept {W W' : World} {base e size k : Nat} {v : Value} {xs : List Value} {row : Option Nat} (h : W.ownsRow base e size v k xs) (hg : W.grownBy W' row) (hne : ∀ g, row = some g → v.ownBlock ≠ some g) : W'.ownsRow base e size v k xs := by
  refine h.kept hg ?_
  rcases h.2 with ⟨rfl, _⟩ | ⟨g', cap, cur, rfl, hb, hgb, _⟩
  · exact .inl rfl
  · refine .inr fun e => ?_
    rcases row with _ | g
    · simp [Value.ownBlock] at e
    · exact hne g rfl e
section
variable {w : World} {B : Nat} {wt : Int} {wb nb mb mp n : Nat} {D : DataW Unit} {vr : Value} {r : List (List UInt8)} {W W' W2 : World}
theorem NJ.good (h : NJ w B wt wb nb mb mp n D vr r W W') : GoodN nb W' := by
  refine ⟨h.box.lt, fun u g hu hg => ?_⟩
  rw [h.box.cell] at hu
  injection hu with hu
  subst hu
  obtain ⟨_, cs, fr, hc⟩ := row_lt h.row hg
  exact (Array.getElem?_eq_some_iff.1 hc).1
theorem NJ.below (h : NJ w B wt wb nb mb mp n D vr r W W') (hb : Below W'.heap.size W' W2) : NJ w B wt wb nb mb mp n D vr r W W2 := by
  have hs := hb.size
  have old : ∀ i o, W'.heap[i]? = some o → W2.heap[i]? = some o := fun i o ho => (hb.block i (Array.getElem?_eq_some_iff.1 ho).1).trans ho
  have hc : W2.cell? ⟨nb, 0, none⟩ = W'.cell? ⟨nb, 0, none⟩ := hb.cell (p := ⟨nb, 0, none⟩) h.box.lt
  have hbox : Boxed W2 nb 28 vr := old _ _ h.box
  have hrow : W2.ownsRow w.heap.size 9 1 vr r.length (strs r) := by
    refine ⟨h.row.1, ?_⟩
    rcases h.row.2 with h2 | ⟨g, cap, cur, hv, hg, hh, rr⟩
    · exact .inl h2
    · exact .inr ⟨g, cap, cur, hv, hg, old _ _ hh, rr⟩
  refine ⟨⟨Nat.le_trans h.kf.size hs, fun k o hk ho hn => old _ _ (h.kf.same k o hk ho hn)⟩, h.kp.trans ⟨hb.mono h.bel.size, fun g => g.below hb, fun i cs t fr hi hf => ⟨old _ _ hi, hf.1, fun v hv => by rw [hc] at hv; exact hf.2 v hv⟩⟩, ?_, hbox, hrow, old _ _ h.met, old _ _ h.how, bth5 h.bel hb⟩
  obtain ⟨es, ck, h1, h2⟩ := h.map
  exact ⟨es, ck, old _ _ h1, h2⟩
theorem NJ.alloc (h : NJ w B wt wb nb mb mp n D vr r W W') (o : Obj) : NJ w B wt wb nb mb mp n D vr r W (W'.alloc o) := h.below (bnew5 _ _)
theorem NJ.drew (h : NJ w B wt wb nb mb mp n D vr r W W') : NJ w B wt wb nb mb mp n D vr r W W'.drew := h.below (Below.refl _ _).drew
/-- The map is marked. -/
theorem NJ.marked (h : NJ w B wt wb nb mb mp n D vr r W W') {n2 : Nat} {D2 : DataW Unit} (hmp : mp < B) (hw : w.heap.size ≤ mp) (hm : W2.ownsMap Tryd.prog 9 unitElem mp n2 D2) (hg : W'.grownBy W2 (some mp)) : NJ w B wt wb nb mb mp n2 D2 vr r W W2 := by
  obtain ⟨es, ck, hmo, -⟩ := h.map
  have ne : ∀ i cs t fr, W'.heap[i]? = some (Obj.cells cs t fr) → i ≠ mp := fun i cs t fr hi e => by rw [e, hmo] at hi; cases hi
  have old : ∀ i cs t fr, W'.heap[i]? = some (Obj.cells cs t fr) → W2.heap[i]? = some (Obj.cells cs t fr) := fun i cs t fr hi => (hg.block i (Array.getElem?_eq_some_iff.1 hi).1 (fun e => ne i cs t fr hi (by injection e))).trans hi
  have hbox : Boxed W2 nb 28 vr := old _ _ _ _ h.box
  have hc : W2.cell? ⟨nb, 0, none⟩ = W'.cell? ⟨nb, 0, none⟩ := by rw [hbox.cell, h.box.cell]
  have hrow : W2.ownsRow w.heap.size 9 1 vr r.length (strs r) := row_kept h.row hg fun g e1 e2 => by
    obtain ⟨_, cs, fr, hcc⟩ := row_lt h.row e2
    exact ne g _ _ _ hcc (by injection e1 with e1; exact e1.symm)
  have hb : Below w.heap.size W' W2 := (Below.refl _ _).grown hg h.bel.size (fun k e => by injection e with e; omega)
  have hgood : GoodN nb W2 := by
    refine ⟨hbox.lt, fun u g hu hgg => ?_⟩
    rw [hbox.cell] at hu
    injection hu with hu
    subst hu
    obtain ⟨_, cs, fr, hcc⟩ := row_lt hrow hgg
    exact (Array.getElem?_eq_some_iff.1 hcc).1
  exact ⟨h.kf.trans (KeepsFrom.of_grownBy hg fun j e => by injection e with e; omega), h.kp.trans ⟨hb, fun _ => hgood, fun i cs t fr hi hf => ⟨old _ _ _ _ hi, hf.1, fun v hv => by rw [hc] at hv; exact hf.2 v hv⟩⟩, hm, hbox, hrow, old _ _ _ _ h.met, old _ _ _ _ h.how, h.bel.trans hb⟩
/-- A name is appended, and stored back. -/
theorem NJ.pushed (h : NJ w B wt wb nb mb mp n D vr r W W') (y : ByteArray) (hwm : w.heap.size ≤ nb) (hmb : mb ≠ nb) (hwb : wb ≠ nb) (hlen : r.length ≤ 1000000000) :
    ∃ g cap w3, (Builtin.append_ #[28, 28] 28 #[vr, .slice (some ⟨W'.heap.size, 0, none⟩) 1 1]).run Tryd.prog (W'.alloc (.cells #[.string y] 9)) = .ok (.slice (some ⟨g, 0, none⟩) (r.length + 1) cap) w3 ∧
      w3.cell? ⟨nb, 0, none⟩ = some vr ∧ w3.frozen? ⟨nb, 0, none⟩ = false ∧ NJ w B wt wb nb mb mp n D (.slice (some ⟨g, 0, none⟩) (r.length + 1) cap) (r ++ [y.data.toList]) W (w3.setCell ⟨nb, 0, none⟩ (.slice (some ⟨g, 0, none⟩) (r.length + 1) cap)) := by
  obtain ⟨i0, hi, hz0, hz1, hz2⟩ := info_parts info_str
  have hn0 := h.bel.size
  obtain ⟨v', w3, hrun, hown, hgrow, _, hat⟩ := run_append_own_at (P := Tryd.prog) (W'.alloc (.cells #[.string y] 9)) w.heap.size 28 28 9 i0 (.string ByteArray.empty) 1 16 Tryd.underlying28 hi hz0 hz1 hz2 rfl (by decide) vr r.length (strs r) (h.alloc _).row ⟨W'.heap.size, 0, none⟩ 1 1 [.string y] rfl (cell_one_new _ _ _) (by simp [Value.oneCell']) (by unfold maxLen; omega) (by omega) (by simp; omega)
  obtain ⟨g, cap, rfl⟩ := ownsRow_succ hown
  obtain ⟨b1, b2, b3, b4, b5⟩ := h.box.appended (by decide) h.row hn0 hwm hown hgrow
  refine ⟨g, cap, w3, hrun, b1.cell, b1.frozen, ?_⟩
  have hs : w3.heap.size ≤ (w3.setCell ⟨nb, 0, none⟩ (.slice (some ⟨g, 0, none⟩) (r.length + 1) cap)).heap.size := by simp [World.setCell]
  have hs2 := hgrow.size
  have hs3 : (W'.alloc (.cells #[.string y] 9)).heap.size = W'.heap.size + 1 := by simp
  have old : ∀ i o, W'.heap[i]? = some o → i ≠ nb → vr.ownBlock ≠ some i → (w3.setCell ⟨nb, 0, none⟩ (.slice (some ⟨g, 0, none⟩) (r.length + 1) cap)).heap[i]? = some o := fun i o ho h1 h2 => by
    have hlt := (Array.getElem?_eq_some_iff.1 ho).1
    rw [Below.heap_setCell _ _ _ i (by simpa using h1)]
    rw [hgrow.block i (by rw [hs3]; omega) (fun e => h2 e.symm)]
    exact (Below.heap_alloc W' _ i hlt).trans ho
  have bnot : ∀ {b : Nat} {t : TypeId} {v : Value}, Boxed W' b t v → t ≠ 9 → b ≠ nb → Boxed (w3.setCell ⟨nb, 0, none⟩ (.slice (some ⟨g, 0, none⟩) (r.length + 1) cap)) b t v := fun {b t v} hb ht hne =>
    old _ _ hb hne (fun e => (hb.not_row ht h.row) e.symm)
  have hrow : (w3.setCell ⟨nb, 0, none⟩ (.slice (some ⟨g, 0, none⟩) (r.length + 1) cap)).ownsRow w.heap.size 9 1 (.slice (some ⟨g, 0, none⟩) (r.length + 1) cap) (r ++ [y.data.toList]).length (strs (r ++ [y.data.toList])) := by
    have : strs (r ++ [y.data.toList]) = strs r ++ [.string y] := by simp [strs]
    rw [this]; simpa using b3
  have hgood : GoodN nb (w3.setCell ⟨nb, 0, none⟩ (.slice (some ⟨g, 0, none⟩) (r.length + 1) cap)) := by
    refine ⟨b2.lt, fun u g hu hgg => ?_⟩
    rw [b2.cell] at hu
    injection hu with hu
    subst hu
    obtain ⟨_, cs, fr, hcc⟩ := row_lt hrow hgg
    exact (Array.getElem?_eq_some_iff.1 hcc).1
  refine ⟨h.kf.trans (b4.from _), h.kp.trans ⟨b5, fun _ => hgood, fun i cs t fr hi hf => ?_⟩, ?_, b2, hrow, bnot h.met (by decide) hmb, bnot h.how (by decide) hwb, h.bel.trans b5⟩
  · refine ⟨old _ _ hi hf.1 (hf.2 vr h.box.cell), hf.1, fun v hv => ?_⟩
    rw [b2.cell] at hv
    injection hv with hv
    subst hv
    intro e
    rcases hat with e2 | e2
    · rw [e2] at e; exact hf.2 vr h.box.cell e
    · rw [e2, hs3] at e
      injection e with e
      have := (Array.getElem?_eq_some_iff.1 hi).1
      omega
  · obtain ⟨es, ck, h1, h2⟩ := h.map
    exact ⟨es, ck, b4.same _ _ h1 rfl, h2⟩
end
theorem NI.start {w W : World} {wt : Int} {wb nb mb mp : Nat} {pre : List (Int × List UInt8)} (h : NI w wt wb nb mb mp pre W) (B : Nat) : ∃ D vr, (∀ x, Maps.has D (.string x) = (ddN wt pre).contains x) ∧ NJ w B wt wb nb mb mp pre.length D vr (ddN wt pre) W W := by
  obtain ⟨D, h1, h2⟩ := h.map
  obtain ⟨v, hv, hr, -⟩ := h.row
  exact ⟨D, v, h2, KeepsFrom.refl _ _, KpN.refl _ _ _, h1, hv, hr, h.met, h.how, h.bel⟩

set_option maxRecDepth 100000 in
set_option maxHeartbeats 8000000 in
theorem astNamedIn (n : Nat) (hn : 3 ≤ n) (wt : Int) (es : List SV) (A : Option Addr) (c : Nat) (w : World) (hM : sbk es ≤ 4000000) (hx : SR w A es) :
    CallsIn Fence.wide n Tryd.prog 79 #[.slice A es.length c, .int .i64 wt] w fun e W' => ∃ v, e = .returned v ∧ W'.ownsRow w.heap.size 9 1 v (ddN wt (sus es)).length (strs (ddN wt (sus es))) ∧ Below w.heap.size w W' := by
  have hd : Fence.wide.depth = none := rfl
  have hfn : ∀ f, Fence.wide.fn f := fun f => trivial
  have hro : Fence.wide.round = none := rfl
  have h1 : 1 ≤ n := by omega
  have hmm := @run_makeMap Tryd.prog
  obtain ⟨m, hm⟩ : ∃ m, m = es.length := ⟨_, rfl⟩
  rw [← hm]
  have HM := Lib.hid (And.intro hm (And.intro hM hx))
  clear hm hM hx
  refine callsIn_of_wp_marks Tryd.func79 rfl (hfn _) ?_ hro
  simp only [Tryd.ntmps79, List.size_toArray, List.length_cons, List.length_nil, Nat.reduceAdd, Nat.reduceSub, Array.replicate_succ, Array.replicate_zero, List.push_toArray, List.append_toArray, List.nil_append, List.cons_append]
  gi_wp2
  refine (astUsesMake Fence.wide (n - 1) hfn hro A m c _).mono ?_
  rintro e w' ⟨rfl, rfl⟩
  gi_wp2
  have hI0 := namW_NI w wt A m c
  have hbn := namW_cell w wt A m c
  have hsz := namW_size w wt A m c
  obtain ⟨hm, hM, hx⟩ := HM.out
  rw [hm] at hbn hI0 hsz
  have hUL : (sus es).length ≤ 4000000 := Nat.le_trans (sus_len es) hM
  have hst := fun n => astUsesStops Fence.wide hd hfn hro n (w.heap.size + 1) (w.heap.size + 1 + 1 + 1 + 1) w (namW w wt A es.length c) es A c hM hbn hx hI0.bel hI0.good
  rw [← hm] at hst hI0 hsz
  show Code.wpIn _ _ _ _ _ _ (namW w wt A m c)
  obtain ⟨W0, hW0⟩ : ∃ W0, W0 = namW w wt A m c := ⟨_, rfl⟩
  rw [← hW0] at hst hI0 hsz ⊢
  clear hm hM hx hbn HM hW0
  refine wpIn_rangeFunc_ownG hro h1 (gf := 107) (lb := #[.pointer (some ⟨w.heap.size + 1 + 1 + 1 + 1, 0, none⟩)]) rfl (hfn _) (enters_of Tryd.func107 (by kernel_rfl) rfl)
    (hst _) (fun h k => KpN.trans h k) ?kb (Below.refl _ _) (fun _ => rfl)
    (NI w wt w.heap.size (w.heap.size + 1) (w.heap.size + 1 + 1 + 1) (w.heap.size + 1 + 1)) (fun _ _ _ => False)
    (NI.own w wt _ _ _ _ _ (by rw [hsz]; omega) (by rw [hsz]; omega)) (fun _ _ _ _ _ hs _ _ => hs) hI0
    (fun x => { tmps := #[.slice A m c, .int .i64 wt, undef, .pointer (some ⟨w.heap.size, 0, none⟩), .slice none 0 0, .pointer (some ⟨w.heap.size + 1, 0, none⟩), .pointer (some ⟨w.heap.size + 1 + 1 + 1, 0, none⟩), .int .i64 x.1, .string ⟨(tk4 x.2).toArray⟩, undef, undef, .map (some (w.heap.size + 1 + 1)), .slice A m c, .func (.func 107) #[] #[.pointer (some ⟨w.heap.size + 1 + 1 + 1 + 1, 0, none⟩)], .int .i64 x.1, .string ⟨(tk4 x.2).toArray⟩, undef, undef, undef, undef, undef, undef, undef, undef, undef, undef, undef, undef, undef, undef, undef, undef, undef, undef, undef], defers := [] }) ?assign ?body ?done ?stop
  case kb =>
    intro W l o o' hl ho hc hwk
    have hnl : w.heap.size + 1 ≠ l := by omega
    have hz : (W.putObj l o').heap.size = W.heap.size := by simp [World.putObj]
    have hcell : (W.putObj l o').cell? ⟨w.heap.size + 1, 0, none⟩ = W.cell? ⟨w.heap.size + 1, 0, none⟩ := World.cell?_of_block (World.putObj_heap_other (by omega))
    refine ⟨belowK_b (w := W0) (by omega) W l o o' hl ho hc hwk, fun g => ⟨by rw [hz]; exact g.1, fun v g' hv hg' => by rw [hcell] at hv; rw [hz]; exact g.2 v g' hv hg'⟩, fun i cs t fr hi hf => ⟨?_, hf.1, fun v hv => by rw [hcell] at hv; exact hf.2 v hv⟩⟩
    have : l ≠ i := fun e => by subst e; rw [ho] at hi; injection hi with hi; subst hi; cases hc
    exact (World.putObj_heap_other (by omega)).trans hi
  case assign =>
    intro l x W K hK
    simp only [encU]
    gi_wp2
    exact hK
  case body =>
    rintro l pre x W hI hlt
    have hmet := hI.met.cell
    have hhow := hI.how.cell
    obtain ⟨wz, hwz⟩ : ∃ wz, wz = x.1 := ⟨_, rfl⟩
    obtain ⟨ts, hts⟩ : ∃ ts : ByteArray, ts = ⟨(tk4 x.2).toArray⟩ := ⟨_, rfl⟩
    rw [← hwz, ← hts]
    have HX := Lib.hid (And.intro hwz hts)
    clear hwz hts
    by_cases hw1 : wz = wt
    · subst hw1
      obtain ⟨D, vr, hhas0, hJ⟩ := hI.start W0.heap.size
      have hhas := Lib.hid hhas0
      have hml := hI.met.lt
      have hwl := hI.how.lt
      have hown := hJ.map
      have htk : (tk4 x.2).length ≤ 4000000 := by unfold tk4; rw [List.length_take]; omega
      have htl : ts.data.toList = tk4 x.2 := by rw [HX.out.2]
      have hkey : keyOf Tryd.prog 9 (.string ts) = some (.string ts.data.toList) := WideMaps.keyOf_string_mk Tryd.underlying9 (by rw [← size_len_, htl]; unfold maxLen; omega)
      have hpl0 : pre.length < 4000000 := by omega
      have hpl : pre.length < maxLen := by unfold maxLen; omega
      have hdl := ddN_len wz pre
      have htz : ts.size ≤ 281474976710656 := by rw [← size_len_, htl]; omega
      have HJ := Lib.hid hJ
      have HT := Lib.hid htl
      clear hhas0 hJ
      cases hc : (ddN wz pre).contains (tk4 x.2) with
      | true =>
        have hh : Maps.has D (.string ts.data.toList) = true := by rw [htl, hhas.out]; exact hc
        have hD : Hid (ddN wz (pre ++ [x]) = ddN wz pre) := by
          show ddN wz (pre ++ [x]) = ddN wz pre
          rw [ddN_snoc, if_neg]
          rw [hc]
          exact fun h => by cases h.2
        clear hc htl htk
        gi_wp2_with (gi_at_lookup; refine wpListIn_lookup_own_unit W rfl _ _ 137 rfl 9 141 (Maps.string_keyed Tryd.underlying9) Tryd.underlying137 (Tryd.zeroValue141 _) (w.heap.size + 1 + 1) pre.length D rfl hown _ _ rfl hkey ?_)
        all_goals
          have h2 := HJ.out.alloc (.cells #[] 141)
          exact ⟨h2.kf, h2.kp, ⟨⟨D, h2.map.mono (by simp), by rw [hD.out]; exact hhas.out⟩, ⟨vr, h2.box, by rw [hD.out]; exact h2.row, trivial⟩, h2.met, h2.how, h2.bel⟩⟩
      | false =>
        have hh : Maps.has D (.string ts.data.toList) = false := by rw [htl, hhas.out]; exact hc
        have hD : Hid (ddN wz (pre ++ [x]) = ddN wz pre ++ [ts.data.toList]) := by
          show ddN wz (pre ++ [x]) = ddN wz pre ++ [ts.data.toList]
          rw [ddN_snoc, if_pos ⟨HX.out.1.symm, hc⟩, htl]
        clear hc htl htk
        gi_wp2_with (first
          | (gi_at_lookup; refine wpListIn_lookup_own_unit W rfl _ _ 137 rfl 9 141 (Maps.string_keyed Tryd.underlying9) Tryd.underlying137 (Tryd.zeroValue141 _) (w.heap.size + 1 + 1) pre.length D rfl hown _ _ rfl hkey ?_)
          | (gi_at_mapUpdate; refine wpListIn_mapUpdate_own _ rfl _ _ _ 137 rfl 9 141 (Maps.string_keyed Tryd.underlying9) Tryd.underlying137 unitElem (w.heap.size + 1 + 1) pre.length _ rfl (hown.alloc _) hpl _ _ _ rfl rfl hkey (.agg []) [] unitElem_mk ?_; intro w1 hown1 hgrow1))
        all_goals
          have J1 := Lib.hid (((HJ.out.alloc (.cells #[] 141)).marked (by rw [hsz]; omega) (by omega) hown1 hgrow1).drew)
          have n1 := J1.out.box.cell
          clear hown1 hgrow1
        refine wpIn_region_any (by kernel_rfl) ?_
        change wpAnyIn _ _ _ _ _ _ _ _ _ (World.drew _)
        refine wpAnyIn_ready (rs := [0, 1]) (by kernel_rfl) (by simp) ?_
        refine AllReadyIn.cons rfl (fun K hK => ?_) ?_
        · go_simp
          refine hK _ _ ?_
          clear hK K
          refine wpAnyIn_ready (rs := [1]) (by kernel_rfl) (by simp) ?_
          refine AllReadyIn.cons rfl (fun K hK => ?_) ?_
          · go_simp
            refine hK _ _ ?_
            clear hK K
            refine wpAnyIn_ready (rs := [2]) (by kernel_rfl) (by simp) ?_
            refine AllReadyIn.cons rfl (fun K hK => ?_) ?_
            · go_simp
              try refine ⟨fun _ => by omega, ?_⟩
              refine (CallsIn.inRound l (callsIn_wide.2 (libClone ts htz _))).mono ?_
              rintro e3 w2 ⟨rfl, hw2⟩
              have J2 := Lib.hid (J1.out.below hw2)
              have n2 := J2.out.box.cell
              have n2l := J2.out.box.lt
              obtain ⟨g3, c3, w3, hrun, hc3, hf3, J3'⟩ := J2.out.pushed ts (by omega) (by omega) (by omega) (by omega)
              have J3 := Lib.hid J3'
              clear J3' hw2
              refine hK _ _ ?_
              clear hK K
              refine wpAnyIn_ready (rs := [3]) (by kernel_rfl) (by simp) ?_
              refine AllReadyIn.cons rfl (fun K hK => ?_) ?_
              · go_simp
                refine hK _ _ ?_
                clear hK K
                refine wpAnyIn_ready (rs := [4]) (by kernel_rfl) (by simp) ?_
                refine AllReadyIn.cons rfl (fun K hK => ?_) ?_
                · refine stepIn_append rfl (.tmp 29) (.tmp 32) 28 rfl _ _ _ _ rfl rfl hrun ?_
                  refine hK _ _ ?_
                  clear hK K
                  refine wpAnyIn_ready (rs := [5]) (by kernel_rfl) (by simp) ?_
                  refine AllReadyIn.cons rfl (fun K hK => ?_) ?_
                  · go_simp
                    refine hK _ _ ?_
                    clear hK K
                    refine wpAnyIn_done (by kernel_rfl) ?_ _
                    have hfin := J3.out
                    gi_wp2
                    refine ⟨hfin.kf, hfin.kp, ⟨⟨D.put (.string ts.data.toList) (.agg []), hfin.map.mono (by simp), fun y => ?_⟩, ⟨_, hfin.box, by rw [hD.out]; exact hfin.row, trivial⟩, hfin.met, hfin.how, hfin.bel⟩⟩
                    rw [hD.out]
                    by_cases hy : y = ts.data.toList
                    · subst hy
                      rw [Maps.has_put_same hown.isMap (by trivial)]
                      simp
                    · rw [Maps.has_put_other (fun e => hy (by injection e)), hhas.out]
                      simp [hy]
                  exact AllReadyIn.nil
                exact AllReadyIn.nil
              exact AllReadyIn.nil
            exact AllReadyIn.nil
          exact AllReadyIn.nil
        refine AllReadyIn.cons rfl (fun K hK => ?_) ?_
        · go_simp
          refine hK _ _ ?_
          clear hK K
          refine wpAnyIn_ready (rs := [0, 2]) (by kernel_rfl) (by simp) ?_
          refine AllReadyIn.cons rfl (fun K hK => ?_) ?_
          · go_simp
            refine hK _ _ ?_
            clear hK K
            refine wpAnyIn_ready (rs := [2]) (by kernel_rfl) (by simp) ?_
            refine AllReadyIn.cons rfl (fun K hK => ?_) ?_
            · go_simp
              try refine ⟨fun _ => by omega, ?_⟩
              refine (CallsIn.inRound l (callsIn_wide.2 (libClone ts htz _))).mono ?_
              rintro e3 w2 ⟨rfl, hw2⟩
              have J2 := Lib.hid (J1.out.below hw2)
              have n2 := J2.out.box.cell
              have n2l := J2.out.box.lt
              obtain ⟨g3, c3, w3, hrun, hc3, hf3, J3'⟩ := J2.out.pushed ts (by omega) (by omega) (by omega) (by omega)
              have J3 := Lib.hid J3'
              clear J3' hw2
              refine hK _ _ ?_
              clear hK K
              refine wpAnyIn_ready (rs := [3]) (by kernel_rfl) (by simp) ?_
              refine AllReadyIn.cons rfl (fun K hK => ?_) ?_
              · go_simp
                refine hK _ _ ?_
                clear hK K
                refine wpAnyIn_ready (rs := [4]) (by kernel_rfl) (by simp) ?_
                refine AllReadyIn.cons rfl (fun K hK => ?_) ?_
                · refine stepIn_append rfl (.tmp 29) (.tmp 32) 28 rfl _ _ _ _ rfl rfl hrun ?_
                  refine hK _ _ ?_
                  clear hK K
                  refine wpAnyIn_ready (rs := [5]) (by kernel_rfl) (by simp) ?_
                  refine AllReadyIn.cons rfl (fun K hK => ?_) ?_
                  · go_simp
                    refine hK _ _ ?_
                    clear hK K
                    refine wpAnyIn_done (by kernel_rfl) ?_ _
                    have hfin := J3.out
                    gi_wp2
                    refine ⟨hfin.kf, hfin.kp, ⟨⟨D.put (.string ts.data.toList) (.agg []), hfin.map.mono (by simp), fun y => ?_⟩, ⟨_, hfin.box, by rw [hD.out]; exact hfin.row, trivial⟩, hfin.met, hfin.how, hfin.bel⟩⟩
                    rw [hD.out]
                    by_cases hy : y = ts.data.toList
                    · subst hy
                      rw [Maps.has_put_same hown.isMap (by trivial)]
                      simp
                    · rw [Maps.has_put_other (fun e => hy (by injection e)), hhas.out]
                      simp [hy]
                  exact AllReadyIn.nil
                exact AllReadyIn.nil
              exact AllReadyIn.nil
            exact AllReadyIn.nil
          refine AllReadyIn.cons rfl (fun K hK => ?_) ?_
          · go_simp
            try refine ⟨fun _ => by omega, ?_⟩
            refine (CallsIn.inRound l (callsIn_wide.2 (libClone ts htz _))).mono ?_
            rintro e3 w2 ⟨rfl, hw2⟩
            have J2 := Lib.hid (J1.out.below hw2)
            have n2 := J2.out.box.cell
            have n2l := J2.out.box.lt
            obtain ⟨g3, c3, w3, hrun, hc3, hf3, J3'⟩ := J2.out.pushed ts (by omega) (by omega) (by omega) (by omega)
            have J3 := Lib.hid J3'
            clear J3' hw2
            refine hK _ _ ?_
            clear hK K
            refine wpAnyIn_ready (rs := [0, 3]) (by kernel_rfl) (by simp) ?_
            refine AllReadyIn.cons rfl (fun K hK => ?_) ?_
            · go_simp
              refine hK _ _ ?_
              clear hK K
              refine wpAnyIn_ready (rs := [3]) (by kernel_rfl) (by simp) ?_
              refine AllReadyIn.cons rfl (fun K hK => ?_) ?_
              · go_simp
                refine hK _ _ ?_
                clear hK K
                refine wpAnyIn_ready (rs := [4]) (by kernel_rfl) (by simp) ?_
                refine AllReadyIn.cons rfl (fun K hK => ?_) ?_
                · refine stepIn_append rfl (.tmp 29) (.tmp 32) 28 rfl _ _ _ _ rfl rfl hrun ?_
                  refine hK _ _ ?_
                  clear hK K
                  refine wpAnyIn_ready (rs := [5]) (by kernel_rfl) (by simp) ?_
                  refine AllReadyIn.cons rfl (fun K hK => ?_) ?_
                  · go_simp
                    refine hK _ _ ?_
                    clear hK K
                    refine wpAnyIn_done (by kernel_rfl) ?_ _
                    have hfin := J3.out
                    gi_wp2
                    refine ⟨hfin.kf, hfin.kp, ⟨⟨D.put (.string ts.data.toList) (.agg []), hfin.map.mono (by simp), fun y => ?_⟩, ⟨_, hfin.box, by rw [hD.out]; exact hfin.row, trivial⟩, hfin.met, hfin.how, hfin.bel⟩⟩
                    rw [hD.out]
                    by_cases hy : y = ts.data.toList
                    · subst hy
                      rw [Maps.has_put_same hown.isMap (by trivial)]
                      simp
                    · rw [Maps.has_put_other (fun e => hy (by injection e)), hhas.out]
                      simp [hy]
                  exact AllReadyIn.nil
                exact AllReadyIn.nil
              exact AllReadyIn.nil
            refine AllReadyIn.cons rfl (fun K hK => ?_) ?_
            · go_simp
              refine hK _ _ ?_
              clear hK K
              refine wpAnyIn_ready (rs := [0]) (by kernel_rfl) (by simp) ?_
              refine AllReadyIn.cons rfl (fun K hK => ?_) ?_
              · go_simp
                refine hK _ _ ?_
                clear hK K
                refine wpAnyIn_ready (rs := [4]) (by kernel_rfl) (by simp) ?_
                refine AllReadyIn.cons rfl (fun K hK => ?_) ?_
                · refine stepIn_append rfl (.tmp 29) (.tmp 32) 28 rfl _ _ _ _ rfl rfl hrun ?_
                  refine hK _ _ ?_
                  clear hK K
                  refine wpAnyIn_ready (rs := [5]) (by kernel_rfl) (by simp) ?_
                  refine AllReadyIn.cons rfl (fun K hK => ?_) ?_
                  · go_simp
                    refine hK _ _ ?_
                    clear hK K
                    refine wpAnyIn_done (by kernel_rfl) ?_ _
                    have hfin := J3.out
                    gi_wp2
                    refine ⟨hfin.kf, hfin.kp, ⟨⟨D.put (.string ts.data.toList) (.agg []), hfin.map.mono (by simp), fun y => ?_⟩, ⟨_, hfin.box, by rw [hD.out]; exact hfin.row, trivial⟩, hfin.met, hfin.how, hfin.bel⟩⟩
                    rw [hD.out]
                    by_cases hy : y = ts.data.toList
                    · subst hy
                      rw [Maps.has_put_same hown.isMap (by trivial)]
                      simp
                    · rw [Maps.has_put_other (fun e => hy (by injection e)), hhas.out]
                      simp [hy]
                  exact AllReadyIn.nil
                exact AllReadyIn.nil
              exact AllReadyIn.nil
            exact AllReadyIn.nil
          exact AllReadyIn.nil
        exact AllReadyIn.nil
    · have e1 : (wz == wt) = false := by simpa using hw1
      have hD : ddN wt (pre ++ [x]) = ddN wt pre := by
        rw [ddN_snoc, if_neg]
        rw [← HX.out.1]
        exact fun h => hw1 h.1
      clear hw1
      gi_wp2
      refine ⟨KeepsFrom.refl _ _, KpN.refl _ _ _, ?_⟩
      obtain ⟨D, h1, h2⟩ := hI.map
      obtain ⟨v, hv, hr, -⟩ := hI.row
      exact ⟨⟨D, h1.mono (by simp), by rw [hD]; exact h2⟩, ⟨v, hv, by rw [hD]; exact hr, trivial⟩, hI.met, hI.how, hI.bel⟩
  case done =>
    rintro D ys W hD rfl hI hK
    obtain ⟨v, hv, hr, -⟩ := hI.row
    have hc := hv.cell
    gi_wp2
    refine ⟨by simp, .inl ⟨_, _, rfl, run_takeDeferred hK, ?_⟩⟩
    exact ⟨_, results_tmp rfl _ _ _, v, rfl, ownsRow_putObj hr _ hK rfl, hI.bel.trans (belowK_b (w := w) (Nat.le_refl _) W D _ _ (by omega) hK rfl rfl)⟩
  case stop =>
    rintro D c pre W _ _ h _
    exact h.elim
end Go.Proofs.YtkmioieanopafaaDoor
