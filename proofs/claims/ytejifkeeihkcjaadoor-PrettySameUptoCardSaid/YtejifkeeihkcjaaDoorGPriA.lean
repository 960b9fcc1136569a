/- A printer at work: its builder is embedded; what it wrote, how deep the next line stands; what is kept while it writes (no function in it). The builder's copyCheck, WriteString and String where the builder stands in a printer. -/
import Derived.Test.YtejifkeeihkcjaaDoorGPrI
import Derived.Shelf.Strings.BuilderK
import Derived.BigCall
import Derived.BigGuard
namespace Go.Proofs.YtejifkeeihkcjaaDoor
section
open Go.RowKit

/-- A printer at block b, that wrote l; its next line stands in d blocks. -/
def Pr (B b : Nat) (l : List UInt8) (d : Int) (W : World) : Prop :=
  B ≤ b ∧ ∃ p v, (p = .pointer none ∨ p = .pointer (some ⟨b, 0, none⟩)) ∧ W.heap[b]? = some (.cells #[p, v, .int .i64 d] 63 (0, 0)) ∧ W.ownsRowF B 5 1 v l.length (Lib.byteCells l) ∧ v.ownBlock ≠ some b ∧ (l = [] → v = .slice none 0 0)
/-- The same; its builder has been written to. -/
def PrU (B b : Nat) (l : List UInt8) (d : Int) (W : World) : Prop :=
  B ≤ b ∧ ∃ v, W.heap[b]? = some (.cells #[.pointer (some ⟨b, 0, none⟩), v, .int .i64 d] 63 (0, 0)) ∧ W.ownsRowF B 5 1 v l.length (Lib.byteCells l) ∧ v.ownBlock ≠ some b ∧ (l = [] → v = .slice none 0 0)
theorem PrU.pr {B b : Nat} {l : List UInt8} {d : Int} {W : World} (h : PrU B b l d W) : Pr B b l d W := let ⟨h1, v, h2, h3, h4, h5⟩ := h; ⟨h1, _, v, Or.inr rfl, h2, h3, h4, h5⟩
/-- What is kept while a printer writes: all but its own block and rows of bytes. -/
def Kp (b : Nat) (W W' : World) : Prop := Lib.OthersKept 5 (some b) W W'
theorem Kp.refl (b : Nat) (W : World) : Kp b W W := Lib.OthersKept.refl _ _ _
theorem Kp.trans {b : Nat} {A B C : World} (h : Kp b A B) (k : Kp b B C) : Kp b A C := Lib.OthersKept.trans h k
theorem Kp.alloc {b : Nat} {A W : World} (h : Kp b A W) (o : Obj) : Kp b A (W.alloc o) := Lib.OthersKept.alloc h o
theorem Kp.drew {b : Nat} {A W : World} (h : Kp b A W) : Kp b A W.drew := h
theorem heap_lt {W : World} {k : Nat} {o : Obj} (h : W.heap[k]? = some o) : k < W.heap.size := (Array.getElem?_eq_some_iff.1 h).1
theorem Kp.of_below {b : Nat} {W W' : World} (hb : Below W.heap.size W W') : Kp b W W' := fun k _ h _ _ => (hb.block k (heap_lt h)).trans h
theorem Kp.step {b : Nat} {A W W' : World} (h : Kp b A W) (hb : Below W.heap.size W W') : Kp b A W' := h.trans (Kp.of_below hb)

theorem Pr.lt {B b : Nat} {l : List UInt8} {d : Int} {W : World} (h : Pr B b l d W) : b < W.heap.size := let ⟨_, _, _, _, h2, _⟩ := h; heap_lt h2
theorem Pr.ge {B b : Nat} {l : List UInt8} {d : Int} {W : World} (h : Pr B b l d W) : B ≤ b := h.1
theorem ownF_step {W W' : World} {B : Nat} {T : TypeId} {v : Value} {n : Nat} {xs : List Value} (h : W.ownsRowF B T 1 v n xs) (hb : Below W.heap.size W W') : W'.ownsRowF B T 1 v n xs := by
  refine ⟨h.1, ?_⟩
  rcases h.2 with h2 | ⟨g, cap, cur, fz, hv, hg, hh, r⟩
  · exact Or.inl h2
  · exact Or.inr ⟨g, cap, cur, fz, hv, hg, (hb.block g (heap_lt hh)).trans hh, r⟩
theorem Pr.step {B b : Nat} {l : List UInt8} {d : Int} {W W' : World} (h : Pr B b l d W) (hb : Below W.heap.size W W') : Pr B b l d W' := by
  obtain ⟨h1, p, v, hp, h2, h3, h4, h5⟩ := h
  exact ⟨h1, p, v, hp, (hb.block b (heap_lt h2)).trans h2, ownF_step h3 hb, h4, h5⟩
theorem Pr.alloc {B b : Nat} {l : List UInt8} {d : Int} {W : World} (h : Pr B b l d W) (o : Obj) : Pr B b l d (W.alloc o) := h.step (bnew5 W o)
theorem Pr.depth {B b : Nat} {l : List UInt8} {d : Int} {W : World} (h : Pr B b l d W) : W.cell? ⟨b, 2, none⟩ = some (.int .i64 d) ∧ W.frozen? ⟨b, 2, none⟩ = false := by
  obtain ⟨h1, p, v, hp, h2, h3, h4, h5⟩ := h
  exact ⟨by rw [Lib.cell_of_heap h2]; rfl, Lib.frozen_of_heap h2 2⟩
/-- How deep the next line stands is written. -/
theorem Pr.setDepth {B b : Nat} {l : List UInt8} {d : Int} {W : World} (h : Pr B b l d W) (d' : Int) : Pr B b l d' (W.setCell ⟨b, 2, none⟩ (.int .i64 d')) := by
  obtain ⟨h1, p, v, hp, h2, h3, h4, h5⟩ := h
  refine ⟨h1, p, v, hp, ?_, h3.kept (row := some b) ⟨rfl, rfl, rfl, by simp [World.setCell], fun k _ hk => Below.heap_setCell _ _ _ _ (fun e => hk (by simp [e]))⟩ (Or.inr h4), h4, h5⟩
  simp [World.setCell, Array.getElem?_modify, h2]
theorem Kp.setDepth {b : Nat} {A W : World} (h : Kp b A W) (j : Nat) (u : Value) : Kp b A (W.setCell ⟨b, j, none⟩ u) := Lib.OthersKept.setCell h _ rfl _
/-- A printer that is made. -/
theorem Pr.new (W : World) (B : Nat) (hB : B ≤ W.heap.size) : Pr B W.heap.size [] 0 (W.alloc (.cells #[.pointer none, .slice none 0 0, .int .i64 0] 63)) :=
  ⟨hB, _, _, Or.inl rfl, heap_alloc_new W _, ⟨rfl, Or.inl ⟨rfl, rfl⟩⟩, by simp [Value.ownBlock], fun _ => rfl⟩

/-- A block of the call's own, whole, that is no row of bytes. -/
def Bk (W : World) (g : Nat) (vs : List Value) : Prop := ∃ T, T ≠ 5 ∧ W.heap[g]? = some (.cells vs.toArray T (0, 0))
theorem Bk.new (W : World) (vs : List Value) (T : TypeId) (hT : T ≠ 5) : Bk (W.alloc (.cells vs.toArray T)) W.heap.size vs := ⟨T, hT, heap_alloc_new W _⟩
theorem Bk.lt {W : World} {g : Nat} {vs : List Value} (h : Bk W g vs) : g < W.heap.size := let ⟨_, _, h2⟩ := h; heap_lt h2
theorem Bk.step {W W' : World} {g : Nat} {vs : List Value} (h : Bk W g vs) (hb : Below W.heap.size W W') : Bk W' g vs := let ⟨T, h1, h2⟩ := h; ⟨T, h1, (hb.block g (heap_lt h2)).trans h2⟩
theorem Bk.alloc {W : World} {g : Nat} {vs : List Value} (h : Bk W g vs) (o : Obj) : Bk (W.alloc o) g vs := h.step (bnew5 W o)
theorem Bk.drew {W : World} {g : Nat} {vs : List Value} (h : Bk W g vs) : Bk W.drew g vs := h
theorem Bk.kp {W W' : World} {b g : Nat} {vs : List Value} (h : Bk W g vs) (hg : g ≠ b) (k : Kp b W W') : Bk W' g vs := by
  obtain ⟨T, h1, h2⟩ := h
  refine ⟨T, h1, k g _ h2 (by simpa using hg) fun c fz e => ?_⟩
  injection e with _ e2
  exact h1 e2
theorem Bk.cell {W : World} {g : Nat} {vs : List Value} (h : Bk W g vs) {i : Nat} {v : Value} (hv : vs[i]? = some v) : W.cell? ⟨g, i, none⟩ = some v := by
  obtain ⟨T, h1, h2⟩ := h
  rw [Lib.cell_of_heap h2]
  simpa using hv
theorem Bk.frz {W : World} {g : Nat} {vs : List Value} (h : Bk W g vs) (i : Nat) : W.frozen? ⟨g, i, none⟩ = false := let ⟨_, _, h2⟩ := h; Lib.frozen_of_heap h2 i
theorem Bk.box {W : World} {g : Nat} {vs : List Value} (h : Bk W g vs) : Box W g vs := fun _ _ hv => ⟨h.cell hv, h.frz _⟩
theorem Bk.set {W : World} {g : Nat} {vs : List Value} (h : Bk W g vs) (j : Nat) (u : Value) : Bk (W.setCell ⟨g, j, none⟩ u) g (vs.set j u) := by
  obtain ⟨T, h1, h2⟩ := h
  refine ⟨T, h1, ?_⟩
  simp [World.setCell, Array.getElem?_modify, h2]
theorem Bk.far {W : World} {g : Nat} {vs : List Value} (h : Bk W g vs) {p : Addr} (hp : p.block ≠ g) (u : Value) : Bk (W.setCell p u) g vs := by
  obtain ⟨T, h1, h2⟩ := h
  exact ⟨T, h1, (Below.heap_setCell _ _ _ _ (fun e => hp e.symm)).trans h2⟩

/-- What a printer's call leaves: l is written, the next line stands in d blocks; w: the world ahead of the printer; W: ahead of the call. -/
structure Wr (b : Nat) (l : List UInt8) (d : Int) (w W W' : World) : Prop where
  pr : Pr w.heap.size b l d W'
  bel : Below w.heap.size w W'
  kp : Kp b W W'
  size : W.heap.size ≤ W'.heap.size
/-- Where nothing has been written yet. -/
theorem Wr.start {b : Nat} {l : List UInt8} {d : Int} {w W : World} (h : Pr w.heap.size b l d W) (hb : Below w.heap.size w W) : Wr b l d w W W := ⟨h, hb, Kp.refl _ _, Nat.le_refl _⟩
theorem Wr.step {b : Nat} {l : List UInt8} {d : Int} {w A W W' : World} (h : Wr b l d w A W) (hb : Below W.heap.size W W') : Wr b l d w A W' := ⟨h.pr.step hb, bth5 h.bel hb, h.kp.step hb, Nat.le_trans h.size hb.size⟩
theorem Wr.alloc {b : Nat} {l : List UInt8} {d : Int} {w A W : World} (h : Wr b l d w A W) (o : Obj) : Wr b l d w A (W.alloc o) := h.step (bnew5 W o)
theorem Wr.drew {b : Nat} {l : List UInt8} {d : Int} {w A W : World} (h : Wr b l d w A W) : Wr b l d w A W.drew := h.step (Below.refl _ _).drew
theorem Wr.trans {b : Nat} {l l' : List UInt8} {d d' : Int} {w A W W' : World} (h : Wr b l d w A W) (k : Wr b l' d' w W W') : Wr b l' d' w A W' := ⟨k.pr, k.bel, h.kp.trans k.kp, Nat.le_trans h.size k.size⟩
theorem Wr.bk {b : Nat} {l : List UInt8} {d : Int} {w A W : World} (h : Wr b l d w A W) {g : Nat} {vs : List Value} (k : Bk A g vs) (hg : g ≠ b) : Bk W g vs := k.kp hg h.kp
theorem Wr.setDepth {b : Nat} {l : List UInt8} {d : Int} {w A W : World} (h : Wr b l d w A W) (d' : Int) : Wr b l d' w A (W.setCell ⟨b, 2, none⟩ (.int .i64 d')) :=
  ⟨h.pr.setDepth d', h.bel.setCell (p := ⟨b, 2, none⟩) h.pr.ge _, h.kp.setDepth 2 _, by simpa [World.setCell] using h.size⟩
theorem Wr.lt {b : Nat} {l : List UInt8} {d : Int} {w A W : World} (h : Wr b l d w A W) : b < W.heap.size := h.pr.lt
theorem bc_length (l : List UInt8) : (Lib.byteCells l).length = l.length := Lib.byteCells_length l
theorem bc_append (a b : List UInt8) : Lib.byteCells (a ++ b) = Lib.byteCells a ++ Lib.byteCells b := Lib.byteCells_append a b
theorem sc_bs (a : List UInt8) : Lib.strCells (bs a) = Lib.byteCells a := by rw [Lib.strCells_eq]; rfl
end

section
open Go.RowKit

theorem priInfo : (Tryd.prog.info? 61).map (·.size) = some 2 := by kernel_rfl
theorem priLies : liesAt Tryd.prog Tryd.prog.depth 63 (3 / Tryd.prog.cellsOf 63) 0 61 1 = true := by kernel_rfl
theorem byteInfo : (Tryd.prog.info? 5).map (fun i => (i.zero, i.size, i.bytes)) = some (some (.int .u8 0), 1, 1) := by kernel_rfl
theorem priNe : 63 ≠ 5 := by decide

set_option maxHeartbeats 1000000 in
set_option maxRecDepth 100000 in
theorem copyCheckP {B b : Nat} {l : List UInt8} {d : Int} {W : World} (h : Pr B b l d W) :
    Calls Tryd.prog 70 #[.pointer (some ⟨b, 0, none⟩)] W fun e W' => e = .returned (.tuple #[]) ∧ PrU B b l d W' ∧ Below B W W' ∧ Kp b W W' ∧ W.heap.size ≤ W'.heap.size := by
  obtain ⟨j, hj, hjs⟩ := Option.map_eq_some_iff.1 priInfo
  obtain ⟨hB, p, v, hp, hb, hown, hne, he0⟩ := h
  have c0 : W.cell? ⟨b, 0, none⟩ = some p := by rw [Lib.cell_of_heap hb]; rfl
  have f0 : W.frozen? ⟨b, 0, none⟩ = false := Lib.frozen_of_heap hb 0
  have hsh : W.shape? b = some (63, 3) := by simp [World.shape?, hb]
  rcases hp with rfl | rfl
  · have hfin : PrU B b l d (W.setCell ⟨b, 0, none⟩ (.pointer (some ⟨b, 0, none⟩))) ∧ Below B W (W.setCell ⟨b, 0, none⟩ (.pointer (some ⟨b, 0, none⟩))) ∧ Kp b W (W.setCell ⟨b, 0, none⟩ (.pointer (some ⟨b, 0, none⟩))) ∧ W.heap.size ≤ (W.setCell ⟨b, 0, none⟩ (.pointer (some ⟨b, 0, none⟩))).heap.size := by
      refine ⟨⟨hB, v, by simp [World.setCell, Array.getElem?_modify, hb], hown.kept (row := some b) ⟨rfl, rfl, rfl, by simp [World.setCell], fun k _ hk => Below.heap_setCell _ _ _ _ (fun e => hk (by simp [e]))⟩ (Or.inr hne), hne, he0⟩, (Below.refl B W).setCell (p := ⟨b, 0, none⟩) hB _, (Kp.refl b W).setDepth 0 _, by simp [World.setCell]⟩
    clear hb hown hne he0
    go_enter Tryd.func70, Tryd.ntmps70
    go_wp2
    rw [Lib.run_to_unsafe W ⟨b, 0, none⟩ Tryd.underlying58 Tryd.underlying124 hj (by rw [hjs]; decide) hsh (Nat.zero_lt_succ 2)]
    simp only [Result.andThen]
    rw [Oper.upon_value]
    go_wp2
    rw [run_callFunc_extern Tryd.func80 (by kernel_rfl) (by kernel_rfl) (by kernel_rfl) (e := Extern.AbiNoEscape.same) (by kernel_rfl)]
    rw [Lib.run_noEscape]
    simp only [Result.andThen]
    rw [Oper.upon_value]
    go_wp2
    rw [Lib.run_from_unsafe W ⟨b, 0, none⟩ Tryd.underlying124 Tryd.underlying58 hj hsh priLies]
    simp only [Result.andThen]
    rw [Oper.upon_value]
    go_wp2
    go_end0
    exact ⟨rfl, hfin⟩
  · go_enter Tryd.func70, Tryd.ntmps70
    go_wp2
    rw [Lib.run_neq_ptr_same W _ Tryd.underlying58 hj]
    go_wp2
    go_end0
    exact ⟨rfl, ⟨hB, v, hb, hown, hne, he0⟩, Below.refl B _, Kp.refl _ _, Nat.le_refl _⟩

set_option maxHeartbeats 2000000 in
set_option maxRecDepth 100000 in
/-- WriteString. -/
theorem writeStringP (b : Nat) (l t : List UInt8) (d : Int) (w W : World) (h : Pr w.heap.size b l d W) (hw : Below w.heap.size w W) (hlen : l.length + t.length ≤ 140737488355328) :
    Calls Tryd.prog 61 #[.pointer (some ⟨b, 0, none⟩), .string (bs t)] W fun e W' => e = .returned (.tuple #[.int .i64 t.length, .nilIface]) ∧ Wr b (l ++ t) d w W W' := by
  obtain ⟨i0, hi, hz0, hz1, hz2⟩ := info_parts byteInfo
  have hts : (bs t).size = t.length := bs_size t
  have hsc : Lib.strCells (bs t) = Lib.byteCells t := sc_bs t
  have hbl := bc_length l
  have hcc := copyCheckP h
  obtain ⟨s, hs⟩ : ∃ s, s = bs t := ⟨_, rfl⟩
  rw [← hs] at hts hsc ⊢
  clear hs
  go_enter Tryd.func61, Tryd.ntmps61
  go_wp2_with fail
  refine hcc.mono ?_
  rintro e w1 ⟨rfl, ⟨hB, v, hbk, hown, hne, he0⟩, hb1, hk1, hsz⟩
  have hlt := heap_lt hbk
  have c0 : w1.cell? ⟨b, 0, none⟩ = some (.pointer (some ⟨b, 0, none⟩)) := by rw [Lib.cell_of_heap hbk]; rfl
  have c1 : w1.cell? ⟨b, 1, none⟩ = some v := by rw [Lib.cell_of_heap hbk]; rfl
  have hbw := hw.trans hb1
  clear hcc h
  go_wp2_with (at_builtin; refine Lib.wpList_append_own_stringF _ rfl _ _ 59 9 rfl w.heap.size 5 i0 Tryd.underlying59 Tryd.underlying9 hi hz0 hz1 hz2 _ _ _ rfl hown s rfl ?c3 ?c4 ?c5 ?_)
  case c3 => unfold maxLen; omega
  case c4 => omega
  case c5 => exact hbw.size
  intro v' w2 hown' hgrow hnil
  have hb2 : w2.heap[b]? = some (.cells #[.pointer (some ⟨b, 0, none⟩), v, .int .i64 d] 63 (0, 0)) := by
    rw [hgrow.block b hlt (fun e => hne e.symm)]
    exact hbk
  have hne' := Lib.ownBlock_neF hown' hb2 priNe
  have d0 : w2.cell? ⟨b, 0, none⟩ = some (.pointer (some ⟨b, 0, none⟩)) := by rw [Lib.cell_of_heap hb2]; rfl
  have d1 : w2.cell? ⟨b, 1, none⟩ = some v := by rw [Lib.cell_of_heap hb2]; rfl
  have f1 : w2.frozen? ⟨b, 1, none⟩ = false := Lib.frozen_of_heap hb2 1
  have hfin : Wr b (l ++ t) d w W (w2.setCell ⟨b, 1, none⟩ v') := by
    rw [← bc_append, ← List.length_append] at hown'
    refine ⟨⟨hB, _, v', Or.inr rfl, by simp [World.setCell, Array.getElem?_modify, hb2], hown'.kept (row := some b) ⟨rfl, rfl, rfl, by simp [World.setCell], fun k _ hk => Below.heap_setCell _ _ _ _ (fun e => hk (by simp [e]))⟩ (Or.inr hne'), hne', fun h0 => ?_⟩, ?_, ?_, ?_⟩
    · obtain ⟨h1, h2⟩ := List.append_eq_nil_iff.1 h0
      exact hnil.2 ⟨he0 h1, by simp [h2]⟩
    · exact (hbw.grown hgrow hbw.size (fun k hk => (hown.lt k hk).1)).setCell (p := ⟨b, 1, none⟩) hB _
    · exact Kp.setDepth (Lib.OthersKept.grown hk1 hgrow (Lib.ownsRowF_kind hown)) 1 v'
    · have := hgrow.size
      simp [World.setCell]
      omega
  obtain ⟨ao, n', cap, rfl⟩ : ∃ ao n' cap, v' = .slice ao n' cap := by
    rcases hown'.2 with ⟨hv, _⟩ | ⟨g, cap, cur, fz, hv, _⟩
    · exact ⟨_, _, _, hv⟩
    · exact ⟨_, _, _, hv⟩
  go_wp2
  go_ret2
  exact ⟨rfl, hfin⟩

set_option maxHeartbeats 1000000 in
set_option maxRecDepth 100000 in
/-- String, where something has been written. -/
theorem stringP1 {B b : Nat} {l : List UInt8} {d : Int} {W : World} (h : Pr B b l d W) (h0 : l ≠ []) :
    Calls Tryd.prog 24 #[.pointer (some ⟨b, 0, none⟩)] W fun e W' => e = .returned (.string (bs l)) ∧ Below B W W' := by
  obtain ⟨hB, p, v, hp, hbk, hown, hne, -⟩ := h
  have hl0 : l.length ≠ 0 := by simpa using h0
  obtain ⟨g, cap, cur, fz, rfl, hbg, hg, hfz, hnc, hcm, hcs, htake⟩ : ∃ g cap cur fz, v = .slice (some ⟨g, 0, none⟩) l.length cap ∧ B ≤ g ∧ W.heap[g]? = some (.cells cur 5 fz) ∧ fz.2 ≤ l.length * 1 ∧ l.length ≤ cap ∧ cap ≤ maxLen ∧ cur.size = cap * 1 ∧ cur.toList.take (l.length * 1) = Lib.byteCells l := by
    rcases hown.2 with ⟨_, hz⟩ | ⟨g, cap, cur, fz, hv, r⟩
    · exact absurd hz hl0
    · exact ⟨g, cap, cur, fz, hv, r⟩
  have c1 : W.drew.cell? ⟨b, 1, none⟩ = some (.slice (some ⟨g, 0, none⟩) l.length cap) := by
    have : W.drew.heap[b]? = some (.cells #[p, .slice (some ⟨g, 0, none⟩) l.length cap, .int .i64 d] 63 (0, 0)) := hbk
    rw [Lib.cell_of_heap this]; rfl
  have hSD : (Builtin.unsafeSliceData_ #[59] 90 #[.slice (some ⟨g, 0, none⟩) l.length cap]).run Tryd.prog W.drew = .ok (.pointer (some ⟨g, 0, none⟩)) W.drew :=
    Lib.run_unsafeSliceData_row _ _ _ _ _ _ (by omega)
  have hUS : (Builtin.unsafeString_ #[90, 3] 9 #[.pointer (some ⟨g, 0, none⟩), .int .i64 l.length]).run Tryd.prog W.drew = .ok (.string ⟨l.toArray⟩) (W.drew.freeze ⟨g, 0, none⟩ l.length) := by
    refine Lib.run_unsafeString_row W.drew 90 3 9 5 Tryd.underlying90 (by kernel_rfl) g cur.size (by have hg' : W.drew.heap[g]? = some (.cells cur 5 fz) := hg; simp [World.shape?, hg']) l h0 (by omega) (by unfold maxLen at hcm; omega) ?_
    intro j x hx
    have := hown.cells (g := g) rfl j (.int .u8 x.toNat) (by simp [Lib.byteCells, hx])
    exact this
  have hfin : Below B W (W.drew.freeze ⟨g, 0, none⟩ l.length) := Lib.below_freeze (Below.drew (Below.refl B W)) (p := ⟨g, 0, none⟩) hbg _
  go_enter Tryd.func24, Tryd.ntmps24
  go_wp2
  go_region
  all_goals (go_wp2; go_ret; exact ⟨rfl, hfin⟩)

set_option maxHeartbeats 1000000 in
set_option maxRecDepth 100000 in
/-- String, where nothing has been written. -/
theorem stringP0 {B b : Nat} {d : Int} {W : World} (h : Pr B b [] d W) :
    Calls Tryd.prog 24 #[.pointer (some ⟨b, 0, none⟩)] W fun e W' => e = .returned (.string (bs [])) ∧ Below B W W' := by
  obtain ⟨hB, p, v, hp, hbk, hown, hne, he⟩ := h
  obtain rfl := he rfl
  have hUS : (Builtin.unsafeString_ #[90, 3] 9 #[.pointer none, .int .i64 0]).run Tryd.prog W.drew = .ok (.string .empty) W.drew := Lib.run_unsafeString_none W.drew _ _ _ none
  have c1 : W.drew.cell? ⟨b, 1, none⟩ = some (.slice none 0 0) := by
    have : W.drew.heap[b]? = some (.cells #[p, .slice none 0 0, .int .i64 d] 63 (0, 0)) := hbk
    rw [Lib.cell_of_heap this]; rfl
  have hSD : (Builtin.unsafeSliceData_ #[59] 90 #[.slice none 0 0]).run Tryd.prog W.drew = .ok (.pointer none) W.drew := rfl
  go_enter Tryd.func24, Tryd.ntmps24
  go_wp2
  go_region
  all_goals (go_wp2; go_ret; exact ⟨rfl, Below.drew (Below.refl B W)⟩)
theorem stringP {B b : Nat} {l : List UInt8} {d : Int} {W : World} (h : Pr B b l d W) :
    Calls Tryd.prog 24 #[.pointer (some ⟨b, 0, none⟩)] W fun e W' => e = .returned (.string (bs l)) ∧ Below B W W' := by
  by_cases h0 : l = []
  · subst h0; exact stringP0 h
  · exact stringP1 h h0
end
end Go.Proofs.YtejifkeeihkcjaaDoor
