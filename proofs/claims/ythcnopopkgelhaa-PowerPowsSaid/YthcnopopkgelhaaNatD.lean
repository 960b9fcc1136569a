/- The contracts of nat's limbByLimb, Add, Sub. -/
import Derived.Test.YthcnopopkgelhaaNatC
import Derived.Deep.RegionHeld3
import Derived.Deep.RegionWith
import Derived.Deep.LoopGhost
import Derived.Deep.Cut
import Derived.Deep.CutRange
import Derived.Deep.DeepCutAuto
namespace Go.Proofs.Ythcnopopkgelhaa
open Go.RowKit

theorem drewN_one (w : World) : w.drew = w.drewN 1 := rfl

/-- What stands in memory while limbByLimb's loop runs. -/
structure LbL (w : World) (A : Option Addr) (n c : Nat) (A' : Option Addr) (n' c' : Nat) (l m : List Nat) (g cv : Nat) (L : List Nat) (wr : World) : Prop where
  boxA : wr.cell? ⟨w.heap.size, 0, none⟩ = some (.slice A n c)
  boxB : wr.cell? ⟨w.heap.size + 1, 0, none⟩ = some (.slice A' n' c')
  res : wr.cell? ⟨w.heap.size + 1 + 1, 0, none⟩ = some (.slice none 0 0)
  resF : wr.frozen? ⟨w.heap.size + 1 + 1, 0, none⟩ = false
  rowA : Row wr g .u64 A n l
  rowB : Row wr g .u64 A' n' m
  carry : wr.cell? ⟨g, 0, none⟩ = some (.int .u64 cv)
  carryF : wr.frozen? ⟨g, 0, none⟩ = false
  made : Blk wr (w.heap.size + 1 + 1 + 1) 23 .u64 L
  grown : w.grownBy wr (some g)
  size : w.heap.size + 4 ≤ wr.heap.size
  low : g < w.heap.size

section
variable {w wr w' : World} {A A' : Option Addr} {n c n' c' g cv : Nat} {l m L : List Nat}
theorem LbL.below (h : LbL w A n c A' n' c' l m g cv L wr) (hb : Below wr.heap.size wr w') : LbL w A n c A' n' c' l m g cv L w' := by
  have hs := h.size
  have hl := h.low
  have hgr := h.grown
  exact ⟨(hb.cell (p := ⟨_, _, _⟩) (by simp; omega)).trans h.boxA, (hb.cell (p := ⟨_, _, _⟩) (by simp; omega)).trans h.boxB, (hb.cell (p := ⟨_, _, _⟩) (by simp; omega)).trans h.res, (hb.frozen (p := ⟨_, _, _⟩) (by simp; omega)).trans h.resF,
    h.rowA.below (hb.mono (by omega)), h.rowB.below (hb.mono (by omega)), (hb.cell (p := ⟨_, _, _⟩) (by simp; omega)).trans h.carry, (hb.frozen (p := ⟨_, _, _⟩) (by simp; omega)).trans h.carryF, h.made.below hb (by omega),
    ⟨hb.os.trans hgr.os, hb.tape.trans hgr.tape, hb.output.trans hgr.output, Nat.le_trans hgr.size hb.size, fun i hi hn => (hb.block i (by omega)).trans (hgr.block i hi hn)⟩, Nat.le_trans hs hb.size, hl⟩
theorem LbL.rows (h : LbL w A n c A' n' c' l m g cv L wr) : Row wr wr.heap.size .u64 A n l ∧ Row wr wr.heap.size .u64 A' n' m :=
  ⟨h.rowA.more (by have := h.size; have := h.low; omega), h.rowB.more (by have := h.size; have := h.low; omega)⟩
theorem Row.setFar {B k : Nat} {kd : IntKind} {A : Option Addr} {l : List Nat} {wr : World} (h : Row wr B kd A k l) {p : Addr} (hp : B ≤ p.block) (u : Value) : Row (wr.setCell p u) B kd A k l := Reads.setCell h hp u
theorem LbL.carried (h : LbL w A n c A' n' c' l m g cv L wr) (x : Nat) : LbL w A n c A' n' c' l m g x L (wr.setCell ⟨g, 0, none⟩ (.int .u64 (x : Int))) := by
  have hs := h.size
  have hl := h.low
  have hgr := h.grown
  have ne : ∀ b o, g < b → (⟨g, 0, none⟩ : Addr) ≠ ⟨b, o, none⟩ := fun b o hb e => by injection e with e; omega
  refine ⟨(World.cell?_setCell_other _ _ _ _ (ne _ _ (by omega))).trans h.boxA, (World.cell?_setCell_other _ _ _ _ (ne _ _ (by omega))).trans h.boxB, (World.cell?_setCell_other _ _ _ _ (ne _ _ (by omega))).trans h.res, ?_, h.rowA.setFar (Nat.le_refl _) _, h.rowB.setFar (Nat.le_refl _) _,
    World.cell?_setCell_same _ _ _ h.carry, ?_, h.made.far (by simp; omega) _, ⟨hgr.os, hgr.tape, hgr.output, by simpa [World.setCell] using hgr.size, fun i hi hne => (Below.heap_setCell _ _ _ i (fun e => hne (by simp at e; rw [e]))).trans (hgr.block i hi hne)⟩, by simpa [World.setCell] using hs, hl⟩
  · simpa using h.resF
  · simpa using h.carryF
theorem LbL.stored (h : LbL w A n c A' n' c' l m g cv L wr) (i x : Nat) : LbL w A n c A' n' c' l m g cv (L.set i x) (wr.setCell ⟨w.heap.size + 1 + 1 + 1, i, none⟩ (.int .u64 (x : Int))) := by
  have hs := h.size
  have hl := h.low
  have hgr := h.grown
  have ne : ∀ b o, b < w.heap.size + 1 + 1 + 1 → (⟨w.heap.size + 1 + 1 + 1, i, none⟩ : Addr) ≠ ⟨b, o, none⟩ := fun b o hb e => by injection e with e; omega
  refine ⟨(World.cell?_setCell_other _ _ _ _ (ne _ _ (by omega))).trans h.boxA, (World.cell?_setCell_other _ _ _ _ (ne _ _ (by omega))).trans h.boxB, (World.cell?_setCell_other _ _ _ _ (ne _ _ (by omega))).trans h.res, ?_, h.rowA.setFar (by simp; omega) _, h.rowB.setFar (by simp; omega) _,
    (World.cell?_setCell_other _ _ _ _ (ne _ _ (by omega))).trans h.carry, ?_, h.made.set_ i x, ⟨hgr.os, hgr.tape, hgr.output, by simpa [World.setCell] using hgr.size, fun j hj hne => (Below.heap_setCell _ _ _ j (by simp; omega)).trans (hgr.block j hj hne)⟩, by simpa [World.setCell] using hs, hl⟩
  · simpa using h.resF
  · simpa using h.carryF
end

set_option maxHeartbeats 1000000 in
theorem limbByLimb_ge (F : FuncId) (g : Nat) (lo hi : Nat → Nat → Nat → Nat) (hF : ∀ args w, (callFunc F args).run Try.prog w = .ok (.enter F args) w)
    (hstep : ∀ (x y c : Nat) (w : World), c ≤ 1 → w.cell? ⟨g, 0, none⟩ = some (.int .u64 c) → w.frozen? ⟨g, 0, none⟩ = false →
      Calls Try.prog F #[.int .u64 x, .int .u64 y, .pointer (some ⟨g, 0, none⟩)] w fun e w' => e = .returned (.int .u64 (lo x y c : Nat)) ∧ w.setCell ⟨g, 0, none⟩ (.int .u64 (hi x y c : Nat)) = w')
    (hlo : ∀ x y c, lo x y c < LB) (hhi : ∀ k l m, Dig.Below LB l → Dig.Below LB m → Dig.runC hi l m k ≤ 1)
    (A A' : Option Addr) (n c n' c' : Nat) (l m : List Nat) (w : World) (hr : Row w g .u64 A n l) (hs : Row w g .u64 A' n' m) (bl : Dig.Below LB l) (bm : Dig.Below LB m)
    (hc : w.cell? ⟨g, 0, none⟩ = some (.int .u64 0)) (hf : w.frozen? ⟨g, 0, none⟩ = false) (hn : n ≤ 1000000000000) (hn' : n' ≤ n) :
    Calls Try.prog 47 #[.agg #[.slice A n c], .agg #[.slice A' n' c'], .func (.func F) #[] #[.pointer (some ⟨g, 0, none⟩)]] w fun e w' =>
      ∃ A1 n1 c1, e = .returned (.agg #[.slice A1 n1 c1]) ∧ Num w' w.heap.size A1 n1 c1 (Dig.val LB (Dig.runL lo hi l m (n + 1))) ∧ n1 ≤ n + 1 ∧ w.grownBy w' (some g) := by
  have hmk := fun u => run_mkU64 (n + 1) (by omega) u
  rw [show ((n + 1 : Nat) : Int) = (n : Int) + 1 by omega] at hmk
  have hg : g < w.heap.size := World.block_lt_of_cell? w ⟨g, 0, none⟩ hc
  have hst0 : LbL w A n c A' n' c' l m g 0 (List.replicate (n + 1) 0) ((((w.alloc (.cells #[.slice A n c] 29)).alloc (.cells #[.slice A' n' c'] 29)).alloc (.cells #[.slice none 0 0] 29)).alloc (.cells (ints .u64 (List.replicate (n + 1) 0)).toArray 23)) := by
    have hb : Below w.heap.size w ((((w.alloc (.cells #[.slice A n c] 29)).alloc (.cells #[.slice A' n' c'] 29)).alloc (.cells #[.slice none 0 0] 29)).alloc (.cells (ints .u64 (List.replicate (n + 1) 0)).toArray 23)) := by go_grown
    refine ⟨by simp [go_sem], by simp [go_sem], by simp [go_sem], by simp [go_sem], hr.below (hb.mono (by omega)), hs.below (hb.mono (by omega)), (hb.cell (p := ⟨_, _, _⟩) hg).trans hc, (hb.frozen (p := ⟨_, _, _⟩) hg).trans hf, ?_, ⟨hb.os, hb.tape, hb.output, hb.size, fun i hi _ => hb.block i hi⟩, by simp, hg⟩
    have := Blk.made (((w.alloc (.cells #[.slice A n c] 29)).alloc (.cells #[.slice A' n' c'] 29)).alloc (.cells #[.slice none 0 0] 29)) 23 (n + 1) .u64
    simpa using this
  have hst0 := Lib.hid hst0
  go_enter Try.func47, Try.ntmps47
  go_wp2_with fail
  go_loopw [20] (fun i wr => ∃ k : Nat, k ≤ n + 1 ∧ i = .int .i64 k ∧ LbL w A n c A' n' c' l m g (Dig.runC hi l m k) (Dig.sofar (Dig.runL lo hi l m k) (n + 1)) wr) (fun i _ => n + 1 - (intOf i).toNat)
  case atStart => exact ⟨0, by omega, rfl, by simpa [Dig.runC, Dig.runL, Dig.sofar_nil] using hst0.out⟩
  case round =>
    obtain ⟨k, hk, rfl, hst⟩ := hrel
    by_cases hlt : k < n + 1
    · have hcle := hhi k l m bl bm
      have hk1 : (0 : Int) ≤ k := by omega
      have hk2 : (k : Int) < n + 1 := by omega
      have hst1 := hst.below (Below.refl _ _).drew
      clear hmk hst0 hc hf hr hs hst
      go_wp2_with fail
      go_region_held3 (fun w' => w'.cell? ⟨w.heap.size, 0, none⟩ = some (.slice A n c) ∧ w'.cell? ⟨w.heap.size + 1, 0, none⟩ = some (.slice A' n' c')) (first | exact ⟨hst4.boxA, hst4.boxB⟩ | exact ⟨hst3.boxA, hst3.boxB⟩ | exact ⟨hst2.boxA, hst2.boxB⟩ | exact ⟨hst1.boxA, hst1.boxB⟩ | exact ⟨(hst4.stored _ _).boxA, (hst4.stored _ _).boxB⟩)
        (first
          | (go_at_call 51
             with_reducible refine (natLimb A n c k l _ hst1.rows.1).mono ?_
             rintro e w1 ⟨rfl, hb⟩
             have hst2 := hst1.below hb
             clear hb)
          | (go_at_call 51
             with_reducible refine (natLimb A' n' c' k m _ hst2.rows.2).mono ?_
             rintro e w1 ⟨rfl, hb⟩
             have hst3 := hst2.below hb
             clear hb)
          | (with_reducible refine (hstep (Dig.at_ l k) (Dig.at_ m k) (Dig.runC hi l m k) _ hcle hst3.carry hst3.carryF).mono ?_
             rintro e w2 ⟨rfl, hw⟩
             have hst4 := hst3.carried (hi (Dig.at_ l k) (Dig.at_ m k) (Dig.runC hi l m k))
             rw [hw] at hst4
             have hcell := hst4.made.cell (i := k) (by rw [Dig.sofar_length _ _ (by rw [Dig.runL_length]; omega)]; omega)
             have hfroz := hst4.made.frozen k
             clear hw))
      have hst5 := hst4.stored k (lo (Dig.at_ l k) (Dig.at_ m k) (Dig.runC hi l m k))
      have hset := Dig.sofar_set (Dig.runL lo hi l m k) (n + 1) (lo (Dig.at_ l k) (Dig.at_ m k) (Dig.runC hi l m k)) (by rw [Dig.runL_length]; omega)
      rw [Dig.runL_length] at hset
      rw [hset] at hst5
      clear hset hst4 hst3 hst2 hst1 hcell hfroz
      go_wp2_with fail
      refine ⟨⟨k + 1, by omega, by go_num, hst5⟩, by simp [intOf]; omega⟩
    · obtain rfl : k = n + 1 := by omega
      clear hmk hst0 hc hf hr hs
      have hst1 : LbL w A n c A' n' c' l m g (Dig.runC hi l m (n + 1)) (Dig.runL lo hi l m (n + 1)) wr := by
        have := Dig.sofar_all (Dig.runL lo hi l m (n + 1))
        rw [Dig.runL_length] at this
        rw [this] at hst
        exact hst
      have hrow := hst1.made.row
      have hlen := Dig.runL_length lo hi l m (n + 1)
      have hown := hst1.made.own (base := w.heap.size + 1 + 1 + 1) (Nat.le_refl _) (by unfold maxLen; omega)
      rw [hlen] at hrow hown
      have hlen := Lib.hid hlen
      have h6 := hst1.res
      have h6f := hst1.resF
      clear hst
      go_wp2_with fail
      refine (natTrim _ _ _ _ _ hrow (Nat.le_refl _) (by unfold maxLen; omega)).mono ?_
      rintro e w' ⟨A1, c1, rfl, hr2, hc2, hm2, hz, hA, rfl⟩
      go_wp2_with fail
      refine bodyPost_ret (v := .agg #[.slice A1 (Dig.nrm (Dig.runL lo hi l m (n + 1))).length c1]) (by simp [results, Try.results47, go_sem, h6]) rfl ?_
      have hgr := hst1.grown
      have hnum : Num wr (w.heap.size + 1 + 1 + 1) A1 (Dig.nrm (Dig.runL lo hi l m (n + 1))).length c1 (Dig.val LB (Dig.runL lo hi l m (n + 1))) :=
        ⟨_, hr2, Dig.norm_nrm _, (Dig.runL_below lo hi l m hlo (n + 1)).nrm, Dig.val_nrm LB _, hc2, hm2, fun h => hz (List.eq_nil_of_length_eq_zero h), fun ad had => by
          rcases hA with h | h
          · rw [h] at had; injection had with had; rw [← had]; exact Nat.le_refl _
          · rw [h] at had; cases had⟩
      refine ⟨A1, _, c1, rfl, (hnum.setCell (p := ⟨w.heap.size + 1 + 1, 0, none⟩) (Nat.lt_succ_self _) _).mono (by omega), by have := Dig.nrm_length_le (Dig.runL lo hi l m (n + 1)); have := hlen.out; omega,
        ⟨hgr.os, hgr.tape, hgr.output, by simpa [World.setCell] using hgr.size, fun j hj hne => (Below.heap_setCell _ _ _ j (by simp; omega)).trans (hgr.block j hj hne)⟩⟩
set_option maxHeartbeats 1000000 in
theorem limbByLimb_lt (F : FuncId) (g : Nat) (lo hi : Nat → Nat → Nat → Nat) (hF : ∀ args w, (callFunc F args).run Try.prog w = .ok (.enter F args) w)
    (hstep : ∀ (x y c : Nat) (w : World), c ≤ 1 → w.cell? ⟨g, 0, none⟩ = some (.int .u64 c) → w.frozen? ⟨g, 0, none⟩ = false →
      Calls Try.prog F #[.int .u64 x, .int .u64 y, .pointer (some ⟨g, 0, none⟩)] w fun e w' => e = .returned (.int .u64 (lo x y c : Nat)) ∧ w.setCell ⟨g, 0, none⟩ (.int .u64 (hi x y c : Nat)) = w')
    (hlo : ∀ x y c, lo x y c < LB) (hhi : ∀ k l m, Dig.Below LB l → Dig.Below LB m → Dig.runC hi l m k ≤ 1)
    (A A' : Option Addr) (n c n' c' : Nat) (l m : List Nat) (w : World) (hr : Row w g .u64 A n l) (hs : Row w g .u64 A' n' m) (bl : Dig.Below LB l) (bm : Dig.Below LB m)
    (hc : w.cell? ⟨g, 0, none⟩ = some (.int .u64 0)) (hf : w.frozen? ⟨g, 0, none⟩ = false) (hn : n' ≤ 1000000000000) (hn' : n < n') :
    Calls Try.prog 47 #[.agg #[.slice A n c], .agg #[.slice A' n' c'], .func (.func F) #[] #[.pointer (some ⟨g, 0, none⟩)]] w fun e w' =>
      ∃ A1 n1 c1, e = .returned (.agg #[.slice A1 n1 c1]) ∧ Num w' w.heap.size A1 n1 c1 (Dig.val LB (Dig.runL lo hi l m (n' + 1))) ∧ n1 ≤ n' + 1 ∧ w.grownBy w' (some g) := by
  have hmk := fun u => run_mkU64 (n' + 1) (by omega) u
  rw [show ((n' + 1 : Nat) : Int) = (n' : Int) + 1 by omega] at hmk
  have hg : g < w.heap.size := World.block_lt_of_cell? w ⟨g, 0, none⟩ hc
  have hst0 : LbL w A n c A' n' c' l m g 0 (List.replicate (n' + 1) 0) ((((w.alloc (.cells #[.slice A n c] 29)).alloc (.cells #[.slice A' n' c'] 29)).alloc (.cells #[.slice none 0 0] 29)).alloc (.cells (ints .u64 (List.replicate (n' + 1) 0)).toArray 23)) := by
    have hb : Below w.heap.size w ((((w.alloc (.cells #[.slice A n c] 29)).alloc (.cells #[.slice A' n' c'] 29)).alloc (.cells #[.slice none 0 0] 29)).alloc (.cells (ints .u64 (List.replicate (n' + 1) 0)).toArray 23)) := by go_grown
    refine ⟨by simp [go_sem], by simp [go_sem], by simp [go_sem], by simp [go_sem], hr.below (hb.mono (by omega)), hs.below (hb.mono (by omega)), (hb.cell (p := ⟨_, _, _⟩) hg).trans hc, (hb.frozen (p := ⟨_, _, _⟩) hg).trans hf, ?_, ⟨hb.os, hb.tape, hb.output, hb.size, fun i hi _ => hb.block i hi⟩, by simp, hg⟩
    have := Blk.made (((w.alloc (.cells #[.slice A n c] 29)).alloc (.cells #[.slice A' n' c'] 29)).alloc (.cells #[.slice none 0 0] 29)) 23 (n' + 1) .u64
    simpa using this
  have hst0 := Lib.hid hst0
  go_enter Try.func47, Try.ntmps47
  go_wp2_with fail
  go_loopw [20] (fun i wr => ∃ k : Nat, k ≤ n' + 1 ∧ i = .int .i64 k ∧ LbL w A n c A' n' c' l m g (Dig.runC hi l m k) (Dig.sofar (Dig.runL lo hi l m k) (n' + 1)) wr) (fun i _ => n' + 1 - (intOf i).toNat)
  case atStart => exact ⟨0, by omega, rfl, by simpa [Dig.runC, Dig.runL, Dig.sofar_nil] using hst0.out⟩
  case round =>
    obtain ⟨k, hk, rfl, hst⟩ := hrel
    by_cases hlt : k < n' + 1
    · have hcle := hhi k l m bl bm
      have hk1 : (0 : Int) ≤ k := by omega
      have hk2 : (k : Int) < n' + 1 := by omega
      have hst1 := hst.below (Below.refl _ _).drew
      clear hmk hst0 hc hf hr hs hst
      go_wp2_with fail
      go_region_held3 (fun w' => w'.cell? ⟨w.heap.size, 0, none⟩ = some (.slice A n c) ∧ w'.cell? ⟨w.heap.size + 1, 0, none⟩ = some (.slice A' n' c')) (first | exact ⟨hst4.boxA, hst4.boxB⟩ | exact ⟨hst3.boxA, hst3.boxB⟩ | exact ⟨hst2.boxA, hst2.boxB⟩ | exact ⟨hst1.boxA, hst1.boxB⟩ | exact ⟨(hst4.stored _ _).boxA, (hst4.stored _ _).boxB⟩)
        (first
          | (go_at_call 51
             with_reducible refine (natLimb A n c k l _ hst1.rows.1).mono ?_
             rintro e w1 ⟨rfl, hb⟩
             have hst2 := hst1.below hb
             clear hb)
          | (go_at_call 51
             with_reducible refine (natLimb A' n' c' k m _ hst2.rows.2).mono ?_
             rintro e w1 ⟨rfl, hb⟩
             have hst3 := hst2.below hb
             clear hb)
          | (with_reducible refine (hstep (Dig.at_ l k) (Dig.at_ m k) (Dig.runC hi l m k) _ hcle hst3.carry hst3.carryF).mono ?_
             rintro e w2 ⟨rfl, hw⟩
             have hst4 := hst3.carried (hi (Dig.at_ l k) (Dig.at_ m k) (Dig.runC hi l m k))
             rw [hw] at hst4
             have hcell := hst4.made.cell (i := k) (by rw [Dig.sofar_length _ _ (by rw [Dig.runL_length]; omega)]; omega)
             have hfroz := hst4.made.frozen k
             clear hw))
      have hst5 := hst4.stored k (lo (Dig.at_ l k) (Dig.at_ m k) (Dig.runC hi l m k))
      have hset := Dig.sofar_set (Dig.runL lo hi l m k) (n' + 1) (lo (Dig.at_ l k) (Dig.at_ m k) (Dig.runC hi l m k)) (by rw [Dig.runL_length]; omega)
      rw [Dig.runL_length] at hset
      rw [hset] at hst5
      clear hset hst4 hst3 hst2 hst1 hcell hfroz
      go_wp2_with fail
      refine ⟨⟨k + 1, by omega, by go_num, hst5⟩, by simp [intOf]; omega⟩
    · obtain rfl : k = n' + 1 := by omega
      clear hmk hst0 hc hf hr hs
      have hst1 : LbL w A n c A' n' c' l m g (Dig.runC hi l m (n' + 1)) (Dig.runL lo hi l m (n' + 1)) wr := by
        have := Dig.sofar_all (Dig.runL lo hi l m (n' + 1))
        rw [Dig.runL_length] at this
        rw [this] at hst
        exact hst
      have hrow := hst1.made.row
      have hlen := Dig.runL_length lo hi l m (n' + 1)
      have hown := hst1.made.own (base := w.heap.size + 1 + 1 + 1) (Nat.le_refl _) (by unfold maxLen; omega)
      rw [hlen] at hrow hown
      have hlen := Lib.hid hlen
      have h6 := hst1.res
      have h6f := hst1.resF
      clear hst
      go_wp2_with fail
      refine (natTrim _ _ _ _ _ hrow (Nat.le_refl _) (by unfold maxLen; omega)).mono ?_
      rintro e w' ⟨A1, c1, rfl, hr2, hc2, hm2, hz, hA, rfl⟩
      go_wp2_with fail
      refine bodyPost_ret (v := .agg #[.slice A1 (Dig.nrm (Dig.runL lo hi l m (n' + 1))).length c1]) (by simp [results, Try.results47, go_sem, h6]) rfl ?_
      have hgr := hst1.grown
      have hnum : Num wr (w.heap.size + 1 + 1 + 1) A1 (Dig.nrm (Dig.runL lo hi l m (n' + 1))).length c1 (Dig.val LB (Dig.runL lo hi l m (n' + 1))) :=
        ⟨_, hr2, Dig.norm_nrm _, (Dig.runL_below lo hi l m hlo (n' + 1)).nrm, Dig.val_nrm LB _, hc2, hm2, fun h => hz (List.eq_nil_of_length_eq_zero h), fun ad had => by
          rcases hA with h | h
          · rw [h] at had; injection had with had; rw [← had]; exact Nat.le_refl _
          · rw [h] at had; cases had⟩
      refine ⟨A1, _, c1, rfl, (hnum.setCell (p := ⟨w.heap.size + 1 + 1, 0, none⟩) (Nat.lt_succ_self _) _).mono (by omega), by have := Dig.nrm_length_le (Dig.runL lo hi l m (n' + 1)); have := hlen.out; omega,
        ⟨hgr.os, hgr.tape, hgr.output, by simpa [World.setCell] using hgr.size, fun j hj hne => (Below.heap_setCell _ _ _ j (by simp; omega)).trans (hgr.block j hj hne)⟩⟩

theorem limbByLimb (F : FuncId) (g : Nat) (lo hi : Nat → Nat → Nat → Nat) (hF : ∀ args w, (callFunc F args).run Try.prog w = .ok (.enter F args) w)
    (hstep : ∀ (x y c : Nat) (w : World), c ≤ 1 → w.cell? ⟨g, 0, none⟩ = some (.int .u64 c) → w.frozen? ⟨g, 0, none⟩ = false →
      Calls Try.prog F #[.int .u64 x, .int .u64 y, .pointer (some ⟨g, 0, none⟩)] w fun e w' => e = .returned (.int .u64 (lo x y c : Nat)) ∧ w.setCell ⟨g, 0, none⟩ (.int .u64 (hi x y c : Nat)) = w')
    (hlo : ∀ x y c, lo x y c < LB) (hhi : ∀ k l m, Dig.Below LB l → Dig.Below LB m → Dig.runC hi l m k ≤ 1)
    (A A' : Option Addr) (n c n' c' : Nat) (l m : List Nat) (w : World) (hr : Row w g .u64 A n l) (hs : Row w g .u64 A' n' m) (bl : Dig.Below LB l) (bm : Dig.Below LB m)
    (hc : w.cell? ⟨g, 0, none⟩ = some (.int .u64 0)) (hf : w.frozen? ⟨g, 0, none⟩ = false) (hn : n ≤ 1000000000000) (hn' : n' ≤ 1000000000000) :
    Calls Try.prog 47 #[.agg #[.slice A n c], .agg #[.slice A' n' c'], .func (.func F) #[] #[.pointer (some ⟨g, 0, none⟩)]] w fun e w' =>
      ∃ N A1 n1 c1, n ≤ N ∧ n' ≤ N ∧ (N = n ∨ N = n') ∧ e = .returned (.agg #[.slice A1 n1 c1]) ∧ Num w' w.heap.size A1 n1 c1 (Dig.val LB (Dig.runL lo hi l m (N + 1))) ∧ n1 ≤ N + 1 ∧ w.grownBy w' (some g) := by
  rcases Nat.lt_or_ge n n' with h | h
  · exact (limbByLimb_lt F g lo hi hF hstep hlo hhi A A' n c n' c' l m w hr hs bl bm hc hf hn' h).mono fun e w' ⟨A1, n1, c1, h1, h2, h3, h4⟩ => ⟨n', A1, n1, c1, by omega, by omega, .inr rfl, h1, h2, h3, h4⟩
  · exact (limbByLimb_ge F g lo hi hF hstep hlo hhi A A' n c n' c' l m w hr hs bl bm hc hf hn h).mono fun e w' ⟨A1, n1, c1, h1, h2, h3, h4⟩ => ⟨n, A1, n1, c1, by omega, by omega, .inl rfl, h1, h2, h3, h4⟩

theorem enterAdd (args : Array Value) (w : World) : (callFunc 48 args).run Try.prog w = .ok (.enter 48 args) w := by
  exact Go.Proofs.enters_of Try.func48 (by kernel_rfl) rfl args w
theorem enterSub (args : Array Value) (w : World) : (callFunc 61 args).run Try.prog w = .ok (.enter 61 args) w := by
  exact Go.Proofs.enters_of Try.func61 (by kernel_rfl) rfl args w

theorem grown_one {W w1 : World} {g : Nat} (hb : W.grownBy w1 (some g)) {b o : Nat} {v : Value} (hne : b ≠ g) (hc : W.cell? ⟨b, o, none⟩ = some v) (hf : W.frozen? ⟨b, o, none⟩ = false) : w1.cell? ⟨b, o, none⟩ = some v ∧ w1.frozen? ⟨b, o, none⟩ = false := by
  have hlt : b < W.heap.size := World.block_lt_of_cell? W ⟨b, o, none⟩ hc
  have e := hb.block b hlt (fun e => hne (by injection e))
  exact ⟨(World.cell?_of_block (a := ⟨b, o, none⟩) e).trans hc, (World.frozen?_of_block (a := ⟨b, o, none⟩) e).trans hf⟩

set_option maxHeartbeats 400000 in
theorem natAdd {A A' : Option Addr} {n c n' c' M N b b' : Nat} {w : World} (hM : Num w b A n c M) (hN : Num w b' A' n' c' N) (hn : n ≤ 1000000000000) (hn' : n' ≤ 1000000000000) :
    Calls Try.prog 19 #[.agg #[.slice A n c], .agg #[.slice A' n' c']] w fun e w' =>
      ∃ A1 n1 c1, e = .returned (.agg #[.slice A1 n1 c1]) ∧ Num w' w.heap.size A1 n1 c1 (M + N) ∧ n1 ≤ max n n' + 1 ∧ Below w.heap.size w w' := by
  obtain ⟨l, h1, h2, h3, h4, h5, h6, h7, h8⟩ := hM
  obtain ⟨m, g1, g2, g3, g4, g5, g6, g7, g8⟩ := hN
  have hl := Lib.hid h1.len
  have hm := Lib.hid g1.len
  have hv := Lib.hid h4
  have hv' := Lib.hid g4
  have hb0 : Below w.heap.size w ((((w.alloc (.cells #[.slice A n c] 29)).alloc (.cells #[.slice A' n' c'] 29)).alloc (.cells #[.slice none 0 0] 29)).alloc (.cells #[.int .u64 0] 23)) := by go_grown
  have r1 := (h1.below hb0).more (B' := w.heap.size + 1 + 1 + 1) (by omega)
  have r2 := (g1.below hb0).more (B' := w.heap.size + 1 + 1 + 1) (by omega)
  clear h1 g1 h2 g2 h4 g4 h7 h8 g7 g8 h5 h6 g5 g6
  go_enter Try.func19, Try.ntmps19
  go_wp2_with fail
  refine (limbByLimb 48 (w.heap.size + 1 + 1 + 1) addLo addHi enterAdd (fun x y c w hc => addStep x y c _ hc w) addLo_lt (fun k l m bl bm => Dig.runC_le addHi LB_pos bl bm (fun x y c => addHi_le) k) A A' n c n' c' l m _ r1 r2 h3 g3 (by simp [go_sem]) (by simp [go_sem]) hn hn').mono ?_
  rintro e w1 ⟨K, A1, n1, c1, hk1, hk2, hk3, rfl, hnum, hn1, hg⟩
  obtain ⟨hc0, hf0⟩ := grown_one (b := w.heap.size + 1 + 1) (o := 0) hg (v := .slice none 0 0) (by omega) (by simp [go_sem]) (by simp [go_sem])
  have hsum := Lib.hid (Dig.add_end addLo addHi LB (by unfold LB; omega) h3 g3 add_split K (by have := hl.out; omega) (by have := hm.out; omega))
  go_wp2_with fail
  refine bodyPost_ret (v := .agg #[.slice A1 n1 c1]) (by simp [results, Try.results19, go_sem, hc0]) rfl ?_
  rw [hsum.out, hv.out, hv'.out] at hnum
  have hs0 : w.heap.size + 4 = ((((w.alloc (.cells #[.slice A n c] 29)).alloc (.cells #[.slice A' n' c'] 29)).alloc (.cells #[.slice none 0 0] 29)).alloc (.cells #[.int .u64 0] 23)).heap.size := by simp
  refine ⟨A1, n1, c1, rfl, ((hnum.mono (Nat.le_of_eq hs0)).setCell (p := ⟨w.heap.size + 1 + 1, 0, none⟩) (by simp) _).mono (by omega), by omega, ?_⟩
  exact (hb0.trans ⟨hg.os, hg.tape, hg.output, hg.size, fun i hi => hg.block i (by omega) (fun e => by injection e; omega)⟩).setCell (by simp; omega) _

set_option maxHeartbeats 400000 in
theorem natSub_less {A A' : Option Addr} {n c n' c' M N b b' : Nat} {w : World} (hM : Num w b A n c M) (hN : Num w b' A' n' c' N) (hlt : M < N) :
    Calls Try.prog 50 #[.agg #[.slice A n c], .agg #[.slice A' n' c']] w fun e w' =>
      e = .returned (.tuple #[.agg #[.slice none 0 0], .int .i64 11]) ∧ Below w.heap.size w w' := by
  have hb0 : Below w.heap.size w (((w.alloc (.cells #[.slice A n c] 29)).alloc (.cells #[.slice A' n' c'] 29)).alloc (.cells #[.slice none 0 0] 29)) := by go_grown
  have hcmp := natCmp (hM.below hb0) (hN.below hb0)
  rw [cmpI_lt hlt] at hcmp
  clear hM hN hlt
  go_enter Try.func50, Try.ntmps50
  go_wp2_with fail
  refine hcmp.mono ?_
  rintro e w1 ⟨rfl, hb⟩
  obtain ⟨hc0, hf0⟩ := bcell1 (b := w.heap.size + 1 + 1) (o := 0) hb (v := .slice none 0 0) (by simp [go_sem]) (by simp [go_sem])
  go_wp2_with fail
  refine bodyPost_ret (v := .tuple #[.agg #[.slice none 0 0], .int .i64 11]) (by simp [results, Try.results50, go_sem, hc0]) rfl ?_
  exact ⟨rfl, (hb0.trans (hb.mono (by simp; omega))).setCell (by simp; omega) _⟩

set_option maxHeartbeats 400000 in
theorem natSub {A A' : Option Addr} {n c n' c' M N b b' : Nat} {w : World} (hM : Num w b A n c M) (hN : Num w b' A' n' c' N) (hge : N ≤ M) (hn : n ≤ 1000000000000) (hn' : n' ≤ 1000000000000) :
    Calls Try.prog 50 #[.agg #[.slice A n c], .agg #[.slice A' n' c']] w fun e w' =>
      ∃ A1 n1 c1, e = .returned (.tuple #[.agg #[.slice A1 n1 c1], .int .i64 0]) ∧ Num w' w.heap.size A1 n1 c1 (M - N) ∧ n1 ≤ max n n' + 1 ∧ Below w.heap.size w w' := by
  have hb0 : Below w.heap.size w (((w.alloc (.cells #[.slice A n c] 29)).alloc (.cells #[.slice A' n' c'] 29)).alloc (.cells #[.slice none 0 0] 29)) := by go_grown
  have hcmp := natCmp (hM.below hb0) (hN.below hb0)
  obtain ⟨x, hx, hx0⟩ : ∃ x : Int, cmpI M N = x ∧ (0 ≤ x) := by
    refine ⟨_, rfl, ?_⟩
    unfold cmpI
    rw [if_neg (by omega)]
    split <;> omega
  rw [hx] at hcmp
  obtain ⟨l, h1, h2, h3, h4, h5, h6, h7, h8⟩ := hM
  obtain ⟨m, g1, g2, g3, g4, g5, g6, g7, g8⟩ := hN
  have hl := Lib.hid h1.len
  have hm := Lib.hid g1.len
  have hv := Lib.hid h4
  have hv' := Lib.hid g4
  have hge := Lib.hid hge
  clear h2 g2 h4 g4 h7 h8 g7 g8 h5 h6 g5 g6 hx
  go_enter Try.func50, Try.ntmps50
  go_wp2_with fail
  refine hcmp.mono ?_
  rintro e w1 ⟨rfl, hb⟩
  obtain ⟨hc0, hf0⟩ := bcell1 (b := w.heap.size + 1 + 1) (o := 0) hb (v := .slice none 0 0) (by simp [go_sem]) (by simp [go_sem])
  obtain ⟨hd0, he0⟩ := bcell1 (b := w.heap.size) (o := 0) hb (v := .slice A n c) (by simp [go_sem]) (by simp [go_sem])
  obtain ⟨hd1, he1⟩ := bcell1 (b := w.heap.size + 1) (o := 0) hb (v := .slice A' n' c') (by simp [go_sem]) (by simp [go_sem])
  have hsz : w.heap.size + 3 ≤ w1.heap.size := by have := hb.size; simp at this; omega
  have hb1 : Below w.heap.size w w1 := hb0.trans (hb.mono (by simp; omega))
  have hb2 : Below w.heap.size w (w1.alloc (.cells #[.int .u64 0] 23)) := hb1.alloc (by omega) _
  have r1 := (h1.below hb2).more (B' := w1.heap.size) (by omega)
  have r2 := (g1.below hb2).more (B' := w1.heap.size) (by omega)
  clear h1 g1 hb hcmp hb0
  have hl0 : w.heap.size < w1.heap.size := by omega
  have hl1 : w.heap.size + 1 < w1.heap.size := by omega
  have hl2 : w.heap.size + 1 + 1 < w1.heap.size := by omega
  go_wp2_with fail
  refine (limbByLimb 61 w1.heap.size subLo subHi enterSub (fun x y c w hc => subStep x y c _ hc w) subLo_lt (fun k l m bl bm => Dig.runC_le subHi LB_pos bl bm (fun x y c _ _ _ => subHi_le x y c) k) A A' n c n' c' l m _ r1 r2 h3 g3 (by simp [go_sem]) (by simp [go_sem]) hn hn').mono ?_
  rintro e w2 ⟨K, A1, n1, c1, hk1, hk2, hk3, rfl, hnum, hn1, hg⟩
  obtain ⟨hc1, hf1⟩ := grown_one (b := w.heap.size + 1 + 1) (o := 0) hg (v := .slice none 0 0) (by omega) (by rw [World.cell?_alloc_lt _ _ _ (by simp; omega)]; exact hc0) (by rw [World.frozen?_alloc_past _ _ _ (by omega)]; exact hf0)
  have hsum := Lib.hid (Dig.sub_end subLo subHi LB LB_pos l m h3 g3 subLo_lt (fun x y c _ _ _ => subHi_le x y c) (fun x y c => sub_split) (K + 1) (by have := hl.out; omega) (by have := hm.out; omega) (by rw [hv.out, hv'.out]; exact hge.out))
  clear hc0 hf0 hd0 he0 hd1 he1
  go_wp2_with fail
  refine bodyPost_ret (v := .tuple #[.agg #[.slice A1 n1 c1], .int .i64 0]) (by simp [results, Try.results50, go_sem, hc1]) rfl ?_
  rw [hsum.out, hv.out, hv'.out] at hnum
  have hs0 : w1.heap.size + 1 = (w1.alloc (.cells #[.int .u64 0] 23)).heap.size := by simp
  refine ⟨A1, n1, c1, rfl, ((hnum.mono (base' := w1.heap.size + 1) (Nat.le_of_eq hs0)).setCell (p := ⟨w.heap.size + 1 + 1, 0, none⟩) (by simp; omega) _).mono (by omega), by omega, ?_⟩
  exact (hb2.trans ⟨hg.os, hg.tape, hg.output, hg.size, fun i hi => hg.block i (by omega) (fun e => by injection e; omega)⟩).setCell (by simp; omega) _
end Go.Proofs.Ythcnopopkgelhaa
