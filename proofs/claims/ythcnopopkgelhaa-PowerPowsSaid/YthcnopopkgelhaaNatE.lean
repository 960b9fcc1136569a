/- The contracts of nat's addTimes, Mul. -/
import Derived.Test.YthcnopopkgelhaaNatD
namespace Go.Proofs.Ythcnopopkgelhaa
open Go.RowKit

def tLo (x y r c : Nat) : Nat := addLo r (addLo (mulLo x y) c 0) 0
def tMid (x y c : Nat) : Nat := mulHi x y + addHi (mulLo x y) c 0
def tHi (x y r c : Nat) : Nat := tMid x y c + addHi r (addLo (mulLo x y) c 0) 0
theorem tLo_lt (x y r c : Nat) : tLo x y r c < LB := addLo_lt _ _ _
theorem t_split (x y r c : Nat) : tLo x y r c + LB * tHi x y r c = x * y + c + r := by
  have h1 := mul_split x y
  have h2 := add_split (mulLo x y) c 0
  have h3 := add_split r (addLo (mulLo x y) c 0) 0
  unfold tLo tHi tMid
  rw [Nat.mul_add, Nat.mul_add]
  omega
theorem tHi_lt (x y r c : Nat) (hx : x < LB) (hy : y < LB) (hr : r < LB) (hc : c < LB) : tHi x y r c < LB := by
  have h := t_split x y r c
  have h1 : x * y ≤ (LB - 1) * (LB - 1) := Nat.mul_le_mul (by omega) (by omega)
  have h2 : (LB - 1) * (LB - 1) + 2 * (LB - 1) < LB * LB := by unfold LB; omega
  rcases Nat.lt_or_ge (tHi x y r c) LB with h3 | h3
  · exact h3
  · have : LB * LB ≤ LB * tHi x y r c := Nat.mul_le_mul_left _ h3
    omega
theorem tMid_le (x y r c : Nat) : tMid x y c ≤ tHi x y r c := Nat.le_add_right _ _
theorem wrap_nat {a b s : Nat} (e : a + b = s) (h : s < LB) : IntKind.u64.wrap ((a : Int) + (b : Int)) = (s : Int) := by
  unfold LB at h
  rw [IntKind.wrap_u64]; omega

/-- The row's state in addTimes' loop. -/
def AT (w : World) (G : Nat) (L : List Nat) (wr : World) : Prop := Blk wr G 23 .u64 L ∧ w.grownBy wr (some G)

set_option maxHeartbeats 1000000 in
theorem addTimes (G o n cap : Nat) (L m : List Nat) (x : Nat) (A : Option Addr) (k c : Nat) (w : World) (hB : Blk w G 23 .u64 L) (bL : Dig.Below LB L) (bm : Dig.Below LB m) (hx : x < LB) (hr : Row w G .u64 A k m)
    (hn : o + n = L.length) (hkn : k < n) (hcap : n ≤ cap) (hmax : cap ≤ 1000000000000) :
    Calls Try.prog 46 #[.slice (some ⟨G, o, none⟩) n cap, .int .u64 x, .slice A k c] w fun e w' => e = .returned (.tuple #[]) ∧ Blk w' G 23 .u64 (Dig.mulEnd tLo tHi L m o x) ∧ w.grownBy w' (some G) := by
  have hl := Lib.hid hr.len
  have hn' := Lib.hid hn
  have hst0 : Hid (AT w G L w) := ⟨hB, World.grownBy.refl w _⟩
  go_enter Try.func46, Try.ntmps46
  go_wp2_with fail
  go_loopw [6, 14] (fun cv i wr => ∃ j : Nat, j ≤ k ∧ i = .int .i64 j ∧ cv = .int .u64 ((Dig.mulS tLo tHi L m o x j).2 : Nat) ∧ AT w G (Dig.mulS tLo tHi L m o x j).1 wr) (fun _ i _ => k - (intOf i).toNat)
  case atStart => exact ⟨0, by omega, rfl, rfl, hst0.out⟩
  case round =>
    obtain ⟨j, hj, rfl, rfl, hst⟩ := hrel
    by_cases hlt : j < k
    · obtain ⟨hb1, hg1⟩ := hst
      obtain ⟨ad, rfl, hadb, hcell⟩ := (hr.keep (w' := wr) (fun p hp => World.cell?_of_block (hg1.block p.block (by have := hB.lt; omega) (fun e => by injection e; omega)))).at_ hlt
      have hcell2 := hb1.cell (i := o + j) (by rw [Dig.mulS_length]; have := hn'.out; omega)
      have hfro2 := hb1.frozen (o + j)
      have hbel := Dig.mulS_below tLo tHi L m o x LB_pos bL bm hx tLo_lt tHi_lt j
      have hy := Dig.at_below LB_pos bm j
      have hrb := Dig.at_below LB_pos hbel.1 (o + j)
      have hcb := hbel.2
      have hset := hb1.set_ (o + j) (tLo x (Dig.at_ m j) (Dig.at_ (Dig.mulS tLo tHi L m o x j).1 (o + j)) (Dig.mulS tLo tHi L m o x j).2)
      have hs1 : (Dig.mulS tLo tHi L m o x j).1.set (o + j) (tLo x (Dig.at_ m j) (Dig.at_ (Dig.mulS tLo tHi L m o x j).1 (o + j)) (Dig.mulS tLo tHi L m o x j).2) = (Dig.mulS tLo tHi L m o x (j + 1)).1 := rfl
      have hs2 : tHi x (Dig.at_ m j) (Dig.at_ (Dig.mulS tLo tHi L m o x j).1 (o + j)) (Dig.mulS tLo tHi L m o x j).2 = (Dig.mulS tLo tHi L m o x (j + 1)).2 := rfl
      rw [hs1] at hset
      have hs2 := Lib.hid hs2
      have hgr : Hid (w.grownBy (wr.setCell ⟨G, o + j, none⟩ (.int .u64 (tLo x (Dig.at_ m j) (Dig.at_ (Dig.mulS tLo tHi L m o x j).1 (o + j)) (Dig.mulS tLo tHi L m o x j).2 : Nat))) (some G)) :=
        ⟨hg1.os, hg1.tape, hg1.output, by simpa [World.setCell] using hg1.size, fun i hi hne => (Below.heap_setCell _ _ _ i (fun e => hne (by simp at e; rw [e]))).trans (hg1.block i hi hne)⟩
      clear hs1 hbel hb1 hg1 hst0 hr
      generalize Dig.at_ (Dig.mulS tLo tHi L m o x j).1 (o + j) = r at *
      generalize Dig.at_ m j = y at *
      generalize (Dig.mulS tLo tHi L m o x j).2 = cv at *
      have hmul := fun w => mul64 x y hx hy w
      have ha1 := fun w => run_add0 (mulLo x y) cv w
      have ha2 := fun w => run_add0 r (addLo (mulLo x y) cv 0) w
      have hw1 : IntKind.u64.wrap ((mulHi x y : Nat) + (addHi (mulLo x y) cv 0 : Nat)) = ((tMid x y cv : Nat) : Int) := wrap_nat rfl (Nat.lt_of_le_of_lt (tMid_le x y r cv) (tHi_lt x y r cv hx hy hrb hcb))
      have hw2 : IntKind.u64.wrap ((tMid x y cv : Nat) + (addHi r (addLo (mulLo x y) cv 0) 0 : Nat)) = ((tHi x y r cv : Nat) : Int) := wrap_nat rfl (tHi_lt x y r cv hx hy hrb hcb)
      have hj1 : (j : Int) < n := by omega
      clear hx hy hrb hcb bL bm hn'
      go_wp2_with (go_at_call 53; refine (hmul _).mono ?_; rintro e w' ⟨rfl, rfl⟩)
      refine ⟨⟨j + 1, by omega, by go_num, rfl, ⟨hset, hgr.out⟩⟩, by simp [intOf]; omega⟩
    · obtain rfl : j = k := by omega
      obtain ⟨hb1, hg1⟩ := hst
      have hcell2 := hb1.cell (i := o + j) (by rw [Dig.mulS_length]; have := hn'.out; omega)
      have hfro2 := hb1.frozen (o + j)
      have hj1 : (j : Int) < n := by omega
      have hset := hb1.set_ (o + j) (Dig.mulS tLo tHi L m o x j).2
      have hgr : Hid (w.grownBy (wr.setCell ⟨G, o + j, none⟩ (.int .u64 ((Dig.mulS tLo tHi L m o x j).2 : Nat))) (some G)) :=
        ⟨hg1.os, hg1.tape, hg1.output, by simpa [World.setCell] using hg1.size, fun i hi hne => (Below.heap_setCell _ _ _ i (fun e => hne (by simp at e; rw [e]))).trans (hg1.block i hi hne)⟩
      have hend : Hid (Dig.mulEnd tLo tHi L m o x = (Dig.mulS tLo tHi L m o x j).1.set (o + j) (Dig.mulS tLo tHi L m o x j).2) := by
        show _ = _
        unfold Dig.mulEnd
        rw [← hl.out]
      clear hb1 hg1 hst0 hr hx bL bm hn'
      go_wp2_with fail
      go_end0
      exact ⟨rfl, by rw [hend.out]; exact hset, hgr.out⟩

/-- What stands in memory while Mul's loop runs. -/
structure MuL (w : World) (A' : Option Addr) (n' c' : Nat) (l m : List Nat) (A : Option Addr) (n : Nat) (L : List Nat) (wr : World) : Prop where
  boxB : wr.cell? ⟨w.heap.size + 1, 0, none⟩ = some (.slice A' n' c')
  res : wr.cell? ⟨w.heap.size + 1 + 1, 0, none⟩ = some (.slice none 0 0)
  resF : wr.frozen? ⟨w.heap.size + 1 + 1, 0, none⟩ = false
  rowA : Row wr w.heap.size .u64 A n l
  rowB : Row wr w.heap.size .u64 A' n' m
  made : Blk wr (w.heap.size + 1 + 1 + 1) 23 .u64 L
  below : Below w.heap.size w wr
  size : w.heap.size + 4 ≤ wr.heap.size

theorem MuL.drew {w : World} {A' : Option Addr} {n' c' : Nat} {l m : List Nat} {A : Option Addr} {n : Nat} {L : List Nat} {wr : World} (h : MuL w A' n' c' l m A n L wr) : MuL w A' n' c' l m A n L wr.drew :=
  ⟨h.boxB, h.res, h.resF, h.rowA, h.rowB, h.made, h.below.drew, h.size⟩
theorem MuL.times {w : World} {A' : Option Addr} {n' c' : Nat} {l m : List Nat} {A : Option Addr} {n : Nat} {L L' : List Nat} {wr w' : World} (h : MuL w A' n' c' l m A n L wr) (hb : Blk w' (w.heap.size + 1 + 1 + 1) 23 .u64 L') (hg : wr.grownBy w' (some (w.heap.size + 1 + 1 + 1))) : MuL w A' n' c' l m A n L' w' := by
  have hs := h.size
  have hc : ∀ b o, b < w.heap.size + 1 + 1 + 1 → w'.cell? ⟨b, o, none⟩ = wr.cell? ⟨b, o, none⟩ := fun b o hlt => World.cell?_of_block (a := ⟨b, o, none⟩) (hg.block b (by omega) (fun e => by injection e; omega))
  have hf : ∀ b o, b < w.heap.size + 1 + 1 + 1 → w'.frozen? ⟨b, o, none⟩ = wr.frozen? ⟨b, o, none⟩ := fun b o hlt => World.frozen?_of_block (a := ⟨b, o, none⟩) (hg.block b (by omega) (fun e => by injection e; omega))
  have hbl : Below w.heap.size wr w' := ⟨hg.os, hg.tape, hg.output, hg.size, fun i hi => hg.block i (by omega) (fun e => by injection e; omega)⟩
  exact ⟨(hc _ _ (by omega)).trans h.boxB, (hc _ _ (by omega)).trans h.res, (hf _ _ (by omega)).trans h.resF, h.rowA.below hbl, h.rowB.below hbl, hb, h.below.trans hbl, Nat.le_trans hs hg.size⟩

set_option maxHeartbeats 1000000 in
theorem natMul {A A' : Option Addr} {n c n' c' M N b b' : Nat} {w : World} (hM : Num w b A n c M) (hN : Num w b' A' n' c' N) (hn : n ≤ 100000000000) (hn' : n' ≤ 100000000000) :
    Calls Try.prog 18 #[.agg #[.slice A n c], .agg #[.slice A' n' c']] w fun e w' =>
      ∃ A1 n1 c1, e = .returned (.agg #[.slice A1 n1 c1]) ∧ Num w' w.heap.size A1 n1 c1 (M * N) ∧ n1 ≤ n + n' ∧ Below w.heap.size w w' := by
  obtain ⟨l, h1, h2, h3, h4, h5, h6, h7, h8⟩ := hM
  obtain ⟨m, g1, g2, g3, g4, g5, g6, g7, g8⟩ := hN
  have hl := Lib.hid h1.len
  have hm := Lib.hid g1.len
  have hv := Lib.hid h4
  have hv' := Lib.hid g4
  have hmk := fun u => run_mkU64 (n + n') (by omega) u
  rw [show ((n + n' : Nat) : Int) = (n : Int) + (n' : Int) by omega] at hmk
  have hst0 : MuL w A' n' c' l m A n (List.replicate (n + n') 0) ((((w.alloc (.cells #[.slice A n c] 29)).alloc (.cells #[.slice A' n' c'] 29)).alloc (.cells #[.slice none 0 0] 29)).alloc (.cells (ints .u64 (List.replicate (n + n') 0)).toArray 23)) := by
    have hb : Below w.heap.size w ((((w.alloc (.cells #[.slice A n c] 29)).alloc (.cells #[.slice A' n' c'] 29)).alloc (.cells #[.slice none 0 0] 29)).alloc (.cells (ints .u64 (List.replicate (n + n') 0)).toArray 23)) := by go_grown
    refine ⟨by simp [go_sem], by simp [go_sem], by simp [go_sem], h1.below hb, g1.below hb, ?_, hb, by simp⟩
    have := Blk.made (((w.alloc (.cells #[.slice A n c] 29)).alloc (.cells #[.slice A' n' c'] 29)).alloc (.cells #[.slice none 0 0] 29)) 23 (n + n') .u64
    simpa using this
  have hst0 := Lib.hid hst0
  clear h1 g1 h2 g2 h4 g4 h7 h8 g7 g8 h5 h6 g5 g6
  go_enter Try.func18, Try.ntmps18
  go_wp2_with fail
  go_loopw [19] (fun i wr => ∃ k : Nat, k ≤ n ∧ i = .int .i64 k ∧ MuL w A' n' c' l m A n (Dig.mulRows tLo tHi l m (List.replicate (n + n') 0) k) wr) (fun i _ => n - (intOf i).toNat)
  case atStart => exact ⟨0, by omega, rfl, hst0.out⟩
  case round =>
    obtain ⟨k, hk, rfl, hst⟩ := hrel
    by_cases hlt : k < n
    · obtain ⟨ad, rfl, hadb, hcell⟩ := hst.rowA.at_ hlt
      have hk1 : (0 : Int) ≤ k := by omega
      have hk2 : (k : Int) ≤ n + n' := by omega
      have hk3 : (k : Int) < n := by omega
      have hne : ¬ (n + n' = k) := by omega
      have hst1 := hst.drew
      have hbL := Dig.mulRows_below tLo tHi LB_pos (n + n') h3 g3 tLo_lt tHi_lt k
      have hx := Dig.at_below LB_pos h3 k
      have hrB := hst1.rowB.more (B' := w.heap.size + 1 + 1 + 1) (by omega)
      have hlen : k + (n + n' - k) = (Dig.mulRows tLo tHi l m (List.replicate (n + n') 0) k).length := by rw [Dig.mulRows_length, List.length_replicate]; omega
      have hlen := Lib.hid hlen
      clear hmk hst0 hst
      go_wp2_with fail
      go_region_held3 (fun w' => w'.cell? ⟨w.heap.size + 1, 0, none⟩ = some (.slice A' n' c')) (first | exact hst2.boxB | exact hst1.boxB)
        (first
          | (go_at_call 46
             with_reducible refine (addTimes _ _ _ _ (Dig.mulRows tLo tHi l m (List.replicate (n + n') 0) k) m (Dig.at_ l k) A' n' c' _ hst1.made hbL g3 hx hrB hlen.out ?hkn (Nat.le_refl _) ?hmax).mono ?_
             case hkn => omega
             case hmax => omega
             rintro e w2 ⟨rfl, hb2, hg2⟩
             have hst2 := hst1.times hb2 hg2
             clear hb2 hg2))
      have hst3 : MuL w A' n' c' l m (some ad) n (Dig.mulRows tLo tHi l m (List.replicate (n + n') 0) (k + 1)) w2 := hst2
      clear hst2 hst1 hbL hx hrB hlen
      go_wp2_with fail
      exact ⟨⟨k + 1, by omega, by go_num, hst3⟩, by simp [intOf]; omega⟩
    · obtain rfl : k = n := by omega
      have hrow := hst.made.row
      have hlen := Dig.mulRows_length tLo tHi l m (List.replicate (k + n') 0) k
      rw [List.length_replicate] at hlen
      rw [hlen] at hrow
      have hlen := Lib.hid hlen
      have h6 := hst.res
      have h6f := hst.resF
      clear hmk hst0
      go_wp2_with fail
      refine (natTrim _ _ _ _ _ hrow (Nat.le_refl _) (by unfold maxLen; omega)).mono ?_
      rintro e w' ⟨A1, c1, rfl, hr2, hc2, hm2, hz, hA, rfl⟩
      go_wp2_with fail
      refine bodyPost_ret (v := .agg #[.slice A1 (Dig.nrm (Dig.mulRows tLo tHi l m (List.replicate (k + n') 0) k)).length c1]) (by simp [results, Try.results18, go_sem, h6]) rfl ?_
      have hval := Dig.mulRows_val tLo tHi LB l m t_split (k + n') k (by have := hm.out; omega)
      rw [Dig.low_all LB l k (by have := hl.out; omega), hv.out, hv'.out] at hval
      have hnum : Num wr (w.heap.size + 1 + 1 + 1) A1 (Dig.nrm (Dig.mulRows tLo tHi l m (List.replicate (k + n') 0) k)).length c1 (M * N) :=
        ⟨_, hr2, Dig.norm_nrm _, (Dig.mulRows_below tLo tHi LB_pos (k + n') h3 g3 tLo_lt tHi_lt k).nrm, (Dig.val_nrm LB _).trans hval, hc2, hm2, fun h => hz (List.eq_nil_of_length_eq_zero h), fun ad had => by
          rcases hA with h | h
          · rw [h] at had; injection had with had; rw [← had]; exact Nat.le_refl _
          · rw [h] at had; cases had⟩
      exact ⟨A1, _, c1, rfl, (hnum.setCell (p := ⟨w.heap.size + 1 + 1, 0, none⟩) (Nat.lt_succ_self _) _).mono (by omega), by have := Dig.nrm_length_le (Dig.mulRows tLo tHi l m (List.replicate (k + n') 0) k); have := hlen.out; omega, hst.below.setCell (by simp; omega) _⟩
end Go.Proofs.Ythcnopopkgelhaa
