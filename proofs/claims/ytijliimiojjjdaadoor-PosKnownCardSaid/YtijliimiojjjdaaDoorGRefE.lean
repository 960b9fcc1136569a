/- The contracts of the reference's Limbs, Fits. The contract of the reference's Mul. Plain mathematics of the reference's division, one binary digit behind the other. The contract of the reference's division. -/
import Derived.Test.YtijliimiojjjdaaDoorGRefC
import Derived.Test.YtijliimiojjjdaaDoorGNatD
import Derived.Test.YtijliimiojjjdaaDoorGNatA
namespace Go.Proofs.YtijliimiojjjdaaDoor
section
open Go.RowKit

set_option maxHeartbeats 2000000 in
theorem refLimbs_rows (A : Option Addr) (n c : Nat) (l : List Nat) (w : World) (hr : Row w w.heap.size .u8 A n l) (bl : Dig.Below 256 l) (hn : n ≤ 100000000000) :
    Calls Tryd.prog 50 #[.slice A n c] w fun e w' => ∃ A1 c1, e = .returned (.slice A1 ((n + 7) / 8) c1) ∧ Own w' w.heap.size 78 .u64 A1 ((n + 7) / 8) c1 (Dig.words l ((n + 7) / 8)) ∧ Below w.heap.size w w' := by
  have hl := Lib.hid hr.len
  go_enter Tryd.func50, Tryd.ntmps50
  go_wp2_with fail
  go_loopw [3, 4] (fun v i wr => ∃ j : Nat, 8 * j ≤ n + 7 ∧ i = .int .i64 (8 * (j : Int)) ∧ Grow w 78 .u64 v (Dig.words l j) wr) (fun _ i _ => (n + 7 - (intOf i)).toNat)
  case atStart => exact ⟨0, by omega, rfl, by simpa [Dig.words_zero] using Grow.start w _ _⟩
  case round =>
    obtain ⟨j, hj, rfl, hg⟩ := hrel
    by_cases hlt : 8 * j < n
    · have hlen : (Dig.words l j).length ≤ 1000000000000 := by rw [Dig.words_length]; omega
      by_cases t1 : n ≤ 8 * j + 8
      · go_wp2_with fail
        obtain ⟨wo, rfl⟩ : ∃ wo : World, wo = wr := ⟨_, rfl⟩
        go_loop [5, 6] (fun xv kv => ∃ z : Int, kv = .int .i64 z ∧ 8 * (j : Int) - 1 ≤ z ∧ z < (n : Int) ∧ xv = .int .u64 ((Dig.seg 256 l (z + 1).toNat (n) : Nat) : Int)) (fun _ kv => (intOf kv + 1 - 8 * j).toNat)
        case atStart =>
          refine ⟨_, rfl, by omega, by omega, ?_⟩
          rw [Dig.seg_end _ _ _ _ (by omega)]; rfl
        case round =>
          obtain ⟨z, rfl, hz1, hz2, rfl⟩ := hrel
          by_cases hz : 8 * (j : Int) ≤ z
          · obtain ⟨a, rfl⟩ := Int.eq_ofNat_of_zero_le (show 0 ≤ z by omega)
            obtain ⟨ad, rfl, hadb, hcell⟩ := (hr.below hg.2).at_ (i := a) (by omega)
            have e0 : ((a : Int) + 1).toNat = a + 1 := by omega
            have hstep := Lib.hid (Dig.seg_step 256 l a (n) (by omega) (by have := hl.out; omega))
            have hb1 := Dig.seg_lt (by omega) bl (a + 1) (n)
            have hb2 : 256 ^ ((n) - (a + 1)) ≤ 256 ^ 7 := Nat.pow_le_pow_right (by omega) (by omega)
            have hd := Dig.at_below (by omega) bl a
            have hst2 : Hid (Dig.seg 256 l a (n) = Dig.seg 256 l (a + 1) (n) * 256 + Dig.at_ l a) := by
              show _ = _
              rw [hstep.out]; omega
            rw [e0]
            generalize Dig.seg 256 l (a + 1) (n) = x at *
            generalize Dig.at_ l a = d at *
            have hx : x < 72057594037927936 := Nat.lt_of_lt_of_le hb1 hb2
            have hw1 : IntKind.u64.wrap ((x : Int) * 256) = (x : Int) * 256 := by rw [IntKind.wrap_u64]; omega
            have hw2 : IntKind.u64.wrap ((x : Int) * 256 + (d : Int)) = (x : Int) * 256 + (d : Int) := by rw [IntKind.wrap_u64]; omega
            have hw3 : IntKind.u64.wrap (d : Int) = (d : Int) := by rw [IntKind.wrap_u64]; omega
            have hfin : Hid (Value.int .u64 ((x : Int) * 256 + (d : Int)) = Value.int .u64 ((Dig.seg 256 l ((a : Int) - 1 + 1).toNat (n) : Nat) : Int)) := by
              show _ = _
              rw [show ((a : Int) - 1 + 1).toNat = a by omega, hst2.out]
              congr 1
            have ha1 : (0 : Int) ≤ a := by omega
            have ha2 : (a : Int) < n := by omega
            clear hstep hb1 hb2 hd hst2 hx e0
            go_wp2_with fail
            refine ⟨⟨(a : Int) - 1, rfl, by omega, by omega, hfin.out⟩, by simp [intOf]; omega⟩
          · obtain rfl : z = 8 * (j : Int) - 1 := by omega
            have hw : Hid (Dig.seg 256 l (8 * (j : Int) - 1 + 1).toNat (n) = Dig.wordAt l j) := by
              show _ = _
              unfold Dig.wordAt
              rw [show (8 * (j : Int) - 1 + 1).toNat = 8 * j by omega, show min l.length (8 * j + 8) = (n) by have := hl.out; omega]
            rw [hw.out]
            go_wp2_with (first
              | (at_builtin
                 refine wpList_push rfl (.tmp 32) (.tmp 34) _ rfl 78 .u64 8 Tryd.underlying79 info_u64 (by omega) _ _ (Dig.wordAt l j) _ w _ rfl hg rfl rfl hlen ?_
                 intro v1 w1 hg2))
            refine ⟨⟨j + 1, by omega, by simp; omega, by rw [Dig.words_succ]; exact hg2⟩, by simp [intOf]; omega⟩
      · go_wp2_with fail
        obtain ⟨wo, rfl⟩ : ∃ wo : World, wo = wr := ⟨_, rfl⟩
        go_loop [5, 6] (fun xv kv => ∃ z : Int, kv = .int .i64 z ∧ 8 * (j : Int) - 1 ≤ z ∧ z < (8 * (j : Int) + 8) ∧ xv = .int .u64 ((Dig.seg 256 l (z + 1).toNat ((8 * j + 8)) : Nat) : Int)) (fun _ kv => (intOf kv + 1 - 8 * j).toNat)
        case atStart =>
          refine ⟨_, rfl, by omega, by omega, ?_⟩
          rw [Dig.seg_end _ _ _ _ (by omega)]; rfl
        case round =>
          obtain ⟨z, rfl, hz1, hz2, rfl⟩ := hrel
          by_cases hz : 8 * (j : Int) ≤ z
          · obtain ⟨a, rfl⟩ := Int.eq_ofNat_of_zero_le (show 0 ≤ z by omega)
            obtain ⟨ad, rfl, hadb, hcell⟩ := (hr.below hg.2).at_ (i := a) (by omega)
            have e0 : ((a : Int) + 1).toNat = a + 1 := by omega
            have hstep := Lib.hid (Dig.seg_step 256 l a ((8 * j + 8)) (by omega) (by have := hl.out; omega))
            have hb1 := Dig.seg_lt (by omega) bl (a + 1) ((8 * j + 8))
            have hb2 : 256 ^ (((8 * j + 8)) - (a + 1)) ≤ 256 ^ 7 := Nat.pow_le_pow_right (by omega) (by omega)
            have hd := Dig.at_below (by omega) bl a
            have hst2 : Hid (Dig.seg 256 l a ((8 * j + 8)) = Dig.seg 256 l (a + 1) ((8 * j + 8)) * 256 + Dig.at_ l a) := by
              show _ = _
              rw [hstep.out]; omega
            rw [e0]
            generalize Dig.seg 256 l (a + 1) ((8 * j + 8)) = x at *
            generalize Dig.at_ l a = d at *
            have hx : x < 72057594037927936 := Nat.lt_of_lt_of_le hb1 hb2
            have hw1 : IntKind.u64.wrap ((x : Int) * 256) = (x : Int) * 256 := by rw [IntKind.wrap_u64]; omega
            have hw2 : IntKind.u64.wrap ((x : Int) * 256 + (d : Int)) = (x : Int) * 256 + (d : Int) := by rw [IntKind.wrap_u64]; omega
            have hw3 : IntKind.u64.wrap (d : Int) = (d : Int) := by rw [IntKind.wrap_u64]; omega
            have hfin : Hid (Value.int .u64 ((x : Int) * 256 + (d : Int)) = Value.int .u64 ((Dig.seg 256 l ((a : Int) - 1 + 1).toNat ((8 * j + 8)) : Nat) : Int)) := by
              show _ = _
              rw [show ((a : Int) - 1 + 1).toNat = a by omega, hst2.out]
              congr 1
            have ha1 : (0 : Int) ≤ a := by omega
            have ha2 : (a : Int) < n := by omega
            clear hstep hb1 hb2 hd hst2 hx e0
            go_wp2_with fail
            refine ⟨⟨(a : Int) - 1, rfl, by omega, by omega, hfin.out⟩, by simp [intOf]; omega⟩
          · obtain rfl : z = 8 * (j : Int) - 1 := by omega
            have hw : Hid (Dig.seg 256 l (8 * (j : Int) - 1 + 1).toNat ((8 * j + 8)) = Dig.wordAt l j) := by
              show _ = _
              unfold Dig.wordAt
              rw [show (8 * (j : Int) - 1 + 1).toNat = 8 * j by omega, show min l.length (8 * j + 8) = ((8 * j + 8)) by have := hl.out; omega]
            rw [hw.out]
            go_wp2_with (first
              | (at_builtin
                 refine wpList_push rfl (.tmp 32) (.tmp 34) _ rfl 78 .u64 8 Tryd.underlying79 info_u64 (by omega) _ _ (Dig.wordAt l j) _ w _ rfl hg rfl rfl hlen ?_
                 intro v1 w1 hg2))
            refine ⟨⟨j + 1, by omega, by simp; omega, by rw [Dig.words_succ]; exact hg2⟩, by simp [intOf]; omega⟩
    · have hj2 : j = (n + 7) / 8 := by omega
      obtain ⟨A1, c1, hv1, hown⟩ := hg.parts
      rw [Dig.words_length] at hv1 hown
      subst hv1
      have hb := hg.2
      have hj2 := Lib.hid hj2
      go_wp2_with fail
      go_ret
      rw [← hj2.out]
      exact ⟨A1, c1, rfl, hown, hb⟩

theorem LB_eq : LB = 256 ^ 8 := by unfold LB; rfl
/-- Of a number: its limbs. -/
theorem refLimbs {A : Option Addr} {n c N b : Nat} {w : World} (h : RNum w b A n c N) (hn : n ≤ 100000000000) :
    Calls Tryd.prog 50 #[.slice A n c] w fun e w' => ∃ A1 k c1 L, e = .returned (.slice A1 k c1) ∧ Own w' w.heap.size 78 .u64 A1 k c1 L ∧ Dig.val LB L = N ∧ Dig.Below LB L ∧ (∀ j, k ≤ j ↔ N < LB ^ j) ∧ Below w.heap.size w w' := by
  obtain ⟨l, h1, h2, h3, h4, h5, h6, h7⟩ := h
  have hl := h1.len
  refine (refLimbs_rows A n c l w h1 h3 hn).mono ?_
  rintro e w' ⟨A1, c1, rfl, hown, hb⟩
  refine ⟨A1, _, c1, _, rfl, hown, ?_, ?_, fun j => ?_, hb⟩
  · rw [LB_eq, Dig.words_val l _ (by omega), List.take_of_length_le (by omega), h4]
  · intro x hx
    obtain ⟨j, _, rfl⟩ := List.mem_map.1 hx
    rw [LB_eq]
    exact Dig.wordAt_lt h3 j
  · have e := Dig.len_le_iff (b := 256) (by omega) h2 h3 (8 * j)
    rw [LB_eq, ← Nat.pow_mul, ← h4, ← e]
    omega
end

section
open Go.RowKit

theorem info_int : (Tryd.prog.info? 3).map (fun i => (i.zero, i.size, i.bytes)) = some (some (.int .i64 0), 1, 8) := by kernel_rfl
theorem run_mkInt (n : Nat) (hn : n * 8 ≤ 281474976710656) (u : World) : (Instr.makeSlice 61 (.int .i64 n) (.int .i64 n)).run Tryd.prog u =
    .ok (.slice (some ⟨u.heap.size, 0, none⟩) n n) (u.alloc (.cells (ints .i64 (List.replicate n 0)).toArray 3)) := by
  obtain ⟨i0, hi, hz0, hz1, hz2⟩ := info_parts info_int
  have h := run_make (P := Tryd.prog) u 61 3 i0 (.int .i64 0) Tryd.underlying61 hi hz0 .i64 .i64 n n (by omega) (Int.le_refl _) (by rw [hz2]; omega) (by omega)
  rw [h, ints_zeros, hz1]
  simp [Value.cells, madeCells_one]

/-- What stands in memory while the sums are made. -/
structure MS (w : World) (A : Option Addr) (n : Nat) (A' : Option Addr) (n' : Nat) (l m S : List Nat) (wr : World) : Prop where
  rowA : Row wr w.heap.size .u8 A n l
  rowB : Row wr w.heap.size .u8 A' n' m
  made : Blk wr w.heap.size 3 .i64 S
  below : Below w.heap.size w wr
theorem MS.drewN {w : World} {A : Option Addr} {n : Nat} {A' : Option Addr} {n' : Nat} {l m S : List Nat} {wr : World} (h : MS w A n A' n' l m S wr) (q : Nat) : MS w A n A' n' l m S (wr.drewN q) :=
  ⟨h.rowA, h.rowB, h.made, below_drewN h.below q⟩
theorem MS.stored {w : World} {A : Option Addr} {n : Nat} {A' : Option Addr} {n' : Nat} {l m S : List Nat} {wr : World} (h : MS w A n A' n' l m S wr) (p x : Nat) : MS w A n A' n' l m (S.set p x) (wr.setCell ⟨w.heap.size, p, none⟩ (.int .i64 (x : Int))) :=
  ⟨Reads.setCell h.rowA (Nat.le_refl _) _, Reads.setCell h.rowB (Nat.le_refl _) _, h.made.set_ p x, h.below.setCell (Nat.le_refl _) _⟩

set_option maxHeartbeats 4000000 in
theorem refMul_rows (A A' : Option Addr) (n c n' c' : Nat) (l m : List Nat) (w : World) (h1 : Row w w.heap.size .u8 A n l) (g1 : Row w w.heap.size .u8 A' n' m) (h3 : Dig.Below 256 l) (g3 : Dig.Below 256 m) (hn : n ≤ 10000) (hn' : n' ≤ 10000) :
    Calls Tryd.prog 59 #[.slice A n c, .slice A' n' c'] w fun e w' => ∃ A1 n1 c1, e = .returned (.slice A1 n1 c1) ∧ RNum w' w.heap.size A1 n1 c1 (Dig.val 256 l * Dig.val 256 m) ∧ n1 ≤ n + n' + 9 ∧ Below w.heap.size w w' := by
  have hl := Lib.hid h1.len
  have hm := Lib.hid g1.len
  have hmk := fun u => run_mkInt (n + n' + 1) (by omega) u
  rw [show ((n + n' + 1 : Nat) : Int) = (n : Int) + (n' : Int) + 1 by omega] at hmk
  have hst0 : Hid (MS w A n A' n' l m (List.replicate (n + n' + 1) 0) (w.alloc (.cells (ints .i64 (List.replicate (n + n' + 1) 0)).toArray 3))) :=
    ⟨h1.alloc (Nat.le_refl _) _, g1.alloc (Nat.le_refl _) _, Blk.made _ _ _ _, (Below.refl _ _).alloc (Nat.le_refl _) _⟩
  go_enter Tryd.func59, Tryd.ntmps59
  go_wp2_with fail
  clear hmk
  go_loopw [6] (fun iv wr => ∃ i : Nat, i ≤ n ∧ iv = .int .i64 i ∧ MS w A n A' n' l m (Dig.mall l m (List.replicate (n + n' + 1) 0) i) wr) (fun iv _ => n - (intOf iv).toNat)
  case atStart => exact ⟨0, by omega, rfl, hst0.out⟩
  case round =>
    obtain ⟨i, hi, rfl, hst⟩ := hrel
    by_cases hlt : i < n
    · clear hst0
      obtain ⟨ad, rfl, hadb, hcellx⟩ := h1.at_ hlt
      clear hadb hcellx
      go_wp2_with fail
      obtain ⟨wo, rfl⟩ : ∃ wo : World, wo = wr := ⟨_, rfl⟩
      go_loopw [7, 8] (fun kv _ wr => ∃ k : Nat, k ≤ n' ∧ kv = .int .i64 k ∧ MS w (some ad) n A' n' l m (Dig.mrow m (Dig.at_ l i) i (Dig.mall l m (List.replicate (n + n' + 1) 0) i) k) wr) (fun kv _ _ => n' - (intOf kv).toNat)
      case atStart => exact ⟨0, by omega, rfl, hst⟩
      case round =>
        obtain ⟨k, hk, rfl, hst2⟩ := hrel
        by_cases hlt2 : k < n'
        · obtain ⟨ad', rfl, hadb', hc2⟩ := hst2.rowB.at_ hlt2
          obtain ⟨ad2, he2, hadb2, hc1⟩ := hst2.rowA.at_ hlt
          injection he2 with he2
          subst he2
          have hSl : (Dig.mrow m (Dig.at_ l i) i (Dig.mall l m (List.replicate (n + n' + 1) 0) i) k).length = n + n' + 1 := by rw [Dig.mrow_length, Dig.mall_length, List.length_replicate]
          have hsum1 := Dig.mrow_sum m (Dig.at_ l i) i (Dig.mall l m (List.replicate (n + n' + 1) 0) i) g3 (Dig.at_below (by omega) h3 i) k (by rw [Dig.mall_length, List.length_replicate]; omega)
          have hsum2 := Dig.mall_sum l m h3 g3 (n + n' + 1) i (by have := hm.out; omega)
          have hmul1 : m.length * i ≤ 10000 * 10000 := Nat.mul_le_mul (by have := hm.out; omega) (by omega)
          have hxb := Dig.at_below (by omega) h3 i
          have hyb := Dig.at_below (by omega) g3 k
          have hP0 : Dig.at_ l i * Dig.at_ m k ≤ 255 * 255 := Nat.mul_le_mul (by omega) (by omega)
          have hstep : Hid (Dig.mrow m (Dig.at_ l i) i (Dig.mall l m (List.replicate (n + n' + 1) 0) i) (k + 1) = Dig.mstep (Dig.mrow m (Dig.at_ l i) i (Dig.mall l m (List.replicate (n + n' + 1) 0) i) k) (i + k) (Dig.at_ l i * Dig.at_ m k)) := rfl
          have hP : ((Dig.at_ l i : Nat) : Int) * ((Dig.at_ m k : Nat) : Int) = ((Dig.at_ l i * Dig.at_ m k : Nat) : Int) := (Int.natCast_mul _ _).symm
          generalize Dig.mrow m (Dig.at_ l i) i (Dig.mall l m (List.replicate (n + n' + 1) 0) i) k = S at *
          generalize hSE : Dig.mrow m (Dig.at_ l i) i (Dig.mall l m (List.replicate (n + n' + 1) 0) i) (k + 1) = S' at *
          have HE := Lib.hid hSE
          clear hSE
          have hsum : Dig.val 1 S ≤ 100000000000 := by omega
          have hs1 := Dig.at_le_sum S (i + k)
          have hs2 := Dig.at_le_sum S (i + k + 1)
          have cell1 := hst2.made.cell (i := i + k) (by omega)
          have cell2 := hst2.made.cell (i := i + k + 1) (by omega)
          have fro1 := hst2.made.frozen (i + k)
          have fro2 := hst2.made.frozen (i + k + 1)
          generalize hPe : Dig.at_ l i * Dig.at_ m k = P at *
          generalize Dig.at_ l i = x at *
          generalize Dig.at_ m k = y at *
          have hst3 := fun q => (hst2.drewN q).stored (i + k) ((Dig.at_ S (i + k) + P) % 256)
          have hst4 := fun q => (hst3 q).stored (i + k + 1) (Dig.at_ S (i + k + 1) + (Dig.at_ S (i + k) + P) / 256)
          have hS' : Hid (S' = (S.set (i + k) ((Dig.at_ S (i + k) + P) % 256)).set (i + k + 1) (Dig.at_ S (i + k + 1) + (Dig.at_ S (i + k) + P) / 256)) := hstep
          generalize Dig.at_ S (i + k) = s at *
          generalize Dig.at_ S (i + k + 1) = s2 at *
          have hsb : s ≤ 100000000000 := Nat.le_trans hs1 hsum
          have hs2b : s2 ≤ 100000000000 := Nat.le_trans hs2 hsum
          have hPb : P ≤ 65025 := hP0
          have hw1 : IntKind.i64.wrap ((i : Int) + (k : Int)) = (i : Int) + (k : Int) := IntWalk.i64_in _ (by omega)
          have hw2 : ((i : Int) + (k : Int)).toNat = i + k := by omega
          have hw3 : IntKind.i64.wrap (x : Int) = (x : Int) := IntWalk.i64_in _ (by omega)
          have hw4 : IntKind.i64.wrap (y : Int) = (y : Int) := IntWalk.i64_in _ (by omega)
          have hw5 : IntKind.i64.wrap (P : Int) = (P : Int) := IntWalk.i64_in _ (by omega)
          have hw6 : IntKind.i64.wrap ((s : Int) + (P : Int)) = (s : Int) + (P : Int) := IntWalk.i64_in _ (by omega)
          have hi1 : (i : Int) < n := by omega
          have hk1 : (k : Int) < n' := by omega
          have hp1 : (0 : Int) ≤ (i : Int) + (k : Int) := by omega
          have hp2 : (i : Int) + (k : Int) < (n : Int) + (n' : Int) + 1 := by omega
          have hc1 : (((s + P) % 256 : Nat) : Int) = ((s : Int) + (P : Int)) % 256 := by omega
          have hc2 : ((s2 + (s + P) / 256 : Nat) : Int) = (s2 : Int) + ((s : Int) + (P : Int)) / 256 := by omega
          simp only [hc1, hc2] at hst4
          have hst5 := Lib.hid hst4
          have hst5 := fun q => hst5.out q
          clear hst4 hc1 hc2 hst3
          clear hsum1 hsum2 hmul1 hxb hyb hP0 hstep hsum hs1 hs2 hSl hPe
          go_wp2_with fail
          go_quiet (fail)
          go_wp2_with fail
          refine ⟨⟨k + 1, by omega, by go_num, ?_⟩, by simp [intOf]; omega⟩
          have h5 := hst5 nq
          rw [← hS'.out, ← HE.out] at h5
          exact h5
        · obtain rfl : k = n' := by omega
          have hst3 : MS w (some ad) n A' k l m (Dig.mall l m (List.replicate (n + k + 1) 0) (i + 1)) wr := by
            have e : k = m.length := hm.out
            show MS w (some ad) n A' k l m (Dig.mrow m (Dig.at_ l i) i (Dig.mall l m (List.replicate (n + k + 1) 0) i) m.length) wr
            rw [← e]
            exact hst2
          clear hst2 hst
          go_wp2_with fail
          refine ⟨⟨i + 1, by omega, by go_num, hst3⟩, by simp [intOf]; omega⟩
    · obtain rfl : i = n := by omega
      have hval := Lib.hid (Dig.mall_val l m (i + n' + 1) i (by have := hm.out; omega))
      have hsum := Dig.mall_sum l m h3 g3 (i + n' + 1) i (by have := hm.out; omega)
      have hmul1 : m.length * i ≤ 10000 * 10000 := Nat.mul_le_mul (by have := hm.out; omega) (by omega)
      have hSl : (Dig.mall l m (List.replicate (i + n' + 1) 0) i).length = i + n' + 1 := by rw [Dig.mall_length, List.length_replicate]
      have hla := Lib.hid (Dig.low_all 256 l i (by have := hl.out; omega))
      generalize Dig.mall l m (List.replicate (i + n' + 1) 0) i = S at *
      have hsumb : Dig.val 1 S ≤ 100000000000 := by omega
      have hSl := Lib.hid hSl
      clear hsum hmul1 hst0
      go_wp2_with fail
      have hG := hst.made.lt
      have hbw := hst.below
      have hmade := hst.made
      clear hst
      obtain ⟨wo, rfl⟩ : ∃ wo : World, wo = wr := ⟨_, rfl⟩
      have hst0 := Lib.hid (Grow.start wo 5 .u8)
      go_loopw [9, 10, 11] (fun v cv jv wr => ∃ j : Nat, j ≤ i + n' + 1 ∧ jv = .int .i64 j ∧ cv = .int .i64 ((Dig.runC Dig.aHi S [] j : Nat) : Int) ∧ Grow wo 5 .u8 v (Dig.runL Dig.aLo Dig.aHi S [] j) wr) (fun _ _ jv _ => i + n' + 1 - (intOf jv).toNat)
      case atStart => exact ⟨0, by omega, rfl, rfl, hst0.out⟩
      case round =>
        obtain ⟨j, hj, rfl, rfl, hg⟩ := hrel
        by_cases hlt3 : j < i + n' + 1
        · have hcell := (hmade.below hg.2 hG).cell (i := j) (by have := hSl.out; omega)
          have hlen : (Dig.runL Dig.aLo Dig.aHi S [] j).length ≤ 1000000000000 := by rw [Dig.runL_length]; omega
          have hcb := Nat.le_trans (Dig.carry_le S j) (Dig.low_le_sum S j)
          have hsb := Dig.at_le_sum S j
          have hstep : Hid (Dig.runL Dig.aLo Dig.aHi S [] (j + 1) = Dig.runL Dig.aLo Dig.aHi S [] j ++ [(Dig.at_ S j + Dig.runC Dig.aHi S [] j) % 256]) := by
            show Dig.runL Dig.aLo Dig.aHi S [] j ++ [Dig.aLo (Dig.at_ S j) (Dig.at_ [] j) (Dig.runC Dig.aHi S [] j)] = _
            have e : Dig.at_ ([] : List Nat) j = 0 := by simp [Dig.at_]
            rw [e]; rfl
          have hcs : Hid (Dig.runC Dig.aHi S [] (j + 1) = (Dig.at_ S j + Dig.runC Dig.aHi S [] j) / 256) := by
            show Dig.aHi (Dig.at_ S j) (Dig.at_ [] j) (Dig.runC Dig.aHi S [] j) = _
            have e : Dig.at_ ([] : List Nat) j = 0 := by simp [Dig.at_]
            rw [e]; rfl
          generalize hcnE : Dig.runC Dig.aHi S [] (j + 1) = cn at *
          have HE := Lib.hid hcnE
          clear hcnE
          generalize Dig.runC Dig.aHi S [] j = cc at *
          generalize Dig.at_ S j = s at *
          have hw6 : IntKind.i64.wrap ((s : Int) + (cc : Int)) = (s : Int) + (cc : Int) := IntWalk.i64_in _ (by omega)
          have hfin : Hid (Value.int .i64 (((s : Int) + (cc : Int)) / 256) = Value.int .i64 (cn : Int)) := by
            show _ = _
            congr 1
            have := hcs.out
            omega
          have hj1 : (j : Int) < (i : Int) + (n' : Int) + 1 := by omega
          have hs9 : s ≤ 100000000000 := Nat.le_trans hsb hsumb
          have hc9 : cc ≤ 100000000000 := Nat.le_trans hcb hsumb
          clear hcs hcb hsb hsumb
          go_wp2_with (first
            | (at_builtin
               refine wpList_push rfl (.tmp 85) (.tmp 89) _ rfl 5 .u8 1 Tryd.underlying76 info_u8 (by omega) _ _ ((s + cc) % 256) _ wo _ rfl hg rfl ?hz hlen ?_
               case hz => omega
               intro v1 w1 hg2))
          refine ⟨⟨j + 1, by omega, by go_num, by rw [HE.out]; exact hfin.out, by rw [hstep.out]; exact hg2⟩, by simp [intOf]; omega⟩
        · obtain rfl : j = i + n' + 1 := by omega
          have hrun := Dig.add_run Dig.aLo Dig.aHi 256 S [] Dig.a_split (i + n' + 1)
          rw [Dig.low_all 256 S _ (by have := hSl.out; omega), Dig.low_nil, Nat.add_zero, hval.out, hla.out] at hrun
          have hcb := Nat.le_trans (Dig.carry_le S (i + n' + 1)) (Dig.low_le_sum S (i + n' + 1))
          have hbb := Dig.runL_below Dig.aLo Dig.aHi S [] Dig.aLo_lt (i + n' + 1)
          have hrl := Dig.runL_length Dig.aLo Dig.aHi S [] (i + n' + 1)
          have hrun2 : Hid (Dig.val 256 (Dig.runL Dig.aLo Dig.aHi S [] (i + n' + 1)) + 256 ^ (Dig.runL Dig.aLo Dig.aHi S [] (i + n' + 1)).length * Dig.runC Dig.aHi S [] (i + n' + 1) = Dig.val 256 l * Dig.val 256 m) := by rw [hrl]; exact hrun
          clear hrun
          generalize Dig.runL Dig.aLo Dig.aHi S [] (i + n' + 1) = L0 at *
          generalize Dig.runC Dig.aHi S [] (i + n' + 1) = C0 at *
          have hrl := Lib.hid hrl
          have hC0 : C0 < 256 ^ 8 := by
            have : (256 : Nat) ^ 8 = 18446744073709551616 := by decide
            omega
          have hC0 := Lib.hid hC0
          have hprod := Lib.hid (show Dig.val 256 l * Dig.val 256 m = Dig.val 256 l * Dig.val 256 m from rfl)
          have hC0b : C0 ≤ 100000000000 := Nat.le_trans hcb hsumb
          clear hst0 hcb hval hla hSl hsumb hmade hG
          go_wp2_with fail
          obtain ⟨wi, rfl⟩ : ∃ wi : World, wi = wr := ⟨_, rfl⟩
          go_loopw [9, 10] (fun v cv wr => ∃ (t : Nat) (L : List Nat) (C : Nat), t ≤ 8 ∧ cv = .int .i64 C ∧ C ≤ C0 ∧ Hid (C < 256 ^ (8 - t)) ∧ Hid (L.length = i + n' + 1 + t) ∧ Dig.Below 256 L ∧ Hid (Dig.val 256 L + 256 ^ L.length * C = Dig.val 256 l * Dig.val 256 m) ∧ Grow wo 5 .u8 v L wr) (fun _ cv _ => (intOf cv).toNat)
          case atStart => exact ⟨0, L0, C0, by omega, rfl, Nat.le_refl _, hC0, hrl, hbb, hrun2, hg⟩
          case round =>
            obtain ⟨t, L, C, ht, rfl, hCC, hC8, hL, hLb, hV, hg4⟩ := hrel
            clear hC0 hrl hbb hrun2 hg
            by_cases hz : 0 < C
            · have ht8 : t < 8 := by
                rcases Nat.lt_or_ge t 8 with h | h
                · exact h
                · obtain rfl : t = 8 := by omega
                  have := hC8.out
                  simp at this
                  omega
              have hlen : L.length ≤ 1000000000000 := by rw [hL.out]; omega
              have hC9 : Hid (C / 256 < 256 ^ (8 - (t + 1))) := by
                have h1 := hC8.out
                rw [show 8 - t = (8 - (t + 1)) + 1 by omega, Nat.pow_succ] at h1
                exact Nat.div_lt_of_lt_mul (by rw [Nat.mul_comm]; exact h1)
              have hL9 : Hid ((L ++ [C % 256]).length = i + n' + 1 + (t + 1)) := by show _ = _; rw [List.length_append, hL.out]; rfl
              have hV9 := Lib.hid (Dig.push_carry 256 L C _ hV.out)
              have hb9 : Dig.Below 256 (L ++ [C % 256]) := hLb.append (Dig.Below.cons (Nat.mod_lt _ (by omega)) (Dig.Below.nil _))
              have hzi : (0 : Int) < C := by omega
              have hCb : C ≤ 100000000000 := by omega
              have hfin : Hid (Value.int .i64 ((C : Int) / 256) = Value.int .i64 ((C / 256 : Nat) : Int)) := by
                show _ = _
                congr 1
              go_wp2_with (first
                | (at_builtin
                   refine wpList_push rfl (.tmp 95) (.tmp 99) _ rfl 5 .u8 1 Tryd.underlying76 info_u8 (by omega) _ _ (C % 256) _ wo _ rfl hg4 rfl ?hz hlen ?_
                   case hz => omega
                   intro v1 w1 hg5))
              refine ⟨⟨t + 1, L ++ [C % 256], C / 256, by omega, hfin.out, by omega, hC9, hL9, hb9, hV9, hg5⟩, by simp [intOf]; omega⟩
            · obtain rfl : C = 0 := by omega
              have hV2 : Hid (Dig.val 256 L = Dig.val 256 l * Dig.val 256 m) := by
                have := hV.out
                rw [Nat.mul_zero, Nat.add_zero] at this
                exact this
              obtain ⟨A1, c1, hv1, hown⟩ := hg4.parts
              have hL2 := hL.out
              rw [hL2] at hv1 hown
              subst hv1
              clear hL2
              have hrow := hown.row
              have hb := hg4.2
              go_wp2_with fail
              refine (refTrimN A1 _ c1 L _ hrow hLb (by omega)).mono ?_
              rintro e w1 ⟨A2, n2, c2, rfl, hnum, hn2, hb2⟩
              go_wp2_with fail
              go_ret
              rw [hV2.out] at hnum
              have hs := hb.size
              have hs2 := hbw.size
              exact ⟨A2, n2, c2, rfl, hnum.mono (by omega), by omega, (hbw.trans (hb.mono (by omega))).trans (hb2.mono (by omega))⟩

theorem refMul {A A' : Option Addr} {n c n' c' M N b b' : Nat} {w : World} (hM : RNum w b A n c M) (hN : RNum w b' A' n' c' N) (hn : n ≤ 10000) (hn' : n' ≤ 10000) :
    Calls Tryd.prog 59 #[.slice A n c, .slice A' n' c'] w fun e w' => ∃ A1 n1 c1, e = .returned (.slice A1 n1 c1) ∧ RNum w' w.heap.size A1 n1 c1 (M * N) ∧ n1 ≤ n + n' + 9 ∧ Below w.heap.size w w' := by
  obtain ⟨l, h1, h2, h3, h4, _⟩ := hM
  obtain ⟨m, g1, g2, g3, g4, _⟩ := hN
  rw [← h4, ← g4]
  exact refMul_rows A A' n c n' c' l m w h1 g1 h3 g3 hn hn'
end

section
open Go.RowKit

/-- A row of bytes divided by a number: the quotient's row, and what is left over. -/
def bdv (y : Nat) : List Nat → List Nat × Nat
  | [] => ([], 0)
  | x :: r => (((bdv y r).2 * 256 + x) / y :: (bdv y r).1, ((bdv y r).2 * 256 + x) % y)
theorem bdv_length (y : Nat) (l : List Nat) : (bdv y l).1.length = l.length := by
  induction l with
  | nil => rfl
  | cons x r ih => simp [bdv, ih]
theorem bdv_lt {y : Nat} (hy : 0 < y) (l : List Nat) : (bdv y l).2 < y := by
  cases l with
  | nil => exact hy
  | cons x r => exact Nat.mod_lt _ hy
theorem bdv_below {y : Nat} (hy : 0 < y) {l : List Nat} (bl : Dig.Below 256 l) : Dig.Below 256 (bdv y l).1 := by
  induction l with
  | nil => exact Dig.Below.nil _
  | cons x r ih =>
    refine Dig.Below.cons ?_ (ih bl.tail)
    rw [Nat.div_lt_iff_lt_mul hy]
    have h1 := bdv_lt hy r
    have h2 := bl.head
    have h3 : ((bdv y r).2 + 1) * 256 ≤ y * 256 := Nat.mul_le_mul_right _ h1
    omega
theorem bdv_val {y : Nat} (l : List Nat) : Dig.val 256 l = y * Dig.val 256 (bdv y l).1 + (bdv y l).2 := by
  induction l with
  | nil => simp [bdv, Dig.val]
  | cons x r ih =>
    have h := Nat.div_add_mod ((bdv y r).2 * 256 + x) y
    show x + 256 * Dig.val 256 r = y * (((bdv y r).2 * 256 + x) / y + 256 * Dig.val 256 (bdv y r).1) + ((bdv y r).2 * 256 + x) % y
    rw [ih, Nat.mul_add, Nat.mul_add, Nat.mul_left_comm 256 y]
    omega
theorem bdv_div {y : Nat} (hy : 0 < y) (l : List Nat) : Dig.val 256 (bdv y l).1 = Dig.val 256 l / y ∧ (bdv y l).2 = Dig.val 256 l % y := by
  have h := bdv_val (y := y) l
  have h2 := bdv_lt hy l
  rw [h]
  refine ⟨?_, ?_⟩
  · rw [Nat.mul_add_div hy, Nat.div_eq_of_lt h2]; rfl
  · rw [Nat.mul_add_mod, Nat.mod_eq_of_lt h2]
/-- Where the loop stands at place j: noughts below, above it all is done. -/
theorem bdv_at {y j : Nat} {l : List Nat} (hj : j < l.length) : (List.replicate (j + 1) 0 ++ (bdv y (l.drop (j + 1))).1).set j (((bdv y (l.drop (j + 1))).2 * 256 + Dig.at_ l j) / y) = List.replicate j 0 ++ (bdv y (l.drop j)).1 := by
  rw [← List.getElem_cons_drop hj, List.replicate_succ', List.append_assoc, List.set_append_right _ _ (by simp), List.length_replicate, Nat.sub_self, Dig.at_lt hj]
  rfl
theorem bdv_rest {y j : Nat} {l : List Nat} (hj : j < l.length) : ((bdv y (l.drop (j + 1))).2 * 256 + Dig.at_ l j) % y = (bdv y (l.drop j)).2 := by
  rw [← List.getElem_cons_drop hj, Dig.at_lt hj]
  rfl

/-- The number of the k highest digits of x, behind r. -/
def topBits (r x k : Nat) : Nat := r * 2 ^ k + x / 2 ^ (8 - k)
theorem topBits_zero (r x : Nat) (hx : x < 256) : topBits r x 0 = r := by
  unfold topBits
  rw [show (2 : Nat) ^ (8 - 0) = 256 from rfl, Nat.div_eq_of_lt hx]
  simp
theorem topBits_all (r x : Nat) : topBits r x 8 = r * 256 + x := by simp [topBits]
theorem topBits_succ (r x k : Nat) (hk : k < 8) : topBits r x (k + 1) = 2 * topBits r x k + x / 2 ^ (7 - k) % 2 := by
  unfold topBits
  have e : x / 2 ^ (8 - k) = x / 2 ^ (7 - k) / 2 := by rw [Nat.div_div_eq_div_mul, ← Nat.pow_succ, show (7 - k).succ = 8 - k by omega]
  rw [e, show 8 - (k + 1) = 7 - k by omega, Nat.pow_succ]
  generalize x / 2 ^ (7 - k) = z
  rw [← Nat.mul_assoc]
  generalize r * 2 ^ k = u
  omega
theorem half128 (k : Nat) (hk : k < 8) : 128 / 2 ^ k = 2 ^ (7 - k) := by
  have h : ∀ k : Fin 8, 128 / 2 ^ k.val = 2 ^ (7 - k.val) := by decide
  exact h ⟨k, hk⟩
/-- One digit more. -/
theorem bit_step (r x y k : Nat) (hr : r < y) (hk : k < 8) :
    (y ≤ 2 * (topBits r x k % y) + x / 2 ^ (7 - k) % 2 → topBits r x (k + 1) % y = 2 * (topBits r x k % y) + x / 2 ^ (7 - k) % 2 - y ∧ topBits r x (k + 1) / y * 2 ^ (8 - (k + 1)) = topBits r x k / y * 2 ^ (8 - k) + 128 / 2 ^ k) ∧
    (2 * (topBits r x k % y) + x / 2 ^ (7 - k) % 2 < y → topBits r x (k + 1) % y = 2 * (topBits r x k % y) + x / 2 ^ (7 - k) % 2 ∧ topBits r x (k + 1) / y * 2 ^ (8 - (k + 1)) = topBits r x k / y * 2 ^ (8 - k)) := by
  have hy : 0 < y := by omega
  rw [topBits_succ r x k hk, half128 k hk, show 8 - (k + 1) = 7 - k by omega, show 8 - k = (7 - k) + 1 by omega, Nat.pow_succ]
  have h1 := Nat.div_add_mod (topBits r x k) y
  have h2 := Nat.mod_lt (topBits r x k) hy
  have h3 : x / 2 ^ (7 - k) % 2 < 2 := Nat.mod_lt _ (by omega)
  generalize x / 2 ^ (7 - k) % 2 = d at *
  generalize hq : topBits r x k / y = q at *
  generalize topBits r x k % y = m at *
  generalize topBits r x k = t at *
  generalize 2 ^ (7 - k) = p at *
  have e : 2 * t + d = (2 * m + d) + y * (2 * q) := by rw [← h1, Nat.mul_add, Nat.mul_left_comm]; omega
  constructor
  · intro h
    have e2 : 2 * t + d = (2 * m + d - y) + y * (2 * q + 1) := by rw [e, Nat.mul_add]; omega
    rw [e2, Nat.add_mul_mod_self_left, Nat.add_mul_div_left _ _ hy, Nat.mod_eq_of_lt (by omega), Nat.div_eq_of_lt (by omega)]
    refine ⟨rfl, ?_⟩
    rw [Nat.zero_add, Nat.add_mul, Nat.one_mul, Nat.mul_comm 2 q, Nat.mul_assoc, Nat.mul_comm 2 p]
  · intro h
    rw [e, Nat.add_mul_mod_self_left, Nat.add_mul_div_left _ _ hy, Nat.mod_eq_of_lt h, Nat.div_eq_of_lt h]
    refine ⟨rfl, ?_⟩
    rw [Nat.zero_add, Nat.mul_comm 2 q, Nat.mul_assoc, Nat.mul_comm 2 p]
theorem bits_lt (r x y k : Nat) (hr : r < y) (hx : x < 256) (hk : k ≤ 8) : topBits r x k / y * 2 ^ (8 - k) < 256 := by
  have hy : 0 < y := by omega
  have h1 : topBits r x k < y * 2 ^ k := by
    unfold topBits
    have h2 : x / 2 ^ (8 - k) < 2 ^ k := by
      rw [Nat.div_lt_iff_lt_mul (Nat.two_pow_pos _), ← Nat.pow_add, show k + (8 - k) = 8 by omega]
      exact hx
    have h3 : (r + 1) * 2 ^ k ≤ y * 2 ^ k := Nat.mul_le_mul_right _ hr
    rw [Nat.add_mul, Nat.one_mul] at h3
    omega
  have h4 : topBits r x k / y < 2 ^ k := by rw [Nat.div_lt_iff_lt_mul hy, Nat.mul_comm]; exact h1
  calc topBits r x k / y * 2 ^ (8 - k) < 2 ^ k * 2 ^ (8 - k) := Nat.mul_lt_mul_of_pos_right h4 (Nat.two_pow_pos _)
    _ = 256 := by rw [← Nat.pow_add, show k + (8 - k) = 8 by omega]
end

section
open Go.RowKit

theorem run_mkU8 (n : Nat) (hn : n ≤ 281474976710656) (u : World) : (Instr.makeSlice 76 (.int .i64 n) (.int .i64 n)).run Tryd.prog u =
    .ok (.slice (some ⟨u.heap.size, 0, none⟩) n n) (u.alloc (.cells (ints .u8 (List.replicate n 0)).toArray 5)) := by
  obtain ⟨i0, hi, hz0, hz1, hz2⟩ := info_parts info_u8
  have h := run_make (P := Tryd.prog) u 76 5 i0 (.int .u8 0) Tryd.underlying76 hi hz0 .i64 .i64 n n (by omega) (Int.le_refl _) (by rw [hz2]; omega) (by omega)
  rw [h, ints_zeros, hz1]
  simp [Value.cells, madeCells_one]

/-- What stands in memory while the division runs. -/
structure DS (w : World) (A : Option Addr) (n : Nat) (l L : List Nat) (wr : World) : Prop where
  row : Row wr w.heap.size .u8 A n l
  made : Blk wr w.heap.size 5 .u8 L
  below : Below w.heap.size w wr
theorem DS.stored {w : World} {A : Option Addr} {n : Nat} {l L : List Nat} {wr : World} (h : DS w A n l L wr) (p x : Nat) : DS w A n l (L.set p x) (wr.setCell ⟨w.heap.size, p, none⟩ (.int .u8 (x : Int))) :=
  ⟨Reads.setCell h.row (Nat.le_refl _) _, h.made.set_ p x, h.below.setCell (Nat.le_refl _) _⟩

/-- One round of the inner loop, as the walk meets it. -/
theorem digit_facts (r x y k : Nat) (hr : r < y) (hx : x < 256) (hy : y < LB) (hk : k < 8) {li di xi yi : Int} (e1 : li = ((topBits r x k % y : Nat) : Int)) (e2 : di = ((128 / 2 ^ k : Nat) : Int)) (e3 : xi = (x : Int)) (e4 : yi = (y : Int)) :
    ∃ q b m1 m2 l' o o' d' : Int, 0 < di ∧ di ≤ 128 ∧ 0 ≤ li ∧ li < yi ∧ xi.tdiv di = q ∧ 0 ≤ q ∧ q ≤ 255 ∧ q % 2 = b ∧ 0 ≤ b ∧ b ≤ 1 ∧ IntKind.u64.wrap (li * 2) = m1 ∧ IntKind.u64.wrap (m1 + b) = m2 ∧ IntKind.u64.wrap (m2 - yi) = l' ∧ di.tdiv 2 = d' ∧ 0 ≤ d' ∧ d' ≤ 64 ∧ Hid (d' = ((128 / 2 ^ (k + 1) : Nat) : Int)) ∧
      Hid (o = ((topBits r x k / y * 2 ^ (8 - k) : Nat) : Int)) ∧ IntKind.u8.wrap (o + di) = o' ∧ 0 ≤ o ∧ o < 256 ∧
      ((9223372036854775808 ≤ li ∧ Hid (l' = ((topBits r x (k + 1) % y : Nat) : Int) ∧ o' = ((topBits r x (k + 1) / y * 2 ^ (8 - (k + 1)) : Nat) : Int))) ∨
       (¬ 9223372036854775808 ≤ li ∧ yi ≤ m2 ∧ Hid (l' = ((topBits r x (k + 1) % y : Nat) : Int) ∧ o' = ((topBits r x (k + 1) / y * 2 ^ (8 - (k + 1)) : Nat) : Int))) ∨
       (¬ 9223372036854775808 ≤ li ∧ ¬ yi ≤ m2 ∧ Hid (m2 = ((topBits r x (k + 1) % y : Nat) : Int) ∧ o = ((topBits r x (k + 1) / y * 2 ^ (8 - (k + 1)) : Nat) : Int)))) := by
  obtain ⟨s1, s2⟩ := bit_step r x y k hr hk
  have hb := bits_lt r x y k hr hx (by omega)
  have hb' := bits_lt r x y (k + 1) hr hx (by omega)
  have hm := Nat.mod_lt (topBits r x k) (show 0 < y by omega)
  have hp : (2 : Nat) ^ (7 - k) ≤ 128 := by
    have h : ∀ k : Fin 8, 2 ^ (7 - k.val) ≤ 128 := by decide
    exact h ⟨k, hk⟩
  have hp0 := Nat.two_pow_pos (7 - k)
  have hdv := Nat.div_le_self x (2 ^ (7 - k))
  have hnext : 128 / 2 ^ (k + 1) = 128 / 2 ^ k / 2 := by rw [Nat.pow_succ, Nat.div_div_eq_div_mul]
  have h128 := half128 k hk
  have hbit : x / 2 ^ (7 - k) % 2 < 2 := Nat.mod_lt _ (by omega)
  rw [hnext]
  rw [h128] at e2 s1 ⊢
  have hxd : xi.tdiv di = ((x / 2 ^ (7 - k) : Nat) : Int) := by rw [e2, e3]; rfl
  have hd2 : di.tdiv 2 = ((2 ^ (7 - k) / 2 : Nat) : Int) := by rw [e2]; rfl
  generalize hT : topBits r x k % y = m at *
  generalize topBits r x (k + 1) % y = m' at *
  generalize topBits r x k / y * 2 ^ (8 - k) = u at *
  generalize topBits r x (k + 1) / y * 2 ^ (8 - (k + 1)) = u' at *
  generalize hP : 2 ^ (7 - k) = p at *
  generalize x / p = z at *
  unfold LB at hy
  refine ⟨_, _, _, _, _, _, _, _, by omega, by omega, by omega, by omega, hxd, by omega, by omega, rfl, by omega, by omega, rfl, rfl, rfl, hd2, by omega, by omega, rfl, (show (u : Int) = (u : Int) from rfl), rfl, by omega, by omega, ?_⟩
  simp only [IntKind.wrap_u64, IntKind.wrap_u8]
  rcases Nat.lt_or_ge m 9223372036854775808 with h | h
  · rcases Nat.lt_or_ge (2 * m + z % 2) y with h2 | h2
    · obtain ⟨t1, t2⟩ := s2 h2
      exact .inr (.inr ⟨by omega, by omega, by show _ ∧ _; omega⟩)
    · obtain ⟨t1, t2⟩ := s1 h2
      exact .inr (.inl ⟨by omega, by omega, by show _ ∧ _; omega⟩)
  · obtain ⟨t1, t2⟩ := s1 (by omega)
    exact .inl ⟨by omega, by show _ ∧ _; omega⟩

set_option maxHeartbeats 2000000 in
theorem refDiv_rows (A : Option Addr) (n c y : Nat) (l : List Nat) (w : World) (h1 : Row w w.heap.size .u8 A n l) (bl : Dig.Below 256 l) (hy : 0 < y) (hyl : y < LB) (hn : n ≤ 10000) :
    Calls Tryd.prog 55 #[.slice A n c, .int .u64 y] w fun e w' => ∃ A1 n1 c1, e = .returned (.tuple #[.slice A1 n1 c1, .int .u64 ((Dig.val 256 l % y : Nat) : Int), .int .i64 0]) ∧ RNum w' w.heap.size A1 n1 c1 (Dig.val 256 l / y) ∧ n1 ≤ n + 7 ∧ Below w.heap.size w w' := by
  have hl := Lib.hid h1.len
  obtain ⟨yi, hyi⟩ : ∃ yi : Int, yi = (y : Int) := ⟨_, rfl⟩
  have hyz : (yi == 0) = false := by simp; omega
  have HY := Lib.hid hyi
  rw [← hyi]
  have hmk := fun u => run_mkU8 n (by omega) u
  have hst0 : Hid (DS w A n l (List.replicate n 0) (w.alloc (.cells (ints .u8 (List.replicate n 0)).toArray 5))) :=
    ⟨h1.alloc (Nat.le_refl _) _, Blk.made _ _ _ _, (Below.refl _ _).alloc (Nat.le_refl _) _⟩
  clear hyi h1
  go_enter Tryd.func55, Tryd.ntmps55
  go_wp2_with fail
  clear hmk
  go_loopw [8, 9] (fun lv iv wr => ∃ z li : Int, -1 ≤ z ∧ z < n ∧ iv = .int .i64 z ∧ lv = .int .u64 li ∧ Hid (li = (((bdv y (l.drop (z + 1).toNat)).2 : Nat) : Int)) ∧ Hid (DS w A n l (List.replicate (z + 1).toNat 0 ++ (bdv y (l.drop (z + 1).toNat)).1) wr)) (fun _ iv _ => (intOf iv + 1).toNat)
  case atStart =>
    refine ⟨(n : Int) - 1, 0, by omega, by omega, rfl, rfl, ?_, ?_⟩
    · rw [show ((n : Int) - 1 + 1).toNat = n by omega, List.drop_of_length_le (by have := hl.out; omega)]; rfl
    · rw [show ((n : Int) - 1 + 1).toNat = n by omega, List.drop_of_length_le (by have := hl.out; omega)]
      simpa [bdv] using hst0
  case round =>
    obtain ⟨z, li, hz1, hz2, rfl, rfl, hli, hst⟩ := hrel
    clear hst0
    by_cases hz : 0 ≤ z
    · obtain ⟨j, rfl⟩ := Int.eq_ofNat_of_zero_le hz
      have e1 : ((j : Int) + 1).toNat = j + 1 := by omega
      rw [e1] at hli hst
      have hjl : j < l.length := by have := hl.out; omega
      have hjn : j < n := by omega
      have hxb := Dig.at_below (by omega) bl j
      have hrl := bdv_lt hy (l.drop (j + 1))
      have hset := Lib.hid (bdv_at (y := y) hjl)
      have hrest := Lib.hid (bdv_rest (y := y) hjl)
      have hLl : Hid ((List.replicate (j + 1) 0 ++ (bdv y (l.drop (j + 1))).1).length = n) := by
        show _ = _
        rw [List.length_append, List.length_replicate, bdv_length, List.length_drop]
        have := hl.out
        omega
      have hL0 : Hid ((List.replicate (j + 1) 0 ++ (bdv y (l.drop (j + 1))).1).set j 0 = List.replicate (j + 1) 0 ++ (bdv y (l.drop (j + 1))).1) := by
        show _ = _
        rw [List.set_append_left _ _ (by simp)]
        congr 1
        apply List.ext_getElem
        · simp
        · intro i h1 h2
          simp
      obtain ⟨xi, hxi⟩ : ∃ xi : Int, xi = ((Dig.at_ l j : Nat) : Int) := ⟨_, rfl⟩
      have HX := Lib.hid hxi
      have hx0 : 0 ≤ xi := by omega
      have hx1 : xi < 256 := by omega
      have hji : Hid (((j : Int) - 1 + 1).toNat = j) := by show _ = _; omega
      generalize List.replicate (j + 1) 0 ++ (bdv y (l.drop (j + 1))).1 = L at *
      generalize (bdv y (l.drop (j + 1))).2 = r at *
      generalize hxv : Dig.at_ l j = x at *
      have HXV := Lib.hid hxv
      clear hxi hxv e1 hz hz1 hz2 bl
      go_wp2_with fail
      obtain ⟨wo, rfl⟩ : ∃ wo : World, wo = wr := ⟨_, rfl⟩
      go_loopw [8, 10] (fun lv dv wr => ∃ (k : Nat) (li di : Int), k ≤ 8 ∧ lv = .int .u64 li ∧ dv = .int .i64 di ∧ Hid (li = ((topBits r x k % y : Nat) : Int) ∧ di = ((128 / 2 ^ k : Nat) : Int)) ∧ Hid (DS w A n l (L.set j (topBits r x k / y * 2 ^ (8 - k))) wr)) (fun _ dv _ => (intOf dv).toNat)
      case atStart =>
        refine ⟨0, li, 128, by omega, rfl, rfl, ⟨?_, rfl⟩, ?_⟩
        · rw [topBits_zero r x hxb, Nat.mod_eq_of_lt hrl]; exact hli.out
        · show DS _ _ _ _ _ _
          rw [topBits_zero r x hxb, Nat.div_eq_of_lt hrl, Nat.zero_mul, hL0.out]
          exact hst.out
      case round =>
        obtain ⟨k, lj, di, hk, rfl, rfl, hld, hst2⟩ := hrel
        clear hst
        by_cases hlt : k < 8
        · obtain ⟨q, b, m1, m2, l', o, o', d', d0, d1, g0, g1, p1, p2, p3, p4, p5, p6, p7, p8, p9, p10, q0, q1, p11, ho, p12, p13, p14, hcase⟩ := digit_facts r x y k hrl hxb hyl hlt hld.out.1 hld.out.2 HX.out HY.out
          obtain ⟨ad, hA, hadb, hcell⟩ := hst2.out.row.at_ (i := j) hjn
          subst hA
          rw [HXV.out, ← HX.out] at hcell
          have hcell2 := hst2.out.made.cell (i := j) (by rw [List.length_set, hLl.out]; exact hjn)
          have hfro2 := hst2.out.made.frozen j
          have hat : Dig.at_ (L.set j (topBits r x k / y * 2 ^ (8 - k))) j = topBits r x k / y * 2 ^ (8 - k) := by
            rw [Dig.at_lt (by rw [List.length_set, hLl.out]; exact hjn)]; simp
          rw [hat, ← ho.out] at hcell2
          have hst3 := Lib.hid (hst2.out.stored j (topBits r x (k + 1) / y * 2 ^ (8 - (k + 1))))
          have hless : Hid (d'.toNat < di.toNat) := by
            have h1 := p11.out
            have h2 := hld.out.2
            have h3 : 128 / 2 ^ (k + 1) = 128 / 2 ^ k / 2 := by rw [Nat.pow_succ, Nat.div_div_eq_div_mul]
            rw [h3] at h1
            show _ < _
            omega
          have hj0 : (j : Int) < n := by omega
          clear hxb hrl hat
          rcases hcase with ⟨c1, c2⟩ | ⟨c1, c2, c3⟩ | ⟨c1, c2, c3⟩
          · go_wp2_with fail
            refine ⟨⟨k + 1, l', d', by omega, rfl, rfl, ⟨c2.out.1, p11.out⟩, ?_⟩, hless.out⟩
            have h := hst3.out
            rw [List.set_set, ← c2.out.2] at h
            exact h
          · go_wp2_with fail
            refine ⟨⟨k + 1, l', d', by omega, rfl, rfl, ⟨c3.out.1, p11.out⟩, ?_⟩, hless.out⟩
            have h := hst3.out
            rw [List.set_set, ← c3.out.2] at h
            exact h
          · have hsame : Hid (topBits r x (k + 1) / y * 2 ^ (8 - (k + 1)) = topBits r x k / y * 2 ^ (8 - k)) := by
              have h1 := c3.out.2
              have h2 := ho.out
              rw [h2] at h1
              exact (Int.ofNat_inj.1 h1).symm
            go_wp2_with fail
            refine ⟨⟨k + 1, m2, d', by omega, rfl, rfl, ⟨c3.out.1, p11.out⟩, ?_⟩, hless.out⟩
            have h := hst2.out
            rw [← hsame.out] at h
            exact h
        · obtain rfl : k = 8 := by omega
          have hd0 : di = 0 := hld.out.2
          subst hd0
          have hlj : Hid (lj = (((bdv y (l.drop j)).2 : Nat) : Int)) := by
            show _ = _
            rw [hld.out.1, topBits_all, hrest.out]
          have hst4 : Hid (DS w A n l (List.replicate j 0 ++ (bdv y (l.drop j)).1) wr) := by
            have h := hst2.out
            rw [topBits_all, show (2 : Nat) ^ (8 - 8) = 1 from rfl, Nat.mul_one, hset.out] at h
            exact h
          clear hst2 hxb hrl hld hyl
          go_wp2_with fail
          refine ⟨⟨(j : Int) - 1, lj, by omega, by omega, by go_num, rfl, ?_, ?_⟩, by simp [intOf]⟩
          · rw [hji.out]; exact hlj
          · rw [hji.out]; exact hst4
    · obtain rfl : z = -1 := by omega
      have e1 : ((-1 : Int) + 1).toNat = 0 := by omega
      rw [e1] at hli hst
      have hmade := hst.out.made
      have hbel := hst.out.below
      simp only [List.drop_zero, List.replicate_zero, List.nil_append] at hli hmade
      obtain ⟨d1, d2⟩ := bdv_div hy l
      have bq := bdv_below hy bl
      have hql : (bdv y l).1.length = n := by rw [bdv_length]; exact hl.out.symm
      have hrow := hmade.row
      rw [hql] at hrow
      have HD1 := Lib.hid d1
      have HLI : Hid (li = ((Dig.val 256 l % y : Nat) : Int)) := by show _ = _; rw [hli.out, d2]
      have hwv := Dig.words_val (bdv y l).1 ((n + 7) / 8) (by rw [hql]; omega)
      have hwb : Dig.Below LB (Dig.words (bdv y l).1 ((n + 7) / 8)) := by
        intro z hz
        obtain ⟨i, _, rfl⟩ := List.mem_map.1 hz
        rw [LB_eq]
        exact Dig.wordAt_lt bq i
      have hwv2 : Hid (Dig.val LB (Dig.words (bdv y l).1 ((n + 7) / 8)) = Dig.val 256 l / y) := by
        show _ = _
        rw [LB_eq, hwv, List.take_of_length_le (by rw [hql]; omega), d1]
      clear hli d1 d2 hst hmade hwv
      go_wp2_with fail
      refine (refLimbs_rows (some ⟨w.heap.size, 0, none⟩) n n (bdv y l).1 wr hrow bq (by omega)).mono ?_
      rintro e w1 ⟨A1, c1, rfl, hown1, hb1⟩
      have hs1 := hb1.size
      have hsw := hbel.size
      go_wp2_with fail
      refine (refOf A1 _ c1 _ w1 hown1.row hwb (by omega)).mono ?_
      rintro e w2 ⟨A2, n2, c2, rfl, hnum2, hn2, hb2⟩
      rw [hwv2.out] at hnum2
      go_wp2_with fail
      refine bodyPost_ret (v := .tuple #[.slice A2 n2 c2, .int .u64 li, .int .i64 0]) (by simp [results, Tryd.results55, go_sem]) rfl ?_
      exact ⟨A2, n2, c2, by rw [HLI.out], hnum2.mono (by omega), by omega, (hbel.trans (hb1.mono hsw)).trans (hb2.mono (by omega))⟩

theorem refDiv {A : Option Addr} {n c N b : Nat} {w : World} (y : Nat) (h : RNum w b A n c N) (hy : 0 < y) (hyl : y < LB) (hn : n ≤ 10000) :
    Calls Tryd.prog 55 #[.slice A n c, .int .u64 y] w fun e w' => ∃ A1 n1 c1, e = .returned (.tuple #[.slice A1 n1 c1, .int .u64 ((N % y : Nat) : Int), .int .i64 0]) ∧ RNum w' w.heap.size A1 n1 c1 (N / y) ∧ n1 ≤ n + 7 ∧ Below w.heap.size w w' := by
  obtain ⟨l, h1, h2, h3, h4, _⟩ := h
  rw [← h4]
  exact refDiv_rows A n c y l w h1 h3 hy hyl hn
theorem refDiv_zero (A : Option Addr) (n c : Nat) (w : World) :
    Calls Tryd.prog 55 #[.slice A n c, .int .u64 0] w fun e w' => e = .returned (.tuple #[.slice none 0 0, .int .u64 0, .int .i64 2]) ∧ Below w.heap.size w w' := by
  go_enter Tryd.func55, Tryd.ntmps55
  go_wp2_with fail
  refine bodyPost_ret (v := .tuple #[.slice none 0 0, .int .u64 0, .int .i64 2]) (by simp [results, Tryd.results55, go_sem]) rfl ?_
  exact ⟨rfl, Below.refl _ _⟩
end
end Go.Proofs.YtijliimiojjjdaaDoor
