/- The contract of the reference's Mul. -/
import Derived.Test.YthcnopopkgelhaaRefD
namespace Go.Proofs.Ythcnopopkgelhaa
open Go.RowKit

theorem info_int : (Try.prog.info? 3).map (fun i => (i.zero, i.size, i.bytes)) = some (some (.int .i64 0), 1, 8) := by kernel_rfl
theorem run_mkInt (n : Nat) (hn : n * 8 ≤ 281474976710656) (u : World) : (Instr.makeSlice 77 (.int .i64 n) (.int .i64 n)).run Try.prog u =
    .ok (.slice (some ⟨u.heap.size, 0, none⟩) n n) (u.alloc (.cells (ints .i64 (List.replicate n 0)).toArray 3)) := by
  obtain ⟨i0, hi, hz0, hz1, hz2⟩ := info_parts info_int
  have h := run_make (P := Try.prog) u 77 3 i0 (.int .i64 0) Try.underlying77 hi hz0 .i64 .i64 n n (by omega) (Int.le_refl _) (by rw [hz2]; omega) (by omega)
  rw [h, ints_zeros, hz1]
  simp [Value.cells, madeCells_one]

/-- What stands in memory while the sums are made. -/
structure MS (w : World) (A : Option Addr) (n : Nat) (A' : Option Addr) (n' : Nat) (l m S : List Nat) (wr : World) : Prop where
  rowA : Row wr w.heap.size .u8 A n l
  rowB : Row wr w.heap.size .u8 A' n' m
  made : Blk wr w.heap.size 3 .i64 S
  below : Below w.heap.size w wr
theorem MS.drewN {w : World} {A : Option Addr} {n : Nat} {A' : Option Addr} {n' : Nat} {l m S : List Nat} {wr : World} (h : MS w A n A' n' l m S wr) (q : Nat) : MS w A n A' n' l m S (wr.drewN q) :=
  ⟨h.rowA, h.rowB, h.made, below_drewN h.below q⟩
theorem MS.stored {w : World} {A : Option Addr} {n : Nat} {A' : Option Addr} {n' : Nat} {l m S : List Nat} {wr : World} (h : MS w A n A' n' l m S wr) (p x : Nat) : MS w A n A' n' l m (S.set p x) (wr.setCell ⟨w.heap.size, p, none⟩ (.int .i64 (x : Int))) :=
  ⟨Reads.setCell h.rowA (Nat.le_refl _) _, Reads.setCell h.rowB (Nat.le_refl _) _, h.made.set_ p x, h.below.setCell (Nat.le_refl _) _⟩

set_option maxHeartbeats 4000000 in
theorem refMul_rows (A A' : Option Addr) (n c n' c' : Nat) (l m : List Nat) (w : World) (h1 : Row w w.heap.size .u8 A n l) (g1 : Row w w.heap.size .u8 A' n' m) (h3 : Dig.Below 256 l) (g3 : Dig.Below 256 m) (hn : n ≤ 10000) (hn' : n' ≤ 10000) :
    Calls Try.prog 35 #[.slice A n c, .slice A' n' c'] w fun e w' => ∃ A1 n1 c1, e = .returned (.slice A1 n1 c1) ∧ RNum w' w.heap.size A1 n1 c1 (Dig.val 256 l * Dig.val 256 m) ∧ n1 ≤ n + n' + 9 ∧ Below w.heap.size w w' := by
  have hl := Lib.hid h1.len
  have hm := Lib.hid g1.len
  have hmk := fun u => run_mkInt (n + n' + 1) (by omega) u
  rw [show ((n + n' + 1 : Nat) : Int) = (n : Int) + (n' : Int) + 1 by omega] at hmk
  have hst0 : Hid (MS w A n A' n' l m (List.replicate (n + n' + 1) 0) (w.alloc (.cells (ints .i64 (List.replicate (n + n' + 1) 0)).toArray 3))) :=
    ⟨h1.alloc (Nat.le_refl _) _, g1.alloc (Nat.le_refl _) _, Blk.made _ _ _ _, (Below.refl _ _).alloc (Nat.le_refl _) _⟩
  go_enter Try.func35, Try.ntmps35
  go_wp2_with fail
  clear hmk
  go_loopw [6] (fun iv wr => ∃ i : Nat, i ≤ n ∧ iv = .int .i64 i ∧ MS w A n A' n' l m (Dig.mall l m (List.replicate (n + n' + 1) 0) i) wr) (fun iv _ => n - (intOf iv).toNat)
  case atStart => exact ⟨0, by omega, rfl, hst0.out⟩
  case round =>
    obtain ⟨i, hi, rfl, hst⟩ := hrel
    by_cases hlt : i < n
    · clear hst0
      obtain ⟨ad, rfl, hadb, hcellx⟩ := h1.at_ hlt
      clear hadb hcellx
      go_wp2_with fail
      obtain ⟨wo, rfl⟩ : ∃ wo : World, wo = wr := ⟨_, rfl⟩
      go_loopw [7, 8] (fun kv _ wr => ∃ k : Nat, k ≤ n' ∧ kv = .int .i64 k ∧ MS w (some ad) n A' n' l m (Dig.mrow m (Dig.at_ l i) i (Dig.mall l m (List.replicate (n + n' + 1) 0) i) k) wr) (fun kv _ _ => n' - (intOf kv).toNat)
      case atStart => exact ⟨0, by omega, rfl, hst⟩
      case round =>
        obtain ⟨k, hk, rfl, hst2⟩ := hrel
        by_cases hlt2 : k < n'
        · obtain ⟨ad', rfl, hadb', hc2⟩ := hst2.rowB.at_ hlt2
          obtain ⟨ad2, he2, hadb2, hc1⟩ := hst2.rowA.at_ hlt
          injection he2 with he2
          subst he2
          have hSl : (Dig.mrow m (Dig.at_ l i) i (Dig.mall l m (List.replicate (n + n' + 1) 0) i) k).length = n + n' + 1 := by rw [Dig.mrow_length, Dig.mall_length, List.length_replicate]
          have hsum1 := Dig.mrow_sum m (Dig.at_ l i) i (Dig.mall l m (List.replicate (n + n' + 1) 0) i) g3 (Dig.at_below (by omega) h3 i) k (by rw [Dig.mall_length, List.length_replicate]; omega)
          have hsum2 := Dig.mall_sum l m h3 g3 (n + n' + 1) i (by have := hm.out; omega)
          have hmul1 : m.length * i ≤ 10000 * 10000 := Nat.mul_le_mul (by have := hm.out; omega) (by omega)
          have hxb := Dig.at_below (by omega) h3 i
          have hyb := Dig.at_below (by omega) g3 k
          have hP0 : Dig.at_ l i * Dig.at_ m k ≤ 255 * 255 := Nat.mul_le_mul (by omega) (by omega)
          have hstep : Hid (Dig.mrow m (Dig.at_ l i) i (Dig.mall l m (List.replicate (n + n' + 1) 0) i) (k + 1) = Dig.mstep (Dig.mrow m (Dig.at_ l i) i (Dig.mall l m (List.replicate (n + n' + 1) 0) i) k) (i + k) (Dig.at_ l i * Dig.at_ m k)) := rfl
          have hP : ((Dig.at_ l i : Nat) : Int) * ((Dig.at_ m k : Nat) : Int) = ((Dig.at_ l i * Dig.at_ m k : Nat) : Int) := (Int.natCast_mul _ _).symm
          generalize Dig.mrow m (Dig.at_ l i) i (Dig.mall l m (List.replicate (n + n' + 1) 0) i) k = S at *
          generalize hSE : Dig.mrow m (Dig.at_ l i) i (Dig.mall l m (List.replicate (n + n' + 1) 0) i) (k + 1) = S' at *
          have HE := Lib.hid hSE
          clear hSE
          have hsum : Dig.val 1 S ≤ 100000000000 := by omega
          have hs1 := Dig.at_le_sum S (i + k)
          have hs2 := Dig.at_le_sum S (i + k + 1)
          have cell1 := hst2.made.cell (i := i + k) (by omega)
          have cell2 := hst2.made.cell (i := i + k + 1) (by omega)
          have fro1 := hst2.made.frozen (i + k)
          have fro2 := hst2.made.frozen (i + k + 1)
          generalize hPe : Dig.at_ l i * Dig.at_ m k = P at *
          generalize Dig.at_ l i = x at *
          generalize Dig.at_ m k = y at *
          have hst3 := fun q => (hst2.drewN q).stored (i + k) ((Dig.at_ S (i + k) + P) % 256)
          have hst4 := fun q => (hst3 q).stored (i + k + 1) (Dig.at_ S (i + k + 1) + (Dig.at_ S (i + k) + P) / 256)
          have hS' : Hid (S' = (S.set (i + k) ((Dig.at_ S (i + k) + P) % 256)).set (i + k + 1) (Dig.at_ S (i + k + 1) + (Dig.at_ S (i + k) + P) / 256)) := hstep
          generalize Dig.at_ S (i + k) = s at *
          generalize Dig.at_ S (i + k + 1) = s2 at *
          have hsb : s ≤ 100000000000 := Nat.le_trans hs1 hsum
          have hs2b : s2 ≤ 100000000000 := Nat.le_trans hs2 hsum
          have hPb : P ≤ 65025 := hP0
          have hw1 : IntKind.i64.wrap ((i : Int) + (k : Int)) = (i : Int) + (k : Int) := IntWalk.i64_in _ (by omega)
          have hw2 : ((i : Int) + (k : Int)).toNat = i + k := by omega
          have hw3 : IntKind.i64.wrap (x : Int) = (x : Int) := IntWalk.i64_in _ (by omega)
          have hw4 : IntKind.i64.wrap (y : Int) = (y : Int) := IntWalk.i64_in _ (by omega)
          have hw5 : IntKind.i64.wrap (P : Int) = (P : Int) := IntWalk.i64_in _ (by omega)
          have hw6 : IntKind.i64.wrap ((s : Int) + (P : Int)) = (s : Int) + (P : Int) := IntWalk.i64_in _ (by omega)
          have hi1 : (i : Int) < n := by omega
          have hk1 : (k : Int) < n' := by omega
          have hp1 : (0 : Int) ≤ (i : Int) + (k : Int) := by omega
          have hp2 : (i : Int) + (k : Int) < (n : Int) + (n' : Int) + 1 := by omega
          have hc1 : (((s + P) % 256 : Nat) : Int) = ((s : Int) + (P : Int)) % 256 := by omega
          have hc2 : ((s2 + (s + P) / 256 : Nat) : Int) = (s2 : Int) + ((s : Int) + (P : Int)) / 256 := by omega
          simp only [hc1, hc2] at hst4
          have hst5 := Lib.hid hst4
          have hst5 := fun q => hst5.out q
          clear hst4 hc1 hc2 hst3
          clear hsum1 hsum2 hmul1 hxb hyb hP0 hstep hsum hs1 hs2 hSl hPe
          go_wp2_with fail
          go_quiet (fail)
          go_wp2_with fail
          refine ⟨⟨k + 1, by omega, by go_num, ?_⟩, by simp [intOf]; omega⟩
          have h5 := hst5 nq
          rw [← hS'.out, ← HE.out] at h5
          exact h5
        · obtain rfl : k = n' := by omega
          have hst3 : MS w (some ad) n A' k l m (Dig.mall l m (List.replicate (n + k + 1) 0) (i + 1)) wr := by
            have e : k = m.length := hm.out
            show MS w (some ad) n A' k l m (Dig.mrow m (Dig.at_ l i) i (Dig.mall l m (List.replicate (n + k + 1) 0) i) m.length) wr
            rw [← e]
            exact hst2
          clear hst2 hst
          go_wp2_with fail
          refine ⟨⟨i + 1, by omega, by go_num, hst3⟩, by simp [intOf]; omega⟩
    · obtain rfl : i = n := by omega
      have hval := Lib.hid (Dig.mall_val l m (i + n' + 1) i (by have := hm.out; omega))
      have hsum := Dig.mall_sum l m h3 g3 (i + n' + 1) i (by have := hm.out; omega)
      have hmul1 : m.length * i ≤ 10000 * 10000 := Nat.mul_le_mul (by have := hm.out; omega) (by omega)
      have hSl : (Dig.mall l m (List.replicate (i + n' + 1) 0) i).length = i + n' + 1 := by rw [Dig.mall_length, List.length_replicate]
      have hla := Lib.hid (Dig.low_all 256 l i (by have := hl.out; omega))
      generalize Dig.mall l m (List.replicate (i + n' + 1) 0) i = S at *
      have hsumb : Dig.val 1 S ≤ 100000000000 := by omega
      have hSl := Lib.hid hSl
      clear hsum hmul1 hst0
      go_wp2_with fail
      have hG := hst.made.lt
      have hbw := hst.below
      have hmade := hst.made
      clear hst
      obtain ⟨wo, rfl⟩ : ∃ wo : World, wo = wr := ⟨_, rfl⟩
      have hst0 := Lib.hid (Grow.start wo 5 .u8)
      go_loopw [9, 10, 11] (fun v cv jv wr => ∃ j : Nat, j ≤ i + n' + 1 ∧ jv = .int .i64 j ∧ cv = .int .i64 ((Dig.runC Dig.aHi S [] j : Nat) : Int) ∧ Grow wo 5 .u8 v (Dig.runL Dig.aLo Dig.aHi S [] j) wr) (fun _ _ jv _ => i + n' + 1 - (intOf jv).toNat)
      case atStart => exact ⟨0, by omega, rfl, rfl, hst0.out⟩
      case round =>
        obtain ⟨j, hj, rfl, rfl, hg⟩ := hrel
        by_cases hlt3 : j < i + n' + 1
        · have hcell := (hmade.below hg.2 hG).cell (i := j) (by have := hSl.out; omega)
          have hlen : (Dig.runL Dig.aLo Dig.aHi S [] j).length ≤ 1000000000000 := by rw [Dig.runL_length]; omega
          have hcb := Nat.le_trans (Dig.carry_le S j) (Dig.low_le_sum S j)
          have hsb := Dig.at_le_sum S j
          have hstep : Hid (Dig.runL Dig.aLo Dig.aHi S [] (j + 1) = Dig.runL Dig.aLo Dig.aHi S [] j ++ [(Dig.at_ S j + Dig.runC Dig.aHi S [] j) % 256]) := by
            show Dig.runL Dig.aLo Dig.aHi S [] j ++ [Dig.aLo (Dig.at_ S j) (Dig.at_ [] j) (Dig.runC Dig.aHi S [] j)] = _
            have e : Dig.at_ ([] : List Nat) j = 0 := by simp [Dig.at_]
            rw [e]; rfl
          have hcs : Hid (Dig.runC Dig.aHi S [] (j + 1) = (Dig.at_ S j + Dig.runC Dig.aHi S [] j) / 256) := by
            show Dig.aHi (Dig.at_ S j) (Dig.at_ [] j) (Dig.runC Dig.aHi S [] j) = _
            have e : Dig.at_ ([] : List Nat) j = 0 := by simp [Dig.at_]
            rw [e]; rfl
          generalize hcnE : Dig.runC Dig.aHi S [] (j + 1) = cn at *
          have HE := Lib.hid hcnE
          clear hcnE
          generalize Dig.runC Dig.aHi S [] j = cc at *
          generalize Dig.at_ S j = s at *
          have hw6 : IntKind.i64.wrap ((s : Int) + (cc : Int)) = (s : Int) + (cc : Int) := IntWalk.i64_in _ (by omega)
          have hfin : Hid (Value.int .i64 (((s : Int) + (cc : Int)) / 256) = Value.int .i64 (cn : Int)) := by
            show _ = _
            congr 1
            have := hcs.out
            omega
          have hj1 : (j : Int) < (i : Int) + (n' : Int) + 1 := by omega
          have hs9 : s ≤ 100000000000 := Nat.le_trans hsb hsumb
          have hc9 : cc ≤ 100000000000 := Nat.le_trans hcb hsumb
          clear hcs hcb hsb hsumb
          go_wp2_with (first
            | (at_builtin
               refine wpList_push rfl (.tmp 85) (.tmp 89) _ rfl 5 .u8 1 Try.underlying26 info_u8 (by omega) _ _ ((s + cc) % 256) _ wo _ rfl hg rfl ?hz hlen ?_
               case hz => omega
               intro v1 w1 hg2))
          refine ⟨⟨j + 1, by omega, by go_num, by rw [HE.out]; exact hfin.out, by rw [hstep.out]; exact hg2⟩, by simp [intOf]; omega⟩
        · obtain rfl : j = i + n' + 1 := by omega
          have hrun := Dig.add_run Dig.aLo Dig.aHi 256 S [] Dig.a_split (i + n' + 1)
          rw [Dig.low_all 256 S _ (by have := hSl.out; omega), Dig.low_nil, Nat.add_zero, hval.out, hla.out] at hrun
          have hcb := Nat.le_trans (Dig.carry_le S (i + n' + 1)) (Dig.low_le_sum S (i + n' + 1))
          have hbb := Dig.runL_below Dig.aLo Dig.aHi S [] Dig.aLo_lt (i + n' + 1)
          have hrl := Dig.runL_length Dig.aLo Dig.aHi S [] (i + n' + 1)
          have hrun2 : Hid (Dig.val 256 (Dig.runL Dig.aLo Dig.aHi S [] (i + n' + 1)) + 256 ^ (Dig.runL Dig.aLo Dig.aHi S [] (i + n' + 1)).length * Dig.runC Dig.aHi S [] (i + n' + 1) = Dig.val 256 l * Dig.val 256 m) := by rw [hrl]; exact hrun
          clear hrun
          generalize Dig.runL Dig.aLo Dig.aHi S [] (i + n' + 1) = L0 at *
          generalize Dig.runC Dig.aHi S [] (i + n' + 1) = C0 at *
          have hrl := Lib.hid hrl
          have hC0 : C0 < 256 ^ 8 := by
            have : (256 : Nat) ^ 8 = 18446744073709551616 := by decide
            omega
          have hC0 := Lib.hid hC0
          have hprod := Lib.hid (show Dig.val 256 l * Dig.val 256 m = Dig.val 256 l * Dig.val 256 m from rfl)
          have hC0b : C0 ≤ 100000000000 := Nat.le_trans hcb hsumb
          clear hst0 hcb hval hla hSl hsumb hmade hG
          go_wp2_with fail
          obtain ⟨wi, rfl⟩ : ∃ wi : World, wi = wr := ⟨_, rfl⟩
          go_loopw [9, 10] (fun v cv wr => ∃ (t : Nat) (L : List Nat) (C : Nat), t ≤ 8 ∧ cv = .int .i64 C ∧ C ≤ C0 ∧ Hid (C < 256 ^ (8 - t)) ∧ Hid (L.length = i + n' + 1 + t) ∧ Dig.Below 256 L ∧ Hid (Dig.val 256 L + 256 ^ L.length * C = Dig.val 256 l * Dig.val 256 m) ∧ Grow wo 5 .u8 v L wr) (fun _ cv _ => (intOf cv).toNat)
          case atStart => exact ⟨0, L0, C0, by omega, rfl, Nat.le_refl _, hC0, hrl, hbb, hrun2, hg⟩
          case round =>
            obtain ⟨t, L, C, ht, rfl, hCC, hC8, hL, hLb, hV, hg4⟩ := hrel
            clear hC0 hrl hbb hrun2 hg
            by_cases hz : 0 < C
            · have ht8 : t < 8 := by
                rcases Nat.lt_or_ge t 8 with h | h
                · exact h
                · obtain rfl : t = 8 := by omega
                  have := hC8.out
                  simp at this
                  omega
              have hlen : L.length ≤ 1000000000000 := by rw [hL.out]; omega
              have hC9 : Hid (C / 256 < 256 ^ (8 - (t + 1))) := by
                have h1 := hC8.out
                rw [show 8 - t = (8 - (t + 1)) + 1 by omega, Nat.pow_succ] at h1
                exact Nat.div_lt_of_lt_mul (by rw [Nat.mul_comm]; exact h1)
              have hL9 : Hid ((L ++ [C % 256]).length = i + n' + 1 + (t + 1)) := by show _ = _; rw [List.length_append, hL.out]; rfl
              have hV9 := Lib.hid (Dig.push_carry 256 L C _ hV.out)
              have hb9 : Dig.Below 256 (L ++ [C % 256]) := hLb.append (Dig.Below.cons (Nat.mod_lt _ (by omega)) (Dig.Below.nil _))
              have hzi : (0 : Int) < C := by omega
              have hCb : C ≤ 100000000000 := by omega
              have hfin : Hid (Value.int .i64 ((C : Int) / 256) = Value.int .i64 ((C / 256 : Nat) : Int)) := by
                show _ = _
                congr 1
              go_wp2_with (first
                | (at_builtin
                   refine wpList_push rfl (.tmp 95) (.tmp 99) _ rfl 5 .u8 1 Try.underlying26 info_u8 (by omega) _ _ (C % 256) _ wo _ rfl hg4 rfl ?hz hlen ?_
                   case hz => omega
                   intro v1 w1 hg5))
              refine ⟨⟨t + 1, L ++ [C % 256], C / 256, by omega, hfin.out, by omega, hC9, hL9, hb9, hV9, hg5⟩, by simp [intOf]; omega⟩
            · obtain rfl : C = 0 := by omega
              have hV2 : Hid (Dig.val 256 L = Dig.val 256 l * Dig.val 256 m) := by
                have := hV.out
                rw [Nat.mul_zero, Nat.add_zero] at this
                exact this
              obtain ⟨A1, c1, hv1, hown⟩ := hg4.parts
              have hL2 := hL.out
              rw [hL2] at hv1 hown
              subst hv1
              clear hL2
              have hrow := hown.row
              have hb := hg4.2
              go_wp2_with fail
              refine (refTrimN A1 _ c1 L _ hrow hLb (by omega)).mono ?_
              rintro e w1 ⟨A2, n2, c2, rfl, hnum, hn2, hb2⟩
              go_wp2_with fail
              go_ret
              rw [hV2.out] at hnum
              have hs := hb.size
              have hs2 := hbw.size
              exact ⟨A2, n2, c2, rfl, hnum.mono (by omega), by omega, (hbw.trans (hb.mono (by omega))).trans (hb2.mono (by omega))⟩

theorem refMul {A A' : Option Addr} {n c n' c' M N b b' : Nat} {w : World} (hM : RNum w b A n c M) (hN : RNum w b' A' n' c' N) (hn : n ≤ 10000) (hn' : n' ≤ 10000) :
    Calls Try.prog 35 #[.slice A n c, .slice A' n' c'] w fun e w' => ∃ A1 n1 c1, e = .returned (.slice A1 n1 c1) ∧ RNum w' w.heap.size A1 n1 c1 (M * N) ∧ n1 ≤ n + n' + 9 ∧ Below w.heap.size w w' := by
  obtain ⟨l, h1, h2, h3, h4, _⟩ := hM
  obtain ⟨m, g1, g2, g3, g4, _⟩ := hN
  rw [← h4, ← g4]
  exact refMul_rows A A' n c n' c' l m w h1 g1 h3 g3 hn hn'
end Go.Proofs.Ythcnopopkgelhaa
