/- The contracts of the reference's Cmp, Same. The contracts of the reference's Add, Sub. -/
import Derived.Test.YtijliimiojjjdaaDoorGRefA
import Derived.Test.YtijliimiojjjdaaDoorGNatA
import Derived.Test.YtijliimiojjjdaaDoorGMath
namespace Go.Proofs.YtijliimiojjjdaaDoor
section
open Go.RowKit

theorem bstep0 {w a b : World} (h : Below w.heap.size w a) (hb : Below a.heap.size a b) : Below w.heap.size w b := h.trans (hb.mono h.size)
end

section
open Go.RowKit

set_option maxHeartbeats 1000000 in
theorem refAdd {A A' : Option Addr} {n c n' c' M N b b' : Nat} {w : World} (hM : RNum w b A n c M) (hN : RNum w b' A' n' c' N) (hn : n ≤ 100000000000) (hn' : n' ≤ 100000000000) :
    Calls Tryd.prog 58 #[.slice A n c, .slice A' n' c'] w fun e w' => ∃ A1 n1 c1, e = .returned (.slice A1 n1 c1) ∧ RNum w' w.heap.size A1 n1 c1 (M + N) ∧ n1 ≤ max n n' + 1 ∧ Below w.heap.size w w' := by
  obtain ⟨l, h1, h2, h3, h4, h5, h6, h7⟩ := hM
  obtain ⟨m, g1, g2, g3, g4, g5, g6, g7⟩ := hN
  have hl := Lib.hid h1.len
  have hm := Lib.hid g1.len
  have hv := Lib.hid h4
  have hv' := Lib.hid g4
  clear h2 g2 h4 g4 h5 h6 h7 g5 g6 g7
  go_enter Tryd.func58, Tryd.ntmps58
  go_wp2_with fail
  go_loopw [5, 6, 7] (fun v cv i wr => ∃ j : Nat, j ≤ max n n' + 1 ∧ i = .int .i64 j ∧ cv = .int .i64 ((Dig.runC Dig.aHi l m j : Nat) : Int) ∧ Dig.runC Dig.aHi l m j ≤ 1 ∧ (j = max n n' + 1 → Dig.runC Dig.aHi l m j = 0) ∧ Grow w 5 .u8 v (Dig.runL Dig.aLo Dig.aHi l m j) wr) (fun _ cv i _ => 2 * (max n n' - (intOf i).toNat) + (intOf cv).toNat)
  case atStart => exact ⟨0, by omega, rfl, rfl, by simp [Dig.runC], by omega, Grow.start w _ _⟩
  case round =>
    obtain ⟨j, hj, rfl, rfl, hc1, hc0, hg⟩ := hrel
    have r1 := h1.below hg.2 |>.more hg.2.size
    have r2 := g1.below hg.2 |>.more hg.2.size
    by_cases hgo : j < n ∨ j < n' ∨ 0 < Dig.runC Dig.aHi l m j
    · have hxb := Dig.at_below (by omega) h3 j
      have hyb := Dig.at_below (by omega) g3 j
      have hj2 : j ≤ max n n' := by omega
      have hnext : Dig.runC Dig.aHi l m (j + 1) ≤ 1 := Dig.aHi_le hxb hyb hc1
      have hlast : j = max n n' → Dig.runC Dig.aHi l m (j + 1) = 0 := fun h => by
        show Dig.aHi (Dig.at_ l j) (Dig.at_ m j) (Dig.runC Dig.aHi l m j) = 0
        rw [Dig.at_ge (by have := hl.out; omega), Dig.at_ge (by have := hm.out; omega)]
        exact (show ∀ cc, cc ≤ 1 → Dig.aHi 0 0 cc = 0 from fun cc h => by unfold Dig.aHi; omega) _ hc1
      have HL := Lib.hid hlast
      clear hlast
      have hc0 := Lib.hid hc0
      have hlen : (Dig.runL Dig.aLo Dig.aHi l m j).length ≤ 1000000000000 := by rw [Dig.runL_length]; omega
      have hstep : Hid (Dig.runL Dig.aLo Dig.aHi l m (j + 1) = Dig.runL Dig.aLo Dig.aHi l m j ++ [(Dig.at_ l j + Dig.at_ m j + Dig.runC Dig.aHi l m j) % 256]) := rfl
      have hcs : Hid (Dig.runC Dig.aHi l m (j + 1) = (Dig.at_ l j + Dig.at_ m j + Dig.runC Dig.aHi l m j) / 256) := rfl
      have hmes : Hid (2 * (max n n' - (j + 1)) + Dig.runC Dig.aHi l m (j + 1) < 2 * (max n n' - j) + Dig.runC Dig.aHi l m j) := by
        show _ < _
        rcases Nat.lt_or_ge j (max n n') with h | h
        · omega
        · have := HL.out (by omega); omega
      generalize hcnE : Dig.runC Dig.aHi l m (j + 1) = cn at *
      have HE := Lib.hid hcnE
      clear hcnE
      generalize Dig.runC Dig.aHi l m j = cc at *
      have hq1 := fun w hr => refAt A n c j l w hr h3
      have hq2 := fun w hr => refAt A' n' c' j m w hr g3
      generalize Dig.at_ l j = x at *
      generalize Dig.at_ m j = y at *
      have hcn := Lib.hid (show cn = (x + y + cc) / 256 from hcs.out)
      have hfin : Hid (Value.int .i64 (((x : Int) + (y : Int) + (cc : Int)) / 256) = Value.int .i64 (cn : Int)) := by
        show _ = _
        congr 1
        have := hcs.out
        omega
      clear hcs
      by_cases t1 : j < n
      · go_wp2_with fail
        refine (hq1 _ r1).mono ?_
        rintro e w' ⟨rfl, rfl⟩
        go_wp2_with fail
        refine (hq2 _ r2).mono ?_
        rintro e w' ⟨rfl, rfl⟩
        go_wp2_with (first
            | (at_builtin
               refine wpList_push rfl (.tmp 34) (.tmp 38) _ rfl 5 .u8 1 Tryd.underlying76 info_u8 (by omega) _ _ ((x + y + cc) % 256) _ w _ rfl hg rfl ?hz hlen ?_
               case hz => omega
               intro v1 w1 hg2))
        refine ⟨⟨j + 1, by omega, by go_num, by rw [HE.out]; exact hfin.out, by rw [HE.out]; exact hnext, fun h => by rw [HE.out]; exact HL.out (by omega), by rw [hstep.out]; exact hg2⟩, ?_⟩
        have := hmes.out
        have := hcn.out
        simp only [intOf]
        omega
      · by_cases t2 : j < n'
        · go_wp2_with fail
          refine (hq1 _ r1).mono ?_
          rintro e w' ⟨rfl, rfl⟩
          go_wp2_with fail
          refine (hq2 _ r2).mono ?_
          rintro e w' ⟨rfl, rfl⟩
          go_wp2_with (first
              | (at_builtin
                 refine wpList_push rfl (.tmp 34) (.tmp 38) _ rfl 5 .u8 1 Tryd.underlying76 info_u8 (by omega) _ _ ((x + y + cc) % 256) _ w _ rfl hg rfl ?hz hlen ?_
                 case hz => omega
                 intro v1 w1 hg2))
          refine ⟨⟨j + 1, by omega, by go_num, by rw [HE.out]; exact hfin.out, by rw [HE.out]; exact hnext, fun h => by rw [HE.out]; exact HL.out (by omega), by rw [hstep.out]; exact hg2⟩, ?_⟩
          have := hmes.out
          have := hcn.out
          simp only [intOf]
          omega
        · have t3 : (0 : Int) < cc := by omega
          go_wp2_with fail
          refine (hq1 _ r1).mono ?_
          rintro e w' ⟨rfl, rfl⟩
          go_wp2_with fail
          refine (hq2 _ r2).mono ?_
          rintro e w' ⟨rfl, rfl⟩
          go_wp2_with (first
              | (at_builtin
                 refine wpList_push rfl (.tmp 34) (.tmp 38) _ rfl 5 .u8 1 Tryd.underlying76 info_u8 (by omega) _ _ ((x + y + cc) % 256) _ w _ rfl hg rfl ?hz hlen ?_
                 case hz => omega
                 intro v1 w1 hg2))
          refine ⟨⟨j + 1, by omega, by go_num, by rw [HE.out]; exact hfin.out, by rw [HE.out]; exact hnext, fun h => by rw [HE.out]; exact HL.out (by omega), by rw [hstep.out]; exact hg2⟩, ?_⟩
          have := hmes.out
          have := hcn.out
          simp only [intOf]
          omega
    · have e1 : ¬ j < n := by omega
      have e2 : ¬ j < n' := by omega
      have e3 : Dig.runC Dig.aHi l m j = 0 := by omega
      have hsum := Lib.hid (Dig.add_stop 256 Dig.aLo Dig.aHi Dig.a_split j (by have := hl.out; omega) (by have := hm.out; omega) e3)
      have hrl := Dig.runL_length Dig.aLo Dig.aHi l m j
      obtain ⟨A1, c1, hv1, hown⟩ := hg.parts
      rw [hrl] at hv1 hown
      subst hv1
      clear hrl
      rw [e3]
      have hrow := hown.row
      have hb := hg.2
      have hbb := Dig.runL_below Dig.aLo Dig.aHi l m Dig.aLo_lt j
      clear e3 hc1 hc0 hgo
      go_wp2_with fail
      refine (refTrimN A1 j c1 _ _ hrow hbb (by omega)).mono ?_
      rintro e w1 ⟨A2, n2, c2, rfl, hnum, hn2, hb2⟩
      go_wp2_with fail
      go_ret
      rw [hsum.out, hv.out, hv'.out] at hnum
      exact ⟨A2, n2, c2, rfl, hnum.mono hb.size, by omega, hb.trans (hb2.mono hb.size)⟩
end
end Go.Proofs.YtijliimiojjjdaaDoor
