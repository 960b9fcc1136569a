/- The chapter's examples: works. -/
import Derived.Test.YtamknndngjoncaaNatF
namespace Go.Proofs.Ytamknndngjoncaa
open Go.RowKit

theorem Num.row_of {w : World} {b n c N : Nat} {A : Option Addr} (h : Num w b A n c N) (l : List Nat) (h1 : Dig.Norm l) (h2 : Dig.Below LB l) (h3 : Dig.val LB l = N) : Row w w.heap.size .u64 A n l ∧ n = l.length := by
  obtain ⟨m, g1, g2, g3, g4, _⟩ := h
  have e : m = l := Dig.uniq LB_pos g2 h1 g3 h2 (g4.trans h3.symm)
  subst e
  exact ⟨g1, g1.len⟩

/-- The greatest limb. -/
def topN : Nat := LB - 1
theorem ofTop (w : World) : Calls Try.prog 13 #[.int .u64 18446744073709551615] w fun e w' => ∃ A' n' c', e = .returned (.agg #[.slice A' n' c']) ∧ Num w' w.heap.size A' n' c' topN ∧ n' ≤ 1 ∧ Below w.heap.size w w' :=
  natOf topN (by unfold topN LB; omega) w
theorem ofSmall (x : Nat) (hx : x < 100) (w : World) : Calls Try.prog 13 #[.int .u64 x] w fun e w' => ∃ A' n' c', e = .returned (.agg #[.slice A' n' c']) ∧ Num w' w.heap.size A' n' c' x ∧ n' ≤ 1 ∧ Below w.heap.size w w' :=
  natOf x (by unfold LB; omega) w
theorem of1 (w : World) : Calls Try.prog 13 #[.int .u64 1] w fun e w' => ∃ A' n' c', e = .returned (.agg #[.slice A' n' c']) ∧ Num w' w.heap.size A' n' c' 1 ∧ n' ≤ 1 ∧ Below w.heap.size w w' := ofSmall 1 (by omega) w
theorem of5 (w : World) : Calls Try.prog 13 #[.int .u64 5] w fun e w' => ∃ A' n' c', e = .returned (.agg #[.slice A' n' c']) ∧ Num w' w.heap.size A' n' c' 5 ∧ n' ≤ 1 ∧ Below w.heap.size w w' := ofSmall 5 (by omega) w
theorem of7 (w : World) : Calls Try.prog 13 #[.int .u64 7] w fun e w' => ∃ A' n' c', e = .returned (.agg #[.slice A' n' c']) ∧ Num w' w.heap.size A' n' c' 7 ∧ n' ≤ 1 ∧ Below w.heap.size w w' := ofSmall 7 (by omega) w

theorem sumRow : Dig.Norm [0, 1] ∧ Dig.Below LB [0, 1] ∧ Dig.val LB [0, 1] = topN + 1 := by
  refine ⟨rfl, Dig.Below.cons LB_pos (Dig.Below.cons (by unfold LB; omega) (Dig.Below.nil _)), ?_⟩
  simp [Dig.val, topN, LB]
theorem prodRow : Dig.Norm [1, LB - 2] ∧ Dig.Below LB [1, LB - 2] ∧ Dig.val LB [1, LB - 2] = topN * topN := by
  refine ⟨Dig.norm_snoc (l := [1]) (by unfold LB; omega), Dig.Below.cons (by unfold LB; omega) (Dig.Below.cons (by unfold LB; omega) (Dig.Below.nil _)), ?_⟩
  simp [Dig.val, topN, LB]

theorem capOne : ¬ Fit 1 (topN + 1) := by
  have e : capN 1 = 1 := rfl
  unfold Fit topN LB
  rw [e]
  omega

theorem two_cells {w : World} {B x y : Nat} {A : Option Addr} (h : Row w B .u64 A 2 [x, y]) : ∃ ad, A = some ad ∧ w.cell? ad = some (.int .u64 x) ∧ w.cell? ⟨ad.block, ad.off + 1, none⟩ = some (.int .u64 y) := by
  obtain ⟨ad, e, _, h0⟩ := h.at_ (i := 0) (by omega)
  obtain ⟨ad', e', _, h1⟩ := h.at_ (i := 1) (by omega)
  rw [e] at e'
  injection e' with e'
  subst e'
  exact ⟨ad, e, h0, h1⟩
theorem ends_sum {w : World} {B : Nat} {A : Option Addr} (h : Row w B .u64 A 2 [0, 1]) : ∃ ad, A = some ad ∧ w.cell? ad = some (.int .u64 0) ∧ w.cell? ⟨ad.block, ad.off + 1, none⟩ = some (.int .u64 1) := two_cells h
theorem ends_prod {w : World} {B : Nat} {A : Option Addr} (h : Row w B .u64 A 2 [1, LB - 2]) : ∃ ad, A = some ad ∧ w.cell? ad = some (.int .u64 1) ∧ w.cell? ⟨ad.block, ad.off + 1, none⟩ = some (.int .u64 18446744073709551614) := two_cells h

/-- All, of a number whose limbs are known. -/
theorem natAllNum {A : Option Addr} {n c N b : Nat} {w : World} (h : Num w b A n c N) (l : List Nat) (h1 : Dig.Norm l) (h2 : Dig.Below LB l) (h3 : Dig.val LB l = N) (h8 : n ≤ 1000000000000) :
    Calls Try.prog 29 #[.agg #[.slice A n c]] w fun e w' => ∃ A' c', e = .returned (.slice A' l.length c') ∧ Own w' w.heap.size 23 .u64 A' l.length c' l ∧ Below w.heap.size w w' ∧ (A = none → A' = none ∧ c' = 0) := by
  obtain ⟨hr, hn⟩ := h.row_of l h1 h2 h3
  subst hn
  exact natAll A _ c l w hr h.le.1 (by omega)

set_option maxHeartbeats 1000000 in
theorem works_any (w : World) : Calls Try.prog 7 #[] w fun e w' => e = .returned (.bool true) ∧ Below w.heap.size w w' := by
  go_enter Try.func7, Try.ntmps7
  go_wp2_with fail
  refine (ofTop _).mono ?_
  rintro e w1 ⟨A1, n1, c1, rfl, hnum1, hn1, hb1⟩
  go_wp2_with fail
  have hbx : Below w.heap.size w (w1.alloc (.cells #[.slice A1 n1 c1] 28)) := hb1.alloc hb1.size _
  have hnx : Num (w1.alloc (.cells #[.slice A1 n1 c1] 28)) w.heap.size A1 n1 c1 topN := hnum1.below ((Below.refl _ _).alloc (Nat.le_refl _) _)
  have hcx : (w1.alloc (.cells #[.slice A1 n1 c1] 28)).cell? ⟨w1.heap.size, 0, none⟩ = some (.slice A1 n1 c1) := by simp [go_sem]
  have hfx : (w1.alloc (.cells #[.slice A1 n1 c1] 28)).frozen? ⟨w1.heap.size, 0, none⟩ = false := by simp [go_sem]
  have hb1s := hb1.size
  clear hb1 hnum1
  generalize w1.alloc (.cells #[.slice A1 n1 c1] 28) = W at *
  generalize w1.heap.size = g1 at *
  have hd0 : Below W.heap.size W W.drew := (Below.refl _ _).drew
  have hnd := hnx.below hd0
  obtain ⟨hcd, hfd⟩ := bcell1 hd0 hcx hfx
  have hbd := hbx.drew
  clear hbx hnx hcx hfx hd0
  go_region_held3 (fun w' => w'.cell? ⟨g1, 0, none⟩ = some (.slice A1 n1 c1)) (first | exact hc6 | exact hc5 | exact hc4 | exact hc3 | exact hc2 | exact hcd)
    (first
      | (go_at_call 13
         with_reducible refine (of1 _).mono ?_
         rintro e w2 ⟨A2, n2, c2, rfl, hnum2, hn2, hb2⟩
         have hn2t := hnd.below hb2
         obtain ⟨hc2, hf2⟩ := bcell1 hb2 hcd hfd)
      | (go_at_call 24
         with_reducible refine (natAdd hn2t hnum2 ?h1 ?h2).mono ?_
         case h1 => omega
         case h2 => omega
         rintro e w3 ⟨A3, n3, c3, rfl, hnum3, hn3, hb3⟩
         have hn3t := hn2t.below hb3
         obtain ⟨hc3, hf3⟩ := bcell1 hb3 hc2 hf2)
      | (go_at_call 29
         with_reducible refine (natAllNum hnum3 [0, 1] sumRow.1 sumRow.2.1 sumRow.2.2 ?h3).mono ?_
         case h3 => omega
         rintro e w4 ⟨A4, c4, rfl, hown4, hb4, _⟩
         have hn4t := hn3t.below hb4
         obtain ⟨hc4, hf4⟩ := bcell1 hb4 hc3 hf3)
      | (go_at_call 25
         with_reducible refine (natMul hn4t hn4t ?h4 ?h5).mono ?_
         case h4 => omega
         case h5 => omega
         rintro e w5 ⟨A5, n5, c5, rfl, hnum5, hn5, hb5⟩
         have hn5t := hn4t.below hb5
         obtain ⟨hc5, hf5⟩ := bcell1 hb5 hc4 hf4)
      | (go_at_call 29
         with_reducible refine (natAllNum hnum5 [1, LB - 2] prodRow.1 prodRow.2.1 prodRow.2.2 ?h6).mono ?_
         case h6 => omega
         rintro e w6 ⟨A6, c6, rfl, hown6, hb6, _⟩
         have hn6t := hn5t.below hb6
         obtain ⟨hc6, hf6⟩ := bcell1 hb6 hc5 hf5))
  have hs2 := hb2.size
  have hs3 := hb3.size
  have hs4 := hb4.size
  have hs5 := hb5.size
  have hs6 := hb6.size
  have hds : W.drew.heap.size = W.heap.size := rfl
  have hbW := hbd.size
  have hbw6 : Below w.heap.size w w6 := ((((hbd.trans (hb2.mono (by omega))).trans (hb3.mono (by omega))).trans (hb4.mono (by omega))).trans (hb5.mono (by omega))).trans (hb6.mono (by omega))
  have ra : Row w6 w6.heap.size .u64 A4 2 [0, 1] := (((hown4.row.below hb5).more hs5).below hb6).more hs6
  have rb : Row w6 w6.heap.size .u64 A6 2 [1, LB - 2] := hown6.row
  have hg6 : g1 < w6.heap.size := World.block_lt_of_cell? w6 ⟨g1, 0, none⟩ hc6
  have hw6 := hbw6.size
  clear hown4 hown6 hb2 hb3 hb4 hb5 hb6 hbd hnd hcd hfd hn2t hc2 hf2 hn3t hc3 hf3 hn4t hc4 hf4 hn5t hc5 hf5 hnum2 hnum3 hnum5 hn2 hn3 hn5 hs2 hs3 hs4 hs5 hs6 hds hbW
  go_wp2_with fail
  refine (of5 _).mono ?_
  rintro e w7 ⟨A7, n7, c7, rfl, hnum7, hn7, hb7⟩
  go_wp2_with fail
  refine (of7 _).mono ?_
  rintro e w8 ⟨A8, n8, c8, rfl, hnum8, hn8, hb8⟩
  go_wp2_with fail
  refine (natSub_less (hnum7.below hb8) hnum8 (by omega)).mono ?_
  rintro e w9 ⟨rfl, hb9⟩
  have hs7 := hb7.size
  have hs8 := hb8.size
  have hs9 := hb9.size
  have hb69 : Below w6.heap.size w6 w9 := (hb7.trans (hb8.mono (by omega))).trans (hb9.mono (by omega))
  have ht9 := hn6t.below hb69
  obtain ⟨hc9, hf9⟩ := bcell1 hb69 hc6 hf6
  have ra9 := (ra.below hb69).more hb69.size
  have rb9 := (rb.below hb69).more hb69.size
  have hbw9 : Below w.heap.size w w9 := hbw6.trans (hb69.mono hw6)
  clear hb7 hb8 hb9 hnum7 hnum8 hn7 hn8 hs7 hs8 hs9 hb69 hbw6 hn6t hc6 hf6 ra rb hg6 hw6
  go_wp2_with fail
  have hbA : Below w9.heap.size w9 (w9.alloc (.cells #[.slice none 0 0] 28)).drew := ((Below.refl _ _).alloc (Nat.le_refl _) _).drew
  have htA := ht9.below hbA
  obtain ⟨hcA, hfA⟩ := bcell1 hbA hc9 hf9
  have raA := (ra9.below hbA).more hbA.size
  have rbA := (rb9.below hbA).more hbA.size
  have hbwA : Below w.heap.size w (w9.alloc (.cells #[.slice none 0 0] 28)).drew := hbw9.trans (hbA.mono hbw9.size)
  clear hbA ht9 hc9 hf9 ra9 rb9 hbw9
  generalize w9.alloc (.cells #[.slice none 0 0] 28) = V at *
  have hgA : g1 < V.drew.heap.size := World.block_lt_of_cell? V.drew ⟨g1, 0, none⟩ hcA
  have hgA' : g1 < V.heap.size := hgA
  have hone := Lib.hid capOne
  go_region_held3 (fun w' => w'.cell? ⟨g1, 0, none⟩ = some (.slice A1 n1 c1)) (first | exact hcA | exact hcB | exact hcE | exact hcC | exact hcF | exact hcG | (rw [World.cell?_alloc_past _ _ _ hgA]; exact hcA) | exact (World.cell?_alloc_past (w := V) _ _ _ hgA).trans hcA | (rw [World.cell?_alloc_past _ _ _ hgB]; exact hcB) | (rw [World.cell?_alloc_past _ _ _ hgC]; exact hcC) | (rw [World.cell?_setCell_other _ _ _ _ (by intro e; injection e; omega)]; exact hcF) | (rw [World.cell?_setCell_other _ _ _ _ (by intro e; injection e; omega)]; exact hcG))
    (first
      | (go_at_call 13
         with_reducible refine (of1 V.drew).mono ?_
         rintro e wB ⟨AB, nB, cB, rfl, hnumB, hnB, hbB⟩
         have hVB : Below V.drew.heap.size V.drew wB := hbB
         have htB := htA.below hVB
         obtain ⟨hcB, hfB⟩ := bcell1 hVB hcA hfA
         have hgB : g1 < wB.heap.size := World.block_lt_of_cell? wB ⟨g1, 0, none⟩ hcB)
      | (go_at_call 13
         with_reducible refine (of1 (V.alloc _).drew).mono ?_
         rintro e wE ⟨AE, nE, cE, rfl, hnumE, hnE, hbE⟩
         have hVE : Below V.drew.heap.size V.drew wE := ((Below.refl V.drew.heap.size V.drew).alloc (Nat.le_refl _) _).trans (hbE.mono (show V.heap.size ≤ (V.alloc _).heap.size by simp))
         have htE := htA.below hVE
         obtain ⟨hcE, hfE⟩ := bcell1 hVE hcA hfA
         have hgE : g1 < wE.heap.size := World.block_lt_of_cell? wE ⟨g1, 0, none⟩ hcE
         obtain ⟨hcY, hfY⟩ := bcell1 hbE (b := V.heap.size) (o := 0) (v := .slice none 0 0) (World.cell?_alloc_at (w := V) #[.slice none 0 0] 28 _ 0 rfl) (World.frozen?_alloc_at (w := V) #[.slice none 0 0] 28 _ 0 rfl))
      | (go_at_call 21
         with_reducible refine (capAdd_no 1 htB hnumB ?h1 ?h2 ?h3).mono ?_
         case h1 => omega
         case h2 => omega
         case h3 => exact hone.out
         rintro e wC ⟨rfl, hbC⟩
         have hVC : Below V.drew.heap.size V.drew wC := hVB.trans (hbC.mono hVB.size)
         obtain ⟨hcC, hfC⟩ := bcell1 hVC hcA hfA
         have hgC : g1 < wC.heap.size := World.block_lt_of_cell? wC ⟨g1, 0, none⟩ hcC)
      | (go_at_call 21
         with_reducible refine (capAdd_no 1 (htB.alloc _) (hnumB.alloc _) ?h1 ?h2 ?h3).mono ?_
         case h1 => omega
         case h2 => omega
         case h3 => exact hone.out
         rintro e wF ⟨rfl, hbF⟩
         have hVF : Below V.drew.heap.size V.drew wF := (hVB.alloc hVB.size _).trans (hbF.mono (by have := hVB.size; simp at *; omega))
         obtain ⟨hcF, hfF⟩ := bcell1 hVF hcA hfA
         have hgF : g1 < wF.heap.size := World.block_lt_of_cell? wF ⟨g1, 0, none⟩ hcF
         obtain ⟨hcZ, hfZ⟩ := bcell1 hbF (b := wB.heap.size) (o := 0) (v := .slice none 0 0) (World.cell?_alloc_at _ _ _ _ rfl) (World.frozen?_alloc_at _ _ _ _ rfl))
      | (go_at_call 21
         with_reducible refine (capAdd_no 1 htE hnumE ?h1 ?h2 ?h3).mono ?_
         case h1 => omega
         case h2 => omega
         case h3 => exact hone.out
         rintro e wG ⟨rfl, hbG⟩
         have hVG : Below V.drew.heap.size V.drew wG := hVE.trans (hbG.mono hVE.size)
         obtain ⟨hcG, hfG⟩ := bcell1 hVG hcA hfA
         have hgG : g1 < wG.heap.size := World.block_lt_of_cell? wG ⟨g1, 0, none⟩ hcG
         obtain ⟨hcZ, hfZ⟩ := bcell1 hbG hcY hfY))
  · have hsV : V.drew.heap.size = V.heap.size := rfl
    have hsw := hbwA.size
    have hfin := (hbwA.trans (hVC.mono hsw)).alloc (by have := hVC.size; omega) (.cells #[.slice none 0 0] 28)
    obtain ⟨ad4, rfl, p0, p1⟩ := ends_sum (((raA.below hVC).more hVC.size).alloc (Nat.le_refl _) (.cells #[.slice none 0 0] 28))
    obtain ⟨ad6, rfl, q0, q1⟩ := ends_prod (((rbA.below hVC).more hVC.size).alloc (Nat.le_refl _) (.cells #[.slice none 0 0] 28))
    clear hcC hgC hVC raA rbA hbwA hcA hfA htA hone
    go_wp2_with fail
    go_ret
    exact ⟨rfl, hfin⟩
  · have hsV : V.drew.heap.size = V.heap.size := rfl
    have hsw := hbwA.size
    have hfin := (hbwA.trans (hVF.mono hsw)).setCell (p := ⟨wB.heap.size, 0, none⟩) (Nat.le_trans hsw hVB.size) (.slice none 0 0)
    obtain ⟨ad4, rfl, p0, p1⟩ := ends_sum ((raA.below hVF).setFar (p := ⟨wB.heap.size, 0, none⟩) hVB.size (.slice none 0 0))
    obtain ⟨ad6, rfl, q0, q1⟩ := ends_prod ((rbA.below hVF).setFar (p := ⟨wB.heap.size, 0, none⟩) hVB.size (.slice none 0 0))
    clear hcF hgF hVF raA rbA hbwA hcA hfA htA hone hVB hcB hgB hcZ
    go_wp2_with fail
    go_ret
    exact ⟨rfl, hfin⟩
  · have hsV : V.drew.heap.size = V.heap.size := rfl
    have hsw := hbwA.size
    have hfin := (hbwA.trans (hVG.mono hsw)).setCell (p := ⟨V.heap.size, 0, none⟩) hsw (.slice none 0 0)
    obtain ⟨ad4, rfl, p0, p1⟩ := ends_sum ((raA.below hVG).setFar (p := ⟨V.heap.size, 0, none⟩) (Nat.le_refl _) (.slice none 0 0))
    obtain ⟨ad6, rfl, q0, q1⟩ := ends_prod ((rbA.below hVG).setFar (p := ⟨V.heap.size, 0, none⟩) (Nat.le_refl _) (.slice none 0 0))
    clear hcG hgG hVG raA rbA hbwA hcA hfA htA hone hVE hcE hgE hcY hcZ
    go_wp2_with fail
    go_ret
    exact ⟨rfl, hfin⟩
end Go.Proofs.Ytamknndngjoncaa
