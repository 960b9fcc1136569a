/- The contract of the comparison of a number with the reference's. -/
import Derived.Test.YthcglobehoaocaaDoorNatD
import Derived.Test.YthcglobehoaocaaDoorRefC
namespace Go.Proofs.YthcglobehoaocaaDoor
open Go.RowKit

set_option maxHeartbeats 400000 in
theorem docNat {A : Option Addr} {n c N b : Nat} {w : World} (h : Num w b A n c N) (hn : n ≤ 1000000000) :
    Calls Tryd.prog 37 #[.agg #[.slice A n c]] w fun e w' => ∃ A1 n1 c1, e = .returned (.slice A1 n1 c1) ∧ RNum w' w.heap.size A1 n1 c1 N ∧ n1 ≤ 8 * n ∧ Below w.heap.size w w' := by
  obtain ⟨l, h1, h2, h3, h4, h5, h6, h7, h8⟩ := h
  have hb0 : Below w.heap.size w (w.alloc (.cells #[.slice A n c] 26)) := (Below.refl _ _).alloc (Nat.le_refl _) _
  have hr0 := (h1.below hb0).more hb0.size
  have hs0 : w.heap.size < (w.alloc (.cells #[.slice A n c] 26)).heap.size := by simp
  go_enter Tryd.func37, Tryd.ntmps37
  go_wp2_with fail
  refine (natAll A n c l _ hr0 h5 (by omega)).mono ?_
  rintro e w1 ⟨A1, c1, rfl, hown1, hb1, _⟩
  have hs1 := hb1.size
  go_wp2_with fail
  refine (refOf A1 n c1 l w1 hown1.row h3 (by omega)).mono ?_
  rintro e w2 ⟨A2, n2, c2, rfl, hnum2, hn2, hb2⟩
  rw [h4] at hnum2
  go_wp2_with fail
  go_ret
  exact ⟨A2, n2, c2, rfl, hnum2.mono (by omega), hn2, (hb0.trans (hb1.mono (by omega))).trans (hb2.mono (by omega))⟩

set_option maxHeartbeats 400000 in
theorem sameNat {A A' : Option Addr} {n c n' c' N b b' : Nat} {w : World} (h : Num w b A n c N) (h' : RNum w b' A' n' c' N) (hn : n ≤ 1000000000) :
    Calls Tryd.prog 14 #[.agg #[.slice A n c], .slice A' n' c'] w fun e w' => e = .returned (.bool true) ∧ Below w.heap.size w w' := by
  have hb0 : Below w.heap.size w (w.alloc (.cells #[.slice A n c] 26)) := (Below.refl _ _).alloc (Nat.le_refl _) _
  have hs0 : w.heap.size < (w.alloc (.cells #[.slice A n c] 26)).heap.size := by simp
  have hq := docNat (h.alloc (.cells #[.slice A n c] 26)) hn
  have h0' := h'.alloc (.cells #[.slice A n c] 26)
  clear h h'
  go_enter Tryd.func14, Tryd.ntmps14
  go_wp2_with fail
  refine hq.mono ?_
  rintro e w1 ⟨A1, n1, c1, rfl, hnum1, hn1, hb1⟩
  have hs1 := hb1.size
  go_wp2_with fail
  refine (refCmp_is hnum1 (h0'.below hb1) (cmpI_eq rfl)).mono ?_
  rintro e w2 ⟨rfl, hb2⟩
  go_wp2_with fail
  go_ret
  exact ⟨rfl, (hb0.trans (hb1.mono (by omega))).trans (hb2.mono (by omega))⟩
end Go.Proofs.YthcglobehoaocaaDoor
