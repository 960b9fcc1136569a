/- The contract of layer 5's Next. -/
import Derived.Test.YthlpldmodflmjaaDoorTok1
namespace Go.Proofs.YthlpldmodflmjaaDoor
open Go.RowKit

set_option maxHeartbeats 4000000 in
set_option maxRecDepth 100000 in
theorem tokNext_ : TokNextC := by
  intro s z w hL hs hz
  have hl := size_len_ s
  obtain ⟨p, hp⟩ : ∃ p, p = clampP s.data.toList z := ⟨_, rfl⟩
  have hple : p ≤ s.size := by rw [hp, ← hl]; exact clampP_le _ _
  have hmx : min (max z 0) (s.size : Int) = p := by rw [hp]; unfold clampP; rw [hl]; omega
  have hV : nextV s.data.toList z = nextP s.data.toList p := by unfold nextV; rw [← hp]
  rw [hV]
  have q1 := fun w => posOf_yes s p hple (by omega) w
  have q2 := fun w hL => tokAfter s p hple (by omega) _ _ ⟨rfl, rfl⟩ w hL
  obtain ⟨⟨l, c⟩, hsp⟩ : ∃ b, spot s.data.toList p = b := ⟨_, rfl⟩
  rw [hsp] at q1 q2
  obtain ⟨⟨⟨k, x, n, tl, tc⟩, E, fl, fc, fe⟩, hN⟩ : ∃ r, nextP s.data.toList p = r := ⟨_, rfl⟩
  rw [hN] at q2 ⊢
  unfold nextA TokV.cells at q2 ⊢
  simp only at q1 q2 ⊢
  clear hV hp hsp hN
  have hr0 := (Box.new w [.int .i64 0, .string ⟨#[]⟩, .int .i64 0, .int .i64 0, .int .i64 0] 34).step (bnew5 _ (.cells #[.int .i64 0, .int .i64 0, .int .i64 0] 36))
  have hr1 := Box.new (w.alloc (.cells #[.int .i64 0, .string ⟨#[]⟩, .int .i64 0, .int .i64 0, .int .i64 0] 34)) [.int .i64 0, .int .i64 0, .int .i64 0] 36
  have hb0 := bth5 (bnew5 w (.cells #[.int .i64 0, .string ⟨#[]⟩, .int .i64 0, .int .i64 0, .int .i64 0] 34)) (bnew5 _ (.cells #[.int .i64 0, .int .i64 0, .int .i64 0] 36))
  rw [show (w.alloc (.cells #[.int .i64 0, .string ⟨#[]⟩, .int .i64 0, .int .i64 0, .int .i64 0] 34)).heap.size = w.heap.size + 1 by simp] at hr1
  have hH := Lib.hid (And.intro hr0 (And.intro hr1 hb0))
  have hL0 := Lib.hid hL
  clear hple hz hr0 hr1 hb0 hL
  go_enter Tryd.func9, Tryd.ntmps9
  go_wp2_with fail
  generalize (w.alloc (.cells #[.int .i64 0, .string ⟨#[]⟩, .int .i64 0, .int .i64 0, .int .i64 0] 34)).alloc (.cells #[.int .i64 0, .int .i64 0, .int .i64 0] 36) = W0 at *
  refine (q1 _).mono ?_
  rintro e w1 ⟨rfl, hb1⟩
  have hbn := bnew5 w1 (.cells #[.int .i64 l, .int .i64 c] 32)
  have hH1 := Lib.hid (And.intro ((hH.out.1.step hb1).step hbn) (And.intro ((hH.out.2.1.step hb1).step hbn) (And.intro (bth5 (bth5 hH.out.2.2 hb1) hbn) (hL0.out.below (bth5 (bth5 hH.out.2.2 hb1) hbn)))))
  clear q1 hb1 hbn hH hmx
  go_wp2_with fail
  refine (q2 _ hH1.out.2.2.2).mono ?_
  rintro e w2 ⟨rfl, hb2⟩
  have hr0 := hH1.out.1.step hb2
  have hr1 := hH1.out.2.1.step hb2
  have hbw := Lib.hid (bth5 hH1.out.2.2.1 hb2)
  obtain ⟨t0, t1, t2, t3, t4⟩ := hr0.five5
  obtain ⟨y0, y1, y2, y3, y4⟩ := hr0.frz5
  obtain ⟨f0, f1, f2⟩ := hr1.three
  have x0 := (hr1 0 _ rfl).2
  have x1 := (hr1 1 _ rfl).2
  have x2 := (hr1 2 _ rfl).2
  clear hH1 hb2 hr0 hr1 q2
  go_wp2_with fail
  refine bodyPost_ret (v := .tuple #[.agg #[.int .i64 k, .string ⟨x.toArray⟩, .int .i64 n, .int .i64 tl, .int .i64 tc], .int .i64 E, .agg #[.int .i64 fl, .int .i64 fc, .int .i64 fe]]) (by simp [results, Tryd.results9, go_sem, t0, t1, t2, t3, t4, f0, f1, f2]) rfl ?_
  exact ⟨rfl, (((((((hbw.out.setCell (Nat.le_refl _) _).setCell (Nat.le_refl _) _).setCell (Nat.le_refl _) _).setCell (Nat.le_refl _) _).setCell (Nat.le_refl _) _).setCell (Nat.le_succ _) _).setCell (Nat.le_succ _) _).setCell (Nat.le_succ _) _⟩
end Go.Proofs.YthlpldmodflmjaaDoor
