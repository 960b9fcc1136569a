/- The contracts of layer 5's Right and Same. -/
import Derived.Test.YthlpldmodflmjaaDoorTok3
namespace Go.Proofs.YthlpldmodflmjaaDoor
open Go.RowKit

set_option maxHeartbeats 4000000 in
set_option maxRecDepth 100000 in
theorem tokRight_ : TokRightC := by
  intro k x n l c w hL hx hk hn
  have hsz : (⟨x.toArray⟩ : ByteArray).size = x.length := by simp [ByteArray.size]
  have q1 : ∀ w, LaidR w → Calls Tryd.prog 32 #[.string ⟨x.toArray⟩, .int .i64 0] w fun e w' => e = .returned (pieceA (⟨x.toArray⟩ : ByteArray).data.toList (0 + skipL ((⟨x.toArray⟩ : ByteArray).data.toList.drop 0) false)) ∧ Below w.heap.size w w' := fun w hL => tokCut ⟨x.toArray⟩ 0 (by omega) (by omega) w hL
  rw [show (⟨x.toArray⟩ : ByteArray).data.toList = x by simp, List.drop_zero, Nat.zero_add] at q1
  have hR := right_piece ⟨k, x, n, l, c⟩
  simp only at hR
  rw [hR]
  unfold pieceA at q1
  obtain ⟨q, hq⟩ : ∃ q, skipL x false = q := ⟨_, rfl⟩
  rw [hq] at q1 ⊢
  obtain ⟨k', E, n', err, hP⟩ : ∃ k E n err, pieceQ x q = (k, E, n, err) := ⟨_, _, _, _, rfl⟩
  rw [hP] at q1 ⊢
  simp only at q1 ⊢
  have hbx := Box.new w [.int .i64 k, .string ⟨x.toArray⟩, .int .i64 n, .int .i64 l, .int .i64 c] 34
  have hb0 := bnew5 w (.cells #[.int .i64 k, .string ⟨x.toArray⟩, .int .i64 n, .int .i64 l, .int .i64 c] 34)
  have hH := Lib.hid (And.intro hbx (And.intro hb0 (hL.below hb0)))
  clear hR hq hP hL hk hn hbx hb0
  obtain ⟨b, hb⟩ : ∃ b, b = (decide (k' = k) && decide (q = 0) && decide (E = x.length) && decide (n' = n) && decide (err = 0)) := ⟨_, rfl⟩
  rw [← hb]
  rw [← hsz, show decide (q = 0) = decide ((q : Int) = 0) by simp only [decide_eq_decide]; omega, show decide (E = (⟨x.toArray⟩ : ByteArray).size) = decide ((E : Int) = ((⟨x.toArray⟩ : ByteArray).size : Int)) by simp only [decide_eq_decide]; omega] at hb
  have HB := Lib.hid hb
  clear hb hsz hx
  generalize (⟨x.toArray⟩ : ByteArray) = xs at *
  generalize (q : Int) = qi at *
  generalize (E : Int) = Ei at *
  have hcs : (¬ k' = k) ∨ (k = k' ∧ ¬ qi = 0) ∨ (k = k' ∧ qi = 0 ∧ ¬ Ei = xs.size) ∨ (k = k' ∧ qi = 0 ∧ Ei = xs.size ∧ ¬ n' = n) ∨ (k = k' ∧ qi = 0 ∧ Ei = xs.size ∧ n = n' ∧ ¬ err = 0) ∨ (k = k' ∧ qi = 0 ∧ Ei = xs.size ∧ n = n' ∧ err = 0) := by omega
  rcases hcs with h | ⟨rfl, h⟩ | ⟨rfl, rfl, h⟩ | ⟨rfl, rfl, rfl, h⟩ | ⟨rfl, rfl, rfl, rfl, h⟩ | ⟨rfl, rfl, rfl, rfl, rfl⟩
  all_goals
   (go_enter Tryd.func16, Tryd.ntmps16
    go_wp2_with fail
    generalize w.alloc (.cells #[.int .i64 k, .string xs, .int .i64 n, .int .i64 l, .int .i64 c] 34) = W at *
    have hd := (Below.refl W.heap.size W).drew
    have h1 := Lib.hid (And.intro (hH.out.1.step hd) (And.intro (bth5 hH.out.2.1 hd) (hH.out.2.2.below hd)))
    clear hd hH
    have s0 := h1.out.1.three
    have q1 := q1 W.drew h1.out.2.2
    go_region_held3 (fun w' => w'.cell? ⟨w.heap.size, 0, none⟩ = some (.int .i64 k) ∧ w'.cell? ⟨w.heap.size, 1, none⟩ = some (.string xs) ∧ w'.cell? ⟨w.heap.size, 2, none⟩ = some (.int .i64 n)) (first | with_reducible exact s0 | with_reducible exact s1)
      (first
        | (go_at_call 32
           with_reducible refine q1.mono ?_
           rintro e w2 ⟨rfl, hb2⟩
           have h2 := Lib.hid (And.intro (h1.out.1.step hb2) (bth5 h1.out.2.1 hb2))
           have s1 := h2.out.1.three))
    go_wp2_with fail
    go_ret
    exact ⟨by rw [HB.out]; simp [*], h2.out.2⟩)

set_option maxHeartbeats 2000000 in
theorem tokSame_ : TokSameC := by
  intro k x n l c k' x' n' l' c' w
  go_enter Tryd.func18, Tryd.ntmps18
  go_wp2_with fail
  all_goals
    (go_ret
     exact ⟨by unfold sameV; simp [*], bth5 (bnew5 _ _) (bnew5 _ _)⟩)
end Go.Proofs.YthlpldmodflmjaaDoor
