/- The contracts of the reference's IsWord, IsSign of layer 5. -/
import Derived.Test.YthlpldmodflmjaaDoorTokB
namespace Go.Proofs.YthlpldmodflmjaaDoor
open Go.RowKit

set_option maxHeartbeats 1000000 in
theorem refIsWord (s : ByteArray) (hs : s.size ≤ 100000) (w : World) : Calls Tryd.prog 33 #[.string s] w fun e w' => e = .returned (.bool (isWordB s.data.toList)) ∧ w' = w := by
  obtain ⟨b, hb⟩ : ∃ b, b = isWordB s.data.toList := ⟨_, rfl⟩
  rw [← hb]
  have HB := Lib.hid hb
  clear hb
  go_enter Tryd.func33, Tryd.ntmps33
  go_wp2_with fail
  go_loopw [3] (fun v W => ∃ i : Nat, i ≤ s.size ∧ v = .int .i64 i ∧ Hid (∀ j, j < i → ∀ c, s.data.toList[j]? = some c → ltr c = true ∨ (j ≠ 0 ∧ dgt c = true)) ∧ W = w) (fun v _ => s.size - (intOf v).toNat)
  case atStart => exact ⟨0, by omega, rfl, fun j hj => absurd hj (by omega), rfl⟩
  case round =>
    obtain ⟨i, hi, rfl, hst, rfl⟩ := hrel
    by_cases hlt : i < s.size
    · have hlt' : (i : Int) < s.size := by omega
      obtain ⟨c, hc, hidx⟩ := byte_is s i hlt
      have hq := fun w => refLetterB c w
      have hq2 := fun w => refDigitB c w
      have HC := Lib.hid hc
      have hnext : (ltr c = true ∨ (i ≠ 0 ∧ dgt c = true)) → Hid (∀ j, j < i + 1 → ∀ c, s.data.toList[j]? = some c → ltr c = true ∨ (j ≠ 0 ∧ dgt c = true)) := fun h0 j hj d hdj => by
        rcases Nat.lt_or_ge j i with h | h
        · exact hst.out j h d hdj
        · obtain rfl : j = i := by omega
          have := HC.out.symm.trans hdj
          injection this with this
          rw [← this]
          exact h0
      have hstop : ¬ (ltr c = true ∨ (i ≠ 0 ∧ dgt c = true)) → Hid (b = false) := fun h0 => by
        show b = false
        rw [HB.out, Bool.eq_false_iff]
        intro h
        exact h0 (((isWordB_iff _).1 h).2 i (by rw [size_len_]; exact hlt) c HC.out)
      have HN := Lib.hid hnext
      have HS := Lib.hid hstop
      clear hc hnext hstop hst
      go_wp2_with fail
      refine (hq _).mono ?_
      rintro e w1 ⟨rfl, rfl⟩
      clear hq
      cases hl : ltr c with
      | true =>
        have h1 := HN.out (.inl hl)
        clear hq2 HN HS hl
        go_wp2_with fail
        exact ⟨⟨i + 1, by omega, by go_num, h1, by first | rfl | trivial⟩, by simp [intOf]; omega⟩
      | false =>
        by_cases h0 : i = 0
        · have hv := HS.out (by rw [hl, h0]; simp)
          subst h0
          clear hq2 HN HS hl
          go_wp2_with fail
          go_ret
          exact ⟨by rw [hv.out]; rfl, rfl⟩
        · have h0' : ¬ (i : Int) = 0 := by omega
          have h0'' : ((i : Int) == 0) = false := by simp [h0]
          go_wp2_with fail
          refine (hq2 _).mono ?_
          rintro e w2 ⟨rfl, rfl⟩
          clear hq2
          cases hd : dgt c with
          | true =>
            have h1 := HN.out (.inr ⟨h0, hd⟩)
            clear HN HS hl hd
            go_wp2_with fail
            exact ⟨⟨i + 1, by omega, by go_num, h1, by first | rfl | trivial⟩, by simp [intOf]; omega⟩
          | false =>
            have hv := HS.out (by rw [hl, hd]; simp)
            clear HN HS hl hd
            go_wp2_with fail
            go_ret
            exact ⟨by rw [hv.out]; rfl, rfl⟩
    · obtain rfl : i = s.size := by omega
      have hlt' : ¬ (s.size : Int) < s.size := by omega
      have hv : Hid (b = decide (0 < s.size)) := by
        show b = _
        rw [HB.out, Bool.eq_iff_iff, isWordB_iff]
        have hl := size_len_ s
        constructor
        · rintro ⟨h, _⟩
          have := List.length_pos_iff.2 h
          simp; omega
        · intro h
          simp at h
          exact ⟨List.length_pos_iff.1 (by omega), fun j hj => hst.out j (by omega)⟩
      clear hst
      go_wp2_with fail
      go_ret
      exact ⟨by rw [hv.out]; first | rfl | simp, rfl⟩
end Go.Proofs.YthlpldmodflmjaaDoor
