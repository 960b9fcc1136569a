/- The contracts of the reference's digit, letter, IsWord, IsInt of layer 5. -/
import Derived.Test.YthlpldmodflmjaaDoorTokA
import Derived.Test.YthlpldmodflmjaaDoorRefS
namespace Go.Proofs.YthlpldmodflmjaaDoor
open Go.RowKit

theorem byte_is (s : ByteArray) (i : Nat) (hi : i < s.size) : ∃ c : UInt8, s.data.toList[i]? = some c ∧ ∀ w, (Go.Instr.index 9 (.string s) (.int .i64 (i : Int))).run Tryd.prog w = .ok (.int .u8 ((c.toNat : Nat) : Int)) w := by
  refine ⟨s[i]'hi, ?_, fun w => ?_⟩
  · rw [List.getElem?_eq_getElem (by rw [size_len_]; exact hi)]; rfl
  · rw [run_index_string w 9 s .i64 i Tryd.underlying9, dif_pos ⟨by omega, by omega⟩]
    simp

set_option maxHeartbeats 1000000 in
theorem refDigit (z : Int) (h0 : 0 ≤ z) (w : World) : Calls Tryd.prog 47 #[.int .u8 z] w fun e w' => e = .returned (.bool (decide (48 ≤ z ∧ z ≤ 57))) ∧ w' = w := by
  have hc : z < 48 ∨ (48 ≤ z ∧ z ≤ 57) ∨ (48 ≤ z ∧ ¬ z ≤ 57) := by omega
  have hv : Hid (decide (48 ≤ z ∧ z ≤ 57) = (decide (48 ≤ z) && decide (z ≤ 57))) := by show decide (48 ≤ z ∧ z ≤ 57) = _; simp
  generalize decide (48 ≤ z ∧ z ≤ 57) = b at *
  rcases hc with h | ⟨h, h2⟩ | ⟨h, h2⟩
  · have h3 : ¬ 48 ≤ z := by omega
    have hv := Lib.hid (hv.out.trans (by simp [h3]) : b = false)
    go_enter Tryd.func47, Tryd.ntmps47
    go_wp2_with fail
    go_ret
    exact ⟨by rw [hv.out]; first | rfl | simp [h3], rfl⟩
  · have hv := Lib.hid (hv.out.trans (by simp [h, h2]) : b = true)
    go_enter Tryd.func47, Tryd.ntmps47
    go_wp2_with fail
    go_ret
    exact ⟨by rw [hv.out]; first | rfl | simp [h, h2], rfl⟩
  · have hv := Lib.hid (hv.out.trans (by simp [h2]) : b = false)
    go_enter Tryd.func47, Tryd.ntmps47
    go_wp2_with fail
    go_ret
    exact ⟨by rw [hv.out]; first | rfl | simp [h, h2], rfl⟩

set_option maxHeartbeats 1000000 in
theorem refLetter (z : Int) (h0 : 0 ≤ z) (w : World) : Calls Tryd.prog 46 #[.int .u8 z] w fun e w' => e = .returned (.bool (decide (97 ≤ z ∧ z ≤ 122 ∨ 65 ≤ z ∧ z ≤ 90 ∨ z = 95))) ∧ w' = w := by
  have hc : (z < 65) ∨ (65 ≤ z ∧ z ≤ 90) ∨ (90 < z ∧ z < 95) ∨ (z = 95) ∨ (z = 96) ∨ (97 ≤ z ∧ z ≤ 122) ∨ (122 < z) := by omega
  obtain ⟨b, hb⟩ : ∃ b, b = decide (97 ≤ z ∧ z ≤ 122 ∨ 65 ≤ z ∧ z ≤ 90 ∨ z = 95) := ⟨_, rfl⟩
  rw [← hb]
  have HB := Lib.hid hb
  clear hb
  rcases hc with h | h | h | rfl | rfl | h | h
  · have hv : Hid (b = false) := HB.out.trans (by simp; try omega)
    have f0 : ¬ 97 ≤ z := by omega
    have f1 : ¬ 65 ≤ z := by omega
    have f2 : ¬ z = 95 := by omega
    clear h HB
    go_enter Tryd.func46, Tryd.ntmps46
    go_wp2_with fail
    go_ret
    exact ⟨by rw [hv.out]; first | rfl | simp [*], rfl⟩
  · have hv : Hid (b = true) := HB.out.trans (by simp; try omega)
    have f0 : ¬ 97 ≤ z := by omega
    have f1 : 65 ≤ z := by omega
    have f2 : z ≤ 90 := by omega
    clear h HB
    go_enter Tryd.func46, Tryd.ntmps46
    go_wp2_with fail
    go_ret
    exact ⟨by rw [hv.out]; first | rfl | simp [*], rfl⟩
  · have hv : Hid (b = false) := HB.out.trans (by simp; try omega)
    have f0 : ¬ 97 ≤ z := by omega
    have f1 : 65 ≤ z := by omega
    have f2 : ¬ z ≤ 90 := by omega
    have f3 : ¬ z = 95 := by omega
    clear h HB
    go_enter Tryd.func46, Tryd.ntmps46
    go_wp2_with fail
    go_ret
    exact ⟨by rw [hv.out]; first | rfl | simp [*], rfl⟩
  · have hv : Hid (b = true) := HB.out.trans (by simp; try omega)
    clear HB
    go_enter Tryd.func46, Tryd.ntmps46
    go_wp2_with fail
    go_ret
    exact ⟨by rw [hv.out]; first | rfl | simp [*], rfl⟩
  · have hv : Hid (b = false) := HB.out.trans (by simp; try omega)
    clear HB
    go_enter Tryd.func46, Tryd.ntmps46
    go_wp2_with fail
    go_ret
    exact ⟨by rw [hv.out]; first | rfl | simp [*], rfl⟩
  · have hv : Hid (b = true) := HB.out.trans (by simp; try omega)
    have f0 : 97 ≤ z := by omega
    have f1 : z ≤ 122 := by omega
    clear h HB
    go_enter Tryd.func46, Tryd.ntmps46
    go_wp2_with fail
    go_ret
    exact ⟨by rw [hv.out]; first | rfl | simp [*], rfl⟩
  · have hv : Hid (b = false) := HB.out.trans (by simp; try omega)
    have f0 : 97 ≤ z := by omega
    have f1 : ¬ z ≤ 122 := by omega
    have f2 : 65 ≤ z := by omega
    have f3 : ¬ z ≤ 90 := by omega
    have f4 : ¬ z = 95 := by omega
    clear h HB
    go_enter Tryd.func46, Tryd.ntmps46
    go_wp2_with fail
    go_ret
    exact ⟨by rw [hv.out]; first | rfl | simp [*], rfl⟩

theorem refDigitB (c : UInt8) (w : World) : Calls Tryd.prog 47 #[.int .u8 ((c.toNat : Nat) : Int)] w fun e w' => e = .returned (.bool (dgt c)) ∧ w' = w := by
  have h := refDigit ((c.toNat : Nat) : Int) (by omega) w
  rwa [show decide (48 ≤ ((c.toNat : Nat) : Int) ∧ ((c.toNat : Nat) : Int) ≤ 57) = dgt c by unfold dgt; congr 1; simp; omega] at h
theorem refLetterB (c : UInt8) (w : World) : Calls Tryd.prog 46 #[.int .u8 ((c.toNat : Nat) : Int)] w fun e w' => e = .returned (.bool (ltr c)) ∧ w' = w := by
  have h := refLetter ((c.toNat : Nat) : Int) (by omega) w
  rwa [show decide (97 ≤ ((c.toNat : Nat) : Int) ∧ ((c.toNat : Nat) : Int) ≤ 122 ∨ 65 ≤ ((c.toNat : Nat) : Int) ∧ ((c.toNat : Nat) : Int) ≤ 90 ∨ ((c.toNat : Nat) : Int) = 95) = ltr c by unfold ltr; congr 1; simp; omega] at h

set_option maxHeartbeats 1000000 in
theorem refIsInt (s : ByteArray) (hs : s.size ≤ 100000) (w : World) : Calls Tryd.prog 34 #[.string s] w fun e w' => e = .returned (.bool (isIntB s.data.toList)) ∧ w' = w := by
  obtain ⟨b, hb⟩ : ∃ b, b = isIntB s.data.toList := ⟨_, rfl⟩
  rw [← hb]
  have HB := Lib.hid hb
  clear hb
  go_enter Tryd.func34, Tryd.ntmps34
  go_wp2_with fail
  go_loopw [3] (fun v W => ∃ i : Nat, i ≤ s.size ∧ v = .int .i64 i ∧ Hid (∀ j, j < i → ∀ c, s.data.toList[j]? = some c → dgt c = true) ∧ W = w) (fun v _ => s.size - (intOf v).toNat)
  case atStart => exact ⟨0, by omega, rfl, fun j hj => absurd hj (by omega), rfl⟩
  case round =>
    obtain ⟨i, hi, rfl, hst, rfl⟩ := hrel
    by_cases hlt : i < s.size
    · have hlt' : (i : Int) < s.size := by omega
      obtain ⟨c, hc, hidx⟩ := byte_is s i hlt
      have hq := fun w => refDigitB c w
      have HC := Lib.hid hc
      clear hc
      go_wp2_with fail
      refine (hq _).mono ?_
      rintro e w1 ⟨rfl, rfl⟩
      cases hd : dgt c with
      | true =>
        have hst2 : Hid (∀ j, j < i + 1 → ∀ c, s.data.toList[j]? = some c → dgt c = true) := fun j hj d hdj => by
          rcases Nat.lt_or_ge j i with h | h
          · exact hst.out j h d hdj
          · obtain rfl : j = i := by omega
            have := HC.out.symm.trans hdj
            injection this with this
            rw [← this, hd]
        clear hst hq hd
        go_wp2_with fail
        exact ⟨⟨i + 1, by omega, by go_num, hst2, by first | rfl | trivial⟩, by simp [intOf]; omega⟩
      | false =>
        have hv : Hid (b = false) := by
          show b = false
          rw [HB.out, Bool.eq_false_iff]
          intro h
          have := ((isIntB_iff _).1 h).2 i (by rw [size_len_]; exact hlt) c HC.out
          rw [hd] at this
          cases this
        clear hst hq hd
        go_wp2_with fail
        go_ret
        exact ⟨by rw [hv.out]; rfl, rfl⟩
    · obtain rfl : i = s.size := by omega
      have hlt' : ¬ (s.size : Int) < s.size := by omega
      have hv : Hid (b = decide (0 < s.size)) := by
        show b = _
        rw [HB.out, Bool.eq_iff_iff, isIntB_iff]
        have hl := size_len_ s
        constructor
        · rintro ⟨h, _⟩
          have := List.length_pos_iff.2 h
          simp; omega
        · intro h
          simp at h
          exact ⟨List.length_pos_iff.1 (by omega), fun j hj => hst.out j (by omega)⟩
      clear hst
      go_wp2_with fail
      go_ret
      exact ⟨by rw [hv.out]; first | rfl | simp, rfl⟩
end Go.Proofs.YthlpldmodflmjaaDoor
