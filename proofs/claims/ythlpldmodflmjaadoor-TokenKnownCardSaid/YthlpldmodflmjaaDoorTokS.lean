/- The contracts of layer 5's isLetter, isDigit, isSign. -/
import Derived.Test.YthlpldmodflmjaaDoorTokD
namespace Go.Proofs.YthlpldmodflmjaaDoor
open Go.RowKit

set_option maxHeartbeats 1000000 in
theorem tokDigit (z : Int) (w : World) : Calls Tryd.prog 58 #[.int .u8 z] w fun e w' => e = .returned (.bool (decide (48 ≤ z ∧ z ≤ 57))) ∧ w' = w := by
  have hc : z < 48 ∨ (48 ≤ z ∧ z ≤ 57) ∨ (48 ≤ z ∧ ¬ z ≤ 57) := by omega
  have hv : Hid (decide (48 ≤ z ∧ z ≤ 57) = (decide (48 ≤ z) && decide (z ≤ 57))) := by show decide (48 ≤ z ∧ z ≤ 57) = _; simp
  generalize decide (48 ≤ z ∧ z ≤ 57) = b at *
  rcases hc with h | ⟨h, h2⟩ | ⟨h, h2⟩
  · have h3 : ¬ 48 ≤ z := by omega
    have hv := Lib.hid (hv.out.trans (by simp [h3]) : b = false)
    go_enter Tryd.func58, Tryd.ntmps58
    go_wp2_with fail
    go_ret
    exact ⟨by rw [hv.out]; first | rfl | simp [h3], rfl⟩
  · have hv := Lib.hid (hv.out.trans (by simp [h, h2]) : b = true)
    go_enter Tryd.func58, Tryd.ntmps58
    go_wp2_with fail
    go_ret
    exact ⟨by rw [hv.out]; first | rfl | simp [h, h2], rfl⟩
  · have hv := Lib.hid (hv.out.trans (by simp [h2]) : b = false)
    go_enter Tryd.func58, Tryd.ntmps58
    go_wp2_with fail
    go_ret
    exact ⟨by rw [hv.out]; first | rfl | simp [h, h2], rfl⟩

set_option maxHeartbeats 1000000 in
theorem tokLetter (z : Int) (w : World) : Calls Tryd.prog 56 #[.int .u8 z] w fun e w' => e = .returned (.bool (decide (97 ≤ z ∧ z ≤ 122 ∨ 65 ≤ z ∧ z ≤ 90 ∨ z = 95))) ∧ w' = w := by
  have hc : (z < 65) ∨ (65 ≤ z ∧ z ≤ 90) ∨ (90 < z ∧ z < 95) ∨ (z = 95) ∨ (z = 96) ∨ (97 ≤ z ∧ z ≤ 122) ∨ (122 < z) := by omega
  obtain ⟨b, hb⟩ : ∃ b, b = decide (97 ≤ z ∧ z ≤ 122 ∨ 65 ≤ z ∧ z ≤ 90 ∨ z = 95) := ⟨_, rfl⟩
  rw [← hb]
  have HB := Lib.hid hb
  clear hb
  rcases hc with h | h | h | rfl | rfl | h | h
  · have hv : Hid (b = false) := HB.out.trans (by simp; try omega)
    have f0 : ¬ 97 ≤ z := by omega
    have f1 : ¬ 65 ≤ z := by omega
    have f2 : ¬ z = 95 := by omega
    clear HB h
    go_enter Tryd.func56, Tryd.ntmps56
    go_wp2_with fail
    go_ret
    exact ⟨by rw [hv.out]; first | rfl | simp [*], rfl⟩
  · have hv : Hid (b = true) := HB.out.trans (by simp; try omega)
    have f0 : ¬ 97 ≤ z := by omega
    have f1 : 65 ≤ z := by omega
    have f2 : z ≤ 90 := by omega
    clear HB h
    go_enter Tryd.func56, Tryd.ntmps56
    go_wp2_with fail
    go_ret
    exact ⟨by rw [hv.out]; first | rfl | simp [*], rfl⟩
  · have hv : Hid (b = false) := HB.out.trans (by simp; try omega)
    have f0 : ¬ 97 ≤ z := by omega
    have f1 : 65 ≤ z := by omega
    have f2 : ¬ z ≤ 90 := by omega
    have f3 : ¬ z = 95 := by omega
    clear HB h
    go_enter Tryd.func56, Tryd.ntmps56
    go_wp2_with fail
    go_ret
    exact ⟨by rw [hv.out]; first | rfl | simp [*], rfl⟩
  · have hv : Hid (b = true) := HB.out.trans (by simp; try omega)
    clear HB
    go_enter Tryd.func56, Tryd.ntmps56
    go_wp2_with fail
    go_ret
    exact ⟨by rw [hv.out]; first | rfl | simp [*], rfl⟩
  · have hv : Hid (b = false) := HB.out.trans (by simp; try omega)
    clear HB
    go_enter Tryd.func56, Tryd.ntmps56
    go_wp2_with fail
    go_ret
    exact ⟨by rw [hv.out]; first | rfl | simp [*], rfl⟩
  · have hv : Hid (b = true) := HB.out.trans (by simp; try omega)
    have f0 : 97 ≤ z := by omega
    have f1 : z ≤ 122 := by omega
    clear HB h
    go_enter Tryd.func56, Tryd.ntmps56
    go_wp2_with fail
    go_ret
    exact ⟨by rw [hv.out]; first | rfl | simp [*], rfl⟩
  · have hv : Hid (b = false) := HB.out.trans (by simp; try omega)
    have f0 : 97 ≤ z := by omega
    have f1 : ¬ z ≤ 122 := by omega
    have f2 : 65 ≤ z := by omega
    have f3 : ¬ z ≤ 90 := by omega
    have f4 : ¬ z = 95 := by omega
    clear HB h
    go_enter Tryd.func56, Tryd.ntmps56
    go_wp2_with fail
    go_ret
    exact ⟨by rw [hv.out]; first | rfl | simp [*], rfl⟩

theorem tokDigitB (c : UInt8) (w : World) : Calls Tryd.prog 58 #[.int .u8 ((c.toNat : Nat) : Int)] w fun e w' => e = .returned (.bool (dgt c)) ∧ w' = w := by
  have h := tokDigit ((c.toNat : Nat) : Int) w
  rwa [show decide (48 ≤ ((c.toNat : Nat) : Int) ∧ ((c.toNat : Nat) : Int) ≤ 57) = dgt c by unfold dgt; congr 1; simp; omega] at h
theorem tokLetterB (c : UInt8) (w : World) : Calls Tryd.prog 56 #[.int .u8 ((c.toNat : Nat) : Int)] w fun e w' => e = .returned (.bool (ltr c)) ∧ w' = w := by
  have h := tokLetter ((c.toNat : Nat) : Int) w
  rwa [show decide (97 ≤ ((c.toNat : Nat) : Int) ∧ ((c.toNat : Nat) : Int) ≤ 122 ∨ 65 ≤ ((c.toNat : Nat) : Int) ∧ ((c.toNat : Nat) : Int) ≤ 90 ∨ ((c.toNat : Nat) : Int) = 95) = ltr c by unfold ltr; congr 1; simp; omega] at h

theorem litNe5 {a : ByteArray} {l : List UInt8} (h : a.data.toList ≠ l) : (a.toList == l) = false := by
  simp only [beq_eq_false_iff_ne, ne_eq, ByteArray.toList_eq]
  exact h
theorem litEq5 {a : ByteArray} {l : List UInt8} (h : a.data.toList = l) : (a.toList == l) = true := by
  simp only [beq_iff_eq, ByteArray.toList_eq]
  exact h
/-- Which sign a text is, the first one; or none. -/
theorem sign_which (L : List UInt8) : (L = [124, 124]) ∨ (L ≠ [124, 124] ∧ L = [38, 38]) ∨ (L ≠ [124, 124] ∧ L ≠ [38, 38] ∧ L = [61, 61]) ∨ (L ≠ [124, 124] ∧ L ≠ [38, 38] ∧ L ≠ [61, 61] ∧ L = [33, 61]) ∨ (L ≠ [124, 124] ∧ L ≠ [38, 38] ∧ L ≠ [61, 61] ∧ L ≠ [33, 61] ∧ L = [60, 61]) ∨ (L ≠ [124, 124] ∧ L ≠ [38, 38] ∧ L ≠ [61, 61] ∧ L ≠ [33, 61] ∧ L ≠ [60, 61] ∧ L = [62, 61]) ∨ (L ≠ [124, 124] ∧ L ≠ [38, 38] ∧ L ≠ [61, 61] ∧ L ≠ [33, 61] ∧ L ≠ [60, 61] ∧ L ≠ [62, 61] ∧ L = [60, 60]) ∨ (L ≠ [124, 124] ∧ L ≠ [38, 38] ∧ L ≠ [61, 61] ∧ L ≠ [33, 61] ∧ L ≠ [60, 61] ∧ L ≠ [62, 61] ∧ L ≠ [60, 60] ∧ L = [62, 62]) ∨ (L ≠ [124, 124] ∧ L ≠ [38, 38] ∧ L ≠ [61, 61] ∧ L ≠ [33, 61] ∧ L ≠ [60, 61] ∧ L ≠ [62, 61] ∧ L ≠ [60, 60] ∧ L ≠ [62, 62] ∧ L = [60]) ∨ (L ≠ [124, 124] ∧ L ≠ [38, 38] ∧ L ≠ [61, 61] ∧ L ≠ [33, 61] ∧ L ≠ [60, 61] ∧ L ≠ [62, 61] ∧ L ≠ [60, 60] ∧ L ≠ [62, 62] ∧ L ≠ [60] ∧ L = [62]) ∨ (L ≠ [124, 124] ∧ L ≠ [38, 38] ∧ L ≠ [61, 61] ∧ L ≠ [33, 61] ∧ L ≠ [60, 61] ∧ L ≠ [62, 61] ∧ L ≠ [60, 60] ∧ L ≠ [62, 62] ∧ L ≠ [60] ∧ L ≠ [62] ∧ L = [61]) ∨ (L ≠ [124, 124] ∧ L ≠ [38, 38] ∧ L ≠ [61, 61] ∧ L ≠ [33, 61] ∧ L ≠ [60, 61] ∧ L ≠ [62, 61] ∧ L ≠ [60, 60] ∧ L ≠ [62, 62] ∧ L ≠ [60] ∧ L ≠ [62] ∧ L ≠ [61] ∧ L = [43]) ∨ (L ≠ [124, 124] ∧ L ≠ [38, 38] ∧ L ≠ [61, 61] ∧ L ≠ [33, 61] ∧ L ≠ [60, 61] ∧ L ≠ [62, 61] ∧ L ≠ [60, 60] ∧ L ≠ [62, 62] ∧ L ≠ [60] ∧ L ≠ [62] ∧ L ≠ [61] ∧ L ≠ [43] ∧ L = [45]) ∨ (L ≠ [124, 124] ∧ L ≠ [38, 38] ∧ L ≠ [61, 61] ∧ L ≠ [33, 61] ∧ L ≠ [60, 61] ∧ L ≠ [62, 61] ∧ L ≠ [60, 60] ∧ L ≠ [62, 62] ∧ L ≠ [60] ∧ L ≠ [62] ∧ L ≠ [61] ∧ L ≠ [43] ∧ L ≠ [45] ∧ L = [42]) ∨ (L ≠ [124, 124] ∧ L ≠ [38, 38] ∧ L ≠ [61, 61] ∧ L ≠ [33, 61] ∧ L ≠ [60, 61] ∧ L ≠ [62, 61] ∧ L ≠ [60, 60] ∧ L ≠ [62, 62] ∧ L ≠ [60] ∧ L ≠ [62] ∧ L ≠ [61] ∧ L ≠ [43] ∧ L ≠ [45] ∧ L ≠ [42] ∧ L = [47]) ∨ (L ≠ [124, 124] ∧ L ≠ [38, 38] ∧ L ≠ [61, 61] ∧ L ≠ [33, 61] ∧ L ≠ [60, 61] ∧ L ≠ [62, 61] ∧ L ≠ [60, 60] ∧ L ≠ [62, 62] ∧ L ≠ [60] ∧ L ≠ [62] ∧ L ≠ [61] ∧ L ≠ [43] ∧ L ≠ [45] ∧ L ≠ [42] ∧ L ≠ [47] ∧ L = [37]) ∨ (L ≠ [124, 124] ∧ L ≠ [38, 38] ∧ L ≠ [61, 61] ∧ L ≠ [33, 61] ∧ L ≠ [60, 61] ∧ L ≠ [62, 61] ∧ L ≠ [60, 60] ∧ L ≠ [62, 62] ∧ L ≠ [60] ∧ L ≠ [62] ∧ L ≠ [61] ∧ L ≠ [43] ∧ L ≠ [45] ∧ L ≠ [42] ∧ L ≠ [47] ∧ L ≠ [37] ∧ L = [38]) ∨ (L ≠ [124, 124] ∧ L ≠ [38, 38] ∧ L ≠ [61, 61] ∧ L ≠ [33, 61] ∧ L ≠ [60, 61] ∧ L ≠ [62, 61] ∧ L ≠ [60, 60] ∧ L ≠ [62, 62] ∧ L ≠ [60] ∧ L ≠ [62] ∧ L ≠ [61] ∧ L ≠ [43] ∧ L ≠ [45] ∧ L ≠ [42] ∧ L ≠ [47] ∧ L ≠ [37] ∧ L ≠ [38] ∧ L = [124]) ∨ (L ≠ [124, 124] ∧ L ≠ [38, 38] ∧ L ≠ [61, 61] ∧ L ≠ [33, 61] ∧ L ≠ [60, 61] ∧ L ≠ [62, 61] ∧ L ≠ [60, 60] ∧ L ≠ [62, 62] ∧ L ≠ [60] ∧ L ≠ [62] ∧ L ≠ [61] ∧ L ≠ [43] ∧ L ≠ [45] ∧ L ≠ [42] ∧ L ≠ [47] ∧ L ≠ [37] ∧ L ≠ [38] ∧ L ≠ [124] ∧ L = [94]) ∨ (L ≠ [124, 124] ∧ L ≠ [38, 38] ∧ L ≠ [61, 61] ∧ L ≠ [33, 61] ∧ L ≠ [60, 61] ∧ L ≠ [62, 61] ∧ L ≠ [60, 60] ∧ L ≠ [62, 62] ∧ L ≠ [60] ∧ L ≠ [62] ∧ L ≠ [61] ∧ L ≠ [43] ∧ L ≠ [45] ∧ L ≠ [42] ∧ L ≠ [47] ∧ L ≠ [37] ∧ L ≠ [38] ∧ L ≠ [124] ∧ L ≠ [94] ∧ L = [33]) ∨ (L ≠ [124, 124] ∧ L ≠ [38, 38] ∧ L ≠ [61, 61] ∧ L ≠ [33, 61] ∧ L ≠ [60, 61] ∧ L ≠ [62, 61] ∧ L ≠ [60, 60] ∧ L ≠ [62, 62] ∧ L ≠ [60] ∧ L ≠ [62] ∧ L ≠ [61] ∧ L ≠ [43] ∧ L ≠ [45] ∧ L ≠ [42] ∧ L ≠ [47] ∧ L ≠ [37] ∧ L ≠ [38] ∧ L ≠ [124] ∧ L ≠ [94] ∧ L ≠ [33] ∧ L = [126]) ∨ (L ≠ [124, 124] ∧ L ≠ [38, 38] ∧ L ≠ [61, 61] ∧ L ≠ [33, 61] ∧ L ≠ [60, 61] ∧ L ≠ [62, 61] ∧ L ≠ [60, 60] ∧ L ≠ [62, 62] ∧ L ≠ [60] ∧ L ≠ [62] ∧ L ≠ [61] ∧ L ≠ [43] ∧ L ≠ [45] ∧ L ≠ [42] ∧ L ≠ [47] ∧ L ≠ [37] ∧ L ≠ [38] ∧ L ≠ [124] ∧ L ≠ [94] ∧ L ≠ [33] ∧ L ≠ [126] ∧ L = [40]) ∨ (L ≠ [124, 124] ∧ L ≠ [38, 38] ∧ L ≠ [61, 61] ∧ L ≠ [33, 61] ∧ L ≠ [60, 61] ∧ L ≠ [62, 61] ∧ L ≠ [60, 60] ∧ L ≠ [62, 62] ∧ L ≠ [60] ∧ L ≠ [62] ∧ L ≠ [61] ∧ L ≠ [43] ∧ L ≠ [45] ∧ L ≠ [42] ∧ L ≠ [47] ∧ L ≠ [37] ∧ L ≠ [38] ∧ L ≠ [124] ∧ L ≠ [94] ∧ L ≠ [33] ∧ L ≠ [126] ∧ L ≠ [40] ∧ L = [41]) ∨ (L ≠ [124, 124] ∧ L ≠ [38, 38] ∧ L ≠ [61, 61] ∧ L ≠ [33, 61] ∧ L ≠ [60, 61] ∧ L ≠ [62, 61] ∧ L ≠ [60, 60] ∧ L ≠ [62, 62] ∧ L ≠ [60] ∧ L ≠ [62] ∧ L ≠ [61] ∧ L ≠ [43] ∧ L ≠ [45] ∧ L ≠ [42] ∧ L ≠ [47] ∧ L ≠ [37] ∧ L ≠ [38] ∧ L ≠ [124] ∧ L ≠ [94] ∧ L ≠ [33] ∧ L ≠ [126] ∧ L ≠ [40] ∧ L ≠ [41] ∧ L = [123]) ∨ (L ≠ [124, 124] ∧ L ≠ [38, 38] ∧ L ≠ [61, 61] ∧ L ≠ [33, 61] ∧ L ≠ [60, 61] ∧ L ≠ [62, 61] ∧ L ≠ [60, 60] ∧ L ≠ [62, 62] ∧ L ≠ [60] ∧ L ≠ [62] ∧ L ≠ [61] ∧ L ≠ [43] ∧ L ≠ [45] ∧ L ≠ [42] ∧ L ≠ [47] ∧ L ≠ [37] ∧ L ≠ [38] ∧ L ≠ [124] ∧ L ≠ [94] ∧ L ≠ [33] ∧ L ≠ [126] ∧ L ≠ [40] ∧ L ≠ [41] ∧ L ≠ [123] ∧ L = [125]) ∨ (L ≠ [124, 124] ∧ L ≠ [38, 38] ∧ L ≠ [61, 61] ∧ L ≠ [33, 61] ∧ L ≠ [60, 61] ∧ L ≠ [62, 61] ∧ L ≠ [60, 60] ∧ L ≠ [62, 62] ∧ L ≠ [60] ∧ L ≠ [62] ∧ L ≠ [61] ∧ L ≠ [43] ∧ L ≠ [45] ∧ L ≠ [42] ∧ L ≠ [47] ∧ L ≠ [37] ∧ L ≠ [38] ∧ L ≠ [124] ∧ L ≠ [94] ∧ L ≠ [33] ∧ L ≠ [126] ∧ L ≠ [40] ∧ L ≠ [41] ∧ L ≠ [123] ∧ L ≠ [125] ∧ L = [91]) ∨ (L ≠ [124, 124] ∧ L ≠ [38, 38] ∧ L ≠ [61, 61] ∧ L ≠ [33, 61] ∧ L ≠ [60, 61] ∧ L ≠ [62, 61] ∧ L ≠ [60, 60] ∧ L ≠ [62, 62] ∧ L ≠ [60] ∧ L ≠ [62] ∧ L ≠ [61] ∧ L ≠ [43] ∧ L ≠ [45] ∧ L ≠ [42] ∧ L ≠ [47] ∧ L ≠ [37] ∧ L ≠ [38] ∧ L ≠ [124] ∧ L ≠ [94] ∧ L ≠ [33] ∧ L ≠ [126] ∧ L ≠ [40] ∧ L ≠ [41] ∧ L ≠ [123] ∧ L ≠ [125] ∧ L ≠ [91] ∧ L = [93]) ∨ (L ≠ [124, 124] ∧ L ≠ [38, 38] ∧ L ≠ [61, 61] ∧ L ≠ [33, 61] ∧ L ≠ [60, 61] ∧ L ≠ [62, 61] ∧ L ≠ [60, 60] ∧ L ≠ [62, 62] ∧ L ≠ [60] ∧ L ≠ [62] ∧ L ≠ [61] ∧ L ≠ [43] ∧ L ≠ [45] ∧ L ≠ [42] ∧ L ≠ [47] ∧ L ≠ [37] ∧ L ≠ [38] ∧ L ≠ [124] ∧ L ≠ [94] ∧ L ≠ [33] ∧ L ≠ [126] ∧ L ≠ [40] ∧ L ≠ [41] ∧ L ≠ [123] ∧ L ≠ [125] ∧ L ≠ [91] ∧ L ≠ [93] ∧ L = [44]) ∨ (L ≠ [124, 124] ∧ L ≠ [38, 38] ∧ L ≠ [61, 61] ∧ L ≠ [33, 61] ∧ L ≠ [60, 61] ∧ L ≠ [62, 61] ∧ L ≠ [60, 60] ∧ L ≠ [62, 62] ∧ L ≠ [60] ∧ L ≠ [62] ∧ L ≠ [61] ∧ L ≠ [43] ∧ L ≠ [45] ∧ L ≠ [42] ∧ L ≠ [47] ∧ L ≠ [37] ∧ L ≠ [38] ∧ L ≠ [124] ∧ L ≠ [94] ∧ L ≠ [33] ∧ L ≠ [126] ∧ L ≠ [40] ∧ L ≠ [41] ∧ L ≠ [123] ∧ L ≠ [125] ∧ L ≠ [91] ∧ L ≠ [93] ∧ L ≠ [44] ∧ L = [59]) ∨ (L ≠ [124, 124] ∧ L ≠ [38, 38] ∧ L ≠ [61, 61] ∧ L ≠ [33, 61] ∧ L ≠ [60, 61] ∧ L ≠ [62, 61] ∧ L ≠ [60, 60] ∧ L ≠ [62, 62] ∧ L ≠ [60] ∧ L ≠ [62] ∧ L ≠ [61] ∧ L ≠ [43] ∧ L ≠ [45] ∧ L ≠ [42] ∧ L ≠ [47] ∧ L ≠ [37] ∧ L ≠ [38] ∧ L ≠ [124] ∧ L ≠ [94] ∧ L ≠ [33] ∧ L ≠ [126] ∧ L ≠ [40] ∧ L ≠ [41] ∧ L ≠ [123] ∧ L ≠ [125] ∧ L ≠ [91] ∧ L ≠ [93] ∧ L ≠ [44] ∧ L ≠ [59]) := by
  by_cases h0 : L = [124, 124]
  · exact .inl h0
  by_cases h1 : L = [38, 38]
  · exact .inr (.inl ⟨h0, h1⟩)
  by_cases h2 : L = [61, 61]
  · exact .inr (.inr (.inl ⟨h0, h1, h2⟩))
  by_cases h3 : L = [33, 61]
  · exact .inr (.inr (.inr (.inl ⟨h0, h1, h2, h3⟩)))
  by_cases h4 : L = [60, 61]
  · exact .inr (.inr (.inr (.inr (.inl ⟨h0, h1, h2, h3, h4⟩))))
  by_cases h5 : L = [62, 61]
  · exact .inr (.inr (.inr (.inr (.inr (.inl ⟨h0, h1, h2, h3, h4, h5⟩)))))
  by_cases h6 : L = [60, 60]
  · exact .inr (.inr (.inr (.inr (.inr (.inr (.inl ⟨h0, h1, h2, h3, h4, h5, h6⟩))))))
  by_cases h7 : L = [62, 62]
  · exact .inr (.inr (.inr (.inr (.inr (.inr (.inr (.inl ⟨h0, h1, h2, h3, h4, h5, h6, h7⟩)))))))
  by_cases h8 : L = [60]
  · exact .inr (.inr (.inr (.inr (.inr (.inr (.inr (.inr (.inl ⟨h0, h1, h2, h3, h4, h5, h6, h7, h8⟩))))))))
  by_cases h9 : L = [62]
  · exact .inr (.inr (.inr (.inr (.inr (.inr (.inr (.inr (.inr (.inl ⟨h0, h1, h2, h3, h4, h5, h6, h7, h8, h9⟩)))))))))
  by_cases h10 : L = [61]
  · exact .inr (.inr (.inr (.inr (.inr (.inr (.inr (.inr (.inr (.inr (.inl ⟨h0, h1, h2, h3, h4, h5, h6, h7, h8, h9, h10⟩))))))))))
  by_cases h11 : L = [43]
  · exact .inr (.inr (.inr (.inr (.inr (.inr (.inr (.inr (.inr (.inr (.inr (.inl ⟨h0, h1, h2, h3, h4, h5, h6, h7, h8, h9, h10, h11⟩)))))))))))
  by_cases h12 : L = [45]
  · exact .inr (.inr (.inr (.inr (.inr (.inr (.inr (.inr (.inr (.inr (.inr (.inr (.inl ⟨h0, h1, h2, h3, h4, h5, h6, h7, h8, h9, h10, h11, h12⟩))))))))))))
  by_cases h13 : L = [42]
  · exact .inr (.inr (.inr (.inr (.inr (.inr (.inr (.inr (.inr (.inr (.inr (.inr (.inr (.inl ⟨h0, h1, h2, h3, h4, h5, h6, h7, h8, h9, h10, h11, h12, h13⟩)))))))))))))
  by_cases h14 : L = [47]
  · exact .inr (.inr (.inr (.inr (.inr (.inr (.inr (.inr (.inr (.inr (.inr (.inr (.inr (.inr (.inl ⟨h0, h1, h2, h3, h4, h5, h6, h7, h8, h9, h10, h11, h12, h13, h14⟩))))))))))))))
  by_cases h15 : L = [37]
  · exact .inr (.inr (.inr (.inr (.inr (.inr (.inr (.inr (.inr (.inr (.inr (.inr (.inr (.inr (.inr (.inl ⟨h0, h1, h2, h3, h4, h5, h6, h7, h8, h9, h10, h11, h12, h13, h14, h15⟩)))))))))))))))
  by_cases h16 : L = [38]
  · exact .inr (.inr (.inr (.inr (.inr (.inr (.inr (.inr (.inr (.inr (.inr (.inr (.inr (.inr (.inr (.inr (.inl ⟨h0, h1, h2, h3, h4, h5, h6, h7, h8, h9, h10, h11, h12, h13, h14, h15, h16⟩))))))))))))))))
  by_cases h17 : L = [124]
  · exact .inr (.inr (.inr (.inr (.inr (.inr (.inr (.inr (.inr (.inr (.inr (.inr (.inr (.inr (.inr (.inr (.inr (.inl ⟨h0, h1, h2, h3, h4, h5, h6, h7, h8, h9, h10, h11, h12, h13, h14, h15, h16, h17⟩)))))))))))))))))
  by_cases h18 : L = [94]
  · exact .inr (.inr (.inr (.inr (.inr (.inr (.inr (.inr (.inr (.inr (.inr (.inr (.inr (.inr (.inr (.inr (.inr (.inr (.inl ⟨h0, h1, h2, h3, h4, h5, h6, h7, h8, h9, h10, h11, h12, h13, h14, h15, h16, h17, h18⟩))))))))))))))))))
  by_cases h19 : L = [33]
  · exact .inr (.inr (.inr (.inr (.inr (.inr (.inr (.inr (.inr (.inr (.inr (.inr (.inr (.inr (.inr (.inr (.inr (.inr (.inr (.inl ⟨h0, h1, h2, h3, h4, h5, h6, h7, h8, h9, h10, h11, h12, h13, h14, h15, h16, h17, h18, h19⟩)))))))))))))))))))
  by_cases h20 : L = [126]
  · exact .inr (.inr (.inr (.inr (.inr (.inr (.inr (.inr (.inr (.inr (.inr (.inr (.inr (.inr (.inr (.inr (.inr (.inr (.inr (.inr (.inl ⟨h0, h1, h2, h3, h4, h5, h6, h7, h8, h9, h10, h11, h12, h13, h14, h15, h16, h17, h18, h19, h20⟩))))))))))))))))))))
  by_cases h21 : L = [40]
  · exact .inr (.inr (.inr (.inr (.inr (.inr (.inr (.inr (.inr (.inr (.inr (.inr (.inr (.inr (.inr (.inr (.inr (.inr (.inr (.inr (.inr (.inl ⟨h0, h1, h2, h3, h4, h5, h6, h7, h8, h9, h10, h11, h12, h13, h14, h15, h16, h17, h18, h19, h20, h21⟩)))))))))))))))))))))
  by_cases h22 : L = [41]
  · exact .inr (.inr (.inr (.inr (.inr (.inr (.inr (.inr (.inr (.inr (.inr (.inr (.inr (.inr (.inr (.inr (.inr (.inr (.inr (.inr (.inr (.inr (.inl ⟨h0, h1, h2, h3, h4, h5, h6, h7, h8, h9, h10, h11, h12, h13, h14, h15, h16, h17, h18, h19, h20, h21, h22⟩))))))))))))))))))))))
  by_cases h23 : L = [123]
  · exact .inr (.inr (.inr (.inr (.inr (.inr (.inr (.inr (.inr (.inr (.inr (.inr (.inr (.inr (.inr (.inr (.inr (.inr (.inr (.inr (.inr (.inr (.inr (.inl ⟨h0, h1, h2, h3, h4, h5, h6, h7, h8, h9, h10, h11, h12, h13, h14, h15, h16, h17, h18, h19, h20, h21, h22, h23⟩)))))))))))))))))))))))
  by_cases h24 : L = [125]
  · exact .inr (.inr (.inr (.inr (.inr (.inr (.inr (.inr (.inr (.inr (.inr (.inr (.inr (.inr (.inr (.inr (.inr (.inr (.inr (.inr (.inr (.inr (.inr (.inr (.inl ⟨h0, h1, h2, h3, h4, h5, h6, h7, h8, h9, h10, h11, h12, h13, h14, h15, h16, h17, h18, h19, h20, h21, h22, h23, h24⟩))))))))))))))))))))))))
  by_cases h25 : L = [91]
  · exact .inr (.inr (.inr (.inr (.inr (.inr (.inr (.inr (.inr (.inr (.inr (.inr (.inr (.inr (.inr (.inr (.inr (.inr (.inr (.inr (.inr (.inr (.inr (.inr (.inr (.inl ⟨h0, h1, h2, h3, h4, h5, h6, h7, h8, h9, h10, h11, h12, h13, h14, h15, h16, h17, h18, h19, h20, h21, h22, h23, h24, h25⟩)))))))))))))))))))))))))
  by_cases h26 : L = [93]
  · exact .inr (.inr (.inr (.inr (.inr (.inr (.inr (.inr (.inr (.inr (.inr (.inr (.inr (.inr (.inr (.inr (.inr (.inr (.inr (.inr (.inr (.inr (.inr (.inr (.inr (.inr (.inl ⟨h0, h1, h2, h3, h4, h5, h6, h7, h8, h9, h10, h11, h12, h13, h14, h15, h16, h17, h18, h19, h20, h21, h22, h23, h24, h25, h26⟩))))))))))))))))))))))))))
  by_cases h27 : L = [44]
  · exact .inr (.inr (.inr (.inr (.inr (.inr (.inr (.inr (.inr (.inr (.inr (.inr (.inr (.inr (.inr (.inr (.inr (.inr (.inr (.inr (.inr (.inr (.inr (.inr (.inr (.inr (.inr (.inl ⟨h0, h1, h2, h3, h4, h5, h6, h7, h8, h9, h10, h11, h12, h13, h14, h15, h16, h17, h18, h19, h20, h21, h22, h23, h24, h25, h26, h27⟩)))))))))))))))))))))))))))
  by_cases h28 : L = [59]
  · exact .inr (.inr (.inr (.inr (.inr (.inr (.inr (.inr (.inr (.inr (.inr (.inr (.inr (.inr (.inr (.inr (.inr (.inr (.inr (.inr (.inr (.inr (.inr (.inr (.inr (.inr (.inr (.inr (.inl ⟨h0, h1, h2, h3, h4, h5, h6, h7, h8, h9, h10, h11, h12, h13, h14, h15, h16, h17, h18, h19, h20, h21, h22, h23, h24, h25, h26, h27, h28⟩))))))))))))))))))))))))))))
  exact .inr (.inr (.inr (.inr (.inr (.inr (.inr (.inr (.inr (.inr (.inr (.inr (.inr (.inr (.inr (.inr (.inr (.inr (.inr (.inr (.inr (.inr (.inr (.inr (.inr (.inr (.inr (.inr (.inr ⟨h0, h1, h2, h3, h4, h5, h6, h7, h8, h9, h10, h11, h12, h13, h14, h15, h16, h17, h18, h19, h20, h21, h22, h23, h24, h25, h26, h27, h28⟩))))))))))))))))))))))))))))
set_option maxHeartbeats 1000000 in
theorem tokIsSign0 (s : ByteArray) (y : s.data.toList = [124, 124]) (w : World) : Calls Tryd.prog 61 #[.string s] w fun e w' => e = .returned (.bool true) ∧ w' = w := by
  have fy := litEq5 y
  clear y
  go_enter Tryd.func61, Tryd.ntmps61
  go_wp2_with fail
  go_ret
  exact ⟨rfl, rfl⟩
set_option maxHeartbeats 1000000 in
theorem tokIsSign1 (s : ByteArray) (n0 : s.data.toList ≠ [124, 124]) (y : s.data.toList = [38, 38]) (w : World) : Calls Tryd.prog 61 #[.string s] w fun e w' => e = .returned (.bool true) ∧ w' = w := by
  have f0 := litNe5 n0
  have fy := litEq5 y
  clear n0 y
  go_enter Tryd.func61, Tryd.ntmps61
  go_wp2_with fail
  go_ret
  exact ⟨rfl, rfl⟩
set_option maxHeartbeats 1000000 in
theorem tokIsSign2 (s : ByteArray) (n0 : s.data.toList ≠ [124, 124]) (n1 : s.data.toList ≠ [38, 38]) (y : s.data.toList = [61, 61]) (w : World) : Calls Tryd.prog 61 #[.string s] w fun e w' => e = .returned (.bool true) ∧ w' = w := by
  have f0 := litNe5 n0
  have f1 := litNe5 n1
  have fy := litEq5 y
  clear n0 n1 y
  go_enter Tryd.func61, Tryd.ntmps61
  go_wp2_with fail
  go_ret
  exact ⟨rfl, rfl⟩
set_option maxHeartbeats 1000000 in
theorem tokIsSign3 (s : ByteArray) (n0 : s.data.toList ≠ [124, 124]) (n1 : s.data.toList ≠ [38, 38]) (n2 : s.data.toList ≠ [61, 61]) (y : s.data.toList = [33, 61]) (w : World) : Calls Tryd.prog 61 #[.string s] w fun e w' => e = .returned (.bool true) ∧ w' = w := by
  have f0 := litNe5 n0
  have f1 := litNe5 n1
  have f2 := litNe5 n2
  have fy := litEq5 y
  clear n0 n1 n2 y
  go_enter Tryd.func61, Tryd.ntmps61
  go_wp2_with fail
  go_ret
  exact ⟨rfl, rfl⟩
set_option maxHeartbeats 1000000 in
theorem tokIsSign4 (s : ByteArray) (n0 : s.data.toList ≠ [124, 124]) (n1 : s.data.toList ≠ [38, 38]) (n2 : s.data.toList ≠ [61, 61]) (n3 : s.data.toList ≠ [33, 61]) (y : s.data.toList = [60, 61]) (w : World) : Calls Tryd.prog 61 #[.string s] w fun e w' => e = .returned (.bool true) ∧ w' = w := by
  have f0 := litNe5 n0
  have f1 := litNe5 n1
  have f2 := litNe5 n2
  have f3 := litNe5 n3
  have fy := litEq5 y
  clear n0 n1 n2 n3 y
  go_enter Tryd.func61, Tryd.ntmps61
  go_wp2_with fail
  go_ret
  exact ⟨rfl, rfl⟩
set_option maxHeartbeats 1000000 in
theorem tokIsSign5 (s : ByteArray) (n0 : s.data.toList ≠ [124, 124]) (n1 : s.data.toList ≠ [38, 38]) (n2 : s.data.toList ≠ [61, 61]) (n3 : s.data.toList ≠ [33, 61]) (n4 : s.data.toList ≠ [60, 61]) (y : s.data.toList = [62, 61]) (w : World) : Calls Tryd.prog 61 #[.string s] w fun e w' => e = .returned (.bool true) ∧ w' = w := by
  have f0 := litNe5 n0
  have f1 := litNe5 n1
  have f2 := litNe5 n2
  have f3 := litNe5 n3
  have f4 := litNe5 n4
  have fy := litEq5 y
  clear n0 n1 n2 n3 n4 y
  go_enter Tryd.func61, Tryd.ntmps61
  go_wp2_with fail
  go_ret
  exact ⟨rfl, rfl⟩
set_option maxHeartbeats 1000000 in
theorem tokIsSign6 (s : ByteArray) (n0 : s.data.toList ≠ [124, 124]) (n1 : s.data.toList ≠ [38, 38]) (n2 : s.data.toList ≠ [61, 61]) (n3 : s.data.toList ≠ [33, 61]) (n4 : s.data.toList ≠ [60, 61]) (n5 : s.data.toList ≠ [62, 61]) (y : s.data.toList = [60, 60]) (w : World) : Calls Tryd.prog 61 #[.string s] w fun e w' => e = .returned (.bool true) ∧ w' = w := by
  have f0 := litNe5 n0
  have f1 := litNe5 n1
  have f2 := litNe5 n2
  have f3 := litNe5 n3
  have f4 := litNe5 n4
  have f5 := litNe5 n5
  have fy := litEq5 y
  clear n0 n1 n2 n3 n4 n5 y
  go_enter Tryd.func61, Tryd.ntmps61
  go_wp2_with fail
  go_ret
  exact ⟨rfl, rfl⟩
set_option maxHeartbeats 1000000 in
theorem tokIsSign7 (s : ByteArray) (n0 : s.data.toList ≠ [124, 124]) (n1 : s.data.toList ≠ [38, 38]) (n2 : s.data.toList ≠ [61, 61]) (n3 : s.data.toList ≠ [33, 61]) (n4 : s.data.toList ≠ [60, 61]) (n5 : s.data.toList ≠ [62, 61]) (n6 : s.data.toList ≠ [60, 60]) (y : s.data.toList = [62, 62]) (w : World) : Calls Tryd.prog 61 #[.string s] w fun e w' => e = .returned (.bool true) ∧ w' = w := by
  have f0 := litNe5 n0
  have f1 := litNe5 n1
  have f2 := litNe5 n2
  have f3 := litNe5 n3
  have f4 := litNe5 n4
  have f5 := litNe5 n5
  have f6 := litNe5 n6
  have fy := litEq5 y
  clear n0 n1 n2 n3 n4 n5 n6 y
  go_enter Tryd.func61, Tryd.ntmps61
  go_wp2_with fail
  go_ret
  exact ⟨rfl, rfl⟩
set_option maxHeartbeats 1000000 in
theorem tokIsSign8 (s : ByteArray) (n0 : s.data.toList ≠ [124, 124]) (n1 : s.data.toList ≠ [38, 38]) (n2 : s.data.toList ≠ [61, 61]) (n3 : s.data.toList ≠ [33, 61]) (n4 : s.data.toList ≠ [60, 61]) (n5 : s.data.toList ≠ [62, 61]) (n6 : s.data.toList ≠ [60, 60]) (n7 : s.data.toList ≠ [62, 62]) (y : s.data.toList = [60]) (w : World) : Calls Tryd.prog 61 #[.string s] w fun e w' => e = .returned (.bool true) ∧ w' = w := by
  have f0 := litNe5 n0
  have f1 := litNe5 n1
  have f2 := litNe5 n2
  have f3 := litNe5 n3
  have f4 := litNe5 n4
  have f5 := litNe5 n5
  have f6 := litNe5 n6
  have f7 := litNe5 n7
  have fy := litEq5 y
  clear n0 n1 n2 n3 n4 n5 n6 n7 y
  go_enter Tryd.func61, Tryd.ntmps61
  go_wp2_with fail
  go_ret
  exact ⟨rfl, rfl⟩
set_option maxHeartbeats 1000000 in
theorem tokIsSign9 (s : ByteArray) (n0 : s.data.toList ≠ [124, 124]) (n1 : s.data.toList ≠ [38, 38]) (n2 : s.data.toList ≠ [61, 61]) (n3 : s.data.toList ≠ [33, 61]) (n4 : s.data.toList ≠ [60, 61]) (n5 : s.data.toList ≠ [62, 61]) (n6 : s.data.toList ≠ [60, 60]) (n7 : s.data.toList ≠ [62, 62]) (n8 : s.data.toList ≠ [60]) (y : s.data.toList = [62]) (w : World) : Calls Tryd.prog 61 #[.string s] w fun e w' => e = .returned (.bool true) ∧ w' = w := by
  have f0 := litNe5 n0
  have f1 := litNe5 n1
  have f2 := litNe5 n2
  have f3 := litNe5 n3
  have f4 := litNe5 n4
  have f5 := litNe5 n5
  have f6 := litNe5 n6
  have f7 := litNe5 n7
  have f8 := litNe5 n8
  have fy := litEq5 y
  clear n0 n1 n2 n3 n4 n5 n6 n7 n8 y
  go_enter Tryd.func61, Tryd.ntmps61
  go_wp2_with fail
  go_ret
  exact ⟨rfl, rfl⟩
set_option maxHeartbeats 1000000 in
theorem tokIsSign10 (s : ByteArray) (n0 : s.data.toList ≠ [124, 124]) (n1 : s.data.toList ≠ [38, 38]) (n2 : s.data.toList ≠ [61, 61]) (n3 : s.data.toList ≠ [33, 61]) (n4 : s.data.toList ≠ [60, 61]) (n5 : s.data.toList ≠ [62, 61]) (n6 : s.data.toList ≠ [60, 60]) (n7 : s.data.toList ≠ [62, 62]) (n8 : s.data.toList ≠ [60]) (n9 : s.data.toList ≠ [62]) (y : s.data.toList = [61]) (w : World) : Calls Tryd.prog 61 #[.string s] w fun e w' => e = .returned (.bool true) ∧ w' = w := by
  have f0 := litNe5 n0
  have f1 := litNe5 n1
  have f2 := litNe5 n2
  have f3 := litNe5 n3
  have f4 := litNe5 n4
  have f5 := litNe5 n5
  have f6 := litNe5 n6
  have f7 := litNe5 n7
  have f8 := litNe5 n8
  have f9 := litNe5 n9
  have fy := litEq5 y
  clear n0 n1 n2 n3 n4 n5 n6 n7 n8 n9 y
  go_enter Tryd.func61, Tryd.ntmps61
  go_wp2_with fail
  go_ret
  exact ⟨rfl, rfl⟩
set_option maxHeartbeats 1000000 in
theorem tokIsSign11 (s : ByteArray) (n0 : s.data.toList ≠ [124, 124]) (n1 : s.data.toList ≠ [38, 38]) (n2 : s.data.toList ≠ [61, 61]) (n3 : s.data.toList ≠ [33, 61]) (n4 : s.data.toList ≠ [60, 61]) (n5 : s.data.toList ≠ [62, 61]) (n6 : s.data.toList ≠ [60, 60]) (n7 : s.data.toList ≠ [62, 62]) (n8 : s.data.toList ≠ [60]) (n9 : s.data.toList ≠ [62]) (n10 : s.data.toList ≠ [61]) (y : s.data.toList = [43]) (w : World) : Calls Tryd.prog 61 #[.string s] w fun e w' => e = .returned (.bool true) ∧ w' = w := by
  have f0 := litNe5 n0
  have f1 := litNe5 n1
  have f2 := litNe5 n2
  have f3 := litNe5 n3
  have f4 := litNe5 n4
  have f5 := litNe5 n5
  have f6 := litNe5 n6
  have f7 := litNe5 n7
  have f8 := litNe5 n8
  have f9 := litNe5 n9
  have f10 := litNe5 n10
  have fy := litEq5 y
  clear n0 n1 n2 n3 n4 n5 n6 n7 n8 n9 n10 y
  go_enter Tryd.func61, Tryd.ntmps61
  go_wp2_with fail
  go_ret
  exact ⟨rfl, rfl⟩
set_option maxHeartbeats 1000000 in
theorem tokIsSign12 (s : ByteArray) (n0 : s.data.toList ≠ [124, 124]) (n1 : s.data.toList ≠ [38, 38]) (n2 : s.data.toList ≠ [61, 61]) (n3 : s.data.toList ≠ [33, 61]) (n4 : s.data.toList ≠ [60, 61]) (n5 : s.data.toList ≠ [62, 61]) (n6 : s.data.toList ≠ [60, 60]) (n7 : s.data.toList ≠ [62, 62]) (n8 : s.data.toList ≠ [60]) (n9 : s.data.toList ≠ [62]) (n10 : s.data.toList ≠ [61]) (n11 : s.data.toList ≠ [43]) (y : s.data.toList = [45]) (w : World) : Calls Tryd.prog 61 #[.string s] w fun e w' => e = .returned (.bool true) ∧ w' = w := by
  have f0 := litNe5 n0
  have f1 := litNe5 n1
  have f2 := litNe5 n2
  have f3 := litNe5 n3
  have f4 := litNe5 n4
  have f5 := litNe5 n5
  have f6 := litNe5 n6
  have f7 := litNe5 n7
  have f8 := litNe5 n8
  have f9 := litNe5 n9
  have f10 := litNe5 n10
  have f11 := litNe5 n11
  have fy := litEq5 y
  clear n0 n1 n2 n3 n4 n5 n6 n7 n8 n9 n10 n11 y
  go_enter Tryd.func61, Tryd.ntmps61
  go_wp2_with fail
  go_ret
  exact ⟨rfl, rfl⟩
set_option maxHeartbeats 1000000 in
theorem tokIsSign13 (s : ByteArray) (n0 : s.data.toList ≠ [124, 124]) (n1 : s.data.toList ≠ [38, 38]) (n2 : s.data.toList ≠ [61, 61]) (n3 : s.data.toList ≠ [33, 61]) (n4 : s.data.toList ≠ [60, 61]) (n5 : s.data.toList ≠ [62, 61]) (n6 : s.data.toList ≠ [60, 60]) (n7 : s.data.toList ≠ [62, 62]) (n8 : s.data.toList ≠ [60]) (n9 : s.data.toList ≠ [62]) (n10 : s.data.toList ≠ [61]) (n11 : s.data.toList ≠ [43]) (n12 : s.data.toList ≠ [45]) (y : s.data.toList = [42]) (w : World) : Calls Tryd.prog 61 #[.string s] w fun e w' => e = .returned (.bool true) ∧ w' = w := by
  have f0 := litNe5 n0
  have f1 := litNe5 n1
  have f2 := litNe5 n2
  have f3 := litNe5 n3
  have f4 := litNe5 n4
  have f5 := litNe5 n5
  have f6 := litNe5 n6
  have f7 := litNe5 n7
  have f8 := litNe5 n8
  have f9 := litNe5 n9
  have f10 := litNe5 n10
  have f11 := litNe5 n11
  have f12 := litNe5 n12
  have fy := litEq5 y
  clear n0 n1 n2 n3 n4 n5 n6 n7 n8 n9 n10 n11 n12 y
  go_enter Tryd.func61, Tryd.ntmps61
  go_wp2_with fail
  go_ret
  exact ⟨rfl, rfl⟩
set_option maxHeartbeats 1000000 in
theorem tokIsSign14 (s : ByteArray) (n0 : s.data.toList ≠ [124, 124]) (n1 : s.data.toList ≠ [38, 38]) (n2 : s.data.toList ≠ [61, 61]) (n3 : s.data.toList ≠ [33, 61]) (n4 : s.data.toList ≠ [60, 61]) (n5 : s.data.toList ≠ [62, 61]) (n6 : s.data.toList ≠ [60, 60]) (n7 : s.data.toList ≠ [62, 62]) (n8 : s.data.toList ≠ [60]) (n9 : s.data.toList ≠ [62]) (n10 : s.data.toList ≠ [61]) (n11 : s.data.toList ≠ [43]) (n12 : s.data.toList ≠ [45]) (n13 : s.data.toList ≠ [42]) (y : s.data.toList = [47]) (w : World) : Calls Tryd.prog 61 #[.string s] w fun e w' => e = .returned (.bool true) ∧ w' = w := by
  have f0 := litNe5 n0
  have f1 := litNe5 n1
  have f2 := litNe5 n2
  have f3 := litNe5 n3
  have f4 := litNe5 n4
  have f5 := litNe5 n5
  have f6 := litNe5 n6
  have f7 := litNe5 n7
  have f8 := litNe5 n8
  have f9 := litNe5 n9
  have f10 := litNe5 n10
  have f11 := litNe5 n11
  have f12 := litNe5 n12
  have f13 := litNe5 n13
  have fy := litEq5 y
  clear n0 n1 n2 n3 n4 n5 n6 n7 n8 n9 n10 n11 n12 n13 y
  go_enter Tryd.func61, Tryd.ntmps61
  go_wp2_with fail
  go_ret
  exact ⟨rfl, rfl⟩
set_option maxHeartbeats 1000000 in
theorem tokIsSign15 (s : ByteArray) (n0 : s.data.toList ≠ [124, 124]) (n1 : s.data.toList ≠ [38, 38]) (n2 : s.data.toList ≠ [61, 61]) (n3 : s.data.toList ≠ [33, 61]) (n4 : s.data.toList ≠ [60, 61]) (n5 : s.data.toList ≠ [62, 61]) (n6 : s.data.toList ≠ [60, 60]) (n7 : s.data.toList ≠ [62, 62]) (n8 : s.data.toList ≠ [60]) (n9 : s.data.toList ≠ [62]) (n10 : s.data.toList ≠ [61]) (n11 : s.data.toList ≠ [43]) (n12 : s.data.toList ≠ [45]) (n13 : s.data.toList ≠ [42]) (n14 : s.data.toList ≠ [47]) (y : s.data.toList = [37]) (w : World) : Calls Tryd.prog 61 #[.string s] w fun e w' => e = .returned (.bool true) ∧ w' = w := by
  have f0 := litNe5 n0
  have f1 := litNe5 n1
  have f2 := litNe5 n2
  have f3 := litNe5 n3
  have f4 := litNe5 n4
  have f5 := litNe5 n5
  have f6 := litNe5 n6
  have f7 := litNe5 n7
  have f8 := litNe5 n8
  have f9 := litNe5 n9
  have f10 := litNe5 n10
  have f11 := litNe5 n11
  have f12 := litNe5 n12
  have f13 := litNe5 n13
  have f14 := litNe5 n14
  have fy := litEq5 y
  clear n0 n1 n2 n3 n4 n5 n6 n7 n8 n9 n10 n11 n12 n13 n14 y
  go_enter Tryd.func61, Tryd.ntmps61
  go_wp2_with fail
  go_ret
  exact ⟨rfl, rfl⟩
set_option maxHeartbeats 1000000 in
theorem tokIsSign16 (s : ByteArray) (n0 : s.data.toList ≠ [124, 124]) (n1 : s.data.toList ≠ [38, 38]) (n2 : s.data.toList ≠ [61, 61]) (n3 : s.data.toList ≠ [33, 61]) (n4 : s.data.toList ≠ [60, 61]) (n5 : s.data.toList ≠ [62, 61]) (n6 : s.data.toList ≠ [60, 60]) (n7 : s.data.toList ≠ [62, 62]) (n8 : s.data.toList ≠ [60]) (n9 : s.data.toList ≠ [62]) (n10 : s.data.toList ≠ [61]) (n11 : s.data.toList ≠ [43]) (n12 : s.data.toList ≠ [45]) (n13 : s.data.toList ≠ [42]) (n14 : s.data.toList ≠ [47]) (n15 : s.data.toList ≠ [37]) (y : s.data.toList = [38]) (w : World) : Calls Tryd.prog 61 #[.string s] w fun e w' => e = .returned (.bool true) ∧ w' = w := by
  have f0 := litNe5 n0
  have f1 := litNe5 n1
  have f2 := litNe5 n2
  have f3 := litNe5 n3
  have f4 := litNe5 n4
  have f5 := litNe5 n5
  have f6 := litNe5 n6
  have f7 := litNe5 n7
  have f8 := litNe5 n8
  have f9 := litNe5 n9
  have f10 := litNe5 n10
  have f11 := litNe5 n11
  have f12 := litNe5 n12
  have f13 := litNe5 n13
  have f14 := litNe5 n14
  have f15 := litNe5 n15
  have fy := litEq5 y
  clear n0 n1 n2 n3 n4 n5 n6 n7 n8 n9 n10 n11 n12 n13 n14 n15 y
  go_enter Tryd.func61, Tryd.ntmps61
  go_wp2_with fail
  go_ret
  exact ⟨rfl, rfl⟩
set_option maxHeartbeats 1000000 in
theorem tokIsSign17 (s : ByteArray) (n0 : s.data.toList ≠ [124, 124]) (n1 : s.data.toList ≠ [38, 38]) (n2 : s.data.toList ≠ [61, 61]) (n3 : s.data.toList ≠ [33, 61]) (n4 : s.data.toList ≠ [60, 61]) (n5 : s.data.toList ≠ [62, 61]) (n6 : s.data.toList ≠ [60, 60]) (n7 : s.data.toList ≠ [62, 62]) (n8 : s.data.toList ≠ [60]) (n9 : s.data.toList ≠ [62]) (n10 : s.data.toList ≠ [61]) (n11 : s.data.toList ≠ [43]) (n12 : s.data.toList ≠ [45]) (n13 : s.data.toList ≠ [42]) (n14 : s.data.toList ≠ [47]) (n15 : s.data.toList ≠ [37]) (n16 : s.data.toList ≠ [38]) (y : s.data.toList = [124]) (w : World) : Calls Tryd.prog 61 #[.string s] w fun e w' => e = .returned (.bool true) ∧ w' = w := by
  have f0 := litNe5 n0
  have f1 := litNe5 n1
  have f2 := litNe5 n2
  have f3 := litNe5 n3
  have f4 := litNe5 n4
  have f5 := litNe5 n5
  have f6 := litNe5 n6
  have f7 := litNe5 n7
  have f8 := litNe5 n8
  have f9 := litNe5 n9
  have f10 := litNe5 n10
  have f11 := litNe5 n11
  have f12 := litNe5 n12
  have f13 := litNe5 n13
  have f14 := litNe5 n14
  have f15 := litNe5 n15
  have f16 := litNe5 n16
  have fy := litEq5 y
  clear n0 n1 n2 n3 n4 n5 n6 n7 n8 n9 n10 n11 n12 n13 n14 n15 n16 y
  go_enter Tryd.func61, Tryd.ntmps61
  go_wp2_with fail
  go_ret
  exact ⟨rfl, rfl⟩
set_option maxHeartbeats 1000000 in
theorem tokIsSign18 (s : ByteArray) (n0 : s.data.toList ≠ [124, 124]) (n1 : s.data.toList ≠ [38, 38]) (n2 : s.data.toList ≠ [61, 61]) (n3 : s.data.toList ≠ [33, 61]) (n4 : s.data.toList ≠ [60, 61]) (n5 : s.data.toList ≠ [62, 61]) (n6 : s.data.toList ≠ [60, 60]) (n7 : s.data.toList ≠ [62, 62]) (n8 : s.data.toList ≠ [60]) (n9 : s.data.toList ≠ [62]) (n10 : s.data.toList ≠ [61]) (n11 : s.data.toList ≠ [43]) (n12 : s.data.toList ≠ [45]) (n13 : s.data.toList ≠ [42]) (n14 : s.data.toList ≠ [47]) (n15 : s.data.toList ≠ [37]) (n16 : s.data.toList ≠ [38]) (n17 : s.data.toList ≠ [124]) (y : s.data.toList = [94]) (w : World) : Calls Tryd.prog 61 #[.string s] w fun e w' => e = .returned (.bool true) ∧ w' = w := by
  have f0 := litNe5 n0
  have f1 := litNe5 n1
  have f2 := litNe5 n2
  have f3 := litNe5 n3
  have f4 := litNe5 n4
  have f5 := litNe5 n5
  have f6 := litNe5 n6
  have f7 := litNe5 n7
  have f8 := litNe5 n8
  have f9 := litNe5 n9
  have f10 := litNe5 n10
  have f11 := litNe5 n11
  have f12 := litNe5 n12
  have f13 := litNe5 n13
  have f14 := litNe5 n14
  have f15 := litNe5 n15
  have f16 := litNe5 n16
  have f17 := litNe5 n17
  have fy := litEq5 y
  clear n0 n1 n2 n3 n4 n5 n6 n7 n8 n9 n10 n11 n12 n13 n14 n15 n16 n17 y
  go_enter Tryd.func61, Tryd.ntmps61
  go_wp2_with fail
  go_ret
  exact ⟨rfl, rfl⟩
set_option maxHeartbeats 1000000 in
theorem tokIsSign19 (s : ByteArray) (n0 : s.data.toList ≠ [124, 124]) (n1 : s.data.toList ≠ [38, 38]) (n2 : s.data.toList ≠ [61, 61]) (n3 : s.data.toList ≠ [33, 61]) (n4 : s.data.toList ≠ [60, 61]) (n5 : s.data.toList ≠ [62, 61]) (n6 : s.data.toList ≠ [60, 60]) (n7 : s.data.toList ≠ [62, 62]) (n8 : s.data.toList ≠ [60]) (n9 : s.data.toList ≠ [62]) (n10 : s.data.toList ≠ [61]) (n11 : s.data.toList ≠ [43]) (n12 : s.data.toList ≠ [45]) (n13 : s.data.toList ≠ [42]) (n14 : s.data.toList ≠ [47]) (n15 : s.data.toList ≠ [37]) (n16 : s.data.toList ≠ [38]) (n17 : s.data.toList ≠ [124]) (n18 : s.data.toList ≠ [94]) (y : s.data.toList = [33]) (w : World) : Calls Tryd.prog 61 #[.string s] w fun e w' => e = .returned (.bool true) ∧ w' = w := by
  have f0 := litNe5 n0
  have f1 := litNe5 n1
  have f2 := litNe5 n2
  have f3 := litNe5 n3
  have f4 := litNe5 n4
  have f5 := litNe5 n5
  have f6 := litNe5 n6
  have f7 := litNe5 n7
  have f8 := litNe5 n8
  have f9 := litNe5 n9
  have f10 := litNe5 n10
  have f11 := litNe5 n11
  have f12 := litNe5 n12
  have f13 := litNe5 n13
  have f14 := litNe5 n14
  have f15 := litNe5 n15
  have f16 := litNe5 n16
  have f17 := litNe5 n17
  have f18 := litNe5 n18
  have fy := litEq5 y
  clear n0 n1 n2 n3 n4 n5 n6 n7 n8 n9 n10 n11 n12 n13 n14 n15 n16 n17 n18 y
  go_enter Tryd.func61, Tryd.ntmps61
  go_wp2_with fail
  go_ret
  exact ⟨rfl, rfl⟩
set_option maxHeartbeats 1000000 in
theorem tokIsSign20 (s : ByteArray) (n0 : s.data.toList ≠ [124, 124]) (n1 : s.data.toList ≠ [38, 38]) (n2 : s.data.toList ≠ [61, 61]) (n3 : s.data.toList ≠ [33, 61]) (n4 : s.data.toList ≠ [60, 61]) (n5 : s.data.toList ≠ [62, 61]) (n6 : s.data.toList ≠ [60, 60]) (n7 : s.data.toList ≠ [62, 62]) (n8 : s.data.toList ≠ [60]) (n9 : s.data.toList ≠ [62]) (n10 : s.data.toList ≠ [61]) (n11 : s.data.toList ≠ [43]) (n12 : s.data.toList ≠ [45]) (n13 : s.data.toList ≠ [42]) (n14 : s.data.toList ≠ [47]) (n15 : s.data.toList ≠ [37]) (n16 : s.data.toList ≠ [38]) (n17 : s.data.toList ≠ [124]) (n18 : s.data.toList ≠ [94]) (n19 : s.data.toList ≠ [33]) (y : s.data.toList = [126]) (w : World) : Calls Tryd.prog 61 #[.string s] w fun e w' => e = .returned (.bool true) ∧ w' = w := by
  have f0 := litNe5 n0
  have f1 := litNe5 n1
  have f2 := litNe5 n2
  have f3 := litNe5 n3
  have f4 := litNe5 n4
  have f5 := litNe5 n5
  have f6 := litNe5 n6
  have f7 := litNe5 n7
  have f8 := litNe5 n8
  have f9 := litNe5 n9
  have f10 := litNe5 n10
  have f11 := litNe5 n11
  have f12 := litNe5 n12
  have f13 := litNe5 n13
  have f14 := litNe5 n14
  have f15 := litNe5 n15
  have f16 := litNe5 n16
  have f17 := litNe5 n17
  have f18 := litNe5 n18
  have f19 := litNe5 n19
  have fy := litEq5 y
  clear n0 n1 n2 n3 n4 n5 n6 n7 n8 n9 n10 n11 n12 n13 n14 n15 n16 n17 n18 n19 y
  go_enter Tryd.func61, Tryd.ntmps61
  go_wp2_with fail
  go_ret
  exact ⟨rfl, rfl⟩
set_option maxHeartbeats 1000000 in
theorem tokIsSign21 (s : ByteArray) (n0 : s.data.toList ≠ [124, 124]) (n1 : s.data.toList ≠ [38, 38]) (n2 : s.data.toList ≠ [61, 61]) (n3 : s.data.toList ≠ [33, 61]) (n4 : s.data.toList ≠ [60, 61]) (n5 : s.data.toList ≠ [62, 61]) (n6 : s.data.toList ≠ [60, 60]) (n7 : s.data.toList ≠ [62, 62]) (n8 : s.data.toList ≠ [60]) (n9 : s.data.toList ≠ [62]) (n10 : s.data.toList ≠ [61]) (n11 : s.data.toList ≠ [43]) (n12 : s.data.toList ≠ [45]) (n13 : s.data.toList ≠ [42]) (n14 : s.data.toList ≠ [47]) (n15 : s.data.toList ≠ [37]) (n16 : s.data.toList ≠ [38]) (n17 : s.data.toList ≠ [124]) (n18 : s.data.toList ≠ [94]) (n19 : s.data.toList ≠ [33]) (n20 : s.data.toList ≠ [126]) (y : s.data.toList = [40]) (w : World) : Calls Tryd.prog 61 #[.string s] w fun e w' => e = .returned (.bool true) ∧ w' = w := by
  have f0 := litNe5 n0
  have f1 := litNe5 n1
  have f2 := litNe5 n2
  have f3 := litNe5 n3
  have f4 := litNe5 n4
  have f5 := litNe5 n5
  have f6 := litNe5 n6
  have f7 := litNe5 n7
  have f8 := litNe5 n8
  have f9 := litNe5 n9
  have f10 := litNe5 n10
  have f11 := litNe5 n11
  have f12 := litNe5 n12
  have f13 := litNe5 n13
  have f14 := litNe5 n14
  have f15 := litNe5 n15
  have f16 := litNe5 n16
  have f17 := litNe5 n17
  have f18 := litNe5 n18
  have f19 := litNe5 n19
  have f20 := litNe5 n20
  have fy := litEq5 y
  clear n0 n1 n2 n3 n4 n5 n6 n7 n8 n9 n10 n11 n12 n13 n14 n15 n16 n17 n18 n19 n20 y
  go_enter Tryd.func61, Tryd.ntmps61
  go_wp2_with fail
  go_ret
  exact ⟨rfl, rfl⟩
set_option maxHeartbeats 1000000 in
theorem tokIsSign22 (s : ByteArray) (n0 : s.data.toList ≠ [124, 124]) (n1 : s.data.toList ≠ [38, 38]) (n2 : s.data.toList ≠ [61, 61]) (n3 : s.data.toList ≠ [33, 61]) (n4 : s.data.toList ≠ [60, 61]) (n5 : s.data.toList ≠ [62, 61]) (n6 : s.data.toList ≠ [60, 60]) (n7 : s.data.toList ≠ [62, 62]) (n8 : s.data.toList ≠ [60]) (n9 : s.data.toList ≠ [62]) (n10 : s.data.toList ≠ [61]) (n11 : s.data.toList ≠ [43]) (n12 : s.data.toList ≠ [45]) (n13 : s.data.toList ≠ [42]) (n14 : s.data.toList ≠ [47]) (n15 : s.data.toList ≠ [37]) (n16 : s.data.toList ≠ [38]) (n17 : s.data.toList ≠ [124]) (n18 : s.data.toList ≠ [94]) (n19 : s.data.toList ≠ [33]) (n20 : s.data.toList ≠ [126]) (n21 : s.data.toList ≠ [40]) (y : s.data.toList = [41]) (w : World) : Calls Tryd.prog 61 #[.string s] w fun e w' => e = .returned (.bool true) ∧ w' = w := by
  have f0 := litNe5 n0
  have f1 := litNe5 n1
  have f2 := litNe5 n2
  have f3 := litNe5 n3
  have f4 := litNe5 n4
  have f5 := litNe5 n5
  have f6 := litNe5 n6
  have f7 := litNe5 n7
  have f8 := litNe5 n8
  have f9 := litNe5 n9
  have f10 := litNe5 n10
  have f11 := litNe5 n11
  have f12 := litNe5 n12
  have f13 := litNe5 n13
  have f14 := litNe5 n14
  have f15 := litNe5 n15
  have f16 := litNe5 n16
  have f17 := litNe5 n17
  have f18 := litNe5 n18
  have f19 := litNe5 n19
  have f20 := litNe5 n20
  have f21 := litNe5 n21
  have fy := litEq5 y
  clear n0 n1 n2 n3 n4 n5 n6 n7 n8 n9 n10 n11 n12 n13 n14 n15 n16 n17 n18 n19 n20 n21 y
  go_enter Tryd.func61, Tryd.ntmps61
  go_wp2_with fail
  go_ret
  exact ⟨rfl, rfl⟩
set_option maxHeartbeats 1000000 in
theorem tokIsSign23 (s : ByteArray) (n0 : s.data.toList ≠ [124, 124]) (n1 : s.data.toList ≠ [38, 38]) (n2 : s.data.toList ≠ [61, 61]) (n3 : s.data.toList ≠ [33, 61]) (n4 : s.data.toList ≠ [60, 61]) (n5 : s.data.toList ≠ [62, 61]) (n6 : s.data.toList ≠ [60, 60]) (n7 : s.data.toList ≠ [62, 62]) (n8 : s.data.toList ≠ [60]) (n9 : s.data.toList ≠ [62]) (n10 : s.data.toList ≠ [61]) (n11 : s.data.toList ≠ [43]) (n12 : s.data.toList ≠ [45]) (n13 : s.data.toList ≠ [42]) (n14 : s.data.toList ≠ [47]) (n15 : s.data.toList ≠ [37]) (n16 : s.data.toList ≠ [38]) (n17 : s.data.toList ≠ [124]) (n18 : s.data.toList ≠ [94]) (n19 : s.data.toList ≠ [33]) (n20 : s.data.toList ≠ [126]) (n21 : s.data.toList ≠ [40]) (n22 : s.data.toList ≠ [41]) (y : s.data.toList = [123]) (w : World) : Calls Tryd.prog 61 #[.string s] w fun e w' => e = .returned (.bool true) ∧ w' = w := by
  have f0 := litNe5 n0
  have f1 := litNe5 n1
  have f2 := litNe5 n2
  have f3 := litNe5 n3
  have f4 := litNe5 n4
  have f5 := litNe5 n5
  have f6 := litNe5 n6
  have f7 := litNe5 n7
  have f8 := litNe5 n8
  have f9 := litNe5 n9
  have f10 := litNe5 n10
  have f11 := litNe5 n11
  have f12 := litNe5 n12
  have f13 := litNe5 n13
  have f14 := litNe5 n14
  have f15 := litNe5 n15
  have f16 := litNe5 n16
  have f17 := litNe5 n17
  have f18 := litNe5 n18
  have f19 := litNe5 n19
  have f20 := litNe5 n20
  have f21 := litNe5 n21
  have f22 := litNe5 n22
  have fy := litEq5 y
  clear n0 n1 n2 n3 n4 n5 n6 n7 n8 n9 n10 n11 n12 n13 n14 n15 n16 n17 n18 n19 n20 n21 n22 y
  go_enter Tryd.func61, Tryd.ntmps61
  go_wp2_with fail
  go_ret
  exact ⟨rfl, rfl⟩
set_option maxHeartbeats 1000000 in
theorem tokIsSign24 (s : ByteArray) (n0 : s.data.toList ≠ [124, 124]) (n1 : s.data.toList ≠ [38, 38]) (n2 : s.data.toList ≠ [61, 61]) (n3 : s.data.toList ≠ [33, 61]) (n4 : s.data.toList ≠ [60, 61]) (n5 : s.data.toList ≠ [62, 61]) (n6 : s.data.toList ≠ [60, 60]) (n7 : s.data.toList ≠ [62, 62]) (n8 : s.data.toList ≠ [60]) (n9 : s.data.toList ≠ [62]) (n10 : s.data.toList ≠ [61]) (n11 : s.data.toList ≠ [43]) (n12 : s.data.toList ≠ [45]) (n13 : s.data.toList ≠ [42]) (n14 : s.data.toList ≠ [47]) (n15 : s.data.toList ≠ [37]) (n16 : s.data.toList ≠ [38]) (n17 : s.data.toList ≠ [124]) (n18 : s.data.toList ≠ [94]) (n19 : s.data.toList ≠ [33]) (n20 : s.data.toList ≠ [126]) (n21 : s.data.toList ≠ [40]) (n22 : s.data.toList ≠ [41]) (n23 : s.data.toList ≠ [123]) (y : s.data.toList = [125]) (w : World) : Calls Tryd.prog 61 #[.string s] w fun e w' => e = .returned (.bool true) ∧ w' = w := by
  have f0 := litNe5 n0
  have f1 := litNe5 n1
  have f2 := litNe5 n2
  have f3 := litNe5 n3
  have f4 := litNe5 n4
  have f5 := litNe5 n5
  have f6 := litNe5 n6
  have f7 := litNe5 n7
  have f8 := litNe5 n8
  have f9 := litNe5 n9
  have f10 := litNe5 n10
  have f11 := litNe5 n11
  have f12 := litNe5 n12
  have f13 := litNe5 n13
  have f14 := litNe5 n14
  have f15 := litNe5 n15
  have f16 := litNe5 n16
  have f17 := litNe5 n17
  have f18 := litNe5 n18
  have f19 := litNe5 n19
  have f20 := litNe5 n20
  have f21 := litNe5 n21
  have f22 := litNe5 n22
  have f23 := litNe5 n23
  have fy := litEq5 y
  clear n0 n1 n2 n3 n4 n5 n6 n7 n8 n9 n10 n11 n12 n13 n14 n15 n16 n17 n18 n19 n20 n21 n22 n23 y
  go_enter Tryd.func61, Tryd.ntmps61
  go_wp2_with fail
  go_ret
  exact ⟨rfl, rfl⟩
set_option maxHeartbeats 1000000 in
theorem tokIsSign25 (s : ByteArray) (n0 : s.data.toList ≠ [124, 124]) (n1 : s.data.toList ≠ [38, 38]) (n2 : s.data.toList ≠ [61, 61]) (n3 : s.data.toList ≠ [33, 61]) (n4 : s.data.toList ≠ [60, 61]) (n5 : s.data.toList ≠ [62, 61]) (n6 : s.data.toList ≠ [60, 60]) (n7 : s.data.toList ≠ [62, 62]) (n8 : s.data.toList ≠ [60]) (n9 : s.data.toList ≠ [62]) (n10 : s.data.toList ≠ [61]) (n11 : s.data.toList ≠ [43]) (n12 : s.data.toList ≠ [45]) (n13 : s.data.toList ≠ [42]) (n14 : s.data.toList ≠ [47]) (n15 : s.data.toList ≠ [37]) (n16 : s.data.toList ≠ [38]) (n17 : s.data.toList ≠ [124]) (n18 : s.data.toList ≠ [94]) (n19 : s.data.toList ≠ [33]) (n20 : s.data.toList ≠ [126]) (n21 : s.data.toList ≠ [40]) (n22 : s.data.toList ≠ [41]) (n23 : s.data.toList ≠ [123]) (n24 : s.data.toList ≠ [125]) (y : s.data.toList = [91]) (w : World) : Calls Tryd.prog 61 #[.string s] w fun e w' => e = .returned (.bool true) ∧ w' = w := by
  have f0 := litNe5 n0
  have f1 := litNe5 n1
  have f2 := litNe5 n2
  have f3 := litNe5 n3
  have f4 := litNe5 n4
  have f5 := litNe5 n5
  have f6 := litNe5 n6
  have f7 := litNe5 n7
  have f8 := litNe5 n8
  have f9 := litNe5 n9
  have f10 := litNe5 n10
  have f11 := litNe5 n11
  have f12 := litNe5 n12
  have f13 := litNe5 n13
  have f14 := litNe5 n14
  have f15 := litNe5 n15
  have f16 := litNe5 n16
  have f17 := litNe5 n17
  have f18 := litNe5 n18
  have f19 := litNe5 n19
  have f20 := litNe5 n20
  have f21 := litNe5 n21
  have f22 := litNe5 n22
  have f23 := litNe5 n23
  have f24 := litNe5 n24
  have fy := litEq5 y
  clear n0 n1 n2 n3 n4 n5 n6 n7 n8 n9 n10 n11 n12 n13 n14 n15 n16 n17 n18 n19 n20 n21 n22 n23 n24 y
  go_enter Tryd.func61, Tryd.ntmps61
  go_wp2_with fail
  go_ret
  exact ⟨rfl, rfl⟩
set_option maxHeartbeats 1000000 in
theorem tokIsSign26 (s : ByteArray) (n0 : s.data.toList ≠ [124, 124]) (n1 : s.data.toList ≠ [38, 38]) (n2 : s.data.toList ≠ [61, 61]) (n3 : s.data.toList ≠ [33, 61]) (n4 : s.data.toList ≠ [60, 61]) (n5 : s.data.toList ≠ [62, 61]) (n6 : s.data.toList ≠ [60, 60]) (n7 : s.data.toList ≠ [62, 62]) (n8 : s.data.toList ≠ [60]) (n9 : s.data.toList ≠ [62]) (n10 : s.data.toList ≠ [61]) (n11 : s.data.toList ≠ [43]) (n12 : s.data.toList ≠ [45]) (n13 : s.data.toList ≠ [42]) (n14 : s.data.toList ≠ [47]) (n15 : s.data.toList ≠ [37]) (n16 : s.data.toList ≠ [38]) (n17 : s.data.toList ≠ [124]) (n18 : s.data.toList ≠ [94]) (n19 : s.data.toList ≠ [33]) (n20 : s.data.toList ≠ [126]) (n21 : s.data.toList ≠ [40]) (n22 : s.data.toList ≠ [41]) (n23 : s.data.toList ≠ [123]) (n24 : s.data.toList ≠ [125]) (n25 : s.data.toList ≠ [91]) (y : s.data.toList = [93]) (w : World) : Calls Tryd.prog 61 #[.string s] w fun e w' => e = .returned (.bool true) ∧ w' = w := by
  have f0 := litNe5 n0
  have f1 := litNe5 n1
  have f2 := litNe5 n2
  have f3 := litNe5 n3
  have f4 := litNe5 n4
  have f5 := litNe5 n5
  have f6 := litNe5 n6
  have f7 := litNe5 n7
  have f8 := litNe5 n8
  have f9 := litNe5 n9
  have f10 := litNe5 n10
  have f11 := litNe5 n11
  have f12 := litNe5 n12
  have f13 := litNe5 n13
  have f14 := litNe5 n14
  have f15 := litNe5 n15
  have f16 := litNe5 n16
  have f17 := litNe5 n17
  have f18 := litNe5 n18
  have f19 := litNe5 n19
  have f20 := litNe5 n20
  have f21 := litNe5 n21
  have f22 := litNe5 n22
  have f23 := litNe5 n23
  have f24 := litNe5 n24
  have f25 := litNe5 n25
  have fy := litEq5 y
  clear n0 n1 n2 n3 n4 n5 n6 n7 n8 n9 n10 n11 n12 n13 n14 n15 n16 n17 n18 n19 n20 n21 n22 n23 n24 n25 y
  go_enter Tryd.func61, Tryd.ntmps61
  go_wp2_with fail
  go_ret
  exact ⟨rfl, rfl⟩
set_option maxHeartbeats 1000000 in
theorem tokIsSign27 (s : ByteArray) (n0 : s.data.toList ≠ [124, 124]) (n1 : s.data.toList ≠ [38, 38]) (n2 : s.data.toList ≠ [61, 61]) (n3 : s.data.toList ≠ [33, 61]) (n4 : s.data.toList ≠ [60, 61]) (n5 : s.data.toList ≠ [62, 61]) (n6 : s.data.toList ≠ [60, 60]) (n7 : s.data.toList ≠ [62, 62]) (n8 : s.data.toList ≠ [60]) (n9 : s.data.toList ≠ [62]) (n10 : s.data.toList ≠ [61]) (n11 : s.data.toList ≠ [43]) (n12 : s.data.toList ≠ [45]) (n13 : s.data.toList ≠ [42]) (n14 : s.data.toList ≠ [47]) (n15 : s.data.toList ≠ [37]) (n16 : s.data.toList ≠ [38]) (n17 : s.data.toList ≠ [124]) (n18 : s.data.toList ≠ [94]) (n19 : s.data.toList ≠ [33]) (n20 : s.data.toList ≠ [126]) (n21 : s.data.toList ≠ [40]) (n22 : s.data.toList ≠ [41]) (n23 : s.data.toList ≠ [123]) (n24 : s.data.toList ≠ [125]) (n25 : s.data.toList ≠ [91]) (n26 : s.data.toList ≠ [93]) (y : s.data.toList = [44]) (w : World) : Calls Tryd.prog 61 #[.string s] w fun e w' => e = .returned (.bool true) ∧ w' = w := by
  have f0 := litNe5 n0
  have f1 := litNe5 n1
  have f2 := litNe5 n2
  have f3 := litNe5 n3
  have f4 := litNe5 n4
  have f5 := litNe5 n5
  have f6 := litNe5 n6
  have f7 := litNe5 n7
  have f8 := litNe5 n8
  have f9 := litNe5 n9
  have f10 := litNe5 n10
  have f11 := litNe5 n11
  have f12 := litNe5 n12
  have f13 := litNe5 n13
  have f14 := litNe5 n14
  have f15 := litNe5 n15
  have f16 := litNe5 n16
  have f17 := litNe5 n17
  have f18 := litNe5 n18
  have f19 := litNe5 n19
  have f20 := litNe5 n20
  have f21 := litNe5 n21
  have f22 := litNe5 n22
  have f23 := litNe5 n23
  have f24 := litNe5 n24
  have f25 := litNe5 n25
  have f26 := litNe5 n26
  have fy := litEq5 y
  clear n0 n1 n2 n3 n4 n5 n6 n7 n8 n9 n10 n11 n12 n13 n14 n15 n16 n17 n18 n19 n20 n21 n22 n23 n24 n25 n26 y
  go_enter Tryd.func61, Tryd.ntmps61
  go_wp2_with fail
  go_ret
  exact ⟨rfl, rfl⟩
set_option maxHeartbeats 1000000 in
theorem tokIsSign28 (s : ByteArray) (n0 : s.data.toList ≠ [124, 124]) (n1 : s.data.toList ≠ [38, 38]) (n2 : s.data.toList ≠ [61, 61]) (n3 : s.data.toList ≠ [33, 61]) (n4 : s.data.toList ≠ [60, 61]) (n5 : s.data.toList ≠ [62, 61]) (n6 : s.data.toList ≠ [60, 60]) (n7 : s.data.toList ≠ [62, 62]) (n8 : s.data.toList ≠ [60]) (n9 : s.data.toList ≠ [62]) (n10 : s.data.toList ≠ [61]) (n11 : s.data.toList ≠ [43]) (n12 : s.data.toList ≠ [45]) (n13 : s.data.toList ≠ [42]) (n14 : s.data.toList ≠ [47]) (n15 : s.data.toList ≠ [37]) (n16 : s.data.toList ≠ [38]) (n17 : s.data.toList ≠ [124]) (n18 : s.data.toList ≠ [94]) (n19 : s.data.toList ≠ [33]) (n20 : s.data.toList ≠ [126]) (n21 : s.data.toList ≠ [40]) (n22 : s.data.toList ≠ [41]) (n23 : s.data.toList ≠ [123]) (n24 : s.data.toList ≠ [125]) (n25 : s.data.toList ≠ [91]) (n26 : s.data.toList ≠ [93]) (n27 : s.data.toList ≠ [44]) (y : s.data.toList = [59]) (w : World) : Calls Tryd.prog 61 #[.string s] w fun e w' => e = .returned (.bool true) ∧ w' = w := by
  have f0 := litNe5 n0
  have f1 := litNe5 n1
  have f2 := litNe5 n2
  have f3 := litNe5 n3
  have f4 := litNe5 n4
  have f5 := litNe5 n5
  have f6 := litNe5 n6
  have f7 := litNe5 n7
  have f8 := litNe5 n8
  have f9 := litNe5 n9
  have f10 := litNe5 n10
  have f11 := litNe5 n11
  have f12 := litNe5 n12
  have f13 := litNe5 n13
  have f14 := litNe5 n14
  have f15 := litNe5 n15
  have f16 := litNe5 n16
  have f17 := litNe5 n17
  have f18 := litNe5 n18
  have f19 := litNe5 n19
  have f20 := litNe5 n20
  have f21 := litNe5 n21
  have f22 := litNe5 n22
  have f23 := litNe5 n23
  have f24 := litNe5 n24
  have f25 := litNe5 n25
  have f26 := litNe5 n26
  have f27 := litNe5 n27
  have fy := litEq5 y
  clear n0 n1 n2 n3 n4 n5 n6 n7 n8 n9 n10 n11 n12 n13 n14 n15 n16 n17 n18 n19 n20 n21 n22 n23 n24 n25 n26 n27 y
  go_enter Tryd.func61, Tryd.ntmps61
  go_wp2_with fail
  go_ret
  exact ⟨rfl, rfl⟩
set_option maxHeartbeats 1000000 in
theorem tokIsSign29 (s : ByteArray) (n0 : s.data.toList ≠ [124, 124]) (n1 : s.data.toList ≠ [38, 38]) (n2 : s.data.toList ≠ [61, 61]) (n3 : s.data.toList ≠ [33, 61]) (n4 : s.data.toList ≠ [60, 61]) (n5 : s.data.toList ≠ [62, 61]) (n6 : s.data.toList ≠ [60, 60]) (n7 : s.data.toList ≠ [62, 62]) (n8 : s.data.toList ≠ [60]) (n9 : s.data.toList ≠ [62]) (n10 : s.data.toList ≠ [61]) (n11 : s.data.toList ≠ [43]) (n12 : s.data.toList ≠ [45]) (n13 : s.data.toList ≠ [42]) (n14 : s.data.toList ≠ [47]) (n15 : s.data.toList ≠ [37]) (n16 : s.data.toList ≠ [38]) (n17 : s.data.toList ≠ [124]) (n18 : s.data.toList ≠ [94]) (n19 : s.data.toList ≠ [33]) (n20 : s.data.toList ≠ [126]) (n21 : s.data.toList ≠ [40]) (n22 : s.data.toList ≠ [41]) (n23 : s.data.toList ≠ [123]) (n24 : s.data.toList ≠ [125]) (n25 : s.data.toList ≠ [91]) (n26 : s.data.toList ≠ [93]) (n27 : s.data.toList ≠ [44]) (n28 : s.data.toList ≠ [59]) (w : World) : Calls Tryd.prog 61 #[.string s] w fun e w' => e = .returned (.bool false) ∧ w' = w := by
  have f0 := litNe5 n0
  have f1 := litNe5 n1
  have f2 := litNe5 n2
  have f3 := litNe5 n3
  have f4 := litNe5 n4
  have f5 := litNe5 n5
  have f6 := litNe5 n6
  have f7 := litNe5 n7
  have f8 := litNe5 n8
  have f9 := litNe5 n9
  have f10 := litNe5 n10
  have f11 := litNe5 n11
  have f12 := litNe5 n12
  have f13 := litNe5 n13
  have f14 := litNe5 n14
  have f15 := litNe5 n15
  have f16 := litNe5 n16
  have f17 := litNe5 n17
  have f18 := litNe5 n18
  have f19 := litNe5 n19
  have f20 := litNe5 n20
  have f21 := litNe5 n21
  have f22 := litNe5 n22
  have f23 := litNe5 n23
  have f24 := litNe5 n24
  have f25 := litNe5 n25
  have f26 := litNe5 n26
  have f27 := litNe5 n27
  have f28 := litNe5 n28
  clear n0 n1 n2 n3 n4 n5 n6 n7 n8 n9 n10 n11 n12 n13 n14 n15 n16 n17 n18 n19 n20 n21 n22 n23 n24 n25 n26 n27 n28
  go_enter Tryd.func61, Tryd.ntmps61
  go_wp2_with fail
  go_ret
  exact ⟨rfl, rfl⟩
theorem tokIsSign (s : ByteArray) (w : World) : Calls Tryd.prog 61 #[.string s] w fun e w' => e = .returned (.bool (isSignB s.data.toList)) ∧ w' = w := by
  rcases sign_which s.data.toList with y | ⟨n0, y⟩ | ⟨n0, n1, y⟩ | ⟨n0, n1, n2, y⟩ | ⟨n0, n1, n2, n3, y⟩ | ⟨n0, n1, n2, n3, n4, y⟩ | ⟨n0, n1, n2, n3, n4, n5, y⟩ | ⟨n0, n1, n2, n3, n4, n5, n6, y⟩ | ⟨n0, n1, n2, n3, n4, n5, n6, n7, y⟩ | ⟨n0, n1, n2, n3, n4, n5, n6, n7, n8, y⟩ | ⟨n0, n1, n2, n3, n4, n5, n6, n7, n8, n9, y⟩ | ⟨n0, n1, n2, n3, n4, n5, n6, n7, n8, n9, n10, y⟩ | ⟨n0, n1, n2, n3, n4, n5, n6, n7, n8, n9, n10, n11, y⟩ | ⟨n0, n1, n2, n3, n4, n5, n6, n7, n8, n9, n10, n11, n12, y⟩ | ⟨n0, n1, n2, n3, n4, n5, n6, n7, n8, n9, n10, n11, n12, n13, y⟩ | ⟨n0, n1, n2, n3, n4, n5, n6, n7, n8, n9, n10, n11, n12, n13, n14, y⟩ | ⟨n0, n1, n2, n3, n4, n5, n6, n7, n8, n9, n10, n11, n12, n13, n14, n15, y⟩ | ⟨n0, n1, n2, n3, n4, n5, n6, n7, n8, n9, n10, n11, n12, n13, n14, n15, n16, y⟩ | ⟨n0, n1, n2, n3, n4, n5, n6, n7, n8, n9, n10, n11, n12, n13, n14, n15, n16, n17, y⟩ | ⟨n0, n1, n2, n3, n4, n5, n6, n7, n8, n9, n10, n11, n12, n13, n14, n15, n16, n17, n18, y⟩ | ⟨n0, n1, n2, n3, n4, n5, n6, n7, n8, n9, n10, n11, n12, n13, n14, n15, n16, n17, n18, n19, y⟩ | ⟨n0, n1, n2, n3, n4, n5, n6, n7, n8, n9, n10, n11, n12, n13, n14, n15, n16, n17, n18, n19, n20, y⟩ | ⟨n0, n1, n2, n3, n4, n5, n6, n7, n8, n9, n10, n11, n12, n13, n14, n15, n16, n17, n18, n19, n20, n21, y⟩ | ⟨n0, n1, n2, n3, n4, n5, n6, n7, n8, n9, n10, n11, n12, n13, n14, n15, n16, n17, n18, n19, n20, n21, n22, y⟩ | ⟨n0, n1, n2, n3, n4, n5, n6, n7, n8, n9, n10, n11, n12, n13, n14, n15, n16, n17, n18, n19, n20, n21, n22, n23, y⟩ | ⟨n0, n1, n2, n3, n4, n5, n6, n7, n8, n9, n10, n11, n12, n13, n14, n15, n16, n17, n18, n19, n20, n21, n22, n23, n24, y⟩ | ⟨n0, n1, n2, n3, n4, n5, n6, n7, n8, n9, n10, n11, n12, n13, n14, n15, n16, n17, n18, n19, n20, n21, n22, n23, n24, n25, y⟩ | ⟨n0, n1, n2, n3, n4, n5, n6, n7, n8, n9, n10, n11, n12, n13, n14, n15, n16, n17, n18, n19, n20, n21, n22, n23, n24, n25, n26, y⟩ | ⟨n0, n1, n2, n3, n4, n5, n6, n7, n8, n9, n10, n11, n12, n13, n14, n15, n16, n17, n18, n19, n20, n21, n22, n23, n24, n25, n26, n27, y⟩ | ⟨n0, n1, n2, n3, n4, n5, n6, n7, n8, n9, n10, n11, n12, n13, n14, n15, n16, n17, n18, n19, n20, n21, n22, n23, n24, n25, n26, n27, n28⟩
  · rw [show isSignB s.data.toList = true by rw [y]; rfl]
    exact tokIsSign0 s y w
  · rw [show isSignB s.data.toList = true by rw [y]; rfl]
    exact tokIsSign1 s n0 y w
  · rw [show isSignB s.data.toList = true by rw [y]; rfl]
    exact tokIsSign2 s n0 n1 y w
  · rw [show isSignB s.data.toList = true by rw [y]; rfl]
    exact tokIsSign3 s n0 n1 n2 y w
  · rw [show isSignB s.data.toList = true by rw [y]; rfl]
    exact tokIsSign4 s n0 n1 n2 n3 y w
  · rw [show isSignB s.data.toList = true by rw [y]; rfl]
    exact tokIsSign5 s n0 n1 n2 n3 n4 y w
  · rw [show isSignB s.data.toList = true by rw [y]; rfl]
    exact tokIsSign6 s n0 n1 n2 n3 n4 n5 y w
  · rw [show isSignB s.data.toList = true by rw [y]; rfl]
    exact tokIsSign7 s n0 n1 n2 n3 n4 n5 n6 y w
  · rw [show isSignB s.data.toList = true by rw [y]; rfl]
    exact tokIsSign8 s n0 n1 n2 n3 n4 n5 n6 n7 y w
  · rw [show isSignB s.data.toList = true by rw [y]; rfl]
    exact tokIsSign9 s n0 n1 n2 n3 n4 n5 n6 n7 n8 y w
  · rw [show isSignB s.data.toList = true by rw [y]; rfl]
    exact tokIsSign10 s n0 n1 n2 n3 n4 n5 n6 n7 n8 n9 y w
  · rw [show isSignB s.data.toList = true by rw [y]; rfl]
    exact tokIsSign11 s n0 n1 n2 n3 n4 n5 n6 n7 n8 n9 n10 y w
  · rw [show isSignB s.data.toList = true by rw [y]; rfl]
    exact tokIsSign12 s n0 n1 n2 n3 n4 n5 n6 n7 n8 n9 n10 n11 y w
  · rw [show isSignB s.data.toList = true by rw [y]; rfl]
    exact tokIsSign13 s n0 n1 n2 n3 n4 n5 n6 n7 n8 n9 n10 n11 n12 y w
  · rw [show isSignB s.data.toList = true by rw [y]; rfl]
    exact tokIsSign14 s n0 n1 n2 n3 n4 n5 n6 n7 n8 n9 n10 n11 n12 n13 y w
  · rw [show isSignB s.data.toList = true by rw [y]; rfl]
    exact tokIsSign15 s n0 n1 n2 n3 n4 n5 n6 n7 n8 n9 n10 n11 n12 n13 n14 y w
  · rw [show isSignB s.data.toList = true by rw [y]; rfl]
    exact tokIsSign16 s n0 n1 n2 n3 n4 n5 n6 n7 n8 n9 n10 n11 n12 n13 n14 n15 y w
  · rw [show isSignB s.data.toList = true by rw [y]; rfl]
    exact tokIsSign17 s n0 n1 n2 n3 n4 n5 n6 n7 n8 n9 n10 n11 n12 n13 n14 n15 n16 y w
  · rw [show isSignB s.data.toList = true by rw [y]; rfl]
    exact tokIsSign18 s n0 n1 n2 n3 n4 n5 n6 n7 n8 n9 n10 n11 n12 n13 n14 n15 n16 n17 y w
  · rw [show isSignB s.data.toList = true by rw [y]; rfl]
    exact tokIsSign19 s n0 n1 n2 n3 n4 n5 n6 n7 n8 n9 n10 n11 n12 n13 n14 n15 n16 n17 n18 y w
  · rw [show isSignB s.data.toList = true by rw [y]; rfl]
    exact tokIsSign20 s n0 n1 n2 n3 n4 n5 n6 n7 n8 n9 n10 n11 n12 n13 n14 n15 n16 n17 n18 n19 y w
  · rw [show isSignB s.data.toList = true by rw [y]; rfl]
    exact tokIsSign21 s n0 n1 n2 n3 n4 n5 n6 n7 n8 n9 n10 n11 n12 n13 n14 n15 n16 n17 n18 n19 n20 y w
  · rw [show isSignB s.data.toList = true by rw [y]; rfl]
    exact tokIsSign22 s n0 n1 n2 n3 n4 n5 n6 n7 n8 n9 n10 n11 n12 n13 n14 n15 n16 n17 n18 n19 n20 n21 y w
  · rw [show isSignB s.data.toList = true by rw [y]; rfl]
    exact tokIsSign23 s n0 n1 n2 n3 n4 n5 n6 n7 n8 n9 n10 n11 n12 n13 n14 n15 n16 n17 n18 n19 n20 n21 n22 y w
  · rw [show isSignB s.data.toList = true by rw [y]; rfl]
    exact tokIsSign24 s n0 n1 n2 n3 n4 n5 n6 n7 n8 n9 n10 n11 n12 n13 n14 n15 n16 n17 n18 n19 n20 n21 n22 n23 y w
  · rw [show isSignB s.data.toList = true by rw [y]; rfl]
    exact tokIsSign25 s n0 n1 n2 n3 n4 n5 n6 n7 n8 n9 n10 n11 n12 n13 n14 n15 n16 n17 n18 n19 n20 n21 n22 n23 n24 y w
  · rw [show isSignB s.data.toList = true by rw [y]; rfl]
    exact tokIsSign26 s n0 n1 n2 n3 n4 n5 n6 n7 n8 n9 n10 n11 n12 n13 n14 n15 n16 n17 n18 n19 n20 n21 n22 n23 n24 n25 y w
  · rw [show isSignB s.data.toList = true by rw [y]; rfl]
    exact tokIsSign27 s n0 n1 n2 n3 n4 n5 n6 n7 n8 n9 n10 n11 n12 n13 n14 n15 n16 n17 n18 n19 n20 n21 n22 n23 n24 n25 n26 y w
  · rw [show isSignB s.data.toList = true by rw [y]; rfl]
    exact tokIsSign28 s n0 n1 n2 n3 n4 n5 n6 n7 n8 n9 n10 n11 n12 n13 n14 n15 n16 n17 n18 n19 n20 n21 n22 n23 n24 n25 n26 n27 y w
  · rw [show isSignB s.data.toList = false by
      unfold isSignB
      rw [Bool.eq_false_iff]
      intro h
      rw [List.contains_iff_mem] at h
      unfold signs at h
      simp only [List.mem_cons, List.not_mem_nil, or_false] at h
      rcases h with h | h | h | h | h | h | h | h | h | h | h | h | h | h | h | h | h | h | h | h | h | h | h | h | h | h | h | h | h
      · exact n0 h
      · exact n1 h
      · exact n2 h
      · exact n3 h
      · exact n4 h
      · exact n5 h
      · exact n6 h
      · exact n7 h
      · exact n8 h
      · exact n9 h
      · exact n10 h
      · exact n11 h
      · exact n12 h
      · exact n13 h
      · exact n14 h
      · exact n15 h
      · exact n16 h
      · exact n17 h
      · exact n18 h
      · exact n19 h
      · exact n20 h
      · exact n21 h
      · exact n22 h
      · exact n23 h
      · exact n24 h
      · exact n25 h
      · exact n26 h
      · exact n27 h
      · exact n28 h]
    exact tokIsSign29 s n0 n1 n2 n3 n4 n5 n6 n7 n8 n9 n10 n11 n12 n13 n14 n15 n16 n17 n18 n19 n20 n21 n22 n23 n24 n25 n26 n27 n28 w
end Go.Proofs.YthlpldmodflmjaaDoor
