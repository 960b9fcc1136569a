/- The contract of the reference's skip of layer 5. -/
import Derived.Test.YthlpldmodflmjaaDoorTokE
namespace Go.Proofs.YthlpldmodflmjaaDoor
open Go.RowKit

theorem skipL_stop {c : UInt8} {r : List UInt8} (h : blk c = false) (h2 : c ≠ 35) : skipL (c :: r) false = 0 := by unfold skipL; rw [if_pos ⟨rfl, h, h2⟩]
theorem skipL_on {c : UInt8} {r : List UInt8} {b b' : Bool} (h : ¬ (b = false ∧ blk c = false ∧ c ≠ 35)) (h2 : ((b || c == 35) && c != 10) = b') : skipL (c :: r) b = skipL r b' + 1 := by rw [skipL, if_neg h, h2]
theorem drop_at {L : List UInt8} {j : Nat} {c : UInt8} (h : L[j]? = some c) : L.drop j = c :: L.drop (j + 1) := by
  obtain ⟨hj, e⟩ := List.getElem?_eq_some_iff.1 h
  rw [List.drop_eq_getElem_cons hj, e]
theorem u8_of {c : UInt8} {n : Nat} (hn : n < 256) (h : ((c.toNat : Nat) : Int) = n) : c = UInt8.ofNat n := by
  apply UInt8.toNat_inj.1
  rw [UInt8.toNat_ofNat_of_lt' hn]
  omega

set_option maxHeartbeats 2000000 in
theorem refSkip (s : ByteArray) (p : Nat) (hp : p ≤ s.size) (hs : s.size ≤ 100000) (w : World) : Calls Tryd.prog 26 #[.string s, .int .i64 p] w fun e w' => e = .returned (.int .i64 ((p + skipL (s.data.toList.drop p) false : Nat) : Int)) ∧ w' = w := by
  obtain ⟨T, hT⟩ : ∃ T, T = p + skipL (s.data.toList.drop p) false := ⟨_, rfl⟩
  rw [← hT]
  have hT0 : Hid (T = p + skipL (s.data.toList.drop p) false) := hT
  clear hT
  go_enter Tryd.func26, Tryd.ntmps26
  go_wp2_with fail
  go_loopw [1, 5] (fun v f W => ∃ (j : Nat) (b : Bool), j ≤ s.size ∧ v = .int .i64 j ∧ f = .bool b ∧ Hid (T = j + skipL (s.data.toList.drop j) b) ∧ W = w) (fun v _ _ => s.size - (intOf v).toNat)
  case atStart => exact ⟨p, false, hp, rfl, rfl, hT0, rfl⟩
  case round =>
    obtain ⟨j, b, hj, rfl, rfl, hst, rfl⟩ := hrel
    clear hT0
    by_cases hlt : j < s.size
    · have hlt' : (j : Int) < s.size := by omega
      obtain ⟨c, hc, hidx⟩ := byte_is s j hlt
      have hd := drop_at hc
      rw [hd] at hst
      have hz : ((c.toNat : Nat) : Int) = 35 → c = 35 := fun e => u8_of (n := 35) (by omega) e
      have hzb := c.toNat_lt
      have HC := Lib.hid hc
      clear hc hd
      have hblk : blk c = decide (((c.toNat : Nat) : Int) = 9 ∨ ((c.toNat : Nat) : Int) = 10 ∨ ((c.toNat : Nat) : Int) = 13 ∨ ((c.toNat : Nat) : Int) = 32) := by unfold blk; congr 1; simp; omega
      have h35 : (c == 35) = decide (((c.toNat : Nat) : Int) = 35) := by
        rw [Bool.eq_iff_iff]; simp
        exact ⟨fun e => by rw [e]; rfl, fun e => u8_of (n := 35) (by omega) e⟩
      have h10 : (c != 10) = decide (¬ ((c.toNat : Nat) : Int) = 10) := by
        rw [Bool.eq_iff_iff]; simp
        exact ⟨fun h e => h (u8_of (n := 10) (by omega) e), fun h e => h (by rw [e]; rfl)⟩
      obtain ⟨z, hzz⟩ : ∃ z : Int, z = ((c.toNat : Nat) : Int) := ⟨_, rfl⟩
      rw [← hzz] at hidx hblk h35 h10 hz
      have h35n : c = 35 → z = 35 := fun e => by rw [hzz, e]; rfl
      clear hzz
      cases b with
      | true =>
        by_cases hcs : z = 10
        · have e0 : z = 10 := hcs
          have hT2 : Hid (T = j + 1 + skipL (s.data.toList.drop (j + 1)) false) := by
            have h := hst.out
            rw [skipL_on (b' := false) (fun h => by simp at h) (by rw [h35, h10]; simp [*])] at h
            show T = _
            omega
          clear hst hblk h35 h10 hz hzb h35n
          subst e0
          go_wp2_with fail
          exact ⟨⟨j + 1, false, by omega, by go_num, by first | rfl | simp [*], hT2, by first | rfl | trivial⟩, by simp [intOf]; omega⟩
        · have f10 : ¬ z = 10 := hcs
          have hT2 : Hid (T = j + 1 + skipL (s.data.toList.drop (j + 1)) true) := by
            have h := hst.out
            rw [skipL_on (b' := true) (fun h => by simp at h) (by rw [h35, h10]; simp [*])] at h
            show T = _
            omega
          clear hst hblk h35 h10 hz hzb h35n
          go_wp2_with fail
          exact ⟨⟨j + 1, true, by omega, by go_num, by first | rfl | simp [*], hT2, by first | rfl | trivial⟩, by simp [intOf]; omega⟩
      | false =>
        have hcc : z = 9 ∨ z = 10 ∨ z = 13 ∨ z = 32 ∨ z = 35 ∨ (¬ z = 9 ∧ ¬ z = 10 ∧ ¬ z = 13 ∧ ¬ z = 32 ∧ ¬ z = 35) := by omega
        rcases hcc with hcs | hcs | hcs | hcs | hcs | ⟨f9, f10, f13, f32, f35⟩
        · have e0 : z = 9 := hcs
          have hT2 : Hid (T = j + 1 + skipL (s.data.toList.drop (j + 1)) false) := by
            have h := hst.out
            rw [skipL_on (b' := false) (fun h => by rw [hblk] at h; simp [*] at h) (by rw [h35, h10]; simp [*])] at h
            show T = _
            omega
          clear hst hblk h35 h10 hz hzb h35n
          subst e0
          go_wp2_with fail
          exact ⟨⟨j + 1, false, by omega, by go_num, by first | rfl | simp [*], hT2, by first | rfl | trivial⟩, by simp [intOf]; omega⟩
        · have e0 : z = 10 := hcs
          have hT2 : Hid (T = j + 1 + skipL (s.data.toList.drop (j + 1)) false) := by
            have h := hst.out
            rw [skipL_on (b' := false) (fun h => by rw [hblk] at h; simp [*] at h) (by rw [h35, h10]; simp [*])] at h
            show T = _
            omega
          clear hst hblk h35 h10 hz hzb h35n
          subst e0
          go_wp2_with fail
          exact ⟨⟨j + 1, false, by omega, by go_num, by first | rfl | simp [*], hT2, by first | rfl | trivial⟩, by simp [intOf]; omega⟩
        · have e0 : z = 13 := hcs
          have hT2 : Hid (T = j + 1 + skipL (s.data.toList.drop (j + 1)) false) := by
            have h := hst.out
            rw [skipL_on (b' := false) (fun h => by rw [hblk] at h; simp [*] at h) (by rw [h35, h10]; simp [*])] at h
            show T = _
            omega
          clear hst hblk h35 h10 hz hzb h35n
          subst e0
          go_wp2_with fail
          exact ⟨⟨j + 1, false, by omega, by go_num, by first | rfl | simp [*], hT2, by first | rfl | trivial⟩, by simp [intOf]; omega⟩
        · have e0 : z = 32 := hcs
          have hT2 : Hid (T = j + 1 + skipL (s.data.toList.drop (j + 1)) false) := by
            have h := hst.out
            rw [skipL_on (b' := false) (fun h => by rw [hblk] at h; simp [*] at h) (by rw [h35, h10]; simp [*])] at h
            show T = _
            omega
          clear hst hblk h35 h10 hz hzb h35n
          subst e0
          go_wp2_with fail
          exact ⟨⟨j + 1, false, by omega, by go_num, by first | rfl | simp [*], hT2, by first | rfl | trivial⟩, by simp [intOf]; omega⟩
        · have e0 : z = 35 := hcs
          have hT2 : Hid (T = j + 1 + skipL (s.data.toList.drop (j + 1)) true) := by
            have h := hst.out
            rw [skipL_on (b' := true) (fun h => h.2.2 (hz (by omega))) (by rw [h35, h10]; simp [*])] at h
            show T = _
            omega
          clear hst hblk h35 h10 hz hzb h35n
          subst e0
          go_wp2_with fail
          exact ⟨⟨j + 1, true, by omega, by go_num, by first | rfl | simp [*], hT2, by first | rfl | trivial⟩, by simp [intOf]; omega⟩
        · have hT2 : Hid (T = j) := by
            have h := hst.out
            rw [skipL_stop (by rw [hblk]; simp; omega) (fun e => f35 (h35n e))] at h
            exact h
          clear hst hblk h35 h10 hz hzb h35n
          have g9 : (z != 9) = true := by simp [f9]
          have g10 : (z != 10) = true := by simp [f10]
          have g13 : (z != 13) = true := by simp [f13]
          have g32 : (z != 32) = true := by simp [f32]
          have g35 : (z != 35) = true := by simp [f35]
          go_wp2_with fail
          go_ret
          exact ⟨by rw [hT2.out]; rfl, rfl⟩
    · have hj2 : j = s.size := by omega
      have hlt' : ¬ (j : Int) < s.size := by omega
      have hdr : s.data.toList.drop j = [] := List.drop_eq_nil_of_le (by rw [size_len_]; omega)
      rw [hdr] at hst
      have hT2 : Hid (T = j) := hst.out
      clear hst hdr hj2
      go_wp2_with fail
      go_ret
      exact ⟨by rw [hT2.out]; rfl, rfl⟩
end Go.Proofs.YthlpldmodflmjaaDoor
