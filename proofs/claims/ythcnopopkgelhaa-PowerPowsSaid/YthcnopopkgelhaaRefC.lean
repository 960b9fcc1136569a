/- The contracts of the reference's Cmp, Same. -/
import Derived.Test.YthcnopopkgelhaaRefB
import Derived.Test.YthcnopopkgelhaaNatB
namespace Go.Proofs.Ythcnopopkgelhaa
open Go.RowKit

theorem bstep0 {w a b : World} (h : Below w.heap.size w a) (hb : Below a.heap.size a b) : Below w.heap.size w b := h.trans (hb.mono h.size)

set_option maxHeartbeats 1000000 in
theorem refCmp_rows (A A' : Option Addr) (n c n' c' M N : Nat) (l m : List Nat) (w : World) (hr : Row w w.heap.size .u8 A n l) (hs : Row w w.heap.size .u8 A' n' m) (hc : n ≤ maxLen)
    (hlen : n < n' → Hid (cmpI M N = -1)) (hlen2 : n' < n → Hid (cmpI M N = 1)) (hlow : ∀ k, k < n → k < n' → l.drop (k + 1) = m.drop (k + 1) → Dig.at_ l k < Dig.at_ m k → Hid (cmpI M N = -1))
    (hhigh : ∀ k, k < n → k < n' → l.drop (k + 1) = m.drop (k + 1) → Dig.at_ m k < Dig.at_ l k → Hid (cmpI M N = 1)) (hsame : l.drop 0 = m.drop 0 → Hid (cmpI M N = 0)) :
    Calls Try.prog 43 #[.slice A n c, .slice A' n' c'] w fun e w' => e = .returned (.int .i64 (cmpI M N)) ∧ Below w.heap.size w w' := by
  unfold maxLen at hc
  rcases Nat.lt_trichotomy n n' with h | h | h
  · have hv := hlen h
    have hne : ((n : Int) != (n' : Int)) = true := by simp; omega
    clear hlen hlen2 hlow hhigh hsame
    go_enter Try.func43, Try.ntmps43
    go_wp2_with fail
    go_ret
    exact ⟨by rw [hv.out]; rfl, Below.refl _ _⟩
  · subst h
    clear hlen hlen2
    have hl := Lib.hid hr.len
    have hm := Lib.hid hs.len
    go_enter Try.func43, Try.ntmps43
    go_wp2_with fail
    go_loopw [5] (fun i wr => ∃ z : Int, i = .int .i64 z ∧ -1 ≤ z ∧ z < n ∧ Hid (l.drop (z + 1).toNat = m.drop (z + 1).toNat) ∧ ∃ q, wr = w.drewN q) (fun i _ => (intOf i + 1).toNat)
    case atStart => exact ⟨_, rfl, by omega, by omega, by show _ = _; rw [List.drop_of_length_le (by have := hl.out; omega), List.drop_of_length_le (by have := hm.out; omega)], 0, rfl⟩
    case round =>
      obtain ⟨z, rfl, hz1, hz2, hd, q, rfl⟩ := hrel
      by_cases hz : 0 ≤ z
      · obtain ⟨j, rfl⟩ := Int.eq_ofNat_of_zero_le hz
        obtain ⟨ad, rfl, hb, hcell⟩ := hr.at_ (i := j) (by omega)
        obtain ⟨ad', rfl, hb', hcell'⟩ := hs.at_ (i := j) (by omega)
        have hd' : Hid (l.drop (j + 1) = m.drop (j + 1)) := hd
        clear hd
        rcases Nat.lt_trichotomy (Dig.at_ l j) (Dig.at_ m j) with h | h | h
        · have hv := hlow j (by omega) (by omega) hd'.out h
          have ht : decide (((Dig.at_ l j : Nat) : Int) < ((Dig.at_ m j : Nat) : Int)) = true := by simp; omega
          clear hlow hhigh hsame
          go_wp2_with fail
          go_quiet (fail)
          go_wp2_with fail
          go_ret
          exact ⟨by rw [hv.out]; rfl, by repeat (first | exact Below.refl _ _ | apply below_drewN)⟩
        · have hd2 : Hid (l.drop j = m.drop j) := by
            show l.drop j = m.drop j
            rw [← List.getElem_cons_drop (show j < l.length by have := hl.out; omega), ← List.getElem_cons_drop (show j < m.length by have := hm.out; omega), hd'.out]
            rw [Dig.at_lt (by have := hl.out; omega), Dig.at_lt (by have := hm.out; omega)] at h
            rw [h]
          rw [← h] at hcell'
          clear hlow hhigh hsame h
          go_wp2_with fail
          go_quiet (fail)
          go_wp2_with fail
          go_quiet (fail)
          go_wp2_with fail
          go_roundw
          case rel => exact ⟨_, rfl, by omega, by omega, by simpa using hd2, _, rfl⟩
          case measure => simp [intOf]
        · have hv := hhigh j (by omega) (by omega) hd'.out h
          have ht : decide (((Dig.at_ l j : Nat) : Int) < ((Dig.at_ m j : Nat) : Int)) = false := by simp; omega
          have ht2 : decide (((Dig.at_ m j : Nat) : Int) < ((Dig.at_ l j : Nat) : Int)) = true := by simp; omega
          clear hlow hhigh hsame
          go_wp2_with fail
          go_quiet (fail)
          go_wp2_with fail
          go_quiet (fail)
          go_wp2_with fail
          go_ret
          exact ⟨by rw [hv.out]; rfl, by repeat (first | exact Below.refl _ _ | apply below_drewN)⟩
      · obtain rfl : z = -1 := by omega
        have hv := hsame (by simpa using hd.out)
        clear hlow hhigh hsame hd
        go_wp2_with fail
        go_ret
        exact ⟨by rw [hv.out]; rfl, by repeat (first | exact Below.refl _ _ | apply below_drewN)⟩
  · have hv := hlen2 h
    have hne : ((n : Int) != (n' : Int)) = true := by simp; omega
    have hnl : ¬ n < n' := by omega
    clear hlen hlen2 hlow hhigh hsame
    go_enter Try.func43, Try.ntmps43
    go_wp2_with fail
    go_ret
    exact ⟨by rw [hv.out]; rfl, Below.refl _ _⟩

theorem refCmp {A A' : Option Addr} {n c n' c' M N b b' : Nat} {w : World} (hM : RNum w b A n c M) (hN : RNum w b' A' n' c' N) :
    Calls Try.prog 43 #[.slice A n c, .slice A' n' c'] w fun e w' => e = .returned (.int .i64 (cmpI M N)) ∧ Below w.heap.size w w' := by
  obtain ⟨l, h1, h2, h3, h4, h5, h6, h7⟩ := hM
  obtain ⟨m, g1, g2, g3, g4, g5, g6, g7⟩ := hN
  have hl := h1.len
  have hm := g1.len
  have hp : 0 < 256 := by omega
  refine refCmp_rows A A' n c n' c' M N l m w h1 g1 (by omega) (fun h => cmpI_lt ?_) (fun h => cmpI_gt ?_) (fun k hk hk' hd hlt => cmpI_lt ?_) (fun k hk hk' hd hlt => cmpI_gt ?_) (fun hd => cmpI_eq ?_)
  · rw [← h4, ← g4]; exact Dig.val_lt_of_len hp h3 g2 (by omega)
  · rw [← h4, ← g4]; exact Dig.val_lt_of_len hp g3 h2 (by omega)
  · rw [← h4, ← g4]; exact Dig.val_lt_of_digit hp h3 (by omega) (by omega) hd hlt
  · rw [← h4, ← g4]; exact Dig.val_lt_of_digit hp g3 (by omega) (by omega) hd.symm hlt
  · rw [← h4, ← g4, show l = m by simpa using hd]

theorem refCmp_is {A A' : Option Addr} {n c n' c' M N b b' : Nat} {w : World} {z : Int} (hM : RNum w b A n c M) (hN : RNum w b' A' n' c' N) (h : cmpI M N = z) :
    Calls Try.prog 43 #[.slice A n c, .slice A' n' c'] w fun e w' => e = .returned (.int .i64 z) ∧ Below w.heap.size w w' := by
  have := refCmp hM hN
  rw [h] at this
  exact this

set_option maxHeartbeats 400000 in
theorem refSame {A A' : Option Addr} {n c n' c' M N b b' : Nat} {w : World} (hM : RNum w b A n c M) (hN : RNum w b' A' n' c' N) (h : M = N) :
    Calls Try.prog 15 #[.slice A n c, .slice A' n' c'] w fun e w' => e = .returned (.bool true) ∧ Below w.heap.size w w' := by
  have hc := refCmp_is hM hN (cmpI_eq h)
  clear hM hN h
  go_enter Try.func15, Try.ntmps15
  go_wp2_with fail
  refine hc.mono ?_
  rintro e w1 ⟨rfl, hb⟩
  go_wp2_with fail
  go_ret
  exact ⟨rfl, hb⟩
end Go.Proofs.Ythcnopopkgelhaa
