/- The contracts of the reference's Limbs, Fits. -/
import Derived.Test.YthcnopopkgelhaaRefD
import Derived.Test.YthcnopopkgelhaaNatF
namespace Go.Proofs.Ythcnopopkgelhaa
open Go.RowKit

set_option maxHeartbeats 2000000 in
theorem refLimbs_rows (A : Option Addr) (n c : Nat) (l : List Nat) (w : World) (hr : Row w w.heap.size .u8 A n l) (bl : Dig.Below 256 l) (hn : n ≤ 100000000000) :
    Calls Try.prog 63 #[.slice A n c] w fun e w' => ∃ A1 c1, e = .returned (.slice A1 ((n + 7) / 8) c1) ∧ Own w' w.heap.size 23 .u64 A1 ((n + 7) / 8) c1 (Dig.words l ((n + 7) / 8)) ∧ Below w.heap.size w w' := by
  have hl := Lib.hid hr.len
  go_enter Try.func63, Try.ntmps63
  go_wp2_with fail
  go_loopw [3, 4] (fun v i wr => ∃ j : Nat, 8 * j ≤ n + 7 ∧ i = .int .i64 (8 * (j : Int)) ∧ Grow w 23 .u64 v (Dig.words l j) wr) (fun _ i _ => (n + 7 - (intOf i)).toNat)
  case atStart => exact ⟨0, by omega, rfl, by simpa [Dig.words_zero] using Grow.start w _ _⟩
  case round =>
    obtain ⟨j, hj, rfl, hg⟩ := hrel
    by_cases hlt : 8 * j < n
    · have hlen : (Dig.words l j).length ≤ 1000000000000 := by rw [Dig.words_length]; omega
      by_cases t1 : n ≤ 8 * j + 8
      · go_wp2_with fail
        obtain ⟨wo, rfl⟩ : ∃ wo : World, wo = wr := ⟨_, rfl⟩
        go_loop [5, 6] (fun xv kv => ∃ z : Int, kv = .int .i64 z ∧ 8 * (j : Int) - 1 ≤ z ∧ z < (n : Int) ∧ xv = .int .u64 ((Dig.seg 256 l (z + 1).toNat (n) : Nat) : Int)) (fun _ kv => (intOf kv + 1 - 8 * j).toNat)
        case atStart =>
          refine ⟨_, rfl, by omega, by omega, ?_⟩
          rw [Dig.seg_end _ _ _ _ (by omega)]; rfl
        case round =>
          obtain ⟨z, rfl, hz1, hz2, rfl⟩ := hrel
          by_cases hz : 8 * (j : Int) ≤ z
          · obtain ⟨a, rfl⟩ := Int.eq_ofNat_of_zero_le (show 0 ≤ z by omega)
            obtain ⟨ad, rfl, hadb, hcell⟩ := (hr.below hg.2).at_ (i := a) (by omega)
            have e0 : ((a : Int) + 1).toNat = a + 1 := by omega
            have hstep := Lib.hid (Dig.seg_step 256 l a (n) (by omega) (by have := hl.out; omega))
            have hb1 := Dig.seg_lt (by omega) bl (a + 1) (n)
            have hb2 : 256 ^ ((n) - (a + 1)) ≤ 256 ^ 7 := Nat.pow_le_pow_right (by omega) (by omega)
            have hd := Dig.at_below (by omega) bl a
            have hst2 : Hid (Dig.seg 256 l a (n) = Dig.seg 256 l (a + 1) (n) * 256 + Dig.at_ l a) := by
              show _ = _
              rw [hstep.out]; omega
            rw [e0]
            generalize Dig.seg 256 l (a + 1) (n) = x at *
            generalize Dig.at_ l a = d at *
            have hx : x < 72057594037927936 := Nat.lt_of_lt_of_le hb1 hb2
            have hw1 : IntKind.u64.wrap ((x : Int) * 256) = (x : Int) * 256 := by rw [IntKind.wrap_u64]; omega
            have hw2 : IntKind.u64.wrap ((x : Int) * 256 + (d : Int)) = (x : Int) * 256 + (d : Int) := by rw [IntKind.wrap_u64]; omega
            have hw3 : IntKind.u64.wrap (d : Int) = (d : Int) := by rw [IntKind.wrap_u64]; omega
            have hfin : Hid (Value.int .u64 ((x : Int) * 256 + (d : Int)) = Value.int .u64 ((Dig.seg 256 l ((a : Int) - 1 + 1).toNat (n) : Nat) : Int)) := by
              show _ = _
              rw [show ((a : Int) - 1 + 1).toNat = a by omega, hst2.out]
              congr 1
            have ha1 : (0 : Int) ≤ a := by omega
            have ha2 : (a : Int) < n := by omega
            clear hstep hb1 hb2 hd hst2 hx e0
            go_wp2_with fail
            refine ⟨⟨(a : Int) - 1, rfl, by omega, by omega, hfin.out⟩, by simp [intOf]; omega⟩
          · obtain rfl : z = 8 * (j : Int) - 1 := by omega
            have hw : Hid (Dig.seg 256 l (8 * (j : Int) - 1 + 1).toNat (n) = Dig.wordAt l j) := by
              show _ = _
              unfold Dig.wordAt
              rw [show (8 * (j : Int) - 1 + 1).toNat = 8 * j by omega, show min l.length (8 * j + 8) = (n) by have := hl.out; omega]
            rw [hw.out]
            go_wp2_with (first
              | (at_builtin
                 refine wpList_push rfl (.tmp 32) (.tmp 34) _ rfl 23 .u64 8 Try.underlying22 info_u64 (by omega) _ _ (Dig.wordAt l j) _ w _ rfl hg rfl rfl hlen ?_
                 intro v1 w1 hg2))
            refine ⟨⟨j + 1, by omega, by simp; omega, by rw [Dig.words_succ]; exact hg2⟩, by simp [intOf]; omega⟩
      · go_wp2_with fail
        obtain ⟨wo, rfl⟩ : ∃ wo : World, wo = wr := ⟨_, rfl⟩
        go_loop [5, 6] (fun xv kv => ∃ z : Int, kv = .int .i64 z ∧ 8 * (j : Int) - 1 ≤ z ∧ z < (8 * (j : Int) + 8) ∧ xv = .int .u64 ((Dig.seg 256 l (z + 1).toNat ((8 * j + 8)) : Nat) : Int)) (fun _ kv => (intOf kv + 1 - 8 * j).toNat)
        case atStart =>
          refine ⟨_, rfl, by omega, by omega, ?_⟩
          rw [Dig.seg_end _ _ _ _ (by omega)]; rfl
        case round =>
          obtain ⟨z, rfl, hz1, hz2, rfl⟩ := hrel
          by_cases hz : 8 * (j : Int) ≤ z
          · obtain ⟨a, rfl⟩ := Int.eq_ofNat_of_zero_le (show 0 ≤ z by omega)
            obtain ⟨ad, rfl, hadb, hcell⟩ := (hr.below hg.2).at_ (i := a) (by omega)
            have e0 : ((a : Int) + 1).toNat = a + 1 := by omega
            have hstep := Lib.hid (Dig.seg_step 256 l a ((8 * j + 8)) (by omega) (by have := hl.out; omega))
            have hb1 := Dig.seg_lt (by omega) bl (a + 1) ((8 * j + 8))
            have hb2 : 256 ^ (((8 * j + 8)) - (a + 1)) ≤ 256 ^ 7 := Nat.pow_le_pow_right (by omega) (by omega)
            have hd := Dig.at_below (by omega) bl a
            have hst2 : Hid (Dig.seg 256 l a ((8 * j + 8)) = Dig.seg 256 l (a + 1) ((8 * j + 8)) * 256 + Dig.at_ l a) := by
              show _ = _
              rw [hstep.out]; omega
            rw [e0]
            generalize Dig.seg 256 l (a + 1) ((8 * j + 8)) = x at *
            generalize Dig.at_ l a = d at *
            have hx : x < 72057594037927936 := Nat.lt_of_lt_of_le hb1 hb2
            have hw1 : IntKind.u64.wrap ((x : Int) * 256) = (x : Int) * 256 := by rw [IntKind.wrap_u64]; omega
            have hw2 : IntKind.u64.wrap ((x : Int) * 256 + (d : Int)) = (x : Int) * 256 + (d : Int) := by rw [IntKind.wrap_u64]; omega
            have hw3 : IntKind.u64.wrap (d : Int) = (d : Int) := by rw [IntKind.wrap_u64]; omega
            have hfin : Hid (Value.int .u64 ((x : Int) * 256 + (d : Int)) = Value.int .u64 ((Dig.seg 256 l ((a : Int) - 1 + 1).toNat ((8 * j + 8)) : Nat) : Int)) := by
              show _ = _
              rw [show ((a : Int) - 1 + 1).toNat = a by omega, hst2.out]
              congr 1
            have ha1 : (0 : Int) ≤ a := by omega
            have ha2 : (a : Int) < n := by omega
            clear hstep hb1 hb2 hd hst2 hx e0
            go_wp2_with fail
            refine ⟨⟨(a : Int) - 1, rfl, by omega, by omega, hfin.out⟩, by simp [intOf]; omega⟩
          · obtain rfl : z = 8 * (j : Int) - 1 := by omega
            have hw : Hid (Dig.seg 256 l (8 * (j : Int) - 1 + 1).toNat ((8 * j + 8)) = Dig.wordAt l j) := by
              show _ = _
              unfold Dig.wordAt
              rw [show (8 * (j : Int) - 1 + 1).toNat = 8 * j by omega, show min l.length (8 * j + 8) = ((8 * j + 8)) by have := hl.out; omega]
            rw [hw.out]
            go_wp2_with (first
              | (at_builtin
                 refine wpList_push rfl (.tmp 32) (.tmp 34) _ rfl 23 .u64 8 Try.underlying22 info_u64 (by omega) _ _ (Dig.wordAt l j) _ w _ rfl hg rfl rfl hlen ?_
                 intro v1 w1 hg2))
            refine ⟨⟨j + 1, by omega, by simp; omega, by rw [Dig.words_succ]; exact hg2⟩, by simp [intOf]; omega⟩
    · have hj2 : j = (n + 7) / 8 := by omega
      obtain ⟨A1, c1, hv1, hown⟩ := hg.parts
      rw [Dig.words_length] at hv1 hown
      subst hv1
      have hb := hg.2
      have hj2 := Lib.hid hj2
      go_wp2_with fail
      go_ret
      rw [← hj2.out]
      exact ⟨A1, c1, rfl, hown, hb⟩

theorem LB_eq : LB = 256 ^ 8 := by unfold LB; rfl
/-- Of a number: its limbs. -/
theorem refLimbs {A : Option Addr} {n c N b : Nat} {w : World} (h : RNum w b A n c N) (hn : n ≤ 100000000000) :
    Calls Try.prog 63 #[.slice A n c] w fun e w' => ∃ A1 k c1 L, e = .returned (.slice A1 k c1) ∧ Own w' w.heap.size 23 .u64 A1 k c1 L ∧ Dig.val LB L = N ∧ Dig.Below LB L ∧ (∀ j, k ≤ j ↔ N < LB ^ j) ∧ Below w.heap.size w w' := by
  obtain ⟨l, h1, h2, h3, h4, h5, h6, h7⟩ := h
  have hl := h1.len
  refine (refLimbs_rows A n c l w h1 h3 hn).mono ?_
  rintro e w' ⟨A1, c1, rfl, hown, hb⟩
  refine ⟨A1, _, c1, _, rfl, hown, ?_, ?_, fun j => ?_, hb⟩
  · rw [LB_eq, Dig.words_val l _ (by omega), List.take_of_length_le (by omega), h4]
  · intro x hx
    obtain ⟨j, _, rfl⟩ := List.mem_map.1 hx
    rw [LB_eq]
    exact Dig.wordAt_lt h3 j
  · have e := Dig.len_le_iff (b := 256) (by omega) h2 h3 (8 * j)
    rw [LB_eq, ← Nat.pow_mul, ← h4, ← e]
    omega

set_option maxHeartbeats 400000 in
theorem refFits_yes {A : Option Addr} {n c N b : Nat} {w : World} (c0 : Int) (h : RNum w b A n c N) (hn : n ≤ 100000000000) (hf : Fit c0 N) :
    Calls Try.prog 56 #[.slice A n c, .int .i64 c0] w fun e w' => e = .returned (.bool true) ∧ Below w.heap.size w w' := by
  have hq := refLimbs h hn
  clear h
  go_enter Try.func56, Try.ntmps56
  go_wp2_with fail
  refine hq.mono ?_
  rintro e w1 ⟨A1, k, c1, L, rfl, hown, hval, hbl, hk, hb⟩
  have hk2 : k ≤ capN c0 := (hk _).2 hf
  unfold capN at hk2
  clear hk hf hq
  by_cases hc : c0 < 0
  · have hk3 : (k : Int) ≤ 0 := by omega
    go_wp2_with fail
    all_goals (go_ret; exact ⟨by first | rfl | (simp; omega), hb⟩)
  · have hk3 : (k : Int) ≤ c0 := by omega
    go_wp2_with fail
    all_goals (go_ret; exact ⟨by first | rfl | (simp; omega), hb⟩)
set_option maxHeartbeats 400000 in
theorem refFits_no {A : Option Addr} {n c N b : Nat} {w : World} (c0 : Int) (h : RNum w b A n c N) (hn : n ≤ 100000000000) (hf : ¬ Fit c0 N) :
    Calls Try.prog 56 #[.slice A n c, .int .i64 c0] w fun e w' => e = .returned (.bool false) ∧ Below w.heap.size w w' := by
  have hq := refLimbs h hn
  clear h
  go_enter Try.func56, Try.ntmps56
  go_wp2_with fail
  refine hq.mono ?_
  rintro e w1 ⟨A1, k, c1, L, rfl, hown, hval, hbl, hk, hb⟩
  have hk2 : capN c0 < k := by
    rcases Nat.lt_or_ge (capN c0) k with h1 | h1
    · exact h1
    · exact absurd ((hk _).1 h1) hf
  unfold capN at hk2
  clear hk hf hq
  by_cases hc : c0 < 0
  · have hk3 : (0 : Int) < k := by omega
    go_wp2_with fail
    all_goals (go_ret; exact ⟨by first | rfl | (simp; omega), hb⟩)
  · have hk3 : c0 < (k : Int) := by omega
    go_wp2_with fail
    all_goals (go_ret; exact ⟨by first | rfl | (simp; omega), hb⟩)
end Go.Proofs.Ythcnopopkgelhaa
