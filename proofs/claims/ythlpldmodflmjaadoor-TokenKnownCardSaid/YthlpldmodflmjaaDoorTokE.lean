/- The contract of the reference's Number of layer 5. -/
import Derived.Test.YthlpldmodflmjaaDoorTokD
namespace Go.Proofs.YthlpldmodflmjaaDoor
open Go.RowKit

theorem u8sub (c : UInt8) : IntKind.u8.wrap (((c.toNat : Nat) : Int) - 48) = (((c - 48).toNat : Nat) : Int) := by
  have h := c.toNat_lt
  rw [IntKind.wrap_u8, UInt8.toNat_sub]
  show _ = (((2 ^ 8 - 48 + c.toNat) % 2 ^ 8 : Nat) : Int)
  omega
theorem u64mul (n : Nat) : IntKind.u64.wrap (10 * (n : Int)) = ((10 * n % LB : Nat) : Int) := by
  rw [IntKind.wrap_u64]; unfold LB; omega
theorem u64add (p d : Nat) : IntKind.u64.wrap ((p : Int) + d) = (((p + d) % LB : Nat) : Int) := by
  rw [IntKind.wrap_u64]; unfold LB; omega
theorem mulmod (n d : Nat) : (10 * n % LB + d) % LB = (10 * n + d) % LB := by rw [Nat.mod_add_mod]

/-- Each digit reckoned. -/
theorem numLoop (s : ByteArray) (i : Nat) (hi : i < s.size) : ∃ (c : UInt8) (d p q : Nat), (∀ w, (Go.Instr.index 9 (.string s) (.int .i64 (i : Int))).run Tryd.prog w = .ok (.int .u8 ((c.toNat : Nat) : Int)) w) ∧ IntKind.u8.wrap (((c.toNat : Nat) : Int) - 48) = (d : Int) ∧
    IntKind.u64.wrap (10 * (numW (s.data.toList.take i) : Int)) = (p : Int) ∧ IntKind.u64.wrap ((p : Int) + d) = (q : Int) ∧ numW (s.data.toList.take (i + 1)) = q ∧ d < 256 := by
  obtain ⟨c, hc, hidx⟩ := byte_is s i hi
  refine ⟨c, (c - 48).toNat, _, _, hidx, u8sub c, u64mul _, u64add _ _, ?_, (c - 48).toNat_lt⟩
  rw [numW_next _ i c hc, mulmod]

set_option maxHeartbeats 2000000 in
theorem refNumber (s : ByteArray) (hs : s.size ≤ 100000) (w : World) : Calls Tryd.prog 29 #[.string s] w fun e w' => e = .returned (.tuple #[.int .i64 (numV s.data.toList).1, .bool (numV s.data.toList).2]) ∧ w' = w := by
  have hl := size_len_ s
  have hg : gtB s.data.toList topB = !(Go.Op.bytesLess s.toList [57, 50, 50, 51, 51, 55, 50, 48, 51, 54, 56, 53, 52, 55, 55, 53, 56, 48, 56] || s.toList == [57, 50, 50, 51, 51, 55, 50, 48, 51, 54, 56, 53, 52, 55, 55, 53, 56, 48, 56]) := by
    unfold gtB
    rw [ByteArray.toList_eq]
    rfl
  obtain ⟨V, hV⟩ : ∃ V, V = numV s.data.toList := ⟨_, rfl⟩
  rw [← hV]
  by_cases hbad : numBad s.data.toList = true
  · have hv : Hid (V = (0, false)) := by show V = _; rw [hV]; unfold numV; rw [if_pos hbad]
    clear hV
    by_cases h1 : 1 < s.size
    · have k1 : (1 : Int) < s.size := by omega
      obtain ⟨c, hc, hidx⟩ := byte_is s 0 (by omega)
      by_cases h0 : c = 48
      · subst h0
        have hidx : ∀ w, (Go.Instr.index 9 (.string s) (.int .i64 0)).run Tryd.prog w = .ok (.int .u8 48) w := hidx
        clear hg hbad hl hc
        go_enter Tryd.func29, Tryd.ntmps29
        go_wp2_with fail
        go_ret2
        exact ⟨by rw [hv.out]; rfl, rfl⟩
      · obtain ⟨z, hz⟩ : ∃ z : Int, z = ((c.toNat : Nat) : Int) := ⟨_, rfl⟩
        have hz48 : ¬ z = 48 := by
          intro e
          apply h0
          apply UInt8.toNat_inj.1
          show _ = 48
          omega
        have hidx : ∀ w, (Go.Instr.index 9 (.string s) (.int .i64 0)).run Tryd.prog w = .ok (.int .u8 z) w := by rw [hz]; exact hidx
        by_cases h19 : 19 < s.size
        · have k19 : (19 : Int) < s.size := by omega
          clear hg hbad hl hc hz
          go_enter Tryd.func29, Tryd.ntmps29
          go_wp2_with fail
          go_ret2
          exact ⟨by rw [hv.out]; rfl, rfl⟩
        · have hb2 : s.size = 19 ∧ gtB s.data.toList topB = true := by
            unfold numBad at hbad
            rw [hl, hc] at hbad
            simp only [Bool.or_eq_true, Bool.and_eq_true, decide_eq_true_eq, beq_iff_eq, Option.some.injEq] at hbad
            rcases hbad with (⟨_, h⟩ | h) | ⟨h, h2⟩
            · exact absurd h h0
            · omega
            · exact ⟨h, h2⟩
          have k19 : ¬ (19 : Int) < s.size := by omega
          have k20 : (s.size : Int) = 19 := by omega
          rw [hb2.2] at hg
          have hg2 : Go.Op.bytesLess s.toList [57, 50, 50, 51, 51, 55, 50, 48, 51, 54, 56, 53, 52, 55, 55, 53, 56, 48, 56] = false ∧ (s.toList == [57, 50, 50, 51, 51, 55, 50, 48, 51, 54, 56, 53, 52, 55, 55, 53, 56, 48, 56]) = false := by
            cases h : Go.Op.bytesLess s.toList [57, 50, 50, 51, 51, 55, 50, 48, 51, 54, 56, 53, 52, 55, 55, 53, 56, 48, 56] <;> cases h' : (s.toList == [57, 50, 50, 51, 51, 55, 50, 48, 51, 54, 56, 53, 52, 55, 55, 53, 56, 48, 56]) <;> simp [h, h'] at hg ⊢
          obtain ⟨g1, g2⟩ := hg2
          clear hbad hl hc hz hb2 h19 h1 hg
          go_enter Tryd.func29, Tryd.ntmps29
          go_wp2_with fail
          go_ret2
          exact ⟨by rw [hv.out]; rfl, rfl⟩
    · exfalso
      unfold numBad at hbad
      rw [hl] at hbad
      simp only [Bool.or_eq_true, Bool.and_eq_true, decide_eq_true_eq] at hbad
      omega
  · have hbad := Bool.eq_false_iff.2 hbad
    have hv : Hid (V = (IntKind.i64.wrap (numW s.data.toList), true)) := by show V = _; rw [hV]; unfold numV; rw [if_neg (by rw [hbad]; simp)]
    clear hV
    have hge : (¬ 1 < s.size) ∨ (1 < s.size ∧ s.data.toList[0]? ≠ some 48 ∧ ¬ 19 < s.size ∧ (s.size = 19 → gtB s.data.toList topB = false)) := by
      unfold numBad at hbad
      rw [hl] at hbad
      by_cases h1 : 1 < s.size
      · right
        simp only [Bool.or_eq_false_iff, Bool.and_eq_false_iff, decide_eq_false_iff_not, beq_eq_false_iff_ne] at hbad
        obtain ⟨⟨ha, hb⟩, hc⟩ := hbad
        refine ⟨h1, ?_, hb, fun h => ?_⟩
        · rcases ha with h | h
          · exact absurd h1 h
          · exact h
        · rcases hc with h2 | h2
          · exact absurd h h2
          · exact h2
      · exact .inl h1
    have hnum := numLoop s
    clear hbad hl
    rcases hge with h1 | ⟨h1, h0, h19, hgt⟩
    · have k1 : ¬ (1 : Int) < s.size := by omega
      have k19 : ¬ (19 : Int) < s.size := by omega
      have k20 : ¬ (s.size : Int) = 19 := by omega
      have hg := ()
      (try clear hg) <;> (try clear hgt) <;> (try clear h0 hc hz) <;> (try clear h1) <;> (try clear h19)
      go_enter Tryd.func29, Tryd.ntmps29
      go_wp2_with fail
      go_loopw [5, 6] (fun n v W => ∃ i : Nat, i ≤ s.size ∧ v = .int .i64 i ∧ n = .int .u64 (numW (s.data.toList.take i) : Nat) ∧ W = w) (fun _ v _ => s.size - (intOf v).toNat)
      case atStart => exact ⟨0, by omega, rfl, rfl, rfl⟩
      case round =>
        obtain ⟨i, hi, rfl, rfl, rfl⟩ := hrel
        by_cases hlt : i < s.size
        · have hlt' : (i : Int) < s.size := by omega
          obtain ⟨x, d, p, q, hidx2, y1, y2, y3, hq, hd⟩ := hnum i hlt
          have y4 : IntKind.u64.wrap (d : Int) = d := by rw [IntKind.wrap_u64]; omega
          have HQ := Lib.hid hq
          clear hnum hq
          generalize numW (s.data.toList.take i) = n at *
          go_wp2_with fail
          exact ⟨⟨i + 1, by omega, by go_num, by rw [HQ.out], by first | rfl | trivial⟩, by simp [intOf]; omega⟩
        · have hi2 : i = s.size := by omega
          have hlt' : ¬ (i : Int) < s.size := by omega
          have htk : s.data.toList.take i = s.data.toList := List.take_of_length_le (by rw [size_len_]; omega)
          rw [htk]
          clear hnum htk
          generalize numW s.data.toList = n at *
          obtain ⟨x, hx⟩ : ∃ x, IntKind.i64.wrap (n : Int) = x := ⟨_, rfl⟩
          have hv2 := Lib.hid (hv.out.trans (by rw [hx]) : V = (x, true))
          go_wp2_with fail
          go_ret2
          exact ⟨by rw [hv2.out]; rfl, rfl⟩
    · have k1 : (1 : Int) < s.size := by omega
      have k19 : ¬ (19 : Int) < s.size := by omega
      obtain ⟨c, hc, hidx⟩ := byte_is s 0 (by omega)
      obtain ⟨z, hz⟩ : ∃ z : Int, z = ((c.toNat : Nat) : Int) := ⟨_, rfl⟩
      have hz48 : ¬ z = 48 := by
        intro e
        apply h0
        rw [hc]
        congr 1
        apply UInt8.toNat_inj.1
        show _ = 48
        omega
      have hidx : ∀ w, (Go.Instr.index 9 (.string s) (.int .i64 0)).run Tryd.prog w = .ok (.int .u8 z) w := by rw [hz]; exact hidx
      by_cases h20 : s.size = 19
      · have k20 : (s.size : Int) = 19 := by omega
        rw [hgt h20] at hg
        have hg2 : (Go.Op.bytesLess s.toList [57, 50, 50, 51, 51, 55, 50, 48, 51, 54, 56, 53, 52, 55, 55, 53, 56, 48, 56] = true) ∨ (Go.Op.bytesLess s.toList [57, 50, 50, 51, 51, 55, 50, 48, 51, 54, 56, 53, 52, 55, 55, 53, 56, 48, 56] = false ∧ (s.toList == [57, 50, 50, 51, 51, 55, 50, 48, 51, 54, 56, 53, 52, 55, 55, 53, 56, 48, 56]) = true) := by
          cases h : Go.Op.bytesLess s.toList [57, 50, 50, 51, 51, 55, 50, 48, 51, 54, 56, 53, 52, 55, 55, 53, 56, 48, 56] <;> cases h' : (s.toList == [57, 50, 50, 51, 51, 55, 50, 48, 51, 54, 56, 53, 52, 55, 55, 53, 56, 48, 56]) <;> simp [h, h'] at hg ⊢
        clear hg
        rcases hg2 with g1 | ⟨g1, g2⟩
        · (try clear hg) <;> (try clear hgt) <;> (try clear h0 hc hz) <;> (try clear h1) <;> (try clear h19)
          go_enter Tryd.func29, Tryd.ntmps29
          go_wp2_with fail
          go_loopw [5, 6] (fun n v W => ∃ i : Nat, i ≤ s.size ∧ v = .int .i64 i ∧ n = .int .u64 (numW (s.data.toList.take i) : Nat) ∧ W = w) (fun _ v _ => s.size - (intOf v).toNat)
          case atStart => exact ⟨0, by omega, rfl, rfl, rfl⟩
          case round =>
            obtain ⟨i, hi, rfl, rfl, rfl⟩ := hrel
            by_cases hlt : i < s.size
            · have hlt' : (i : Int) < s.size := by omega
              obtain ⟨x, d, p, q, hidx2, y1, y2, y3, hq, hd⟩ := hnum i hlt
              have y4 : IntKind.u64.wrap (d : Int) = d := by rw [IntKind.wrap_u64]; omega
              have HQ := Lib.hid hq
              clear hnum hq
              generalize numW (s.data.toList.take i) = n at *
              go_wp2_with fail
              exact ⟨⟨i + 1, by omega, by go_num, by rw [HQ.out], by first | rfl | trivial⟩, by simp [intOf]; omega⟩
            · have hi2 : i = s.size := by omega
              have hlt' : ¬ (i : Int) < s.size := by omega
              have htk : s.data.toList.take i = s.data.toList := List.take_of_length_le (by rw [size_len_]; omega)
              rw [htk]
              clear hnum htk
              generalize numW s.data.toList = n at *
              obtain ⟨x, hx⟩ : ∃ x, IntKind.i64.wrap (n : Int) = x := ⟨_, rfl⟩
              have hv2 := Lib.hid (hv.out.trans (by rw [hx]) : V = (x, true))
              go_wp2_with fail
              go_ret2
              exact ⟨by rw [hv2.out]; rfl, rfl⟩
        · (try clear hg) <;> (try clear hgt) <;> (try clear h0 hc hz) <;> (try clear h1) <;> (try clear h19)
          go_enter Tryd.func29, Tryd.ntmps29
          go_wp2_with fail
          go_loopw [5, 6] (fun n v W => ∃ i : Nat, i ≤ s.size ∧ v = .int .i64 i ∧ n = .int .u64 (numW (s.data.toList.take i) : Nat) ∧ W = w) (fun _ v _ => s.size - (intOf v).toNat)
          case atStart => exact ⟨0, by omega, rfl, rfl, rfl⟩
          case round =>
            obtain ⟨i, hi, rfl, rfl, rfl⟩ := hrel
            by_cases hlt : i < s.size
            · have hlt' : (i : Int) < s.size := by omega
              obtain ⟨x, d, p, q, hidx2, y1, y2, y3, hq, hd⟩ := hnum i hlt
              have y4 : IntKind.u64.wrap (d : Int) = d := by rw [IntKind.wrap_u64]; omega
              have HQ := Lib.hid hq
              clear hnum hq
              generalize numW (s.data.toList.take i) = n at *
              go_wp2_with fail
              exact ⟨⟨i + 1, by omega, by go_num, by rw [HQ.out], by first | rfl | trivial⟩, by simp [intOf]; omega⟩
            · have hi2 : i = s.size := by omega
              have hlt' : ¬ (i : Int) < s.size := by omega
              have htk : s.data.toList.take i = s.data.toList := List.take_of_length_le (by rw [size_len_]; omega)
              rw [htk]
              clear hnum htk
              generalize numW s.data.toList = n at *
              obtain ⟨x, hx⟩ : ∃ x, IntKind.i64.wrap (n : Int) = x := ⟨_, rfl⟩
              have hv2 := Lib.hid (hv.out.trans (by rw [hx]) : V = (x, true))
              go_wp2_with fail
              go_ret2
              exact ⟨by rw [hv2.out]; rfl, rfl⟩
      · have k20 : ¬ (s.size : Int) = 19 := by omega
        have hg := ()
        (try clear hg) <;> (try clear hgt) <;> (try clear h0 hc hz) <;> (try clear h1) <;> (try clear h19)
        go_enter Tryd.func29, Tryd.ntmps29
        go_wp2_with fail
        go_loopw [5, 6] (fun n v W => ∃ i : Nat, i ≤ s.size ∧ v = .int .i64 i ∧ n = .int .u64 (numW (s.data.toList.take i) : Nat) ∧ W = w) (fun _ v _ => s.size - (intOf v).toNat)
        case atStart => exact ⟨0, by omega, rfl, rfl, rfl⟩
        case round =>
          obtain ⟨i, hi, rfl, rfl, rfl⟩ := hrel
          by_cases hlt : i < s.size
          · have hlt' : (i : Int) < s.size := by omega
            obtain ⟨x, d, p, q, hidx2, y1, y2, y3, hq, hd⟩ := hnum i hlt
            have y4 : IntKind.u64.wrap (d : Int) = d := by rw [IntKind.wrap_u64]; omega
            have HQ := Lib.hid hq
            clear hnum hq
            generalize numW (s.data.toList.take i) = n at *
            go_wp2_with fail
            exact ⟨⟨i + 1, by omega, by go_num, by rw [HQ.out], by first | rfl | trivial⟩, by simp [intOf]; omega⟩
          · have hi2 : i = s.size := by omega
            have hlt' : ¬ (i : Int) < s.size := by omega
            have htk : s.data.toList.take i = s.data.toList := List.take_of_length_le (by rw [size_len_]; omega)
            rw [htk]
            clear hnum htk
            generalize numW s.data.toList = n at *
            obtain ⟨x, hx⟩ : ∃ x, IntKind.i64.wrap (n : Int) = x := ⟨_, rfl⟩
            have hv2 := Lib.hid (hv.out.trans (by rw [hx]) : V = (x, true))
            go_wp2_with fail
            go_ret2
            exact ⟨by rw [hv2.out]; rfl, rfl⟩
end Go.Proofs.YthlpldmodflmjaaDoor
