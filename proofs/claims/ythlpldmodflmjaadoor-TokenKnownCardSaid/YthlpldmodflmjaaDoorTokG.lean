/- The contract of the reference's longest of layer 5. -/
import Derived.Test.YthlpldmodflmjaaDoorTokF
namespace Go.Proofs.YthlpldmodflmjaaDoor
open Go.RowKit

theorem extract_span5 (s : ByteArray) (a b : Nat) : (s.extract a b).data.toList = span s.data.toList a b := by
  rw [ByteArray.data_extract, Array.toList_extract]
  unfold span
  rw [List.drop_take]
theorem longF_end {f : Nat} {l : List UInt8} {i : Nat} {b : Nat × Nat} (h : l.length < i) : longF f l i b = b := by
  cases f with
  | zero => rfl
  | succ f => rw [longF, if_pos h]
theorem longF_hit {f : Nat} {l : List UInt8} {i k : Nat} {b : Nat × Nat} (h : i ≤ l.length) (hk : kindOf (l.take i) = some k) : longF (f + 1) l i b = longF f l (i + 1) (i, k) := by
  rw [longF, if_neg (by omega), hk]
theorem longF_stop {f : Nat} {l : List UInt8} {i : Nat} {b : Nat × Nat} (h : i ≤ l.length) (hk : kindOf (l.take i) = none) (h2 : 2 < i) : longF (f + 1) l i b = b := by
  rw [longF, if_neg (by omega), hk]
  simp only
  rw [if_pos h2]
theorem longF_on {f : Nat} {l : List UInt8} {i : Nat} {b : Nat × Nat} (h : i ≤ l.length) (hk : kindOf (l.take i) = none) (h2 : ¬ 2 < i) : longF (f + 1) l i b = longF f l (i + 1) b := by
  rw [longF, if_neg (by omega), hk]
  simp only
  rw [if_neg h2]

set_option maxHeartbeats 4000000 in
theorem refLongest (s : ByteArray) (hs : s.size ≤ 100000) (w : World) : Calls Tryd.prog 28 #[.string s] w fun e w' => e = .returned (.tuple #[.int .i64 ((longL s.data.toList).1 : Nat), .int .i64 ((longL s.data.toList).2 : Nat)]) ∧ Below w.heap.size w w' := by
  obtain ⟨R, hR⟩ : ∃ R, R = longL s.data.toList := ⟨_, rfl⟩
  rw [← hR]
  have hst0 : Hid (R = longF (s.size + 1) s.data.toList 1 (0, 0) ∧ Below w.heap.size w w) := ⟨by rw [hR]; unfold longL; rw [size_len_], Below.refl _ _⟩
  clear hR
  go_enter Tryd.func28, Tryd.ntmps28
  go_wp2_with fail
  go_loopw [4, 5, 6] (fun a b v W => ∃ n k i f : Nat, f + i = s.size + 2 ∧ 1 ≤ i ∧ v = .int .i64 i ∧ a = .int .i64 n ∧ b = .int .i64 k ∧ Hid (R = longF f s.data.toList i (n, k) ∧ Below w.heap.size w W)) (fun _ _ v _ => s.size + 2 - (intOf v).toNat)
  case atStart => exact ⟨0, 0, 1, s.size + 1, by omega, by omega, rfl, rfl, rfl, hst0⟩
  case round =>
    obtain ⟨n, k, i, f, hf, hi, rfl, rfl, rfl, hst⟩ := hrel
    clear hst0
    by_cases hle : i ≤ s.size
    · have hle' : (i : Int) ≤ s.size := by omega
      have hi0 : (0 : Int) ≤ i := by omega
      obtain ⟨g, rfl⟩ : ∃ g, f = g + 1 := ⟨f - 1, by omega⟩
      have hll := size_len_ s
      have htk : (s.extract 0 i).data.toList = s.data.toList.take i := by
        rw [extract_span5]
        unfold span
        rw [List.drop_zero]
      have htl : (s.data.toList.take i).length = i := by rw [List.length_take]; omega
      have hsz : (s.extract 0 i).size ≤ 100000 := by simp; omega
      have q1 := fun w => refIsWord (s.extract 0 i) hsz w
      have q2 := fun w => refIsInt (s.extract 0 i) hsz w
      have q3 := fun w => refIsSign (s.extract 0 i) w
      rw [htk] at q1 q2 q3
      have hk : kindOf (s.data.toList.take i) = if isWordB (s.data.toList.take i) = true then some 0 else if isIntB (s.data.toList.take i) = true then some 1 else if i ≤ 2 ∧ isSignB (s.data.toList.take i) = true then some 2 else none := by
        unfold kindOf; rw [htl]
      have HK := Lib.hid hk
      have H1 := Lib.hid (fun k b h => longF_hit (f := g) (l := s.data.toList) (i := i) (k := k) (b := b) (by omega) h)
      have H2 := Lib.hid (fun b h h2 => longF_stop (f := g) (l := s.data.toList) (i := i) (b := b) (by omega) h h2)
      have H3 := Lib.hid (fun b h h2 => longF_on (f := g) (l := s.data.toList) (i := i) (b := b) (by omega) h h2)
      clear hk htk htl hll hsz
      generalize isWordB (s.data.toList.take i) = b1 at *
      generalize isIntB (s.data.toList.take i) = b2 at *
      generalize isSignB (s.data.toList.take i) = b3 at *
      go_wp2_with fail
      refine (q1 _).mono ?_
      rintro e w1 ⟨rfl, rfl⟩
      clear q1
      cases b1 with
      | true =>
        have hst2 : Hid (R = longF g s.data.toList (i + 1) (i, 0) ∧ Below w.heap.size w w1) := ⟨by rw [hst.out.1, H1.out 0 _ (by rw [HK.out]; rfl)], hst.out.2⟩
        clear HK H1 H2 H3 q2 q3 hst
        go_wp2_with fail
        exact ⟨⟨i, 0, i + 1, g, by omega, by omega, by go_num, by first | rfl | trivial, by first | rfl | trivial, hst2⟩, by simp [intOf]; omega⟩
      | false =>
        go_wp2_with fail
        refine (q2 _).mono ?_
        rintro e w1 ⟨rfl, rfl⟩
        clear q2
        cases b2 with
        | true =>
          have hst2 : Hid (R = longF g s.data.toList (i + 1) (i, 1) ∧ Below w.heap.size w w1) := ⟨by rw [hst.out.1, H1.out 1 _ (by rw [HK.out]; rfl)], hst.out.2⟩
          clear HK H1 H2 H3 q3 hst
          go_wp2_with fail
          exact ⟨⟨i, 1, i + 1, g, by omega, by omega, by go_num, by first | rfl | trivial, by first | rfl | trivial, hst2⟩, by simp [intOf]; omega⟩
        | false =>
          by_cases h2 : i ≤ 2
          · have h2' : (i : Int) ≤ 2 := by omega
            have h2'' : ¬ (2 : Int) < i := by omega
            go_wp2_with fail
            refine (q3 _).mono ?_
            rintro e w2 ⟨rfl, hb2⟩
            clear q3
            have hbf := hst.out.2.trans (hb2.mono hst.out.2.size)
            cases b3 with
            | true =>
              have hst2 : Hid (R = longF g s.data.toList (i + 1) (i, 2) ∧ Below w.heap.size w w2) := ⟨by rw [hst.out.1, H1.out 2 _ (by rw [HK.out]; simp [h2])], hbf⟩
              clear HK H1 H2 H3 hst hbf hb2
              go_wp2_with fail
              exact ⟨⟨i, 2, i + 1, g, by omega, by omega, by go_num, by first | rfl | trivial, by first | rfl | trivial, hst2⟩, by simp [intOf]; omega⟩
            | false =>
              have hst2 : Hid (R = longF g s.data.toList (i + 1) (n, k) ∧ Below w.heap.size w w2) := ⟨by rw [hst.out.1, H3.out _ (by rw [HK.out]; simp) (by omega)], hbf⟩
              clear HK H1 H2 H3 hst hbf hb2
              go_wp2_with fail
              exact ⟨⟨n, k, i + 1, g, by omega, by omega, by go_num, by first | rfl | trivial, by first | rfl | trivial, hst2⟩, by simp [intOf]; omega⟩
          · have h2' : ¬ (i : Int) ≤ 2 := by omega
            have h2'' : (2 : Int) < i := by omega
            have hst2 : Hid (R = (n, k) ∧ Below w.heap.size w w1) := ⟨by rw [hst.out.1, H2.out _ (by rw [HK.out]; simp [h2]) (by omega)], hst.out.2⟩
            clear HK H1 H2 H3 q3 hst
            go_wp2_with fail
            go_ret2
            exact ⟨by rw [hst2.out.1]; rfl, hst2.out.2⟩
    · have hle' : ¬ (i : Int) ≤ s.size := by omega
      have hst2 : Hid (R = (n, k) ∧ Below w.heap.size w wr) := ⟨by rw [hst.out.1, longF_end (by rw [size_len_]; omega)], hst.out.2⟩
      clear hst
      go_wp2_with fail
      go_ret2
      exact ⟨by rw [hst2.out.1]; rfl, hst2.out.2⟩
end Go.Proofs.YthlpldmodflmjaaDoor
