/- Words, keywords, names, numbers, operators: the reference of layer 6. -/
import Derived.Test.YtkmioieanopafaaDoorAstA
import Derived.Test.YtkmioieanopafaaDoorTokA
import Derived.Test.YtkmioieanopafaaDoorRefT
namespace Go.Proofs.YtkmioieanopafaaDoor
open Go.RowKit

theorem RowS.new (W : World) (r : List (List UInt8)) (T : TypeId) : RowS (W.alloc (.cells (strs r).toArray T)) (some ⟨W.heap.size, 0, none⟩) r.length r :=
  ⟨by simp [strs], fun _ => ⟨_, rfl, by simp, fun j u hu => by
    have : (⟨W.heap.size, 0, none⟩ : Addr).add j = ⟨W.heap.size, j, none⟩ := by by_cases e : j = 0 <;> simp [Addr.add, e]
    rw [this, cell_of_row _ _ j (strs r).toArray T (0, 0) (heap_alloc_new W _)]
    simpa using hu⟩⟩
theorem eq_texts6 {a b : List UInt8} (h : a = b) : ((⟨a.toArray⟩ : ByteArray).toList == (⟨b.toArray⟩ : ByteArray).toList) = true := by simp [h]
theorem ne_texts6 {a b : List UInt8} (h : a ≠ b) : ((⟨a.toArray⟩ : ByteArray).toList == (⟨b.toArray⟩ : ByteArray).toList) = false := by
  simp only [beq_eq_false_iff_ne, ne_eq, ByteArray.toList_eq]
  exact h
theorem byte6 (s : ByteArray) (i : Nat) (hi : i < s.size) : ∃ c : UInt8, s.data.toList[i]? = some c ∧ ∀ w, (Go.Instr.index 9 (.string s) (.int .i64 (i : Int))).run Tryd.prog w = .ok (.int .u8 ((c.toNat : Nat) : Int)) w := by
  refine ⟨s[i]'hi, ?_, fun w => ?_⟩
  · rw [List.getElem?_eq_getElem (by rw [size_len_]; exact hi)]; rfl
  · rw [run_index_string w 9 s .i64 i Tryd.underlying9, dif_pos ⟨by omega, by omega⟩]
    simp

/-- A word. -/
def word6 (l : List UInt8) : Bool := isWordB l && decide (l.length ≤ 32)

set_option maxHeartbeats 4000000 in
theorem refWord6 (s : ByteArray) (hs : s.size ≤ 4611686018427387904) (w : World) : Calls Tryd.prog 20 #[.string s] w fun e w' => e = .returned (.bool (word6 s.data.toList)) ∧ w' = w := by
  obtain ⟨b, hb⟩ : ∃ b, b = word6 s.data.toList := ⟨_, rfl⟩
  rw [← hb]
  have HB := Lib.hid hb
  clear hb
  go_enter Tryd.func20, Tryd.ntmps20
  go_wp2_with fail
  go_loopw [3] (fun v W => ∃ i : Nat, i ≤ s.size ∧ v = .int .i64 i ∧ Hid (∀ j, j < i → ∀ c, s.data.toList[j]? = some c → ltr c = true ∨ (j ≠ 0 ∧ dgt c = true)) ∧ W = w) (fun v _ => s.size - (intOf v).toNat)
  case atStart => exact ⟨0, by omega, rfl, fun j hj => absurd hj (by omega), rfl⟩
  case round =>
    obtain ⟨i, hi, rfl, hst, rfl⟩ := hrel
    by_cases hlt : i < s.size
    · have hlt' : (i : Int) < s.size := by omega
      obtain ⟨c, hc, hidx⟩ := byte6 s i hlt
      obtain ⟨z, hz⟩ : ∃ z : Int, z = (c.toNat : Int) := ⟨_, rfl⟩
      have hL : Hid (ltr c = decide (97 ≤ z ∧ z ≤ 122 ∨ 65 ≤ z ∧ z ≤ 90 ∨ z = 95)) := by
        show ltr c = _
        unfold ltr
        exact decide_eq_decide.2 (by omega)
      have hD : Hid (dgt c = decide (48 ≤ z ∧ z ≤ 57)) := by
        show dgt c = _
        unfold dgt
        exact decide_eq_decide.2 (by omega)
      have hz0 : 0 ≤ z := by omega
      rw [← hz] at hidx
      have HC := Lib.hid hc
      have HN : Hid ((ltr c = true ∨ (i ≠ 0 ∧ dgt c = true)) → Hid (∀ j, j < i + 1 → ∀ c, s.data.toList[j]? = some c → ltr c = true ∨ (j ≠ 0 ∧ dgt c = true))) := fun h0 j hj d hdj => by
        rcases Nat.lt_or_ge j i with h | h
        · exact hst.out j h d hdj
        · obtain rfl : j = i := by omega
          have := HC.out.symm.trans hdj
          injection this with this
          rw [← this]
          exact h0
      have HS : Hid (¬ (ltr c = true ∨ (i ≠ 0 ∧ dgt c = true)) → Hid (b = false)) := fun h0 => by
        show b = false
        rw [HB.out, Bool.eq_false_iff]
        intro h
        exact h0 (((isWordB_iff _).1 (Bool.and_eq_true_iff.1 h).1).2 i (by rw [size_len_]; exact hlt) c HC.out)
      clear hc hst hz HB HC
      have hcase : z < 48 ∨ (48 ≤ z ∧ z ≤ 57) ∨ (57 < z ∧ z < 65) ∨ (65 ≤ z ∧ z ≤ 90) ∨ (90 < z ∧ z < 95) ∨ z = 95 ∨ z = 96 ∨ (97 ≤ z ∧ z ≤ 122) ∨ 122 < z := by omega
      rcases hcase with h | ⟨h, h2⟩ | ⟨h, h2⟩ | ⟨h, h2⟩ | ⟨h, h2⟩ | rfl | rfl | ⟨h, h2⟩ | h
      · have f0 : ¬ 97 ≤ z := by omega
        have f1 : ¬ 65 ≤ z := by omega
        have f2 : ¬ z = 95 := by omega
        have f3 : z < 48 := by omega
        have e95 : (z == 95) = false := by simp only [beq_eq_false_iff_ne, ne_eq]; omega
        by_cases h0 : i = 0
        · have h0'' : ((i : Int) == 0) = true := by simp [h0]
          have hv := HS.out (by rw [hL.out, hD.out]; simp [h0]; try omega)
          clear HN HS hL hD h0
          go_wp2_with fail
          go_ret
          exact ⟨by rw [hv.out]; rfl, rfl⟩
        · have h0' : ¬ (i : Int) = 0 := by omega
          have h0'' : ((i : Int) == 0) = false := by simp [h0]
          have hv := HS.out (by rw [hL.out, hD.out]; simp; try omega)
          clear HN HS hL hD
          go_wp2_with fail
          go_ret
          exact ⟨by rw [hv.out]; rfl, rfl⟩
      · have f0 : ¬ 97 ≤ z := by omega
        have f1 : ¬ 65 ≤ z := by omega
        have f2 : ¬ z = 95 := by omega
        have f3 : ¬ z < 48 := by omega
        have f4 : ¬ 57 < z := by omega
        have e95 : (z == 95) = false := by simp only [beq_eq_false_iff_ne, ne_eq]; omega
        by_cases h0 : i = 0
        · have h0'' : ((i : Int) == 0) = true := by simp [h0]
          have hv := HS.out (by rw [hL.out]; simp [h0]; try omega)
          clear HN HS hL hD h0
          go_wp2_with fail
          go_ret
          exact ⟨by rw [hv.out]; rfl, rfl⟩
        · have h0' : ¬ (i : Int) = 0 := by omega
          have h0'' : ((i : Int) == 0) = false := by simp [h0]
          have h1 := HN.out (.inr ⟨h0, hD.out.trans (by simp; try omega)⟩)
          clear HN HS hL hD
          go_wp2_with fail
          exact ⟨⟨i + 1, by omega, by go_num, h1, by first | rfl | trivial⟩, by simp [intOf]; omega⟩
      · have f0 : ¬ 97 ≤ z := by omega
        have f1 : ¬ 65 ≤ z := by omega
        have f2 : ¬ z = 95 := by omega
        have f3 : ¬ z < 48 := by omega
        have e95 : (z == 95) = false := by simp only [beq_eq_false_iff_ne, ne_eq]; omega
        by_cases h0 : i = 0
        · have h0'' : ((i : Int) == 0) = true := by simp [h0]
          have hv := HS.out (by rw [hL.out, hD.out]; simp [h0]; try omega)
          clear HN HS hL hD h0
          go_wp2_with fail
          go_ret
          exact ⟨by rw [hv.out]; rfl, rfl⟩
        · have h0' : ¬ (i : Int) = 0 := by omega
          have h0'' : ((i : Int) == 0) = false := by simp [h0]
          have hv := HS.out (by rw [hL.out, hD.out]; simp; try omega)
          clear HN HS hL hD
          go_wp2_with fail
          go_ret
          exact ⟨by rw [hv.out]; rfl, rfl⟩
      · have f0 : ¬ 97 ≤ z := by omega
        have h1 := HN.out (.inl (hL.out.trans (by simp; try omega)))
        clear HN HS hL hD
        go_wp2_with fail
        exact ⟨⟨i + 1, by omega, by go_num, h1, by first | rfl | trivial⟩, by simp [intOf]; omega⟩
      · have f0 : ¬ 97 ≤ z := by omega
        have f1 : 65 ≤ z := by omega
        have f2 : ¬ z ≤ 90 := by omega
        have f3 : ¬ z = 95 := by omega
        have f4 : ¬ z < 48 := by omega
        have f5 : 57 < z := by omega
        have e95 : (z == 95) = false := by simp only [beq_eq_false_iff_ne, ne_eq]; omega
        by_cases h0 : i = 0
        · have h0'' : ((i : Int) == 0) = true := by simp [h0]
          have hv := HS.out (by rw [hL.out, hD.out]; simp [h0]; try omega)
          clear HN HS hL hD h0
          go_wp2_with fail
          go_ret
          exact ⟨by rw [hv.out]; rfl, rfl⟩
        · have h0' : ¬ (i : Int) = 0 := by omega
          have h0'' : ((i : Int) == 0) = false := by simp [h0]
          have hv := HS.out (by rw [hL.out, hD.out]; simp; try omega)
          clear HN HS hL hD
          go_wp2_with fail
          go_ret
          exact ⟨by rw [hv.out]; rfl, rfl⟩
      · have h1 := HN.out (.inl (hL.out.trans (by simp; try omega)))
        clear HN HS hL hD
        go_wp2_with fail
        exact ⟨⟨i + 1, by omega, by go_num, h1, by first | rfl | trivial⟩, by simp [intOf]; omega⟩
      · by_cases h0 : i = 0
        · have h0'' : ((i : Int) == 0) = true := by simp [h0]
          have hv := HS.out (by rw [hL.out, hD.out]; simp [h0]; try omega)
          clear HN HS hL hD h0
          go_wp2_with fail
          go_ret
          exact ⟨by rw [hv.out]; rfl, rfl⟩
        · have h0' : ¬ (i : Int) = 0 := by omega
          have h0'' : ((i : Int) == 0) = false := by simp [h0]
          have hv := HS.out (by rw [hL.out, hD.out]; simp; try omega)
          clear HN HS hL hD
          go_wp2_with fail
          go_ret
          exact ⟨by rw [hv.out]; rfl, rfl⟩
      · have h1 := HN.out (.inl (hL.out.trans (by simp; try omega)))
        clear HN HS hL hD
        go_wp2_with fail
        exact ⟨⟨i + 1, by omega, by go_num, h1, by first | rfl | trivial⟩, by simp [intOf]; omega⟩
      · have f0 : 97 ≤ z := by omega
        have f1 : ¬ z ≤ 122 := by omega
        have f2 : 65 ≤ z := by omega
        have f3 : ¬ z ≤ 90 := by omega
        have f4 : ¬ z = 95 := by omega
        have f5 : ¬ z < 48 := by omega
        have f6 : 57 < z := by omega
        have e95 : (z == 95) = false := by simp only [beq_eq_false_iff_ne, ne_eq]; omega
        by_cases h0 : i = 0
        · have h0'' : ((i : Int) == 0) = true := by simp [h0]
          have hv := HS.out (by rw [hL.out, hD.out]; simp [h0]; try omega)
          clear HN HS hL hD h0
          go_wp2_with fail
          go_ret
          exact ⟨by rw [hv.out]; rfl, rfl⟩
        · have h0' : ¬ (i : Int) = 0 := by omega
          have h0'' : ((i : Int) == 0) = false := by simp [h0]
          have hv := HS.out (by rw [hL.out, hD.out]; simp; try omega)
          clear HN HS hL hD
          go_wp2_with fail
          go_ret
          exact ⟨by rw [hv.out]; rfl, rfl⟩
    · obtain rfl : i = s.size := by omega
      have hlt' : ¬ (s.size : Int) < s.size := by omega
      have hv : Hid (b = (decide (1 ≤ s.size) && decide (s.size ≤ 32))) := by
        show b = _
        have hl := size_len_ s
        rw [HB.out]
        unfold word6
        rw [hl]
        by_cases h0 : 1 ≤ s.size
        · have : isWordB s.data.toList = true := (isWordB_iff _).2 ⟨fun e => by rw [e] at hl; simp at hl; omega, fun j hj => hst.out j (by omega)⟩
          rw [this, decide_eq_true h0]
        · have : isWordB s.data.toList = false := by
            have : s.data.toList = [] := List.eq_nil_of_length_eq_zero (by omega)
            rw [this]; rfl
          rw [this, decide_eq_false h0]
      clear hst HB
      by_cases h1 : 1 ≤ s.size
      · have h1' : (1 : Int) ≤ s.size := by omega
        by_cases h2 : s.size ≤ 32
        · have h2' : (s.size : Int) ≤ 32 := by omega
          have hv := Lib.hid (hv.out.trans (by rw [decide_eq_true h1, decide_eq_true h2]; rfl) : b = true)
          go_wp2_with fail
          go_ret
          exact ⟨by rw [hv.out]; first | rfl | simp [*], rfl⟩
        · have h2' : ¬ (s.size : Int) ≤ 32 := by omega
          have hv := Lib.hid (hv.out.trans (by rw [decide_eq_true h1, decide_eq_false h2]; rfl) : b = false)
          go_wp2_with fail
          go_ret
          exact ⟨by rw [hv.out]; first | rfl | simp [*], rfl⟩
      · have h1' : ¬ (1 : Int) ≤ s.size := by omega
        have hv := Lib.hid (hv.out.trans (by rw [decide_eq_false h1]; rfl) : b = false)
        go_wp2_with fail
        go_ret
        exact ⟨by rw [hv.out]; first | rfl | simp [*], rfl⟩

set_option maxHeartbeats 1000000 in
theorem refHas6 {A : Option Addr} {n c : Nat} {r : List (List UInt8)} {w : World} (s : List UInt8) (h : RowS w A n r) (hn : n ≤ 4611686018427387904) :
    Calls Tryd.prog 48 #[.slice A n c, .string ⟨s.toArray⟩] w fun e w' => e = .returned (.bool (r.contains s)) ∧ w' = w := by
  obtain ⟨b, hb⟩ : ∃ b, b = r.contains s := ⟨_, rfl⟩
  rw [← hb]
  have HB := Lib.hid hb
  clear hb
  have hl := Lib.hid h.len
  go_enter Tryd.func48, Tryd.ntmps48
  go_wp2_with fail
  go_loopw [5] (fun v W => ∃ i : Nat, i ≤ n ∧ v = .int .i64 i ∧ Hid (∀ j, j < i → r[j]? ≠ some s) ∧ W = w) (fun v _ => n - (intOf v).toNat)
  case atStart => exact ⟨0, by omega, rfl, fun j hj => absurd hj (by omega), rfl⟩
  case round =>
    obtain ⟨i, hi, rfl, hst, rfl⟩ := hrel
    by_cases hlt : i < n
    · obtain ⟨ad, t, rfl, ht, hc1⟩ := h.at_ hlt
      have hlt' : (i : Int) < n := by omega
      have HT := Lib.hid ht
      clear h ht
      by_cases he : t = s
      · have hv : Hid (b = true) := by
          show b = true
          rw [HB.out, List.contains_iff_mem]
          exact List.mem_iff_getElem?.2 ⟨i, by rw [HT.out, he]⟩
        have h2 := eq_texts6 he
        clear he hst HB HT
        generalize (⟨t.toArray⟩ : ByteArray) = ts at *
        generalize (⟨s.toArray⟩ : ByteArray) = ss at *
        go_wp2_with fail
        go_ret
        exact ⟨by rw [hv.out]; rfl, rfl⟩
      · have h2 := ne_texts6 he
        have hst2 : Hid (∀ j, j < i + 1 → r[j]? ≠ some s) := fun j hj e => by
          rcases Nat.lt_or_ge j i with h | h
          · exact hst.out j h e
          · obtain rfl : j = i := by omega
            have := HT.out.symm.trans e
            injection this with this
            exact he this
        clear he hst HB HT
        generalize (⟨t.toArray⟩ : ByteArray) = ts at *
        generalize (⟨s.toArray⟩ : ByteArray) = ss at *
        go_wp2_with fail
        exact ⟨⟨i + 1, by omega, by go_num, hst2, by first | rfl | trivial⟩, by simp [intOf]; omega⟩
    · obtain rfl : i = n := by omega
      have hlt' : ¬ (i : Int) < i := by omega
      have hv : Hid (b = false) := by
        show b = false
        rw [HB.out, Bool.eq_false_iff, ne_eq, List.contains_iff_mem]
        intro hm
        obtain ⟨j, hj⟩ := List.mem_iff_getElem?.1 hm
        have hj2 : j < r.length := (List.getElem?_eq_some_iff.1 hj).1
        exact hst.out j (by rw [hl.out]; exact hj2) hj
      clear hst HB h
      go_wp2_with fail
      go_ret
      exact ⟨by rw [hv.out]; rfl, rfl⟩

/-- The keywords; the operators' texts and levels. -/
def kws6 : List (List UInt8) := [[97, 114, 114, 97, 121], [99, 97, 108, 108], [101, 108, 115, 101], [105, 102], [105, 110], [109, 97, 105, 110], [111, 117, 116, 112, 117, 116], [112, 114, 111, 99], [112, 117, 98, 108, 105, 99], [115, 101, 99, 114, 101, 116], [115, 107, 105, 112], [118, 97, 114], [119, 104, 105, 108, 101]]
def ops6 : List (List UInt8) := [[124, 124], [38, 38], [61, 61], [33, 61], [60], [60, 61], [62], [62, 61], [124], [94], [38], [60, 60], [62, 62], [43], [45], [42], [47], [37], [45], [33], [126]]
def lvl6 : List Int := [1, 2, 3, 3, 4, 4, 4, 4, 5, 5, 6, 7, 7, 8, 8, 9, 9, 9, 10, 10, 10]

set_option maxHeartbeats 1000000 in
set_option maxRecDepth 100000 in
theorem refKeywords6 (w : World) : Calls Tryd.prog 12 #[] w fun e w' => ∃ g, e = .returned (.slice (some ⟨g, 0, none⟩) 13 13) ∧ RowS w' (some ⟨g, 0, none⟩) 13 kws6 ∧ Below w.heap.size w w' := by
  have hr := Lib.hid (RowS.new w kws6 9)
  have hb := Lib.hid (bnew5 w (.cells (strs kws6).toArray 9))
  go_enter Tryd.func12, Tryd.ntmps12
  go_wp2_with fail
  go_ret
  exact ⟨_, rfl, hr.out, hb.out⟩
set_option maxHeartbeats 1000000 in
set_option maxRecDepth 100000 in
theorem refTexts6 (w : World) : Calls Tryd.prog 45 #[] w fun e w' => ∃ g, e = .returned (.slice (some ⟨g, 0, none⟩) 21 21) ∧ RowS w' (some ⟨g, 0, none⟩) 21 ops6 ∧ Below w.heap.size w w' := by
  have hr := Lib.hid (RowS.new w ops6 9)
  have hb := Lib.hid (bnew5 w (.cells (strs ops6).toArray 9))
  go_enter Tryd.func45, Tryd.ntmps45
  go_wp2_with fail
  go_ret
  exact ⟨_, rfl, hr.out, hb.out⟩
end Go.Proofs.YtkmioieanopafaaDoor
