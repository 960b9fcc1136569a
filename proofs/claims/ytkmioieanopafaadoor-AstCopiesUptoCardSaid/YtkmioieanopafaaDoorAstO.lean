/- The landed ast's Word, Name, Operator, Keywords. -/
import Derived.Test.YtkmioieanopafaaDoorAstN
import Derived.Lib.ConvBytes
namespace Go.Proofs.YtkmioieanopafaaDoor
open Go.RowKit

theorem byteA (s : ByteArray) (i : Nat) (hi : i < s.size) : ∃ c : UInt8, s.data.toList[i]? = some c ∧ s.data.toList.getD i 0 = c := by
  have h : i < s.data.toList.length := by rw [size_len_]; exact hi
  exact ⟨s.data.toList[i], List.getElem?_eq_getElem h, by simp [List.getD, List.getElem?_eq_getElem h]⟩
theorem ltr_Z (c : UInt8) : ltr c = lrZ ((c.toNat : Nat) : Int) := by unfold ltr lrZ; exact decide_eq_decide.2 (by omega)
theorem dgt_Z (c : UInt8) : dgt c = dgZ ((c.toNat : Nat) : Int) := by unfold dgt dgZ; exact decide_eq_decide.2 (by omega)
theorem bytesBelow (w : World) (t : ByteArray) : Below w.heap.size w (Lib.bytesWorld w 5 t) :=
  ⟨rfl, rfl, rfl, by rw [Lib.bytesWorld_size]; omega, fun i hi => Lib.bytesWorld_at_old _ _ _ i hi⟩
/-- The bytes of a text, in memory. -/
theorem bytesTo (s : ByteArray) (w : World) : ∃ W1 C, (Go.convert 9 80 (.string s)).run Tryd.prog w = .ok (.slice (some ⟨w.heap.size, 0, none⟩) s.size C) W1 ∧ Below w.heap.size w W1 ∧ ∀ j c, s.data.toList[j]? = some c → W1.cell? ⟨w.heap.size, j, none⟩ = some (.int .u8 ((c.toNat : Nat) : Int)) := by
  refine ⟨_, _, Lib.run_convert_string_bytes w _ _ 5 s Tryd.underlying9 Tryd.underlying80 Tryd.underlying5, bytesBelow w s, fun j c hc => ?_⟩
  have hj : j < s.size := by rw [← size_len_]; exact (List.getElem?_eq_some_iff.1 hc).1
  rw [Lib.bytesWorld_cell _ _ _ _ hj]
  simp [List.getD, hc]

set_option maxHeartbeats 4000000 in
theorem astWord (s : ByteArray) (hs : s.size ≤ 4611686018427387904) (w : World) : Calls Tryd.prog 19 #[.string s] w fun e w' => e = .returned (.bool (word6 s.data.toList)) ∧ Below w.heap.size w w' := by
  obtain ⟨b, hb⟩ : ∃ b, b = word6 s.data.toList := ⟨_, rfl⟩
  rw [← hb]
  have HB := Lib.hid hb
  have hl := Lib.hid (size_len_ s)
  clear hb
  by_cases h0 : s.size = 0
  · have he : s = ⟨#[]⟩ := by
      obtain ⟨d⟩ := s
      have : d = #[] := by simpa [ByteArray.size] using h0
      rw [this]
    have hv : b = false := by rw [HB.out, he]; rfl
    subst hv
    clear hs hl HB h0
    subst he
    go_enter Tryd.func19, Tryd.ntmps19
    go_wp2_with fail
    go_ret
    exact ⟨rfl, Below.refl _ _⟩
  have hne : (s.toList == (⟨#[]⟩ : ByteArray).toList) = false := by
    simp only [beq_eq_false_iff_ne, ne_eq, ByteArray.toList_eq]
    intro h
    apply h0
    rw [← hl.out, h]
    rfl
  have hne2 : (s.toList == []) = false := by simpa using hne
  by_cases h1 : 32 < s.size
  · have h1' : (32 : Int) < s.size := by omega
    have hv : b = false := by
      rw [HB.out]; unfold word6
      rw [decide_eq_false (by rw [hl.out]; omega)]
      simp
    subst hv
    clear HB
    go_enter Tryd.func19, Tryd.ntmps19
    go_wp2_with fail
    go_ret
    exact ⟨rfl, Below.refl _ _⟩
  obtain ⟨c, hc, hidx⟩ := byte6 s 0 (by omega)
  have h1' : ¬ (32 : Int) < s.size := by omega
  have h1'' : (s.size : Int) ≤ 32 := by omega
  have hidx0 : ∀ w, (Go.Instr.index 9 (.string s) (.int .i64 0)).run Tryd.prog w = .ok (.int .u8 ((c.toNat : Nat) : Int)) w := hidx
  clear hidx
  have hq := astDigit ((c.toNat : Nat) : Int) w
  cases hd : dgZ ((c.toNat : Nat) : Int) with
  | true =>
    rw [hd] at hq
    have hv : b = false := by
      rw [HB.out, Bool.eq_false_iff]
      intro h
      rcases ((isWordB_iff _).1 (Bool.and_eq_true_iff.1 h).1).2 0 (by rw [hl.out]; omega) c hc with h2 | h2
      · rw [ltr_Z] at h2
        unfold dgZ at hd
        unfold lrZ at h2
        simp only [decide_eq_true_eq] at hd h2
        omega
      · exact h2.1 rfl
    subst hv
    clear HB hc hd h1
    generalize ((c.toNat : Nat) : Int) = z at *
    go_enter Tryd.func19, Tryd.ntmps19
    go_wp2_with fail
    refine hq.mono ?_
    rintro e w1 ⟨rfl, rfl⟩
    go_wp2_with fail
    go_ret
    exact ⟨rfl, Below.refl _ _⟩
  | false =>
    rw [hd] at hq
    have hfirst : Hid (dgt c = false) := by show dgt c = false; rw [dgt_Z, hd]
    have hc0 := Lib.hid hc
    clear hc hd
    obtain ⟨W1, C, hconv, hbel, hcell⟩ := bytesTo s w
    have HB1 := Lib.hid (And.intro hbel hcell)
    clear hbel hcell
    generalize ((c.toNat : Nat) : Int) = z0 at hidx0 hq
    go_enter Tryd.func19, Tryd.ntmps19
    go_wp2_with fail
    refine hq.mono ?_
    rintro e w1 ⟨rfl, rfl⟩
    clear hq hidx0
    go_wp2_with fail
    have hsz := HB1.out.1.size
    go_loopw [20] (fun v W => ∃ i : Nat, i ≤ s.size ∧ v = .int .i64 i ∧ Hid (∀ j, j < i → ∀ c, s.data.toList[j]? = some c → ltr c = true ∨ dgt c = true) ∧ W = W1) (fun v _ => s.size - (intOf v).toNat)
    case atStart => exact ⟨0, by omega, rfl, fun j hj => absurd hj (by omega), rfl⟩
    case round =>
      obtain ⟨i, hi, rfl, hst, rfl⟩ := hrel
      by_cases hlt : i < s.size
      · have hlt' : (i : Int) < s.size := by omega
        obtain ⟨d, hd, -⟩ := byteA s i hlt
        have hcd := HB1.out.2 i d hd
        have q1 := astLetter ((d.toNat : Nat) : Int) wr
        have q2 := astDigit ((d.toNat : Nat) : Int) wr
        rw [← ltr_Z] at q1
        rw [← dgt_Z] at q2
        have HD := Lib.hid hd
        have HN : Hid ((ltr d = true ∨ dgt d = true) → Hid (∀ j, j < i + 1 → ∀ c, s.data.toList[j]? = some c → ltr c = true ∨ dgt c = true)) := fun h0 j hj e hej => by
          rcases Nat.lt_or_ge j i with h | h
          · exact hst.out j h e hej
          · obtain rfl : j = i := by omega
            have := HD.out.symm.trans hej
            injection this with this
            rw [← this]
            exact h0
        have HS : Hid (ltr d = false → dgt d = false → Hid (b = false)) := fun h1 h2 => by
          show b = false
          rw [HB.out, Bool.eq_false_iff]
          intro h
          rcases ((isWordB_iff _).1 (Bool.and_eq_true_iff.1 h).1).2 i (by rw [hl.out]; exact hlt) d HD.out with h3 | h3
          · rw [h1] at h3; cases h3
          · rw [h2] at h3; cases h3.2
        clear hd HD hst HB hconv
        generalize ((d.toNat : Nat) : Int) = z at *
        go_wp2_with fail
        refine q1.mono ?_
        rintro e w1 ⟨rfl, rfl⟩
        clear q1
        cases hl1 : ltr d with
        | true =>
          have hn := HN.out (.inl hl1)
          clear HN HS q2
          go_wp2_with fail
          exact ⟨⟨i + 1, by omega, by go_num, hn, by first | rfl | trivial⟩, by simp [intOf]; omega⟩
        | false =>
          go_wp2_with fail
          refine q2.mono ?_
          rintro e w1 ⟨rfl, rfl⟩
          clear q2
          cases hd1 : dgt d with
          | true =>
            have hn := HN.out (.inr hd1)
            clear HN HS
            go_wp2_with fail
            exact ⟨⟨i + 1, by omega, by go_num, hn, by first | rfl | trivial⟩, by simp [intOf]; omega⟩
          | false =>
            have hv := HS.out hl1 hd1
            clear HN HS
            go_wp2_with fail
            go_ret
            exact ⟨by rw [hv.out]; rfl, HB1.out.1⟩
      · obtain rfl : i = s.size := by omega
        have hlt' : ¬ (s.size : Int) < s.size := by omega
        have hv : Hid (b = true) := by
          show b = true
          rw [HB.out]
          unfold word6
          rw [decide_eq_true (by rw [hl.out]; omega), Bool.and_true, isWordB_iff]
          refine ⟨fun e => by have := hl.out; rw [e] at this; simp at this; omega, fun j hj e he => ?_⟩
          rcases hst.out j (by rw [← hl.out]; exact hj) e he with h | h
          · exact .inl h
          · refine .inr ⟨fun hj0 => ?_, h⟩
            subst hj0
            have := hc0.out.symm.trans he
            injection this with this
            rw [← this, hfirst.out] at h
            cases h
        clear HB hst
        go_wp2_with fail
        go_ret
        exact ⟨by rw [hv.out]; rfl, HB1.out.1⟩

/-- An array of texts at a place. -/
theorem idxText (n : Nat) (t : TypeId) (hu : Tryd.prog.underlying t = some (.array n 9)) (cs : Array Value) (i : Nat) (v : Value) (hi : i < n) (hv : cs[i]? = some v) (w : World) : (Go.Instr.index t (.agg cs) (.int .i64 (i : Int))).run Tryd.prog w = .ok v w := by
  have h1 : 0 ≤ (i : Int) ∧ (i : Int) < n := by omega
  simp [Instr.index, run_underlying hu, asIntOf, go_sem, part, hi, hv]

set_option maxHeartbeats 1000000 in
set_option maxRecDepth 100000 in
theorem astKeywords (w : World) (hL : LaidW w) : Calls Tryd.prog 10 #[] w fun e w' => ∃ g, e = .returned (.slice (some ⟨g, 0, none⟩) 13 13) ∧ Box w' g (strs kws6) ∧ w.heap.size ≤ g ∧ Below w.heap.size w w' := by
  have hb := Lib.hid (And.intro (Box.new w (strs kws6) 76) (bnew5 w (.cells (strs kws6).toArray 76)))
  have c0 : w.cell? ⟨1, 0, none⟩ = some (.string { data := #[97, 114, 114, 97, 121] }) := hL.keys.cell rfl
  have c1 : w.cell? ⟨1, 1, none⟩ = some (.string { data := #[99, 97, 108, 108] }) := hL.keys.cell rfl
  have c2 : w.cell? ⟨1, 2, none⟩ = some (.string { data := #[101, 108, 115, 101] }) := hL.keys.cell rfl
  have c3 : w.cell? ⟨1, 3, none⟩ = some (.string { data := #[105, 102] }) := hL.keys.cell rfl
  have c4 : w.cell? ⟨1, 4, none⟩ = some (.string { data := #[105, 110] }) := hL.keys.cell rfl
  have c5 : w.cell? ⟨1, 5, none⟩ = some (.string { data := #[109, 97, 105, 110] }) := hL.keys.cell rfl
  have c6 : w.cell? ⟨1, 6, none⟩ = some (.string { data := #[111, 117, 116, 112, 117, 116] }) := hL.keys.cell rfl
  have c7 : w.cell? ⟨1, 7, none⟩ = some (.string { data := #[112, 114, 111, 99] }) := hL.keys.cell rfl
  have c8 : w.cell? ⟨1, 8, none⟩ = some (.string { data := #[112, 117, 98, 108, 105, 99] }) := hL.keys.cell rfl
  have c9 : w.cell? ⟨1, 9, none⟩ = some (.string { data := #[115, 101, 99, 114, 101, 116] }) := hL.keys.cell rfl
  have c10 : w.cell? ⟨1, 10, none⟩ = some (.string { data := #[115, 107, 105, 112] }) := hL.keys.cell rfl
  have c11 : w.cell? ⟨1, 11, none⟩ = some (.string { data := #[118, 97, 114] }) := hL.keys.cell rfl
  have c12 : w.cell? ⟨1, 12, none⟩ = some (.string { data := #[119, 104, 105, 108, 101] }) := hL.keys.cell rfl
  go_enter Tryd.func10, Tryd.ntmps10
  go_wp2_with fail
  go_ret
  exact ⟨_, rfl, hb.out.1, Nat.le_refl _, hb.out.2⟩

set_option maxHeartbeats 4000000 in
set_option maxRecDepth 100000 in
theorem astName (s : List UInt8) (hs : s.length ≤ 4611686018427387904) (w : World) (hL : LaidW w) : Calls Tryd.prog 21 #[.string ⟨s.toArray⟩] w fun e w' => e = .returned (.bool (name6 s)) ∧ Below w.heap.size w w' := by
  have hq := Lib.hid (fun w => astWord ⟨s.toArray⟩ (by simpa [ByteArray.size] using hs) w)
  obtain ⟨b, hb⟩ : ∃ b, b = name6 s := ⟨_, rfl⟩
  rw [← hb]
  have HB := Lib.hid hb
  clear hb
  obtain ⟨tt, fr, hT0⟩ := hL.keys
  obtain ⟨V, hV⟩ : ∃ V, V = (strs kws6).toArray := ⟨_, rfl⟩
  rw [← hV] at hT0
  replace hV := Lib.hid hV
  have hsz : (Tryd.prog.info? 76).map (·.size) = some V.size := by rw [hV.out]; kernel_rfl
  go_enter Tryd.func21, Tryd.ntmps21
  go_wp2_with (refine wpList_load_row rfl 76 (.global 1) rfl 1 rfl tt V fr _ hT0 Tryd.underlying76 rfl hsz ?_)
  obtain ⟨ss, hss⟩ : ∃ x : ByteArray, x = ⟨s.toArray⟩ := ⟨_, rfl⟩
  rw [← hss]
  have HSS := Lib.hid hss
  clear hss
  go_loopw [6] (fun v W => ∃ i : Nat, i ≤ 13 ∧ v = .int .i64 i ∧ Hid (∀ j : Nat, j < i → ∀ k, kws6[j]? = some k → k ≠ s) ∧ W = w) (fun v _ => 13 - (intOf v).toNat)
  case atStart => exact ⟨0, by omega, rfl, fun j hj => absurd hj (by omega), rfl⟩
  case round =>
    obtain ⟨i, hi, rfl, hst, rfl⟩ := hrel
    by_cases hlt : i < 13
    · have hlt' : (i : Int) < 13 := by omega
      obtain ⟨k, hk⟩ : ∃ k, kws6[i]? = some k := ⟨_, List.getElem?_eq_getElem (show i < kws6.length from hlt)⟩
      have hidx := fun w => idxText 13 76 Tryd.underlying76 V i (.string ⟨k.toArray⟩) hlt (by rw [hV.out]; simp [strs, hk]) w
      have HK := Lib.hid hk
      clear hk
      by_cases he : k = s
      · have hv : Hid (b = false) := by
          show b = false
          rw [HB.out]
          unfold name6
          have : kws6.contains s = true := by
            rw [List.contains_iff_mem]
            exact List.mem_iff_getElem?.2 ⟨i, by rw [HK.out, he]⟩
          rw [this]; simp
        have h2 := eq_texts6 he.symm
        rw [← HSS.out] at h2
        clear he hst HB HK hq
        generalize (⟨k.toArray⟩ : ByteArray) = ks at *
        go_wp2_with fail
        go_ret
        exact ⟨by rw [hv.out]; rfl, Below.refl _ _⟩
      · have h2 := ne_texts6 (fun e => he e.symm : ¬ s = k)
        rw [← HSS.out] at h2
        have hst2 : Hid (∀ j, j < i + 1 → ∀ k, kws6[j]? = some k → k ≠ s) := fun j hj k' hk' => by
          rcases Nat.lt_or_ge j i with h | h
          · exact hst.out j h k' hk'
          · obtain rfl : j = i := by omega
            have := HK.out.symm.trans hk'
            injection this with this
            rw [← this]; exact he
        clear he hst HB HK hq
        generalize (⟨k.toArray⟩ : ByteArray) = ks at *
        go_wp2_with fail
        exact ⟨⟨i + 1, by omega, by go_num, hst2, by first | rfl | trivial⟩, by simp [intOf]; omega⟩
    · obtain rfl : i = 13 := by omega
      have hv : Hid (b = word6 s) := by
        show b = word6 s
        rw [HB.out]
        unfold name6
        have : kws6.contains s = false := by
          rw [Bool.eq_false_iff, ne_eq, List.contains_iff_mem]
          intro hm
          obtain ⟨j, hj⟩ := List.mem_iff_getElem?.1 hm
          exact hst.out j (List.getElem?_eq_some_iff.1 hj).1 s hj rfl
        rw [this]; simp
      have hq1 := hq.out wr
      rw [← HSS.out, ← hv.out] at hq1
      clear hst HB hq hV
      go_wp2_with fail
      refine hq1.mono ?_
      rintro e w1 ⟨rfl, hb1⟩
      go_wp2_with fail
      go_ret
      exact ⟨rfl, hb1⟩

set_option maxHeartbeats 4000000 in
set_option maxRecDepth 100000 in
theorem astOperator (s : List UInt8) (b : Bool) (w : World) (hL : LaidW w) : Calls Tryd.prog 8 #[.string ⟨s.toArray⟩, .bool b] w fun e w' => e = .returned (.tuple #[.int .i64 (op6 s b).1, .bool (op6 s b).2]) ∧ w' = w := by
  obtain ⟨v, hv⟩ : ∃ v, v = op6 s b := ⟨_, rfl⟩
  rw [← hv]
  have HV := Lib.hid hv
  clear hv
  obtain ⟨ss, hss⟩ : ∃ x : ByteArray, x = ⟨s.toArray⟩ := ⟨_, rfl⟩
  rw [← hss]
  have HSS := Lib.hid hss
  clear hss
  obtain ⟨tt, fr, hT0⟩ := hL.texts
  obtain ⟨V, hT⟩ : ∃ V, V = (strs ops6).toArray := ⟨_, rfl⟩
  rw [← hT] at hT0
  replace hT := Lib.hid hT
  have hsz : (Tryd.prog.info? 75).map (·.size) = some V.size := by rw [hT.out]; kernel_rfl
  go_enter Tryd.func8, Tryd.ntmps8
  go_wp2_with (refine wpList_load_row rfl 75 (.global 0) rfl 0 rfl tt V fr _ hT0 Tryd.underlying75 rfl hsz ?_)
  go_loopw [10] (fun v W => ∃ i : Nat, i ≤ 21 ∧ v = .int .i64 i ∧ Hid (∀ j : Nat, j < i → ¬ (txt6 j = s ∧ one6 j = b)) ∧ W = w) (fun v _ => 21 - (intOf v).toNat)
  case atStart => exact ⟨0, by omega, rfl, fun j hj => absurd hj (by omega), rfl⟩
  case round =>
    obtain ⟨i, hi, rfl, hst, rfl⟩ := hrel
    by_cases hlt : i < 21
    · have hlt' : (i : Int) < 21 := by omega
      have hidx := fun w => idxText 21 75 Tryd.underlying75 V i (.string ⟨(txt6 i).toArray⟩) hlt (by
        rw [hT.out]
        have h2 : i < ops6.length := hlt
        unfold txt6
        rw [if_pos (by omega), Int.toNat_natCast, List.getD_eq_getElem?_getD]
        simp [strs, List.getElem?_eq_getElem h2]) w
      have hq2 := fun w => astOne (i : Int) w
      have HF : Hid (txt6 i = s → one6 i = b → v = (((i : Nat) : Int), true)) := fun h1 h2 => by
        rw [HV.out]
        unfold op6
        have : (List.range 21).find? (fun i : Nat => decide (txt6 i = s ∧ one6 i = b)) = some i := by
          rw [List.find?_range_eq_some]
          refine ⟨by simpa using ⟨h1, h2⟩, by simpa using hlt, fun j hj => ?_⟩
          have := hst.out j hj
          simp only [Bool.not_eq_true', decide_eq_false_iff_not]
          exact this
        rw [this]
      have HN : Hid (¬ (txt6 i = s ∧ one6 i = b) → ∀ j : Nat, j < i + 1 → ¬ (txt6 j = s ∧ one6 j = b)) := fun h0 j hj => by
        rcases Nat.lt_or_ge j i with h | h
        · exact hst.out j h
        · obtain rfl : j = i := by omega
          exact h0
      clear hst HV
      by_cases h1 : txt6 i = s
      · have h1' := eq_texts6 h1
        rw [← HSS.out] at h1'
        generalize (⟨(txt6 i).toArray⟩ : ByteArray) = ts at *
        go_wp2_with fail
        refine (hq2 _).mono ?_
        rintro e w2 ⟨rfl, rfl⟩
        clear hq2
        by_cases h2 : one6 i = b
        · have hvv := HF.out h1 h2
          subst hvv
          have h2' : (one6 i == b) = true := by simp [h2]
          clear HF HN h1 h2
          generalize one6 i = q at *
          go_wp2_with fail
          go_ret2
          exact ⟨rfl, rfl⟩
        · have h2' : (one6 i == b) = false := by simp [h2]
          have hst2 := Lib.hid (HN.out (fun h => h2 h.2))
          clear HF HN h1 h2
          generalize one6 i = q at *
          go_wp2_with fail
          exact ⟨⟨i + 1, by omega, by go_num, hst2.out, by first | rfl | trivial⟩, by simp [intOf]; omega⟩
      · have h1' := ne_texts6 h1
        have hst2 := Lib.hid (HN.out (fun h => h1 h.1))
        clear HF HN hq2 h1
        rw [← HSS.out] at h1'
        generalize (⟨(txt6 i).toArray⟩ : ByteArray) = ts at *
        go_wp2_with fail
        exact ⟨⟨i + 1, by omega, by go_num, hst2.out, by first | rfl | trivial⟩, by simp [intOf]; omega⟩
    · obtain rfl : i = 21 := by omega
      have hvv : v = (0, false) := by
        rw [HV.out]
        unfold op6
        have : (List.range 21).find? (fun i : Nat => decide (txt6 i = s ∧ one6 i = b)) = none := by
          rw [List.find?_eq_none]
          intro j hj
          have := hst.out j (by simpa using hj)
          simp only [decide_eq_true_eq]
          exact this
        rw [this]
      subst hvv
      clear hst HV
      go_wp2_with fail
      go_ret2
      exact ⟨rfl, rfl⟩
end Go.Proofs.YtkmioieanopafaaDoor
