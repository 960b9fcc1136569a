/- Names, numbers, operators, picking: the reference of layer 6 and the kit. -/
import Derived.Test.YtkmioieanopafaaDoorAstB
namespace Go.Proofs.YtkmioieanopafaaDoor
open Go.RowKit

/-- A name; a number. -/
def name6 (l : List UInt8) : Bool := word6 l && !kws6.contains l
def num6 (n : Int) : Bool := decide (0 ≤ n ∨ n = -9223372036854775808)
/-- An operator's text, level, operands; the operator of a text. -/
def txt6 (o : Int) : List UInt8 := if 0 ≤ o ∧ o ≤ 20 then ops6.getD o.toNat [] else []
def lev6 (o : Int) : Int := if 0 ≤ o ∧ o ≤ 20 then lvl6.getD o.toNat 0 else 0
def one6 (o : Int) : Bool := decide (18 ≤ o ∧ o ≤ 20)
def op6 (s : List UInt8) (b : Bool) : Int × Bool :=
  match (List.range 21).find? (fun i : Nat => decide (txt6 i = s ∧ one6 i = b)) with
  | some i => ((i : Nat), true)
  | none => (0, false)

set_option maxHeartbeats 1000000 in
theorem refName6 (s : List UInt8) (hs : s.length ≤ 4611686018427387904) (w : World) : Calls Tryd.prog 22 #[.string ⟨s.toArray⟩] w fun e w' => e = .returned (.bool (name6 s)) ∧ Below w.heap.size w w' := by
  have hq := refWord6 ⟨s.toArray⟩ (by simpa [ByteArray.size] using hs) w
  have hk := refKeywords6 w
  obtain ⟨b, hb⟩ : ∃ b, b = name6 s := ⟨_, rfl⟩
  rw [← hb]
  have HB := Lib.hid hb
  clear hb
  cases hw : word6 s with
  | false =>
    have hv : Hid (b = false) := HB.out.trans (by unfold name6; rw [hw]; rfl)
    rw [show word6 (⟨s.toArray⟩ : ByteArray).data.toList = false from hw] at hq
    clear HB hw
    go_enter Tryd.func22, Tryd.ntmps22
    go_wp2_with fail
    refine hq.mono ?_
    rintro e w1 ⟨rfl, rfl⟩
    go_wp2_with fail
    go_ret
    exact ⟨by rw [hv.out]; rfl, Below.refl _ _⟩
  | true =>
    have hv : Hid (b = !kws6.contains s) := HB.out.trans (by unfold name6; rw [hw]; rfl)
    rw [show word6 (⟨s.toArray⟩ : ByteArray).data.toList = true from hw] at hq
    clear HB hw
    go_enter Tryd.func22, Tryd.ntmps22
    go_wp2_with fail
    refine hq.mono ?_
    rintro e w1 ⟨rfl, rfl⟩
    clear hq
    go_wp2_with fail
    refine hk.mono ?_
    rintro e w2 ⟨g, rfl, hr, hb2⟩
    have hh := refHas6 (c := 13) s hr (by omega)
    clear hk
    go_wp2_with fail
    refine hh.mono ?_
    rintro e w3 ⟨rfl, rfl⟩
    go_wp2_with fail
    go_ret
    exact ⟨by rw [hv.out]; simp, hb2⟩

set_option maxHeartbeats 1000000 in
theorem refNumber6 (n : Int) (w : World) : Calls Tryd.prog 90 #[.int .i64 n] w fun e w' => e = .returned (.bool (num6 n)) ∧ w' = w := by
  have hc : 0 ≤ n ∨ (¬ 0 ≤ n ∧ n = -9223372036854775808) ∨ (¬ 0 ≤ n ∧ ¬ n = -9223372036854775808) := by omega
  rcases hc with h | ⟨h, rfl⟩ | ⟨h, h2⟩
  · have hv : Hid (num6 n = true) := by show num6 n = true; unfold num6; simp [h]
    go_enter Tryd.func90, Tryd.ntmps90
    go_wp2_with fail
    go_ret
    exact ⟨by rw [hv.out]; rfl, rfl⟩
  · go_enter Tryd.func90, Tryd.ntmps90
    go_wp2_with fail
    go_ret
    exact ⟨rfl, rfl⟩
  · have hv : Hid (num6 n = false) := by show num6 n = false; unfold num6; simp [h, h2]
    have h3 : (n == -9223372036854775808) = false := by simp [h2]
    go_enter Tryd.func90, Tryd.ntmps90
    go_wp2_with fail
    go_ret
    exact ⟨by rw [hv.out]; first | rfl | simp [h2], rfl⟩

set_option maxHeartbeats 1000000 in
theorem refOne6 (n : Int) (w : World) : Calls Tryd.prog 18 #[.int .i64 n] w fun e w' => e = .returned (.bool (one6 n)) ∧ w' = w := by
  have hc : ¬ 18 ≤ n ∨ (18 ≤ n ∧ n ≤ 20) ∨ (18 ≤ n ∧ ¬ n ≤ 20) := by omega
  rcases hc with h | ⟨h, h2⟩ | ⟨h, h2⟩
  · have hv : Hid (one6 n = false) := by show one6 n = false; unfold one6; simp [h]
    go_enter Tryd.func18, Tryd.ntmps18
    go_wp2_with fail
    go_ret
    exact ⟨by rw [hv.out]; rfl, rfl⟩
  · have hv : Hid (one6 n = true) := by show one6 n = true; unfold one6; simp [h, h2]
    go_enter Tryd.func18, Tryd.ntmps18
    go_wp2_with fail
    go_ret
    exact ⟨by rw [hv.out]; first | rfl | simp [h, h2], rfl⟩
  · have hv : Hid (one6 n = false) := by show one6 n = false; unfold one6; simp [h2]
    go_enter Tryd.func18, Tryd.ntmps18
    go_wp2_with fail
    go_ret
    exact ⟨by rw [hv.out]; first | rfl | simp [h, h2], rfl⟩

set_option maxHeartbeats 1000000 in
theorem refText6 (n : Int) (w : World) : Calls Tryd.prog 14 #[.int .i64 n] w fun e w' => e = .returned (.string ⟨(txt6 n).toArray⟩) ∧ Below w.heap.size w w' := by
  have hc : n < 0 ∨ (¬ n < 0 ∧ 20 < n) ∨ (0 ≤ n ∧ n ≤ 20) := by omega
  rcases hc with h | ⟨h, h2⟩ | ⟨h, h2⟩
  · have hv : Hid (txt6 n = []) := by show txt6 n = []; unfold txt6; rw [if_neg (by omega)]
    go_enter Tryd.func14, Tryd.ntmps14
    go_wp2_with fail
    go_ret
    exact ⟨by rw [hv.out]; rfl, Below.refl _ _⟩
  · have hv : Hid (txt6 n = []) := by show txt6 n = []; unfold txt6; rw [if_neg (by omega)]
    go_enter Tryd.func14, Tryd.ntmps14
    go_wp2_with fail
    go_ret
    exact ⟨by rw [hv.out]; rfl, Below.refl _ _⟩
  · obtain ⟨k, rfl⟩ : ∃ k : Nat, n = k := ⟨n.toNat, by omega⟩
    have hk : k < 21 := by omega
    have h3 : ¬ (k : Int) < 0 := by omega
    have h4 : ¬ 20 < (k : Int) := by omega
    have hv : Hid (ops6[k]? = some (txt6 k)) := by
      show ops6[k]? = some (txt6 k)
      unfold txt6
      rw [if_pos (by omega), Int.toNat_natCast, List.getD_eq_getElem?_getD]
      have : k < ops6.length := hk
      rw [List.getElem?_eq_getElem this]
      rfl
    have hk2 := refTexts6 w
    have h5 : (k : Int) < 21 := by omega
    clear h h2
    go_enter Tryd.func14, Tryd.ntmps14
    go_wp2_with fail
    refine hk2.mono ?_
    rintro e w2 ⟨g, rfl, hr, hb2⟩
    obtain ⟨ad, t, e, ht, hc1⟩ := hr.at_ hk
    injection e with e
    subst e
    rw [hv.out] at ht
    injection ht with ht
    rw [← ht] at hc1
    have hc2 : w2.cell? ⟨g, k, none⟩ = some (.string ⟨(txt6 k).toArray⟩) := by
      rw [← hc1]; congr 1; simp [Addr.add]
    clear hr hc1 ht hk2
    go_wp2_with fail
    go_ret
    exact ⟨rfl, hb2⟩

/-- A table of numbers, in memory. -/
theorem tabZ_new (W : World) (l : List Int) (T : TypeId) {i : Nat} {z : Int} (h : l[i]? = some z) : (W.alloc (.cells (l.map fun x => Value.int .i64 x).toArray T)).cell? ⟨W.heap.size, i, none⟩ = some (.int .i64 z) := by
  rw [cell_of_row _ _ i (l.map fun x => Value.int .i64 x).toArray T (0, 0) (heap_alloc_new W _)]
  simp [h]

set_option maxHeartbeats 1000000 in
set_option maxRecDepth 100000 in
theorem refLevel6 (n : Int) (w : World) : Calls Tryd.prog 16 #[.int .i64 n] w fun e w' => e = .returned (.int .i64 (lev6 n)) ∧ Below w.heap.size w w' := by
  have hc : n < 0 ∨ (¬ n < 0 ∧ 20 < n) ∨ (0 ≤ n ∧ n ≤ 20) := by omega
  rcases hc with h | ⟨h, h2⟩ | ⟨h, h2⟩
  · have hv : Hid (lev6 n = 0) := by show lev6 n = 0; unfold lev6; rw [if_neg (by omega)]
    go_enter Tryd.func16, Tryd.ntmps16
    go_wp2_with fail
    go_ret
    exact ⟨by rw [hv.out]; rfl, Below.refl _ _⟩
  · have hv : Hid (lev6 n = 0) := by show lev6 n = 0; unfold lev6; rw [if_neg (by omega)]
    go_enter Tryd.func16, Tryd.ntmps16
    go_wp2_with fail
    go_ret
    exact ⟨by rw [hv.out]; rfl, Below.refl _ _⟩
  · obtain ⟨k, rfl⟩ : ∃ k : Nat, n = k := ⟨n.toNat, by omega⟩
    have hk : k < 21 := by omega
    have h3 : ¬ (k : Int) < 0 := by omega
    have h4 : ¬ 20 < (k : Int) := by omega
    have hv : lvl6[k]? = some (lev6 k) := by
      unfold lev6
      rw [if_pos (by omega), Int.toNat_natCast, List.getD_eq_getElem?_getD]
      have : k < lvl6.length := hk
      rw [List.getElem?_eq_getElem this]
      rfl
    have h5 : (k : Int) < 21 := by omega
    have hb := Lib.hid (bnew5 w (.cells (lvl6.map fun x => Value.int .i64 x).toArray 3))
    have hkl : k < lvl6.length := hk
    have he : Hid ((lvl6.map fun x => Value.int .i64 x)[k]'(by rw [List.length_map]; exact hkl) = .int .i64 (lev6 k)) := by
      show (lvl6.map fun x => Value.int .i64 x)[k]'(by rw [List.length_map]; exact hkl) = .int .i64 (lev6 k)
      rw [List.getElem_map]
      rw [List.getElem?_eq_getElem hkl] at hv
      injection hv with hv
      rw [hv]
    clear h h2 hv
    generalize lev6 k = z at *
    go_enter Tryd.func16, Tryd.ntmps16
    go_wp2_with fail
    go_ret
    exact ⟨congrArg Ending.returned he.out, hb.out⟩

set_option maxHeartbeats 1000000 in
theorem refOperator6 (s : List UInt8) (b : Bool) (w : World) : Calls Tryd.prog 9 #[.string ⟨s.toArray⟩, .bool b] w fun e w' => e = .returned (.tuple #[.int .i64 (op6 s b).1, .bool (op6 s b).2]) ∧ Below w.heap.size w w' := by
  obtain ⟨v, hv⟩ : ∃ v, v = op6 s b := ⟨_, rfl⟩
  rw [← hv]
  have HV := Lib.hid hv
  clear hv
  obtain ⟨ss, hss⟩ : ∃ x : ByteArray, x = ⟨s.toArray⟩ := ⟨_, rfl⟩
  rw [← hss]
  have HSS := Lib.hid hss
  clear hss
  go_enter Tryd.func9, Tryd.ntmps9
  go_wp2_with fail
  go_loopw [6] (fun v W => ∃ i : Nat, i ≤ 21 ∧ v = .int .i64 i ∧ Hid (∀ j : Nat, j < i → ¬ (txt6 j = s ∧ one6 j = b)) ∧ Hid (Below w.heap.size w W)) (fun v _ => 21 - (intOf v).toNat)
  case atStart => exact ⟨0, by omega, rfl, fun j hj => absurd hj (by omega), Below.refl _ _⟩
  case round =>
    obtain ⟨i, hi, rfl, hst, hbw⟩ := hrel
    by_cases hlt : i < 21
    · have hlt' : (i : Int) ≤ 20 := by omega
      have hq := refText6 (i : Int) wr
      have hq2 := fun w => refOne6 (i : Int) w
      have HF : Hid (txt6 i = s → one6 i = b → v = (((i : Nat) : Int), true)) := fun h1 h2 => by
        rw [HV.out]
        unfold op6
        have : (List.range 21).find? (fun i : Nat => decide (txt6 i = s ∧ one6 i = b)) = some i := by
          rw [List.find?_range_eq_some]
          refine ⟨by simpa using ⟨h1, h2⟩, by simpa using hlt, fun j hj => ?_⟩
          have := hst.out j hj
          simp only [Bool.not_eq_true', decide_eq_false_iff_not]
          exact this
        rw [this]
      have HN : Hid (¬ (txt6 i = s ∧ one6 i = b) → ∀ j : Nat, j < i + 1 → ¬ (txt6 j = s ∧ one6 j = b)) := fun h0 j hj => by
        rcases Nat.lt_or_ge j i with h | h
        · exact hst.out j h
        · obtain rfl : j = i := by omega
          exact h0
      clear hst HV
      go_wp2_with fail
      refine hq.mono ?_
      rintro e w1 ⟨rfl, hb1⟩
      clear hq
      have hbn := Lib.hid (bth5 hbw.out hb1)
      clear hb1 hbw
      by_cases h1 : txt6 i = s
      · have h1' := eq_texts6 h1
        rw [← HSS.out] at h1'
        generalize (⟨(txt6 i).toArray⟩ : ByteArray) = ts at *
        go_wp2_with fail
        refine (hq2 _).mono ?_
        rintro e w2 ⟨rfl, rfl⟩
        clear hq2
        by_cases h2 : one6 i = b
        · have hvv := HF.out h1 h2
          subst hvv
          have h2' : (one6 i == b) = true := by simp [h2]
          clear HF HN h1 h2
          generalize one6 i = q at *
          go_wp2_with fail
          go_ret2
          exact ⟨rfl, hbn.out⟩
        · have h2' : (one6 i == b) = false := by simp [h2]
          have hst2 := Lib.hid (HN.out (fun h => h2 h.2))
          clear HF HN h1 h2
          generalize one6 i = q at *
          go_wp2_with fail
          exact ⟨⟨i + 1, by omega, by go_num, hst2.out, hbn⟩, by simp [intOf]; omega⟩
      · have h1' := ne_texts6 h1
        have hst2 := Lib.hid (HN.out (fun h => h1 h.1))
        clear HF HN hq2 h1
        rw [← HSS.out] at h1'
        generalize (⟨(txt6 i).toArray⟩ : ByteArray) = ts at *
        go_wp2_with fail
        exact ⟨⟨i + 1, by omega, by go_num, hst2.out, hbn⟩, by simp [intOf]; omega⟩
    · obtain rfl : i = 21 := by omega
      have hvv : v = (0, false) := by
        rw [HV.out]
        unfold op6
        have : (List.range 21).find? (fun i : Nat => decide (txt6 i = s ∧ one6 i = b)) = none := by
          rw [List.find?_eq_none]
          intro j hj
          have := hst.out j (by simpa using hj)
          simp only [decide_eq_true_eq]
          exact this
        rw [this]
      subst hvv
      clear hst HV
      go_wp2_with fail
      go_ret2
      exact ⟨rfl, hbw.out⟩

/-- What Pick answers. -/
def pick6 (o : Int) (n : Int) : Int := ((o.tmod n + n)).tmod n
set_option maxHeartbeats 1000000 in
theorem kitPick21 (o : Int) (w : World) : Calls Tryd.prog 40 #[.int .i64 o, .int .i64 21] w fun e w' => e = .returned (.int .i64 (pick6 o 21)) ∧ w' = w := by
  have hb1 := Int.tmod_lt_of_pos o (show (0 : Int) < 21 by decide)
  have hb2 : -21 < o.tmod 21 := by have := Int.tmod_lt_of_pos (-o) (show (0 : Int) < 21 by decide); rw [Int.neg_tmod] at this; omega
  have h2 : IntKind.i64.wrap (o.tmod 21 + 21) = o.tmod 21 + 21 := wrap_small _ (by omega) (by omega)
  go_enter Tryd.func40, Tryd.ntmps40
  go_wp2_with fail
  go_ret
  exact ⟨by unfold pick6; rw [Int.tmod_eq_emod_of_nonneg (show 0 ≤ o.tmod 21 + 21 by omega)]; rfl, rfl⟩
theorem pick6_lt (o : Int) : 0 ≤ pick6 o 21 ∧ pick6 o 21 < 21 := by
  unfold pick6
  have := Int.tmod_lt_of_pos o (show (0 : Int) < 21 by decide)
  have : -21 < o.tmod 21 := by have := Int.tmod_lt_of_pos (-o) (show (0 : Int) < 21 by decide); rw [Int.neg_tmod] at this; omega
  exact ⟨Int.tmod_nonneg _ (by omega), Int.tmod_lt_of_pos _ (by decide)⟩
end Go.Proofs.YtkmioieanopafaaDoor
