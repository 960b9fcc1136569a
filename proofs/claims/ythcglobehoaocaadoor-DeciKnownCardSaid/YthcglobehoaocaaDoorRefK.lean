/- The contracts of the reference's Parse and ParseWhole. -/
import Derived.Test.YthcglobehoaocaaDoorRefJ
import Derived.Test.YthcglobehoaocaaDoorRefE
namespace Go.Proofs.YthcglobehoaocaaDoor
open Go.RowKit

/-- What the reference's Parse answers. -/
def RParse (s : ByteArray) (c0 : Int) (w : World) (e : Ending) (w' : World) : Prop :=
  ∃ A1 n1 c1 ei, e = .returned (.tuple #[.slice A1 n1 c1, .int .i64 ei]) ∧ ((ei = 0 ∧ Fit c0 (dval s.data.toList) ∧ Canon s.data.toList ∧ RNum w' w.heap.size A1 n1 c1 (dval s.data.toList)) ∨ (ei = 10 ∧ A1 = none ∧ n1 = 0 ∧ c1 = 0 ∧ Canon s.data.toList ∧ ¬ Fit c0 (dval s.data.toList)) ∨ (ei = 20 ∧ A1 = none ∧ n1 = 0 ∧ c1 = 0 ∧ ¬ Canon s.data.toList)) ∧ Below w.heap.size w w'

set_option maxHeartbeats 1000000 in
theorem refParse (s : ByteArray) (c0 : Int) (w : World) (hs : s.size ≤ 60) : Calls Tryd.prog 21 #[.string s, .int .i64 c0] w (RParse s c0 w) := by
  go_enter Tryd.func21, Tryd.ntmps21
  go_wp2_with fail
  refine (refNumber s w hs).mono ?_
  rintro e w1 ⟨A1, n1, c1, b, V, rfl, hbc, hn1, hnum, hV, hb1⟩
  have HC := Lib.hid hbc
  have HV := Lib.hid hV
  clear hbc hV
  cases b
  · have hno : ¬ Canon s.data.toList := fun h => by have := HC.out.2 h; cases this
    have HN := Lib.hid hno
    clear hno
    go_wp2_with fail
    go_ret2
    exact ⟨none, 0, 0, 20, rfl, .inr (.inr ⟨rfl, rfl, rfl, rfl, HN.out⟩), hb1⟩
  · have hyes := Lib.hid (HC.out.1 rfl)
    have hVe := HV.out rfl
    subst hVe
    have HF := Lib.hid (fun (hf : Fit c0 (dval s.data.toList)) => hf)
    by_cases hf : Fit c0 (dval s.data.toList)
    · have hq := refFits_yes c0 hnum (by omega) hf
      have HF := Lib.hid hf
      clear hf
      go_wp2_with fail
      refine hq.mono ?_
      rintro e w2 ⟨rfl, hb2⟩
      have hnum2 := Lib.hid (hnum.below hb2)
      clear hnum
      go_wp2_with fail
      go_ret2
      exact ⟨A1, n1, c1, 0, rfl, .inl ⟨rfl, HF.out, hyes.out, hnum2.out⟩, hb1.trans (hb2.mono hb1.size)⟩
    · have hq := refFits_no c0 hnum (by omega) hf
      have HF := Lib.hid hf
      clear hf
      go_wp2_with fail
      refine hq.mono ?_
      rintro e w2 ⟨rfl, hb2⟩
      clear hnum
      go_wp2_with fail
      go_ret2
      exact ⟨none, 0, 0, 10, rfl, .inr (.inl ⟨rfl, rfl, rfl, rfl, hyes.out, HF.out⟩), hb1.trans (hb2.mono hb1.size)⟩

/-- What the reference's ParseWhole answers. -/
def RWhole (s : ByteArray) (w : World) (e : Ending) (w' : World) : Prop :=
  ∃ v ki : Int, e = .returned (.tuple #[.int .i64 v, .int .i64 ki]) ∧ ((ki = 0 ∧ (-9223372036854775808 ≤ v ∧ v ≤ 9223372036854775807) ∧ s = ⟨(Lib.itoa v).toArray⟩) ∨ (ki = 20 ∧ v = 0 ∧ ¬ ∃ v, (-9223372036854775808 ≤ v ∧ v ≤ 9223372036854775807) ∧ s = ⟨(Lib.itoa v).toArray⟩)) ∧ Below w.heap.size w w'

theorem list_eq {a b : ByteArray} (h : a.data.toList = b.data.toList) : a = b := by
  rw [← bytesOf a, h, bytesOf]
/-- A text that a whole number has: what is read of it. -/
theorem whole_math (s t : ByteArray) (neg : Bool) (o1 o2 v : Int) (hneg : neg = true → s.data.toList = 45 :: t.data.toList) (hpos : neg = false → t = s ∧ ∀ r, s.data.toList ≠ 45 :: r)
    (h1 : IntKind.i64.wrap ((dval t.data.toList : Nat) : Int) = o1) (h2 : (if neg then IntKind.i64.wrap (-o1) else o1) = o2) (hb : -9223372036854775808 ≤ v ∧ v ≤ 9223372036854775807) (hs : s = ⟨(Lib.itoa v).toArray⟩) :
    Canon t.data.toList ∧ dval t.data.toList < LB ∧ o2 = v := by
  have hl : s.data.toList = Lib.itoa v := by rw [hs]
  by_cases hv : v < 0
  · obtain ⟨u, rfl⟩ : ∃ u : Nat, v = -(u : Int) := ⟨v.natAbs, by omega⟩
    rw [Lib.itoa_neg u (by omega)] at hl
    cases neg
    · exact absurd hl ((hpos rfl).2 _)
    · rw [hneg rfl] at hl
      injection hl with _ hl
      rw [hl, dval_dec] at h1
      rw [if_pos rfl] at h2
      rw [hl, dval_dec]
      refine ⟨dec_canon u, by unfold LB; omega, ?_⟩
      rw [← h2, ← h1, IntKind.wrap_i64, IntKind.wrap_i64]
      omega
  · obtain ⟨u, rfl⟩ : ∃ u : Nat, v = (u : Int) := ⟨v.toNat, by omega⟩
    rw [Lib.itoa_nonneg] at hl
    cases neg
    · rw [if_neg (by decide)] at h2
      rw [(hpos rfl).1, hl, dval_dec] at h1
      rw [(hpos rfl).1, hl, dval_dec]
      refine ⟨dec_canon u, by unfold LB; omega, ?_⟩
      rw [← h2, ← h1, IntKind.wrap_i64]
      omega
    · exfalso
      have h := hneg rfl
      rw [hl] at h
      obtain ⟨c, r, hcr, hc⟩ := dec_head u
      rw [hcr] at h
      injection h with h _
      rw [h] at hc
      exact absurd hc (by decide)

set_option maxHeartbeats 8000000 in
theorem refParseWhole (s : ByteArray) (w : World) (hs : s.size ≤ 60) : Calls Tryd.prog 23 #[.string s] w (RWhole s w) := by
  -- how the text begins
  have hbeg : (s = ⟨#[]⟩) ∨ (∃ (z : Int), (∀ w, (Go.Instr.index 9 (.string s) (.int .i64 0)).run Tryd.prog w = .ok (.int .u8 z) w) ∧ (s.toList == (⟨#[]⟩ : ByteArray).toList) = false ∧ (s.toList == []) = false ∧ s.toList ≠ [] ∧ (1 : Int) ≤ s.size ∧
      ((z ≠ 45 ∧ (z == 45) = false ∧ ∀ r, s.data.toList ≠ 45 :: r) ∨ (z = 45 ∧ s.data.toList = 45 :: (s.extract 1 s.size).data.toList ∧ (s.extract 1 s.size).size ≤ 60))) := by
    cases hl : s.data.toList with
    | nil => left; exact list_eq (by rw [hl])
    | cons x r =>
      right
      have hz : s.size = r.length + 1 := by rw [← size_len, hl]; simp
      have h0 : 0 < s.size := by omega
      have hne : s ≠ (⟨#[]⟩ : ByteArray) := by intro h; rw [h] at h0; exact absurd h0 (by decide)
      have hx : s[0]'h0 = x := by
        have : s.data.toList[0]'(by rw [hl]; simp) = x := by simp [hl]
        exact this
      have htl : s.toList ≠ [] := by rw [toList_data, hl]; simp
      refine ⟨((s[0]'h0).toNat : Int), ?_, str_ne hne, by simpa using htl, htl, by omega, ?_⟩
      · intro w
        rw [run_index_string w 9 s .i64 0 Tryd.underlying9, dif_pos ⟨by omega, by omega⟩]
        simp
      · rw [hx]
        by_cases hx45 : x = 45
        · subst hx45
          right
          refine ⟨rfl, ?_, ?_⟩
          · rw [extract_list, hl, hz]
            simp
          · rw [← size_len, extract_list, hl, hz]
            simp
            omega
        · left
          have hn : (x.toNat : Int) ≠ 45 := by
            intro h
            apply hx45
            apply UInt8.toNat_inj.1
            have : x.toNat = 45 := by omega
            rw [this]; rfl
          refine ⟨hn, by simpa using hn, ?_⟩
          intro r' h
          injection h with h _
          exact hx45 h
  rcases hbeg with hnil | ⟨z, hidx, hne1, hne2, hne3, hsz, ⟨hz1, hz2, hz3⟩ | ⟨hz1, hz2, hz3⟩⟩
  · have HM := Lib.hid (fun o1 o2 v h1 h2 hb hs => whole_math s s false o1 o2 v (fun h => (by cases h)) (fun _ => ⟨rfl, fun r h => by rw [hnil] at h; cases h⟩) h1 h2 hb hs)
    have HE := Lib.hid hnil
    have hne : (s.toList == (⟨#[]⟩ : ByteArray).toList) = true := by rw [hnil]; exact str_eq _
    have hne2 : s.toList = [] := by rw [hnil, toList_data]
    clear hnil
    go_enter Tryd.func23, Tryd.ntmps23
    go_wp2_with fail
    refine (refNumber (s) w (by assumption)).mono ?_
    rintro e w1 ⟨A1, n1, c1, b, V, rfl, hbc, hn1, hnum, hV, hb1⟩
    have HC := Lib.hid hbc
    have HV := Lib.hid hV
    clear hbc hV hne hne2
    go_wp2_with fail
    refine (refLimbs hnum (by omega)).mono ?_
    rintro e w2 ⟨A2, k, c2, L, rfl, hown, hLv, hLb, hk, hb2⟩
    have hbb := hb1.trans (hb2.mono hb1.size)
    have hrow := hown.row
    have HK := Lib.hid hk
    have HL := Lib.hid hLv
    clear hk hLv hown hnum hb1 hb2
    cases b
    · have hno : Hid (¬ Canon (s).data.toList) := fun h => absurd (HC.out.2 h) (by decide)
      clear hrow
      go_wp2_with fail
      go_ret2
      exact ⟨0, 20, rfl, .inr ⟨rfl, rfl, fun ⟨v, h, h'⟩ => hno.out (HM.out _ _ v rfl rfl h h').1⟩, hbb⟩
    · have hVe := HV.out rfl
      subst hVe
      by_cases hk1 : 1 < k
      · have hbig : Hid (¬ dval (s).data.toList < LB) := fun h => absurd ((HK.out 1).2 (by simpa using h)) (by omega)
        have hk2 : (1 : Int) < (k : Int) := by omega
        clear hrow
        go_wp2_with fail
        go_ret2
        exact ⟨0, 20, rfl, .inr ⟨rfl, rfl, fun ⟨v, h, h'⟩ => hbig.out (HM.out _ _ v rfl rfl h h').2.1⟩, hbb⟩
      · have hk2 : ¬ (1 : Int) < (k : Int) := by omega
        obtain ⟨o1, ho1⟩ : ∃ o1 : Int, IntKind.i64.wrap ((dval (s).data.toList : Nat) : Int) = o1 := ⟨_, rfl⟩
        have hbo : -9223372036854775808 ≤ o1 ∧ o1 ≤ 9223372036854775807 := by rw [← ho1, IntKind.wrap_i64]; omega
        have HB := Lib.hid hbo
        have hW := fun w => refWhole o1 hbo.1 hbo.2 w
        have hM2 := Lib.hid (fun v h h' => (HM.out o1 o1 v ho1 rfl h h').2.2)
        clear hbo
        obtain ⟨sW, hsW⟩ : ∃ sW : ByteArray, sW = ⟨(Lib.itoa o1).toArray⟩ := ⟨_, rfl⟩
        rw [← hsW] at hW
        have HW := Lib.hid hsW
        clear hsW
        rcases Nat.eq_zero_or_pos k with hk0 | hk0
        · subst hk0
          have hV0 : dval (s).data.toList = 0 := by
            have := (HK.out 0).1 (Nat.le_refl _)
            simpa using this
          rw [hV0] at ho1
          have ho1' : IntKind.i64.wrap 0 = o1 := ho1
          clear hrow hV0
          by_cases heq : s = sW
          · have heq2 : sW = s := heq.symm
            subst heq2
            have hse := str_eq sW
            go_wp2_with fail
            refine (hW _).mono ?_
            rintro e w3 ⟨rfl, hb3⟩
            go_wp2_with fail
            go_ret2
            exact ⟨_, 0, rfl, .inl ⟨rfl, HB.out, HW.out⟩, hbb.trans (hb3.mono hbb.size)⟩
          · have hse := str_ne (a := sW) (b := s) (fun h => heq h.symm)
            have hnot := Lib.hid heq
            clear heq
            go_wp2_with fail
            refine (hW _).mono ?_
            rintro e w3 ⟨rfl, hb3⟩
            go_wp2_with fail
            go_ret2
            exact ⟨0, 20, rfl, .inr ⟨rfl, rfl, fun ⟨v, h, h'⟩ => hnot.out (by rw [h', HW.out, hM2.out v h h'])⟩, hbb.trans (hb3.mono hbb.size)⟩
        · obtain rfl : k = 1 := by omega
          obtain ⟨ad, hA, hadb, hcell⟩ := hrow.at_ (i := 0) (by omega)
          subst hA
          have hL0 : Dig.at_ L 0 = dval (s).data.toList := by
            rw [← HL.out]
            have hl := hrow.len
            match L, hl with
            | [x], _ => simp [Dig.at_, Dig.val]
          rw [hL0] at hcell
          have hadd0 : ad.add 0 = ad := by unfold Addr.add; split <;> simp_all
          rw [hadd0] at hcell
          clear hadd0
          generalize ((dval (s).data.toList : Nat) : Int) = Vi at *
          clear hrow hL0
          by_cases heq : s = sW
          · have heq2 : sW = s := heq.symm
            subst heq2
            have hse := str_eq sW
            go_wp2_with fail
            refine (hW _).mono ?_
            rintro e w3 ⟨rfl, hb3⟩
            go_wp2_with fail
            go_ret2
            exact ⟨_, 0, rfl, .inl ⟨rfl, HB.out, HW.out⟩, hbb.trans (hb3.mono hbb.size)⟩
          · have hse := str_ne (a := sW) (b := s) (fun h => heq h.symm)
            have hnot := Lib.hid heq
            clear heq
            go_wp2_with fail
            refine (hW _).mono ?_
            rintro e w3 ⟨rfl, hb3⟩
            go_wp2_with fail
            go_ret2
            exact ⟨0, 20, rfl, .inr ⟨rfl, rfl, fun ⟨v, h, h'⟩ => hnot.out (by rw [h', HW.out, hM2.out v h h'])⟩, hbb.trans (hb3.mono hbb.size)⟩
  · have HM := Lib.hid (fun o1 o2 v h1 h2 hb hs => whole_math s s false o1 o2 v (fun h => (by cases h)) (fun _ => ⟨rfl, hz3⟩) h1 h2 hb hs)
    clear hz3
    go_enter Tryd.func23, Tryd.ntmps23
    go_wp2_with fail
    refine (refNumber (s) w (by assumption)).mono ?_
    rintro e w1 ⟨A1, n1, c1, b, V, rfl, hbc, hn1, hnum, hV, hb1⟩
    have HC := Lib.hid hbc
    have HV := Lib.hid hV
    clear hbc hV
    go_wp2_with fail
    refine (refLimbs hnum (by omega)).mono ?_
    rintro e w2 ⟨A2, k, c2, L, rfl, hown, hLv, hLb, hk, hb2⟩
    have hbb := hb1.trans (hb2.mono hb1.size)
    have hrow := hown.row
    have HK := Lib.hid hk
    have HL := Lib.hid hLv
    clear hk hLv hown hnum hb1 hb2
    cases b
    · have hno : Hid (¬ Canon (s).data.toList) := fun h => absurd (HC.out.2 h) (by decide)
      clear hrow
      go_wp2_with fail
      go_ret2
      exact ⟨0, 20, rfl, .inr ⟨rfl, rfl, fun ⟨v, h, h'⟩ => hno.out (HM.out _ _ v rfl rfl h h').1⟩, hbb⟩
    · have hVe := HV.out rfl
      subst hVe
      by_cases hk1 : 1 < k
      · have hbig : Hid (¬ dval (s).data.toList < LB) := fun h => absurd ((HK.out 1).2 (by simpa using h)) (by omega)
        have hk2 : (1 : Int) < (k : Int) := by omega
        clear hrow
        go_wp2_with fail
        go_ret2
        exact ⟨0, 20, rfl, .inr ⟨rfl, rfl, fun ⟨v, h, h'⟩ => hbig.out (HM.out _ _ v rfl rfl h h').2.1⟩, hbb⟩
      · have hk2 : ¬ (1 : Int) < (k : Int) := by omega
        obtain ⟨o1, ho1⟩ : ∃ o1 : Int, IntKind.i64.wrap ((dval (s).data.toList : Nat) : Int) = o1 := ⟨_, rfl⟩
        have hbo : -9223372036854775808 ≤ o1 ∧ o1 ≤ 9223372036854775807 := by rw [← ho1, IntKind.wrap_i64]; omega
        have HB := Lib.hid hbo
        have hW := fun w => refWhole o1 hbo.1 hbo.2 w
        have hM2 := Lib.hid (fun v h h' => (HM.out o1 o1 v ho1 rfl h h').2.2)
        clear hbo
        obtain ⟨sW, hsW⟩ : ∃ sW : ByteArray, sW = ⟨(Lib.itoa o1).toArray⟩ := ⟨_, rfl⟩
        rw [← hsW] at hW
        have HW := Lib.hid hsW
        clear hsW
        rcases Nat.eq_zero_or_pos k with hk0 | hk0
        · subst hk0
          have hV0 : dval (s).data.toList = 0 := by
            have := (HK.out 0).1 (Nat.le_refl _)
            simpa using this
          rw [hV0] at ho1
          have ho1' : IntKind.i64.wrap 0 = o1 := ho1
          clear hrow hV0
          by_cases heq : s = sW
          · have heq2 : sW = s := heq.symm
            subst heq2
            have hse := str_eq sW
            go_wp2_with fail
            refine (hW _).mono ?_
            rintro e w3 ⟨rfl, hb3⟩
            go_wp2_with fail
            go_ret2
            exact ⟨_, 0, rfl, .inl ⟨rfl, HB.out, HW.out⟩, hbb.trans (hb3.mono hbb.size)⟩
          · have hse := str_ne (a := sW) (b := s) (fun h => heq h.symm)
            have hnot := Lib.hid heq
            clear heq
            go_wp2_with fail
            refine (hW _).mono ?_
            rintro e w3 ⟨rfl, hb3⟩
            go_wp2_with fail
            go_ret2
            exact ⟨0, 20, rfl, .inr ⟨rfl, rfl, fun ⟨v, h, h'⟩ => hnot.out (by rw [h', HW.out, hM2.out v h h'])⟩, hbb.trans (hb3.mono hbb.size)⟩
        · obtain rfl : k = 1 := by omega
          obtain ⟨ad, hA, hadb, hcell⟩ := hrow.at_ (i := 0) (by omega)
          subst hA
          have hL0 : Dig.at_ L 0 = dval (s).data.toList := by
            rw [← HL.out]
            have hl := hrow.len
            match L, hl with
            | [x], _ => simp [Dig.at_, Dig.val]
          rw [hL0] at hcell
          have hadd0 : ad.add 0 = ad := by unfold Addr.add; split <;> simp_all
          rw [hadd0] at hcell
          clear hadd0
          generalize ((dval (s).data.toList : Nat) : Int) = Vi at *
          clear hrow hL0
          by_cases heq : s = sW
          · have heq2 : sW = s := heq.symm
            subst heq2
            have hse := str_eq sW
            go_wp2_with fail
            refine (hW _).mono ?_
            rintro e w3 ⟨rfl, hb3⟩
            go_wp2_with fail
            go_ret2
            exact ⟨_, 0, rfl, .inl ⟨rfl, HB.out, HW.out⟩, hbb.trans (hb3.mono hbb.size)⟩
          · have hse := str_ne (a := sW) (b := s) (fun h => heq h.symm)
            have hnot := Lib.hid heq
            clear heq
            go_wp2_with fail
            refine (hW _).mono ?_
            rintro e w3 ⟨rfl, hb3⟩
            go_wp2_with fail
            go_ret2
            exact ⟨0, 20, rfl, .inr ⟨rfl, rfl, fun ⟨v, h, h'⟩ => hnot.out (by rw [h', HW.out, hM2.out v h h'])⟩, hbb.trans (hb3.mono hbb.size)⟩
  · have HM := Lib.hid (fun o1 o2 v h1 h2 hb hs => whole_math s (s.extract 1 s.size) true o1 o2 v (fun _ => hz2) (fun h => (by cases h)) h1 h2 hb hs)
    subst hz1
    clear hz2
    go_enter Tryd.func23, Tryd.ntmps23
    go_wp2_with fail
    refine (refNumber (s.extract 1 s.size) w (by assumption)).mono ?_
    rintro e w1 ⟨A1, n1, c1, b, V, rfl, hbc, hn1, hnum, hV, hb1⟩
    have HC := Lib.hid hbc
    have HV := Lib.hid hV
    clear hbc hV
    go_wp2_with fail
    refine (refLimbs hnum (by omega)).mono ?_
    rintro e w2 ⟨A2, k, c2, L, rfl, hown, hLv, hLb, hk, hb2⟩
    have hbb := hb1.trans (hb2.mono hb1.size)
    have hrow := hown.row
    have HK := Lib.hid hk
    have HL := Lib.hid hLv
    clear hk hLv hown hnum hb1 hb2
    cases b
    · have hno : Hid (¬ Canon (s.extract 1 s.size).data.toList) := fun h => absurd (HC.out.2 h) (by decide)
      clear hrow
      go_wp2_with fail
      go_ret2
      exact ⟨0, 20, rfl, .inr ⟨rfl, rfl, fun ⟨v, h, h'⟩ => hno.out (HM.out _ _ v rfl rfl h h').1⟩, hbb⟩
    · have hVe := HV.out rfl
      subst hVe
      by_cases hk1 : 1 < k
      · have hbig : Hid (¬ dval (s.extract 1 s.size).data.toList < LB) := fun h => absurd ((HK.out 1).2 (by simpa using h)) (by omega)
        have hk2 : (1 : Int) < (k : Int) := by omega
        clear hrow
        go_wp2_with fail
        go_ret2
        exact ⟨0, 20, rfl, .inr ⟨rfl, rfl, fun ⟨v, h, h'⟩ => hbig.out (HM.out _ _ v rfl rfl h h').2.1⟩, hbb⟩
      · have hk2 : ¬ (1 : Int) < (k : Int) := by omega
        obtain ⟨o1, ho1⟩ : ∃ o1 : Int, IntKind.i64.wrap ((dval (s.extract 1 s.size).data.toList : Nat) : Int) = o1 := ⟨_, rfl⟩
        obtain ⟨o2, ho2⟩ : ∃ o2 : Int, IntKind.i64.wrap (-o1) = o2 := ⟨_, rfl⟩
        have hbo : -9223372036854775808 ≤ o2 ∧ o2 ≤ 9223372036854775807 := by rw [← ho2, IntKind.wrap_i64]; omega
        have HB := Lib.hid hbo
        have hW := fun w => refWhole o2 hbo.1 hbo.2 w
        have hM2 := Lib.hid (fun v h h' => (HM.out o1 o2 v ho1 ho2 h h').2.2)
        clear hbo
        obtain ⟨sW, hsW⟩ : ∃ sW : ByteArray, sW = ⟨(Lib.itoa o2).toArray⟩ := ⟨_, rfl⟩
        rw [← hsW] at hW
        have HW := Lib.hid hsW
        clear hsW
        rcases Nat.eq_zero_or_pos k with hk0 | hk0
        · subst hk0
          have hV0 : dval (s.extract 1 s.size).data.toList = 0 := by
            have := (HK.out 0).1 (Nat.le_refl _)
            simpa using this
          rw [hV0] at ho1
          have ho1' : IntKind.i64.wrap 0 = o1 := ho1
          clear hrow hV0
          by_cases heq : s = sW
          · have heq2 : sW = s := heq.symm
            subst heq2
            have hse := str_eq sW
            go_wp2_with fail
            refine (hW _).mono ?_
            rintro e w3 ⟨rfl, hb3⟩
            go_wp2_with fail
            go_ret2
            exact ⟨_, 0, rfl, .inl ⟨rfl, HB.out, HW.out⟩, hbb.trans (hb3.mono hbb.size)⟩
          · have hse := str_ne (a := sW) (b := s) (fun h => heq h.symm)
            have hnot := Lib.hid heq
            clear heq
            go_wp2_with fail
            refine (hW _).mono ?_
            rintro e w3 ⟨rfl, hb3⟩
            go_wp2_with fail
            go_ret2
            exact ⟨0, 20, rfl, .inr ⟨rfl, rfl, fun ⟨v, h, h'⟩ => hnot.out (by rw [h', HW.out, hM2.out v h h'])⟩, hbb.trans (hb3.mono hbb.size)⟩
        · obtain rfl : k = 1 := by omega
          obtain ⟨ad, hA, hadb, hcell⟩ := hrow.at_ (i := 0) (by omega)
          subst hA
          have hL0 : Dig.at_ L 0 = dval (s.extract 1 s.size).data.toList := by
            rw [← HL.out]
            have hl := hrow.len
            match L, hl with
            | [x], _ => simp [Dig.at_, Dig.val]
          rw [hL0] at hcell
          have hadd0 : ad.add 0 = ad := by unfold Addr.add; split <;> simp_all
          rw [hadd0] at hcell
          clear hadd0
          generalize ((dval (s.extract 1 s.size).data.toList : Nat) : Int) = Vi at *
          clear hrow hL0
          by_cases heq : s = sW
          · have heq2 : sW = s := heq.symm
            subst heq2
            have hse := str_eq sW
            go_wp2_with fail
            refine (hW _).mono ?_
            rintro e w3 ⟨rfl, hb3⟩
            go_wp2_with fail
            go_ret2
            exact ⟨_, 0, rfl, .inl ⟨rfl, HB.out, HW.out⟩, hbb.trans (hb3.mono hbb.size)⟩
          · have hse := str_ne (a := sW) (b := s) (fun h => heq h.symm)
            have hnot := Lib.hid heq
            clear heq
            go_wp2_with fail
            refine (hW _).mono ?_
            rintro e w3 ⟨rfl, hb3⟩
            go_wp2_with fail
            go_ret2
            exact ⟨0, 20, rfl, .inr ⟨rfl, rfl, fun ⟨v, h, h'⟩ => hnot.out (by rw [h', HW.out, hM2.out v h h'])⟩, hbb.trans (hb3.mono hbb.size)⟩
end Go.Proofs.YthcglobehoaocaaDoor
