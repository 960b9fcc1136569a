/- AstOperators: operators, keywords, words and names are the document's. -/
import Derived.Test.YtkmioieanopafaaDoorLawAa
import Derived.Test.YtkmioieanopafaaDoorAstU
namespace Go.Proofs.YtkmioieanopafaaDoor
open Go.RowKit

theorem szL (l : List UInt8) : (⟨l.toArray⟩ : ByteArray).size = l.length := by simp [ByteArray.size]

set_option maxHeartbeats 8000000 in
set_option maxRecDepth 100000 in
theorem operators_ast (o : Int) (l : List UInt8) (b : Bool) (w : World) (hL : LaidW w) :
    Calls Tryd.prog 3 #[.int .i64 o, .string ⟨l.toArray⟩, .bool b] w fun e w' => e = .returned (.bool true) ∧ Below w.heap.size w w' := by
  by_cases hl : l.length ≤ 60
  · have hl' : ¬ 60 < ((⟨l.toArray⟩ : ByteArray).size : Int) := by rw [szL]; omega
    have q1 := astOperator l b w hL
    have q2 := fun W => refOperator6 l b W
    have q3 := Lib.hid (fun W (h : Below w.heap.size w W) => astKeywords W (hL.step h))
    have q4 := Lib.hid (fun W => refKeywords6 W)
    have p1 := Lib.hid (fun W (h : Below w.heap.size w W) => astText o W (hL.step h))
    have p2 := Lib.hid (fun W => refText6 o W)
    have p3 := Lib.hid (fun W (h : Below w.heap.size w W) => astLevel o W (hL.step h))
    have p4 := Lib.hid (fun W => refLevel6 o W)
    have p5 := Lib.hid (fun W => astOne o W)
    have p6 := Lib.hid (fun W => refOne6 o W)
    have p7 := Lib.hid (fun W => astWord ⟨l.toArray⟩ (by rw [szL]; omega) W)
    have p8 := Lib.hid (fun W => refWord6 ⟨l.toArray⟩ (by rw [szL]; omega) W)
    have p9 := Lib.hid (fun W (h : Below w.heap.size w W) => astName l (by omega) W (hL.step h))
    have p10 := Lib.hid (fun W => refName6 l (by omega) W)
    have p11 := Lib.hid (fun W (h : Below w.heap.size w W) => works_ast W (hL.step h))
    generalize (op6 l b).1 = oo at *
    generalize (op6 l b).2 = ok at *
    have e1 : (oo == oo) = true := by simp
    have e2 : (ok == ok) = true := by simp
    generalize word6 (⟨l.toArray⟩ : ByteArray).data.toList = wd at *
    generalize name6 l = nm at *
    have e3 : (wd == wd) = true := by simp
    have e4 : (nm == nm) = true := by simp
    generalize one6 o = on at *
    have e5 : (on == on) = true := by simp
    generalize lev6 o = lv at *
    have e6 : (lv == lv) = true := by simp
    generalize (⟨(txt6 o).toArray⟩ : ByteArray) = tx at *
    have e7 : (tx.toList == tx.toList) = true := by simp
    generalize (⟨l.toArray⟩ : ByteArray) = s at *
    clear hL hl
    go_enter Tryd.func3, Tryd.ntmps3
    go_wp2_with fail
    refine q1.mono ?_
    rintro e w1 ⟨rfl, rfl⟩
    clear q1
    go_wp2_with fail
    refine (q2 _).mono ?_
    rintro e w2 ⟨rfl, hw2⟩
    have B2 := Lib.hid hw2
    clear q2 hw2
    go_wp2_with fail
    go_loopw [12] (fun v W => ∃ i : Nat, i ≤ 2 ∧ v = .int .i64 i ∧ Hid (Below w1.heap.size w1 W)) (fun v _ => 2 - (intOf v).toNat)
    case atStart => exact ⟨0, by omega, rfl, B2.out⟩
    case round =>
      obtain ⟨i, hi, rfl, hbw⟩ := hrel
      clear B2
      by_cases hlt : i < 2
      · have hlt' : (i : Int) < 2 := by omega
        go_wp2_with fail
        refine (q3.out _ hbw.out).mono ?_
        rintro e w3 ⟨g, rfl, hbx, hg, hw3⟩
        have HB := Lib.hid hbx
        have HW := Lib.hid (bth5 hbw.out hw3)
        have hgw : w1.heap.size ≤ g := Nat.le_trans hbw.out.size hg
        clear hbx hw3
        go_wp2_with fail
        refine (q4.out _).mono ?_
        rintro e w4 ⟨g2, rfl, hr2, hw4⟩
        have HB4 := Lib.hid (HB.out.step hw4)
        have HW4 := Lib.hid (bth5 HW.out hw4)
        have hrow : RowS w4 (some ⟨g, 0, none⟩) 13 kws6 := ⟨rfl, fun _ => ⟨_, rfl, by
            have := HB4.out.lt (by simp [strs, kws6])
            exact this, fun j u hu => by
            have := (HB4.out j u hu).1
            rwa [add_at, Nat.zero_add]⟩⟩
        have q5 := kitSameT (c := 13) (c' := 13) hrow hr2 (by omega)
        rw [show (kws6 == kws6) = true by simp] at q5
        clear hw4 hr2 hrow HB HW
        go_wp2_with fail
        refine q5.mono ?_
        rintro e w5 ⟨rfl, hw5⟩
        have HB5 := Lib.hid (HB4.out.step hw5)
        have HW5 := Lib.hid (bth5 HW4.out hw5)
        have c5 := (HB5.out 0 _ rfl).1
        have f5 := (HB5.out 0 _ rfl).2
        clear q5 hw5 HB4 HW4
        go_wp2_with fail
        exact ⟨⟨i + 1, by omega, by go_num, HW5.out.setCell (p := ⟨g, 0, none⟩) hgw _⟩, by simp [intOf]; omega⟩
      · obtain rfl : i = 2 := by omega
        go_wp2_with fail
        refine (p1.out _ hbw.out).mono ?_
        rintro e v1 ⟨rfl, rfl⟩
        go_wp2_with fail
        refine (p2.out _).mono ?_
        rintro e v2 ⟨rfl, h2⟩
        have B2 := Lib.hid (bth5 hbw.out h2)
        go_wp2_with fail
        refine (p3.out _ B2.out).mono ?_
        rintro e v3 ⟨rfl, rfl⟩
        go_wp2_with fail
        refine (p4.out _).mono ?_
        rintro e v4 ⟨rfl, h4⟩
        have B4 := Lib.hid (bth5 B2.out h4)
        go_wp2_with fail
        refine (p5.out _).mono ?_
        rintro e v5 ⟨rfl, rfl⟩
        go_wp2_with fail
        refine (p6.out _).mono ?_
        rintro e v6 ⟨rfl, rfl⟩
        go_wp2_with fail
        refine (p7.out _).mono ?_
        rintro e v7 ⟨rfl, h7⟩
        have B7 := Lib.hid (bth5 B4.out h7)
        go_wp2_with fail
        refine (p8.out _).mono ?_
        rintro e v8 ⟨rfl, rfl⟩
        go_wp2_with fail
        refine (p9.out _ B7.out).mono ?_
        rintro e v9 ⟨rfl, h9⟩
        have B9 := Lib.hid (bth5 B7.out h9)
        go_wp2_with fail
        refine (p10.out _).mono ?_
        rintro e v10 ⟨rfl, h10⟩
        have B10 := Lib.hid (bth5 B9.out h10)
        go_wp2_with fail
        refine (p11.out _ B10.out).mono ?_
        rintro e v11 ⟨rfl, h11⟩
        go_wp2_with fail
        go_ret
        exact ⟨rfl, bth5 B10.out h11⟩
  · have hl' : 60 < ((⟨l.toArray⟩ : ByteArray).size : Int) := by rw [szL]; omega
    have p11 := works_ast w hL
    generalize (⟨l.toArray⟩ : ByteArray) = s at *
    clear hL hl
    go_enter Tryd.func3, Tryd.ntmps3
    go_wp2_with fail
    refine p11.mono ?_
    rintro e w1 ⟨rfl, hb⟩
    go_wp2_with fail
    go_ret
    exact ⟨rfl, hb⟩
end Go.Proofs.YtkmioieanopafaaDoor
