/- The contracts of the reference's Text, FaultText, cut, Read, ReadFault of layer 4. The contracts of the reference's FaultText and ReadFault of layer 4. Rows of faults; the laws' fault; the reference's First. -/
import Derived.Test.YtijliimiojjjdaaDoorGPosI
import Derived.Test.YtijliimiojjjdaaDoorGRefI
import Derived.Deep.RegionHeld3
namespace Go.Proofs.YtijliimiojjjdaaDoor
section
open Go.RowKit

theorem itoa_size {l : Int} (h : in64 l) : (txt (Lib.itoa l)).size ≤ 21 := by rw [txt_size]; exact Lib.itoa_length_le l h.1 h.2
theorem txt_app (a b : List UInt8) : txt a ++ txt b = txt (a ++ b) := by
  apply ByteArray.ext
  simp [txt]
theorem posText_txt (l c : Int) : (txt (Lib.itoa l) ++ ⟨#[58]⟩) ++ txt (Lib.itoa c) = txt (posText l c) := by
  rw [show (⟨#[58]⟩ : ByteArray) = txt [58] from rfl, txt_app, txt_app]
  unfold posText
  congr 1
  simp
theorem faultText_txt (l c n : Int) : (txt (posText l c) ++ ⟨#[32]⟩) ++ txt (Lib.itoa n) = txt (faultText l c n) := by
  rw [show (⟨#[32]⟩ : ByteArray) = txt [32] from rfl, txt_app, txt_app]
  unfold faultText
  congr 1
  simp

set_option maxHeartbeats 1000000 in
theorem refPosText (l c : Int) (hl : in64 l) (hc : in64 c) (w : World) :
    Calls Tryd.prog 28 #[.agg #[.int .i64 l, .int .i64 c]] w fun e w' => e = .returned (.string (txt (posText l c))) ∧ Below w.heap.size w w' := by
  have hp := PB.new w l c 27
  have hb0 := (Below.refl w.heap.size w).alloc (Nat.le_refl _) (.cells #[.int .i64 l, .int .i64 c] 27)
  have q1 : ∀ w, Calls Tryd.prog 33 #[.int .i64 l] w fun e w' => e = .returned (.string (txt (Lib.itoa l))) ∧ Below w.heap.size w w' := fun w => refWhole l hl.1 hl.2 w
  have q2 : ∀ w, Calls Tryd.prog 33 #[.int .i64 c] w fun e w' => e = .returned (.string (txt (Lib.itoa c))) ∧ Below w.heap.size w w' := fun w => refWhole c hc.1 hc.2 w
  have z1 := itoa_size hl
  have z2 := itoa_size hc
  have HT := Lib.hid (posText_txt l c)
  generalize txt (posText l c) = T at *
  generalize txt (Lib.itoa l) = a at *
  generalize txt (Lib.itoa c) = b at *
  go_enter Tryd.func28, Tryd.ntmps28
  go_wp2_with fail
  generalize w.alloc (.cells #[.int .i64 l, .int .i64 c] 27) = W at *
  have hp0 := Lib.hid (hp.step (Below.refl W.heap.size W).drew)
  have hbd := hb0.drew
  have s0 := And.intro hp0.out.c0 hp0.out.c1
  have hlt := hp.lt
  clear hb0 hp
  have f1 : (9223372036854775807 < a.size + 1) = False := by simp; omega
  have f2 : (9223372036854775806 < a.size) = False := by simp; omega
  have f3 : (9223372036854775807 < a.size + 1 + b.size) = False := by simp; omega
  go_region_held3 (fun w' => w'.cell? ⟨w.heap.size, 0, none⟩ = some (.int .i64 l) ∧ w'.cell? ⟨w.heap.size, 1, none⟩ = some (.int .i64 c)) (first | exact s0 | exact s1 | exact s2)
    (first
      | (go_at_call 33
         with_reducible refine (q1 W.drew).mono ?_
         rintro e w2 ⟨rfl, hb2⟩
         have hp2 := Lib.hid (hp0.out.step hb2)
         have s1 := And.intro hp2.out.c0 hp2.out.c1
         have hbw2 := hbd.trans (hb2.mono (Nat.le_of_lt hlt)))
      | (go_at_call 33
         with_reducible refine (q2 w2).mono ?_
         rintro e w3 ⟨rfl, hb3⟩
         have hp3 := Lib.hid (hp2.out.step hb3)
         have s2 := And.intro hp3.out.c0 hp3.out.c1
         have hbw3 := hbw2.trans (hb3.mono hbw2.size)))
  all_goals
    (go_wp2_with fail
     go_ret
     exact ⟨by rw [← HT.out]; rfl, hbw3⟩)

/-- How cut ends. -/
def CutEnd (L : List UInt8) (x : UInt8) (e : Ending) : Prop :=
  (∃ a b, L = a ++ x :: b ∧ (∀ d ∈ a, d ≠ x) ∧ e = .returned (.tuple #[.string (txt a), .string (txt b), .bool true])) ∨
  ((∀ d ∈ L, d ≠ x) ∧ e = .returned (.tuple #[.string ⟨#[]⟩, .string ⟨#[]⟩, .bool false]))

set_option maxHeartbeats 1000000 in
theorem refCut (s : ByteArray) (x : UInt8) (hs : s.size ≤ 1000) (w : World) :
    Calls Tryd.prog 35 #[.string s, .int .u8 (x.toNat : Nat)] w fun e w' => CutEnd s.data.toList x e ∧ Below w.heap.size w w' := by
  obtain ⟨y, hy⟩ : ∃ y : Int, y = (x.toNat : Nat) := ⟨_, rfl⟩
  rw [← hy]
  have HY := Lib.hid hy
  clear hy
  go_enter Tryd.func35, Tryd.ntmps35
  go_wp2_with fail
  go_loopw [7] (fun v W => ∃ i : Nat, i ≤ s.size ∧ v = .int .i64 i ∧ Hid (∀ d ∈ s.data.toList.take i, d ≠ x) ∧ Below w.heap.size w W) (fun v _ => s.size - (intOf v).toNat)
  case atStart => exact ⟨0, by omega, rfl, fun d hd => by simp at hd, Below.refl _ _⟩
  case round =>
    obtain ⟨i, hi, rfl, hno, hb⟩ := hrel
    by_cases hlt : i < s.size
    · obtain ⟨z, hz0, hz1, hidx, _, hget⟩ := byte_at s i hlt
      have hlt' : (i : Int) < s.size := by omega
      have hi1 : (i : Int) + 1 ≤ s.size := by omega
      have hi2 : i ≤ 1000 := by omega
      by_cases heq : z = y
      · have hx : s.data.toList[i]? = some x := by
          rw [hget, heq, HY.out]
          simp
        have HX := Lib.hid hx
        have e1 := Lib.hid (extract_span s 0 i)
        have e2 := Lib.hid (extract_span s (i + 1) s.size)
        subst heq
        clear hget hx
        have hcut : s.data.toList = span s.data.toList 0 i ++ x :: span s.data.toList (i + 1) s.size := by
          have h1 : s.data.toList.drop i = x :: s.data.toList.drop (i + 1) := by
            rw [List.drop_eq_getElem_cons (by rw [size_len_]; exact hlt)]
            have := HX.out
            rw [List.getElem?_eq_getElem (by rw [size_len_]; exact hlt)] at this
            injection this with this
            rw [this]
          unfold span
          have hfull : s.data.toList.take s.size = s.data.toList := List.take_of_length_le (by rw [size_len_]; exact Nat.le_refl _)
          rw [List.drop_zero, hfull, ← h1, List.take_append_drop]
        have HC := Lib.hid hcut
        clear hcut
        have hiu : IntKind.i64.wrap ((i : Int) + 1) = (i : Int) + 1 := IntWalk.i64_in _ (by omega)
        go_wp2_with fail
        go_region_with (fail)
        all_goals
          (go_wp2_with fail
           refine bodyPost_ret (v := .tuple #[.string (txt (span s.data.toList 0 i)), .string (txt (span s.data.toList (i + 1) s.size)), .bool true]) (by simp [results, Tryd.results35, go_sem]; exact ⟨e1.out, e2.out⟩) rfl ?_
           refine ⟨.inl ⟨_, _, HC.out, ?_, rfl⟩, by first | exact hb | exact hb.drew⟩
           unfold span
           rw [List.drop_zero]
           exact hno.out)
      · have hno' : Hid (∀ d ∈ s.data.toList.take (i + 1), d ≠ x) := by
          intro d hd
          rw [List.take_add_one, hget, List.mem_append] at hd
          rcases hd with hd | hd
          · exact hno.out d hd
          · simp at hd
            rintro rfl
            apply heq
            rw [HY.out, hd]
            simp
            omega
        clear hget hno
        go_wp2_with fail
        refine ⟨⟨i + 1, by omega, by go_num, hno', hb⟩, by simp [intOf]; omega⟩
    · obtain rfl : i = s.size := by omega
      have hlt' : ¬ (s.size : Int) < s.size := by omega
      go_wp2_with fail
      refine bodyPost_ret (v := .tuple #[.string ⟨#[]⟩, .string ⟨#[]⟩, .bool false]) (by simp [results, Tryd.results35, go_sem]) rfl ?_
      refine ⟨.inr ⟨fun d hd => hno.out d ?_, rfl⟩, hb⟩
      rw [List.take_of_length_le (by rw [size_len_]; exact Nat.le_refl _)]
      exact hd

/-- A whole number's text, or none's. -/
theorem rwhole_cases {s : ByteArray} {w w' : World} {e : Ending} (h : RWhole s w e w') : (∃ v, in64 v ∧ s.data.toList = Lib.itoa v ∧ e = .returned (.tuple #[.int .i64 v, .int .i64 0]) ∧ Below w.heap.size w w') ∨
    ((∀ v, in64 v → s.data.toList ≠ Lib.itoa v) ∧ e = .returned (.tuple #[.int .i64 0, .int .i64 20]) ∧ Below w.heap.size w w') := by
  obtain ⟨v, ki, he, hc, hb⟩ := h
  rcases hc with ⟨rfl, hv, hs⟩ | ⟨rfl, rfl, hn⟩
  · exact .inl ⟨v, hv, by rw [hs], he, hb⟩
  · refine .inr ⟨fun v hv hs => hn ⟨v, hv, ?_⟩, he, hb⟩
    apply ByteArray.ext
    apply Array.ext'
    exact hs
theorem readV_cut {L a b : List UInt8} (h : L = a ++ 58 :: b) (ha : ∀ d ∈ a, d ≠ 58) (hn : (∀ v, in64 v → a ≠ Lib.itoa v) ∨ (∀ v, in64 v → b ≠ Lib.itoa v)) : readV L = (0, 0, false) := by
  refine readV_no fun l c hl hc e => ?_
  rw [h] at e
  obtain ⟨e1, e2⟩ := cut_uniq ha (fun d hd => (itoa_byte l d hd).1) e
  rcases hn with hn | hn
  · exact hn l hl e1
  · exact hn c hc e2
theorem readV_none {L : List UInt8} (h : ∀ d ∈ L, d ≠ 58) : readV L = (0, 0, false) := by
  refine readV_no fun l c _ _ e => h 58 ?_ rfl
  rw [e]
  unfold posText
  simp

set_option maxHeartbeats 1000000 in
theorem refRead (s : ByteArray) (hs : s.size ≤ 60) (w : World) : Calls Tryd.prog 22 #[.string s] w fun e w' =>
    e = .returned (.tuple #[.agg #[.int .i64 (readV s.data.toList).1, .int .i64 (readV s.data.toList).2.1], .bool (readV s.data.toList).2.2]) ∧ Below w.heap.size w w' := by
  have hb0 := (Below.refl w.heap.size w).alloc (Nat.le_refl _) (.cells #[.int .i64 0, .int .i64 0] 27)
  have hp0 := PB.new w 0 0 27
  go_enter Tryd.func22, Tryd.ntmps22
  go_wp2_with fail
  have qc := fun w => refCut s 58 (by omega) w
  rw [show (((58 : UInt8).toNat : Nat) : Int) = 58 from rfl] at qc
  refine (qc _).mono ?_
  rintro e w1 ⟨hce, hb1⟩
  have hp1 := hp0.step hb1
  have hlt := hp1.lt
  have hbw := hb0.trans (hb1.mono (by simp))
  clear hb0 hp0 hb1 qc
  rcases hce with ⟨a, b, hL, ha, rfl⟩ | ⟨hno, rfl⟩
  · have hab : a.length ≤ 60 ∧ b.length ≤ 60 := by
      have := congrArg List.length hL
      rw [size_len_] at this
      simp at this
      omega
    have HL := Lib.hid hL
    have HA := Lib.hid ha
    clear hL ha
    go_wp2_with fail
    refine (refParseWhole (txt a) w1 (by rw [txt_size]; omega)).mono ?_
    intro e w2 hr
    rcases rwhole_cases hr with ⟨v1, hv1, ht1, rfl, hb2⟩ | ⟨hn1, rfl, hb2⟩
    · rw [txt_list] at ht1
      have T1 := Lib.hid ht1
      clear ht1 hr
      go_wp2_with fail
      refine (refParseWhole (txt b) w2 (by rw [txt_size]; omega)).mono ?_
      intro e w3 hr3
      rcases rwhole_cases hr3 with ⟨v2, hv2, ht2, rfl, hb3⟩ | ⟨hn2, rfl, hb3⟩
      · rw [txt_list] at ht2
        have T2 := Lib.hid ht2
        clear ht2 hr3
        have hp3 := (hp1.step hb2).step hb3
        have f0 := hp3.f0
        have f1 := hp3.f1
        have c0 := hp3.c0
        have c1 := hp3.c1
        have hV := Lib.hid (readV_yes hv1 hv2)
        have hbf := (hbw.trans (hb2.mono (Nat.le_of_lt hlt))).trans (hb3.mono (Nat.le_of_lt (Nat.lt_of_lt_of_le hlt hb2.size)))
        have hLp : s.data.toList = posText v1 v2 := by rw [HL.out, T1.out, T2.out]; rfl
        have HLP := Lib.hid hLp
        clear hLp hb2 hb3 hp1
        go_wp2_with fail
        have hfin := hp3.both v1 v2
        have e0 := hfin.c0
        have e1 := hfin.c1
        refine bodyPost_ret (v := .tuple #[.agg #[.int .i64 v1, .int .i64 v2], .bool true]) (by simp [results, Tryd.results22, go_sem, c0, c1]) rfl ?_
        rw [HLP.out, hV.out]
        exact ⟨rfl, (hbf.setCell (Nat.le_refl _) _).setCell (Nat.le_refl _) _⟩
      · rw [txt_list] at hn2
        have N2 := Lib.hid hn2
        clear hn2 hr3
        have hp3 := (hp1.step hb2).step hb3
        have f0 := hp3.f0
        have f1 := hp3.f1
        have c0 := hp3.c0
        have c1 := hp3.c1
        have hV : Hid (readV s.data.toList = (0, 0, false)) := readV_cut HL.out HA.out (.inr N2.out)
        have hbf := (hbw.trans (hb2.mono (Nat.le_of_lt hlt))).trans (hb3.mono (Nat.le_of_lt (Nat.lt_of_lt_of_le hlt hb2.size)))
        clear hb2 hb3 hp1
        go_wp2_with fail
        refine bodyPost_ret (v := .tuple #[.agg #[.int .i64 0, .int .i64 0], .bool false]) (by simp [results, Tryd.results22, go_sem, c0, c1]) rfl ?_
        rw [hV.out]
        exact ⟨rfl, by first | exact (hbf.setCell (Nat.le_refl _) _).setCell (Nat.le_refl _) _ | exact hbf⟩
    · rw [txt_list] at hn1
      have N1 := Lib.hid hn1
      clear hn1 hr
      go_wp2_with fail
      refine (refParseWhole (txt b) w2 (by rw [txt_size]; omega)).mono ?_
      intro e w3 hr3
      rcases rwhole_cases hr3 with ⟨v2, hv2, ht2, rfl, hb3⟩ | ⟨hn2, rfl, hb3⟩
      · rw [txt_list] at ht2
        have T2 := Lib.hid ht2
        clear ht2 hr3
        have hp3 := (hp1.step hb2).step hb3
        have f0 := hp3.f0
        have f1 := hp3.f1
        have c0 := hp3.c0
        have c1 := hp3.c1
        have hV : Hid (readV s.data.toList = (0, 0, false)) := readV_cut HL.out HA.out (.inl N1.out)
        have hbf := (hbw.trans (hb2.mono (Nat.le_of_lt hlt))).trans (hb3.mono (Nat.le_of_lt (Nat.lt_of_lt_of_le hlt hb2.size)))
        clear hb2 hb3 hp1
        go_wp2_with fail
        refine bodyPost_ret (v := .tuple #[.agg #[.int .i64 0, .int .i64 0], .bool false]) (by simp [results, Tryd.results22, go_sem, c0, c1]) rfl ?_
        rw [hV.out]
        exact ⟨rfl, by first | exact (hbf.setCell (Nat.le_refl _) _).setCell (Nat.le_refl _) _ | exact hbf⟩
      · rw [txt_list] at hn2
        have N2 := Lib.hid hn2
        clear hn2 hr3
        have hp3 := (hp1.step hb2).step hb3
        have f0 := hp3.f0
        have f1 := hp3.f1
        have c0 := hp3.c0
        have c1 := hp3.c1
        have hV : Hid (readV s.data.toList = (0, 0, false)) := readV_cut HL.out HA.out (.inr N2.out)
        have hbf := (hbw.trans (hb2.mono (Nat.le_of_lt hlt))).trans (hb3.mono (Nat.le_of_lt (Nat.lt_of_lt_of_le hlt hb2.size)))
        clear hb2 hb3 hp1
        go_wp2_with fail
        refine bodyPost_ret (v := .tuple #[.agg #[.int .i64 0, .int .i64 0], .bool false]) (by simp [results, Tryd.results22, go_sem, c0, c1]) rfl ?_
        rw [hV.out]
        exact ⟨rfl, by first | exact (hbf.setCell (Nat.le_refl _) _).setCell (Nat.le_refl _) _ | exact hbf⟩
  · have HN := Lib.hid hno
    clear hno
    go_wp2_with fail
    refine (refParseWhole ⟨#[]⟩ w1 (by decide)).mono ?_
    intro e w2 hr
    rcases rwhole_cases hr with ⟨v1, hv1, ht1, rfl, hb2⟩ | ⟨hn1, rfl, hb2⟩
    · clear ht1 hr
      go_wp2_with fail
      refine (refParseWhole ⟨#[]⟩ w2 (by decide)).mono ?_
      intro e w3 hr3
      rcases rwhole_cases hr3 with ⟨v2, hv2, ht2, rfl, hb3⟩ | ⟨hn2, rfl, hb3⟩
      · clear ht2 hr3
        have hp3 := (hp1.step hb2).step hb3
        have f0 := hp3.f0
        have f1 := hp3.f1
        have c0 := hp3.c0
        have c1 := hp3.c1
        have hV : Hid (readV s.data.toList = (0, 0, false)) := readV_none HN.out
        have hbf := (hbw.trans (hb2.mono (Nat.le_of_lt hlt))).trans (hb3.mono (Nat.le_of_lt (Nat.lt_of_lt_of_le hlt hb2.size)))
        clear hb2 hb3 hp1
        go_wp2_with fail
        refine bodyPost_ret (v := .tuple #[.agg #[.int .i64 0, .int .i64 0], .bool false]) (by simp [results, Tryd.results22, go_sem, c0, c1]) rfl ?_
        rw [hV.out]
        exact ⟨rfl, by first | exact (hbf.setCell (Nat.le_refl _) _).setCell (Nat.le_refl _) _ | exact hbf⟩
      · clear hn2 hr3
        have hp3 := (hp1.step hb2).step hb3
        have f0 := hp3.f0
        have f1 := hp3.f1
        have c0 := hp3.c0
        have c1 := hp3.c1
        have hV : Hid (readV s.data.toList = (0, 0, false)) := readV_none HN.out
        have hbf := (hbw.trans (hb2.mono (Nat.le_of_lt hlt))).trans (hb3.mono (Nat.le_of_lt (Nat.lt_of_lt_of_le hlt hb2.size)))
        clear hb2 hb3 hp1
        go_wp2_with fail
        refine bodyPost_ret (v := .tuple #[.agg #[.int .i64 0, .int .i64 0], .bool false]) (by simp [results, Tryd.results22, go_sem, c0, c1]) rfl ?_
        rw [hV.out]
        exact ⟨rfl, by first | exact (hbf.setCell (Nat.le_refl _) _).setCell (Nat.le_refl _) _ | exact hbf⟩
    · clear hn1 hr
      go_wp2_with fail
      refine (refParseWhole ⟨#[]⟩ w2 (by decide)).mono ?_
      intro e w3 hr3
      rcases rwhole_cases hr3 with ⟨v2, hv2, ht2, rfl, hb3⟩ | ⟨hn2, rfl, hb3⟩
      · clear ht2 hr3
        have hp3 := (hp1.step hb2).step hb3
        have f0 := hp3.f0
        have f1 := hp3.f1
        have c0 := hp3.c0
        have c1 := hp3.c1
        have hV : Hid (readV s.data.toList = (0, 0, false)) := readV_none HN.out
        have hbf := (hbw.trans (hb2.mono (Nat.le_of_lt hlt))).trans (hb3.mono (Nat.le_of_lt (Nat.lt_of_lt_of_le hlt hb2.size)))
        clear hb2 hb3 hp1
        go_wp2_with fail
        refine bodyPost_ret (v := .tuple #[.agg #[.int .i64 0, .int .i64 0], .bool false]) (by simp [results, Tryd.results22, go_sem, c0, c1]) rfl ?_
        rw [hV.out]
        exact ⟨rfl, by first | exact (hbf.setCell (Nat.le_refl _) _).setCell (Nat.le_refl _) _ | exact hbf⟩
      · clear hn2 hr3
        have hp3 := (hp1.step hb2).step hb3
        have f0 := hp3.f0
        have f1 := hp3.f1
        have c0 := hp3.c0
        have c1 := hp3.c1
        have hV : Hid (readV s.data.toList = (0, 0, false)) := readV_none HN.out
        have hbf := (hbw.trans (hb2.mono (Nat.le_of_lt hlt))).trans (hb3.mono (Nat.le_of_lt (Nat.lt_of_lt_of_le hlt hb2.size)))
        clear hb2 hb3 hp1
        go_wp2_with fail
        refine bodyPost_ret (v := .tuple #[.agg #[.int .i64 0, .int .i64 0], .bool false]) (by simp [results, Tryd.results22, go_sem, c0, c1]) rfl ?_
        rw [hV.out]
        exact ⟨rfl, by first | exact (hbf.setCell (Nat.le_refl _) _).setCell (Nat.le_refl _) _ | exact hbf⟩
end

section
open Go.RowKit

theorem below_new_v (W : World) (o : Obj) : Below W.heap.size W (W.alloc o) := (Below.refl _ _).alloc (Nat.le_refl _) o
/-- A fault in a box, that may be written. -/
structure FB3 (W : World) (g : Nat) (l c n : Int) : Prop where
  c0 : W.cell? ⟨g, 0, none⟩ = some (.int .i64 l)
  c1 : W.cell? ⟨g, 1, none⟩ = some (.int .i64 c)
  c2 : W.cell? ⟨g, 2, none⟩ = some (.int .i64 n)
  f0 : W.frozen? ⟨g, 0, none⟩ = false
  f1 : W.frozen? ⟨g, 1, none⟩ = false
  f2 : W.frozen? ⟨g, 2, none⟩ = false
section
variable {W W' : World} {g : Nat} {l c n : Int}
theorem FB3.step (h : FB3 W g l c n) (hb : Below W.heap.size W W') : FB3 W' g l c n :=
  ⟨(bcell1 hb h.c0 h.f0).1, (bcell1 hb h.c1 h.f1).1, (bcell1 hb h.c2 h.f2).1, (bcell1 hb h.c0 h.f0).2, (bcell1 hb h.c1 h.f1).2, (bcell1 hb h.c2 h.f2).2⟩
theorem FB3.new (W : World) (l c n : Int) (T : TypeId) : FB3 (W.alloc (.cells #[.int .i64 l, .int .i64 c, .int .i64 n] T)) W.heap.size l c n := ⟨by simp [go_sem], by simp [go_sem], by simp [go_sem], by simp [go_sem], by simp [go_sem], by simp [go_sem]⟩
theorem FB3.lt (h : FB3 W g l c n) : g < W.heap.size := World.block_lt_of_cell? W ⟨g, 0, none⟩ h.c0
theorem FB3.all (h : FB3 W g l c n) (x y z : Int) : FB3 (((W.setCell ⟨g, 0, none⟩ (.int .i64 x)).setCell ⟨g, 1, none⟩ (.int .i64 y)).setCell ⟨g, 2, none⟩ (.int .i64 z)) g x y z := by
  have o := fun (W : World) (i j : Nat) (u : Value) (hij : i ≠ j) => World.cell?_setCell_other W ⟨g, i, none⟩ ⟨g, j, none⟩ u (fun e => by injection e; omega)
  have h1 := World.cell?_setCell_same W ⟨g, 0, none⟩ (.int .i64 x) h.c0
  have h2 := World.cell?_setCell_same (W.setCell ⟨g, 0, none⟩ (.int .i64 x)) ⟨g, 1, none⟩ (.int .i64 y) ((o W 0 1 _ (by omega)).trans h.c1)
  have h3 := World.cell?_setCell_same ((W.setCell ⟨g, 0, none⟩ (.int .i64 x)).setCell ⟨g, 1, none⟩ (.int .i64 y)) ⟨g, 2, none⟩ (.int .i64 z) ((o _ 1 2 _ (by omega)).trans ((o W 0 2 _ (by omega)).trans h.c2))
  exact ⟨(o _ 2 0 _ (by omega)).trans ((o _ 1 0 _ (by omega)).trans h1), (o _ 2 1 _ (by omega)).trans h2, h3, by simpa using h.f0, by simpa using h.f1, by simpa using h.f2⟩
end

set_option maxHeartbeats 1000000 in
theorem refFaultText (l c n : Int) (hl : in64 l) (hc : in64 c) (hn : in64 n) (w : World) :
    Calls Tryd.prog 18 #[.agg #[.int .i64 l, .int .i64 c, .int .i64 n]] w fun e w' => e = .returned (.string (txt (faultText l c n))) ∧ Below w.heap.size w w' := by
  have hp := FB3.new w l c n 42
  have hb0 := below_new_v w (.cells #[.int .i64 l, .int .i64 c, .int .i64 n] 42)
  have q1 := fun w => refPosText l c hl hc w
  have q2 : ∀ w, Calls Tryd.prog 33 #[.int .i64 n] w fun e w' => e = .returned (.string (txt (Lib.itoa n))) ∧ Below w.heap.size w w' := fun w => refWhole n hn.1 hn.2 w
  have z1 : (txt (posText l c)).size ≤ 43 := by rw [txt_size]; exact posText_len hl hc
  have z2 := itoa_size hn
  have HT := Lib.hid (faultText_txt l c n)
  generalize txt (faultText l c n) = T at *
  generalize txt (posText l c) = a at *
  generalize txt (Lib.itoa n) = b at *
  go_enter Tryd.func18, Tryd.ntmps18
  go_wp2_with fail
  generalize w.alloc (.cells #[.int .i64 l, .int .i64 c, .int .i64 n] 42) = W at *
  have hp0 := Lib.hid (hp.step (Below.refl W.heap.size W).drew)
  have hbd := hb0.drew
  have s0 := And.intro hp0.out.c0 (And.intro hp0.out.c1 hp0.out.c2)
  have hlt := hp.lt
  clear hb0 hp
  have f1 : (9223372036854775807 < a.size + 1) = False := by simp; omega
  have f2 : (9223372036854775806 < a.size) = False := by simp; omega
  have f3 : (9223372036854775807 < a.size + 1 + b.size) = False := by simp; omega
  go_region_held3 (fun w' => w'.cell? ⟨w.heap.size, 0, none⟩ = some (.int .i64 l) ∧ w'.cell? ⟨w.heap.size, 1, none⟩ = some (.int .i64 c) ∧ w'.cell? ⟨w.heap.size, 2, none⟩ = some (.int .i64 n)) (first | exact s0 | exact s1 | exact s2)
    (first
      | (go_at_call 28
         with_reducible refine (q1 W.drew).mono ?_
         rintro e w2 ⟨rfl, hb2⟩
         have hp2 := Lib.hid (hp0.out.step hb2)
         have s1 := And.intro hp2.out.c0 (And.intro hp2.out.c1 hp2.out.c2)
         have hbw2 := hbd.trans (hb2.mono (Nat.le_of_lt hlt)))
      | (go_at_call 33
         with_reducible refine (q2 w2).mono ?_
         rintro e w3 ⟨rfl, hb3⟩
         have hp3 := Lib.hid (hp2.out.step hb3)
         have s2 := And.intro hp3.out.c0 (And.intro hp3.out.c1 hp3.out.c2)
         have hbw3 := hbw2.trans (hb3.mono hbw2.size)))
  all_goals
    (go_wp2_with fail
     go_ret
     exact ⟨by rw [← HT.out]; rfl, hbw3⟩)

theorem readV_cases (L : List UInt8) : (∃ l c, in64 l ∧ in64 c ∧ L = posText l c ∧ readV L = (l, c, true)) ∨ ((∀ l c, in64 l → in64 c → L ≠ posText l c) ∧ readV L = (0, 0, false)) := by
  by_cases h : ∃ l c, in64 l ∧ in64 c ∧ L = posText l c
  · obtain ⟨l, c, h1, h2, rfl⟩ := h
    exact .inl ⟨l, c, h1, h2, rfl, readV_yes h1 h2⟩
  · have h' : ∀ l c, in64 l → in64 c → L ≠ posText l c := fun l c h1 h2 e => h ⟨l, c, h1, h2, e⟩
    exact .inr ⟨h', readV_no h'⟩
theorem readF_cut {L a b : List UInt8} (h : L = a ++ 32 :: b) (ha : ∀ d ∈ a, d ≠ 32) (hn : (∀ l c, in64 l → in64 c → a ≠ posText l c) ∨ (∀ v, in64 v → b ≠ Lib.itoa v)) : readF L = (0, 0, 0, false) := by
  refine readF_no fun l c n hl hc hn0 e => ?_
  rw [h] at e
  obtain ⟨e1, e2⟩ := cut_uniq ha (posText_byte l c) e
  rcases hn with hn | hn
  · exact hn l c hl hc e1
  · exact hn n hn0 e2
theorem readF_none {L : List UInt8} (h : ∀ d ∈ L, d ≠ 32) : readF L = (0, 0, 0, false) := by
  refine readF_no fun l c n _ _ _ e => h 32 ?_ rfl
  rw [e]
  unfold faultText
  simp

set_option maxHeartbeats 2000000 in
theorem refReadFault (s : ByteArray) (hs : s.size ≤ 60) (w : World) : Calls Tryd.prog 24 #[.string s] w fun e w' =>
    e = .returned (.tuple #[.agg #[.int .i64 (readF s.data.toList).1, .int .i64 (readF s.data.toList).2.1, .int .i64 (readF s.data.toList).2.2.1], .bool (readF s.data.toList).2.2.2]) ∧ Below w.heap.size w w' := by
  have hb0 := below_new_v w (.cells #[.int .i64 0, .int .i64 0, .int .i64 0] 42)
  have hp0 := FB3.new w 0 0 0 42
  go_enter Tryd.func24, Tryd.ntmps24
  go_wp2_with fail
  have qc := fun w => refCut s 32 (by omega) w
  rw [show (((32 : UInt8).toNat : Nat) : Int) = 32 from rfl] at qc
  refine (qc _).mono ?_
  rintro e w1 ⟨hce, hb1⟩
  have hp1 := hp0.step hb1
  have hlt := hp1.lt
  have hbw := hb0.trans (hb1.mono (by simp))
  clear hb0 hp0 hb1 qc
  rcases hce with ⟨a, b, hL, ha, rfl⟩ | ⟨hno, rfl⟩
  · have hab : a.length ≤ 60 ∧ b.length ≤ 60 := by
      have := congrArg List.length hL
      rw [size_len_] at this
      simp at this
      omega
    have HL := Lib.hid hL
    have HA := Lib.hid ha
    clear hL ha
    have qr := refRead (txt a) (by rw [txt_size]; omega) w1
    rw [txt_list] at qr
    rcases readV_cases a with ⟨l, c, hl, hc, ht1, hrv⟩ | ⟨hn1, hrv⟩
    · rw [hrv] at qr
      have T1 := Lib.hid ht1
      clear ht1 hrv
      go_wp2_with fail
      refine qr.mono ?_
      rintro e w2 ⟨rfl, hb2⟩
      clear qr
      have hal := below_new_v w2 (.cells #[.int .i64 l, .int .i64 c] 27)
      have hp3 := (hp1.step hb2).step hal
      have hg3 := PB.new w2 l c 27
      have hbw3 := (hbw.trans (hb2.mono (Nat.le_of_lt hlt))).trans (hal.mono (Nat.le_of_lt (Nat.lt_of_lt_of_le hlt hb2.size)))
      clear hb2 hal hp1
      go_wp2_with fail
      generalize w2.alloc (.cells #[.int .i64 l, .int .i64 c] 27) = W3 at *
      refine (refParseWhole (txt b) W3 (by rw [txt_size]; omega)).mono ?_
      intro e w4 hr3
      rcases rwhole_cases hr3 with ⟨v2, hv2, ht2, rfl, hb4⟩ | ⟨hn2, rfl, hb4⟩
      · rw [txt_list] at ht2
        have T2 := Lib.hid ht2
        clear ht2 hr3
        have hp4 := hp3.step hb4
        have g4 := hg3.step hb4
        have f0 := hp4.f0
        have f1 := hp4.f1
        have f2 := hp4.f2
        have c0 := hp4.c0
        have c1 := hp4.c1
        have c2 := hp4.c2
        have k0 := g4.c0
        have k1 := g4.c1
        have hbf := hbw3.trans (hb4.mono hbw3.size)
        have hV := Lib.hid (readF_yes hl hc hv2)
        have hLp : s.data.toList = faultText l c v2 := by rw [HL.out, T1.out, T2.out]; rfl
        have HLP := Lib.hid hLp
        clear hLp hb4 hp3 hg3
        go_wp2_with fail
        have hfin := hp4.all l c v2
        have e0 := hfin.c0
        have e1 := hfin.c1
        have e2 := hfin.c2
        refine bodyPost_ret (v := .tuple #[.agg #[.int .i64 l, .int .i64 c, .int .i64 v2], .bool true]) (by simp [results, Tryd.results24, go_sem, c0, c1, c2]) rfl ?_
        rw [HLP.out, hV.out]
        exact ⟨rfl, ((hbf.setCell (Nat.le_refl _) _).setCell (Nat.le_refl _) _).setCell (Nat.le_refl _) _⟩
      · rw [txt_list] at hn2
        have N2 := Lib.hid hn2
        clear hn2 hr3
        have hp4 := hp3.step hb4
        have g4 := hg3.step hb4
        have f0 := hp4.f0
        have f1 := hp4.f1
        have f2 := hp4.f2
        have c0 := hp4.c0
        have c1 := hp4.c1
        have c2 := hp4.c2
        have k0 := g4.c0
        have k1 := g4.c1
        have hbf := hbw3.trans (hb4.mono hbw3.size)
        have hV : Hid (readF s.data.toList = (0, 0, 0, false)) := readF_cut HL.out HA.out (.inr N2.out)
        clear hb4 hp3 hg3
        go_wp2_with fail
        refine bodyPost_ret (v := .tuple #[.agg #[.int .i64 0, .int .i64 0, .int .i64 0], .bool false]) (by simp [results, Tryd.results24, go_sem, c0, c1, c2]) rfl ?_
        rw [hV.out]
        exact ⟨rfl, by first | exact ((hbf.setCell (Nat.le_refl _) _).setCell (Nat.le_refl _) _).setCell (Nat.le_refl _) _ | exact hbf⟩
    · rw [hrv] at qr
      have N1 := Lib.hid hn1
      clear hn1 hrv
      go_wp2_with fail
      refine qr.mono ?_
      rintro e w2 ⟨rfl, hb2⟩
      clear qr
      have hal := below_new_v w2 (.cells #[.int .i64 0, .int .i64 0] 27)
      have hp3 := (hp1.step hb2).step hal
      have hg3 := PB.new w2 0 0 27
      have hbw3 := (hbw.trans (hb2.mono (Nat.le_of_lt hlt))).trans (hal.mono (Nat.le_of_lt (Nat.lt_of_lt_of_le hlt hb2.size)))
      clear hb2 hal hp1
      go_wp2_with fail
      generalize w2.alloc (.cells #[.int .i64 0, .int .i64 0] 27) = W3 at *
      refine (refParseWhole (txt b) W3 (by rw [txt_size]; omega)).mono ?_
      intro e w4 hr3
      rcases rwhole_cases hr3 with ⟨v2, hv2, ht2, rfl, hb4⟩ | ⟨hn2, rfl, hb4⟩
      · rw [txt_list] at ht2
        have T2 := Lib.hid ht2
        clear ht2 hr3
        have hp4 := hp3.step hb4
        have g4 := hg3.step hb4
        have f0 := hp4.f0
        have f1 := hp4.f1
        have f2 := hp4.f2
        have c0 := hp4.c0
        have c1 := hp4.c1
        have c2 := hp4.c2
        have k0 := g4.c0
        have k1 := g4.c1
        have hbf := hbw3.trans (hb4.mono hbw3.size)
        have hV : Hid (readF s.data.toList = (0, 0, 0, false)) := readF_cut HL.out HA.out (.inl N1.out)
        clear hb4 hp3 hg3
        go_wp2_with fail
        refine bodyPost_ret (v := .tuple #[.agg #[.int .i64 0, .int .i64 0, .int .i64 0], .bool false]) (by simp [results, Tryd.results24, go_sem, c0, c1, c2]) rfl ?_
        rw [hV.out]
        exact ⟨rfl, by first | exact ((hbf.setCell (Nat.le_refl _) _).setCell (Nat.le_refl _) _).setCell (Nat.le_refl _) _ | exact hbf⟩
      · rw [txt_list] at hn2
        have N2 := Lib.hid hn2
        clear hn2 hr3
        have hp4 := hp3.step hb4
        have g4 := hg3.step hb4
        have f0 := hp4.f0
        have f1 := hp4.f1
        have f2 := hp4.f2
        have c0 := hp4.c0
        have c1 := hp4.c1
        have c2 := hp4.c2
        have k0 := g4.c0
        have k1 := g4.c1
        have hbf := hbw3.trans (hb4.mono hbw3.size)
        have hV : Hid (readF s.data.toList = (0, 0, 0, false)) := readF_cut HL.out HA.out (.inr N2.out)
        clear hb4 hp3 hg3
        go_wp2_with fail
        refine bodyPost_ret (v := .tuple #[.agg #[.int .i64 0, .int .i64 0, .int .i64 0], .bool false]) (by simp [results, Tryd.results24, go_sem, c0, c1, c2]) rfl ?_
        rw [hV.out]
        exact ⟨rfl, by first | exact ((hbf.setCell (Nat.le_refl _) _).setCell (Nat.le_refl _) _).setCell (Nat.le_refl _) _ | exact hbf⟩
  · have HN := Lib.hid hno
    clear hno
    have qr := refRead ⟨#[]⟩ (by decide) w1
    rw [show readV (⟨#[]⟩ : ByteArray).data.toList = (0, 0, false) from readV_none (by intro d hd; simp at hd)] at qr
    go_wp2_with fail
    refine qr.mono ?_
    rintro e w2 ⟨rfl, hb2⟩
    clear qr
    have hal := below_new_v w2 (.cells #[.int .i64 0, .int .i64 0] 27)
    have hp3 := (hp1.step hb2).step hal
    have hg3 := PB.new w2 0 0 27
    have hbw3 := (hbw.trans (hb2.mono (Nat.le_of_lt hlt))).trans (hal.mono (Nat.le_of_lt (Nat.lt_of_lt_of_le hlt hb2.size)))
    clear hb2 hal hp1
    go_wp2_with fail
    generalize w2.alloc (.cells #[.int .i64 0, .int .i64 0] 27) = W3 at *
    refine (refParseWhole ⟨#[]⟩ W3 (by decide)).mono ?_
    intro e w4 hr3
    rcases rwhole_cases hr3 with ⟨v2, hv2, ht2, rfl, hb4⟩ | ⟨hn2, rfl, hb4⟩
    · clear ht2 hr3
      have hp4 := hp3.step hb4
      have g4 := hg3.step hb4
      have f0 := hp4.f0
      have f1 := hp4.f1
      have f2 := hp4.f2
      have c0 := hp4.c0
      have c1 := hp4.c1
      have c2 := hp4.c2
      have k0 := g4.c0
      have k1 := g4.c1
      have hbf := hbw3.trans (hb4.mono hbw3.size)
      have hV : Hid (readF s.data.toList = (0, 0, 0, false)) := readF_none HN.out
      clear hb4 hp3 hg3
      go_wp2_with fail
      refine bodyPost_ret (v := .tuple #[.agg #[.int .i64 0, .int .i64 0, .int .i64 0], .bool false]) (by simp [results, Tryd.results24, go_sem, c0, c1, c2]) rfl ?_
      rw [hV.out]
      exact ⟨rfl, by first | exact ((hbf.setCell (Nat.le_refl _) _).setCell (Nat.le_refl _) _).setCell (Nat.le_refl _) _ | exact hbf⟩
    · clear hn2 hr3
      have hp4 := hp3.step hb4
      have g4 := hg3.step hb4
      have f0 := hp4.f0
      have f1 := hp4.f1
      have f2 := hp4.f2
      have c0 := hp4.c0
      have c1 := hp4.c1
      have c2 := hp4.c2
      have k0 := g4.c0
      have k1 := g4.c1
      have hbf := hbw3.trans (hb4.mono hbw3.size)
      have hV : Hid (readF s.data.toList = (0, 0, 0, false)) := readF_none HN.out
      clear hb4 hp3 hg3
      go_wp2_with fail
      refine bodyPost_ret (v := .tuple #[.agg #[.int .i64 0, .int .i64 0, .int .i64 0], .bool false]) (by simp [results, Tryd.results24, go_sem, c0, c1, c2]) rfl ?_
      rw [hV.out]
      exact ⟨rfl, by first | exact ((hbf.setCell (Nat.le_refl _) _).setCell (Nat.le_refl _) _).setCell (Nat.le_refl _) _ | exact hbf⟩
end

section
open Go.RowKit

theorem far3 {W : World} {g g' : Nat} {u0 u1 u2 x y z : Value} (h : W.cell? ⟨g, 0, none⟩ = some u0 ∧ W.cell? ⟨g, 1, none⟩ = some u1 ∧ W.cell? ⟨g, 2, none⟩ = some u2) (hne : g ≠ g') :
    (((W.setCell ⟨g', 0, none⟩ x).setCell ⟨g', 1, none⟩ y).setCell ⟨g', 2, none⟩ z).cell? ⟨g, 0, none⟩ = some u0 ∧ (((W.setCell ⟨g', 0, none⟩ x).setCell ⟨g', 1, none⟩ y).setCell ⟨g', 2, none⟩ z).cell? ⟨g, 1, none⟩ = some u1 ∧ (((W.setCell ⟨g', 0, none⟩ x).setCell ⟨g', 1, none⟩ y).setCell ⟨g', 2, none⟩ z).cell? ⟨g, 2, none⟩ = some u2 := by
  have o := fun (W : World) (i j : Nat) (u : Value) => World.cell?_setCell_other W ⟨g', i, none⟩ ⟨g, j, none⟩ u (fun e => by injection e; omega)
  exact ⟨(o _ 2 0 _).trans ((o _ 1 0 _).trans ((o _ 0 0 _).trans h.1)), (o _ 2 1 _).trans ((o _ 1 1 _).trans ((o _ 0 1 _).trans h.2.1)), (o _ 2 2 _).trans ((o _ 1 2 _).trans ((o _ 0 2 _).trans h.2.2))⟩

set_option maxHeartbeats 1000000 in
theorem lawFault (l c n : Int) (w : World) : Calls Tryd.prog 16 #[.agg #[.int .i64 l, .int .i64 c, .int .i64 n]] w fun e w' => e = .returned (.agg #[.int .i64 l, .int .i64 c, .int .i64 n]) ∧ Below w.heap.size w w' := by
  have hp := (FB3.new w l c n 45).step (below_new_v _ (.cells #[.int .i64 0, .int .i64 0, .int .i64 0] 42))
  have hr := FB3.new (w.alloc (.cells #[.int .i64 l, .int .i64 c, .int .i64 n] 45)) 0 0 0 42
  have hb0 := (below_new_v w (.cells #[.int .i64 l, .int .i64 c, .int .i64 n] 45)).alloc (Nat.le_of_lt (size_pos_ w _)) (.cells #[.int .i64 0, .int .i64 0, .int .i64 0] 42)
  rw [show (w.alloc (.cells #[.int .i64 l, .int .i64 c, .int .i64 n] 45)).heap.size = w.heap.size + 1 by simp] at hr
  have q1 := fun w => lawRef l c w
  go_enter Tryd.func16, Tryd.ntmps16
  go_wp2_with fail
  generalize (w.alloc (.cells #[.int .i64 l, .int .i64 c, .int .i64 n] 45)).alloc (.cells #[.int .i64 0, .int .i64 0, .int .i64 0] 42) = W at *
  have hp0 := Lib.hid (hp.step (Below.refl W.heap.size W).drew)
  have hr0 := Lib.hid (hr.step (Below.refl W.heap.size W).drew)
  have hbd := hb0.drew
  have hlt : w.heap.size + 1 < W.heap.size := hr.lt
  have s0 := And.intro hp0.out.c0 (And.intro hp0.out.c1 hp0.out.c2)
  clear hb0 hp hr
  go_region_held3 (fun w' => w'.cell? ⟨w.heap.size, 0, none⟩ = some (.int .i64 l) ∧ w'.cell? ⟨w.heap.size, 1, none⟩ = some (.int .i64 c) ∧ w'.cell? ⟨w.heap.size, 2, none⟩ = some (.int .i64 n)) (first | exact s0 | exact s1 | exact far3 s1 (by omega))
    (first
      | (go_at_call 12
         with_reducible refine (q1 W.drew).mono ?_
         rintro e w2 ⟨rfl, hb2⟩
         have hp2 := Lib.hid (hp0.out.step hb2)
         have hr2 := hr0.out.step hb2
         have c0 := hr2.c0
         have c1 := hr2.c1
         have c2 := hr2.c2
         have f0 := hr2.f0
         have f1 := hr2.f1
         have f2 := hr2.f2
         have s1 := And.intro hp2.out.c0 (And.intro hp2.out.c1 hp2.out.c2)
         have hbw2 := hbd.trans (hb2.mono (Nat.le_of_lt (Nat.lt_of_succ_lt hlt)))))
  have hfin := hr2.all l c n
  have e0 := hfin.c0
  have e1 := hfin.c1
  have e2 := hfin.c2
  all_goals
    (go_wp2_with fail
     refine bodyPost_ret (v := .agg #[.int .i64 l, .int .i64 c, .int .i64 n]) (by simp [results, Tryd.results16, go_sem, c0, c1, c2]) rfl ?_
     exact ⟨rfl, ((hbw2.setCell (by simp) _).setCell (by simp) _).setCell (by simp) _⟩)

/-- Faults, as the cells of a row. -/
def fcells : List (Int × Int × Int) → List Value
  | [] => []
  | (l, c, e) :: r => .int .i64 l :: .int .i64 c :: .int .i64 e :: fcells r
theorem fcells_len (r : List (Int × Int × Int)) : (fcells r).length = r.length * 3 := by
  induction r with
  | nil => rfl
  | cons p r ih => obtain ⟨l, c, e⟩ := p; simp [fcells, ih]; omega
theorem fcells_get (r : List (Int × Int × Int)) (i : Nat) (l c e : Int) (h : r[i]? = some (l, c, e)) : (fcells r)[i * 3]? = some (.int .i64 l) ∧ (fcells r)[i * 3 + 1]? = some (.int .i64 c) ∧ (fcells r)[i * 3 + 2]? = some (.int .i64 e) := by
  induction r generalizing i with
  | nil => simp at h
  | cons p r ih =>
    obtain ⟨a, b, d⟩ := p
    cases i with
    | zero => simp at h; obtain ⟨rfl, rfl, rfl⟩ := h; simp [fcells]
    | succ i =>
      have := ih i (by simpa using h)
      rw [show (i + 1) * 3 = i * 3 + 3 by omega]
      simpa [fcells] using this
theorem fcells_append (r t : List (Int × Int × Int)) : fcells (r ++ t) = fcells r ++ fcells t := by
  induction r with
  | nil => rfl
  | cons p r ih => obtain ⟨l, c, e⟩ := p; simp [fcells, ih]
/-- A slice that reads as faults. -/
def RowF (W : World) (A : Option Addr) (n : Nat) (r : List (Int × Int × Int)) : Prop := r.length = n ∧ Reads W W.heap.size 3 A n (fcells r)
theorem RowF.below {W W' : World} {A : Option Addr} {n : Nat} {r : List (Int × Int × Int)} (h : RowF W A n r) (hb : Below W.heap.size W W') : RowF W' A n r := ⟨h.1, (Reads.below h.2 hb).more hb.size⟩
theorem RowF.at_ {W : World} {A : Option Addr} {n : Nat} {r : List (Int × Int × Int)} (h : RowF W A n r) {i : Nat} (hi : i < n) : ∃ ad l c e, A = some ad ∧ r[i]? = some (l, c, e) ∧ W.cell? (ad.add (i * 3)) = some (.int .i64 l) ∧ W.cell? (ad.add (i * 3 + 1)) = some (.int .i64 c) ∧ W.cell? (ad.add (i * 3 + 2)) = some (.int .i64 e) := by
  obtain ⟨ad, e1, _, hc⟩ := h.2.2 (by omega)
  obtain ⟨⟨l, c, e⟩, hp⟩ : ∃ p, r[i]? = some p := ⟨r[i]'(by have := h.1; omega), List.getElem?_eq_getElem _⟩
  obtain ⟨h1, h2, h3⟩ := fcells_get r i l c e hp
  exact ⟨ad, l, c, e, e1, hp, hc _ _ h1, hc _ _ h2, hc _ _ h3⟩

theorem RowF.below2 {W W' : World} {A : Option Addr} {n : Nat} {r : List (Int × Int × Int)} (h : RowF W A n r) (hb : Below W.heap.size W W') : RowF W' A n r := h.below hb
/-- The first of all that are faults, so far. -/
def stepF (a : Int × Int × Int × Bool) (f : Int × Int × Int) : Int × Int × Int × Bool :=
  if f.2.2 ≠ 0 ∧ (a.2.2.2 = false ∨ posCmp f.1 f.2.1 a.1 a.2.1 < 0) then (f.1, f.2.1, f.2.2, true) else a
def firstV (r : List (Int × Int × Int)) : Int × Int × Int × Bool := r.foldl stepF (0, 0, 0, false)
theorem firstV_next (r : List (Int × Int × Int)) (i : Nat) (f : Int × Int × Int) (h : r[i]? = some f) : firstV (r.take (i + 1)) = stepF (firstV (r.take i)) f := by
  rw [List.take_add_one, h]
  unfold firstV
  simp
end
end Go.Proofs.YtijliimiojjjdaaDoor
