/- Texts and programs that are the same: the reference of layer 6. -/
import Derived.Test.YtkmioieanopafaaDoorAstH
import Derived.Test.YtkmioieanopafaaDoorAstI
namespace Go.Proofs.YtkmioieanopafaaDoor
open Go.RowKit

set_option maxHeartbeats 2000000 in
theorem refSameT {A A' : Option Addr} {n n' c c' : Nat} {r s : List (List UInt8)} {w : World} (h : RowS w A n r) (h' : RowS w A' n' s) (hn : n ≤ 4611686018427387904) :
    Calls Tryd.prog 72 #[.slice A n c, .slice A' n' c'] w fun e w' => e = .returned (.bool (r == s)) ∧ Below w.heap.size w w' := by
  obtain ⟨b, hb⟩ : ∃ b, b = (r == s) := ⟨_, rfl⟩
  rw [← hb]
  have HB := Lib.hid hb
  clear hb
  have hl := Lib.hid h.len
  have hl' := Lib.hid h'.len
  by_cases hnn : n = n'
  · subst hnn
    go_enter Tryd.func72, Tryd.ntmps72
    go_wp2_with fail
    go_loopw [5] (fun v W => ∃ i : Nat, i ≤ n ∧ v = .int .i64 i ∧ Hid (∀ j, j < i → r[j]? = s[j]?) ∧ Hid (Below w.heap.size w W)) (fun v _ => n - (intOf v).toNat)
    case atStart => exact ⟨0, by omega, rfl, fun j hj => absurd hj (by omega), Below.refl _ _⟩
    case round =>
      obtain ⟨i, hi, rfl, hst, hbw⟩ := hrel
      by_cases hlt : i < n
      · have hd := Lib.hid (bth5 hbw.out (Below.refl wr.heap.size wr).drew)
        obtain ⟨ad, t, rfl, ht, hc1⟩ := (h.below hbw.out).at_ hlt
        obtain ⟨ad', t', rfl, ht', hc2⟩ := (h'.below hbw.out).at_ hlt
        have hlt' : (i : Int) < n := by omega
        have HT := Lib.hid (And.intro ht ht')
        clear h h' ht ht'
        by_cases he : t = t'
        · have hst2 : Hid (∀ j, j < i + 1 → r[j]? = s[j]?) := fun j hj => by
            rcases Nat.lt_or_ge j i with h | h
            · exact hst.out j h
            · obtain rfl : j = i := by omega
              rw [HT.out.1, HT.out.2, he]
          have e1 := eq_texts6 he
          clear hst HT he HB
          generalize (⟨t.toArray⟩ : ByteArray) = ts at *
          generalize (⟨t'.toArray⟩ : ByteArray) = ts' at *
          go_wp2_with fail
          go_quiet (fail)
          go_wp2_with fail
          refine ⟨⟨i + 1, by omega, by go_num, hst2, ?_⟩, by simp [intOf]; omega⟩
          first | exact below_drewN_ hbw.out _ | exact hd
        · have hv : Hid (b = false) := by
            show b = _
            rw [HB.out, beq_eq_false_iff_ne]
            intro e
            have := HT.out.1.symm.trans (e ▸ HT.out.2 : r[i]? = some t')
            injection this with this
            exact he this
          have e1 := ne_texts6 he
          clear hst HT he HB
          generalize (⟨t.toArray⟩ : ByteArray) = ts at *
          generalize (⟨t'.toArray⟩ : ByteArray) = ts' at *
          go_wp2_with fail
          go_quiet (fail)
          go_wp2_with fail
          go_ret
          refine ⟨by rw [hv.out]; rfl, ?_⟩
          first | exact below_drewN_ hbw.out _ | exact hd.out
      · obtain rfl : i = n := by omega
        have hlt' : ¬ (i : Int) < i := by omega
        have hv : Hid (b = true) := by
          show b = _
          rw [HB.out, beq_iff_eq]
          apply List.ext_getElem?
          intro j
          rcases Nat.lt_or_ge j i with h | h
          · exact hst.out j h
          · rw [List.getElem?_eq_none (by rw [← hl.out]; exact h), List.getElem?_eq_none (by rw [← hl'.out]; exact h)]
        clear h h' hst HB
        go_wp2_with fail
        go_ret
        exact ⟨by rw [hv.out]; rfl, hbw.out⟩
  · have hv : Hid (b = false) := by
      show b = _
      rw [HB.out, beq_eq_false_iff_ne]
      intro e
      exact hnn (by rw [hl.out, hl'.out, e])
    have e1 : ((n : Int) == n') = false := by simp; omega
    have e2 : ¬ (n : Int) = n' := by omega
    clear HB
    go_enter Tryd.func72, Tryd.ntmps72
    go_wp2_with fail
    go_ret
    exact ⟨by rw [hv.out]; rfl, Below.refl _ _⟩
end Go.Proofs.YtkmioieanopafaaDoor
