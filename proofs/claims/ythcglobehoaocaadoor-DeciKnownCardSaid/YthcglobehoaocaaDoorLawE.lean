/- The law DeciReads. -/
import Derived.Test.YthcglobehoaocaaDoorLawB
import Derived.Test.YthcglobehoaocaaDoorRefK
namespace Go.Proofs.YthcglobehoaocaaDoor
open Go.RowKit

theorem itoa_inj {a b : Int} (ha : -9223372036854775808 ≤ a ∧ a ≤ 9223372036854775807) (hb : -9223372036854775808 ≤ b ∧ b ≤ 9223372036854775807) (h : Lib.itoa a = Lib.itoa b) : a = b := by
  have h1 := int_dec a ha.1 ha.2
  have h2 := int_dec b hb.1 hb.2
  rw [h] at h1
  rw [h1] at h2
  injection h2
theorem spell_text (s : ByteArray) (v : Int) : spells s.data.toList v ↔ (-9223372036854775808 ≤ v ∧ v ≤ 9223372036854775807) ∧ s = ⟨(Lib.itoa v).toArray⟩ := by
  rw [spells_iff]
  constructor
  · rintro ⟨h1, h2⟩
    exact ⟨h1, list_eq (by rw [← h2])⟩
  · rintro ⟨h1, h2⟩
    exact ⟨h1, by rw [h2]⟩

set_option maxHeartbeats 4000000 in
theorem reads_any (s : ByteArray) (c0 : Int) (w : World) (hL : Laid w) (hs : s.size ≤ 60) :
    Calls Tryd.prog 5 #[.string s, .int .i64 c0] w fun e w' => e = .returned (.bool true) ∧ Below w.heap.size w w' := by
  have hno : ¬ ((60 : Int) < s.size) := by omega
  go_enter Tryd.func5, Tryd.ntmps5
  go_wp2_with fail
  refine (parseAny s c0 w hs).mono ?_
  rintro e w1 ⟨A1, n1, c1, ei, rfl, hp, hb1⟩
  have hp' : ∃ V, Num w1 w.heap.size A1 n1 c1 V ∧ n1 ≤ 60 ∧ ((ei = 0 ∧ Fit c0 (dval s.data.toList) ∧ Canon s.data.toList ∧ V = dval s.data.toList) ∨ (ei = 10 ∧ V = 0 ∧ Canon s.data.toList ∧ ¬ Fit c0 (dval s.data.toList)) ∨ (ei = 20 ∧ V = 0 ∧ ¬ Canon s.data.toList)) := by
    rcases hp with ⟨h1, h2, h3, h4, h5⟩ | ⟨h1, rfl, rfl, rfl, h5, h6⟩ | ⟨h1, rfl, rfl, rfl, h5⟩
    · exact ⟨_, h4, h5, .inl ⟨h1, h2, h3, rfl⟩⟩
    · exact ⟨0, Num.zero _ _, by omega, .inr (.inl ⟨h1, rfl, h5, h6⟩)⟩
    · exact ⟨0, Num.zero _ _, by omega, .inr (.inr ⟨h1, rfl, h5⟩)⟩
  obtain ⟨V, hnum, hn1, hpc⟩ := hp'
  have HP := Lib.hid hpc
  have hs1 := hb1.size
  have hx1 := Nb.new (w := w) hnum (Nat.le_refl _)
  have hbW := bthen hb1 (below_new w1 (.cells #[.slice A1 n1 c1] 26))
  have hLW := hL.below hbW
  clear hp hpc hnum hb1
  go_wp2_with fail
  generalize w1.alloc (.cells #[.slice A1 n1 c1] 26) = W at *
  generalize w1.heap.size = g at *
  refine (refParse s c0 W hs).mono ?_
  rintro e w2 ⟨A2, n2, c2, fi, rfl, hr, hb2⟩
  have hr' : fi = ei ∧ RNum w2 W.heap.size A2 n2 c2 V := by
    rcases hr with ⟨h1, h2, h3, h4⟩ | ⟨h1, rfl, rfl, rfl, h5, h6⟩ | ⟨h1, rfl, rfl, rfl, h5⟩
    · rcases HP.out with ⟨k1, k2, k3, k4⟩ | ⟨k1, k2, k3, k4⟩ | ⟨k1, k2, k3⟩
      · subst k4; exact ⟨h1.trans k1.symm, h4⟩
      · exact absurd h2 k4
      · exact absurd h3 k3
    · rcases HP.out with ⟨k1, k2, k3, k4⟩ | ⟨k1, k2, k3, k4⟩ | ⟨k1, k2, k3⟩
      · exact absurd k2 h6
      · subst k2; exact ⟨h1.trans k1.symm, RNum.zero _ _⟩
      · exact absurd h5 k3
    · rcases HP.out with ⟨k1, k2, k3, k4⟩ | ⟨k1, k2, k3, k4⟩ | ⟨k1, k2, k3⟩
      · exact absurd k3 h5
      · exact absurd k3 h5
      · subst k2; exact ⟨h1.trans k1.symm, RNum.zero _ _⟩
  obtain ⟨rfl, hnum2⟩ := hr'
  have hx2 := hx1.step hb2
  have hbW2 := bthen hbW hb2
  have hLW2 := hLW.below hb2
  clear hr HP hx1 hbW hLW hb2
  go_wp2_with fail
  refine (parseWholeAny s w2 hLW2 hs).mono ?_
  rintro e w3 ⟨v, ki, rfl, hk, hb3⟩
  have hx3 := hx2.step hb3
  have hnum3 := hnum2.below hb3
  have hbW3 := bthen hbW2 hb3
  have hLW3 := hLW2.below hb3
  have HK := Lib.hid hk
  clear hk hx2 hnum2 hbW2 hLW2 hb3
  go_wp2_with fail
  refine (refParseWhole s w3 hs).mono ?_
  rintro e w4 ⟨v', ki', rfl, hk', hb4⟩
  have heq : v' = v ∧ ki' = ki := by
    rcases hk' with ⟨h1, h2, h3⟩ | ⟨h1, h2, h3⟩
    · rcases HK.out with ⟨k1, k2, k3⟩ | ⟨k1, k2, k3⟩
      · refine ⟨itoa_inj h2 k2 ?_, h1.trans k1.symm⟩
        have := congrArg (fun b : ByteArray => b.data.toList) (h3.symm.trans k3)
        simpa using this
      · exact absurd ⟨v', (spell_text s v').2 ⟨h2, h3⟩⟩ k3
    · rcases HK.out with ⟨k1, k2, k3⟩ | ⟨k1, k2, k3⟩
      · exact absurd ⟨v, k2, k3⟩ h3
      · exact ⟨h2.trans k2.symm, h1.trans k1.symm⟩
  obtain ⟨rfl, rfl⟩ := heq
  have hx4 := hx3.step hb4
  have hnum4 := hnum3.below hb4
  have hbW4 := bthen hbW3 hb4
  have hLW4 := hLW3.below hb4
  clear hk' HK hx3 hnum3 hbW3 hLW3 hb4
  have hc4 := hx4.box.1
  have hf4 := hx4.box.2
  have he1 : (fi == fi) = true := by simp
  have he2 : (v' == v') = true := by simp
  have he3 : (ki' == ki') = true := by simp
  go_wp2_with fail
  refine (sameNat hx4.num hnum4 (by omega)).mono ?_
  rintro e w5 ⟨rfl, hb5⟩
  have hbW5 := bthen hbW4 hb5
  have hLW5 := hLW4.below hb5
  clear hx4 hnum4 hbW4 hLW4 hb5 hc4 hf4
  go_wp2_with fail
  refine (works_any w5 hLW5).mono ?_
  rintro e w6 ⟨rfl, hb6⟩
  have hbW6 := bthen hbW5 hb6
  go_wp2_with fail
  go_ret
  exact ⟨rfl, hbW6⟩

set_option maxHeartbeats 400000 in
theorem reads_long (s : ByteArray) (c0 : Int) (w : World) (hL : Laid w) (hs : ¬ s.size ≤ 60) :
    Calls Tryd.prog 5 #[.string s, .int .i64 c0] w fun e w' => e = .returned (.bool true) ∧ Below w.heap.size w w' := by
  have hyes : 60 < s.size := by omega
  go_enter Tryd.func5, Tryd.ntmps5
  go_wp2_with fail
  refine (works_any _ hL).mono ?_
  rintro e w1 ⟨rfl, hb1⟩
  go_wp2_with fail
  go_ret
  exact ⟨rfl, hb1⟩
end Go.Proofs.YthcglobehoaocaaDoor
