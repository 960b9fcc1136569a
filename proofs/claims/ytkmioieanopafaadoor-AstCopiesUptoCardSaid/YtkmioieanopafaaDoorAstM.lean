/- Texts among others: the laws' own functions of layer 6. -/
import Derived.Test.YtkmioieanopafaaDoorAstC
namespace Go.Proofs.YtkmioieanopafaaDoor
open Go.RowKit

set_option maxHeartbeats 1000000 in
theorem lawHas6 {A : Option Addr} {n c : Nat} {r : List (List UInt8)} {w : World} (s : List UInt8) (h : RowS w A n r) (hn : n ≤ 4611686018427387904) :
    Calls Tryd.prog 80 #[.slice A n c, .string ⟨s.toArray⟩] w fun e w' => e = .returned (.bool (r.contains s)) ∧ w' = w := by
  have hq := refHas6 (c := c) s h hn
  generalize r.contains s = b at *
  go_enter Tryd.func80, Tryd.ntmps80
  go_wp2_with fail
  refine hq.mono ?_
  rintro e w1 ⟨rfl, rfl⟩
  go_wp2_with fail
  go_ret
  exact ⟨rfl, rfl⟩

set_option maxHeartbeats 1000000 in
theorem lawAll6 {A B : Option Addr} {n c m d : Nat} {r s : List (List UInt8)} {w : World} (h : RowS w A n r) (h' : RowS w B m s) (hn : n ≤ 4611686018427387904) (hm : m ≤ 4611686018427387904) :
    Calls Tryd.prog 39 #[.slice A n c, .slice B m d] w fun e w' => e = .returned (.bool (r.all fun t => s.contains t)) ∧ w' = w := by
  obtain ⟨b, hb⟩ : ∃ b, b = (r.all fun t => s.contains t) := ⟨_, rfl⟩
  rw [← hb]
  have HB := Lib.hid hb
  clear hb
  have hl := Lib.hid h.len
  have hx := Lib.hid (And.intro h h')
  clear h h'
  go_enter Tryd.func39, Tryd.ntmps39
  go_wp2_with fail
  go_loopw [5] (fun v W => ∃ i : Nat, i ≤ n ∧ v = .int .i64 i ∧ Hid (∀ j t, j < i → r[j]? = some t → s.contains t = true) ∧ W = w) (fun v _ => n - (intOf v).toNat)
  case atStart => exact ⟨0, by omega, rfl, fun j t hj => absurd hj (by omega), rfl⟩
  case round =>
    obtain ⟨i, hi, rfl, hst, rfl⟩ := hrel
    by_cases hlt : i < n
    · obtain ⟨ad, t, rfl, ht, hc1⟩ := hx.out.1.at_ hlt
      have hlt' : (i : Int) < n := by omega
      have hq := lawHas6 (c := d) t hx.out.2 hm
      have HT := Lib.hid ht
      clear ht
      cases hr : s.contains t with
      | false =>
        have hv : Hid (b = false) := by
          show b = _
          rw [HB.out, Bool.eq_false_iff]
          intro ha
          rw [List.all_eq_true] at ha
          have := ha t (List.mem_iff_getElem?.2 ⟨i, HT.out⟩)
          rw [hr] at this
          cases this
        rw [hr] at hq
        clear hst HB HT hr
        go_wp2_with fail
        refine hq.mono ?_
        rintro e w1 ⟨rfl, rfl⟩
        go_wp2_with fail
        go_ret
        exact ⟨by rw [hv.out]; rfl, rfl⟩
      | true =>
        have hst2 : Hid (∀ j t, j < i + 1 → r[j]? = some t → s.contains t = true) := fun j u hj hu => by
          rcases Nat.lt_or_ge j i with h | h
          · exact hst.out j u h hu
          · obtain rfl : j = i := by omega
            have e2 : t = u := Option.some.inj (HT.out.symm.trans hu)
            rw [← e2]; exact hr
        rw [hr] at hq
        clear hst HB HT hr
        go_wp2_with fail
        refine hq.mono ?_
        rintro e w1 ⟨rfl, rfl⟩
        go_wp2_with fail
        exact ⟨⟨i + 1, by omega, by go_num, hst2, by first | rfl | trivial⟩, by simp [intOf]; omega⟩
    · obtain rfl : i = n := by omega
      have hlt' : ¬ (i : Int) < i := by omega
      have hv : Hid (b = true) := by
        show b = _
        rw [HB.out, List.all_eq_true]
        intro t htm
        obtain ⟨j, hj⟩ := List.mem_iff_getElem?.1 htm
        exact hst.out j t (by rw [hl.out]; exact (List.getElem?_eq_some_iff.1 hj).1) hj
      clear hst HB
      go_wp2_with fail
      go_ret
      exact ⟨by rw [hv.out]; rfl, rfl⟩
end Go.Proofs.YtkmioieanopafaaDoor
