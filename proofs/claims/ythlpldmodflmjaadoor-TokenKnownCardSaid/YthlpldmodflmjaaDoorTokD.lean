/- The contracts of the reference's IsSign, Number of layer 5. -/
import Derived.Test.YthlpldmodflmjaaDoorTokC
namespace Go.Proofs.YthlpldmodflmjaaDoor
open Go.RowKit

theorem strNe5 {a b : ByteArray} (h : a.data.toList ≠ b.data.toList) : (a.toList == b.toList) = false := by
  simp only [beq_eq_false_iff_ne, ne_eq, ByteArray.toList_eq]
  exact h
theorem strEq5 {a b : ByteArray} (h : a.data.toList = b.data.toList) : (a.toList == b.toList) = true := by
  simp only [beq_iff_eq, ByteArray.toList_eq]
  exact h
/-- A table of given texts, in memory. -/
def TabS (W : World) (g : Nat) (l : List (List UInt8)) : Prop := ∀ j (x : List UInt8), l[j]? = some x → W.cell? ⟨g, j, none⟩ = some (.string ⟨x.toArray⟩)
theorem TabS.new (W : World) (l : List (List UInt8)) (T : TypeId) : TabS (W.alloc (.cells (l.map fun x => Value.string ⟨x.toArray⟩).toArray T)) W.heap.size l := fun j x hx => by
  rw [cell_of_row _ _ j (l.map fun x => Value.string ⟨x.toArray⟩).toArray T (0, 0) (heap_alloc_new W _)]
  simp [hx]

set_option maxHeartbeats 2000000 in
set_option maxRecDepth 100000 in
theorem refIsSign (s : ByteArray) (w : World) : Calls Tryd.prog 35 #[.string s] w fun e w' => e = .returned (.bool (isSignB s.data.toList)) ∧ Below w.heap.size w w' := by
  obtain ⟨b, hb⟩ : ∃ b, b = isSignB s.data.toList := ⟨_, rfl⟩
  rw [← hb]
  have HB := Lib.hid hb
  clear hb
  have ht := Lib.hid (TabS.new w signs 9)
  have hbw := (Below.refl w.heap.size w).alloc (Nat.le_refl _) (.cells (signs.map fun x => Value.string ⟨x.toArray⟩).toArray 9)
  go_enter Tryd.func35, Tryd.ntmps35
  go_wp2_with fail
  have ht0 : Hid (TabS (w.alloc (.cells (signs.map fun x => Value.string ⟨x.toArray⟩).toArray 9)) w.heap.size signs ∧ Below w.heap.size w (w.alloc (.cells (signs.map fun x => Value.string ⟨x.toArray⟩).toArray 9))) := ⟨ht.out, hbw⟩
  clear ht hbw
  go_loopw [4] (fun v W => ∃ i : Nat, i ≤ 29 ∧ v = .int .i64 i ∧ Hid (∀ j, j < i → signs[j]? ≠ some s.data.toList) ∧ Hid (TabS W w.heap.size signs ∧ Below w.heap.size w W)) (fun v _ => 29 - (intOf v).toNat)
  case atStart => exact ⟨0, by omega, rfl, fun j hj => absurd hj (by omega), ht0⟩
  case round =>
    obtain ⟨i, hi, rfl, hst, htb⟩ := hrel
    clear ht0
    by_cases hlt : i < 29
    · have hlt' : (i : Int) < 29 := by omega
      obtain ⟨x, hx⟩ : ∃ x, signs[i]? = some x := ⟨_, List.getElem?_eq_getElem (show i < signs.length from hlt)⟩
      have hc := htb.out.1 i x hx
      have HX := Lib.hid hx
      clear hx
      by_cases he : x = s.data.toList
      · have hv : Hid (b = true) := by
          show b = true
          rw [HB.out]
          unfold isSignB
          rw [List.contains_iff_mem]
          exact List.mem_iff_getElem?.2 ⟨i, by rw [HX.out, he]⟩
        have h2 : ((⟨x.toArray⟩ : ByteArray).toList == s.toList) = true := strEq5 (by simpa using he)
        have hbf := htb.out.2
        clear he hst htb
        generalize (⟨x.toArray⟩ : ByteArray) = xs at *
        go_wp2_with fail
        go_ret
        exact ⟨by rw [hv.out]; rfl, hbf⟩
      · have h2 : ((⟨x.toArray⟩ : ByteArray).toList == s.toList) = false := strNe5 (by simpa using he)
        have hst2 : Hid (∀ j, j < i + 1 → signs[j]? ≠ some s.data.toList) := fun j hj e => by
          rcases Nat.lt_or_ge j i with h | h
          · exact hst.out j h e
          · obtain rfl : j = i := by omega
            have := HX.out.symm.trans e
            injection this with this
            exact he this
        clear he hst
        generalize (⟨x.toArray⟩ : ByteArray) = xs at *
        go_wp2_with fail
        exact ⟨⟨i + 1, by omega, by go_num, hst2, htb⟩, by simp [intOf]; omega⟩
    · have hi29 : (i : Int) = 29 := by omega
      have hv : Hid (b = false) := by
        show b = false
        rw [HB.out, Bool.eq_false_iff]
        unfold isSignB
        rw [ne_eq, List.contains_iff_mem]
        intro hm
        obtain ⟨j, hj⟩ := List.mem_iff_getElem?.1 hm
        have hj2 : j < signs.length := (List.getElem?_eq_some_iff.1 hj).1
        exact hst.out j (by have : signs.length = 29 := rfl; omega) hj
      have hbf := htb.out.2
      rw [hi29]
      clear hst htb hi29 hlt hi
      go_wp2_with fail
      go_ret
      exact ⟨by rw [hv.out]; rfl, hbf⟩
end Go.Proofs.YthlpldmodflmjaaDoor
