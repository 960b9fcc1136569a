/- Regions that draw their order, by an invariant of what has come up, the frame and the world; each operation is shown once, whatever came up before it (no program in it). -/
import Derived.Test.YtejifkeeihkcjaaDoorGMath
import Derived.Deep.RegionHeld3
namespace Go.Proofs.YtejifkeeihkcjaaDoor
section
open Go.RowKit
section
variable {P : Program} {ops : Array Oper} {Q : Exit → Act → World → Prop} {md : Region.Mode}
/-- No operation waits for one behind it. -/
def backOnly (md : Region.Mode) (ops : Array Oper) : Bool := (List.range ops.size).all fun i => ((ops[i]?).map fun o => o.after.all fun e => !Region.binds md e || decide (e.on < i)).getD true
theorem back_of (h : backOnly md ops = true) {i : Nat} {o : Oper} (ho : ops[i]? = some o) : ∀ e ∈ o.after, Region.binds md e = true → e.on < i := fun e he hb => by
  have hlt : i < ops.size := by
    rcases Nat.lt_or_ge i ops.size with h1 | h1
    · exact h1
    · rw [Array.getElem?_eq_none h1] at ho; cases ho
  have h2 := List.all_eq_true.1 h i (List.mem_range.2 hlt)
  rw [ho] at h2
  simp only [Option.map_some, Option.getD_some, Array.all_eq_true_iff_forall_mem] at h2
  have h3 := h2 e he
  rw [hb] at h3
  simpa using h3
/-- What has come up. -/
def lis (l : Array Bool) : Nat → Bool := fun k => l.getD k false
def upd (L : Nat → Bool) (i : Nat) : Nat → Bool := fun k => if k = i then true else L k
theorem lis_set {l : Array Bool} {i : Nat} (h : i < l.size) : lis (l.setIfInBounds i true) = upd (lis l) i := by
  funext k
  unfold lis upd
  by_cases e : k = i
  · subst e
    rw [if_pos rfl]
    simp [h]
  · rw [if_neg e, getD_set_ne false (fun e2 => e e2.symm)]
theorem ready_all (hb : backOnly md ops = true) {l : Array Bool} (hs : l.size = ops.size) (h : Region.ready md ops l = []) : ∀ i, i < ops.size → lis l i = true := by
  intro i
  induction i using Nat.strongRecOn with
  | ind i ih =>
  intro hi
  cases hv : lis l i with
  | true => rfl
  | false =>
    exfalso
    have ho : ops[i]? = some ops[i] := Array.getElem?_eq_getElem hi
    have hm : i ∈ Region.ready md ops l := by
      refine mem_ready.2 ⟨?_, _, ho, fun e he hbe => ?_⟩
      · unfold lis at hv
        simp only [Array.getD_eq_getD_getElem?, Array.getElem?_eq_getElem (show i < l.size by omega), Option.getD_some] at hv ⊢
        exact hv
      · have := back_of hb ho e he hbe
        exact ih _ this (by omega)
    rw [h] at hm
    cases hm
theorem count_set {l : Array Bool} {i : Nat} (h : i < l.size) (hv : lis l i = false) : (l.setIfInBounds i true).toList.count false + 1 = l.toList.count false := by
  have hv' : l.toList[i]'(by simpa using h) = false := by
    unfold lis at hv
    simpa [Array.getD_eq_getD_getElem?, Array.getElem?_eq_getElem h] using hv
  rw [Array.toList_setIfInBounds]
  have h1 := List.count_set (a := true) (b := false) (l := l.toList) (i := i) (by simpa using h)
  have h2 : 0 < l.toList.count false := List.count_pos_iff.2 (hv' ▸ List.getElem_mem _)
  rw [hv', if_pos (by decide), if_neg (by decide)] at h1
  rw [h1]
  omega
theorem wpAny_inv (I : (Nat → Bool) → Act → World → Prop) (hb : backOnly md ops = true)
    (hfin : ∀ L a w, I L a w → (∀ i, i < ops.size → L i = true) → Q .normal a w)
    (hstep : ∀ L a w i o, I L a w → ops[i]? = some o → L i = false → (∀ e ∈ o.after, Region.binds md e = true → L e.on = true) → wpOp P ops Q i (fun a' w' => I (upd L i) a' w') a w) :
    ∀ n (l : Array Bool) (a : Act) (w : World), l.size = ops.size → l.toList.count false ≤ n → I (lis l) a w → wpAny P md ops Q n l a w := by
  intro n
  induction n with
  | zero =>
    intro l a w hs hn hI
    have hall : ∀ i, i < ops.size → lis l i = true := fun i hi => by
      cases hv : lis l i with
      | true => rfl
      | false =>
        have := count_set (l := l) (i := i) (by omega) hv
        omega
    refine ⟨?_, hfin _ _ _ hI hall⟩
    apply List.eq_nil_iff_forall_not_mem.2
    intro i hm
    obtain ⟨h1, o, ho, _⟩ := mem_ready.1 hm
    have hlt : i < ops.size := by
      rcases Nat.lt_or_ge i ops.size with h2 | h2
      · exact h2
      · rw [Array.getElem?_eq_none h2] at ho; cases ho
    have h3 := hall i hlt
    unfold lis at h3
    simp only [Array.getD_eq_getD_getElem?, Array.getElem?_eq_getElem (show i < l.size by omega), Option.getD_some] at h1 h3
    rw [h3] at h1
    cases h1
  | succ n ih =>
    intro l a w hs hn hI
    refine ⟨fun h => hfin _ _ _ hI (ready_all hb hs h), fun i hi => ?_⟩
    obtain ⟨h1, o, ho, hall⟩ := mem_ready.1 hi
    have hlt : i < ops.size := by
      rcases Nat.lt_or_ge i ops.size with h2 | h2
      · exact h2
      · rw [Array.getElem?_eq_none h2] at ho; cases ho
    have hv : lis l i = false := by
      unfold lis
      simp only [Array.getD_eq_getD_getElem?, Array.getElem?_eq_getElem (show i < l.size by omega), Option.getD_some] at h1 ⊢
      exact h1
    have hc := count_set (l := l) (i := i) (by omega) hv
    refine wpOp_mono (fun a' w' h' => ih _ a' w' (by simpa using hs) (by omega) (by rw [lis_set (by omega)]; exact h')) (hstep _ a w i o hI ho hv (fun e he hbe => hall e he hbe))
/-- An operation that is wanted, without a guard, shown for a letter that stands for what comes behind. -/
theorem wpOp_of {i : Nat} {o : Oper} {a : Act} {w : World} {J : Act → World → Prop} (ho : ops[i]? = some o) (hg : o.guard = none) (h : ∀ K : Act → World → Prop, Hid (∀ a' w', J a' w' → K a' w') → o.wp P a w K Q) : wpOp P ops Q i J a w := by
  unfold wpOp
  simp only [ho]
  rw [if_pos (by simp [Region.wanted, hg])]
  exact Or.inl (h J fun _ _ k => k)
end
end
end Go.Proofs.YtejifkeeihkcjaaDoor
