/- Regions that draw their order and write, at their end, a cell that they load: a condition on the world that is asked till one operation (st) has come up; a load may be taken first if that operation waits for it, by a chain. No program in it. -/
import Derived.Deep.RegionHeld3
namespace Go.Proofs.YtkmioieanopafaaDoor
section
variable {P : Program} {ops : Array Oper} {Q : Exit → Act → World → Prop} {md : Region.Mode} {st : Nat} {S : World → Prop}

/-- Whatever order is picked, S holds behind each operation till st has come up. -/
def wpAnyC (P : Program) (md : Region.Mode) (ops : Array Oper) (Q : Exit → Act → World → Prop) (st : Nat) (S : World → Prop) : Nat → Array Bool → Act → World → Prop
  | 0, l, a, w => Region.ready md ops l = [] ∧ Q .normal a w
  | n + 1, l, a, w => (Region.ready md ops l = [] → Q .normal a w) ∧
      ∀ i ∈ Region.ready md ops l, wpOp P ops Q i (fun a' w' => ((l.setIfInBounds i true).getD st true = false → S w') ∧ wpAnyC P md ops Q st S n (l.setIfInBounds i true) a' w') a w
theorem wpAny_of_C : ∀ (n : Nat) (l : Array Bool) (a : Act) (w : World), wpAnyC P md ops Q st S n l a w → wpAny P md ops Q n l a w
  | 0, _, _, _, h => h
  | n + 1, _, _, _, h => ⟨h.1, fun i hi => wpOp_mono (fun a' w' k => wpAny_of_C n _ a' w' k.2) (h.2 i hi)⟩
theorem unset {l : Array Bool} {i s : Nat} (h : (l.setIfInBounds i true).getD s true = false) : l.getD s true = false := by
  by_cases e : i = s
  · subst e
    by_cases hlt : i < l.size
    · simp [hlt] at h
    · simp [hlt] at h
  · rwa [getD_set_ne true e] at h

theorem wpAnyC_first {i : Nat} {oi : Oper} {v : Value} {T : World → Prop} {G : Array Bool → Prop} (hi : ops[i]? = some oi) (hst : i ≠ st) (hsel : ∀ (j : Nat) (o : Oper) cs b, ops[j]? = some o → o.op ≠ .select cs b)
    (hQ : ∀ c a w, Q (.panic c) (a.put oi.dst v) w → Q (.panic c) a w)
    (hG : ∀ l j, G l → l.getD i true = false → j ∈ Region.ready md ops l → j ≠ i → G (l.setIfInBounds j true))
    (hT : ∀ l w, G l → (l.getD st true = false → S w) → T w) :
    ∀ (n : Nat) (l : Array Bool) (a : Act) (w : World),
      (∀ j oj, ops[j]? = some oj → j ≠ i → l.getD j true = false → (∀ e ∈ oj.after, Region.binds md e = true → e.on ≠ i) → oi.apart ops oj = true) →
      i ∈ Region.ready md ops l → G l → YieldsIf P ops T oi v a → (l.getD st true = false → S w) →
      wpAnyC P md ops Q st S n (l.setIfInBounds i true) (a.put oi.dst v) w → wpAnyC P md ops Q st S (n + 1) l a w := by
  intro n
  induction n with
  | zero =>
    intro l a w _ hr hg hy hS H
    refine ⟨fun h => (by rw [h] at hr; cases hr), fun j hj => ?_⟩
    by_cases hji : j = i
    · subst hji
      exact hy.wpOp hi (hT l w hg hS) ⟨fun h => hS (unset h), H⟩
    · have := ready_mono hj hji
      rw [H.1] at this
      cases this
  | succ n ih =>
    intro l a w hfree hr hg hy hS H
    refine ⟨fun h => (by rw [h] at hr; cases hr), fun j hj => ?_⟩
    by_cases hji : j = i
    · subst hji
      exact hy.wpOp hi (hT l w hg hS) ⟨fun h => hS (unset h), H⟩
    · have h1 := H.2 j (ready_mono hj hji)
      obtain ⟨hjun, oj, hoj, hall⟩ := mem_ready.1 hj
      have hiun := (mem_ready.1 hr).1
      have hnot : ∀ e ∈ oj.after, Region.binds md e = true → e.on ≠ i := fun e he hb heq => by
        have k1 := hall e he hb
        have k0 := hiun
        rw [heq] at k1
        rcases Nat.lt_or_ge i l.size with h' | h'
        · simp [h'] at k0 k1; rw [k0] at k1; cases k1
        · simp [Array.getElem?_eq_none h'] at k1
      have h2 := wpOp_putIf hoj (hfree j oj hoj hji hjun hnot) (fun cs b => hsel i oi cs b hi) (fun cs b => hsel j oj cs b hoj) hQ hy h1
      have hfree' : ∀ k ok, ops[k]? = some ok → k ≠ i → (l.setIfInBounds j true).getD k true = false →
          (∀ e ∈ ok.after, Region.binds md e = true → e.on ≠ i) → oi.apart ops ok = true := fun k ok hk hki hun hno => hfree k ok hk hki (unset hun) hno
      have e1 : ((l.setIfInBounds i true).setIfInBounds j true).getD st true = (l.setIfInBounds j true).getD st true := by
        rw [Array.setIfInBounds_comm _ _ (Ne.symm hji), getD_set_ne true hst]
      refine wpOp_mono (fun a' w' h3 => ?_) h2
      have hS' : (l.setIfInBounds j true).getD st true = false → S w' := fun h => h3.2.1 (e1.trans h)
      refine ⟨hS', ih (l.setIfInBounds j true) a' w' hfree' (ready_mono hr (Ne.symm hji)) (hG l j hg hiun hj hji) h3.1 hS' ?_⟩
      rw [Array.setIfInBounds_comm _ _ hji]
      exact h3.2.2

/-- What yields in whatever world may be taken first. -/
theorem wpAnyC_any {i : Nat} {oi : Oper} {v : Value} {n : Nat} {l : Array Bool} {a : Act} {w : World} (hi : ops[i]? = some oi) (hst : (i == st) = false)
    (hs : Region.noSelect ops = true) (hf : Region.free md ops l i = true) (hr : (Region.ready md ops l).contains i = true)
    (hQ : ∀ c a w, Q (.panic c) (a.put oi.dst v) w → Q (.panic c) a w) (hy : YieldsIf P ops (fun _ => True) oi v a) (hS : l.getD st true = false → S w)
    (h : wpAnyC P md ops Q st S n (l.setIfInBounds i true) (a.put oi.dst v) w) : wpAnyC P md ops Q st S (n + 1) l a w :=
  wpAnyC_first (T := fun _ => True) (G := fun _ => True) hi (by simpa using hst) (Region.noSelect_spec hs) hQ (fun _ _ _ _ _ _ => trivial) (fun _ _ _ _ => trivial) n l a w (Region.free_spec hi hf) (by simpa using hr) trivial hy hS h

/-- Each of a chain waits for the one before it. -/
def chainWaits (md : Region.Mode) (ops : Array Oper) : Nat → List Nat → Bool
  | _, [] => true
  | i, c :: r => ((ops[c]?).map fun o => o.after.any fun e => Region.binds md e && e.on == i).getD false && chainWaits md ops c r
theorem chain_unset {l : Array Bool} : ∀ (i : Nat) (r : List Nat), chainWaits md ops i r = true → l.getD i true = false → (∀ c ∈ r, l.getD c true = false) → ∀ j, j ∈ Region.ready md ops l → j ∉ r
  | _, [], _, _, _, _, _ => by simp
  | i, c :: r, hw, hi, hr, j, hj => by
    unfold chainWaits at hw
    simp only [Bool.and_eq_true] at hw
    have hc := hr c (by simp)
    intro hm
    rcases List.mem_cons.1 hm with rfl | hm
    · obtain ⟨_, o, ho, hall⟩ := mem_ready.1 hj
      rw [ho] at hw
      simp only [Option.map_some, Option.getD_some, Array.any_eq_true, Bool.and_eq_true, beq_iff_eq] at hw
      obtain ⟨⟨x, hx, h1, h2⟩, -⟩ := hw
      have k1 := hall _ (Array.getElem_mem hx) h1
      rw [h2] at k1
      rcases Nat.lt_or_ge i l.size with h' | h'
      · simp [h'] at hi k1; rw [hi] at k1; cases k1
      · simp [Array.getElem?_eq_none h'] at k1
    · exact chain_unset c r hw.2 hc (fun d hd => hr d (by simp [hd])) j hj hm

/-- What yields while S holds may be taken first, if st waits for it. -/
theorem wpAnyC_take {i : Nat} (r : List Nat) {oi : Oper} {v : Value} {n : Nat} {l : Array Bool} {a : Act} {w : World} (hi : ops[i]? = some oi) (hw : chainWaits md ops i r = true) (hm : r.contains st = true) (hst : (i == st) = false) (hun : r.all (fun c => !l.getD c true) = true)
    (hs : Region.noSelect ops = true) (hf : Region.free md ops l i = true) (hr : (Region.ready md ops l).contains i = true)
    (hQ : ∀ c a w, Q (.panic c) (a.put oi.dst v) w → Q (.panic c) a w) (hy : YieldsIf P ops S oi v a) (hS : l.getD st true = false → S w)
    (h : wpAnyC P md ops Q st S n (l.setIfInBounds i true) (a.put oi.dst v) w) : wpAnyC P md ops Q st S (n + 1) l a w := by
  refine wpAnyC_first (T := S) (G := fun l => ∀ c ∈ r, l.getD c true = false) hi (by simpa using hst) (Region.noSelect_spec hs) hQ (fun l j hg hi hj hji c hc => ?_) (fun l w hg k => k (hg st (by simpa using hm))) n l a w (Region.free_spec hi hf) (by simpa using hr) (by simpa using hun) hy hS h
  have hn := chain_unset i r hw hi hg j hj
  have hjc : j ≠ c := fun e => hn (by rw [e]; exact hc)
  exact (getD_set_ne true hjc).trans (hg c hc)

/-- Those that may come up. -/
def AllReadyC (P : Program) (md : Region.Mode) (ops : Array Oper) (Q : Exit → Act → World → Prop) (st : Nat) (S : World → Prop) (n : Nat) (l : Array Bool) (a : Act) (w : World) (rs : List Nat) : Prop :=
  ∀ i ∈ rs, wpOp P ops Q i (fun a' w' => ((l.setIfInBounds i true).getD st true = false → S w') ∧ wpAnyC P md ops Q st S n (l.setIfInBounds i true) a' w') a w
theorem AllReadyC.nil {n : Nat} {l : Array Bool} {a : Act} {w : World} : AllReadyC P md ops Q st S n l a w [] := fun _ h => by cases h
theorem AllReadyC.cons {n : Nat} {l : Array Bool} {a : Act} {w : World} {i : Nat} {o : Oper} {rs : List Nat} (ho : ops[i]? = some o)
    (h : ∀ K' : Act → World → Prop, Shut (∀ a w, ((l.setIfInBounds i true).getD st true = false → S w) → wpAnyC P md ops Q st S n (l.setIfInBounds i true) a w → K' a w) → if Region.wanted o (yielded ops a.tmps) = true then Oper.wp P o a w K' Q else K' (a.put o.dst undef) w)
    (hs : AllReadyC P md ops Q st S n l a w rs) : AllReadyC P md ops Q st S n l a w (i :: rs) := fun j hj => by
  rcases List.mem_cons.1 hj with rfl | hj
  · exact wpOp_step ho (fun K' hK => h K' (fun a w hS hW => hK a w ⟨hS, hW⟩))
  · exact hs j hj
theorem wpAnyC_ready {rs : List Nat} {n : Nat} {l : Array Bool} {a : Act} {w : World} (hr : Region.ready md ops l = rs) (hne : rs ≠ [])
    (h : AllReadyC P md ops Q st S n l a w rs) : wpAnyC P md ops Q st S (n + 1) l a w := ⟨fun h0 => absurd (hr ▸ h0) hne, hr ▸ h⟩
theorem wpAnyC_done {l : Array Bool} {a : Act} {w : World} (hr : Region.ready md ops l = []) (h : Q .normal a w) : ∀ n, wpAnyC P md ops Q st S n l a w
  | 0 => ⟨hr, h⟩
  | _ + 1 => ⟨fun _ => h, by rw [hr]; simp⟩
theorem wp_region_C (st : Nat) (S : World → Prop) {id : Nat} {a : Act} {w : World} (hm : P.follows .mixedOrders = true)
    (h : wpAnyC P .any ops Q st S ops.size (Array.replicate ops.size false) a w.drew) : (Code.region id ops true).wp P Q a w :=
  wp_region_any hm (wpAny_of_C _ _ _ _ h)
end
end Go.Proofs.YtkmioieanopafaaDoor
