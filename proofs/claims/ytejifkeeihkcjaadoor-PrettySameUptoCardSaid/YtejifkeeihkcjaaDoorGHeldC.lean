/- Regions that draw their order and write, at their end, a cell that they load: a condition on the world that is asked till one operation (st) has come up; a load may be taken first if that operation waits for it, by a chain. No program in it. The docs' copies: what the walk of Program keeps; rows of names copied. The docs' copies: Program. The docs' count of trees: parts, many: that they answer. The docs' FewProgram: that it answers. -/
import Derived.Deep.RegionHeld3
import Derived.Test.YtejifkeeihkcjaaDoorGAstV
import Derived.Test.YtejifkeeihkcjaaDoorGAstB
namespace Go.Proofs.YtejifkeeihkcjaaDoor
section
section
variable {P : Program} {ops : Array Oper} {Q : Exit → Act → World → Prop} {md : Region.Mode} {st : Nat} {S : World → Prop}

/-- Whatever order is picked, S holds behind each operation till st has come up. -/
def wpAnyC (P : Program) (md : Region.Mode) (ops : Array Oper) (Q : Exit → Act → World → Prop) (st : Nat) (S : World → Prop) : Nat → Array Bool → Act → World → Prop
  | 0, l, a, w => Region.ready md ops l = [] ∧ Q .normal a w
  | n + 1, l, a, w => (Region.ready md ops l = [] → Q .normal a w) ∧
      ∀ i ∈ Region.ready md ops l, wpOp P ops Q i (fun a' w' => ((l.setIfInBounds i true).getD st true = false → S w') ∧ wpAnyC P md ops Q st S n (l.setIfInBounds i true) a' w') a w
theorem wpAny_of_C : ∀ (n : Nat) (l : Array Bool) (a : Act) (w : World), wpAnyC P md ops Q st S n l a w → wpAny P md ops Q n l a w
  | 0, _, _, _, h => h
  | n + 1, _, _, _, h => ⟨h.1, fun i hi => wpOp_mono (fun a' w' k => wpAny_of_C n _ a' w' k.2) (h.2 i hi)⟩
theorem unset {l : Array Bool} {i s : Nat} (h : (l.setIfInBounds i true).getD s true = false) : l.getD s true = false := by
  by_cases e : i = s
  · subst e
    by_cases hlt : i < l.size
    · simp [hlt] at h
    · simp [hlt] at h
  · rwa [getD_set_ne true e] at h

theorem wpAnyC_first {i : Nat} {oi : Oper} {v : Value} {T : World → Prop} {G : Array Bool → Prop} (hi : ops[i]? = some oi) (hst : i ≠ st) (hsel : ∀ (j : Nat) (o : Oper) cs b, ops[j]? = some o → o.op ≠ .select cs b)
    (hQ : ∀ c a w, Q (.panic c) (a.put oi.dst v) w → Q (.panic c) a w)
    (hG : ∀ l j, G l → l.getD i true = false → j ∈ Region.ready md ops l → j ≠ i → G (l.setIfInBounds j true))
    (hT : ∀ l w, G l → (l.getD st true = false → S w) → T w) :
    ∀ (n : Nat) (l : Array Bool) (a : Act) (w : World),
      (∀ j oj, ops[j]? = some oj → j ≠ i → l.getD j true = false → (∀ e ∈ oj.after, Region.binds md e = true → e.on ≠ i) → oi.apart ops oj = true) →
      i ∈ Region.ready md ops l → G l → YieldsIf P ops T oi v a → (l.getD st true = false → S w) →
      wpAnyC P md ops Q st S n (l.setIfInBounds i true) (a.put oi.dst v) w → wpAnyC P md ops Q st S (n + 1) l a w := by
  intro n
  induction n with
  | zero =>
    intro l a w _ hr hg hy hS H
    refine ⟨fun h => (by rw [h] at hr; cases hr), fun j hj => ?_⟩
    by_cases hji : j = i
    · subst hji
      exact hy.wpOp hi (hT l w hg hS) ⟨fun h => hS (unset h), H⟩
    · have := ready_mono hj hji
      rw [H.1] at this
      cases this
  | succ n ih =>
    intro l a w hfree hr hg hy hS H
    refine ⟨fun h => (by rw [h] at hr; cases hr), fun j hj => ?_⟩
    by_cases hji : j = i
    · subst hji
      exact hy.wpOp hi (hT l w hg hS) ⟨fun h => hS (unset h), H⟩
    · have h1 := H.2 j (ready_mono hj hji)
      obtain ⟨hjun, oj, hoj, hall⟩ := mem_ready.1 hj
      have hiun := (mem_ready.1 hr).1
      have hnot : ∀ e ∈ oj.after, Region.binds md e = true → e.on ≠ i := fun e he hb heq => by
        have k1 := hall e he hb
        have k0 := hiun
        rw [heq] at k1
        rcases Nat.lt_or_ge i l.size with h' | h'
        · simp [h'] at k0 k1; rw [k0] at k1; cases k1
        · simp [Array.getElem?_eq_none h'] at k1
      have h2 := wpOp_putIf hoj (hfree j oj hoj hji hjun hnot) (fun cs b => hsel i oi cs b hi) (fun cs b => hsel j oj cs b hoj) hQ hy h1
      have hfree' : ∀ k ok, ops[k]? = some ok → k ≠ i → (l.setIfInBounds j true).getD k true = false →
          (∀ e ∈ ok.after, Region.binds md e = true → e.on ≠ i) → oi.apart ops ok = true := fun k ok hk hki hun hno => hfree k ok hk hki (unset hun) hno
      have e1 : ((l.setIfInBounds i true).setIfInBounds j true).getD st true = (l.setIfInBounds j true).getD st true := by
        rw [Array.setIfInBounds_comm _ _ (Ne.symm hji), getD_set_ne true hst]
      refine wpOp_mono (fun a' w' h3 => ?_) h2
      have hS' : (l.setIfInBounds j true).getD st true = false → S w' := fun h => h3.2.1 (e1.trans h)
      refine ⟨hS', ih (l.setIfInBounds j true) a' w' hfree' (ready_mono hr (Ne.symm hji)) (hG l j hg hiun hj hji) h3.1 hS' ?_⟩
      rw [Array.setIfInBounds_comm _ _ hji]
      exact h3.2.2

/-- What yields in whatever world may be taken first. -/
theorem wpAnyC_any {i : Nat} {oi : Oper} {v : Value} {n : Nat} {l : Array Bool} {a : Act} {w : World} (hi : ops[i]? = some oi) (hst : (i == st) = false)
    (hs : Region.noSelect ops = true) (hf : Region.free md ops l i = true) (hr : (Region.ready md ops l).contains i = true)
    (hQ : ∀ c a w, Q (.panic c) (a.put oi.dst v) w → Q (.panic c) a w) (hy : YieldsIf P ops (fun _ => True) oi v a) (hS : l.getD st true = false → S w)
    (h : wpAnyC P md ops Q st S n (l.setIfInBounds i true) (a.put oi.dst v) w) : wpAnyC P md ops Q st S (n + 1) l a w :=
  wpAnyC_first (T := fun _ => True) (G := fun _ => True) hi (by simpa using hst) (Region.noSelect_spec hs) hQ (fun _ _ _ _ _ _ => trivial) (fun _ _ _ _ => trivial) n l a w (Region.free_spec hi hf) (by simpa using hr) trivial hy hS h

/-- Each of a chain waits for the one before it. -/
def chainWaits (md : Region.Mode) (ops : Array Oper) : Nat → List Nat → Bool
  | _, [] => true
  | i, c :: r => ((ops[c]?).map fun o => o.after.any fun e => Region.binds md e && e.on == i).getD false && chainWaits md ops c r
theorem chain_unset {l : Array Bool} : ∀ (i : Nat) (r : List Nat), chainWaits md ops i r = true → l.getD i true = false → (∀ c ∈ r, l.getD c true = false) → ∀ j, j ∈ Region.ready md ops l → j ∉ r
  | _, [], _, _, _, _, _ => by simp
  | i, c :: r, hw, hi, hr, j, hj => by
    unfold chainWaits at hw
    simp only [Bool.and_eq_true] at hw
    have hc := hr c (by simp)
    intro hm
    rcases List.mem_cons.1 hm with rfl | hm
    · obtain ⟨_, o, ho, hall⟩ := mem_ready.1 hj
      rw [ho] at hw
      simp only [Option.map_some, Option.getD_some, Array.any_eq_true, Bool.and_eq_true, beq_iff_eq] at hw
      obtain ⟨⟨x, hx, h1, h2⟩, -⟩ := hw
      have k1 := hall _ (Array.getElem_mem hx) h1
      rw [h2] at k1
      rcases Nat.lt_or_ge i l.size with h' | h'
      · simp [h'] at hi k1; rw [hi] at k1; cases k1
      · simp [Array.getElem?_eq_none h'] at k1
    · exact chain_unset c r hw.2 hc (fun d hd => hr d (by simp [hd])) j hj hm

/-- What yields while S holds may be taken first, if st waits for it. -/
theorem wpAnyC_take {i : Nat} (r : List Nat) {oi : Oper} {v : Value} {n : Nat} {l : Array Bool} {a : Act} {w : World} (hi : ops[i]? = some oi) (hw : chainWaits md ops i r = true) (hm : r.contains st = true) (hst : (i == st) = false) (hun : r.all (fun c => !l.getD c true) = true)
    (hs : Region.noSelect ops = true) (hf : Region.free md ops l i = true) (hr : (Region.ready md ops l).contains i = true)
    (hQ : ∀ c a w, Q (.panic c) (a.put oi.dst v) w → Q (.panic c) a w) (hy : YieldsIf P ops S oi v a) (hS : l.getD st true = false → S w)
    (h : wpAnyC P md ops Q st S n (l.setIfInBounds i true) (a.put oi.dst v) w) : wpAnyC P md ops Q st S (n + 1) l a w := by
  refine wpAnyC_first (T := S) (G := fun l => ∀ c ∈ r, l.getD c true = false) hi (by simpa using hst) (Region.noSelect_spec hs) hQ (fun l j hg hi hj hji c hc => ?_) (fun l w hg k => k (hg st (by simpa using hm))) n l a w (Region.free_spec hi hf) (by simpa using hr) (by simpa using hun) hy hS h
  have hn := chain_unset i r hw hi hg j hj
  have hjc : j ≠ c := fun e => hn (by rw [e]; exact hc)
  exact (getD_set_ne true hjc).trans (hg c hc)

/-- Those that may come up. -/
def AllReadyC (P : Program) (md : Region.Mode) (ops : Array Oper) (Q : Exit → Act → World → Prop) (st : Nat) (S : World → Prop) (n : Nat) (l : Array Bool) (a : Act) (w : World) (rs : List Nat) : Prop :=
  ∀ i ∈ rs, wpOp P ops Q i (fun a' w' => ((l.setIfInBounds i true).getD st true = false → S w') ∧ wpAnyC P md ops Q st S n (l.setIfInBounds i true) a' w') a w
theorem AllReadyC.nil {n : Nat} {l : Array Bool} {a : Act} {w : World} : AllReadyC P md ops Q st S n l a w [] := fun _ h => by cases h
theorem AllReadyC.cons {n : Nat} {l : Array Bool} {a : Act} {w : World} {i : Nat} {o : Oper} {rs : List Nat} (ho : ops[i]? = some o)
    (h : ∀ K' : Act → World → Prop, Shut (∀ a w, ((l.setIfInBounds i true).getD st true = false → S w) → wpAnyC P md ops Q st S n (l.setIfInBounds i true) a w → K' a w) → if Region.wanted o (yielded ops a.tmps) = true then Oper.wp P o a w K' Q else K' (a.put o.dst undef) w)
    (hs : AllReadyC P md ops Q st S n l a w rs) : AllReadyC P md ops Q st S n l a w (i :: rs) := fun j hj => by
  rcases List.mem_cons.1 hj with rfl | hj
  · exact wpOp_step ho (fun K' hK => h K' (fun a w hS hW => hK a w ⟨hS, hW⟩))
  · exact hs j hj
theorem wpAnyC_ready {rs : List Nat} {n : Nat} {l : Array Bool} {a : Act} {w : World} (hr : Region.ready md ops l = rs) (hne : rs ≠ [])
    (h : AllReadyC P md ops Q st S n l a w rs) : wpAnyC P md ops Q st S (n + 1) l a w := ⟨fun h0 => absurd (hr ▸ h0) hne, hr ▸ h⟩
theorem wpAnyC_done {l : Array Bool} {a : Act} {w : World} (hr : Region.ready md ops l = []) (h : Q .normal a w) : ∀ n, wpAnyC P md ops Q st S n l a w
  | 0 => ⟨hr, h⟩
  | _ + 1 => ⟨fun _ => h, by rw [hr]; simp⟩
theorem wp_region_C (st : Nat) (S : World → Prop) {id : Nat} {a : Act} {w : World} (hm : P.follows .mixedOrders = true)
    (h : wpAnyC P .any ops Q st S ops.size (Array.replicate ops.size false) a w.drew) : (Code.region id ops true).wp P Q a w :=
  wp_region_any hm (wpAny_of_C _ _ _ _ h)
end
end

section
open Go.RowKit

/-- A row of names, copied by an append onto nothing. -/
theorem copyNames (W : World) (P : Option Addr) (r : List (List UInt8)) (cp : Nat) (h : RowS W P r.length r) (hlen : r.length ≤ 4000000) :
    ∃ A' c' w', (Builtin.append_ #[45, 45] 45 #[.slice none 0 0, .slice P r.length cp]).run Tryd.prog W = .ok (.slice A' r.length c') w' ∧ RowS (only w' (frB W.heap.size)) A' r.length r ∧ Below W.heap.size W w' ∧ W.grownBy w' none := by
  obtain ⟨i0, hi, hz0, hz1, hz2⟩ := info_parts info_str
  obtain ⟨v', w', hrun, hown, hgrow, _⟩ := run_append_any (P := Tryd.prog) W W.heap.size 45 45 9 i0 (.string ByteArray.empty) 1 16 Tryd.underlying45 hi hz0 hz1 hz2 rfl (by decide) (.slice none 0 0) 0 [] (World.ownsRow_nil _ _ _ _) W.heap.size P r.length cp (strs r) h (strs_oneCell r) (by unfold maxLen; omega) (by omega) (Nat.le_refl _)
  simp only [List.nil_append, Nat.zero_add] at hown
  have hb : Below W.heap.size W w' := (Below.refl _ _).grown hgrow (Nat.le_refl _) (by simp [Value.ownBlock])
  rcases hown.2 with ⟨rfl, h0⟩ | ⟨g, cap, cur, rfl, hg, hgb, hl, hc, hm, hx⟩
  · have hn : r = [] := List.eq_nil_of_length_eq_zero h0
    subst hn
    exact ⟨none, 0, w', hrun, ⟨rfl, fun h => absurd h (by simp)⟩, hb, hgrow⟩
  · refine ⟨some ⟨g, 0, none⟩, cap, w', hrun, ⟨by simp [strs], fun hn => ⟨_, rfl, ?_, fun j u hu => ?_⟩⟩, hb, hgrow⟩
    · rw [only_size]
      exact (Array.getElem?_eq_some_iff.1 hgb).1
    · rw [← hx] at hu
      rw [add_at, Nat.zero_add]
      refine only_cell_mk ?_ (by unfold frB; simpa using hg)
      rw [cell_of_row _ _ j _ _ _ hgb]
      rw [List.getElem?_take] at hu
      split at hu
      · simpa using hu
      · cases hu

/-- Blocks from lo on, below hi, but one. -/
def frM (lo hi g : Nat) (i : Nat) : Bool := decide (lo ≤ i ∧ i < hi ∧ i ≠ g)
theorem frM_new (W : World) {k : Nat} (o : Obj) : Sub (only W (frB k)) (only (W.alloc o) (frM k (W.heap.size + 1) W.heap.size)) := Sub.only_of (by simp) fun p v hp hv => by
  have hlt := World.block_lt_of_cell? W p hv
  refine ⟨(bnew5 W o).cell hlt |>.trans hv, ?_⟩
  unfold frB frM at *
  simp at hp ⊢
  omega
theorem frM_of (W : World) {k hi g : Nat} (hh : W.heap.size ≤ hi) (hk : g < k) : Sub (only W (frB k)) (only W (frM k hi g)) := Sub.only_of (Nat.le_refl _) fun p v hp hv => by
  have hlt := World.block_lt_of_cell? W p hv
  refine ⟨hv, ?_⟩
  unfold frB frM at *
  simp at hp ⊢
  omega
theorem frM_lo (W : World) {k k' hi g : Nat} (hk : k' ≤ k) : Sub (only W (frM k hi g)) (only W (frM k' hi g)) := Sub.only_of (Nat.le_refl _) fun p v hp hv => by
  refine ⟨hv, ?_⟩
  unfold frM at *
  simp at hp ⊢
  omega
theorem frM_below {W W' : World} {lo hi g : Nat} (hb : Below W.heap.size W W') : Sub (only W (frM lo hi g)) (only W' (frM lo hi g)) := Sub.only_of hb.size fun _ _ hp hv => ⟨cst5 hb hv, hp⟩
theorem frM_set (W : World) {lo hi g o : Nat} (u : Value) : Sub (only W (frM lo hi g)) (only (W.setCell ⟨g, o, none⟩ u) (frM lo hi g)) := Sub.only_of (by simp [World.setCell]) fun p v hp hv => by
  refine ⟨?_, hp⟩
  rw [World.cell?_setCell_other _ _ _ _ ?_]
  · exact hv
  · rintro rfl
    unfold frM at hp
    simp at hp
theorem frM_setlo (W : World) {lo hi g b o : Nat} (u : Value) (h : b < lo) : Sub (only W (frM lo hi g)) (only (W.setCell ⟨b, o, none⟩ u) (frM lo hi g)) := Sub.only_of (by simp [World.setCell]) fun p v hp hv => by
  refine ⟨?_, hp⟩
  rw [World.cell?_setCell_other _ _ _ _ ?_]
  · exact hv
  · rintro rfl
    unfold frM at hp
    simp at hp
    omega
theorem frM_frB (W : World) {k lo hi g : Nat} (h : k ≤ lo) : Sub (only W (frM lo hi g)) (only W (frB k)) := Sub.only_of (Nat.le_refl _) fun p v hp hv => by
  refine ⟨hv, ?_⟩
  unfold frM frB at *
  simp at hp ⊢
  omega
/-- Blocks from lo on, below hi. -/
def frI (lo hi : Nat) (i : Nat) : Bool := decide (lo ≤ i ∧ i < hi)
theorem frI_of (W : World) (k : Nat) : Sub (only W (frB k)) (only W (frI k W.heap.size)) := Sub.only_of (Nat.le_refl _) fun p v hp hv => by
  have hlt := World.block_lt_of_cell? W p hv
  refine ⟨hv, ?_⟩
  unfold frB frI at *
  simp at hp ⊢
  omega
theorem frI_below {W W' : World} {lo hi : Nat} (hb : Below W.heap.size W W') : Sub (only W (frI lo hi)) (only W' (frI lo hi)) := Sub.only_of hb.size fun _ _ hp hv => ⟨cst5 hb hv, hp⟩
theorem frI_set (W : World) {lo hi b o : Nat} (u : Value) (h : b < lo ∨ hi ≤ b) : Sub (only W (frI lo hi)) (only (W.setCell ⟨b, o, none⟩ u) (frI lo hi)) := Sub.only_of (by simp [World.setCell]) fun p v hp hv => by
  refine ⟨?_, hp⟩
  rw [World.cell?_setCell_other _ _ _ _ ?_]
  · exact hv
  · rintro rfl
    unfold frI at hp
    simp at hp
    omega
theorem frM_grown {W W' : World} {lo hi g : Nat} {ob : Option Nat} (hg : W.grownBy W' ob) (ho : ∀ b, ob = some b → hi ≤ b) : Sub (only W (frM lo hi g)) (only W' (frM lo hi g)) := Sub.only_of hg.size fun p v hp hv => by
  have hlt := World.block_lt_of_cell? W p hv
  refine ⟨(World.cell?_of_block (hg.block p.block hlt (fun e => ?_))).trans hv, hp⟩
  have := ho _ e.symm
  unfold frM at hp
  simp at hp
  omega

section
variable {w : World} {A1 : Option Addr} {n c1 : Nat} {A2 : Option Addr} {m c2 : Nat} {B2 : Option Addr} {d2 g3 Bl : Nat} {mn : List SV} {v : Value} {es : List DV} {W W' : World}
end
end

section
open Go.RowKit
end

section
open Go.RowKit

set_option maxRecDepth 100000 in
set_option maxHeartbeats 4000000 in
theorem docsParts (N : Nat) : ∀ (es : List XV), xsz es ≤ N → N ≤ 4000000 → ∀ (A : Option Addr) (c : Nat) (most deep : Int) (w : World), XR w A es → Calls Tryd.prog 31 #[.slice A es.length c, .int .i64 most, .int .i64 deep] w fun e w' => (∃ r, e = .returned (.int .i64 r)) ∧ w' = w := by
  induction N using Nat.strongRecOn with
  | ind N ih =>
  intro es hN hNN A c most deep w hx
  have hlen := xsz_len es
  obtain ⟨n, hn⟩ : ∃ n, n = es.length := ⟨_, rfl⟩
  have hx2 := Lib.hid hx
  rw [← hn]
  rw [← hn] at hlen
  have HN := Lib.hid hn
  have hn0 : (0 : Int) ≤ n := by omega
  obtain ⟨dd, hdd⟩ : ∃ dd, IntKind.i64.wrap (deep - 1) = dd := ⟨_, rfl⟩
  clear hn hx
  by_cases hd : deep ≤ 0
  · by_cases hz : 0 < (n : Int)
    · go_enter Tryd.func31, Tryd.ntmps31
      go_wp2_with fail
      go_ret
      first | exact ⟨⟨_, rfl⟩, rfl⟩ | exact ⟨_, rfl⟩ | skip
    · go_enter Tryd.func31, Tryd.ntmps31
      go_wp2_with fail
      go_loopw [7, 8] (fun v u W => ∃ i : Nat, i ≤ n ∧ u = .int .i64 i ∧ (∃ x : Int, v = .int .i64 x) ∧ W = w) (fun _ u _ => n - (intOf u).toNat)
      case atStart => exact ⟨0, by omega, rfl, ⟨0, rfl⟩, rfl⟩
      case round =>
        obtain ⟨i, hi, rfl, ⟨x, rfl⟩, rfl⟩ := hrel
        by_cases hlt : i < n
        · have hlt' : (i : Int) < n := by omega
          exact absurd hlt' (by omega)
        · obtain rfl : i = n := by omega
          have hlt' : ¬ (i : Int) < i := by omega
          go_wp2_with fail
          go_ret
          first | exact ⟨⟨_, rfl⟩, rfl⟩ | exact ⟨_, rfl⟩ | skip
  · go_enter Tryd.func31, Tryd.ntmps31
    go_wp2_with fail
    go_loopw [7, 8] (fun v u W => ∃ i : Nat, i ≤ n ∧ u = .int .i64 i ∧ (∃ x : Int, v = .int .i64 x) ∧ W = w) (fun _ u _ => n - (intOf u).toNat)
    case atStart => exact ⟨0, by omega, rfl, ⟨0, rfl⟩, rfl⟩
    case round =>
      obtain ⟨i, hi, rfl, ⟨x, rfl⟩, rfl⟩ := hrel
      by_cases hlt : i < n
      · have hlt' : (i : Int) < n := by omega
        by_cases hm : x ≤ most
        · obtain ⟨ad, e, A', c', rfl, he, hc, hx'⟩ := hx2.out.args (i := i) (by rw [← HN.out]; exact hlt)
          have hsz := xsz_get he
          rw [xsz1_eq] at hsz
          have hq := ih (xsz e.gs) (by omega) e.gs (Nat.le_refl _) (by omega) A' c' most dd wr hx'
          clear he hx' hsz
          generalize e.gs.length = m at *
          go_wp2_with fail
          refine hq.mono ?_
          rintro e1 w1 ⟨⟨r, rfl⟩, rfl⟩
          go_wp2_with fail
          exact ⟨⟨i + 1, by omega, by go_num, ⟨_, rfl⟩, by first | rfl | trivial⟩, by simp [intOf]; omega⟩
        · go_wp2_with fail
          go_ret
          first | exact ⟨⟨_, rfl⟩, rfl⟩ | exact ⟨_, rfl⟩ | skip
      · obtain rfl : i = n := by omega
        have hlt' : ¬ (i : Int) < i := by omega
        go_wp2_with fail
        go_ret
        first | exact ⟨⟨_, rfl⟩, rfl⟩ | exact ⟨_, rfl⟩ | skip

set_option maxRecDepth 100000 in
set_option maxHeartbeats 8000000 in
theorem docsMany (N : Nat) : ∀ (l : List SV), ssz l ≤ N → N ≤ 4000000 → ∀ (A : Option Addr) (c : Nat) (most deep : Int) (w : World), SR w A l → Calls Tryd.prog 11 #[.slice A l.length c, .int .i64 most, .int .i64 deep] w fun e w' => (∃ r, e = .returned (.int .i64 r)) ∧ Below w.heap.size w w' := by
  induction N using Nat.strongRecOn with
  | ind N ih =>
  intro l hN hNN A c most deep w hx
  have hlen := ssz_len l
  obtain ⟨n, hn⟩ : ∃ n, n = l.length := ⟨_, rfl⟩
  have hx2 := Lib.hid hx
  rw [← hn]
  rw [← hn] at hlen
  have HN := Lib.hid hn
  have hn0 : (0 : Int) ≤ n := by omega
  obtain ⟨dd, hdd⟩ : ∃ dd, IntKind.i64.wrap (deep - 1) = dd := ⟨_, rfl⟩
  clear hn hx
  by_cases hd : deep = 0
  · by_cases hz : 0 < (n : Int)
    · go_enter Tryd.func11, Tryd.ntmps11
      go_wp2_with fail
      go_ret
      first | exact ⟨⟨_, rfl⟩, Below.refl _ _⟩ | exact Below.refl _ _
    · go_enter Tryd.func11, Tryd.ntmps11
      go_wp2_with fail
      go_loopw [7, 8] (fun v u W => ∃ i : Nat, i ≤ n ∧ u = .int .i64 i ∧ (∃ x : Int, v = .int .i64 x) ∧ Hid (Below w.heap.size w W)) (fun _ u _ => n - (intOf u).toNat)
      case atStart => exact ⟨0, by omega, rfl, ⟨0, rfl⟩, Below.refl _ _⟩
      case round =>
        obtain ⟨i, hi, rfl, ⟨x, rfl⟩, hbw⟩ := hrel
        by_cases hlt : i < n
        · have hlt' : (i : Int) < n := by omega
          exact absurd hlt' (by omega)
        · obtain rfl : i = n := by omega
          have hlt' : ¬ (i : Int) < i := by omega
          go_wp2_with fail
          go_ret
          first | exact ⟨⟨_, rfl⟩, hbw.out⟩ | exact hbw.out
  · go_enter Tryd.func11, Tryd.ntmps11
    go_wp2_with fail
    go_loopw [7, 8] (fun v u W => ∃ i : Nat, i ≤ n ∧ u = .int .i64 i ∧ (∃ x : Int, v = .int .i64 x) ∧ Hid (Below w.heap.size w W)) (fun _ u _ => n - (intOf u).toNat)
    case atStart => exact ⟨0, by omega, rfl, ⟨0, rfl⟩, Below.refl _ _⟩
    case round =>
      obtain ⟨i, hi, rfl, ⟨x, rfl⟩, hbw⟩ := hrel
      by_cases hlt : i < n
      · have hlt' : (i : Int) < n := by omega
        by_cases hm : x ≤ most
        · obtain ⟨ad, e, A1, c1, A2, c2, A3, c3, rfl, he, hk⟩ := (hx2.out.step hbw.out).kb (i := i) (by rw [← HN.out]; exact hlt)
          have hsz := ssz_get he
          rw [ssz1_eq] at hsz
          have k0 := Lib.hid (hk.step (Below.refl wr.heap.size wr).drew)
          have qx := docsParts (xsz e.es) e.es (Nat.le_refl _) (by omega) A1 c1 most dd wr.drew k0.out.x
          have q1 := ih (ssz e.ts) (by omega) e.ts (Nat.le_refl _) (by omega) A2 c2 most dd wr.drew k0.out.t
          have q2 := Lib.hid (fun W (h : SR W A3 e.us) => ih (ssz e.us) (by omega) e.us (Nat.le_refl _) (by omega) A3 c3 most dd W h)
          have s0 := k0.out.c
          clear he hsz hk
          go_wp2_with fail
          go_region_held3 (fun w' => w'.cell? ⟨(ad.add (i * 7)).block, (ad.add (i * 7)).off + 2, none⟩ = some (.slice A1 e.es.length c1) ∧ w'.cell? ⟨(ad.add (i * 7)).block, (ad.add (i * 7)).off + 3, none⟩ = some (.slice A2 e.ts.length c2) ∧ w'.cell? ⟨(ad.add (i * 7)).block, (ad.add (i * 7)).off + 4, none⟩ = some (.slice A3 e.us.length c3)) (first | with_reducible exact s0 | with_reducible exact s1 | with_reducible exact s2)
            (first
              | (go_at_call 31
                 with_reducible refine qx.mono ?_
                 rintro e1 w1 ⟨⟨r1, rfl⟩, rfl⟩)
              | (go_at_call 11
                 with_reducible refine q1.mono ?_
                 rintro e1 w1 ⟨⟨r2, rfl⟩, hw1⟩
                 have k1 := Lib.hid (k0.out.step hw1)
                 have s1 := k1.out.c
                 have q3 := q2.out w1 k1.out.u)
              | (go_at_call 11
                 with_reducible refine q3.mono ?_
                 rintro e1 w2 ⟨⟨r3, rfl⟩, hw2⟩
                 have k2 := Lib.hid (k1.out.step hw2)
                 have s2 := k2.out.c))
          go_wp2_with fail
          exact ⟨⟨i + 1, by omega, by go_num, ⟨_, rfl⟩, bth5 hbw.out k2.out.b⟩, by simp [intOf]; omega⟩
        · go_wp2_with fail
          go_ret
          first | exact ⟨⟨_, rfl⟩, hbw.out⟩ | exact hbw.out
      · obtain rfl : i = n := by omega
        have hlt' : ¬ (i : Int) < i := by omega
        go_wp2_with fail
        go_ret
        first | exact ⟨⟨_, rfl⟩, hbw.out⟩ | exact hbw.out
end

section
open Go.RowKit

/-- Some bool is answered. -/
def AnsB (r : Ending) : Prop := ∃ b, r = .returned (.bool b)

set_option maxRecDepth 100000 in
set_option maxHeartbeats 8000000 in
theorem docsFew (ds : List DV) (mn : List SV) (hs : sbk mn + dbk ds ≤ 4000000) (A1 : Option Addr) (c1 : Nat) (A2 : Option Addr) (c2 : Nat) (most : Int) (w : World) (hx : DR w A1 ds) (hy : SR w A2 mn) : Calls Tryd.prog 4 #[pval A1 ds.length c1 A2 mn.length c2, .int .i64 most] w fun r w' => AnsB r ∧ Below w.heap.size w w' := by
  obtain ⟨n, hn⟩ : ∃ n, n = ds.length := ⟨_, rfl⟩
  obtain ⟨m, hm⟩ : ∃ m, m = mn.length := ⟨_, rfl⟩
  unfold pval
  have hbw := bnew5 w (.cells #[.slice A1 ds.length c1, .slice A2 mn.length c2] 25)
  have ha := Box.new w [.slice A1 ds.length c1, .slice A2 mn.length c2] 25
  have hsb := ssz_bk mn
  have hlen : n ≤ 4000000 := by have := dsz_bk ds; have := dsz_len ds; omega
  have hdk : Hid (dbk ds ≤ 4000000) := by show _ ≤ _; omega
  have q1 := Lib.hid (fun W h => docsMany (ssz mn) mn (Nat.le_refl _) (by omega) A2 c2 most 60 W h)
  rw [← hn, ← hm] at ha hbw ⊢
  rw [← hm] at q1
  have HN := Lib.hid (And.intro hn hm)
  clear hn hm hsb hs
  have hx2 := Lib.hid hx
  have hy2 := Lib.hid hy
  clear hx hy
  go_enter Tryd.func4, Tryd.ntmps4
  go_wp2_with fail
  generalize hW0 : w.alloc (.cells #[.slice A1 n c1, .slice A2 m c2] 25) = W0 at *
  have ha := Lib.hid ha
  have hbw := Lib.hid hbw
  clear hW0
  go_loopw [5] (fun u W => ∃ i : Nat, i ≤ n ∧ u = .int .i64 i ∧ W = W0) (fun u _ => n - (intOf u).toNat)
  case atStart => exact ⟨0, by omega, rfl, rfl⟩
  case round =>
    obtain ⟨i, hi, rfl, rfl⟩ := hrel
    have s0 := ha.out.two
    by_cases hlt : i < n
    · have hlt' : (i : Int) < n := by omega
      by_cases hm : (i : Int) ≤ most
      · obtain ⟨ad, d, rfl, hd, P1, pc, P2, pd, e0, e1, e2, e3, e4, e5, e6, e7, e8, -, -⟩ := (hx2.out.step hbw.out).el (i := i) (by rw [← HN.out.1]; exact hlt)
        clear hd e0 e1 e2 e3 e4 e6 e7 e8
        generalize d.ps.length = k at *
        by_cases hk : (40 : Int) < k
        · go_wp2_with fail
          go_ret
          first | exact ⟨⟨_, rfl⟩, hbw.out⟩ | exact hbw.out
        · go_wp2_with fail
          exact ⟨⟨i + 1, by omega, by go_num, by first | rfl | trivial⟩, by simp [intOf]; omega⟩
      · go_wp2_with fail
        go_loopw [6, 7] (fun v u W => ∃ i : Nat, i ≤ n ∧ u = .int .i64 i ∧ (∃ x : Int, v = .int .i64 x) ∧ Hid (Box W w.heap.size [.slice A1 n c1, .slice A2 m c2] ∧ Below w.heap.size w W)) (fun _ u _ => n - (intOf u).toNat)
        case atStart => exact ⟨0, by omega, rfl, ⟨0, rfl⟩, ha.out, hbw.out⟩
        case round =>
          clear s0
          obtain ⟨i, hi, rfl, ⟨x, rfl⟩, hst⟩ := hrel
          have s0 := hst.out.1.two
          by_cases hlt : i < n
          · have hlt' : (i : Int) < n := by omega
            by_cases hm : (i : Int) ≤ most
            · obtain ⟨ad, d, rfl, hd, P1, pc, P2, pd, e0, e1, e2, e3, e4, e5, e6, e7, e8, -, hy'⟩ := (hx2.out.step hst.out.2).el (i := i) (by rw [← HN.out.1]; exact hlt)
              have hdb := dbk_get hd
              have hdl := hdk.out
              unfold dbk1 at hdb
              have hbb := ssz_bk d.body
              have hq := docsMany (ssz d.body) d.body (Nat.le_refl _) (by omega) P2 pd most 60 wr hy'
              clear hd e0 e1 e2 e3 e4 e5 e7 e8 hdb hdl hbb hy'
              generalize d.body.length = k at *
              go_wp2_with fail
              refine hq.mono ?_
              rintro e1 w1 ⟨⟨r, rfl⟩, hb1⟩
              have hst2 : Hid (Box w1 w.heap.size [.slice (some ad) n c1, .slice A2 m c2] ∧ Below w.heap.size w w1) := ⟨hst.out.1.step hb1, bth5 hst.out.2 hb1⟩
              clear hb1 hq
              go_wp2_with fail
              exact ⟨⟨i + 1, by omega, by go_num, ⟨_, rfl⟩, hst2.out⟩, by simp [intOf]; omega⟩
            · by_cases hnm : (n : Int) ≤ most
              · exact absurd hlt' (by omega)
              · go_wp2_with fail
                go_ret
                first | exact ⟨⟨_, rfl⟩, hst.out.2⟩ | exact hst.out.2
          · obtain rfl : i = n := by omega
            have hlt' : ¬ (i : Int) < i := by omega
            by_cases hnm : (i : Int) ≤ most
            · exfalso; omega
            · go_wp2_with fail
              go_ret
              first | exact ⟨⟨_, rfl⟩, hst.out.2⟩ | exact hst.out.2
    · have hlt' : ¬ (i : Int) < n := by omega
      go_wp2_with fail
      clear hlt hlt' hi
      go_loopw [6, 7] (fun v u W => ∃ i : Nat, i ≤ n ∧ u = .int .i64 i ∧ (∃ x : Int, v = .int .i64 x) ∧ Hid (Box W w.heap.size [.slice A1 n c1, .slice A2 m c2] ∧ Below w.heap.size w W)) (fun _ u _ => n - (intOf u).toNat)
      case atStart => exact ⟨0, by omega, rfl, ⟨0, rfl⟩, ha.out, hbw.out⟩
      case round =>
        clear s0
        obtain ⟨i, hi, rfl, ⟨x, rfl⟩, hst⟩ := hrel
        have s0 := hst.out.1.two
        by_cases hlt : i < n
        · have hlt' : (i : Int) < n := by omega
          by_cases hm : (i : Int) ≤ most
          · obtain ⟨ad, d, rfl, hd, P1, pc, P2, pd, e0, e1, e2, e3, e4, e5, e6, e7, e8, -, hy'⟩ := (hx2.out.step hst.out.2).el (i := i) (by rw [← HN.out.1]; exact hlt)
            have hdb := dbk_get hd
            have hdl := hdk.out
            unfold dbk1 at hdb
            have hbb := ssz_bk d.body
            have hq := docsMany (ssz d.body) d.body (Nat.le_refl _) (by omega) P2 pd most 60 wr hy'
            clear hd e0 e1 e2 e3 e4 e5 e7 e8 hdb hdl hbb hy'
            generalize d.body.length = k at *
            go_wp2_with fail
            refine hq.mono ?_
            rintro e1 w1 ⟨⟨r, rfl⟩, hb1⟩
            have hst2 : Hid (Box w1 w.heap.size [.slice (some ad) n c1, .slice A2 m c2] ∧ Below w.heap.size w w1) := ⟨hst.out.1.step hb1, bth5 hst.out.2 hb1⟩
            clear hb1 hq
            go_wp2_with fail
            exact ⟨⟨i + 1, by omega, by go_num, ⟨_, rfl⟩, hst2.out⟩, by simp [intOf]; omega⟩
          · by_cases hnm : (n : Int) ≤ most
            · exact absurd hlt' (by omega)
            · go_wp2_with fail
              go_ret
              first | exact ⟨⟨_, rfl⟩, hst.out.2⟩ | exact hst.out.2
        · obtain rfl : i = n := by omega
          have hlt' : ¬ (i : Int) < i := by omega
          by_cases hnm : (i : Int) ≤ most
          · have hq := q1.out wr (hy2.out.step hst.out.2)
            go_wp2_with fail
            refine hq.mono ?_
            rintro e1 w1 ⟨⟨r, rfl⟩, hb1⟩
            have hst2 := Lib.hid (bth5 hst.out.2 hb1)
            clear hb1 hq
            go_wp2_with fail
            go_ret
            first | exact ⟨⟨_, rfl⟩, hst2.out⟩ | exact hst2.out
          · go_wp2_with fail
            go_ret
            first | exact ⟨⟨_, rfl⟩, hst.out.2⟩ | exact hst.out.2
end
end Go.Proofs.YtejifkeeihkcjaaDoor
