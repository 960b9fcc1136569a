/- The mathematics of TokenBack's second half (no program in it): right tokens, joined, are cut as they were. -/
import Derived.Test.YthlpldmodflmjaaDoorTokO
namespace Go.Proofs.YthlpldmodflmjaaDoor
open Go.RowKit

theorem word_all {l : List UInt8} (h : isWordB l = true) : ∀ c ∈ l, (ltr c || dgt c) = true := by
  cases l with
  | nil => simp [isWordB] at h
  | cons c r =>
    simp only [isWordB, Bool.and_eq_true, List.all_eq_true] at h
    intro d hd
    rcases List.mem_cons.1 hd with rfl | hd
    · rw [h.1]; rfl
    · exact h.2 d hd
theorem int_all {l : List UInt8} (h : isIntB l = true) : l ≠ [] ∧ ∀ c ∈ l, dgt c = true := by
  unfold isIntB at h
  simpa [List.all_eq_true] using h
theorem sign_none : ∀ y ∈ signs, (32 : UInt8) ∉ y := by decide
theorem sign_kind : ∀ y ∈ signs, kindOf y = some 2 ∧ y.length ≤ 2 ∧ y ≠ [] ∧ (∀ c r, y = c :: r → blk c = false ∧ c ≠ 35) := by
  intro y hy
  have : ∀ y ∈ signs, (kindOf y == some 2) = true ∧ (decide (y.length ≤ 2)) = true ∧ (match y with | [] => false | c :: _ => !blk c && c != 35) = true := by decide
  obtain ⟨h1, h2, h3⟩ := this y hy
  refine ⟨by simpa using h1, by simpa using h2, ?_, ?_⟩
  · rintro rfl; simp at h3
  · rintro c r rfl; simpa using h3
theorem isSign_mem {y : List UInt8} (h : isSignB y = true) : y ∈ signs := by
  unfold isSignB at h
  simpa using h
theorem kind_blank {y : List UInt8} (h : (32 : UInt8) ∈ y) : kindOf y = none := by
  have h1 : isWordB y = false := by
    rw [Bool.eq_false_iff]
    intro hw
    have := word_all hw 32 h
    revert this; decide
  have h2 : isIntB y = false := by
    rw [Bool.eq_false_iff]
    intro hw
    have := (int_all hw).2 32 h
    revert this; decide
  have h3 : isSignB y = false := by
    rw [Bool.eq_false_iff]
    intro hw
    exact sign_none y (isSign_mem hw) h
  unfold kindOf
  simp [h1, h2, h3]
theorem word_take {x : List UInt8} (h : isWordB x = true) {i : Nat} (hi : 1 ≤ i) : isWordB (x.take i) = true := by
  cases x with
  | nil => simp [isWordB] at h
  | cons c r =>
    obtain ⟨j, rfl⟩ : ∃ j, i = j + 1 := ⟨i - 1, by omega⟩
    rw [List.take_succ_cons]
    simp only [isWordB, Bool.and_eq_true, List.all_eq_true] at h ⊢
    exact ⟨h.1, fun d hd => h.2 d (List.mem_of_mem_take hd)⟩
theorem int_take {x : List UInt8} (h : isIntB x = true) {i : Nat} (hi : 1 ≤ i) : isIntB (x.take i) = true := by
  have h2 := int_all h
  cases x with
  | nil => exact absurd rfl h2.1
  | cons c r =>
    obtain ⟨j, rfl⟩ : ∃ j, i = j + 1 := ⟨i - 1, by omega⟩
    rw [List.take_succ_cons]
    unfold isIntB
    simp only [List.isEmpty_cons, Bool.not_false, Bool.true_and, List.all_eq_true]
    intro d hd
    rcases List.mem_cons.1 hd with rfl | hd
    · exact h2.2 _ (List.mem_cons_self ..)
    · exact h2.2 d (List.mem_cons_of_mem _ (List.mem_of_mem_take hd))
theorem ltr_not {c : UInt8} (h : dgt c = true) : ltr c = false := by
  unfold dgt at h
  unfold ltr
  simp at h ⊢
  omega
theorem plain_ltr {c : UInt8} (h : ltr c = true) : blk c = false ∧ c ≠ 35 := by
  unfold ltr at h
  unfold blk
  simp at h ⊢
  refine ⟨by omega, ?_⟩
  rintro rfl
  revert h; decide
theorem plain_dgt {c : UInt8} (h : dgt c = true) : blk c = false ∧ c ≠ 35 := by
  unfold dgt at h
  unfold blk
  simp at h ⊢
  refine ⟨by omega, ?_⟩
  rintro rfl
  revert h; decide
/-- What a right token's text is, for the cut. -/
structure Cut (x : List UInt8) (k : Nat) : Prop where
  kind : kindOf x = some k
  ne : x ≠ []
  head : ∀ c r, x = c :: r → blk c = false ∧ c ≠ 35
  pre : ∀ i, 1 ≤ i → i < x.length → kindOf (x.take i) ≠ none ∨ i ≤ 2
theorem cut_word {x : List UInt8} (h : isWordB x = true) : Cut x 0 := by
  refine ⟨by unfold kindOf; rw [if_pos h], ?_, ?_, fun i hi _ => Or.inl (by unfold kindOf; rw [if_pos (word_take h hi)]; simp)⟩
  · rintro rfl; simp [isWordB] at h
  · rintro c r rfl
    simp only [isWordB, Bool.and_eq_true] at h
    exact plain_ltr h.1
theorem cut_int {x : List UInt8} (h : isIntB x = true) : Cut x 1 := by
  have key : ∀ y : List UInt8, isIntB y = true → kindOf y = some 1 := by
    intro y hy
    have h2 := int_all hy
    have hw : isWordB y = false := by
      cases y with
      | nil => rfl
      | cons c r => simp [isWordB, ltr_not (h2.2 c (List.mem_cons_self ..))]
    unfold kindOf
    rw [if_neg (by rw [hw]; simp), if_pos hy]
  refine ⟨key x h, (int_all h).1, ?_, fun i hi _ => Or.inl (by rw [key _ (int_take h hi)]; simp)⟩
  rintro c r rfl
  exact plain_dgt ((int_all h).2 c (List.mem_cons_self ..))
theorem cut_sign {x : List UInt8} (h : isSignB x = true) : Cut x 2 := by
  obtain ⟨h1, h2, h3, h4⟩ := sign_kind x (isSign_mem h)
  exact ⟨h1, h3, h4, fun i _ hi => Or.inr (by omega)⟩

/-- A rest that ends a token: nothing, or a blank ahead. -/
def Ends (m : List UInt8) : Prop := m = [] ∨ ∃ r, m = 32 :: r
theorem longF_past (f : Nat) (x m : List UInt8) (hm : Ends m) (i : Nat) (hi : x.length < i) (b : Nat × Nat) : longF f (x ++ m) i b = b := by
  induction f generalizing i with
  | zero => rfl
  | succ f ih =>
    unfold longF
    by_cases hl : (x ++ m).length < i
    · rw [if_pos hl]
    · rw [if_neg hl]
      have hk : kindOf ((x ++ m).take i) = none := by
        apply kind_blank
        rcases hm with rfl | ⟨r, rfl⟩
        · simp at hl; omega
        · rw [List.take_append, List.mem_append]
          right
          obtain ⟨j, hj⟩ : ∃ j, i - x.length = j + 1 := ⟨i - x.length - 1, by omega⟩
          rw [hj, List.take_succ_cons]
          exact List.mem_cons_self ..
      rw [hk]
      simp only
      split
      · rfl
      · exact ih _ (by omega)
theorem longF_up (x m : List UInt8) (k : Nat) (h : Cut x k) (hm : Ends m) (d : Nat) : ∀ (f i : Nat) (b : Nat × Nat), 1 ≤ i → i + d = x.length → d < f → longF f (x ++ m) i b = (x.length, k) := by
  induction d with
  | zero =>
    intro f i b hi hid hf
    obtain ⟨f, rfl⟩ : ∃ g, f = g + 1 := ⟨f - 1, by omega⟩
    have hix : i = x.length := by omega
    unfold longF
    rw [if_neg (by simp; omega)]
    have : (x ++ m).take i = x := by rw [hix]; simp
    rw [this, h.kind]
    simp only
    rw [longF_past _ _ _ hm _ (by omega), hix]
  | succ d ih =>
    intro f i b hi hid hf
    obtain ⟨f, rfl⟩ : ∃ g, f = g + 1 := ⟨f - 1, by omega⟩
    unfold longF
    rw [if_neg (by simp; omega)]
    have ht : (x ++ m).take i = x.take i := by rw [List.take_append_of_le_length (by omega)]
    rw [ht]
    cases hk : kindOf (x.take i) with
    | some k' => exact ih _ _ _ (by omega) (by omega) (by omega)
    | none =>
      simp only
      rcases h.pre i hi (by omega) with h2 | h2
      · exact absurd hk h2
      · rw [if_neg (by omega)]
        exact ih _ _ _ (by omega) (by omega) (by omega)
theorem longL_cut (x m : List UInt8) (k : Nat) (h : Cut x k) (hm : Ends m) : longL (x ++ m) = (x.length, k) := by
  have hx : 1 ≤ x.length := by
    have := h.ne
    cases x with
    | nil => exact absurd rfl this
    | cons c r => simp
  exact longF_up x m k h hm (x.length - 1) _ 1 _ (by omega) (by omega) (by simp; omega)
theorem skip_cut (x m : List UInt8) (k : Nat) (h : Cut x k) : skipL (x ++ m) false = 0 := by
  cases x with
  | nil => exact absurd rfl h.ne
  | cons c r =>
    obtain ⟨h1, h2⟩ := h.head c r rfl
    exact skipL_stop h1 h2

theorem right_cut {t : TokV} (h : rightV t = true) (h3 : t.k ≠ 3) : ∃ k : Nat, t.k = k ∧ Cut t.x k ∧ errV t.x.length k t.x = 0 ∧ t.n = if k = 1 then (numV t.x).1 else 0 := by
  unfold rightV at h
  have hl : Cut t.x 0 ∨ Cut t.x 1 ∨ Cut t.x 2 → t.x.length ≠ 0 := by
    intro hc h0
    have h0 := List.eq_nil_of_length_eq_zero h0
    rcases hc with hc | hc | hc <;> exact hc.ne h0
  by_cases h0 : t.k = 0
  · rw [if_pos h0] at h
    simp only [Bool.and_eq_true, decide_eq_true_eq] at h
    have hc := cut_word h.1.1
    refine ⟨0, h0, hc, ?_, h.2⟩
    unfold errV
    rw [if_neg (hl (.inl hc)), if_neg (by omega), if_neg (by omega)]
  · rw [if_neg h0] at h
    by_cases h1 : t.k = 1
    · rw [if_pos h1] at h
      simp only [Bool.and_eq_true, decide_eq_true_eq] at h
      have hc := cut_int h.1.1
      refine ⟨1, h1, hc, ?_, h.2⟩
      unfold errV
      rw [if_neg (hl (.inr (.inl hc))), if_neg (by omega), if_neg (by rw [h.1.2]; simp)]
    · rw [if_neg h1] at h
      by_cases h2 : t.k = 2
      · rw [if_pos h2] at h
        simp only [Bool.and_eq_true, decide_eq_true_eq] at h
        have hc := cut_sign h.1
        refine ⟨2, h2, hc, ?_, h.2⟩
        unfold errV
        rw [if_neg (hl (.inr (.inr hc))), if_neg (by omega), if_neg (by omega)]
      · rw [if_neg h2] at h
        simp only [Bool.and_eq_true, decide_eq_true_eq] at h
        exact absurd h.1.1 h3

/-- One step of the cut of joined tokens. -/
theorem next_cut (L : List UInt8) (p : Nat) (_hp : p ≤ L.length) (sp : List UInt8) (hsp : sp = [] ∨ sp = [32]) (t : TokV) (m : List UInt8) (hm : Ends m) (h : rightV t = true) (h3 : t.k ≠ 3) (hd : L.drop p = sp ++ (t.x ++ m)) :
    ∃ l c, nextP L p = (⟨t.k, t.x, t.n, l, c⟩, p + sp.length + t.x.length, 0, 0, 0) := by
  obtain ⟨k, hk, hc, he, hn⟩ := right_cut h h3
  have hs : skipL (L.drop p) false = sp.length := by
    rw [hd]
    rcases hsp with rfl | rfl
    · show skipL (t.x ++ m) false = 0
      exact skip_cut _ _ _ hc
    · show skipL (32 :: (t.x ++ m)) false = 1
      rw [skipL_on (b' := false) (by decide) (by decide), skip_cut _ _ _ hc]
  have hdq : L.drop (p + sp.length) = t.x ++ m := by
    rw [← List.drop_drop, hd]
    simp
  have hlen : (L.drop p).length = sp.length + (t.x.length + m.length) := by rw [hd]; simp
  rw [List.length_drop] at hlen
  have hx : t.x.length ≠ 0 := fun h0 => hc.ne (List.eq_nil_of_length_eq_zero h0)
  unfold nextP nextQ
  rw [hs, if_neg (by omega), hdq, longL_cut _ _ _ hc hm]
  simp only
  rw [show (t.x ++ m).take t.x.length = t.x by simp, if_pos he]
  rw [hk, hn]
  exact ⟨_, _, rfl⟩

theorem next_end (L : List UInt8) (p : Nat) (hp : p = L.length) : ∃ l c, nextP L p = (⟨3, [], 0, l, c⟩, p, 0, 0, 0) := by
  have hd : L.drop p = [] := List.drop_eq_nil_of_le (by omega)
  unfold nextP nextQ
  rw [hd, show skipL [] false = 0 from rfl, Nat.add_zero, if_pos hp]
  exact ⟨_, _, rfl⟩

/-- The texts of tokens, a blank ahead of each. -/
def tailJ (r : List TokV) : List UInt8 := r.flatMap fun t => 32 :: t.x
theorem tailJ_ends (r : List TokV) : Ends (tailJ r) := by
  cases r with
  | nil => exact Or.inl rfl
  | cons t r => exact Or.inr ⟨t.x ++ tailJ r, rfl⟩
theorem join_tail (r : List TokV) (a : List UInt8) (h : ∀ t ∈ r, t.k ≠ 3) : r.foldl joinStep (a, true) = (a ++ tailJ r, true) := by
  induction r generalizing a with
  | nil => simp [tailJ]
  | cons t r ih =>
    rw [List.foldl_cons]
    have h3 := h t (List.mem_cons_self ..)
    have : joinStep (a, true) t = (a ++ 32 :: t.x, true) := by unfold joinStep; rw [if_neg h3]; simp
    rw [this, ih _ (fun u hu => h u (List.mem_cons_of_mem _ hu))]
    simp [tailJ]
theorem joinV_cons (t : TokV) (r : List TokV) (h : ∀ u ∈ t :: r, u.k ≠ 3) : joinV (t :: r) = t.x ++ tailJ r := by
  unfold joinV
  rw [List.foldl_cons]
  have h3 := h t (List.mem_cons_self ..)
  have : joinStep ([], false) t = (t.x, true) := by unfold joinStep; rw [if_neg h3]; simp
  rw [this, join_tail _ _ (fun u hu => h u (List.mem_cons_of_mem _ hu))]

/-- Rows that are the same, but for positions, an end behind. -/
def Alike : List TokV → List TokV → Prop
  | [], u => ∃ e, u = [e] ∧ e.k = 3
  | t :: r, u => ∃ t' u', u = t' :: u' ∧ sameV t' t = true ∧ Alike r u'
theorem allF_tail (r : List TokV) (hr : ∀ t ∈ r, rightV t = true ∧ t.k ≠ 3) (L : List UInt8) : ∀ (f p : Nat) (acc : List TokV), p ≤ L.length → L.drop p = tailJ r → r.length < f → ∃ u, allF f L p acc = (acc ++ u, 0, 0, 0) ∧ Alike r u := by
  induction r with
  | nil =>
    intro f p acc hp hd hf
    obtain ⟨f, rfl⟩ : ∃ g, f = g + 1 := ⟨f - 1, by omega⟩
    have hpl : p = L.length := by
      have : (L.drop p).length = 0 := by rw [hd]; rfl
      rw [List.length_drop] at this
      omega
    obtain ⟨l, c, hn⟩ := next_end L p hpl
    unfold allF
    simp only
    rw [hn, if_neg (by simp), if_pos rfl]
    exact ⟨_, rfl, _, rfl, rfl⟩
  | cons t r ih =>
    intro f p acc hp hd hf
    obtain ⟨f, rfl⟩ : ∃ g, f = g + 1 := ⟨f - 1, by simp at hf; omega⟩
    obtain ⟨h1, h3⟩ := hr t (List.mem_cons_self ..)
    have hd' : L.drop p = [32] ++ (t.x ++ tailJ r) := by rw [hd]; simp [tailJ]
    obtain ⟨l, c, hn⟩ := next_cut L p hp [32] (Or.inr rfl) t (tailJ r) (tailJ_ends r) h1 h3 hd'
    have hlen : (L.drop p).length = 1 + (t.x.length + (tailJ r).length) := by rw [hd']; simp; omega
    rw [List.length_drop] at hlen
    have hdn : L.drop (p + 1 + t.x.length) = tailJ r := by
      rw [Nat.add_assoc, ← List.drop_drop, hd', Nat.add_comm 1, ← List.drop_drop]
      simp
    unfold allF
    simp only
    rw [hn]
    simp only [List.length_cons, List.length_nil, Nat.zero_add]
    rw [if_neg (by simp), if_neg h3]
    obtain ⟨u, hu, ha⟩ := ih (fun u hu => hr u (List.mem_cons_of_mem _ hu)) f (p + 1 + t.x.length) (acc ++ [⟨t.k, t.x, t.n, l, c⟩]) (by omega) hdn (by simp at hf; omega)
    rw [hu]
    exact ⟨⟨t.k, t.x, t.n, l, c⟩ :: u, by simp, _, _, rfl, by simp [sameV], ha⟩
theorem tailJ_len (r : List TokV) : r.length ≤ (tailJ r).length := by
  induction r with
  | nil => simp [tailJ]
  | cons t r ih => simp only [tailJ, List.flatMap_cons, List.length_append, List.length_cons] at ih ⊢; omega
theorem all_join (r : List TokV) (hr : ∀ t ∈ r, rightV t = true ∧ t.k ≠ 3) : ∃ u, allV (joinV r) = (u, 0, 0, 0) ∧ Alike r u := by
  cases r with
  | nil =>
    refine ⟨_, rfl, _, rfl, rfl⟩
  | cons t r =>
    rw [joinV_cons t r (fun u hu => (hr u hu).2)]
    obtain ⟨h1, h3⟩ := hr t (List.mem_cons_self ..)
    obtain ⟨l, c, hn⟩ := next_cut (t.x ++ tailJ r) 0 (Nat.zero_le _) [] (Or.inl rfl) t (tailJ r) (tailJ_ends r) h1 h3 rfl
    have hl := tailJ_len r
    unfold allV
    rw [show (t.x ++ tailJ r).length + 2 = ((t.x ++ tailJ r).length + 1) + 1 by omega]
    unfold allF
    simp only
    rw [hn]
    simp only [List.length_nil, Nat.zero_add]
    rw [if_neg (by simp), if_neg h3]
    obtain ⟨u, hu, ha⟩ := allF_tail r (fun u hu => hr u (List.mem_cons_of_mem _ hu)) (t.x ++ tailJ r) ((t.x ++ tailJ r).length + 1) t.x.length ([] ++ [⟨t.k, t.x, t.n, l, c⟩]) (by simp) (by simp) (by simp; omega)
    rw [hu]
    exact ⟨⟨t.k, t.x, t.n, l, c⟩ :: u, by simp, _, _, rfl, by simp [sameV], ha⟩
theorem Alike.len {r u : List TokV} (h : Alike r u) : u.length = r.length + 1 := by
  induction r generalizing u with
  | nil => obtain ⟨e, rfl, _⟩ := h; rfl
  | cons t r ih => obtain ⟨t', u', rfl, _, ha⟩ := h; simp [ih ha]
theorem Alike.last {r u : List TokV} (h : Alike r u) : ∃ e, u[r.length]? = some e ∧ e.k = 3 := by
  induction r generalizing u with
  | nil => obtain ⟨e, rfl, h3⟩ := h; exact ⟨e, rfl, h3⟩
  | cons t r ih => obtain ⟨t', u', rfl, _, ha⟩ := h; simpa using ih ha
theorem Alike.at_ {r u : List TokV} (h : Alike r u) {i : Nat} {t : TokV} (hi : r[i]? = some t) : ∃ t', u[i]? = some t' ∧ sameV t' t = true := by
  induction r generalizing u i with
  | nil => simp at hi
  | cons t0 r ih =>
    obtain ⟨t', u', rfl, hs, ha⟩ := h
    cases i with
    | zero => simp at hi; subst hi; exact ⟨t', rfl, hs⟩
    | succ i => simpa using ih ha (by simpa using hi)
end Go.Proofs.YthlpldmodflmjaaDoor
