/- What layer 5's cut answers, and that it is what the reference's longest tells (no program in it). -/
import Derived.Test.YthlpldmodflmjaaDoorTokP
namespace Go.Proofs.YthlpldmodflmjaaDoor
open Go.RowKit

/-- A byte's rule: a word's, an int's, a sign's; and whether the byte behind m others belongs to a token of that kind. -/
def ruleK (c : UInt8) : Nat := if ltr c = true then 0 else if dgt c = true then 1 else 2
def belB (l : List UInt8) (k m : Nat) : Bool :=
  if k = 2 then isSignB (l.take (m + 1)) else match l[m]? with
    | some d => if k = 0 then ltr d || dgt d else dgt d
    | none => false

theorem longF_past2 {l : List UInt8} {n : Nat} (hs : ∀ i, n < i → i ≤ l.length → kindOf (l.take i) = none) : ∀ (f i : Nat) (b : Nat × Nat), n < i → longF f l i b = b
  | 0, _, _, _ => rfl
  | f + 1, i, b, hi => by
    by_cases h1 : i ≤ l.length
    · have hk := hs i hi h1
      by_cases h2 : 2 < i
      · exact longF_stop h1 hk h2
      · rw [longF_on h1 hk h2]
        exact longF_past2 hs f (i + 1) b (by omega)
    · exact longF_end (by omega)
theorem longF_up2 {l : List UInt8} {n k : Nat} (hn : n ≤ l.length) (hk : ∀ i, 1 ≤ i → i ≤ n → kindOf (l.take i) = some k) (hs : ∀ i, n < i → i ≤ l.length → kindOf (l.take i) = none) :
    ∀ (d f i : Nat) (b : Nat × Nat), 1 ≤ i → i + d = n → d < f → longF f l i b = (n, k) := by
  intro d
  induction d with
  | zero =>
    intro f i b h1 h2 h3
    obtain ⟨f, rfl⟩ : ∃ g, f = g + 1 := ⟨f - 1, by omega⟩
    rw [longF_hit (by omega) (hk i h1 (by omega)), longF_past2 hs f (i + 1) _ (by omega)]
    rw [show i = n by omega]
  | succ d ih =>
    intro f i b h1 h2 h3
    obtain ⟨f, rfl⟩ : ∃ g, f = g + 1 := ⟨f - 1, by omega⟩
    rw [longF_hit (by omega) (hk i h1 (by omega))]
    exact ih f (i + 1) _ (by omega) (by omega) (by omega)
theorem longL_run {l : List UInt8} {n k : Nat} (hn : n ≤ l.length) (hk : ∀ i, 1 ≤ i → i ≤ n → kindOf (l.take i) = some k) (hs : ∀ i, n < i → i ≤ l.length → kindOf (l.take i) = none) : longL l = if n = 0 then (0, 0) else (n, k) := by
  unfold longL
  by_cases h0 : n = 0
  · rw [if_pos h0, longF_past2 hs _ 1 _ (by omega)]
  · rw [if_neg h0]
    exact longF_up2 hn hk hs (n - 1) _ 1 _ (by omega) (by omega) (by omega)

theorem kind_none {y : List UInt8} (h1 : isWordB y = false) (h2 : isIntB y = false) (h3 : isSignB y = false ∨ 2 < y.length) : kindOf y = none := by
  unfold kindOf
  rw [if_neg (by rw [h1]; simp), if_neg (by rw [h2]; simp), if_neg]
  rintro ⟨a, b⟩
  rcases h3 with h | h
  · rw [h] at b; cases b
  · omega
theorem sign_heads : ∀ y ∈ signs, ∀ c r, y = c :: r → ltr c = false ∧ dgt c = false ∧ [c] ∈ signs := by
  have : ∀ y ∈ signs, (match y with | [] => true | c :: _ => !ltr c && !dgt c && signs.contains [c]) = true := by decide
  intro y hy c r e
  have h := this y hy
  subst e
  simp only [Bool.and_eq_true, Bool.not_eq_true', List.contains_iff_mem] at h
  exact ⟨h.1.1, h.1.2, h.2⟩
theorem sign_not {c : UInt8} {r : List UInt8} (h : ltr c = true ∨ dgt c = true) : isSignB (c :: r) = false := by
  rw [Bool.eq_false_iff]
  intro hs
  obtain ⟨h1, h2, _⟩ := sign_heads _ (isSign_mem hs) c r rfl
  rcases h with h | h
  · rw [h1] at h; cases h
  · rw [h2] at h; cases h
theorem word_not {c : UInt8} {r : List UInt8} (h : ltr c = false) : isWordB (c :: r) = false := by simp [isWordB, h]
theorem int_not {c : UInt8} {r : List UInt8} (h : dgt c = false) : isIntB (c :: r) = false := by simp [isIntB, h]

/-- The bytes that belong make the longest token. -/
theorem rule_long {c : UInt8} {r : List UInt8} {n : Nat} (hn : n ≤ r.length + 1) (hb : ∀ m, m < n → belB (c :: r) (ruleK c) m = true) (hs : n = r.length + 1 ∨ belB (c :: r) (ruleK c) n = false) :
    longL (c :: r) = if n = 0 then (0, 0) else (n, ruleK c) := by
  have htk : ∀ i, 1 ≤ i → (c :: r).take i = c :: r.take (i - 1) := by
    intro i hi
    obtain ⟨j, rfl⟩ : ∃ j, i = j + 1 := ⟨i - 1, by omega⟩
    simp
  by_cases h0 : ltr c = true
  · have hK : ruleK c = 0 := by unfold ruleK; rw [if_pos h0]
    rw [hK] at hb hs ⊢
    have hb2 : ∀ m, m < n → ∀ d, (c :: r)[m]? = some d → (ltr d || dgt d) = true := by
      intro m hm d hd
      have := hb m hm
      unfold belB at this
      rw [if_neg (by omega), hd] at this
      simpa using this
    refine longL_run (by simpa using hn) (fun i h1 h2 => ?_) (fun i h1 h2 => ?_)
    · have hw : isWordB ((c :: r).take i) = true := by
        rw [isWordB_iff]
        refine ⟨by rw [htk i h1]; simp, fun j hj d hd => ?_⟩
        rw [List.getElem?_take] at hd
        split at hd
        · have := hb2 j (by omega) d hd
          rw [Bool.or_eq_true] at this
          rcases this with h | h
          · exact .inl h
          · by_cases hj0 : j = 0
            · subst hj0
              simp at hd
              subst hd
              exact .inl h0
            · exact .inr ⟨hj0, h⟩
        · cases hd
      unfold kindOf; rw [if_pos hw]
    · rw [htk i (by omega)]
      have hns : belB (c :: r) 0 n = false := by
        rcases hs with h | h
        · simp at h2; omega
        · exact h
      have hlt : n < (c :: r).length := by omega
      have hget := List.getElem?_eq_getElem hlt
      unfold belB at hns
      rw [if_neg (by omega), hget] at hns
      simp only [if_true] at hns
      have hin : (c :: r)[n] ∈ c :: r.take (i - 1) := by
        rw [← htk i (by omega)]
        refine List.mem_iff_getElem?.2 ⟨n, ?_⟩
        rw [List.getElem?_take, if_pos h1, hget]
      refine kind_none ?_ (int_not ?_) (.inl (sign_not (.inl h0)))
      · rw [Bool.eq_false_iff]
        intro hw
        have := word_all hw _ hin
        rw [hns] at this
        cases this
      · rw [Bool.eq_false_iff]
        intro hd
        rw [ltr_not hd] at h0
        cases h0
  · have h0 := Bool.eq_false_iff.2 h0
    by_cases h1 : dgt c = true
    · have hK : ruleK c = 1 := by unfold ruleK; rw [if_neg (by rw [h0]; simp), if_pos h1]
      rw [hK] at hb hs ⊢
      have hb2 : ∀ m, m < n → ∀ d, (c :: r)[m]? = some d → dgt d = true := by
        intro m hm d hd
        have := hb m hm
        unfold belB at this
        rw [if_neg (by omega), hd] at this
        simpa using this
      refine longL_run (by simpa using hn) (fun i h1 h2 => ?_) (fun i h2 h3 => ?_)
      · have hw : isIntB ((c :: r).take i) = true := by
          rw [isIntB_iff]
          refine ⟨by rw [htk i h1]; simp, fun j hj d hd => ?_⟩
          rw [List.getElem?_take] at hd
          split at hd
          · exact hb2 j (by omega) d hd
          · cases hd
        exact (cut_int hw).kind
      · rw [htk i (by omega)]
        have hns : belB (c :: r) 1 n = false := by
          rcases hs with h | h
          · simp at h3; omega
          · exact h
        have hlt : n < (c :: r).length := by omega
        have hget := List.getElem?_eq_getElem hlt
        unfold belB at hns
        rw [if_neg (by omega), hget] at hns
        simp only [if_neg (show ¬ (1 : Nat) = 0 by omega)] at hns
        have hin : (c :: r)[n] ∈ c :: r.take (i - 1) := by
          rw [← htk i (by omega)]
          refine List.mem_iff_getElem?.2 ⟨n, ?_⟩
          rw [List.getElem?_take, if_pos h2, hget]
        refine kind_none (word_not h0) ?_ (.inl (sign_not (.inr h1)))
        rw [Bool.eq_false_iff]
        intro hw
        have := (int_all hw).2 _ hin
        rw [hns] at this
        cases this
    · have h1 := Bool.eq_false_iff.2 h1
      have hK : ruleK c = 2 := by unfold ruleK; rw [if_neg (by rw [h0]; simp), if_neg (by rw [h1]; simp)]
      rw [hK] at hb hs ⊢
      have hb2 : ∀ m, m < n → isSignB ((c :: r).take (m + 1)) = true := by
        intro m hm
        have := hb m hm
        unfold belB at this
        rwa [if_pos rfl] at this
      have hn2 : n ≤ 2 := by
        rcases Nat.lt_or_ge 2 n with h | h
        · have h3 := (sign_kind _ (isSign_mem (hb2 2 h))).2.1
          simp at h3
          omega
        · exact h
      refine longL_run (by simpa using hn) (fun i h2 h3 => ?_) (fun i h2 h3 => ?_)
      · have := hb2 (i - 1) (by omega)
        rw [show i - 1 + 1 = i by omega] at this
        exact (cut_sign this).kind
      · have hns : isSignB ((c :: r).take (n + 1)) = false := by
          rcases hs with h | h
          · simp at h3; omega
          · unfold belB at h
            rwa [if_pos rfl] at h
        have hlen : ((c :: r).take i).length = i := by rw [List.length_take]; omega
        rw [htk i (by omega)] at hlen ⊢
        refine kind_none (word_not h0) (int_not h1) ?_
        by_cases h4 : 2 < i
        · exact .inr (by rw [hlen]; exact h4)
        · left
          by_cases h5 : i = n + 1
          · rw [← htk i (by omega), h5]; exact hns
          · have hn0 : n = 0 := by omega
            rw [Bool.eq_false_iff]
            intro hw
            have := (sign_heads _ (isSign_mem hw) c _ rfl).2.2
            rw [hn0, htk 1 (by omega)] at hns
            simp only [Nat.sub_self, List.take_zero] at hns
            unfold isSignB at hns
            rw [Bool.eq_false_iff] at hns
            exact hns (by rw [List.contains_iff_mem]; exact this)

/-- What cut answers: a piece's kind, end, number and error (it begins behind blanks and comments). -/
def pieceQ (L : List UInt8) (q : Nat) : Int × Nat × Int × Int :=
  if q = L.length then (3, q, 0, 0) else
    let nk := longL (L.drop q)
    let x := (L.drop q).take nk.1
    ((if nk.1 = 0 then 2 else ((nk.2 : Nat) : Int)), q + nk.1, if nk.1 ≠ 0 ∧ nk.2 = 1 then (numV x).1 else 0, errV nk.1 nk.2 x)
theorem pieceQ_end {L : List UInt8} {q : Nat} (h : q = L.length) : pieceQ L q = (3, q, 0, 0) := by unfold pieceQ; rw [if_pos h]
/-- What count answers. -/
def countV (k : Nat) (x : List UInt8) : Int × Int :=
  if k = 1 then ((numV x).1, if (numV x).2 = true then 0 else 51) else if k = 0 ∧ 32 < x.length then (0, 52) else if k = 2 ∧ x = [] then (0, 50) else (0, 0)
theorem pieceQ_run {L : List UInt8} {q n : Nat} {c : UInt8} (hc : L[q]? = some c) (hn : q + n ≤ L.length) (hb : ∀ m, m < n → belB (L.drop q) (ruleK c) m = true) (hs : q + n = L.length ∨ belB (L.drop q) (ruleK c) n = false) :
    pieceQ L q = (((ruleK c : Nat) : Int), q + n, (countV (ruleK c) ((L.drop q).take n)).1, (countV (ruleK c) ((L.drop q).take n)).2) := by
  have hq : q < L.length := (List.getElem?_eq_some_iff.1 hc).1
  have hd : L.drop q = c :: L.drop (q + 1) := by
    obtain ⟨hj, e⟩ := List.getElem?_eq_some_iff.1 hc
    rw [List.drop_eq_getElem_cons hj, e]
  have hlen : (L.drop (q + 1)).length + 1 = L.length - q := by rw [List.length_drop]; omega
  have hlong : longL (L.drop q) = if n = 0 then (0, 0) else (n, ruleK c) := by
    rw [hd] at hb hs ⊢
    exact rule_long (by omega) hb (hs.imp (fun h => by omega) id)
  have hbel0 : n = 0 → ruleK c = 2 := by
    intro h0
    subst h0
    rcases hs with h | h
    · omega
    · unfold belB at h
      rw [hd] at h
      unfold ruleK at h ⊢
      by_cases e0 : ltr c = true
      · rw [if_pos e0] at h; simp [e0] at h
      · rw [if_neg e0] at h ⊢
        by_cases e1 : dgt c = true
        · rw [if_pos e1] at h; simp [e1] at h
        · rw [if_neg e1]
  unfold pieceQ
  rw [if_neg (by omega), hlong]
  by_cases h0 : n = 0
  · have h2 := hbel0 h0
    subst h0
    rw [if_pos rfl, h2]
    simp [countV, errV]
  · rw [if_neg h0]
    simp only [h0, if_false, ne_eq, not_false_eq_true, true_and]
    have hxl : ((L.drop q).take n).length = n := by rw [List.length_take, List.length_drop]; omega
    have hx0 : (L.drop q).take n ≠ [] := fun e => by rw [e] at hxl; simp at hxl; omega
    have hK : ruleK c = 0 ∨ ruleK c = 1 ∨ ruleK c = 2 := by unfold ruleK; repeat' split <;> simp
    generalize (L.drop q).take n = x at *
    unfold countV errV
    rw [if_neg h0, hxl]
    rcases hK with e | e | e
    · rw [e]
      by_cases h3 : 32 < n
      · simp [h3]
      · simp [h3]
    · rw [e]
      cases hv : (numV x).2 <;> simp
    · rw [e]
      simp [hx0]
/-- The next token, by the piece. -/
theorem nextQ_piece (L : List UInt8) (q : Nat) : nextQ L q =
    if (pieceQ L q).2.2.2 = 0 then ((⟨(pieceQ L q).1, (L.drop q).take ((pieceQ L q).2.1 - q), (pieceQ L q).2.2.1, (((spot L q).1 : Nat) : Int), (((spot L q).2 : Nat) : Int)⟩, (pieceQ L q).2.1, 0, 0, 0) : TokV × Nat × Int × Int × Int)
    else (TokV.none, q, (((spot L q).1 : Nat) : Int), (((spot L q).2 : Nat) : Int), (pieceQ L q).2.2.2) := by
  unfold nextQ
  by_cases he : q = L.length
  · rw [if_pos he, pieceQ_end he]
    simp
  · rw [if_neg he]
    unfold pieceQ
    rw [if_neg he]
    obtain ⟨n, k, hnk⟩ : ∃ n k, longL (L.drop q) = (n, k) := ⟨_, _, rfl⟩
    rw [hnk]
    simp only [Nat.add_sub_cancel_left]
    by_cases h0 : n = 0
    · subst h0
      simp [errV]
    · simp only [h0, if_false, ne_eq, not_false_eq_true, true_and]
theorem pieceQ_le {L : List UInt8} {q : Nat} (hq : q ≤ L.length) : q ≤ (pieceQ L q).2.1 ∧ (pieceQ L q).2.1 ≤ L.length := by
  unfold pieceQ
  split
  · simp; omega
  · have := longL_le (L.drop q)
    rw [List.length_drop] at this
    simp; omega
/-- A token is right, if it is the piece of its own text. -/
theorem right_piece (t : TokV) : rightV t = (decide ((pieceQ t.x (skipL t.x false)).1 = t.k) && decide (skipL t.x false = 0) && decide ((pieceQ t.x (skipL t.x false)).2.1 = t.x.length) && decide ((pieceQ t.x (skipL t.x false)).2.2.1 = t.n) && decide ((pieceQ t.x (skipL t.x false)).2.2.2 = 0)) := by
  rw [Bool.eq_iff_iff]
  simp only [Bool.and_eq_true, decide_eq_true_eq]
  constructor
  · intro h
    by_cases h3 : t.k = 3
    · have hx : t.x = [] ∧ t.n = 0 := by
        unfold rightV at h
        rw [h3] at h
        simpa using h
      rw [hx.1]
      simp [skipL, pieceQ, hx.2, h3]
    · obtain ⟨k, hk, hc, he, hn⟩ := right_cut h h3
      have hl := longL_cut t.x [] k hc (.inl rfl)
      have hsk := skip_cut t.x [] k hc
      rw [List.append_nil] at hl hsk
      have hlen : t.x.length ≠ 0 := fun e => hc.ne (List.eq_nil_of_length_eq_zero e)
      rw [hsk]
      unfold pieceQ
      rw [if_neg (by omega), List.drop_zero, hl]
      simp only [hlen, if_false, List.take_length, Nat.zero_add, ne_eq, not_false_eq_true, true_and]
      exact ⟨⟨⟨⟨hk.symm, trivial⟩, trivial⟩, hn.symm⟩, he⟩
  · rintro ⟨⟨⟨⟨h1, h2⟩, h3⟩, h4⟩, h5⟩
    rw [h2] at h1 h3 h4 h5
    unfold pieceQ at h1 h3 h4 h5
    by_cases h0 : 0 = t.x.length
    · rw [if_pos h0] at h1 h3 h4 h5
      have hx : t.x = [] := List.eq_nil_of_length_eq_zero h0.symm
      unfold rightV
      simp only at h1 h4
      rw [← h1]
      simp [hx, ← h4]
    · rw [if_neg h0] at h1 h3 h4 h5
      rw [List.drop_zero] at h1 h3 h4 h5
      obtain ⟨n, k, hnk⟩ : ∃ n k, longL t.x = (n, k) := ⟨_, _, rfl⟩
      have hsp := longL_spec t.x
      rw [hnk] at h1 h3 h4 h5 hsp
      simp only [Nat.zero_add] at h1 h3 h4 h5 hsp
      have hn0 : n ≠ 0 := by omega
      have hsp := hsp hn0
      subst h3
      rw [List.take_length] at h4 h5 hsp
      rw [if_neg hn0] at h1
      unfold errV at h5
      rw [if_neg hn0] at h5
      simp only [hn0, ne_eq, not_false_eq_true, true_and] at h4
      have hk : k = 0 ∨ k = 1 ∨ k = 2 := by
        have := longL_kind t.x
        rw [hnk] at this
        simp only at this
        omega
      unfold rightV
      rcases hk with e | e | e
      · subst e
        rw [if_pos (by rw [← h1]; rfl), kindOf_0 hsp]
        simp only [Nat.zero_ne_one, if_false] at h4
        split at h5
        · omega
        · rename_i h6
          simp [← h4]; omega
      · subst e
        rw [if_neg (by rw [← h1]; decide), if_pos (by rw [← h1]; rfl), kindOf_1 hsp]
        simp only [if_true] at h4
        rw [if_neg (by omega)] at h5
        cases hv : (numV t.x).2
        · rw [hv] at h5; simp at h5
        · simp [← h4]
      · subst e
        rw [if_neg (by rw [← h1]; decide), if_neg (by rw [← h1]; decide), if_pos (by rw [← h1]; rfl), kindOf_2 hsp]
        simp only [show ¬ (2 : Nat) = 1 by omega, if_false] at h4
        simp [← h4]
end Go.Proofs.YthlpldmodflmjaaDoor
