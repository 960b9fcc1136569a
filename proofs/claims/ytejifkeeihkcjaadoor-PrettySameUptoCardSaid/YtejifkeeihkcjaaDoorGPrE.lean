/- A layout's bytes are cut into its tokens (no program in it). The layouts of right trees are cut into their tokens: texts that are the same are of trees that are the same, and the other way about (no program in it). Trees that are the same have the same layout; what lines are (no program in it). -/
import Derived.Test.YtejifkeeihkcjaaDoorGPrA
import Derived.Test.YtejifkeeihkcjaaDoorGTokB
namespace Go.Proofs.YtejifkeeihkcjaaDoor
section
open Go.RowKit

/-- What stands behind does not make the token longer. -/
def Sep (x m : List UInt8) : Prop := ∀ i, x.length < i → i ≤ (x ++ m).length → kindOf ((x ++ m).take i) = none
theorem longF_pastS (f : Nat) (x m : List UInt8) (hm : Sep x m) (i : Nat) (hi : x.length < i) (b : Nat × Nat) : longF f (x ++ m) i b = b := by
  induction f generalizing i with
  | zero => rfl
  | succ f ih =>
    unfold longF
    by_cases hl : (x ++ m).length < i
    · rw [if_pos hl]
    · rw [if_neg hl, hm i hi (by omega)]
      simp only
      split
      · rfl
      · exact ih _ (by omega)
theorem longF_upS (x m : List UInt8) (k : Nat) (h : Cut x k) (hm : Sep x m) (d : Nat) : ∀ (f i : Nat) (b : Nat × Nat), 1 ≤ i → i + d = x.length → d < f → longF f (x ++ m) i b = (x.length, k) := by
  induction d with
  | zero =>
    intro f i b hi hid hf
    obtain ⟨f, rfl⟩ : ∃ g, f = g + 1 := ⟨f - 1, by omega⟩
    have hix : i = x.length := by omega
    unfold longF
    rw [if_neg (by simp; omega)]
    have : (x ++ m).take i = x := by rw [hix]; simp
    rw [this, h.kind]
    simp only
    rw [longF_pastS _ _ _ hm _ (by omega), hix]
  | succ d ih =>
    intro f i b hi hid hf
    obtain ⟨f, rfl⟩ : ∃ g, f = g + 1 := ⟨f - 1, by omega⟩
    unfold longF
    rw [if_neg (by simp; omega)]
    have ht : (x ++ m).take i = x.take i := by rw [List.take_append_of_le_length (by omega)]
    rw [ht]
    cases hk : kindOf (x.take i) with
    | some k' => exact ih _ _ _ (by omega) (by omega) (by omega)
    | none =>
      simp only
      rcases h.pre i hi (by omega) with h2 | h2
      · exact absurd hk h2
      · rw [if_neg (by omega)]
        exact ih _ _ _ (by omega) (by omega) (by omega)
theorem longL_cutS (x m : List UInt8) (k : Nat) (h : Cut x k) (hm : Sep x m) : longL (x ++ m) = (x.length, k) := by
  have hx : 1 ≤ x.length := by
    have := h.ne
    cases x with
    | nil => exact absurd rfl this
    | cons c r => simp
  exact longF_upS x m k h hm (x.length - 1) _ 1 _ (by omega) (by omega) (by simp; omega)
theorem skip_blanks (g y : List UInt8) (hg : g.all blk = true) : skipL (g ++ y) false = g.length + skipL y false := by
  induction g with
  | nil => simp
  | cons c r ih =>
    simp only [List.all_cons, Bool.and_eq_true] at hg
    have hc : c ≠ 35 := by rintro rfl; exact absurd hg.1 (by decide)
    rw [List.cons_append, skipL_on (b' := false) (by rw [hg.1]; simp) (by simp [hc]), ih hg.2, List.length_cons]
    omega
/-- A token's kind, by its text; is it right? -/
def kOf (t : List UInt8) : Nat := if isWordB t then 0 else if isIntB t then 1 else 2
def tokN (t : List UInt8) : Int := if kOf t = 1 then (numV t).1 else 0
def okT (t : List UInt8) : Prop := Cut t (kOf t) ∧ errV t.length (kOf t) t = 0
/-- Gaps are blanks, tokens are right, and none grows into what follows. -/
def WF : Lay → List UInt8 → Prop
  | [], _ => True
  | p :: r, m => p.1.all blk = true ∧ okT p.2 ∧ Sep p.2 (byts r ++ m) ∧ WF r m
theorem WF.append {a b : Lay} {m : List UInt8} (ha : WF a (byts b ++ m)) (hb : WF b m) : WF (a ++ b) m := by
  induction a with
  | nil => exact hb
  | cons p r ih =>
    obtain ⟨h1, h2, h3, h4⟩ := ha
    exact ⟨h1, h2, by show Sep p.2 (byts (r ++ b) ++ m); rw [byts_append, List.append_assoc]; exact h3, ih h4⟩
/-- The tokens, with their positions. -/
def posT (L : List UInt8) : Nat → Lay → List TokV
  | _, [] => [⟨3, [], 0, ((spot L L.length).1 : Nat), ((spot L L.length).2 : Nat)⟩]
  | p, q :: r => ⟨(kOf q.2 : Nat), q.2, tokN q.2, ((spot L (p + q.1.length)).1 : Nat), ((spot L (p + q.1.length)).2 : Nat)⟩ :: posT L (p + q.1.length + q.2.length) r
theorem posT_x (L : List UInt8) (l : Lay) : ∀ p, (posT L p l).map TokV.x = toks l ++ [[]] := by
  induction l with
  | nil => intro p; rfl
  | cons q r ih => intro p; simp only [posT, List.map_cons, ih, toks_cons, List.cons_append]
theorem cut_lay (m : List UInt8) (hm : m.all blk = true) (l : Lay) (h : WF l m) (L : List UInt8) : ∀ (f p : Nat) (acc : List TokV), p ≤ L.length → L.drop p = byts l ++ m → l.length < f → allF f L p acc = (acc ++ posT L p l, 0, 0, 0) := by
  induction l with
  | nil =>
    intro f p acc hp hd hf
    obtain ⟨f, rfl⟩ : ∃ g, f = g + 1 := ⟨f - 1, by omega⟩
    have hd : L.drop p = m := hd
    have hs : skipL (L.drop p) false = m.length := by
      rw [hd]
      have := skip_blanks m [] hm
      rw [List.append_nil] at this
      rw [this]
      rfl
    have hl : p + m.length = L.length := by
      have := congrArg List.length hd
      rw [List.length_drop] at this
      omega
    have hn : nextP L p = (⟨3, [], 0, ((spot L L.length).1 : Nat), ((spot L L.length).2 : Nat)⟩, L.length, 0, 0, 0) := by
      unfold nextP nextQ
      rw [hs, if_pos hl, hl]
    unfold allF
    simp only
    rw [hn, if_neg (by simp), if_pos rfl]
    rfl
  | cons q r ih =>
    intro f p acc hp hd hf
    obtain ⟨f, rfl⟩ : ∃ g, f = g + 1 := ⟨f - 1, by simp at hf; omega⟩
    obtain ⟨h1, ⟨hc, he⟩, h3, h4⟩ := h
    rw [byts_cons, List.append_assoc, List.append_assoc] at hd
    have hs : skipL (L.drop p) false = q.1.length := by
      rw [hd, skip_blanks _ _ h1, skip_cut _ _ _ hc]
      rfl
    have hlen : (L.drop p).length = q.1.length + (q.2.length + (byts r ++ m).length) := by rw [hd]; simp only [List.length_append]
    rw [List.length_drop] at hlen
    have hdq : L.drop (p + q.1.length) = q.2 ++ (byts r ++ m) := by
      rw [← List.drop_drop, hd]
      simp
    have hx : q.2.length ≠ 0 := fun h0 => hc.ne (List.eq_nil_of_length_eq_zero h0)
    have hdn : L.drop (p + q.1.length + q.2.length) = byts r ++ m := by
      rw [← List.drop_drop, hdq]
      simp
    have hn : nextP L p = (⟨(kOf q.2 : Nat), q.2, tokN q.2, ((spot L (p + q.1.length)).1 : Nat), ((spot L (p + q.1.length)).2 : Nat)⟩, p + q.1.length + q.2.length, 0, 0, 0) := by
      unfold nextP nextQ
      rw [hs, if_neg (by omega), hdq, longL_cutS _ _ _ hc h3]
      simp only
      rw [show (q.2 ++ (byts r ++ m)).take q.2.length = q.2 by simp, if_pos he]
      rfl
    have hk : ((kOf q.2 : Nat) : Int) ≠ 3 := by unfold kOf; split; · decide
                                                split <;> decide
    unfold allF
    simp only
    rw [hn, if_neg (by simp), if_neg hk]
    simp only
    rw [ih h4 f (p + q.1.length + q.2.length) _ (by omega) hdn (by simp at hf; omega)]
    simp [posT]
theorem byts_len (l : Lay) (m : List UInt8) (h : WF l m) : l.length ≤ (byts l).length := by
  induction l with
  | nil => simp [byts]
  | cons q r ih =>
    have h1 := ih h.2.2.2
    have h2 : q.2.length ≠ 0 := fun h0 => h.2.1.1.ne (List.eq_nil_of_length_eq_zero h0)
    rw [byts_cons]
    simp only [List.length_append, List.length_cons]
    omega
/-- The cut of a text that is laid out so. -/
theorem all_lay (m : List UInt8) (hm : m.all blk = true) (l : Lay) (h : WF l m) : allV (byts l ++ m) = (posT (byts l ++ m) 0 l, 0, 0, 0) := by
  have h1 := byts_len l m h
  unfold allV
  rw [cut_lay m hm l h (byts l ++ m) _ 0 [] (by omega) (by simp) (by simp only [List.length_append]; omega)]
  rfl
/-- Texts that are the same have the same tokens. -/
theorem byts_inj {a b : Lay} {m : List UInt8} (hm : m.all blk = true) (ha : WF a m) (hb : WF b m) (h : byts a ++ m = byts b ++ m) : toks a = toks b := by
  have h1 := all_lay m hm a ha
  have h2 := all_lay m hm b hb
  rw [h, h2] at h1
  have h3 : (posT (byts b ++ m) 0 b).map TokV.x = (posT (byts b ++ m) 0 a).map TokV.x := by rw [show posT (byts b ++ m) 0 b = posT (byts b ++ m) 0 a from congrArg Prod.fst h1]
  rw [posT_x, posT_x] at h3
  exact (List.append_cancel_right h3).symm

/-! ### Which tokens keep apart -/
/-- No letter, no digit ahead. -/
def Bnd (m : List UInt8) : Prop := ∀ c r, m = c :: r → ltr c = false ∧ dgt c = false
theorem take_past {x m : List UInt8} {i : Nat} (hi : x.length < i) (hl : i ≤ (x ++ m).length) : ∃ c r j, m = c :: r ∧ (x ++ m).take i = x ++ c :: r.take j ∧ i = x.length + 1 + j := by
  cases m with
  | nil => simp at hl; omega
  | cons c r =>
    refine ⟨c, r, i - x.length - 1, rfl, ?_, by omega⟩
    rw [List.take_append, List.take_of_length_le (by omega), show i - x.length = (i - x.length - 1) + 1 by omega, List.take_succ_cons]
    simp
theorem kind_mixed {y : List UInt8} (h1 : isWordB y = false) (h2 : isIntB y = false) (h3 : y.length ≤ 2 → isSignB y = false) : kindOf y = none := by
  unfold kindOf
  rw [if_neg (by rw [h1]; simp), if_neg (by rw [h2]; simp)]
  by_cases h : y.length ≤ 2
  · rw [if_neg (by rw [h3 h]; simp)]
  · rw [if_neg (by simp [h])]
theorem sign_no_ltr : ∀ y ∈ signs, ∀ c ∈ y, ltr c = false ∧ dgt c = false := by decide
theorem sep_word {x m : List UInt8} (h : isWordB x = true) (hm : Bnd m) : Sep x m := fun i hi hl => by
  obtain ⟨c, r, j, rfl, e, -⟩ := take_past hi hl
  rw [e]
  obtain ⟨hc1, hc2⟩ := hm c r rfl
  cases x with
  | nil => simp [isWordB] at h
  | cons a q =>
    have ha : ltr a = true := by
      unfold isWordB at h
      rw [Bool.and_eq_true] at h
      exact h.1
    refine kind_mixed ?_ ?_ fun _ => ?_
    · unfold isWordB
      simp [hc1, hc2]
    · unfold isIntB
      simp [hc2]
    · rw [Bool.eq_false_iff]
      intro hs
      have := (sign_no_ltr _ (isSign_mem hs) a (by simp)).1
      rw [ha] at this
      cases this
theorem sep_int {x m : List UInt8} (h : isIntB x = true) (hm : Bnd m) : Sep x m := fun i hi hl => by
  obtain ⟨c, r, j, rfl, e, -⟩ := take_past hi hl
  rw [e]
  obtain ⟨hc1, hc2⟩ := hm c r rfl
  obtain ⟨h1, h2⟩ := int_all h
  cases x with
  | nil => exact absurd rfl h1
  | cons a q =>
    have ha := h2 a (by simp)
    refine kind_mixed ?_ ?_ fun _ => ?_
    · simp [isWordB, ltr_not ha]
    · unfold isIntB
      simp [hc2]
    · rw [Bool.eq_false_iff]
      intro hs
      have := (sign_no_ltr _ (isSign_mem hs) a (by simp)).2
      rw [ha] at this
      cases this
theorem sep_sign {x m : List UInt8} (h : isSignB x = true) (hm : ∀ c r, m = c :: r → isSignB (x ++ [c]) = false) : Sep x m := fun i hi hl => by
  obtain ⟨c, r, j, rfl, e, hij⟩ := take_past hi hl
  rw [e]
  obtain ⟨s1, s2, s3, s4⟩ := sign_kind x (isSign_mem h)
  cases x with
  | nil => exact absurd rfl s3
  | cons a q =>
    have ha := sign_no_ltr _ (isSign_mem h) a (by simp)
    refine kind_mixed ?_ ?_ fun hlen => ?_
    · simp [isWordB, ha.1]
    · unfold isIntB
      simp [ha.2]
    · have hq : q = [] ∧ r.take j = [] := by
        simp only [List.length_append, List.length_cons, List.cons_append] at hlen
        exact ⟨List.eq_nil_of_length_eq_zero (by omega), List.eq_nil_of_length_eq_zero (by omega)⟩
      rw [hq.2]
      exact hm c r rfl
theorem signs_two : ∀ y ∈ signs, y.length = 2 → y.head? ∈ [some 124, some 38, some 61, some 33, some 60, some 62] := by decide
/-- A sign of one byte that begins no other. -/
theorem sep_one {a : UInt8} (h : isSignB [a] = true) (h2 : a ≠ 124 ∧ a ≠ 38 ∧ a ≠ 61 ∧ a ≠ 33 ∧ a ≠ 60 ∧ a ≠ 62) (m : List UInt8) : Sep [a] m := sep_sign h fun c r _ => by
  rw [Bool.eq_false_iff]
  intro hs
  have := signs_two _ (isSign_mem hs) rfl
  simp at this
  obtain ⟨q1, q2, q3, q4, q5, q6⟩ := h2
  rcases this with e | e | e | e | e | e
  · exact q1 e
  · exact q2 e
  · exact q3 e
  · exact q4 e
  · exact q5 e
  · exact q6 e
theorem sep_blank {x r : List UInt8} (h : isSignB x = true) : Sep x (32 :: r) := sep_sign h fun c r' e => by
  injection e with e _
  subst e
  rw [Bool.eq_false_iff]
  intro hs
  exact sign_none _ (isSign_mem hs) (by simp)
/-! ### Right tokens -/
theorem ok_word {x : List UInt8} (h : isWordB x = true) (hl : x.length ≤ 32) : okT x := by
  have hk : kOf x = 0 := by unfold kOf; rw [if_pos h]
  have hc := cut_word h
  refine ⟨by rw [hk]; exact hc, ?_⟩
  rw [hk]
  unfold errV
  rw [if_neg (fun h0 => hc.ne (List.eq_nil_of_length_eq_zero h0)), if_neg (by omega), if_neg (by omega)]
theorem ok_name {x : List UInt8} (h : name6 x = true) : okT x := by
  unfold name6 word6 at h
  rw [Bool.and_eq_true, Bool.and_eq_true] at h
  exact ok_word h.1.1 (of_decide_eq_true h.1.2)
theorem ok_sign {x : List UInt8} (h : isSignB x = true) : okT x := by
  have hc := cut_sign h
  have hw : isWordB x = false := by
    rw [Bool.eq_false_iff]
    intro hw
    have := (cut_word hw).kind
    rw [hc.kind] at this
    cases this
  have hi : isIntB x = false := by
    rw [Bool.eq_false_iff]
    intro hi
    have := (cut_int hi).kind
    rw [hc.kind] at this
    cases this
  have hk : kOf x = 2 := by unfold kOf; rw [if_neg (by rw [hw]; simp), if_neg (by rw [hi]; simp)]
  refine ⟨by rw [hk]; exact hc, ?_⟩
  rw [hk]
  unfold errV
  rw [if_neg (fun h0 => hc.ne (List.eq_nil_of_length_eq_zero h0)), if_neg (by omega), if_neg (by omega)]
theorem dec_dv (u : Nat) : dv (Lib.decDigits u) = u := by
  induction u using Nat.strongRecOn with
  | ind u ih =>
    rw [Lib.decDigits]
    have e : ∀ d, d < 10 → (UInt8.ofNat (48 + d)).toNat - 48 = d := fun d hd => by
      rw [UInt8.toNat_ofNat']
      omega
    split
    · next h1 =>
      unfold dv dvA
      simp only [List.foldl_cons, List.foldl_nil]
      rw [e u h1]
      omega
    · have h2 := ih (u / 10) (by omega)
      unfold dv dvA at h2 ⊢
      rw [List.foldl_append, h2]
      simp only [List.foldl_cons, List.foldl_nil]
      rw [e _ (by omega)]
      omega
theorem dec_ok {u : Nat} (h : u ≤ 9223372036854775808) : okT (Lib.decDigits u) := by
  have hi := dec_int u
  have hc := cut_int hi
  have hw : isWordB (Lib.decDigits u) = false := by
    rw [Bool.eq_false_iff]
    intro hw
    have := (cut_word hw).kind
    rw [hc.kind] at this
    cases this
  have hk : kOf (Lib.decDigits u) = 1 := by unfold kOf; rw [if_neg (by rw [hw]; simp), if_pos hi]
  refine ⟨by rw [hk]; exact hc, ?_⟩
  rw [hk]
  have hb : numBad (Lib.decDigits u) = false := by
    have hd := dec_digits u
    have hv := dec_dv u
    have h48 : 1 ≤ u → ∃ c r, Lib.decDigits u = c :: r ∧ c ≠ 48 := dec_head u
    have h19 : (Lib.decDigits u).length ≤ 19 := by
      rcases Nat.eq_zero_or_pos u with h0 | h0
      · subst h0
        rw [Lib.decDigits]
        simp
      · obtain ⟨c, r, e, hne⟩ := h48 h0
        have h1 := dv_ge c r (hd c (by rw [e]; simp)) hne
        rw [← e, hv] at h1
        rw [e, List.length_cons]
        have h2 : r.length < 19 := by
          rcases Nat.lt_or_ge r.length 19 with h3 | h3
          · exact h3
          · have : 10 ^ 19 ≤ 10 ^ r.length := Nat.pow_le_pow_right (by omega) h3
            omega
        omega
    unfold numBad
    rw [Bool.or_eq_false_iff, Bool.or_eq_false_iff]
    refine ⟨⟨?_, by rw [decide_eq_false_iff_not]; omega⟩, ?_⟩
    · rw [Bool.and_eq_false_iff]
      rcases Nat.eq_zero_or_pos u with h0 | h0
      · left
        subst h0
        rw [Lib.decDigits]
        simp
      · right
        obtain ⟨c, r, e, hne⟩ := h48 h0
        rw [e]
        simpa using hne
    · rw [Bool.and_eq_false_iff]
      by_cases hl : (Lib.decDigits u).length = 19
      · right
        obtain ⟨h1, h2⟩ := dv_less (Lib.decDigits u) topB (by rw [hl]; rfl) hd (by decide)
        have h3 : dv topB = 9223372036854775808 := by decide
        unfold gtB
        rw [h1, hv, h3]
        rcases Nat.lt_or_ge u 9223372036854775808 with h4 | h4
        · simp [h4]
        · have : Lib.decDigits u = topB := h2 (by rw [hv, h3]; omega)
          simp [this]
      · left
        simpa using hl
  unfold errV
  rw [if_neg (fun h0 => hc.ne (List.eq_nil_of_length_eq_zero h0)), if_neg (by omega), if_neg]
  rintro ⟨-, h2⟩
  unfold numV at h2
  rw [hb] at h2
  simp at h2
theorem num_ok {n : Int} (h : num6 n = true) (hn : n ≤ 9223372036854775807) : okT (numT n) := by
  obtain ⟨u, h1, h2⟩ := num_nat h
  rw [h1]
  refine dec_ok ?_
  split at h2 <;> omega
end

section
open Go.RowKit

theorem bnd_of {c : UInt8} {r : List UInt8} (h : ltr c = false ∧ dgt c = false) : Bnd (c :: r) := fun c' r' e => by
  injection e with e _
  subst e
  exact h
theorem wf_one {g t m : List UInt8} (h1 : g.all blk = true) (h2 : okT t) (h3 : Sep t m) : WF [(g, t)] m := ⟨h1, h2, h3, trivial⟩
theorem hdX_ne {t : List UInt8} (h : HdX t) : ∃ c r, t = c :: r ∧ c ≠ 61 := by
  rcases h with ⟨h, -⟩ | h | rfl | rfl | rfl | rfl
  · cases t with
    | nil => simp [isWordB] at h
    | cons c r =>
      refine ⟨c, r, rfl, ?_⟩
      rintro rfl
      unfold isWordB at h
      rw [Bool.and_eq_true] at h
      exact absurd h.1 (by decide)
  · cases t with
    | nil => simp [isIntB] at h
    | cons c r =>
      refine ⟨c, r, rfl, ?_⟩
      rintro rfl
      exact absurd ((int_all h).2 61 (by simp)) (by decide)
  all_goals exact ⟨_, _, rfl, by decide⟩
theorem layX_byts {e : XV} (h : RX e) (g : List UInt8) : ∃ c y, c ≠ 61 ∧ byts (layX e g) = g ++ c :: y := by
  obtain ⟨t, r, e1, e2⟩ := layX_head e h g
  obtain ⟨c, q, rfl, hc⟩ := hdX_ne e2
  exact ⟨c, q ++ byts r, hc, by rw [e1, byts_cons]; simp⟩
theorem brL_byts {e : XV} (h : RX e) (b : Bool) (g : List UInt8) : ∃ c y, c ≠ 61 ∧ byts (brL b (layX e) g) = g ++ c :: y := by
  unfold brL
  cases b with
  | false => exact layX_byts h g
  | true => exact ⟨40, _, by decide, by rw [if_pos rfl, byts_cons]; simp; rfl⟩
theorem two_signs : ∀ o : Int, 0 ≤ o ∧ o ≤ 17 → isSignB (txt6 o) = true := fun q h => by
  obtain ⟨k, rfl⟩ : ∃ k : Nat, q = k := ⟨q.toNat, by omega⟩
  have : ∀ k : Fin 18, isSignB (txt6 (k.val : Nat)) = true := by decide
  exact this ⟨k, by omega⟩
theorem wf_br {a : XV} (ih : ∀ g m, g.all blk = true → Bnd m → WF (layX a g) m) (b : Bool) (g m : List UInt8) (hg : g.all blk = true) (hm : Bnd m) : WF (brL b (layX a) g) m := by
  unfold brL
  cases b with
  | false => exact ih g m hg hm
  | true => exact ⟨hg, ok_sign (x := [40]) (by decide), sep_one (a := 40) (by decide) (by decide) _, (ih [] _ rfl (bnd_of (by decide))).append (wf_one rfl (ok_sign (by decide)) (sep_one (by decide) (by decide) _))⟩
theorem wf_X (e : XV) (h : RX e) (hin : In e) : ∀ g m, g.all blk = true → Bnd m → WF (layX e g) m := by
  induction h with
  | num n l c h => intro g m hg hm; rw [layX_num]; exact wf_one hg (num_ok h hin.n) (sep_int (num_int h) hm)
  | var x l c h => intro g m hg hm; rw [layX_var]; exact wf_one hg (ok_name h) (sep_word (name_word h) hm)
  | idx x a l c h ha ih =>
    intro g m hg hm
    have ih := ih (hin.gs a (by simp [XV.gs]))
    rw [layX_idx]
    exact ⟨hg, ok_name h, sep_word (name_word h) (bnd_of (by decide)), rfl, ok_sign (by decide), sep_one (by decide) (by decide) _, (ih [] _ rfl (bnd_of (by decide))).append (wf_one rfl (ok_sign (by decide)) (sep_one (by decide) (by decide) _))⟩
  | un o a l c h ha ih =>
    intro g m hg hm
    have ih := ih (hin.gs a (by simp [XV.gs]))
    rw [layX_un]
    have h := of_decide_eq_true (show decide _ = true from h)
    obtain ⟨c', y, hc, hb⟩ := brL_byts ha (decide (a.k = 4)) []
    obtain rfl | rfl | rfl : o = 18 ∨ o = 19 ∨ o = 20 := by omega
    · exact ⟨hg, ok_sign (x := txt6 18) (by decide), sep_one (a := 45) (by decide) (by decide) _, wf_br ih _ _ _ rfl hm⟩
    · refine ⟨hg, ok_sign (x := txt6 19) (by decide), sep_sign (x := txt6 19) (by decide) fun d r e => ?_, wf_br ih _ _ _ rfl hm⟩
      rw [hb] at e
      injection e with e _
      subst e
      rw [Bool.eq_false_iff]
      intro hs
      have : ∀ y ∈ signs, y.length = 2 → y.head? = some 33 → y = [33, 61] := by decide
      have := this _ (isSign_mem hs) rfl rfl
      injection this with _ this
      injection this with this
      exact hc this
    · exact ⟨hg, ok_sign (x := txt6 20) (by decide), sep_one (a := 126) (by decide) (by decide) _, wf_br ih _ _ _ rfl hm⟩
  | bin o a b l c h ha hb iha ihb =>
    intro g m hg hm
    have iha := iha (hin.gs a (by simp [XV.gs]))
    have ihb := ihb (hin.gs b (by simp [XV.gs]))
    rw [layX_bin]
    obtain ⟨c', y, -, hy⟩ := brL_byts hb (decide (b.k = 4 ∧ lev6 b.o ≤ lev6 o)) [32]
    refine (wf_br iha _ _ _ hg (bnd_of (by decide))).append ⟨rfl, ok_sign (two_signs o h), ?_, wf_br ihb _ _ _ rfl hm⟩
    rw [hy]
    exact sep_blank (two_signs o h)

/-! ### Statements -/
theorem nl_blk (d : Nat) : (nl d).all blk = true := by
  unfold nl
  rw [List.all_cons, Bool.and_eq_true]
  exact ⟨by decide, List.all_eq_true.2 fun c hc => by rw [(List.mem_replicate.1 hc).2]; decide⟩
theorem wf_C : ∀ (es : List XV) (m : List UInt8), (∀ e ∈ es, RX e) → (∀ e ∈ es, In e) → Bnd m → WF (layC es) m
  | [], _, _, _, _ => trivial
  | e :: r, m, h, hi, hm => by
    have ih := wf_C r m (fun a ha => h a (by simp [ha])) (fun a ha => hi a (by simp [ha])) hm
    refine ⟨rfl, ok_sign (by decide), sep_one (by decide) (by decide) _, (wf_X e (h e (by simp)) (hi e (by simp)) [32] _ rfl ?_).append ih⟩
    cases r with
    | nil => exact hm
    | cons b r => exact bnd_of (by decide)
theorem wf_A (es : List XV) (m : List UInt8) (h : ∀ e ∈ es, RX e) (hi : ∀ e ∈ es, In e) (hm : Bnd m) : WF (layA es) m := by
  cases es with
  | nil => trivial
  | cons e r =>
    refine (wf_X e (h e (by simp)) (hi e (by simp)) [] _ rfl ?_).append (wf_C r m (fun a ha => h a (by simp [ha])) (fun a ha => hi a (by simp [ha])) hm)
    cases r with
    | nil => exact hm
    | cons b r => exact bnd_of (by decide)
theorem wf_tok {t m : List UInt8} {g : List UInt8} {r : Lay} (h1 : g.all blk = true) (h2 : okT t) (h3 : Sep t (byts r ++ m)) (h4 : WF r m) : WF ((g, t) :: r) m := ⟨h1, h2, h3, h4⟩
/-- An expression, blanks ahead, something behind. -/
theorem wf_Xr {e : XV} (h : RX e) (hi : In e) {g : List UInt8} (hg : g.all blk = true) {r : Lay} {m : List UInt8} (hr : WF r m) (hm : Bnd (byts r ++ m)) : WF (layX e g ++ r) m := (wf_X e h hi g _ hg hm).append hr
theorem sgn {a : UInt8} (h : isSignB [a] = true) (h2 : a ≠ 124 ∧ a ≠ 38 ∧ a ≠ 61 ∧ a ≠ 33 ∧ a ≠ 60 ∧ a ≠ 62) {g : List UInt8} (hg : g.all blk = true) {r : Lay} {m : List UInt8} (hr : WF r m) : WF ((g, [a]) :: r) m := ⟨hg, ok_sign h, sep_one h h2 _, hr⟩
theorem byts_X32 {e : XV} (h : RX e) (r : Lay) (m : List UInt8) : ∃ y, byts (layX e [32] ++ r) ++ m = 32 :: y := by
  obtain ⟨c, y, -, hy⟩ := layX_byts h [32]
  exact ⟨_, by rw [byts_append, hy]; rfl⟩
theorem wf_S : ∀ (N : Nat) (s : SV), ssz1 s ≤ N → RS s → inS s = true → ∀ d m, WF (layS s d) m := by
  intro N
  induction N using Nat.strongRecOn with
  | ind N ihN =>
  intro s hz h hi d m
  have ie := inS_es hi
  have it := inS_ts hi
  have iu := inS_us hi
  have blocks : ∀ l : List SV, ssz l < N → (∀ s ∈ l, RS s) → inSs l = true → ∀ d m, WF (layB l d) m := by
    intro l
    induction l with
    | nil => intro _ _ _ _ _; trivial
    | cons a r ih =>
      intro hl hr hil d m
      simp only [ssz] at hl
      unfold inSs at hil
      rw [Bool.and_eq_true] at hil
      exact (ihN (ssz1 a) (by omega) a (Nat.le_refl _) (hr a (by simp)) hil.1 d _).append (ih (by omega) (fun b hb => hr b (by simp [hb])) hil.2 d m)
  have kw : ∀ (t : List UInt8), isWordB t = true → t.length ≤ 32 → ∀ {r : Lay} {m : List UInt8}, WF r m → Bnd (byts r ++ m) → WF ((nl d, t) :: r) m := fun t h1 h2 r m hr hb => ⟨nl_blk d, ok_word h1 h2, sep_word h1 hb, hr⟩
  cases h with
  | assign x e l c hx hX =>
    rw [layS_assign]
    obtain ⟨y, hy⟩ := byts_X32 hX [([], [59])] m
    refine ⟨nl_blk d, ok_name hx, sep_word (name_word hx) (bnd_of (by decide)), rfl, ok_sign (by decide), by rw [hy]; exact sep_blank (by decide), ?_⟩
    exact wf_Xr hX (ie e (by simp [SV.es])) rfl (sgn (by decide) (by decide) rfl trivial) (bnd_of (by decide))
  | store x i e l c hx hI hX =>
    rw [layS_store]
    obtain ⟨y, hy⟩ := byts_X32 hX [([], [59])] m
    refine ⟨nl_blk d, ok_name hx, sep_word (name_word hx) (bnd_of (by decide)), sgn (by decide) (by decide) rfl ?_⟩
    refine wf_Xr hI (ie i (by simp [SV.es])) rfl (sgn (by decide) (by decide) rfl ⟨rfl, ok_sign (by decide), by rw [hy]; exact sep_blank (by decide), ?_⟩) (bnd_of (by decide))
    exact wf_Xr hX (ie e (by simp [SV.es])) rfl (sgn (by decide) (by decide) rfl trivial) (bnd_of (by decide))
  | iff e ts us l c hX ht hu =>
    simp only [ssz1] at hz
    rw [layS_iff]
    obtain ⟨y, hy⟩ := byts_X32 hX (([32], [123]) :: (layB ts (d + 1) ++ (nl d, [125]) :: (if us.isEmpty then [] else ([32], kElse) :: ([32], [123]) :: (layB us (d + 1) ++ [(nl d, [125])])))) m
    refine kw kIf (by decide) (by decide) ?_ (by rw [hy]; exact bnd_of (by decide))
    refine wf_Xr hX (ie e (by simp [SV.es])) rfl (sgn (by decide) (by decide) rfl ((blocks ts (by omega) ht it _ _).append (sgn (by decide) (by decide) (nl_blk d) ?_))) (bnd_of (by decide))
    by_cases h0 : us.isEmpty
    · rw [if_pos h0]; trivial
    · rw [if_neg h0]
      refine ⟨rfl, ok_word (by decide) (by decide), sep_word (by decide) (bnd_of (by decide)), sgn (by decide) (by decide) rfl ((blocks us (by omega) hu iu _ _).append (sgn (by decide) (by decide) (nl_blk d) trivial))⟩
  | wh e ts l c hX ht =>
    simp only [ssz1] at hz
    rw [layS_wh]
    obtain ⟨y, hy⟩ := byts_X32 hX (([32], [123]) :: (layB ts (d + 1) ++ [(nl d, [125])])) m
    refine kw kWhile (by decide) (by decide) ?_ (by rw [hy]; exact bnd_of (by decide))
    exact wf_Xr hX (ie e (by simp [SV.es])) rfl (sgn (by decide) (by decide) rfl ((blocks ts (by omega) ht it _ _).append (sgn (by decide) (by decide) (nl_blk d) trivial))) (bnd_of (by decide))
  | out e l c hX =>
    rw [layS_out]
    obtain ⟨y, hy⟩ := byts_X32 hX [([], [59])] m
    refine kw kOutput (by decide) (by decide) ?_ (by rw [hy]; exact bnd_of (by decide))
    exact wf_Xr hX (ie e (by simp [SV.es])) rfl (sgn (by decide) (by decide) rfl trivial) (bnd_of (by decide))
  | call x es l c hx hX =>
    rw [layS_call]
    refine kw kCall (by decide) (by decide) ?_ (bnd_of (by decide))
    refine ⟨rfl, ok_name hx, sep_word (name_word hx) (bnd_of (by decide)), sgn (by decide) (by decide) rfl ?_⟩
    exact (wf_A es _ hX ie (bnd_of (by decide))).append (sgn (by decide) (by decide) rfl (sgn (by decide) (by decide) rfl trivial))
  | skip l c =>
    rw [layS_skip]
    exact kw kSkip (by decide) (by decide) (sgn (by decide) (by decide) rfl trivial) (bnd_of (by decide))
theorem wf_B : ∀ (l : List SV), (∀ s ∈ l, RS s) → inSs l = true → ∀ d m, WF (layB l d) m
  | [], _, _, _, _ => trivial
  | a :: r, h, hi, d, m => by
    unfold inSs at hi
    rw [Bool.and_eq_true] at hi
    exact (wf_S _ a (Nat.le_refl _) (h a (by simp)) hi.1 d _).append (wf_B r (fun b hb => h b (by simp [hb])) hi.2 d m)

/-! ### Declarations, programs -/
theorem wf_sint {z : Int} (h : -9223372036854775808 ≤ z ∧ z ≤ 9223372036854775807) {g : List UInt8} (hg : g.all blk = true) {r : Lay} {m : List UInt8} (hr : WF r m) (hm : Bnd (byts r ++ m)) : WF (sint z g ++ r) m := by
  unfold sint
  by_cases hz : z < 0
  · rw [if_pos hz]
    exact sgn (by decide) (by decide) hg ⟨rfl, dec_ok (by omega), sep_int (dec_int _) hm, hr⟩
  · rw [if_neg hz]
    exact ⟨hg, dec_ok (by omega), sep_int (dec_int _) hm, hr⟩
theorem wf_M : ∀ (ps : List (List UInt8)) (m : List UInt8), (∀ x ∈ ps, name6 x = true) → Bnd m → WF (layM ps) m
  | [], _, _, _ => trivial
  | x :: r, m, h, hm => by
    have ih := wf_M r m (fun a ha => h a (by simp [ha])) hm
    refine sgn (by decide) (by decide) rfl ⟨rfl, ok_name (h x (by simp)), sep_word (name_word (h x (by simp))) ?_, ih⟩
    cases r with
    | nil => exact hm
    | cons b r => exact bnd_of (by decide)
theorem wf_N (ps : List (List UInt8)) (m : List UInt8) (h : ∀ x ∈ ps, name6 x = true) (hm : Bnd m) : WF (layN ps) m := by
  cases ps with
  | nil => trivial
  | cons x r =>
    refine ⟨rfl, ok_name (h x (by simp)), sep_word (name_word (h x (by simp))) ?_, wf_M r m (fun a ha => h a (by simp [ha])) hm⟩
    cases r with
    | nil => exact hm
    | cons b r => exact bnd_of (by decide)
/-- Ranges within int64. -/
def inR (d : DV) : Prop := (-9223372036854775808 ≤ d.lo ∧ d.lo ≤ 9223372036854775807) ∧ (-9223372036854775808 ≤ d.hi ∧ d.hi ≤ 9223372036854775807)
theorem wf_D {d : DV} (h : rgd1 d = true) (hi : inD d = true) (hr : inR d) (m : List UInt8) : WF (layD d) m := by
  obtain ⟨a1, a2, a3, a4, a5, -⟩ := rgd_kind h
  unfold inD at hi
  rw [Bool.and_eq_true] at hi
  have nx : ∀ {g : List UInt8} {r : Lay} {m : List UInt8}, g.all blk = true → WF r m → Bnd (byts r ++ m) → WF ((g, d.x) :: r) m := fun hg hr hb => ⟨hg, ok_name a2, sep_word (name_word a2) hb, hr⟩
  have kw : ∀ (t : List UInt8), isWordB t = true → t.length ≤ 32 → ∀ {g : List UInt8} {r : Lay} {m : List UInt8}, g.all blk = true → WF r m → Bnd (byts r ++ m) → WF ((g, t) :: r) m := fun t h1 h2 g r m hg hr hb => ⟨hg, ok_word h1 h2, sep_word h1 hb, hr⟩
  unfold layD
  by_cases h01 : d.k = 0 ∨ d.k = 1
  · rw [if_pos h01]
    have hk : isWordB (if d.k = 0 then kPublic else kSecret) = true ∧ (if d.k = 0 then kPublic else kSecret).length ≤ 32 := by split <;> decide
    refine kw _ hk.1 hk.2 (nl_blk 0) (nx rfl (kw kIn (by decide) (by decide) rfl (sgn (by decide) (by decide) rfl ?_) (bnd_of (by decide))) (bnd_of (by decide))) (bnd_of (by decide))
    exact wf_sint hr.1 rfl (sgn (by decide) (by decide) rfl (wf_sint hr.2 rfl (sgn (by decide) (by decide) rfl (sgn (by decide) (by decide) rfl trivial)) (bnd_of (by decide)))) (bnd_of (by decide))
  · rw [if_neg h01]
    by_cases h2 : d.k = 2
    · rw [if_pos h2]
      exact kw kVar (by decide) (by decide) (nl_blk 0) (nx rfl (sgn (by decide) (by decide) rfl trivial) (bnd_of (by decide))) (bnd_of (by decide))
    · rw [if_neg h2]
      by_cases h3 : d.k = 3
      · rw [if_pos h3]
        refine kw kArray (by decide) (by decide) (nl_blk 0) (nx rfl (sgn (by decide) (by decide) rfl ⟨rfl, num_ok a3 (of_decide_eq_true hi.1), sep_int (num_int a3) (bnd_of (by decide)), sgn (by decide) (by decide) rfl (sgn (by decide) (by decide) rfl trivial)⟩) (bnd_of (by decide))) (bnd_of (by decide))
      · rw [if_neg h3]
        refine kw kProc (by decide) (by decide) (nl_blk 0) (nx rfl (sgn (by decide) (by decide) rfl ((wf_N d.ps _ a4 (bnd_of (by decide))).append (sgn (by decide) (by decide) rfl (sgn (by decide) (by decide) rfl ?_)))) (bnd_of (by decide))) (bnd_of (by decide))
        exact (wf_B d.body a5 hi.2 _ _).append (sgn (by decide) (by decide) (nl_blk 0) trivial)
theorem wf_Ds : ∀ (ds : List DV), rgd ds = true → ds.all inD = true → (∀ d ∈ ds, inR d) → ∀ m, WF (layDs ds) m
  | [], _, _, _, _ => trivial
  | d :: r, h, hi, hr, m => by
    unfold rgd at h
    simp only [List.all_cons, Bool.and_eq_true] at h hi
    exact (wf_D h.1 hi.1 (hr d (by simp)) _).append (wf_Ds r h.2 hi.2 (fun a ha => hr a (by simp [ha])) m)
theorem wf_P {ds : List DV} {mn : List SV} (h : rgd ds = true) (hm : rgs mn = true) (i : ds.all inD = true) (im : inSs mn = true) (hr : ∀ d ∈ ds, inR d) (m : List UInt8) : WF (layP ds mn) m := by
  refine (wf_Ds ds h i hr _).append ⟨nl_blk 0, ok_word (by decide) (by decide), sep_word (by decide) (bnd_of (by decide)), sgn (by decide) (by decide) rfl ?_⟩
  exact (wf_B mn (rs_all _ hm) im _ _).append (sgn (by decide) (by decide) (nl_blk 0) trivial)

/-! ### The texts -/
/-- A program's text; an expression's. -/
def textP (ds : List DV) (mn : List SV) : List UInt8 := (byts (layP ds mn) ++ [10]).drop 1
def textX (e : XV) : List UInt8 := byts (layX e [])
theorem drop_nl {a b : List UInt8} {x y : List UInt8} (ha : a = 10 :: x) (hb : b = 10 :: y) (h : a.drop 1 = b.drop 1) : a = b := by subst ha hb; simpa using h
theorem layD_nl (d : DV) : ∃ t r, layD d = (nl 0, t) :: r := by
  unfold layD
  split
  · exact ⟨_, _, rfl⟩
  · split
    · exact ⟨_, _, rfl⟩
    · split <;> exact ⟨_, _, rfl⟩
theorem layP_nl (ds : List DV) (mn : List SV) : ∃ t r, layP ds mn = (nl 0, t) :: r := by
  unfold layP
  cases ds with
  | nil => exact ⟨_, _, rfl⟩
  | cons d r =>
    obtain ⟨t, q, e⟩ := layD_nl d
    exact ⟨t, _, by simp [layDs, e]; rfl⟩
theorem textP_inj {ds es : List DV} {mn mm : List SV} (h : rgd ds = true) (h' : rgd es = true) (hm : rgs mn = true) (hm' : rgs mm = true) (i : ds.all inD = true) (i' : es.all inD = true) (im : inSs mn = true) (im' : inSs mm = true) (hr : ∀ d ∈ ds, inR d) (hr' : ∀ d ∈ es, inR d) (he : textP ds mn = textP es mm) : (smd ds es && smy mn mm) = true := by
  refine prog_inj h h' hm hm' i i' im im' ?_
  refine byts_inj (m := [10]) (by decide) (wf_P h hm i im hr _) (wf_P h' hm' i' im' hr' _) ?_
  obtain ⟨t, r, e1⟩ := layP_nl ds mn
  obtain ⟨t', r', e2⟩ := layP_nl es mm
  exact drop_nl (x := t ++ byts r ++ [10]) (y := t' ++ byts r' ++ [10]) (by rw [e1, byts_cons]; simp [nl]) (by rw [e2, byts_cons]; simp [nl]) he
theorem textX_inj {e f : XV} (he : RX e) (hf : RX f) (ie : In e) (jf : In f) (h : textX e = textX f) : smx1 e f = true := by
  have hb : Bnd [] := fun c r e => by cases e
  have h1 := byts_inj (m := []) rfl (wf_X e he ie [] [] rfl hb) (wf_X f hf jf [] [] rfl hb) (by simpa [textX] using h)
  have st : Stop 1 [] := fun t r e => by cases e
  exact (tokens_inj he hf ie jf st st (by simpa using h1)).1
end

section
open Go.RowKit

mutual
theorem layX_same : ∀ e f : XV, smx1 e f = true → layX e = layX f
  | .mk k n x o gs l c, .mk k' n' x' o' gs' l' c', h => by
    unfold smx1 at h
    simp only [Bool.and_eq_true, beq_iff_eq] at h
    obtain ⟨rfl, rfl, rfl, rfl, h5⟩ := h
    obtain ⟨h6, h7⟩ := layXs_same gs gs' h5
    unfold layX
    rw [h6, h7]
theorem layXs_same : ∀ es fs : List XV, smx es fs = true → layXs es = layXs fs ∧ (es.map fun e => (e.k, e.o)) = (fs.map fun e => (e.k, e.o))
  | [], [], _ => ⟨rfl, rfl⟩
  | [], _ :: _, h => by simp [smx] at h
  | _ :: _, [], h => by simp [smx] at h
  | a :: r, b :: s, h => by
    unfold smx at h
    rw [Bool.and_eq_true] at h
    obtain ⟨h1, h2⟩ := layXs_same r s h.2
    have h3 := layX_same a b h.1
    have h4 : (a.k, a.o) = (b.k, b.o) := by
      have := (smx1_iff a b).1 h.1
      rw [← strip_k a, ← strip_o a, this, strip_k, strip_o]
    exact ⟨by simp [layXs, h1, h3], by simp only [List.map_cons, h2, h4]⟩
end
theorem map_same : ∀ es fs : List XV, smx es fs = true → es.map layX = fs.map layX
  | [], [], _ => rfl
  | [], _ :: _, h => by simp [smx] at h
  | _ :: _, [], h => by simp [smx] at h
  | a :: r, b :: s, h => by
    unfold smx at h
    rw [Bool.and_eq_true] at h
    simp only [List.map_cons]
    rw [layX_same a b h.1, map_same r s h.2]
theorem layC_map (es : List XV) : layC es = (es.map layX).flatMap fun t => ([], [44]) :: t [32] := by
  induction es with
  | nil => rfl
  | cons e r ih => simp [layC, ih]
theorem layA_same {es fs : List XV} (h : smx es fs = true) : layA es = layA fs := by
  cases es with
  | nil =>
    cases fs with
    | nil => rfl
    | cons b s => simp [smx] at h
  | cons a r =>
    cases fs with
    | nil => simp [smx] at h
    | cons b s =>
      unfold smx at h
      rw [Bool.and_eq_true] at h
      simp only [layA]
      rw [layX_same a b h.1, layC_map, layC_map, map_same r s h.2]
mutual
theorem layS_same : ∀ s t : SV, smy1 s t = true → ∀ d, layS s d = layS t d
  | .mk k x es ts us l c, .mk k' x' es' ts' us' l' c', h, d => by
    unfold smy1 at h
    simp only [Bool.and_eq_true, beq_iff_eq] at h
    obtain ⟨rfl, rfl, h3, h4, h5⟩ := h
    have e1 := map_same es es' h3
    have e2 := layA_same h3
    have e3 : es.tail.map layX = es'.tail.map layX := by rw [List.map_tail, List.map_tail, e1]
    have e4 : us.isEmpty = us'.isEmpty := by
      cases us with
      | nil => cases us' with
        | nil => rfl
        | cons b r => simp [smy] at h5
      | cons a r => cases us' with
        | nil => simp [smy] at h5
        | cons b r => rfl
    unfold layS
    rw [layB_same ts ts' h4, layB_same us us' h5, e4]
    unfold mkS
    rw [e1, e2, e3]
theorem layB_same : ∀ l m : List SV, smy l m = true → ∀ d, layB l d = layB m d
  | [], [], _, _ => rfl
  | [], _ :: _, h, _ => by simp [smy] at h
  | _ :: _, [], h, _ => by simp [smy] at h
  | a :: r, b :: s, h, d => by
    unfold smy at h
    rw [Bool.and_eq_true] at h
    simp only [layB]
    rw [layS_same a b h.1, layB_same r s h.2]
end
theorem layD_same {d e : DV} (h : smd1 d e = true) : layD d = layD e := by
  unfold smd1 at h
  simp only [Bool.and_eq_true, beq_iff_eq] at h
  obtain ⟨h1, h2, h3, h4, h5, h6, h7⟩ := h
  unfold layD
  rw [h1, h2, h3, h4, h5, h6, layB_same _ _ h7]
theorem layDs_same : ∀ ds es : List DV, smd ds es = true → layDs ds = layDs es
  | [], [], _ => rfl
  | [], _ :: _, h => by simp [smd] at h
  | _ :: _, [], h => by simp [smd] at h
  | a :: r, b :: s, h => by
    unfold smd at h
    rw [Bool.and_eq_true] at h
    simp only [layDs]
    rw [layD_same h.1, layDs_same r s h.2]
theorem textP_same {ds es : List DV} {mn mm : List SV} (h : (smd ds es && smy mn mm) = true) : textP ds mn = textP es mm := by
  rw [Bool.and_eq_true] at h
  unfold textP layP
  rw [layDs_same ds es h.1, layB_same mn mm h.2]
theorem textX_same {e f : XV} (h : smx1 e f = true) : textX e = textX f := by
  unfold textX
  rw [layX_same e f h]
/-- Two right programs have the same text, if, and only if, they are the same; so have two right expressions. -/
theorem textP_iff {ds es : List DV} {mn mm : List SV} (h : rgd ds = true) (h' : rgd es = true) (hm : rgs mn = true) (hm' : rgs mm = true) (i : ds.all inD = true) (i' : es.all inD = true) (im : inSs mn = true) (im' : inSs mm = true) (hr : ∀ d ∈ ds, inR d) (hr' : ∀ d ∈ es, inR d) : textP ds mn = textP es mm ↔ (smd ds es && smy mn mm) = true :=
  ⟨textP_inj h h' hm hm' i i' im im' hr hr', textP_same⟩
theorem textX_iff {e f : XV} (he : RX e) (hf : RX f) (ie : In e) (jf : In f) : textX e = textX f ↔ smx1 e f = true := ⟨textX_inj he hf ie jf, textX_same⟩

/-! ### Lines -/
/-- Statements' lines, so deep in blocks. -/
def linesB (l : List SV) (d : Nat) : List UInt8 := (byts (layB l d) ++ [10]).drop 1
theorem layS_nl {s : SV} (h : RS s) (d : Nat) : ∃ t r, layS s d = (nl d, t) :: r := by
  cases h with
  | assign x e l c hx hX => rw [layS_assign]; exact ⟨_, _, rfl⟩
  | store x i e l c hx hI hX => rw [layS_store]; exact ⟨_, _, rfl⟩
  | iff e ts us l c hX ht hu => rw [layS_iff]; exact ⟨_, _, rfl⟩
  | wh e ts l c hX ht => rw [layS_wh]; exact ⟨_, _, rfl⟩
  | out e l c hX => rw [layS_out]; exact ⟨_, _, rfl⟩
  | call x es l c hx hX => rw [layS_call]; exact ⟨_, _, rfl⟩
  | skip l c => rw [layS_skip]; exact ⟨_, _, rfl⟩
/-- A line's bytes, without the 10 ahead, with one behind. -/
def lineS (s : SV) (d : Nat) : List UInt8 := (byts (layS s d) ++ [10]).drop 1
theorem linesB_nil (d : Nat) : linesB [] d = [] := rfl
theorem byts_nl {s : SV} (h : RS s) (d : Nat) : ∃ y, byts (layS s d) = 10 :: (List.replicate (2 * d) 32 ++ y) := by
  obtain ⟨t, r, e⟩ := layS_nl h d
  exact ⟨t ++ byts r, by rw [e, byts_cons]; simp [nl]⟩
theorem bytsB_nl : ∀ (l : List SV), (∀ s ∈ l, RS s) → ∀ d, ∃ y, byts (layB l d) ++ [10] = 10 :: y
  | [], _, _ => ⟨[], rfl⟩
  | a :: r, h, d => by
    obtain ⟨y, e⟩ := byts_nl (h a (by simp)) d
    exact ⟨List.replicate (2 * d) 32 ++ y ++ byts (layB r d) ++ [10], by simp only [layB, byts_append, e]; simp⟩
theorem linesB_cons {s : SV} {l : List SV} (h : ∀ a ∈ s :: l, RS a) (d : Nat) : linesB (s :: l) d = lineS s d ++ linesB l d := by
  obtain ⟨y, e⟩ := byts_nl (h s (by simp)) d
  obtain ⟨z, e2⟩ := bytsB_nl l (fun a ha => h a (by simp [ha])) d
  unfold linesB lineS
  simp only [layB, byts_append, e]
  rw [List.append_assoc, e2]
  simp
theorem linesB_take {l : List SV} (h : ∀ a ∈ l, RS a) {i : Nat} {s : SV} (hs : l[i]? = some s) (d : Nat) : linesB (l.take (i + 1)) d = linesB (l.take i) d ++ lineS s d := by
  induction l generalizing i with
  | nil => simp at hs
  | cons a r ih =>
    have hr : ∀ b ∈ r, RS b := fun b hb => h b (by simp [hb])
    cases i with
    | zero =>
      simp at hs
      subst hs
      simp only [List.take_succ_cons, List.take_zero]
      rw [linesB_cons (by simpa using h a (by simp)), linesB_nil, List.append_nil, List.nil_append]
    | succ i =>
      simp only [List.take_succ_cons]
      have hs : r[i]? = some s := by simpa using hs
      have ht : ∀ j, ∀ b ∈ a :: r.take j, RS b := fun j b hb => by
        rcases List.mem_cons.1 hb with e | hb
        · rw [e]; exact h a (by simp)
        · exact hr b (List.mem_of_mem_take hb)
      rw [linesB_cons (ht _), linesB_cons (ht _), ih hr hs, List.append_assoc]
end
end Go.Proofs.YtejifkeeihkcjaaDoor
