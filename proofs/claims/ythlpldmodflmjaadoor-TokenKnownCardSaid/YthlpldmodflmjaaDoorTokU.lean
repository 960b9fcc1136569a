/- What digits spell: the reference's number and the library's (no program in it). -/
import Derived.Test.YthlpldmodflmjaaDoorTokA
import Derived.Lib.ParseIntBCases
namespace Go.Proofs.YthlpldmodflmjaaDoor

def dvA (a : Nat) (l : List UInt8) : Nat := l.foldl (fun a c => a * 10 + (c.toNat - 48)) a
def dv (l : List UInt8) : Nat := dvA 0 l
theorem dgt_iff (c : UInt8) : dgt c = true ↔ 48 ≤ c.toNat ∧ c.toNat ≤ 57 := by unfold dgt; simp
theorem dvA_cons (a : Nat) (c : UInt8) (r : List UInt8) : dvA a (c :: r) = dvA (a * 10 + (c.toNat - 48)) r := by unfold dvA; rw [List.foldl_cons]
theorem dvA_eq (l : List UInt8) : ∀ a : Nat, dvA a l = a * 10 ^ l.length + dv l := by
  induction l with
  | nil => intro a; simp [dv, dvA]
  | cons c r ih =>
    intro a
    have e : dv (c :: r) = dvA (0 * 10 + (c.toNat - 48)) r := dvA_cons 0 c r
    rw [dvA_cons, ih, e, ih]
    simp only [List.length_cons, Nat.pow_succ, Nat.zero_mul, Nat.zero_add]
    generalize 10 ^ r.length = T
    generalize c.toNat - 48 = d
    generalize dv r = v
    rw [Nat.add_mul, Nat.mul_assoc, Nat.mul_comm 10 T]
    omega
theorem dv_cons (c : UInt8) (r : List UInt8) : dv (c :: r) = (c.toNat - 48) * 10 ^ r.length + dv r := by
  have e : dv (c :: r) = dvA (0 * 10 + (c.toNat - 48)) r := dvA_cons 0 c r
  rw [e, dvA_eq, Nat.zero_mul, Nat.zero_add]
theorem dvA_ge (l : List UInt8) (a : Nat) : a ≤ dvA a l := by
  rw [dvA_eq]
  have : 1 ≤ 10 ^ l.length := Nat.pow_pos (by omega)
  have h2 : a * 1 ≤ a * 10 ^ l.length := Nat.mul_le_mul_left a this
  omega
theorem dv_lt (l : List UInt8) (h : ∀ c ∈ l, dgt c = true) : dv l < 10 ^ l.length := by
  induction l with
  | nil => simp [dv, dvA]
  | cons c r ih =>
    rw [dv_cons]
    have h1 := ih fun x hx => h x (by simp [hx])
    have h2 := (dgt_iff c).1 (h c (by simp))
    have h3 : (c.toNat - 48) * 10 ^ r.length ≤ 9 * 10 ^ r.length := Nat.mul_le_mul_right _ (by omega)
    rw [List.length_cons, Nat.pow_succ]
    omega
theorem dv_ge (c : UInt8) (r : List UInt8) (h : dgt c = true) (h0 : c ≠ 48) : 10 ^ r.length ≤ dv (c :: r) := by
  rw [dv_cons]
  have h2 := (dgt_iff c).1 h
  have h3 : c.toNat ≠ 48 := fun e => h0 (UInt8.toNat_inj.1 e)
  have h4 : 1 * 10 ^ r.length ≤ (c.toNat - 48) * 10 ^ r.length := Nat.mul_le_mul_right _ (by omega)
  omega
/-- Digits of as many places are compared as their numbers are. -/
theorem dv_less : ∀ (l m : List UInt8), l.length = m.length → (∀ c ∈ l, dgt c = true) → (∀ c ∈ m, dgt c = true) → Go.Op.bytesLess l m = decide (dv l < dv m) ∧ (dv l = dv m → l = m) := by
  intro l
  induction l with
  | nil =>
    intro m hm _ _
    have : m = [] := by simpa using hm.symm
    subst this
    simp [Go.Op.bytesLess]
  | cons a r ih =>
    intro m hm hl hd
    cases m with
    | nil => simp at hm
    | cons b q =>
      have hlen : r.length = q.length := by simpa using hm
      have ha := (dgt_iff a).1 (hl a (by simp))
      have hb := (dgt_iff b).1 (hd b (by simp))
      have hr := dv_lt r fun x hx => hl x (by simp [hx])
      have hq := dv_lt q fun x hx => hd x (by simp [hx])
      obtain ⟨hi, hj⟩ := ih q hlen (fun x hx => hl x (by simp [hx])) (fun x hx => hd x (by simp [hx]))
      unfold Go.Op.bytesLess
      rw [hi, dv_cons, dv_cons, hlen]
      rw [hlen] at hr
      by_cases h1 : a.toNat < b.toNat
      · have e1 : a < b := UInt8.lt_iff_toNat_lt.2 h1
        have h2 : (a.toNat - 48 + 1) * 10 ^ q.length ≤ (b.toNat - 48) * 10 ^ q.length := Nat.mul_le_mul_right _ (by omega)
        rw [Nat.add_mul, Nat.one_mul] at h2
        have h3 : (a.toNat - 48) * 10 ^ q.length + dv r < (b.toNat - 48) * 10 ^ q.length + dv q := by omega
        exact ⟨by simp [e1, h3], fun e => by omega⟩
      · have e1 : ¬ a < b := fun h => h1 (UInt8.lt_iff_toNat_lt.1 h)
        by_cases h2 : a.toNat = b.toNat
        · have e2 : a = b := UInt8.toNat_inj.1 h2
          subst e2
          exact ⟨by simp, fun e => by rw [hj (by omega)]⟩
        · have e2 : (a == b) = false := by
            simp only [beq_eq_false_iff_ne]
            intro h; exact h2 (congrArg UInt8.toNat h)
          have h3 : (b.toNat - 48 + 1) * 10 ^ q.length ≤ (a.toNat - 48) * 10 ^ q.length := Nat.mul_le_mul_right _ (by omega)
          rw [Nat.add_mul, Nat.one_mul] at h3
          have h4 : ¬ (a.toNat - 48) * 10 ^ q.length + dv r < (b.toNat - 48) * 10 ^ q.length + dv q := by omega
          exact ⟨by simp [e1, e2, h4], fun e => by omega⟩

/-- The reference's number is what the digits spell, cut at 2^64. -/
theorem numW_dv (l : List UInt8) (h : ∀ c ∈ l, dgt c = true) : numW l = dv l % LB := by
  have key : ∀ (l : List UInt8), (∀ c ∈ l, dgt c = true) → ∀ a, l.foldl (fun n c => (10 * n + (c - 48).toNat) % LB) (a % LB) = dvA a l % LB := by
    intro l
    induction l with
    | nil => intro _ a; rfl
    | cons c r ih =>
      intro h a
      have h2 := (dgt_iff c).1 (h c (by simp))
      have h3 : (c - 48).toNat = c.toNat - 48 := by
        have := c.toNat_lt
        rw [UInt8.toNat_sub]
        show (2 ^ 8 - 48 + c.toNat) % 2 ^ 8 = _
        omega
      rw [List.foldl_cons, dvA_cons, h3, ← ih (fun x hx => h x (by simp [hx])) (a * 10 + (c.toNat - 48))]
      congr 1
      unfold LB
      omega
  exact key l h 0
/-- What the library reads in digits. -/
theorem parse_dv (l : List UInt8) (h : ∀ c ∈ l, dgt c = true) : ∀ a, a ≤ 18446744073709551615 → Lib.parseUintM 18446744073709551615 a l = if dvA a l ≤ 18446744073709551615 then .ok (dvA a l) else .range := by
  induction l with
  | nil => intro a ha; unfold Lib.parseUintM; rw [if_pos]; rfl; exact ha
  | cons c r ih =>
    intro a ha
    have h2 := (dgt_iff c).1 (h c (by simp))
    have hm := dvA_ge r (a * 10 + (c.toNat - 48))
    unfold Lib.parseUintM
    rw [if_pos h2, dvA_cons]
    by_cases h3 : 1844674407370955162 ≤ a
    · rw [if_pos h3, if_neg (by omega)]
    · rw [if_neg h3]
      by_cases h4 : 18446744073709551615 < a * 10 + (c.toNat - 48)
      · rw [if_pos h4, if_neg (by omega)]
      · rw [if_neg h4]
        exact ih (fun x hx => h x (by simp [hx])) _ (by omega)
theorem parse_digits (l : List UInt8) (h : isIntB l = true) : Lib.parseUintB 64 l = if dv l ≤ 18446744073709551615 then .ok (dv l) else .range := by
  unfold isIntB at h
  simp only [Bool.and_eq_true, Bool.not_eq_true', List.isEmpty_eq_false_iff, List.all_eq_true] at h
  unfold Lib.parseUintB
  rw [if_neg h.1]
  exact parse_dv l h.2 0 (by omega)
theorem topB_dv : dv topB = 9223372036854775808 := by decide
theorem topB_dgt : ∀ c ∈ topB, dgt c = true := by decide
/-- A number that is none: noughts ahead, or more than 2^63. -/
theorem numBad_iff (l : List UInt8) (h : isIntB l = true) : numBad l = true ↔ ((1 < l.length ∧ l[0]? = some 48) ∨ 9223372036854775808 < dv l) := by
  unfold isIntB at h
  simp only [Bool.and_eq_true, Bool.not_eq_true', List.isEmpty_eq_false_iff, List.all_eq_true] at h
  obtain ⟨hne, hd⟩ := h
  have hlt := dv_lt l hd
  unfold numBad
  simp only [Bool.or_eq_true, Bool.and_eq_true, decide_eq_true_eq, beq_iff_eq]
  by_cases h0 : 1 < l.length ∧ l[0]? = some 48
  · simp [h0]
  · have hge : 1 < l.length → 10 ^ (l.length - 1) ≤ dv l := by
      intro h1
      cases l with
      | nil => exact absurd rfl hne
      | cons c r =>
        rw [List.length_cons, Nat.add_sub_cancel]
        exact dv_ge c r (hd c (by simp)) (fun e => h0 ⟨h1, by simp [e]⟩)
    rcases Nat.lt_trichotomy l.length 19 with h1 | h1 | h1
    · have h2 : 10 ^ l.length ≤ 10 ^ 18 := Nat.pow_le_pow_right (by omega) (by omega)
      have h3 : (10 : Nat) ^ 18 = 1000000000000000000 := by decide
      constructor
      · rintro ((h | h) | h)
        · exact absurd h h0
        · omega
        · omega
      · rintro (h | h)
        · exact absurd h h0
        · omega
    · have hb := dv_less l topB (by rw [h1]; rfl) hd topB_dgt
      rw [topB_dv] at hb
      unfold gtB
      rw [hb.1]
      constructor
      · rintro ((h | h) | h)
        · exact absurd h h0
        · omega
        · right
          have h2 := h.2
          simp only [Bool.not_eq_true', Bool.or_eq_false_iff, decide_eq_false_iff_not, beq_eq_false_iff_ne] at h2
          have h3 : dv l ≠ 9223372036854775808 := fun e => h2.2 (hb.2 e)
          omega
      · rintro (h | h)
        · exact absurd h h0
        · right
          refine ⟨h1, ?_⟩
          simp only [Bool.not_eq_true', Bool.or_eq_false_iff, decide_eq_false_iff_not, beq_eq_false_iff_ne]
          refine ⟨by omega, fun e => ?_⟩
          have h4 : dv l = 9223372036854775808 := by rw [e]; exact topB_dv
          omega
    · have h2 : 10 ^ 19 ≤ 10 ^ (l.length - 1) := Nat.pow_le_pow_right (by omega) (by omega)
      have h3 : (10 : Nat) ^ 19 = 10000000000000000000 := by decide
      have h4 := hge (by omega)
      constructor
      · intro _; right; omega
      · intro _; left; right; exact h1
/-- The three ways of an int's digits. -/
theorem digits_ways (l : List UInt8) (h : isIntB l = true) :
    (numBad l = false ∧ Lib.parseUintB 64 l = .ok (dv l) ∧ dv l ≤ 9223372036854775808 ∧ (l.length ≤ 1 ∨ l[0]? ≠ some 48) ∧ numV l = (IntKind.i64.wrap (dv l), true)) ∨
    (numBad l = true ∧ Lib.parseUintB 64 l = .range ∧ numV l = (0, false)) ∨
    (numBad l = true ∧ Lib.parseUintB 64 l = .ok (dv l) ∧ 9223372036854775808 < dv l ∧ dv l ≤ 18446744073709551615 ∧ numV l = (0, false)) ∨
    (numBad l = true ∧ Lib.parseUintB 64 l = .ok (dv l) ∧ dv l ≤ 9223372036854775808 ∧ 1 < l.length ∧ l[0]? = some 48 ∧ numV l = (0, false)) := by
  have hp := parse_digits l h
  have hb := numBad_iff l h
  have hd : ∀ c ∈ l, dgt c = true := by
    unfold isIntB at h
    simp only [Bool.and_eq_true, Bool.not_eq_true', List.isEmpty_eq_false_iff, List.all_eq_true] at h
    exact h.2
  by_cases hbad : numBad l = true
  · right
    have hv : numV l = (0, false) := by unfold numV; rw [if_pos hbad]
    by_cases h1 : dv l ≤ 18446744073709551615
    · rw [if_pos h1] at hp
      right
      by_cases h2 : 9223372036854775808 < dv l
      · exact .inl ⟨hbad, hp, h2, h1, hv⟩
      · right
        rcases hb.1 hbad with h3 | h3
        · exact ⟨hbad, hp, by omega, h3.1, h3.2, hv⟩
        · omega
    · rw [if_neg h1] at hp
      exact .inl ⟨hbad, hp, hv⟩
  · left
    have h1 : ¬ ((1 < l.length ∧ l[0]? = some 48) ∨ 9223372036854775808 < dv l) := fun e => hbad (hb.2 e)
    have h2 : dv l ≤ 9223372036854775808 := by omega
    rw [if_pos (by omega)] at hp
    refine ⟨Bool.eq_false_iff.2 hbad, hp, h2, ?_, ?_⟩
    · by_cases h3 : l.length ≤ 1
      · exact .inl h3
      · exact .inr fun e => h1 (.inl ⟨by omega, e⟩)
    · unfold numV
      rw [if_neg hbad, numW_dv l hd, Nat.mod_eq_of_lt (by unfold LB; omega)]
end Go.Proofs.YthlpldmodflmjaaDoor
