/- Digits read back, whole numbers read back, texts of numbers compared. -/
import Derived.Test.YthcglobehoaocaaDoorDeciK
import Derived.Lib.ItoaMem
import Derived.Lib.ParseIntBCases
namespace Go.Proofs.YthcglobehoaocaaDoor

theorem uint_all : ∀ (l : List UInt8) (acc : Nat), (∀ c ∈ l, isDig c) → l.foldl (fun a c => a * 10 + (c.toNat - 48)) acc ≤ 18446744073709551615 →
    Lib.parseUintM 18446744073709551615 acc l = .ok (l.foldl (fun a c => a * 10 + (c.toNat - 48)) acc) := by
  intro l
  induction l with
  | nil => intro acc _ _; rfl
  | cons c r ih =>
    intro acc hd hle
    have hc := hd c (by simp)
    unfold isDig at hc
    rw [List.foldl_cons] at hle ⊢
    have hle2 : acc * 10 + (c.toNat - 48) ≤ 18446744073709551615 := by
      refine Nat.le_trans ?_ hle
      rw [dvalA_eq]
      exact Nat.le_trans (Nat.le_mul_of_pos_right _ (Nat.pow_pos (by omega))) (Nat.le_add_right _ _)
    unfold Lib.parseUintM
    rw [if_pos (by omega), if_neg (by omega), if_neg (by omega)]
    exact ih _ (fun x hx => hd x (by simp [hx])) hle

theorem uint_dec (u : Nat) (h : u ≤ 18446744073709551615) : Lib.parseUintB 64 (Lib.decDigits u) = .ok u := by
  have hd : ∀ c ∈ Lib.decDigits u, isDig c := (dec_canon u).1
  have hv : (Lib.decDigits u).foldl (fun a c => a * 10 + (c.toNat - 48)) 0 = u := by
    have := dvalA_eq (Lib.decDigits u) 0
    rw [dval_dec] at this
    omega
  unfold Lib.parseUintB
  rw [if_neg (dec_ne u)]
  have := uint_all (Lib.decDigits u) 0 hd (by rw [hv]; exact h)
  rw [hv] at this
  exact this

theorem dec_head (u : Nat) : ∃ c r, Lib.decDigits u = c :: r ∧ isDig c := by
  have hd := (dec_canon u).1
  cases hl : Lib.decDigits u with
  | nil => exact absurd hl (dec_ne u)
  | cons c r => exact ⟨c, r, rfl, hd c (by rw [hl]; simp)⟩

theorem int_dec (m : Int) (h0 : -9223372036854775808 ≤ m) (h1 : m ≤ 9223372036854775807) : Lib.parseIntB 64 (Lib.itoa m) = .ok m := by
  by_cases hn : m < 0
  · obtain ⟨u, rfl⟩ : ∃ u : Nat, m = -(u : Int) := ⟨m.natAbs, by omega⟩
    rw [Lib.itoa_neg u (by omega)]
    rw [Lib.parseIntB_minus, uint_dec u (by omega)]
    unfold Lib.signedC
    simp only
    rw [if_neg (by omega)]
  · obtain ⟨u, rfl⟩ : ∃ u : Nat, m = (u : Int) := ⟨m.toNat, by omega⟩
    rw [Lib.itoa_nonneg]
    obtain ⟨c, r, hcr, hc⟩ := dec_head u
    have hu := uint_dec u (by omega)
    unfold isDig at hc
    rw [hcr] at hu ⊢
    rw [Lib.parseIntB_plain 64 c r (by omega) (by omega), hu]
    unfold Lib.signlessC
    simp only
    rw [if_neg (by omega)]

theorem spells_itoa (m : Int) (h0 : -9223372036854775808 ≤ m) (h1 : m ≤ 9223372036854775807) : spells (Lib.itoa m) m := ⟨int_dec m h0 h1, rfl⟩
theorem spells_iff (l : List UInt8) (v : Int) : spells l v ↔ (-9223372036854775808 ≤ v ∧ v ≤ 9223372036854775807) ∧ Lib.itoa v = l := by
  constructor
  · rintro ⟨h1, h2⟩
    have := Lib.parseIntB_bounds h1
    exact ⟨by omega, h2⟩
  · rintro ⟨h, h2⟩
    subst h2
    exact spells_itoa v h.1 h.2

theorem nDigits_pow : ∀ (u : Nat), 1 ≤ u → 10 ^ (Lib.nDigits u - 1) ≤ u := by
  intro u
  induction u using Nat.strongRecOn with
  | _ u ih =>
  intro hu
  by_cases h : u < 10
  · rw [Lib.nDigits_small h]; simpa using hu
  · rw [Lib.nDigits_big h]
    have h1 := ih (u / 10) (by omega) (by omega)
    have hp : 1 ≤ Lib.nDigits (u / 10) := by
      by_cases h2 : u / 10 < 10
      · rw [Lib.nDigits_small h2]; exact Nat.le_refl _
      · rw [Lib.nDigits_big h2]; omega
    have e : Lib.nDigits (u / 10) + 1 - 1 = (Lib.nDigits (u / 10) - 1) + 1 := by omega
    rw [e, Nat.pow_succ]
    omega
theorem nDigits_pos (u : Nat) : 1 ≤ Lib.nDigits u := by
  by_cases h2 : u < 10
  · rw [Lib.nDigits_small h2]; exact Nat.le_refl _
  · rw [Lib.nDigits_big h2]; omega
theorem lt_pow_nDigits (u : Nat) : u < 10 ^ Lib.nDigits u := by
  have := dval_lt (Lib.decDigits u) (dec_canon u).1
  rwa [dval_dec, Lib.decDigits_length] at this
theorem lt_of_nDigits {M N : Nat} (h : Lib.nDigits M < Lib.nDigits N) : M < N := by
  have h1 := lt_pow_nDigits M
  have hN : 1 ≤ N := by
    rcases Nat.eq_zero_or_pos N with h0 | h0
    · subst h0
      have := nDigits_pos M
      rw [Lib.nDigits_small (u := 0) (by omega)] at h
      omega
    · exact h0
  have h2 := nDigits_pow N hN
  have h3 : 10 ^ Lib.nDigits M ≤ 10 ^ (Lib.nDigits N - 1) := Nat.pow_le_pow_right (by omega) (by omega)
  omega

theorem dval_cons (c : UInt8) (r : List UInt8) : dval (c :: r) = (c.toNat - 48) * 10 ^ r.length + dval r := by
  show (c :: r).foldl (fun a c => a * 10 + (c.toNat - 48)) 0 = _
  rw [List.foldl_cons, dvalA_eq]
  simp
theorem less_iff : ∀ (l m : List UInt8), l.length = m.length → (∀ c ∈ l, isDig c) → (∀ c ∈ m, isDig c) → Go.Op.bytesLess l m = decide (dval l < dval m) := by
  intro l
  induction l with
  | nil =>
    intro m hm _ _
    have : m = [] := by simpa using hm.symm
    subst this
    simp [Go.Op.bytesLess]
  | cons a r ih =>
    intro m hm hl hd
    cases m with
    | nil => simp at hm
    | cons b q =>
      have hlen : r.length = q.length := by simpa using hm
      have ha := hl a (by simp)
      have hb := hd b (by simp)
      have hr := dval_lt r fun x hx => hl x (by simp [hx])
      have hq := dval_lt q fun x hx => hd x (by simp [hx])
      have hi := ih q hlen (fun x hx => hl x (by simp [hx])) (fun x hx => hd x (by simp [hx]))
      unfold isDig at ha hb
      unfold Go.Op.bytesLess
      rw [hi, dval_cons, dval_cons, hlen]
      rw [hlen] at hr
      by_cases h1 : a.toNat < b.toNat
      · have e1 : a < b := UInt8.lt_iff_toNat_lt.2 h1
        have h2 : (a.toNat - 48 + 1) * 10 ^ q.length ≤ (b.toNat - 48) * 10 ^ q.length := Nat.mul_le_mul_right _ (by omega)
        rw [Nat.add_mul, Nat.one_mul] at h2
        have h3 : (a.toNat - 48) * 10 ^ q.length + dval r < (b.toNat - 48) * 10 ^ q.length + dval q := by omega
        simp [e1, h3]
      · have e1 : ¬ a < b := fun h => h1 (UInt8.lt_iff_toNat_lt.1 h)
        by_cases h2 : a.toNat = b.toNat
        · have e2 : a = b := UInt8.toNat_inj.1 h2
          subst e2
          simp
        · have e2 : (a == b) = false := by
            simp only [beq_eq_false_iff_ne]
            intro h; exact h2 (congrArg UInt8.toNat h)
          have h3 : (b.toNat - 48 + 1) * 10 ^ q.length ≤ (a.toNat - 48) * 10 ^ q.length := Nat.mul_le_mul_right _ (by omega)
          rw [Nat.add_mul, Nat.one_mul] at h3
          have h4 : ¬ (a.toNat - 48) * 10 ^ q.length + dval r < (b.toNat - 48) * 10 ^ q.length + dval q := by omega
          simp [e1, e2, h4]

/-- How two numbers and their texts are compared. -/
theorem cmp_cases (M N : Nat) (sX sY : ByteArray) (hX : sX = ⟨(Lib.decDigits M).toArray⟩) (hY : sY = ⟨(Lib.decDigits N).toArray⟩) :
    (cmpI M N = -1 ∧ sX.size < sY.size ∧ (sX.toList == sY.toList) = false) ∨
    (cmpI M N = -1 ∧ sX.size = sY.size ∧ Go.Op.bytesLess sX.toList sY.toList = true ∧ (sX.toList == sY.toList) = false) ∨
    (cmpI M N = 0 ∧ sX = sY ∧ Go.Op.bytesLess sX.toList sX.toList = false) ∨
    (cmpI M N = 1 ∧ sY.size < sX.size ∧ (sX.toList == sY.toList) = false) ∨
    (cmpI M N = 1 ∧ sX.size = sY.size ∧ Go.Op.bytesLess sX.toList sY.toList = false ∧ (sX.toList == sY.toList) = false) := by
  have lX : sX.toList = Lib.decDigits M := by rw [toList_data, hX]
  have lY : sY.toList = Lib.decDigits N := by rw [toList_data, hY]
  have zX : sX.size = Lib.nDigits M := by rw [hX, size_list, Lib.decDigits_length]
  have zY : sY.size = Lib.nDigits N := by rw [hY, size_list, Lib.decDigits_length]
  have hne : M ≠ N → (sX.toList == sY.toList) = false := by
    intro h
    rw [lX, lY, beq_eq_false_iff_ne]
    intro e
    have := congrArg dval e
    rw [dval_dec, dval_dec] at this
    exact h this
  have hb : Lib.nDigits M = Lib.nDigits N → Go.Op.bytesLess sX.toList sY.toList = decide (M < N) := by
    intro h
    rw [lX, lY, less_iff _ _ (by rw [Lib.decDigits_length, Lib.decDigits_length, h]) (dec_canon M).1 (dec_canon N).1, dval_dec, dval_dec]
  rcases Nat.lt_trichotomy M N with h | h | h
  · rcases Nat.lt_trichotomy (Lib.nDigits M) (Lib.nDigits N) with k | k | k
    · exact .inl ⟨cmpI_lt h, by omega, hne (by omega)⟩
    · exact .inr (.inl ⟨cmpI_lt h, by omega, by rw [hb k]; simpa using h, hne (by omega)⟩)
    · have := lt_of_nDigits k; omega
  · subst h
    refine .inr (.inr (.inl ⟨cmpI_eq rfl, hX.trans hY.symm, ?_⟩))
    rw [lX, less_iff _ _ rfl (dec_canon M).1 (dec_canon M).1]
    simp
  · rcases Nat.lt_trichotomy (Lib.nDigits M) (Lib.nDigits N) with k | k | k
    · have := lt_of_nDigits k; omega
    · exact .inr (.inr (.inr (.inr ⟨cmpI_gt h, by omega, by rw [hb k]; simp; omega, hne (by omega)⟩)))
    · exact .inr (.inr (.inr (.inl ⟨cmpI_gt h, by omega, hne (by omega)⟩)))
end Go.Proofs.YthcglobehoaocaaDoor
