/- A number's digits, and the texts that are such. -/
import Derived.Test.YthcglobehoaocaaDoorDeciH
namespace Go.Proofs.YthcglobehoaocaaDoor

/-- A row of digits without noughts ahead. -/
def Canon (l : List UInt8) : Prop := (∀ c ∈ l, isDig c) ∧ (l = [48] ∨ ∃ c r, l = c :: r ∧ c ≠ 48)

theorem ofNat_dig (d : Nat) (h : d < 10) : isDig (UInt8.ofNat (48 + d)) ∧ (UInt8.ofNat (48 + d)).toNat = 48 + d := by
  have e : (UInt8.ofNat (48 + d)).toNat = 48 + d := by
    simp only [UInt8.toNat_ofNat']
    omega
  exact ⟨by unfold isDig; rw [e]; omega, e⟩
theorem dec_big {N : Nat} (h : ¬ N < 10) : Lib.decDigits N = Lib.decDigits (N / 10) ++ [UInt8.ofNat (48 + N % 10)] := by rw [Lib.decDigits, dif_neg h]
theorem dval_dec (N : Nat) : dval (Lib.decDigits N) = N := by
  induction N using Nat.strongRecOn with
  | _ N ih =>
    by_cases h : N < 10
    · rw [Lib.decDigits_one h]
      have := (ofNat_dig N h).2
      simp only [dval, List.foldl_cons, List.foldl_nil, this]
      omega
    · rw [dec_big h, dval_snoc, ih (N / 10) (by omega), (ofNat_dig (N % 10) (by omega)).2]
      omega
theorem dec_ne (N : Nat) : Lib.decDigits N ≠ [] := by
  intro h
  have := Lib.decDigits_length N
  have h2 := Lib.nDigits_pos N
  rw [h] at this
  simp at this
  omega
theorem dec_canon (N : Nat) : Canon (Lib.decDigits N) := by
  induction N using Nat.strongRecOn with
  | _ N ih =>
    by_cases h : N < 10
    · rw [Lib.decDigits_one h]
      have hd := ofNat_dig N h
      refine ⟨fun c hc => by rw [List.mem_singleton.1 hc]; exact hd.1, ?_⟩
      rcases Nat.eq_zero_or_pos N with h0 | h0
      · subst h0; exact .inl rfl
      · refine .inr ⟨_, _, rfl, fun e => ?_⟩
        have := hd.2
        rw [e] at this
        have h48 : (48 : UInt8).toNat = 48 := rfl
        omega
    · have hi := ih (N / 10) (by omega)
      rw [dec_big h]
      refine ⟨fun c hc => ?_, .inr ?_⟩
      · rcases List.mem_append.1 hc with hc | hc
        · exact hi.1 c hc
        · rw [List.mem_singleton.1 hc]; exact (ofNat_dig (N % 10) (by omega)).1
      · rcases hi.2 with h1 | ⟨c, r, h1, h2⟩
        · have := dval_dec (N / 10)
          rw [h1] at this
          have h48 : dval [48] = 0 := rfl
          omega
        · exact ⟨c, r ++ [UInt8.ofNat (48 + N % 10)], by rw [h1]; rfl, h2⟩
theorem canon_dec : ∀ (n : Nat) (l : List UInt8), l.length = n → Canon l → Lib.decDigits (dval l) = l := by
  intro n
  induction n with
  | zero =>
    intro l hl h
    have : l = [] := List.eq_nil_of_length_eq_zero hl
    subst this
    rcases h.2 with h | ⟨c, r, h, _⟩ <;> cases h
  | succ n ih =>
    intro l hl h
    have hne : l ≠ [] := by intro e; rw [e] at hl; cases hl
    obtain ⟨m, c, rfl⟩ : ∃ m c, l = m ++ [c] := ⟨l.dropLast, l.getLast hne, (List.dropLast_concat_getLast hne).symm⟩
    have hc := h.1 c (by simp)
    have hco : UInt8.ofNat (48 + (c.toNat - 48)) = c := by
      rw [show 48 + (c.toNat - 48) = c.toNat by have := hc.1; omega]
      simp
    have hc9 : c.toNat - 48 < 10 := by have := hc.2; omega
    rw [dval_snoc]
    cases m with
    | nil =>
      have : dval ([] : List UInt8) = 0 := rfl
      rw [this, Nat.zero_mul, Nat.zero_add, Lib.decDigits_one hc9, hco]
      rfl
    | cons x m =>
      have hx : x ≠ 48 := by
        rcases h.2 with h | ⟨y, r, h, h2⟩
        · simp at h
        · injection h with h3 _
          rw [h3]; exact h2
      have hm : Canon (x :: m) := ⟨fun d hd => h.1 d (List.mem_append_left _ hd), .inr ⟨x, m, rfl, hx⟩⟩
      have hi := ih (x :: m) (by simpa using hl) hm
      have hpos : 0 < dval (x :: m) := by
        rcases Nat.eq_zero_or_pos (dval (x :: m)) with h0 | h0
        · rw [h0, Lib.decDigits_one (by omega)] at hi
          injection hi with h3 _
          exact absurd h3.symm hx
        · exact h0
      generalize dval (x :: m) = d at *
      rw [dec_big (by omega), show (d * 10 + (c.toNat - 48)) / 10 = d by omega, show (d * 10 + (c.toNat - 48)) % 10 = c.toNat - 48 by omega, hi, hco]
theorem canon_iff (l : List UInt8) : Canon l ↔ Lib.decDigits (dval l) = l :=
  ⟨canon_dec l.length l rfl, fun h => h ▸ dec_canon (dval l)⟩
theorem canon_spells (l : List UInt8) : Canon l ↔ ∃ N, l = Lib.decDigits N := ⟨fun h => ⟨dval l, ((canon_iff l).1 h).symm⟩, fun ⟨N, h⟩ => h ▸ dec_canon N⟩
end Go.Proofs.YthcglobehoaocaaDoor
