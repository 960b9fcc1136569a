/- The contract of deci's Parse, whole; the chapter's examples (works). -/
import Derived.Test.YthcglobehoaocaaDoorDeciI
import Derived.Test.YthcglobehoaocaaDoorDeciJ
namespace Go.Proofs.YthcglobehoaocaaDoor
open Go.RowKit

theorem toList_data (s : ByteArray) : s.toList = s.data.toList := ByteArray.toList_eq s
theorem lead_yes (s : ByteArray) (h : Canon s.data.toList) : lead s true := by
  unfold lead
  rw [toList_data]
  rcases h.2 with h1 | ⟨c, r, h1, h2⟩
  · left; rw [h1]; exact ⟨rfl, rfl⟩
  · right; right
    have hsz : 0 < s.size := by rw [← size_len, h1]; simp
    have h0 : s[0]'hsz = c := by
      have : s.data.toList[0]'(by rw [h1]; simp) = c := by simp [h1]
      exact this
    refine ⟨?_, by rw [h1]; rfl, hsz, ?_⟩
    · rw [h1]
      simp only [beq_eq_false_iff_ne, ne_eq]
      intro e
      injection e with e _
      exact h2 e
    · rw [h0]
      simp only [bne_iff_ne, ne_eq]
      intro e
      apply h2
      have : c.toNat = (48 : UInt8).toNat := by
        have h48 : (48 : UInt8).toNat = 48 := rfl
        omega
      exact UInt8.toNat_inj.1 this
theorem lead_no (s : ByteArray) (hd : allDig s) (h : ¬ Canon s.data.toList) : lead s false := by
  unfold lead
  rw [toList_data]
  right
  rw [allDig_iff] at hd
  cases hl : s.data.toList with
  | nil => left; exact ⟨rfl, rfl, rfl⟩
  | cons c r =>
    right
    have hsz : 0 < s.size := by rw [← size_len, hl]; simp
    have h0 : s[0]'hsz = c := by
      have : s.data.toList[0]'(by rw [hl]; simp) = c := by simp [hl]
      exact this
    have hc : c = 48 := by
      by_cases e : c = 48
      · exact e
      · exact absurd ⟨hd, .inr ⟨c, r, hl, e⟩⟩ h
    have hr : r ≠ [] := by
      intro e
      rw [hc, e] at hl
      exact h ⟨hd, .inl hl⟩
    refine ⟨?_, rfl, hsz, ?_⟩
    · simp only [beq_eq_false_iff_ne, ne_eq]
      intro e
      injection e with _ e
      exact hr e
    · rw [h0, hc]; rfl

theorem deciParse_yes (s : ByteArray) (c0 : Int) (w : World) (h : Canon s.data.toList) (hs : s.size ≤ 1000000) : Calls Tryd.prog 20 #[.string s, .int .i64 c0] w (ParseEnd c0 (dval s.data.toList) s.size w) :=
  parse_good s c0 w ((allDig_iff s).2 h.1) (lead_yes s h) hs
theorem deciParse_no (s : ByteArray) (c0 : Int) (w : World) (h : ¬ Canon s.data.toList) : Calls Tryd.prog 20 #[.string s, .int .i64 c0] w fun e w' => e = .returned (.tuple #[.agg #[.slice none 0 0], .int .i64 20]) ∧ Below w.heap.size w w' := by
  refine parse_bad s c0 w fun w => ?_
  by_cases hd : allDig s
  · exact areDigits_good s false w hd (lead_no s hd h)
  · have : ∃ i, ∃ hi : i < s.size, ¬ isDig (s[i]'hi) := by
      apply Classical.byContradiction
      intro hn
      apply hd
      intro i hi
      apply Classical.byContradiction
      intro hb
      exact hn ⟨i, hi, hb⟩
    obtain ⟨i, hi, hb⟩ := this
    exact areDigits_bad s w i hi hb

/-! The chapter's examples. -/
def bigText : List UInt8 := [49, 56, 52, 52, 54, 55, 52, 52, 48, 55, 51, 55, 48, 57, 53, 53, 49, 54, 49, 54]
def lowText : List UInt8 := [57, 50, 50, 51, 51, 55, 50, 48, 51, 54, 56, 53, 52, 55, 55, 53, 56, 48, 56]
theorem bigVal : dval bigText = LB := by unfold LB; rfl
theorem lowVal : dval lowText = 9223372036854775808 := by rfl
theorem bigCanon : Canon bigText := ⟨by unfold bigText isDig; decide, .inr ⟨49, _, rfl, by decide⟩⟩
theorem lowCanon : Canon lowText := ⟨by unfold lowText isDig; decide, .inr ⟨57, _, rfl, by decide⟩⟩
theorem bigDec : Lib.decDigits LB = bigText := by rw [← bigVal]; exact (canon_iff _).1 bigCanon
theorem lowDec : Lib.decDigits 9223372036854775808 = lowText := by rw [← lowVal]; exact (canon_iff _).1 lowCanon
theorem bigDigits : Lib.nDigits LB = 20 := by rw [← Lib.decDigits_length, bigDec]; rfl
theorem lowWhole : Lib.itoa (-9223372036854775808) = 45 :: lowText := by
  unfold Lib.itoa
  rw [if_pos (by omega), show (-9223372036854775808 : Int).natAbs = 9223372036854775808 from rfl, lowDec]
theorem minusZero : ¬ ∃ v, spells [45, 48] v := by
  rintro ⟨v, h1, h2⟩
  have h3 : Lib.parseIntB 64 [45, 48] = .ok 0 := by decide
  rw [h1] at h3
  injection h3 with h3
  subst h3
  have h4 : Lib.itoa 0 = [48] := by
    unfold Lib.itoa
    rw [if_neg (by omega)]
    exact Lib.decDigits_one (by omega)
  rw [h4] at h2
  cases h2
theorem no007 : ¬ Canon [48, 48, 55] := by
  rintro ⟨_, h | ⟨c, r, h, h2⟩⟩
  · cases h
  · injection h with h _
    exact h2 h.symm
theorem capOne : ¬ Fit 1 LB := by
  unfold Fit
  rw [show capN 1 = 1 from rfl, Nat.pow_one]
  exact Nat.lt_irrefl _
end Go.Proofs.YthcglobehoaocaaDoor
