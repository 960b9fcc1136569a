/- Plain mathematics of a division by two digits: Knuth's step. Nothing of the program. -/
import Derived.Test.YthcglobehoaocaaDoorMath
namespace Go.Proofs.YthcglobehoaocaaDoor
namespace Knuth

/-- The state of one step's loop: the guessed digit is not too small, and what is left over by the divisor's upper half. -/
structure Inv (y1 y0 n d q r : Nat) : Prop where
  split : q * y1 + r = n
  ge : (n * 4294967296 + d) / (y1 * 4294967296 + y0) ≤ q
  le : q ≤ 4294967297
  rlt : r < 4294967296

variable {y1 y0 n d q r : Nat}

theorem whole (q y1 y0 : Nat) : q * (y1 * 4294967296 + y0) = q * y1 * 4294967296 + q * y0 := by rw [Nat.mul_add, Nat.mul_assoc]

theorem digit_lt (hn : n < y1 * 4294967296 + y0) (hd : d < 4294967296) : (n * 4294967296 + d) / (y1 * 4294967296 + y0) < 4294967296 := by
  rw [Nat.div_lt_iff_lt_mul (by omega)]
  omega

theorem start (hy1 : 2147483648 ≤ y1) (hy1' : y1 < 4294967296) (hy0 : y0 < 4294967296) (hn : n < y1 * 4294967296 + y0) (hd : d < 4294967296) : Inv y1 y0 n d (n / y1) (n - n / y1 * y1) := by
  have hdm := Nat.div_add_mod n y1
  have hml := Nat.mod_lt n (show 0 < y1 by omega)
  have hc : n / y1 * y1 = y1 * (n / y1) := Nat.mul_comm _ _
  refine ⟨by omega, ?_, ?_, by omega⟩
  · rw [Nat.le_div_iff_mul_le (by omega)]
    have h1 := Nat.div_mul_le_self (n * 4294967296 + d) (y1 * 4294967296 + y0)
    generalize (n * 4294967296 + d) / (y1 * 4294967296 + y0) = t at h1 ⊢
    rw [whole] at h1
    generalize t * y1 = z at h1 ⊢
    omega
  · have : n / y1 < 4294967298 := by
      rw [Nat.div_lt_iff_lt_mul (by omega)]
      omega
    omega

theorem above1 (hn : n < y1 * 4294967296 + y0) (hd : d < 4294967296) (h : 4294967296 ≤ q) : (n * 4294967296 + d) / (y1 * 4294967296 + y0) < q := Nat.lt_of_lt_of_le (digit_lt hn hd) h
theorem above2 (hp : 0 < y1) (hs : q * y1 + r = n) (h : 4294967296 * r + d < q * y0) : (n * 4294967296 + d) / (y1 * 4294967296 + y0) < q := by
  rw [Nat.div_lt_iff_lt_mul (by omega), whole]
  generalize q * y1 = z at *
  generalize q * y0 = m at *
  omega
theorem Inv.next (h : Inv y1 y0 n d q r) (ha : (n * 4294967296 + d) / (y1 * 4294967296 + y0) < q) (hr : r + y1 < 4294967296) : Inv y1 y0 n d (q - 1) (r + y1) := by
  obtain ⟨p, rfl⟩ : ∃ p, q = p + 1 := ⟨q - 1, by have := Nat.lt_of_le_of_lt (Nat.zero_le _) ha; omega⟩
  have h1 := h.split
  have h2 := h.le
  rw [Nat.add_mul, Nat.one_mul] at h1
  refine ⟨?_, by omega, by omega, hr⟩
  rw [Nat.add_sub_cancel]
  omega
theorem Inv.stop (h : Inv y1 y0 n d q r) (hp : 0 < y1) (hy0 : y0 < 4294967296) (ha : (n * 4294967296 + d) / (y1 * 4294967296 + y0) < q) (hr : 4294967296 ≤ r + y1) : q - 1 = (n * 4294967296 + d) / (y1 * 4294967296 + y0) := by
  obtain ⟨p, rfl⟩ : ∃ p, q = p + 1 := ⟨q - 1, by have := Nat.lt_of_le_of_lt (Nat.zero_le _) ha; omega⟩
  have h1 := h.split
  have h2 := h.le
  rw [Nat.add_mul, Nat.one_mul] at h1
  have h3 : p ≤ (n * 4294967296 + d) / (y1 * 4294967296 + y0) := by
    rw [Nat.le_div_iff_mul_le (by omega), whole]
    have h4 : p * y0 ≤ 4294967296 * 4294967296 := Nat.mul_le_mul (by omega) (by omega)
    generalize p * y1 = z at *
    generalize p * y0 = m at *
    omega
  omega
theorem Inv.done (h : Inv y1 y0 n d q r) (hp : 0 < y1) (h2 : ¬ 4294967296 * r + d < q * y0) : q = (n * 4294967296 + d) / (y1 * 4294967296 + y0) := by
  have h1 := h.split
  have h3 : q ≤ (n * 4294967296 + d) / (y1 * 4294967296 + y0) := by
    rw [Nat.le_div_iff_mul_le (by omega), whole]
    generalize q * y1 = z at *
    generalize q * y0 = m at *
    omega
  have := h.ge
  omega

/-- Two steps make the whole. -/
theorem both_any (h A Y D0 : Nat) (hY : 0 < Y) : (A * h + D0) / Y = A / Y * h + (A % Y * h + D0) / Y ∧ (A * h + D0) % Y = (A % Y * h + D0) % Y := by
  have h1 := Nat.div_add_mod A Y
  have e : A * h + D0 = (A % Y * h + D0) + Y * (A / Y * h) := by
    have : A * h = (Y * (A / Y) + A % Y) * h := by rw [h1]
    rw [this, Nat.add_mul, Nat.mul_assoc]
    omega
  rw [e, Nat.add_mul_div_left _ _ hY, Nat.add_mul_mod_self_left]
  exact ⟨Nat.add_comm _ _, rfl⟩
theorem both (Y N D1 D0 : Nat) (hY : 0 < Y) : ((N * 4294967296 + D1) * 4294967296 + D0) / Y = (N * 4294967296 + D1) / Y * 4294967296 + ((N * 4294967296 + D1) % Y * 4294967296 + D0) / Y ∧ ((N * 4294967296 + D1) * 4294967296 + D0) % Y = ((N * 4294967296 + D1) % Y * 4294967296 + D0) % Y :=
  both_any 4294967296 (N * 4294967296 + D1) Y D0 hY

/-- Both are moved to the left by s digits. -/
theorem moved (hi lo s : Nat) (hs : s ≤ 64) :
    (hi * 18446744073709551616 + lo) * 2 ^ s = ((hi * 2 ^ s + lo / 2 ^ (64 - s)) * 4294967296 + lo * 2 ^ s % 18446744073709551616 / 4294967296) * 4294967296 + lo * 2 ^ s % 18446744073709551616 % 4294967296 := by
  have hp : (2 : Nat) ^ (64 - s) * 2 ^ s = 18446744073709551616 := by rw [← Nat.pow_add, show 64 - s + s = 64 by omega]
  have e : lo * 2 ^ s = lo / 2 ^ (64 - s) * 18446744073709551616 + lo % 2 ^ (64 - s) * 2 ^ s := by
    have h1 := Nat.div_add_mod lo (2 ^ (64 - s))
    calc lo * 2 ^ s = (2 ^ (64 - s) * (lo / 2 ^ (64 - s)) + lo % 2 ^ (64 - s)) * 2 ^ s := by rw [h1]
      _ = _ := by rw [Nat.add_mul, ← hp, Nat.mul_comm (2 ^ (64 - s)) (lo / _), Nat.mul_assoc]
  have hlt : lo % 2 ^ (64 - s) * 2 ^ s < 18446744073709551616 := by
    rw [← hp]
    exact Nat.mul_lt_mul_of_pos_right (Nat.mod_lt _ (Nat.two_pow_pos _)) (Nat.two_pow_pos _)
  rw [Nat.add_mul, e]
  have e2 : hi * 18446744073709551616 * 2 ^ s = hi * 2 ^ s * 18446744073709551616 := by rw [Nat.mul_assoc, Nat.mul_comm 18446744073709551616, ← Nat.mul_assoc]
  rw [e2]
  generalize hi * 2 ^ s = a
  generalize lo / 2 ^ (64 - s) = b
  generalize lo % 2 ^ (64 - s) * 2 ^ s = c at *
  omega

theorem all (hi lo y s : Nat) (hs : s ≤ 64) (hy : 0 < y) (N D1 D0 : Nat) (hN : N = hi * 2 ^ s + lo / 2 ^ (64 - s)) (h1 : D1 = lo * 2 ^ s % 18446744073709551616 / 4294967296) (h0 : D0 = lo * 2 ^ s % 18446744073709551616 % 4294967296) :
    (N * 4294967296 + D1) / (y * 2 ^ s) * 4294967296 + ((N * 4294967296 + D1) % (y * 2 ^ s) * 4294967296 + D0) / (y * 2 ^ s) = (hi * 18446744073709551616 + lo) / y ∧
      ((N * 4294967296 + D1) % (y * 2 ^ s) * 4294967296 + D0) % (y * 2 ^ s) / 2 ^ s = (hi * 18446744073709551616 + lo) % y := by
  have hm := moved hi lo s hs
  rw [← hN, ← h1, ← h0] at hm
  have hb := both (y * 2 ^ s) N D1 D0 (Nat.mul_pos hy (Nat.two_pow_pos _))
  rw [← hm] at hb
  rw [← hb.1, ← hb.2, Nat.mul_div_mul_right _ _ (Nat.two_pow_pos _), Nat.mul_mod_mul_right, Nat.mul_div_cancel _ (Nat.two_pow_pos _)]
  exact ⟨rfl, rfl⟩

/-- The number moved to the left is less than the divisor moved. -/
theorem top_lt (hi lo y s : Nat) (hs : s ≤ 64) (hlo : lo < 18446744073709551616) (h : hi < y) : hi * 2 ^ s + lo / 2 ^ (64 - s) < y * 2 ^ s := by
  have h1 : lo / 2 ^ (64 - s) < 2 ^ s := by
    rw [Nat.div_lt_iff_lt_mul (Nat.two_pow_pos _), ← Nat.pow_add, show s + (64 - s) = 64 by omega]
    exact hlo
  have h2 : (hi + 1) * 2 ^ s ≤ y * 2 ^ s := Nat.mul_le_mul_right _ h
  rw [Nat.add_mul, Nat.one_mul] at h2
  omega
end Knuth
end Go.Proofs.YthcglobehoaocaaDoor
