/- Stage 3, ahead of the code: powers, sums of powers, bits and logs of numbers (no program in it but the cap's Fit). -/
import Derived.Test.YthcnopopkgelhaaNatF
namespace Go.Proofs.Ythcnopopkgelhaa

/-- a^0 + .. + a^n. -/
def psum (a : Nat) : Nat → Nat
  | 0 => 1
  | n + 1 => psum a n + a ^ (n + 1)
theorem psum_next (a : Nat) : ∀ n, psum a n * a + 1 = psum a (n + 1) := by
  intro n
  induction n with
  | zero => simp [psum, Nat.add_comm]
  | succ n ih =>
    show (psum a n + a ^ (n + 1)) * a + 1 = psum a (n + 1) + a ^ (n + 2)
    rw [← ih, Nat.add_mul, Nat.pow_succ a (n + 1)]
    omega
theorem pow_le_psum (a n : Nat) : a ^ n ≤ psum a n := by
  cases n with
  | zero => simp [psum]
  | succ n => exact Nat.le_add_left _ _
theorem psum_pos (a n : Nat) : 1 ≤ psum a n := by
  induction n with
  | zero => simp [psum]
  | succ n ih => exact Nat.le_trans ih (Nat.le_add_right _ _)
theorem psum_mono (a : Nat) {i n : Nat} (h : i ≤ n) : psum a i ≤ psum a n := by
  induction n with
  | zero => obtain rfl : i = 0 := by omega
            exact Nat.le_refl _
  | succ n ih =>
    rcases Nat.lt_or_ge i (n + 1) with h1 | h1
    · exact Nat.le_trans (ih (by omega)) (Nat.le_add_right _ _)
    · obtain rfl : i = n + 1 := by omega
      exact Nat.le_refl _
theorem psum_zero (n : Nat) : psum 0 n = 1 := by
  induction n with
  | zero => rfl
  | succ n ih => simp [psum, ih]
theorem psum_one (n : Nat) : psum 1 n = n + 1 := by
  induction n with
  | zero => rfl
  | succ n ih => simp [psum, ih]

/-- How many binary digits. -/
def nbits (N : Nat) : Nat := if h : N = 0 then 0 else nbits (N / 2) + 1
termination_by N
decreasing_by omega
theorem nbits_zero : nbits 0 = 0 := by rw [nbits, dif_pos rfl]
theorem nbits_pos {N : Nat} (h : N ≠ 0) : nbits N = nbits (N / 2) + 1 := by rw [nbits, dif_neg h]
theorem lt_pow_nbits (N : Nat) : N < 2 ^ nbits N := by
  induction N using Nat.strongRecOn with
  | _ N ih =>
  by_cases h : N = 0
  · subst h; rw [nbits_zero]; decide
  · have h1 := ih (N / 2) (by omega)
    rw [nbits_pos h, Nat.pow_succ]
    omega
theorem pow_nbits_le {N : Nat} (h : N ≠ 0) : 2 ^ (nbits N - 1) ≤ N := by
  induction N using Nat.strongRecOn with
  | _ N ih =>
  rw [nbits_pos h, Nat.add_sub_cancel]
  by_cases h2 : N / 2 = 0
  · rw [h2, nbits_zero]; omega
  · have h1 := ih (N / 2) (by omega) h2
    have h3 : nbits (N / 2) = (nbits (N / 2) - 1) + 1 := by rw [nbits_pos h2]; omega
    rw [h3, Nat.pow_succ]
    omega
/-- The digits are fixed by their bounds. -/
theorem nbits_is {N b : Nat} (h0 : 2 ^ (b - 1) ≤ N) (h1 : N < 2 ^ b) (hN : N ≠ 0) : nbits N = b := by
  have k1 := pow_nbits_le hN
  have k2 := lt_pow_nbits N
  rcases Nat.lt_trichotomy (nbits N) b with h | h | h
  · have := Nat.pow_le_pow_right (n := 2) (by omega) (show nbits N ≤ b - 1 by omega)
    omega
  · exact h
  · have := Nat.pow_le_pow_right (n := 2) (by omega) (show b ≤ nbits N - 1 by omega)
    omega

/-- The least b for which 2^b is at least the number. -/
def nlog (N : Nat) : Nat := nbits (N - 1)
theorem le_pow_nlog (N : Nat) : N ≤ 2 ^ nlog N := by
  have := lt_pow_nbits (N - 1)
  unfold nlog
  omega
theorem pow_nlog_lt {N : Nat} (h : 0 < nlog N) : 2 ^ (nlog N - 1) < N := by
  have hN : N - 1 ≠ 0 := by
    intro h0
    unfold nlog at h
    rw [h0, nbits_zero] at h
    omega
  have := pow_nbits_le hN
  unfold nlog
  omega
theorem nlog_least {N b : Nat} (h : N ≤ 2 ^ b) : nlog N ≤ b := by
  rcases Nat.eq_zero_or_pos (nlog N) with h0 | h0
  · omega
  · have h1 := pow_nlog_lt h0
    rcases Nat.lt_or_ge b (nlog N) with h2 | h2
    · have := Nat.pow_le_pow_right (n := 2) (by omega) (show b ≤ nlog N - 1 by omega)
      omega
    · exact h2

theorem LB_pow (k : Nat) : LB ^ k = 2 ^ (64 * k) := by
  have : LB = 2 ^ 64 := by unfold LB; decide
  rw [this, ← Nat.pow_mul]
/-- A power of at least 2 with a great exponent fits under no small cap. -/
theorem unfit_pow {c : Int} {a n k : Nat} (hc : capN c ≤ k) (ha : 2 ≤ a) (hn : 64 * k ≤ n) : ¬ Fit c (a ^ n) := by
  unfold Fit
  have h1 : LB ^ capN c ≤ 2 ^ (64 * k) := by rw [LB_pow]; exact Nat.pow_le_pow_right (by omega) (by omega)
  have h2 : 2 ^ (64 * k) ≤ 2 ^ n := Nat.pow_le_pow_right (by omega) hn
  have h3 : 2 ^ n ≤ a ^ n := Nat.pow_le_pow_left ha n
  exact fun h => Nat.lt_irrefl _ (Nat.lt_of_lt_of_le h (Nat.le_trans h1 (Nat.le_trans h2 h3)))
theorem unfit_mono {c : Int} {M N : Nat} (h : ¬ Fit c M) (hle : M ≤ N) : ¬ Fit c N := fun h' => h (h'.mono hle)
end Go.Proofs.Ythcnopopkgelhaa
