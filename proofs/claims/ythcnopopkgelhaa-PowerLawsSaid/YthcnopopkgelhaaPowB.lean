/- The contracts of power's Bits, Log, reaches, mayFit, Two. -/
import Derived.Test.YthcnopopkgelhaaLenL
import Derived.Test.YthcnopopkgelhaaNatG
namespace Go.Proofs.Ythcnopopkgelhaa
open Go.RowKit

/-- A number's binary digits, by its last limb. -/
theorem nbits_rows {l : List Nat} (hn : Dig.Norm l) (hb : Dig.Below LB l) (h0 : 0 < l.length) : nbits (Dig.val LB l) = 64 * (l.length - 1) + nbits (Dig.at_ l (l.length - 1)) ∧ nbits (Dig.at_ l (l.length - 1)) ≤ 64 := by
  have hx : Dig.at_ l (l.length - 1) < LB := Dig.at_below LB_pos hb _
  refine ⟨?_, nbits_le64 hx⟩
  have hv : Dig.val LB l = Dig.val LB (l.take (l.length - 1)) + LB ^ (l.length - 1) * Dig.at_ l (l.length - 1) := by
    rw [Dig.at_lt (show l.length - 1 < l.length by omega), ← Dig.val_take_succ LB l (l.length - 1) (by omega), List.take_of_length_le (by omega)]
  have hlow : Dig.val LB (l.take (l.length - 1)) < LB ^ (l.length - 1) := by
    have := Dig.val_lt (hb.take (l.length - 1))
    rwa [List.length_take, show min (l.length - 1) l.length = l.length - 1 by omega] at this
  have hpos := Dig.norm_pos (b := LB) hn h0
  have hx0 : Dig.at_ l (l.length - 1) ≠ 0 := by
    intro h
    rw [h, Nat.mul_zero] at hv
    omega
  generalize Dig.at_ l (l.length - 1) = x at hx hv hx0 ⊢
  generalize Dig.val LB (l.take (l.length - 1)) = r at hlow hv
  rw [hv]
  have k1 := pow_nbits_le hx0
  have k2 := lt_pow_nbits x
  have k3 : nbits x ≠ 0 := by rw [nbits_pos hx0]; omega
  rw [LB_pow] at hlow hpos ⊢
  refine nbits_is ?_ ?_ ?_
  · rw [show 64 * (l.length - 1) + nbits x - 1 = 64 * (l.length - 1) + (nbits x - 1) by omega, Nat.pow_add]
    exact Nat.le_trans (Nat.mul_le_mul_left _ k1) (Nat.le_add_left _ _)
  · rw [Nat.pow_add]
    have : 2 ^ (64 * (l.length - 1)) * (x + 1) ≤ 2 ^ (64 * (l.length - 1)) * 2 ^ nbits x := Nat.mul_le_mul_left _ k2
    rw [Nat.mul_add, Nat.mul_one] at this
    omega
  · have : 1 * 1 ≤ 2 ^ (64 * (l.length - 1)) * x := Nat.mul_le_mul (Nat.two_pow_pos _) (by omega)
    omega

theorem Num.row {w : World} {b n c N : Nat} {A : Option Addr} (h : Num w b A n c N) : ∃ l, Row w w.heap.size .u64 A n l ∧ Dig.Norm l ∧ Dig.Below LB l ∧ Dig.val LB l = N ∧ n ≤ c := by
  obtain ⟨l, h1, h2, h3, h4, h5, _⟩ := h
  exact ⟨l, h1, h2, h3, h4, h5⟩

set_option maxHeartbeats 400000 in
theorem powBits {A : Option Addr} {n c N b : Nat} {w : World} (h : Num w b A n c N) (hn : n ≤ 1000000) :
    Calls Try.prog 24 #[.agg #[.slice A n c]] w fun e w' => e = .returned (.int .u64 ((nbits N : Nat) : Int)) ∧ Below w.heap.size w w' := by
  have hzi := h.zero_iff
  obtain ⟨l, hr, hnorm, hbl, hval, hcap⟩ := h.row
  have hl := Lib.hid hr.len
  have hb0 : Below w.heap.size w (w.alloc (.cells #[.slice A n c] 29)) := (Below.refl _ _).alloc (Nat.le_refl _) _
  have hr1 := (hr.below hb0).more (Nat.le_succ _)
  rcases Nat.eq_zero_or_pos n with h0 | h0
  · have hz : Hid (nbits N = 0) := by rw [hzi.1 h0, nbits_zero]; rfl
    subst h0
    clear hzi h hval
    go_enter Try.func24, Try.ntmps24
    go_wp2_with fail
    refine (natAll A 0 c l _ (by simpa using hr1) hcap (by omega)).mono ?_
    rintro e w1 ⟨A1, c1, rfl, hown, hb1, hnil⟩
    go_wp2_with fail
    go_ret
    exact ⟨by rw [hz.out]; rfl, hb0.trans (hb1.mono (by simp))⟩
  · obtain ⟨j, rfl⟩ : ∃ j, n = j + 1 := ⟨n - 1, by omega⟩
    obtain ⟨e1, e2⟩ := nbits_rows hnorm hbl (by have := hl.out; omega)
    rw [show l.length - 1 = j by have := hl.out; omega, hval] at e1
    rw [show l.length - 1 = j by have := hl.out; omega] at e2
    have hx := Dig.at_below LB_pos hbl j
    have hq := fun w => len64 (Dig.at_ l j) hx w
    have e1 := Lib.hid e1
    clear hzi h hval hx
    have hw1 : IntKind.i64.wrap ((j : Int) + 1 - 1) = (j : Int) := by rw [show (j : Int) + 1 - 1 = (j : Int) by omega]; exact IntWalk.i64_in _ (by omega)
    have hw2 : IntKind.u64.wrap (64 * (j : Int)) = 64 * (j : Int) := by have := wrap_nat (a := 64 * j) (b := 0) (s := 64 * j) rfl (by unfold LB; omega); simpa using this
    go_enter Try.func24, Try.ntmps24
    go_wp2_with fail
    refine (natAll A (j + 1) c l _ (by simpa using hr1) hcap (by omega)).mono ?_
    rintro e w1 ⟨A1, c1, rfl, hown, hb1, hnil⟩
    obtain ⟨ad, hA1, hadb, hcell⟩ := hown.row.at_ (i := j) (by omega)
    subst hA1
    go_wp2_with (first | (go_at_call 52; refine (hq _).mono ?_; rintro e w' ⟨rfl, rfl⟩))
    go_ret
    exact ⟨by rw [e1.out]; simp, hb0.trans (hb1.mono (by simp))⟩

theorem divs {p : Nat} (h : p < LB) : IntKind.u64.wrap ((p : Int) / 64) = (p : Int) / 64 := by
  rw [show ((p : Int) / 64) = ((p / 64 : Nat) : Int) from (Int.natCast_ediv p 64).symm]
  have := wrap_nat (a := p / 64) (b := 0) (s := p / 64) rfl (by omega); simpa using this

set_option maxHeartbeats 400000 in
theorem reaches_yes (c0 : Int) (p : Nat) (h : p / 64 < capN c0) (hc : capN c0 ≤ 1000) (hp : p < LB) (w : World) :
    Calls Try.prog 42 #[.int .i64 c0, .int .u64 p] w fun e w' => e = .returned (.bool true) ∧ w = w' := by
  have hdv := divs hp
  unfold capN at h hc
  have h0 : 0 < c0 := by omega
  obtain ⟨k, rfl⟩ := Int.eq_ofNat_of_zero_le (Int.le_of_lt h0)
  have hk : k ≤ 1000 := by omega
  have hlt : (p : Int) / 64 < k := by omega
  clear h hc
  have hw1 : IntKind.u64.wrap (k : Int) = (k : Int) := by have := wrap_nat (a := k) (b := 0) (s := k) rfl (by unfold LB; omega); simpa using this
  have hm : ¬ ((268435455 : Int) < k) := by omega
  have hm2 : ¬ ((k : Int) < 0) := by omega
  go_enter Try.func42, Try.ntmps42
  go_wp2_with fail
  go_ret
  exact ⟨by show Ending.returned (Value.bool (decide _)) = _; rw [decide_eq_true (by omega)], rfl⟩

set_option maxHeartbeats 400000 in
theorem reaches_no (c0 : Int) (p : Nat) (h : capN c0 ≤ p / 64) (hc : capN c0 ≤ 1000) (hp : p < LB) (w : World) :
    Calls Try.prog 42 #[.int .i64 c0, .int .u64 p] w fun e w' => e = .returned (.bool false) ∧ w = w' := by
  have hdv := divs hp
  unfold capN at h hc
  by_cases h0 : c0 < 0
  · have hm : ¬ ((268435455 : Int) < 0) := by omega
    have hlt : ¬ ((p : Int) / 64 < 0) := by omega
    clear h hc
    go_enter Try.func42, Try.ntmps42
    go_wp2_with fail
    go_ret
    exact ⟨by first | rfl | (show Ending.returned (Value.bool (decide _)) = _; rw [decide_eq_false (by omega)]), rfl⟩
  · obtain ⟨k, rfl⟩ := Int.eq_ofNat_of_zero_le (show 0 ≤ c0 by omega)
    have hk : k ≤ 1000 := by omega
    have hlt : (k : Int) ≤ (p : Int) / 64 := by omega
    clear h hc
    have hw1 : IntKind.u64.wrap (k : Int) = (k : Int) := by have := wrap_nat (a := k) (b := 0) (s := k) rfl (by unfold LB; omega); simpa using this
    have hm : ¬ ((268435455 : Int) < k) := by omega
    have hm2 : ¬ ((k : Int) < 0) := by omega
    go_enter Try.func42, Try.ntmps42
    go_wp2_with fail
    go_ret
    exact ⟨by show Ending.returned (Value.bool (decide _)) = _; rw [decide_eq_false (by omega)], rfl⟩

/-- What the bits of a number tell of its powers: the exponent of two that it is at least. -/
def pexp (N : Nat) : Nat := max (nbits N) 1 - 1
theorem pow_pexp {N : Nat} (h : N ≠ 0) : 2 ^ pexp N ≤ N := by
  have h1 := pow_nbits_le h
  have h2 : 1 ≤ nbits N := by rw [nbits_pos h]; omega
  unfold pexp
  rwa [show max (nbits N) 1 - 1 = nbits N - 1 by omega]
theorem unfit_exp {c0 : Int} {N n : Nat} (h : 64 * capN c0 ≤ pexp N * n) (h0 : N ≠ 0 ∨ n = 0) : ¬ Fit c0 (N ^ n) := by
  unfold Fit
  rw [LB_pow]
  intro hf
  rcases h0 with h0 | h0
  · have h1 : 2 ^ (pexp N * n) ≤ N ^ n := by rw [Nat.pow_mul]; exact Nat.pow_le_pow_left (pow_pexp h0) n
    have h2 : 2 ^ (64 * capN c0) ≤ 2 ^ (pexp N * n) := Nat.pow_le_pow_right (by omega) h
    omega
  · subst h0
    have : capN c0 = 0 := by omega
    rw [this] at hf
    simp at hf

theorem nbits_mono_len {w : World} {b n c N : Nat} {A : Option Addr} (h : Num w b A n c N) (hn : n ≤ 1000000) : nbits N ≤ 64000000 := by
  rcases Nat.eq_zero_or_pos n with h0 | h0
  · rw [h.zero_iff.1 h0, nbits_zero]; omega
  · obtain ⟨l, hr, hnorm, hbl, hval, _⟩ := h.row
    have hl := hr.len
    obtain ⟨e1, e2⟩ := nbits_rows hnorm hbl (by omega)
    rw [hval] at e1
    omega

set_option maxHeartbeats 400000 in
theorem mayFit_high (c0 : Int) {A : Option Addr} {n c N b m : Nat} {w : World} (h : Num w b A n c N) (hn : n ≤ 1000000) (hm : m < LB) (hh : mulHi (pexp N) m ≠ 0) :
    Calls Try.prog 28 #[.int .i64 c0, .agg #[.slice A n c], .int .u64 m] w fun e w' => e = .returned (.bool false) ∧ Below w.heap.size w w' := by
  have hN := nbits_mono_len h hn
  have hb0 : Below w.heap.size w (w.alloc (.cells #[.slice A n c] 29)) := (Below.refl _ _).alloc (Nat.le_refl _) _
  have hq := powBits (h.below hb0) hn
  have hp := fun w => mul64 (pexp N) m (by unfold pexp LB; omega) hm w
  have hz : ¬ (((mulHi (pexp N) m : Nat) : Int) = 0) := by omega
  have hw : IntKind.u64.wrap (max (nbits N : Int) 1 - 1) = ((pexp N : Nat) : Int) := by
    rw [show max (nbits N : Int) 1 - 1 = ((pexp N : Nat) : Int) by unfold pexp; omega]
    have := wrap_nat (a := pexp N) (b := 0) (s := pexp N) rfl (by unfold pexp LB; omega); simpa using this
  clear h hh
  go_enter Try.func28, Try.ntmps28
  go_wp2_with fail
  refine hq.mono ?_
  rintro e w1 ⟨rfl, hb1⟩
  go_wp2_with (first | (go_at_call 53; refine (hp _).mono ?_; rintro e w' ⟨rfl, rfl⟩))
  go_ret
  exact ⟨rfl, hb0.trans (hb1.mono (by simp))⟩

set_option maxHeartbeats 400000 in
theorem mayFit_low (c0 : Int) {A : Option Addr} {n c N b m : Nat} {v : Bool} {w : World} (h : Num w b A n c N) (hn : n ≤ 1000000) (hm : m < LB) (hh : mulHi (pexp N) m = 0)
    (hr : ∀ w, Calls Try.prog 42 #[.int .i64 c0, .int .u64 ((pexp N * m : Nat) : Int)] w fun e w' => e = .returned (.bool v) ∧ w = w') :
    Calls Try.prog 28 #[.int .i64 c0, .agg #[.slice A n c], .int .u64 m] w fun e w' => e = .returned (.bool v) ∧ Below w.heap.size w w' := by
  have hN := nbits_mono_len h hn
  have hb0 : Below w.heap.size w (w.alloc (.cells #[.slice A n c] 29)) := (Below.refl _ _).alloc (Nat.le_refl _) _
  have hq := powBits (h.below hb0) hn
  have hp := fun w => mul64 (pexp N) m (by unfold pexp LB; omega) hm w
  have hlo : mulLo (pexp N) m = pexp N * m := by have := mul_split (pexp N) m; rw [hh] at this; omega
  rw [hlo, hh] at hp
  have hw : IntKind.u64.wrap (max (nbits N : Int) 1 - 1) = ((pexp N : Nat) : Int) := by
    rw [show max (nbits N : Int) 1 - 1 = ((pexp N : Nat) : Int) by unfold pexp; omega]
    have := wrap_nat (a := pexp N) (b := 0) (s := pexp N) rfl (by unfold pexp LB; omega); simpa using this
  generalize pexp N * m = pl at *
  clear h hh hlo
  go_enter Try.func28, Try.ntmps28
  go_wp2_with fail
  refine hq.mono ?_
  rintro e w1 ⟨rfl, hb1⟩
  go_wp2_with (first | (go_at_call 53; refine (hp _).mono ?_; rintro e w' ⟨rfl, rfl⟩) | (go_at_call 42; refine (hr _).mono ?_; rintro e w' ⟨rfl, rfl⟩))
  go_ret
  exact ⟨by cases v <;> rfl, hb0.trans (hb1.mono (by simp))⟩

theorem mul_hi_zero {x y : Nat} (h : x * y < LB) : mulHi x y = 0 := Nat.div_eq_of_lt h
theorem mayFit_yes (c0 : Int) {A : Option Addr} {n c N b m : Nat} {w : World} (h : Num w b A n c N) (hn : n ≤ 1000000) (hm : m < LB) (hc : capN c0 ≤ 1000) (hf : pexp N * m < 64 * capN c0) :
    Calls Try.prog 28 #[.int .i64 c0, .agg #[.slice A n c], .int .u64 m] w fun e w' => e = .returned (.bool true) ∧ Below w.heap.size w w' :=
  mayFit_low c0 h hn hm (mul_hi_zero (by unfold LB; omega)) fun w => reaches_yes c0 _ (by omega) hc (by unfold LB; omega) w
theorem mayFit_no (c0 : Int) {A : Option Addr} {n c N b m : Nat} {w : World} (h : Num w b A n c N) (hn : n ≤ 1000000) (hm : m < LB) (hc : capN c0 ≤ 1000) (hf : 64 * capN c0 ≤ pexp N * m) :
    Calls Try.prog 28 #[.int .i64 c0, .agg #[.slice A n c], .int .u64 m] w fun e w' => e = .returned (.bool false) ∧ Below w.heap.size w w' := by
  by_cases hh : mulHi (pexp N) m = 0
  · have hlt : pexp N * m < LB := by have h1 := mul_split (pexp N) m; have h2 := mulLo_lt (pexp N) m; rw [hh] at h1; omega
    exact mayFit_low c0 h hn hm hh fun w => reaches_no c0 _ (by omega) hc hlt w
  · exact mayFit_high c0 h hn hm hh
end Go.Proofs.Ythcnopopkgelhaa
