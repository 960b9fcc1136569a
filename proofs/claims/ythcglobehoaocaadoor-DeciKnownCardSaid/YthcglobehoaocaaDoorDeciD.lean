/- deci's putRows: a number's rows of digits, put by deferred calls. -/
import Derived.Test.YthcglobehoaocaaDoorDeciC
namespace Go.Proofs.YthcglobehoaocaaDoor
open Go.RowKit

/-- 10 to the 19: what a row of digits counts up to. -/
def TT : Nat := 10000000000000000000
theorem TT_eq : TT = 10 ^ 19 := by unfold TT; rfl
theorem TT_pos : 0 < TT := by unfold TT; omega
theorem TT_lt : TT < LB := by unfold TT LB; omega

theorem digs_eq (x j : Nat) : digs x j = (List.range j).map fun t => Lib.dg x (j - 1 - t) := by
  induction j with
  | zero => rfl
  | succ j ih =>
    rw [List.range_succ_eq_map, List.map_cons, List.map_map]
    show UInt8.ofNat (48 + x / 10 ^ j % 10) :: digs x j = _
    rw [ih]
    congr 1
    refine List.map_congr_left fun t ht => ?_
    have : t < j := List.mem_range.1 ht
    simp only [Function.comp]
    rw [show j + 1 - 1 - t.succ = j - 1 - t by omega]
theorem digs_dec (x : Nat) : digs x (Lib.nDigits x) = Lib.decDigits x := by rw [digs_eq, Lib.decDigits_eq]
theorem pow_nDigits_le (x : Nat) (h : 0 < x) : 10 ^ (Lib.nDigits x - 1) ≤ x := by
  induction x using Nat.strongRecOn with
  | _ x ih =>
    by_cases h1 : x < 10
    · rw [Lib.nDigits_small h1]; exact h
    · rw [Lib.nDigits_big h1]
      have h2 := ih (x / 10) (by omega) (by omega)
      have h3 := Lib.nDigits_pos (x / 10)
      rw [Nat.add_sub_cancel, show Lib.nDigits (x / 10) = Lib.nDigits (x / 10) - 1 + 1 by omega, Nat.pow_succ]
      omega
theorem nDigits_iff (x j : Nat) : j < Lib.nDigits x ↔ ((j : Int) < 1 ∨ 0 < x / 10 ^ j) := by
  rw [Nat.div_pos_iff]
  have h1 := Lib.lt_pow_nDigits x
  have h2 := Lib.nDigits_pos x
  have hp := Nat.pow_pos (a := 10) (n := j) (by omega)
  constructor
  · intro h
    rcases Nat.eq_zero_or_pos j with h0 | h0
    · left; omega
    · right
      refine ⟨hp, ?_⟩
      have hx : 0 < x := by
        rcases Nat.eq_zero_or_pos x with hx | hx
        · subst hx
          rw [Lib.nDigits_small (by omega)] at h
          omega
        · exact hx
      exact Nat.le_trans (Nat.pow_le_pow_right (by omega) (by omega)) (pow_nDigits_le x hx)
  · rintro (h | ⟨_, h⟩)
    · omega
    · exact (Nat.pow_lt_pow_iff_right (a := 10) (by omega)).1 (Nat.lt_of_le_of_lt h h1)
theorem nDigits_le (x : Nat) (h : x < LB) : Lib.nDigits x ≤ 20 := by
  rcases Nat.lt_or_ge 20 (Lib.nDigits x) with h1 | h1
  · have := (nDigits_iff x 20).1 h1
    rcases this with h2 | h2
    · omega
    · rw [Nat.div_pos_iff] at h2
      have h3 : (10 : Nat) ^ 20 = 100000000000000000000 := by decide
      unfold LB at h
      omega
  · exact h1
theorem row_iff (x j : Nat) (h : x < TT) : j < 19 ↔ ((j : Int) < 19 ∨ 0 < x / 10 ^ j) := by
  constructor
  · intro h; left; omega
  · rintro (h1 | h1)
    · omega
    · rcases Nat.lt_or_ge j 19 with h2 | h2
      · exact h2
      · rw [Nat.div_pos_iff] at h1
        have h3 : 10 ^ 19 ≤ 10 ^ j := Nat.pow_le_pow_right (by omega) h2
        rw [← TT_eq] at h3
        omega

theorem dec_split (M : Nat) : ∀ j, 1 ≤ M / 10 ^ j → Lib.decDigits M = Lib.decDigits (M / 10 ^ j) ++ digs M j := by
  intro j
  induction j with
  | zero => intro _; simp [digs]
  | succ j ih =>
    intro h
    rw [Nat.pow_succ, ← Nat.div_div_eq_div_mul] at h ⊢
    rw [ih (by omega)]
    have e : Lib.decDigits (M / 10 ^ j) = Lib.decDigits (M / 10 ^ j / 10) ++ [UInt8.ofNat (48 + M / 10 ^ j % 10)] := by
      rw [Lib.decDigits, dif_neg (by omega)]
    rw [e, List.append_assoc]
    rfl
theorem digs_mod (M : Nat) : ∀ j k, j ≤ k → digs M j = digs (M % 10 ^ k) j := by
  intro j
  induction j with
  | zero => intro k _; rfl
  | succ j ih =>
    intro k h
    show UInt8.ofNat (48 + M / 10 ^ j % 10) :: digs M j = UInt8.ofNat (48 + M % 10 ^ k / 10 ^ j % 10) :: digs (M % 10 ^ k) j
    rw [← ih k (by omega)]
    congr 3
    have e : (10 : Nat) ^ k = 10 ^ j * 10 ^ (k - j) := by rw [← Nat.pow_add, show j + (k - j) = k by omega]
    rw [e, Nat.mod_mul_right_div_self]
    obtain ⟨d, hd⟩ : ∃ d, k - j = d + 1 := ⟨k - j - 1, by omega⟩
    rw [hd, Nat.pow_succ, Nat.mul_comm, Nat.mod_mul_right_mod]

/-- The number without its k lowest rows; those rows, the highest first. -/
def mdiv (N : Nat) : Nat → Nat
  | 0 => N
  | k + 1 => mdiv N k / TT
def rowsL (N : Nat) : Nat → List Nat
  | 0 => []
  | k + 1 => mdiv N k % TT :: rowsL N k
theorem rowsL_length (N k : Nat) : (rowsL N k).length = k := by induction k with | zero => rfl | succ k ih => simp [rowsL, ih]
theorem rowsL_lt (N k : Nat) : ∀ r ∈ rowsL N k, r < TT := by
  induction k with
  | zero => intro r h; cases h
  | succ k ih =>
    intro r h
    rcases List.mem_cons.1 h with rfl | h
    · exact Nat.mod_lt _ TT_pos
    · exact ih r h
theorem rows_text (N : Nat) : ∀ k, (k = 0 ∨ 1 ≤ mdiv N k) → Lib.decDigits N = Lib.decDigits (mdiv N k) ++ (rowsL N k).flatMap fun r => digs r 19 := by
  intro k
  induction k with
  | zero => intro _; simp [mdiv, rowsL]
  | succ k ih =>
    intro h
    have h1 : 1 ≤ mdiv N k / TT := by rcases h with h | h; cases h; exact h
    have h2 : 1 ≤ mdiv N k := by have := Nat.div_le_self (mdiv N k) TT; omega
    rw [ih (.inr h2), dec_split (mdiv N k) 19 (by rw [← TT_eq]; exact h1), digs_mod (mdiv N k) 19 19 (Nat.le_refl _), ← TT_eq, List.append_assoc]
    rfl
theorem mdiv_eq (N k : Nat) : mdiv N k = N / TT ^ k := by
  induction k with
  | zero => simp [mdiv]
  | succ k ih => rw [mdiv, ih, Nat.div_div_eq_div_mul, Nat.pow_succ]

/-- A row, put by a deferred call. -/
def putR (b : Nat) (r : Nat) : Deferred := { target := .fn (.func 56) #[], args := #[.pointer (some ⟨b, 0, none⟩), .int .u64 (r : Int), .int .i64 19] }

theorem leaves_rows {fn : Func} {tmps : Array Value} {R : Ending → World → Prop} (B b : Nat) (hres : ∀ w, (results fn tmps).run Tryd.prog w = .ok (.tuple #[]) w) : ∀ (rs : List Nat) (acc : List UInt8) (w : World), Bld B b acc w → (∀ r ∈ rs, r < TT) → acc.length + 19 * rs.length ≤ 140737488355328 → B ≤ w.heap.size →
    (∀ w', Bld B b (acc ++ rs.flatMap fun r => digs r 19) w' → Below B w w' → R (.returned (.tuple #[])) w') → Leaves Tryd.prog fn tmps R (rs.map (putR b)) .returning w := by
  intro rs
  induction rs with
  | nil =>
    intro acc w h _ _ _ hR
    exact ⟨_, hres w, hR w (by simpa using h) (Below.refl _ _)⟩
  | cons r rs ih =>
    intro acc w h hr hl hB hR
    simp only [List.length_cons] at hl
    have hrt := hr r List.mem_cons_self
    refine leaves_cons (f := 56) (args := #[.pointer (some ⟨b, 0, none⟩), .int .u64 (r : Int), .int .i64 19]) (by simp) (by simp [go_sem]) ?_
    refine (putRow_deferred B b r 19 19 acc .returning w (Nat.lt_trans hrt TT_lt) (by omega) (by omega) (by omega) (fun j => row_iff r j hrt) h (by omega) hB).mono ?_
    rintro e u' w' ⟨rfl, rfl, h', hb'⟩
    refine ih (acc ++ digs r 19) w' h' (fun x hx => hr x (List.mem_cons_of_mem _ hx)) (by rw [List.length_append, digs_length]; omega) (Nat.le_trans hB hb'.size) fun w'' h'' hb'' => hR w'' ?_ (hb'.trans hb'')
    rw [List.flatMap_cons, ← List.append_assoc]
    exact h''
end Go.Proofs.YthcglobehoaocaaDoor
