/- The contracts of nat's small functions: trim, Clone, Limbs, Len, All, limb, Small. The contracts of nat's Small, Of, of cmp.Compare, of nat's Cmp. The contracts of bits.Add64, Sub64, Mul64 and of the closures that keep the carry. -/
import Derived.Test.YtijliimiojjjdaaDoorGMath
import Derived.Deep.QuietTactic
import Derived.BigQuiet
import Derived.Laws.Externs
import Derived.Shelf.Bits.Mul64
namespace Go.Proofs.YtijliimiojjjdaaDoor
section
open Go.RowKit

/-- What trim makes of a slice. -/
def trimV (A : Option Addr) (l : List Nat) (c : Nat) : Value := if Dig.nrm l = [] then .slice none 0 0 else .slice A (Dig.nrm l).length c

theorem nrm_take_succ (l : List Nat) (k : Nat) (hk : k < l.length) (h : Dig.at_ l k = 0) : Dig.nrm (l.take (k + 1)) = Dig.nrm (l.take k) := by
  rw [List.take_succ_eq_append_getElem hk]
  rw [Dig.at_lt hk] at h
  rw [h, Dig.nrm_snoc_zero]
theorem nrm_take_stop (l : List Nat) (k : Nat) (hk : k < l.length) (h : Dig.at_ l k ≠ 0) : Dig.nrm (l.take (k + 1)) = l.take (k + 1) := by
  rw [List.take_succ_eq_append_getElem hk]
  rw [Dig.at_lt hk] at h
  rw [Dig.nrm_snoc _ _ h]
theorem trimV_nil (A : Option Addr) (l : List Nat) (c : Nat) (h : Dig.nrm l = []) : trimV A l c = .slice none 0 0 := by rw [trimV, if_pos h]
theorem trimV_some (A : Option Addr) (l : List Nat) (c k : Nat) (hk : k < l.length) (h : Dig.nrm l = l.take (k + 1)) : trimV A l c = .slice A (k + 1) c := by
  have e : (Dig.nrm l).length = k + 1 := by rw [h, List.length_take]; omega
  rw [trimV, if_neg (by intro h2; rw [h2] at e; simp at e), e]
end

section
open Go.RowKit

theorem Num.small {w : World} {base : Nat} {A : Option Addr} {n c N : Nat} (h : Num w base A n c N) (hn : n ≤ 1) : ∃ l, Row w w.heap.size .u64 A n l ∧ Dig.at_ l 0 = N := by
  obtain ⟨l, hr, h1, h2, h3, _⟩ := h
  refine ⟨l, hr, ?_⟩
  have hl := hr.len
  match l, hl with
  | [], _ => rw [← h3]; rfl
  | [x], _ => rw [← h3]; simp [Dig.at_, Dig.val]
  | _ :: _ :: _, hl => simp at hl; omega

theorem isNaNInt (x : Int) (w : World) : Calls Tryd.prog 51 #[.int .i64 x] w fun e w' => e = .returned (.bool false) ∧ w = w' := by
  go_enter Tryd.func51, Tryd.ntmps51
  go_wp2_with fail
  go_ret
  exact ⟨rfl, rfl⟩
/-- How two numbers are compared. -/
def cmpI (a b : Nat) : Int := if a < b then -1 else if a = b then 0 else 1
theorem cmpI_lt {a b : Nat} (h : a < b) : cmpI a b = -1 := by rw [cmpI, if_pos h]
theorem cmpI_eq {a b : Nat} (h : a = b) : cmpI a b = 0 := by rw [cmpI, if_neg (by omega), if_pos h]
theorem cmpI_gt {a b : Nat} (h : b < a) : cmpI a b = 1 := by rw [cmpI, if_neg (by omega), if_neg (by omega)]

set_option maxHeartbeats 400000 in
theorem compareInt (a b : Nat) (w : World) : Calls Tryd.prog 38 #[.int .i64 a, .int .i64 b] w fun e w' => e = .returned (.int .i64 (cmpI a b)) ∧ w = w' := by
  rcases Nat.lt_trichotomy a b with h | h | h
  · have hv := Lib.hid (cmpI_lt h)
    go_enter Tryd.func38, Tryd.ntmps38
    go_wp2_with (first | (go_at_call 51; refine (isNaNInt _ _).mono ?_; rintro e w' ⟨rfl, rfl⟩))
    go_ret
    exact ⟨by rw [hv.out]; rfl, rfl⟩
  · have hv := Lib.hid (cmpI_eq h)
    subst h
    go_enter Tryd.func38, Tryd.ntmps38
    go_wp2_with (first | (go_at_call 51; refine (isNaNInt _ _).mono ?_; rintro e w' ⟨rfl, rfl⟩))
    go_ret
    exact ⟨by rw [hv.out]; rfl, rfl⟩
  · have hv := Lib.hid (cmpI_gt h)
    have h2 : ¬ a < b := by omega
    go_enter Tryd.func38, Tryd.ntmps38
    go_wp2_with (first | (go_at_call 51; refine (isNaNInt _ _).mono ?_; rintro e w' ⟨rfl, rfl⟩))
    go_ret
    exact ⟨by rw [hv.out]; rfl, rfl⟩

theorem quiet_left {P : Program} {f : FuncId} {args : Array Value} {w : World} {n : Nat} {v : Value}
    (h : Calls P f args (w.drewN n) fun e w' => e = .returned v ∧ w.drewN n = w') : Calls P f args (w.drewN n) fun e w' => e = .returned v ∧ ∃ m, w' = w.drewN m :=
  h.mono fun _ _ ⟨he, hm⟩ => ⟨he, n, hm.symm⟩
theorem quiet_add_left {P : Program} {f : FuncId} {args : Array Value} {w : World} {a n : Nat} {v : Value}
    (h : Calls P f args (w.drewN (a + n)) fun e w' => e = .returned v ∧ w.drewN (a + n) = w') : Calls P f args (w.drewN (a + n)) fun e w'' => e = .returned v ∧ ∃ m, w'' = w.drewN (a + m) :=
  h.mono fun _ _ ⟨he, hm⟩ => ⟨he, n, hm.symm⟩
theorem below_drewN {B : Nat} {a w : World} (h : Below B a w) (n : Nat) : Below B a (w.drewN n) := ⟨h.os, h.tape, h.output, h.size, h.block⟩
end

section
open Go.RowKit

/-- The low and the high part of a sum with a carry; of a difference with a borrow; of a product. -/
def addLo (x y c : Nat) : Nat := (x + y + c) % LB
def addHi (x y c : Nat) : Nat := (x + y + c) / LB
def subLo (x y b : Nat) : Nat := (x + LB - y - b) % LB
def subHi (x y b : Nat) : Nat := if x < y + b then 1 else 0
def mulLo (x y : Nat) : Nat := x * y % LB
def mulHi (x y : Nat) : Nat := x * y / LB

theorem addLo_lt (x y c : Nat) : addLo x y c < LB := Nat.mod_lt _ LB_pos
theorem addHi_le {x y c : Nat} (hx : x < LB) (hy : y < LB) (hc : c ≤ 1) : addHi x y c ≤ 1 := by unfold addHi LB at *; omega
theorem add_split (x y c : Nat) : addLo x y c + LB * addHi x y c = x + y + c := Nat.mod_add_div _ _
theorem subLo_lt (x y b : Nat) : subLo x y b < LB := Nat.mod_lt _ LB_pos
theorem subHi_le (x y b : Nat) : subHi x y b ≤ 1 := by unfold subHi; split <;> omega
theorem sub_split {x y b : Nat} (hx : x < LB) (hy : y < LB) (hb : b ≤ 1) : subLo x y b + y + b = x + LB * subHi x y b := by
  unfold subLo subHi LB at *; split <;> omega
theorem mulLo_lt (x y : Nat) : mulLo x y < LB := Nat.mod_lt _ LB_pos
theorem mul_split (x y : Nat) : mulLo x y + LB * mulHi x y = x * y := Nat.mod_add_div _ _

def subEntry : Array Value → Sem Value := fun args => do
  let (x, y, b) ← Extern.MathBitsCarry.three "Sub64" args
  pure (Extern.MathBitsCarry.pair ((x + Extern.MathBitsCarry.m64 - y - b) % Extern.MathBitsCarry.m64) (if x < y + b then 1 else 0))
theorem run_subEntry (P : Program) (x y b : Nat) (hb : b ≤ 1) (w : World) :
    (subEntry #[.int .u64 x, .int .u64 y, .int .u64 b]).run P w = .ok (.tuple #[.int .u64 (subLo x y b : Nat), .int .u64 (subHi x y b : Nat)]) w := by
  have : b = 0 ∨ b = 1 := by omega
  rcases this with rfl | rfl <;> rfl
end
end Go.Proofs.YtijliimiojjjdaaDoor
