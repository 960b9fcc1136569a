/- The contracts of bits.Add64, Sub64, Mul64 and of the closures that keep the carry. -/
import Derived.Test.YthcnopopkgelhaaNatB
import Derived.Laws.Externs
import Derived.Shelf.Bits.Mul64
namespace Go.Proofs.Ythcnopopkgelhaa
open Go.RowKit

/-- The low and the high part of a sum with a carry; of a difference with a borrow; of a product. -/
def addLo (x y c : Nat) : Nat := (x + y + c) % LB
def addHi (x y c : Nat) : Nat := (x + y + c) / LB
def subLo (x y b : Nat) : Nat := (x + LB - y - b) % LB
def subHi (x y b : Nat) : Nat := if x < y + b then 1 else 0
def mulLo (x y : Nat) : Nat := x * y % LB
def mulHi (x y : Nat) : Nat := x * y / LB

theorem addLo_lt (x y c : Nat) : addLo x y c < LB := Nat.mod_lt _ LB_pos
theorem addHi_le {x y c : Nat} (hx : x < LB) (hy : y < LB) (hc : c ≤ 1) : addHi x y c ≤ 1 := by unfold addHi LB at *; omega
theorem add_split (x y c : Nat) : addLo x y c + LB * addHi x y c = x + y + c := Nat.mod_add_div _ _
theorem subLo_lt (x y b : Nat) : subLo x y b < LB := Nat.mod_lt _ LB_pos
theorem subHi_le (x y b : Nat) : subHi x y b ≤ 1 := by unfold subHi; split <;> omega
theorem sub_split {x y b : Nat} (hx : x < LB) (hy : y < LB) (hb : b ≤ 1) : subLo x y b + y + b = x + LB * subHi x y b := by
  unfold subLo subHi LB at *; split <;> omega
theorem mulLo_lt (x y : Nat) : mulLo x y < LB := Nat.mod_lt _ LB_pos
theorem mul_split (x y : Nat) : mulLo x y + LB * mulHi x y = x * y := Nat.mod_add_div _ _

theorem run_add (x y c : Nat) (hc : c ≤ 1) (w : World) :
    (callFunc 49 #[.int .u64 x, .int .u64 y, .int .u64 c]).run Try.prog w = .ok (.value (.tuple #[.int .u64 (addLo x y c : Nat), .int .u64 (addHi x y c : Nat)])) w := by
  rw [run_callFunc_extern Try.func49 (by kernel_rfl) (by kernel_rfl) (by kernel_rfl) (e := add64Entry) (by kernel_rfl), run_add64 x y c (by omega) (by omega) (by omega) (by omega)]
  simp only [Result.andThen]
  unfold addLo addHi LB
  congr 5 <;> omega
theorem run_add0 (x y : Nat) (w : World) :
    (callFunc 49 #[.int .u64 x, .int .u64 y, .int .u64 0]).run Try.prog w = .ok (.value (.tuple #[.int .u64 (addLo x y 0 : Nat), .int .u64 (addHi x y 0 : Nat)])) w :=
  run_add x y 0 (by omega) w

def subEntry : Array Value → Sem Value := fun args => do
  let (x, y, b) ← Extern.MathBitsCarry.three "Sub64" args
  pure (Extern.MathBitsCarry.pair ((x + Extern.MathBitsCarry.m64 - y - b) % Extern.MathBitsCarry.m64) (if x < y + b then 1 else 0))
theorem run_subEntry (P : Program) (x y b : Nat) (hb : b ≤ 1) (w : World) :
    (subEntry #[.int .u64 x, .int .u64 y, .int .u64 b]).run P w = .ok (.tuple #[.int .u64 (subLo x y b : Nat), .int .u64 (subHi x y b : Nat)]) w := by
  have : b = 0 ∨ b = 1 := by omega
  rcases this with rfl | rfl <;> rfl
theorem run_sub (x y b : Nat) (hb : b ≤ 1) (w : World) :
    (callFunc 62 #[.int .u64 x, .int .u64 y, .int .u64 b]).run Try.prog w = .ok (.value (.tuple #[.int .u64 (subLo x y b : Nat), .int .u64 (subHi x y b : Nat)])) w := by
  rw [run_callFunc_extern Try.func62 (by kernel_rfl) (by kernel_rfl) (by kernel_rfl) (e := subEntry) (by kernel_rfl), run_subEntry _ x y b hb]
  rfl

set_option maxHeartbeats 400000 in
theorem addStep (x y c g : Nat) (hc : c ≤ 1) (w : World) (hcell : w.cell? ⟨g, 0, none⟩ = some (.int .u64 c)) (hf : w.frozen? ⟨g, 0, none⟩ = false) :
    Calls Try.prog 48 #[.int .u64 x, .int .u64 y, .pointer (some ⟨g, 0, none⟩)] w fun e w' => e = .returned (.int .u64 (addLo x y c : Nat)) ∧ w.setCell ⟨g, 0, none⟩ (.int .u64 (addHi x y c : Nat)) = w' := by
  have h := fun w => run_add x y c hc w
  go_enter Try.func48, Try.ntmps48
  go_wp2_with (first | simp only [h])
  go_ret
  exact ⟨rfl, rfl⟩
set_option maxHeartbeats 400000 in
theorem subStep (x y c g : Nat) (hc : c ≤ 1) (w : World) (hcell : w.cell? ⟨g, 0, none⟩ = some (.int .u64 c)) (hf : w.frozen? ⟨g, 0, none⟩ = false) :
    Calls Try.prog 61 #[.int .u64 x, .int .u64 y, .pointer (some ⟨g, 0, none⟩)] w fun e w' => e = .returned (.int .u64 (subLo x y c : Nat)) ∧ w.setCell ⟨g, 0, none⟩ (.int .u64 (subHi x y c : Nat)) = w' := by
  have h := fun w => run_sub x y c hc w
  go_enter Try.func61, Try.ntmps61
  go_wp2_with (first | simp only [h])
  go_ret
  exact ⟨rfl, rfl⟩

open Go.Lib in
set_option maxHeartbeats 1000000 in
theorem mul64_any (x y : Nat) (hx : x < 18446744073709551616) (hy : y < 18446744073709551616) (w : World) :
    Calls Try.prog 53 #[.int .u64 x, .int .u64 y] w fun e w' => e = .returned (.tuple #[.int .u64 ((x * y / 18446744073709551616 : Nat) : Int), .int .u64 ((x * y % 18446744073709551616 : Nat) : Int)]) ∧ w = w' := by
  obtain ⟨bd, bt, bw, hhi⟩ := Lib.mul64_hi x y hx hy
  have ba := Lib.half_mul_le (a := x / 4294967296) (b := y / 4294967296) (by omega) (by omega)
  have bb := Lib.half_mul_le (a := x / 4294967296) (b := y % 4294967296) (by omega) (by omega)
  have bc := Lib.half_mul_le (a := x % 4294967296) (b := y / 4294967296) (by omega) (by omega)
  have ba' : x / 4294967296 * (y / 4294967296) < 18446744073709551616 := by omega
  have bb' : x / 4294967296 * (y % 4294967296) < 18446744073709551616 := by omega
  have bc' : x % 4294967296 * (y / 4294967296) < 18446744073709551616 := by omega
  have bh1 : x / 4294967296 * (y / 4294967296) + (x / 4294967296 * (y % 4294967296) + x % 4294967296 * (y % 4294967296) / 4294967296) / 4294967296 < 18446744073709551616 := by omega
  have bh : x / 4294967296 * (y / 4294967296) + (x / 4294967296 * (y % 4294967296) + x % 4294967296 * (y % 4294967296) / 4294967296) / 4294967296 + ((x / 4294967296 * (y % 4294967296) + x % 4294967296 * (y % 4294967296) / 4294967296) % 4294967296 + x % 4294967296 * (y / 4294967296)) / 4294967296 < 18446744073709551616 := by omega
  go_enter Try.func53, Try.ntmps53
  go_wp2
  simp only [Mul64.maskN x hx, Mul64.maskN y hy, Mul64.divN, Mul64.mulN, Mul64.addN, Mul64.wrapN _ bd, Mul64.wrapN _ bb', Mul64.wrapN _ bt, Mul64.maskN _ bt, Mul64.wrapN _ bc', Mul64.wrapN _ bw, Mul64.wrapN _ ba', Mul64.wrapN _ bh1, Mul64.wrapN _ bh, Mul64.wrapM (x * y)]
  rw [hhi]
  go_ret2
  exact ⟨rfl, rfl⟩
theorem mul64 (x y : Nat) (hx : x < LB) (hy : y < LB) (w : World) :
    Calls Try.prog 53 #[.int .u64 x, .int .u64 y] w fun e w' => e = .returned (.tuple #[.int .u64 (mulHi x y : Nat), .int .u64 (mulLo x y : Nat)]) ∧ w = w' := mul64_any x y hx hy w
end Go.Proofs.Ythcnopopkgelhaa
