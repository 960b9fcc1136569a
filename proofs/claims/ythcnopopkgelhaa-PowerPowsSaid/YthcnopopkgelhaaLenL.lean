/- The contract of bits.Len64 at this program, laid in plain words; it counts binary digits. -/
import Derived.Shelf.Strconv.Itoa0
import Derived.Test.YthcnopopkgelhaaPowA
namespace Go.Proofs
open Go.Shelf
def Try.lays129_ren : Go.Shelf.Ren := ⟨fun | 129 => 52 | n => n, fun | 53 => 23 | 3 => 3 | 4 => 4 | 46 => 81 | 5 => 5 | 9 => 9 | n => n, fun | n => n⟩
theorem Try.lays129 : Go.Proofs.Lays.n129 Try.prog Try.lays129_ren := {
  mixed := by kernel_rfl
  f129 := Try.func52.trans (congrArg some (by kernel_rfl))
  t3 := Try.underlying3
  a3 := Try.isAgg3
  z3 := Try.sizeOf3
  v3 := Try.zeroValue3
  t4 := Try.underlying4
  a4 := Try.isAgg4
  z4 := Try.sizeOf4
  v4 := Try.zeroValue4
  t5 := Try.underlying5
  a5 := Try.isAgg5
  z5 := Try.sizeOf5
  v5 := Try.zeroValue5
  t9 := Try.underlying9
  a9 := Try.isAgg9
  z9 := Try.sizeOf9
  v9 := Try.zeroValue9
  t46 := Try.underlying81
  a46 := Try.isAgg81
  z46 := Try.sizeOf81
  v46 := Try.zeroValue81
  t53 := Try.underlying23
  a53 := Try.isAgg23
  z53 := Try.sizeOf23
  v53 := Try.zeroValue23 }
theorem Try.bits_Len64 (x : Int) (w : World) (h0 : 0 ≤ x) (h1 : x ≤ 18446744073709551615) :
    Calls Try.prog 52 #[.int .u64 x] w fun e w' => e = .returned (.int .i64 (Lib.bitLen x.toNat)) ∧ w' = w := Any.bits_Len64 Try.lays129 x w h0 h1
end Go.Proofs
namespace Go.Proofs.Ythcnopopkgelhaa
open Go.RowKit
theorem bitLen_nbits (x : Nat) (h : x < LB) : Lib.bitLen x = nbits x := by
  induction x using Nat.strongRecOn with
  | _ x ih =>
  by_cases h0 : x = 0
  · subst h0; rw [nbits_zero]; rfl
  · rw [Lib.bitLen_half x h0 (by unfold LB at h; omega), nbits_pos h0, ih (x / 2) (by omega) (by omega)]
    omega
theorem nbits_le64 {x : Nat} (h : x < LB) : nbits x ≤ 64 := by
  rw [← bitLen_nbits x h]; exact Lib.bitLen_le x 64 (Nat.le_refl _) (by unfold LB at h; omega)
theorem len64 (x : Nat) (h : x < LB) (w : World) : Calls Try.prog 52 #[.int .u64 x] w fun e w' => e = .returned (.int .i64 ((nbits x : Nat) : Int)) ∧ w = w' := by
  refine (Try.bits_Len64 (x : Int) w (by omega) (by unfold LB at h; omega)).mono ?_
  rintro e w' ⟨rfl, rfl⟩
  rw [Int.toNat_natCast, bitLen_nbits x h]
  exact ⟨rfl, rfl⟩
end Go.Proofs.Ythcnopopkgelhaa
