/- A slice of numbers that came in, as the given row's proof tells it, told as a row of numbers. -/
import Derived.Test.YthcnopopkgelhaaWords
namespace Go.Proofs.Ythcnopopkgelhaa
open Go.RowKit

/-- What the row's proof tells of a slice of integers that came in. -/
def IsRow (k : IntKind) (w : World) (a : Option Addr) (len cap : Nat) (zs : List Int) : Prop :=
  (a = none ∧ len = 0 ∧ cap = 0 ∧ zs = []) ∨
  ∃ x, a = some x ∧ len ≤ cap ∧ cap ≤ maxLen ∧ zs.length = cap ∧ (∀ i, i < zs.length → w.cell? (x.add i) = some (.int k (zs.getD i 0))) ∧ ∀ n ∈ zs, (Lit.int k n).wf = true

theorem toRow {w : World} {a : Option Addr} {len cap : Nat} {zs : List Int} (h : IsRow .u64 w a len cap zs) :
    ∃ l, Row w w.heap.size .u64 a len l ∧ Dig.Below LB l ∧ len ≤ cap ∧ cap ≤ maxLen := by
  rcases h with ⟨rfl, rfl, rfl, rfl⟩ | ⟨x, rfl, hl, hm, hz, hcell, hw⟩
  · exact ⟨[], Reads.none_, Dig.Below.nil _, Nat.le_refl _, by unfold maxLen; omega⟩
  · have hb : ∀ n ∈ zs, 0 ≤ n ∧ n ≤ 18446744073709551615 := fun n hn => by
      simpa [Lit.wf, IntKind.min, IntKind.max, IntKind.signed, IntKind.bits] using hw n hn
    refine ⟨(zs.take len).map Int.toNat, ⟨by simp [ints]; omega, fun h0 => ⟨x, rfl, ?_, fun j u hu => ?_⟩⟩, ?_, hl, hm⟩
    · have := World.block_lt_of_cell? w _ (hcell 0 (by omega))
      rwa [block_of_add] at this
    · have hj : j < len := by
        have := (List.getElem?_eq_some_iff.1 hu).1
        simp [ints] at this
        omega
      have hj2 : j < zs.length := by omega
      rw [hcell j hj2]
      have e1 : zs.getD j 0 = zs[j] := by simp [List.getD, hj2]
      have e2 := hb zs[j] (List.getElem_mem hj2)
      have e3 : (ints .u64 ((zs.take len).map Int.toNat))[j]? = some (.int .u64 ((zs[j].toNat : Nat) : Int)) := by
        simp [ints, hj, hj2]
      rw [e3] at hu
      injection hu with hu
      rw [← hu, e1, Int.toNat_of_nonneg e2.1]
    · intro y hy
      obtain ⟨n, hn, rfl⟩ := List.mem_map.1 hy
      have := hb n (List.mem_of_mem_take hn)
      unfold LB
      omega
end Go.Proofs.Ythcnopopkgelhaa
