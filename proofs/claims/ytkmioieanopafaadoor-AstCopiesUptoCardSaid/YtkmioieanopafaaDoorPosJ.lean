/- What Of and Place of layer 4 answer, and what is asked of them (no walk in it; light, so that later layers can use it). -/
import Derived.Test.YtkmioieanopafaaDoorRefS
namespace Go.Proofs.YtkmioieanopafaaDoor
open Go.RowKit

theorem below_new__ (W : World) (o : Obj) : Below W.heap.size W (W.alloc o) := (Below.refl _ _).alloc (Nat.le_refl _) o
theorem bthen4 {w W W' : World} (h : Below w.heap.size w W) (hb : Below W.heap.size W W') : Below w.heap.size w W' := h.trans (hb.mono h.size)
theorem extract_span (s : ByteArray) (a b : Nat) : s.extract a b = ⟨(span s.data.toList a b).toArray⟩ := by
  apply ByteArray.ext
  apply Array.ext'
  rw [ByteArray.data_extract, Array.toList_extract]
  show _ = (span s.data.toList a b)
  unfold span
  rw [List.drop_take]

/-- What Of answers. -/
def ofV (L : List UInt8) (z : Int) : Int × Int × Bool := if 0 ≤ z ∧ z ≤ L.length then (((spot L z.toNat).1 : Nat), ((spot L z.toNat).2 : Nat), true) else (0, 0, false)
theorem ofV_yes {L : List UInt8} {k : Nat} (h : k ≤ L.length) : ofV L k = ((((spot L k).1 : Nat) : Int), (((spot L k).2 : Nat) : Int), true) := by
  unfold ofV
  rw [if_pos ⟨by omega, by omega⟩, Int.toNat_natCast]
theorem ofV_no {L : List UInt8} {z : Int} (h : ¬ (0 ≤ z ∧ z ≤ L.length)) : ofV L z = (0, 0, false) := by unfold ofV; rw [if_neg h]
/-- What Place answers. -/
def plV (L : List UInt8) (l c : Int) : Int × Bool :=
  match (List.range (L.length + 1)).find? (fun i => decide (((spot L i).1 : Int) = l ∧ ((spot L i).2 : Int) = c)) with
  | some k => ((k : Nat), true)
  | none => (0, false)
theorem plV_yes {L : List UInt8} {l c : Int} {k : Nat} (h : k ≤ L.length) (hs : standsAt L l c k) : plV L l c = ((k : Int), true) := by
  unfold plV
  cases hf : (List.range (L.length + 1)).find? (fun i => decide (((spot L i).1 : Int) = l ∧ ((spot L i).2 : Int) = c)) with
  | none =>
    have := List.find?_eq_none.1 hf k (by simp; omega)
    simp at this
    exact absurd hs.2 (this hs.1)
  | some j =>
    have h1 := List.find?_some hf
    simp at h1
    have : j = k := standsAt_uniq (L := L) (l := l) (c := c) h1 hs
    rw [this]
theorem plV_no {L : List UInt8} {l c : Int} (h : ∀ k, k ≤ L.length → ¬ standsAt L l c k) : plV L l c = (0, false) := by
  unfold plV
  have hf : (List.range (L.length + 1)).find? (fun i => decide (((spot L i).1 : Int) = l ∧ ((spot L i).2 : Int) = c)) = none := by
    rw [List.find?_eq_none]
    intro k hk
    simp at hk
    have := h k (by omega)
    unfold standsAt at this
    simpa using this
  rw [hf]
end Go.Proofs.YtkmioieanopafaaDoor
