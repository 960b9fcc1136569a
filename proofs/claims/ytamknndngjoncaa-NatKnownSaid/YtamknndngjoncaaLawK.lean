/- NatKnown: its walk. -/
import Derived.Test.YtamknndngjoncaaLawR
import Derived.Test.YtamknndngjoncaaLawM
import Derived.Test.YtamknndngjoncaaLawL
namespace Go.Proofs.Ytamknndngjoncaa
open Go.RowKit

/-- A slice of limbs. -/
def LS (w : World) (B : Option Addr) (n c : Nat) : Prop := ∃ l, Row w w.heap.size .u64 B n l ∧ Dig.Below LB l ∧ n ≤ c ∧ c ≤ maxLen
theorem LS.below {w w' : World} {B : Option Addr} {n c : Nat} (h : LS w B n c) (hb : Below w.heap.size w w') : LS w' B n c := by
  obtain ⟨l, h1, h2⟩ := h
  exact ⟨l, (h1.below hb).more hb.size, h2⟩
/-- Ten slices of limbs in a block. -/
def LL (w : World) (G : Nat) : Prop := ∀ i, i < 10 → ∃ B n c, w.cell? ⟨G, i, none⟩ = some (.slice B n c) ∧ G < w.heap.size ∧ LS w B n c
theorem LL.below {w w' : World} {G : Nat} (h : LL w G) (hb : Below w.heap.size w w') : LL w' G := by
  intro i hi
  obtain ⟨B, n, c, h1, h2, h3⟩ := h i hi
  exact ⟨B, n, c, (hb.cell (p := ⟨G, i, none⟩) h2).trans h1, Nat.lt_of_lt_of_le h2 hb.size, h3.below hb⟩

theorem anyReckons {A B : Option Addr} {n c m c' : Nat} (c0 : Int) {w : World} (ha : LS w A n c) (hb : LS w B m c') :
    Calls Try.prog 4 #[.slice A n c, .slice B m c', .int .i64 c0] w fun e w' => e = .returned (.bool true) ∧ Below w.heap.size w w' := by
  obtain ⟨l1, a1, a2, a3, a4⟩ := ha
  obtain ⟨l2, b1, b2, b3, b4⟩ := hb
  by_cases h : n ≤ 40 ∧ m ≤ 40
  · exact natReckons_small A B n m c c' c0 l1 l2 w a1 b1 a2 b2 h.1 h.2 a3 b3 a4 b4
  · exact natReckons_large A B n m c c' c0 w (by omega)
theorem anyLaws {A B C : Option Addr} {n c m c' k c'' : Nat} {w : World} (ha : LS w A n c) (hb : LS w B m c') (hc : LS w C k c'') :
    Calls Try.prog 5 #[.slice A n c, .slice B m c', .slice C k c''] w fun e w' => e = .returned (.bool true) ∧ Below w.heap.size w w' := by
  obtain ⟨l1, a1, a2, a3, a4⟩ := ha
  obtain ⟨l2, b1, b2, b3, b4⟩ := hb
  obtain ⟨l3, d1, d2, d3, d4⟩ := hc
  by_cases h : n ≤ 30 ∧ m ≤ 30 ∧ k ≤ 30
  · exact natLaws_small A B C n m k c c' c'' l1 l2 l3 w a1 b1 d1 a2 b2 d2 h.1 h.2.1 h.2.2 a3 b3 d3 a4 b4 d4
  · exact natLaws_large A B C n m k c c' c'' w (by omega)
theorem anyMakes {A B : Option Addr} {n c m c' : Nat} (x : Int) (hx0 : 0 ≤ x) (hx1 : x < 18446744073709551616) {w : World} (ha : LS w A n c) (hb : LS w B m c') :
    Calls Try.prog 3 #[.slice A n c, .slice B m c', .int .u64 x] w fun e w' => e = .returned (.bool true) ∧ Below w.heap.size w w' := by
  obtain ⟨l1, a1, a2, a3, a4⟩ := ha
  obtain ⟨l2, b1, b2, b3, b4⟩ := hb
  obtain ⟨y, rfl⟩ := Int.eq_ofNat_of_zero_le hx0
  by_cases h : n ≤ 40 ∧ m ≤ 40
  · exact natMakes_small A B n m c c' y l1 l2 w a1 b1 a2 b2 (by unfold LB; omega) h.1 h.2 a3 b3 b4
  · exact natMakes_large A B n m c c' _ w (by omega)

/-- A literal of limbs, just laid. -/
theorem lsNew {w : World} {cs : Array Value} (g : Nat) (hg : g = w.heap.size) (l : List Nat) (hcs : cs = (ints .u64 l).toArray) (hb : Dig.Below LB l) (hl : l.length ≤ 1000) : LS (w.alloc (.cells cs 23)) (some ⟨g, 0, none⟩) l.length l.length := by
  subst hg hcs
  have hblk : Blk (w.alloc (.cells (ints .u64 l).toArray 23)) w.heap.size 23 .u64 l := heap_alloc_new w _
  exact ⟨l, hblk.row, hb, Nat.le_refl _, by unfold maxLen; omega⟩
theorem lsNil (w : World) : LS w none 0 0 := ⟨[], Reads.none_, Dig.Below.nil _, Nat.le_refl _, by unfold maxLen; omega⟩
theorem belowLit {l : List Nat} (h : ∀ x, x ∈ l → x < 18446744073709551616) : Dig.Below LB l := h

set_option maxRecDepth 100000 in
theorem llStart (w : World) : LL ((((((((((w.alloc (.cells #[.int .u64 0] 23)).alloc (.cells #[.int .u64 1] 23)).alloc (.cells #[.int .u64 18446744073709551615] 23)).alloc (.cells #[.int .u64 0, .int .u64 1] 23)).alloc (.cells #[.int .u64 18446744073709551615, .int .u64 18446744073709551615] 23)).alloc (.cells #[.int .u64 5, .int .u64 0, .int .u64 0] 23)).alloc (.cells #[.int .u64 0, .int .u64 0, .int .u64 9223372036854775808] 23)).alloc (.cells #[.int .u64 9223372036854775808] 23)).alloc (.cells #[.int .u64 3, .int .u64 7, .int .u64 18446744073709551615, .int .u64 9] 23)).alloc (.cells #[.slice none 0 0, .slice (some ⟨w.heap.size, 0, none⟩) 1 1, .slice (some ⟨w.heap.size + 1, 0, none⟩) 1 1, .slice (some ⟨w.heap.size + 1 + 1, 0, none⟩) 1 1, .slice (some ⟨w.heap.size + 1 + 1 + 1, 0, none⟩) 2 2, .slice (some ⟨w.heap.size + 1 + 1 + 1 + 1, 0, none⟩) 2 2, .slice (some ⟨w.heap.size + 1 + 1 + 1 + 1 + 1, 0, none⟩) 3 3, .slice (some ⟨w.heap.size + 1 + 1 + 1 + 1 + 1 + 1, 0, none⟩) 3 3, .slice (some ⟨w.heap.size + 1 + 1 + 1 + 1 + 1 + 1 + 1, 0, none⟩) 1 1, .slice (some ⟨w.heap.size + 1 + 1 + 1 + 1 + 1 + 1 + 1 + 1, 0, none⟩) 4 4] 22)) (w.heap.size + 1 + 1 + 1 + 1 + 1 + 1 + 1 + 1 + 1) ∧ Below w.heap.size w ((((((((((w.alloc (.cells #[.int .u64 0] 23)).alloc (.cells #[.int .u64 1] 23)).alloc (.cells #[.int .u64 18446744073709551615] 23)).alloc (.cells #[.int .u64 0, .int .u64 1] 23)).alloc (.cells #[.int .u64 18446744073709551615, .int .u64 18446744073709551615] 23)).alloc (.cells #[.int .u64 5, .int .u64 0, .int .u64 0] 23)).alloc (.cells #[.int .u64 0, .int .u64 0, .int .u64 9223372036854775808] 23)).alloc (.cells #[.int .u64 9223372036854775808] 23)).alloc (.cells #[.int .u64 3, .int .u64 7, .int .u64 18446744073709551615, .int .u64 9] 23)).alloc (.cells #[.slice none 0 0, .slice (some ⟨w.heap.size, 0, none⟩) 1 1, .slice (some ⟨w.heap.size + 1, 0, none⟩) 1 1, .slice (some ⟨w.heap.size + 1 + 1, 0, none⟩) 1 1, .slice (some ⟨w.heap.size + 1 + 1 + 1, 0, none⟩) 2 2, .slice (some ⟨w.heap.size + 1 + 1 + 1 + 1, 0, none⟩) 2 2, .slice (some ⟨w.heap.size + 1 + 1 + 1 + 1 + 1, 0, none⟩) 3 3, .slice (some ⟨w.heap.size + 1 + 1 + 1 + 1 + 1 + 1, 0, none⟩) 3 3, .slice (some ⟨w.heap.size + 1 + 1 + 1 + 1 + 1 + 1 + 1, 0, none⟩) 1 1, .slice (some ⟨w.heap.size + 1 + 1 + 1 + 1 + 1 + 1 + 1 + 1, 0, none⟩) 4 4] 22)) := by
  have hbl : Below w.heap.size w ((((((((((w.alloc (.cells #[.int .u64 0] 23)).alloc (.cells #[.int .u64 1] 23)).alloc (.cells #[.int .u64 18446744073709551615] 23)).alloc (.cells #[.int .u64 0, .int .u64 1] 23)).alloc (.cells #[.int .u64 18446744073709551615, .int .u64 18446744073709551615] 23)).alloc (.cells #[.int .u64 5, .int .u64 0, .int .u64 0] 23)).alloc (.cells #[.int .u64 0, .int .u64 0, .int .u64 9223372036854775808] 23)).alloc (.cells #[.int .u64 9223372036854775808] 23)).alloc (.cells #[.int .u64 3, .int .u64 7, .int .u64 18446744073709551615, .int .u64 9] 23)).alloc (.cells #[.slice none 0 0, .slice (some ⟨w.heap.size, 0, none⟩) 1 1, .slice (some ⟨w.heap.size + 1, 0, none⟩) 1 1, .slice (some ⟨w.heap.size + 1 + 1, 0, none⟩) 1 1, .slice (some ⟨w.heap.size + 1 + 1 + 1, 0, none⟩) 2 2, .slice (some ⟨w.heap.size + 1 + 1 + 1 + 1, 0, none⟩) 2 2, .slice (some ⟨w.heap.size + 1 + 1 + 1 + 1 + 1, 0, none⟩) 3 3, .slice (some ⟨w.heap.size + 1 + 1 + 1 + 1 + 1 + 1, 0, none⟩) 3 3, .slice (some ⟨w.heap.size + 1 + 1 + 1 + 1 + 1 + 1 + 1, 0, none⟩) 1 1, .slice (some ⟨w.heap.size + 1 + 1 + 1 + 1 + 1 + 1 + 1 + 1, 0, none⟩) 4 4] 22)) := by go_grown
  have s0 : LS ((((((((((w.alloc (.cells #[.int .u64 0] 23)).alloc (.cells #[.int .u64 1] 23)).alloc (.cells #[.int .u64 18446744073709551615] 23)).alloc (.cells #[.int .u64 0, .int .u64 1] 23)).alloc (.cells #[.int .u64 18446744073709551615, .int .u64 18446744073709551615] 23)).alloc (.cells #[.int .u64 5, .int .u64 0, .int .u64 0] 23)).alloc (.cells #[.int .u64 0, .int .u64 0, .int .u64 9223372036854775808] 23)).alloc (.cells #[.int .u64 9223372036854775808] 23)).alloc (.cells #[.int .u64 3, .int .u64 7, .int .u64 18446744073709551615, .int .u64 9] 23)).alloc (.cells #[.slice none 0 0, .slice (some ⟨w.heap.size, 0, none⟩) 1 1, .slice (some ⟨w.heap.size + 1, 0, none⟩) 1 1, .slice (some ⟨w.heap.size + 1 + 1, 0, none⟩) 1 1, .slice (some ⟨w.heap.size + 1 + 1 + 1, 0, none⟩) 2 2, .slice (some ⟨w.heap.size + 1 + 1 + 1 + 1, 0, none⟩) 2 2, .slice (some ⟨w.heap.size + 1 + 1 + 1 + 1 + 1, 0, none⟩) 3 3, .slice (some ⟨w.heap.size + 1 + 1 + 1 + 1 + 1 + 1, 0, none⟩) 3 3, .slice (some ⟨w.heap.size + 1 + 1 + 1 + 1 + 1 + 1 + 1, 0, none⟩) 1 1, .slice (some ⟨w.heap.size + 1 + 1 + 1 + 1 + 1 + 1 + 1 + 1, 0, none⟩) 4 4] 22)) (some ⟨w.heap.size, 0, none⟩) 1 1 := (lsNew (w := w) (cs := #[.int .u64 0]) (w.heap.size) (by simp) [0] rfl (belowLit (by intro x hx; simp at hx; omega)) (by simp)).below (by go_grown)
  have s1 : LS ((((((((((w.alloc (.cells #[.int .u64 0] 23)).alloc (.cells #[.int .u64 1] 23)).alloc (.cells #[.int .u64 18446744073709551615] 23)).alloc (.cells #[.int .u64 0, .int .u64 1] 23)).alloc (.cells #[.int .u64 18446744073709551615, .int .u64 18446744073709551615] 23)).alloc (.cells #[.int .u64 5, .int .u64 0, .int .u64 0] 23)).alloc (.cells #[.int .u64 0, .int .u64 0, .int .u64 9223372036854775808] 23)).alloc (.cells #[.int .u64 9223372036854775808] 23)).alloc (.cells #[.int .u64 3, .int .u64 7, .int .u64 18446744073709551615, .int .u64 9] 23)).alloc (.cells #[.slice none 0 0, .slice (some ⟨w.heap.size, 0, none⟩) 1 1, .slice (some ⟨w.heap.size + 1, 0, none⟩) 1 1, .slice (some ⟨w.heap.size + 1 + 1, 0, none⟩) 1 1, .slice (some ⟨w.heap.size + 1 + 1 + 1, 0, none⟩) 2 2, .slice (some ⟨w.heap.size + 1 + 1 + 1 + 1, 0, none⟩) 2 2, .slice (some ⟨w.heap.size + 1 + 1 + 1 + 1 + 1, 0, none⟩) 3 3, .slice (some ⟨w.heap.size + 1 + 1 + 1 + 1 + 1 + 1, 0, none⟩) 3 3, .slice (some ⟨w.heap.size + 1 + 1 + 1 + 1 + 1 + 1 + 1, 0, none⟩) 1 1, .slice (some ⟨w.heap.size + 1 + 1 + 1 + 1 + 1 + 1 + 1 + 1, 0, none⟩) 4 4] 22)) (some ⟨w.heap.size + 1, 0, none⟩) 1 1 := (lsNew (w := (w.alloc (.cells #[.int .u64 0] 23))) (cs := #[.int .u64 1]) (w.heap.size + 1) (by simp) [1] rfl (belowLit (by intro x hx; simp at hx; omega)) (by simp)).below (by go_grown)
  have s2 : LS ((((((((((w.alloc (.cells #[.int .u64 0] 23)).alloc (.cells #[.int .u64 1] 23)).alloc (.cells #[.int .u64 18446744073709551615] 23)).alloc (.cells #[.int .u64 0, .int .u64 1] 23)).alloc (.cells #[.int .u64 18446744073709551615, .int .u64 18446744073709551615] 23)).alloc (.cells #[.int .u64 5, .int .u64 0, .int .u64 0] 23)).alloc (.cells #[.int .u64 0, .int .u64 0, .int .u64 9223372036854775808] 23)).alloc (.cells #[.int .u64 9223372036854775808] 23)).alloc (.cells #[.int .u64 3, .int .u64 7, .int .u64 18446744073709551615, .int .u64 9] 23)).alloc (.cells #[.slice none 0 0, .slice (some ⟨w.heap.size, 0, none⟩) 1 1, .slice (some ⟨w.heap.size + 1, 0, none⟩) 1 1, .slice (some ⟨w.heap.size + 1 + 1, 0, none⟩) 1 1, .slice (some ⟨w.heap.size + 1 + 1 + 1, 0, none⟩) 2 2, .slice (some ⟨w.heap.size + 1 + 1 + 1 + 1, 0, none⟩) 2 2, .slice (some ⟨w.heap.size + 1 + 1 + 1 + 1 + 1, 0, none⟩) 3 3, .slice (some ⟨w.heap.size + 1 + 1 + 1 + 1 + 1 + 1, 0, none⟩) 3 3, .slice (some ⟨w.heap.size + 1 + 1 + 1 + 1 + 1 + 1 + 1, 0, none⟩) 1 1, .slice (some ⟨w.heap.size + 1 + 1 + 1 + 1 + 1 + 1 + 1 + 1, 0, none⟩) 4 4] 22)) (some ⟨w.heap.size + 1 + 1, 0, none⟩) 1 1 := (lsNew (w := ((w.alloc (.cells #[.int .u64 0] 23)).alloc (.cells #[.int .u64 1] 23))) (cs := #[.int .u64 18446744073709551615]) (w.heap.size + 1 + 1) (by simp) [18446744073709551615] rfl (belowLit (by intro x hx; simp at hx; omega)) (by simp)).below (by go_grown)
  have s3 : LS ((((((((((w.alloc (.cells #[.int .u64 0] 23)).alloc (.cells #[.int .u64 1] 23)).alloc (.cells #[.int .u64 18446744073709551615] 23)).alloc (.cells #[.int .u64 0, .int .u64 1] 23)).alloc (.cells #[.int .u64 18446744073709551615, .int .u64 18446744073709551615] 23)).alloc (.cells #[.int .u64 5, .int .u64 0, .int .u64 0] 23)).alloc (.cells #[.int .u64 0, .int .u64 0, .int .u64 9223372036854775808] 23)).alloc (.cells #[.int .u64 9223372036854775808] 23)).alloc (.cells #[.int .u64 3, .int .u64 7, .int .u64 18446744073709551615, .int .u64 9] 23)).alloc (.cells #[.slice none 0 0, .slice (some ⟨w.heap.size, 0, none⟩) 1 1, .slice (some ⟨w.heap.size + 1, 0, none⟩) 1 1, .slice (some ⟨w.heap.size + 1 + 1, 0, none⟩) 1 1, .slice (some ⟨w.heap.size + 1 + 1 + 1, 0, none⟩) 2 2, .slice (some ⟨w.heap.size + 1 + 1 + 1 + 1, 0, none⟩) 2 2, .slice (some ⟨w.heap.size + 1 + 1 + 1 + 1 + 1, 0, none⟩) 3 3, .slice (some ⟨w.heap.size + 1 + 1 + 1 + 1 + 1 + 1, 0, none⟩) 3 3, .slice (some ⟨w.heap.size + 1 + 1 + 1 + 1 + 1 + 1 + 1, 0, none⟩) 1 1, .slice (some ⟨w.heap.size + 1 + 1 + 1 + 1 + 1 + 1 + 1 + 1, 0, none⟩) 4 4] 22)) (some ⟨w.heap.size + 1 + 1 + 1, 0, none⟩) 2 2 := (lsNew (w := (((w.alloc (.cells #[.int .u64 0] 23)).alloc (.cells #[.int .u64 1] 23)).alloc (.cells #[.int .u64 18446744073709551615] 23))) (cs := #[.int .u64 0, .int .u64 1]) (w.heap.size + 1 + 1 + 1) (by simp) [0, 1] rfl (belowLit (by intro x hx; simp at hx; omega)) (by simp)).below (by go_grown)
  have s4 : LS ((((((((((w.alloc (.cells #[.int .u64 0] 23)).alloc (.cells #[.int .u64 1] 23)).alloc (.cells #[.int .u64 18446744073709551615] 23)).alloc (.cells #[.int .u64 0, .int .u64 1] 23)).alloc (.cells #[.int .u64 18446744073709551615, .int .u64 18446744073709551615] 23)).alloc (.cells #[.int .u64 5, .int .u64 0, .int .u64 0] 23)).alloc (.cells #[.int .u64 0, .int .u64 0, .int .u64 9223372036854775808] 23)).alloc (.cells #[.int .u64 9223372036854775808] 23)).alloc (.cells #[.int .u64 3, .int .u64 7, .int .u64 18446744073709551615, .int .u64 9] 23)).alloc (.cells #[.slice none 0 0, .slice (some ⟨w.heap.size, 0, none⟩) 1 1, .slice (some ⟨w.heap.size + 1, 0, none⟩) 1 1, .slice (some ⟨w.heap.size + 1 + 1, 0, none⟩) 1 1, .slice (some ⟨w.heap.size + 1 + 1 + 1, 0, none⟩) 2 2, .slice (some ⟨w.heap.size + 1 + 1 + 1 + 1, 0, none⟩) 2 2, .slice (some ⟨w.heap.size + 1 + 1 + 1 + 1 + 1, 0, none⟩) 3 3, .slice (some ⟨w.heap.size + 1 + 1 + 1 + 1 + 1 + 1, 0, none⟩) 3 3, .slice (some ⟨w.heap.size + 1 + 1 + 1 + 1 + 1 + 1 + 1, 0, none⟩) 1 1, .slice (some ⟨w.heap.size + 1 + 1 + 1 + 1 + 1 + 1 + 1 + 1, 0, none⟩) 4 4] 22)) (some ⟨w.heap.size + 1 + 1 + 1 + 1, 0, none⟩) 2 2 := (lsNew (w := ((((w.alloc (.cells #[.int .u64 0] 23)).alloc (.cells #[.int .u64 1] 23)).alloc (.cells #[.int .u64 18446744073709551615] 23)).alloc (.cells #[.int .u64 0, .int .u64 1] 23))) (cs := #[.int .u64 18446744073709551615, .int .u64 18446744073709551615]) (w.heap.size + 1 + 1 + 1 + 1) (by simp) [18446744073709551615, 18446744073709551615] rfl (belowLit (by intro x hx; simp at hx; omega)) (by simp)).below (by go_grown)
  have s5 : LS ((((((((((w.alloc (.cells #[.int .u64 0] 23)).alloc (.cells #[.int .u64 1] 23)).alloc (.cells #[.int .u64 18446744073709551615] 23)).alloc (.cells #[.int .u64 0, .int .u64 1] 23)).alloc (.cells #[.int .u64 18446744073709551615, .int .u64 18446744073709551615] 23)).alloc (.cells #[.int .u64 5, .int .u64 0, .int .u64 0] 23)).alloc (.cells #[.int .u64 0, .int .u64 0, .int .u64 9223372036854775808] 23)).alloc (.cells #[.int .u64 9223372036854775808] 23)).alloc (.cells #[.int .u64 3, .int .u64 7, .int .u64 18446744073709551615, .int .u64 9] 23)).alloc (.cells #[.slice none 0 0, .slice (some ⟨w.heap.size, 0, none⟩) 1 1, .slice (some ⟨w.heap.size + 1, 0, none⟩) 1 1, .slice (some ⟨w.heap.size + 1 + 1, 0, none⟩) 1 1, .slice (some ⟨w.heap.size + 1 + 1 + 1, 0, none⟩) 2 2, .slice (some ⟨w.heap.size + 1 + 1 + 1 + 1, 0, none⟩) 2 2, .slice (some ⟨w.heap.size + 1 + 1 + 1 + 1 + 1, 0, none⟩) 3 3, .slice (some ⟨w.heap.size + 1 + 1 + 1 + 1 + 1 + 1, 0, none⟩) 3 3, .slice (some ⟨w.heap.size + 1 + 1 + 1 + 1 + 1 + 1 + 1, 0, none⟩) 1 1, .slice (some ⟨w.heap.size + 1 + 1 + 1 + 1 + 1 + 1 + 1 + 1, 0, none⟩) 4 4] 22)) (some ⟨w.heap.size + 1 + 1 + 1 + 1 + 1, 0, none⟩) 3 3 := (lsNew (w := (((((w.alloc (.cells #[.int .u64 0] 23)).alloc (.cells #[.int .u64 1] 23)).alloc (.cells #[.int .u64 18446744073709551615] 23)).alloc (.cells #[.int .u64 0, .int .u64 1] 23)).alloc (.cells #[.int .u64 18446744073709551615, .int .u64 18446744073709551615] 23))) (cs := #[.int .u64 5, .int .u64 0, .int .u64 0]) (w.heap.size + 1 + 1 + 1 + 1 + 1) (by simp) [5, 0, 0] rfl (belowLit (by intro x hx; simp at hx; omega)) (by simp)).below (by go_grown)
  have s6 : LS ((((((((((w.alloc (.cells #[.int .u64 0] 23)).alloc (.cells #[.int .u64 1] 23)).alloc (.cells #[.int .u64 18446744073709551615] 23)).alloc (.cells #[.int .u64 0, .int .u64 1] 23)).alloc (.cells #[.int .u64 18446744073709551615, .int .u64 18446744073709551615] 23)).alloc (.cells #[.int .u64 5, .int .u64 0, .int .u64 0] 23)).alloc (.cells #[.int .u64 0, .int .u64 0, .int .u64 9223372036854775808] 23)).alloc (.cells #[.int .u64 9223372036854775808] 23)).alloc (.cells #[.int .u64 3, .int .u64 7, .int .u64 18446744073709551615, .int .u64 9] 23)).alloc (.cells #[.slice none 0 0, .slice (some ⟨w.heap.size, 0, none⟩) 1 1, .slice (some ⟨w.heap.size + 1, 0, none⟩) 1 1, .slice (some ⟨w.heap.size + 1 + 1, 0, none⟩) 1 1, .slice (some ⟨w.heap.size + 1 + 1 + 1, 0, none⟩) 2 2, .slice (some ⟨w.heap.size + 1 + 1 + 1 + 1, 0, none⟩) 2 2, .slice (some ⟨w.heap.size + 1 + 1 + 1 + 1 + 1, 0, none⟩) 3 3, .slice (some ⟨w.heap.size + 1 + 1 + 1 + 1 + 1 + 1, 0, none⟩) 3 3, .slice (some ⟨w.heap.size + 1 + 1 + 1 + 1 + 1 + 1 + 1, 0, none⟩) 1 1, .slice (some ⟨w.heap.size + 1 + 1 + 1 + 1 + 1 + 1 + 1 + 1, 0, none⟩) 4 4] 22)) (some ⟨w.heap.size + 1 + 1 + 1 + 1 + 1 + 1, 0, none⟩) 3 3 := (lsNew (w := ((((((w.alloc (.cells #[.int .u64 0] 23)).alloc (.cells #[.int .u64 1] 23)).alloc (.cells #[.int .u64 18446744073709551615] 23)).alloc (.cells #[.int .u64 0, .int .u64 1] 23)).alloc (.cells #[.int .u64 18446744073709551615, .int .u64 18446744073709551615] 23)).alloc (.cells #[.int .u64 5, .int .u64 0, .int .u64 0] 23))) (cs := #[.int .u64 0, .int .u64 0, .int .u64 9223372036854775808]) (w.heap.size + 1 + 1 + 1 + 1 + 1 + 1) (by simp) [0, 0, 9223372036854775808] rfl (belowLit (by intro x hx; simp at hx; omega)) (by simp)).below (by go_grown)
  have s7 : LS ((((((((((w.alloc (.cells #[.int .u64 0] 23)).alloc (.cells #[.int .u64 1] 23)).alloc (.cells #[.int .u64 18446744073709551615] 23)).alloc (.cells #[.int .u64 0, .int .u64 1] 23)).alloc (.cells #[.int .u64 18446744073709551615, .int .u64 18446744073709551615] 23)).alloc (.cells #[.int .u64 5, .int .u64 0, .int .u64 0] 23)).alloc (.cells #[.int .u64 0, .int .u64 0, .int .u64 9223372036854775808] 23)).alloc (.cells #[.int .u64 9223372036854775808] 23)).alloc (.cells #[.int .u64 3, .int .u64 7, .int .u64 18446744073709551615, .int .u64 9] 23)).alloc (.cells #[.slice none 0 0, .slice (some ⟨w.heap.size, 0, none⟩) 1 1, .slice (some ⟨w.heap.size + 1, 0, none⟩) 1 1, .slice (some ⟨w.heap.size + 1 + 1, 0, none⟩) 1 1, .slice (some ⟨w.heap.size + 1 + 1 + 1, 0, none⟩) 2 2, .slice (some ⟨w.heap.size + 1 + 1 + 1 + 1, 0, none⟩) 2 2, .slice (some ⟨w.heap.size + 1 + 1 + 1 + 1 + 1, 0, none⟩) 3 3, .slice (some ⟨w.heap.size + 1 + 1 + 1 + 1 + 1 + 1, 0, none⟩) 3 3, .slice (some ⟨w.heap.size + 1 + 1 + 1 + 1 + 1 + 1 + 1, 0, none⟩) 1 1, .slice (some ⟨w.heap.size + 1 + 1 + 1 + 1 + 1 + 1 + 1 + 1, 0, none⟩) 4 4] 22)) (some ⟨w.heap.size + 1 + 1 + 1 + 1 + 1 + 1 + 1, 0, none⟩) 1 1 := (lsNew (w := (((((((w.alloc (.cells #[.int .u64 0] 23)).alloc (.cells #[.int .u64 1] 23)).alloc (.cells #[.int .u64 18446744073709551615] 23)).alloc (.cells #[.int .u64 0, .int .u64 1] 23)).alloc (.cells #[.int .u64 18446744073709551615, .int .u64 18446744073709551615] 23)).alloc (.cells #[.int .u64 5, .int .u64 0, .int .u64 0] 23)).alloc (.cells #[.int .u64 0, .int .u64 0, .int .u64 9223372036854775808] 23))) (cs := #[.int .u64 9223372036854775808]) (w.heap.size + 1 + 1 + 1 + 1 + 1 + 1 + 1) (by simp) [9223372036854775808] rfl (belowLit (by intro x hx; simp at hx; omega)) (by simp)).below (by go_grown)
  have s8 : LS ((((((((((w.alloc (.cells #[.int .u64 0] 23)).alloc (.cells #[.int .u64 1] 23)).alloc (.cells #[.int .u64 18446744073709551615] 23)).alloc (.cells #[.int .u64 0, .int .u64 1] 23)).alloc (.cells #[.int .u64 18446744073709551615, .int .u64 18446744073709551615] 23)).alloc (.cells #[.int .u64 5, .int .u64 0, .int .u64 0] 23)).alloc (.cells #[.int .u64 0, .int .u64 0, .int .u64 9223372036854775808] 23)).alloc (.cells #[.int .u64 9223372036854775808] 23)).alloc (.cells #[.int .u64 3, .int .u64 7, .int .u64 18446744073709551615, .int .u64 9] 23)).alloc (.cells #[.slice none 0 0, .slice (some ⟨w.heap.size, 0, none⟩) 1 1, .slice (some ⟨w.heap.size + 1, 0, none⟩) 1 1, .slice (some ⟨w.heap.size + 1 + 1, 0, none⟩) 1 1, .slice (some ⟨w.heap.size + 1 + 1 + 1, 0, none⟩) 2 2, .slice (some ⟨w.heap.size + 1 + 1 + 1 + 1, 0, none⟩) 2 2, .slice (some ⟨w.heap.size + 1 + 1 + 1 + 1 + 1, 0, none⟩) 3 3, .slice (some ⟨w.heap.size + 1 + 1 + 1 + 1 + 1 + 1, 0, none⟩) 3 3, .slice (some ⟨w.heap.size + 1 + 1 + 1 + 1 + 1 + 1 + 1, 0, none⟩) 1 1, .slice (some ⟨w.heap.size + 1 + 1 + 1 + 1 + 1 + 1 + 1 + 1, 0, none⟩) 4 4] 22)) (some ⟨w.heap.size + 1 + 1 + 1 + 1 + 1 + 1 + 1 + 1, 0, none⟩) 4 4 := (lsNew (w := ((((((((w.alloc (.cells #[.int .u64 0] 23)).alloc (.cells #[.int .u64 1] 23)).alloc (.cells #[.int .u64 18446744073709551615] 23)).alloc (.cells #[.int .u64 0, .int .u64 1] 23)).alloc (.cells #[.int .u64 18446744073709551615, .int .u64 18446744073709551615] 23)).alloc (.cells #[.int .u64 5, .int .u64 0, .int .u64 0] 23)).alloc (.cells #[.int .u64 0, .int .u64 0, .int .u64 9223372036854775808] 23)).alloc (.cells #[.int .u64 9223372036854775808] 23))) (cs := #[.int .u64 3, .int .u64 7, .int .u64 18446744073709551615, .int .u64 9]) (w.heap.size + 1 + 1 + 1 + 1 + 1 + 1 + 1 + 1) (by simp) [3, 7, 18446744073709551615, 9] rfl (belowLit (by intro x hx; simp at hx; omega)) (by simp)).below (by go_grown)
  refine ⟨fun i hi => ?_, hbl⟩
  match i, hi with
  | 0, _ => exact ⟨none, 0, 0, by simp [go_sem], by simp, lsNil _⟩
  | 1, _ => exact ⟨some ⟨w.heap.size, 0, none⟩, 1, 1, by simp [go_sem], by simp, s0⟩
  | 2, _ => exact ⟨some ⟨w.heap.size + 1, 0, none⟩, 1, 1, by simp [go_sem], by simp, s1⟩
  | 3, _ => exact ⟨some ⟨w.heap.size + 1 + 1, 0, none⟩, 1, 1, by simp [go_sem], by simp, s2⟩
  | 4, _ => exact ⟨some ⟨w.heap.size + 1 + 1 + 1, 0, none⟩, 2, 2, by simp [go_sem], by simp, s3⟩
  | 5, _ => exact ⟨some ⟨w.heap.size + 1 + 1 + 1 + 1, 0, none⟩, 2, 2, by simp [go_sem], by simp, s4⟩
  | 6, _ => exact ⟨some ⟨w.heap.size + 1 + 1 + 1 + 1 + 1, 0, none⟩, 3, 3, by simp [go_sem], by simp, s5⟩
  | 7, _ => exact ⟨some ⟨w.heap.size + 1 + 1 + 1 + 1 + 1 + 1, 0, none⟩, 3, 3, by simp [go_sem], by simp, s6⟩
  | 8, _ => exact ⟨some ⟨w.heap.size + 1 + 1 + 1 + 1 + 1 + 1 + 1, 0, none⟩, 1, 1, by simp [go_sem], by simp, s7⟩
  | 9, _ => exact ⟨some ⟨w.heap.size + 1 + 1 + 1 + 1 + 1 + 1 + 1 + 1, 0, none⟩, 4, 4, by simp [go_sem], by simp, s8⟩

set_option maxRecDepth 100000 in
set_option maxHeartbeats 4000000 in
theorem natKnown_any (w : World) : Calls Try.prog 6 #[] w fun e w' => e = .returned (.bool true) ∧ Below w.heap.size w w' := by
  obtain ⟨hLL, hB⟩ := llStart w
  have hLL := Lib.hid hLL
  have hB := Lib.hid hB
  go_enter Try.func6, Try.ntmps6
  go_wp2_with fail
  generalize ((((((((((w.alloc (.cells #[.int .u64 0] 23)).alloc (.cells #[.int .u64 1] 23)).alloc (.cells #[.int .u64 18446744073709551615] 23)).alloc (.cells #[.int .u64 0, .int .u64 1] 23)).alloc (.cells #[.int .u64 18446744073709551615, .int .u64 18446744073709551615] 23)).alloc (.cells #[.int .u64 5, .int .u64 0, .int .u64 0] 23)).alloc (.cells #[.int .u64 0, .int .u64 0, .int .u64 9223372036854775808] 23)).alloc (.cells #[.int .u64 9223372036854775808] 23)).alloc (.cells #[.int .u64 3, .int .u64 7, .int .u64 18446744073709551615, .int .u64 9] 23)).alloc (.cells #[.slice none 0 0, .slice (some ⟨w.heap.size, 0, none⟩) 1 1, .slice (some ⟨w.heap.size + 1, 0, none⟩) 1 1, .slice (some ⟨w.heap.size + 1 + 1, 0, none⟩) 1 1, .slice (some ⟨w.heap.size + 1 + 1 + 1, 0, none⟩) 2 2, .slice (some ⟨w.heap.size + 1 + 1 + 1 + 1, 0, none⟩) 2 2, .slice (some ⟨w.heap.size + 1 + 1 + 1 + 1 + 1, 0, none⟩) 3 3, .slice (some ⟨w.heap.size + 1 + 1 + 1 + 1 + 1 + 1, 0, none⟩) 3 3, .slice (some ⟨w.heap.size + 1 + 1 + 1 + 1 + 1 + 1 + 1, 0, none⟩) 1 1, .slice (some ⟨w.heap.size + 1 + 1 + 1 + 1 + 1 + 1 + 1 + 1, 0, none⟩) 4 4] 22)) = W at *
  generalize w.heap.size + 1 + 1 + 1 + 1 + 1 + 1 + 1 + 1 + 1 = G at *
  go_loopw [2, 3, 4, 5] (fun iv _ _ _ wr => ∃ i : Nat, i ≤ 10 ∧ iv = .int .i64 i ∧ LL wr G ∧ Below w.heap.size w wr) (fun iv _ _ _ _ => 10 - (intOf iv).toNat)
  case atStart => exact ⟨0, by omega, rfl, hLL.out, hB.out⟩
  case round =>
    obtain ⟨i, hi, rfl, hl, hb⟩ := hrel
    clear hLL hB
    by_cases hlt : i < 10
    · have hi1 : (i : Int) < 10 := by omega
      go_wp2_with fail
      obtain ⟨wa, rfl⟩ : ∃ wa : World, wa = wr := ⟨_, rfl⟩
      go_loopw [3, 4, 5] (fun kv _ _ wr => ∃ k : Nat, k ≤ 10 ∧ kv = .int .i64 k ∧ LL wr G ∧ Below w.heap.size w wr) (fun kv _ _ _ => 10 - (intOf kv).toNat)
      case atStart => exact ⟨0, by omega, rfl, hl, hb⟩
      case round =>
        obtain ⟨k, hk, rfl, hl1, hb1⟩ := hrel
        clear hl hb
        by_cases hlt1 : k < 10
        · have hk1 : (k : Int) < 10 := by omega
          go_wp2_with fail
          obtain ⟨wb, rfl⟩ : ∃ wb : World, wb = wr := ⟨_, rfl⟩
          go_loopw [4] (fun cv wr => ∃ z : Int, -1 ≤ z ∧ z ≤ 8 ∧ cv = .int .i64 z ∧ LL wr G ∧ Below w.heap.size w wr) (fun cv _ => (8 - intOf cv).toNat)
          case atStart => exact ⟨-1, by omega, by omega, rfl, hl1, hb1⟩
          case round =>
            obtain ⟨z, hz1, hz2, rfl, hl2, hb2⟩ := hrel
            clear hl1 hb1
            by_cases hz : z < 8
            · have hl3 := hl2.below (Below.refl _ _).drew
              have hb3 := hb2.drew
              obtain ⟨Bi, ni, ci, ki, _, si⟩ := hl3 i hlt
              obtain ⟨Bk, nk, ck, kk, _, sk⟩ := hl3 k hlt1
              clear hl2 hb2
              have hl3 := Lib.hid hl3
              go_wp2_with fail
              go_region_held3 (fun w' => w'.cell? ⟨G, i, none⟩ = some (.slice Bi ni ci) ∧ w'.cell? ⟨G, k, none⟩ = some (.slice Bk nk ck)) (first | exact ⟨ki, kk⟩ | exact ⟨ki4, kk4⟩)
                (first
                  | (go_at_call 4
                     with_reducible refine (anyReckons z si sk).mono ?_
                     rintro e w4 ⟨rfl, hb4⟩
                     have hl4 := hl3.out.below hb4
                     have hb5 := bstep0 hb3 hb4
                     have ki4 := (hb4.cell (p := ⟨G, i, none⟩) (World.block_lt_of_cell? _ _ ki)).trans ki
                     have kk4 := (hb4.cell (p := ⟨G, k, none⟩) (World.block_lt_of_cell? _ _ kk)).trans kk))
              clear ki kk ki4 kk4 si sk hl3 hb3 hb4
              have hl4 := Lib.hid hl4
              go_wp2_with fail
              first
              | exact ⟨⟨z + 1, by omega, by omega, rfl, hl4.out, hb5⟩, by simp [intOf]; omega⟩
              | (refine ⟨?_, by simp [intOf]; omega⟩; (repeat apply Exists.intro); exact ⟨⟨z + 1, by omega, by omega, rfl, hl4.out, hb5⟩, rfl⟩)
            · obtain rfl : z = 8 := by omega
              have hl2 := Lib.hid hl2
              go_wp2_with fail
              obtain ⟨wc, rfl⟩ : ∃ wc : World, wc = wr := ⟨_, rfl⟩
              go_loopw [5] (fun mv wr => ∃ m : Nat, m ≤ 10 ∧ mv = .int .i64 m ∧ LL wr G ∧ Below w.heap.size w wr) (fun mv _ => 10 - (intOf mv).toNat)
              case atStart => exact ⟨0, by omega, rfl, hl2.out, hb2⟩
              case round =>
                obtain ⟨m, hm, rfl, hl3, hb3⟩ := hrel
                clear hl2 hb2
                by_cases hlt2 : m < 10
                · have hl4 := hl3.below (Below.refl _ _).drew
                  have hb4 := hb3.drew
                  obtain ⟨Bi, ni, ci, ki, _, si⟩ := hl4 i hlt
                  obtain ⟨Bk, nk, ck, kk, _, sk⟩ := hl4 k hlt1
                  obtain ⟨Bm, nm, cm, km, _, sm⟩ := hl4 m hlt2
                  have hm1 : (m : Int) < 10 := by omega
                  clear hl3 hb3
                  have hl4 := Lib.hid hl4
                  go_wp2_with fail
                  go_region_held3 (fun w' => w'.cell? ⟨G, i, none⟩ = some (.slice Bi ni ci) ∧ w'.cell? ⟨G, k, none⟩ = some (.slice Bk nk ck) ∧ w'.cell? ⟨G, m, none⟩ = some (.slice Bm nm cm)) (first | exact ⟨ki, kk, km⟩ | exact ⟨ki4, kk4, km4⟩)
                    (first
                      | (go_at_call 5
                         with_reducible refine (anyLaws si sk sm).mono ?_
                         rintro e w4 ⟨rfl, hb5⟩
                         have hl5 := hl4.out.below hb5
                         have hb6 := bstep0 hb4 hb5
                         have ki4 := (hb5.cell (p := ⟨G, i, none⟩) (World.block_lt_of_cell? _ _ ki)).trans ki
                         have kk4 := (hb5.cell (p := ⟨G, k, none⟩) (World.block_lt_of_cell? _ _ kk)).trans kk
                         have km4 := (hb5.cell (p := ⟨G, m, none⟩) (World.block_lt_of_cell? _ _ km)).trans km))
                  clear ki kk km ki4 kk4 km4 si sk sm hl4 hb4 hb5
                  have hl5 := Lib.hid hl5
                  go_wp2_with fail
                  first
                  | exact ⟨⟨m + 1, by omega, by go_num, hl5.out, hb6⟩, by simp [intOf]; omega⟩
                  | (refine ⟨?_, by simp [intOf]; omega⟩; (repeat apply Exists.intro); exact ⟨⟨m + 1, by omega, by go_num, hl5.out, hb6⟩, rfl⟩)
                · obtain rfl : m = 10 := by omega
                  have hl4 := hl3.below (Below.refl _ _).drew
                  have hb4 := hb3.drew
                  obtain ⟨Bi, ni, ci, ki, _, si⟩ := hl4 i hlt
                  obtain ⟨Bk, nk, ck, kk, _, sk⟩ := hl4 k hlt1
                  clear hl3 hb3
                  have hl4 := Lib.hid hl4
                  have hik : ((i : Int) * (k : Int)) = ((i * k : Nat) : Int) := (Int.natCast_mul _ _).symm
                  have hikb : i * k ≤ 9 * 9 := Nat.mul_le_mul (by omega) (by omega)
                  generalize i * k = ik at *
                  have hw1 : IntKind.i64.wrap (ik : Int) = (ik : Int) := IntWalk.i64_in _ (by omega)
                  have hw2 : IntKind.u64.wrap (ik : Int) = (ik : Int) := by rw [IntKind.wrap_u64]; omega
                  go_wp2_with fail
                  go_region_held3 (fun w' => w'.cell? ⟨G, i, none⟩ = some (.slice Bi ni ci) ∧ w'.cell? ⟨G, k, none⟩ = some (.slice Bk nk ck)) (first | exact ⟨ki, kk⟩ | exact ⟨ki4, kk4⟩)
                    (first
                      | (go_at_call 3
                         with_reducible refine (anyMakes _ ?hx0 ?hx1 si sk).mono ?_
                         case hx0 => (simp [IntKind.wrap_u64]; omega)
                         case hx1 => (simp [IntKind.wrap_u64]; omega)
                         rintro e w4 ⟨rfl, hb5⟩
                         have hl5 := hl4.out.below hb5
                         have hb6 := bstep0 hb4 hb5
                         have ki4 := (hb5.cell (p := ⟨G, i, none⟩) (World.block_lt_of_cell? _ _ ki)).trans ki
                         have kk4 := (hb5.cell (p := ⟨G, k, none⟩) (World.block_lt_of_cell? _ _ kk)).trans kk))
                  clear ki kk ki4 kk4 si sk hl4 hb4 hb5
                  have hl5 := Lib.hid hl5
                  go_wp2_with fail
                  first
                  | exact ⟨⟨k + 1, by omega, by go_num, hl5.out, hb6⟩, by simp [intOf]; omega⟩
                  | (refine ⟨?_, by simp [intOf]; omega⟩; (repeat apply Exists.intro); exact ⟨⟨k + 1, by omega, by go_num, hl5.out, hb6⟩, rfl⟩)
        · obtain rfl : k = 10 := by omega
          have hl1 := Lib.hid hl1
          go_wp2_with fail
          first
          | exact ⟨⟨i + 1, by omega, by go_num, hl1.out, hb1⟩, by simp [intOf]; omega⟩
          | (refine ⟨?_, by simp [intOf]; omega⟩; (repeat apply Exists.intro); exact ⟨⟨i + 1, by omega, by go_num, hl1.out, hb1⟩, rfl⟩)
    · obtain rfl : i = 10 := by omega
      clear hl
      go_wp2_with fail
      refine (works_any _).mono ?_
      rintro e w1 ⟨rfl, hb1⟩
      go_wp2_with fail
      go_ret
      exact ⟨rfl, bstep0 hb hb1⟩
end Go.Proofs.Ytamknndngjoncaa
