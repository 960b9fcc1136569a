/- What is asked of layer 5's functions, as the laws' walks take it (no walk of them here); the chapter's examples. -/
import Derived.Test.YthlpldmodflmjaaDoorTokM
import Derived.Test.YthlpldmodflmjaaDoorTokL
namespace Go.Proofs.YthlpldmodflmjaaDoor
open Go.RowKit

/-- A row of tokens, new with the call, that may be written over; nothing that stood before has turned. -/
def FreshT (w : World) (v : Value) (r : List TokV) (W : World) : Prop := ∃ A c, v = .slice A r.length c ∧ RowT W A r.length r ∧ (∀ ad, A = some ad → (∃ g o, ad = ⟨g, o, none⟩) ∧ w.heap.size ≤ ad.block ∧ ∀ j, j < r.length * 5 → W.frozen? (ad.add j) = false) ∧ Below w.heap.size w W
def TokNextC : Prop := ∀ (s : ByteArray) (z : Int) (w : World), LaidR w → s.size ≤ 2000 → in64 z → Calls Tryd.prog 9 #[.string s, .int .i64 z] w fun e w' => e = .returned (nextA (nextV s.data.toList z)) ∧ Below w.heap.size w w'
def TokAllC : Prop := ∀ (s : ByteArray) (w : World), LaidR w → s.size ≤ 2000 → Calls Tryd.prog 13 #[.string s] w fun e w' => ∃ v, e = .returned (.tuple #[v, .agg #[.int .i64 (allV s.data.toList).2.1, .int .i64 (allV s.data.toList).2.2.1, .int .i64 (allV s.data.toList).2.2.2]]) ∧ FreshT w v (allV s.data.toList).1 w'
def TokRightC : Prop := ∀ (k : Int) (x : List UInt8) (n l c : Int) (w : World), LaidR w → x.length ≤ 2000 → in64 k → in64 n → Calls Tryd.prog 16 #[.agg #[.int .i64 k, .string ⟨x.toArray⟩, .int .i64 n, .int .i64 l, .int .i64 c]] w fun e w' => e = .returned (.bool (rightV ⟨k, x, n, l, c⟩)) ∧ Below w.heap.size w w'
def TokSameC : Prop := ∀ (k : Int) (x : List UInt8) (n l c k' : Int) (x' : List UInt8) (n' l' c' : Int) (w : World), Calls Tryd.prog 18 #[.agg #[.int .i64 k, .string ⟨x.toArray⟩, .int .i64 n, .int .i64 l, .int .i64 c], .agg #[.int .i64 k', .string ⟨x'.toArray⟩, .int .i64 n', .int .i64 l', .int .i64 c']] w fun e w' => e = .returned (.bool (sameV ⟨k, x, n, l, c⟩ ⟨k', x', n', l', c'⟩)) ∧ Below w.heap.size w w'
def TokJoinC : Prop := ∀ (A : Option Addr) (n c0 : Nat) (r : List TokV) (w : World), RowT w A n r → n ≤ 100 → (∀ t ∈ r, t.x.length ≤ 100) → Calls Tryd.prog 20 #[.slice A n c0] w fun e w' => e = .returned (.string ⟨(joinV r).toArray⟩) ∧ Below w.heap.size w w'

/-- The chapter's examples. -/
def exA : List UInt8 := [120, 61, 49, 60, 60, 121, 59]
def exB : List UInt8 := [97, 32, 35, 32, 98]
def exC : List UInt8 := [49, 50, 97, 98]
def exD : List UInt8 := [48, 48, 55]
def exE : List UInt8 := [120, 64, 121]
theorem allA : allV exA = ([⟨0, [120], 0, 1, 1⟩, ⟨2, [61], 0, 1, 2⟩, ⟨1, [49], 1, 1, 3⟩, ⟨2, [60, 60], 0, 1, 4⟩, ⟨0, [121], 0, 1, 6⟩, ⟨2, [59], 0, 1, 7⟩, ⟨3, [], 0, 1, 8⟩], 0, 0, 0) := by kernel_rfl
theorem allB : allV exB = ([⟨0, [97], 0, 1, 1⟩, ⟨3, [], 0, 1, 6⟩], 0, 0, 0) := by kernel_rfl
theorem allC : allV exC = ([⟨1, [49, 50], 12, 1, 1⟩, ⟨0, [97, 98], 0, 1, 3⟩, ⟨3, [], 0, 1, 5⟩], 0, 0, 0) := by kernel_rfl
theorem allD : allV exD = ([], 1, 1, 51) := by kernel_rfl
theorem allE : allV exE = ([], 1, 2, 50) := by kernel_rfl
end Go.Proofs.YthlpldmodflmjaaDoor
