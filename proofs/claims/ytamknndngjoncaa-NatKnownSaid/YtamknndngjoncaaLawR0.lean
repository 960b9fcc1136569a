/- NatReckons: its walk. -/
import Derived.Test.YtamknndngjoncaaLawI
import Derived.Test.YtamknndngjoncaaRefE
import Derived.Test.YtamknndngjoncaaRefF
import Derived.Test.YtamknndngjoncaaNatG
import Derived.Test.YtamknndngjoncaaNatI
namespace Go.Proofs.Ytamknndngjoncaa
open Go.RowKit

/-- A number in a box, as this law keeps it. -/
structure Bk (w : World) (g : Nat) (A : Option Addr) (n c b N : Nat) : Prop where
  cell : w.cell? ⟨g, 0, none⟩ = some (.slice A n c)
  froz : w.frozen? ⟨g, 0, none⟩ = false
  num : Num w b A n c N
theorem Bk.below {w w' : World} {g n c b N : Nat} {A : Option Addr} (h : Bk w g A n c b N) (hb : Below w.heap.size w w') : Bk w' g A n c b N :=
  ⟨(bcell1 hb h.cell h.froz).1, (bcell1 hb h.cell h.froz).2, h.num.below hb⟩
theorem Bk.lt {w : World} {g n c b N : Nat} {A : Option Addr} (h : Bk w g A n c b N) : g < w.heap.size := World.block_lt_of_cell? w ⟨g, 0, none⟩ h.cell
theorem Bk.new {w : World} {n c b N : Nat} {A : Option Addr} (h : Num w b A n c N) : Bk (w.alloc (.cells #[.slice A n c] 28)) w.heap.size A n c b N :=
  ⟨by simp [go_sem], by simp [go_sem], h.alloc _⟩
def mid (X Y : Nat) (i : Nat) : Nat := if i = 1 then Y else X
theorem sum_mid (X Y : Nat) : sumN (mid X Y) 3 = X + Y + X := by simp [sumN, mid]
theorem nrow_mid {w : World} {g1 g2 n1 c1 b1 X n2 c2 b2 Y h : Nat} {A1 A2 : Option Addr} (hp : Bk w g1 A1 n1 c1 b1 X) (hq : Bk w g2 A2 n2 c2 b2 Y) (h1 : n1 ≤ 1000) (h2 : n2 ≤ 1000) (hh : h = w.heap.size) :
    NRow (w.alloc (.cells #[.slice A1 n1 c1, .slice A2 n2 c2, .slice A1 n1 c1] 28)) (some ⟨h, 0, none⟩) 3 (mid X Y) := by
  subst hh
  intro i hi
  match i, hi with
  | 0, _ => exact ⟨_, A1, n1, c1, rfl, by simp, by simp [Addr.add], (hp.num.alloc _).mono (Nat.zero_le _), by omega⟩
  | 1, _ => exact ⟨_, A2, n2, c2, rfl, by simp, by simp [Addr.add], (hq.num.alloc _).mono (Nat.zero_le _), by omega⟩
  | 2, _ => exact ⟨_, A1, n1, c1, rfl, by simp, by simp [Addr.add], (hp.num.alloc _).mono (Nat.zero_le _), by omega⟩
theorem small_mid {w : World} {n1 c1 n2 c2 h : Nat} {A1 A2 : Option Addr} (h1 : n1 ≤ 1000) (h2 : n2 ≤ 1000) (hh : h = w.heap.size) :
    ∀ i, i < 3 → ∃ a B n c, (some (⟨h, 0, none⟩ : Addr)) = some a ∧ (w.alloc (.cells #[.slice A1 n1 c1, .slice A2 n2 c2, .slice A1 n1 c1] 28)).cell? (a.add i) = some (.slice B n c) ∧ n ≤ 1000 := by
  subst hh
  intro i hi
  match i, hi with
  | 0, _ => exact ⟨_, A1, n1, c1, rfl, by simp [Addr.add], h1⟩
  | 1, _ => exact ⟨_, A2, n2, c2, rfl, by simp [Addr.add], h2⟩
  | 2, _ => exact ⟨_, A1, n1, c1, rfl, by simp [Addr.add], h1⟩
theorem natCmpZ {A A' : Option Addr} {n c n' c' M N b b' : Nat} {w : World} {z : Int} (hM : RNum w b A n c M) (hN : RNum w b' A' n' c' N) (h : cmpI M N = z) :
    Calls Try.prog 14 #[.slice A n c, .slice A' n' c'] w fun e w' => e = .returned (.int .i64 z) ∧ Below w.heap.size w w' := refCmp_is hM hN h
theorem subLess {A A' : Option Addr} {n c n' c' M N b b' : Nat} {w : World} (hM : Num w b A n c M) (hN : Num w b' A' n' c' N) (hlt : M < N) :
    Calls Try.prog 19 #[.agg #[.slice A n c], .agg #[.slice A' n' c']] w fun e w' => ∃ A1 n1 c1, e = .returned (.tuple #[.agg #[.slice A1 n1 c1], .int .i64 11]) ∧ Num w' w.heap.size A1 n1 c1 0 ∧ n1 = 0 ∧ Below w.heap.size w w' :=
  (natSub_less hM hN hlt).mono fun _ _ ⟨he, hb⟩ => ⟨none, 0, 0, he, Num.zero _ _, rfl, hb⟩
theorem addNo (c0 : Int) {A A' : Option Addr} {n c n' c' M N b b' : Nat} {w : World} (hM : Num w b A n c M) (hN : Num w b' A' n' c' N) (hn : n ≤ 100000000000) (hn' : n' ≤ 100000000000) (h : ¬ Fit c0 (M + N)) :
    Calls Try.prog 21 #[.int .i64 c0, .agg #[.slice A n c], .agg #[.slice A' n' c']] w fun e w' => ∃ A1 n1 c1, e = .returned (.tuple #[.agg #[.slice A1 n1 c1], .bool false]) ∧ Num w' w.heap.size A1 n1 c1 0 ∧ n1 ≤ max n n' + 1 ∧ Below w.heap.size w w' :=
  (capAdd_no c0 hM hN hn hn' h).mono fun _ _ ⟨he, hb⟩ => ⟨none, 0, 0, he, Num.zero _ _, by omega, hb⟩
theorem mulNo (c0 : Int) {A A' : Option Addr} {n c n' c' M N b b' : Nat} {w : World} (hM : Num w b A n c M) (hN : Num w b' A' n' c' N) (hn : n ≤ 10000000000) (hn' : n' ≤ 10000000000) (h : ¬ Fit c0 (M * N)) :
    Calls Try.prog 22 #[.int .i64 c0, .agg #[.slice A n c], .agg #[.slice A' n' c']] w fun e w' => ∃ A1 n1 c1, e = .returned (.tuple #[.agg #[.slice A1 n1 c1], .bool false]) ∧ Num w' w.heap.size A1 n1 c1 0 ∧ n1 ≤ n + n' ∧ Below w.heap.size w w' :=
  (capMul_no c0 hM hN hn hn' h).mono fun _ _ ⟨he, hb⟩ => ⟨none, 0, 0, he, Num.zero _ _, by omega, hb⟩

set_option maxRecDepth 100000 in
set_option maxHeartbeats 1000000 in
theorem natReckons_large (A B : Option Addr) (n m c c' : Nat) (x : Int) (w : World) (h : 40 < n ∨ 40 < m) :
    Calls Try.prog 4 #[.slice A n c, .slice B m c', .int .i64 x] w fun e w' => e = .returned (.bool true) ∧ Below w.heap.size w w' := by
  by_cases h1 : 40 < n
  · clear h
    go_enter Try.func4, Try.ntmps4
    go_wp2_with (first | (go_at_call 7; refine (works_any _).mono ?_; rintro e w1 ⟨rfl, hb1⟩))
    go_ret
    exact ⟨rfl, hb1⟩
  · have h2 : 40 < m := by omega
    clear h
    go_enter Try.func4, Try.ntmps4
    go_wp2_with (first | (go_at_call 7; refine (works_any _).mono ?_; rintro e w1 ⟨rfl, hb1⟩))
    go_ret
    exact ⟨rfl, hb1⟩

end Go.Proofs.Ytamknndngjoncaa
