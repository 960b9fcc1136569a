/- The laws of layer 3: what they share: limit, is, works. -/
import Derived.Test.YthcnopopkgelhaaPowG
import Derived.Test.YthcnopopkgelhaaRefQ
namespace Go.Proofs.Ythcnopopkgelhaa
open Go.RowKit

/-- The cap that the laws take. -/
def lim (c : Int) : Int := max (-3) (min c 12)
theorem lim_le (c : Int) : capN (lim c) ≤ 12 := by unfold capN lim; omega

set_option maxHeartbeats 400000 in
theorem lawLimit (c : Int) (w : World) : Calls Try.prog 6 #[.int .i64 c] w fun e w' => e = .returned (.int .i64 (lim c)) ∧ w = w' := by
  go_enter Try.func6, Try.ntmps6
  go_wp2_with fail
  go_ret
  exact ⟨rfl, rfl⟩

theorem Num.all {A : Option Addr} {n c N b : Nat} {w : World} (h : Num w b A n c N) (hn : n ≤ 1000000) :
    Calls Try.prog 16 #[.agg #[.slice A n c]] w fun e w' => ∃ A' c' l, e = .returned (.slice A' n c') ∧ Row w' w'.heap.size .u64 A' n l ∧ Dig.Below LB l ∧ Dig.val LB l = N ∧ Below w.heap.size w w' := by
  obtain ⟨l, hr, h1, h2, h3, h4⟩ := h.row
  refine (natAll A n c l w hr h4 (by omega)).mono ?_
  rintro e w' ⟨A', c', rfl, hown, hb, _⟩
  exact ⟨A', c', l, rfl, hown.row, h2, h3, hb⟩

set_option maxHeartbeats 400000 in
theorem lawIs_yes {A B : Option Addr} {n c m d N b b' : Nat} {w : World} (h : Num w b A n c N) (h' : RNum w b' B m d N) (hn : n ≤ 100000) :
    Calls Try.prog 11 #[.agg #[.slice A n c], .bool true, .slice B m d, .bool true] w fun e w' => e = .returned (.bool true) ∧ Below w.heap.size w w' := by
  have hb0 := (Below.refl w.heap.size w).alloc (Nat.le_refl _) (.cells #[.slice A n c] 29)
  have hq := (h.below hb0).all (by omega)
  have H' := Lib.hid (h'.below hb0)
  clear h h'
  go_enter Try.func11, Try.ntmps11
  go_wp2_with fail
  refine hq.mono ?_
  rintro e w1 ⟨A1, c1, l, rfl, hrow, hbl, hval, hb1⟩
  have hr := refOf A1 n c1 l w1 hrow hbl (by omega)
  rw [hval] at hr
  clear hval hq
  go_wp2_with fail
  refine hr.mono ?_
  rintro e w2 ⟨A2, n2, c2, rfl, hnum2, hn2, hb2⟩
  go_wp2_with fail
  refine (refSame hnum2 ((H'.out.below hb1).below hb2) rfl).mono ?_
  rintro e w3 ⟨rfl, hb3⟩
  go_wp2_with fail
  go_ret
  exact ⟨rfl, bthen_ (bthen_ (bthen_ hb0 hb1) hb2) hb3⟩
set_option maxHeartbeats 400000 in
theorem lawIs_no (v : Value) (w : World) :
    Calls Try.prog 11 #[.agg #[.slice none 0 0], .bool false, v, .bool false] w fun e w' => e = .returned (.bool true) ∧ Below w.heap.size w w' := by
  have hq := fun w => natLen none 0 0 w
  go_enter Try.func11, Try.ntmps11
  go_wp2_with fail
  refine (hq _).mono ?_
  rintro e w1 ⟨rfl, hb1⟩
  go_wp2_with fail
  go_ret
  exact ⟨rfl, bthen_ ((Below.refl _ _).alloc (Nat.le_refl _) _) hb1⟩

theorem two64 : (2 : Nat) ^ 64 = LB := by unfold LB; rfl
theorem fit64 : Fit 2 (2 ^ 64) := by
  unfold Fit
  rw [two64, show capN 2 = 2 from rfl]
  unfold LB
  omega
theorem fit128 : ¬ Fit 2 (2 ^ 128) := by
  unfold Fit
  rw [show (2 : Nat) ^ 128 = LB ^ 2 by unfold LB; rfl, show capN 2 = 2 from rfl]
  omega
theorem psum33 : psum 3 3 = 40 := by decide
theorem fit40 : Fit 1 (psum 3 3) := by
  rw [psum33]
  unfold Fit
  rw [show capN 1 = 1 from rfl]
  unfold LB
  omega
theorem fitOnes : ¬ Fit 1 (psum 1 18446744073709551615) := by
  rw [psum_one]
  unfold Fit
  rw [show capN 1 = 1 from rfl]
  unfold LB
  omega
theorem of_ (x : Nat) (hx : x < 1000) (w : World) : Calls Try.prog 20 #[.int .u64 x] w fun e w' => ∃ A' n' c', e = .returned (.agg #[.slice A' n' c']) ∧ Num w' w.heap.size A' n' c' x ∧ n' ≤ 1 ∧ Below w.heap.size w w' :=
  natOf x (by unfold LB; omega) w
theorem of2 (w : World) : Calls Try.prog 20 #[.int .u64 2] w fun e w' => ∃ A' n' c', e = .returned (.agg #[.slice A' n' c']) ∧ Num w' w.heap.size A' n' c' 2 ∧ n' ≤ 1 ∧ Below w.heap.size w w' := of_ 2 (by omega) w
theorem of3 (w : World) : Calls Try.prog 20 #[.int .u64 3] w fun e w' => ∃ A' n' c', e = .returned (.agg #[.slice A' n' c']) ∧ Num w' w.heap.size A' n' c' 3 ∧ n' ≤ 1 ∧ Below w.heap.size w w' := of_ 3 (by omega) w
theorem of0 (w : World) : Calls Try.prog 20 #[.int .u64 0] w fun e w' => ∃ A' n' c', e = .returned (.agg #[.slice A' n' c']) ∧ Num w' w.heap.size A' n' c' 0 ∧ n' ≤ 1 ∧ Below w.heap.size w w' := of_ 0 (by omega) w
theorem of256 (w : World) : Calls Try.prog 20 #[.int .u64 256] w fun e w' => ∃ A' n' c', e = .returned (.agg #[.slice A' n' c']) ∧ Num w' w.heap.size A' n' c' 256 ∧ n' ≤ 1 ∧ Below w.heap.size w w' := of_ 256 (by omega) w

/-- Pow, Sum of the examples, with plain numbers. -/
theorem ex64 {A : Option Addr} {n c b : Nat} {w : World} (h : Num w b A n c 2) (hn : n ≤ 1) :
    Calls Try.prog 9 #[.int .i64 2, .agg #[.slice A n c], .int .u64 64] w fun e w' => ∃ A1 c1, e = .returned (.tuple #[.agg #[.slice A1 2 c1], .bool true]) ∧ Below w.heap.size w w' := by
  refine (powPow 2 h (by omega) (m := 64) (by unfold LB; omega) (by decide)).mono ?_
  intro e w' he
  obtain ⟨A1, n1, c1, rfl, hnum, hl, hb⟩ := he.yes fit64
  have h2 : ¬ n1 ≤ capN 1 := by
    rw [hnum.fit 1]
    unfold Fit
    rw [two64, show capN 1 = 1 from rfl, Nat.pow_one]
    omega
  have e1 : capN 2 = 2 := rfl
  have e2 : capN 1 = 1 := rfl
  obtain rfl : n1 = 2 := by omega
  exact ⟨A1, c1, rfl, hb⟩
theorem ex128 {A : Option Addr} {n c b : Nat} {w : World} (h : Num w b A n c 2) (hn : n ≤ 1) :
    Calls Try.prog 9 #[.int .i64 2, .agg #[.slice A n c], .int .u64 128] w fun e w' => e = .returned (.tuple #[.agg #[.slice none 0 0], .bool false]) ∧ Below w.heap.size w w' :=
  (powPow 2 h (by omega) (m := 128) (by unfold LB; omega) (by decide)).mono fun _ _ he => he.no fit128
theorem ex40 {A : Option Addr} {n c b : Nat} {w : World} (h : Num w b A n c 3) (hn : n ≤ 1) :
    Calls Try.prog 12 #[.int .i64 1, .agg #[.slice A n c], .int .u64 3] w fun e w' => ∃ A1 n1 c1, e = .returned (.tuple #[.agg #[.slice A1 n1 c1], .bool true]) ∧ Num w' w.heap.size A1 n1 c1 40 ∧ n1 ≤ 1 ∧ Below w.heap.size w w' := by
  refine (powSum 1 h (by omega) (m := 3) (by unfold LB; omega) (by decide)).mono ?_
  intro e w' he
  obtain ⟨A1, n1, c1, rfl, hnum, hl, hb⟩ := he.yes fit40
  rw [psum33] at hnum
  exact ⟨A1, n1, c1, rfl, hnum, hl, hb⟩
theorem exOnes {A : Option Addr} {n c b : Nat} {w : World} (h : Num w b A n c 1) (hn : n ≤ 1) :
    Calls Try.prog 12 #[.int .i64 1, .agg #[.slice A n c], .int .u64 18446744073709551615] w fun e w' => e = .returned (.tuple #[.agg #[.slice none 0 0], .bool false]) ∧ Below w.heap.size w w' :=
  (powSum 1 h (by omega) (m := 18446744073709551615) (by unfold LB; omega) (by decide)).mono fun _ _ he => he.no fitOnes

theorem bits0 : nbits 0 = 0 := nbits_zero
theorem bits1 : nbits 1 = 1 := nbits_is (by decide) (by decide) (by decide)
theorem bits256 : nbits 256 = 9 := nbits_is (by decide) (by decide) (by decide)
/-- The logs of the examples. -/
def lx (j : Nat) : Nat := [0, 1, 2, 3, 256, 257].getD j 0
def ly (j : Nat) : Nat := [0, 0, 1, 2, 8, 9].getD j 0
theorem lx_lt (j : Nat) : lx j < LB := by
  have : LB = 18446744073709551616 := rfl
  unfold lx
  match j with
  | 0 | 1 | 2 | 3 | 4 | 5 => simp; omega
  | j + 6 => simp; omega
theorem logs (j : Nat) (h : j < 6) : nlog (lx j) = ly j := by
  have : j = 0 ∨ j = 1 ∨ j = 2 ∨ j = 3 ∨ j = 4 ∨ j = 5 := by omega
  rcases this with rfl | rfl | rfl | rfl | rfl | rfl
  · exact nbits_zero
  · exact nbits_zero
  · exact bits1
  · exact nbits_is (by decide) (by decide) (by decide)
  · exact nbits_is (by decide) (by decide) (by decide)
  · exact bits256

/-- A number in a box. -/
def Bx (W : World) (g : Nat) (A : Option Addr) (n c : Nat) : Prop := W.cell? ⟨g, 0, none⟩ = some (.slice A n c) ∧ W.frozen? ⟨g, 0, none⟩ = false
theorem Bx.step {W W' : World} {g n c : Nat} {A : Option Addr} (h : Bx W g A n c) (hb : Below W.heap.size W W') : Bx W' g A n c := bcell1 hb h.1 h.2
theorem Bx.new (W : World) (A : Option Addr) (n c : Nat) : Bx (W.alloc (.cells #[.slice A n c] 29)) W.heap.size A n c := ⟨cell_new _ _ _, frozen_new _ _ _⟩
/-- The tables of the examples. -/
def tabX : Obj := .cells #[.int .u64 0, .int .u64 1, .int .u64 2, .int .u64 3, .int .u64 256, .int .u64 257] 23
def tabY : Obj := .cells #[.int .u64 0, .int .u64 0, .int .u64 1, .int .u64 2, .int .u64 8, .int .u64 9] 23
theorem tab_cell (W : World) (j : Nat) (h : j < 6) : (W.alloc (.cells #[.int .u64 0, .int .u64 1, .int .u64 2, .int .u64 3, .int .u64 256, .int .u64 257] 23)).cell? ⟨W.heap.size, j, none⟩ = some (.int .u64 (lx j : Nat)) ∧
    (W.alloc (.cells #[.int .u64 0, .int .u64 0, .int .u64 1, .int .u64 2, .int .u64 8, .int .u64 9] 23)).cell? ⟨W.heap.size, j, none⟩ = some (.int .u64 (ly j : Nat)) := by
  have : j = 0 ∨ j = 1 ∨ j = 2 ∨ j = 3 ∨ j = 4 ∨ j = 5 := by omega
  rcases this with rfl | rfl | rfl | rfl | rfl | rfl <;> exact ⟨by simp [go_sem, lx], by simp [go_sem, ly]⟩

theorem tab_get (j : Nat) (h : j < 6) : (∀ q, ([.int .u64 0, .int .u64 1, .int .u64 2, .int .u64 3, .int .u64 256, .int .u64 257] : List Value)[j]'q = .int .u64 (lx j : Nat)) ∧
    (∀ q, ([.int .u64 0, .int .u64 0, .int .u64 1, .int .u64 2, .int .u64 8, .int .u64 9] : List Value)[j]'q = .int .u64 (ly j : Nat)) := by
  have : j = 0 ∨ j = 1 ∨ j = 2 ∨ j = 3 ∨ j = 4 ∨ j = 5 := by omega
  rcases this with rfl | rfl | rfl | rfl | rfl | rfl <;> exact ⟨fun _ => by simp [lx], fun _ => by simp [ly]⟩

theorem below_new_ (W : World) (o : Obj) : Below W.heap.size W (W.alloc o) := (Below.refl _ _).alloc (Nat.le_refl _) o

theorem below_two_ (W : World) (a b : Obj) : Below W.heap.size W ((W.alloc a).alloc b) := ((Below.refl _ _).alloc (Nat.le_refl _) a).alloc (by simp) b
theorem size_two (W : World) (a b : Obj) : W.heap.size < ((W.alloc a).alloc b).heap.size := by simp; omega
theorem keep_new {W : World} {g j : Nat} {v : Value} (h : W.cell? ⟨g, j, none⟩ = some v) (o : Obj) : (W.alloc o).cell? ⟨g, j, none⟩ = some v :=
  ((below_new_ W o).cell (p := ⟨g, j, none⟩) (World.block_lt_of_cell? W ⟨g, j, none⟩ h)).trans h
theorem cell_past {W W' : World} {g j : Nat} {v : Value} (hb : Below W.drew.heap.size W.drew W') (h : W.cell? ⟨g, j, none⟩ = some v) : W'.cell? ⟨g, j, none⟩ = some v :=
  (hb.cell (p := ⟨g, j, none⟩) (World.block_lt_of_cell? W ⟨g, j, none⟩ h)).trans h
theorem cell_on {W W' : World} {g j : Nat} {v : Value} (hb : Below W.heap.size W W') (h : W.cell? ⟨g, j, none⟩ = some v) : W'.cell? ⟨g, j, none⟩ = some v :=
  (hb.cell (p := ⟨g, j, none⟩) (World.block_lt_of_cell? W ⟨g, j, none⟩ h)).trans h
theorem logAt {A : Option Addr} {n c N b y : Nat} {w : World} (h : Num w b A n c N) (hn : n ≤ 100000) (hy : Hid (nlog N = y)) :
    Calls Try.prog 21 #[.agg #[.slice A n c]] w fun e w' => e = .returned (.int .u64 (y : Int)) ∧ Below w.heap.size w w' := by
  have := powLog h hn
  rw [hy.out] at this
  exact this
theorem bx_step {w W W' : World} {g n c : Nat} {A : Option Addr} (h : Bx W g A n c ∧ Below w.heap.size w W) (hb : Below W.heap.size W W') : Bx W' g A n c ∧ Below w.heap.size w W' := ⟨h.1.step hb, bthen_ h.2 hb⟩

set_option maxHeartbeats 4000000 in
set_option maxRecDepth 100000 in
theorem works_any (w : World) : Calls Try.prog 5 #[] w fun e w' => e = .returned (.bool true) ∧ Below w.heap.size w w' := by
  go_enter Try.func5, Try.ntmps5
  go_wp2_with fail
  refine (of2 _).mono ?_
  rintro e w1 ⟨A1, n1, c1, rfl, hnum1, hn1, hb1⟩
  go_wp2_with fail
  refine (ex64 hnum1 hn1).mono ?_
  rintro e w2 ⟨A2, c2, rfl, hb2⟩
  have hbw2 := bthen_ hb1 hb2
  clear hb1 hb2 hnum1
  go_wp2_with fail
  have ha := Bx.new w2 A2 2 c2
  have hbW := bthen_ hbw2 (below_new_ w2 (.cells #[.slice A2 2 c2] 29))
  generalize w2.alloc (.cells #[.slice A2 2 c2] 29) = W2 at *
  generalize w2.heap.size = ga at *
  clear hbw2
  refine (of2 _).mono ?_
  rintro e w3 ⟨A3, n3, c3, rfl, hnum3, hn3, hb3⟩
  go_wp2_with fail
  refine (ex128 hnum3 hn3).mono ?_
  rintro e w4 ⟨rfl, hb4⟩
  have ha4 := (ha.step hb3).step hb4
  have hbw4 := bthen_ (bthen_ hbW hb3) hb4
  clear ha hbW hb3 hb4 hnum3
  go_wp2_with fail
  have ha5 := ha4.step (below_new_ w4 (.cells #[.slice none 0 0] 29))
  have hbw5 := bthen_ hbw4 (below_new_ w4 (.cells #[.slice none 0 0] 29))
  generalize w4.alloc (.cells #[.slice none 0 0] 29) = W5 at *
  generalize w4.heap.size = gq at *
  clear ha4 hbw4
  refine (of3 _).mono ?_
  rintro e w6 ⟨A6, n6, c6, rfl, hnum6, hn6, hb6⟩
  go_wp2_with fail
  refine (ex40 hnum6 hn6).mono ?_
  rintro e w7 ⟨A7, n7, c7, rfl, hnum7, hn7, hb7⟩
  have ha7 := (ha5.step hb6).step hb7
  have hbw7 := bthen_ (bthen_ hbw5 hb6) hb7
  clear ha5 hbw5 hb6 hb7 hnum6
  go_wp2_with fail
  have ha8 := ha7.step (below_new_ w7 (.cells #[.slice A7 n7 c7] 29))
  have hx8 := Bx.new w7 A7 n7 c7
  have hbw8 := bthen_ hbw7 (below_new_ w7 (.cells #[.slice A7 n7 c7] 29))
  have hnum8 := hnum7.alloc (.cells #[.slice A7 n7 c7] 29)
  generalize w7.alloc (.cells #[.slice A7 n7 c7] 29) = W8 at *
  generalize w7.heap.size = gb at *
  clear ha7 hbw7 hnum7
  refine (of1 _).mono ?_
  rintro e w9 ⟨A9, n9, c9, rfl, hnum9, hn9, hb9⟩
  go_wp2_with fail
  refine (exOnes hnum9 hn9).mono ?_
  rintro e w10 ⟨rfl, hb10⟩
  have ha10 := (ha8.step hb9).step hb10
  have hx10 := (hx8.step hb9).step hb10
  have hbw10 := bthen_ (bthen_ hbw8 hb9) hb10
  have hnum10 := (hnum8.below hb9).below hb10
  clear ha8 hx8 hbw8 hnum8 hb9 hb10 hnum9
  have ha11 := ha10.step (below_new_ w10 (.cells #[.slice none 0 0] 29))
  have hx11 := hx10.step (below_new_ w10 (.cells #[.slice none 0 0] 29))
  have hbw11 := bthen_ hbw10 (below_new_ w10 (.cells #[.slice none 0 0] 29))
  have hnum11 := hnum10.alloc (.cells #[.slice none 0 0] 29)
  clear ha10 hx10 hbw10 hnum10
  have hbc := hx11.1
  go_wp2_with fail
  generalize w10.alloc (.cells #[.slice none 0 0] 29) = W11 at *
  generalize w10.heap.size = gr at *
  refine (natSmall_yes A7 n7 c7 40 _ _ hnum11 hn7).mono ?_
  rintro e w12 ⟨rfl, hb12⟩
  have ha12 := ha11.step hb12
  have hbw12 := bthen_ hbw11 hb12
  clear ha11 hx11 hbw11 hnum11 hb12 hbc
  have hst0 : Hid (Bx w12 ga A2 2 c2 ∧ Below w.heap.size w w12) := ⟨ha12, hbw12⟩
  clear ha12 hbw12
  go_wp2_with fail
  go_loopw [11] (fun i wr => ∃ j : Nat, j ≤ 6 ∧ i = .int .i64 j ∧ Hid (Bx wr ga A2 2 c2 ∧ Below w.heap.size w wr)) (fun i _ => 6 - (intOf i).toNat)
  case atStart => exact ⟨0, by omega, rfl, hst0⟩
  case round =>
    obtain ⟨j, hj, rfl, hst⟩ := hrel
    clear hst0
    by_cases hlt : j < 6
    · have hlt' : (j : Int) < 6 := by omega
      have hX := fun W => (tab_cell W j hlt).1
      have hY := fun W => (tab_cell W j hlt).2
      obtain ⟨hgX, hgY⟩ := tab_get j hlt
      have hlg := logs j hlt
      have hlg := Lib.hid hlg
      have hst := Lib.hid hst
      have hoX := (below_new_ wr (.cells #[.int .u64 0, .int .u64 1, .int .u64 2, .int .u64 3, .int .u64 256, .int .u64 257] 23)).drew
      have hoXY := (below_two_ wr (.cells #[.int .u64 0, .int .u64 1, .int .u64 2, .int .u64 3, .int .u64 256, .int .u64 257] 23) (.cells #[.int .u64 0, .int .u64 0, .int .u64 1, .int .u64 2, .int .u64 8, .int .u64 9] 23)).drew
      have hoYX := (below_two_ wr (.cells #[.int .u64 0, .int .u64 0, .int .u64 1, .int .u64 2, .int .u64 8, .int .u64 9] 23) (.cells #[.int .u64 0, .int .u64 1, .int .u64 2, .int .u64 3, .int .u64 256, .int .u64 257] 23)).drew
      have hYx := (tab_cell (wr.alloc (.cells #[.int .u64 0, .int .u64 1, .int .u64 2, .int .u64 3, .int .u64 256, .int .u64 257] 23)) j hlt).2
      rw [show (wr.alloc (.cells #[.int .u64 0, .int .u64 1, .int .u64 2, .int .u64 3, .int .u64 256, .int .u64 257] 23)).heap.size = wr.heap.size + 1 by simp] at hYx
      have hYy := keep_new (tab_cell wr j hlt).2 (.cells #[.int .u64 0, .int .u64 1, .int .u64 2, .int .u64 3, .int .u64 256, .int .u64 257] 23)
      go_wp2_with fail
      go_region_with
        (first
          | (go_at_call 20
             with_reducible refine (natOf (lx j) ?h1 (wr.alloc (.cells #[.int .u64 0, .int .u64 1, .int .u64 2, .int .u64 3, .int .u64 256, .int .u64 257] 23)).drew).mono ?_
             case h1 => exact lx_lt j
             rintro e w2 ⟨Pw2, nw2, cw2, rfl, hnw2, hlw2, hbw2⟩
             have hBw2 := hoX.trans (hbw2.mono (Nat.le_of_lt (size_new wr _))))
          | (go_at_call 20
             with_reducible refine (natOf (lx j) ?h1 ((wr.alloc (.cells #[.int .u64 0, .int .u64 1, .int .u64 2, .int .u64 3, .int .u64 256, .int .u64 257] 23)).alloc (.cells #[.int .u64 0, .int .u64 0, .int .u64 1, .int .u64 2, .int .u64 8, .int .u64 9] 23)).drew).mono ?_
             case h1 => exact lx_lt j
             rintro e x2 ⟨Px2, nx2, cx2, rfl, hnx2, hlx2, hbx2⟩
             have hBx2 := hoXY.trans (hbx2.mono (Nat.le_of_lt (size_two wr _ _)))
             have hyx2 := cell_past hbx2 hYx)
          | (go_at_call 20
             with_reducible refine (natOf (lx j) ?h1 ((wr.alloc (.cells #[.int .u64 0, .int .u64 0, .int .u64 1, .int .u64 2, .int .u64 8, .int .u64 9] 23)).alloc (.cells #[.int .u64 0, .int .u64 1, .int .u64 2, .int .u64 3, .int .u64 256, .int .u64 257] 23)).drew).mono ?_
             case h1 => exact lx_lt j
             rintro e y2 ⟨Py2, ny2, cy2, rfl, hny2, hly2, hby2⟩
             have hBy2 := hoYX.trans (hby2.mono (Nat.le_of_lt (size_two wr _ _)))
             have hyy2 := cell_past hby2 hYy)
          | (go_at_call 21
             with_reducible refine (logAt (w := w2) hnw2 ?h1 hlg).mono ?_
             case h1 => omega
             rintro e w3 ⟨rfl, hbw3⟩
             have hBw3 := hBw2.trans (hbw3.mono hBw2.size))
          | (go_at_call 21
             with_reducible refine (logAt (w := w2.alloc _) (hnw2.alloc _) ?h1 hlg).mono ?_
             case h1 => omega
             rintro e v3 ⟨rfl, hbv3⟩
             have hBv3 := (hBw2.alloc hBw2.size (.cells #[.int .u64 0, .int .u64 0, .int .u64 1, .int .u64 2, .int .u64 8, .int .u64 9] 23)).trans (hbv3.mono (Nat.le_trans hBw2.size (Nat.le_of_lt (size_new w2 _))))
             have hyv3 := cell_on hbv3 (hY w2))
          | (go_at_call 21
             with_reducible refine (logAt (w := x2) hnx2 ?h1 hlg).mono ?_
             case h1 => omega
             rintro e x3 ⟨rfl, hbx3⟩
             have hBx3 := hBx2.trans (hbx3.mono hBx2.size)
             have hyx3 := cell_on hbx3 hyx2)
          | (go_at_call 21
             with_reducible refine (logAt (w := y2) hny2 ?h1 hlg).mono ?_
             case h1 => omega
             rintro e y3 ⟨rfl, hby3⟩
             have hBy3 := hBy2.trans (hby3.mono hBy2.size)
             have hyy3 := cell_on hby3 hyy2))
      all_goals
        (first
          | have hfin : Hid (Bx w3 ga A2 2 c2 ∧ Below w.heap.size w w3) := bx_step hst.out hBw3
            have hfin2 : Hid (∀ o, Bx (w3.alloc o) ga A2 2 c2 ∧ Below w.heap.size w (w3.alloc o)) := fun o => bx_step hst.out (hBw3.alloc hBw3.size o)
          | have hfin : Hid (Bx v3 ga A2 2 c2 ∧ Below w.heap.size w v3) := bx_step hst.out hBv3
          | have hfin : Hid (Bx x3 ga A2 2 c2 ∧ Below w.heap.size w x3) := bx_step hst.out hBx3
          | have hfin : Hid (Bx y3 ga A2 2 c2 ∧ Below w.heap.size w y3) := bx_step hst.out hBy3)
      all_goals
        (go_wp2_with fail
         first
           | exact ⟨⟨j + 1, by omega, by go_num, hfin⟩, by simp [intOf]; omega⟩
           | exact ⟨⟨j + 1, by omega, by go_num, hfin2.out _⟩, by simp [intOf]; omega⟩)
    · obtain rfl : j = 6 := by omega
      have ha13 := hst.out.1
      have hac := ha13.1
      have hl := fun w => natLen A2 2 c2 w
      go_wp2_with fail
      refine (hl _).mono ?_
      rintro e w14 ⟨rfl, hb14⟩
      have hbw14 := bthen_ hst.out.2 hb14
      go_wp2_with fail
      refine (of0 _).mono ?_
      rintro e w15 ⟨A15, n15, c15, rfl, hnum15, hn15, hb15⟩
      go_wp2_with fail
      have hq := powBits hnum15 (by omega)
      rw [bits0] at hq
      refine hq.mono ?_
      rintro e w16 ⟨rfl, hb16⟩
      have hbw16 := bthen_ (bthen_ hbw14 hb15) hb16
      clear hbw14 hb15 hb16 hnum15 hq
      go_wp2_with fail
      refine (of1 _).mono ?_
      rintro e w17 ⟨A17, n17, c17, rfl, hnum17, hn17, hb17⟩
      go_wp2_with fail
      have hq := powBits hnum17 (by omega)
      rw [bits1] at hq
      refine hq.mono ?_
      rintro e w18 ⟨rfl, hb18⟩
      have hbw18 := bthen_ (bthen_ hbw16 hb17) hb18
      clear hbw16 hb17 hb18 hnum17 hq
      go_wp2_with fail
      refine (of256 _).mono ?_
      rintro e w19 ⟨A19, n19, c19, rfl, hnum19, hn19, hb19⟩
      go_wp2_with fail
      have hq := powBits hnum19 (by omega)
      rw [bits256] at hq
      refine hq.mono ?_
      rintro e w20 ⟨rfl, hb20⟩
      have hbw20 := bthen_ (bthen_ hbw18 hb19) hb20
      clear hbw18 hb19 hb20 hnum19 hq
      go_wp2_with fail
      go_ret
      exact ⟨rfl, hbw20⟩
end Go.Proofs.Ythcnopopkgelhaa
