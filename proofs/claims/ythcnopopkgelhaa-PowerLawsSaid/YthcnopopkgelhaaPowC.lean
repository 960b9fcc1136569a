/- The contracts of power's Log and Two. -/
import Derived.Test.YthcnopopkgelhaaPowB
namespace Go.Proofs.Ythcnopopkgelhaa
open Go.RowKit

/-- One less, or 0. -/
theorem natPred {A A' : Option Addr} {n c n' c' N b b' : Nat} {w : World} (hM : Num w b A n c N) (hN : Num w b' A' n' c' 1) (hn : n ≤ 1000000) (hn' : n' ≤ 1) :
    Calls Try.prog 50 #[.agg #[.slice A n c], .agg #[.slice A' n' c']] w fun e w' =>
      ∃ (A1 : Option Addr) (n1 c1 : Nat) (z : Int), e = .returned (.tuple #[.agg #[.slice A1 n1 c1], .int .i64 z]) ∧ Num w' w.heap.size A1 n1 c1 (N - 1) ∧ n1 ≤ n + 2 ∧ Below w.heap.size w w' := by
  rcases Nat.eq_zero_or_pos N with h | h
  · refine (natSub_less hM hN (by omega)).mono ?_
    rintro e w' ⟨rfl, hb⟩
    subst h
    exact ⟨none, 0, 0, 11, rfl, Num.zero _ _, by omega, hb⟩
  · refine (natSub hM hN h (by omega) (by omega)).mono ?_
    rintro e w' ⟨A1, n1, c1, rfl, hnum, hl, hb⟩
    exact ⟨A1, n1, c1, 0, rfl, hnum, by omega, hb⟩

theorem of1 (w : World) : Calls Try.prog 20 #[.int .u64 1] w fun e w' => ∃ A' n' c', e = .returned (.agg #[.slice A' n' c']) ∧ Num w' w.heap.size A' n' c' 1 ∧ n' ≤ 1 ∧ Below w.heap.size w w' := natOf 1 (by unfold LB; omega) w

theorem size_new (W : World) (o : Obj) : W.heap.size < (W.alloc o).heap.size := by simp
theorem cell_new (W : World) (v : Value) (T : TypeId) : (W.alloc (.cells #[v] T)).cell? ⟨W.heap.size, 0, none⟩ = some v := by simp [go_sem]
theorem frozen_new (W : World) (v : Value) (T : TypeId) : (W.alloc (.cells #[v] T)).frozen? ⟨W.heap.size, 0, none⟩ = false := by simp [go_sem]

set_option maxHeartbeats 400000 in
theorem powLog {A : Option Addr} {n c N b : Nat} {w : World} (h : Num w b A n c N) (hn : n ≤ 100000) :
    Calls Try.prog 21 #[.agg #[.slice A n c]] w fun e w' => e = .returned (.int .u64 ((nlog N : Nat) : Int)) ∧ Below w.heap.size w w' := by
  have hbx : Below w.heap.size w (w.alloc (.cells #[.slice A n c] 29)) := (Below.refl _ _).alloc (Nat.le_refl _) _
  have hnx := h.below hbx
  have hcx : (w.alloc (.cells #[.slice A n c] 29)).cell? ⟨w.heap.size, 0, none⟩ = some (.slice A n c) := by simp [go_sem]
  have hfx : (w.alloc (.cells #[.slice A n c] 29)).frozen? ⟨w.heap.size, 0, none⟩ = false := by simp [go_sem]
  have hsx : w.heap.size ≤ (w.alloc (.cells #[.slice A n c] 29)).heap.size := by simp
  clear h
  go_enter Try.func21, Try.ntmps21
  go_wp2_with fail
  generalize w.alloc (.cells #[.slice A n c] 29) = W at *
  have hd0 : Below W.heap.size W W.drew := (Below.refl _ _).drew
  have hnd := hnx.below hd0
  obtain ⟨hcd, hfd⟩ := bcell1 hd0 hcx hfx
  have hbd := hbx.drew
  have hsd : w.heap.size ≤ W.drew.heap.size := hsx
  clear hd0
  have hw0 : w.heap.size < W.drew.heap.size := World.block_lt_of_cell? W.drew ⟨w.heap.size, 0, none⟩ hcd
  have hw1 : w.heap.size < W.heap.size := hw0
  have hD1 := fun o => (Below.refl W.drew.heap.size W.drew).alloc (Nat.le_refl _) o
  have ka1 := fun o => bcell1 (hD1 o) hcd hfd
  go_region_held3 (fun w' => w'.cell? ⟨w.heap.size, 0, none⟩ = some (.slice A n c)) (first | exact hcd | exact (ka1 _).1 | exact hc2 | exact (ka2 _).1 | exact ic2 | exact hc3 | exact (ka3 _).1 | exact jc3 | exact kc3 | exact (World.cell?_setCell_other _ _ _ _ (fun e => by injection e; omega)).trans jc3 | exact (World.cell?_setCell_other _ _ _ _ (fun e => by injection e; omega)).trans kc3)
    (first
      | (go_at_call 20
         with_reducible refine (of1 W.drew).mono ?_
         rintro e w2 ⟨A2, n2, c2, rfl, hnum2, hn2, hb2⟩
         have hn2t := hnd.below hb2
         have hcf2 := bcell1 hb2 hcd hfd
         have hc2 := hcf2.1
         have hf2 := hcf2.2
         have hs2 : w.heap.size < w2.heap.size := World.block_lt_of_cell? w2 ⟨w.heap.size, 0, none⟩ hc2
         have hD2 := fun o => (Below.refl w2.heap.size w2).alloc (Nat.le_refl _) o
         have ka2 := fun o => bcell1 (hD2 o) hc2 hf2
         have hbw2 := hbd.trans (hb2.mono (Nat.le_of_lt hw0)))
      | (go_at_call 50
         with_reducible refine (natPred (w := w2) hn2t hnum2 ?h1 ?h2).mono ?_
         case h1 => omega
         case h2 => omega
         rintro e w3 ⟨A3, n3, c3, z3, rfl, hnum3, hn3, hb3⟩
         have hcf3 := bcell1 hb3 hc2 hf2
         have hc3 := hcf3.1
         have hf3 := hcf3.2
         have hs3 : w.heap.size < w3.heap.size := World.block_lt_of_cell? w3 ⟨w.heap.size, 0, none⟩ hc3
         have ka3 := fun o => bcell1 ((Below.refl w3.heap.size w3).alloc (Nat.le_refl _) o) hc3 hf3
         have hbw3 := hbw2.trans (hb3.mono (Nat.le_of_lt hs2)))
      | (go_at_call 50
         with_reducible refine (natPred (w := w2.alloc _) (hn2t.alloc _) (hnum2.alloc _) ?h1 ?h2).mono ?_
         case h1 => omega
         case h2 => omega
         rintro e y3 ⟨A3, n3, c3, z3, rfl, jnum3, hn3, jb3⟩
         have jB3 := (hD2 (.cells #[.slice none 0 0] 29)).trans (jb3.mono (Nat.le_of_lt (size_new _ _)))
         have jcf3 := bcell1 jB3 hc2 hf2
         have jc3 := jcf3.1
         have jf3 := jcf3.2
         have jmx := bcell1 jb3 (cell_new w2 _ _) (frozen_new w2 _ _)
         have jm1 := jmx.1
         have jm2 := jmx.2
         have js3 : w2.heap.size < y3.heap.size := World.block_lt_of_cell? y3 ⟨w2.heap.size, 0, none⟩ jm1
         have jbw3 := hbw2.trans (jB3.mono (Nat.le_of_lt hs2)))
      | (go_at_call 50
         with_reducible refine (natPred (w := x2) in2t inum2 ?h1 ?h2).mono ?_
         case h1 => omega
         case h2 => omega
         rintro e z4 ⟨A3, n3, c3, z3, rfl, knum3, hn3, kb3⟩
         have kcf3 := bcell1 kb3 ic2 if2
         have kc3 := kcf3.1
         have kf3 := kcf3.2
         have kmx := bcell1 kb3 im1 im2
         have km1 := kmx.1
         have km2 := kmx.2
         have ks3 : W.heap.size < z4.heap.size := World.block_lt_of_cell? z4 ⟨W.heap.size, 0, none⟩ km1
         have kbw3 := ibw2.trans (kb3.mono (by omega)))
      | (go_at_call 20
         with_reducible refine (of1 (W.alloc _).drew).mono ?_
         rintro e x2 ⟨A2, n2, c2, rfl, inum2, hn2, ib2⟩
         have iB2 := (((Below.refl W.heap.size W).alloc (Nat.le_refl _) (.cells #[.slice none 0 0] 29)).drew).trans (ib2.mono (Nat.le_of_lt (size_new W _)))
         have in2t := hnx.below iB2
         have icf2 := bcell1 iB2 hcx hfx
         have ic2 := icf2.1
         have if2 := icf2.2
         have imx := bcell1 ib2 (b := W.heap.size) (o := 0) (cell_new W _ _) (frozen_new W _ _)
         have im1 := imx.1
         have im2 := imx.2
         have is2 : W.heap.size < x2.heap.size := World.block_lt_of_cell? x2 ⟨W.heap.size, 0, none⟩ im1
         have ibw2 := hbx.trans (iB2.mono hsx)))
  all_goals
    (go_wp2_with fail
     first
       | (refine (powBits (hnum3.alloc _) (by omega)).mono ?_
          rintro e w4 ⟨rfl, hb4⟩
          have hfin := (hbw3.alloc hbw3.size _).trans (hb4.mono (by simp; omega)))
       | (refine (powBits (jnum3.setCell (p := ⟨w2.heap.size, 0, none⟩) (size_new w2 _) _) (by omega)).mono ?_
          rintro e w4 ⟨rfl, hb4⟩
          have hfin := (jbw3.setCell (p := ⟨w2.heap.size, 0, none⟩) (Nat.le_of_lt hs2) _).trans (hb4.mono (by simp [World.setCell]; omega)))
       | (refine (powBits (knum3.setCell (p := ⟨W.heap.size, 0, none⟩) is2 _) (by omega)).mono ?_
          rintro e w4 ⟨rfl, hb4⟩
          have hfin := (kbw3.setCell (p := ⟨W.heap.size, 0, none⟩) (Nat.le_of_lt hw1) _).trans (hb4.mono (by simp [World.setCell]; omega)))
     go_wp2_with fail
     go_ret
     exact ⟨rfl, hfin⟩)


set_option maxHeartbeats 400000 in
theorem powTwo_no (c0 : Int) (n : Nat) (hn : n < LB) (h : capN c0 ≤ n / 64) (hc : capN c0 ≤ 1000) (w : World) :
    Calls Try.prog 14 #[.int .i64 c0, .int .u64 n] w fun e w' => e = .returned (.tuple #[.agg #[.slice none 0 0], .bool false]) ∧ Below w.heap.size w w' := by
  have hr := fun w => reaches_no c0 n h hc hn w
  clear h hc
  go_enter Try.func14, Try.ntmps14
  go_wp2_with (first | (go_at_call 42; refine (hr _).mono ?_; rintro e w' ⟨rfl, rfl⟩))
  refine bodyPost_ret (v := .tuple #[.agg #[.slice none 0 0], .bool false]) (by simp [results, Try.results14, go_sem]) rfl ?_
  exact ⟨rfl, by first | exact ((Below.refl _ _).alloc (Nat.le_refl _) _) | exact ((Below.refl _ _).alloc (Nat.le_refl _) _).setCell (Nat.le_refl _) _⟩

theorem val_two (q r : Nat) : Dig.val LB ((List.replicate (q + 1) 0).set q (2 ^ r)) = 2 ^ (64 * q + r) := by
  have h := Dig.val_set LB (List.replicate (q + 1) 0) (2 ^ r) q (by simp)
  rw [Dig.val_zeros, Dig.at_lt (by simp)] at h
  simp only [List.getElem_replicate, Nat.mul_zero, Nat.add_zero, Nat.zero_add] at h
  rw [h, LB_pow, ← Nat.pow_add]

theorem run_mkU64u (n : Nat) (hn : n * 8 ≤ 281474976710656) (u : World) : (Instr.makeSlice 22 (.int .u64 n) (.int .u64 n)).run Try.prog u =
    .ok (.slice (some ⟨u.heap.size, 0, none⟩) n n) (u.alloc (.cells (ints .u64 (List.replicate n 0)).toArray 23)) := by
  obtain ⟨i0, hi, hz0, hz1, hz2⟩ := info_parts info_u64
  have h := run_make (P := Try.prog) u 22 23 i0 (.int .u64 0) Try.underlying22 hi hz0 .u64 .u64 n n (by omega) (Int.le_refl _) (by rw [hz2]; omega) (by omega)
  rw [h, ints_zeros, hz1]
  simp [Value.cells, madeCells_one]

set_option maxHeartbeats 400000 in
theorem powTwo_yes (c0 : Int) (n : Nat) (hn : n < LB) (h : n / 64 < capN c0) (hc : capN c0 ≤ 1000) (w : World) :
    Calls Try.prog 14 #[.int .i64 c0, .int .u64 n] w fun e w' => ∃ A1 n1 c1, e = .returned (.tuple #[.agg #[.slice A1 n1 c1], .bool true]) ∧ Num w' w.heap.size A1 n1 c1 (2 ^ n) ∧ n1 ≤ 1001 ∧ Below w.heap.size w w' := by
  have hr := fun w => reaches_yes c0 n h hc hn w
  obtain ⟨q, hq⟩ : ∃ q, q = n / 64 := ⟨_, rfl⟩
  obtain ⟨r, hr0⟩ : ∃ r, r = n % 64 := ⟨_, rfl⟩
  have hq1 : q < 1000 := by omega
  have hr1 : r < 64 := by omega
  have hqd : (n : Int) / 64 = (q : Int) := by omega
  have hrd : (n : Int) % 64 = (r : Int) := by omega
  have hwq := divs hn
  rw [hqd] at hwq
  have hwq1 : IntKind.u64.wrap ((q : Int) + 1) = (q : Int) + 1 := by have := wrap_nat (a := q) (b := 1) (s := q + 1) rfl (by unfold LB; omega); simpa using this
  have hwr : IntKind.u64.wrap (r : Int) = (r : Int) := by have := wrap_nat (a := r) (b := 0) (s := r) rfl (by unfold LB; omega); simpa using this
  have hmk := fun u => run_mkU64u (q + 1) (by omega) u
  rw [show ((q + 1 : Nat) : Int) = (q : Int) + 1 by omega] at hmk
  have hblk := Blk.made (w.alloc (.cells #[.slice none 0 0] 29)) 23 (q + 1) .u64
  rw [show (w.alloc (.cells #[.slice none 0 0] 29)).heap.size = w.heap.size + 1 by simp] at hblk
  have hc1 := hblk.cell (i := q) (by simp)
  have hf1 := hblk.frozen q
  have hp : (2 : Nat) ^ r < LB := by
    have := Nat.pow_lt_pow_right (a := 2) (by omega) hr1
    have e : LB = 2 ^ 64 := by unfold LB; rfl
    omega
  have hw2 : IntKind.u64.wrap ((2 : Int) ^ r) = (2 : Int) ^ r := by
    have := wrap_nat (a := 2 ^ r) (b := 0) (s := 2 ^ r) rfl hp
    simpa using this
  have hset := ints_set .u64 (List.replicate (q + 1) 0) q (2 ^ r)
  rw [show ((2 ^ r : Nat) : Int) = (2 : Int) ^ r by simp] at hset
  have hset := Lib.hid hset
  have hnb : ∀ W : World, Blk (W.alloc (.cells (ints .u64 ((List.replicate (q + 1) 0).set q (2 ^ r))).toArray 23)) W.heap.size 23 .u64 ((List.replicate (q + 1) 0).set q (2 ^ r)) := fun W => heap_alloc_new W _
  have hp := Lib.hid hp
  clear hblk
  have hval := Lib.hid (val_two q r)
  rw [show 64 * q + r = n by omega] at hval
  clear h hc hq hr0
  go_enter Try.func14, Try.ntmps14
  go_wp2_with (first | (go_at_call 42; refine (hr _).mono ?_; rintro e w' ⟨rfl, rfl⟩))
  try rw [hset.out]
  have hbb := ((Below.refl w.heap.size w).alloc (Nat.le_refl _) (.cells #[.slice none 0 0] 29)).alloc (by simp) (.cells (ints .u64 ((List.replicate (q + 1) 0).set q (2 ^ r))).toArray 23)
  have hrow := (hnb (w.alloc (.cells #[.slice none 0 0] 29))).row
  rw [List.length_set, List.length_replicate, show (w.alloc (.cells #[.slice none 0 0] 29)).heap.size = w.heap.size + 1 by simp] at hrow
  have hbl : Dig.Below LB ((List.replicate (q + 1) 0).set q (2 ^ r)) := Dig.Below.set (fun x hx => by rw [List.eq_of_mem_replicate hx]; exact LB_pos) q hp.out
  have hrc : ((w.alloc (.cells #[.slice none 0 0] 29)).alloc (.cells (ints .u64 ((List.replicate (q + 1) 0).set q (2 ^ r))).toArray 23)).cell? ⟨w.heap.size, 0, none⟩ = some (.slice none 0 0) := by simp [go_sem]
  have hrf : ((w.alloc (.cells #[.slice none 0 0] 29)).alloc (.cells (ints .u64 ((List.replicate (q + 1) 0).set q (2 ^ r))).toArray 23)).frozen? ⟨w.heap.size, 0, none⟩ = false := by simp [go_sem]
  have hsz : w.heap.size + 2 = ((w.alloc (.cells #[.slice none 0 0] 29)).alloc (.cells (ints .u64 ((List.replicate (q + 1) 0).set q (2 ^ r))).toArray 23)).heap.size := by simp
  refine (natLimbs _ (q + 1) (q + 1) _ _ hrow hbl (Nat.le_refl _) (by unfold maxLen; omega) (by omega)).mono ?_
  rintro e w1 ⟨A1, n1, c1, rfl, hnum, hl1, hb1⟩
  rw [hval.out] at hnum
  rw [← hsz] at hnum hb1
  obtain ⟨hd1, he1⟩ := bcell1 (hsz ▸ hb1) hrc hrf
  clear hrc hrf
  go_wp2_with fail
  refine bodyPost_ret (v := .tuple #[.agg #[.slice A1 n1 c1], .bool true]) (by simp [results, Try.results14, go_sem, hd1]) rfl ?_
  exact ⟨A1, n1, c1, rfl, (hnum.setCell (p := ⟨w.heap.size, 0, none⟩) (by simp) _).mono (by omega), by omega, (hbb.trans (hb1.mono (by omega))).setCell (Nat.le_refl _) _⟩
end Go.Proofs.Ythcnopopkgelhaa
