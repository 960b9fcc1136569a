/- The contract of nat's Max. -/
import Derived.Test.YtamknndngjoncaaNatF
import Derived.Test.YtamknndngjoncaaRefC
namespace Go.Proofs.Ytamknndngjoncaa
open Go.RowKit

/-- A row of numbers in memory: k of them, each below block number w.heap.size. -/
def NRow (w : World) (A : Option Addr) (k : Nat) (N : Nat → Nat) : Prop :=
  ∀ i, i < k → ∃ a B n c, A = some a ∧ a.block < w.heap.size ∧ w.cell? (a.add i) = some (.slice B n c) ∧ Num w 0 B n c (N i) ∧ n ≤ 1000000
theorem NRow.below {w w' : World} {A : Option Addr} {k : Nat} {N : Nat → Nat} (h : NRow w A k N) (hb : Below w.heap.size w w') : NRow w' A k N := by
  intro i hi
  obtain ⟨a, B, n, c, h1, h2, h3, h4, h5⟩ := h i hi
  exact ⟨a, B, n, c, h1, Nat.lt_of_lt_of_le h2 hb.size, (hb.cell (by rw [block_of_add]; exact h2)).trans h3, h4.below hb, h5⟩

/-- The greatest of the first k. -/
def maxN (N : Nat → Nat) : Nat → Nat
  | 0 => 0
  | k + 1 => if maxN N k < N k then N k else maxN N k

set_option maxHeartbeats 2000000 in
theorem natMax (A : Option Addr) (k c : Nat) (N : Nat → Nat) (w : World) (hr : NRow w A k N) (hk : k ≤ 1000000) :
    Calls Try.prog 16 #[.slice A k c] w fun e w' => ∃ A1 n1 c1, e = .returned (.agg #[.slice A1 n1 c1]) ∧ Num w' w.heap.size A1 n1 c1 (maxN N k) ∧ n1 ≤ 1000000 ∧ Below w.heap.size w w' := by
  have hb0 : Below w.heap.size w ((w.alloc (.cells #[.slice none 0 0] 28)).alloc (.cells #[.slice none 0 0] 28)) := by go_grown
  have hb0 := Lib.hid hb0
  go_enter Try.func16, Try.ntmps16
  go_wp2_with fail
  go_loopw [8, 5] (fun iv _ wr => ∃ i : Nat, i ≤ k ∧ iv = .int .i64 i ∧ Below w.heap.size w wr ∧ w.heap.size + 2 ≤ wr.heap.size ∧ wr.cell? ⟨w.heap.size, 0, none⟩ = some (.slice none 0 0) ∧ wr.frozen? ⟨w.heap.size, 0, none⟩ = false ∧ wr.frozen? ⟨w.heap.size + 1, 0, none⟩ = false ∧
      ∃ B n c, wr.cell? ⟨w.heap.size + 1, 0, none⟩ = some (.slice B n c) ∧ Num w 0 B n c (maxN N i) ∧ n ≤ 1000000) (fun iv _ _ => k - (intOf iv).toNat)
  case atStart => exact ⟨0, by omega, rfl, hb0.out, by simp, by simp [go_sem], by simp [go_sem], by simp [go_sem], none, 0, 0, by simp [go_sem], Num.zero w 0, by omega⟩
  case round =>
    obtain ⟨i, hi, rfl, hb, hsz, hc0, hf0, hf1, B, n, c', hc1, hnum, hn⟩ := hrel
    by_cases hlt : i < k
    · obtain ⟨a, B2, n2, c2, rfl, ha, hcell, hnum2, hn2⟩ := hr i hlt
      have hcell2 : wr.cell? (a.add i) = some (.slice B2 n2 c2) := (hb.cell (by rw [block_of_add]; exact ha)).trans hcell
      have hl0 : w.heap.size < wr.heap.size := by omega
      have hl1 : w.heap.size + 1 < wr.heap.size := by omega
      have hba : Below wr.heap.size wr (wr.alloc (.cells #[.slice B2 n2 c2] 28)) := (Below.refl _ _).alloc (Nat.le_refl _) _
      have hcmp := natCmp ((hnum2.below hb).below hba) ((hnum.below hb).below hba)
      have hnx : maxN N (i + 1) = if maxN N i < N i then N i else maxN N i := rfl
      clear hcell ha
      by_cases hg : maxN N i < N i
      · rw [if_pos hg] at hnx
        rw [cmpI_gt hg] at hcmp
        have hnx := Lib.hid hnx
        go_wp2_with fail
        refine hcmp.mono ?_
        rintro e w1 ⟨rfl, hb1⟩
        obtain ⟨k0, j0⟩ := bcell1 (b := w.heap.size) (o := 0) (hba.trans (hb1.mono (by simp))) hc0 hf0
        obtain ⟨k1, j1⟩ := bcell1 (b := w.heap.size + 1) (o := 0) (hba.trans (hb1.mono (by simp))) hc1 hf1
        obtain ⟨k2, j2⟩ := bcell1 (b := wr.heap.size) (o := 0) hb1 (v := .slice B2 n2 c2) (by simp [go_sem]) (by simp [go_sem])
        have hbw : Below w.heap.size w w1 := bstep0 (bstep0 hb hba) hb1
        have hs1 : w.heap.size + 2 ≤ w1.heap.size := by have := hb1.size; simp at this; omega
        clear hcmp hc0 hf0 hc1 hf1 hcell2 hb1
        go_wp2_with fail
        refine ⟨⟨i + 1, by omega, by go_num, hbw.setCell (by simp) _, by simpa [World.setCell] using hs1, (World.cell?_setCell_other _ _ _ _ (fun e => by injection e; omega)).trans k0, by simpa using j0, by simpa using j1, B2, n2, c2, World.cell?_setCell_same _ _ _ k1, by rw [hnx.out]; exact hnum2, hn2⟩, by simp [intOf]; omega⟩
      · rw [if_neg hg] at hnx
        have hz : Hid (cmpI (N i) (maxN N i) ≤ 0) := by
          show _ ≤ _
          rcases Nat.lt_or_ge (N i) (maxN N i) with h | h
          · rw [cmpI_lt h]; omega
          · rw [cmpI_eq (by omega)]; omega
        obtain ⟨z, hz1, hz2⟩ : ∃ z : Int, cmpI (N i) (maxN N i) = z ∧ z ≤ 0 := ⟨_, rfl, hz.out⟩
        rw [hz1] at hcmp
        have hz3 : decide (0 < z) = false := by simp; omega
        have hnx := Lib.hid hnx
        clear hz hz1
        go_wp2_with fail
        refine hcmp.mono ?_
        rintro e w1 ⟨rfl, hb1⟩
        obtain ⟨k0, j0⟩ := bcell1 (b := w.heap.size) (o := 0) (hba.trans (hb1.mono (by simp))) hc0 hf0
        obtain ⟨k1, j1⟩ := bcell1 (b := w.heap.size + 1) (o := 0) (hba.trans (hb1.mono (by simp))) hc1 hf1
        have hbw : Below w.heap.size w w1 := bstep0 (bstep0 hb hba) hb1
        have hs1 : w.heap.size + 2 ≤ w1.heap.size := by have := hb1.size; simp at this; omega
        clear hcmp hc0 hf0 hc1 hf1 hcell2 hb1
        go_wp2_with fail
        refine ⟨⟨i + 1, by omega, by go_num, hbw, hs1, k0, j0, j1, B, n, c', k1, by rw [hnx.out]; exact hnum, hn⟩, by simp [intOf]; omega⟩
    · obtain rfl : i = k := by omega
      obtain ⟨l, g1, g2, g3, g4, g5, g6, g7, g8⟩ := hnum.below hb
      have hv := Lib.hid g4
      clear g2 g4 g7 g8 hnum
      go_wp2_with fail
      refine (natLimbs B n c' l _ g1 g3 g5 g6 (by omega)).mono ?_
      rintro e w1 ⟨A1, n1, c1, rfl, hnum1, hn1, hb1⟩
      obtain ⟨k0, j0⟩ := bcell1 (b := w.heap.size) (o := 0) hb1 hc0 hf0
      go_wp2_with fail
      refine bodyPost_ret (v := .agg #[.slice A1 n1 c1]) (by simp [results, Try.results16, go_sem, k0]) rfl ?_
      rw [hv.out] at hnum1
      exact ⟨A1, n1, c1, rfl, (hnum1.setCell (p := ⟨w.heap.size, 0, none⟩) (by simp; omega) _).mono (by omega), by omega, (bstep0 hb hb1).setCell (Nat.le_refl _) _⟩
end Go.Proofs.Ytamknndngjoncaa
