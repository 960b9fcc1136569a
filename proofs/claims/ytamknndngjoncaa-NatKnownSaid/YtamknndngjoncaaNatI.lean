/- The contract of nat's Sum. -/
import Derived.Test.YtamknndngjoncaaNatH
namespace Go.Proofs.Ytamknndngjoncaa
open Go.RowKit

def sumN (N : Nat → Nat) : Nat → Nat
  | 0 => 0
  | k + 1 => sumN N k + N k

theorem Num.lenIff {w : World} {b n c N : Nat} {A : Option Addr} (h : Num w b A n c N) (j : Nat) : n ≤ j ↔ N < LB ^ j := by
  obtain ⟨l, h1, h2, h3, h4, _⟩ := h
  rw [h1.len, ← h4]
  exact Dig.len_le_iff (by unfold LB; omega) h2 h3 _
theorem fitSum {w : World} {b n c M b' n' c' N : Nat} {A A' : Option Addr} (c0 : Int) (hM : Num w b A n c M) (hN : Num w b' A' n' c' N) (h : max n n' + 1 ≤ capN c0) : Fit c0 (M + N) := by
  have h1 := (hM.lenIff (max n n')).1 (by omega)
  have h2 := (hN.lenIff (max n n')).1 (by omega)
  have h3 : 2 * LB ^ max n n' ≤ LB ^ (max n n' + 1) := by rw [Nat.pow_succ, Nat.mul_comm 2]; exact Nat.mul_le_mul_left _ (by unfold LB; omega)
  have h4 : LB ^ (max n n' + 1) ≤ LB ^ capN c0 := Nat.pow_le_pow_right LB_pos h
  unfold Fit
  omega
theorem capMax : 2000000 ≤ capN 9223372036854775807 := by unfold capN; omega

theorem addMax {w : World} {b n c M b' n' c' N : Nat} {A A' : Option Addr} (hM : Num w b A n c M) (hN : Num w b' A' n' c' N) (h1 : n ≤ 1000000) (h2 : n' ≤ 1000000) :
    Calls Try.prog 21 #[.int .i64 9223372036854775807, .agg #[.slice A n c], .agg #[.slice A' n' c']] w fun e w' => ∃ A1 n1 c1, e = .returned (.tuple #[.agg #[.slice A1 n1 c1], .bool true]) ∧ Num w' w.heap.size A1 n1 c1 (M + N) ∧ n1 ≤ max n n' + 1 ∧ Below w.heap.size w w' :=
  capAdd_yes 9223372036854775807 hM hN (by omega) (by omega) (fitSum _ hM hN (Nat.le_trans (by omega) capMax))

set_option maxHeartbeats 2000000 in
theorem natSum (A : Option Addr) (k c : Nat) (N : Nat → Nat) (w : World) (hr : NRow w A k N) (hk : k ≤ 1000) (h8 : ∀ i, i < k → ∃ a B n c, A = some a ∧ w.cell? (a.add i) = some (.slice B n c) ∧ n ≤ 1000) :
    Calls Try.prog 26 #[.slice A k c] w fun e w' => ∃ A1 n1 c1, e = .returned (.agg #[.slice A1 n1 c1]) ∧ Num w' w.heap.size A1 n1 c1 (sumN N k) ∧ n1 ≤ 2000 ∧ Below w.heap.size w w' := by
  have hb0 : Below w.heap.size w ((w.alloc (.cells #[.slice none 0 0] 28)).alloc (.cells #[.slice none 0 0] 28)) := by go_grown
  have hb0 := Lib.hid hb0
  have h8 := Lib.hid h8
  go_enter Try.func26, Try.ntmps26
  go_wp2_with fail
  go_loopw [10, 6] (fun iv _ wr => ∃ i : Nat, i ≤ k ∧ iv = .int .i64 i ∧ Below w.heap.size w wr ∧ w.heap.size + 2 ≤ wr.heap.size ∧ wr.cell? ⟨w.heap.size, 0, none⟩ = some (.slice none 0 0) ∧ wr.frozen? ⟨w.heap.size, 0, none⟩ = false ∧ wr.frozen? ⟨w.heap.size + 1, 0, none⟩ = false ∧
      ∃ B n c, wr.cell? ⟨w.heap.size + 1, 0, none⟩ = some (.slice B n c) ∧ Num wr (w.heap.size + 2) B n c (sumN N i) ∧ n ≤ 1000 + i) (fun iv _ _ => k - (intOf iv).toNat)
  case atStart => exact ⟨0, by omega, rfl, hb0.out, by simp, by simp [go_sem], by simp [go_sem], by simp [go_sem], none, 0, 0, by simp [go_sem], Num.zero _ _, by omega⟩
  case round =>
    obtain ⟨i, hi, rfl, hb, hsz, hc0, hf0, hf1, B, n, c', hc1, hnum, hn⟩ := hrel
    by_cases hlt : i < k
    · obtain ⟨a, B2, n2, c2, rfl, ha, hcell, hnum2, hn2⟩ := hr i hlt
      have hn3 : n2 ≤ 1000 := by
        obtain ⟨a', B', n', c', e1, e2, e3⟩ := h8.out i hlt
        injection e1 with e1
        subst e1
        rw [hcell] at e2
        injection e2 with e2
        injection e2 with _ e4 _
        omega
      have hcell2 : wr.cell? (a.add i) = some (.slice B2 n2 c2) := (hb.cell (by rw [block_of_add]; exact ha)).trans hcell
      have hl0 : w.heap.size < wr.heap.size := by omega
      have hl1 : w.heap.size + 1 < wr.heap.size := by omega
      have hba : Below wr.heap.size wr (wr.alloc (.cells #[.slice B2 n2 c2] 28)) := (Below.refl _ _).alloc (Nat.le_refl _) _
      have hadd := addMax (hnum.below hba) ((hnum2.below hb).below hba) (by omega) hn2
      clear hcell ha
      go_wp2_with fail
      refine hadd.mono ?_
      rintro e w1 ⟨A1, n1, c1, rfl, hnum1, hn1, hb1⟩
      obtain ⟨k0, j0⟩ := bcell1 (b := w.heap.size) (o := 0) (hba.trans (hb1.mono (by simp))) hc0 hf0
      obtain ⟨k1, j1⟩ := bcell1 (b := w.heap.size + 1) (o := 0) (hba.trans (hb1.mono (by simp))) hc1 hf1
      have hbw : Below w.heap.size w w1 := bstep0 (bstep0 hb hba) hb1
      have hs1 : w.heap.size + 2 ≤ w1.heap.size := by have := hb1.size; simp at this; omega
      have hn4 : n1 ≤ 1000 + (i + 1) := by omega
      clear hadd hc0 hf0 hc1 hf1 hcell2 hb1 hnum hn1
      go_wp2_with fail
      refine ⟨⟨i + 1, by omega, by go_num, hbw.setCell (by simp) _, by simpa [World.setCell] using hs1, (World.cell?_setCell_other _ _ _ _ (fun e => by injection e; omega)).trans k0, by simpa using j0, by simpa using j1, A1, n1, c1, World.cell?_setCell_same _ _ _ k1, (hnum1.mono (base' := w.heap.size + 2) (by simp; omega)).setCell (by simp) _, hn4⟩, by simp [intOf]; omega⟩
    · obtain rfl : i = k := by omega
      go_wp2_with fail
      refine bodyPost_ret (v := .agg #[.slice B n c']) (by simp [results, Try.results26, go_sem, hc0]) rfl ?_
      exact ⟨B, n, c', rfl, (hnum.setCell (p := ⟨w.heap.size, 0, none⟩) (by simp) _).mono (by omega), by omega, hb.setCell (Nat.le_refl _) _⟩
end Go.Proofs.Ytamknndngjoncaa
