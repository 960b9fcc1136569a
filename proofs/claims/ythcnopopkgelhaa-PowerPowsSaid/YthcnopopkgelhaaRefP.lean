/- The contracts of the reference's One, over, small, Number, Pow, Sum of layer 3. -/
import Derived.Test.YthcnopopkgelhaaPowA
import Derived.Test.YthcnopopkgelhaaRefD
import Derived.Test.YthcnopopkgelhaaRefE
import Derived.Test.YthcnopopkgelhaaRefF
namespace Go.Proofs.Ythcnopopkgelhaa
open Go.RowKit

theorem RNum.lt_ {w : World} {b n c N : Nat} {A : Option Addr} (h : RNum w b A n c N) : N < 256 ^ n := by
  obtain ⟨l, h1, h2, h3, h4, h5, h6, h7⟩ := h
  rw [← h4, h1.len]
  exact Dig.val_lt h3
theorem RNum.zero_iff_ {w : World} {b n c N : Nat} {A : Option Addr} (h : RNum w b A n c N) : n = 0 ↔ N = 0 := by
  obtain ⟨l, h1, h2, h3, h4, h5, h6, h7⟩ := h
  have hl := h1.len
  have := Dig.len_le_iff (by omega) h2 h3 0
  rw [h4, ← hl] at this
  simp only [Nat.pow_zero] at this
  omega
theorem RNum.len_le_ {w : World} {b n c N k : Nat} {A : Option Addr} (h : RNum w b A n c N) (hN : N < 256 ^ k) : n ≤ k := by
  obtain ⟨l, h1, h2, h3, h4, h5, h6, h7⟩ := h
  have hl := h1.len
  have := Dig.len_le_iff (by omega) h2 h3 k
  rw [h4, ← hl] at this
  exact this.2 hN
theorem RNum.len_fit {w : World} {b n c N : Nat} {A : Option Addr} {c0 : Int} (h : RNum w b A n c N) (hf : Fit c0 N) : n ≤ 8 * capN c0 := by
  refine h.len_le_ ?_
  unfold Fit at hf
  rwa [LB_eq, ← Nat.pow_mul] at hf
theorem row_of_cell_ (k : IntKind) (W : World) (g x : Nat) (hg : g < W.heap.size) (hc : W.cell? ⟨g, 0, none⟩ = some (.int k (x : Int))) : Row W W.heap.size k (some ⟨g, 0, none⟩) 1 [x] :=
  ⟨by simp [ints], fun _ => ⟨_, rfl, by simpa using hg, fun j u hu => by
    match j with
    | 0 => simp [ints] at hu; subst hu; simpa [Addr.add] using hc
    | j + 1 => simp [ints] at hu⟩⟩
theorem rnum_of_cell_ (W : World) (g x : Nat) (hx : x < 256) (h0 : x ≠ 0) (hg : g < W.heap.size) (hc : W.cell? ⟨g, 0, none⟩ = some (.int .u8 (x : Int))) : RNum W g (some ⟨g, 0, none⟩) 1 1 x :=
  ⟨[x], row_of_cell_ .u8 W g x hg hc, (show Dig.Norm ([] ++ [x]) from Dig.norm_snoc h0), Dig.Below.cons hx (Dig.Below.nil _), by simp [Dig.val], Nat.le_refl _, by unfold maxLen; omega, fun ad h => by cases h; exact Nat.le_refl _⟩
theorem bthen_ {w W W' : World} (h : Below w.heap.size w W) (hb : Below W.heap.size W W') : Below w.heap.size w W' := h.trans (hb.mono h.size)

set_option maxHeartbeats 400000 in
theorem refOne (w : World) : Calls Try.prog 33 #[] w fun e w' => ∃ A c, e = .returned (.slice A 1 c) ∧ RNum w' w.heap.size A 1 c 1 ∧ Below w.heap.size w w' := by
  have hq := fun T => rnum_of_cell_ (w.alloc (.cells #[.int .u8 1] T)) w.heap.size 1 (by omega) (by omega) (by simp) (by simp [go_sem])
  go_enter Try.func33, Try.ntmps33
  go_wp2_with fail
  go_ret
  exact ⟨_, _, rfl, hq _, (Below.refl _ _).alloc (Nat.le_refl _) _⟩

set_option maxHeartbeats 400000 in
theorem refSame_no {A A' : Option Addr} {n c n' c' M N b b' : Nat} {w : World} (hM : RNum w b A n c M) (hN : RNum w b' A' n' c' N) (h : M ≠ N) :
    Calls Try.prog 15 #[.slice A n c, .slice A' n' c'] w fun e w' => e = .returned (.bool false) ∧ Below w.heap.size w w' := by
  have hz : ∃ z : Int, cmpI M N = z ∧ z ≠ 0 := by
    refine ⟨_, rfl, ?_⟩
    unfold cmpI
    split
    · omega
    · omega
  obtain ⟨z, hz1, hz2⟩ := hz
  have hc := refCmp_is hM hN hz1
  clear hM hN h hz1
  go_enter Try.func15, Try.ntmps15
  go_wp2_with fail
  refine hc.mono ?_
  rintro e w1 ⟨rfl, hb⟩
  go_wp2_with fail
  go_ret
  exact ⟨by simp [hz2], hb⟩

set_option maxHeartbeats 400000 in
theorem refOver_no {A : Option Addr} {n c N b : Nat} {w : World} (c0 : Int) (h : RNum w b A n c N) (hn : n ≤ 100000) (hf : Fit c0 N) :
    Calls Try.prog 34 #[.slice A n c, .int .i64 c0] w fun e w' => e = .returned (.bool false) ∧ Below w.heap.size w w' := by
  have hq := refFits_yes c0 h (by omega) hf
  clear h hf
  go_enter Try.func34, Try.ntmps34
  go_wp2_with fail
  refine hq.mono ?_
  rintro e w1 ⟨rfl, hb⟩
  go_wp2_with fail
  go_ret
  exact ⟨rfl, hb⟩
set_option maxHeartbeats 400000 in
theorem refOver_yes {A : Option Addr} {n c N b : Nat} {w : World} (c0 : Int) (h : RNum w b A n c N) (hn : n ≤ 100000) (hf : ¬ Fit c0 N) :
    Calls Try.prog 34 #[.slice A n c, .int .i64 c0] w fun e w' => e = .returned (.bool true) ∧ Below w.heap.size w w' := by
  have hq := refFits_no c0 h (by omega) hf
  clear h hf
  go_enter Try.func34, Try.ntmps34
  go_wp2_with fail
  refine hq.mono ?_
  rintro e w1 ⟨rfl, hb⟩
  go_wp2_with fail
  go_ret
  exact ⟨rfl, hb⟩
/-- Either way. -/
theorem refOver {A : Option Addr} {n c N b : Nat} {w : World} (c0 : Int) (h : RNum w b A n c N) (hn : n ≤ 100000) :
    ∃ v : Bool, (v = false ↔ Fit c0 N) ∧ Calls Try.prog 34 #[.slice A n c, .int .i64 c0] w fun e w' => e = .returned (.bool v) ∧ Below w.heap.size w w' := by
  by_cases hf : Fit c0 N
  · exact ⟨false, by simp [hf], refOver_no c0 h hn hf⟩
  · exact ⟨true, by simp [hf], refOver_yes c0 h hn hf⟩

set_option maxHeartbeats 400000 in
theorem refSmall_yes {A : Option Addr} {n c N b : Nat} {w : World} (h : RNum w b A n c N) (hN : N ≤ 1) :
    Calls Try.prog 39 #[.slice A n c] w fun e w' => e = .returned (.bool true) ∧ Below w.heap.size w w' := by
  obtain ⟨z, hz, hz0⟩ : ∃ z : Int, cmpI N 1 = z ∧ z ≤ 0 := by
    refine ⟨_, rfl, ?_⟩
    unfold cmpI
    split
    · omega
    · rw [if_pos (by omega)]; omega
  have H := Lib.hid h
  clear h
  go_enter Try.func39, Try.ntmps39
  go_wp2_with fail
  refine (refOne w).mono ?_
  rintro e w1 ⟨A1, c1, rfl, hnum, hb⟩
  have HZ := Lib.hid hz
  clear hz
  go_wp2_with fail
  refine (refCmp_is (H.out.below hb) hnum HZ.out).mono ?_
  rintro e w2 ⟨rfl, hb2⟩
  go_wp2_with fail
  go_ret
  exact ⟨rfl, bthen_ hb hb2⟩
set_option maxHeartbeats 400000 in
theorem refSmall_no {A : Option Addr} {n c N b : Nat} {w : World} (h : RNum w b A n c N) (hN : 1 < N) :
    Calls Try.prog 39 #[.slice A n c] w fun e w' => e = .returned (.bool false) ∧ Below w.heap.size w w' := by
  have H := Lib.hid h
  have HN := Lib.hid hN
  clear h hN
  go_enter Try.func39, Try.ntmps39
  go_wp2_with fail
  refine (refOne w).mono ?_
  rintro e w1 ⟨A1, c1, rfl, hnum, hb⟩
  go_wp2_with fail
  refine (refCmp_is (H.out.below hb) hnum (cmpI_gt HN.out)).mono ?_
  rintro e w2 ⟨rfl, hb2⟩
  go_wp2_with fail
  go_ret
  exact ⟨rfl, bthen_ hb hb2⟩

set_option maxHeartbeats 400000 in
theorem refNum (x : Nat) (hx : x < LB) (w : World) :
    Calls Try.prog 41 #[.int .u64 x] w fun e w' => ∃ A n c, e = .returned (.slice A n c) ∧ RNum w' w.heap.size A n c x ∧ n ≤ 8 ∧ Below w.heap.size w w' := by
  have hq := fun T => refOf (some ⟨w.heap.size, 0, none⟩) 1 1 [x] (w.alloc (.cells #[.int .u64 (x : Int)] T)) (row_of_cell_ .u64 _ w.heap.size x (by simp) (by simp [go_sem])) (Dig.Below.cons hx (Dig.Below.nil _)) (by omega)
  have hv := Lib.hid (show Dig.val LB [x] = x by simp [Dig.val])
  go_enter Try.func41, Try.ntmps41
  go_wp2_with fail
  refine (hq _).mono ?_
  rintro e w1 ⟨A1, n1, c1, rfl, hnum, hn1, hb⟩
  rw [hv.out] at hnum
  go_wp2_with fail
  go_ret
  exact ⟨A1, n1, c1, rfl, hnum.mono (by simp), by omega, bthen_ ((Below.refl _ _).alloc (Nat.le_refl _) _) hb⟩
end Go.Proofs.Ythcnopopkgelhaa
