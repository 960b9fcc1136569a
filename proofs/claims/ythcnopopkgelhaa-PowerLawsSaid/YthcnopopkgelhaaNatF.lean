/- The contracts of nat's caps: allows, Fits, hold, Add, Mul. -/
import Derived.Test.YthcnopopkgelhaaNatE
namespace Go.Proofs.Ythcnopopkgelhaa
open Go.RowKit

/-- How many limbs a cap allows; what fits. -/
def capN (c : Int) : Nat := (max c 0).toNat
def Fit (c : Int) (N : Nat) : Prop := N < LB ^ capN c
theorem Fit.mono {c : Int} {M N : Nat} (h : Fit c N) (hle : M ≤ N) : Fit c M := Nat.lt_of_le_of_lt hle h
theorem Num.fit {w : World} {b n c' N : Nat} {A : Option Addr} (h : Num w b A n c' N) (c : Int) : n ≤ capN c ↔ Fit c N := by
  obtain ⟨l, h1, h2, h3, h4, _⟩ := h
  rw [h1.len, ← h4]
  exact Dig.len_le_iff (by unfold LB; omega) h2 h3 _
theorem Fit.zero (c : Int) : Fit c 0 := Nat.pow_pos LB_pos

theorem allows_yes (c : Int) (n : Nat) (h : n ≤ capN c) (w : World) : Calls Try.prog 54 #[.int .i64 c, .int .i64 n] w fun e w' => e = .returned (.bool true) ∧ w = w' := by
  unfold capN at h
  by_cases hc : c < 0
  · have hn : (n : Int) ≤ 0 := by omega
    clear h
    go_enter Try.func54, Try.ntmps54
    go_wp2_with fail
    go_ret
    exact ⟨by simp; omega, rfl⟩
  · have hn : (n : Int) ≤ c := by omega
    clear h
    go_enter Try.func54, Try.ntmps54
    go_wp2_with fail
    go_ret
    exact ⟨by first | rfl | (simp; omega), rfl⟩
set_option maxHeartbeats 400000 in
theorem capFits_yes (c : Int) (A : Option Addr) (n c' : Nat) (h : n ≤ capN c) (w : World) : Calls Try.prog 57 #[.int .i64 c, .agg #[.slice A n c']] w fun e w' => e = .returned (.bool true) ∧ Below w.heap.size w w' := by
  have ha := fun w => allows_yes c n h w
  have hl := fun w => natLen A n c' w
  clear h
  go_enter Try.func57, Try.ntmps57
  go_wp2_with (first | (go_at_call 23; refine (hl _).mono ?_; rintro e w1 ⟨rfl, hb⟩) | (go_at_call 54; refine (ha _).mono ?_; rintro e w2 ⟨rfl, rfl⟩))
  go_ret
  exact ⟨rfl, ((Below.refl _ _).alloc (Nat.le_refl _) _).trans (hb.mono (by simp))⟩
theorem allows_no (c : Int) (n : Nat) (h : capN c < n) (w : World) : Calls Try.prog 54 #[.int .i64 c, .int .i64 n] w fun e w' => e = .returned (.bool false) ∧ w = w' := by
  unfold capN at h
  by_cases hc : c < 0
  · have hn : (0 : Int) < n := by omega
    clear h
    go_enter Try.func54, Try.ntmps54
    go_wp2_with fail
    go_ret
    exact ⟨by simp; omega, rfl⟩
  · have hn : c < (n : Int) := by omega
    clear h
    go_enter Try.func54, Try.ntmps54
    go_wp2_with fail
    go_ret
    exact ⟨by first | rfl | (simp; omega), rfl⟩
set_option maxHeartbeats 400000 in
theorem capFits_no (c : Int) (A : Option Addr) (n c' : Nat) (h : capN c < n) (w : World) : Calls Try.prog 57 #[.int .i64 c, .agg #[.slice A n c']] w fun e w' => e = .returned (.bool false) ∧ Below w.heap.size w w' := by
  have ha := fun w => allows_no c n h w
  have hl := fun w => natLen A n c' w
  clear h
  go_enter Try.func57, Try.ntmps57
  go_wp2_with (first | (go_at_call 23; refine (hl _).mono ?_; rintro e w1 ⟨rfl, hb⟩) | (go_at_call 54; refine (ha _).mono ?_; rintro e w2 ⟨rfl, rfl⟩))
  go_ret
  exact ⟨rfl, ((Below.refl _ _).alloc (Nat.le_refl _) _).trans (hb.mono (by simp))⟩

set_option maxHeartbeats 400000 in
theorem capHold_yes (c : Int) (A : Option Addr) (n c' N b : Nat) (w : World) (hN : Num w b A n c' N) (h : n ≤ capN c) :
    Calls Try.prog 55 #[.int .i64 c, .agg #[.slice A n c']] w fun e w' => e = .returned (.tuple #[.agg #[.slice A n c'], .bool true]) ∧ Num w' b A n c' N ∧ Below w.heap.size w w' := by
  have ha := fun w => capFits_yes c A n c' h w
  clear h
  go_enter Try.func55, Try.ntmps55
  go_wp2_with fail
  refine (ha _).mono ?_
  rintro e w1 ⟨rfl, hb⟩
  obtain ⟨hc0, hf0⟩ := bcell1 (b := w.heap.size) (o := 0) hb (v := .slice A n c') (by simp [go_sem]) (by simp [go_sem])
  obtain ⟨hc1, hf1⟩ := bcell1 (b := w.heap.size + 1) (o := 0) hb (v := .slice none 0 0) (by simp [go_sem]) (by simp [go_sem])
  go_wp2_with fail
  refine bodyPost_ret (v := .tuple #[.agg #[.slice A n c'], .bool true]) (by simp [results, Try.results55, go_sem, hc1]) rfl ?_
  have hbl : Below w.heap.size w (w1.setCell ⟨w.heap.size + 1, 0, none⟩ (.slice A n c')) := ((((Below.refl _ _).alloc (Nat.le_refl _) _).alloc (by simp) _).trans (hb.mono (by simp; omega))).setCell (by simp) _
  exact ⟨rfl, hN.below hbl, hbl⟩

set_option maxHeartbeats 400000 in
theorem capHold_no (c : Int) (A : Option Addr) (n c' : Nat) (w : World) (h : capN c < n) :
    Calls Try.prog 55 #[.int .i64 c, .agg #[.slice A n c']] w fun e w' => e = .returned (.tuple #[.agg #[.slice none 0 0], .bool false]) ∧ Below w.heap.size w w' := by
  have ha := fun w => capFits_no c A n c' h w
  clear h
  go_enter Try.func55, Try.ntmps55
  go_wp2_with fail
  refine (ha _).mono ?_
  rintro e w1 ⟨rfl, hb⟩
  obtain ⟨hc1, hf1⟩ := bcell1 (b := w.heap.size + 1) (o := 0) hb (v := .slice none 0 0) (by simp [go_sem]) (by simp [go_sem])
  go_wp2_with fail
  refine bodyPost_ret (v := .tuple #[.agg #[.slice none 0 0], .bool false]) (by simp [results, Try.results55, go_sem, hc1]) rfl ?_
  exact ⟨rfl, ((((Below.refl _ _).alloc (Nat.le_refl _) _).alloc (by simp) _).trans (hb.mono (by simp; omega))).setCell (by simp) _⟩

set_option maxHeartbeats 1000000 in
theorem capAdd_yes (c0 : Int) {A A' : Option Addr} {n c n' c' M N b b' : Nat} {w : World} (hM : Num w b A n c M) (hN : Num w b' A' n' c' N) (hn : n ≤ 100000000000) (hn' : n' ≤ 100000000000) (h : Fit c0 (M + N)) :
    Calls Try.prog 38 #[.int .i64 c0, .agg #[.slice A n c], .agg #[.slice A' n' c']] w fun e w' => ∃ A1 n1 c1, e = .returned (.tuple #[.agg #[.slice A1 n1 c1], .bool true]) ∧ Num w' w.heap.size A1 n1 c1 (M + N) ∧ n1 ≤ max n n' + 1 ∧ Below w.heap.size w w' := by
  have ha := fun w => capFits_yes c0 A n c ((hM.fit c0).2 (h.mono (by omega))) w
  have hb := fun w => capFits_yes c0 A' n' c' ((hN.fit c0).2 (h.mono (by omega))) w
  have hb0 : Below w.heap.size w (((w.alloc (.cells #[.slice A n c] 29)).alloc (.cells #[.slice A' n' c'] 29)).alloc (.cells #[.slice none 0 0] 29)) := by go_grown
  have h := Lib.hid h
  go_enter Try.func38, Try.ntmps38
  go_wp2_with fail
  refine (ha _).mono ?_
  rintro e w1 ⟨rfl, hb1⟩
  obtain ⟨ac1, af1⟩ := bcell1 (b := w.heap.size) (o := 0) hb1 (v := (.slice A n c)) (by simp [go_sem]) (by simp [go_sem])
  obtain ⟨bc1, bf1⟩ := bcell1 (b := w.heap.size + 1) (o := 0) hb1 (v := (.slice A' n' c')) (by simp [go_sem]) (by simp [go_sem])
  obtain ⟨rc1, rf1⟩ := bcell1 (b := w.heap.size + 1 + 1) (o := 0) hb1 (v := (.slice none 0 0)) (by simp [go_sem]) (by simp [go_sem])
  go_wp2_with fail
  refine (hb _).mono ?_
  rintro e w2 ⟨rfl, hb2⟩
  obtain ⟨ac2, af2⟩ := bcell1 (b := w.heap.size) (o := 0) hb2 (v := (.slice A n c)) ac1 af1
  obtain ⟨bc2, bf2⟩ := bcell1 (b := w.heap.size + 1) (o := 0) hb2 (v := (.slice A' n' c')) bc1 bf1
  obtain ⟨rc2, rf2⟩ := bcell1 (b := w.heap.size + 1 + 1) (o := 0) hb2 (v := (.slice none 0 0)) rc1 rf1
  clear ac1 af1 bc1 bf1 rc1 rf1
  go_wp2_with fail
  have hb3 : Below w.heap.size w w2 := (hb0.trans (hb1.mono (by simp; omega))).trans (hb2.mono (by have := hb1.size; simp at this; omega))
  have hsz : w.heap.size + 3 ≤ w2.heap.size := by have := hb1.size; have := hb2.size; simp at *; omega
  refine (natAdd (hM.below hb3) (hN.below hb3) (by omega) (by omega)).mono ?_
  rintro e w3 ⟨A1, n1, c1, rfl, hnum, hn1, hb4⟩
  obtain ⟨ac3, af3⟩ := bcell1 (b := w.heap.size) (o := 0) hb4 (v := (.slice A n c)) ac2 af2
  obtain ⟨bc3, bf3⟩ := bcell1 (b := w.heap.size + 1) (o := 0) hb4 (v := (.slice A' n' c')) bc2 bf2
  obtain ⟨rc3, rf3⟩ := bcell1 (b := w.heap.size + 1 + 1) (o := 0) hb4 (v := (.slice none 0 0)) rc2 rf2
  clear ac2 af2 bc2 bf2 rc2 rf2
  go_wp2_with fail
  refine (capHold_yes c0 A1 n1 c1 _ _ _ hnum ((hnum.fit c0).2 h.out)).mono ?_
  rintro e w4 ⟨rfl, hnum4, hb5⟩
  obtain ⟨ac4, af4⟩ := bcell1 (b := w.heap.size) (o := 0) hb5 (v := (.slice A n c)) ac3 af3
  obtain ⟨bc4, bf4⟩ := bcell1 (b := w.heap.size + 1) (o := 0) hb5 (v := (.slice A' n' c')) bc3 bf3
  obtain ⟨rc4, rf4⟩ := bcell1 (b := w.heap.size + 1 + 1) (o := 0) hb5 (v := (.slice none 0 0)) rc3 rf3
  clear ac3 af3 bc3 bf3 rc3 rf3
  go_wp2_with fail
  refine bodyPost_ret (v := .tuple #[.agg #[.slice A1 n1 c1], .bool true]) (by simp [results, Try.results38, go_sem, rc4]) rfl ?_
  refine ⟨A1, n1, c1, rfl, (hnum4.setCell (p := ⟨w.heap.size + 1 + 1, 0, none⟩) (by simp; omega) _).mono (by omega), hn1, ((hb3.trans (hb4.mono (by omega))).trans (hb5.mono (by have := hb4.size; omega))).setCell (by simp; omega) _⟩

set_option maxHeartbeats 1000000 in
theorem capAdd_no1 (c0 : Int) {A A' : Option Addr} {n c n' c' M N b b' : Nat} {w : World} (hM : Num w b A n c M) (_hN : Num w b' A' n' c' N) (h : ¬ Fit c0 M) :
    Calls Try.prog 38 #[.int .i64 c0, .agg #[.slice A n c], .agg #[.slice A' n' c']] w fun e w' => e = .returned (.tuple #[.agg #[.slice none 0 0], .bool false]) ∧ Below w.heap.size w w' := by
  have ha := fun w => capFits_no c0 A n c (by have := (hM.fit c0).1; rcases Nat.lt_or_ge (capN c0) n with h1 | h1; exact h1; exact absurd (this h1) h) w
  have hb0 : Below w.heap.size w (((w.alloc (.cells #[.slice A n c] 29)).alloc (.cells #[.slice A' n' c'] 29)).alloc (.cells #[.slice none 0 0] 29)) := by go_grown
  clear h hM _hN
  go_enter Try.func38, Try.ntmps38
  go_wp2_with fail
  refine (ha _).mono ?_
  rintro e w1 ⟨rfl, hb1⟩
  obtain ⟨ac1, af1⟩ := bcell1 (b := w.heap.size) (o := 0) hb1 (v := (.slice A n c)) (by simp [go_sem]) (by simp [go_sem])
  obtain ⟨bc1, bf1⟩ := bcell1 (b := w.heap.size + 1) (o := 0) hb1 (v := (.slice A' n' c')) (by simp [go_sem]) (by simp [go_sem])
  obtain ⟨rc1, rf1⟩ := bcell1 (b := w.heap.size + 1 + 1) (o := 0) hb1 (v := (.slice none 0 0)) (by simp [go_sem]) (by simp [go_sem])
  go_wp2_with fail
  refine bodyPost_ret (v := .tuple #[.agg #[.slice none 0 0], .bool false]) (by simp [results, Try.results38, go_sem, rc1]) rfl ?_
  exact ⟨rfl, (hb0.trans (hb1.mono (by simp; omega))).setCell (by simp; omega) _⟩

set_option maxHeartbeats 1000000 in
theorem capAdd_no2 (c0 : Int) {A A' : Option Addr} {n c n' c' M N b b' : Nat} {w : World} (hM : Num w b A n c M) (hN : Num w b' A' n' c' N) (h0 : Fit c0 M) (h : ¬ Fit c0 N) :
    Calls Try.prog 38 #[.int .i64 c0, .agg #[.slice A n c], .agg #[.slice A' n' c']] w fun e w' => e = .returned (.tuple #[.agg #[.slice none 0 0], .bool false]) ∧ Below w.heap.size w w' := by
  have ha := fun w => capFits_yes c0 A n c ((hM.fit c0).2 h0) w
  have hb := fun w => capFits_no c0 A' n' c' (by have := (hN.fit c0).1; rcases Nat.lt_or_ge (capN c0) n' with h1 | h1; exact h1; exact absurd (this h1) h) w
  have hb0 : Below w.heap.size w (((w.alloc (.cells #[.slice A n c] 29)).alloc (.cells #[.slice A' n' c'] 29)).alloc (.cells #[.slice none 0 0] 29)) := by go_grown
  clear h hM hN h0
  go_enter Try.func38, Try.ntmps38
  go_wp2_with fail
  refine (ha _).mono ?_
  rintro e w1 ⟨rfl, hb1⟩
  obtain ⟨ac1, af1⟩ := bcell1 (b := w.heap.size) (o := 0) hb1 (v := (.slice A n c)) (by simp [go_sem]) (by simp [go_sem])
  obtain ⟨bc1, bf1⟩ := bcell1 (b := w.heap.size + 1) (o := 0) hb1 (v := (.slice A' n' c')) (by simp [go_sem]) (by simp [go_sem])
  obtain ⟨rc1, rf1⟩ := bcell1 (b := w.heap.size + 1 + 1) (o := 0) hb1 (v := (.slice none 0 0)) (by simp [go_sem]) (by simp [go_sem])
  go_wp2_with fail
  refine (hb _).mono ?_
  rintro e w2 ⟨rfl, hb2⟩
  obtain ⟨ac2, af2⟩ := bcell1 (b := w.heap.size) (o := 0) hb2 (v := (.slice A n c)) ac1 af1
  obtain ⟨bc2, bf2⟩ := bcell1 (b := w.heap.size + 1) (o := 0) hb2 (v := (.slice A' n' c')) bc1 bf1
  obtain ⟨rc2, rf2⟩ := bcell1 (b := w.heap.size + 1 + 1) (o := 0) hb2 (v := (.slice none 0 0)) rc1 rf1
  clear ac1 af1 bc1 bf1 rc1 rf1
  go_wp2_with fail
  have hb3 : Below w.heap.size w w2 := (hb0.trans (hb1.mono (by simp; omega))).trans (hb2.mono (by have := hb1.size; simp at this; omega))
  refine bodyPost_ret (v := .tuple #[.agg #[.slice none 0 0], .bool false]) (by simp [results, Try.results38, go_sem, rc2]) rfl ?_
  exact ⟨rfl, hb3.setCell (by simp; omega) _⟩

set_option maxHeartbeats 1000000 in
theorem capAdd_no3 (c0 : Int) {A A' : Option Addr} {n c n' c' M N b b' : Nat} {w : World} (hM : Num w b A n c M) (hN : Num w b' A' n' c' N) (hn : n ≤ 100000000000) (hn' : n' ≤ 100000000000) (h0 : Fit c0 M) (h1 : Fit c0 N) (h : ¬ Fit c0 (M + N)) :
    Calls Try.prog 38 #[.int .i64 c0, .agg #[.slice A n c], .agg #[.slice A' n' c']] w fun e w' => e = .returned (.tuple #[.agg #[.slice none 0 0], .bool false]) ∧ Below w.heap.size w w' := by
  have ha := fun w => capFits_yes c0 A n c ((hM.fit c0).2 h0) w
  have hb := fun w => capFits_yes c0 A' n' c' ((hN.fit c0).2 h1) w
  have hb0 : Below w.heap.size w (((w.alloc (.cells #[.slice A n c] 29)).alloc (.cells #[.slice A' n' c'] 29)).alloc (.cells #[.slice none 0 0] 29)) := by go_grown
  have h := Lib.hid h
  clear h0 h1
  go_enter Try.func38, Try.ntmps38
  go_wp2_with fail
  refine (ha _).mono ?_
  rintro e w1 ⟨rfl, hb1⟩
  obtain ⟨ac1, af1⟩ := bcell1 (b := w.heap.size) (o := 0) hb1 (v := (.slice A n c)) (by simp [go_sem]) (by simp [go_sem])
  obtain ⟨bc1, bf1⟩ := bcell1 (b := w.heap.size + 1) (o := 0) hb1 (v := (.slice A' n' c')) (by simp [go_sem]) (by simp [go_sem])
  obtain ⟨rc1, rf1⟩ := bcell1 (b := w.heap.size + 1 + 1) (o := 0) hb1 (v := (.slice none 0 0)) (by simp [go_sem]) (by simp [go_sem])
  go_wp2_with fail
  refine (hb _).mono ?_
  rintro e w2 ⟨rfl, hb2⟩
  obtain ⟨ac2, af2⟩ := bcell1 (b := w.heap.size) (o := 0) hb2 (v := (.slice A n c)) ac1 af1
  obtain ⟨bc2, bf2⟩ := bcell1 (b := w.heap.size + 1) (o := 0) hb2 (v := (.slice A' n' c')) bc1 bf1
  obtain ⟨rc2, rf2⟩ := bcell1 (b := w.heap.size + 1 + 1) (o := 0) hb2 (v := (.slice none 0 0)) rc1 rf1
  clear ac1 af1 bc1 bf1 rc1 rf1
  go_wp2_with fail
  have hb3 : Below w.heap.size w w2 := (hb0.trans (hb1.mono (by simp; omega))).trans (hb2.mono (by have := hb1.size; simp at this; omega))
  have hsz : w.heap.size + 3 ≤ w2.heap.size := by have := hb1.size; have := hb2.size; simp at *; omega
  refine (natAdd (hM.below hb3) (hN.below hb3) (by omega) (by omega)).mono ?_
  rintro e w3 ⟨A1, n1, c1, rfl, hnum, hn1, hb4⟩
  obtain ⟨ac3, af3⟩ := bcell1 (b := w.heap.size) (o := 0) hb4 (v := (.slice A n c)) ac2 af2
  obtain ⟨bc3, bf3⟩ := bcell1 (b := w.heap.size + 1) (o := 0) hb4 (v := (.slice A' n' c')) bc2 bf2
  obtain ⟨rc3, rf3⟩ := bcell1 (b := w.heap.size + 1 + 1) (o := 0) hb4 (v := (.slice none 0 0)) rc2 rf2
  clear ac2 af2 bc2 bf2 rc2 rf2
  go_wp2_with fail
  refine (capHold_no c0 A1 n1 c1 _ (by have := (hnum.fit c0).1; rcases Nat.lt_or_ge (capN c0) n1 with h1 | h1; exact h1; exact absurd (this h1) h.out)).mono ?_
  rintro e w4 ⟨rfl, hb5⟩
  obtain ⟨ac4, af4⟩ := bcell1 (b := w.heap.size) (o := 0) hb5 (v := (.slice A n c)) ac3 af3
  obtain ⟨bc4, bf4⟩ := bcell1 (b := w.heap.size + 1) (o := 0) hb5 (v := (.slice A' n' c')) bc3 bf3
  obtain ⟨rc4, rf4⟩ := bcell1 (b := w.heap.size + 1 + 1) (o := 0) hb5 (v := (.slice none 0 0)) rc3 rf3
  clear ac3 af3 bc3 bf3 rc3 rf3
  go_wp2_with fail
  refine bodyPost_ret (v := .tuple #[.agg #[.slice none 0 0], .bool false]) (by simp [results, Try.results38, go_sem, rc4]) rfl ?_
  exact ⟨rfl, ((hb3.trans (hb4.mono (by omega))).trans (hb5.mono (by have := hb4.size; omega))).setCell (by simp; omega) _⟩

theorem capAdd_no (c0 : Int) {A A' : Option Addr} {n c n' c' M N b b' : Nat} {w : World} (hM : Num w b A n c M) (hN : Num w b' A' n' c' N) (hn : n ≤ 100000000000) (hn' : n' ≤ 100000000000) (h : ¬ Fit c0 (M + N)) :
    Calls Try.prog 38 #[.int .i64 c0, .agg #[.slice A n c], .agg #[.slice A' n' c']] w fun e w' => e = .returned (.tuple #[.agg #[.slice none 0 0], .bool false]) ∧ Below w.heap.size w w' := by
  by_cases h0 : Fit c0 M
  · by_cases h1 : Fit c0 N
    · exact capAdd_no3 c0 hM hN hn hn' h0 h1 h
    · exact capAdd_no2 c0 hM hN h0 h1
  · exact capAdd_no1 c0 hM hN h0
end Go.Proofs.Ythcnopopkgelhaa
