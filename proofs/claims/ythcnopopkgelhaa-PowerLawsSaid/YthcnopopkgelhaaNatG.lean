/- The contracts of the cap's Mul. -/
import Derived.Test.YthcnopopkgelhaaNatF
namespace Go.Proofs.Ythcnopopkgelhaa
open Go.RowKit

theorem Num.pow_le {w : World} {b n c N : Nat} {A : Option Addr} (h : Num w b A n c N) (hn : 0 < n) : LB ^ (n - 1) ≤ N := by
  obtain ⟨l, h1, h2, _, h4, _⟩ := h
  have hl := h1.len
  have := Dig.norm_pos (b := LB) h2 (by omega)
  rw [h4, ← hl] at this
  exact this
theorem Num.zero_iff {w : World} {b n c N : Nat} {A : Option Addr} (h : Num w b A n c N) : n = 0 ↔ N = 0 := by
  constructor
  · rintro rfl
    obtain ⟨l, h1, _, _, h4, _⟩ := h
    have : l = [] := List.eq_nil_of_length_eq_zero h1.len.symm
    rw [← h4, this]; rfl
  · rintro rfl
    rcases Nat.eq_zero_or_pos n with h0 | h0
    · exact h0
    · have := h.pow_le h0
      have := Nat.pow_pos (n := n - 1) LB_pos
      omega
theorem mul_pow_le {w : World} {b n c M b' n' c' N : Nat} {A A' : Option Addr} (hM : Num w b A n c M) (hN : Num w b' A' n' c' N) (h1 : 0 < n) (h2 : 0 < n') : LB ^ (n + n' - 2) ≤ M * N := by
  have e : n + n' - 2 = (n - 1) + (n' - 1) := by omega
  rw [e, Nat.pow_add]
  exact Nat.mul_le_mul (hM.pow_le h1) (hN.pow_le h2)
theorem fit_len {w : World} {b n c M b' n' c' N : Nat} {A A' : Option Addr} (c0 : Int) (hM : Num w b A n c M) (hN : Num w b' A' n' c' N) (h1 : 0 < n) (h2 : 0 < n') (h : Fit c0 (M * N)) : n + n' - 1 ≤ capN c0 := by
  have h3 := mul_pow_le hM hN h1 h2
  have h4 : LB ^ (n + n' - 2) < LB ^ capN c0 := Nat.lt_of_le_of_lt h3 h
  have := (Nat.pow_lt_pow_iff_right (show 1 < LB by unfold LB; omega)).1 h4
  omega

set_option maxHeartbeats 1000000 in
theorem capMul_zero1 (c0 : Int) {A A' : Option Addr} {n c n' c' M N b b' : Nat} {w : World} (hM : Num w b A n c M) (_hN : Num w b' A' n' c' N) (h : n = 0) :
    Calls Try.prog 30 #[.int .i64 c0, .agg #[.slice A n c], .agg #[.slice A' n' c']] w fun e w' => ∃ A1 n1 c1, e = .returned (.tuple #[.agg #[.slice A1 n1 c1], .bool true]) ∧ Num w' w.heap.size A1 n1 c1 (M * N) ∧ n1 = 0 ∧ Below w.heap.size w w' := by
  have hz := Lib.hid (show M * N = 0 by rw [hM.zero_iff.1 h]; simp)
  have hb0 : Below w.heap.size w (((w.alloc (.cells #[.slice A n c] 29)).alloc (.cells #[.slice A' n' c'] 29)).alloc (.cells #[.slice none 0 0] 29)) := by go_grown
  clear hM _hN
  subst h
  go_enter Try.func30, Try.ntmps30
  go_wp2_with fail
  refine (natLen A 0 c _).mono ?_
  rintro e w1 ⟨rfl, hb1⟩
  obtain ⟨ac1, af1⟩ := bcell1 (b := w.heap.size) (o := 0) hb1 (v := (.slice A 0 c)) (by simp [go_sem]) (by simp [go_sem])
  obtain ⟨bc1, bf1⟩ := bcell1 (b := w.heap.size + 1) (o := 0) hb1 (v := (.slice A' n' c')) (by simp [go_sem]) (by simp [go_sem])
  obtain ⟨rc1, rf1⟩ := bcell1 (b := w.heap.size + 1 + 1) (o := 0) hb1 (v := (.slice none 0 0)) (by simp [go_sem]) (by simp [go_sem])
  go_wp2_with fail
  refine bodyPost_ret (v := .tuple #[.agg #[.slice none 0 0], .bool true]) (by simp [results, Try.results30, go_sem, rc1]) rfl ?_
  exact ⟨none, 0, 0, rfl, by rw [hz.out]; exact Num.zero _ _, rfl, (hb0.trans (hb1.mono (by simp; omega))).setCell (by simp; omega) _⟩

set_option maxHeartbeats 1000000 in
theorem capMul_zero2 (c0 : Int) {A A' : Option Addr} {n c n' c' M N b b' : Nat} {w : World} (_hM : Num w b A n c M) (hN : Num w b' A' n' c' N) (h0 : 0 < n) (h : n' = 0) :
    Calls Try.prog 30 #[.int .i64 c0, .agg #[.slice A n c], .agg #[.slice A' n' c']] w fun e w' => ∃ A1 n1 c1, e = .returned (.tuple #[.agg #[.slice A1 n1 c1], .bool true]) ∧ Num w' w.heap.size A1 n1 c1 (M * N) ∧ n1 = 0 ∧ Below w.heap.size w w' := by
  have hz := Lib.hid (show M * N = 0 by rw [hN.zero_iff.1 h]; simp)
  have hb0 : Below w.heap.size w (((w.alloc (.cells #[.slice A n c] 29)).alloc (.cells #[.slice A' n' c'] 29)).alloc (.cells #[.slice none 0 0] 29)) := by go_grown
  clear _hM hN
  subst h
  have hn1 : ((n : Int) == 0) = false := by simp; omega
  go_enter Try.func30, Try.ntmps30
  go_wp2_with fail
  refine (natLen A n c _).mono ?_
  rintro e w1 ⟨rfl, hb1⟩
  obtain ⟨ac1, af1⟩ := bcell1 (b := w.heap.size) (o := 0) hb1 (v := (.slice A n c)) (by simp [go_sem]) (by simp [go_sem])
  obtain ⟨bc1, bf1⟩ := bcell1 (b := w.heap.size + 1) (o := 0) hb1 (v := (.slice A' 0 c')) (by simp [go_sem]) (by simp [go_sem])
  obtain ⟨rc1, rf1⟩ := bcell1 (b := w.heap.size + 1 + 1) (o := 0) hb1 (v := (.slice none 0 0)) (by simp [go_sem]) (by simp [go_sem])
  go_wp2_with fail
  refine (natLen A' 0 c' _).mono ?_
  rintro e w2 ⟨rfl, hb2⟩
  obtain ⟨ac2, af2⟩ := bcell1 (b := w.heap.size) (o := 0) hb2 (v := (.slice A n c)) ac1 af1
  obtain ⟨bc2, bf2⟩ := bcell1 (b := w.heap.size + 1) (o := 0) hb2 (v := (.slice A' 0 c')) bc1 bf1
  obtain ⟨rc2, rf2⟩ := bcell1 (b := w.heap.size + 1 + 1) (o := 0) hb2 (v := (.slice none 0 0)) rc1 rf1
  clear ac1 af1 bc1 bf1 rc1 rf1
  go_wp2_with fail
  have hb3 : Below w.heap.size w w2 := (hb0.trans (hb1.mono (by simp; omega))).trans (hb2.mono (by have := hb1.size; simp at this; omega))
  refine bodyPost_ret (v := .tuple #[.agg #[.slice none 0 0], .bool true]) (by simp [results, Try.results30, go_sem, rc2]) rfl ?_
  exact ⟨none, 0, 0, rfl, by rw [hz.out]; exact Num.zero _ _, rfl, hb3.setCell (by simp; omega) _⟩

set_option maxHeartbeats 2000000 in
theorem capMul_yes1 (c0 : Int) {A A' : Option Addr} {n c n' c' M N b b' : Nat} {w : World} (hM : Num w b A n c M) (hN : Num w b' A' n' c' N) (hn : n ≤ 10000000000) (hn' : n' ≤ 10000000000) (h0 : 0 < n) (h0' : 0 < n') (h : Fit c0 (M * N)) :
    Calls Try.prog 30 #[.int .i64 c0, .agg #[.slice A n c], .agg #[.slice A' n' c']] w fun e w' => ∃ A1 n1 c1, e = .returned (.tuple #[.agg #[.slice A1 n1 c1], .bool true]) ∧ Num w' w.heap.size A1 n1 c1 (M * N) ∧ n1 ≤ n + n' ∧ Below w.heap.size w w' := by
  have hall0 := fun w => allows_yes c0 (n + n' - 1) (fit_len c0 hM hN h0 h0' h) w
  have hall : ∀ w, Calls Try.prog 54 #[.int .i64 c0, .int .i64 ((n : Int) + (n' : Int) - 1)] w fun e w' => e = .returned (.bool true) ∧ w = w' := by
    intro w
    have := hall0 w
    rw [show ((n + n' - 1 : Nat) : Int) = (n : Int) + (n' : Int) - 1 by omega] at this
    exact this
  clear hall0
  have hb0 : Below w.heap.size w (((w.alloc (.cells #[.slice A n c] 29)).alloc (.cells #[.slice A' n' c'] 29)).alloc (.cells #[.slice none 0 0] 29)) := by go_grown
  have h := Lib.hid h
  have hn1 : ((n : Int) == 0) = false := by simp; omega
  have hn2 : ((n' : Int) == 0) = false := by simp; omega
  have hs1 : IntKind.i64.wrap ((n : Int) + (n' : Int)) = (n : Int) + (n' : Int) := IntWalk.i64_in _ (by omega)
  have hs2 : IntKind.i64.wrap ((n : Int) + (n' : Int) - 1) = (n : Int) + (n' : Int) - 1 := IntWalk.i64_in _ (by omega)
  go_enter Try.func30, Try.ntmps30
  go_wp2_with fail
  refine (natLen A n c _).mono ?_
  rintro e w1 ⟨rfl, hb1⟩
  obtain ⟨ac1, af1⟩ := bcell1 (b := w.heap.size) (o := 0) hb1 (v := (.slice A n c)) (by simp [go_sem]) (by simp [go_sem])
  obtain ⟨bc1, bf1⟩ := bcell1 (b := w.heap.size + 1) (o := 0) hb1 (v := (.slice A' n' c')) (by simp [go_sem]) (by simp [go_sem])
  obtain ⟨rc1, rf1⟩ := bcell1 (b := w.heap.size + 1 + 1) (o := 0) hb1 (v := (.slice none 0 0)) (by simp [go_sem]) (by simp [go_sem])
  go_wp2_with fail
  refine (natLen A' n' c' _).mono ?_
  rintro e w2 ⟨rfl, hb2⟩
  obtain ⟨ac2, af2⟩ := bcell1 (b := w.heap.size) (o := 0) hb2 (v := (.slice A n c)) ac1 af1
  obtain ⟨bc2, bf2⟩ := bcell1 (b := w.heap.size + 1) (o := 0) hb2 (v := (.slice A' n' c')) bc1 bf1
  obtain ⟨rc2, rf2⟩ := bcell1 (b := w.heap.size + 1 + 1) (o := 0) hb2 (v := (.slice none 0 0)) rc1 rf1
  clear ac1 af1 bc1 bf1 rc1 rf1
  go_wp2_with fail
  have hbd := (Below.refl w2.heap.size w2).drew
  obtain ⟨acd, afd⟩ := bcell1 (b := w.heap.size) (o := 0) hbd (v := (.slice A n c)) ac2 af2
  obtain ⟨bcd, bfd⟩ := bcell1 (b := w.heap.size + 1) (o := 0) hbd (v := (.slice A' n' c')) bc2 bf2
  obtain ⟨rcd, rfd⟩ := bcell1 (b := w.heap.size + 1 + 1) (o := 0) hbd (v := (.slice none 0 0)) rc2 rf2
  clear ac2 af2 bc2 bf2 rc2 rf2
  go_region_held3 (fun w' => w'.cell? ⟨w.heap.size, 0, none⟩ = some (.slice A n c) ∧ w'.cell? ⟨w.heap.size + 1, 0, none⟩ = some (.slice A' n' c')) (first | exact ⟨ac4, bc4⟩ | exact ⟨ac3, bc3⟩ | exact ⟨acd, bcd⟩)
    (first
      | (go_at_call 23
         with_reducible refine (natLen A n c _).mono ?_
         rintro e w3 ⟨rfl, hb3⟩
         obtain ⟨ac3, af3⟩ := bcell1 (b := w.heap.size) (o := 0) hb3 (v := (.slice A n c)) acd afd
         obtain ⟨bc3, bf3⟩ := bcell1 (b := w.heap.size + 1) (o := 0) hb3 (v := (.slice A' n' c')) bcd bfd
         obtain ⟨rc3, rf3⟩ := bcell1 (b := w.heap.size + 1 + 1) (o := 0) hb3 (v := (.slice none 0 0)) rcd rfd)
      | (go_at_call 23
         with_reducible refine (natLen A' n' c' _).mono ?_
         rintro e w4 ⟨rfl, hb4⟩
         obtain ⟨ac4, af4⟩ := bcell1 (b := w.heap.size) (o := 0) hb4 (v := (.slice A n c)) ac3 af3
         obtain ⟨bc4, bf4⟩ := bcell1 (b := w.heap.size + 1) (o := 0) hb4 (v := (.slice A' n' c')) bc3 bf3
         obtain ⟨rc4, rf4⟩ := bcell1 (b := w.heap.size + 1 + 1) (o := 0) hb4 (v := (.slice none 0 0)) rc3 rf3)
      | (go_at_call 54
         with_reducible refine (hall _).mono ?_
         rintro e w5 ⟨rfl, rfl⟩))
  clear acd afd bcd bfd rcd rfd
  clear ac3 af3 bc3 bf3 rc3 rf3
  have hbw2 : Below w.heap.size w w2 := (hb0.trans (hb1.mono (by simp; omega))).trans (hb2.mono (by have := hb1.size; simp at this; omega))
  have hsz : w.heap.size + 3 ≤ w2.heap.size := by have := hb1.size; have := hb2.size; simp at *; omega
  have hbw4 : Below w.heap.size w w4 := (((hbw2.trans (hbd.mono (by omega))).trans (hb3.mono (by have := hbd.size; omega)))).trans (hb4.mono (by have := hbd.size; have := hb3.size; omega))
  have hsz4 : w.heap.size + 3 ≤ w4.heap.size := by have := hbd.size; have := hb3.size; have := hb4.size; omega
  clear hb0 hb1 hb2 hbd hb3 hb4 hbw2 hsz
  go_wp2_with fail
  refine (natMul (hM.below hbw4) (hN.below hbw4) (by omega) (by omega)).mono ?_
  rintro e w6 ⟨A1, n1, c1, rfl, hnum, hn1', hb6⟩
  obtain ⟨ac6, af6⟩ := bcell1 (b := w.heap.size) (o := 0) hb6 (v := (.slice A n c)) ac4 af4
  obtain ⟨bc6, bf6⟩ := bcell1 (b := w.heap.size + 1) (o := 0) hb6 (v := (.slice A' n' c')) bc4 bf4
  obtain ⟨rc6, rf6⟩ := bcell1 (b := w.heap.size + 1 + 1) (o := 0) hb6 (v := (.slice none 0 0)) rc4 rf4
  clear ac4 af4 bc4 bf4 rc4 rf4
  go_wp2_with fail
  refine (capHold_yes c0 A1 n1 c1 _ _ _ hnum ((hnum.fit c0).2 h.out)).mono ?_
  rintro e w7 ⟨rfl, hnum7, hb7⟩
  obtain ⟨ac7, af7⟩ := bcell1 (b := w.heap.size) (o := 0) hb7 (v := (.slice A n c)) ac6 af6
  obtain ⟨bc7, bf7⟩ := bcell1 (b := w.heap.size + 1) (o := 0) hb7 (v := (.slice A' n' c')) bc6 bf6
  obtain ⟨rc7, rf7⟩ := bcell1 (b := w.heap.size + 1 + 1) (o := 0) hb7 (v := (.slice none 0 0)) rc6 rf6
  clear ac6 af6 bc6 bf6 rc6 rf6
  go_wp2_with fail
  refine bodyPost_ret (v := .tuple #[.agg #[.slice A1 n1 c1], .bool true]) (by simp [results, Try.results30, go_sem, rc7]) rfl ?_
  refine ⟨A1, n1, c1, rfl, (hnum7.setCell (p := ⟨w.heap.size + 1 + 1, 0, none⟩) (by simp; omega) _).mono (by omega), hn1', ((hbw4.trans (hb6.mono (by omega))).trans (hb7.mono (by have := hb6.size; omega))).setCell (by simp; omega) _⟩

set_option maxHeartbeats 2000000 in
theorem capMul_no1 (c0 : Int) {A A' : Option Addr} {n c n' c' M N b b' : Nat} {w : World} (_hM : Num w b A n c M) (_hN : Num w b' A' n' c' N) (hn : n ≤ 10000000000) (hn' : n' ≤ 10000000000) (h0 : 0 < n) (h0' : 0 < n') (h : capN c0 < n + n' - 1) :
    Calls Try.prog 30 #[.int .i64 c0, .agg #[.slice A n c], .agg #[.slice A' n' c']] w fun e w' => e = .returned (.tuple #[.agg #[.slice none 0 0], .bool false]) ∧ Below w.heap.size w w' := by
  have hall0 := fun w => allows_no c0 (n + n' - 1) h w
  have hall : ∀ w, Calls Try.prog 54 #[.int .i64 c0, .int .i64 ((n : Int) + (n' : Int) - 1)] w fun e w' => e = .returned (.bool false) ∧ w = w' := by
    intro w
    have := hall0 w
    rw [show ((n + n' - 1 : Nat) : Int) = (n : Int) + (n' : Int) - 1 by omega] at this
    exact this
  clear hall0 h _hM _hN
  have hb0 : Below w.heap.size w (((w.alloc (.cells #[.slice A n c] 29)).alloc (.cells #[.slice A' n' c'] 29)).alloc (.cells #[.slice none 0 0] 29)) := by go_grown
  have hn1 : ((n : Int) == 0) = false := by simp; omega
  have hn2 : ((n' : Int) == 0) = false := by simp; omega
  have hs1 : IntKind.i64.wrap ((n : Int) + (n' : Int)) = (n : Int) + (n' : Int) := IntWalk.i64_in _ (by omega)
  have hs2 : IntKind.i64.wrap ((n : Int) + (n' : Int) - 1) = (n : Int) + (n' : Int) - 1 := IntWalk.i64_in _ (by omega)
  go_enter Try.func30, Try.ntmps30
  go_wp2_with fail
  refine (natLen A n c _).mono ?_
  rintro e w1 ⟨rfl, hb1⟩
  obtain ⟨ac1, af1⟩ := bcell1 (b := w.heap.size) (o := 0) hb1 (v := (.slice A n c)) (by simp [go_sem]) (by simp [go_sem])
  obtain ⟨bc1, bf1⟩ := bcell1 (b := w.heap.size + 1) (o := 0) hb1 (v := (.slice A' n' c')) (by simp [go_sem]) (by simp [go_sem])
  obtain ⟨rc1, rf1⟩ := bcell1 (b := w.heap.size + 1 + 1) (o := 0) hb1 (v := (.slice none 0 0)) (by simp [go_sem]) (by simp [go_sem])
  go_wp2_with fail
  refine (natLen A' n' c' _).mono ?_
  rintro e w2 ⟨rfl, hb2⟩
  obtain ⟨ac2, af2⟩ := bcell1 (b := w.heap.size) (o := 0) hb2 (v := (.slice A n c)) ac1 af1
  obtain ⟨bc2, bf2⟩ := bcell1 (b := w.heap.size + 1) (o := 0) hb2 (v := (.slice A' n' c')) bc1 bf1
  obtain ⟨rc2, rf2⟩ := bcell1 (b := w.heap.size + 1 + 1) (o := 0) hb2 (v := (.slice none 0 0)) rc1 rf1
  clear ac1 af1 bc1 bf1 rc1 rf1
  go_wp2_with fail
  have hbd := (Below.refl w2.heap.size w2).drew
  obtain ⟨acd, afd⟩ := bcell1 (b := w.heap.size) (o := 0) hbd (v := (.slice A n c)) ac2 af2
  obtain ⟨bcd, bfd⟩ := bcell1 (b := w.heap.size + 1) (o := 0) hbd (v := (.slice A' n' c')) bc2 bf2
  obtain ⟨rcd, rfd⟩ := bcell1 (b := w.heap.size + 1 + 1) (o := 0) hbd (v := (.slice none 0 0)) rc2 rf2
  clear ac2 af2 bc2 bf2 rc2 rf2
  go_region_held3 (fun w' => w'.cell? ⟨w.heap.size, 0, none⟩ = some (.slice A n c) ∧ w'.cell? ⟨w.heap.size + 1, 0, none⟩ = some (.slice A' n' c')) (first | exact ⟨ac4, bc4⟩ | exact ⟨ac3, bc3⟩ | exact ⟨acd, bcd⟩)
    (first
      | (go_at_call 23
         with_reducible refine (natLen A n c _).mono ?_
         rintro e w3 ⟨rfl, hb3⟩
         obtain ⟨ac3, af3⟩ := bcell1 (b := w.heap.size) (o := 0) hb3 (v := (.slice A n c)) acd afd
         obtain ⟨bc3, bf3⟩ := bcell1 (b := w.heap.size + 1) (o := 0) hb3 (v := (.slice A' n' c')) bcd bfd
         obtain ⟨rc3, rf3⟩ := bcell1 (b := w.heap.size + 1 + 1) (o := 0) hb3 (v := (.slice none 0 0)) rcd rfd)
      | (go_at_call 23
         with_reducible refine (natLen A' n' c' _).mono ?_
         rintro e w4 ⟨rfl, hb4⟩
         obtain ⟨ac4, af4⟩ := bcell1 (b := w.heap.size) (o := 0) hb4 (v := (.slice A n c)) ac3 af3
         obtain ⟨bc4, bf4⟩ := bcell1 (b := w.heap.size + 1) (o := 0) hb4 (v := (.slice A' n' c')) bc3 bf3
         obtain ⟨rc4, rf4⟩ := bcell1 (b := w.heap.size + 1 + 1) (o := 0) hb4 (v := (.slice none 0 0)) rc3 rf3)
      | (go_at_call 54
         with_reducible refine (hall _).mono ?_
         rintro e w5 ⟨rfl, rfl⟩))
  clear acd afd bcd bfd rcd rfd
  clear ac3 af3 bc3 bf3 rc3 rf3
  have hbw2 : Below w.heap.size w w2 := (hb0.trans (hb1.mono (by simp; omega))).trans (hb2.mono (by have := hb1.size; simp at this; omega))
  have hsz : w.heap.size + 3 ≤ w2.heap.size := by have := hb1.size; have := hb2.size; simp at *; omega
  have hbw4 : Below w.heap.size w w4 := (((hbw2.trans (hbd.mono (by omega))).trans (hb3.mono (by have := hbd.size; omega)))).trans (hb4.mono (by have := hbd.size; have := hb3.size; omega))
  clear hb0 hb1 hb2 hbd hb3 hb4 hbw2 hsz
  go_wp2_with fail
  refine bodyPost_ret (v := .tuple #[.agg #[.slice none 0 0], .bool false]) (by simp [results, Try.results30, go_sem, rc4]) rfl ?_
  exact ⟨rfl, hbw4.setCell (by simp; omega) _⟩

set_option maxHeartbeats 2000000 in
theorem capMul_no2 (c0 : Int) {A A' : Option Addr} {n c n' c' M N b b' : Nat} {w : World} (hM : Num w b A n c M) (hN : Num w b' A' n' c' N) (hn : n ≤ 10000000000) (hn' : n' ≤ 10000000000) (h0 : 0 < n) (h0' : 0 < n') (h1 : n + n' - 1 ≤ capN c0) (h : ¬ Fit c0 (M * N)) :
    Calls Try.prog 30 #[.int .i64 c0, .agg #[.slice A n c], .agg #[.slice A' n' c']] w fun e w' => e = .returned (.tuple #[.agg #[.slice none 0 0], .bool false]) ∧ Below w.heap.size w w' := by
  have hall0 := fun w => allows_yes c0 (n + n' - 1) h1 w
  have hall : ∀ w, Calls Try.prog 54 #[.int .i64 c0, .int .i64 ((n : Int) + (n' : Int) - 1)] w fun e w' => e = .returned (.bool true) ∧ w = w' := by
    intro w
    have := hall0 w
    rw [show ((n + n' - 1 : Nat) : Int) = (n : Int) + (n' : Int) - 1 by omega] at this
    exact this
  clear hall0 h1
  have hb0 : Below w.heap.size w (((w.alloc (.cells #[.slice A n c] 29)).alloc (.cells #[.slice A' n' c'] 29)).alloc (.cells #[.slice none 0 0] 29)) := by go_grown
  have h := Lib.hid h
  have hn1 : ((n : Int) == 0) = false := by simp; omega
  have hn2 : ((n' : Int) == 0) = false := by simp; omega
  have hs1 : IntKind.i64.wrap ((n : Int) + (n' : Int)) = (n : Int) + (n' : Int) := IntWalk.i64_in _ (by omega)
  have hs2 : IntKind.i64.wrap ((n : Int) + (n' : Int) - 1) = (n : Int) + (n' : Int) - 1 := IntWalk.i64_in _ (by omega)
  go_enter Try.func30, Try.ntmps30
  go_wp2_with fail
  refine (natLen A n c _).mono ?_
  rintro e w1 ⟨rfl, hb1⟩
  obtain ⟨ac1, af1⟩ := bcell1 (b := w.heap.size) (o := 0) hb1 (v := (.slice A n c)) (by simp [go_sem]) (by simp [go_sem])
  obtain ⟨bc1, bf1⟩ := bcell1 (b := w.heap.size + 1) (o := 0) hb1 (v := (.slice A' n' c')) (by simp [go_sem]) (by simp [go_sem])
  obtain ⟨rc1, rf1⟩ := bcell1 (b := w.heap.size + 1 + 1) (o := 0) hb1 (v := (.slice none 0 0)) (by simp [go_sem]) (by simp [go_sem])
  go_wp2_with fail
  refine (natLen A' n' c' _).mono ?_
  rintro e w2 ⟨rfl, hb2⟩
  obtain ⟨ac2, af2⟩ := bcell1 (b := w.heap.size) (o := 0) hb2 (v := (.slice A n c)) ac1 af1
  obtain ⟨bc2, bf2⟩ := bcell1 (b := w.heap.size + 1) (o := 0) hb2 (v := (.slice A' n' c')) bc1 bf1
  obtain ⟨rc2, rf2⟩ := bcell1 (b := w.heap.size + 1 + 1) (o := 0) hb2 (v := (.slice none 0 0)) rc1 rf1
  clear ac1 af1 bc1 bf1 rc1 rf1
  go_wp2_with fail
  have hbd := (Below.refl w2.heap.size w2).drew
  obtain ⟨acd, afd⟩ := bcell1 (b := w.heap.size) (o := 0) hbd (v := (.slice A n c)) ac2 af2
  obtain ⟨bcd, bfd⟩ := bcell1 (b := w.heap.size + 1) (o := 0) hbd (v := (.slice A' n' c')) bc2 bf2
  obtain ⟨rcd, rfd⟩ := bcell1 (b := w.heap.size + 1 + 1) (o := 0) hbd (v := (.slice none 0 0)) rc2 rf2
  clear ac2 af2 bc2 bf2 rc2 rf2
  go_region_held3 (fun w' => w'.cell? ⟨w.heap.size, 0, none⟩ = some (.slice A n c) ∧ w'.cell? ⟨w.heap.size + 1, 0, none⟩ = some (.slice A' n' c')) (first | exact ⟨ac4, bc4⟩ | exact ⟨ac3, bc3⟩ | exact ⟨acd, bcd⟩)
    (first
      | (go_at_call 23
         with_reducible refine (natLen A n c _).mono ?_
         rintro e w3 ⟨rfl, hb3⟩
         obtain ⟨ac3, af3⟩ := bcell1 (b := w.heap.size) (o := 0) hb3 (v := (.slice A n c)) acd afd
         obtain ⟨bc3, bf3⟩ := bcell1 (b := w.heap.size + 1) (o := 0) hb3 (v := (.slice A' n' c')) bcd bfd
         obtain ⟨rc3, rf3⟩ := bcell1 (b := w.heap.size + 1 + 1) (o := 0) hb3 (v := (.slice none 0 0)) rcd rfd)
      | (go_at_call 23
         with_reducible refine (natLen A' n' c' _).mono ?_
         rintro e w4 ⟨rfl, hb4⟩
         obtain ⟨ac4, af4⟩ := bcell1 (b := w.heap.size) (o := 0) hb4 (v := (.slice A n c)) ac3 af3
         obtain ⟨bc4, bf4⟩ := bcell1 (b := w.heap.size + 1) (o := 0) hb4 (v := (.slice A' n' c')) bc3 bf3
         obtain ⟨rc4, rf4⟩ := bcell1 (b := w.heap.size + 1 + 1) (o := 0) hb4 (v := (.slice none 0 0)) rc3 rf3)
      | (go_at_call 54
         with_reducible refine (hall _).mono ?_
         rintro e w5 ⟨rfl, rfl⟩))
  clear acd afd bcd bfd rcd rfd
  clear ac3 af3 bc3 bf3 rc3 rf3
  have hbw2 : Below w.heap.size w w2 := (hb0.trans (hb1.mono (by simp; omega))).trans (hb2.mono (by have := hb1.size; simp at this; omega))
  have hsz : w.heap.size + 3 ≤ w2.heap.size := by have := hb1.size; have := hb2.size; simp at *; omega
  have hbw4 : Below w.heap.size w w4 := (((hbw2.trans (hbd.mono (by omega))).trans (hb3.mono (by have := hbd.size; omega)))).trans (hb4.mono (by have := hbd.size; have := hb3.size; omega))
  have hsz4 : w.heap.size + 3 ≤ w4.heap.size := by have := hbd.size; have := hb3.size; have := hb4.size; omega
  clear hb0 hb1 hb2 hbd hb3 hb4 hbw2 hsz
  go_wp2_with fail
  refine (natMul (hM.below hbw4) (hN.below hbw4) (by omega) (by omega)).mono ?_
  rintro e w6 ⟨A1, n1, c1, rfl, hnum, hn1', hb6⟩
  obtain ⟨ac6, af6⟩ := bcell1 (b := w.heap.size) (o := 0) hb6 (v := (.slice A n c)) ac4 af4
  obtain ⟨bc6, bf6⟩ := bcell1 (b := w.heap.size + 1) (o := 0) hb6 (v := (.slice A' n' c')) bc4 bf4
  obtain ⟨rc6, rf6⟩ := bcell1 (b := w.heap.size + 1 + 1) (o := 0) hb6 (v := (.slice none 0 0)) rc4 rf4
  clear ac4 af4 bc4 bf4 rc4 rf4
  go_wp2_with fail
  refine (capHold_no c0 A1 n1 c1 _ (by have := (hnum.fit c0).1; rcases Nat.lt_or_ge (capN c0) n1 with h1 | h1; exact h1; exact absurd (this h1) h.out)).mono ?_
  rintro e w7 ⟨rfl, hb7⟩
  obtain ⟨ac7, af7⟩ := bcell1 (b := w.heap.size) (o := 0) hb7 (v := (.slice A n c)) ac6 af6
  obtain ⟨bc7, bf7⟩ := bcell1 (b := w.heap.size + 1) (o := 0) hb7 (v := (.slice A' n' c')) bc6 bf6
  obtain ⟨rc7, rf7⟩ := bcell1 (b := w.heap.size + 1 + 1) (o := 0) hb7 (v := (.slice none 0 0)) rc6 rf6
  clear ac6 af6 bc6 bf6 rc6 rf6
  go_wp2_with fail
  refine bodyPost_ret (v := .tuple #[.agg #[.slice none 0 0], .bool false]) (by simp [results, Try.results30, go_sem, rc7]) rfl ?_
  exact ⟨rfl, ((hbw4.trans (hb6.mono (by omega))).trans (hb7.mono (by have := hb6.size; omega))).setCell (by simp; omega) _⟩

theorem capMul_yes (c0 : Int) {A A' : Option Addr} {n c n' c' M N b b' : Nat} {w : World} (hM : Num w b A n c M) (hN : Num w b' A' n' c' N) (hn : n ≤ 10000000000) (hn' : n' ≤ 10000000000) (h : Fit c0 (M * N)) :
    Calls Try.prog 30 #[.int .i64 c0, .agg #[.slice A n c], .agg #[.slice A' n' c']] w fun e w' => ∃ A1 n1 c1, e = .returned (.tuple #[.agg #[.slice A1 n1 c1], .bool true]) ∧ Num w' w.heap.size A1 n1 c1 (M * N) ∧ n1 ≤ n + n' ∧ Below w.heap.size w w' := by
  rcases Nat.eq_zero_or_pos n with h0 | h0
  · exact (capMul_zero1 c0 hM hN h0).mono fun _ _ ⟨A1, n1, c1, h1, h2, h3, h4⟩ => ⟨A1, n1, c1, h1, h2, by omega, h4⟩
  · rcases Nat.eq_zero_or_pos n' with h0' | h0'
    · exact (capMul_zero2 c0 hM hN h0 h0').mono fun _ _ ⟨A1, n1, c1, h1, h2, h3, h4⟩ => ⟨A1, n1, c1, h1, h2, by omega, h4⟩
    · exact capMul_yes1 c0 hM hN hn hn' h0 h0' h
theorem capMul_no (c0 : Int) {A A' : Option Addr} {n c n' c' M N b b' : Nat} {w : World} (hM : Num w b A n c M) (hN : Num w b' A' n' c' N) (hn : n ≤ 10000000000) (hn' : n' ≤ 10000000000) (h : ¬ Fit c0 (M * N)) :
    Calls Try.prog 30 #[.int .i64 c0, .agg #[.slice A n c], .agg #[.slice A' n' c']] w fun e w' => e = .returned (.tuple #[.agg #[.slice none 0 0], .bool false]) ∧ Below w.heap.size w w' := by
  rcases Nat.eq_zero_or_pos n with h0 | h0
  · exact absurd (by rw [hM.zero_iff.1 h0, Nat.zero_mul]; exact Fit.zero c0) h
  · rcases Nat.eq_zero_or_pos n' with h0' | h0'
    · exact absurd (by rw [hN.zero_iff.1 h0', Nat.mul_zero]; exact Fit.zero c0) h
    · rcases Nat.lt_or_ge (capN c0) (n + n' - 1) with h1 | h1
      · exact capMul_no1 c0 hM hN hn hn' h0 h0' h1
      · exact capMul_no2 c0 hM hN hn hn' h0 h0' h1 h
end Go.Proofs.Ythcnopopkgelhaa
