/- The contracts of the reference's Pow and Sum. -/
import Derived.Test.YthcnopopkgelhaaRefP
namespace Go.Proofs.Ythcnopopkgelhaa
open Go.RowKit

/-- A number of the reference, and whether it fits. -/
def RefEnd (c0 : Int) (V : Nat) (w : World) (e : Ending) (w' : World) : Prop :=
  (Fit c0 V ∧ ∃ A n c, e = .returned (.tuple #[.slice A n c, .bool true]) ∧ RNum w' w.heap.size A n c V ∧ Below w.heap.size w w') ∨
  (¬ Fit c0 V ∧ ∃ A n c, e = .returned (.tuple #[.slice A n c, .bool false]) ∧ Below w.heap.size w w')
theorem RefEnd.of {c0 : Int} {V : Nat} {w w' : World} {A : Option Addr} {n c : Nat} {v : Bool} (hv : v = false ↔ Fit c0 V) (hn : RNum w' w.heap.size A n c V) (hb : Below w.heap.size w w') : RefEnd c0 V w (.returned (.tuple #[.slice A n c, .bool (!v)])) w' := by
  cases v with
  | false => exact .inl ⟨hv.1 rfl, A, n, c, rfl, hn, hb⟩
  | true => exact .inr ⟨(fun hf => nomatch hv.2 hf), A, n, c, rfl, hb⟩

set_option maxHeartbeats 1000000 in
theorem refPow_one (c0 : Int) {A : Option Addr} {n c N b m : Nat} {w : World} (h : RNum w b A n c N) (hm : m < LB) (h1 : m = 0 ∨ (m ≠ 0 ∧ N = 1)) :
    Calls Try.prog 10 #[.int .i64 c0, .slice A n c, .int .u64 m] w fun e w' => RefEnd c0 (N ^ m) w e w' := by
  have hV : Hid (N ^ m = 1) := by
    rcases h1 with h1 | ⟨_, h1⟩
    · rw [h1]; rfl
    · rw [h1]; exact Nat.one_pow m
  have H := Lib.hid h
  clear h
  rcases h1 with h1 | ⟨h0, h1⟩
  · subst h1
    go_enter Try.func10, Try.ntmps10
    go_wp2_with fail
    refine (refOne w).mono ?_
    rintro e w3 ⟨A3, c3, rfl, hnum3, hb3⟩
    go_wp2_with fail
    refine (refOne w3).mono ?_
    rintro e w4 ⟨A4, c4, rfl, hnum4, hb4⟩
    obtain ⟨v, hv, hov⟩ := refOver c0 hnum4 (by omega)
    have HV := Lib.hid hv
    clear hv
    go_wp2_with fail
    refine hov.mono ?_
    rintro e w5 ⟨rfl, hb5⟩
    go_wp2_with fail
    go_ret2
    rw [hV.out]
    exact RefEnd.of HV.out (((hnum3.below hb4).below hb5).mono (Nat.le_refl _)) (bthen_ (bthen_ hb3 hb4) hb5)
  · have h0' : ¬ ((m : Int) = 0) := by omega
    have H1 := Lib.hid h1
    clear h1
    go_enter Try.func10, Try.ntmps10
    go_wp2_with fail
    refine (refOne w).mono ?_
    rintro e w1 ⟨A1, c1, rfl, hnum1, hb1⟩
    go_wp2_with fail
    refine (refSame (H.out.below hb1) hnum1 H1.out).mono ?_
    rintro e w2 ⟨rfl, hb2⟩
    go_wp2_with fail
    refine (refOne w2).mono ?_
    rintro e w3 ⟨A3, c3, rfl, hnum3, hb3⟩
    go_wp2_with fail
    refine (refOne w3).mono ?_
    rintro e w4 ⟨A4, c4, rfl, hnum4, hb4⟩
    obtain ⟨v, hv, hov⟩ := refOver c0 hnum4 (by omega)
    have HV := Lib.hid hv
    clear hv
    go_wp2_with fail
    refine hov.mono ?_
    rintro e w5 ⟨rfl, hb5⟩
    go_wp2_with fail
    go_ret2
    rw [hV.out]
    exact RefEnd.of HV.out (((hnum3.below hb4).below hb5).mono ((bthen_ hb1 hb2).size)) (bthen_ (bthen_ (bthen_ (bthen_ hb1 hb2) hb3) hb4) hb5)

theorem wrap_up {j m : Nat} (h : j < m) (hm : m < LB) : IntKind.u64.wrap ((j : Int) + 1) = (j : Int) + 1 := by
  have := wrap_nat (a := j) (b := 1) (s := j + 1) rfl (by omega); simpa using this

set_option maxHeartbeats 1000000 in
theorem refPow_zero (c0 : Int) {A : Option Addr} {n c b m : Nat} {w : World} (h : RNum w b A n c 0) (h0 : m ≠ 0) :
    Calls Try.prog 10 #[.int .i64 c0, .slice A n c, .int .u64 m] w fun e w' => RefEnd c0 0 w e w' := by
  have hn0 := h.zero_iff_.2 rfl
  subst hn0
  have H := Lib.hid h
  have h0' : ¬ ((m : Int) = 0) := by omega
  clear h
  go_enter Try.func10, Try.ntmps10
  go_wp2_with fail
  refine (refOne w).mono ?_
  rintro e w1 ⟨A1, c1, rfl, hnum1, hb1⟩
  go_wp2_with fail
  refine (refSame_no (H.out.below hb1) hnum1 (by omega)).mono ?_
  rintro e w2 ⟨rfl, hb2⟩
  go_wp2_with fail
  go_ret2
  exact .inl ⟨Fit.zero c0, none, 0, 0, rfl, RNum.zero _ _, bthen_ hb1 hb2⟩

/-- What the loop of Pow holds. -/
structure PL (w : World) (B : Nat) (A : Option Addr) (n c : Nat) (W : World) : Prop where
  num : RNum W w.heap.size A n c B
  len : n ≤ 2000
  below : Below w.heap.size w W
theorem PL.drew {w : World} {B : Nat} {A : Option Addr} {n c : Nat} {W : World} (h : PL w B A n c W) : PL w B A n c W.drew := ⟨h.num, h.len, h.below.drew⟩

set_option maxHeartbeats 1000000 in
theorem refPow_loop (c0 : Int) {A : Option Addr} {n c N b m : Nat} {w : World} (h : RNum w b A n c N) (hn : n ≤ 100) (hc : capN c0 ≤ 100) (hm : m < LB) (h0 : m ≠ 0) (hN : 2 ≤ N) :
    Calls Try.prog 10 #[.int .i64 c0, .slice A n c, .int .u64 m] w fun e w' => RefEnd c0 (N ^ m) w e w' := by
  have hn0 : ¬ ((n : Int) = 0) := by have := h.zero_iff_; omega
  have H := Lib.hid h
  have h0' : ¬ ((m : Int) = 0) := by omega
  have HN := Lib.hid hN
  clear h h0 hN
  go_enter Try.func10, Try.ntmps10
  go_wp2_with fail
  refine (refOne w).mono ?_
  rintro e w1 ⟨A1, c1, rfl, hnum1, hb1⟩
  go_wp2_with fail
  refine (refSame_no (H.out.below hb1) hnum1 (by have := HN.out; omega)).mono ?_
  rintro e w2 ⟨rfl, hb2⟩
  have hb12 := bthen_ hb1 hb2
  clear hb1 hb2 hnum1
  go_wp2_with fail
  refine (refOne w2).mono ?_
  rintro e w3 ⟨A3, c3, rfl, hnum3, hb3⟩
  have hst0 : Hid (PL w (N ^ 0) A3 1 c3 w3) := ⟨hnum3.mono hb12.size, by omega, bthen_ hb12 hb3⟩
  clear hb12 hb3 hnum3
  go_wp2_with fail
  go_loopw [8, 9] (fun v i wr => ∃ (B : Option Addr) (k d j : Nat), v = .slice B k d ∧ i = .int .u64 j ∧ j ≤ m ∧ Hid (PL w (N ^ j) B k d wr)) (fun _ i _ => m - (intOf i).toNat)
  case atStart => exact ⟨A3, 1, c3, 0, rfl, rfl, Nat.zero_le _, hst0⟩
  case round =>
    obtain ⟨B, k, d, j, rfl, rfl, hj, hst⟩ := hrel
    clear hst0
    have hlen := hst.out.len
    by_cases hlt : j < m
    · have hlt' : (j : Int) < m := by omega
      by_cases hf : Fit c0 (N ^ j)
      · have hov := refOver_no c0 hst.out.num (by omega) hf
        have hkl := hst.out.num.len_fit hf
        have hw := wrap_up hlt hm
        clear hf
        go_wp2_with fail
        refine hov.mono ?_
        rintro e w4 ⟨rfl, hb4⟩
        go_wp2_with fail
        refine (refMul (hst.out.num.below hb4) (H.out.below (bthen_ hst.out.below hb4)) (by omega) (by omega)).mono ?_
        rintro e w5 ⟨A5, n5, c5, rfl, hnum5, hn5, hb5⟩
        have hst5 : Hid (PL w (N ^ (j + 1)) A5 n5 c5 w5) := by
          refine ⟨?_, by omega, bthen_ (bthen_ hst.out.below hb4) hb5⟩
          rw [Nat.pow_succ]
          exact hnum5.mono (bthen_ hst.out.below hb4).size
        clear hnum5 hb4 hb5 hov
        go_wp2_with fail
        refine ⟨⟨A5, n5, c5, j + 1, rfl, by go_num, by omega, hst5⟩, by simp [intOf]; omega⟩
      · have hov := refOver_yes c0 hst.out.num (by omega) hf
        have hun : Hid (¬ Fit c0 (N ^ m)) := unfit_mono hf (Nat.pow_le_pow_right (by have := HN.out; omega) (by omega))
        clear hf
        go_wp2_with fail
        refine hov.mono ?_
        rintro e w4 ⟨rfl, hb4⟩
        go_wp2_with fail
        go_ret2
        exact .inr ⟨hun.out, none, 0, 0, rfl, bthen_ hst.out.below hb4⟩
    · obtain rfl : j = m := by omega
      obtain ⟨v, hv, hov⟩ := refOver c0 hst.out.num (by omega)
      have HV := Lib.hid hv
      clear hv
      go_wp2_with fail
      refine hov.mono ?_
      rintro e w4 ⟨rfl, hb4⟩
      go_wp2_with fail
      go_ret2
      exact RefEnd.of HV.out (hst.out.num.below hb4) (bthen_ hst.out.below hb4)

theorem refPow (c0 : Int) {A : Option Addr} {n c N b m : Nat} {w : World} (h : RNum w b A n c N) (hn : n ≤ 100) (hc : capN c0 ≤ 100) (hm : m < LB) :
    Calls Try.prog 10 #[.int .i64 c0, .slice A n c, .int .u64 m] w fun e w' => RefEnd c0 (N ^ m) w e w' := by
  by_cases h0 : m = 0
  · exact refPow_one c0 h hm (.inl h0)
  · rcases Nat.lt_or_ge N 2 with h2 | h2
    · rcases Nat.lt_or_ge N 1 with h1 | h1
      · obtain rfl : N = 0 := by omega
        rw [Nat.zero_pow (by omega)]
        exact refPow_zero c0 h h0
      · exact refPow_one c0 h hm (.inr ⟨h0, by omega⟩)
    · exact refPow_loop c0 h hn hc hm h0 h2

set_option maxHeartbeats 1000000 in
theorem refSum_zero (c0 : Int) {A : Option Addr} {n c b m : Nat} {w : World} (h : RNum w b A n c 0) :
    Calls Try.prog 13 #[.int .i64 c0, .slice A n c, .int .u64 m] w fun e w' => RefEnd c0 (psum 0 m) w e w' := by
  have hn0 := h.zero_iff_.2 rfl
  subst hn0
  have hV := Lib.hid (psum_zero m)
  clear h
  go_enter Try.func13, Try.ntmps13
  go_wp2_with fail
  refine (refOne w).mono ?_
  rintro e w3 ⟨A3, c3, rfl, hnum3, hb3⟩
  go_wp2_with fail
  refine (refOne w3).mono ?_
  rintro e w4 ⟨A4, c4, rfl, hnum4, hb4⟩
  obtain ⟨v, hv, hov⟩ := refOver c0 hnum4 (by omega)
  have HV := Lib.hid hv
  clear hv
  go_wp2_with fail
  refine hov.mono ?_
  rintro e w5 ⟨rfl, hb5⟩
  go_wp2_with fail
  go_ret2
  rw [hV.out]
  exact RefEnd.of HV.out (((hnum3.below hb4).below hb5).mono (Nat.le_refl _)) (bthen_ (bthen_ hb3 hb4) hb5)

set_option maxHeartbeats 1000000 in
theorem refSum_one (c0 : Int) {A : Option Addr} {n c b m : Nat} {w : World} (h : RNum w b A n c 1) (hm : m < LB) :
    Calls Try.prog 13 #[.int .i64 c0, .slice A n c, .int .u64 m] w fun e w' => RefEnd c0 (psum 1 m) w e w' := by
  have hn0 : ¬ ((n : Int) = 0) := by have := h.zero_iff_; omega
  have hV := Lib.hid (psum_one m)
  have hsm := refSmall_yes h (Nat.le_refl 1)
  have hm := Lib.hid hm
  clear h
  go_enter Try.func13, Try.ntmps13
  go_wp2_with fail
  refine hsm.mono ?_
  rintro e w1 ⟨rfl, hb1⟩
  go_wp2_with fail
  refine (refNum m hm.out w1).mono ?_
  rintro e w2 ⟨A2, n2, c2, rfl, hnum2, hn2, hb2⟩
  go_wp2_with fail
  refine (refOne w2).mono ?_
  rintro e w3 ⟨A3, c3, rfl, hnum3, hb3⟩
  go_wp2_with fail
  refine (refAdd (hnum2.below hb3) hnum3 (by omega) (by omega)).mono ?_
  rintro e w4 ⟨A4, n4, c4, rfl, hnum4, hn4, hb4⟩
  have hb14 := bthen_ (bthen_ (bthen_ hb1 hb2) hb3) hb4
  have hs3 := (bthen_ (bthen_ hb1 hb2) hb3).size
  clear hb1 hb2 hb3 hb4 hnum2 hnum3 hsm
  obtain ⟨v, hv, hov⟩ := refOver c0 hnum4 (by omega)
  have HV := Lib.hid hv
  clear hv
  go_wp2_with fail
  refine hov.mono ?_
  rintro e w5 ⟨rfl, hb5⟩
  go_wp2_with fail
  go_ret2
  rw [hV.out]
  rw [hV.out] at *
  exact RefEnd.of HV.out ((hnum4.below hb5).mono hs3) (bthen_ hb14 hb5)

/-- What the loop of Sum holds. -/
structure SL (w : World) (S V : Nat) (A : Option Addr) (n c : Nat) (B : Option Addr) (k d : Nat) (W : World) : Prop where
  sum : RNum W w.heap.size A n c S
  pow : RNum W w.heap.size B k d V
  len : n ≤ 2000 ∧ k ≤ 2000
  below : Below w.heap.size w W

set_option maxHeartbeats 1000000 in
theorem refSum_loop (c0 : Int) {A : Option Addr} {n c N b m : Nat} {w : World} (h : RNum w b A n c N) (hn : n ≤ 100) (hc : capN c0 ≤ 100) (hm : m < LB) (hN : 2 ≤ N) :
    Calls Try.prog 13 #[.int .i64 c0, .slice A n c, .int .u64 m] w fun e w' => RefEnd c0 (psum N m) w e w' := by
  have hn0 : ¬ ((n : Int) = 0) := by have := h.zero_iff_; omega
  have hsm := refSmall_no h hN
  have H := Lib.hid h
  have HN := Lib.hid hN
  clear h hN
  go_enter Try.func13, Try.ntmps13
  go_wp2_with fail
  refine hsm.mono ?_
  rintro e w1 ⟨rfl, hb1⟩
  clear hsm
  go_wp2_with fail
  refine (refOne w1).mono ?_
  rintro e w2 ⟨A2, c2, rfl, hnum2, hb2⟩
  go_wp2_with fail
  refine (refOne w2).mono ?_
  rintro e w3 ⟨A3, c3, rfl, hnum3, hb3⟩
  have hst0 : Hid (SL w (psum N 0) (N ^ 0) A2 1 c2 A3 1 c3 w3) := ⟨(hnum2.below hb3).mono hb1.size, hnum3.mono (bthen_ hb1 hb2).size, by omega, bthen_ (bthen_ hb1 hb2) hb3⟩
  clear hb1 hb2 hb3 hnum2 hnum3
  go_wp2_with fail
  go_loopw [9, 10, 11] (fun v u i wr => ∃ (B : Option Addr) (k d : Nat) (D : Option Addr) (q f j : Nat), v = .slice B k d ∧ u = .slice D q f ∧ i = .int .u64 j ∧ j ≤ m ∧ Hid (SL w (psum N j) (N ^ j) B k d D q f wr)) (fun _ _ i _ => m - (intOf i).toNat)
  case atStart => exact ⟨A2, 1, c2, A3, 1, c3, 0, rfl, rfl, rfl, Nat.zero_le _, hst0⟩
  case round =>
    obtain ⟨B, k, d, D, q, f, j, rfl, rfl, rfl, hj, hst⟩ := hrel
    clear hst0
    have hlen := hst.out.len.1
    by_cases hlt : j < m
    · have hlt' : (j : Int) < m := by omega
      by_cases hf : Fit c0 (psum N j)
      · have hov := refOver_no c0 hst.out.sum (by omega) hf
        have hkl := hst.out.sum.len_fit hf
        have hql := hst.out.pow.len_fit (hf.mono (pow_le_psum N j))
        have hw := wrap_up hlt hm
        clear hf
        go_wp2_with fail
        refine hov.mono ?_
        rintro e w4 ⟨rfl, hb4⟩
        go_wp2_with fail
        refine (refMul (hst.out.pow.below hb4) (H.out.below (bthen_ hst.out.below hb4)) (by omega) (by omega)).mono ?_
        rintro e w5 ⟨A5, n5, c5, rfl, hnum5, hn5, hb5⟩
        go_wp2_with fail
        refine (refAdd ((hst.out.sum.below hb4).below hb5) hnum5 (by omega) (by omega)).mono ?_
        rintro e w6 ⟨A6, n6, c6, rfl, hnum6, hn6, hb6⟩
        have hst5 : Hid (SL w (psum N (j + 1)) (N ^ (j + 1)) A6 n6 c6 A5 n5 c5 w6) := by
          have e : psum N (j + 1) = psum N j + N ^ j * N := by rw [← Nat.pow_succ]; rfl
          refine ⟨?_, ?_, by omega, bthen_ (bthen_ (bthen_ hst.out.below hb4) hb5) hb6⟩
          · rw [e]; exact hnum6.mono (bthen_ (bthen_ hst.out.below hb4) hb5).size
          · rw [Nat.pow_succ]; exact (hnum5.below hb6).mono (bthen_ hst.out.below hb4).size
        clear hnum5 hb4 hb5 hov hnum6 hb6
        go_wp2_with fail
        refine ⟨⟨A6, n6, c6, A5, n5, c5, j + 1, rfl, rfl, by go_num, by omega, hst5⟩, by simp [intOf]; omega⟩
      · have hov := refOver_yes c0 hst.out.sum (by omega) hf
        have hun : Hid (¬ Fit c0 (psum N m)) := unfit_mono hf (psum_mono N (by omega))
        clear hf
        go_wp2_with fail
        refine hov.mono ?_
        rintro e w4 ⟨rfl, hb4⟩
        go_wp2_with fail
        go_ret2
        exact .inr ⟨hun.out, none, 0, 0, rfl, bthen_ hst.out.below hb4⟩
    · obtain rfl : j = m := by omega
      obtain ⟨v, hv, hov⟩ := refOver c0 hst.out.sum (by omega)
      have HV := Lib.hid hv
      clear hv
      go_wp2_with fail
      refine hov.mono ?_
      rintro e w4 ⟨rfl, hb4⟩
      go_wp2_with fail
      go_ret2
      exact RefEnd.of HV.out (hst.out.sum.below hb4) (bthen_ hst.out.below hb4)

theorem refSum (c0 : Int) {A : Option Addr} {n c N b m : Nat} {w : World} (h : RNum w b A n c N) (hn : n ≤ 100) (hc : capN c0 ≤ 100) (hm : m < LB) :
    Calls Try.prog 13 #[.int .i64 c0, .slice A n c, .int .u64 m] w fun e w' => RefEnd c0 (psum N m) w e w' := by
  rcases Nat.lt_or_ge N 2 with h2 | h2
  · rcases Nat.lt_or_ge N 1 with h1 | h1
    · obtain rfl : N = 0 := by omega
      exact refSum_zero c0 h
    · obtain rfl : N = 1 := by omega
      exact refSum_one c0 h hm
  · exact refSum_loop c0 h hn hc hm h2
end Go.Proofs.Ythcnopopkgelhaa
