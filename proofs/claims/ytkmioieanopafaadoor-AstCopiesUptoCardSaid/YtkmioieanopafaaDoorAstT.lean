/- Right statements, declarations and programs by the landed ast. -/
import Derived.Test.YtkmioieanopafaaDoorAstS
import Derived.Test.YtkmioieanopafaaDoorAstP
namespace Go.Proofs.YtkmioieanopafaaDoor
open Go.RowKit

def AllSC (l : List SV) : Prop := ∀ (A : Option Addr) (c : Nat) (w : World), LaidA w → SR w A l → Calls Tryd.prog 54 #[.slice A l.length c, .func (.func 55) #[] #[]] w fun e w' => e = .returned (.bool (rgs l)) ∧ Below w.heap.size w w'

/-- A statement's row of the table; a declaration's. -/
theorem srow (w : World) (hL : LaidA w) (x : List UInt8) (n1 n2 n3 : Nat) (k : Nat) (hk : k < 7) : ∃ (nm th el : Bool) (ex : Int), w.cell? ⟨4, k * 4, none⟩ = some (.bool nm) ∧ w.cell? ⟨4, k * 4 + 1, none⟩ = some (.bool th) ∧ w.cell? ⟨4, k * 4 + 2, none⟩ = some (.bool el) ∧ w.cell? ⟨4, k * 4 + 3, none⟩ = some (.int .i64 ex) ∧ okS (k : Int) x n1 n2 n3 = (rnam6 x nm && (((ex == -1) || ((n1 : Int) == ex)) && ((th || ((n2 : Int) == 0)) && (el || ((n3 : Int) == 0))))) := by
  obtain rfl | rfl | rfl | rfl | rfl | rfl | rfl : k = 0 ∨ k = 1 ∨ k = 2 ∨ k = 3 ∨ k = 4 ∨ k = 5 ∨ k = 6 := by omega
  · refine ⟨true, false, false, 1, hL.s.cell rfl, hL.s.cell rfl, hL.s.cell rfl, hL.s.cell rfl, ?_⟩
    unfold okS rnam6
    rw [Bool.eq_iff_iff]
    simp
    try (intros; first | omega | grind | (simp_all; done))
  · refine ⟨true, false, false, 2, hL.s.cell rfl, hL.s.cell rfl, hL.s.cell rfl, hL.s.cell rfl, ?_⟩
    unfold okS rnam6
    rw [Bool.eq_iff_iff]
    simp
    try (intros; first | omega | grind | (simp_all; done))
  · refine ⟨false, true, true, 1, hL.s.cell rfl, hL.s.cell rfl, hL.s.cell rfl, hL.s.cell rfl, ?_⟩
    unfold okS rnam6
    rw [Bool.eq_iff_iff]
    simp
    try (intros; first | omega | grind | (simp_all; done))
  · refine ⟨false, true, false, 1, hL.s.cell rfl, hL.s.cell rfl, hL.s.cell rfl, hL.s.cell rfl, ?_⟩
    unfold okS rnam6
    rw [Bool.eq_iff_iff]
    simp
    try (intros; first | omega | grind | (simp_all; done))
  · refine ⟨false, false, false, 1, hL.s.cell rfl, hL.s.cell rfl, hL.s.cell rfl, hL.s.cell rfl, ?_⟩
    unfold okS rnam6
    rw [Bool.eq_iff_iff]
    simp
    try (intros; first | omega | grind | (simp_all; done))
  · refine ⟨true, false, false, (-1), hL.s.cell rfl, hL.s.cell rfl, hL.s.cell rfl, hL.s.cell rfl, ?_⟩
    unfold okS rnam6
    rw [Bool.eq_iff_iff]
    simp
    try (intros; first | omega | grind | (simp_all; done))
  · refine ⟨false, false, false, 0, hL.s.cell rfl, hL.s.cell rfl, hL.s.cell rfl, hL.s.cell rfl, ?_⟩
    unfold okS rnam6
    rw [Bool.eq_iff_iff]
    simp
    try (intros; first | omega | grind | (simp_all; done))
theorem drow (w : World) (hL : LaidA w) (x : List UInt8) (lo hi sz : Int) (n1 n2 : Nat) (k : Nat) (hk : k < 5) : ∃ (li si bo : Bool), w.cell? ⟨3, k * 3, none⟩ = some (.bool li) ∧ w.cell? ⟨3, k * 3 + 1, none⟩ = some (.bool si) ∧ w.cell? ⟨3, k * 3 + 2, none⟩ = some (.bool bo) ∧ okD (k : Int) x lo hi sz n1 n2 = (name6 x && (rnum6 sz si && ((li || ((lo == 0) && (hi == 0))) && (bo || (((n1 : Int) == 0) && ((n2 : Int) == 0)))))) := by
  have hn6 : num6 0 = true := by simp [num6]
  obtain rfl | rfl | rfl | rfl | rfl : k = 0 ∨ k = 1 ∨ k = 2 ∨ k = 3 ∨ k = 4 := by omega
  · refine ⟨true, false, false, hL.d.cell rfl, hL.d.cell rfl, hL.d.cell rfl, ?_⟩
    unfold okD rnum6
    rw [Bool.eq_iff_iff]
    simp
    try (intros; first | omega | grind | (simp_all; done))
  · refine ⟨true, false, false, hL.d.cell rfl, hL.d.cell rfl, hL.d.cell rfl, ?_⟩
    unfold okD rnum6
    rw [Bool.eq_iff_iff]
    simp
    try (intros; first | omega | grind | (simp_all; done))
  · refine ⟨false, false, false, hL.d.cell rfl, hL.d.cell rfl, hL.d.cell rfl, ?_⟩
    unfold okD rnum6
    rw [Bool.eq_iff_iff]
    simp
    try (intros; first | omega | grind | (simp_all; done))
  · refine ⟨false, true, false, hL.d.cell rfl, hL.d.cell rfl, hL.d.cell rfl, ?_⟩
    unfold okD rnum6
    rw [Bool.eq_iff_iff]
    simp
    try (intros; first | omega | grind | (simp_all; done))
  · refine ⟨false, false, true, hL.d.cell rfl, hL.d.cell rfl, hL.d.cell rfl, ?_⟩
    unfold okD rnum6
    rw [Bool.eq_iff_iff]
    simp
    try (intros; first | omega | grind | (simp_all; done))
theorem rgs1_out {e : SV} (h : ¬ (0 ≤ e.k ∧ e.k ≤ 6)) : rgs1 e = false := by
  rw [rgs1_eq]
  have : okS e.k e.x e.es.length e.ts.length e.us.length = false := by
    unfold okS
    rw [decide_eq_false]
    omega
  rw [this]; simp
theorem rgd1_out {d : DV} (h : ¬ (0 ≤ d.k ∧ d.k ≤ 4)) : rgd1 d = false := by
  unfold rgd1
  have : okD d.k d.x d.lo d.hi d.sz d.ps.length d.body.length = false := by
    unfold okD
    rw [decide_eq_false]
    omega
  rw [this]; simp

set_option maxHeartbeats 16000000 in
theorem astRS1 (e : SV) (hN : sbk1 e ≤ 4000000) (ih1 : AllSC e.ts) (ih2 : AllSC e.us) (A1 : Option Addr) (c1 : Nat) (A2 : Option Addr) (c2 : Nat) (A3 : Option Addr) (c3 : Nat) (w : World) (hL : LaidA w) (hx1 : XR w A1 e.es) (hx2 : SR w A2 e.ts) (hx3 : SR w A3 e.us) : Calls Tryd.prog 55 #[sval e A1 c1 A2 c2 A3 c3] w fun v w' => v = .returned (.bool (rgs1 e)) ∧ Below w.heap.size w w' := by
  have hb1 := Lib.hid (bnew5 w (.cells #[.int .i64 e.k, .string ⟨e.x.toArray⟩, .slice A1 e.es.length c1, .slice A2 e.ts.length c2, .slice A3 e.us.length c3, .int .i64 e.l, .int .i64 e.c] 62))
  by_cases hk : 0 ≤ e.k ∧ e.k ≤ 6
  · obtain ⟨k, hk2⟩ : ∃ k : Nat, e.k = k := ⟨e.k.toNat, by omega⟩
    have hk5 : k < 7 := by omega
    obtain ⟨nm, th, el, ex, c0, c1', c2', c3', hok⟩ := srow w hL e.x e.es.length e.ts.length e.us.length k hk5
    have h1 : ¬ (k : Int) < 0 := by omega
    have h2 : ¬ 6 < (k : Int) := by omega
    have h3 : (k : Int) < 7 := by omega
    have hV : Hid (rgs1 e = (rnam6 e.x nm && (((ex == -1) || ((e.es.length : Int) == ex)) && (rgx e.es && ((th || ((e.ts.length : Int) == 0)) && (rgs e.ts && ((el || ((e.us.length : Int) == 0)) && rgs e.us))))))) := by
      show rgs1 e = _
      rw [rgs1_eq, hk2, hok]
      generalize rgx e.es = b1
      generalize rgs e.ts = b2
      generalize rgs e.us = b3
      generalize rnam6 e.x nm = b4
      generalize ((ex == -1) || ((e.es.length : Int) == ex)) = b5
      generalize (th || ((e.ts.length : Int) == 0)) = b6
      generalize (el || ((e.us.length : Int) == 0)) = b7
      revert b1 b2 b3 b4 b5 b6 b7
      decide
    rw [hV.out]
    rw [hk2] at hb1
    have K0 := Lib.hid (TwoB.new w [.int .i64 (k : Int), .string ⟨e.x.toArray⟩, .slice A1 e.es.length c1, .slice A2 e.ts.length c2, .slice A3 e.us.length c3, .int .i64 e.l, .int .i64 e.c] [.bool nm, .bool th, .bool el, .int .i64 ex] 62 123)
    have hN2 := sbk1_eq e
    have p1 := astRName e.x nm (by omega) _ (hL.words.step K0.out.2.2)
    have q4 := Lib.hid (fun W (h1 : LaidA W) (h2 : XR W A1 e.es) => astAllX (xbk e.es) e.es (Nat.le_refl _) (by omega) A1 c1 W h1 h2)
    have q6 := Lib.hid (fun W (h1 : LaidA W) (h2 : SR W A2 e.ts) => ih1 A2 c2 W h1 h2)
    have q7 := Lib.hid (fun W (h1 : LaidA W) (h2 : SR W A3 e.us) => ih2 A3 c3 W h1 h2)
    have HL := Lib.hid (And.intro hL (And.intro hx1 (And.intro hx2 hx3)))
    obtain ⟨v1, hv1⟩ : ∃ v, v = rnam6 e.x nm := ⟨_, rfl⟩
    obtain ⟨x0, hx0⟩ : ∃ v, v = (ex == -1) := ⟨_, rfl⟩
    obtain ⟨x1, hx1'⟩ : ∃ v, v = ((e.es.length : Int) == ex) := ⟨_, rfl⟩
    obtain ⟨v4, hv4⟩ : ∃ v, v = rgx e.es := ⟨_, rfl⟩
    obtain ⟨z2, hz2⟩ : ∃ v, v = ((e.ts.length : Int) == 0) := ⟨_, rfl⟩
    obtain ⟨v6, hv6⟩ : ∃ v, v = rgs e.ts := ⟨_, rfl⟩
    obtain ⟨z3, hz3⟩ : ∃ v, v = ((e.us.length : Int) == 0) := ⟨_, rfl⟩
    obtain ⟨v7, hv7⟩ : ∃ v, v = rgs e.us := ⟨_, rfl⟩
    rw [← hv1] at p1
    rw [← hv4] at q4
    rw [← hv6] at q6
    rw [← hv7] at q7
    rw [← hv1, ← hx0, ← hx1', ← hv4, ← hz2, ← hv6, ← hz3, ← hv7]
    replace hx0 := hx0.symm
    replace hx1' := hx1'.symm
    replace hz2 := hz2.symm
    replace hz3 := hz3.symm
    unfold sval
    rw [hk2]
    have hg5 : 4 < w.heap.size := World.block_lt_of_cell? w _ c0
    clear hv1 hv4 hv6 hv7 hV hok ih1 ih2 hx1 hx2 hx3 hL hk hk2 hN hN2 hk5
    generalize e.es.length = m1 at *
    generalize e.ts.length = m2 at *
    generalize e.us.length = m3 at *
    go_enter Tryd.func55, Tryd.ntmps55
    go_wp2_with fail
    refine p1.mono ?_
    rintro e1 w1 ⟨rfl, hw1⟩
    have K2 := Lib.hid (K0.out.step hw1)
    clear p1 hw1 K0
    have s2 := K2.out.1.seven
    have t2 := K2.out.2.1.four
    have p4 := q4.out _ (HL.out.1.step K2.out.2.2) (HL.out.2.1.step K2.out.2.2)
    cases v1 with
    | false =>
      go_wp2_with fail
      go_ret
      exact ⟨rfl, K2.out.2.2⟩
    | true =>
    cases x0 with
    | true =>
      go_wp2_with fail
      refine p4.mono ?_
      rintro e1 w2 ⟨rfl, hw2⟩
      have K4 := Lib.hid (K2.out.step hw2)
      clear p4 hw2
      have s4 := K4.out.1.seven
      have t4 := K4.out.2.1.four
      cases v4 with
      | false =>
        go_wp2_with fail
        go_ret
        exact ⟨rfl, K4.out.2.2⟩
      | true =>
      have p6 := q6.out _ (HL.out.1.step K4.out.2.2) (HL.out.2.2.1.step K4.out.2.2)
      cases th with
      | true =>
        go_wp2_with fail
        refine p6.mono ?_
        rintro e1 w3 ⟨rfl, hw3⟩
        have K6 := Lib.hid (K4.out.step hw3)
        clear p6 hw3
        cases v6 with
        | false =>
          go_wp2_with fail
          go_ret
          exact ⟨rfl, K6.out.2.2⟩
        | true =>
        have p7 := q7.out _ (HL.out.1.step K6.out.2.2) (HL.out.2.2.2.step K6.out.2.2)
        have s6 := K6.out.1.seven
        have t6 := K6.out.2.1.four
        cases el with
        | true =>
          go_wp2_with fail
          refine p7.mono ?_
          rintro e1 w4 ⟨rfl, hw4⟩
          go_wp2_with fail
          go_ret
          exact ⟨by cases v7 <;> rfl, bth5 K6.out.2.2 hw4⟩
        | false =>
        cases z3 with
        | false =>
          go_wp2_with fail
          go_ret
          exact ⟨rfl, K6.out.2.2⟩
        | true =>
        go_wp2_with fail
        refine p7.mono ?_
        rintro e1 w4 ⟨rfl, hw4⟩
        go_wp2_with fail
        go_ret
        exact ⟨by cases v7 <;> rfl, bth5 K6.out.2.2 hw4⟩
      | false =>
      cases z2 with
      | false =>
        go_wp2_with fail
        go_ret
        exact ⟨rfl, K4.out.2.2⟩
      | true =>
      go_wp2_with fail
      refine p6.mono ?_
      rintro e1 w3 ⟨rfl, hw3⟩
      have K6 := Lib.hid (K4.out.step hw3)
      clear p6 hw3
      cases v6 with
      | false =>
        go_wp2_with fail
        go_ret
        exact ⟨rfl, K6.out.2.2⟩
      | true =>
      have p7 := q7.out _ (HL.out.1.step K6.out.2.2) (HL.out.2.2.2.step K6.out.2.2)
      have s6 := K6.out.1.seven
      have t6 := K6.out.2.1.four
      cases el with
      | true =>
        go_wp2_with fail
        refine p7.mono ?_
        rintro e1 w4 ⟨rfl, hw4⟩
        go_wp2_with fail
        go_ret
        exact ⟨by cases v7 <;> rfl, bth5 K6.out.2.2 hw4⟩
      | false =>
      cases z3 with
      | false =>
        go_wp2_with fail
        go_ret
        exact ⟨rfl, K6.out.2.2⟩
      | true =>
      go_wp2_with fail
      refine p7.mono ?_
      rintro e1 w4 ⟨rfl, hw4⟩
      go_wp2_with fail
      go_ret
      exact ⟨by cases v7 <;> rfl, bth5 K6.out.2.2 hw4⟩
    | false =>
    cases x1 with
    | false =>
      go_wp2_with fail
      go_ret
      exact ⟨rfl, K2.out.2.2⟩
    | true =>
    go_wp2_with fail
    refine p4.mono ?_
    rintro e1 w2 ⟨rfl, hw2⟩
    have K4 := Lib.hid (K2.out.step hw2)
    clear p4 hw2
    have s4 := K4.out.1.seven
    have t4 := K4.out.2.1.four
    cases v4 with
    | false =>
      go_wp2_with fail
      go_ret
      exact ⟨rfl, K4.out.2.2⟩
    | true =>
    have p6 := q6.out _ (HL.out.1.step K4.out.2.2) (HL.out.2.2.1.step K4.out.2.2)
    cases th with
    | true =>
      go_wp2_with fail
      refine p6.mono ?_
      rintro e1 w3 ⟨rfl, hw3⟩
      have K6 := Lib.hid (K4.out.step hw3)
      clear p6 hw3
      cases v6 with
      | false =>
        go_wp2_with fail
        go_ret
        exact ⟨rfl, K6.out.2.2⟩
      | true =>
      have p7 := q7.out _ (HL.out.1.step K6.out.2.2) (HL.out.2.2.2.step K6.out.2.2)
      have s6 := K6.out.1.seven
      have t6 := K6.out.2.1.four
      cases el with
      | true =>
        go_wp2_with fail
        refine p7.mono ?_
        rintro e1 w4 ⟨rfl, hw4⟩
        go_wp2_with fail
        go_ret
        exact ⟨by cases v7 <;> rfl, bth5 K6.out.2.2 hw4⟩
      | false =>
      cases z3 with
      | false =>
        go_wp2_with fail
        go_ret
        exact ⟨rfl, K6.out.2.2⟩
      | true =>
      go_wp2_with fail
      refine p7.mono ?_
      rintro e1 w4 ⟨rfl, hw4⟩
      go_wp2_with fail
      go_ret
      exact ⟨by cases v7 <;> rfl, bth5 K6.out.2.2 hw4⟩
    | false =>
    cases z2 with
    | false =>
      go_wp2_with fail
      go_ret
      exact ⟨rfl, K4.out.2.2⟩
    | true =>
    go_wp2_with fail
    refine p6.mono ?_
    rintro e1 w3 ⟨rfl, hw3⟩
    have K6 := Lib.hid (K4.out.step hw3)
    clear p6 hw3
    cases v6 with
    | false =>
      go_wp2_with fail
      go_ret
      exact ⟨rfl, K6.out.2.2⟩
    | true =>
    have p7 := q7.out _ (HL.out.1.step K6.out.2.2) (HL.out.2.2.2.step K6.out.2.2)
    have s6 := K6.out.1.seven
    have t6 := K6.out.2.1.four
    cases el with
    | true =>
      go_wp2_with fail
      refine p7.mono ?_
      rintro e1 w4 ⟨rfl, hw4⟩
      go_wp2_with fail
      go_ret
      exact ⟨by cases v7 <;> rfl, bth5 K6.out.2.2 hw4⟩
    | false =>
    cases z3 with
    | false =>
      go_wp2_with fail
      go_ret
      exact ⟨rfl, K6.out.2.2⟩
    | true =>
    go_wp2_with fail
    refine p7.mono ?_
    rintro e1 w4 ⟨rfl, hw4⟩
    go_wp2_with fail
    go_ret
    exact ⟨by cases v7 <;> rfl, bth5 K6.out.2.2 hw4⟩
  · rw [rgs1_out hk]
    unfold sval
    generalize e.k = k at *
    rcases (show k < 0 ∨ (¬ k < 0 ∧ 6 < k) by omega) with h | ⟨h, h2⟩
    · go_enter Tryd.func55, Tryd.ntmps55
      go_wp2_with fail
      go_ret
      exact ⟨rfl, hb1.out⟩
    · go_enter Tryd.func55, Tryd.ntmps55
      go_wp2_with fail
      go_ret
      exact ⟨rfl, hb1.out⟩

set_option maxHeartbeats 4000000 in
theorem astAllS (N : Nat) : ∀ (es : List SV), sbk es ≤ N → N ≤ 4000000 → AllSC es := by
  induction N using Nat.strongRecOn with
  | ind N ih =>
  intro es hN hNN A c w hL hx
  have hlen := sbk_len es
  obtain ⟨n, hn⟩ : ∃ n, n = es.length := ⟨_, rfl⟩
  obtain ⟨b, hb⟩ : ∃ b, b = rgs es := ⟨_, rfl⟩
  rw [← hb]
  have HB := Lib.hid hb
  have HX := Lib.hid (And.intro hL hx)
  rw [← hn]
  rw [← hn] at hlen
  have HN := Lib.hid hn
  have IH := Lib.hid ih
  have hnn : n ≤ 4000000 := by omega
  have hS := Lib.hid hN
  clear hn hx ih hL hb hN
  go_enter Tryd.func54, Tryd.ntmps54
  go_wp2_with fail
  go_loopw [9] (fun v W => ∃ i : Nat, i ≤ n ∧ v = .int .i64 i ∧ Hid (∀ j : Nat, j < i → ∀ e, es[j]? = some e → rgs1 e = true) ∧ Hid (Below w.heap.size w W)) (fun v _ => n - (intOf v).toNat)
  case atStart => exact ⟨0, by omega, rfl, fun j hj => absurd hj (by omega), Below.refl _ _⟩
  case round =>
    obtain ⟨i, hi, rfl, hst, hbw⟩ := hrel
    by_cases hlt : i < n
    · have hlt' : (i : Int) < n := by omega
      obtain ⟨ad, e, rfl, he, A1, c1, A2, c2, A3, c3, h0, h1, h2, h3, h4, h5, h6, hx1, hx2, hx3⟩ := (HX.out.2.step hbw.out).el (i := i) (by rw [← HN.out]; exact hlt)
      have hb1 := Lib.hid (bnew5 wr (.cells #[.int .i64 e.k, .string ⟨e.x.toArray⟩, .slice A1 e.es.length c1, .slice A2 e.ts.length c2, .slice A3 e.us.length c3, .int .i64 e.l, .int .i64 e.c] 62))
      have hbk := sbk_get he
      have hbk2 := sbk1_eq e
      have hS2 := hS.out
      have hq := astRS1 e (by omega) (IH.out (sbk e.ts) (by omega) e.ts (Nat.le_refl _) (by omega)) (IH.out (sbk e.us) (by omega) e.us (Nat.le_refl _) (by omega)) A1 c1 A2 c2 A3 c3 _ (HX.out.1.step (bth5 hbw.out hb1.out)) (hx1.step hb1.out) (hx2.step hb1.out) (hx3.step hb1.out)
      have HE := Lib.hid he
      clear he hx1 hx2 hx3 hbk2 hbk hS2
      unfold sval at hq
      generalize e.es.length = m1 at *
      generalize e.ts.length = m2 at *
      generalize e.us.length = m3 at *
      go_wp2_with fail
      refine hq.mono ?_
      rintro v1 w1 ⟨rfl, hw1⟩
      clear hq
      cases hv : rgs1 e with
      | true =>
        have hst2 : Hid (∀ j : Nat, j < i + 1 → ∀ t, es[j]? = some t → rgs1 t = true) := fun j hj t' ht' => by
          rcases Nat.lt_or_ge j i with h | h
          · exact hst.out j h t' ht'
          · obtain rfl : j = i := by omega
            have := HE.out.symm.trans ht'
            injection this with this
            rw [← this]; exact hv
        clear hst hv
        go_wp2_with fail
        exact ⟨⟨i + 1, by omega, by go_num, hst2, bth5 (bth5 hbw.out hb1.out) hw1⟩, by simp [intOf]; omega⟩
      | false =>
        have hvv : Hid (b = false) := by show b = false; rw [HB.out]; exact rgs_no HE.out hv
        clear hst hv
        go_wp2_with fail
        go_ret
        exact ⟨by rw [hvv.out]; rfl, bth5 (bth5 hbw.out hb1.out) hw1⟩
    · obtain rfl : i = n := by omega
      have hlt' : ¬ (i : Int) < i := by omega
      have hvv : Hid (b = true) := by
        show b = true
        rw [HB.out]
        exact rgs_yes fun j a hj ha => hst.out j (by rw [HN.out]; exact hj) a ha
      clear hst
      go_wp2_with fail
      go_ret
      exact ⟨by rw [hvv.out]; rfl, hbw.out⟩

set_option maxHeartbeats 16000000 in
theorem astRD1 (e : DV) (hN : dbk1 e ≤ 4000000) (A1 : Option Addr) (c1 : Nat) (A2 : Option Addr) (c2 : Nat) (w : World) (hL : LaidA w) (hx1 : RowS w A1 e.ps.length e.ps) (hx2 : SR w A2 e.body) : Calls Tryd.prog 53 #[dval e A1 c1 A2 c2] w fun v w' => v = .returned (.bool (rgd1 e)) ∧ Below w.heap.size w w' := by
  have hb1 := Lib.hid (bnew5 w (.cells #[.int .i64 e.k, .string ⟨e.x.toArray⟩, .int .i64 e.lo, .int .i64 e.hi, .int .i64 e.sz, .slice A1 e.ps.length c1, .slice A2 e.body.length c2, .int .i64 e.l, .int .i64 e.c] 84))
  by_cases hk : 0 ≤ e.k ∧ e.k ≤ 4
  · obtain ⟨k, hk2⟩ : ∃ k : Nat, e.k = k := ⟨e.k.toNat, by omega⟩
    have hk5 : k < 5 := by omega
    obtain ⟨li, si, bo, c0, c1', c2', hok⟩ := drow w hL e.x e.lo e.hi e.sz e.ps.length e.body.length k hk5
    have h1 : ¬ (k : Int) < 0 := by omega
    have h2 : ¬ 4 < (k : Int) := by omega
    have h3 : (k : Int) < 5 := by omega
    have hV : Hid (rgd1 e = (name6 e.x && (rnum6 e.sz si && ((li || ((e.lo == 0) && (e.hi == 0))) && ((bo || (((e.ps.length : Int) == 0) && ((e.body.length : Int) == 0))) && (e.ps.all name6 && rgs e.body)))))) := by
      show rgd1 e = _
      unfold rgd1
      rw [hk2, hok]
      generalize e.ps.all name6 = b1
      generalize rgs e.body = b2
      generalize name6 e.x = b3
      generalize rnum6 e.sz si = b4
      generalize (li || ((e.lo == 0) && (e.hi == 0))) = b5
      generalize (bo || (((e.ps.length : Int) == 0) && ((e.body.length : Int) == 0))) = b6
      revert b1 b2 b3 b4 b5 b6
      decide
    rw [hV.out]
    rw [hk2] at hb1
    have K0 := Lib.hid (TwoB.new w [.int .i64 (k : Int), .string ⟨e.x.toArray⟩, .int .i64 e.lo, .int .i64 e.hi, .int .i64 e.sz, .slice A1 e.ps.length c1, .slice A2 e.body.length c2, .int .i64 e.l, .int .i64 e.c] [.bool li, .bool si, .bool bo] 84 119)
    have hN2 : dbk1 e = 1 + e.x.length + pbk e.ps + sbk e.body := rfl
    have p1 := astName e.x (by omega) _ (hL.words.step K0.out.2.2)
    have q2 := Lib.hid (fun W => astRNumber e.sz si W)
    have q5 := Lib.hid (fun W (h1 : LaidW W) (h2 : RowS W A1 e.ps.length e.ps) => astAllT (c := c1) h2 (by omega) h1)
    have q6 := Lib.hid (fun W (h1 : LaidA W) (h2 : SR W A2 e.body) => astAllS (sbk e.body) e.body (Nat.le_refl _) (by omega) A2 c2 W h1 h2)
    have HL := Lib.hid (And.intro hL (And.intro hx1 hx2))
    obtain ⟨v1, hv1⟩ : ∃ v, v = name6 e.x := ⟨_, rfl⟩
    obtain ⟨v2, hv2⟩ : ∃ v, v = rnum6 e.sz si := ⟨_, rfl⟩
    obtain ⟨y0, hy0⟩ : ∃ v, v = (e.lo == 0) := ⟨_, rfl⟩
    obtain ⟨y1, hy1⟩ : ∃ v, v = (e.hi == 0) := ⟨_, rfl⟩
    obtain ⟨z1, hz1⟩ : ∃ v, v = ((e.ps.length : Int) == 0) := ⟨_, rfl⟩
    obtain ⟨z2, hz2⟩ : ∃ v, v = ((e.body.length : Int) == 0) := ⟨_, rfl⟩
    obtain ⟨v5, hv5⟩ : ∃ v, v = e.ps.all name6 := ⟨_, rfl⟩
    obtain ⟨v6, hv6⟩ : ∃ v, v = rgs e.body := ⟨_, rfl⟩
    rw [← hv1] at p1
    rw [← hv2] at q2
    rw [← hv5] at q5
    rw [← hv6] at q6
    rw [← hv1, ← hv2, ← hy0, ← hy1, ← hz1, ← hz2, ← hv5, ← hv6]
    replace hy0 := hy0.symm
    replace hy1 := hy1.symm
    replace hz1 := hz1.symm
    replace hz2 := hz2.symm
    unfold dval
    rw [hk2]
    have hg5 : 3 < w.heap.size := World.block_lt_of_cell? w _ c0
    clear hv1 hv2 hv5 hv6 hV hok hx1 hx2 hL hk hk2 hN hN2 hk5
    generalize e.ps.length = m1 at *
    generalize e.body.length = m2 at *
    go_enter Tryd.func53, Tryd.ntmps53
    go_wp2_with fail
    refine p1.mono ?_
    rintro e1 w1 ⟨rfl, hw1⟩
    have K2 := Lib.hid (K0.out.step hw1)
    clear p1 hw1 K0
    have s2 := K2.out.1.nine
    have t2 := K2.out.2.1.three
    have p5 := q5.out _ (HL.out.1.words.step K2.out.2.2) (HL.out.2.1.below K2.out.2.2)
    have p2 := q2.out w1
    cases v1 with
    | false =>
      go_wp2_with fail
      go_ret
      exact ⟨rfl, K2.out.2.2⟩
    | true =>
    go_wp2_with fail
    refine p2.mono ?_
    rintro e1 w2 ⟨rfl, rfl⟩
    clear p2
    cases v2 with
    | false =>
      go_wp2_with fail
      go_ret
      exact ⟨rfl, K2.out.2.2⟩
    | true =>
    cases li with
    | true =>
      cases bo with
      | true =>
        go_wp2_with fail
        refine p5.mono ?_
        rintro e1 w3 ⟨rfl, hw3⟩
        have K5 := Lib.hid (K2.out.step hw3)
        clear p5 hw3
        have s5 := K5.out.1.nine
        have t5 := K5.out.2.1.three
        have p6 := q6.out _ (HL.out.1.step K5.out.2.2) (HL.out.2.2.step K5.out.2.2)
        cases v5 with
        | false =>
          go_wp2_with fail
          go_ret
          exact ⟨rfl, K5.out.2.2⟩
        | true =>
        go_wp2_with fail
        refine p6.mono ?_
        rintro e1 w4 ⟨rfl, hw4⟩
        go_wp2_with fail
        go_ret
        exact ⟨by cases v6 <;> rfl, bth5 K5.out.2.2 hw4⟩
      | false =>
      cases z1 with
      | false =>
        go_wp2_with fail
        go_ret
        exact ⟨rfl, K2.out.2.2⟩
      | true =>
      cases z2 with
      | false =>
        go_wp2_with fail
        go_ret
        exact ⟨rfl, K2.out.2.2⟩
      | true =>
      go_wp2_with fail
      refine p5.mono ?_
      rintro e1 w3 ⟨rfl, hw3⟩
      have K5 := Lib.hid (K2.out.step hw3)
      clear p5 hw3
      have s5 := K5.out.1.nine
      have t5 := K5.out.2.1.three
      have p6 := q6.out _ (HL.out.1.step K5.out.2.2) (HL.out.2.2.step K5.out.2.2)
      cases v5 with
      | false =>
        go_wp2_with fail
        go_ret
        exact ⟨rfl, K5.out.2.2⟩
      | true =>
      go_wp2_with fail
      refine p6.mono ?_
      rintro e1 w4 ⟨rfl, hw4⟩
      go_wp2_with fail
      go_ret
      exact ⟨by cases v6 <;> rfl, bth5 K5.out.2.2 hw4⟩
    | false =>
    cases y0 with
    | false =>
      go_wp2_with fail
      go_ret
      exact ⟨rfl, K2.out.2.2⟩
    | true =>
    cases y1 with
    | false =>
      go_wp2_with fail
      go_ret
      exact ⟨rfl, K2.out.2.2⟩
    | true =>
    cases bo with
    | true =>
      go_wp2_with fail
      refine p5.mono ?_
      rintro e1 w3 ⟨rfl, hw3⟩
      have K5 := Lib.hid (K2.out.step hw3)
      clear p5 hw3
      have s5 := K5.out.1.nine
      have t5 := K5.out.2.1.three
      have p6 := q6.out _ (HL.out.1.step K5.out.2.2) (HL.out.2.2.step K5.out.2.2)
      cases v5 with
      | false =>
        go_wp2_with fail
        go_ret
        exact ⟨rfl, K5.out.2.2⟩
      | true =>
      go_wp2_with fail
      refine p6.mono ?_
      rintro e1 w4 ⟨rfl, hw4⟩
      go_wp2_with fail
      go_ret
      exact ⟨by cases v6 <;> rfl, bth5 K5.out.2.2 hw4⟩
    | false =>
    cases z1 with
    | false =>
      go_wp2_with fail
      go_ret
      exact ⟨rfl, K2.out.2.2⟩
    | true =>
    cases z2 with
    | false =>
      go_wp2_with fail
      go_ret
      exact ⟨rfl, K2.out.2.2⟩
    | true =>
    go_wp2_with fail
    refine p5.mono ?_
    rintro e1 w3 ⟨rfl, hw3⟩
    have K5 := Lib.hid (K2.out.step hw3)
    clear p5 hw3
    have s5 := K5.out.1.nine
    have t5 := K5.out.2.1.three
    have p6 := q6.out _ (HL.out.1.step K5.out.2.2) (HL.out.2.2.step K5.out.2.2)
    cases v5 with
    | false =>
      go_wp2_with fail
      go_ret
      exact ⟨rfl, K5.out.2.2⟩
    | true =>
    go_wp2_with fail
    refine p6.mono ?_
    rintro e1 w4 ⟨rfl, hw4⟩
    go_wp2_with fail
    go_ret
    exact ⟨by cases v6 <;> rfl, bth5 K5.out.2.2 hw4⟩
  · rw [rgd1_out hk]
    unfold dval
    generalize e.k = k at *
    rcases (show k < 0 ∨ (¬ k < 0 ∧ 4 < k) by omega) with h | ⟨h, h2⟩
    · go_enter Tryd.func53, Tryd.ntmps53
      go_wp2_with fail
      go_ret
      exact ⟨rfl, hb1.out⟩
    · go_enter Tryd.func53, Tryd.ntmps53
      go_wp2_with fail
      go_ret
      exact ⟨rfl, hb1.out⟩
theorem dbk_len (ds : List DV) : ds.length ≤ dbk ds := Nat.le_trans (dsz_len ds) (dsz_bk ds)

set_option maxHeartbeats 4000000 in
theorem astAllD (es : List DV) (hN : dbk es ≤ 4000000) (A : Option Addr) (c : Nat) (w : World) (hL : LaidA w) (hx : DR w A es) : Calls Tryd.prog 52 #[.slice A es.length c, .func (.func 53) #[] #[]] w fun e w' => e = .returned (.bool (rgd es)) ∧ Below w.heap.size w w' := by
  have hlen := dbk_len es
  obtain ⟨n, hn⟩ : ∃ n, n = es.length := ⟨_, rfl⟩
  obtain ⟨b, hb⟩ : ∃ b, b = rgd es := ⟨_, rfl⟩
  rw [← hb]
  have HB := Lib.hid hb
  have HX := Lib.hid (And.intro hL hx)
  rw [← hn]
  rw [← hn] at hlen
  have HN := Lib.hid hn
  have hnn : n ≤ 4000000 := by omega
  have hS := Lib.hid hN
  clear hn hx hL hb hN
  go_enter Tryd.func52, Tryd.ntmps52
  go_wp2_with fail
  go_loopw [9] (fun v W => ∃ i : Nat, i ≤ n ∧ v = .int .i64 i ∧ Hid (∀ j : Nat, j < i → ∀ e, es[j]? = some e → rgd1 e = true) ∧ Hid (Below w.heap.size w W)) (fun v _ => n - (intOf v).toNat)
  case atStart => exact ⟨0, by omega, rfl, fun j hj => absurd hj (by omega), Below.refl _ _⟩
  case round =>
    obtain ⟨i, hi, rfl, hst, hbw⟩ := hrel
    by_cases hlt : i < n
    · have hlt' : (i : Int) < n := by omega
      obtain ⟨ad, e, rfl, he, A1, c1, A2, c2, h0, h1, h2, h3, h4, h5, h6, h7, h8, hx1, hx2⟩ := (HX.out.2.step hbw.out).el (i := i) (by rw [← HN.out]; exact hlt)
      have hb1 := Lib.hid (bnew5 wr (.cells #[.int .i64 e.k, .string ⟨e.x.toArray⟩, .int .i64 e.lo, .int .i64 e.hi, .int .i64 e.sz, .slice A1 e.ps.length c1, .slice A2 e.body.length c2, .int .i64 e.l, .int .i64 e.c] 84))
      have hbk := dbk_get he
      have hS2 := hS.out
      have hq := astRD1 e (by omega) A1 c1 A2 c2 _ (HX.out.1.step (bth5 hbw.out hb1.out)) (hx1.below hb1.out) (hx2.step hb1.out)
      have HE := Lib.hid he
      clear he hx1 hx2 hbk hS2
      unfold dval at hq
      generalize e.ps.length = m1 at *
      generalize e.body.length = m2 at *
      go_wp2_with fail
      refine hq.mono ?_
      rintro v1 w1 ⟨rfl, hw1⟩
      clear hq
      cases hv : rgd1 e with
      | true =>
        have hst2 : Hid (∀ j : Nat, j < i + 1 → ∀ t, es[j]? = some t → rgd1 t = true) := fun j hj t' ht' => by
          rcases Nat.lt_or_ge j i with h | h
          · exact hst.out j h t' ht'
          · obtain rfl : j = i := by omega
            have := HE.out.symm.trans ht'
            injection this with this
            rw [← this]; exact hv
        clear hst hv
        go_wp2_with fail
        exact ⟨⟨i + 1, by omega, by go_num, hst2, bth5 (bth5 hbw.out hb1.out) hw1⟩, by simp [intOf]; omega⟩
      | false =>
        have hvv : Hid (b = false) := by show b = false; rw [HB.out]; exact all_no HE.out hv
        clear hst hv
        go_wp2_with fail
        go_ret
        exact ⟨by rw [hvv.out]; rfl, bth5 (bth5 hbw.out hb1.out) hw1⟩
    · obtain rfl : i = n := by omega
      have hlt' : ¬ (i : Int) < i := by omega
      have hvv : Hid (b = true) := by
        show b = true
        rw [HB.out]
        exact all_yes fun j a hj ha => hst.out j (by rw [HN.out]; exact hj) a ha
      clear hst
      go_wp2_with fail
      go_ret
      exact ⟨by rw [hvv.out]; rfl, hbw.out⟩

set_option maxHeartbeats 4000000 in
theorem astRight6 (ds : List DV) (mn : List SV) (hs : sbk mn + dbk ds ≤ 4000000) (A : Option Addr) (ca : Nat) (B : Option Addr) (cb : Nat) (w : World) (hL : LaidA w) (hx : DR w A ds) (hy : SR w B mn) : Calls Tryd.prog 25 #[pval A ds.length ca B mn.length cb] w fun e w' => e = .returned (.bool (rgd ds && rgs mn)) ∧ Below w.heap.size w w' := by
  unfold pval
  have k0 : Hid (Box (w.alloc (.cells #[.slice A ds.length ca, .slice B mn.length cb] 41)) w.heap.size [.slice A ds.length ca, .slice B mn.length cb] ∧ Below w.heap.size w (w.alloc (.cells #[.slice A ds.length ca, .slice B mn.length cb] 41))) := ⟨Box.new w [.slice A ds.length ca, .slice B mn.length cb] 41, bnew5 w _⟩
  have q1 := astAllD ds (by omega) A ca _ (hL.step k0.out.2) (hx.step k0.out.2)
  have q2 := Lib.hid (fun W h1 h2 => astAllS (sbk mn) mn (Nat.le_refl _) (by omega) B cb W h1 h2)
  have hY := Lib.hid (And.intro hL hy)
  obtain ⟨b1, hb1⟩ : ∃ b1, b1 = rgd ds := ⟨_, rfl⟩
  obtain ⟨b2, hb2⟩ : ∃ b2, b2 = rgs mn := ⟨_, rfl⟩
  rw [← hb1] at q1
  rw [← hb2] at q2
  rw [← hb1, ← hb2]
  clear hx hy hL hb1 hb2 hs
  generalize ds.length = n at *
  go_enter Tryd.func25, Tryd.ntmps25
  go_wp2_with fail
  refine q1.mono ?_
  rintro e1 w1 ⟨rfl, hw1⟩
  have k1 := Lib.hid (And.intro (k0.out.1.step hw1) (bth5 k0.out.2 hw1))
  have s1 := k1.out.1.two
  have p1 := q2.out w1 (hY.out.1.step k1.out.2) (hY.out.2.step k1.out.2)
  clear q1 k0
  cases b1 with
  | false =>
    go_wp2_with fail
    go_ret
    exact ⟨rfl, k1.out.2⟩
  | true =>
  go_wp2_with fail
  refine p1.mono ?_
  rintro e1 w2 ⟨rfl, hw2⟩
  go_wp2_with fail
  go_ret
  exact ⟨by cases b2 <;> rfl, bth5 k1.out.2 hw2⟩
end Go.Proofs.YtkmioieanopafaaDoor
