/- Right expressions by the landed ast. -/
import Derived.Test.YtkmioieanopafaaDoorAstR
namespace Go.Proofs.YtkmioieanopafaaDoor
open Go.RowKit

theorem Box.four {W : World} {g : Nat} {v0 v1 v2 v3 : Value} (h : Box W g [v0, v1, v2, v3]) : W.cell? ⟨g, 0, none⟩ = some v0 ∧ W.cell? ⟨g, 1, none⟩ = some v1 ∧ W.cell? ⟨g, 2, none⟩ = some v2 ∧ W.cell? ⟨g, 3, none⟩ = some v3 :=
  ⟨(h 0 _ rfl).1, (h 1 _ rfl).1, (h 2 _ rfl).1, (h 3 _ rfl).1⟩
/-- What all answers over a row of expressions. -/
def AllXC (es : List XV) : Prop := ∀ (A : Option Addr) (c : Nat) (w : World), LaidA w → XR w A es → Calls Tryd.prog 88 #[.slice A es.length c, .func (.func 89) #[] #[]] w fun e w' => e = .returned (.bool (rgx es)) ∧ Below w.heap.size w w'

/-- The two boxes of a call. -/
def TwoB (w W : World) (vs us : List Value) : Prop := Box W w.heap.size vs ∧ Box W (w.heap.size + 1) us ∧ Below w.heap.size w W
theorem TwoB.new (w : World) (vs us : List Value) (T U : TypeId) : TwoB w ((w.alloc (.cells vs.toArray T)).alloc (.cells us.toArray U)) vs us := by
  refine ⟨(Box.new w vs T).step (bnew5 _ _), ?_, bth5 (bnew5 _ _) (bnew5 _ _)⟩
  have h := Box.new (w.alloc (.cells vs.toArray T)) us U
  rwa [show (w.alloc (.cells vs.toArray T)).heap.size = w.heap.size + 1 by simp] at h
theorem TwoB.step {w W W' : World} {vs us : List Value} (h : TwoB w W vs us) (hb : Below W.heap.size W W') : TwoB w W' vs us := ⟨h.1.step hb, h.2.1.step hb, bth5 h.2.2 hb⟩

theorem rgx1_out {e : XV} (h : ¬ (0 ≤ e.k ∧ e.k ≤ 4)) : rgx1 e = false := by
  rw [rgx1_eq]
  have : okX e.k e.n e.x e.o e.gs.length = false := by
    unfold okX
    rw [decide_eq_false]
    omega
  rw [this, Bool.and_false]

set_option maxHeartbeats 8000000 in
theorem astRX1 (e : XV) (hN : xbk1 e ≤ 4000000) (ih : AllXC e.gs) (A : Option Addr) (c : Nat) (w : World) (hL : LaidA w) (hx : XR w A e.gs) : Calls Tryd.prog 89 #[xval e A c] w fun v w' => v = .returned (.bool (rgx1 e)) ∧ Below w.heap.size w w' := by
  have hb1 := Lib.hid (bnew5 w (.cells #[.int .i64 e.k, .int .i64 e.n, .string ⟨e.x.toArray⟩, .int .i64 e.o, .slice A e.gs.length c, .int .i64 e.l, .int .i64 e.c] 66))
  by_cases hk : 0 ≤ e.k ∧ e.k ≤ 4
  · obtain ⟨k, hk2⟩ : ∃ k : Nat, e.k = k := ⟨e.k.toNat, by omega⟩
    have hk5 : k < 5 := by omega
    obtain ⟨nb, nm, op, ar, har, c0, c1, c2, c3, hok⟩ := xrow w hL e.n e.x e.o e.gs.length k hk5
    have h1 : ¬ (k : Int) < 0 := by omega
    have h2 : ¬ 4 < (k : Int) := by omega
    have h3 : (k : Int) < 5 := by omega
    have hV : Hid (rgx1 e = (rnum6 e.n nb && (rnam6 e.x nm && (rop6 e.o op ar && (decide (e.gs.length = ar) && rgx e.gs))))) := by
      show rgx1 e = _
      rw [rgx1_eq, hk2, hok, Bool.and_comm]
      simp only [Bool.and_assoc]
    rw [hV.out]
    rw [hk2] at hb1
    have K0 := Lib.hid (TwoB.new w [.int .i64 (k : Int), .int .i64 e.n, .string ⟨e.x.toArray⟩, .int .i64 e.o, .slice A e.gs.length c, .int .i64 e.l, .int .i64 e.c] [.bool nb, .bool nm, .bool op, .int .i64 (ar : Int)] 66 143)
    have q1 := fun W => astRNumber e.n nb W
    have q2 := Lib.hid (fun W (h : LaidW W) => astRName e.x nm (by rw [xbk1_eq] at hN; omega) W h)
    have q3 := fun W => astROp e.o op ar W
    have q4 := Lib.hid (fun W (h1 : LaidA W) (h2 : XR W A e.gs) => ih A c W h1 h2)
    have HL := Lib.hid (And.intro hL hx)
    obtain ⟨v1, hv1⟩ : ∃ v, v = rnum6 e.n nb := ⟨_, rfl⟩
    obtain ⟨v2, hv2⟩ : ∃ v, v = rnam6 e.x nm := ⟨_, rfl⟩
    obtain ⟨v3, hv3⟩ : ∃ v, v = rop6 e.o op ar := ⟨_, rfl⟩
    obtain ⟨v5, hv5⟩ : ∃ v, v = rgx e.gs := ⟨_, rfl⟩
    obtain ⟨v4, hv4⟩ : ∃ v, v = decide (e.gs.length = ar) := ⟨_, rfl⟩
    have hm2 : ((e.gs.length : Int) == (ar : Int)) = v4 := by rw [hv4, Bool.eq_iff_iff]; simp only [beq_iff_eq, decide_eq_true_eq]; omega
    rw [← hv1] at q1
    rw [← hv2] at q2
    rw [← hv3] at q3
    rw [← hv5] at q4
    rw [← hv1, ← hv2, ← hv3, ← hv4, ← hv5]
    unfold xval
    rw [hk2]
    have hg5 : 5 < w.heap.size := World.block_lt_of_cell? w _ c0
    clear hv1 hv2 hv3 hv4 hv5 hV hok ih hx hL hk hk2 hN hk5
    go_enter Tryd.func89, Tryd.ntmps89
    go_wp2_with fail
    refine (q1 _).mono ?_
    rintro e1 w1 ⟨rfl, rfl⟩
    clear q1
    cases v1 with
    | false =>
      go_wp2_with fail
      go_ret
      exact ⟨rfl, K0.out.2.2⟩
    | true =>
    have p2 := q2.out _ (HL.out.1.words.step K0.out.2.2)
    go_wp2_with fail
    refine p2.mono ?_
    rintro e1 w2 ⟨rfl, hw2⟩
    have K2 := Lib.hid (K0.out.step hw2)
    clear p2 q2 hw2 K0
    cases v2 with
    | false =>
      go_wp2_with fail
      go_ret
      exact ⟨rfl, K2.out.2.2⟩
    | true =>
    have s0 := K2.out.1.seven
    have s1 := K2.out.2.1.four
    go_wp2_with fail
    refine (q3 _).mono ?_
    rintro e1 w3 ⟨rfl, rfl⟩
    clear q3
    cases v3 with
    | false =>
      go_wp2_with fail
      go_ret
      exact ⟨rfl, K2.out.2.2⟩
    | true =>
    have p4 := q4.out _ (HL.out.1.step K2.out.2.2) (HL.out.2.step K2.out.2.2)
    clear q4
    generalize e.gs.length = m at *
    cases v4 with
    | false =>
      go_wp2_with fail
      go_ret
      exact ⟨rfl, K2.out.2.2⟩
    | true =>
    go_wp2_with fail
    refine p4.mono ?_
    rintro e1 w4 ⟨rfl, hw4⟩
    go_wp2_with fail
    go_ret
    exact ⟨by cases v5 <;> rfl, bth5 K2.out.2.2 hw4⟩
  · rw [rgx1_out hk]
    unfold xval
    generalize e.k = k at *
    rcases (show k < 0 ∨ (¬ k < 0 ∧ 4 < k) by omega) with h | ⟨h, h2⟩
    · go_enter Tryd.func89, Tryd.ntmps89
      go_wp2_with fail
      go_ret
      exact ⟨rfl, hb1.out⟩
    · go_enter Tryd.func89, Tryd.ntmps89
      go_wp2_with fail
      go_ret
      exact ⟨rfl, hb1.out⟩

set_option maxHeartbeats 2000000 in
theorem astAllX (N : Nat) : ∀ (es : List XV), xbk es ≤ N → N ≤ 4000000 → AllXC es := by
  induction N using Nat.strongRecOn with
  | ind N ih =>
  intro es hN hNN A c w hL hx
  have hlen := xbk_len es
  obtain ⟨n, hn⟩ : ∃ n, n = es.length := ⟨_, rfl⟩
  obtain ⟨b, hb⟩ : ∃ b, b = rgx es := ⟨_, rfl⟩
  rw [← hb]
  have HB := Lib.hid hb
  have HX := Lib.hid (And.intro hL hx)
  rw [← hn]
  rw [← hn] at hlen
  have HN := Lib.hid hn
  have IH := Lib.hid ih
  have hnn : n ≤ 4000000 := by omega
  have hS := Lib.hid hN
  clear hn hx ih hL hb hN
  go_enter Tryd.func88, Tryd.ntmps88
  go_wp2_with fail
  go_loopw [9] (fun v W => ∃ i : Nat, i ≤ n ∧ v = .int .i64 i ∧ Hid (∀ j : Nat, j < i → ∀ e, es[j]? = some e → rgx1 e = true) ∧ Hid (Below w.heap.size w W)) (fun v _ => n - (intOf v).toNat)
  case atStart => exact ⟨0, by omega, rfl, fun j hj => absurd hj (by omega), Below.refl _ _⟩
  case round =>
    obtain ⟨i, hi, rfl, hst, hbw⟩ := hrel
    by_cases hlt : i < n
    · have hlt' : (i : Int) < n := by omega
      obtain ⟨ad, e, rfl, he, A1, c1, h0, h1, h2, h3, h4, h5, h6, hx1⟩ := (HX.out.2.step hbw.out).el (i := i) (by rw [← HN.out]; exact hlt)
      have hb1 := Lib.hid (bnew5 wr (.cells #[.int .i64 e.k, .int .i64 e.n, .string ⟨e.x.toArray⟩, .int .i64 e.o, .slice A1 e.gs.length c1, .int .i64 e.l, .int .i64 e.c] 66))
      have hbk := xbk_get he
      have hbk2 := xbk1_eq e
      have hS2 := hS.out
      have hq := astRX1 e (by omega) (IH.out (xbk e.gs) (by omega) e.gs (Nat.le_refl _) (by omega)) A1 c1 _ (HX.out.1.step (bth5 hbw.out hb1.out)) (hx1.step hb1.out)
      have HE := Lib.hid he
      clear he hx1 hbk hbk2 hS2
      unfold xval at hq
      generalize e.gs.length = m at *
      go_wp2_with fail
      refine hq.mono ?_
      rintro v1 w1 ⟨rfl, hw1⟩
      clear hq
      cases hv : rgx1 e with
      | true =>
        have hst2 : Hid (∀ j : Nat, j < i + 1 → ∀ t, es[j]? = some t → rgx1 t = true) := fun j hj t' ht' => by
          rcases Nat.lt_or_ge j i with h | h
          · exact hst.out j h t' ht'
          · obtain rfl : j = i := by omega
            have := HE.out.symm.trans ht'
            injection this with this
            rw [← this]; exact hv
        clear hst hv
        go_wp2_with fail
        exact ⟨⟨i + 1, by omega, by go_num, hst2, bth5 (bth5 hbw.out hb1.out) hw1⟩, by simp [intOf]; omega⟩
      | false =>
        have hvv : Hid (b = false) := by show b = false; rw [HB.out]; exact rgx_no HE.out hv
        clear hst hv
        go_wp2_with fail
        go_ret
        exact ⟨by rw [hvv.out]; rfl, bth5 (bth5 hbw.out hb1.out) hw1⟩
    · obtain rfl : i = n := by omega
      have hlt' : ¬ (i : Int) < i := by omega
      have hvv : Hid (b = true) := by
        show b = true
        rw [HB.out]
        exact rgx_yes fun j a hj ha => hst.out j (by rw [HN.out]; exact hj) a ha
      clear hst
      go_wp2_with fail
      go_ret
      exact ⟨by rw [hvv.out]; rfl, hbw.out⟩
end Go.Proofs.YtkmioieanopafaaDoor
