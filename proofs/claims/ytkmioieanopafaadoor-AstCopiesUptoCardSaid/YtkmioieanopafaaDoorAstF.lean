/- Right statements: the reference of layer 6. -/
import Derived.Test.YtkmioieanopafaaDoorAstE
namespace Go.Proofs.YtkmioieanopafaaDoor
open Go.RowKit

mutual
def sbk1 : SV → Nat
  | .mk _ x es ts us _ _ => 1 + x.length + xbk es + sbk ts + sbk us
def sbk : List SV → Nat
  | [] => 0
  | e :: r => sbk1 e + sbk r
end
theorem sbk1_eq (e : SV) : sbk1 e = 1 + e.x.length + xbk e.es + sbk e.ts + sbk e.us := by cases e; simp [sbk1, SV.x, SV.es, SV.ts, SV.us]
theorem sbk_get {es : List SV} {i : Nat} {e : SV} (h : es[i]? = some e) : sbk1 e ≤ sbk es := by
  induction es generalizing i with
  | nil => simp at h
  | cons a r ih =>
    cases i with
    | zero => simp at h; subst h; simp [sbk]
    | succ i => have := ih (by simpa using h); simp [sbk]; omega
mutual
theorem ssz1_bk : ∀ e : SV, ssz1 e ≤ sbk1 e
  | .mk k x es ts us l c => by
    have := xsz_bk es
    have := ssz_bk ts
    have := ssz_bk us
    simp only [ssz1, sbk1]; omega
theorem ssz_bk : ∀ es : List SV, ssz es ≤ sbk es
  | [] => by simp [ssz]
  | e :: r => by
    have := ssz1_bk e
    have := ssz_bk r
    simp only [ssz, sbk]; omega
end
theorem sbk_len (es : List SV) : es.length ≤ sbk es := Nat.le_trans (ssz_len es) (ssz_bk es)

/-- Is one right, its parts aside? -/
def okS (k : Int) (x : List UInt8) (n1 n2 n3 : Nat) : Bool :=
  decide ((k = 0 ∧ name6 x = true ∧ n1 = 1 ∧ n2 = 0 ∧ n3 = 0) ∨ (k = 1 ∧ name6 x = true ∧ n1 = 2 ∧ n2 = 0 ∧ n3 = 0) ∨ (k = 2 ∧ x = [] ∧ n1 = 1) ∨ (k = 3 ∧ x = [] ∧ n1 = 1 ∧ n3 = 0) ∨ (k = 4 ∧ x = [] ∧ n1 = 1 ∧ n2 = 0 ∧ n3 = 0) ∨ (k = 5 ∧ name6 x = true ∧ n2 = 0 ∧ n3 = 0) ∨ (k = 6 ∧ x = [] ∧ n1 = 0 ∧ n2 = 0 ∧ n3 = 0))
mutual
def rgs1 : SV → Bool
  | .mk k x es ts us _ _ => rgx es && (rgs ts && (rgs us && okS k x es.length ts.length us.length))
def rgs : List SV → Bool
  | [] => true
  | e :: r => rgs1 e && rgs r
end
theorem rgs1_eq (e : SV) : rgs1 e = (rgx e.es && (rgs e.ts && (rgs e.us && okS e.k e.x e.es.length e.ts.length e.us.length))) := by cases e; simp [rgs1, SV.k, SV.x, SV.es, SV.ts, SV.us]
theorem rgs_all (es : List SV) : rgs es = es.all rgs1 := by
  induction es with
  | nil => simp [rgs]
  | cons a r ih => simp [rgs, ih]
theorem rgs_no {es : List SV} {i : Nat} {e : SV} (h : es[i]? = some e) (hr : rgs1 e = false) : rgs es = false := by
  rw [rgs_all, Bool.eq_false_iff]
  intro ha
  rw [List.all_eq_true] at ha
  have := ha e (List.mem_iff_getElem?.2 ⟨i, h⟩)
  rw [hr] at this
  cases this
theorem rgs_yes {es : List SV} (h : ∀ j e, j < es.length → es[j]? = some e → rgs1 e = true) : rgs es = true := by
  rw [rgs_all, List.all_eq_true]
  intro e he
  obtain ⟨j, hj⟩ := List.mem_iff_getElem?.1 he
  exact h j e (List.getElem?_eq_some_iff.1 hj).1 hj

/-- A statement handed over. -/
def sval (e : SV) (A1 : Option Addr) (c1 : Nat) (A2 : Option Addr) (c2 : Nat) (A3 : Option Addr) (c3 : Nat) : Value := .agg #[.int .i64 e.k, .string ⟨e.x.toArray⟩, .slice A1 e.es.length c1, .slice A2 e.ts.length c2, .slice A3 e.us.length c3, .int .i64 e.l, .int .i64 e.c]
def RightS1 (N : Nat) : Prop := ∀ (e : SV), sbk1 e ≤ N → N ≤ 4000000 → ∀ (A1 : Option Addr) (c1 : Nat) (A2 : Option Addr) (c2 : Nat) (A3 : Option Addr) (c3 : Nat) (w : World), XR w A1 e.es → SR w A2 e.ts → SR w A3 e.us → Calls Tryd.prog 91 #[sval e A1 c1 A2 c2 A3 c3] w fun v w' => v = .returned (.bool (rgs1 e)) ∧ Below w.heap.size w w'
def RightSB (N : Nat) : Prop := ∀ (l : List SV), sbk l ≤ N → N ≤ 4000000 → ∀ (A : Option Addr) (c : Nat) (w : World), SR w A l → Calls Tryd.prog 57 #[.slice A l.length c] w fun v w' => v = .returned (.bool (rgs l)) ∧ Below w.heap.size w w'

set_option maxHeartbeats 4000000 in
theorem refRightSB (N : Nat) (hS : RightS1 N) : RightSB N := by
  intro l hN hNN A c w hx
  obtain ⟨b, hb⟩ : ∃ b, b = rgs l := ⟨_, rfl⟩
  rw [← hb]
  have HB := Lib.hid hb
  have HS := Lib.hid hS
  have hG := Lib.hid (And.intro hN hx)
  have hlen := sbk_len l
  obtain ⟨m, hm⟩ : ∃ m, m = l.length := ⟨_, rfl⟩
  have HM := Lib.hid hm
  rw [← hm] at hlen ⊢
  have hml : m ≤ 4000000 := by omega
  clear hb hx hN hm hlen hS
  go_enter Tryd.func57, Tryd.ntmps57
  go_wp2_with fail
  go_loopw [3] (fun v W => ∃ i : Nat, i ≤ m ∧ v = .int .i64 i ∧ Hid (∀ j e, j < i → l[j]? = some e → rgs1 e = true) ∧ Hid (Below w.heap.size w W)) (fun v _ => m - (intOf v).toNat)
  case atStart => exact ⟨0, by omega, rfl, fun j e hj => absurd hj (by omega), Below.refl _ _⟩
  case round =>
    obtain ⟨i, hi, rfl, hst, hbw⟩ := hrel
    by_cases hlt : i < m
    · have hlt' : (i : Int) < m := by omega
      obtain ⟨ad, e, rfl, he, A1, c1, A2, c2, A3, c3, e0, e1, e2, e3, e4, e5, e6, hx1, hx2, hx3⟩ := (hG.out.2.step hbw.out).el (i := i) (by rw [← HM.out]; exact hlt)
      have hbk := sbk_get he
      have hq2 := HS.out e (by have := hG.out.1; omega) hNN A1 c1 A2 c2 A3 c3 wr hx1 hx2 hx3
      have HE := Lib.hid he
      unfold sval at hq2
      cases hr : rgs1 e with
      | false =>
        have hv : Hid (b = false) := by show b = false; rw [HB.out, rgs_no HE.out hr]
        rw [hr] at hq2
        clear he hbk hx1 hx2 hx3 hst HB hr
        go_wp2_with fail
        refine hq2.mono ?_
        rintro v w1 ⟨rfl, hb1⟩
        go_wp2_with fail
        go_ret
        exact ⟨by rw [hv.out]; rfl, bth5 hbw.out hb1⟩
      | true =>
        have hst2 : Hid (∀ j e, j < i + 1 → l[j]? = some e → rgs1 e = true) := fun j d hj hd => by
          rcases Nat.lt_or_ge j i with h | h
          · exact hst.out j d h hd
          · obtain rfl : j = i := by omega
            have := HE.out.symm.trans hd
            injection this with this
            rw [← this]; exact hr
        rw [hr] at hq2
        clear he hbk hx1 hx2 hx3 hst HB hr
        go_wp2_with fail
        refine hq2.mono ?_
        rintro v w1 ⟨rfl, hb1⟩
        have hbw2 := Lib.hid (bth5 hbw.out hb1)
        go_wp2_with fail
        exact ⟨⟨i + 1, by omega, by go_num, hst2, hbw2⟩, by simp [intOf]; omega⟩
    · obtain rfl : i = m := by omega
      have hlt' : ¬ (i : Int) < i := by omega
      have hv : Hid (b = true) := by
        show b = _
        rw [HB.out, rgs_yes (fun j e hj => hst.out j e (by rw [HM.out]; exact hj))]
      clear HB hst
      go_wp2_with fail
      go_ret
      exact ⟨by rw [hv.out]; rfl, hbw.out⟩

set_option maxHeartbeats 40000000 in
theorem refRightS1 (N : Nat) (hB : ∀ M, M < N → RightSB M) : RightS1 N := by
  intro e hN hNN A1 c1 A2 c2 A3 c3 w hx1 hx2 hx3
  obtain ⟨b, hb⟩ : ∃ b, b = rgs1 e := ⟨_, rfl⟩
  rw [← hb]
  rw [rgs1_eq] at hb
  rw [sbk1_eq] at hN
  unfold sval
  cases e with
  | mk k x gs ts us l c =>
  simp only [SV.k, SV.x, SV.es, SV.ts, SV.us, SV.l, SV.c] at *
  have hq := Lib.hid (refName6 x (by omega))
  have HB := Lib.hid hb
  have hgl := xbk_len gs
  have htl := sbk_len ts
  have hul := sbk_len us
  have hG := Lib.hid (And.intro hN hx1)
  have hT := Lib.hid (fun W (h : SR W A2 ts) => hB (sbk ts) (by omega) ts (Nat.le_refl _) (by omega) A2 c2 W h)
  have hU := Lib.hid (fun W (h : SR W A3 us) => hB (sbk us) (by omega) us (Nat.le_refl _) (by omega) A3 c3 W h)
  have hX := Lib.hid (And.intro hx2 hx3)
  obtain ⟨m, hm⟩ : ∃ m, m = gs.length := ⟨_, rfl⟩
  obtain ⟨n2, hn2⟩ : ∃ m, m = ts.length := ⟨_, rfl⟩
  obtain ⟨n3, hn3⟩ : ∃ m, m = us.length := ⟨_, rfl⟩
  have HM := Lib.hid hm
  rw [← hm, ← hn2, ← hn3] at HB
  rw [← hn2] at hT
  rw [← hn3] at hU
  rw [← hm] at hgl
  rw [← hn2] at htl
  rw [← hn3] at hul
  have hK0 := Lib.hid (And.intro (Box.new w [.int .i64 k, .string ⟨x.toArray⟩, .slice A1 gs.length c1, .slice A2 ts.length c2, .slice A3 us.length c3, .int .i64 l, .int .i64 c] 118) (bnew5 w (.cells [.int .i64 k, .string ⟨x.toArray⟩, .slice A1 gs.length c1, .slice A2 ts.length c2, .slice A3 us.length c3, .int .i64 l, .int .i64 c].toArray 118)))
  rw [← hm, ← hn2, ← hn3] at hK0 ⊢
  have hml : m ≤ 4000000 := by omega
  have hn2l : n2 ≤ 4000000 := by omega
  have hn3l : n3 ≤ 4000000 := by omega
  clear hb hx1 hx2 hx3 hN hm hn2 hn3 hgl htl hul hB
  go_enter Tryd.func91, Tryd.ntmps91
  go_wp2_with fail
  go_loopw [3] (fun v W => ∃ i : Nat, i ≤ m ∧ v = .int .i64 i ∧ Hid (∀ j e, j < i → gs[j]? = some e → rgx1 e = true) ∧ Hid (Box W w.heap.size [.int .i64 k, .string ⟨x.toArray⟩, .slice A1 m c1, .slice A2 n2 c2, .slice A3 n3 c3, .int .i64 l, .int .i64 c] ∧ Below w.heap.size w W)) (fun v _ => m - (intOf v).toNat)
  case atStart => exact ⟨0, by omega, rfl, fun j e hj => absurd hj (by omega), hK0⟩
  case round =>
    obtain ⟨i, hi, rfl, hst, hbw⟩ := hrel
    clear hK0
    have s0 := hbw.out.1.seven
    by_cases hlt : i < m
    · have hlt' : (i : Int) < m := by omega
      obtain ⟨ad, e, rfl, he, A', c', e0, e1, e2, e3, e4, e5, e6, hx'⟩ := (hG.out.2.step hbw.out.2).el (i := i) (by rw [← HM.out]; exact hlt)
      have hbk := xbk_get he
      have hq2 := refRightX (xbk1 e) e (Nat.le_refl _) (by have := hG.out.1; omega) A' c' wr hx'
      have HE := Lib.hid he
      unfold xval at hq2
      cases hr : rgx1 e with
      | false =>
        have hv : Hid (b = false) := by show b = false; rw [HB.out, rgx_no HE.out hr]; rfl
        rw [hr] at hq2
        clear he hbk hx' hst HB hr
        go_wp2_with fail
        refine hq2.mono ?_
        rintro v w1 ⟨rfl, hb1⟩
        go_wp2_with fail
        go_ret
        exact ⟨by rw [hv.out]; rfl, bth5 hbw.out.2 hb1⟩
      | true =>
        have hst2 : Hid (∀ j e, j < i + 1 → gs[j]? = some e → rgx1 e = true) := fun j d hj hd => by
          rcases Nat.lt_or_ge j i with h | h
          · exact hst.out j d h hd
          · obtain rfl : j = i := by omega
            have := HE.out.symm.trans hd
            injection this with this
            rw [← this]; exact hr
        rw [hr] at hq2
        clear he hbk hx' hst HB hr
        go_wp2_with fail
        refine hq2.mono ?_
        rintro v w1 ⟨rfl, hb1⟩
        have hbw2 := Lib.hid (And.intro (hbw.out.1.step hb1) (bth5 hbw.out.2 hb1))
        go_wp2_with fail
        exact ⟨⟨i + 1, by omega, by go_num, hst2, hbw2⟩, by simp [intOf]; omega⟩
    · obtain rfl : i = m := by omega
      have hlt' : ¬ (i : Int) < i := by omega
      have HB2 : Hid (b = (rgs ts && (rgs us && okS k x i n2 n3))) := by
        show b = _
        rw [HB.out, rgx_yes (fun j e hj => hst.out j e (by rw [HM.out]; exact hj))]
        rfl
      have hbb := Lib.hid hbw.out.2
      have hbox := Lib.hid hbw.out.1
      have qt := hT.out wr (hX.out.1.step hbb.out)
      have hkc : k < 0 ∨ 6 < k ∨ (¬ k < 0 ∧ ¬ 6 < k) := by omega
      clear HB hst hG HM hbw hlt hT
      rcases hkc with hk | hk | ⟨hk, hk2⟩
      · have kk : okS k x i n2 n3 = false := by unfold okS; rw [decide_eq_false_iff_not]; rintro (h | h | h | h | h | h | h) <;> exact absurd h.1 (by omega)
        have hv : Hid (b = false) := by show b = _; rw [HB2.out]; simp [kk]
        clear HB2
        generalize (⟨x.toArray⟩ : ByteArray) = xs at *
        go_wp2_with fail
        go_ret
        exact ⟨by rw [hv.out]; rfl, hbb.out⟩
      · have kk : okS k x i n2 n3 = false := by unfold okS; rw [decide_eq_false_iff_not]; rintro (h | h | h | h | h | h | h) <;> exact absurd h.1 (by omega)
        have hk0 : ¬ k < 0 := by omega
        have hv : Hid (b = false) := by show b = _; rw [HB2.out]; simp [kk]
        clear HB2
        generalize (⟨x.toArray⟩ : ByteArray) = xs at *
        go_wp2_with fail
        go_ret
        exact ⟨by rw [hv.out]; rfl, hbb.out⟩
      · cases h1 : rgs ts with
        | false =>
          rw [h1] at qt HB2
          have hv : Hid (b = false) := HB2.out
          clear HB2
          go_wp2_with fail
          refine qt.mono ?_
          rintro v w1 ⟨rfl, hw1⟩
          have s1 := (hbox.out.step hw1).seven
          go_wp2_with fail
          go_ret
          exact ⟨by rw [hv.out]; rfl, bth5 hbb.out hw1⟩
        | true =>
          rw [h1] at qt HB2
          cases h2 : rgs us with
          | false =>
            rw [h2] at HB2 hU
            have hv : Hid (b = false) := HB2.out
            clear HB2
            go_wp2_with fail
            refine qt.mono ?_
            rintro v w1 ⟨rfl, hw1⟩
            have hB1 := Lib.hid (hbox.out.step hw1)
            have hb1 := Lib.hid (bth5 hbb.out hw1)
            clear hbox hbb
            have s1 := hB1.out.seven
            have qu := hU.out w1 (hX.out.2.step hb1.out)
            clear hU hX
            go_wp2_with fail
            refine qu.mono ?_
            rintro v w2 ⟨rfl, hw2⟩
            have s2 := (hB1.out.step hw2).seven
            go_wp2_with fail
            go_ret
            exact ⟨by rw [hv.out]; rfl, bth5 hb1.out hw2⟩
          | true =>
            rw [h2] at HB2 hU
            have HB3 : Hid (b = okS k x i n2 n3) := HB2.out
            clear HB2
            have hkd : k = 0 ∨ k = 1 ∨ k = 2 ∨ k = 3 ∨ k = 4 ∨ k = 5 ∨ k = 6 := by omega
            clear hk hk2
            rcases hkd with rfl | rfl | rfl | rfl | rfl | rfl | rfl
            · have het := Lib.hid (fun h : x = [] => empty_t h)
              have hef := Lib.hid (fun h : ¬ x = [] => empty_f h)
              generalize (⟨x.toArray⟩ : ByteArray) = xs at *
              go_wp2_with fail
              refine qt.mono ?_
              rintro v w1 ⟨rfl, hw1⟩
              have hB1 := Lib.hid (hbox.out.step hw1)
              have hb1 := Lib.hid (bth5 hbb.out hw1)
              clear hbox hbb
              have s1 := hB1.out.seven
              have qu := hU.out w1 (hX.out.2.step hb1.out)
              clear hU hX
              go_wp2_with fail
              refine qu.mono ?_
              rintro v w2 ⟨rfl, hw2⟩
              have hB2 := Lib.hid (hB1.out.step hw2)
              have hb2 := Lib.hid (bth5 hb1.out hw2)
              have s2 := hB2.out.seven
              have hg2 := hB2.out.lt (by simp)
              clear hB1 hb1 s1 qu qt s0
              go_wp2_with fail
              cases h5 : name6 x with
              | false =>
                rw [h5] at hq
                refine (hq.out _).mono ?_
                rintro v w3 ⟨rfl, hw3⟩
                have s3 := ((hB2.out.step (bnew5 _ _)).step hw3).seven
                have hb3 := Lib.hid (bth5 (bth5 hb2.out (bnew5 _ _)) hw3)
                clear hB2 hb2
                have hv : Hid (b = false) := by show b = _; rw [HB3.out]; unfold okS; simp [*]
                clear HB3
                go_wp2_with fail
                go_ret
                exact ⟨by rw [hv.out]; first | rfl | simp [*], hb3.out⟩
              | true =>
                rw [h5] at hq
                refine (hq.out _).mono ?_
                rintro v w3 ⟨rfl, hw3⟩
                have s3 := ((hB2.out.step (bnew5 _ _)).step hw3).seven
                have hb3 := Lib.hid (bth5 (bth5 hb2.out (bnew5 _ _)) hw3)
                clear hB2 hb2
                by_cases hb : i = 1
                · have eb : ((i : Int) == 1) = true := by simp [hb]
                  by_cases hc : n2 = 0
                  · have ec : ((n2 : Int) == 0) = true := by simp [hc]
                    by_cases hd : n3 = 0
                    · have ed : ((n3 : Int) == 0) = true := by simp [hd]
                      have hv : Hid (b = true) := by show b = _; rw [HB3.out]; unfold okS; simp [*]
                      clear HB3
                      go_wp2_with fail
                      go_ret
                      exact ⟨by rw [hv.out]; first | rfl | simp [*], hb3.out⟩
                    · have ed' : ¬ (n3 : Int) = 0 := by omega
                      have ed : ((n3 : Int) == 0) = false := by simp; omega
                      have hv : Hid (b = false) := by show b = _; rw [HB3.out]; unfold okS; simp [*]
                      clear HB3
                      go_wp2_with fail
                      go_ret
                      exact ⟨by rw [hv.out]; first | rfl | simp [*], hb3.out⟩
                  · have ec' : ¬ (n2 : Int) = 0 := by omega
                    have ec : ((n2 : Int) == 0) = false := by simp; omega
                    have hv : Hid (b = false) := by show b = _; rw [HB3.out]; unfold okS; simp [*]
                    clear HB3
                    go_wp2_with fail
                    go_ret
                    exact ⟨by rw [hv.out]; first | rfl | simp [*], hb3.out⟩
                · have eb' : ¬ (i : Int) = 1 := by omega
                  have eb : ((i : Int) == 1) = false := by simp; omega
                  have hv : Hid (b = false) := by show b = _; rw [HB3.out]; unfold okS; simp [*]
                  clear HB3
                  go_wp2_with fail
                  go_ret
                  exact ⟨by rw [hv.out]; first | rfl | simp [*], hb3.out⟩
            · have het := Lib.hid (fun h : x = [] => empty_t h)
              have hef := Lib.hid (fun h : ¬ x = [] => empty_f h)
              generalize (⟨x.toArray⟩ : ByteArray) = xs at *
              go_wp2_with fail
              refine qt.mono ?_
              rintro v w1 ⟨rfl, hw1⟩
              have hB1 := Lib.hid (hbox.out.step hw1)
              have hb1 := Lib.hid (bth5 hbb.out hw1)
              clear hbox hbb
              have s1 := hB1.out.seven
              have qu := hU.out w1 (hX.out.2.step hb1.out)
              clear hU hX
              go_wp2_with fail
              refine qu.mono ?_
              rintro v w2 ⟨rfl, hw2⟩
              have hB2 := Lib.hid (hB1.out.step hw2)
              have hb2 := Lib.hid (bth5 hb1.out hw2)
              have s2 := hB2.out.seven
              have hg2 := hB2.out.lt (by simp)
              clear hB1 hb1 s1 qu qt s0
              go_wp2_with fail
              cases h5 : name6 x with
              | false =>
                rw [h5] at hq
                refine (hq.out _).mono ?_
                rintro v w3 ⟨rfl, hw3⟩
                have s3 := ((hB2.out.step (bnew5 _ _)).step hw3).seven
                have hb3 := Lib.hid (bth5 (bth5 hb2.out (bnew5 _ _)) hw3)
                clear hB2 hb2
                have hv : Hid (b = false) := by show b = _; rw [HB3.out]; unfold okS; simp [*]
                clear HB3
                go_wp2_with fail
                go_ret
                exact ⟨by rw [hv.out]; first | rfl | simp [*], hb3.out⟩
              | true =>
                rw [h5] at hq
                refine (hq.out _).mono ?_
                rintro v w3 ⟨rfl, hw3⟩
                have s3 := ((hB2.out.step (bnew5 _ _)).step hw3).seven
                have hb3 := Lib.hid (bth5 (bth5 hb2.out (bnew5 _ _)) hw3)
                clear hB2 hb2
                by_cases hb : i = 2
                · have eb : ((i : Int) == 2) = true := by simp [hb]
                  by_cases hc : n2 = 0
                  · have ec : ((n2 : Int) == 0) = true := by simp [hc]
                    by_cases hd : n3 = 0
                    · have ed : ((n3 : Int) == 0) = true := by simp [hd]
                      have hv : Hid (b = true) := by show b = _; rw [HB3.out]; unfold okS; simp [*]
                      clear HB3
                      go_wp2_with fail
                      go_ret
                      exact ⟨by rw [hv.out]; first | rfl | simp [*], hb3.out⟩
                    · have ed' : ¬ (n3 : Int) = 0 := by omega
                      have ed : ((n3 : Int) == 0) = false := by simp; omega
                      have hv : Hid (b = false) := by show b = _; rw [HB3.out]; unfold okS; simp [*]
                      clear HB3
                      go_wp2_with fail
                      go_ret
                      exact ⟨by rw [hv.out]; first | rfl | simp [*], hb3.out⟩
                  · have ec' : ¬ (n2 : Int) = 0 := by omega
                    have ec : ((n2 : Int) == 0) = false := by simp; omega
                    have hv : Hid (b = false) := by show b = _; rw [HB3.out]; unfold okS; simp [*]
                    clear HB3
                    go_wp2_with fail
                    go_ret
                    exact ⟨by rw [hv.out]; first | rfl | simp [*], hb3.out⟩
                · have eb' : ¬ (i : Int) = 2 := by omega
                  have eb : ((i : Int) == 2) = false := by simp; omega
                  have hv : Hid (b = false) := by show b = _; rw [HB3.out]; unfold okS; simp [*]
                  clear HB3
                  go_wp2_with fail
                  go_ret
                  exact ⟨by rw [hv.out]; first | rfl | simp [*], hb3.out⟩
            · have het := Lib.hid (fun h : x = [] => empty_t h)
              have hef := Lib.hid (fun h : ¬ x = [] => empty_f h)
              generalize (⟨x.toArray⟩ : ByteArray) = xs at *
              go_wp2_with fail
              refine qt.mono ?_
              rintro v w1 ⟨rfl, hw1⟩
              have hB1 := Lib.hid (hbox.out.step hw1)
              have hb1 := Lib.hid (bth5 hbb.out hw1)
              clear hbox hbb
              have s1 := hB1.out.seven
              have qu := hU.out w1 (hX.out.2.step hb1.out)
              clear hU hX
              go_wp2_with fail
              refine qu.mono ?_
              rintro v w2 ⟨rfl, hw2⟩
              have hB2 := Lib.hid (hB1.out.step hw2)
              have hb2 := Lib.hid (bth5 hb1.out hw2)
              have s2 := hB2.out.seven
              have hg2 := hB2.out.lt (by simp)
              clear hB1 hb1 s1 qu qt s0
              by_cases ha : x = []
              · have ea := het.out ha
                clear het hef
                by_cases hb : i = 1
                · have eb : ((i : Int) == 1) = true := by simp [hb]
                  have hv : Hid (b = true) := by show b = _; rw [HB3.out]; unfold okS; simp [*]
                  clear HB3
                  go_wp2_with fail
                  go_ret
                  exact ⟨by rw [hv.out]; first | rfl | simp [*], (bth5 hb2.out (bnew5 _ _))⟩
                · have eb' : ¬ (i : Int) = 1 := by omega
                  have eb : ((i : Int) == 1) = false := by simp; omega
                  have hv : Hid (b = false) := by show b = _; rw [HB3.out]; unfold okS; simp [*]
                  clear HB3
                  go_wp2_with fail
                  go_ret
                  exact ⟨by rw [hv.out]; first | rfl | simp [*], (bth5 hb2.out (bnew5 _ _))⟩
              · have ea := hef.out ha
                clear het hef
                have hv : Hid (b = false) := by show b = _; rw [HB3.out]; unfold okS; simp [*]
                clear HB3
                go_wp2_with fail
                go_ret
                exact ⟨by rw [hv.out]; first | rfl | simp [*], (bth5 hb2.out (bnew5 _ _))⟩
            · have het := Lib.hid (fun h : x = [] => empty_t h)
              have hef := Lib.hid (fun h : ¬ x = [] => empty_f h)
              generalize (⟨x.toArray⟩ : ByteArray) = xs at *
              go_wp2_with fail
              refine qt.mono ?_
              rintro v w1 ⟨rfl, hw1⟩
              have hB1 := Lib.hid (hbox.out.step hw1)
              have hb1 := Lib.hid (bth5 hbb.out hw1)
              clear hbox hbb
              have s1 := hB1.out.seven
              have qu := hU.out w1 (hX.out.2.step hb1.out)
              clear hU hX
              go_wp2_with fail
              refine qu.mono ?_
              rintro v w2 ⟨rfl, hw2⟩
              have hB2 := Lib.hid (hB1.out.step hw2)
              have hb2 := Lib.hid (bth5 hb1.out hw2)
              have s2 := hB2.out.seven
              have hg2 := hB2.out.lt (by simp)
              clear hB1 hb1 s1 qu qt s0
              by_cases ha : x = []
              · have ea := het.out ha
                clear het hef
                by_cases hb : i = 1
                · have eb : ((i : Int) == 1) = true := by simp [hb]
                  by_cases hd : n3 = 0
                  · have ed : ((n3 : Int) == 0) = true := by simp [hd]
                    have hv : Hid (b = true) := by show b = _; rw [HB3.out]; unfold okS; simp [*]
                    clear HB3
                    go_wp2_with fail
                    go_ret
                    exact ⟨by rw [hv.out]; first | rfl | simp [*], (bth5 hb2.out (bnew5 _ _))⟩
                  · have ed' : ¬ (n3 : Int) = 0 := by omega
                    have ed : ((n3 : Int) == 0) = false := by simp; omega
                    have hv : Hid (b = false) := by show b = _; rw [HB3.out]; unfold okS; simp [*]
                    clear HB3
                    go_wp2_with fail
                    go_ret
                    exact ⟨by rw [hv.out]; first | rfl | simp [*], (bth5 hb2.out (bnew5 _ _))⟩
                · have eb' : ¬ (i : Int) = 1 := by omega
                  have eb : ((i : Int) == 1) = false := by simp; omega
                  have hv : Hid (b = false) := by show b = _; rw [HB3.out]; unfold okS; simp [*]
                  clear HB3
                  go_wp2_with fail
                  go_ret
                  exact ⟨by rw [hv.out]; first | rfl | simp [*], (bth5 hb2.out (bnew5 _ _))⟩
              · have ea := hef.out ha
                clear het hef
                have hv : Hid (b = false) := by show b = _; rw [HB3.out]; unfold okS; simp [*]
                clear HB3
                go_wp2_with fail
                go_ret
                exact ⟨by rw [hv.out]; first | rfl | simp [*], (bth5 hb2.out (bnew5 _ _))⟩
            · have het := Lib.hid (fun h : x = [] => empty_t h)
              have hef := Lib.hid (fun h : ¬ x = [] => empty_f h)
              generalize (⟨x.toArray⟩ : ByteArray) = xs at *
              go_wp2_with fail
              refine qt.mono ?_
              rintro v w1 ⟨rfl, hw1⟩
              have hB1 := Lib.hid (hbox.out.step hw1)
              have hb1 := Lib.hid (bth5 hbb.out hw1)
              clear hbox hbb
              have s1 := hB1.out.seven
              have qu := hU.out w1 (hX.out.2.step hb1.out)
              clear hU hX
              go_wp2_with fail
              refine qu.mono ?_
              rintro v w2 ⟨rfl, hw2⟩
              have hB2 := Lib.hid (hB1.out.step hw2)
              have hb2 := Lib.hid (bth5 hb1.out hw2)
              have s2 := hB2.out.seven
              have hg2 := hB2.out.lt (by simp)
              clear hB1 hb1 s1 qu qt s0
              by_cases ha : x = []
              · have ea := het.out ha
                clear het hef
                by_cases hb : i = 1
                · have eb : ((i : Int) == 1) = true := by simp [hb]
                  by_cases hc : n2 = 0
                  · have ec : ((n2 : Int) == 0) = true := by simp [hc]
                    by_cases hd : n3 = 0
                    · have ed : ((n3 : Int) == 0) = true := by simp [hd]
                      have hv : Hid (b = true) := by show b = _; rw [HB3.out]; unfold okS; simp [*]
                      clear HB3
                      go_wp2_with fail
                      go_ret
                      exact ⟨by rw [hv.out]; first | rfl | simp [*], (bth5 hb2.out (bnew5 _ _))⟩
                    · have ed' : ¬ (n3 : Int) = 0 := by omega
                      have ed : ((n3 : Int) == 0) = false := by simp; omega
                      have hv : Hid (b = false) := by show b = _; rw [HB3.out]; unfold okS; simp [*]
                      clear HB3
                      go_wp2_with fail
                      go_ret
                      exact ⟨by rw [hv.out]; first | rfl | simp [*], (bth5 hb2.out (bnew5 _ _))⟩
                  · have ec' : ¬ (n2 : Int) = 0 := by omega
                    have ec : ((n2 : Int) == 0) = false := by simp; omega
                    have hv : Hid (b = false) := by show b = _; rw [HB3.out]; unfold okS; simp [*]
                    clear HB3
                    go_wp2_with fail
                    go_ret
                    exact ⟨by rw [hv.out]; first | rfl | simp [*], (bth5 hb2.out (bnew5 _ _))⟩
                · have eb' : ¬ (i : Int) = 1 := by omega
                  have eb : ((i : Int) == 1) = false := by simp; omega
                  have hv : Hid (b = false) := by show b = _; rw [HB3.out]; unfold okS; simp [*]
                  clear HB3
                  go_wp2_with fail
                  go_ret
                  exact ⟨by rw [hv.out]; first | rfl | simp [*], (bth5 hb2.out (bnew5 _ _))⟩
              · have ea := hef.out ha
                clear het hef
                have hv : Hid (b = false) := by show b = _; rw [HB3.out]; unfold okS; simp [*]
                clear HB3
                go_wp2_with fail
                go_ret
                exact ⟨by rw [hv.out]; first | rfl | simp [*], (bth5 hb2.out (bnew5 _ _))⟩
            · have het := Lib.hid (fun h : x = [] => empty_t h)
              have hef := Lib.hid (fun h : ¬ x = [] => empty_f h)
              generalize (⟨x.toArray⟩ : ByteArray) = xs at *
              go_wp2_with fail
              refine qt.mono ?_
              rintro v w1 ⟨rfl, hw1⟩
              have hB1 := Lib.hid (hbox.out.step hw1)
              have hb1 := Lib.hid (bth5 hbb.out hw1)
              clear hbox hbb
              have s1 := hB1.out.seven
              have qu := hU.out w1 (hX.out.2.step hb1.out)
              clear hU hX
              go_wp2_with fail
              refine qu.mono ?_
              rintro v w2 ⟨rfl, hw2⟩
              have hB2 := Lib.hid (hB1.out.step hw2)
              have hb2 := Lib.hid (bth5 hb1.out hw2)
              have s2 := hB2.out.seven
              have hg2 := hB2.out.lt (by simp)
              clear hB1 hb1 s1 qu qt s0
              go_wp2_with fail
              cases h5 : name6 x with
              | false =>
                rw [h5] at hq
                refine (hq.out _).mono ?_
                rintro v w3 ⟨rfl, hw3⟩
                have s3 := ((hB2.out.step (bnew5 _ _)).step hw3).seven
                have hb3 := Lib.hid (bth5 (bth5 hb2.out (bnew5 _ _)) hw3)
                clear hB2 hb2
                have hv : Hid (b = false) := by show b = _; rw [HB3.out]; unfold okS; simp [*]
                clear HB3
                go_wp2_with fail
                go_ret
                exact ⟨by rw [hv.out]; first | rfl | simp [*], hb3.out⟩
              | true =>
                rw [h5] at hq
                refine (hq.out _).mono ?_
                rintro v w3 ⟨rfl, hw3⟩
                have s3 := ((hB2.out.step (bnew5 _ _)).step hw3).seven
                have hb3 := Lib.hid (bth5 (bth5 hb2.out (bnew5 _ _)) hw3)
                clear hB2 hb2
                by_cases hc : n2 = 0
                · have ec : ((n2 : Int) == 0) = true := by simp [hc]
                  by_cases hd : n3 = 0
                  · have ed : ((n3 : Int) == 0) = true := by simp [hd]
                    have hv : Hid (b = true) := by show b = _; rw [HB3.out]; unfold okS; simp [*]
                    clear HB3
                    go_wp2_with fail
                    go_ret
                    exact ⟨by rw [hv.out]; first | rfl | simp [*], hb3.out⟩
                  · have ed' : ¬ (n3 : Int) = 0 := by omega
                    have ed : ((n3 : Int) == 0) = false := by simp; omega
                    have hv : Hid (b = false) := by show b = _; rw [HB3.out]; unfold okS; simp [*]
                    clear HB3
                    go_wp2_with fail
                    go_ret
                    exact ⟨by rw [hv.out]; first | rfl | simp [*], hb3.out⟩
                · have ec' : ¬ (n2 : Int) = 0 := by omega
                  have ec : ((n2 : Int) == 0) = false := by simp; omega
                  have hv : Hid (b = false) := by show b = _; rw [HB3.out]; unfold okS; simp [*]
                  clear HB3
                  go_wp2_with fail
                  go_ret
                  exact ⟨by rw [hv.out]; first | rfl | simp [*], hb3.out⟩
            · have het := Lib.hid (fun h : x = [] => empty_t h)
              have hef := Lib.hid (fun h : ¬ x = [] => empty_f h)
              generalize (⟨x.toArray⟩ : ByteArray) = xs at *
              go_wp2_with fail
              refine qt.mono ?_
              rintro v w1 ⟨rfl, hw1⟩
              have hB1 := Lib.hid (hbox.out.step hw1)
              have hb1 := Lib.hid (bth5 hbb.out hw1)
              clear hbox hbb
              have s1 := hB1.out.seven
              have qu := hU.out w1 (hX.out.2.step hb1.out)
              clear hU hX
              go_wp2_with fail
              refine qu.mono ?_
              rintro v w2 ⟨rfl, hw2⟩
              have hB2 := Lib.hid (hB1.out.step hw2)
              have hb2 := Lib.hid (bth5 hb1.out hw2)
              have s2 := hB2.out.seven
              have hg2 := hB2.out.lt (by simp)
              clear hB1 hb1 s1 qu qt s0
              by_cases ha : x = []
              · have ea := het.out ha
                clear het hef
                by_cases hb : i = 0
                · have eb : ((i : Int) == 0) = true := by simp [hb]
                  by_cases hc : n2 = 0
                  · have ec : ((n2 : Int) == 0) = true := by simp [hc]
                    by_cases hd : n3 = 0
                    · have ed : ((n3 : Int) == 0) = true := by simp [hd]
                      have hv : Hid (b = true) := by show b = _; rw [HB3.out]; unfold okS; simp [*]
                      clear HB3
                      go_wp2_with fail
                      go_ret
                      exact ⟨by rw [hv.out]; first | rfl | simp [*], (bth5 hb2.out (bnew5 _ _))⟩
                    · have ed' : ¬ (n3 : Int) = 0 := by omega
                      have ed : ((n3 : Int) == 0) = false := by simp; omega
                      have hv : Hid (b = false) := by show b = _; rw [HB3.out]; unfold okS; simp [*]
                      clear HB3
                      go_wp2_with fail
                      go_ret
                      exact ⟨by rw [hv.out]; first | rfl | simp [*], (bth5 hb2.out (bnew5 _ _))⟩
                  · have ec' : ¬ (n2 : Int) = 0 := by omega
                    have ec : ((n2 : Int) == 0) = false := by simp; omega
                    have hv : Hid (b = false) := by show b = _; rw [HB3.out]; unfold okS; simp [*]
                    clear HB3
                    go_wp2_with fail
                    go_ret
                    exact ⟨by rw [hv.out]; first | rfl | simp [*], (bth5 hb2.out (bnew5 _ _))⟩
                · have eb' : ¬ (i : Int) = 0 := by omega
                  have eb : ((i : Int) == 0) = false := by simp; omega
                  have hv : Hid (b = false) := by show b = _; rw [HB3.out]; unfold okS; simp [*]
                  clear HB3
                  go_wp2_with fail
                  go_ret
                  exact ⟨by rw [hv.out]; first | rfl | simp [*], (bth5 hb2.out (bnew5 _ _))⟩
              · have ea := hef.out ha
                clear het hef
                have hv : Hid (b = false) := by show b = _; rw [HB3.out]; unfold okS; simp [*]
                clear HB3
                go_wp2_with fail
                go_ret
                exact ⟨by rw [hv.out]; first | rfl | simp [*], (bth5 hb2.out (bnew5 _ _))⟩
theorem refRightS (N : Nat) : RightS1 N ∧ RightSB N := by
  induction N using Nat.strongRecOn with
  | ind N ih =>
    have h1 := refRightS1 N fun M hM => (ih M hM).2
    exact ⟨h1, refRightSB N h1⟩
end Go.Proofs.YtkmioieanopafaaDoor
