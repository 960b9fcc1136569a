/- Right expressions: the reference of layer 6. -/
import Derived.Test.YtkmioieanopafaaDoorAstD
namespace Go.Proofs.YtkmioieanopafaaDoor
open Go.RowKit

mutual
/-- The bulk of one: itself, its name, its arguments. -/
def xbk1 : XV → Nat
  | .mk _ _ x _ gs _ _ => 1 + x.length + xbk gs
def xbk : List XV → Nat
  | [] => 0
  | e :: r => xbk1 e + xbk r
end
theorem xbk1_eq (e : XV) : xbk1 e = 1 + e.x.length + xbk e.gs := by cases e; simp [xbk1, XV.x, XV.gs]
theorem xbk_get {es : List XV} {i : Nat} {e : XV} (h : es[i]? = some e) : xbk1 e ≤ xbk es := by
  induction es generalizing i with
  | nil => simp at h
  | cons a r ih =>
    cases i with
    | zero => simp at h; subst h; simp [xbk]
    | succ i => have := ih (by simpa using h); simp [xbk]; omega
mutual
theorem xsz1_bk : ∀ e : XV, xsz1 e ≤ xbk1 e
  | .mk k n x o gs l c => by
    have := xsz_bk gs
    simp only [xsz1, xbk1]; omega
theorem xsz_bk : ∀ es : List XV, xsz es ≤ xbk es
  | [] => by simp [xsz]
  | e :: r => by
    have := xsz1_bk e
    have := xsz_bk r
    simp only [xsz, xbk]; omega
end
theorem xbk_len (es : List XV) : es.length ≤ xbk es := Nat.le_trans (xsz_len es) (xsz_bk es)

/-- Is one right, its arguments aside? -/
def okX (k n : Int) (x : List UInt8) (o : Int) (m : Nat) : Bool :=
  decide ((k = 0 ∧ x = [] ∧ o = 0 ∧ num6 n = true ∧ m = 0) ∨ (k = 1 ∧ name6 x = true ∧ n = 0 ∧ o = 0 ∧ m = 0) ∨ (k = 2 ∧ name6 x = true ∧ n = 0 ∧ o = 0 ∧ m = 1) ∨ (k = 3 ∧ x = [] ∧ n = 0 ∧ m = 1 ∧ one6 o = true) ∨ (k = 4 ∧ x = [] ∧ n = 0 ∧ m = 2 ∧ 0 ≤ o ∧ o ≤ 17))
mutual
def rgx1 : XV → Bool
  | .mk k n x o gs _ _ => rgx gs && okX k n x o gs.length
def rgx : List XV → Bool
  | [] => true
  | e :: r => rgx1 e && rgx r
end
theorem rgx1_eq (e : XV) : rgx1 e = (rgx e.gs && okX e.k e.n e.x e.o e.gs.length) := by cases e; simp [rgx1, XV.gs, XV.k, XV.n, XV.x, XV.o]
theorem rgx_all (es : List XV) : rgx es = es.all rgx1 := by
  induction es with
  | nil => simp [rgx]
  | cons a r ih => simp [rgx, ih]
theorem rgx_no {es : List XV} {i : Nat} {e : XV} (h : es[i]? = some e) (hr : rgx1 e = false) : rgx es = false := by
  rw [rgx_all, Bool.eq_false_iff]
  intro ha
  rw [List.all_eq_true] at ha
  have := ha e (List.mem_iff_getElem?.2 ⟨i, h⟩)
  rw [hr] at this
  cases this
theorem rgx_yes {es : List XV} (h : ∀ j e, j < es.length → es[j]? = some e → rgx1 e = true) : rgx es = true := by
  rw [rgx_all, List.all_eq_true]
  intro e he
  obtain ⟨j, hj⟩ := List.mem_iff_getElem?.1 he
  exact h j e (List.getElem?_eq_some_iff.1 hj).1 hj

theorem Box.seven {W : World} {g : Nat} {v0 v1 v2 v3 v4 v5 v6 : Value} (h : Box W g [v0, v1, v2, v3, v4, v5, v6]) : W.cell? ⟨g, 0, none⟩ = some v0 ∧ W.cell? ⟨g, 1, none⟩ = some v1 ∧ W.cell? ⟨g, 2, none⟩ = some v2 ∧ W.cell? ⟨g, 3, none⟩ = some v3 ∧ W.cell? ⟨g, 4, none⟩ = some v4 ∧ W.cell? ⟨g, 5, none⟩ = some v5 ∧ W.cell? ⟨g, 6, none⟩ = some v6 :=
  ⟨(h 0 _ rfl).1, (h 1 _ rfl).1, (h 2 _ rfl).1, (h 3 _ rfl).1, (h 4 _ rfl).1, (h 5 _ rfl).1, (h 6 _ rfl).1⟩
/-- An expression handed over. -/
def xval (e : XV) (A : Option Addr) (cap : Nat) : Value := .agg #[.int .i64 e.k, .int .i64 e.n, .string ⟨e.x.toArray⟩, .int .i64 e.o, .slice A e.gs.length cap, .int .i64 e.l, .int .i64 e.c]
def xcells (e : XV) (A : Option Addr) (cap : Nat) : List Value := [.int .i64 e.k, .int .i64 e.n, .string ⟨e.x.toArray⟩, .int .i64 e.o, .slice A e.gs.length cap, .int .i64 e.l, .int .i64 e.c]
theorem empty_t {x : List UInt8} (h : x = []) : ((⟨x.toArray⟩ : ByteArray).toList == []) = true := by
  simp only [beq_iff_eq, ByteArray.toList_eq]
  exact h
theorem empty_f {x : List UInt8} (h : ¬ x = []) : ((⟨x.toArray⟩ : ByteArray).toList == []) = false := by
  simp only [beq_eq_false_iff_ne, ne_eq, ByteArray.toList_eq]
  exact h

set_option maxHeartbeats 20000000 in
theorem refRightX (N : Nat) : ∀ (e : XV), xbk1 e ≤ N → N ≤ 4000000 → ∀ (A : Option Addr) (cap : Nat) (w : World), XR w A e.gs → Calls Tryd.prog 105 #[xval e A cap] w fun v w' => v = .returned (.bool (rgx1 e)) ∧ Below w.heap.size w w' := by
  induction N using Nat.strongRecOn with
  | ind N ih =>
  intro e hN hNN A cap w hx
  obtain ⟨b, hb⟩ : ∃ b, b = rgx1 e := ⟨_, rfl⟩
  rw [← hb]
  rw [rgx1_eq] at hb
  rw [xbk1_eq] at hN
  unfold xval
  cases e with
  | mk k n x o gs l c =>
  simp only [XV.k, XV.n, XV.x, XV.o, XV.gs, XV.l, XV.c] at *
  have hq := Lib.hid (refName6 x (by omega))
  have HB := Lib.hid hb
  have hgl := xbk_len gs
  have hG := Lib.hid (And.intro hN hx)
  obtain ⟨m, hm⟩ : ∃ m, m = gs.length := ⟨_, rfl⟩
  have HM := Lib.hid hm
  rw [← hm] at HB hgl
  have hK0 := Lib.hid (And.intro (Box.new w [.int .i64 k, .int .i64 n, .string ⟨x.toArray⟩, .int .i64 o, .slice A gs.length cap, .int .i64 l, .int .i64 c] 72) (bnew5 w (.cells [.int .i64 k, .int .i64 n, .string ⟨x.toArray⟩, .int .i64 o, .slice A gs.length cap, .int .i64 l, .int .i64 c].toArray 72)))
  rw [← hm] at hK0 ⊢
  have hml : m ≤ 4000000 := by omega
  clear hb hx hN hm hgl
  go_enter Tryd.func105, Tryd.ntmps105
  go_wp2_with fail
  go_loopw [3] (fun v W => ∃ i : Nat, i ≤ m ∧ v = .int .i64 i ∧ Hid (∀ j e, j < i → gs[j]? = some e → rgx1 e = true) ∧ Hid (Box W w.heap.size [.int .i64 k, .int .i64 n, .string ⟨x.toArray⟩, .int .i64 o, .slice A m cap, .int .i64 l, .int .i64 c] ∧ Below w.heap.size w W)) (fun v _ => m - (intOf v).toNat)
  case atStart => exact ⟨0, by omega, rfl, fun j e hj => absurd hj (by omega), hK0⟩
  case round =>
    obtain ⟨i, hi, rfl, hst, hbw⟩ := hrel
    clear hK0
    have s0 := hbw.out.1.seven
    by_cases hlt : i < m
    · have hlt' : (i : Int) < m := by omega
      obtain ⟨ad, e, rfl, he, A', c', e0, e1, e2, e3, e4, e5, e6, hx'⟩ := (hG.out.2.step hbw.out.2).el (i := i) (by rw [← HM.out]; exact hlt)
      have hbk := xbk_get he
      have hq2 := ih (xbk1 e) (by have := hG.out.1; omega) e (Nat.le_refl _) (by have := hG.out.1; omega) A' c' wr hx'
      have HE := Lib.hid he
      unfold xval at hq2
      cases hr : rgx1 e with
      | false =>
        have hv : Hid (b = false) := by show b = false; rw [HB.out, rgx_no HE.out hr]; rfl
        rw [hr] at hq2
        clear he hbk hx' hst HB hr
        generalize (⟨e.x.toArray⟩ : ByteArray) = ex at *
        generalize (⟨x.toArray⟩ : ByteArray) = xs at *
        generalize e.gs.length = em at *
        go_wp2_with fail
        refine hq2.mono ?_
        rintro v w1 ⟨rfl, hb1⟩
        go_wp2_with fail
        go_ret
        exact ⟨by rw [hv.out]; rfl, bth5 hbw.out.2 hb1⟩
      | true =>
        have hst2 : Hid (∀ j e, j < i + 1 → gs[j]? = some e → rgx1 e = true) := fun j d hj hd => by
          rcases Nat.lt_or_ge j i with h | h
          · exact hst.out j d h hd
          · obtain rfl : j = i := by omega
            have := HE.out.symm.trans hd
            injection this with this
            rw [← this]; exact hr
        rw [hr] at hq2
        clear he hbk hx' hst HB hr
        go_wp2_with fail
        refine hq2.mono ?_
        rintro v w1 ⟨rfl, hb1⟩
        have hbw2 := Lib.hid (And.intro (hbw.out.1.step hb1) (bth5 hbw.out.2 hb1))
        go_wp2_with fail
        exact ⟨⟨i + 1, by omega, by go_num, hst2, hbw2⟩, by simp [intOf]; omega⟩
    · obtain rfl : i = m := by omega
      have hlt' : ¬ (i : Int) < i := by omega
      have HB2 : Hid (b = okX k n x o i) := by
        show b = _
        rw [HB.out, rgx_yes (fun j e hj => hst.out j e (by rw [HM.out]; exact hj))]
        rfl
      have hbb := Lib.hid hbw.out.2
      have hbox := Lib.hid hbw.out.1
      clear HB hst hG HM hbw hlt
      have hq := hq.out wr
      have hone := refOne6 o wr
      have hnum := refNumber6 n wr
      have hkc : k = 0 ∨ k = 1 ∨ k = 2 ∨ k = 3 ∨ k = 4 ∨ k < 0 ∨ 4 < k := by omega
      rcases hkc with rfl | rfl | rfl | rfl | rfl | hk | hk
      · by_cases h1 : x = []
        · have e1 := empty_t h1
          by_cases h3 : o = 0
          · subst h3
            cases h5 : num6 n with
            | false =>
              rw [h5] at hnum
              have hv : Hid (b = false) := by show b = _; rw [HB2.out]; unfold okX; simp [*]
              clear HB2
              generalize (⟨x.toArray⟩ : ByteArray) = xs at *
              go_wp2_with fail
              refine hnum.mono ?_
              rintro v w1 ⟨rfl, rfl⟩
              go_wp2_with fail
              go_ret
              exact ⟨by rw [hv.out]; first | rfl | simp [*], hbb.out⟩
            | true =>
              rw [h5] at hnum
              by_cases h4 : i = 0
              · have e4 : ((i : Int) == 0) = true := by simp [h4]
                have hv : Hid (b = true) := by show b = _; rw [HB2.out]; unfold okX; simp [*]
                clear HB2
                generalize (⟨x.toArray⟩ : ByteArray) = xs at *
                go_wp2_with fail
                refine hnum.mono ?_
                rintro v w1 ⟨rfl, rfl⟩
                go_wp2_with fail
                go_ret
                exact ⟨by rw [hv.out]; first | rfl | simp [*], hbb.out⟩
              · have e4' : ¬ (i : Int) = 0 := by omega
                have e4 : ((i : Int) == 0) = false := by simp; omega
                have hv : Hid (b = false) := by show b = _; rw [HB2.out]; unfold okX; simp [*]
                clear HB2
                generalize (⟨x.toArray⟩ : ByteArray) = xs at *
                go_wp2_with fail
                refine hnum.mono ?_
                rintro v w1 ⟨rfl, rfl⟩
                go_wp2_with fail
                go_ret
                exact ⟨by rw [hv.out]; first | rfl | simp [*], hbb.out⟩
          · have e3 : (o == 0) = false := by simp [h3]
            have hv : Hid (b = false) := by show b = _; rw [HB2.out]; unfold okX; simp [*]
            clear HB2
            generalize (⟨x.toArray⟩ : ByteArray) = xs at *
            go_wp2_with fail
            go_ret
            exact ⟨by rw [hv.out]; first | rfl | simp [*], hbb.out⟩
        · have e1 := empty_f h1
          have hv : Hid (b = false) := by show b = _; rw [HB2.out]; unfold okX; simp [*]
          clear HB2
          generalize (⟨x.toArray⟩ : ByteArray) = xs at *
          go_wp2_with fail
          go_ret
          exact ⟨by rw [hv.out]; first | rfl | simp [*], hbb.out⟩
      · cases h5 : name6 x with
        | false =>
          rw [h5] at hq
          have hv : Hid (b = false) := by show b = _; rw [HB2.out]; unfold okX; simp [*]
          clear HB2
          generalize (⟨x.toArray⟩ : ByteArray) = xs at *
          go_wp2_with fail
          refine hq.mono ?_
          rintro v w1 ⟨rfl, hw1⟩
          have s1 := (hbox.out.step hw1).seven
          go_wp2_with fail
          go_ret
          exact ⟨by rw [hv.out]; first | rfl | simp [*], (bth5 hbb.out hw1)⟩
        | true =>
          rw [h5] at hq
          by_cases h2 : n = 0
          · subst h2
            by_cases h3 : o = 0
            · subst h3
              by_cases h4 : i = 0
              · have e4 : ((i : Int) == 0) = true := by simp [h4]
                have hv : Hid (b = true) := by show b = _; rw [HB2.out]; unfold okX; simp [*]
                clear HB2
                generalize (⟨x.toArray⟩ : ByteArray) = xs at *
                go_wp2_with fail
                refine hq.mono ?_
                rintro v w1 ⟨rfl, hw1⟩
                have s1 := (hbox.out.step hw1).seven
                go_wp2_with fail
                go_ret
                exact ⟨by rw [hv.out]; first | rfl | simp [*], (bth5 hbb.out hw1)⟩
              · have e4' : ¬ (i : Int) = 0 := by omega
                have e4 : ((i : Int) == 0) = false := by simp; omega
                have hv : Hid (b = false) := by show b = _; rw [HB2.out]; unfold okX; simp [*]
                clear HB2
                generalize (⟨x.toArray⟩ : ByteArray) = xs at *
                go_wp2_with fail
                refine hq.mono ?_
                rintro v w1 ⟨rfl, hw1⟩
                have s1 := (hbox.out.step hw1).seven
                go_wp2_with fail
                go_ret
                exact ⟨by rw [hv.out]; first | rfl | simp [*], (bth5 hbb.out hw1)⟩
            · have e3 : (o == 0) = false := by simp [h3]
              have hv : Hid (b = false) := by show b = _; rw [HB2.out]; unfold okX; simp [*]
              clear HB2
              generalize (⟨x.toArray⟩ : ByteArray) = xs at *
              go_wp2_with fail
              refine hq.mono ?_
              rintro v w1 ⟨rfl, hw1⟩
              have s1 := (hbox.out.step hw1).seven
              go_wp2_with fail
              go_ret
              exact ⟨by rw [hv.out]; first | rfl | simp [*], (bth5 hbb.out hw1)⟩
          · have e2 : (n == 0) = false := by simp [h2]
            have hv : Hid (b = false) := by show b = _; rw [HB2.out]; unfold okX; simp [*]
            clear HB2
            generalize (⟨x.toArray⟩ : ByteArray) = xs at *
            go_wp2_with fail
            refine hq.mono ?_
            rintro v w1 ⟨rfl, hw1⟩
            have s1 := (hbox.out.step hw1).seven
            go_wp2_with fail
            go_ret
            exact ⟨by rw [hv.out]; first | rfl | simp [*], (bth5 hbb.out hw1)⟩
      · cases h5 : name6 x with
        | false =>
          rw [h5] at hq
          have hv : Hid (b = false) := by show b = _; rw [HB2.out]; unfold okX; simp [*]
          clear HB2
          generalize (⟨x.toArray⟩ : ByteArray) = xs at *
          go_wp2_with fail
          refine hq.mono ?_
          rintro v w1 ⟨rfl, hw1⟩
          have s1 := (hbox.out.step hw1).seven
          go_wp2_with fail
          go_ret
          exact ⟨by rw [hv.out]; first | rfl | simp [*], (bth5 hbb.out hw1)⟩
        | true =>
          rw [h5] at hq
          by_cases h2 : n = 0
          · subst h2
            by_cases h3 : o = 0
            · subst h3
              by_cases h4 : i = 1
              · have e4 : ((i : Int) == 1) = true := by simp [h4]
                have hv : Hid (b = true) := by show b = _; rw [HB2.out]; unfold okX; simp [*]
                clear HB2
                generalize (⟨x.toArray⟩ : ByteArray) = xs at *
                go_wp2_with fail
                refine hq.mono ?_
                rintro v w1 ⟨rfl, hw1⟩
                have s1 := (hbox.out.step hw1).seven
                go_wp2_with fail
                go_ret
                exact ⟨by rw [hv.out]; first | rfl | simp [*], (bth5 hbb.out hw1)⟩
              · have e4' : ¬ (i : Int) = 1 := by omega
                have e4 : ((i : Int) == 1) = false := by simp; omega
                have hv : Hid (b = false) := by show b = _; rw [HB2.out]; unfold okX; simp [*]
                clear HB2
                generalize (⟨x.toArray⟩ : ByteArray) = xs at *
                go_wp2_with fail
                refine hq.mono ?_
                rintro v w1 ⟨rfl, hw1⟩
                have s1 := (hbox.out.step hw1).seven
                go_wp2_with fail
                go_ret
                exact ⟨by rw [hv.out]; first | rfl | simp [*], (bth5 hbb.out hw1)⟩
            · have e3 : (o == 0) = false := by simp [h3]
              have hv : Hid (b = false) := by show b = _; rw [HB2.out]; unfold okX; simp [*]
              clear HB2
              generalize (⟨x.toArray⟩ : ByteArray) = xs at *
              go_wp2_with fail
              refine hq.mono ?_
              rintro v w1 ⟨rfl, hw1⟩
              have s1 := (hbox.out.step hw1).seven
              go_wp2_with fail
              go_ret
              exact ⟨by rw [hv.out]; first | rfl | simp [*], (bth5 hbb.out hw1)⟩
          · have e2 : (n == 0) = false := by simp [h2]
            have hv : Hid (b = false) := by show b = _; rw [HB2.out]; unfold okX; simp [*]
            clear HB2
            generalize (⟨x.toArray⟩ : ByteArray) = xs at *
            go_wp2_with fail
            refine hq.mono ?_
            rintro v w1 ⟨rfl, hw1⟩
            have s1 := (hbox.out.step hw1).seven
            go_wp2_with fail
            go_ret
            exact ⟨by rw [hv.out]; first | rfl | simp [*], (bth5 hbb.out hw1)⟩
      · by_cases h1 : x = []
        · have e1 := empty_t h1
          by_cases h2 : n = 0
          · subst h2
            by_cases h4 : i = 1
            · have e4 : ((i : Int) == 1) = true := by simp [h4]
              have hv : Hid (b = one6 o) := by show b = _; rw [HB2.out]; unfold okX; simp [*]
              clear HB2
              generalize (⟨x.toArray⟩ : ByteArray) = xs at *
              go_wp2_with fail
              refine hone.mono ?_
              rintro v w1 ⟨rfl, rfl⟩
              go_wp2_with fail
              go_ret
              exact ⟨by rw [hv.out]; first | rfl | simp [*], hbb.out⟩
            · have e4' : ¬ (i : Int) = 1 := by omega
              have e4 : ((i : Int) == 1) = false := by simp; omega
              have hv : Hid (b = false) := by show b = _; rw [HB2.out]; unfold okX; simp [*]
              clear HB2
              generalize (⟨x.toArray⟩ : ByteArray) = xs at *
              go_wp2_with fail
              go_ret
              exact ⟨by rw [hv.out]; first | rfl | simp [*], hbb.out⟩
          · have e2 : (n == 0) = false := by simp [h2]
            have hv : Hid (b = false) := by show b = _; rw [HB2.out]; unfold okX; simp [*]
            clear HB2
            generalize (⟨x.toArray⟩ : ByteArray) = xs at *
            go_wp2_with fail
            go_ret
            exact ⟨by rw [hv.out]; first | rfl | simp [*], hbb.out⟩
        · have e1 := empty_f h1
          have hv : Hid (b = false) := by show b = _; rw [HB2.out]; unfold okX; simp [*]
          clear HB2
          generalize (⟨x.toArray⟩ : ByteArray) = xs at *
          go_wp2_with fail
          go_ret
          exact ⟨by rw [hv.out]; first | rfl | simp [*], hbb.out⟩
      · by_cases h1 : x = []
        · have e1 := empty_t h1
          by_cases h2 : n = 0
          · subst h2
            by_cases h4 : i = 2
            · have e4 : ((i : Int) == 2) = true := by simp [h4]
              by_cases h6 : 0 ≤ o
              · by_cases h7 : o ≤ 17
                · have hv : Hid (b = true) := by show b = _; rw [HB2.out]; unfold okX; simp [*]
                  clear HB2
                  generalize (⟨x.toArray⟩ : ByteArray) = xs at *
                  go_wp2_with fail
                  go_ret
                  exact ⟨by rw [hv.out]; first | rfl | simp [*], hbb.out⟩
                · have e7 : 17 < o := by omega
                  have hv : Hid (b = false) := by show b = _; rw [HB2.out]; unfold okX; simp [*]
                  clear HB2
                  generalize (⟨x.toArray⟩ : ByteArray) = xs at *
                  go_wp2_with fail
                  go_ret
                  exact ⟨by rw [hv.out]; first | rfl | simp [*], hbb.out⟩
              · have e6 : o < 0 := by omega
                have hv : Hid (b = false) := by show b = _; rw [HB2.out]; unfold okX; simp [*]
                clear HB2
                generalize (⟨x.toArray⟩ : ByteArray) = xs at *
                go_wp2_with fail
                go_ret
                exact ⟨by rw [hv.out]; first | rfl | simp [*], hbb.out⟩
            · have e4' : ¬ (i : Int) = 2 := by omega
              have e4 : ((i : Int) == 2) = false := by simp; omega
              have hv : Hid (b = false) := by show b = _; rw [HB2.out]; unfold okX; simp [*]
              clear HB2
              generalize (⟨x.toArray⟩ : ByteArray) = xs at *
              go_wp2_with fail
              go_ret
              exact ⟨by rw [hv.out]; first | rfl | simp [*], hbb.out⟩
          · have e2 : (n == 0) = false := by simp [h2]
            have hv : Hid (b = false) := by show b = _; rw [HB2.out]; unfold okX; simp [*]
            clear HB2
            generalize (⟨x.toArray⟩ : ByteArray) = xs at *
            go_wp2_with fail
            go_ret
            exact ⟨by rw [hv.out]; first | rfl | simp [*], hbb.out⟩
        · have e1 := empty_f h1
          have hv : Hid (b = false) := by show b = _; rw [HB2.out]; unfold okX; simp [*]
          clear HB2
          generalize (⟨x.toArray⟩ : ByteArray) = xs at *
          go_wp2_with fail
          go_ret
          exact ⟨by rw [hv.out]; first | rfl | simp [*], hbb.out⟩
      · have k0 : ¬ k = 0 := by omega
        have k1 : ¬ k = 1 := by omega
        have k2 : ¬ k = 2 := by omega
        have k3 : ¬ k = 3 := by omega
        have k4 : ¬ k = 4 := by omega
        have kb0 : (k == 0) = false := by simp; omega
        have kb1 : (k == 1) = false := by simp; omega
        have kb2 : (k == 2) = false := by simp; omega
        have kb3 : (k == 3) = false := by simp; omega
        have kb4 : (k == 4) = false := by simp; omega
        have k5 : k < 3 := by omega
        by_cases h1 : x = []
        · have e1 := empty_t h1
          by_cases h2 : n = 0
          · subst h2
            by_cases h3 : o = 0
            · subst h3
              have hv : Hid (b = false) := by show b = _; rw [HB2.out]; unfold okX; simp [*]
              clear HB2
              generalize (⟨x.toArray⟩ : ByteArray) = xs at *
              go_wp2_with fail
              go_ret
              exact ⟨by rw [hv.out]; first | rfl | simp [*], hbb.out⟩
            · have e3 : (o == 0) = false := by simp [h3]
              have hv : Hid (b = false) := by show b = _; rw [HB2.out]; unfold okX; simp [*]
              clear HB2
              generalize (⟨x.toArray⟩ : ByteArray) = xs at *
              go_wp2_with fail
              go_ret
              exact ⟨by rw [hv.out]; first | rfl | simp [*], hbb.out⟩
          · have e2 : (n == 0) = false := by simp [h2]
            have hv : Hid (b = false) := by show b = _; rw [HB2.out]; unfold okX; simp [*]
            clear HB2
            generalize (⟨x.toArray⟩ : ByteArray) = xs at *
            go_wp2_with fail
            go_ret
            exact ⟨by rw [hv.out]; first | rfl | simp [*], hbb.out⟩
        · have e1 := empty_f h1
          have hv : Hid (b = false) := by show b = _; rw [HB2.out]; unfold okX; simp [*]
          clear HB2
          generalize (⟨x.toArray⟩ : ByteArray) = xs at *
          go_wp2_with fail
          go_ret
          exact ⟨by rw [hv.out]; first | rfl | simp [*], hbb.out⟩
      · have k0 : ¬ k = 0 := by omega
        have k1 : ¬ k = 1 := by omega
        have k2 : ¬ k = 2 := by omega
        have k3 : ¬ k = 3 := by omega
        have k4 : ¬ k = 4 := by omega
        have kb0 : (k == 0) = false := by simp; omega
        have kb1 : (k == 1) = false := by simp; omega
        have kb2 : (k == 2) = false := by simp; omega
        have kb3 : (k == 3) = false := by simp; omega
        have kb4 : (k == 4) = false := by simp; omega
        have k5 : ¬ k < 3 := by omega
        by_cases h1 : x = []
        · have e1 := empty_t h1
          by_cases h2 : n = 0
          · subst h2
            have hv : Hid (b = false) := by show b = _; rw [HB2.out]; unfold okX; simp [*]
            clear HB2
            generalize (⟨x.toArray⟩ : ByteArray) = xs at *
            go_wp2_with fail
            go_ret
            exact ⟨by rw [hv.out]; first | rfl | simp [*], hbb.out⟩
          · have e2 : (n == 0) = false := by simp [h2]
            have hv : Hid (b = false) := by show b = _; rw [HB2.out]; unfold okX; simp [*]
            clear HB2
            generalize (⟨x.toArray⟩ : ByteArray) = xs at *
            go_wp2_with fail
            go_ret
            exact ⟨by rw [hv.out]; first | rfl | simp [*], hbb.out⟩
        · have e1 := empty_f h1
          have hv : Hid (b = false) := by show b = _; rw [HB2.out]; unfold okX; simp [*]
          clear HB2
          generalize (⟨x.toArray⟩ : ByteArray) = xs at *
          go_wp2_with fail
          go_ret
          exact ⟨by rw [hv.out]; first | rfl | simp [*], hbb.out⟩
end Go.Proofs.YtkmioieanopafaaDoor
