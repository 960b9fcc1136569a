/- Right declarations and programs: the reference of layer 6. -/
import Derived.Test.YtkmioieanopafaaDoorAstF
import Derived.Test.YtkmioieanopafaaDoorAstI
namespace Go.Proofs.YtkmioieanopafaaDoor
open Go.RowKit

/-- The bulk of some texts; of a declaration; of declarations. -/
def pbk : List (List UInt8) → Nat
  | [] => 0
  | t :: r => 1 + t.length + pbk r
theorem pbk_get {r : List (List UInt8)} {i : Nat} {t : List UInt8} (h : r[i]? = some t) : t.length ≤ pbk r := by
  induction r generalizing i with
  | nil => simp at h
  | cons a r ih =>
    cases i with
    | zero => simp at h; subst h; simp [pbk]; omega
    | succ i => have := ih (by simpa using h); simp [pbk]; omega
theorem pbk_len (r : List (List UInt8)) : r.length ≤ pbk r := by
  induction r with
  | nil => simp
  | cons a r ih => simp [pbk]; omega
def dbk1 (d : DV) : Nat := 1 + d.x.length + pbk d.ps + sbk d.body
def dbk : List DV → Nat
  | [] => 0
  | d :: r => dbk1 d + dbk r
theorem dbk_get {ds : List DV} {i : Nat} {d : DV} (h : ds[i]? = some d) : dbk1 d ≤ dbk ds := by
  induction ds generalizing i with
  | nil => simp at h
  | cons a r ih =>
    cases i with
    | zero => simp at h; subst h; simp [dbk]
    | succ i => have := ih (by simpa using h); simp [dbk]; omega
theorem dsz_bk (ds : List DV) : dsz ds ≤ dbk ds := by
  induction ds with
  | nil => simp [dsz]
  | cons a r ih => have := ssz_bk a.body; simp only [dsz, dbk, dbk1]; omega

theorem num6_zero : num6 0 = true := by simp [num6]
/-- Is a declaration right, its parameters and its body aside? -/
def okD (k : Int) (x : List UInt8) (lo hi sz : Int) (n1 n2 : Nat) : Bool :=
  decide (name6 x = true ∧ num6 sz = true ∧ ((k = 0 ∧ sz = 0 ∧ n1 = 0 ∧ n2 = 0) ∨ (k = 1 ∧ sz = 0 ∧ n1 = 0 ∧ n2 = 0) ∨ (k = 2 ∧ lo = 0 ∧ hi = 0 ∧ sz = 0 ∧ n1 = 0 ∧ n2 = 0) ∨ (k = 3 ∧ lo = 0 ∧ hi = 0 ∧ n1 = 0 ∧ n2 = 0) ∨ (k = 4 ∧ lo = 0 ∧ hi = 0 ∧ sz = 0)))
def rgd1 (d : DV) : Bool := d.ps.all name6 && (rgs d.body && okD d.k d.x d.lo d.hi d.sz d.ps.length d.body.length)
def rgd (ds : List DV) : Bool := ds.all rgd1
theorem all_no {α : Type} {p : α → Bool} {l : List α} {i : Nat} {a : α} (h : l[i]? = some a) (hp : p a = false) : l.all p = false := by
  rw [Bool.eq_false_iff]
  intro ha
  rw [List.all_eq_true] at ha
  have := ha a (List.mem_iff_getElem?.2 ⟨i, h⟩)
  rw [hp] at this
  cases this
theorem all_yes {α : Type} {p : α → Bool} {l : List α} (h : ∀ j a, j < l.length → l[j]? = some a → p a = true) : l.all p = true := by
  rw [List.all_eq_true]
  intro e he
  obtain ⟨j, hj⟩ := List.mem_iff_getElem?.1 he
  exact h j e (List.getElem?_eq_some_iff.1 hj).1 hj
theorem Box.nine {W : World} {g : Nat} {v0 v1 v2 v3 v4 v5 v6 v7 v8 : Value} (h : Box W g [v0, v1, v2, v3, v4, v5, v6, v7, v8]) : W.cell? ⟨g, 0, none⟩ = some v0 ∧ W.cell? ⟨g, 1, none⟩ = some v1 ∧ W.cell? ⟨g, 2, none⟩ = some v2 ∧ W.cell? ⟨g, 3, none⟩ = some v3 ∧ W.cell? ⟨g, 4, none⟩ = some v4 ∧ W.cell? ⟨g, 5, none⟩ = some v5 ∧ W.cell? ⟨g, 6, none⟩ = some v6 ∧ W.cell? ⟨g, 7, none⟩ = some v7 ∧ W.cell? ⟨g, 8, none⟩ = some v8 :=
  ⟨(h 0 _ rfl).1, (h 1 _ rfl).1, (h 2 _ rfl).1, (h 3 _ rfl).1, (h 4 _ rfl).1, (h 5 _ rfl).1, (h 6 _ rfl).1, (h 7 _ rfl).1, (h 8 _ rfl).1⟩
/-- A declaration handed over. -/
def dval (d : DV) (A1 : Option Addr) (c1 : Nat) (A2 : Option Addr) (c2 : Nat) : Value := .agg #[.int .i64 d.k, .string ⟨d.x.toArray⟩, .int .i64 d.lo, .int .i64 d.hi, .int .i64 d.sz, .slice A1 d.ps.length c1, .slice A2 d.body.length c2, .int .i64 d.l, .int .i64 d.c]

set_option maxHeartbeats 20000000 in
theorem refRightD (d : DV) (hN : dbk1 d ≤ 4000000) (A1 : Option Addr) (c1 : Nat) (A2 : Option Addr) (c2 : Nat) (w : World) (hx1 : RowS w A1 d.ps.length d.ps) (hx2 : SR w A2 d.body) : Calls Tryd.prog 56 #[dval d A1 c1 A2 c2] w fun v w' => v = .returned (.bool (rgd1 d)) ∧ Below w.heap.size w w' := by
  obtain ⟨b, hb⟩ : ∃ b, b = rgd1 d := ⟨_, rfl⟩
  rw [← hb]
  unfold rgd1 at hb
  unfold dbk1 at hN
  unfold dval
  cases d with
  | mk k x lo hh sz ps body l c =>
  simp only at *
  have hq := Lib.hid (refName6 x (by omega))
  have HB := Lib.hid hb
  have hgl := pbk_len ps
  have hul := sbk_len body
  have hU := Lib.hid (fun W (h : SR W A2 body) => (refRightS (sbk body)).2 body (Nat.le_refl _) (by omega) A2 c2 W h)
  have hG := Lib.hid (And.intro hN (And.intro hx1 hx2))
  obtain ⟨m, hm⟩ : ∃ m, m = ps.length := ⟨_, rfl⟩
  obtain ⟨n2, hn2⟩ : ∃ m, m = body.length := ⟨_, rfl⟩
  have HM := Lib.hid hm
  rw [← hm, ← hn2] at HB
  rw [← hm] at hgl
  rw [← hn2] at hU hul
  have hK0 := Lib.hid (And.intro (Box.new w [.int .i64 k, .string ⟨x.toArray⟩, .int .i64 lo, .int .i64 hh, .int .i64 sz, .slice A1 ps.length c1, .slice A2 body.length c2, .int .i64 l, .int .i64 c] 89) (bnew5 w (.cells [.int .i64 k, .string ⟨x.toArray⟩, .int .i64 lo, .int .i64 hh, .int .i64 sz, .slice A1 ps.length c1, .slice A2 body.length c2, .int .i64 l, .int .i64 c].toArray 89)))
  rw [← hm, ← hn2] at hK0 ⊢
  have hml : m ≤ 4000000 := by omega
  have hn2l : n2 ≤ 4000000 := by omega
  clear hb hx1 hx2 hN hm hn2 hgl hul
  go_enter Tryd.func56, Tryd.ntmps56
  go_wp2_with fail
  go_loopw [3] (fun v W => ∃ i : Nat, i ≤ m ∧ v = .int .i64 i ∧ Hid (∀ j e, j < i → ps[j]? = some e → name6 e = true) ∧ Hid (Box W w.heap.size [.int .i64 k, .string ⟨x.toArray⟩, .int .i64 lo, .int .i64 hh, .int .i64 sz, .slice A1 m c1, .slice A2 n2 c2, .int .i64 l, .int .i64 c] ∧ Below w.heap.size w W)) (fun v _ => m - (intOf v).toNat)
  case atStart => exact ⟨0, by omega, rfl, fun j e hj => absurd hj (by omega), hK0⟩
  case round =>
    obtain ⟨i, hi, rfl, hst, hbw⟩ := hrel
    clear hK0
    have s0 := hbw.out.1.nine
    by_cases hlt : i < m
    · have hlt' : (i : Int) < m := by omega
      obtain ⟨ad, t, rfl, ht, e0⟩ := (hG.out.2.1.below hbw.out.2).at_ (i := i) (by rw [← HM.out]; exact hlt)
      have hbk := pbk_get ht
      have hq2 := refName6 t (by have := hG.out.1; omega) wr
      have HE := Lib.hid ht
      cases hr : name6 t with
      | false =>
        have hv : Hid (b = false) := by show b = false; rw [HB.out, all_no HE.out hr]; rfl
        rw [hr] at hq2
        clear ht hbk hst HB hr
        go_wp2_with fail
        refine hq2.mono ?_
        rintro v w1 ⟨rfl, hb1⟩
        go_wp2_with fail
        go_ret
        exact ⟨by rw [hv.out]; rfl, bth5 hbw.out.2 hb1⟩
      | true =>
        have hst2 : Hid (∀ j e, j < i + 1 → ps[j]? = some e → name6 e = true) := fun j u hj hu => by
          rcases Nat.lt_or_ge j i with h | h
          · exact hst.out j u h hu
          · obtain rfl : j = i := by omega
            have := HE.out.symm.trans hu
            injection this with this
            rw [← this]; exact hr
        rw [hr] at hq2
        clear ht hbk hst HB hr
        go_wp2_with fail
        refine hq2.mono ?_
        rintro v w1 ⟨rfl, hb1⟩
        have hbw2 := Lib.hid (And.intro (hbw.out.1.step hb1) (bth5 hbw.out.2 hb1))
        go_wp2_with fail
        exact ⟨⟨i + 1, by omega, by go_num, hst2, hbw2⟩, by simp [intOf]; omega⟩
    · obtain rfl : i = m := by omega
      have hlt' : ¬ (i : Int) < i := by omega
      have HB2 : Hid (b = (rgs body && okD k x lo hh sz i n2)) := by
        show b = _
        rw [HB.out, all_yes (fun j e hj => hst.out j e (by rw [HM.out]; exact hj))]
        rfl
      have hbb := Lib.hid hbw.out.2
      have hbox := Lib.hid hbw.out.1
      have hX := Lib.hid (hG.out.2.2.step hbb.out)
      have hkc : k < 0 ∨ 4 < k ∨ k = 0 ∨ k = 1 ∨ k = 2 ∨ k = 3 ∨ k = 4 := by omega
      clear HB hst hG HM hbw hlt
      rcases hkc with hk | hk | rfl | rfl | rfl | rfl | rfl
      · have hv : Hid (b = false) := by show b = _; rw [HB2.out, show okD k x lo hh sz i n2 = false by unfold okD; rw [decide_eq_false_iff_not]; rintro ⟨_, _, h | h | h | h | h⟩ <;> exact absurd h.1 (by omega)]; simp
        clear HB2
        go_wp2_with fail
        go_ret
        exact ⟨by rw [hv.out]; rfl, hbb.out⟩
      · have hk0 : ¬ k < 0 := by omega
        have hv : Hid (b = false) := by show b = _; rw [HB2.out, show okD k x lo hh sz i n2 = false by unfold okD; rw [decide_eq_false_iff_not]; rintro ⟨_, _, h | h | h | h | h⟩ <;> exact absurd h.1 (by omega)]; simp
        clear HB2
        go_wp2_with fail
        go_ret
        exact ⟨by rw [hv.out]; rfl, hbb.out⟩
      · generalize (⟨x.toArray⟩ : ByteArray) = xs at *
        go_wp2_with fail
        refine (hq.out _).mono ?_
        rintro v w1 ⟨rfl, hw1⟩
        have hB1 := Lib.hid (hbox.out.step hw1)
        have hb1 := Lib.hid (bth5 hbb.out hw1)
        have hX1 := Lib.hid (hX.out.step hw1)
        have s1 := hB1.out.nine
        clear hbox hbb hX s0
        cases h5 : name6 x with
        | false =>
          have hv : Hid (b = false) := by show b = _; rw [HB2.out]; unfold okD; simp [*]
          clear HB2
          go_wp2_with fail
          go_ret
          exact ⟨by rw [hv.out]; rfl, hb1.out⟩
        | true =>
          go_wp2_with fail
          refine (hU.out w1 hX1.out).mono ?_
          rintro v w2 ⟨rfl, hw2⟩
          have hB2 := Lib.hid (hB1.out.step hw2)
          have hb2 := Lib.hid (bth5 hb1.out hw2)
          have s2 := hB2.out.nine
          clear hB1 hb1 hX1 s1
          cases h6 : rgs body with
          | false =>
            have hv : Hid (b = false) := by show b = _; rw [HB2.out]; unfold okD; simp [*]
            clear HB2
            go_wp2_with fail
            go_ret
            exact ⟨by rw [hv.out]; rfl, hb2.out⟩
          | true =>
            go_wp2_with fail
            refine (refNumber6 sz w2).mono ?_
            rintro v w3 ⟨rfl, rfl⟩
            cases h7 : num6 sz with
            | false =>
              have hv : Hid (b = false) := by show b = _; rw [HB2.out]; unfold okD; simp [*]
              clear HB2
              go_wp2_with fail
              go_ret
              exact ⟨by rw [hv.out]; rfl, hb2.out⟩
            | true =>
              have HB3 : Hid (b = okD 0 x lo hh sz i n2) := by show b = _; rw [HB2.out, h6]; rfl
              clear HB2
              by_cases hsz : sz = 0
              · have esz : (sz == 0) = true := by simp [hsz]
                by_cases hi : i = 0
                · have ei : ((i : Int) == 0) = true := by simp [hi]
                  by_cases hn2 : n2 = 0
                  · have en2 : ((n2 : Int) == 0) = true := by simp [hn2]
                    have hv : Hid (b = true) := by show b = _; rw [HB3.out]; have nz := num6_zero; unfold okD; simp [*]
                    clear HB3
                    go_wp2_with fail
                    go_ret
                    exact ⟨by rw [hv.out]; first | rfl | simp [*], hb2.out⟩
                  · have en2' : ¬ (n2 : Int) = 0 := by omega
                    have en2 : ((n2 : Int) == 0) = false := by simp; omega
                    have hv : Hid (b = false) := by show b = _; rw [HB3.out]; have nz := num6_zero; unfold okD; simp [*]
                    clear HB3
                    go_wp2_with fail
                    go_ret
                    exact ⟨by rw [hv.out]; first | rfl | simp [*], hb2.out⟩
                · have ei' : ¬ (i : Int) = 0 := by omega
                  have ei : ((i : Int) == 0) = false := by simp; omega
                  have hv : Hid (b = false) := by show b = _; rw [HB3.out]; have nz := num6_zero; unfold okD; simp [*]
                  clear HB3
                  go_wp2_with fail
                  go_ret
                  exact ⟨by rw [hv.out]; first | rfl | simp [*], hb2.out⟩
              · have esz : (sz == 0) = false := by simp [hsz]
                have hv : Hid (b = false) := by show b = _; rw [HB3.out]; have nz := num6_zero; unfold okD; simp [*]
                clear HB3
                go_wp2_with fail
                go_ret
                exact ⟨by rw [hv.out]; first | rfl | simp [*], hb2.out⟩
      · generalize (⟨x.toArray⟩ : ByteArray) = xs at *
        go_wp2_with fail
        refine (hq.out _).mono ?_
        rintro v w1 ⟨rfl, hw1⟩
        have hB1 := Lib.hid (hbox.out.step hw1)
        have hb1 := Lib.hid (bth5 hbb.out hw1)
        have hX1 := Lib.hid (hX.out.step hw1)
        have s1 := hB1.out.nine
        clear hbox hbb hX s0
        cases h5 : name6 x with
        | false =>
          have hv : Hid (b = false) := by show b = _; rw [HB2.out]; unfold okD; simp [*]
          clear HB2
          go_wp2_with fail
          go_ret
          exact ⟨by rw [hv.out]; rfl, hb1.out⟩
        | true =>
          go_wp2_with fail
          refine (hU.out w1 hX1.out).mono ?_
          rintro v w2 ⟨rfl, hw2⟩
          have hB2 := Lib.hid (hB1.out.step hw2)
          have hb2 := Lib.hid (bth5 hb1.out hw2)
          have s2 := hB2.out.nine
          clear hB1 hb1 hX1 s1
          cases h6 : rgs body with
          | false =>
            have hv : Hid (b = false) := by show b = _; rw [HB2.out]; unfold okD; simp [*]
            clear HB2
            go_wp2_with fail
            go_ret
            exact ⟨by rw [hv.out]; rfl, hb2.out⟩
          | true =>
            go_wp2_with fail
            refine (refNumber6 sz w2).mono ?_
            rintro v w3 ⟨rfl, rfl⟩
            cases h7 : num6 sz with
            | false =>
              have hv : Hid (b = false) := by show b = _; rw [HB2.out]; unfold okD; simp [*]
              clear HB2
              go_wp2_with fail
              go_ret
              exact ⟨by rw [hv.out]; rfl, hb2.out⟩
            | true =>
              have HB3 : Hid (b = okD 1 x lo hh sz i n2) := by show b = _; rw [HB2.out, h6]; rfl
              clear HB2
              by_cases hsz : sz = 0
              · have esz : (sz == 0) = true := by simp [hsz]
                by_cases hi : i = 0
                · have ei : ((i : Int) == 0) = true := by simp [hi]
                  by_cases hn2 : n2 = 0
                  · have en2 : ((n2 : Int) == 0) = true := by simp [hn2]
                    have hv : Hid (b = true) := by show b = _; rw [HB3.out]; have nz := num6_zero; unfold okD; simp [*]
                    clear HB3
                    go_wp2_with fail
                    go_ret
                    exact ⟨by rw [hv.out]; first | rfl | simp [*], hb2.out⟩
                  · have en2' : ¬ (n2 : Int) = 0 := by omega
                    have en2 : ((n2 : Int) == 0) = false := by simp; omega
                    have hv : Hid (b = false) := by show b = _; rw [HB3.out]; have nz := num6_zero; unfold okD; simp [*]
                    clear HB3
                    go_wp2_with fail
                    go_ret
                    exact ⟨by rw [hv.out]; first | rfl | simp [*], hb2.out⟩
                · have ei' : ¬ (i : Int) = 0 := by omega
                  have ei : ((i : Int) == 0) = false := by simp; omega
                  have hv : Hid (b = false) := by show b = _; rw [HB3.out]; have nz := num6_zero; unfold okD; simp [*]
                  clear HB3
                  go_wp2_with fail
                  go_ret
                  exact ⟨by rw [hv.out]; first | rfl | simp [*], hb2.out⟩
              · have esz : (sz == 0) = false := by simp [hsz]
                have hv : Hid (b = false) := by show b = _; rw [HB3.out]; have nz := num6_zero; unfold okD; simp [*]
                clear HB3
                go_wp2_with fail
                go_ret
                exact ⟨by rw [hv.out]; first | rfl | simp [*], hb2.out⟩
      · generalize (⟨x.toArray⟩ : ByteArray) = xs at *
        go_wp2_with fail
        refine (hq.out _).mono ?_
        rintro v w1 ⟨rfl, hw1⟩
        have hB1 := Lib.hid (hbox.out.step hw1)
        have hb1 := Lib.hid (bth5 hbb.out hw1)
        have hX1 := Lib.hid (hX.out.step hw1)
        have s1 := hB1.out.nine
        clear hbox hbb hX s0
        cases h5 : name6 x with
        | false =>
          have hv : Hid (b = false) := by show b = _; rw [HB2.out]; unfold okD; simp [*]
          clear HB2
          go_wp2_with fail
          go_ret
          exact ⟨by rw [hv.out]; rfl, hb1.out⟩
        | true =>
          go_wp2_with fail
          refine (hU.out w1 hX1.out).mono ?_
          rintro v w2 ⟨rfl, hw2⟩
          have hB2 := Lib.hid (hB1.out.step hw2)
          have hb2 := Lib.hid (bth5 hb1.out hw2)
          have s2 := hB2.out.nine
          clear hB1 hb1 hX1 s1
          cases h6 : rgs body with
          | false =>
            have hv : Hid (b = false) := by show b = _; rw [HB2.out]; unfold okD; simp [*]
            clear HB2
            go_wp2_with fail
            go_ret
            exact ⟨by rw [hv.out]; rfl, hb2.out⟩
          | true =>
            go_wp2_with fail
            refine (refNumber6 sz w2).mono ?_
            rintro v w3 ⟨rfl, rfl⟩
            cases h7 : num6 sz with
            | false =>
              have hv : Hid (b = false) := by show b = _; rw [HB2.out]; unfold okD; simp [*]
              clear HB2
              go_wp2_with fail
              go_ret
              exact ⟨by rw [hv.out]; rfl, hb2.out⟩
            | true =>
              have HB3 : Hid (b = okD 2 x lo hh sz i n2) := by show b = _; rw [HB2.out, h6]; rfl
              clear HB2
              by_cases hlo : lo = 0
              · have elo : (lo == 0) = true := by simp [hlo]
                by_cases hhh : hh = 0
                · have ehh : (hh == 0) = true := by simp [hhh]
                  by_cases hsz : sz = 0
                  · have esz : (sz == 0) = true := by simp [hsz]
                    by_cases hi : i = 0
                    · have ei : ((i : Int) == 0) = true := by simp [hi]
                      by_cases hn2 : n2 = 0
                      · have en2 : ((n2 : Int) == 0) = true := by simp [hn2]
                        have hv : Hid (b = true) := by show b = _; rw [HB3.out]; have nz := num6_zero; unfold okD; simp [*]
                        clear HB3
                        go_wp2_with fail
                        go_ret
                        exact ⟨by rw [hv.out]; first | rfl | simp [*], hb2.out⟩
                      · have en2' : ¬ (n2 : Int) = 0 := by omega
                        have en2 : ((n2 : Int) == 0) = false := by simp; omega
                        have hv : Hid (b = false) := by show b = _; rw [HB3.out]; have nz := num6_zero; unfold okD; simp [*]
                        clear HB3
                        go_wp2_with fail
                        go_ret
                        exact ⟨by rw [hv.out]; first | rfl | simp [*], hb2.out⟩
                    · have ei' : ¬ (i : Int) = 0 := by omega
                      have ei : ((i : Int) == 0) = false := by simp; omega
                      have hv : Hid (b = false) := by show b = _; rw [HB3.out]; have nz := num6_zero; unfold okD; simp [*]
                      clear HB3
                      go_wp2_with fail
                      go_ret
                      exact ⟨by rw [hv.out]; first | rfl | simp [*], hb2.out⟩
                  · have esz : (sz == 0) = false := by simp [hsz]
                    have hv : Hid (b = false) := by show b = _; rw [HB3.out]; have nz := num6_zero; unfold okD; simp [*]
                    clear HB3
                    go_wp2_with fail
                    go_ret
                    exact ⟨by rw [hv.out]; first | rfl | simp [*], hb2.out⟩
                · have ehh : (hh == 0) = false := by simp [hhh]
                  have hv : Hid (b = false) := by show b = _; rw [HB3.out]; have nz := num6_zero; unfold okD; simp [*]
                  clear HB3
                  go_wp2_with fail
                  go_ret
                  exact ⟨by rw [hv.out]; first | rfl | simp [*], hb2.out⟩
              · have elo : (lo == 0) = false := by simp [hlo]
                have hv : Hid (b = false) := by show b = _; rw [HB3.out]; have nz := num6_zero; unfold okD; simp [*]
                clear HB3
                go_wp2_with fail
                go_ret
                exact ⟨by rw [hv.out]; first | rfl | simp [*], hb2.out⟩
      · generalize (⟨x.toArray⟩ : ByteArray) = xs at *
        go_wp2_with fail
        refine (hq.out _).mono ?_
        rintro v w1 ⟨rfl, hw1⟩
        have hB1 := Lib.hid (hbox.out.step hw1)
        have hb1 := Lib.hid (bth5 hbb.out hw1)
        have hX1 := Lib.hid (hX.out.step hw1)
        have s1 := hB1.out.nine
        clear hbox hbb hX s0
        cases h5 : name6 x with
        | false =>
          have hv : Hid (b = false) := by show b = _; rw [HB2.out]; unfold okD; simp [*]
          clear HB2
          go_wp2_with fail
          go_ret
          exact ⟨by rw [hv.out]; rfl, hb1.out⟩
        | true =>
          go_wp2_with fail
          refine (hU.out w1 hX1.out).mono ?_
          rintro v w2 ⟨rfl, hw2⟩
          have hB2 := Lib.hid (hB1.out.step hw2)
          have hb2 := Lib.hid (bth5 hb1.out hw2)
          have s2 := hB2.out.nine
          clear hB1 hb1 hX1 s1
          cases h6 : rgs body with
          | false =>
            have hv : Hid (b = false) := by show b = _; rw [HB2.out]; unfold okD; simp [*]
            clear HB2
            go_wp2_with fail
            go_ret
            exact ⟨by rw [hv.out]; rfl, hb2.out⟩
          | true =>
            go_wp2_with fail
            refine (refNumber6 sz w2).mono ?_
            rintro v w3 ⟨rfl, rfl⟩
            cases h7 : num6 sz with
            | false =>
              have hv : Hid (b = false) := by show b = _; rw [HB2.out]; unfold okD; simp [*]
              clear HB2
              go_wp2_with fail
              go_ret
              exact ⟨by rw [hv.out]; rfl, hb2.out⟩
            | true =>
              have HB3 : Hid (b = okD 3 x lo hh sz i n2) := by show b = _; rw [HB2.out, h6]; rfl
              clear HB2
              by_cases hlo : lo = 0
              · have elo : (lo == 0) = true := by simp [hlo]
                by_cases hhh : hh = 0
                · have ehh : (hh == 0) = true := by simp [hhh]
                  by_cases hi : i = 0
                  · have ei : ((i : Int) == 0) = true := by simp [hi]
                    by_cases hn2 : n2 = 0
                    · have en2 : ((n2 : Int) == 0) = true := by simp [hn2]
                      have hv : Hid (b = true) := by show b = _; rw [HB3.out]; have nz := num6_zero; unfold okD; simp [*]
                      clear HB3
                      go_wp2_with fail
                      go_ret
                      exact ⟨by rw [hv.out]; first | rfl | simp [*], hb2.out⟩
                    · have en2' : ¬ (n2 : Int) = 0 := by omega
                      have en2 : ((n2 : Int) == 0) = false := by simp; omega
                      have hv : Hid (b = false) := by show b = _; rw [HB3.out]; have nz := num6_zero; unfold okD; simp [*]
                      clear HB3
                      go_wp2_with fail
                      go_ret
                      exact ⟨by rw [hv.out]; first | rfl | simp [*], hb2.out⟩
                  · have ei' : ¬ (i : Int) = 0 := by omega
                    have ei : ((i : Int) == 0) = false := by simp; omega
                    have hv : Hid (b = false) := by show b = _; rw [HB3.out]; have nz := num6_zero; unfold okD; simp [*]
                    clear HB3
                    go_wp2_with fail
                    go_ret
                    exact ⟨by rw [hv.out]; first | rfl | simp [*], hb2.out⟩
                · have ehh : (hh == 0) = false := by simp [hhh]
                  have hv : Hid (b = false) := by show b = _; rw [HB3.out]; have nz := num6_zero; unfold okD; simp [*]
                  clear HB3
                  go_wp2_with fail
                  go_ret
                  exact ⟨by rw [hv.out]; first | rfl | simp [*], hb2.out⟩
              · have elo : (lo == 0) = false := by simp [hlo]
                have hv : Hid (b = false) := by show b = _; rw [HB3.out]; have nz := num6_zero; unfold okD; simp [*]
                clear HB3
                go_wp2_with fail
                go_ret
                exact ⟨by rw [hv.out]; first | rfl | simp [*], hb2.out⟩
      · generalize (⟨x.toArray⟩ : ByteArray) = xs at *
        go_wp2_with fail
        refine (hq.out _).mono ?_
        rintro v w1 ⟨rfl, hw1⟩
        have hB1 := Lib.hid (hbox.out.step hw1)
        have hb1 := Lib.hid (bth5 hbb.out hw1)
        have hX1 := Lib.hid (hX.out.step hw1)
        have s1 := hB1.out.nine
        clear hbox hbb hX s0
        cases h5 : name6 x with
        | false =>
          have hv : Hid (b = false) := by show b = _; rw [HB2.out]; unfold okD; simp [*]
          clear HB2
          go_wp2_with fail
          go_ret
          exact ⟨by rw [hv.out]; rfl, hb1.out⟩
        | true =>
          go_wp2_with fail
          refine (hU.out w1 hX1.out).mono ?_
          rintro v w2 ⟨rfl, hw2⟩
          have hB2 := Lib.hid (hB1.out.step hw2)
          have hb2 := Lib.hid (bth5 hb1.out hw2)
          have s2 := hB2.out.nine
          clear hB1 hb1 hX1 s1
          cases h6 : rgs body with
          | false =>
            have hv : Hid (b = false) := by show b = _; rw [HB2.out]; unfold okD; simp [*]
            clear HB2
            go_wp2_with fail
            go_ret
            exact ⟨by rw [hv.out]; rfl, hb2.out⟩
          | true =>
            go_wp2_with fail
            refine (refNumber6 sz w2).mono ?_
            rintro v w3 ⟨rfl, rfl⟩
            cases h7 : num6 sz with
            | false =>
              have hv : Hid (b = false) := by show b = _; rw [HB2.out]; unfold okD; simp [*]
              clear HB2
              go_wp2_with fail
              go_ret
              exact ⟨by rw [hv.out]; rfl, hb2.out⟩
            | true =>
              have HB3 : Hid (b = okD 4 x lo hh sz i n2) := by show b = _; rw [HB2.out, h6]; rfl
              clear HB2
              by_cases hlo : lo = 0
              · have elo : (lo == 0) = true := by simp [hlo]
                by_cases hhh : hh = 0
                · have ehh : (hh == 0) = true := by simp [hhh]
                  by_cases hsz : sz = 0
                  · have esz : (sz == 0) = true := by simp [hsz]
                    have hv : Hid (b = true) := by show b = _; rw [HB3.out]; have nz := num6_zero; unfold okD; simp [*]
                    clear HB3
                    go_wp2_with fail
                    go_ret
                    exact ⟨by rw [hv.out]; first | rfl | simp [*], hb2.out⟩
                  · have esz : (sz == 0) = false := by simp [hsz]
                    have hv : Hid (b = false) := by show b = _; rw [HB3.out]; have nz := num6_zero; unfold okD; simp [*]
                    clear HB3
                    go_wp2_with fail
                    go_ret
                    exact ⟨by rw [hv.out]; first | rfl | simp [*], hb2.out⟩
                · have ehh : (hh == 0) = false := by simp [hhh]
                  have hv : Hid (b = false) := by show b = _; rw [HB3.out]; have nz := num6_zero; unfold okD; simp [*]
                  clear HB3
                  go_wp2_with fail
                  go_ret
                  exact ⟨by rw [hv.out]; first | rfl | simp [*], hb2.out⟩
              · have elo : (lo == 0) = false := by simp [hlo]
                have hv : Hid (b = false) := by show b = _; rw [HB3.out]; have nz := num6_zero; unfold okD; simp [*]
                clear HB3
                go_wp2_with fail
                go_ret
                exact ⟨by rw [hv.out]; first | rfl | simp [*], hb2.out⟩

set_option maxHeartbeats 4000000 in
theorem refRight6 (ds : List DV) (mn : List SV) (hs : sbk mn + dbk ds ≤ 4000000) (A : Option Addr) (ca : Nat) (B : Option Addr) (cb : Nat) (w : World) (hx : DR w A ds) (hy : SR w B mn) : Calls Tryd.prog 26 #[pval A ds.length ca B mn.length cb] w fun e w' => e = .returned (.bool (rgd ds && rgs mn)) ∧ Below w.heap.size w w' := by
  obtain ⟨b, hb⟩ : ∃ b, b = (rgd ds && rgs mn) := ⟨_, rfl⟩
  rw [← hb]
  have HB := Lib.hid hb
  have hlen := Nat.le_trans (dsz_len ds) (dsz_bk ds)
  unfold pval
  have hK := Lib.hid (And.intro (Box.new w [.slice A ds.length ca, .slice B mn.length cb] 46) (bnew5 w (.cells [.slice A ds.length ca, .slice B mn.length cb].toArray 46)))
  have hM := Lib.hid (fun W (h : SR W B mn) => (refRightS (sbk mn)).2 mn (Nat.le_refl _) (by omega) B cb W h)
  have hX := Lib.hid (And.intro hx (And.intro hy hs))
  obtain ⟨n, hn⟩ : ∃ n, n = ds.length := ⟨_, rfl⟩
  obtain ⟨m, hm⟩ : ∃ m, m = mn.length := ⟨_, rfl⟩
  rw [← hn, ← hm] at hK
  rw [← hm] at hM
  rw [← hn] at hlen
  rw [← hn, ← hm]
  have HN := Lib.hid hn
  have hnl : n ≤ 4000000 := by omega
  clear hn hm hx hy hb hlen
  go_enter Tryd.func26, Tryd.ntmps26
  go_wp2_with fail
  go_loopw [3] (fun v W => ∃ i : Nat, i ≤ n ∧ v = .int .i64 i ∧ Hid (∀ j e, j < i → ds[j]? = some e → rgd1 e = true) ∧ Hid (Box W w.heap.size [.slice A n ca, .slice B m cb] ∧ Below w.heap.size w W)) (fun v _ => n - (intOf v).toNat)
  case atStart => exact ⟨0, by omega, rfl, fun j e hj => absurd hj (by omega), hK⟩
  case round =>
    obtain ⟨i, hi, rfl, hst, hbw⟩ := hrel
    clear hK
    have s0 := hbw.out.1.two
    by_cases hlt : i < n
    · have hlt' : (i : Int) < n := by omega
      obtain ⟨ad, d, rfl, hd, A1, c1, A2, c2, e0, e1, e2, e3, e4, e5, e6, e7, e8, h9, h10⟩ := (hX.out.1.step hbw.out.2).el (i := i) (by rw [← HN.out]; exact hlt)
      have hbk := dbk_get hd
      have hq2 := refRightD d (by have := hX.out.2.2; omega) A1 c1 A2 c2 wr h9 h10
      have HE := Lib.hid hd
      unfold dval at hq2
      cases hr : rgd1 d with
      | false =>
        have hv : Hid (b = false) := by show b = false; rw [HB.out]; unfold rgd; rw [all_no HE.out hr]; rfl
        rw [hr] at hq2
        clear hd hbk hst HB hr h9 h10
        go_wp2_with fail
        refine hq2.mono ?_
        rintro v w1 ⟨rfl, hb1⟩
        go_wp2_with fail
        go_ret
        exact ⟨by rw [hv.out]; rfl, bth5 hbw.out.2 hb1⟩
      | true =>
        have hst2 : Hid (∀ j e, j < i + 1 → ds[j]? = some e → rgd1 e = true) := fun j u hj hu => by
          rcases Nat.lt_or_ge j i with h | h
          · exact hst.out j u h hu
          · obtain rfl : j = i := by omega
            have e2 : d = u := Option.some.inj (HE.out.symm.trans hu)
            rw [← e2]; exact hr
        rw [hr] at hq2
        clear hd hbk hst HB hr h9 h10
        go_wp2_with fail
        refine hq2.mono ?_
        rintro v w1 ⟨rfl, hb1⟩
        have hbw2 := Lib.hid (And.intro (hbw.out.1.step hb1) (bth5 hbw.out.2 hb1))
        go_wp2_with fail
        exact ⟨⟨i + 1, by omega, by go_num, hst2, hbw2⟩, by simp [intOf]; omega⟩
    · obtain rfl : i = n := by omega
      have hlt' : ¬ (i : Int) < i := by omega
      have HB2 : Hid (b = rgs mn) := by
        show b = _
        rw [HB.out]
        unfold rgd
        rw [all_yes (fun j e hj => hst.out j e (by rw [HN.out]; exact hj))]
        rfl
      have q := hM.out wr (hX.out.2.1.step hbw.out.2)
      clear HB hst
      go_wp2_with fail
      refine q.mono ?_
      rintro v w1 ⟨rfl, hb1⟩
      go_wp2_with fail
      go_ret
      exact ⟨by rw [HB2.out]; rfl, bth5 hbw.out.2 hb1⟩
end Go.Proofs.YtkmioieanopafaaDoor
