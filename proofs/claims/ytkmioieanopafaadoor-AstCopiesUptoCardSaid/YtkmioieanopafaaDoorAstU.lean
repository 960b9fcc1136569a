/- Texts and trees that are the same: the kit, the library, the landed ast. -/
import Derived.Test.YtkmioieanopafaaDoorAstS
import Derived.Test.YtkmioieanopafaaDoorAstL
import Derived.Test.YtkmioieanopafaaDoorAstT
namespace Go.Proofs.YtkmioieanopafaaDoor
open Go.RowKit

theorem textB (a b : List UInt8) : ((⟨a.toArray⟩ : ByteArray).toList == (⟨b.toArray⟩ : ByteArray).toList) = (a == b) := by rw [Bool.eq_iff_iff]; simp
set_option maxHeartbeats 2000000 in
theorem kitSameT {A A' : Option Addr} {n n' c c' : Nat} {r s : List (List UInt8)} {w : World} (h : RowS w A n r) (h' : RowS w A' n' s) (hn : n ≤ 4611686018427387904) :
    Calls Tryd.prog 11 #[.slice A n c, .slice A' n' c'] w fun e w' => e = .returned (.bool (r == s)) ∧ Below w.heap.size w w' := by
  obtain ⟨b, hb⟩ : ∃ b, b = (r == s) := ⟨_, rfl⟩
  rw [← hb]
  have HB := Lib.hid hb
  clear hb
  have hl := Lib.hid h.len
  have hl' := Lib.hid h'.len
  by_cases hnn : n = n'
  · subst hnn
    go_enter Tryd.func11, Tryd.ntmps11
    go_wp2_with fail
    go_loopw [5] (fun v W => ∃ i : Nat, i ≤ n ∧ v = .int .i64 i ∧ Hid (∀ j, j < i → r[j]? = s[j]?) ∧ Hid (Below w.heap.size w W)) (fun v _ => n - (intOf v).toNat)
    case atStart => exact ⟨0, by omega, rfl, fun j hj => absurd hj (by omega), Below.refl _ _⟩
    case round =>
      obtain ⟨i, hi, rfl, hst, hbw⟩ := hrel
      by_cases hlt : i < n
      · have hd := Lib.hid (bth5 hbw.out (Below.refl wr.heap.size wr).drew)
        obtain ⟨ad, t, rfl, ht, hc1⟩ := (h.below hbw.out).at_ hlt
        obtain ⟨ad', t', rfl, ht', hc2⟩ := (h'.below hbw.out).at_ hlt
        have hlt' : (i : Int) < n := by omega
        have HT := Lib.hid (And.intro ht ht')
        clear h h' ht ht'
        by_cases he : t = t'
        · have hst2 : Hid (∀ j, j < i + 1 → r[j]? = s[j]?) := fun j hj => by
            rcases Nat.lt_or_ge j i with h | h
            · exact hst.out j h
            · obtain rfl : j = i := by omega
              rw [HT.out.1, HT.out.2, he]
          have e1 := eq_texts6 he
          clear hst HT he HB
          generalize (⟨t.toArray⟩ : ByteArray) = ts at *
          generalize (⟨t'.toArray⟩ : ByteArray) = ts' at *
          go_wp2_with fail
          go_quiet (fail)
          go_wp2_with fail
          refine ⟨⟨i + 1, by omega, by go_num, hst2, ?_⟩, by simp [intOf]; omega⟩
          first | exact below_drewN_ hbw.out _ | exact hd
        · have hv : Hid (b = false) := by
            show b = _
            rw [HB.out, beq_eq_false_iff_ne]
            intro e
            have := HT.out.1.symm.trans (e ▸ HT.out.2 : r[i]? = some t')
            injection this with this
            exact he this
          have e1 := ne_texts6 he
          clear hst HT he HB
          generalize (⟨t.toArray⟩ : ByteArray) = ts at *
          generalize (⟨t'.toArray⟩ : ByteArray) = ts' at *
          go_wp2_with fail
          go_quiet (fail)
          go_wp2_with fail
          go_ret
          refine ⟨by rw [hv.out]; rfl, ?_⟩
          first | exact below_drewN_ hbw.out _ | exact hd.out
      · obtain rfl : i = n := by omega
        have hlt' : ¬ (i : Int) < i := by omega
        have hv : Hid (b = true) := by
          show b = _
          rw [HB.out, beq_iff_eq]
          apply List.ext_getElem?
          intro j
          rcases Nat.lt_or_ge j i with h | h
          · exact hst.out j h
          · rw [List.getElem?_eq_none (by rw [← hl.out]; exact h), List.getElem?_eq_none (by rw [← hl'.out]; exact h)]
        clear h h' hst HB
        go_wp2_with fail
        go_ret
        exact ⟨by rw [hv.out]; rfl, hbw.out⟩
  · have hv : Hid (b = false) := by
      show b = _
      rw [HB.out, beq_eq_false_iff_ne]
      intro e
      exact hnn (by rw [hl.out, hl'.out, e])
    have e1 : ((n : Int) == n') = false := by simp; omega
    have e2 : ¬ (n : Int) = n' := by omega
    clear HB
    go_enter Tryd.func11, Tryd.ntmps11
    go_wp2_with fail
    go_ret
    exact ⟨by rw [hv.out]; rfl, Below.refl _ _⟩
set_option maxHeartbeats 2000000 in
theorem astEqualT {A A' : Option Addr} {n n' c c' : Nat} {r s : List (List UInt8)} {w : World} (h : RowS w A n r) (h' : RowS w A' n' s) (hn : n ≤ 4611686018427387904) :
    Calls Tryd.prog 98 #[.slice A n c, .slice A' n' c'] w fun e w' => e = .returned (.bool (r == s)) ∧ Below w.heap.size w w' := by
  obtain ⟨b, hb⟩ : ∃ b, b = (r == s) := ⟨_, rfl⟩
  rw [← hb]
  have HB := Lib.hid hb
  clear hb
  have hl := Lib.hid h.len
  have hl' := Lib.hid h'.len
  by_cases hnn : n = n'
  · subst hnn
    go_enter Tryd.func98, Tryd.ntmps98
    go_wp2_with fail
    go_loopw [13] (fun v W => ∃ i : Nat, i ≤ n ∧ v = .int .i64 i ∧ Hid (∀ j, j < i → r[j]? = s[j]?) ∧ Hid (Below w.heap.size w W)) (fun v _ => n - (intOf v).toNat)
    case atStart => exact ⟨0, by omega, rfl, fun j hj => absurd hj (by omega), Below.refl _ _⟩
    case round =>
      obtain ⟨i, hi, rfl, hst, hbw⟩ := hrel
      by_cases hlt : i < n
      · have hd := Lib.hid (bth5 hbw.out (Below.refl wr.heap.size wr).drew)
        obtain ⟨ad, t, rfl, ht, hc1⟩ := (h.below hbw.out).at_ hlt
        obtain ⟨ad', t', rfl, ht', hc2⟩ := (h'.below hbw.out).at_ hlt
        have hlt' : (i : Int) < n := by omega
        have HT := Lib.hid (And.intro ht ht')
        clear h h' ht ht'
        by_cases he : t = t'
        · have hst2 : Hid (∀ j, j < i + 1 → r[j]? = s[j]?) := fun j hj => by
            rcases Nat.lt_or_ge j i with h | h
            · exact hst.out j h
            · obtain rfl : j = i := by omega
              rw [HT.out.1, HT.out.2, he]
          have e1 := eq_texts6 he
          clear hst HT he HB
          generalize (⟨t.toArray⟩ : ByteArray) = ts at *
          generalize (⟨t'.toArray⟩ : ByteArray) = ts' at *
          go_wp2_with fail
          go_quiet (fail)
          go_wp2_with fail
          refine ⟨⟨i + 1, by omega, by go_num, hst2, ?_⟩, by simp [intOf]; omega⟩
          first | exact below_drewN_ hbw.out _ | exact hd
        · have hv : Hid (b = false) := by
            show b = _
            rw [HB.out, beq_eq_false_iff_ne]
            intro e
            have := HT.out.1.symm.trans (e ▸ HT.out.2 : r[i]? = some t')
            injection this with this
            exact he this
          have e1 := ne_texts6 he
          clear hst HT he HB
          generalize (⟨t.toArray⟩ : ByteArray) = ts at *
          generalize (⟨t'.toArray⟩ : ByteArray) = ts' at *
          go_wp2_with fail
          go_quiet (fail)
          go_wp2_with fail
          go_ret
          refine ⟨by rw [hv.out]; rfl, ?_⟩
          first | exact below_drewN_ hbw.out _ | exact hd.out
      · obtain rfl : i = n := by omega
        have hlt' : ¬ (i : Int) < i := by omega
        have hv : Hid (b = true) := by
          show b = _
          rw [HB.out, beq_iff_eq]
          apply List.ext_getElem?
          intro j
          rcases Nat.lt_or_ge j i with h | h
          · exact hst.out j h
          · rw [List.getElem?_eq_none (by rw [← hl.out]; exact h), List.getElem?_eq_none (by rw [← hl'.out]; exact h)]
        clear h h' hst HB
        go_wp2_with fail
        go_ret
        exact ⟨by rw [hv.out]; rfl, hbw.out⟩
  · have hv : Hid (b = false) := by
      show b = _
      rw [HB.out, beq_eq_false_iff_ne]
      intro e
      exact hnn (by rw [hl.out, hl'.out, e])
    have e1 : ((n : Int) == n') = false := by simp; omega
    have e2 : ¬ (n : Int) = n' := by omega
    clear HB
    go_enter Tryd.func98, Tryd.ntmps98
    go_wp2_with fail
    go_ret
    exact ⟨by rw [hv.out]; rfl, Below.refl _ _⟩

def EqXC (r : List XV) : Prop := ∀ (s : List XV) (A : Option Addr) (ca : Nat) (B : Option Addr) (cb : Nat) (w : World), XR w A r → XR w B s → Calls Tryd.prog 81 #[.slice A r.length ca, .slice B s.length cb, .func (.func 41) #[] #[]] w fun v w' => v = .returned (.bool (smx r s)) ∧ Below w.heap.size w w'

set_option maxHeartbeats 8000000 in
theorem astSX1 (e f : XV) (ih : EqXC e.gs) (A1 : Option Addr) (c1 : Nat) (B1 : Option Addr) (d1 : Nat) (w : World) (hx1 : XR w A1 e.gs) (hy1 : XR w B1 f.gs) : Calls Tryd.prog 41 #[xval e A1 c1, xval f B1 d1] w fun v w' => v = .returned (.bool (smx1 e f)) ∧ Below w.heap.size w w' := by
  have K0 := Lib.hid (TwoB.new w [.int .i64 e.k, .int .i64 e.n, .string ⟨e.x.toArray⟩, .int .i64 e.o, .slice A1 e.gs.length c1, .int .i64 e.l, .int .i64 e.c] [.int .i64 f.k, .int .i64 f.n, .string ⟨f.x.toArray⟩, .int .i64 f.o, .slice B1 f.gs.length d1, .int .i64 f.l, .int .i64 f.c] 66 66)
  have q1 := Lib.hid (fun W (h1 : XR W A1 e.gs) (h2 : XR W B1 f.gs) => ih f.gs A1 c1 B1 d1 W h1 h2)
  have HL := Lib.hid (And.intro hx1 (hy1))
  have hV : Hid (smx1 e f = ((e.k == f.k) && ((e.n == f.n) && ((e.x == f.x) && ((e.o == f.o) && (smx e.gs f.gs)))))) := smx1_eq e f
  rw [hV.out]
  obtain ⟨v_k, hv_k⟩ : ∃ v, v = (e.k == f.k) := ⟨_, rfl⟩
  obtain ⟨v_n, hv_n⟩ : ∃ v, v = (e.n == f.n) := ⟨_, rfl⟩
  obtain ⟨v_x, hv_x⟩ : ∃ v, v = (e.x == f.x) := ⟨_, rfl⟩
  have ht : ((⟨e.x.toArray⟩ : ByteArray).toList == (⟨f.x.toArray⟩ : ByteArray).toList) = v_x := by rw [hv_x]; exact textB _ _
  obtain ⟨v_o, hv_o⟩ : ∃ v, v = (e.o == f.o) := ⟨_, rfl⟩
  obtain ⟨v_gs, hv_gs⟩ : ∃ v, v = smx e.gs f.gs := ⟨_, rfl⟩
  rw [← hv_gs] at q1
  rw [← hv_k, ← hv_n, ← hv_x, ← hv_o, ← hv_gs]
  replace hv_k := hv_k.symm
  replace hv_n := hv_n.symm
  replace hv_o := hv_o.symm
  clear hV hv_x hv_gs hx1 hy1 ih
  unfold xval
  generalize (⟨e.x.toArray⟩ : ByteArray) = xs at *
  generalize (⟨f.x.toArray⟩ : ByteArray) = ys at *
  generalize e.k = ek at *
  generalize f.k = fk at *
  generalize e.n = en at *
  generalize f.n = fn at *
  generalize e.o = eo at *
  generalize f.o = fo at *
  generalize e.l = el at *
  generalize f.l = fl at *
  generalize e.c = ec at *
  generalize f.c = fc at *
  go_enter Tryd.func41, Tryd.ntmps41
  cases v_k with
  | false =>
    go_wp2_with fail
    go_ret
    exact ⟨rfl, K0.out.2.2⟩
  | true =>
  cases v_n with
  | false =>
    go_wp2_with fail
    go_ret
    exact ⟨rfl, K0.out.2.2⟩
  | true =>
  cases v_x with
  | false =>
    go_wp2_with fail
    go_ret
    exact ⟨rfl, K0.out.2.2⟩
  | true =>
  cases v_o with
  | false =>
    go_wp2_with fail
    go_ret
    exact ⟨rfl, K0.out.2.2⟩
  | true =>
  have p1 := q1.out _ (HL.out.1.step K0.out.2.2) (HL.out.2.step K0.out.2.2)
  go_wp2_with fail
  refine p1.mono ?_
  rintro e1 w1 ⟨rfl, hww1⟩
  go_wp2_with fail
  go_ret
  exact ⟨by cases v_gs <;> rfl, bth5 K0.out.2.2 hww1⟩

set_option maxHeartbeats 8000000 in
theorem astSX (N : Nat) : ∀ (r : List XV), xsz r ≤ N → N ≤ 4611686018427387904 → EqXC r := by
  induction N using Nat.strongRecOn with
  | ind N ih =>
  intro r hr hNN s A ca B cb w hx hy
  obtain ⟨b, hb⟩ : ∃ b, b = smx r s := ⟨_, rfl⟩
  rw [← hb]
  have HB := Lib.hid hb
  have hX := Lib.hid (And.intro hx hy)
  have hG := Lib.hid hr
  have IH := Lib.hid ih
  have hlen := xsz_len r
  by_cases hl : r.length = s.length
  · rw [← hl]
    have HL := Lib.hid hl
    obtain ⟨m, hm⟩ : ∃ m, m = r.length := ⟨_, rfl⟩
    have HM := Lib.hid hm
    rw [← hm] at hlen ⊢
    have hml : m ≤ 4611686018427387904 := by omega
    clear hb hx hy hr hlen ih hl hm
    go_enter Tryd.func81, Tryd.ntmps81
    go_wp2_with fail
    go_loopw [17] (fun v W => ∃ i : Nat, i ≤ m ∧ v = .int .i64 i ∧ Hid (∀ j a b, j < i → r[j]? = some a → s[j]? = some b → smx1 a b = true) ∧ Hid (Below w.heap.size w W)) (fun v _ => m - (intOf v).toNat)
    case atStart => exact ⟨0, by omega, rfl, fun j _ _ hj => absurd hj (by omega), Below.refl _ _⟩
    case round =>
      obtain ⟨i, hi, rfl, hst, hbw⟩ := hrel
      by_cases hlt : i < m
      · have hlt' : (i : Int) < m := by omega
        obtain ⟨ad, e, rfl, he, A1, c1, e0, e1, e2, e3, e4, e5, e6, hx1⟩ := (hX.out.1.step hbw.out).el (i := i) (by rw [← HM.out]; exact hlt)
        obtain ⟨ad2, f, rfl, hf, B1, d1, f0, f1, f2, f3, f4, f5, f6, hy1⟩ := (hX.out.2.step hbw.out).el (i := i) (by rw [← HL.out, ← HM.out]; exact hlt)
        have hb2 := Lib.hid (bth5 (bnew5 wr (.cells #[.int .i64 e.k, .int .i64 e.n, .string ⟨e.x.toArray⟩, .int .i64 e.o, .slice A1 e.gs.length c1, .int .i64 e.l, .int .i64 e.c] 66)) (bnew5 _ (.cells #[.int .i64 f.k, .int .i64 f.n, .string ⟨f.x.toArray⟩, .int .i64 f.o, .slice B1 f.gs.length d1, .int .i64 f.l, .int .i64 f.c] 66)))
        have hz := xsz_get he
        have hz3 := xsz1_eq e
        have hG2 := hG.out
        have hq := astSX1 e f (IH.out (xsz e.gs) (by omega) e.gs (Nat.le_refl _) (by omega)) A1 c1 B1 d1 _ (hx1.step hb2.out) (hy1.step hb2.out)
        have HE := Lib.hid (And.intro he hf)
        have HST : Hid (smx1 e f = true → Hid (∀ j a b, j < i + 1 → r[j]? = some a → s[j]? = some b → smx1 a b = true)) := fun hr j a b hj ha hb => by
          rcases Nat.lt_or_ge j i with h | h
          · exact hst.out j a b h ha hb
          · obtain rfl : j = i := by omega
            have t1 := HE.out.1.symm.trans ha
            have t2 := HE.out.2.symm.trans hb
            injection t1 with t1
            injection t2 with t2
            rw [← t1, ← t2]; exact hr
        have HNO : Hid (smx1 e f = false → b = false) := fun hr => by rw [HB.out]; exact smx_noat HE.out.1 HE.out.2 hr
        unfold xval at hq
        clear he hf hx1 hy1 hz hz3 hG2 hst HE HB
        generalize smx1 e f = sm at *
        generalize e.gs.length = m0 at *
        generalize f.gs.length = n0 at *
        generalize e.k = ek at *
        generalize f.k = fk at *
        generalize e.n = en at *
        generalize f.n = fn at *
        generalize e.o = eo at *
        generalize f.o = fo at *
        generalize e.l = el at *
        generalize f.l = fl at *
        generalize e.c = ec at *
        generalize f.c = fc at *
        generalize (⟨e.x.toArray⟩ : ByteArray) = xs at *
        generalize (⟨f.x.toArray⟩ : ByteArray) = ys at *
        have hba := World.block_lt_of_cell? wr _ f0
        go_wp2_with fail
        refine hq.mono ?_
        rintro v1 w1 ⟨rfl, hw1⟩
        have hbn := Lib.hid (bth5 (bth5 hbw.out hb2.out) hw1)
        clear hq
        cases sm with
        | false =>
          have hv := Lib.hid (HNO.out rfl)
          go_wp2_with fail
          go_ret
          exact ⟨by rw [hv.out]; rfl, hbn.out⟩
        | true =>
          have hst2 := HST.out rfl
          go_wp2_with fail
          exact ⟨⟨i + 1, by omega, by go_num, hst2, hbn⟩, by simp [intOf]; omega⟩
      · obtain rfl : i = m := by omega
        have hlt' : ¬ (i : Int) < i := by omega
        have hv : Hid (b = true) := by
          show b = _
          rw [HB.out]
          exact smx_yes HL.out fun j a b hj => hst.out j a b (by rw [HM.out]; exact hj)
        clear HB hst
        go_wp2_with fail
        go_ret
        exact ⟨by rw [hv.out]; rfl, hbw.out⟩
  · have hv : Hid (b = false) := by show b = _; rw [HB.out]; exact smx_nolen hl
    have e1 : ((r.length : Int) == s.length) = false := by simp; omega
    have e2 : ¬ (r.length : Int) = s.length := by omega
    clear hb hx hy hr hlen HB
    generalize r.length = m at *
    generalize s.length = m' at *
    go_enter Tryd.func81, Tryd.ntmps81
    go_wp2_with fail
    go_ret
    exact ⟨by rw [hv.out]; rfl, Below.refl _ _⟩

def EqSC (r : List SV) : Prop := ∀ (s : List SV) (A : Option Addr) (ca : Nat) (B : Option Addr) (cb : Nat) (w : World), SR w A r → SR w B s → Calls Tryd.prog 70 #[.slice A r.length ca, .slice B s.length cb, .func (.func 71) #[] #[]] w fun v w' => v = .returned (.bool (smy r s)) ∧ Below w.heap.size w w'

set_option maxHeartbeats 8000000 in
theorem astSS1 (e f : SV) (hN : xsz e.es ≤ 4611686018427387904) (ih1 : EqSC e.ts) (ih2 : EqSC e.us) (A1 : Option Addr) (c1 : Nat) (A2 : Option Addr) (c2 : Nat) (A3 : Option Addr) (c3 : Nat) (B1 : Option Addr) (d1 : Nat) (B2 : Option Addr) (d2 : Nat) (B3 : Option Addr) (d3 : Nat) (w : World) (hx1 : XR w A1 e.es) (hy1 : XR w B1 f.es) (hx2 : SR w A2 e.ts) (hy2 : SR w B2 f.ts) (hx3 : SR w A3 e.us) (hy3 : SR w B3 f.us) : Calls Tryd.prog 71 #[sval e A1 c1 A2 c2 A3 c3, sval f B1 d1 B2 d2 B3 d3] w fun v w' => v = .returned (.bool (smy1 e f)) ∧ Below w.heap.size w w' := by
  have K0 := Lib.hid (TwoB.new w [.int .i64 e.k, .string ⟨e.x.toArray⟩, .slice A1 e.es.length c1, .slice A2 e.ts.length c2, .slice A3 e.us.length c3, .int .i64 e.l, .int .i64 e.c] [.int .i64 f.k, .string ⟨f.x.toArray⟩, .slice B1 f.es.length d1, .slice B2 f.ts.length d2, .slice B3 f.us.length d3, .int .i64 f.l, .int .i64 f.c] 62 62)
  have q1 := Lib.hid (fun W (h1 : XR W A1 e.es) (h2 : XR W B1 f.es) => astSX (xsz e.es) e.es (Nat.le_refl _) hN f.es A1 c1 B1 d1 W h1 h2)
  have q2 := Lib.hid (fun W (h1 : SR W A2 e.ts) (h2 : SR W B2 f.ts) => ih1 f.ts A2 c2 B2 d2 W h1 h2)
  have q3 := Lib.hid (fun W (h1 : SR W A3 e.us) (h2 : SR W B3 f.us) => ih2 f.us A3 c3 B3 d3 W h1 h2)
  have HL := Lib.hid (And.intro hx1 (And.intro hy1 (And.intro hx2 (And.intro hy2 (And.intro hx3 (hy3))))))
  have hV : Hid (smy1 e f = ((e.k == f.k) && ((e.x == f.x) && (smx e.es f.es && (smy e.ts f.ts && (smy e.us f.us)))))) := smy1_eq e f
  rw [hV.out]
  obtain ⟨v_k, hv_k⟩ : ∃ v, v = (e.k == f.k) := ⟨_, rfl⟩
  obtain ⟨v_x, hv_x⟩ : ∃ v, v = (e.x == f.x) := ⟨_, rfl⟩
  have ht : ((⟨e.x.toArray⟩ : ByteArray).toList == (⟨f.x.toArray⟩ : ByteArray).toList) = v_x := by rw [hv_x]; exact textB _ _
  obtain ⟨v_es, hv_es⟩ : ∃ v, v = smx e.es f.es := ⟨_, rfl⟩
  rw [← hv_es] at q1
  obtain ⟨v_ts, hv_ts⟩ : ∃ v, v = smy e.ts f.ts := ⟨_, rfl⟩
  rw [← hv_ts] at q2
  obtain ⟨v_us, hv_us⟩ : ∃ v, v = smy e.us f.us := ⟨_, rfl⟩
  rw [← hv_us] at q3
  rw [← hv_k, ← hv_x, ← hv_es, ← hv_ts, ← hv_us]
  replace hv_k := hv_k.symm
  clear hV hv_x hv_es hv_ts hv_us hx1 hy1 hx2 hy2 hx3 hy3 ih1 ih2 hN
  unfold sval
  generalize (⟨e.x.toArray⟩ : ByteArray) = xs at *
  generalize (⟨f.x.toArray⟩ : ByteArray) = ys at *
  generalize e.k = ek at *
  generalize f.k = fk at *
  generalize e.l = el at *
  generalize f.l = fl at *
  generalize e.c = ec at *
  generalize f.c = fc at *
  go_enter Tryd.func71, Tryd.ntmps71
  cases v_k with
  | false =>
    go_wp2_with fail
    go_ret
    exact ⟨rfl, K0.out.2.2⟩
  | true =>
  cases v_x with
  | false =>
    go_wp2_with fail
    go_ret
    exact ⟨rfl, K0.out.2.2⟩
  | true =>
  have p1 := q1.out _ (HL.out.1.step K0.out.2.2) (HL.out.2.1.step K0.out.2.2)
  go_wp2_with fail
  refine p1.mono ?_
  rintro e1 w1 ⟨rfl, hww1⟩
  have K1 := Lib.hid (K0.out.step hww1)
  clear p1 hww1
  have s1 := K1.out.1.seven
  have t1 := K1.out.2.1.seven
  cases v_es with
  | false =>
    go_wp2_with fail
    go_ret
    exact ⟨rfl, K1.out.2.2⟩
  | true =>
  have p2 := q2.out _ (HL.out.2.2.1.step K1.out.2.2) (HL.out.2.2.2.1.step K1.out.2.2)
  go_wp2_with fail
  refine p2.mono ?_
  rintro e1 w2 ⟨rfl, hww2⟩
  have K2 := Lib.hid (K1.out.step hww2)
  clear p2 hww2
  have s2 := K2.out.1.seven
  have t2 := K2.out.2.1.seven
  cases v_ts with
  | false =>
    go_wp2_with fail
    go_ret
    exact ⟨rfl, K2.out.2.2⟩
  | true =>
  have p3 := q3.out _ (HL.out.2.2.2.2.1.step K2.out.2.2) (HL.out.2.2.2.2.2.step K2.out.2.2)
  go_wp2_with fail
  refine p3.mono ?_
  rintro e1 w3 ⟨rfl, hww3⟩
  go_wp2_with fail
  go_ret
  exact ⟨by cases v_us <;> rfl, bth5 K2.out.2.2 hww3⟩

set_option maxHeartbeats 8000000 in
theorem astSS (N : Nat) : ∀ (r : List SV), ssz r ≤ N → N ≤ 4611686018427387904 → EqSC r := by
  induction N using Nat.strongRecOn with
  | ind N ih =>
  intro r hr hNN s A ca B cb w hx hy
  obtain ⟨b, hb⟩ : ∃ b, b = smy r s := ⟨_, rfl⟩
  rw [← hb]
  have HB := Lib.hid hb
  have hX := Lib.hid (And.intro hx hy)
  have hG := Lib.hid hr
  have IH := Lib.hid ih
  have hlen := ssz_len r
  by_cases hl : r.length = s.length
  · rw [← hl]
    have HL := Lib.hid hl
    obtain ⟨m, hm⟩ : ∃ m, m = r.length := ⟨_, rfl⟩
    have HM := Lib.hid hm
    rw [← hm] at hlen ⊢
    have hml : m ≤ 4611686018427387904 := by omega
    clear hb hx hy hr hlen ih hl hm
    go_enter Tryd.func70, Tryd.ntmps70
    go_wp2_with fail
    go_loopw [17] (fun v W => ∃ i : Nat, i ≤ m ∧ v = .int .i64 i ∧ Hid (∀ j a b, j < i → r[j]? = some a → s[j]? = some b → smy1 a b = true) ∧ Hid (Below w.heap.size w W)) (fun v _ => m - (intOf v).toNat)
    case atStart => exact ⟨0, by omega, rfl, fun j _ _ hj => absurd hj (by omega), Below.refl _ _⟩
    case round =>
      obtain ⟨i, hi, rfl, hst, hbw⟩ := hrel
      by_cases hlt : i < m
      · have hlt' : (i : Int) < m := by omega
        obtain ⟨ad, e, rfl, he, A1, c1, A2, c2, A3, c3, e0, e1, e2, e3, e4, e5, e6, hx1, hx2, hx3⟩ := (hX.out.1.step hbw.out).el (i := i) (by rw [← HM.out]; exact hlt)
        obtain ⟨ad2, f, rfl, hf, B1, d1, B2, d2, B3, d3, f0, f1, f2, f3, f4, f5, f6, hy1, hy2, hy3⟩ := (hX.out.2.step hbw.out).el (i := i) (by rw [← HL.out, ← HM.out]; exact hlt)
        have hb2 := Lib.hid (bth5 (bnew5 wr (.cells #[.int .i64 e.k, .string ⟨e.x.toArray⟩, .slice A1 e.es.length c1, .slice A2 e.ts.length c2, .slice A3 e.us.length c3, .int .i64 e.l, .int .i64 e.c] 62)) (bnew5 _ (.cells #[.int .i64 f.k, .string ⟨f.x.toArray⟩, .slice B1 f.es.length d1, .slice B2 f.ts.length d2, .slice B3 f.us.length d3, .int .i64 f.l, .int .i64 f.c] 62)))
        have hz := ssz_get he
        have hz3 := ssz1_eq e
        have hG2 := hG.out
        have hq := astSS1 e f (by omega) (IH.out (ssz e.ts) (by omega) e.ts (Nat.le_refl _) (by omega)) (IH.out (ssz e.us) (by omega) e.us (Nat.le_refl _) (by omega)) A1 c1 A2 c2 A3 c3 B1 d1 B2 d2 B3 d3 _ (hx1.step hb2.out) (hy1.step hb2.out) (hx2.step hb2.out) (hy2.step hb2.out) (hx3.step hb2.out) (hy3.step hb2.out)
        have HE := Lib.hid (And.intro he hf)
        have HST : Hid (smy1 e f = true → Hid (∀ j a b, j < i + 1 → r[j]? = some a → s[j]? = some b → smy1 a b = true)) := fun hr j a b hj ha hb => by
          rcases Nat.lt_or_ge j i with h | h
          · exact hst.out j a b h ha hb
          · obtain rfl : j = i := by omega
            have t1 := HE.out.1.symm.trans ha
            have t2 := HE.out.2.symm.trans hb
            injection t1 with t1
            injection t2 with t2
            rw [← t1, ← t2]; exact hr
        have HNO : Hid (smy1 e f = false → b = false) := fun hr => by rw [HB.out]; exact smy_noat HE.out.1 HE.out.2 hr
        unfold sval at hq
        clear he hf hx1 hx2 hx3 hy1 hy2 hy3 hz hz3 hG2 hst HE HB
        generalize smy1 e f = sm at *
        generalize e.es.length = m0 at *
        generalize f.es.length = n0 at *
        generalize e.ts.length = m1 at *
        generalize f.ts.length = n1 at *
        generalize e.us.length = m2 at *
        generalize f.us.length = n2 at *
        generalize e.k = ek at *
        generalize f.k = fk at *
        generalize e.l = el at *
        generalize f.l = fl at *
        generalize e.c = ec at *
        generalize f.c = fc at *
        generalize (⟨e.x.toArray⟩ : ByteArray) = xs at *
        generalize (⟨f.x.toArray⟩ : ByteArray) = ys at *
        have hba := World.block_lt_of_cell? wr _ f0
        go_wp2_with fail
        refine hq.mono ?_
        rintro v1 w1 ⟨rfl, hw1⟩
        have hbn := Lib.hid (bth5 (bth5 hbw.out hb2.out) hw1)
        clear hq
        cases sm with
        | false =>
          have hv := Lib.hid (HNO.out rfl)
          go_wp2_with fail
          go_ret
          exact ⟨by rw [hv.out]; rfl, hbn.out⟩
        | true =>
          have hst2 := HST.out rfl
          go_wp2_with fail
          exact ⟨⟨i + 1, by omega, by go_num, hst2, hbn⟩, by simp [intOf]; omega⟩
      · obtain rfl : i = m := by omega
        have hlt' : ¬ (i : Int) < i := by omega
        have hv : Hid (b = true) := by
          show b = _
          rw [HB.out]
          exact smy_yes HL.out fun j a b hj => hst.out j a b (by rw [HM.out]; exact hj)
        clear HB hst
        go_wp2_with fail
        go_ret
        exact ⟨by rw [hv.out]; rfl, hbw.out⟩
  · have hv : Hid (b = false) := by show b = _; rw [HB.out]; exact smy_nolen hl
    have e1 : ((r.length : Int) == s.length) = false := by simp; omega
    have e2 : ¬ (r.length : Int) = s.length := by omega
    clear hb hx hy hr hlen HB
    generalize r.length = m at *
    generalize s.length = m' at *
    go_enter Tryd.func70, Tryd.ntmps70
    go_wp2_with fail
    go_ret
    exact ⟨by rw [hv.out]; rfl, Below.refl _ _⟩

set_option maxHeartbeats 8000000 in
theorem astSD1 (e f : DV) (hN : ssz e.body ≤ 4611686018427387904) (hP : e.ps.length ≤ 4611686018427387904) (A1 : Option Addr) (c1 : Nat) (A2 : Option Addr) (c2 : Nat) (B1 : Option Addr) (d1 : Nat) (B2 : Option Addr) (d2 : Nat) (w : World) (hx1 : RowS w A1 e.ps.length e.ps) (hy1 : RowS w B1 f.ps.length f.ps) (hx2 : SR w A2 e.body) (hy2 : SR w B2 f.body) : Calls Tryd.prog 69 #[dval e A1 c1 A2 c2, dval f B1 d1 B2 d2] w fun v w' => v = .returned (.bool (smd1 e f)) ∧ Below w.heap.size w w' := by
  have K0 := Lib.hid (TwoB.new w [.int .i64 e.k, .string ⟨e.x.toArray⟩, .int .i64 e.lo, .int .i64 e.hi, .int .i64 e.sz, .slice A1 e.ps.length c1, .slice A2 e.body.length c2, .int .i64 e.l, .int .i64 e.c] [.int .i64 f.k, .string ⟨f.x.toArray⟩, .int .i64 f.lo, .int .i64 f.hi, .int .i64 f.sz, .slice B1 f.ps.length d1, .slice B2 f.body.length d2, .int .i64 f.l, .int .i64 f.c] 84 84)
  have q1 := Lib.hid (fun W (h1 : RowS W A1 e.ps.length e.ps) (h2 : RowS W B1 f.ps.length f.ps) => astEqualT (c := c1) (c' := d1) h1 h2 hP)
  have q2 := Lib.hid (fun W (h1 : SR W A2 e.body) (h2 : SR W B2 f.body) => astSS (ssz e.body) e.body (Nat.le_refl _) hN f.body A2 c2 B2 d2 W h1 h2)
  have HL := Lib.hid (And.intro hx1 (And.intro hy1 (And.intro hx2 (hy2))))
  have hV : Hid (smd1 e f = ((e.k == f.k) && ((e.x == f.x) && ((e.lo == f.lo) && ((e.hi == f.hi) && ((e.sz == f.sz) && ((e.ps == f.ps) && (smy e.body f.body)))))))) := rfl
  rw [hV.out]
  obtain ⟨v_k, hv_k⟩ : ∃ v, v = (e.k == f.k) := ⟨_, rfl⟩
  obtain ⟨v_x, hv_x⟩ : ∃ v, v = (e.x == f.x) := ⟨_, rfl⟩
  have ht : ((⟨e.x.toArray⟩ : ByteArray).toList == (⟨f.x.toArray⟩ : ByteArray).toList) = v_x := by rw [hv_x]; exact textB _ _
  obtain ⟨v_lo, hv_lo⟩ : ∃ v, v = (e.lo == f.lo) := ⟨_, rfl⟩
  obtain ⟨v_hi, hv_hi⟩ : ∃ v, v = (e.hi == f.hi) := ⟨_, rfl⟩
  obtain ⟨v_sz, hv_sz⟩ : ∃ v, v = (e.sz == f.sz) := ⟨_, rfl⟩
  obtain ⟨v_ps, hv_ps⟩ : ∃ v, v = (e.ps == f.ps) := ⟨_, rfl⟩
  rw [← hv_ps] at q1
  obtain ⟨v_body, hv_body⟩ : ∃ v, v = smy e.body f.body := ⟨_, rfl⟩
  rw [← hv_body] at q2
  rw [← hv_k, ← hv_x, ← hv_lo, ← hv_hi, ← hv_sz, ← hv_ps, ← hv_body]
  replace hv_k := hv_k.symm
  replace hv_lo := hv_lo.symm
  replace hv_hi := hv_hi.symm
  replace hv_sz := hv_sz.symm
  clear hV hv_x hv_ps hv_body hx1 hy1 hx2 hy2 hN hP
  unfold dval
  generalize (⟨e.x.toArray⟩ : ByteArray) = xs at *
  generalize (⟨f.x.toArray⟩ : ByteArray) = ys at *
  generalize e.k = ek at *
  generalize f.k = fk at *
  generalize e.lo = elo at *
  generalize f.lo = flo at *
  generalize e.hi = ehi at *
  generalize f.hi = fhi at *
  generalize e.sz = esz at *
  generalize f.sz = fsz at *
  generalize e.l = el at *
  generalize f.l = fl at *
  generalize e.c = ec at *
  generalize f.c = fc at *
  go_enter Tryd.func69, Tryd.ntmps69
  cases v_k with
  | false =>
    go_wp2_with fail
    go_ret
    exact ⟨rfl, K0.out.2.2⟩
  | true =>
  cases v_x with
  | false =>
    go_wp2_with fail
    go_ret
    exact ⟨rfl, K0.out.2.2⟩
  | true =>
  cases v_lo with
  | false =>
    go_wp2_with fail
    go_ret
    exact ⟨rfl, K0.out.2.2⟩
  | true =>
  cases v_hi with
  | false =>
    go_wp2_with fail
    go_ret
    exact ⟨rfl, K0.out.2.2⟩
  | true =>
  cases v_sz with
  | false =>
    go_wp2_with fail
    go_ret
    exact ⟨rfl, K0.out.2.2⟩
  | true =>
  have p1 := q1.out _ (HL.out.1.below K0.out.2.2) (HL.out.2.1.below K0.out.2.2)
  go_wp2_with fail
  refine p1.mono ?_
  rintro e1 w1 ⟨rfl, hww1⟩
  have K1 := Lib.hid (K0.out.step hww1)
  clear p1 hww1
  have s1 := K1.out.1.nine
  have t1 := K1.out.2.1.nine
  cases v_ps with
  | false =>
    go_wp2_with fail
    go_ret
    exact ⟨rfl, K1.out.2.2⟩
  | true =>
  have p2 := q2.out _ (HL.out.2.2.1.step K1.out.2.2) (HL.out.2.2.2.step K1.out.2.2)
  go_wp2_with fail
  refine p2.mono ?_
  rintro e1 w2 ⟨rfl, hww2⟩
  go_wp2_with fail
  go_ret
  exact ⟨by cases v_body <;> rfl, bth5 K1.out.2.2 hww2⟩

set_option maxHeartbeats 8000000 in
theorem astSD (r s : List DV) (hr : dbk r ≤ 4611686018427387904) (A : Option Addr) (ca : Nat) (B : Option Addr) (cb : Nat) (w : World) (hx : DR w A r) (hy : DR w B s) : Calls Tryd.prog 68 #[.slice A r.length ca, .slice B s.length cb, .func (.func 69) #[] #[]] w fun v w' => v = .returned (.bool (smd r s)) ∧ Below w.heap.size w w' := by
  obtain ⟨b, hb⟩ : ∃ b, b = smd r s := ⟨_, rfl⟩
  rw [← hb]
  have HB := Lib.hid hb
  have hX := Lib.hid (And.intro hx hy)
  have hG := Lib.hid hr
  have hlen := dbk_len r
  by_cases hl : r.length = s.length
  · rw [← hl]
    have HL := Lib.hid hl
    obtain ⟨m, hm⟩ : ∃ m, m = r.length := ⟨_, rfl⟩
    have HM := Lib.hid hm
    rw [← hm] at hlen ⊢
    have hml : m ≤ 4611686018427387904 := by omega
    clear hb hx hy hr hlen hl hm
    go_enter Tryd.func68, Tryd.ntmps68
    go_wp2_with fail
    go_loopw [17] (fun v W => ∃ i : Nat, i ≤ m ∧ v = .int .i64 i ∧ Hid (∀ j a b, j < i → r[j]? = some a → s[j]? = some b → smd1 a b = true) ∧ Hid (Below w.heap.size w W)) (fun v _ => m - (intOf v).toNat)
    case atStart => exact ⟨0, by omega, rfl, fun j _ _ hj => absurd hj (by omega), Below.refl _ _⟩
    case round =>
      obtain ⟨i, hi, rfl, hst, hbw⟩ := hrel
      by_cases hlt : i < m
      · have hlt' : (i : Int) < m := by omega
        obtain ⟨ad, e, rfl, he, A1, c1, A2, c2, e0, e1, e2, e3, e4, e5, e6, e7, e8, hx1, hx2⟩ := (hX.out.1.step hbw.out).el (i := i) (by rw [← HM.out]; exact hlt)
        obtain ⟨ad2, f, rfl, hf, B1, d1, B2, d2, f0, f1, f2, f3, f4, f5, f6, f7, f8, hy1, hy2⟩ := (hX.out.2.step hbw.out).el (i := i) (by rw [← HL.out, ← HM.out]; exact hlt)
        have hb2 := Lib.hid (bth5 (bnew5 wr (.cells #[.int .i64 e.k, .string ⟨e.x.toArray⟩, .int .i64 e.lo, .int .i64 e.hi, .int .i64 e.sz, .slice A1 e.ps.length c1, .slice A2 e.body.length c2, .int .i64 e.l, .int .i64 e.c] 84)) (bnew5 _ (.cells #[.int .i64 f.k, .string ⟨f.x.toArray⟩, .int .i64 f.lo, .int .i64 f.hi, .int .i64 f.sz, .slice B1 f.ps.length d1, .slice B2 f.body.length d2, .int .i64 f.l, .int .i64 f.c] 84)))
        have hz := dbk_get he
        have hz3 : dbk1 e = 1 + e.x.length + pbk e.ps + sbk e.body := rfl
        have hz4 := ssz_bk e.body
        have hz5 := pbk_len e.ps
        have hG2 := hG.out
        have hq := astSD1 e f (by omega) (by omega) A1 c1 A2 c2 B1 d1 B2 d2 _ (hx1.below hb2.out) (hy1.below hb2.out) (hx2.step hb2.out) (hy2.step hb2.out)
        have HE := Lib.hid (And.intro he hf)
        have HST : Hid (smd1 e f = true → Hid (∀ j a b, j < i + 1 → r[j]? = some a → s[j]? = some b → smd1 a b = true)) := fun hr j a b hj ha hb => by
          rcases Nat.lt_or_ge j i with h | h
          · exact hst.out j a b h ha hb
          · obtain rfl : j = i := by omega
            have t1 := HE.out.1.symm.trans ha
            have t2 := HE.out.2.symm.trans hb
            injection t1 with t1
            injection t2 with t2
            rw [← t1, ← t2]; exact hr
        have HNO : Hid (smd1 e f = false → b = false) := fun hr => by rw [HB.out]; exact smd_noat HE.out.1 HE.out.2 hr
        unfold dval at hq
        clear he hf hx1 hx2 hy1 hy2 hz hz3 hz4 hz5 hG2 hst HE HB
        generalize smd1 e f = sm at *
        generalize e.ps.length = m0 at *
        generalize f.ps.length = n0 at *
        generalize e.body.length = m1 at *
        generalize f.body.length = n1 at *
        generalize e.k = ek at *
        generalize f.k = fk at *
        generalize e.lo = elo at *
        generalize f.lo = flo at *
        generalize e.hi = ehi at *
        generalize f.hi = fhi at *
        generalize e.sz = esz at *
        generalize f.sz = fsz at *
        generalize e.l = el at *
        generalize f.l = fl at *
        generalize e.c = ec at *
        generalize f.c = fc at *
        generalize (⟨e.x.toArray⟩ : ByteArray) = xs at *
        generalize (⟨f.x.toArray⟩ : ByteArray) = ys at *
        have hba := World.block_lt_of_cell? wr _ f0
        go_wp2_with fail
        refine hq.mono ?_
        rintro v1 w1 ⟨rfl, hw1⟩
        have hbn := Lib.hid (bth5 (bth5 hbw.out hb2.out) hw1)
        clear hq
        cases sm with
        | false =>
          have hv := Lib.hid (HNO.out rfl)
          go_wp2_with fail
          go_ret
          exact ⟨by rw [hv.out]; rfl, hbn.out⟩
        | true =>
          have hst2 := HST.out rfl
          go_wp2_with fail
          exact ⟨⟨i + 1, by omega, by go_num, hst2, hbn⟩, by simp [intOf]; omega⟩
      · obtain rfl : i = m := by omega
        have hlt' : ¬ (i : Int) < i := by omega
        have hv : Hid (b = true) := by
          show b = _
          rw [HB.out]
          exact smd_yes HL.out fun j a b hj => hst.out j a b (by rw [HM.out]; exact hj)
        clear HB hst
        go_wp2_with fail
        go_ret
        exact ⟨by rw [hv.out]; rfl, hbw.out⟩
  · have hv : Hid (b = false) := by show b = _; rw [HB.out]; exact smd_nolen hl
    have e1 : ((r.length : Int) == s.length) = false := by simp; omega
    have e2 : ¬ (r.length : Int) = s.length := by omega
    clear hb hx hy hr hlen HB
    generalize r.length = m at *
    generalize s.length = m' at *
    go_enter Tryd.func68, Tryd.ntmps68
    go_wp2_with fail
    go_ret
    exact ⟨by rw [hv.out]; rfl, Below.refl _ _⟩

set_option maxHeartbeats 8000000 in
theorem astSame6 (r s : List DV) (mn mm : List SV) (hs : ssz mn + dbk r ≤ 4611686018427387904) (A : Option Addr) (ca : Nat) (B : Option Addr) (cb : Nat) (A' : Option Addr) (ca' : Nat) (B' : Option Addr) (cb' : Nat) (w : World) (hx : DR w A r) (hy : SR w B mn) (hx' : DR w A' s) (hy' : SR w B' mm) : Calls Tryd.prog 31 #[pval A r.length ca B mn.length cb, pval A' s.length ca' B' mm.length cb'] w fun v w' => v = .returned (.bool (smd r s && smy mn mm)) ∧ Below w.heap.size w w' := by
  have K0 := Lib.hid (TwoB.new w [.slice A r.length ca, .slice B mn.length cb] [.slice A' s.length ca', .slice B' mm.length cb'] 41 41)
  have p1 := astSD r s (by omega) A ca A' ca' _ (hx.step K0.out.2.2) (hx'.step K0.out.2.2)
  have q2 := Lib.hid (fun W (h1 : SR W B mn) (h2 : SR W B' mm) => astSS (ssz mn) mn (Nat.le_refl _) (by omega) mm B cb B' cb' W h1 h2)
  have HL := Lib.hid (And.intro hy hy')
  obtain ⟨v1, hv1⟩ : ∃ v, v = smd r s := ⟨_, rfl⟩
  obtain ⟨v2, hv2⟩ : ∃ v, v = smy mn mm := ⟨_, rfl⟩
  rw [← hv1] at p1
  rw [← hv2] at q2
  rw [← hv1, ← hv2]
  unfold pval
  clear hv1 hv2 hx hx' hy hy' hs
  generalize r.length = n1 at *
  generalize s.length = n2 at *
  generalize mn.length = n3 at *
  generalize mm.length = n4 at *
  go_enter Tryd.func31, Tryd.ntmps31
  go_wp2_with fail
  refine p1.mono ?_
  rintro e1 w1 ⟨rfl, hww1⟩
  have K1 := Lib.hid (K0.out.step hww1)
  clear p1 hww1
  have s1 := K1.out.1.two
  have t1 := K1.out.2.1.two
  cases v1 with
  | false =>
    go_wp2_with fail
    go_ret
    exact ⟨rfl, K1.out.2.2⟩
  | true =>
  have p2 := q2.out _ (HL.out.1.step K1.out.2.2) (HL.out.2.step K1.out.2.2)
  go_wp2_with fail
  refine p2.mono ?_
  rintro e1 w2 ⟨rfl, hww2⟩
  go_wp2_with fail
  go_ret
  exact ⟨by cases v2 <;> rfl, bth5 K1.out.2.2 hww2⟩
end Go.Proofs.YtkmioieanopafaaDoor
