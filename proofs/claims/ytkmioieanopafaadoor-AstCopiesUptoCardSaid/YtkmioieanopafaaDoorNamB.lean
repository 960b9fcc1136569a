/- What expressions name, by the landed ast: the recursive walk. -/
import Derived.Test.YtkmioieanopafaaDoorNamA
namespace Go.Proofs.YtkmioieanopafaaDoor
open Go.RowKit Go.Shelf
attribute [local go_sem] Oper.semAt_some

def UsesXC (F : Fence) (l n0 nb N : Nat) (w0 : World) (J Jx : List (Int × List UInt8) → World → Prop) (es : List XV) : Prop := ∀ (n : Nat) (A : Option Addr) (c : Nat) (pre : List (Int × List UInt8)) (W : World), XR w0 A es → Below w0.heap.size w0 W → GoodN nb W → J pre W → pre.length + (xus es).length ≤ N →
  CallsIn F n Tryd.prog 110 #[.slice A es.length c, .func (.yield l) #[] #[]] W (UsesP n0 nb J Jx pre (xus es) W)

set_option maxRecDepth 100000 in
set_option maxHeartbeats 8000000 in
theorem astUsesX (F : Fence) (hd : F.depth = none) (hfn : ∀ f, F.fn f) (hro : F.round = none) (l nb N : Nat) (w0 : World) (J Jx : List (Int × List UInt8) → World → Prop) (hB : BodyN F l w0.heap.size nb N J Jx) (M : Nat) :
    ∀ (es : List XV), xbk es ≤ M → M ≤ 4000000 → UsesXC F l w0.heap.size nb N w0 J Jx es := by
  induction M using Nat.strongRecOn with
  | ind M ih =>
  intro es hM hMM n A c pre W hx hbel hgood hJ hN
  have hlen := xbk_len es
  obtain ⟨m, hm⟩ : ∃ m, m = es.length := ⟨_, rfl⟩
  rw [← hm]
  rw [← hm] at hlen
  have hmm : m ≤ 4000000 := by omega
  have HM := Lib.hid (And.intro hm (And.intro hM (And.intro hx (And.intro hbel (And.intro hgood hN)))))
  have IH := Lib.hid ih
  have HB := Lib.hid hB
  have HJ := Lib.hid hJ
  have hdd : ∀ k : Nat, (F.depth.isSome = true → 1 ≤ k) := fun k h => by rw [hd] at h; cases h
  clear hm hM hx hbel hgood hN ih hB hJ hlen
  refine callsIn_of_wp Tryd.func110 rfl (hfn _) ?_ hro
  simp only [Tryd.ntmps110, List.size_toArray, List.length_cons, List.length_nil, Nat.reduceAdd, Nat.reduceSub, Array.replicate_succ, Array.replicate_zero, List.push_toArray, List.append_toArray, List.nil_append, List.cons_append]
  gi_wp2
  gi_loopw [9] (fun v wr => ∃ i : Nat, i ≤ m ∧ v = .int .i64 i ∧ Hid (J (pre ++ xus (es.take i)) wr ∧ KpN w0.heap.size nb W wr)) (fun v _ => m - (intOf v).toNat)
  case atStart => exact ⟨0, by omega, rfl, by simpa [xus] using HJ.out, KpN.refl _ _ _⟩
  case round =>
    obtain ⟨i, hi, rfl, hst⟩ := hrel
    clear HJ
    by_cases hlt : i < m
    · have hlt' : (i : Int) < m := by omega
      obtain ⟨hm, hM, hx, hbel, hgood, hN⟩ := HM.out
      obtain ⟨hJi, hKi⟩ := hst.out
      have hbi := hbel.trans hKi.below
      have hgi := hKi.good hgood
      obtain ⟨ad, e, rfl, he, A1, c1, h0, h1, h2, h3, h4, h5, h6, hx1⟩ := hx.el (i := i) (by rw [← hm]; exact hlt)
      replace h0 := cst5 hbi h0
      replace h1 := cst5 hbi h1
      replace h2 := cst5 hbi h2
      replace h3 := cst5 hbi h3
      replace h4 := cst5 hbi h4
      replace h5 := cst5 hbi h5
      replace h6 := cst5 hbi h6
      have hbk := xbk_get he
      have hbk2 := xbk1_eq e
      have htk := xus_take he
      have hpre := xus_pre es (i + 1)
      have hn0 : w0.heap.size ≤ wr.heap.size := hbi.size
      have hJU := HB.out.al _ _ (.cells #[.int .i64 e.k, .int .i64 e.n, .string ⟨e.x.toArray⟩, .int .i64 e.o, .slice A1 e.gs.length c1, .int .i64 e.l, .int .i64 e.c] 66) hJi
      have hKU := KpN.alloc (nb := nb) wr (.cells #[.int .i64 e.k, .int .i64 e.n, .string ⟨e.x.toArray⟩, .int .i64 e.o, .slice A1 e.gs.length c1, .int .i64 e.l, .int .i64 e.c] 66) hn0 hgi
      have hlenp := hpre.length_le
      have hih := IH.out (xbk e.gs) (by omega) e.gs (Nat.le_refl _) (by omega) (n - 1) A1 c1
      rw [htk] at hlenp
      simp only [List.length_append] at hlenp
      by_cases hk : e.k = 1 ∨ e.k = 2
      · have hown : xown e = [(0, e.x)] := if_pos hk
        rw [hown] at htk hlenp
        have hy0 := HB.out.yi (n - 1) _ (0, e.x) _ hJU (by simp only [List.length_append, List.length_cons, List.length_nil] at hlenp ⊢; omega)
        rw [encU_of (by omega)] at hy0
        obtain ⟨fn, tmps, assign, body, hy, hR⟩ := hy0
        have HH := Lib.hid (And.intro hJi (And.intro hKi (And.intro hKU (And.intro htk (And.intro hpre (And.intro hlenp (And.intro hx1 (And.intro hgi (And.intro hih (And.intro hbel (And.intro hgood hN)))))))))))
        clear hm hM hx hbel hgood hN hst hJi hKi hbi hgi he hbk hbk2 htk hpre hn0 hJU hKU hlenp hx1 hown hih HM IH
        have hk1 : (e.k = 1) ∨ (e.k == 1) = false ∧ (e.k == 2) = true := by
          rcases hk with h | h
          · exact .inl h
          · exact .inr (by rw [h]; exact ⟨rfl, rfl⟩)
        rcases hk1 with hk1 | ⟨hk1, hk2⟩
        · have hk1' : (e.k == 1) = true := by rw [hk1]; rfl
          clear hk hk1
          generalize e.k = k at *
          gi_wp2
          refine hR.mono ?_
          rintro e2 W2 (⟨rfl, hJ2, hk2⟩ | ⟨rfl, hx2⟩)
          · have c4 := KpN.box HH.out.2.2.2.2.2.2.2.1 hk2 (i := 4) rfl
            have HK2 := Lib.hid (HH.out.2.2.1.trans hk2)
            have HJ2 := Lib.hid hJ2
            clear hk2 hJ2 hR hy h0 h1 h2 h3 h4 h5 h6
            have hq := HH.out.2.2.2.2.2.2.2.2.1 (pre ++ xus (es.take i) ++ [(0, e.x)]) W2 HH.out.2.2.2.2.2.2.1 (HH.out.2.2.2.2.2.2.2.2.2.1.trans (HH.out.2.1.below.trans HK2.out.below)) (HK2.out.good (HH.out.2.1.good HH.out.2.2.2.2.2.2.2.2.2.2.1)) HJ2.out (by have := HH.out.2.2.2.2.2.1; have := HH.out.2.2.2.2.2.2.2.2.2.2.2; simp only [List.length_append, List.length_cons, List.length_nil] at *; omega)
            gi_wp2
            try refine ⟨hdd _, ?_⟩
            refine hq.mono ?_
            clear hq
            rintro e3 W3 (⟨rfl, hJ3, hk3⟩ | ⟨rfl, q, hq3, hx3⟩)
            · have hfin : Hid (J (pre ++ xus (es.take (i + 1))) W3 ∧ KpN w0.heap.size nb W W3) := ⟨by rw [HH.out.2.2.2.1]; simpa [List.append_assoc] using hJ3, HH.out.2.1.trans (HK2.out.trans hk3)⟩
              clear HH hJ3 hk3
              gi_wp2
              exact ⟨⟨i + 1, by omega, by go_num, hfin⟩, by simp [intOf]; omega⟩
            · have hfin : Hid (∃ q, q <+: xus es ∧ Jx (pre ++ q) W3) := by
                refine ⟨xus (es.take i) ++ ([(0, e.x)] ++ q), List.IsPrefix.trans ?_ HH.out.2.2.2.2.1, by simpa [List.append_assoc] using hx3⟩
                rw [HH.out.2.2.2.1]
                exact List.prefix_append_right_inj _ |>.2 (List.prefix_append_right_inj _ |>.2 hq3)
              clear HH hx3 hq3
              gi_wp2
              go_ret
              exact .inr ⟨rfl, hfin.out⟩
          · have hfin : Hid (∃ q, q <+: xus es ∧ Jx (pre ++ q) W2) := by
              refine ⟨xus (es.take i) ++ [(0, e.x)], List.IsPrefix.trans ?_ HH.out.2.2.2.2.1, by simpa [List.append_assoc] using hx2⟩
              rw [HH.out.2.2.2.1]
              exact List.prefix_append_right_inj _ |>.2 (List.prefix_append _ _)
            clear HH hx2
            gi_wp2
            go_ret
            exact .inr ⟨rfl, hfin.out⟩
        · have hk1' := hk1
          clear hk hk1
          generalize e.k = k at *
          gi_wp2
          refine hR.mono ?_
          rintro e2 W2 (⟨rfl, hJ2, hk2⟩ | ⟨rfl, hx2⟩)
          · have c4 := KpN.box HH.out.2.2.2.2.2.2.2.1 hk2 (i := 4) rfl
            have HK2 := Lib.hid (HH.out.2.2.1.trans hk2)
            have HJ2 := Lib.hid hJ2
            clear hk2 hJ2 hR hy h0 h1 h2 h3 h4 h5 h6
            have hq := HH.out.2.2.2.2.2.2.2.2.1 (pre ++ xus (es.take i) ++ [(0, e.x)]) W2 HH.out.2.2.2.2.2.2.1 (HH.out.2.2.2.2.2.2.2.2.2.1.trans (HH.out.2.1.below.trans HK2.out.below)) (HK2.out.good (HH.out.2.1.good HH.out.2.2.2.2.2.2.2.2.2.2.1)) HJ2.out (by have := HH.out.2.2.2.2.2.1; have := HH.out.2.2.2.2.2.2.2.2.2.2.2; simp only [List.length_append, List.length_cons, List.length_nil] at *; omega)
            gi_wp2
            try refine ⟨hdd _, ?_⟩
            refine hq.mono ?_
            clear hq
            rintro e3 W3 (⟨rfl, hJ3, hk3⟩ | ⟨rfl, q, hq3, hx3⟩)
            · have hfin : Hid (J (pre ++ xus (es.take (i + 1))) W3 ∧ KpN w0.heap.size nb W W3) := ⟨by rw [HH.out.2.2.2.1]; simpa [List.append_assoc] using hJ3, HH.out.2.1.trans (HK2.out.trans hk3)⟩
              clear HH hJ3 hk3
              gi_wp2
              exact ⟨⟨i + 1, by omega, by go_num, hfin⟩, by simp [intOf]; omega⟩
            · have hfin : Hid (∃ q, q <+: xus es ∧ Jx (pre ++ q) W3) := by
                refine ⟨xus (es.take i) ++ ([(0, e.x)] ++ q), List.IsPrefix.trans ?_ HH.out.2.2.2.2.1, by simpa [List.append_assoc] using hx3⟩
                rw [HH.out.2.2.2.1]
                exact List.prefix_append_right_inj _ |>.2 (List.prefix_append_right_inj _ |>.2 hq3)
              clear HH hx3 hq3
              gi_wp2
              go_ret
              exact .inr ⟨rfl, hfin.out⟩
          · have hfin : Hid (∃ q, q <+: xus es ∧ Jx (pre ++ q) W2) := by
              refine ⟨xus (es.take i) ++ [(0, e.x)], List.IsPrefix.trans ?_ HH.out.2.2.2.2.1, by simpa [List.append_assoc] using hx2⟩
              rw [HH.out.2.2.2.1]
              exact List.prefix_append_right_inj _ |>.2 (List.prefix_append _ _)
            clear HH hx2
            gi_wp2
            go_ret
            exact .inr ⟨rfl, hfin.out⟩
      · have hown : xown e = [] := if_neg hk
        rw [hown] at htk hlenp
        have HH := Lib.hid (And.intro hJU (And.intro hKi (And.intro hKU (And.intro htk (And.intro hpre (And.intro hlenp (And.intro hx1 (And.intro hgi (And.intro hih (And.intro hbel (And.intro hgood hN)))))))))))
        have hk1 : (e.k == 1) = false := by simp; omega
        have hk2 : (e.k == 2) = false := by simp; omega
        clear hm hM hx hbel hgood hN hst hJi hKi hbi hgi he hbk hbk2 htk hpre hn0 hJU hKU hlenp hx1 hown hih HM IH hk
        generalize e.k = k at *
        gi_wp2
        try refine ⟨fun _ h => (by cases h), ?_⟩
        have hq := HH.out.2.2.2.2.2.2.2.2.1 (pre ++ xus (es.take i)) _ HH.out.2.2.2.2.2.2.1 (HH.out.2.2.2.2.2.2.2.2.2.1.trans (HH.out.2.1.below.trans HH.out.2.2.1.below)) (HH.out.2.2.1.good (HH.out.2.1.good HH.out.2.2.2.2.2.2.2.2.2.2.1)) HH.out.1 (by have := HH.out.2.2.2.2.2.1; have := HH.out.2.2.2.2.2.2.2.2.2.2.2; simp only [List.length_append, List.length_nil] at *; omega)
        gi_wp2
        try refine ⟨hdd _, ?_⟩
        refine hq.mono ?_
        clear hq
        rintro e3 W3 (⟨rfl, hJ3, hk3⟩ | ⟨rfl, q, hq3, hx3⟩)
        · have hfin : Hid (J (pre ++ xus (es.take (i + 1))) W3 ∧ KpN w0.heap.size nb W W3) := ⟨by rw [HH.out.2.2.2.1]; simpa [List.append_assoc] using hJ3, HH.out.2.1.trans (HH.out.2.2.1.trans hk3)⟩
          clear HH hJ3 hk3
          gi_wp2
          exact ⟨⟨i + 1, by omega, by go_num, hfin⟩, by simp [intOf]; omega⟩
        · have hfin : Hid (∃ q, q <+: xus es ∧ Jx (pre ++ q) W3) := by
            refine ⟨xus (es.take i) ++ ([] ++ q), List.IsPrefix.trans ?_ HH.out.2.2.2.2.1, by simpa [List.append_assoc] using hx3⟩
            rw [HH.out.2.2.2.1]
            exact List.prefix_append_right_inj _ |>.2 (List.prefix_append_right_inj _ |>.2 hq3)
          clear HH hx3 hq3
          gi_wp2
          go_ret
          exact .inr ⟨rfl, hfin.out⟩
    · obtain rfl : i = m := by omega
      have hlt' : ¬ (i : Int) < i := by omega
      have hfin : Hid (J (pre ++ xus es) wr ∧ KpN w0.heap.size nb W wr) := by
        have := hst.out
        rw [HM.out.1, List.take_length] at this
        exact this
      clear HM hst
      gi_wp2
      go_ret
      exact .inl ⟨rfl, hfin.out⟩
end Go.Proofs.YtkmioieanopafaaDoor
