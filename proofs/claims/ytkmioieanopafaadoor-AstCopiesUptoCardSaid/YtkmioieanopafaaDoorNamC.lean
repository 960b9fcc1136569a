/- What statements name, by the landed ast: the recursive walk. -/
import Derived.Test.YtkmioieanopafaaDoorNamB
namespace Go.Proofs.YtkmioieanopafaaDoor
open Go.RowKit Go.Shelf
attribute [local go_sem] Oper.semAt_some

/-- What a statement of that kind does with its own name. -/
def use6 (k : Int) : Int × Bool := if k = 0 ∨ k = 1 then (1, true) else if k = 5 then (2, true) else (0, false)
theorem sown_use (s : SV) : sown s = if (use6 s.k).2 then [((use6 s.k).1, s.x)] else [] := by
  unfold sown use6
  split
  · rfl
  · split <;> rfl

set_option maxHeartbeats 1000000 in
theorem astStmtUse (F : Fence) (n : Nat) (hf : F.fn 109) (hro : F.round = none) (k : Int) (w : World) : CallsIn F n Tryd.prog 109 #[.int .i64 k] w fun e w' => e = .returned (.tuple #[.int .i64 (use6 k).1, .bool (use6 k).2]) ∧ w' = w := by
  have hc : k = 0 ∨ k = 1 ∨ k = 5 ∨ (¬ k = 0 ∧ ¬ k = 1 ∧ ¬ k = 5) := by omega
  rcases hc with rfl | rfl | rfl | ⟨h0, h1, h5⟩
  · refine callsIn_of_wp Tryd.func109 rfl hf ?_ hro
    simp only [Tryd.ntmps109, List.size_toArray, List.length_cons, List.length_nil, Nat.reduceAdd, Nat.reduceSub, Array.replicate_succ, Array.replicate_zero, List.push_toArray, List.append_toArray, List.nil_append, List.cons_append]
    gi_wp2
    go_ret2
    exact ⟨rfl, rfl⟩
  · refine callsIn_of_wp Tryd.func109 rfl hf ?_ hro
    simp only [Tryd.ntmps109, List.size_toArray, List.length_cons, List.length_nil, Nat.reduceAdd, Nat.reduceSub, Array.replicate_succ, Array.replicate_zero, List.push_toArray, List.append_toArray, List.nil_append, List.cons_append]
    gi_wp2
    go_ret2
    exact ⟨rfl, rfl⟩
  · refine callsIn_of_wp Tryd.func109 rfl hf ?_ hro
    simp only [Tryd.ntmps109, List.size_toArray, List.length_cons, List.length_nil, Nat.reduceAdd, Nat.reduceSub, Array.replicate_succ, Array.replicate_zero, List.push_toArray, List.append_toArray, List.nil_append, List.cons_append]
    gi_wp2
    go_ret2
    exact ⟨rfl, rfl⟩
  · have hv : Hid (use6 k = (0, false)) := by show use6 k = (0, false); unfold use6; rw [if_neg (by omega), if_neg h5]
    have e0 : (k == 0) = false := by simpa using h0
    have e1 : (k == 1) = false := by simpa using h1
    have e5 : (k == 5) = false := by simpa using h5
    rw [hv.out]
    clear h0 h1 h5
    refine callsIn_of_wp Tryd.func109 rfl hf ?_ hro
    simp only [Tryd.ntmps109, List.size_toArray, List.length_cons, List.length_nil, Nat.reduceAdd, Nat.reduceSub, Array.replicate_succ, Array.replicate_zero, List.push_toArray, List.append_toArray, List.nil_append, List.cons_append]
    gi_wp2
    go_ret2
    exact ⟨rfl, rfl⟩

def UsesSC (F : Fence) (l n0 nb N : Nat) (w0 : World) (J Jx : List (Int × List UInt8) → World → Prop) (es : List SV) : Prop := ∀ (n : Nat) (A : Option Addr) (c : Nat) (pre : List (Int × List UInt8)) (W : World), SR w0 A es → Below w0.heap.size w0 W → GoodN nb W → J pre W → pre.length + (sus es).length ≤ N →
  CallsIn F n Tryd.prog 108 #[.slice A es.length c, .func (.yield l) #[] #[]] W (UsesP n0 nb J Jx pre (sus es) W)

/-- What a round of the walk knows throughout. -/
structure RndN (F : Fence) (n l nb N : Nat) (w0 W wr : World) (J Jx : List (Int × List UInt8) → World → Prop) (pre : List (Int × List UInt8)) (es : List SV) (i : Nat) (e : SV) (A1 : Option Addr) (c1 : Nat) (A2 : Option Addr) (c2 : Nat) (A3 : Option Addr) (c3 : Nat) : Prop where
  ki : KpN w0.heap.size nb W wr
  tk : sus (es.take (i + 1)) = sus (es.take i) ++ (sown e ++ (xus e.es ++ (sus e.ts ++ sus e.us)))
  px : sus (es.take (i + 1)) <+: sus es
  le : (sus (es.take (i + 1))).length ≤ (sus es).length
  gi : GoodN nb wr
  bel : Below w0.heap.size w0 W
  good : GoodN nb W
  len : pre.length + (sus es).length ≤ N
  x1 : XR w0 A1 e.es
  x2 : SR w0 A2 e.ts
  x3 : SR w0 A3 e.us
  q1 : ∀ pre W, XR w0 A1 e.es → Below w0.heap.size w0 W → GoodN nb W → J pre W → pre.length + (xus e.es).length ≤ N → CallsIn F (n - 1) Tryd.prog 110 #[.slice A1 e.es.length c1, .func (.yield l) #[] #[]] W (UsesP w0.heap.size nb J Jx pre (xus e.es) W)
  q2 : ∀ pre W, SR w0 A2 e.ts → Below w0.heap.size w0 W → GoodN nb W → J pre W → pre.length + (sus e.ts).length ≤ N → CallsIn F (n - 1) Tryd.prog 108 #[.slice A2 e.ts.length c2, .func (.yield l) #[] #[]] W (UsesP w0.heap.size nb J Jx pre (sus e.ts) W)
  q3 : ∀ pre W, SR w0 A3 e.us → Below w0.heap.size w0 W → GoodN nb W → J pre W → pre.length + (sus e.us).length ≤ N → CallsIn F (n - 1) Tryd.prog 108 #[.slice A3 e.us.length c3, .func (.yield l) #[] #[]] W (UsesP w0.heap.size nb J Jx pre (sus e.us) W)
section
variable {F : Fence} {n l nb N : Nat} {w0 W wr : World} {J Jx : List (Int × List UInt8) → World → Prop} {pre : List (Int × List UInt8)} {es : List SV} {i : Nat} {e : SV} {A1 : Option Addr} {c1 : Nat} {A2 : Option Addr} {c2 : Nat} {A3 : Option Addr} {c3 : Nat}
/-- The three calls, each behind what has come. -/
theorem RndN.call1 (h : RndN F n l nb N w0 W wr J Jx pre es i e A1 c1 A2 c2 A3 c3) {W2 : World} (hJ : J (pre ++ sus (es.take i) ++ sown e) W2) (hk : KpN w0.heap.size nb wr W2) :
    CallsIn F (n - 1) Tryd.prog 110 #[.slice A1 e.es.length c1, .func (.yield l) #[] #[]] W2 (UsesP w0.heap.size nb J Jx (pre ++ sus (es.take i) ++ sown e) (xus e.es) W2) :=
  h.q1 _ W2 h.x1 (h.bel.trans (h.ki.below.trans hk.below)) (hk.good h.gi) hJ (by have h1 := h.le; have h2 := h.len; rw [h.tk] at h1; simp only [List.length_append] at *; omega)
theorem RndN.call2 (h : RndN F n l nb N w0 W wr J Jx pre es i e A1 c1 A2 c2 A3 c3) {W2 : World} (hJ : J (pre ++ sus (es.take i) ++ sown e ++ xus e.es) W2) (hk : KpN w0.heap.size nb wr W2) :
    CallsIn F (n - 1) Tryd.prog 108 #[.slice A2 e.ts.length c2, .func (.yield l) #[] #[]] W2 (UsesP w0.heap.size nb J Jx (pre ++ sus (es.take i) ++ sown e ++ xus e.es) (sus e.ts) W2) :=
  h.q2 _ W2 h.x2 (h.bel.trans (h.ki.below.trans hk.below)) (hk.good h.gi) hJ (by have h1 := h.le; have h2 := h.len; rw [h.tk] at h1; simp only [List.length_append] at *; omega)
theorem RndN.call3 (h : RndN F n l nb N w0 W wr J Jx pre es i e A1 c1 A2 c2 A3 c3) {W2 : World} (hJ : J (pre ++ sus (es.take i) ++ sown e ++ xus e.es ++ sus e.ts) W2) (hk : KpN w0.heap.size nb wr W2) :
    CallsIn F (n - 1) Tryd.prog 108 #[.slice A3 e.us.length c3, .func (.yield l) #[] #[]] W2 (UsesP w0.heap.size nb J Jx (pre ++ sus (es.take i) ++ sown e ++ xus e.es ++ sus e.ts) (sus e.us) W2) :=
  h.q3 _ W2 h.x3 (h.bel.trans (h.ki.below.trans hk.below)) (hk.good h.gi) hJ (by have h1 := h.le; have h2 := h.len; rw [h.tk] at h1; simp only [List.length_append] at *; omega)
/-- The round's end. -/
theorem RndN.fin (h : RndN F n l nb N w0 W wr J Jx pre es i e A1 c1 A2 c2 A3 c3) {W2 : World} (hJ : J (pre ++ sus (es.take i) ++ sown e ++ xus e.es ++ sus e.ts ++ sus e.us) W2) (hk : KpN w0.heap.size nb wr W2) :
    J (pre ++ sus (es.take (i + 1))) W2 ∧ KpN w0.heap.size nb W W2 := ⟨by rw [h.tk]; simpa [List.append_assoc] using hJ, h.ki.trans hk⟩
theorem pre_of {α : Type} {a b c d : List α} (h : a ++ b = c) (hd : d <+: b) : a ++ d <+: c := by rw [← h]; exact List.prefix_append_right_inj _ |>.2 hd
theorem RndN.out0 (h : RndN F n l nb N w0 W wr J Jx pre es i e A1 c1 A2 c2 A3 c3) {W2 : World} {q : List (Int × List UInt8)} (hq : q <+: sown e) (hx : Jx (pre ++ sus (es.take i) ++ q) W2) : ∃ q, q <+: sus es ∧ Jx (pre ++ q) W2 :=
  ⟨sus (es.take i) ++ q, (pre_of h.tk.symm (hq.trans (List.prefix_append _ _))).trans h.px, by simpa [List.append_assoc] using hx⟩
theorem RndN.out1 (h : RndN F n l nb N w0 W wr J Jx pre es i e A1 c1 A2 c2 A3 c3) {W2 : World} (hx : ∃ q, q <+: xus e.es ∧ Jx (pre ++ sus (es.take i) ++ sown e ++ q) W2) : ∃ q, q <+: sus es ∧ Jx (pre ++ q) W2 := by
  obtain ⟨q, hq, hx⟩ := hx
  exact ⟨sus (es.take i) ++ (sown e ++ q), (pre_of h.tk.symm (List.prefix_append_right_inj _ |>.2 (hq.trans (List.prefix_append _ _)))).trans h.px, by simpa [List.append_assoc] using hx⟩
theorem RndN.out2 (h : RndN F n l nb N w0 W wr J Jx pre es i e A1 c1 A2 c2 A3 c3) {W2 : World} (hx : ∃ q, q <+: sus e.ts ∧ Jx (pre ++ sus (es.take i) ++ sown e ++ xus e.es ++ q) W2) : ∃ q, q <+: sus es ∧ Jx (pre ++ q) W2 := by
  obtain ⟨q, hq, hx⟩ := hx
  exact ⟨sus (es.take i) ++ (sown e ++ (xus e.es ++ q)), (pre_of h.tk.symm (List.prefix_append_right_inj _ |>.2 (List.prefix_append_right_inj _ |>.2 (hq.trans (List.prefix_append _ _))))).trans h.px, by simpa [List.append_assoc] using hx⟩
theorem RndN.out3 (h : RndN F n l nb N w0 W wr J Jx pre es i e A1 c1 A2 c2 A3 c3) {W2 : World} (hx : ∃ q, q <+: sus e.us ∧ Jx (pre ++ sus (es.take i) ++ sown e ++ xus e.es ++ sus e.ts ++ q) W2) : ∃ q, q <+: sus es ∧ Jx (pre ++ q) W2 := by
  obtain ⟨q, hq, hx⟩ := hx
  exact ⟨sus (es.take i) ++ (sown e ++ (xus e.es ++ (sus e.ts ++ q))), (pre_of h.tk.symm (List.prefix_append_right_inj _ |>.2 (List.prefix_append_right_inj _ |>.2 (List.prefix_append_right_inj _ |>.2 hq)))).trans h.px, by simpa [List.append_assoc] using hx⟩
end

set_option maxRecDepth 100000 in
set_option maxHeartbeats 16000000 in
theorem astUsesS (F : Fence) (hd : F.depth = none) (hfn : ∀ f, F.fn f) (hro : F.round = none) (l nb N : Nat) (w0 : World) (J Jx : List (Int × List UInt8) → World → Prop) (hB : BodyN F l w0.heap.size nb N J Jx) (M : Nat) :
    ∀ (es : List SV), sbk es ≤ M → M ≤ 4000000 → UsesSC F l w0.heap.size nb N w0 J Jx es := by
  induction M using Nat.strongRecOn with
  | ind M ih =>
  intro es hM hMM n A c pre W hx hbel hgood hJ hN
  have hlen := sbk_len es
  obtain ⟨m, hm⟩ : ∃ m, m = es.length := ⟨_, rfl⟩
  rw [← hm]
  rw [← hm] at hlen
  have hmm : m ≤ 4000000 := by omega
  have HM := Lib.hid (And.intro hm (And.intro hM (And.intro hx (And.intro hbel (And.intro hgood hN)))))
  have IH := Lib.hid ih
  have HB := Lib.hid hB
  have HJ := Lib.hid hJ
  have hdd : ∀ k : Nat, (F.depth.isSome = true → 1 ≤ k) := fun k h => by rw [hd] at h; cases h
  clear hm hM hx hbel hgood hN ih hB hJ hlen
  refine callsIn_of_wp Tryd.func108 rfl (hfn _) ?_ hro
  simp only [Tryd.ntmps108, List.size_toArray, List.length_cons, List.length_nil, Nat.reduceAdd, Nat.reduceSub, Array.replicate_succ, Array.replicate_zero, List.push_toArray, List.append_toArray, List.nil_append, List.cons_append]
  gi_wp2
  gi_loopw [11] (fun v wr => ∃ i : Nat, i ≤ m ∧ v = .int .i64 i ∧ Hid (J (pre ++ sus (es.take i)) wr ∧ KpN w0.heap.size nb W wr)) (fun v _ => m - (intOf v).toNat)
  case atStart => exact ⟨0, by omega, rfl, by simpa [sus] using HJ.out, KpN.refl _ _ _⟩
  case round =>
    obtain ⟨i, hi, rfl, hst⟩ := hrel
    clear HJ
    by_cases hlt : i < m
    · have hlt' : (i : Int) < m := by omega
      obtain ⟨hm, hM, hx, hbel, hgood, hN⟩ := HM.out
      obtain ⟨hJi, hKi⟩ := hst.out
      have hbi := hbel.trans hKi.below
      have hgi := hKi.good hgood
      obtain ⟨ad, e, rfl, he, A1, c1, A2, c2, A3, c3, h0, h1, h2, h3, h4, h5, h6, hx1, hx2, hx3⟩ := hx.el (i := i) (by rw [← hm]; exact hlt)
      replace h0 := cst5 hbi h0
      replace h1 := cst5 hbi h1
      replace h2 := cst5 hbi h2
      replace h3 := cst5 hbi h3
      replace h4 := cst5 hbi h4
      replace h5 := cst5 hbi h5
      replace h6 := cst5 hbi h6
      have hbk := sbk_get he
      have hbk2 := sbk1_eq e
      have hn0 : w0.heap.size ≤ wr.heap.size := hbi.size
      have hJU := HB.out.al _ _ (.cells #[.int .i64 e.k, .string ⟨e.x.toArray⟩, .slice A1 e.es.length c1, .slice A2 e.ts.length c2, .slice A3 e.us.length c3, .int .i64 e.l, .int .i64 e.c] 62) hJi
      have hKU := KpN.alloc (nb := nb) wr (.cells #[.int .i64 e.k, .string ⟨e.x.toArray⟩, .slice A1 e.es.length c1, .slice A2 e.ts.length c2, .slice A3 e.us.length c3, .int .i64 e.l, .int .i64 e.c] 62) hn0 hgi
      have R : Hid (RndN F n l nb N w0 W wr J Jx pre es i e A1 c1 A2 c2 A3 c3) := ⟨hKi, sus_take he, sus_pre es (i + 1), (sus_pre es (i + 1)).length_le, hgi, hbel, hgood, hN, hx1, hx2, hx3,
        astUsesX F hd hfn hro l nb N w0 J Jx HB.out (xbk e.es) e.es (Nat.le_refl _) (by omega) (n - 1) A1 c1,
        IH.out (sbk e.ts) (by omega) e.ts (Nat.le_refl _) (by omega) (n - 1) A2 c2, IH.out (sbk e.us) (by omega) e.us (Nat.le_refl _) (by omega) (n - 1) A3 c3⟩
      have hu := astStmtUse F (n - 1) (hfn _) hro e.k (wr.alloc (.cells #[.int .i64 e.k, .string ⟨e.x.toArray⟩, .slice A1 e.es.length c1, .slice A2 e.ts.length c2, .slice A3 e.us.length c3, .int .i64 e.l, .int .i64 e.c] 62))
      have hsu := sown_use e
      have hxl : e.x.length ≤ 4000000 := by omega
      have HU := Lib.hid (And.intro hJU hKU)
      cases hok : (use6 e.k).2 with
      | true =>
        rw [hok] at hu hsu
        obtain ⟨hw, hhw⟩ : ∃ hw, hw = (use6 e.k).1 := ⟨_, rfl⟩
        rw [← hhw] at hu hsu
        have hsu2 : sown e = [(hw, e.x)] := hsu
        have hy0 := HB.out.yi (n - 1) _ (hw, e.x) _ hJU (by have h1 := R.out.le; have h2 := R.out.len; rw [R.out.tk, hsu2] at h1; simp only [List.length_append, List.length_cons, List.length_nil] at *; omega)
        rw [encU_of hxl] at hy0
        obtain ⟨fn, tmps, assign, body, hy, hR⟩ := hy0
        have HS := Lib.hid hsu2
        clear hm hM hx hbel hgood hN hst hJi hKi hbi hgi he hbk hbk2 hn0 hJU hKU hx1 hx2 hx3 hsu hsu2 hxl HM IH hok hhw
        generalize e.k = k at *
        gi_wp2
        try refine ⟨hdd _, ?_⟩
        refine hu.mono ?_
        rintro e1 w1 ⟨rfl, rfl⟩
        clear hu
        gi_wp2
        refine hR.mono ?_
        rintro e2 W2 (⟨rfl, hJ2, hk2⟩ | ⟨rfl, hx2⟩)
        · have c2' := KpN.box R.out.gi hk2 (i := 2) rfl
          have c3' := KpN.box R.out.gi hk2 (i := 3) rfl
          have c4' := KpN.box R.out.gi hk2 (i := 4) rfl
          have HK2 := Lib.hid (And.intro hk2 (HU.out.2.trans hk2))
          have HJ2 : Hid (J (pre ++ sus (es.take i) ++ sown e) W2) := by rw [HS.out]; exact hJ2
          clear hk2 hJ2 hR hy h0 h1 h2 h3 h4 h5 h6
          have p1 := R.out.call1 HJ2.out HK2.out.2
          gi_wp2
          try refine ⟨hdd _, ?_⟩
          refine p1.mono ?_
          clear p1
          rintro e3 W3 (⟨rfl, hJ3, hk3⟩ | ⟨rfl, hx3⟩)
          · have d3' := KpN.box R.out.gi (HK2.out.1.trans hk3) (i := 3) rfl
            have d4' := KpN.box R.out.gi (HK2.out.1.trans hk3) (i := 4) rfl
            have HK3 := Lib.hid (And.intro (HK2.out.1.trans hk3) (HK2.out.2.trans hk3))
            have p2 := R.out.call2 hJ3 HK3.out.2
            clear hk3 hJ3
            gi_wp2
            try refine ⟨hdd _, ?_⟩
            refine p2.mono ?_
            clear p2
            rintro e4 W4 (⟨rfl, hJ4, hk4⟩ | ⟨rfl, hx4⟩)
            · have f4' := KpN.box R.out.gi (HK3.out.1.trans hk4) (i := 4) rfl
              have HK4 := Lib.hid (HK3.out.2.trans hk4)
              have p3 := R.out.call3 hJ4 HK4.out
              clear hk4 hJ4
              gi_wp2
              try refine ⟨hdd _, ?_⟩
              refine p3.mono ?_
              clear p3
              rintro e5 W5 (⟨rfl, hJ5, hk5⟩ | ⟨rfl, hx5⟩)
              · have hfin := Lib.hid (R.out.fin hJ5 (HK4.out.trans hk5))
                clear hJ5 hk5
                gi_wp2
                exact ⟨⟨i + 1, by omega, by go_num, hfin⟩, by simp [intOf]; omega⟩
              · have hfin := Lib.hid (R.out.out3 hx5)
                clear hx5
                gi_wp2
                go_ret
                exact .inr ⟨rfl, hfin.out⟩
            · have hfin := Lib.hid (R.out.out2 hx4)
              clear hx4
              gi_wp2
              try (refine ⟨fun _ h => (by cases h), ?_⟩; gi_wp2)
              go_ret
              exact .inr ⟨rfl, hfin.out⟩
          · have hfin := Lib.hid (R.out.out1 hx3)
            clear hx3
            gi_wp2
            try (refine ⟨fun _ h => (by cases h), ?_⟩; gi_wp2)
            go_ret
            exact .inr ⟨rfl, hfin.out⟩
        · have hfin := Lib.hid (R.out.out0 (List.prefix_rfl) (by rw [HS.out]; exact hx2))
          clear hx2
          gi_wp2
          go_ret
          exact .inr ⟨rfl, hfin.out⟩
      | false =>
        rw [hok] at hu hsu
        have hsu2 : sown e = [] := hsu
        have HS := Lib.hid hsu2
        have HJ2 : Hid (J (pre ++ sus (es.take i) ++ sown e) (wr.alloc (.cells #[.int .i64 e.k, .string ⟨e.x.toArray⟩, .slice A1 e.es.length c1, .slice A2 e.ts.length c2, .slice A3 e.us.length c3, .int .i64 e.l, .int .i64 e.c] 62))) := by rw [HS.out, List.append_nil]; exact hJU
        have HK2 := Lib.hid (And.intro (KpN.refl w0.heap.size nb (wr.alloc (.cells #[.int .i64 e.k, .string ⟨e.x.toArray⟩, .slice A1 e.es.length c1, .slice A2 e.ts.length c2, .slice A3 e.us.length c3, .int .i64 e.l, .int .i64 e.c] 62))) hKU)
        clear hm hM hx hbel hgood hN hst hJi hKi hbi hgi he hbk hbk2 hn0 hJU hKU hx1 hx2 hx3 hsu hsu2 hxl HM IH hok
        generalize e.k = k at *
        generalize (use6 k).1 = hw at *
        gi_wp2
        try refine ⟨hdd _, ?_⟩
        refine hu.mono ?_
        rintro e1 w1 ⟨rfl, rfl⟩
        clear hu
        have p1 := R.out.call1 HJ2.out HK2.out.2
        gi_wp2
        try refine ⟨hdd _, ?_⟩
        refine p1.mono ?_
        clear p1
        rintro e3 W3 (⟨rfl, hJ3, hk3⟩ | ⟨rfl, hx3⟩)
        · have d3' := KpN.box R.out.gi (HK2.out.1.trans hk3) (i := 3) rfl
          have d4' := KpN.box R.out.gi (HK2.out.1.trans hk3) (i := 4) rfl
          have HK3 := Lib.hid (And.intro (HK2.out.1.trans hk3) (HK2.out.2.trans hk3))
          have p2 := R.out.call2 hJ3 HK3.out.2
          clear hk3 hJ3
          gi_wp2
          try refine ⟨hdd _, ?_⟩
          refine p2.mono ?_
          clear p2
          rintro e4 W4 (⟨rfl, hJ4, hk4⟩ | ⟨rfl, hx4⟩)
          · have f4' := KpN.box R.out.gi (HK3.out.1.trans hk4) (i := 4) rfl
            have HK4 := Lib.hid (HK3.out.2.trans hk4)
            have p3 := R.out.call3 hJ4 HK4.out
            clear hk4 hJ4
            gi_wp2
            try refine ⟨hdd _, ?_⟩
            refine p3.mono ?_
            clear p3
            rintro e5 W5 (⟨rfl, hJ5, hk5⟩ | ⟨rfl, hx5⟩)
            · have hfin := Lib.hid (R.out.fin hJ5 (HK4.out.trans hk5))
              clear hJ5 hk5
              gi_wp2
              exact ⟨⟨i + 1, by omega, by go_num, hfin⟩, by simp [intOf]; omega⟩
            · have hfin := Lib.hid (R.out.out3 hx5)
              clear hx5
              gi_wp2
              go_ret
              exact .inr ⟨rfl, hfin.out⟩
          · have hfin := Lib.hid (R.out.out2 hx4)
            clear hx4
            gi_wp2
            try (refine ⟨fun _ h => (by cases h), ?_⟩; gi_wp2)
            go_ret
            exact .inr ⟨rfl, hfin.out⟩
        · have hfin := Lib.hid (R.out.out1 hx3)
          clear hx3
          gi_wp2
          try (refine ⟨fun _ h => (by cases h), ?_⟩; gi_wp2)
          go_ret
          exact .inr ⟨rfl, hfin.out⟩
    · obtain rfl : i = m := by omega
      have hlt' : ¬ (i : Int) < i := by omega
      have hfin : Hid (J (pre ++ sus es) wr ∧ KpN w0.heap.size nb W wr) := by
        have := hst.out
        rw [HM.out.1, List.take_length] at this
        exact this
      clear HM hst
      gi_wp2
      go_ret
      exact .inl ⟨rfl, hfin.out⟩
end Go.Proofs.YtkmioieanopafaaDoor
