/- expr (written by tools/gen_prif.py). assign, store, head, output, call, skip (written by tools/gen_prig.py). block, choice, while, stmts (written by tools/gen_prih.py). -/
import Derived.Test.YtejifkeeihkcjaaDoorGPriC
namespace Go.Proofs.YtejifkeeihkcjaaDoor
section
open Go.RowKit

set_option maxRecDepth 100000 in
set_option maxHeartbeats 8000000 in
theorem priExpr (e : XV) (h : RX e) (hin : In e) : PX e := by
  induction h with
  | num n l' c' hn =>
    intro b l d w A W B cap hL hx h0 hlen
    have hr := of_decide_eq_true (show decide _ = true from hn)
    have hi := hin.n
    simp only [XV.n] at hi
    rw [textX_num] at hlen ⊢
    obtain ⟨hA, hb1, hne⟩ := h0.box [.int .i64 0, .int .i64 n, .string ⟨#[]⟩, .int .i64 0, .slice B 0 cap, .int .i64 l', .int .i64 c'] 32 (by decide)
    have s0 := hb1.box.seven
    have HA := Lib.hid hA
    have H1 := Lib.hid hA.here
    have HL := Lib.hid (hL.step hA.bel)
    have HB := Lib.hid hb1
    have q := priNumber n (by omega) hi _ (hL.step hA.bel)
    obtain ⟨t, ht⟩ : ∃ t, t = numT n := ⟨_, rfl⟩
    rw [← ht] at hlen q ⊢
    have HLen := Lib.hid hlen
    obtain ⟨s, hs⟩ : ∃ s, s = bs t := ⟨_, rfl⟩
    rw [← hs] at q
    have HS := Lib.hid hs
    have he : Hid (l ++ cat [t] = l ++ t) := by show _ = _; simp [cat]
    clear hL hx h0 hlen hA hb1 hn hin hr hi ht hs
    unfold xval
    simp only [XV.k, XV.n, XV.x, XV.o, XV.gs, XV.l, XV.c, List.length_nil]
    go_enter Tryd.func29, Tryd.ntmps29
    go_wp2_with fail
    refine (astLevel 0 _ HL.out.ast.words).mono ?_
    rintro e w' ⟨rfl, rfl⟩
    go_wp2_with fail
    refine q.mono ?_
    rintro e V ⟨rfl, hb⟩
    have H2 := Lib.hid (H1.out.step hb)
    have HB2 := Lib.hid (HB.out.step hb)
    clear hb q s0
    go_wp2_with fail
    refine (putNew (cs := #[.string s]) (n := 1) H2.out [t] rfl (by rw [HS.out]; rfl) (by simp) (by have := HLen.out; simp [cat]; omega) (by omega)).mono ?_
    rintro e W3 ⟨rfl, hw⟩
    have H3 := Lib.hid hw
    clear hw
    have HF := Lib.hid (HA.out.trans H3.out)
    clear H3
    go_wp2_with fail
    go_end0
    exact ⟨rfl, by rw [← he.out]; exact HF.out⟩
  | var x l' c' hn =>
    intro b l d w A W B cap hL hx h0 hlen
    rw [textX_var] at hlen ⊢
    obtain ⟨s, hs⟩ : ∃ s, s = bs x := ⟨_, rfl⟩
    have HS := Lib.hid hs
    obtain ⟨hA, hb1, hne⟩ := h0.box [.int .i64 1, .int .i64 0, .string s, .int .i64 0, .slice B 0 cap, .int .i64 l', .int .i64 c'] 32 (by decide)
    have s0 := hb1.box.seven
    have HA := Lib.hid hA
    have H1 := Lib.hid hA.here
    have HL := Lib.hid (hL.step hA.bel)
    have HB := Lib.hid hb1
    have HLen := Lib.hid hlen
    have he : Hid (l ++ cat [x] = l ++ x) := by show _ = _; simp [cat]
    clear hL hx h0 hlen hA hb1 hn hin
    unfold xval
    simp only [XV.k, XV.n, XV.x, XV.o, XV.gs, XV.l, XV.c, List.length_nil]
    rw [show (⟨x.toArray⟩ : ByteArray) = bs x from rfl, ← hs]
    clear hs
    go_enter Tryd.func29, Tryd.ntmps29
    go_wp2_with fail
    refine (astLevel 0 _ HL.out.ast.words).mono ?_
    rintro e w' ⟨rfl, rfl⟩
    go_wp2_with fail
    refine (putNew (cs := #[.string s]) (n := 1) H1.out [x] rfl (by rw [HS.out]; rfl) (by simp) (by have := HLen.out; simp [cat]; omega) (by omega)).mono ?_
    rintro e W2 ⟨rfl, hw⟩
    have H2 := Lib.hid hw
    clear hw s0
    have HF := Lib.hid (HA.out.trans H2.out)
    clear H2
    go_wp2_with fail
    go_end0
    exact ⟨rfl, by rw [← he.out]; exact HF.out⟩
  | idx x a l' c' hn ha ih =>
    intro b l d w A W B cap hL hx h0 hlen
    have hT := ih (hin.gs a (by simp [XV.gs]))
    rw [textX_idx] at hlen ⊢
    have hxb : XR w B [a] := hx
    obtain ⟨ad, rfl, A2, c2, e0, e1, e2, e3, e4, e5, e6, hx2⟩ := XR.first hxb
    obtain ⟨s, hs⟩ : ∃ s, s = bs x := ⟨_, rfl⟩
    have HS := Lib.hid hs
    obtain ⟨hA, hb1, hne⟩ := h0.box [.int .i64 2, .int .i64 0, .string s, .int .i64 0, .slice (some ad) 1 cap, .int .i64 l', .int .i64 c'] 32 (by decide)
    have s0 := hb1.box.seven
    have HA := Lib.hid hA
    have H1 := Lib.hid hA.here
    have HL := Lib.hid (hL.step hA.bel)
    have HB := Lib.hid hb1
    obtain ⟨t, ht⟩ : ∃ t, t = textX a := ⟨_, rfl⟩
    have hT' := Lib.hid (fun l A W' (hr : Wr b l d w A W') hl => hT b l d w A W' A2 c2 hL hx2 hr hl)
    rw [← ht] at hlen hT' ⊢
    have HLen : Hid (l.length + (x.length + (t.length + 2)) ≤ 140737488355328) := by show _ ≤ _; simpa using hlen
    have HE : Hid (∀ V, Below w.heap.size w V → V.cell? ad = some (.int .i64 a.k) ∧ V.cell? ⟨ad.block, ad.off + 1, none⟩ = some (.int .i64 a.n) ∧ V.cell? ⟨ad.block, ad.off + 2, none⟩ = some (.string ⟨a.x.toArray⟩) ∧ V.cell? ⟨ad.block, ad.off + 3, none⟩ = some (.int .i64 a.o) ∧ V.cell? ⟨ad.block, ad.off + 4, none⟩ = some (.slice A2 a.gs.length c2) ∧ V.cell? ⟨ad.block, ad.off + 5, none⟩ = some (.int .i64 a.l) ∧ V.cell? ⟨ad.block, ad.off + 6, none⟩ = some (.int .i64 a.c)) := fun V hb => ⟨cst5 hb e0, cst5 hb e1, cst5 hb e2, cst5 hb e3, cst5 hb e4, cst5 hb e5, cst5 hb e6⟩
    have he : Hid (l ++ cat [x, [91]] ++ t ++ cat [[93]] = l ++ (x ++ 91 :: (t ++ [93]))) := by show _ = _; simp [cat]
    cases a with
    | mk ak an ax ao ags al ac =>
    unfold xval at *
    simp only [XV.k, XV.n, XV.x, XV.o, XV.gs, XV.l, XV.c, List.length_cons, List.length_nil, Nat.zero_add] at *
    rw [show (⟨x.toArray⟩ : ByteArray) = bs x from rfl, ← hs]
    clear hL hx hxb hx2 h0 hlen hA hb1 hn hin ih hT ha ht hs e0 e1 e2 e3 e4 e5 e6
    generalize (⟨ax.toArray⟩ : ByteArray) = axs at *
    generalize ags.length = am at *
    go_enter Tryd.func29, Tryd.ntmps29
    go_wp2_with fail
    refine (astLevel 0 _ HL.out.ast.words).mono ?_
    rintro e w' ⟨rfl, rfl⟩
    go_wp2_with fail
    refine (putNew (cs := #[.string s, .string ⟨#[91]⟩]) (n := 2) H1.out [x, [91]] rfl (by rw [HS.out]; rfl) (by simp) (by have := HLen.out; simp [cat]; omega) (by omega)).mono ?_
    rintro e W2 ⟨rfl, hw⟩
    have H2 := Lib.hid hw
    have s2 := (hw.bk HB.out hne).box.seven
    clear hw s0
    have f2 := HE.out _ H2.out.bel
    go_wp2_with fail
    refine (hT'.out _ _ _ H2.out (by have := HLen.out; simp [cat]; omega)).mono ?_
    rintro e W3 ⟨rfl, hw⟩
    have H3 := Lib.hid hw
    have s3 := (hw.bk HB.out hne).box.seven
    clear hw s2 f2
    go_wp2_with fail
    refine (putNew (cs := #[.string ⟨#[93]⟩]) (n := 1) H3.out [[93]] rfl (rfl) (by simp) (by have := HLen.out; simp [cat]; omega) (by omega)).mono ?_
    rintro e W4 ⟨rfl, hw⟩
    have H4 := Lib.hid hw
    have s4 := (hw.bk HB.out hne).box.seven
    clear hw s3
    have HF := Lib.hid (HA.out.trans H4.out)
    clear H4
    go_wp2_with fail
    go_end0
    exact ⟨rfl, by rw [← he.out]; exact HF.out⟩
  | un oo a l' c' hn ha ih =>
    intro b l d w A W B cap hL hx h0 hlen
    have hT := ih (hin.gs a (by simp [XV.gs]))
    rw [textX_un _ _ _ _ ha] at hlen ⊢
    have hxb : XR w B [a] := hx
    obtain ⟨ad, rfl, A2, c2, e0, e1, e2, e3, e4, e5, e6, hx2⟩ := XR.first hxb
    obtain ⟨hA, hb1, hne⟩ := h0.box [.int .i64 3, .int .i64 0, .string ⟨#[]⟩, .int .i64 oo, .slice (some ad) 1 cap, .int .i64 l', .int .i64 c'] 32 (by decide)
    have s0 := hb1.box.seven
    have HA := Lib.hid hA
    have H1 := Lib.hid hA.here
    have HL := Lib.hid (hL.step hA.bel)
    have HB := Lib.hid hb1
    have hQ : decide (a.k = 4) = true ↔ a.k = 4 ∧ lev6 a.o < lev6 oo := by
      have hn := of_decide_eq_true (show decide _ = true from hn)
      refine ⟨fun h => ?_, fun h => decide_eq_true h.1⟩
      have h4 := of_decide_eq_true h
      refine ⟨h4, ?_⟩
      cases ha with
      | bin o a b l c ho ha hb => exact two_one o oo ho hn
      | _ => simp [XV.k] at h4
    obtain ⟨q, hq⟩ : ∃ q, q = decide (a.k = 4) := ⟨_, rfl⟩
    rw [← hq] at hQ hlen ⊢
    obtain ⟨z, hz⟩ : ∃ z, z = lev6 oo := ⟨_, rfl⟩
    rw [← hz] at hQ
    obtain ⟨t, ht⟩ : ∃ t, t = brT q a := ⟨_, rfl⟩
    have hT' := Lib.hid (fun l A W' (hr : Wr b l d w A W') hl => priOperand a hT z q hQ b l d w A W' A2 c2 hL hx2 hr hl)
    rw [← ht] at hlen hT' ⊢
    obtain ⟨u, hu⟩ : ∃ u, u = txt6 oo := ⟨_, rfl⟩
    have hX := Lib.hid (fun W hL => astText oo W hL)
    have hV := Lib.hid (fun W hL => astLevel oo W hL)
    rw [← hz] at hV
    rw [← hu, show (⟨u.toArray⟩ : ByteArray) = bs u from rfl] at hX
    rw [← hu] at hlen ⊢
    obtain ⟨s, hs⟩ : ∃ s, s = bs u := ⟨_, rfl⟩
    have HS := Lib.hid hs
    rw [← hs] at hX
    have HLen : Hid (l.length + (u.length + t.length) ≤ 140737488355328) := by show _ ≤ _; simpa using hlen
    have HE : Hid (∀ V, Below w.heap.size w V → V.cell? ad = some (.int .i64 a.k) ∧ V.cell? ⟨ad.block, ad.off + 1, none⟩ = some (.int .i64 a.n) ∧ V.cell? ⟨ad.block, ad.off + 2, none⟩ = some (.string ⟨a.x.toArray⟩) ∧ V.cell? ⟨ad.block, ad.off + 3, none⟩ = some (.int .i64 a.o) ∧ V.cell? ⟨ad.block, ad.off + 4, none⟩ = some (.slice A2 a.gs.length c2) ∧ V.cell? ⟨ad.block, ad.off + 5, none⟩ = some (.int .i64 a.l) ∧ V.cell? ⟨ad.block, ad.off + 6, none⟩ = some (.int .i64 a.c)) := fun V hb => ⟨cst5 hb e0, cst5 hb e1, cst5 hb e2, cst5 hb e3, cst5 hb e4, cst5 hb e5, cst5 hb e6⟩
    have he : Hid (l ++ cat [u] ++ t = l ++ (u ++ t)) := by show _ = _; simp [cat]
    cases a with
    | mk ak an ax ao ags al ac =>
    unfold xval at *
    simp only [XV.k, XV.n, XV.x, XV.o, XV.gs, XV.l, XV.c, List.length_cons, List.length_nil, Nat.zero_add] at *
    clear hL hx hxb hx2 h0 hlen hA hb1 hn hin ih hT ha ht hs hu hz hq hQ e0 e1 e2 e3 e4 e5 e6
    generalize (⟨ax.toArray⟩ : ByteArray) = axs at *
    generalize ags.length = am at *
    go_enter Tryd.func29, Tryd.ntmps29
    go_wp2_with fail
    refine (hV.out _ HL.out.ast.words).mono ?_
    rintro e w' ⟨rfl, rfl⟩
    go_wp2_with fail
    refine (hX.out _ HL.out.ast.words).mono ?_
    rintro e w' ⟨rfl, rfl⟩
    go_wp2_with fail
    refine (putNew (cs := #[.string s]) (n := 1) H1.out [u] rfl (by rw [HS.out]; rfl) (by simp) (by have := HLen.out; simp [cat]; omega) (by omega)).mono ?_
    rintro e W2 ⟨rfl, hw⟩
    have H2 := Lib.hid hw
    have s2 := (hw.bk HB.out hne).box.seven
    clear hw s0
    have f2 := HE.out _ H2.out.bel
    go_wp2_with fail
    refine (hT'.out _ _ _ H2.out (by have := HLen.out; simp [cat]; omega)).mono ?_
    rintro e W3 ⟨rfl, hw⟩
    have H3 := Lib.hid hw
    clear hw s2 f2
    have HF := Lib.hid (HA.out.trans H3.out)
    clear H3
    go_wp2_with fail
    go_end0
    exact ⟨rfl, by rw [← he.out]; exact HF.out⟩
  | bin oo a e2 l' c' hn ha hb2 iha ihb =>
    intro b l d w A W B cap hL hx h0 hlen
    have hTa := iha (hin.gs a (by simp [XV.gs]))
    have hTb := ihb (hin.gs e2 (by simp [XV.gs]))
    rw [textX_bin _ _ _ _ _ ha hb2] at hlen ⊢
    have hxb : XR w B [a, e2] := hx
    obtain ⟨ad, rfl, A2, c2, e0, e1, ee2, e3, e4, e5, e6, hx2⟩ := XR.first hxb
    obtain ⟨A3, c3, g0, g1, g2, g3, g4, g5, g6, hx3⟩ := XR.second hxb
    obtain ⟨hA, hb1, hne⟩ := h0.box [.int .i64 4, .int .i64 0, .string ⟨#[]⟩, .int .i64 oo, .slice (some ad) 2 cap, .int .i64 l', .int .i64 c'] 32 (by decide)
    have s0 := hb1.box.seven
    have HA := Lib.hid hA
    have H1 := Lib.hid hA.here
    have HL := Lib.hid (hL.step hA.bel)
    have HB := Lib.hid hb1
    obtain ⟨q, hq⟩ : ∃ q, q = decide (a.k = 4 ∧ lev6 a.o < lev6 oo) := ⟨_, rfl⟩
    have LWof := Lib.hid (fun V (hb : Below w.heap.size w V) => hL.ast.words.step hb)
    obtain ⟨q2, hq2⟩ : ∃ q, q = decide (e2.k = 4 ∧ lev6 e2.o ≤ lev6 oo) := ⟨_, rfl⟩
    have hQ : q = true ↔ a.k = 4 ∧ lev6 a.o < lev6 oo := by rw [hq]; exact decide_eq_true_iff
    have hQ2 : q2 = true ↔ e2.k = 4 ∧ lev6 e2.o < lev6 oo + 1 := by rw [hq2, decide_eq_true_iff, Int.lt_add_one_iff]
    rw [← hq, ← hq2] at hlen ⊢
    have hzr := lev_small oo
    obtain ⟨z, hz⟩ : ∃ z, z = lev6 oo := ⟨_, rfl⟩
    rw [← hz] at hQ hQ2 hzr
    obtain ⟨t, ht⟩ : ∃ t, t = brT q a := ⟨_, rfl⟩
    obtain ⟨t2, ht2⟩ : ∃ t, t = brT q2 e2 := ⟨_, rfl⟩
    have hT' := Lib.hid (fun l A W' (hr : Wr b l d w A W') hl => priOperand a hTa z q hQ b l d w A W' A2 c2 hL hx2 hr hl)
    have hT2 := Lib.hid (fun l A W' (hr : Wr b l d w A W') hl => priOperand e2 hTb (z + 1) q2 hQ2 b l d w A W' A3 c3 hL hx3 hr hl)
    rw [← ht] at hlen hT' ⊢
    rw [← ht2] at hlen hT2 ⊢
    obtain ⟨u, hu⟩ : ∃ u, u = txt6 oo := ⟨_, rfl⟩
    have hX := Lib.hid (fun W hL => astText oo W hL)
    have hV := Lib.hid (fun W hL => astLevel oo W hL)
    rw [← hz] at hV
    rw [← hu, show (⟨u.toArray⟩ : ByteArray) = bs u from rfl] at hX
    rw [← hu] at hlen ⊢
    obtain ⟨s, hs⟩ : ∃ s, s = bs u := ⟨_, rfl⟩
    have HS := Lib.hid hs
    rw [← hs] at hX
    have HLen : Hid (l.length + (t.length + (u.length + (t2.length + 2))) ≤ 140737488355328) := by show _ ≤ _; simp only [List.length_append, List.length_cons] at hlen; omega
    have HE : Hid (∀ V, Below w.heap.size w V → V.cell? ad = some (.int .i64 a.k) ∧ V.cell? ⟨ad.block, ad.off + 1, none⟩ = some (.int .i64 a.n) ∧ V.cell? ⟨ad.block, ad.off + 2, none⟩ = some (.string ⟨a.x.toArray⟩) ∧ V.cell? ⟨ad.block, ad.off + 3, none⟩ = some (.int .i64 a.o) ∧ V.cell? ⟨ad.block, ad.off + 4, none⟩ = some (.slice A2 a.gs.length c2) ∧ V.cell? ⟨ad.block, ad.off + 5, none⟩ = some (.int .i64 a.l) ∧ V.cell? ⟨ad.block, ad.off + 6, none⟩ = some (.int .i64 a.c)) := fun V hb => ⟨cst5 hb e0, cst5 hb e1, cst5 hb ee2, cst5 hb e3, cst5 hb e4, cst5 hb e5, cst5 hb e6⟩
    have HG : Hid (∀ V, Below w.heap.size w V → V.cell? ⟨ad.block, ad.off + 7, none⟩ = some (.int .i64 e2.k) ∧ V.cell? ⟨ad.block, ad.off + 7 + 1, none⟩ = some (.int .i64 e2.n) ∧ V.cell? ⟨ad.block, ad.off + 7 + 2, none⟩ = some (.string ⟨e2.x.toArray⟩) ∧ V.cell? ⟨ad.block, ad.off + 7 + 3, none⟩ = some (.int .i64 e2.o) ∧ V.cell? ⟨ad.block, ad.off + 7 + 4, none⟩ = some (.slice A3 e2.gs.length c3) ∧ V.cell? ⟨ad.block, ad.off + 7 + 5, none⟩ = some (.int .i64 e2.l) ∧ V.cell? ⟨ad.block, ad.off + 7 + 6, none⟩ = some (.int .i64 e2.c)) := fun V hb => ⟨cst5 hb g0, cst5 hb g1, cst5 hb g2, cst5 hb g3, cst5 hb g4, cst5 hb g5, cst5 hb g6⟩
    have he : Hid (l ++ t ++ cat [[32], u, [32]] ++ t2 = l ++ (t ++ 32 :: (u ++ 32 :: t2))) := by show _ = _; simp [cat]
    have hz1 : Hid (IntKind.i64.wrap (z + 1) = z + 1) := wrap_small _ (by omega) (by omega)
    cases a with
    | mk ak an ax ao ags al ac =>
    cases e2 with
    | mk bk bn bx bo bgs bl bc =>
    unfold xval at *
    simp only [XV.k, XV.n, XV.x, XV.o, XV.gs, XV.l, XV.c, List.length_cons, List.length_nil, Nat.zero_add, Nat.reduceAdd] at *
    clear hL hx hxb hx2 hx3 h0 hlen hA hb1 hn hin iha ihb hTa hTb ha hb2 ht ht2 hs hu hz hq hq2 hQ hQ2 hzr e0 e1 ee2 e3 e4 e5 e6 g0 g1 g2 g3 g4 g5 g6
    generalize (⟨ax.toArray⟩ : ByteArray) = axs at *
    generalize (⟨bx.toArray⟩ : ByteArray) = bxs at *
    generalize ags.length = am at *
    generalize bgs.length = bm at *
    have f1 := HE.out _ H1.out.bel
    go_enter Tryd.func29, Tryd.ntmps29
    go_wp2_with fail
    refine (hV.out _ HL.out.ast.words).mono ?_
    rintro e w' ⟨rfl, rfl⟩
    go_wp2_with fail
    refine (hT'.out _ _ _ H1.out (by have := HLen.out; omega)).mono ?_
    rintro e W2 ⟨rfl, hw⟩
    have H2 := Lib.hid hw
    have HLw := Lib.hid (LWof.out _ hw.bel)
    have s2 := (hw.bk HB.out hne).box.seven
    clear hw s0 f1
    go_wp2_with fail
    refine (hX.out _ HLw.out).mono ?_
    rintro e w' ⟨rfl, rfl⟩
    go_wp2_with fail
    refine (putNew (cs := #[.string ⟨#[32]⟩, .string s, .string ⟨#[32]⟩]) (n := 3) H2.out [[32], u, [32]] rfl (by rw [HS.out]; rfl) (by simp) (by have := HLen.out; simp [cat]; omega) (by omega)).mono ?_
    rintro e W3 ⟨rfl, hw⟩
    have H3 := Lib.hid hw
    have s3 := (hw.bk HB.out hne).box.seven
    clear hw s2
    have f3 := HG.out _ H3.out.bel
    have hz2 := hz1.out
    go_wp2_with fail
    refine (hT2.out _ _ _ H3.out (by have := HLen.out; simp [cat]; omega)).mono ?_
    rintro e W4 ⟨rfl, hw⟩
    have H4 := Lib.hid hw
    clear hw s3 f3
    have HF := Lib.hid (HA.out.trans H4.out)
    clear H4
    go_wp2_with fail
    go_end0
    exact ⟨rfl, by rw [← he.out]; exact HF.out⟩
end

section
open Go.RowKit

/-- What is asked of a printer's function f for one statement. -/
def PSf (f : FuncId) (s : SV) : Prop := ∀ (b : Nat) (l : List UInt8) (d : Nat) (w A W : World) (A1 : Option Addr) (c1 : Nat) (A2 : Option Addr) (c2 : Nat) (A3 : Option Addr) (c3 : Nat), LaidP w → XR w A1 s.es → SR w A2 s.ts → SR w A3 s.us → Wr b l d w A W → d + ssz1 s ≤ 4000000 → l.length + (lineS s d).length ≤ 140737488355328 →
  Calls Tryd.prog f #[.pointer (some ⟨b, 0, none⟩), sval s A1 c1 A2 c2 A3 c3] W fun r W' => r = .returned (.tuple #[]) ∧ Wr b (l ++ lineS s d) d w A W'

set_option maxRecDepth 100000 in
set_option maxHeartbeats 4000000 in
theorem priAssign (x : List UInt8) (e : XV) (l' c' : Int) (hX : RX e) (hi : In e) : PSf 49 (.mk 0 x [e] [] [] l' c') := by
  intro b l d w A W A1 c1 A2 c2 A3 c3 hL hx hy hz h0 hd hlen
  have hxb : XR w A1 [e] := hx
  obtain ⟨ad, rfl, B2, d2, e0, e1, e2, e3, e4, e5, e6, hx2⟩ := XR.first hxb
  obtain ⟨s, hs⟩ : ∃ s, s = bs x := ⟨_, rfl⟩
  have HS := Lib.hid hs
  obtain ⟨hA, hb1, hne⟩ := h0.box [.int .i64 0, .string s, .slice (some ad) 1 c1, .slice A2 0 c2, .slice A3 0 c3, .int .i64 l', .int .i64 c'] 37 (by decide)
  have s0 := hb1.box.seven
  have HA := Lib.hid hA
  have H1 := Lib.hid hA.here
  have HB := Lib.hid hb1
  rw [lineS_assign x e l' c' d hX] at hlen ⊢
  obtain ⟨t, ht⟩ : ∃ t, t = textX e := ⟨_, rfl⟩
  have hT := Lib.hid (fun l A W' (hr : Wr b l d w A W') hl => priExpr e hX hi b l d w A W' B2 d2 hL hx2 hr hl)
  rw [← ht] at hlen hT ⊢
  have HE : Hid (∀ V, Below w.heap.size w V → V.cell? ad = some (.int .i64 e.k) ∧ V.cell? ⟨ad.block, ad.off + 1, none⟩ = some (.int .i64 e.n) ∧ V.cell? ⟨ad.block, ad.off + 2, none⟩ = some (.string ⟨e.x.toArray⟩) ∧ V.cell? ⟨ad.block, ad.off + 3, none⟩ = some (.int .i64 e.o) ∧ V.cell? ⟨ad.block, ad.off + 4, none⟩ = some (.slice B2 e.gs.length d2) ∧ V.cell? ⟨ad.block, ad.off + 5, none⟩ = some (.int .i64 e.l) ∧ V.cell? ⟨ad.block, ad.off + 6, none⟩ = some (.int .i64 e.c)) := fun V hb => ⟨cst5 hb e0, cst5 hb e1, cst5 hb e2, cst5 hb e3, cst5 hb e4, cst5 hb e5, cst5 hb e6⟩
  have HLen : Hid (l.length + (2 * d + (x.length + (t.length + 5))) ≤ 140737488355328) := by show _ ≤ _; simp only [List.length_append, List.length_cons, List.length_nil, ahd_len] at hlen; omega
  obtain ⟨fin, hfin⟩ : ∃ zz, zz = l ++ (ahd d ++ (x ++ ([32, 61, 32] ++ (t ++ [59, 10])))) := ⟨_, rfl⟩
  have he : Hid (l ++ (ahd d ++ cat [x, [32, 61, 32]]) ++ t ++ ([59] ++ [10]) = fin) := by show _ = _; rw [hfin]; simp [cat]
  rw [← hfin]
  clear hfin
  cases e with
  | mk ek en ex eo egs el ec =>
  unfold sval xval at *
  simp only [XV.k, XV.n, XV.x, XV.o, XV.gs, XV.l, XV.c, SV.k, SV.x, SV.es, SV.ts, SV.us, SV.l, SV.c, List.length_cons, List.length_nil, Nat.zero_add] at *
  rw [show (⟨x.toArray⟩ : ByteArray) = bs x from rfl, ← hs]
  clear hL hx hxb hx2 hy hz h0 hd hlen hA hb1 hX hi ht hs e0 e1 e2 e3 e4 e5 e6
  generalize (⟨ex.toArray⟩ : ByteArray) = exs at *
  generalize egs.length = em at *
  go_enter Tryd.func49, Tryd.ntmps49
  go_wp2_with fail
  refine (beginNew (cs := #[.string s, .string ⟨#[32, 61, 32]⟩]) (n := 2) H1.out [x, [32, 61, 32]] rfl (by rw [HS.out]; rfl) (by simp) (by have := HLen.out; simp [cat]; omega) (by omega)).mono ?_
  rintro e W2 ⟨rfl, hw⟩
  have H2 := Lib.hid hw
  have s2 := (hw.bk HB.out hne).box.seven
  clear hw s0
  have f3 := HE.out _ H2.out.bel
  go_wp2_with fail
  refine (hT.out _ _ _ H2.out (by have := HLen.out; simp [cat, ahd_len]; omega)).mono ?_
  rintro e W3 ⟨rfl, hw⟩
  have H3 := Lib.hid hw
  clear hw f3 s2
  go_wp2_with fail
  refine (priEnd H3.out [59] (s := ⟨#[59]⟩) rfl (by have := HLen.out; simp [cat, ahd_len]; omega)).mono ?_
  rintro e W4 ⟨rfl, hw⟩
  have H4 := Lib.hid hw
  clear hw 
  have HF := Lib.hid (HA.out.trans H4.out)
  clear H4
  go_wp2_with fail
  go_end0
  exact ⟨rfl, by rw [← he.out]; exact HF.out⟩

set_option maxRecDepth 100000 in
set_option maxHeartbeats 4000000 in
theorem priStore (x : List UInt8) (j e : XV) (l' c' : Int) (hX : RX j) (hi : In j) (hX2 : RX e) (hi2 : In e) : PSf 50 (.mk 1 x [j, e] [] [] l' c') := by
  intro b l d w A W A1 c1 A2 c2 A3 c3 hL hx hy hz h0 hd hlen
  have hxb : XR w A1 [j, e] := hx
  obtain ⟨ad, rfl, B2, d2, e0, e1, e2, e3, e4, e5, e6, hx2⟩ := XR.first hxb
  obtain ⟨B3, d3, g0, g1, g2, g3, g4, g5, g6, hx3⟩ := XR.second hxb
  obtain ⟨s, hs⟩ : ∃ s, s = bs x := ⟨_, rfl⟩
  have HS := Lib.hid hs
  obtain ⟨hA, hb1, hne⟩ := h0.box [.int .i64 1, .string s, .slice (some ad) 2 c1, .slice A2 0 c2, .slice A3 0 c3, .int .i64 l', .int .i64 c'] 37 (by decide)
  have s0 := hb1.box.seven
  have HA := Lib.hid hA
  have H1 := Lib.hid hA.here
  have HB := Lib.hid hb1
  rw [lineS_store x e j l' c' d hX hX2] at hlen ⊢
  obtain ⟨t, ht⟩ : ∃ t, t = textX j := ⟨_, rfl⟩
  have hT := Lib.hid (fun l A W' (hr : Wr b l d w A W') hl => priExpr j hX hi b l d w A W' B2 d2 hL hx2 hr hl)
  rw [← ht] at hlen hT ⊢
  have HE : Hid (∀ V, Below w.heap.size w V → V.cell? ad = some (.int .i64 j.k) ∧ V.cell? ⟨ad.block, ad.off + 1, none⟩ = some (.int .i64 j.n) ∧ V.cell? ⟨ad.block, ad.off + 2, none⟩ = some (.string ⟨j.x.toArray⟩) ∧ V.cell? ⟨ad.block, ad.off + 3, none⟩ = some (.int .i64 j.o) ∧ V.cell? ⟨ad.block, ad.off + 4, none⟩ = some (.slice B2 j.gs.length d2) ∧ V.cell? ⟨ad.block, ad.off + 5, none⟩ = some (.int .i64 j.l) ∧ V.cell? ⟨ad.block, ad.off + 6, none⟩ = some (.int .i64 j.c)) := fun V hb => ⟨cst5 hb e0, cst5 hb e1, cst5 hb e2, cst5 hb e3, cst5 hb e4, cst5 hb e5, cst5 hb e6⟩
  obtain ⟨t2, ht2⟩ : ∃ t, t = textX e := ⟨_, rfl⟩
  have hT2 := Lib.hid (fun l A W' (hr : Wr b l d w A W') hl => priExpr e hX2 hi2 b l d w A W' B3 d3 hL hx3 hr hl)
  rw [← ht2] at hlen hT2 ⊢
  have HG : Hid (∀ V, Below w.heap.size w V → V.cell? ⟨ad.block, ad.off + 7, none⟩ = some (.int .i64 e.k) ∧ V.cell? ⟨ad.block, ad.off + 7 + 1, none⟩ = some (.int .i64 e.n) ∧ V.cell? ⟨ad.block, ad.off + 7 + 2, none⟩ = some (.string ⟨e.x.toArray⟩) ∧ V.cell? ⟨ad.block, ad.off + 7 + 3, none⟩ = some (.int .i64 e.o) ∧ V.cell? ⟨ad.block, ad.off + 7 + 4, none⟩ = some (.slice B3 e.gs.length d3) ∧ V.cell? ⟨ad.block, ad.off + 7 + 5, none⟩ = some (.int .i64 e.l) ∧ V.cell? ⟨ad.block, ad.off + 7 + 6, none⟩ = some (.int .i64 e.c)) := fun V hb => ⟨cst5 hb g0, cst5 hb g1, cst5 hb g2, cst5 hb g3, cst5 hb g4, cst5 hb g5, cst5 hb g6⟩
  have HLen : Hid (l.length + (2 * d + (x.length + (t.length + (t2.length + 7)))) ≤ 140737488355328) := by show _ ≤ _; simp only [List.length_append, List.length_cons, List.length_nil, ahd_len] at hlen; omega
  obtain ⟨fin, hfin⟩ : ∃ zz, zz = l ++ (ahd d ++ (x ++ ([91] ++ (t ++ ([93, 32, 61, 32] ++ (t2 ++ [59, 10])))))) := ⟨_, rfl⟩
  have he : Hid (l ++ (ahd d ++ cat [x, [91]]) ++ t ++ cat [[93, 32, 61, 32]] ++ t2 ++ ([59] ++ [10]) = fin) := by show _ = _; rw [hfin]; simp [cat]
  rw [← hfin]
  clear hfin
  cases j with
  | mk jk jn jx jo jgs jl jc =>
  cases e with
  | mk ek en ex eo egs el ec =>
  unfold sval xval at *
  simp only [XV.k, XV.n, XV.x, XV.o, XV.gs, XV.l, XV.c, SV.k, SV.x, SV.es, SV.ts, SV.us, SV.l, SV.c, List.length_cons, List.length_nil, Nat.zero_add] at *
  rw [show (⟨x.toArray⟩ : ByteArray) = bs x from rfl, ← hs]
  clear hL hx hxb hx2 hy hz h0 hd hlen hA hb1 hX hi ht ht2 hs hX2 hi2 hx3 g0 g1 g2 g3 g4 g5 g6 e0 e1 e2 e3 e4 e5 e6
  generalize (⟨jx.toArray⟩ : ByteArray) = jxs at *
  generalize jgs.length = jm at *
  generalize (⟨ex.toArray⟩ : ByteArray) = exs at *
  generalize egs.length = em at *
  go_enter Tryd.func50, Tryd.ntmps50
  go_wp2_with fail
  refine (beginNew (cs := #[.string s, .string ⟨#[91]⟩]) (n := 2) H1.out [x, [91]] rfl (by rw [HS.out]; rfl) (by simp) (by have := HLen.out; simp [cat]; omega) (by omega)).mono ?_
  rintro e W2 ⟨rfl, hw⟩
  have H2 := Lib.hid hw
  have s2 := (hw.bk HB.out hne).box.seven
  clear hw s0
  have f3 := HE.out _ H2.out.bel
  go_wp2_with fail
  refine (hT.out _ _ _ H2.out (by have := HLen.out; simp [cat, ahd_len]; omega)).mono ?_
  rintro e W3 ⟨rfl, hw⟩
  have H3 := Lib.hid hw
  have s3 := (hw.bk HB.out hne).box.seven
  clear hw f3 s2
  go_wp2_with fail
  refine (putNew (cs := #[.string ⟨#[93, 32, 61, 32]⟩]) (n := 1) H3.out [[93, 32, 61, 32]] rfl (rfl) (by simp) (by have := HLen.out; simp [cat, ahd_len]; omega) (by omega)).mono ?_
  rintro e W4 ⟨rfl, hw⟩
  have H4 := Lib.hid hw
  have s4 := (hw.bk HB.out hne).box.seven
  clear hw s3
  have f5 := HG.out _ H4.out.bel
  go_wp2_with fail
  refine (hT2.out _ _ _ H4.out (by have := HLen.out; simp [cat, ahd_len]; omega)).mono ?_
  rintro e W5 ⟨rfl, hw⟩
  have H5 := Lib.hid hw
  clear hw f5 s4
  go_wp2_with fail
  refine (priEnd H5.out [59] (s := ⟨#[59]⟩) rfl (by have := HLen.out; simp [cat, ahd_len]; omega)).mono ?_
  rintro e W6 ⟨rfl, hw⟩
  have H6 := Lib.hid hw
  clear hw 
  have HF := Lib.hid (HA.out.trans H6.out)
  clear H6
  go_wp2_with fail
  go_end0
  exact ⟨rfl, by rw [← he.out]; exact HF.out⟩

set_option maxRecDepth 100000 in
set_option maxHeartbeats 4000000 in
theorem priOutput (e : XV) (l' c' : Int) (hX : RX e) (hi : In e) : PSf 53 (.mk 4 [] [e] [] [] l' c') := by
  intro b l d w A W A1 c1 A2 c2 A3 c3 hL hx hy hz h0 hd hlen
  have hxb : XR w A1 [e] := hx
  obtain ⟨ad, rfl, B2, d2, e0, e1, e2, e3, e4, e5, e6, hx2⟩ := XR.first hxb
  obtain ⟨hA, hb1, hne⟩ := h0.box [.int .i64 4, .string ⟨#[]⟩, .slice (some ad) 1 c1, .slice A2 0 c2, .slice A3 0 c3, .int .i64 l', .int .i64 c'] 37 (by decide)
  have s0 := hb1.box.seven
  have HA := Lib.hid hA
  have H1 := Lib.hid hA.here
  have HB := Lib.hid hb1
  rw [lineS_out e l' c' d hX] at hlen ⊢
  obtain ⟨t, ht⟩ : ∃ t, t = textX e := ⟨_, rfl⟩
  have hT := Lib.hid (fun l A W' (hr : Wr b l d w A W') hl => priExpr e hX hi b l d w A W' B2 d2 hL hx2 hr hl)
  rw [← ht] at hlen hT ⊢
  have HE : Hid (∀ V, Below w.heap.size w V → V.cell? ad = some (.int .i64 e.k) ∧ V.cell? ⟨ad.block, ad.off + 1, none⟩ = some (.int .i64 e.n) ∧ V.cell? ⟨ad.block, ad.off + 2, none⟩ = some (.string ⟨e.x.toArray⟩) ∧ V.cell? ⟨ad.block, ad.off + 3, none⟩ = some (.int .i64 e.o) ∧ V.cell? ⟨ad.block, ad.off + 4, none⟩ = some (.slice B2 e.gs.length d2) ∧ V.cell? ⟨ad.block, ad.off + 5, none⟩ = some (.int .i64 e.l) ∧ V.cell? ⟨ad.block, ad.off + 6, none⟩ = some (.int .i64 e.c)) := fun V hb => ⟨cst5 hb e0, cst5 hb e1, cst5 hb e2, cst5 hb e3, cst5 hb e4, cst5 hb e5, cst5 hb e6⟩
  have HLen : Hid (l.length + (2 * d + (t.length + 9)) ≤ 140737488355328) := by show _ ≤ _; simp only [List.length_append, List.length_cons, List.length_nil, ahd_len] at hlen; omega
  obtain ⟨fin, hfin⟩ : ∃ zz, zz = l ++ (ahd d ++ ([111, 117, 116, 112, 117, 116, 32] ++ (t ++ [59, 10]))) := ⟨_, rfl⟩
  have he : Hid (l ++ (ahd d ++ cat [[111, 117, 116, 112, 117, 116, 32]]) ++ t ++ ([59] ++ [10]) = fin) := by show _ = _; rw [hfin]; simp [cat]
  rw [← hfin]
  clear hfin
  cases e with
  | mk ek en ex eo egs el ec =>
  unfold sval xval at *
  simp only [XV.k, XV.n, XV.x, XV.o, XV.gs, XV.l, XV.c, SV.k, SV.x, SV.es, SV.ts, SV.us, SV.l, SV.c, List.length_cons, List.length_nil, Nat.zero_add] at *
  clear hL hx hxb hx2 hy hz h0 hd hlen hA hb1 hX hi ht e0 e1 e2 e3 e4 e5 e6
  generalize (⟨ex.toArray⟩ : ByteArray) = exs at *
  generalize egs.length = em at *
  go_enter Tryd.func53, Tryd.ntmps53
  go_wp2_with fail
  refine (beginNew (cs := #[.string ⟨#[111, 117, 116, 112, 117, 116, 32]⟩]) (n := 1) H1.out [[111, 117, 116, 112, 117, 116, 32]] rfl (rfl) (by simp) (by have := HLen.out; simp [cat]; omega) (by omega)).mono ?_
  rintro e W2 ⟨rfl, hw⟩
  have H2 := Lib.hid hw
  have s2 := (hw.bk HB.out hne).box.seven
  clear hw s0
  have f3 := HE.out _ H2.out.bel
  go_wp2_with fail
  refine (hT.out _ _ _ H2.out (by have := HLen.out; simp [cat, ahd_len]; omega)).mono ?_
  rintro e W3 ⟨rfl, hw⟩
  have H3 := Lib.hid hw
  clear hw f3 s2
  go_wp2_with fail
  refine (priEnd H3.out [59] (s := ⟨#[59]⟩) rfl (by have := HLen.out; simp [cat, ahd_len]; omega)).mono ?_
  rintro e W4 ⟨rfl, hw⟩
  have H4 := Lib.hid hw
  clear hw 
  have HF := Lib.hid (HA.out.trans H4.out)
  clear H4
  go_wp2_with fail
  go_end0
  exact ⟨rfl, by rw [← he.out]; exact HF.out⟩

set_option maxRecDepth 100000 in
set_option maxHeartbeats 4000000 in
theorem priSkip (l' c' : Int) : PSf 55 (.mk 6 [] [] [] [] l' c') := by
  intro b l d w A W A1 c1 A2 c2 A3 c3 hL hx hy hz h0 hd hlen
  obtain ⟨hA, hb1, hne⟩ := h0.box [.int .i64 6, .string ⟨#[]⟩, .slice A1 0 c1, .slice A2 0 c2, .slice A3 0 c3, .int .i64 l', .int .i64 c'] 37 (by decide)
  have s0 := hb1.box.seven
  have HA := Lib.hid hA
  have H1 := Lib.hid hA.here
  have HB := Lib.hid hb1
  rw [lineS_skip] at hlen ⊢
  have HLen : Hid (l.length + (2 * d + 6) ≤ 140737488355328) := by show _ ≤ _; simp only [List.length_append, List.length_cons, List.length_nil, ahd_len] at hlen; omega
  obtain ⟨fin, hfin⟩ : ∃ zz, zz = l ++ (ahd d ++ [115, 107, 105, 112, 59, 10]) := ⟨_, rfl⟩
  have he : Hid (l ++ (ahd d ++ (cat [[115, 107, 105, 112, 59]] ++ [10])) = fin) := by show _ = _; rw [hfin]; simp [cat]
  rw [← hfin]
  clear hfin
  clear hL hx hy hz h0 hd hlen hA hb1
  unfold sval
  simp only [SV.k, SV.x, SV.es, SV.ts, SV.us, SV.l, SV.c, List.length_nil]
  go_enter Tryd.func55, Tryd.ntmps55
  go_wp2_with fail
  refine (lineNew (cs := #[.string ⟨#[115, 107, 105, 112, 59]⟩]) (n := 1) H1.out [[115, 107, 105, 112, 59]] rfl (rfl) (by simp) (by have := HLen.out; simp [cat]; omega) (by omega)).mono ?_
  rintro e W2 ⟨rfl, hw⟩
  have H2 := Lib.hid hw
  clear hw s0
  have HF := Lib.hid (HA.out.trans H2.out)
  clear H2
  go_wp2_with fail
  go_end0
  exact ⟨rfl, by rw [← he.out]; exact HF.out⟩

set_option maxRecDepth 100000 in
set_option maxHeartbeats 4000000 in
theorem priHead (v : SV) (e : XV) (hve : v.es = [e]) (hX : RX e) (hi : In e) (wd : List UInt8) (s : ByteArray) (hs : s = bs wd) (b : Nat) (l : List UInt8) (d : Nat) (w A W : World) (A1 : Option Addr) (c1 : Nat) (A2 : Option Addr) (c2 : Nat) (A3 : Option Addr) (c3 : Nat) (hL : LaidP w) (hx : XR w A1 v.es) (h0 : Wr b l d w A W) (hlen : l.length + (2 * d + (wd.length + ((textX e).length + 3))) ≤ 140737488355328) :
    Calls Tryd.prog 64 #[.pointer (some ⟨b, 0, none⟩), .string s, sval v A1 c1 A2 c2 A3 c3] W fun r W' => r = .returned (.tuple #[]) ∧ Wr b (l ++ (ahd d ++ (wd ++ (textX e ++ [32, 123, 10])))) d w A W' := by
  cases v with
  | mk vk vx ves vts vus vl vc =>
  obtain rfl : ves = [e] := hve
  have hxb : XR w A1 [e] := hx
  obtain ⟨ad, rfl, B2, d2, e0, e1, e2, e3, e4, e5, e6, hx2⟩ := XR.first hxb
  obtain ⟨hA, hb1, hne⟩ := h0.box [.int .i64 vk, .string ⟨vx.toArray⟩, .slice (some ad) 1 c1, .slice A2 vts.length c2, .slice A3 vus.length c3, .int .i64 vl, .int .i64 vc] 37 (by decide)
  have s0 := hb1.box.seven
  have HA := Lib.hid hA
  have H1 := Lib.hid hA.here
  have HB := Lib.hid hb1
  obtain ⟨t, ht⟩ : ∃ t, t = textX e := ⟨_, rfl⟩
  have hT := Lib.hid (fun l A W' (hr : Wr b l d w A W') hl => priExpr e hX hi b l d w A W' B2 d2 hL hx2 hr hl)
  rw [← ht] at hlen hT ⊢
  have HE : Hid (∀ V, Below w.heap.size w V → V.cell? ad = some (.int .i64 e.k) ∧ V.cell? ⟨ad.block, ad.off + 1, none⟩ = some (.int .i64 e.n) ∧ V.cell? ⟨ad.block, ad.off + 2, none⟩ = some (.string ⟨e.x.toArray⟩) ∧ V.cell? ⟨ad.block, ad.off + 3, none⟩ = some (.int .i64 e.o) ∧ V.cell? ⟨ad.block, ad.off + 4, none⟩ = some (.slice B2 e.gs.length d2) ∧ V.cell? ⟨ad.block, ad.off + 5, none⟩ = some (.int .i64 e.l) ∧ V.cell? ⟨ad.block, ad.off + 6, none⟩ = some (.int .i64 e.c)) := fun V hb => ⟨cst5 hb e0, cst5 hb e1, cst5 hb e2, cst5 hb e3, cst5 hb e4, cst5 hb e5, cst5 hb e6⟩
  have HLen : Hid (l.length + (2 * d + (wd.length + (t.length + 3))) ≤ 140737488355328) := by show _ ≤ _; omega
  have HS := Lib.hid hs
  obtain ⟨fin, hfin⟩ : ∃ zz, zz = l ++ (ahd d ++ (wd ++ (t ++ [32, 123, 10]))) := ⟨_, rfl⟩
  have he : Hid (l ++ (ahd d ++ cat [wd]) ++ t ++ ([32, 123] ++ [10]) = fin) := by show _ = _; rw [hfin]; simp [cat]
  rw [← hfin]
  clear hfin
  cases e with
  | mk ek en ex eo egs el ec =>
  unfold sval xval at *
  simp only [XV.k, XV.n, XV.x, XV.o, XV.gs, XV.l, XV.c, SV.k, SV.x, SV.es, SV.ts, SV.us, SV.l, SV.c, List.length_cons, List.length_nil, Nat.zero_add] at *
  clear hL hx hxb hx2 h0 hlen hA hb1 hX hi ht hs e0 e1 e2 e3 e4 e5 e6
  generalize (⟨vx.toArray⟩ : ByteArray) = vxs at *
  generalize vts.length = vtn at *
  generalize vus.length = vun at *
  generalize (⟨ex.toArray⟩ : ByteArray) = exs at *
  generalize egs.length = em at *
  go_enter Tryd.func64, Tryd.ntmps64
  go_wp2_with fail
  refine (beginNew (cs := #[.string s]) (n := 1) H1.out [wd] rfl (by rw [HS.out]; rfl) (by simp) (by have := HLen.out; simp [cat]; omega) (by omega)).mono ?_
  rintro e W2 ⟨rfl, hw⟩
  have H2 := Lib.hid hw
  have s2 := (hw.bk HB.out hne).box.seven
  clear hw s0
  have f3 := HE.out _ H2.out.bel
  go_wp2_with fail
  refine (hT.out _ _ _ H2.out (by have := HLen.out; simp [cat, ahd_len]; omega)).mono ?_
  rintro e W3 ⟨rfl, hw⟩
  have H3 := Lib.hid hw
  clear hw f3 s2
  go_wp2_with fail
  refine (priEnd H3.out [32, 123] (s := ⟨#[32, 123]⟩) rfl (by have := HLen.out; simp [cat, ahd_len]; omega)).mono ?_
  rintro e W4 ⟨rfl, hw⟩
  have H4 := Lib.hid hw
  clear hw 
  have HF := Lib.hid (HA.out.trans H4.out)
  clear H4
  go_wp2_with fail
  go_end0
  exact ⟨rfl, by rw [← he.out]; exact HF.out⟩

theorem bytsA_le {es : List XV} (hr : ∀ e ∈ es, RX e) : ∀ k i, i + k = es.length → (byts (layA (es.take i))).length ≤ (byts (layA es)).length
  | 0, i, h => by rw [List.take_of_length_le (by omega)]; exact Nat.le_refl _
  | k + 1, i, h => by
    have h1 := bytsA_le hr k (i + 1) (by omega)
    rw [bytsA_take hr (List.getElem?_eq_getElem (show i < es.length by omega))] at h1
    simp only [List.length_append] at h1
    omega

set_option maxRecDepth 100000 in
set_option maxHeartbeats 4000000 in
theorem priCall (x : List UInt8) (es : List XV) (l' c' : Int) (hr : ∀ e ∈ es, RX e) (hi : ∀ e ∈ es, In e) (hn : es.length ≤ 4000000) : PSf 54 (.mk 5 x es [] [] l' c') := by
  intro b l d w A W A1 c1 A2 c2 A3 c3 hL hx hy hz h0 hd hlen
  have hxb : XR w A1 es := hx
  obtain ⟨s, hs⟩ : ∃ s, s = bs x := ⟨_, rfl⟩
  have HS := Lib.hid hs
  obtain ⟨n, hne2⟩ : ∃ n, n = es.length := ⟨_, rfl⟩
  rw [← hne2] at hn
  obtain ⟨hA, hb1, hne⟩ := h0.box [.int .i64 5, .string s, .slice A1 n c1, .slice A2 0 c2, .slice A3 0 c3, .int .i64 l', .int .i64 c'] 37 (by decide)
  have s0 := hb1.box.seven
  have HA := Lib.hid hA
  have H1 := Lib.hid hA.here
  have HB := Lib.hid hb1
  rw [lineS_call] at hlen ⊢
  have HLen : Hid (l.length + (2 * d + (x.length + ((byts (layA es)).length + 9))) ≤ 140737488355328) := by show _ ≤ _; simp only [List.length_append, List.length_cons, List.length_nil, ahd_len] at hlen; omega
  obtain ⟨fin, hfin⟩ : ∃ zz, zz = l ++ (ahd d ++ ([99, 97, 108, 108, 32] ++ (x ++ ([40] ++ (byts (layA es) ++ [41, 59, 10]))))) := ⟨_, rfl⟩
  have he : Hid (l ++ (ahd d ++ cat [[99, 97, 108, 108, 32], x, [40]]) ++ byts (layA es) ++ ([41, 59] ++ [10]) = fin) := by show _ = _; rw [hfin]; simp [cat]
  rw [← hfin]
  clear hfin
  have HX := Lib.hid hxb
  have HR := Lib.hid hr
  have HI := Lib.hid hi
  have HN := Lib.hid hne2
  have HW := Lib.hid hL
  have hle := Lib.hid (fun i (h : i ≤ n) => bytsA_le hr (n - i) i (by omega))
  have hall : Hid (byts (layA (es.take n)) = byts (layA es)) := by show _ = _; rw [hne2, List.take_length]
  unfold sval
  simp only [SV.k, SV.x, SV.es, SV.ts, SV.us, SV.l, SV.c, List.length_nil]
  rw [show (⟨x.toArray⟩ : ByteArray) = bs x from rfl, ← hs, ← hne2]
  clear hL hx hxb hy hz h0 hd hlen hA hb1 hr hi hs hne2
  go_enter Tryd.func54, Tryd.ntmps54
  go_wp2_with fail
  refine (beginNew (cs := #[.string ⟨#[99, 97, 108, 108, 32]⟩, .string s, .string ⟨#[40]⟩]) (n := 3) H1.out [[99, 97, 108, 108, 32], x, [40]] rfl (by rw [HS.out]; rfl) (by simp) (by have := HLen.out; simp [cat]; omega) (by omega)).mono ?_
  rintro e W2 ⟨rfl, hw⟩
  have H2 := Lib.hid hw
  have s2 := (hw.bk HB.out hne).box.seven
  clear hw s0
  go_wp2_with fail
  go_loopw [14] (fun u V => ∃ i : Nat, i ≤ n ∧ u = .int .i64 i ∧ Hid (Wr b (l ++ (ahd d ++ cat [[99, 97, 108, 108, 32], x, [40]]) ++ byts (layA (es.take i))) d w W2 V)) (fun u _ => n - (intOf u).toNat)
  case atStart => exact ⟨0, by omega, rfl, by show Wr _ _ _ _ _ _; rw [show byts (layA (es.take 0)) = [] from rfl, List.append_nil]; exact H2.out.here⟩
  case round =>
    obtain ⟨i, hi, rfl, hb⟩ := hrel
    by_cases hlt : i < n
    · have hlt' : (i : Int) < n := by omega
      obtain ⟨ad, e, rfl, he', A', c', e0, e1, e2, e3, e4, e5, e6, hx'⟩ := (XR.sub HX.out (Sub.below hb.out.bel)).el (i := i) (by rw [← HN.out]; exact hlt)
      have hre := HR.out e (List.mem_iff_getElem?.2 ⟨i, he'⟩)
      have hie := HI.out e (List.mem_iff_getElem?.2 ⟨i, he'⟩)
      have hxw : XR w A' e.gs := by
        obtain ⟨ad2, e2', q1, q2, A'', c'', f0, f1, f2, f3, f4, f5, f6, hx2⟩ := XR.el HX.out (i := i) (by rw [← HN.out]; exact hlt)
        injection q1 with q1
        subst q1
        obtain rfl : e = e2' := Option.some.inj (he'.symm.trans q2)
        have := (hb.out.bel.cell (World.block_lt_of_cell? w _ f4)).trans f4
        rw [this] at e4
        injection e4 with e4
        injection e4 with e4
        rw [← e4]
        exact hx2
      have htk := Lib.hid (bytsA_take HR.out he')
      have hT := Lib.hid (fun l A W' (hr : Wr b l d w A W') hl => priExpr e hre hie b l d w A W' A' c' HW.out hxw hr hl)
      have hl1 := hle.out (i + 1) (by omega)
      obtain ⟨t, ht⟩ : ∃ t, t = textX e := ⟨_, rfl⟩
      rw [← ht] at hT htk
      rw [htk.out] at hl1
      have HL1 := Lib.hid hl1
      obtain ⟨u, hu⟩ : ∃ u, u = byts (layA (es.take i)) := ⟨_, rfl⟩
      rw [← hu] at htk HL1 hb
      obtain ⟨hA3, hb3, hne3⟩ := hb.out.box [.int .i64 e.k, .int .i64 e.n, .string ⟨e.x.toArray⟩, .int .i64 e.o, .slice A' e.gs.length c', .int .i64 e.l, .int .i64 e.c] 32 (by decide)
      have HA3 := Lib.hid hA3
      have H3 := Lib.hid hA3.here
      have HB3 := Lib.hid hb3
      have s3 := hb3.box.seven
      cases e with
      | mk k nn nx o gs lo cc =>
      unfold xval at hT
      simp only [XV.k, XV.n, XV.x, XV.o, XV.gs, XV.l, XV.c] at *
      clear hx' he' hre hie hxw hl1 ht hu hA3 hb3
      generalize gs.length = m at *
      generalize (⟨nx.toArray⟩ : ByteArray) = xs at *
      by_cases h0 : 0 < i
      · have h0' : (0 : Int) < (i : Int) := by omega
        have htk2 : Hid (byts (layA (es.take (i + 1))) = u ++ [44, 32] ++ t) := by show _ = _; rw [htk.out, if_pos h0]
        have HL2 : Hid (u.length + 2 + t.length ≤ (byts (layA es)).length) := by show _ ≤ _; have := HL1.out; rw [if_pos h0] at this; simp only [List.length_append, List.length_cons, List.length_nil] at this; omega
        clear HL1 htk
        go_wp2_with fail
        refine (putNew (cs := #[.string ⟨#[44, 32]⟩]) (n := 1) H3.out [[44, 32]] rfl rfl (by simp) (by have := HLen.out; have := HL2.out; simp [cat, ahd_len]; omega) (by omega)).mono ?_
        rintro e W4 ⟨rfl, hw⟩
        have H4 := Lib.hid hw
        have s4 := (hw.bk HB3.out hne3).box.seven
        clear hw s3 e0 e1 e2 e3 e4 e5 e6
        go_wp2_with fail
        refine (hT.out _ _ _ H4.out (by have := HLen.out; have := HL2.out; simp [cat, ahd_len]; omega)).mono ?_
        rintro e W5 ⟨rfl, hw⟩
        have H5 : Hid (Wr b (l ++ (ahd d ++ cat [[99, 97, 108, 108, 32], x, [40]]) ++ byts (layA (es.take (i + 1)))) d w W2 W5) := by
          show Wr _ _ _ _ _ _
          rw [htk2.out]
          have := HA3.out.trans hw
          simpa [cat] using this
        clear hw s4
        go_wp2_with fail
        exact ⟨⟨i + 1, by omega, by go_num, H5⟩, by simp [intOf]; omega⟩
      · have hi0 : i = 0 := by omega
        have h0' : ¬ (0 : Int) < (i : Int) := by omega
        have htk2 : Hid (byts (layA (es.take (i + 1))) = u ++ t) := by show _ = _; rw [htk.out, if_neg h0, List.append_nil]
        have HL2 : Hid (u.length + t.length ≤ (byts (layA es)).length) := by show _ ≤ _; have := HL1.out; rw [if_neg h0] at this; simpa using this
        clear HL1 htk hi0
        go_wp2_with fail
        refine (hT.out _ _ _ H3.out (by have := HLen.out; have := HL2.out; simp [cat, ahd_len]; omega)).mono ?_
        rintro e W5 ⟨rfl, hw⟩
        have H5 : Hid (Wr b (l ++ (ahd d ++ cat [[99, 97, 108, 108, 32], x, [40]]) ++ byts (layA (es.take (i + 1)))) d w W2 W5) := by
          show Wr _ _ _ _ _ _
          rw [htk2.out]
          have := HA3.out.trans hw
          simpa [cat] using this
        clear hw s3 e0 e1 e2 e3 e4 e5 e6
        go_wp2_with fail
        exact ⟨⟨i + 1, by omega, by go_num, H5⟩, by simp [intOf]; omega⟩
    · obtain rfl : i = n := by omega
      have hlt' : ¬ (i : Int) < i := by omega
      have hb2 : Hid (Wr b (l ++ (ahd d ++ cat [[99, 97, 108, 108, 32], x, [40]]) ++ byts (layA es)) d w W2 wr) := by have := hb.out; rwa [hall.out] at this
      clear hb
      go_wp2_with fail
      refine (priEnd hb2.out [41, 59] (s := ⟨#[41, 59]⟩) rfl (by have := HLen.out; simp [cat, ahd_len]; omega)).mono ?_
      rintro e W6 ⟨rfl, hw⟩
      rw [he.out] at hw
      have HF := Lib.hid ((HA.out.trans H2.out).trans hw)
      clear hw hb2
      go_wp2_with fail
      go_end0
      exact ⟨rfl, HF.out⟩
end

section
open Go.RowKit

/-- What is asked of stmts for a row of statements. -/
def PBl (ls : List SV) : Prop := ∀ (b : Nat) (l : List UInt8) (d : Nat) (w A W : World) (A1 : Option Addr) (c1 : Nat), LaidP w → SR w A1 ls → Wr b l d w A W → d + ssz ls ≤ 4000000 → l.length + (linesB ls d).length ≤ 140737488355328 →
  Calls Tryd.prog 32 #[.pointer (some ⟨b, 0, none⟩), .slice A1 ls.length c1] W fun r W' => r = .returned (.tuple #[]) ∧ Wr b (l ++ linesB ls d) d w A W'

set_option maxRecDepth 100000 in
set_option maxHeartbeats 4000000 in
theorem priBlock (ls : List SV) (hT : PBl ls) (b : Nat) (l : List UInt8) (d : Nat) (w A W : World) (A1 : Option Addr) (c1 : Nat) (hL : LaidP w) (hx : SR w A1 ls) (h0 : Wr b l d w A W) (hd : d + 1 + ssz ls ≤ 4000000) (hlen : l.length + (linesB ls (d + 1)).length ≤ 140737488355328) :
    Calls Tryd.prog 23 #[.pointer (some ⟨b, 0, none⟩), .slice A1 ls.length c1] W fun r W' => r = .returned (.tuple #[]) ∧ Wr b (l ++ linesB ls (d + 1)) d w A W' := by
  obtain ⟨dd, hdd⟩ : ∃ z : Int, z = d := ⟨_, rfl⟩
  obtain ⟨z, hz⟩ : ∃ z : Int, z = ((d + 1 : Nat) : Int) := ⟨_, rfl⟩
  rw [← hdd] at h0 ⊢
  have hw1 : IntKind.i64.wrap (dd + 1) = z := by rw [wrap_small _ (by omega) (by omega)]; omega
  have hw2 : IntKind.i64.wrap (z - 1) = dd := by rw [wrap_small _ (by omega) (by omega)]; omega
  have H1 := Lib.hid (h0.setDepth z)
  have q := Lib.hid (fun W' (hr : Wr b l z w A W') => hT b l (d + 1) w A W' A1 c1 hL hx (by rw [← hz]; exact hr) hd hlen)
  rw [← hz] at q
  have s0 := h0.pr.depth.1
  have s1 := h0.pr.depth.2
  generalize l ++ linesB ls (d + 1) = fin at *
  generalize ls.length = n at *
  clear hT hx hdd hz h0 hd hlen
  go_enter Tryd.func23, Tryd.ntmps23
  go_wp2_with fail
  refine (q.out _ H1.out).mono ?_
  rintro e W2 ⟨rfl, hw⟩
  have s2 := hw.pr.depth.1
  have s3 := hw.pr.depth.2
  have H2 := Lib.hid (hw.setDepth dd)
  clear hw s0 s1
  go_wp2_with fail
  go_end0
  exact ⟨rfl, H2.out⟩

set_option maxRecDepth 100000 in
set_option maxHeartbeats 4000000 in
theorem priWhile (e : XV) (ts : List SV) (l' c' : Int) (hX : RX e) (hi : In e) (hr : ∀ s ∈ ts, RS s) (hts : PBl ts) : PSf 52 (.mk 3 [] [e] ts [] l' c') := by
  intro b l d w A W A1 c1 A2 c2 A3 c3 hL hx hy hz h0 hd hlen
  obtain ⟨hA, hb1, hne⟩ := h0.box [.int .i64 3, .string ⟨#[]⟩, .slice A1 1 c1, .slice A2 ts.length c2, .slice A3 0 c3, .int .i64 l', .int .i64 c'] 37 (by decide)
  have s0 := hb1.box.seven
  have HA := Lib.hid hA
  have H1 := Lib.hid hA.here
  have HB := Lib.hid hb1
  rw [lineS_wh e ts l' c' d hX hr] at hlen ⊢
  have hH := Lib.hid (fun (s : ByteArray) hs l A W' (hr : Wr b l d w A W') hl => priHead (.mk 3 [] [e] ts [] l' c') e rfl hX hi [119, 104, 105, 108, 101, 32] s hs b l d w A W' A1 c1 A2 c2 A3 c3 hL hx hr hl)
  have hB := Lib.hid (fun l A W' (hr : Wr b l d w A W') hl => priBlock ts hts b l d w A W' A2 c2 hL hy hr (by simp only [ssz1] at hd; omega) hl)
  obtain ⟨t, ht⟩ : ∃ t, t = textX e := ⟨_, rfl⟩
  obtain ⟨tb, htb⟩ : ∃ t, t = linesB ts (d + 1) := ⟨_, rfl⟩
  rw [← ht, ← htb] at hlen ⊢
  rw [← ht] at hH
  rw [← htb] at hB
  have HLen : Hid (l.length + (2 * d + (t.length + (tb.length + (2 * d + 11)))) ≤ 140737488355328) := by show _ ≤ _; simp only [List.length_append, List.length_cons, List.length_nil, ahd_len] at hlen; omega
  obtain ⟨fin, hfin⟩ : ∃ zz, zz = l ++ (ahd d ++ ([119, 104, 105, 108, 101, 32] ++ (t ++ ([32, 123, 10] ++ (tb ++ (ahd d ++ [125, 10])))))) := ⟨_, rfl⟩
  have he : Hid (l ++ (ahd d ++ ([119, 104, 105, 108, 101, 32] ++ (t ++ [32, 123, 10]))) ++ tb ++ (ahd d ++ (cat [[125]] ++ [10])) = fin) := by show _ = _; rw [hfin]; simp [cat]
  rw [← hfin]
  clear hfin
  unfold sval at *
  simp only [SV.k, SV.x, SV.es, SV.ts, SV.us, SV.l, SV.c, List.length_cons, List.length_nil, Nat.zero_add] at *
  clear hL hx hy hz h0 hd hlen hA hb1 hX hi ht htb hr hts
  generalize ts.length = n at *
  go_enter Tryd.func52, Tryd.ntmps52
  go_wp2_with fail
  refine (hH.out ⟨#[119, 104, 105, 108, 101, 32]⟩ rfl _ _ _ H1.out (by have := HLen.out; simp; omega)).mono ?_
  rintro e W2 ⟨rfl, hw⟩
  have H2 := Lib.hid hw
  have s2 := (hw.bk HB.out hne).box.seven
  clear hw s0
  go_wp2_with fail
  refine (hB.out _ _ _ H2.out (by have := HLen.out; simp [ahd_len]; omega)).mono ?_
  rintro e W3 ⟨rfl, hw⟩
  have H3 := Lib.hid hw
  clear hw s2
  go_wp2_with fail
  refine (lineNew (cs := #[.string ⟨#[125]⟩]) (n := 1) H3.out [[125]] rfl (rfl) (by simp) (by have := HLen.out; simp [cat, ahd_len]; omega) (by omega)).mono ?_
  rintro e W4 ⟨rfl, hw⟩
  have H4 := Lib.hid hw
  clear hw 
  have HF := Lib.hid (HA.out.trans H4.out)
  clear H4
  go_wp2_with fail
  go_end0
  exact ⟨rfl, by rw [← he.out]; exact HF.out⟩

set_option maxRecDepth 100000 in
set_option maxHeartbeats 4000000 in
theorem priChoice (e : XV) (ts us : List SV) (l' c' : Int) (hX : RX e) (hi : In e) (hr : ∀ s ∈ ts, RS s) (hr2 : ∀ s ∈ us, RS s) (hts : PBl ts) (hus : PBl us) : PSf 51 (.mk 2 [] [e] ts us l' c') := by
  intro b l d w A W A1 c1 A2 c2 A3 c3 hL hx hy hz h0 hd hlen
  obtain ⟨hA, hb1, hne⟩ := h0.box [.int .i64 2, .string ⟨#[]⟩, .slice A1 1 c1, .slice A2 ts.length c2, .slice A3 us.length c3, .int .i64 l', .int .i64 c'] 37 (by decide)
  have s0 := hb1.box.seven
  have HA := Lib.hid hA
  have H1 := Lib.hid hA.here
  have HB := Lib.hid hb1
  rw [lineS_iff e ts us l' c' d hX hr hr2] at hlen ⊢
  have hH := Lib.hid (fun (s : ByteArray) hs l A W' (hr : Wr b l d w A W') hl => priHead (.mk 2 [] [e] ts us l' c') e rfl hX hi [105, 102, 32] s hs b l d w A W' A1 c1 A2 c2 A3 c3 hL hx hr hl)
  have hB := Lib.hid (fun l A W' (hr : Wr b l d w A W') hl => priBlock ts hts b l d w A W' A2 c2 hL hy hr (by simp only [ssz1] at hd; omega) hl)
  have hB2 := Lib.hid (fun l A W' (hr : Wr b l d w A W') hl => priBlock us hus b l d w A W' A3 c3 hL hz hr (by simp only [ssz1] at hd; omega) hl)
  obtain ⟨t, ht⟩ : ∃ t, t = textX e := ⟨_, rfl⟩
  obtain ⟨tb, htb⟩ : ∃ t, t = linesB ts (d + 1) := ⟨_, rfl⟩
  obtain ⟨tc, htc⟩ : ∃ t, t = linesB us (d + 1) := ⟨_, rfl⟩
  rw [← ht, ← htb, ← htc] at hlen ⊢
  rw [← ht] at hH
  rw [← htb] at hB
  rw [← htc] at hB2
  have hum : us.isEmpty = true ↔ us.length = 0 := by cases us <;> simp
  obtain ⟨n2, hn2⟩ : ∃ n, n = us.length := ⟨_, rfl⟩
  obtain ⟨ue, hue⟩ : ∃ q, q = us.isEmpty := ⟨_, rfl⟩
  rw [← hue] at hlen ⊢
  rw [← hue, ← hn2] at hum
  rw [← hn2] at hB2 HB HA H1 s0
  unfold sval at *
  simp only [SV.k, SV.x, SV.es, SV.ts, SV.us, SV.l, SV.c, List.length_cons, List.length_nil, Nat.zero_add] at *
  rw [← hn2] at hH ⊢
  clear hL hx hy hz h0 hd hA hb1 hX hi ht htb htc hr hr2 hts hus hue hn2
  generalize ts.length = n at *
  by_cases h02 : n2 = 0
  · have hq := hum.2 h02
    subst hq
    rw [if_pos rfl] at hlen ⊢
    have HLen : Hid (l.length + (2 * d + (t.length + (tb.length + (2 * d + 8)))) ≤ 140737488355328) := by show _ ≤ _; simp only [List.length_append, List.length_cons, List.length_nil, ahd_len] at hlen; omega
    obtain ⟨fin, hfin⟩ : ∃ zz, zz = l ++ (ahd d ++ ([105, 102, 32] ++ (t ++ ([32, 123, 10] ++ (tb ++ (ahd d ++ ([] ++ [125, 10]))))))) := ⟨_, rfl⟩
    have he : Hid (l ++ (ahd d ++ ([105, 102, 32] ++ (t ++ [32, 123, 10]))) ++ tb ++ (ahd d ++ (cat [[125]] ++ [10])) = fin) := by show _ = _; rw [hfin]; simp [cat]
    rw [← hfin]
    clear hfin
    clear hlen hum hB2
    subst h02
    go_enter Tryd.func51, Tryd.ntmps51
    go_wp2_with fail
    refine (hH.out ⟨#[105, 102, 32]⟩ rfl _ _ _ H1.out (by have := HLen.out; simp; omega)).mono ?_
    rintro e W2 ⟨rfl, hw⟩
    have H2 := Lib.hid hw
    have s2 := (hw.bk HB.out hne).box.seven
    clear hw s0
    go_wp2_with fail
    refine (hB.out _ _ _ H2.out (by have := HLen.out; simp [ahd_len]; omega)).mono ?_
    rintro e W3 ⟨rfl, hw⟩
    have H3 := Lib.hid hw
    have s3 := (hw.bk HB.out hne).box.seven
    clear hw s2
    go_wp2_with fail
    refine (lineNew (cs := #[.string ⟨#[125]⟩]) (n := 1) H3.out [[125]] rfl (rfl) (by simp) (by have := HLen.out; simp [cat, ahd_len]; omega) (by omega)).mono ?_
    rintro e W4 ⟨rfl, hw⟩
    have H4 := Lib.hid hw
    clear hw s3
    have HF := Lib.hid (HA.out.trans H4.out)
    clear H4
    go_wp2_with fail
    go_end0
    exact ⟨rfl, by rw [← he.out]; exact HF.out⟩
  · have hq : ue = false := by rw [Bool.eq_false_iff]; exact fun h => h02 (hum.1 h)
    subst hq
    have hgt : (0 : Int) < (n2 : Int) := by omega
    rw [if_neg (by simp)] at hlen ⊢
    have HLen : Hid (l.length + (2 * d + (t.length + (tb.length + (2 * d + (tc.length + (2 * d + 17)))))) ≤ 140737488355328) := by show _ ≤ _; simp only [List.length_append, List.length_cons, List.length_nil, ahd_len] at hlen; omega
    obtain ⟨fin, hfin⟩ : ∃ zz, zz = l ++ (ahd d ++ ([105, 102, 32] ++ (t ++ ([32, 123, 10] ++ (tb ++ (ahd d ++ ([125, 32, 101, 108, 115, 101, 32, 123, 10] ++ (tc ++ ahd d) ++ [125, 10]))))))) := ⟨_, rfl⟩
    have he : Hid (l ++ (ahd d ++ ([105, 102, 32] ++ (t ++ [32, 123, 10]))) ++ tb ++ (ahd d ++ (cat [[125, 32, 101, 108, 115, 101, 32, 123]] ++ [10])) ++ tc ++ (ahd d ++ (cat [[125]] ++ [10])) = fin) := by show _ = _; rw [hfin]; simp [cat]
    rw [← hfin]
    clear hfin
    clear hlen hum h02
    go_enter Tryd.func51, Tryd.ntmps51
    go_wp2_with fail
    refine (hH.out ⟨#[105, 102, 32]⟩ rfl _ _ _ H1.out (by have := HLen.out; simp; omega)).mono ?_
    rintro e W2 ⟨rfl, hw⟩
    have H2 := Lib.hid hw
    have s2 := (hw.bk HB.out hne).box.seven
    clear hw s0
    go_wp2_with fail
    refine (hB.out _ _ _ H2.out (by have := HLen.out; simp [ahd_len]; omega)).mono ?_
    rintro e W3 ⟨rfl, hw⟩
    have H3 := Lib.hid hw
    have s3 := (hw.bk HB.out hne).box.seven
    clear hw s2
    go_wp2_with fail
    refine (lineNew (cs := #[.string ⟨#[125, 32, 101, 108, 115, 101, 32, 123]⟩]) (n := 1) H3.out [[125, 32, 101, 108, 115, 101, 32, 123]] rfl (rfl) (by simp) (by have := HLen.out; simp [cat, ahd_len]; omega) (by omega)).mono ?_
    rintro e W4 ⟨rfl, hw⟩
    have H4 := Lib.hid hw
    have s4 := (hw.bk HB.out hne).box.seven
    clear hw s3
    go_wp2_with fail
    refine (hB2.out _ _ _ H4.out (by have := HLen.out; simp [cat, ahd_len]; omega)).mono ?_
    rintro e W5 ⟨rfl, hw⟩
    have H5 := Lib.hid hw
    clear hw s4
    go_wp2_with fail
    refine (lineNew (cs := #[.string ⟨#[125]⟩]) (n := 1) H5.out [[125]] rfl (rfl) (by simp) (by have := HLen.out; simp [cat, ahd_len]; omega) (by omega)).mono ?_
    rintro e W6 ⟨rfl, hw⟩
    have H6 := Lib.hid hw
    clear hw 
    have HF := Lib.hid (HA.out.trans H6.out)
    clear H6
    go_wp2_with fail
    go_end0
    exact ⟨rfl, by rw [← he.out]; exact HF.out⟩
end
end Go.Proofs.YtejifkeeihkcjaaDoor
