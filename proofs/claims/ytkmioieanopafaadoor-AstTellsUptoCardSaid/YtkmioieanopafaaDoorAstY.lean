/- The docs' copies: Pos, Expr, Exprs. -/
import Derived.Test.YtkmioieanopafaaDoorAstX
namespace Go.Proofs.YtkmioieanopafaaDoor
open Go.RowKit

set_option maxHeartbeats 400000 in
theorem docsPos (l c : Int) (w : World) : Calls Tryd.prog 51 #[.agg #[.int .i64 l, .int .i64 c]] w fun e w' => e = .returned (.agg #[.int .i64 l, .int .i64 c]) ∧ Below w.heap.size w w' := by
  go_enter Tryd.func51, Tryd.ntmps51
  go_wp2_with fail
  refine bodyPost_ret (v := .agg #[.int .i64 l, .int .i64 c]) (by simp [results, Tryd.results51, go_sem]) rfl ?_
  exact ⟨rfl, by first | exact (((Below.refl _ _).alloc (Nat.le_refl _) _).alloc (by simp) _) | exact ((((Below.refl _ _).alloc (Nat.le_refl _) _).alloc (by simp) _).setCell (by simp) _).setCell (by simp) _⟩

theorem info_rexpr : (Tryd.prog.info? 72).map (fun i => (i.zero, i.size, i.bytes)) = some (some (.agg #[.int .i64 0, .int .i64 0, .string ⟨#[]⟩, .int .i64 0, .slice none 0 0, .int .i64 0, .int .i64 0]), 7, 80) := by kernel_rfl
theorem Box.frz7 {W : World} {g : Nat} {v0 v1 v2 v3 v4 v5 v6 : Value} (h : Box W g [v0, v1, v2, v3, v4, v5, v6]) : W.frozen? ⟨g, 0, none⟩ = false ∧ W.frozen? ⟨g, 1, none⟩ = false ∧ W.frozen? ⟨g, 2, none⟩ = false ∧ W.frozen? ⟨g, 3, none⟩ = false ∧ W.frozen? ⟨g, 4, none⟩ = false ∧ W.frozen? ⟨g, 5, none⟩ = false ∧ W.frozen? ⟨g, 6, none⟩ = false := ⟨(h 0 _ rfl).2, (h 1 _ rfl).2, (h 2 _ rfl).2, (h 3 _ rfl).2, (h 4 _ rfl).2, (h 5 _ rfl).2, (h 6 _ rfl).2⟩
theorem Box.far7 {W : World} {g b : Nat} {vs : List Value} (h : Box W g vs) (hp : b ≠ g) (v0 v1 v2 v3 v4 v5 v6 : Value) : Box (((((((W.setCell ⟨b, 0, none⟩ v0).setCell ⟨b, 1, none⟩ v1).setCell ⟨b, 2, none⟩ v2).setCell ⟨b, 3, none⟩ v3).setCell ⟨b, 4, none⟩ v4).setCell ⟨b, 5, none⟩ v5).setCell ⟨b, 6, none⟩ v6) g vs :=
  ((((((h.far hp _).far hp _).far hp _).far hp _).far hp _).far hp _).far hp _
theorem frB_set7 (W : World) {B b : Nat} (v0 v1 v2 v3 v4 v5 v6 : Value) (h : b < B) : Sub (only W (frB B)) (only (((((((W.setCell ⟨b, 0, none⟩ v0).setCell ⟨b, 1, none⟩ v1).setCell ⟨b, 2, none⟩ v2).setCell ⟨b, 3, none⟩ v3).setCell ⟨b, 4, none⟩ v4).setCell ⟨b, 5, none⟩ v5).setCell ⟨b, 6, none⟩ v6) (frB B)) :=
  ((((((frB_set W v0 h).trans (frB_set _ v1 h)).trans (frB_set _ v2 h)).trans (frB_set _ v3 h)).trans (frB_set _ v4 h)).trans (frB_set _ v5 h)).trans (frB_set _ v6 h)
theorem below_set1 {w W : World} {B b o : Nat} {v : Value} (hb : Below B w W) (h : B ≤ b) : Below B w (W.setCell ⟨b, o, none⟩ v) := hb.setCell h v
theorem below_set7 {w W : World} {B b : Nat} (hb : Below B w W) (v0 v1 v2 v3 v4 v5 v6 : Value) (h : B ≤ b) : Below B w (((((((W.setCell ⟨b, 0, none⟩ v0).setCell ⟨b, 1, none⟩ v1).setCell ⟨b, 2, none⟩ v2).setCell ⟨b, 3, none⟩ v3).setCell ⟨b, 4, none⟩ v4).setCell ⟨b, 5, none⟩ v5).setCell ⟨b, 6, none⟩ v6) :=
  below_set1 (below_set1 (below_set1 (below_set1 (below_set1 (below_set1 (below_set1 hb h) h) h) h) h) h) h

/-- What a copy of a row answers: one of the same trees, in memory of its own. -/
def CopyX (es : List XV) (w : World) (r : Ending) (w' : World) : Prop := ∃ A' c', r = .returned (.slice A' es.length c') ∧ XR (only w' (frB w.heap.size)) A' es ∧ Below w.heap.size w w'

set_option maxHeartbeats 4000000 in
theorem docsExprOf (k n : Int) (x : List UInt8) (o : Int) (gs : List XV) (l cc : Int) (A : Option Addr) (c : Nat) (w : World) (hx : XR w A gs)
    (hq : ∀ W, XR W A gs → Calls Tryd.prog 83 #[.slice A gs.length c] W (CopyX gs W)) :
    Calls Tryd.prog 43 #[.agg #[.int .i64 k, .int .i64 n, .string ⟨x.toArray⟩, .int .i64 o, .slice A gs.length c, .int .i64 l, .int .i64 cc]] w fun r w' => ∃ A' c', r = .returned (.agg #[.int .i64 k, .int .i64 n, .string ⟨x.toArray⟩, .int .i64 o, .slice A' gs.length c', .int .i64 l, .int .i64 cc]) ∧ XR (only w' (frB w.heap.size)) A' gs ∧ Below w.heap.size w w' := by
  obtain ⟨m, hm⟩ : ∃ m, m = gs.length := ⟨_, rfl⟩
  unfold CopyX at hq
  rw [← hm] at hq ⊢
  clear hm
  have h0 := bnew5 w (.cells #[.int .i64 k, .int .i64 n, .string ⟨x.toArray⟩, .int .i64 o, .slice A m c, .int .i64 l, .int .i64 cc] 66)
  have h1 := bnew5 (w.alloc (.cells #[.int .i64 k, .int .i64 n, .string ⟨x.toArray⟩, .int .i64 o, .slice A m c, .int .i64 l, .int .i64 cc] 66)) (.cells #[.int .i64 0, .int .i64 0, .string ⟨#[]⟩, .int .i64 0, .slice none 0 0, .int .i64 0, .int .i64 0] 72)
  have ha : Box ((w.alloc (.cells #[.int .i64 k, .int .i64 n, .string ⟨x.toArray⟩, .int .i64 o, .slice A m c, .int .i64 l, .int .i64 cc] 66)).alloc (.cells #[.int .i64 0, .int .i64 0, .string ⟨#[]⟩, .int .i64 0, .slice none 0 0, .int .i64 0, .int .i64 0] 72)) w.heap.size [.int .i64 k, .int .i64 n, .string ⟨x.toArray⟩, .int .i64 o, .slice A m c, .int .i64 l, .int .i64 cc] := (Box.new w _ _).step h1
  have hb : Box ((w.alloc (.cells #[.int .i64 k, .int .i64 n, .string ⟨x.toArray⟩, .int .i64 o, .slice A m c, .int .i64 l, .int .i64 cc] 66)).alloc (.cells #[.int .i64 0, .int .i64 0, .string ⟨#[]⟩, .int .i64 0, .slice none 0 0, .int .i64 0, .int .i64 0] 72)) (w.heap.size + 1) [.int .i64 0, .int .i64 0, .string ⟨#[]⟩, .int .i64 0, .slice none 0 0, .int .i64 0, .int .i64 0] := by
    have := Box.new (w.alloc (.cells #[.int .i64 k, .int .i64 n, .string ⟨x.toArray⟩, .int .i64 o, .slice A m c, .int .i64 l, .int .i64 cc] 66)) [.int .i64 0, .int .i64 0, .string ⟨#[]⟩, .int .i64 0, .slice none 0 0, .int .i64 0, .int .i64 0] 72
    rw [show (w.alloc (.cells #[.int .i64 k, .int .i64 n, .string ⟨x.toArray⟩, .int .i64 o, .slice A m c, .int .i64 l, .int .i64 cc] 66)).heap.size = w.heap.size + 1 by simp] at this
    exact this
  have hbw := bth5 h0 h1
  have hsz : ((w.alloc (.cells #[.int .i64 k, .int .i64 n, .string ⟨x.toArray⟩, .int .i64 o, .slice A m c, .int .i64 l, .int .i64 cc] 66)).alloc (.cells #[.int .i64 0, .int .i64 0, .string ⟨#[]⟩, .int .i64 0, .slice none 0 0, .int .i64 0, .int .i64 0] 72)).heap.size = w.heap.size + 1 + 1 := by simp
  clear h0 h1
  go_enter Tryd.func43, Tryd.ntmps43
  go_wp2_with fail
  generalize (w.alloc (.cells #[.int .i64 k, .int .i64 n, .string ⟨x.toArray⟩, .int .i64 o, .slice A m c, .int .i64 l, .int .i64 cc] 66)).alloc (.cells #[.int .i64 0, .int .i64 0, .string ⟨#[]⟩, .int .i64 0, .slice none 0 0, .int .i64 0, .int .i64 0] 72) = W at *
  have q1 := hq W.drew ((hx.step hbw).step (Below.refl _ _).drew)
  have q2 := fun W => docsPos l cc W
  have s0 := ha.drew.seven
  have hbd := hbw.drew
  have hsd : Hid (W.drew.heap.size = w.heap.size + 1 + 1) := by show _ = _; simpa using hsz
  have ha0 := Lib.hid ha.drew
  have hb0 := Lib.hid hb.drew
  clear ha hb hbw hq hsz hx
  go_region_held3 (fun w' => w'.cell? ⟨w.heap.size, 0, none⟩ = some (.int .i64 k) ∧ w'.cell? ⟨w.heap.size, 1, none⟩ = some (.int .i64 n) ∧ w'.cell? ⟨w.heap.size, 2, none⟩ = some (.string ⟨x.toArray⟩) ∧ w'.cell? ⟨w.heap.size, 3, none⟩ = some (.int .i64 o) ∧ w'.cell? ⟨w.heap.size, 4, none⟩ = some (.slice A m c) ∧ w'.cell? ⟨w.heap.size, 5, none⟩ = some (.int .i64 l) ∧ w'.cell? ⟨w.heap.size, 6, none⟩ = some (.int .i64 cc)) (first | with_reducible exact s0 | with_reducible exact s1 | with_reducible exact s2 | with_reducible exact s3)
    (first
      | (go_at_call 83
         with_reducible refine q1.mono ?_
         rintro e w1 ⟨A', c', rfl, hx1, hb1⟩
         have ha1 := Lib.hid (ha0.out.step hb1)
         have hb1r := Lib.hid (hb0.out.step hb1)
         have s1 := ha1.out.seven
         have hbw1 := bth5 hbd hb1
         have hx1 := Lib.hid (hx1.sub (frB_mono (Nat.le_of_eq hsd.out.symm))))
      | (go_at_call 51
         with_reducible refine (q2 _).mono ?_
         rintro e w2 ⟨rfl, hb2⟩
         have ha2 := Lib.hid (ha1.out.step hb2)
         have hr2 := hb1r.out.step hb2
         have s2 := ha2.out.seven
         have s3 := (ha2.out.far7 (b := w.heap.size + 1) (by omega) (.int .i64 k) (.int .i64 n) (.string ⟨x.toArray⟩) (.int .i64 o) (.slice A' m c') (.int .i64 l) (.int .i64 cc)).seven
         have c0 := hr2.seven
         have f0 := hr2.frz7
         have hx2 := Lib.hid (hx1.out.sub (fr_below _ hb2))
         have hbw2 := Lib.hid (bth5 hbw1 hb2)))
  all_goals
    (obtain ⟨c0, c1, c2, c3, c4, c5, c6⟩ := c0
     obtain ⟨f0, f1, f2, f3, f4, f5, f6⟩ := f0
     go_wp2_with fail
     refine bodyPost_ret (v := .agg #[.int .i64 k, .int .i64 n, .string ⟨x.toArray⟩, .int .i64 o, .slice A' m c', .int .i64 l, .int .i64 cc]) (by simp [results, Tryd.results43, go_sem, c0, c1, c2, c3, c4, c5, c6]) rfl ?_
     exact ⟨A', c', rfl, hx2.out.sub ((frB_set7 w2 _ _ _ _ _ _ _ (by omega)).trans (frB_mono (by omega))), below_set7 hbw2.out _ _ _ _ _ _ _ (by omega)⟩)
theorem pushX {w0 W W' : World} {v : Value} {es : List XV} (h : GrowG kdX 72 w0 v es W) (hb : Below W.heap.size W W') {e : XV} {cs : List Value} (hc : XC (only W' (frB W.heap.size)) e cs) (hlen : es.length ≤ 1000000000) :
    ∃ g cap w3, (Builtin.append_ #[69, 69] 69 #[v, .slice (some ⟨W'.heap.size, 0, none⟩) 1 1]).run Tryd.prog (W'.alloc (.cells cs.toArray 72)) = .ok (.slice (some ⟨g, 0, none⟩) (es.length + 1) cap) w3 ∧ GrowG kdX 72 w0 (.slice (some ⟨g, 0, none⟩) (es.length + 1) cap) (es ++ [e]) w3 := by
  obtain ⟨i0, hi, hz0, hz1, hz2⟩ := info_parts info_rexpr
  obtain ⟨g, cap, w3, h1, h2, -⟩ := h.push (P := Tryd.prog) (S := 69) (ty := 69) hb hc Tryd.underlying69 hi hz0 hz1 hz2 rfl (by omega) hlen
  exact ⟨g, cap, w3, h1, h2⟩

set_option maxHeartbeats 4000000 in
theorem docsExprs (N : Nat) : ∀ (es : List XV), xsz es ≤ N → N ≤ 4000000 → ∀ (A : Option Addr) (c : Nat) (w : World), XR w A es → Calls Tryd.prog 83 #[.slice A es.length c] w (CopyX es w) := by
  induction N using Nat.strongRecOn with
  | ind N ih =>
  intro es hN hNN A c w hx
  have hlen := xsz_len es
  obtain ⟨n, hn⟩ : ∃ n, n = es.length := ⟨_, rfl⟩
  have hx2 := Lib.hid hx
  unfold CopyX
  have hfin : Hid (∀ v W, GrowG kdX 72 w v (es.take n) W → ∃ A' c', v = .slice A' n c' ∧ XR (only W (frB w.heap.size)) A' es ∧ Below w.heap.size w W) := fun v W h => by
    rw [hn, List.take_length] at h
    obtain ⟨A', c', h1, h2⟩ := h.row
    exact ⟨A', c', by rw [hn]; exact h1, h2, h.bel⟩
  rw [← hn]
  rw [← hn] at hlen
  have HN := Lib.hid hn
  clear hn hx
  go_enter Tryd.func83, Tryd.ntmps83
  go_wp2_with fail
  go_loopw [3, 4] (fun v u W => ∃ i : Nat, i ≤ n ∧ u = .int .i64 i ∧ Hid (GrowG kdX 72 w v (es.take i) W)) (fun _ u _ => n - (intOf u).toNat)
  case atStart => exact ⟨0, by omega, rfl, GrowG.start kdX _ _⟩
  case round =>
    obtain ⟨i, hi, rfl, hg⟩ := hrel
    by_cases hlt : i < n
    · have hlt' : (i : Int) < n := by omega
      have hgb := Lib.hid hg.out.bel
      obtain ⟨ad, e, rfl, he, A', c', e0, e1, e2, e3, e4, e5, e6, hx'⟩ := (hx2.out.step hgb.out).el (i := i) (by rw [← HN.out]; exact hlt)
      have hsz := xsz_get he
      have hHE : Hid (es.take (i + 1) = es.take i ++ [e]) := by show _ = _; rw [List.take_add_one, he]; rfl
      cases e with
      | mk k nn x o gs l cc =>
      rw [xsz1_eq] at hsz
      simp only [XV.k, XV.n, XV.x, XV.o, XV.gs, XV.l, XV.c] at *
      have q := docsExprOf k nn x o gs l cc A' c' wr hx' (fun W hW => ih (xsz gs) (by omega) gs (Nat.le_refl _) (by omega) A' c' W hW)
      have hli : Hid ((es.take i).length = i) := by show _ = _; rw [List.length_take, ← HN.out]; omega
      have HC : Hid (∀ W A c, XR W A gs → XC W (.mk k nn x o gs l cc) [.int .i64 k, .int .i64 nn, .string ⟨x.toArray⟩, .int .i64 o, .slice A gs.length c, .int .i64 l, .int .i64 cc]) := fun W A c h => by unfold XC; exact ⟨A, c, rfl, h⟩
      clear he hx' hsz
      have hm63 : gs.length ≤ gs.length := Nat.le_refl _
      generalize gs.length = m at *
      generalize (⟨x.toArray⟩ : ByteArray) = xs at *
      go_wp2_with fail
      refine q.mono ?_
      rintro e1 w1 ⟨A2, c2, rfl, hx2', hb2⟩
      obtain ⟨g, cap, w3, hrun, hg3⟩ := pushX hg.out hb2 (HC.out _ _ c2 hx2') (by rw [hli.out]; omega)
      rw [hli.out] at hrun hg3
      have hg3 := Lib.hid hg3
      clear hx2' hg q HC e0 e1 e2 e3 e4 e5 e6
      go_wp2_with (first
        | (at_builtin
           refine wpList_append_run rfl (.tmp 11) (.tmp 17) _ rfl _ _ _ w3 rfl rfl hrun ?_
           clear hrun))
      exact ⟨⟨i + 1, by omega, by go_num, by rw [hHE.out]; exact hg3.out⟩, by simp [intOf]; omega⟩
    · obtain rfl : i = n := by omega
      have hlt' : ¬ (i : Int) < i := by omega
      obtain ⟨A', c', rfl, h2, h3⟩ := hfin.out _ _ hg.out
      have h23 := Lib.hid (And.intro h2 h3)
      clear h2 h3 hg
      go_wp2_with fail
      go_ret
      exact ⟨A', ⟨c', rfl⟩, h23.out.1, h23.out.2⟩

end Go.Proofs.YtkmioieanopafaaDoor
