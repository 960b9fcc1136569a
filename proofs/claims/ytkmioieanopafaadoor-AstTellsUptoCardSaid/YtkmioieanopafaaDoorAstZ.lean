/- The docs' copies: Stmts. -/
import Derived.Test.YtkmioieanopafaaDoorAstY
namespace Go.Proofs.YtkmioieanopafaaDoor
open Go.RowKit

theorem Box.grown6 {W W' : World} {row : Option Nat} {g : Nat} {vs : List Value} (h : Box W g vs) (hg : W.grownBy W' row) (hne : row ≠ some g) : Box W' g vs := fun i v hv => by
  obtain ⟨h1, h2⟩ := h i v hv
  have hlt := World.block_lt_of_cell? W ⟨g, i, none⟩ h1
  have hb := hg.block g hlt (fun e => hne e.symm)
  refine ⟨(World.cell?_of_block hb).trans h1, ?_⟩
  rw [← h2]
  unfold World.frozen?
  rw [hb]
theorem info_rstmt : (Tryd.prog.info? 118).map (fun i => (i.zero, i.size, i.bytes)) = some (some (.agg #[.int .i64 0, .string ⟨#[]⟩, .slice none 0 0, .slice none 0 0, .slice none 0 0, .int .i64 0, .int .i64 0]), 7, 112) := by kernel_rfl
theorem GrowG.other {α : Type} {K : Kd α} {T : TypeId} {w0 W : World} {v : Value} {es : List α} (h : GrowG K T w0 v es W) {b : Nat} (hb : W.heap.size ≤ b) : v.ownBlock ≠ some b := fun e => by
  obtain ⟨vs, h1, -, -⟩ := h
  have := (own_lt h1 b e).2
  omega
theorem pushS {w0 W W' : World} {v : Value} {es : List SV} (h : GrowG kdS 118 w0 v es W) (hb : Below W.heap.size W W') {e : SV} {cs : List Value} (hc : SC (only W' (frB W.heap.size)) e cs) (hlen : es.length ≤ 1000000000) :
    ∃ g cap w3, (Builtin.append_ #[44, 44] 44 #[v, .slice (some ⟨W'.heap.size, 0, none⟩) 1 1]).run Tryd.prog (W'.alloc (.cells cs.toArray 118)) = .ok (.slice (some ⟨g, 0, none⟩) (es.length + 1) cap) w3 ∧ GrowG kdS 118 w0 (.slice (some ⟨g, 0, none⟩) (es.length + 1) cap) (es ++ [e]) w3
      ∧ (∀ b vs, W.heap.size ≤ b → Box W' b vs → Box w3 b vs) := by
  obtain ⟨i0, hi, hz0, hz1, hz2⟩ := info_parts info_rstmt
  obtain ⟨g, cap, w3, h1, h2, h3⟩ := h.push (P := Tryd.prog) (S := 44) (ty := 44) hb hc Tryd.underlying44 hi hz0 hz1 hz2 rfl (by omega) hlen
  exact ⟨g, cap, w3, h1, h2, fun b vs hbl hbx => (hbx.step (bnew5 _ _)).grown6 h3 (h.other hbl)⟩

/-- What a copy of statements answers. -/
def CopyS (es : List SV) (w : World) (r : Ending) (w' : World) : Prop := ∃ A' c', r = .returned (.slice A' es.length c') ∧ SR (only w' (frB w.heap.size)) A' es ∧ Below w.heap.size w w'

set_option maxRecDepth 100000 in
set_option maxHeartbeats 8000000 in
theorem docsStmts (N : Nat) : ∀ (es : List SV), ssz es ≤ N → N ≤ 4000000 → ∀ (A : Option Addr) (c : Nat) (w : World), SR w A es → Calls Tryd.prog 50 #[.slice A es.length c] w (CopyS es w) := by
  induction N using Nat.strongRecOn with
  | ind N ih =>
  intro es hN hNN A c w hx
  have hlen := ssz_len es
  obtain ⟨n, hn⟩ : ∃ n, n = es.length := ⟨_, rfl⟩
  have hx2 := Lib.hid hx
  unfold CopyS
  have hfin : Hid (∀ v W, GrowG kdS 118 w v (es.take n) W → ∃ A' c', v = .slice A' n c' ∧ SR (only W (frB w.heap.size)) A' es ∧ Below w.heap.size w W) := fun v W h => by
    rw [hn, List.take_length] at h
    obtain ⟨A', c', h1, h2⟩ := h.row
    exact ⟨A', c', by rw [hn]; exact h1, h2, h.bel⟩
  rw [← hn]
  rw [← hn] at hlen
  have HN := Lib.hid hn
  clear hn hx
  go_enter Tryd.func50, Tryd.ntmps50
  go_wp2_with fail
  go_loopw [3, 4] (fun v u W => ∃ i : Nat, i ≤ n ∧ u = .int .i64 i ∧ Hid (GrowG kdS 118 w v (es.take i) W)) (fun _ u _ => n - (intOf u).toNat)
  case atStart => exact ⟨0, by omega, rfl, GrowG.start kdS _ _⟩
  case round =>
    obtain ⟨i, hi, rfl, hg⟩ := hrel
    by_cases hlt : i < n
    · have hlt' : (i : Int) < n := by omega
      have hgb := Lib.hid hg.out.bel
      obtain ⟨ad, e, rfl, he, A1, c1, A2, c2, A3, c3, e0, e1, e2, e3, e4, e5, e6, hx', ht', hu'⟩ := (hx2.out.step hgb.out).el (i := i) (by rw [← HN.out]; exact hlt)
      have hsz := ssz_get he
      have hHE : Hid (es.take (i + 1) = es.take i ++ [e]) := by show _ = _; rw [List.take_add_one, he]; rfl
      cases e with
      | mk k x gs ts us l cc =>
      rw [ssz1_eq] at hsz
      simp only [SV.k, SV.x, SV.es, SV.ts, SV.us, SV.l, SV.c] at *
      have hV := bnew5 wr (.cells #[.int .i64 k, .string ⟨x.toArray⟩, .slice A1 gs.length c1, .slice A2 ts.length c2, .slice A3 us.length c3, .int .i64 l, .int .i64 cc] 62)
      have hVs : (wr.alloc (.cells #[.int .i64 k, .string ⟨x.toArray⟩, .slice A1 gs.length c1, .slice A2 ts.length c2, .slice A3 us.length c3, .int .i64 l, .int .i64 cc] 62)).drew.heap.size = wr.heap.size + 1 := by simp
      have ha := Box.new wr [.int .i64 k, .string ⟨x.toArray⟩, .slice A1 gs.length c1, .slice A2 ts.length c2, .slice A3 us.length c3, .int .i64 l, .int .i64 cc] 62
      have q1 := docsExprs (xsz gs) gs (Nat.le_refl _) (by omega) A1 c1 (wr.alloc (.cells #[.int .i64 k, .string ⟨x.toArray⟩, .slice A1 gs.length c1, .slice A2 ts.length c2, .slice A3 us.length c3, .int .i64 l, .int .i64 cc] 62)).drew (hx'.step hV.drew)
      have q2 := Lib.hid (fun W h => ih (ssz ts) (by omega) ts (Nat.le_refl _) (by omega) A2 c2 W h)
      have q3 := Lib.hid (fun W h => ih (ssz us) (by omega) us (Nat.le_refl _) (by omega) A3 c3 W h)
      have q4 := fun W => docsPos l cc W
      have hVd := hV.drew
      have ht2 := Lib.hid (ht'.step hVd)
      have hu2 := Lib.hid (hu'.step hVd)
      have hli : Hid ((es.take i).length = i) := by show _ = _; rw [List.length_take, ← HN.out]; omega
      have HC : Hid (∀ W B1 d1 B2 d2 B3 d3, XR W B1 gs → SR W B2 ts → SR W B3 us → SC W (.mk k x gs ts us l cc) [.int .i64 k, .string ⟨x.toArray⟩, .slice B1 gs.length d1, .slice B2 ts.length d2, .slice B3 us.length d3, .int .i64 l, .int .i64 cc]) := fun W B1 d1 B2 d2 B3 d3 h1 h2 h3 => by unfold SC; exact ⟨B1, d1, B2, d2, B3, d3, rfl, h1, h2, h3⟩
      clear he hx' ht' hu' hsz hV
      unfold CopyX at q1
      unfold CopyS at q2 q3
      generalize gs.length = m1 at *
      generalize ts.length = m2 at *
      generalize us.length = m3 at *
      generalize (⟨x.toArray⟩ : ByteArray) = xs at *
      go_wp2_with fail
      generalize wr.alloc (.cells #[.int .i64 k, .string xs, .slice A1 m1 c1, .slice A2 m2 c2, .slice A3 m3 c3, .int .i64 l, .int .i64 cc] 62) = V at *
      have s0 := ha.drew.seven
      have ha0 := Lib.hid ha.drew
      have hVs := Lib.hid hVs
      have hVd := Lib.hid hVd
      clear ha e0 e1 e2 e3 e4 e5 e6
      go_region_held3 (fun w' => w'.cell? ⟨wr.heap.size, 0, none⟩ = some (.int .i64 k) ∧ w'.cell? ⟨wr.heap.size, 1, none⟩ = some (.string xs) ∧ w'.cell? ⟨wr.heap.size, 2, none⟩ = some (.slice A1 m1 c1) ∧ w'.cell? ⟨wr.heap.size, 3, none⟩ = some (.slice A2 m2 c2) ∧ w'.cell? ⟨wr.heap.size, 4, none⟩ = some (.slice A3 m3 c3) ∧ w'.cell? ⟨wr.heap.size, 5, none⟩ = some (.int .i64 l) ∧ w'.cell? ⟨wr.heap.size, 6, none⟩ = some (.int .i64 cc)) (first | with_reducible exact s0 | with_reducible exact s1 | with_reducible exact s2 | with_reducible exact s3 | with_reducible exact s4 | with_reducible exact s5 | with_reducible exact s6)
        (first
          | (go_at_call 83
             with_reducible refine q1.mono ?_
             rintro e w1 ⟨B1, d1, rfl, hx1, hb1⟩
             have ha1 := Lib.hid (ha0.out.step hb1)
             have s1 := ha1.out.seven
             have hv1 := Lib.hid (hVd.out.trans (hb1.mono hVd.out.size))
             have hx1 := Lib.hid (hx1.sub (frB_mono (by rw [hVs.out]; omega : wr.heap.size ≤ _)))
             have hu3 := Lib.hid (hu2.out.step hb1)
             have q2' := q2.out w1 (ht2.out.step hb1))
          | (go_at_call 50
             with_reducible refine q2'.mono ?_
             rintro e w2 ⟨B2, d2, rfl, ht1, hb2⟩
             have ha2 := Lib.hid (ha1.out.step hb2)
             have s2 := ha2.out.seven
             have hs1 := hv1.out.size
             have hv2 := Lib.hid (hv1.out.trans (hb2.mono hv1.out.size))
             have hx1 := Lib.hid (hx1.out.sub (fr_below _ hb2))
             have ht1 := Lib.hid (ht1.sub (frB_mono hs1))
             have q3' := q3.out w2 (hu3.out.step hb2))
          | (go_at_call 50
             with_reducible refine q3'.mono ?_
             rintro e w3 ⟨B3, d3, rfl, hu1, hb3⟩
             have ha3 := Lib.hid (ha2.out.step hb3)
             have s3 := ha3.out.seven
             have hs2 := hv2.out.size
             have hv3 := Lib.hid (hv2.out.trans (hb3.mono hv2.out.size))
             have hx1 := Lib.hid (hx1.out.sub (fr_below _ hb3))
             have ht1 := Lib.hid (ht1.out.sub (fr_below _ hb3))
             have hu1 := Lib.hid (hu1.sub (frB_mono hs2)))
          | (go_at_call 51
             with_reducible refine (q4 _).mono ?_
             rintro e w4 ⟨rfl, hb4⟩
             have ha4 := Lib.hid (ha3.out.step hb4)
             have s4 := ha4.out.seven
             have hv4 := Lib.hid (hv3.out.trans (hb4.mono hv3.out.size))
             obtain ⟨g, cap, w5, hrun, hg5, hbx5⟩ := pushS hg.out hv4.out (HC.out _ B1 d1 B2 d2 B3 d3 (hx1.out.sub (fr_below _ hb4)) (ht1.out.sub (fr_below _ hb4)) (hu1.out.sub (fr_below _ hb4))) (by rw [hli.out]; omega)
             rw [hli.out] at hrun hg5
             have hg5 := Lib.hid hg5
             have s5 := (ha4.out.step (bnew5 w4 (.cells #[.int .i64 k, .string xs, .slice B1 m1 d1, .slice B2 m2 d2, .slice B3 m3 d3, .int .i64 l, .int .i64 cc] 118))).seven
             have s6 := (hbx5 _ _ (Nat.le_refl _) ha4.out).seven)
          | (refine step_append_run rfl (.tmp 16) (.tmp 34) _ (by rfl) _ _ _ w5 (by rfl) (by rfl) hrun ?_))
      all_goals
        (go_wp2_with fail
         exact ⟨⟨i + 1, by omega, by go_num, by rw [hHE.out]; exact hg5.out⟩, by simp [intOf]; omega⟩)
    · obtain rfl : i = n := by omega
      have hlt' : ¬ (i : Int) < i := by omega
      obtain ⟨A', c', rfl, h2, h3⟩ := hfin.out _ _ hg.out
      have h23 := Lib.hid (And.intro h2 h3)
      clear h2 h3 hg
      go_wp2_with fail
      go_ret
      exact ⟨A', ⟨c', rfl⟩, h23.out.1, h23.out.2⟩
end Go.Proofs.YtkmioieanopafaaDoor
