/- The docs' copies: what the walk of Program keeps; rows of names copied. The docs' copies: Program. The docs' count of trees: parts, many: that they answer. The docs' FewProgram: that it answers. -/
import Derived.Test.YtkmioieanopafaaDoorGAstX
import Derived.Test.YtkmioieanopafaaDoorAstJ
import Derived.Test.YtkmioieanopafaaDoorHeldC
namespace Go.Proofs.YtkmioieanopafaaDoor
section
open Go.RowKit

/-- A row of names, copied by an append onto nothing. -/
theorem copyNames (W : World) (P : Option Addr) (r : List (List UInt8)) (cp : Nat) (h : RowS W P r.length r) (hlen : r.length ≤ 4000000) :
    ∃ A' c' w', (Builtin.append_ #[28, 28] 28 #[.slice none 0 0, .slice P r.length cp]).run Tryd.prog W = .ok (.slice A' r.length c') w' ∧ RowS (only w' (frB W.heap.size)) A' r.length r ∧ Below W.heap.size W w' ∧ W.grownBy w' none := by
  obtain ⟨i0, hi, hz0, hz1, hz2⟩ := info_parts info_str
  obtain ⟨v', w', hrun, hown, hgrow, _⟩ := run_append_any (P := Tryd.prog) W W.heap.size 28 28 9 i0 (.string ByteArray.empty) 1 16 Tryd.underlying28 hi hz0 hz1 hz2 rfl (by decide) (.slice none 0 0) 0 [] (World.ownsRow_nil _ _ _ _) W.heap.size P r.length cp (strs r) h (strs_oneCell r) (by unfold maxLen; omega) (by omega) (Nat.le_refl _)
  simp only [List.nil_append, Nat.zero_add] at hown
  have hb : Below W.heap.size W w' := (Below.refl _ _).grown hgrow (Nat.le_refl _) (by simp [Value.ownBlock])
  rcases hown.2 with ⟨rfl, h0⟩ | ⟨g, cap, cur, rfl, hg, hgb, hl, hc, hm, hx⟩
  · have hn : r = [] := List.eq_nil_of_length_eq_zero h0
    subst hn
    exact ⟨none, 0, w', hrun, ⟨rfl, fun h => absurd h (by simp)⟩, hb, hgrow⟩
  · refine ⟨some ⟨g, 0, none⟩, cap, w', hrun, ⟨by simp [strs], fun hn => ⟨_, rfl, ?_, fun j u hu => ?_⟩⟩, hb, hgrow⟩
    · rw [only_size]
      exact (Array.getElem?_eq_some_iff.1 hgb).1
    · rw [← hx] at hu
      rw [add_at, Nat.zero_add]
      refine only_cell_mk ?_ (by unfold frB; simpa using hg)
      rw [cell_of_row _ _ j _ _ _ hgb]
      rw [List.getElem?_take] at hu
      split at hu
      · simpa using hu
      · cases hu

/-- Blocks from lo on, below hi, but one. -/
def frM (lo hi g : Nat) (i : Nat) : Bool := decide (lo ≤ i ∧ i < hi ∧ i ≠ g)
theorem frM_new (W : World) {k : Nat} (o : Obj) : Sub (only W (frB k)) (only (W.alloc o) (frM k (W.heap.size + 1) W.heap.size)) := Sub.only_of (by simp) fun p v hp hv => by
  have hlt := World.block_lt_of_cell? W p hv
  refine ⟨(bnew5 W o).cell hlt |>.trans hv, ?_⟩
  unfold frB frM at *
  simp at hp ⊢
  omega
theorem frM_of (W : World) {k hi g : Nat} (hh : W.heap.size ≤ hi) (hk : g < k) : Sub (only W (frB k)) (only W (frM k hi g)) := Sub.only_of (Nat.le_refl _) fun p v hp hv => by
  have hlt := World.block_lt_of_cell? W p hv
  refine ⟨hv, ?_⟩
  unfold frB frM at *
  simp at hp ⊢
  omega
theorem frM_lo (W : World) {k k' hi g : Nat} (hk : k' ≤ k) : Sub (only W (frM k hi g)) (only W (frM k' hi g)) := Sub.only_of (Nat.le_refl _) fun p v hp hv => by
  refine ⟨hv, ?_⟩
  unfold frM at *
  simp at hp ⊢
  omega
theorem frM_below {W W' : World} {lo hi g : Nat} (hb : Below W.heap.size W W') : Sub (only W (frM lo hi g)) (only W' (frM lo hi g)) := Sub.only_of hb.size fun _ _ hp hv => ⟨cst5 hb hv, hp⟩
theorem frM_set (W : World) {lo hi g o : Nat} (u : Value) : Sub (only W (frM lo hi g)) (only (W.setCell ⟨g, o, none⟩ u) (frM lo hi g)) := Sub.only_of (by simp [World.setCell]) fun p v hp hv => by
  refine ⟨?_, hp⟩
  rw [World.cell?_setCell_other _ _ _ _ ?_]
  · exact hv
  · rintro rfl
    unfold frM at hp
    simp at hp
theorem frM_setlo (W : World) {lo hi g b o : Nat} (u : Value) (h : b < lo) : Sub (only W (frM lo hi g)) (only (W.setCell ⟨b, o, none⟩ u) (frM lo hi g)) := Sub.only_of (by simp [World.setCell]) fun p v hp hv => by
  refine ⟨?_, hp⟩
  rw [World.cell?_setCell_other _ _ _ _ ?_]
  · exact hv
  · rintro rfl
    unfold frM at hp
    simp at hp
    omega
theorem frM_frB (W : World) {k lo hi g : Nat} (h : k ≤ lo) : Sub (only W (frM lo hi g)) (only W (frB k)) := Sub.only_of (Nat.le_refl _) fun p v hp hv => by
  refine ⟨hv, ?_⟩
  unfold frM frB at *
  simp at hp ⊢
  omega
/-- Blocks from lo on, below hi. -/
def frI (lo hi : Nat) (i : Nat) : Bool := decide (lo ≤ i ∧ i < hi)
theorem frI_of (W : World) (k : Nat) : Sub (only W (frB k)) (only W (frI k W.heap.size)) := Sub.only_of (Nat.le_refl _) fun p v hp hv => by
  have hlt := World.block_lt_of_cell? W p hv
  refine ⟨hv, ?_⟩
  unfold frB frI at *
  simp at hp ⊢
  omega
theorem frI_below {W W' : World} {lo hi : Nat} (hb : Below W.heap.size W W') : Sub (only W (frI lo hi)) (only W' (frI lo hi)) := Sub.only_of hb.size fun _ _ hp hv => ⟨cst5 hb hv, hp⟩
theorem frI_set (W : World) {lo hi b o : Nat} (u : Value) (h : b < lo ∨ hi ≤ b) : Sub (only W (frI lo hi)) (only (W.setCell ⟨b, o, none⟩ u) (frI lo hi)) := Sub.only_of (by simp [World.setCell]) fun p v hp hv => by
  refine ⟨?_, hp⟩
  rw [World.cell?_setCell_other _ _ _ _ ?_]
  · exact hv
  · rintro rfl
    unfold frI at hp
    simp at hp
    omega
theorem frM_grown {W W' : World} {lo hi g : Nat} {ob : Option Nat} (hg : W.grownBy W' ob) (ho : ∀ b, ob = some b → hi ≤ b) : Sub (only W (frM lo hi g)) (only W' (frM lo hi g)) := Sub.only_of hg.size fun p v hp hv => by
  have hlt := World.block_lt_of_cell? W p hv
  refine ⟨(World.cell?_of_block (hg.block p.block hlt (fun e => ?_))).trans hv, hp⟩
  have := ho _ e.symm
  unfold frM at hp
  simp at hp
  omega

theorem info_rdecl : (Tryd.prog.info? 89).map (fun i => (i.zero, i.size, i.bytes)) = some (some (.agg #[.int .i64 0, .string ⟨#[]⟩, .int .i64 0, .int .i64 0, .int .i64 0, .slice none 0 0, .slice none 0 0, .int .i64 0, .int .i64 0]), 9, 112) := by kernel_rfl

/-- What the walk keeps between two declarations. -/
structure PJ (w : World) (A1 : Option Addr) (n c1 : Nat) (A2 : Option Addr) (m c2 : Nat) (B2 : Option Addr) (d2 g3 Bl : Nat) (mn : List SV) (v : Value) (es : List DV) (W : World) : Prop where
  bel : Below w.heap.size w W
  bp : Box W w.heap.size [.slice A1 n c1, .slice A2 m c2]
  br : Box W (w.heap.size + 1) [.slice none 0 0, .slice none 0 0]
  bo : Box W g3 [v, .slice B2 m d2]
  sr : SR (only W (frM (w.heap.size + 2) Bl g3)) B2 mn
  gr : GrowB kdD 89 Bl v es W
  le : w.heap.size + 2 ≤ g3 ∧ g3 < Bl ∧ Bl ≤ W.heap.size
section
variable {w : World} {A1 : Option Addr} {n c1 : Nat} {A2 : Option Addr} {m c2 : Nat} {B2 : Option Addr} {d2 g3 Bl : Nat} {mn : List SV} {v : Value} {es : List DV} {W W' : World}
theorem PJ.step (h : PJ w A1 n c1 A2 m c2 B2 d2 g3 Bl mn v es W) (hb : Below W.heap.size W W') : PJ w A1 n c1 A2 m c2 B2 d2 g3 Bl mn v es W' :=
  ⟨bth5 h.bel hb, h.bp.step hb, h.br.step hb, h.bo.step hb, h.sr.sub (frM_below hb), h.gr.step hb, h.le.1, h.le.2.1, Nat.le_trans h.le.2.2 hb.size⟩
/-- One more declaration, and it is stored. -/
theorem PJ.pushed (h : PJ w A1 n c1 A2 m c2 B2 d2 g3 Bl mn v es W) (hb : Below W.heap.size W W') {e : DV} {cs : List Value} (hc : DC (only W' (frB W.heap.size)) e cs) (hlen : es.length ≤ 1000000000) :
    ∃ g cap w3, (Builtin.append_ #[43, 43] 43 #[v, .slice (some ⟨W'.heap.size, 0, none⟩) 1 1]).run Tryd.prog (W'.alloc (.cells cs.toArray 89)) = .ok (.slice (some ⟨g, 0, none⟩) (es.length + 1) cap) w3
      ∧ Box w3 g3 [v, .slice B2 m d2]
      ∧ PJ w A1 n c1 A2 m c2 B2 d2 g3 Bl mn (.slice (some ⟨g, 0, none⟩) (es.length + 1) cap) (es ++ [e]) (w3.setCell ⟨g3, 0, none⟩ (.slice (some ⟨g, 0, none⟩) (es.length + 1) cap)) := by
  obtain ⟨i0, hi, hz0, hz1, hz2⟩ := info_parts info_rdecl
  obtain ⟨g, cap, w3, hrun, hg, hgrow⟩ := h.gr.push (P := Tryd.prog) (S := 43) (ty := 43) h.le.2.2 hb hc Tryd.underlying43 hi hz0 hz1 hz2 rfl (by omega) hlen
  have h' := (h.step hb).step (bnew5 W' (.cells cs.toArray 89))
  have hl := h.le
  have hown : ∀ b, v.ownBlock = some b → Bl ≤ b := fun b e => by
    obtain ⟨vs, k1, -⟩ := h.gr
    exact (own_lt k1 b e).1
  have hx : ∀ b vs, b < Bl → Box (W'.alloc (.cells cs.toArray 89)) b vs → Box w3 b vs := fun b vs hbl hbx => hbx.grown6 hgrow (fun e => by have := hown b e; omega)
  have hbo := hx g3 _ hl.2.1 h'.bo
  refine ⟨g, cap, w3, hrun, hbo, ?_, ?_, ?_, ?_, ?_, ?_, ?_⟩
  · refine Below.setCell ((h'.bel.grown hgrow h'.bel.size fun b e => ?_)) (show w.heap.size ≤ g3 by omega) _
    have := hown b e
    omega
  · exact (hx _ _ (by omega) h'.bp).far (show g3 ≠ w.heap.size by omega) _
  · exact (hx _ _ (by omega) h'.br).far (show g3 ≠ w.heap.size + 1 by omega) _
  · exact hbo.set 0 _
  · exact (h'.sr.sub (frM_grown hgrow hown)).sub (frM_set _ _)
  · exact hg.set hl.2.1 _
  · refine ⟨hl.1, hl.2.1, ?_⟩
    have := hgrow.size
    have e : (w3.setCell ⟨g3, 0, none⟩ (.slice (some ⟨g, 0, none⟩) (es.length + 1) cap)).heap.size = w3.heap.size := by simp [World.setCell]
    have k := h'.le.2.2
    omega
end
end

section
open Go.RowKit

set_option maxRecDepth 100000 in
set_option maxHeartbeats 16000000 in
theorem docsProgram (ds : List DV) (mn : List SV) (hs : sbk mn + dbk ds ≤ 4000000) (A1 : Option Addr) (c1 : Nat) (A2 : Option Addr) (c2 : Nat) (w : World) (hx : DR w A1 ds) (hy : SR w A2 mn) : Calls Tryd.prog 24 #[pval A1 ds.length c1 A2 mn.length c2] w fun r w' => ∃ B1 d1 B2 d2, r = .returned (pval B1 ds.length d1 B2 mn.length d2) ∧ DR (only w' (frB w.heap.size)) B1 ds ∧ SR (only w' (frB w.heap.size)) B2 mn ∧ Below w.heap.size w w' := by
  obtain ⟨n, hn⟩ : ∃ n, n = ds.length := ⟨_, rfl⟩
  obtain ⟨m, hm⟩ : ∃ m, m = mn.length := ⟨_, rfl⟩
  unfold pval
  have h0 := bnew5 w (.cells #[.slice A1 ds.length c1, .slice A2 mn.length c2] 41)
  have h1 := bnew5 (w.alloc (.cells #[.slice A1 ds.length c1, .slice A2 mn.length c2] 41)) (.cells #[.slice none 0 0, .slice none 0 0] 46)
  have ha := (Box.new w [.slice A1 ds.length c1, .slice A2 mn.length c2] 41).step h1
  have hb := Box.new (w.alloc (.cells #[.slice A1 ds.length c1, .slice A2 mn.length c2] 41)) [.slice none 0 0, .slice none 0 0] 46
  rw [show (w.alloc (.cells #[.slice A1 ds.length c1, .slice A2 mn.length c2] 41)).heap.size = w.heap.size + 1 by simp] at hb
  have hbw := bth5 h0 h1
  have hsz : ((w.alloc (.cells #[.slice A1 ds.length c1, .slice A2 mn.length c2] 41)).alloc (.cells #[.slice none 0 0, .slice none 0 0] 46)).heap.size = w.heap.size + 1 + 1 := by simp
  have hsb := ssz_bk mn
  have hlen : n ≤ 4000000 := by have := dsz_bk ds; have := dsz_len ds; omega
  have hdk : Hid (dbk ds ≤ 4000000) := by show _ ≤ _; omega
  have hfin : Hid (∀ Bl v W, GrowB kdD 89 Bl v (ds.take n) W → ∃ A' c', v = .slice A' n c' ∧ DR (only W (frB Bl)) A' ds) := fun Bl v W h => by
    rw [hn, List.take_length] at h
    obtain ⟨A', c', h1, h2⟩ := h.row
    exact ⟨A', c', by rw [hn]; exact h1, h2⟩
  have q1 := Lib.hid (fun W h => docsStmts (ssz mn) mn (Nat.le_refl _) (by omega) A2 c2 W h)
  unfold CopyS at q1
  rw [← hn] at h0 h1 ha hb hbw hsz ⊢
  rw [← hm] at h0 h1 ha hb hbw hsz q1 ⊢
  have HN := Lib.hid (And.intro hn (And.intro hm hlen))
  clear hn hm h0 h1 hsb hlen hs
  have hx2 := Lib.hid hx
  go_enter Tryd.func24, Tryd.ntmps24
  go_wp2_with fail
  generalize (w.alloc (.cells #[.slice A1 n c1, .slice A2 m c2] 41)).alloc (.cells #[.slice none 0 0, .slice none 0 0] 46) = W0 at *
  have hK := Lib.hid (And.intro ha (And.intro hb (And.intro hbw hsz)))
  have qA := q1.out W0 (hy.step hbw)
  have s0 := ha.two
  clear ha hb hbw hx hy q1
  refine qA.mono ?_
  rintro e w1 ⟨B2, d2, rfl, hx1, hb1⟩
  have HX := Lib.hid hx1
  have HB := Lib.hid hb1
  clear hx1 hb1 qA
  go_wp2_with fail
  have HPJ0 : Hid (∃ v, PJ w A1 n c1 A2 m c2 B2 d2 w1.heap.size (w1.heap.size + 1) mn v (ds.take 0) (w1.alloc (.cells #[.slice none 0 0, .slice B2 m d2] 46))) := by
    obtain ⟨k1, k2, k3, k4⟩ := hK.out
    have hbn := bnew5 w1 (.cells #[.slice none 0 0, .slice B2 m d2] 46)
    have k5 := HB.out.size
    refine ⟨.slice none 0 0, bth5 (bth5 k3 HB.out) hbn, (k1.step HB.out).step hbn, (k2.step HB.out).step hbn, Box.new w1 _ _, ?_, ?_, ?_⟩
    · exact (HX.out.sub (frM_new w1 _)).sub (frM_lo _ (by omega))
    · exact GrowB.start kdD _ _ _
    · exact ⟨by omega, by omega, by simp⟩
  obtain ⟨g3, hg3⟩ : ∃ g, g = w1.heap.size := ⟨_, rfl⟩
  rw [← hg3] at HPJ0
  rw [← hg3]
  obtain ⟨Bl, hBl⟩ : ∃ b, b = g3 + 1 := ⟨_, rfl⟩
  rw [← hBl] at HPJ0
  generalize w1.alloc (.cells #[.slice none 0 0, .slice B2 m d2] 46) = W1 at *
  clear hK HX HB hg3 hBl s0 hsz

  go_loopw [4] (fun u W => ∃ i : Nat, i ≤ n ∧ u = .int .i64 i ∧ Hid (∃ v, PJ w A1 n c1 A2 m c2 B2 d2 g3 Bl mn v (ds.take i) W)) (fun u _ => n - (intOf u).toNat)
  case atStart => exact ⟨0, by omega, rfl, HPJ0.out⟩
  case round =>
    clear HPJ0
    obtain ⟨i, hi, rfl, hst⟩ := hrel
    obtain ⟨v, HP⟩ := hst.out
    have HP := Lib.hid HP
    clear hst
    have s1 := HP.out.bp.two
    by_cases hlt : i < n
    · have hlt' : (i : Int) < n := by omega
      obtain ⟨ad, d, rfl, hd, P1, pc, P2, pd, e0, e1, e2, e3, e4, e5, e6, e7, e8, hx', hy'⟩ := (hx2.out.step HP.out.bel).el (i := i) (by rw [← HN.out.1]; exact hlt)
      have hsz := dbk_get hd
      have hHE : Hid (ds.take (i + 1) = ds.take i ++ [d]) := by show _ = _; rw [List.take_add_one, hd]; rfl
      have hli : Hid ((ds.take i).length = i) := by show _ = _; rw [List.length_take, ← HN.out.1]; omega
      have hdb := hdk.out
      cases d with
      | mk k x lo hi sz ps body l cc =>
      unfold dbk1 at hsz
      simp only at *
      have hV := bnew5 wr (.cells #[.int .i64 k, .string ⟨x.toArray⟩, .int .i64 lo, .int .i64 hi, .int .i64 sz, .slice P1 ps.length pc, .slice P2 body.length pd, .int .i64 l, .int .i64 cc] 84)
      have ha := Box.new wr [.int .i64 k, .string ⟨x.toArray⟩, .int .i64 lo, .int .i64 hi, .int .i64 sz, .slice P1 ps.length pc, .slice P2 body.length pd, .int .i64 l, .int .i64 cc] 84
      have hpl := pbk_len ps
      have hbl := ssz_bk body
      have hNM := copyNames (wr.alloc (.cells #[.int .i64 k, .string ⟨x.toArray⟩, .int .i64 lo, .int .i64 hi, .int .i64 sz, .slice P1 ps.length pc, .slice P2 body.length pd, .int .i64 l, .int .i64 cc] 84)).drew P1 ps pc (hx'.below hV.drew) (by omega)
      have q2' := Lib.hid (fun W h => docsStmts (ssz body) body (Nat.le_refl _) (by omega) P2 pd W h)
      have q4 := fun W => docsPos l cc W
      have hVd := hV.drew
      have hy2 := Lib.hid (hy'.step hVd)
      have HC : Hid (∀ W Q1 qc Q2 qd, RowS W Q1 ps.length ps → SR W Q2 body → DC W ⟨k, x, lo, hi, sz, ps, body, l, cc⟩ [.int .i64 k, .string ⟨x.toArray⟩, .int .i64 lo, .int .i64 hi, .int .i64 sz, .slice Q1 ps.length qc, .slice Q2 body.length qd, .int .i64 l, .int .i64 cc]) := fun W Q1 qc Q2 qd h1 h2 => ⟨Q1, qc, Q2, qd, rfl, h1, h2⟩
      have hn4 : i ≤ 4000000 := by have := HN.out.2.2; omega
      clear hd hx' hy' hsz hV hpl hbl hdb
      unfold CopyS at q2'
      generalize ps.length = pn at *
      generalize body.length = pm at *
      generalize (⟨x.toArray⟩ : ByteArray) = xs at *
      go_wp2_with fail
      generalize hVV : wr.alloc (.cells #[.int .i64 k, .string xs, .int .i64 lo, .int .i64 hi, .int .i64 sz, .slice P1 pn pc, .slice P2 pm pd, .int .i64 l, .int .i64 cc] 84) = V at *
      have ha0 := Lib.hid ha.drew
      have hVd := Lib.hid hVd
      have HP0 := Lib.hid (HP.out.bo.step hVd.out)
      have stK : ∀ {W : World} {bb : List Value}, Box W wr.heap.size [.int .i64 k, .string xs, .int .i64 lo, .int .i64 hi, .int .i64 sz, .slice P1 pn pc, .slice P2 pm pd, .int .i64 l, .int .i64 cc] → Box W g3 (v :: bb) → ((fun w' => w'.cell? ⟨wr.heap.size, 0, none⟩ = some (.int .i64 k) ∧ w'.cell? ⟨wr.heap.size, 1, none⟩ = some (.string xs) ∧ w'.cell? ⟨wr.heap.size, 2, none⟩ = some (.int .i64 lo) ∧ w'.cell? ⟨wr.heap.size, 3, none⟩ = some (.int .i64 hi) ∧ w'.cell? ⟨wr.heap.size, 4, none⟩ = some (.int .i64 sz) ∧ w'.cell? ⟨wr.heap.size, 5, none⟩ = some (.slice P1 pn pc) ∧ w'.cell? ⟨wr.heap.size, 6, none⟩ = some (.slice P2 pm pd) ∧ w'.cell? ⟨wr.heap.size, 7, none⟩ = some (.int .i64 l) ∧ w'.cell? ⟨wr.heap.size, 8, none⟩ = some (.int .i64 cc) ∧ w'.cell? ⟨g3, 0, none⟩ = some v) W) := fun {W bb} h1 h2 => ⟨(h1 0 _ rfl).1, (h1 1 _ rfl).1, (h1 2 _ rfl).1, (h1 3 _ rfl).1, (h1 4 _ rfl).1, (h1 5 _ rfl).1, (h1 6 _ rfl).1, (h1 7 _ rfl).1, (h1 8 _ rfl).1, (h2 0 _ rfl).1⟩
      have K0 := Lib.hid (stK ha0.out HP0.out)
      obtain ⟨Q1, qc, w1, hrunN, hr1, hbN, -⟩ := hNM
      have hr1 := Lib.hid (hr1.sub (frB_mono hVd.out.size))
      have hv1 := Lib.hid (hVd.out.trans (hbN.mono hVd.out.size))
      have ha1 := Lib.hid (ha0.out.step hbN)
      have HP1 := Lib.hid (HP0.out.step hbN)
      have K1 := Lib.hid (stK ha1.out HP1.out)
      have q2 := q2'.out w1 (hy2.out.step hbN)
      clear ha hbN s1 e0 e1 e2 e3 e4 e5 e6 e7 e8 hVV
      refine wp_region_C 24 (fun w' => w'.cell? ⟨wr.heap.size, 0, none⟩ = some (.int .i64 k) ∧ w'.cell? ⟨wr.heap.size, 1, none⟩ = some (.string xs) ∧ w'.cell? ⟨wr.heap.size, 2, none⟩ = some (.int .i64 lo) ∧ w'.cell? ⟨wr.heap.size, 3, none⟩ = some (.int .i64 hi) ∧ w'.cell? ⟨wr.heap.size, 4, none⟩ = some (.int .i64 sz) ∧ w'.cell? ⟨wr.heap.size, 5, none⟩ = some (.slice P1 pn pc) ∧ w'.cell? ⟨wr.heap.size, 6, none⟩ = some (.slice P2 pm pd) ∧ w'.cell? ⟨wr.heap.size, 7, none⟩ = some (.int .i64 l) ∧ w'.cell? ⟨wr.heap.size, 8, none⟩ = some (.int .i64 cc) ∧ w'.cell? ⟨g3, 0, none⟩ = some v) (by kernel_rfl) ?_
      refine wpAnyC_any (i := 0) (oi := { dst := some 23, op := Go.Op.fieldAddr 46 (Go.Operand.tmp 3) 0, type := 0, pos := "asts.go:42", after := #[], guard := none }) (v := ?_) rfl (by kernel_rfl) (by kernel_rfl) (by kernel_rfl) (by kernel_rfl) (fun _ _ _ h => h) (Or.inl ⟨by rfl, ?_⟩) (fun _ => K0.out) ?_
      rotate_left 1
      · (intro w _; go_simp; (try with_reducible rfl))
      simp only [Act.put, List.setIfInBounds_toArray, List.set_cons_succ, List.set_cons_zero]
      refine wpAnyC_take (i := 1) [24] (oi := { dst := some 24, op := Go.Op.load 43 (Go.Operand.tmp 23), type := 43, pos := "asts.go:42", after := #[{ on := 0, ground := Go.Ground.data }], guard := none }) (v := ?_) rfl (by kernel_rfl) (by kernel_rfl) (by kernel_rfl) (by kernel_rfl) (by kernel_rfl) (by kernel_rfl) (by kernel_rfl) (fun _ _ _ h => h) (Or.inl ⟨by rfl, ?_⟩) (fun _ => K0.out) ?_
      rotate_left 1
      · (intro w hSw; (try dsimp only at hSw); go_simp; (try with_reducible rfl))
      simp only [Act.put, List.setIfInBounds_toArray, List.set_cons_succ, List.set_cons_zero]
      refine wpAnyC_any (i := 2) (oi := { dst := some 25, op := Go.Op.fieldAddr 84 (Go.Operand.tmp 5) 0, type := 0, pos := "asts.go:42", after := #[], guard := none }) (v := ?_) rfl (by kernel_rfl) (by kernel_rfl) (by kernel_rfl) (by kernel_rfl) (fun _ _ _ h => h) (Or.inl ⟨by rfl, ?_⟩) (fun _ => K0.out) ?_
      rotate_left 1
      · (intro w _; go_simp; (try with_reducible rfl))
      simp only [Act.put, List.setIfInBounds_toArray, List.set_cons_succ, List.set_cons_zero]
      refine wpAnyC_take (i := 3) [22, 23, 24] (oi := { dst := some 26, op := Go.Op.load 82 (Go.Operand.tmp 25), type := 82, pos := "asts.go:42", after := #[{ on := 2, ground := Go.Ground.data }], guard := none }) (v := ?_) rfl (by kernel_rfl) (by kernel_rfl) (by kernel_rfl) (by kernel_rfl) (by kernel_rfl) (by kernel_rfl) (by kernel_rfl) (fun _ _ _ h => h) (Or.inl ⟨by rfl, ?_⟩) (fun _ => K0.out) ?_
      rotate_left 1
      · (intro w hSw; (try dsimp only at hSw); go_simp; (try with_reducible rfl))
      simp only [Act.put, List.setIfInBounds_toArray, List.set_cons_succ, List.set_cons_zero]
      refine wpAnyC_any (i := 4) (oi := { dst := some 27, op := Go.Op.fieldAddr 84 (Go.Operand.tmp 5) 1, type := 0, pos := "asts.go:42", after := #[], guard := none }) (v := ?_) rfl (by kernel_rfl) (by kernel_rfl) (by kernel_rfl) (by kernel_rfl) (fun _ _ _ h => h) (Or.inl ⟨by rfl, ?_⟩) (fun _ => K0.out) ?_
      rotate_left 1
      · (intro w _; go_simp; (try with_reducible rfl))
      simp only [Act.put, List.setIfInBounds_toArray, List.set_cons_succ, List.set_cons_zero]
      refine wpAnyC_take (i := 5) [22, 23, 24] (oi := { dst := some 28, op := Go.Op.load 9 (Go.Operand.tmp 27), type := 9, pos := "asts.go:42", after := #[{ on := 4, ground := Go.Ground.data }], guard := none }) (v := ?_) rfl (by kernel_rfl) (by kernel_rfl) (by kernel_rfl) (by kernel_rfl) (by kernel_rfl) (by kernel_rfl) (by kernel_rfl) (fun _ _ _ h => h) (Or.inl ⟨by rfl, ?_⟩) (fun _ => K0.out) ?_
      rotate_left 1
      · (intro w hSw; (try dsimp only at hSw); go_simp; (try with_reducible rfl))
      simp only [Act.put, List.setIfInBounds_toArray, List.set_cons_succ, List.set_cons_zero]
      refine wpAnyC_any (i := 6) (oi := { dst := some 29, op := Go.Op.fieldAddr 84 (Go.Operand.tmp 5) 2, type := 0, pos := "asts.go:42", after := #[], guard := none }) (v := ?_) rfl (by kernel_rfl) (by kernel_rfl) (by kernel_rfl) (by kernel_rfl) (fun _ _ _ h => h) (Or.inl ⟨by rfl, ?_⟩) (fun _ => K0.out) ?_
      rotate_left 1
      · (intro w _; go_simp; (try with_reducible rfl))
      simp only [Act.put, List.setIfInBounds_toArray, List.set_cons_succ, List.set_cons_zero]
      refine wpAnyC_take (i := 7) [22, 23, 24] (oi := { dst := some 30, op := Go.Op.load 2 (Go.Operand.tmp 29), type := 2, pos := "asts.go:42", after := #[{ on := 6, ground := Go.Ground.data }], guard := none }) (v := ?_) rfl (by kernel_rfl) (by kernel_rfl) (by kernel_rfl) (by kernel_rfl) (by kernel_rfl) (by kernel_rfl) (by kernel_rfl) (fun _ _ _ h => h) (Or.inl ⟨by rfl, ?_⟩) (fun _ => K0.out) ?_
      rotate_left 1
      · (intro w hSw; (try dsimp only at hSw); go_simp; (try with_reducible rfl))
      simp only [Act.put, List.setIfInBounds_toArray, List.set_cons_succ, List.set_cons_zero]
      refine wpAnyC_any (i := 8) (oi := { dst := some 31, op := Go.Op.fieldAddr 84 (Go.Operand.tmp 5) 3, type := 0, pos := "asts.go:42", after := #[], guard := none }) (v := ?_) rfl (by kernel_rfl) (by kernel_rfl) (by kernel_rfl) (by kernel_rfl) (fun _ _ _ h => h) (Or.inl ⟨by rfl, ?_⟩) (fun _ => K0.out) ?_
      rotate_left 1
      · (intro w _; go_simp; (try with_reducible rfl))
      simp only [Act.put, List.setIfInBounds_toArray, List.set_cons_succ, List.set_cons_zero]
      refine wpAnyC_take (i := 9) [22, 23, 24] (oi := { dst := some 32, op := Go.Op.load 2 (Go.Operand.tmp 31), type := 2, pos := "asts.go:42", after := #[{ on := 8, ground := Go.Ground.data }], guard := none }) (v := ?_) rfl (by kernel_rfl) (by kernel_rfl) (by kernel_rfl) (by kernel_rfl) (by kernel_rfl) (by kernel_rfl) (by kernel_rfl) (fun _ _ _ h => h) (Or.inl ⟨by rfl, ?_⟩) (fun _ => K0.out) ?_
      rotate_left 1
      · (intro w hSw; (try dsimp only at hSw); go_simp; (try with_reducible rfl))
      simp only [Act.put, List.setIfInBounds_toArray, List.set_cons_succ, List.set_cons_zero]
      refine wpAnyC_any (i := 10) (oi := { dst := some 33, op := Go.Op.fieldAddr 84 (Go.Operand.tmp 5) 4, type := 0, pos := "asts.go:42", after := #[], guard := none }) (v := ?_) rfl (by kernel_rfl) (by kernel_rfl) (by kernel_rfl) (by kernel_rfl) (fun _ _ _ h => h) (Or.inl ⟨by rfl, ?_⟩) (fun _ => K0.out) ?_
      rotate_left 1
      · (intro w _; go_simp; (try with_reducible rfl))
      simp only [Act.put, List.setIfInBounds_toArray, List.set_cons_succ, List.set_cons_zero]
      refine wpAnyC_take (i := 11) [22, 23, 24] (oi := { dst := some 34, op := Go.Op.load 2 (Go.Operand.tmp 33), type := 2, pos := "asts.go:42", after := #[{ on := 10, ground := Go.Ground.data }], guard := none }) (v := ?_) rfl (by kernel_rfl) (by kernel_rfl) (by kernel_rfl) (by kernel_rfl) (by kernel_rfl) (by kernel_rfl) (by kernel_rfl) (fun _ _ _ h => h) (Or.inl ⟨by rfl, ?_⟩) (fun _ => K0.out) ?_
      rotate_left 1
      · (intro w hSw; (try dsimp only at hSw); go_simp; (try with_reducible rfl))
      simp only [Act.put, List.setIfInBounds_toArray, List.set_cons_succ, List.set_cons_zero]
      refine wpAnyC_any (i := 12) (oi := { dst := some 35, op := Go.Op.move (Go.Operand.tmp 6), type := 28, pos := "asts.go:42", after := #[], guard := none }) (v := ?_) rfl (by kernel_rfl) (by kernel_rfl) (by kernel_rfl) (by kernel_rfl) (fun _ _ _ h => h) (Or.inl ⟨by rfl, ?_⟩) (fun _ => K0.out) ?_
      rotate_left 1
      · (intro w _; go_simp; (try with_reducible rfl))
      simp only [Act.put, List.setIfInBounds_toArray, List.set_cons_succ, List.set_cons_zero]
      refine wpAnyC_any (i := 13) (oi := { dst := some 36, op := Go.Op.fieldAddr 84 (Go.Operand.tmp 5) 5, type := 0, pos := "asts.go:42", after := #[], guard := none }) (v := ?_) rfl (by kernel_rfl) (by kernel_rfl) (by kernel_rfl) (by kernel_rfl) (fun _ _ _ h => h) (Or.inl ⟨by rfl, ?_⟩) (fun _ => K0.out) ?_
      rotate_left 1
      · (intro w _; go_simp; (try with_reducible rfl))
      simp only [Act.put, List.setIfInBounds_toArray, List.set_cons_succ, List.set_cons_zero]
      refine wpAnyC_take (i := 14) [15, 18, 21, 24] (oi := { dst := some 37, op := Go.Op.load 28 (Go.Operand.tmp 36), type := 28, pos := "asts.go:42", after := #[{ on := 13, ground := Go.Ground.data }], guard := none }) (v := ?_) rfl (by kernel_rfl) (by kernel_rfl) (by kernel_rfl) (by kernel_rfl) (by kernel_rfl) (by kernel_rfl) (by kernel_rfl) (fun _ _ _ h => h) (Or.inl ⟨by rfl, ?_⟩) (fun _ => K0.out) ?_
      rotate_left 1
      · (intro w hSw; (try dsimp only at hSw); go_simp; (try with_reducible rfl))
      simp only [Act.put, List.setIfInBounds_toArray, List.set_cons_succ, List.set_cons_zero]
      refine wpAnyC_any (i := 16) (oi := { dst := some 39, op := Go.Op.fieldAddr 84 (Go.Operand.tmp 5) 6, type := 0, pos := "asts.go:42", after := #[], guard := none }) (v := ?_) rfl (by kernel_rfl) (by kernel_rfl) (by kernel_rfl) (by kernel_rfl) (fun _ _ _ h => h) (Or.inl ⟨by rfl, ?_⟩) (fun _ => K0.out) ?_
      rotate_left 1
      · (intro w _; go_simp; (try with_reducible rfl))
      simp only [Act.put, List.setIfInBounds_toArray, List.set_cons_succ, List.set_cons_zero]
      refine wpAnyC_take (i := 17) [18, 21, 24] (oi := { dst := some 40, op := Go.Op.load 39 (Go.Operand.tmp 39), type := 39, pos := "asts.go:42", after := #[{ on := 16, ground := Go.Ground.data }], guard := none }) (v := ?_) rfl (by kernel_rfl) (by kernel_rfl) (by kernel_rfl) (by kernel_rfl) (by kernel_rfl) (by kernel_rfl) (by kernel_rfl) (fun _ _ _ h => h) (Or.inl ⟨by rfl, ?_⟩) (fun _ => K0.out) ?_
      rotate_left 1
      · (intro w hSw; (try dsimp only at hSw); go_simp; (try with_reducible rfl))
      simp only [Act.put, List.setIfInBounds_toArray, List.set_cons_succ, List.set_cons_zero]
      refine wpAnyC_any (i := 19) (oi := { dst := some 42, op := Go.Op.fieldAddr 84 (Go.Operand.tmp 5) 7, type := 0, pos := "asts.go:42", after := #[], guard := none }) (v := ?_) rfl (by kernel_rfl) (by kernel_rfl) (by kernel_rfl) (by kernel_rfl) (fun _ _ _ h => h) (Or.inl ⟨by rfl, ?_⟩) (fun _ => K0.out) ?_
      rotate_left 1
      · (intro w _; go_simp; (try with_reducible rfl))
      simp only [Act.put, List.setIfInBounds_toArray, List.set_cons_succ, List.set_cons_zero]
      refine wpAnyC_take (i := 20) [21, 24] (oi := { dst := some 43, op := Go.Op.load 60 (Go.Operand.tmp 42), type := 60, pos := "asts.go:42", after := #[{ on := 19, ground := Go.Ground.data }], guard := none }) (v := ?_) rfl (by kernel_rfl) (by kernel_rfl) (by kernel_rfl) (by kernel_rfl) (by kernel_rfl) (by kernel_rfl) (by kernel_rfl) (fun _ _ _ h => h) (Or.inl ⟨by rfl, ?_⟩) (fun _ => K0.out) ?_
      rotate_left 1
      · (intro w hSw; (try dsimp only at hSw); go_simp; (try with_reducible rfl))
      simp only [Act.put, List.setIfInBounds_toArray, List.set_cons_succ, List.set_cons_zero]
      refine wpAnyC_ready (rs := [15]) (by kernel_rfl) (by simp) ?_
      refine AllReadyC.cons (o := { dst := some 38, op := Go.Op.call { callee := Go.Callee.builtin Go.Builtin.append, args := #[Go.Operand.tmp 35, Go.Operand.tmp 37], argTypes := #[28, 28] }, type := 28, pos := "asts.go:42", after := #[{ on := 12, ground := Go.Ground.data }, { on := 14, ground := Go.Ground.data }], guard := none }) rfl (fun K hK => ?_) AllReadyC.nil
      refine step_append_run rfl (.tmp 35) (.tmp 37) _ (by rfl) _ _ _ w1 (by rfl) (by rfl) hrunN ?_
      refine hK.out _ _ (fun _ => K1.out) ?_
      clear hK K
      try simp only [Act.put, List.setIfInBounds_toArray, List.set_cons_succ, List.set_cons_zero]
      refine wpAnyC_ready (rs := [18]) (by kernel_rfl) (by simp) ?_
      refine AllReadyC.cons (o := { dst := some 41, op := Go.Op.call { callee := Go.Callee.value (Go.Operand.func 50), args := #[Go.Operand.tmp 40], argTypes := #[39] }, type := 44, pos := "asts.go:42", after := #[{ on := 17, ground := Go.Ground.data }, { on := 15, ground := Go.Ground.chain }], guard := none }) rfl (fun K hK => ?_) AllReadyC.nil
      go_simp
      refine q2.mono ?_
      rintro e w2 ⟨Q2, qd, rfl, hs2, hb2⟩
      have ha2 := Lib.hid (ha1.out.step hb2)
      have hv2 := Lib.hid (hv1.out.trans (hb2.mono hv1.out.size))
      have HP2 := Lib.hid (HP1.out.step hb2)
      have hr2 := Lib.hid (hr1.out.sub (fr_below _ hb2))
      have hs2 := Lib.hid (hs2.sub (frB_mono hv1.out.size))
      have K2 := Lib.hid (stK ha2.out HP2.out)
      refine hK.out _ _ (fun _ => K2.out) ?_
      clear hK K
      try simp only [Act.put, List.setIfInBounds_toArray, List.set_cons_succ, List.set_cons_zero]
      refine wpAnyC_ready (rs := [21]) (by kernel_rfl) (by simp) ?_
      refine AllReadyC.cons (o := { dst := some 44, op := Go.Op.call { callee := Go.Callee.value (Go.Operand.func 51), args := #[Go.Operand.tmp 43], argTypes := #[60] }, type := 70, pos := "asts.go:42", after := #[{ on := 20, ground := Go.Ground.data }, { on := 18, ground := Go.Ground.chain }], guard := none }) rfl (fun K hK => ?_) AllReadyC.nil
      go_simp
      refine (q4 w2).mono ?_
      rintro e w3 ⟨rfl, hb3⟩
      have ha3 := Lib.hid (ha2.out.step hb3)
      have hv3 := Lib.hid (hv2.out.trans (hb3.mono hv2.out.size))
      have HP3 := Lib.hid (HP2.out.step hb3)
      have K3 := Lib.hid (stK ha3.out HP3.out)
      obtain ⟨g, cap, w4, hrun4, hbo4, hpj4⟩ := HP.out.pushed hv3.out (HC.out _ Q1 qc Q2 qd (hr2.out.sub (fr_below _ hb3)) (hs2.out.sub (fr_below _ hb3))) (by rw [hli.out]; omega)
      rw [hli.out] at hrun4 hpj4
      have hpj4 := Lib.hid hpj4
      have K4 := Lib.hid (stK (ha3.out.step (bnew5 w3 (.cells #[.int .i64 k, .string xs, .int .i64 lo, .int .i64 hi, .int .i64 sz, .slice Q1 pn qc, .slice Q2 pm qd, .int .i64 l, .int .i64 cc] 89))) (HP3.out.step (bnew5 w3 (.cells #[.int .i64 k, .string xs, .int .i64 lo, .int .i64 hi, .int .i64 sz, .slice Q1 pn qc, .slice Q2 pm qd, .int .i64 l, .int .i64 cc] 89))))
      have j1 := (hbo4 0 _ rfl).1
      have j2 := (hbo4 0 _ rfl).2
      refine hK.out _ _ (fun _ => K3.out) ?_
      clear hK K
      try simp only [Act.put, List.setIfInBounds_toArray, List.set_cons_succ, List.set_cons_zero]
      refine wpAnyC_any (i := 22) (oi := { dst := some 45, op := Go.Op.build 89 #[(0, Go.Operand.tmp 26), (1, Go.Operand.tmp 28), (2, Go.Operand.tmp 30), (3, Go.Operand.tmp 32), (4, Go.Operand.tmp 34), (5, Go.Operand.tmp 38), (6, Go.Operand.tmp 41), (7, Go.Operand.tmp 44)], type := 89, pos := "asts.go:42", after := #[{ on := 3, ground := Go.Ground.data }, { on := 5, ground := Go.Ground.data }, { on := 7, ground := Go.Ground.data }, { on := 9, ground := Go.Ground.data }, { on := 11, ground := Go.Ground.data }, { on := 15, ground := Go.Ground.data }, { on := 18, ground := Go.Ground.data }, { on := 21, ground := Go.Ground.data }], guard := none }) (v := ?_) rfl (by kernel_rfl) (by kernel_rfl) (by kernel_rfl) (by kernel_rfl) (fun _ _ _ h => h) (Or.inl ⟨by rfl, ?_⟩) (fun _ => K3.out) ?_
      rotate_left 1
      · (intro w _; go_simp; (try with_reducible rfl))
      simp only [Act.put, List.setIfInBounds_toArray, List.set_cons_succ, List.set_cons_zero]
      refine wpAnyC_ready (rs := [23]) (by kernel_rfl) (by simp) ?_
      refine AllReadyC.cons (o := { dst := some 46, op := Go.Op.buildSlice 43 1 #[(0, Go.Operand.tmp 45)], type := 43, pos := "asts.go:42", after := #[{ on := 22, ground := Go.Ground.data }], guard := none }) rfl (fun K hK => ?_) AllReadyC.nil
      go_simp
      refine hK.out _ _ (fun _ => K4.out) ?_
      clear hK K
      try simp only [Act.put, List.setIfInBounds_toArray, List.set_cons_succ, List.set_cons_zero]
      refine wpAnyC_ready (rs := [24]) (by kernel_rfl) (by simp) ?_
      refine AllReadyC.cons (o := { dst := some 47, op := Go.Op.call { callee := Go.Callee.builtin Go.Builtin.append, args := #[Go.Operand.tmp 24, Go.Operand.tmp 46], argTypes := #[43, 43] }, type := 43, pos := "asts.go:42", after := #[{ on := 1, ground := Go.Ground.data }, { on := 23, ground := Go.Ground.data }, { on := 21, ground := Go.Ground.chain }], guard := none }) rfl (fun K hK => ?_) AllReadyC.nil
      refine step_append_run rfl (.tmp 24) (.tmp 46) _ (by rfl) _ _ _ w4 (by rfl) (by rfl) hrun4 ?_
      refine hK.out _ _ (fun h => absurd h (by decide)) ?_
      clear hK K
      try simp only [Act.put, List.setIfInBounds_toArray, List.set_cons_succ, List.set_cons_zero]
      refine wpAnyC_any (i := 25) (oi := { dst := some 48, op := Go.Op.fieldAddr 46 (Go.Operand.tmp 3) 0, type := 0, pos := "asts.go:42", after := #[{ on := 0, ground := Go.Ground.phase }, { on := 1, ground := Go.Ground.phase }, { on := 2, ground := Go.Ground.phase }, { on := 3, ground := Go.Ground.phase }, { on := 4, ground := Go.Ground.phase }, { on := 5, ground := Go.Ground.phase }, { on := 6, ground := Go.Ground.phase }, { on := 7, ground := Go.Ground.phase }, { on := 8, ground := Go.Ground.phase }, { on := 9, ground := Go.Ground.phase }, { on := 10, ground := Go.Ground.phase }, { on := 11, ground := Go.Ground.phase }, { on := 12, ground := Go.Ground.phase }, { on := 13, ground := Go.Ground.phase }, { on := 14, ground := Go.Ground.phase }, { on := 15, ground := Go.Ground.phase }, { on := 16, ground := Go.Ground.phase }, { on := 17, ground := Go.Ground.phase }, { on := 18, ground := Go.Ground.phase }, { on := 19, ground := Go.Ground.phase }, { on := 20, ground := Go.Ground.phase }, { on := 21, ground := Go.Ground.phase }, { on := 22, ground := Go.Ground.phase }, { on := 23, ground := Go.Ground.phase }, { on := 24, ground := Go.Ground.phase }], guard := none }) (v := ?_) rfl (by kernel_rfl) (by kernel_rfl) (by kernel_rfl) (by kernel_rfl) (fun _ _ _ h => h) (Or.inl ⟨by rfl, ?_⟩) (fun h => absurd h (by decide)) ?_
      rotate_left 1
      · (intro w _; go_simp; (try with_reducible rfl))
      simp only [Act.put, List.setIfInBounds_toArray, List.set_cons_succ, List.set_cons_zero]
      refine wpAnyC_ready (rs := [26]) (by kernel_rfl) (by simp) ?_
      refine AllReadyC.cons (o := { dst := none, op := Go.Op.store 43 (Go.Operand.tmp 48) (Go.Operand.tmp 47), type := 0, pos := "asts.go:42", after := #[{ on := 25, ground := Go.Ground.data }, { on := 24, ground := Go.Ground.data }, { on := 24, ground := Go.Ground.chain }, { on := 0, ground := Go.Ground.phase }, { on := 1, ground := Go.Ground.phase }, { on := 2, ground := Go.Ground.phase }, { on := 3, ground := Go.Ground.phase }, { on := 4, ground := Go.Ground.phase }, { on := 5, ground := Go.Ground.phase }, { on := 6, ground := Go.Ground.phase }, { on := 7, ground := Go.Ground.phase }, { on := 8, ground := Go.Ground.phase }, { on := 9, ground := Go.Ground.phase }, { on := 10, ground := Go.Ground.phase }, { on := 11, ground := Go.Ground.phase }, { on := 12, ground := Go.Ground.phase }, { on := 13, ground := Go.Ground.phase }, { on := 14, ground := Go.Ground.phase }, { on := 15, ground := Go.Ground.phase }, { on := 16, ground := Go.Ground.phase }, { on := 17, ground := Go.Ground.phase }, { on := 18, ground := Go.Ground.phase }, { on := 19, ground := Go.Ground.phase }, { on := 20, ground := Go.Ground.phase }, { on := 21, ground := Go.Ground.phase }, { on := 22, ground := Go.Ground.phase }, { on := 23, ground := Go.Ground.phase }, { on := 24, ground := Go.Ground.phase }], guard := none }) rfl (fun K hK => ?_) AllReadyC.nil
      go_simp
      refine hK.out _ _ (fun h => absurd h (by decide)) ?_
      clear hK K
      try simp only [Act.put, List.setIfInBounds_toArray, List.set_cons_succ, List.set_cons_zero]
      refine wpAnyC_done (by kernel_rfl) ?_ _
      go_wp2_with fail
      exact ⟨⟨i + 1, by omega, by go_num, ⟨_, by rw [hHE.out]; exact hpj4.out⟩⟩, by simp [intOf]; omega⟩
    · obtain rfl : i = n := by omega
      have hlt' : ¬ (i : Int) < i := by omega
      obtain ⟨A', c', rfl, hdr⟩ := hfin.out _ _ _ HP.out.gr
      have hdr := Lib.hid hdr
      have hle := HP.out.le
      have j0 := HP.out.bo.two
      have j1 := HP.out.br.two
      have f0 := (HP.out.br 0 _ rfl).2
      have f1 := (HP.out.br 1 _ rfl).2
      go_wp2_with fail
      refine bodyPost_ret (v := .agg #[.slice A' i c', .slice B2 m d2]) (by simp [results, Tryd.results24, go_sem, j1.1, j1.2]) rfl ?_
      have hs1 : (wr.setCell ⟨w.heap.size + 1, 0, none⟩ (.slice A' i c')).heap.size = wr.heap.size := by simp [World.setCell]
      refine ⟨A', c', B2, ⟨d2, rfl⟩, (hdr.out.sub ((frB_set _ _ (by omega)).trans (frB_set _ _ (by omega)))).sub (frB_mono (by omega)), (HP.out.sr.sub ((frM_setlo _ _ (by omega)).trans (frM_setlo _ _ (by omega)))).sub (frM_frB _ (by omega)), below_set1 (below_set1 HP.out.bel (by omega)) (by omega)⟩
end

section
open Go.RowKit

set_option maxRecDepth 100000 in
set_option maxHeartbeats 4000000 in
theorem docsParts (N : Nat) : ∀ (es : List XV), xsz es ≤ N → N ≤ 4000000 → ∀ (A : Option Addr) (c : Nat) (most deep : Int) (w : World), XR w A es → Calls Tryd.prog 84 #[.slice A es.length c, .int .i64 most, .int .i64 deep] w fun e w' => (∃ r, e = .returned (.int .i64 r)) ∧ w' = w := by
  induction N using Nat.strongRecOn with
  | ind N ih =>
  intro es hN hNN A c most deep w hx
  have hlen := xsz_len es
  obtain ⟨n, hn⟩ : ∃ n, n = es.length := ⟨_, rfl⟩
  have hx2 := Lib.hid hx
  rw [← hn]
  rw [← hn] at hlen
  have HN := Lib.hid hn
  have hn0 : (0 : Int) ≤ n := by omega
  obtain ⟨dd, hdd⟩ : ∃ dd, IntKind.i64.wrap (deep - 1) = dd := ⟨_, rfl⟩
  clear hn hx
  by_cases hd : deep ≤ 0
  · by_cases hz : 0 < (n : Int)
    · go_enter Tryd.func84, Tryd.ntmps84
      go_wp2_with fail
      go_ret
      first | exact ⟨⟨_, rfl⟩, rfl⟩ | exact ⟨_, rfl⟩ | skip
    · go_enter Tryd.func84, Tryd.ntmps84
      go_wp2_with fail
      go_loopw [7, 8] (fun v u W => ∃ i : Nat, i ≤ n ∧ u = .int .i64 i ∧ (∃ x : Int, v = .int .i64 x) ∧ W = w) (fun _ u _ => n - (intOf u).toNat)
      case atStart => exact ⟨0, by omega, rfl, ⟨0, rfl⟩, rfl⟩
      case round =>
        obtain ⟨i, hi, rfl, ⟨x, rfl⟩, rfl⟩ := hrel
        by_cases hlt : i < n
        · have hlt' : (i : Int) < n := by omega
          exact absurd hlt' (by omega)
        · obtain rfl : i = n := by omega
          have hlt' : ¬ (i : Int) < i := by omega
          go_wp2_with fail
          go_ret
          first | exact ⟨⟨_, rfl⟩, rfl⟩ | exact ⟨_, rfl⟩ | skip
  · go_enter Tryd.func84, Tryd.ntmps84
    go_wp2_with fail
    go_loopw [7, 8] (fun v u W => ∃ i : Nat, i ≤ n ∧ u = .int .i64 i ∧ (∃ x : Int, v = .int .i64 x) ∧ W = w) (fun _ u _ => n - (intOf u).toNat)
    case atStart => exact ⟨0, by omega, rfl, ⟨0, rfl⟩, rfl⟩
    case round =>
      obtain ⟨i, hi, rfl, ⟨x, rfl⟩, rfl⟩ := hrel
      by_cases hlt : i < n
      · have hlt' : (i : Int) < n := by omega
        by_cases hm : x ≤ most
        · obtain ⟨ad, e, A', c', rfl, he, hc, hx'⟩ := hx2.out.args (i := i) (by rw [← HN.out]; exact hlt)
          have hsz := xsz_get he
          rw [xsz1_eq] at hsz
          have hq := ih (xsz e.gs) (by omega) e.gs (Nat.le_refl _) (by omega) A' c' most dd wr hx'
          clear he hx' hsz
          generalize e.gs.length = m at *
          go_wp2_with fail
          refine hq.mono ?_
          rintro e1 w1 ⟨⟨r, rfl⟩, rfl⟩
          go_wp2_with fail
          exact ⟨⟨i + 1, by omega, by go_num, ⟨_, rfl⟩, by first | rfl | trivial⟩, by simp [intOf]; omega⟩
        · go_wp2_with fail
          go_ret
          first | exact ⟨⟨_, rfl⟩, rfl⟩ | exact ⟨_, rfl⟩ | skip
      · obtain rfl : i = n := by omega
        have hlt' : ¬ (i : Int) < i := by omega
        go_wp2_with fail
        go_ret
        first | exact ⟨⟨_, rfl⟩, rfl⟩ | exact ⟨_, rfl⟩ | skip

set_option maxRecDepth 100000 in
set_option maxHeartbeats 8000000 in
theorem docsMany (N : Nat) : ∀ (l : List SV), ssz l ≤ N → N ≤ 4000000 → ∀ (A : Option Addr) (c : Nat) (most deep : Int) (w : World), SR w A l → Calls Tryd.prog 49 #[.slice A l.length c, .int .i64 most, .int .i64 deep] w fun e w' => (∃ r, e = .returned (.int .i64 r)) ∧ Below w.heap.size w w' := by
  induction N using Nat.strongRecOn with
  | ind N ih =>
  intro l hN hNN A c most deep w hx
  have hlen := ssz_len l
  obtain ⟨n, hn⟩ : ∃ n, n = l.length := ⟨_, rfl⟩
  have hx2 := Lib.hid hx
  rw [← hn]
  rw [← hn] at hlen
  have HN := Lib.hid hn
  have hn0 : (0 : Int) ≤ n := by omega
  obtain ⟨dd, hdd⟩ : ∃ dd, IntKind.i64.wrap (deep - 1) = dd := ⟨_, rfl⟩
  clear hn hx
  by_cases hd : deep = 0
  · by_cases hz : 0 < (n : Int)
    · go_enter Tryd.func49, Tryd.ntmps49
      go_wp2_with fail
      go_ret
      first | exact ⟨⟨_, rfl⟩, Below.refl _ _⟩ | exact Below.refl _ _
    · go_enter Tryd.func49, Tryd.ntmps49
      go_wp2_with fail
      go_loopw [7, 8] (fun v u W => ∃ i : Nat, i ≤ n ∧ u = .int .i64 i ∧ (∃ x : Int, v = .int .i64 x) ∧ Hid (Below w.heap.size w W)) (fun _ u _ => n - (intOf u).toNat)
      case atStart => exact ⟨0, by omega, rfl, ⟨0, rfl⟩, Below.refl _ _⟩
      case round =>
        obtain ⟨i, hi, rfl, ⟨x, rfl⟩, hbw⟩ := hrel
        by_cases hlt : i < n
        · have hlt' : (i : Int) < n := by omega
          exact absurd hlt' (by omega)
        · obtain rfl : i = n := by omega
          have hlt' : ¬ (i : Int) < i := by omega
          go_wp2_with fail
          go_ret
          first | exact ⟨⟨_, rfl⟩, hbw.out⟩ | exact hbw.out
  · go_enter Tryd.func49, Tryd.ntmps49
    go_wp2_with fail
    go_loopw [7, 8] (fun v u W => ∃ i : Nat, i ≤ n ∧ u = .int .i64 i ∧ (∃ x : Int, v = .int .i64 x) ∧ Hid (Below w.heap.size w W)) (fun _ u _ => n - (intOf u).toNat)
    case atStart => exact ⟨0, by omega, rfl, ⟨0, rfl⟩, Below.refl _ _⟩
    case round =>
      obtain ⟨i, hi, rfl, ⟨x, rfl⟩, hbw⟩ := hrel
      by_cases hlt : i < n
      · have hlt' : (i : Int) < n := by omega
        by_cases hm : x ≤ most
        · obtain ⟨ad, e, A1, c1, A2, c2, A3, c3, rfl, he, hk⟩ := (hx2.out.step hbw.out).kb (i := i) (by rw [← HN.out]; exact hlt)
          have hsz := ssz_get he
          rw [ssz1_eq] at hsz
          have k0 := Lib.hid (hk.step (Below.refl wr.heap.size wr).drew)
          have qx := docsParts (xsz e.es) e.es (Nat.le_refl _) (by omega) A1 c1 most dd wr.drew k0.out.x
          have q1 := ih (ssz e.ts) (by omega) e.ts (Nat.le_refl _) (by omega) A2 c2 most dd wr.drew k0.out.t
          have q2 := Lib.hid (fun W (h : SR W A3 e.us) => ih (ssz e.us) (by omega) e.us (Nat.le_refl _) (by omega) A3 c3 most dd W h)
          have s0 := k0.out.c
          clear he hsz hk
          go_wp2_with fail
          go_region_held3 (fun w' => w'.cell? ⟨(ad.add (i * 7)).block, (ad.add (i * 7)).off + 2, none⟩ = some (.slice A1 e.es.length c1) ∧ w'.cell? ⟨(ad.add (i * 7)).block, (ad.add (i * 7)).off + 3, none⟩ = some (.slice A2 e.ts.length c2) ∧ w'.cell? ⟨(ad.add (i * 7)).block, (ad.add (i * 7)).off + 4, none⟩ = some (.slice A3 e.us.length c3)) (first | with_reducible exact s0 | with_reducible exact s1 | with_reducible exact s2)
            (first
              | (go_at_call 84
                 with_reducible refine qx.mono ?_
                 rintro e1 w1 ⟨⟨r1, rfl⟩, rfl⟩)
              | (go_at_call 49
                 with_reducible refine q1.mono ?_
                 rintro e1 w1 ⟨⟨r2, rfl⟩, hw1⟩
                 have k1 := Lib.hid (k0.out.step hw1)
                 have s1 := k1.out.c
                 have q3 := q2.out w1 k1.out.u)
              | (go_at_call 49
                 with_reducible refine q3.mono ?_
                 rintro e1 w2 ⟨⟨r3, rfl⟩, hw2⟩
                 have k2 := Lib.hid (k1.out.step hw2)
                 have s2 := k2.out.c))
          go_wp2_with fail
          exact ⟨⟨i + 1, by omega, by go_num, ⟨_, rfl⟩, bth5 hbw.out k2.out.b⟩, by simp [intOf]; omega⟩
        · go_wp2_with fail
          go_ret
          first | exact ⟨⟨_, rfl⟩, hbw.out⟩ | exact hbw.out
      · obtain rfl : i = n := by omega
        have hlt' : ¬ (i : Int) < i := by omega
        go_wp2_with fail
        go_ret
        first | exact ⟨⟨_, rfl⟩, hbw.out⟩ | exact hbw.out
end

section
open Go.RowKit

/-- Some bool is answered. -/
def AnsB (r : Ending) : Prop := ∃ b, r = .returned (.bool b)

set_option maxRecDepth 100000 in
set_option maxHeartbeats 8000000 in
theorem docsFew (ds : List DV) (mn : List SV) (hs : sbk mn + dbk ds ≤ 4000000) (A1 : Option Addr) (c1 : Nat) (A2 : Option Addr) (c2 : Nat) (most : Int) (w : World) (hx : DR w A1 ds) (hy : SR w A2 mn) : Calls Tryd.prog 23 #[pval A1 ds.length c1 A2 mn.length c2, .int .i64 most] w fun r w' => AnsB r ∧ Below w.heap.size w w' := by
  obtain ⟨n, hn⟩ : ∃ n, n = ds.length := ⟨_, rfl⟩
  obtain ⟨m, hm⟩ : ∃ m, m = mn.length := ⟨_, rfl⟩
  unfold pval
  have hbw := bnew5 w (.cells #[.slice A1 ds.length c1, .slice A2 mn.length c2] 41)
  have ha := Box.new w [.slice A1 ds.length c1, .slice A2 mn.length c2] 41
  have hsb := ssz_bk mn
  have hlen : n ≤ 4000000 := by have := dsz_bk ds; have := dsz_len ds; omega
  have hdk : Hid (dbk ds ≤ 4000000) := by show _ ≤ _; omega
  have q1 := Lib.hid (fun W h => docsMany (ssz mn) mn (Nat.le_refl _) (by omega) A2 c2 most 60 W h)
  rw [← hn, ← hm] at ha hbw ⊢
  rw [← hm] at q1
  have HN := Lib.hid (And.intro hn hm)
  clear hn hm hsb hs
  have hx2 := Lib.hid hx
  have hy2 := Lib.hid hy
  clear hx hy
  go_enter Tryd.func23, Tryd.ntmps23
  go_wp2_with fail
  generalize hW0 : w.alloc (.cells #[.slice A1 n c1, .slice A2 m c2] 41) = W0 at *
  have ha := Lib.hid ha
  have hbw := Lib.hid hbw
  clear hW0
  go_loopw [5] (fun u W => ∃ i : Nat, i ≤ n ∧ u = .int .i64 i ∧ W = W0) (fun u _ => n - (intOf u).toNat)
  case atStart => exact ⟨0, by omega, rfl, rfl⟩
  case round =>
    obtain ⟨i, hi, rfl, rfl⟩ := hrel
    have s0 := ha.out.two
    by_cases hlt : i < n
    · have hlt' : (i : Int) < n := by omega
      by_cases hm : (i : Int) ≤ most
      · obtain ⟨ad, d, rfl, hd, P1, pc, P2, pd, e0, e1, e2, e3, e4, e5, e6, e7, e8, -, -⟩ := (hx2.out.step hbw.out).el (i := i) (by rw [← HN.out.1]; exact hlt)
        clear hd e0 e1 e2 e3 e4 e6 e7 e8
        generalize d.ps.length = k at *
        by_cases hk : (40 : Int) < k
        · go_wp2_with fail
          go_ret
          first | exact ⟨⟨_, rfl⟩, hbw.out⟩ | exact hbw.out
        · go_wp2_with fail
          exact ⟨⟨i + 1, by omega, by go_num, by first | rfl | trivial⟩, by simp [intOf]; omega⟩
      · go_wp2_with fail
        go_loopw [6, 7] (fun v u W => ∃ i : Nat, i ≤ n ∧ u = .int .i64 i ∧ (∃ x : Int, v = .int .i64 x) ∧ Hid (Box W w.heap.size [.slice A1 n c1, .slice A2 m c2] ∧ Below w.heap.size w W)) (fun _ u _ => n - (intOf u).toNat)
        case atStart => exact ⟨0, by omega, rfl, ⟨0, rfl⟩, ha.out, hbw.out⟩
        case round =>
          clear s0
          obtain ⟨i, hi, rfl, ⟨x, rfl⟩, hst⟩ := hrel
          have s0 := hst.out.1.two
          by_cases hlt : i < n
          · have hlt' : (i : Int) < n := by omega
            by_cases hm : (i : Int) ≤ most
            · obtain ⟨ad, d, rfl, hd, P1, pc, P2, pd, e0, e1, e2, e3, e4, e5, e6, e7, e8, -, hy'⟩ := (hx2.out.step hst.out.2).el (i := i) (by rw [← HN.out.1]; exact hlt)
              have hdb := dbk_get hd
              have hdl := hdk.out
              unfold dbk1 at hdb
              have hbb := ssz_bk d.body
              have hq := docsMany (ssz d.body) d.body (Nat.le_refl _) (by omega) P2 pd most 60 wr hy'
              clear hd e0 e1 e2 e3 e4 e5 e7 e8 hdb hdl hbb hy'
              generalize d.body.length = k at *
              go_wp2_with fail
              refine hq.mono ?_
              rintro e1 w1 ⟨⟨r, rfl⟩, hb1⟩
              have hst2 : Hid (Box w1 w.heap.size [.slice (some ad) n c1, .slice A2 m c2] ∧ Below w.heap.size w w1) := ⟨hst.out.1.step hb1, bth5 hst.out.2 hb1⟩
              clear hb1 hq
              go_wp2_with fail
              exact ⟨⟨i + 1, by omega, by go_num, ⟨_, rfl⟩, hst2.out⟩, by simp [intOf]; omega⟩
            · by_cases hnm : (n : Int) ≤ most
              · exact absurd hlt' (by omega)
              · go_wp2_with fail
                go_ret
                first | exact ⟨⟨_, rfl⟩, hst.out.2⟩ | exact hst.out.2
          · obtain rfl : i = n := by omega
            have hlt' : ¬ (i : Int) < i := by omega
            by_cases hnm : (i : Int) ≤ most
            · exfalso; omega
            · go_wp2_with fail
              go_ret
              first | exact ⟨⟨_, rfl⟩, hst.out.2⟩ | exact hst.out.2
    · have hlt' : ¬ (i : Int) < n := by omega
      go_wp2_with fail
      clear hlt hlt' hi
      go_loopw [6, 7] (fun v u W => ∃ i : Nat, i ≤ n ∧ u = .int .i64 i ∧ (∃ x : Int, v = .int .i64 x) ∧ Hid (Box W w.heap.size [.slice A1 n c1, .slice A2 m c2] ∧ Below w.heap.size w W)) (fun _ u _ => n - (intOf u).toNat)
      case atStart => exact ⟨0, by omega, rfl, ⟨0, rfl⟩, ha.out, hbw.out⟩
      case round =>
        clear s0
        obtain ⟨i, hi, rfl, ⟨x, rfl⟩, hst⟩ := hrel
        have s0 := hst.out.1.two
        by_cases hlt : i < n
        · have hlt' : (i : Int) < n := by omega
          by_cases hm : (i : Int) ≤ most
          · obtain ⟨ad, d, rfl, hd, P1, pc, P2, pd, e0, e1, e2, e3, e4, e5, e6, e7, e8, -, hy'⟩ := (hx2.out.step hst.out.2).el (i := i) (by rw [← HN.out.1]; exact hlt)
            have hdb := dbk_get hd
            have hdl := hdk.out
            unfold dbk1 at hdb
            have hbb := ssz_bk d.body
            have hq := docsMany (ssz d.body) d.body (Nat.le_refl _) (by omega) P2 pd most 60 wr hy'
            clear hd e0 e1 e2 e3 e4 e5 e7 e8 hdb hdl hbb hy'
            generalize d.body.length = k at *
            go_wp2_with fail
            refine hq.mono ?_
            rintro e1 w1 ⟨⟨r, rfl⟩, hb1⟩
            have hst2 : Hid (Box w1 w.heap.size [.slice (some ad) n c1, .slice A2 m c2] ∧ Below w.heap.size w w1) := ⟨hst.out.1.step hb1, bth5 hst.out.2 hb1⟩
            clear hb1 hq
            go_wp2_with fail
            exact ⟨⟨i + 1, by omega, by go_num, ⟨_, rfl⟩, hst2.out⟩, by simp [intOf]; omega⟩
          · by_cases hnm : (n : Int) ≤ most
            · exact absurd hlt' (by omega)
            · go_wp2_with fail
              go_ret
              first | exact ⟨⟨_, rfl⟩, hst.out.2⟩ | exact hst.out.2
        · obtain rfl : i = n := by omega
          have hlt' : ¬ (i : Int) < i := by omega
          by_cases hnm : (i : Int) ≤ most
          · have hq := q1.out wr (hy2.out.step hst.out.2)
            go_wp2_with fail
            refine hq.mono ?_
            rintro e1 w1 ⟨⟨r, rfl⟩, hb1⟩
            have hst2 := Lib.hid (bth5 hst.out.2 hb1)
            clear hb1 hq
            go_wp2_with fail
            go_ret
            first | exact ⟨⟨_, rfl⟩, hst2.out⟩ | exact hst2.out
          · go_wp2_with fail
            go_ret
            first | exact ⟨⟨_, rfl⟩, hst.out.2⟩ | exact hst.out.2
end
end Go.Proofs.YtkmioieanopafaaDoor
