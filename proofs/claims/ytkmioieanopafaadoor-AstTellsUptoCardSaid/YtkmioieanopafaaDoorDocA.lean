/- The docs' copies: what the walk of Program keeps; rows of names copied. -/
import Derived.Test.YtkmioieanopafaaDoorAstZ
import Derived.Test.YtkmioieanopafaaDoorAstJ
import Derived.Test.YtkmioieanopafaaDoorHeldC
namespace Go.Proofs.YtkmioieanopafaaDoor
open Go.RowKit

/-- A row of names, copied by an append onto nothing. -/
theorem copyNames (W : World) (P : Option Addr) (r : List (List UInt8)) (cp : Nat) (h : RowS W P r.length r) (hlen : r.length ≤ 4000000) :
    ∃ A' c' w', (Builtin.append_ #[28, 28] 28 #[.slice none 0 0, .slice P r.length cp]).run Tryd.prog W = .ok (.slice A' r.length c') w' ∧ RowS (only w' (frB W.heap.size)) A' r.length r ∧ Below W.heap.size W w' ∧ W.grownBy w' none := by
  obtain ⟨i0, hi, hz0, hz1, hz2⟩ := info_parts info_str
  obtain ⟨v', w', hrun, hown, hgrow, _⟩ := run_append_any (P := Tryd.prog) W W.heap.size 28 28 9 i0 (.string ByteArray.empty) 1 16 Tryd.underlying28 hi hz0 hz1 hz2 rfl (by decide) (.slice none 0 0) 0 [] (World.ownsRow_nil _ _ _ _) W.heap.size P r.length cp (strs r) h (strs_oneCell r) (by unfold maxLen; omega) (by omega) (Nat.le_refl _)
  simp only [List.nil_append, Nat.zero_add] at hown
  have hb : Below W.heap.size W w' := (Below.refl _ _).grown hgrow (Nat.le_refl _) (by simp [Value.ownBlock])
  rcases hown.2 with ⟨rfl, h0⟩ | ⟨g, cap, cur, rfl, hg, hgb, hl, hc, hm, hx⟩
  · have hn : r = [] := List.eq_nil_of_length_eq_zero h0
    subst hn
    exact ⟨none, 0, w', hrun, ⟨rfl, fun h => absurd h (by simp)⟩, hb, hgrow⟩
  · refine ⟨some ⟨g, 0, none⟩, cap, w', hrun, ⟨by simp [strs], fun hn => ⟨_, rfl, ?_, fun j u hu => ?_⟩⟩, hb, hgrow⟩
    · rw [only_size]
      exact (Array.getElem?_eq_some_iff.1 hgb).1
    · rw [← hx] at hu
      rw [add_at, Nat.zero_add]
      refine only_cell_mk ?_ (by unfold frB; simpa using hg)
      rw [cell_of_row _ _ j _ _ _ hgb]
      rw [List.getElem?_take] at hu
      split at hu
      · simpa using hu
      · cases hu

/-- Blocks from lo on, below hi, but one. -/
def frM (lo hi g : Nat) (i : Nat) : Bool := decide (lo ≤ i ∧ i < hi ∧ i ≠ g)
theorem frM_new (W : World) {k : Nat} (o : Obj) : Sub (only W (frB k)) (only (W.alloc o) (frM k (W.heap.size + 1) W.heap.size)) := Sub.only_of (by simp) fun p v hp hv => by
  have hlt := World.block_lt_of_cell? W p hv
  refine ⟨(bnew5 W o).cell hlt |>.trans hv, ?_⟩
  unfold frB frM at *
  simp at hp ⊢
  omega
theorem frM_of (W : World) {k hi g : Nat} (hh : W.heap.size ≤ hi) (hk : g < k) : Sub (only W (frB k)) (only W (frM k hi g)) := Sub.only_of (Nat.le_refl _) fun p v hp hv => by
  have hlt := World.block_lt_of_cell? W p hv
  refine ⟨hv, ?_⟩
  unfold frB frM at *
  simp at hp ⊢
  omega
theorem frM_lo (W : World) {k k' hi g : Nat} (hk : k' ≤ k) : Sub (only W (frM k hi g)) (only W (frM k' hi g)) := Sub.only_of (Nat.le_refl _) fun p v hp hv => by
  refine ⟨hv, ?_⟩
  unfold frM at *
  simp at hp ⊢
  omega
theorem frM_below {W W' : World} {lo hi g : Nat} (hb : Below W.heap.size W W') : Sub (only W (frM lo hi g)) (only W' (frM lo hi g)) := Sub.only_of hb.size fun _ _ hp hv => ⟨cst5 hb hv, hp⟩
theorem frM_set (W : World) {lo hi g o : Nat} (u : Value) : Sub (only W (frM lo hi g)) (only (W.setCell ⟨g, o, none⟩ u) (frM lo hi g)) := Sub.only_of (by simp [World.setCell]) fun p v hp hv => by
  refine ⟨?_, hp⟩
  rw [World.cell?_setCell_other _ _ _ _ ?_]
  · exact hv
  · rintro rfl
    unfold frM at hp
    simp at hp
theorem frM_setlo (W : World) {lo hi g b o : Nat} (u : Value) (h : b < lo) : Sub (only W (frM lo hi g)) (only (W.setCell ⟨b, o, none⟩ u) (frM lo hi g)) := Sub.only_of (by simp [World.setCell]) fun p v hp hv => by
  refine ⟨?_, hp⟩
  rw [World.cell?_setCell_other _ _ _ _ ?_]
  · exact hv
  · rintro rfl
    unfold frM at hp
    simp at hp
    omega
theorem frM_frB (W : World) {k lo hi g : Nat} (h : k ≤ lo) : Sub (only W (frM lo hi g)) (only W (frB k)) := Sub.only_of (Nat.le_refl _) fun p v hp hv => by
  refine ⟨hv, ?_⟩
  unfold frM frB at *
  simp at hp ⊢
  omega
/-- Blocks from lo on, below hi. -/
def frI (lo hi : Nat) (i : Nat) : Bool := decide (lo ≤ i ∧ i < hi)
theorem frI_of (W : World) (k : Nat) : Sub (only W (frB k)) (only W (frI k W.heap.size)) := Sub.only_of (Nat.le_refl _) fun p v hp hv => by
  have hlt := World.block_lt_of_cell? W p hv
  refine ⟨hv, ?_⟩
  unfold frB frI at *
  simp at hp ⊢
  omega
theorem frI_below {W W' : World} {lo hi : Nat} (hb : Below W.heap.size W W') : Sub (only W (frI lo hi)) (only W' (frI lo hi)) := Sub.only_of hb.size fun _ _ hp hv => ⟨cst5 hb hv, hp⟩
theorem frI_set (W : World) {lo hi b o : Nat} (u : Value) (h : b < lo ∨ hi ≤ b) : Sub (only W (frI lo hi)) (only (W.setCell ⟨b, o, none⟩ u) (frI lo hi)) := Sub.only_of (by simp [World.setCell]) fun p v hp hv => by
  refine ⟨?_, hp⟩
  rw [World.cell?_setCell_other _ _ _ _ ?_]
  · exact hv
  · rintro rfl
    unfold frI at hp
    simp at hp
    omega
theorem frM_grown {W W' : World} {lo hi g : Nat} {ob : Option Nat} (hg : W.grownBy W' ob) (ho : ∀ b, ob = some b → hi ≤ b) : Sub (only W (frM lo hi g)) (only W' (frM lo hi g)) := Sub.only_of hg.size fun p v hp hv => by
  have hlt := World.block_lt_of_cell? W p hv
  refine ⟨(World.cell?_of_block (hg.block p.block hlt (fun e => ?_))).trans hv, hp⟩
  have := ho _ e.symm
  unfold frM at hp
  simp at hp
  omega

theorem info_rdecl : (Tryd.prog.info? 89).map (fun i => (i.zero, i.size, i.bytes)) = some (some (.agg #[.int .i64 0, .string ⟨#[]⟩, .int .i64 0, .int .i64 0, .int .i64 0, .slice none 0 0, .slice none 0 0, .int .i64 0, .int .i64 0]), 9, 112) := by kernel_rfl

/-- What the walk keeps between two declarations. -/
structure PJ (w : World) (A1 : Option Addr) (n c1 : Nat) (A2 : Option Addr) (m c2 : Nat) (B2 : Option Addr) (d2 g3 Bl : Nat) (mn : List SV) (v : Value) (es : List DV) (W : World) : Prop where
  bel : Below w.heap.size w W
  bp : Box W w.heap.size [.slice A1 n c1, .slice A2 m c2]
  br : Box W (w.heap.size + 1) [.slice none 0 0, .slice none 0 0]
  bo : Box W g3 [v, .slice B2 m d2]
  sr : SR (only W (frM (w.heap.size + 2) Bl g3)) B2 mn
  gr : GrowB kdD 89 Bl v es W
  le : w.heap.size + 2 ≤ g3 ∧ g3 < Bl ∧ Bl ≤ W.heap.size
section
variable {w : World} {A1 : Option Addr} {n c1 : Nat} {A2 : Option Addr} {m c2 : Nat} {B2 : Option Addr} {d2 g3 Bl : Nat} {mn : List SV} {v : Value} {es : List DV} {W W' : World}
theorem PJ.step (h : PJ w A1 n c1 A2 m c2 B2 d2 g3 Bl mn v es W) (hb : Below W.heap.size W W') : PJ w A1 n c1 A2 m c2 B2 d2 g3 Bl mn v es W' :=
  ⟨bth5 h.bel hb, h.bp.step hb, h.br.step hb, h.bo.step hb, h.sr.sub (frM_below hb), h.gr.step hb, h.le.1, h.le.2.1, Nat.le_trans h.le.2.2 hb.size⟩
/-- One more declaration, and it is stored. -/
theorem PJ.pushed (h : PJ w A1 n c1 A2 m c2 B2 d2 g3 Bl mn v es W) (hb : Below W.heap.size W W') {e : DV} {cs : List Value} (hc : DC (only W' (frB W.heap.size)) e cs) (hlen : es.length ≤ 1000000000) :
    ∃ g cap w3, (Builtin.append_ #[43, 43] 43 #[v, .slice (some ⟨W'.heap.size, 0, none⟩) 1 1]).run Tryd.prog (W'.alloc (.cells cs.toArray 89)) = .ok (.slice (some ⟨g, 0, none⟩) (es.length + 1) cap) w3
      ∧ Box w3 g3 [v, .slice B2 m d2]
      ∧ PJ w A1 n c1 A2 m c2 B2 d2 g3 Bl mn (.slice (some ⟨g, 0, none⟩) (es.length + 1) cap) (es ++ [e]) (w3.setCell ⟨g3, 0, none⟩ (.slice (some ⟨g, 0, none⟩) (es.length + 1) cap)) := by
  obtain ⟨i0, hi, hz0, hz1, hz2⟩ := info_parts info_rdecl
  obtain ⟨g, cap, w3, hrun, hg, hgrow⟩ := h.gr.push (P := Tryd.prog) (S := 43) (ty := 43) h.le.2.2 hb hc Tryd.underlying43 hi hz0 hz1 hz2 rfl (by omega) hlen
  have h' := (h.step hb).step (bnew5 W' (.cells cs.toArray 89))
  have hl := h.le
  have hown : ∀ b, v.ownBlock = some b → Bl ≤ b := fun b e => by
    obtain ⟨vs, k1, -⟩ := h.gr
    exact (own_lt k1 b e).1
  have hx : ∀ b vs, b < Bl → Box (W'.alloc (.cells cs.toArray 89)) b vs → Box w3 b vs := fun b vs hbl hbx => hbx.grown6 hgrow (fun e => by have := hown b e; omega)
  have hbo := hx g3 _ hl.2.1 h'.bo
  refine ⟨g, cap, w3, hrun, hbo, ?_, ?_, ?_, ?_, ?_, ?_, ?_⟩
  · refine Below.setCell ((h'.bel.grown hgrow h'.bel.size fun b e => ?_)) (show w.heap.size ≤ g3 by omega) _
    have := hown b e
    omega
  · exact (hx _ _ (by omega) h'.bp).far (show g3 ≠ w.heap.size by omega) _
  · exact (hx _ _ (by omega) h'.br).far (show g3 ≠ w.heap.size + 1 by omega) _
  · exact hbo.set 0 _
  · exact (h'.sr.sub (frM_grown hgrow hown)).sub (frM_set _ _)
  · exact hg.set hl.2.1 _
  · refine ⟨hl.1, hl.2.1, ?_⟩
    have := hgrow.size
    have e : (w3.setCell ⟨g3, 0, none⟩ (.slice (some ⟨g, 0, none⟩) (es.length + 1) cap)).heap.size = w3.heap.size := by simp [World.setCell]
    have k := h'.le.2.2
    omega
end
end Go.Proofs.YtkmioieanopafaaDoor
