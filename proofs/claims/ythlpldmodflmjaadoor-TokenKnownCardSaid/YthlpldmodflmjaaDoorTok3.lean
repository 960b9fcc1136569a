/- The contract of layer 5's All. -/
import Derived.Test.YthlpldmodflmjaaDoorTok2
import Derived.Test.YthlpldmodflmjaaDoorTokR
namespace Go.Proofs.YthlpldmodflmjaaDoor
open Go.RowKit

theorem Box.grown {W W' : World} {row : Option Nat} {g : Nat} {vs : List Value} (h : Box W g vs) (hg : W.grownBy W' row) (hne : some g ≠ row) : Box W' g vs := fun i v hv => by
  obtain ⟨h1, h2⟩ := h i v hv
  have hlt := World.block_lt_of_cell? W ⟨g, i, none⟩ h1
  have hb := hg.block g hlt hne
  refine ⟨?_, ?_⟩
  · rw [← h1]; unfold World.cell?; simp only [hb]
  · rw [← h2]; unfold World.frozen?; simp only [hb]
theorem ownsRow_step {W W' : World} {B : Nat} {T : TypeId} {z : Nat} {v : Value} {n : Nat} {xs : List Value} (h : W.ownsRow B T z v n xs) (hb : Below W.heap.size W W') : W'.ownsRow B T z v n xs := by
  refine ⟨h.1, ?_⟩
  rcases h.2 with h2 | ⟨g, cap, cur, hv, hg, hh, r⟩
  · exact Or.inl h2
  · exact Or.inr ⟨g, cap, cur, hv, hg, by rw [hb.block g (Array.getElem?_eq_some_iff.1 hh).1]; exact hh, r⟩
/-- A token is added to a row of one's own; all other blocks stay. -/
theorem wpList_pushN {ops : Array Oper} {rest : List Oper} {o : Oper} {a : Act} {Q : Exit → Act → World → Prop} (hgd : o.guard = none) (s x : Operand)
    (ho : o.op = .call { callee := .builtin .append, args := #[s, x], argTypes := #[45, 45] })
    (B : Nat) (v : Value) (r : List TokV) (t : TokV) (wr : World) (hs : a.eval s = v) (hB : B ≤ wr.heap.size) (hg : wr.ownsRow B 34 5 v r.length (tcells r)) (hx : a.eval x = .slice (some ⟨wr.heap.size, 0, none⟩) 1 1) (hlen : r.length ≤ 1000000000)
    (h : ∀ v' w1, w1.ownsRow B 34 5 v' (r ++ [t]).length (tcells (r ++ [t])) → (wr.alloc (.cells #[.int .i64 t.k, .string ⟨t.x.toArray⟩, .int .i64 t.n, .int .i64 t.l, .int .i64 t.c] 34)).grownBy w1 v.ownBlock → wpList Tryd.prog ops Q rest (a.put o.dst v') w1) : wpList Tryd.prog ops Q (o :: rest) a (wr.alloc (.cells #[.int .i64 t.k, .string ⟨t.x.toArray⟩, .int .i64 t.n, .int .i64 t.l, .int .i64 t.c] 34)) := by
  obtain ⟨i0, hi0, hz0, hz1, hz2⟩ := info_parts info_tok
  have hr : Reads (wr.alloc (.cells #[.int .i64 t.k, .string ⟨t.x.toArray⟩, .int .i64 t.n, .int .i64 t.l, .int .i64 t.c] 34)) (wr.heap.size + 1) 5 (some ⟨wr.heap.size, 0, none⟩) 1 (tcells [t]) :=
    ⟨by rw [tcells_len]; rfl, fun _ => ⟨_, rfl, by simp, fun j u hu => by
      match j with
      | 0 => simp [tcells, TokV.cells] at hu; subst hu; simp [Addr.add]
      | 1 => simp [tcells, TokV.cells] at hu; subst hu; simp [Addr.add]
      | 2 => simp [tcells, TokV.cells] at hu; subst hu; simp [Addr.add]
      | 3 => simp [tcells, TokV.cells] at hu; subst hu; simp [Addr.add]
      | 4 => simp [tcells, TokV.cells] at hu; subst hu; simp [Addr.add]
      | j + 5 => simp [tcells, TokV.cells] at hu⟩⟩
  refine wpList_append_any _ hgd s x 45 ho B 34 i0 _ 5 48 Tryd.underlying45 hi0 hz0 hz1 hz2 rfl (by omega) v r.length (tcells r) hs (hg.alloc _) (wr.heap.size + 1) (some ⟨wr.heap.size, 0, none⟩) 1 1 (tcells [t]) hx hr (tcells_oneCell _)
    (by unfold maxLen; omega) (by omega) (by simp; omega) ?_
  intro v' w1 hown' hg' _
  exact h v' w1 (by simpa [tcells_append] using hown') hg'
/-- A row of one's own is new, and may be written over. -/
theorem fresh_own {w W : World} {B : Nat} {v : Value} {r : List TokV} (h : W.ownsRow B 34 5 v r.length (tcells r)) (hB : w.heap.size ≤ B) (hb : Below w.heap.size w W) : FreshT w v r W := by
  rcases h.2 with ⟨hv, h0⟩ | ⟨g, cap, cur, hv, hg, hh, _⟩
  · have hr : r = [] := List.eq_nil_of_length_eq_zero h0
    subst hr
    exact ⟨none, 0, hv, ⟨rfl, Reads.none_⟩, (fun ad e => by cases e), hb⟩
  · refine ⟨some ⟨g, 0, none⟩, cap, hv, ⟨rfl, by have := h; rw [hv] at this; exact Reads.of_own this⟩, fun ad e => ?_, hb⟩
    injection e with e
    subst e
    refine ⟨⟨g, 0, rfl⟩, Nat.le_trans hB hg, fun j _ => ?_⟩
    rw [show Addr.add ⟨g, 0, none⟩ j = ⟨g, 0 + j, none⟩ by unfold Addr.add; split <;> simp_all]
    unfold World.frozen?
    simp only [hh]
    simp

/-- A token that is told stands at its position; behind it the next place is. -/
theorem next_moved (s : ByteArray) (p : Nat) (hp : p ≤ s.size) (he : (nextP s.data.toList p).2.2.2.2 = 0) :
    ∃ q, q ≤ (nextP s.data.toList p).2.1 ∧ (nextP s.data.toList p).2.1 ≤ s.size ∧ (nextP s.data.toList p).1.l = ((spot s.data.toList q).1 : Nat) ∧ (nextP s.data.toList p).1.c = ((spot s.data.toList q).2 : Nat) ∧ (⟨(nextP s.data.toList p).1.x.toArray⟩ : ByteArray) = s.extract q (nextP s.data.toList p).2.1 := by
  have hl := size_len_ s
  have hq := skip_le s.data.toList p (by omega)
  unfold nextP at he ⊢
  obtain ⟨q, hqq⟩ : ∃ q, q = p + skipL (s.data.toList.drop p) false := ⟨_, rfl⟩
  rw [← hqq] at hq he ⊢
  rw [nextQ_piece] at he ⊢
  have hle := pieceQ_le (L := s.data.toList) (q := q) hq
  by_cases h : (pieceQ s.data.toList q).2.2.2 = 0
  · rw [if_pos h]
    refine ⟨q, hle.1, by simp only; omega, rfl, rfl, ?_⟩
    have hx : (s.extract q (pieceQ s.data.toList q).2.1).data.toList = (s.data.toList.drop q).take ((pieceQ s.data.toList q).2.1 - q) := by
      rw [extract_span5]
      unfold span
      rw [List.drop_take]
    simp only
    rw [← hx]
  · rw [if_neg h] at he
    exact absurd he h

/-- What All keeps. -/
structure KM (w : World) (g3 g6 B : Nat) (v : Value) (acc : List TokV) (l c : Int) (W : World) : Prop where
  own : W.ownsRow B 34 5 v acc.length (tcells acc)
  f : Box W g3 [.int .i64 0, .int .i64 0, .int .i64 0]
  a : Box W g6 [.int .i64 l, .int .i64 c]
  below : Below w.heap.size w W
  l3 : w.heap.size ≤ g3
  l36 : g3 < g6
  l6 : g6 < B
  sz : B ≤ W.heap.size
theorem KM.step {w W W' : World} {g3 g6 B : Nat} {v : Value} {acc : List TokV} {l c : Int} (h : KM w g3 g6 B v acc l c W) (hb : Below W.heap.size W W') : KM w g3 g6 B v acc l c W' :=
  ⟨ownsRow_step h.own hb, h.f.step hb, h.a.step hb, bth5 h.below hb, h.l3, h.l36, h.l6, Nat.le_trans h.sz hb.size⟩

set_option maxHeartbeats 4000000 in
set_option maxRecDepth 100000 in
theorem tokAll_ : TokAllC := by
  intro s w hL hs
  have hl := size_len_ s
  obtain ⟨R, hR⟩ : ∃ R, R = allV s.data.toList := ⟨_, rfl⟩
  rw [← hR]
  have hx0 := (Box.new w [.int .i64 0, .int .i64 0, .int .i64 0] 36).step (bnew5 _ (.cells #[.int .i64 1, .int .i64 1] 32))
  have hx1 := Box.new (w.alloc (.cells #[.int .i64 0, .int .i64 0, .int .i64 0] 36)) [.int .i64 1, .int .i64 1] 32
  have hb0 := bth5 (bnew5 w (.cells #[.int .i64 0, .int .i64 0, .int .i64 0] 36)) (bnew5 _ (.cells #[.int .i64 1, .int .i64 1] 32))
  have hsz : ((w.alloc (.cells #[.int .i64 0, .int .i64 0, .int .i64 0] 36)).alloc (.cells #[.int .i64 1, .int .i64 1] 32)).heap.size = w.heap.size + 2 := by simp
  rw [show (w.alloc (.cells #[.int .i64 0, .int .i64 0, .int .i64 0] 36)).heap.size = w.heap.size + 1 by simp] at hx1
  have hst0 : Hid (R = allF (s.size + 2) s.data.toList 0 [] ∧ KM w w.heap.size (w.heap.size + 1) (w.heap.size + 2) (.slice none 0 0) [] ((spot s.data.toList 0).1 : Nat) ((spot s.data.toList 0).2 : Nat) ((w.alloc (.cells #[.int .i64 0, .int .i64 0, .int .i64 0] 36)).alloc (.cells #[.int .i64 1, .int .i64 1] 32)) ∧ ([] : List TokV).length ≤ 0) :=
    ⟨by rw [hR]; unfold allV; rw [hl], ⟨World.ownsRow_nil _ _ _ _, hx0, hx1, hb0, Nat.le_refl _, Nat.lt_succ_self _, Nat.lt_succ_self _, by omega⟩, Nat.le_refl _⟩
  have hL0 := Lib.hid hL
  clear hR hx0 hx1 hb0 hsz hL
  go_enter Tryd.func13, Tryd.ntmps13
  go_wp2_with fail
  generalize (w.alloc (.cells #[.int .i64 0, .int .i64 0, .int .i64 0] 36)).alloc (.cells #[.int .i64 1, .int .i64 1] 32) = W0 at *
  obtain ⟨B, hB⟩ : ∃ B, B = w.heap.size + 2 := ⟨_, rfl⟩
  obtain ⟨g6, hg6⟩ : ∃ g6, g6 = w.heap.size + 1 := ⟨_, rfl⟩
  obtain ⟨g3, hg3⟩ : ∃ g3, g3 = w.heap.size := ⟨_, rfl⟩
  rw [← hB, ← hg6, ← hg3] at hst0
  rw [← hg6, ← hg3]
  clear hB hg6
  try clear hg3
  go_loopw [4, 5] (fun v pl W => ∃ (p g : Nat) (acc : List TokV), p ≤ s.size ∧ s.size + 2 ≤ g + p ∧ pl = .int .i64 p ∧ Hid (R = allF g s.data.toList p acc ∧ KM w g3 g6 B v acc ((spot s.data.toList p).1 : Nat) ((spot s.data.toList p).2 : Nat) W ∧ acc.length ≤ p)) (fun _ pl _ => s.size + 1 - (intOf pl).toNat)
  case atStart => exact ⟨0, s.size + 2, [], by omega, by omega, rfl, hst0⟩
  case round =>
    obtain ⟨p, g, acc, hp, hg, rfl, hst⟩ := hrel
    clear hst0
    obtain ⟨g, rfl⟩ : ∃ g', g = g' + 1 := ⟨g - 1, by omega⟩
    have q1 := fun w hL => tokAfter s p hp (by omega) _ _ ⟨rfl, rfl⟩ w hL
    have hon := nextP_on s.data.toList p (by omega)
    have hmv := next_moved s p hp
    have hR : R = allF (g + 1) s.data.toList p acc := hst.out.1
    unfold allF at hR
    simp only at hR
    obtain ⟨⟨k, x, m, l, c⟩, nx, fl, fc, fe, hN⟩ : ∃ t nx fl fc fe, nextP s.data.toList p = (t, nx, fl, fc, fe) := ⟨_, _, _, _, _, rfl⟩
    rw [hN] at q1 hR hon hmv
    simp only at hR hon hmv
    obtain ⟨⟨sl, sc⟩, hsp⟩ : ∃ b, spot s.data.toList p = b := ⟨_, rfl⟩
    have hk0 := hst.out.2.1
    rw [hsp] at q1 hk0
    simp only at q1 hk0
    have hlen0 := Lib.hid hst.out.2.2
    have HR := Lib.hid hR
    have hk := Lib.hid hk0
    clear hN hR hst hk0 hsp
    unfold nextA TokV.cells at q1
    simp only at q1
    obtain ⟨a0, a1⟩ := hk.out.a.two
    go_wp2_with fail
    refine (q1 _ (hL0.out.below hk.out.below)).mono ?_
    rintro e w1 ⟨rfl, hb1⟩
    clear q1 a0 a1
    have hk1 := Lib.hid (hk.out.step hb1)
    clear hk hb1
    have hft := Box.new (w1.alloc (.cells #[.int .i64 k, .string ⟨x.toArray⟩, .int .i64 m, .int .i64 l, .int .i64 c] 34)) [.int .i64 fl, .int .i64 fc, .int .i64 fe] 36
    rw [show (w1.alloc (.cells #[.int .i64 k, .string ⟨x.toArray⟩, .int .i64 m, .int .i64 l, .int .i64 c] 34)).heap.size = w1.heap.size + 1 by simp] at hft
    have htk := (Box.new w1 [.int .i64 k, .string ⟨x.toArray⟩, .int .i64 m, .int .i64 l, .int .i64 c] 34).step (bnew5 _ (.cells #[.int .i64 fl, .int .i64 fc, .int .i64 fe] 36))
    have hb2 := bth5 (bnew5 w1 (.cells #[.int .i64 k, .string ⟨x.toArray⟩, .int .i64 m, .int .i64 l, .int .i64 c] 34)) (bnew5 _ (.cells #[.int .i64 fl, .int .i64 fc, .int .i64 fe] 36))
    have hft : Box ((w1.alloc (.cells #[.int .i64 k, .string ⟨x.toArray⟩, .int .i64 m, .int .i64 l, .int .i64 c] 34)).alloc (.cells #[.int .i64 fl, .int .i64 fc, .int .i64 fe] 36)) (w1.heap.size + 1) [.int .i64 fl, .int .i64 fc, .int .i64 fe] := hft
    have htk : Box ((w1.alloc (.cells #[.int .i64 k, .string ⟨x.toArray⟩, .int .i64 m, .int .i64 l, .int .i64 c] 34)).alloc (.cells #[.int .i64 fl, .int .i64 fc, .int .i64 fe] 36)) w1.heap.size [.int .i64 k, .string ⟨x.toArray⟩, .int .i64 m, .int .i64 l, .int .i64 c] := htk
    have hk2 := Lib.hid (hk1.out.step hb2)
    have hsz1 := hk1.out.sz
    by_cases hfe : fe = 0
    · subst hfe
      obtain ⟨q, mq1, mq2, mq3, mq4, mq5⟩ := hmv rfl
      have q4 := fun w => tokMovedIn s q nx mq1 mq2 (by omega) w
      rw [← mq3, ← mq4, ← mq5] at q4
      clear mq3 mq4 mq5 hmv
      have HSZ : Hid (((w1.alloc (.cells #[.int .i64 k, .string ⟨x.toArray⟩, .int .i64 m, .int .i64 l, .int .i64 c] 34)).alloc (.cells #[.int .i64 fl, .int .i64 fc, .int .i64 0] 36)).heap.size = w1.heap.size + 1 + 1) := by
        show _ = _
        simp
      have HOWN : Hid (∀ b, u4.ownBlock = some b → B ≤ b ∧ b < w1.heap.size) := fun b hb => hk1.out.own.lt b hb
      have hlen : acc.length ≤ 1000000000 := by have := hlen0.out; omega
      have e0 := (htk 0 _ rfl).1
      have e1 := (htk 1 _ rfl).1
      have e2 := (htk 2 _ rfl).1
      have e3 := (htk 3 _ rfl).1
      have e4 := (htk 4 _ rfl).1
      have hpush : Hid (∀ w2, (((w1.alloc (.cells #[.int .i64 k, .string ⟨x.toArray⟩, .int .i64 m, .int .i64 l, .int .i64 c] 34)).alloc (.cells #[.int .i64 fl, .int .i64 fc, .int .i64 0] 36)).alloc (.cells #[.int .i64 k, .string ⟨x.toArray⟩, .int .i64 m, .int .i64 l, .int .i64 c] 34)).grownBy w2 u4.ownBlock → Box w2 w1.heap.size [.int .i64 k, .string ⟨x.toArray⟩, .int .i64 m, .int .i64 l, .int .i64 c] ∧ Box w2 g3 [.int .i64 0, .int .i64 0, .int .i64 0] ∧ Box w2 g6 [.int .i64 sl, .int .i64 sc] ∧ Below w.heap.size w w2 ∧ B ≤ w2.heap.size) := fun w2 hgr => by
        have h6 := hk2.out.l6
        have h36 := hk2.out.l36
        have hl3 := hk2.out.l3
        refine ⟨(htk.step (bnew5 _ _)).grown hgr (fun e => ?_), (hk2.out.f.step (bnew5 _ _)).grown hgr (fun e => ?_), (hk2.out.a.step (bnew5 _ _)).grown hgr (fun e => ?_), (hk2.out.below.alloc hk2.out.below.size _).grown hgr ?_ (fun b hb => ?_), ?_⟩
        · have := HOWN.out _ e.symm; omega
        · have := HOWN.out _ e.symm; omega
        · have := HOWN.out _ e.symm; omega
        · have := hk2.out.below.size; simp at this ⊢; omega
        · have := HOWN.out _ hb; omega
        · have := hgr.size
          have h2 := hk2.out.sz
          simp at this h2
          omega
      by_cases hk3 : k = 3
      · have hRR : Hid (R = (acc ++ [(⟨3, x, m, l, c⟩ : TokV)], 0, 0, 0)) := by show R = _; rw [HR.out, if_neg (by simp), if_pos hk3, hk3]
        subst hk3
        clear q4
        go_wp2_with (first
          | (at_builtin
             refine wpList_pushN rfl (.tmp 23) (.tmp 25) rfl B _ acc ⟨3, x, m, l, c⟩ _ rfl ?hB ?hg ?hx ?hl ?_
             case hB => exact hk2.out.sz
             case hg => exact hk2.out.own
             case hx => rw [HSZ.out]; rfl
             case hl => exact hlen
             intro v' w2 hown' hgr
             have hbx := Lib.hid (hpush.out w2 hgr)
             have hown' := Lib.hid hown'
             clear hgr
             have kk := (hbx.out.1 0 _ rfl).1
             obtain ⟨d0, d1, d2⟩ := hbx.out.2.1.three
             have z0 := (hbx.out.2.1 0 _ rfl).2
             have z1 := (hbx.out.2.1 1 _ rfl).2
             have z2 := (hbx.out.2.1 2 _ rfl).2))
        refine bodyPost_ret (v := .tuple #[v', .agg #[.int .i64 0, .int .i64 0, .int .i64 0]]) (by simp [results, Tryd.results13, go_sem, d0, d1, d2]) rfl ?_
        rw [hRR.out]
        have hlt0 : g3 < B := Nat.lt_trans hk2.out.l36 hk2.out.l6
        have hl3 := hk2.out.l3
        have o1 := ownsRow_setCell_below (ownsRow_setCell_below (ownsRow_setCell_below hown'.out (a := ⟨g3, 0, none⟩) hlt0 (.int .i64 0)) (a := ⟨g3, 1, none⟩) hlt0 (.int .i64 0)) (a := ⟨g3, 2, none⟩) hlt0 (.int .i64 0)
        exact ⟨v', rfl, fresh_own o1 (by omega) (((hbx.out.2.2.2.1.setCell hl3 _).setCell hl3 _).setCell hl3 _)⟩
      · have hRR : Hid (R = allF g s.data.toList nx (acc ++ [(⟨k, x, m, l, c⟩ : TokV)])) := by show R = _; rw [HR.out, if_neg (by simp), if_neg hk3]
        have hon2 := Lib.hid (And.intro hon.1 (hon.2 rfl hk3))
        go_wp2_with (first
          | (at_builtin
             refine wpList_pushN rfl (.tmp 23) (.tmp 25) rfl B _ acc ⟨k, x, m, l, c⟩ _ rfl ?hB ?hg ?hx ?hl ?_
             case hB => exact hk2.out.sz
             case hg => exact hk2.out.own
             case hx => rw [HSZ.out]; rfl
             case hl => exact hlen
             intro v' w2 hown' hgr
             have hbx := Lib.hid (hpush.out w2 hgr)
             have hown' := Lib.hid hown'
             clear hgr
             obtain ⟨kk0, kk1, kk2, kk3, kk4⟩ := hbx.out.1.five5))
        refine (q4 _).mono ?_
        rintro e w3 ⟨rfl, hb3⟩
        clear q4 kk0 kk1 kk2 kk3 kk4 e0 e1 e2 e3 e4
        have hl6 := hk2.out.l6
        have hl36 := hk2.out.l36
        have hl3 := hk2.out.l3
        have hk3' : KM w g3 g6 B v' (acc ++ [(⟨k, x, m, l, c⟩ : TokV)]) ((spot s.data.toList nx).1 : Nat) ((spot s.data.toList nx).2 : Nat) ((w3.setCell ⟨g6, 0, none⟩ (.int .i64 ((spot s.data.toList nx).1 : Nat))).setCell ⟨g6, 1, none⟩ (.int .i64 ((spot s.data.toList nx).2 : Nat))) :=
          ⟨ownsRow_setCell_below (ownsRow_setCell_below (ownsRow_step hown'.out hb3) hl6 _) hl6 _, ((hbx.out.2.1.step hb3).far (by show g6 ≠ g3; omega) _).far (by show g6 ≠ g3; omega) _, (((hbx.out.2.2.1.step hb3).set 0 _).set 1 _), ((bth5 hbx.out.2.2.2.1 hb3).setCell (by show w.heap.size ≤ g6; omega) _).setCell (by show w.heap.size ≤ g6; omega) _, hl3, hl36, hl6, by have := hb3.size; have := hbx.out.2.2.2.2; simp; omega⟩
        have HK3 := Lib.hid hk3'
        obtain ⟨a0, a1⟩ := (hbx.out.2.2.1.step hb3).two
        have y0 := ((hbx.out.2.2.1.step hb3) 0 _ rfl).2
        have y1 := ((hbx.out.2.2.1.step hb3) 1 _ rfl).2
        clear hk3' hbx hown' hb3 hpush hl6 hl36 hl3
        go_wp2_with fail
        exact ⟨⟨nx, g, acc ++ [(⟨k, x, m, l, c⟩ : TokV)], by have := hon2.out.1; omega, by have := hon2.out.2; omega, by first | rfl | trivial, ⟨hRR.out, HK3.out, by have := hlen0.out; have := hon2.out.2; simp; omega⟩⟩, by have := hon2.out.2; have := hon2.out.1; simp [intOf]; omega⟩
    · have hRR : Hid (R = ([], fl, fc, fe)) := by show R = _; rw [HR.out, if_pos hfe]
      have m1 : g3 ≠ w1.heap.size + 1 := by
        have h1 := hk2.out.l36
        have h2 := hk2.out.l6
        omega
      have hl3 := Lib.hid hk2.out.l3
      have hbw := Lib.hid hk2.out.below
      have hbx2 := hk2.out.f
      clear HR hon hk1 hmv
      go_wp2_with fail
      generalize (w1.alloc (.cells #[.int .i64 k, .string ⟨x.toArray⟩, .int .i64 m, .int .i64 l, .int .i64 c] 34)).alloc (.cells #[.int .i64 fl, .int .i64 fc, .int .i64 fe] 36) = V at *
      have d0 := (hbx2 0 _ rfl).1
      have d1 := (hbx2 1 _ rfl).1
      have d2 := (hbx2 2 _ rfl).1
      have z0 := (hbx2 0 _ rfl).2
      have z1 := (hbx2 1 _ rfl).2
      have z2 := (hbx2 2 _ rfl).2
      have s0 := hft.drew.three
      go_region_held3 (fun w' => w'.cell? ⟨w1.heap.size + 1, 0, none⟩ = some (.int .i64 fl) ∧ w'.cell? ⟨w1.heap.size + 1, 1, none⟩ = some (.int .i64 fc) ∧ w'.cell? ⟨w1.heap.size + 1, 2, none⟩ = some (.int .i64 fe)) (first | with_reducible exact s0 | with_reducible exact (hft.far3 m1 _ _ _).drew.three)
        (fail)
      all_goals
        (go_wp2_with fail
         refine bodyPost_ret (v := .tuple #[.slice none 0 0, .agg #[.int .i64 fl, .int .i64 fc, .int .i64 fe]]) (by simp [results, Tryd.results13, go_sem, d0, d1, d2]) rfl ?_
         rw [hRR.out]
         exact ⟨_, rfl, fresh_own (World.ownsRow_nil _ w.heap.size _ _) (Nat.le_refl _) (((hbw.out.setCell hl3.out _).setCell hl3.out _).setCell hl3.out _).drew⟩)
end Go.Proofs.YthlpldmodflmjaaDoor
