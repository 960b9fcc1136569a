/- Rows of tokens; the reference's All of layer 5. -/
import Derived.Test.YthlpldmodflmjaaDoorTokH
import Derived.Deep.QuietTactic
import Derived.BigQuiet
import Derived.Below
namespace Go.Proofs.YthlpldmodflmjaaDoor
open Go.RowKit

/-- Tokens, as the cells of a row. -/
def tcells (r : List TokV) : List Value := r.flatMap TokV.cells
theorem tcells_nil : tcells [] = [] := rfl
theorem tcells_cons (t : TokV) (r : List TokV) : tcells (t :: r) = t.cells ++ tcells r := rfl
theorem tcells_append (r t : List TokV) : tcells (r ++ t) = tcells r ++ tcells t := by unfold tcells; rw [List.flatMap_append]
theorem tcells_len (r : List TokV) : (tcells r).length = r.length * 5 := by
  induction r with
  | nil => rfl
  | cons p r ih => rw [tcells_cons]; simp [TokV.cells, ih]; omega
theorem tcells_get (r : List TokV) (i : Nat) (t : TokV) (h : r[i]? = some t) (k : Nat) (hk : k < 5) : (tcells r)[i * 5 + k]? = t.cells[k]? := by
  induction r generalizing i with
  | nil => simp at h
  | cons p r ih =>
    rw [tcells_cons]
    cases i with
    | zero =>
      simp at h
      subst h
      rw [Nat.zero_mul, Nat.zero_add, List.getElem?_append_left (by simp [TokV.cells]; omega)]
    | succ i =>
      rw [List.getElem?_append_right (by simp [TokV.cells]; omega)]
      have := ih i (by simpa using h)
      rw [← this]
      congr 1
      simp [TokV.cells]; omega
theorem tcells_oneCell (r : List TokV) : ∀ u ∈ tcells r, u.oneCell' = true := by
  intro u hu
  unfold tcells at hu
  rw [List.mem_flatMap] at hu
  obtain ⟨t, _, hu⟩ := hu
  unfold TokV.cells at hu
  simp only [List.mem_cons, List.not_mem_nil, or_false] at hu
  rcases hu with rfl | rfl | rfl | rfl | rfl <;> rfl
/-- A slice that reads as tokens. -/
def RowT (W : World) (A : Option Addr) (n : Nat) (r : List TokV) : Prop := r.length = n ∧ Reads W W.heap.size 5 A n (tcells r)
theorem RowT.below {W W' : World} {A : Option Addr} {n : Nat} {r : List TokV} (h : RowT W A n r) (hb : Below W.heap.size W W') : RowT W' A n r := ⟨h.1, (Reads.below h.2 hb).more hb.size⟩
theorem RowT.at_ {W : World} {A : Option Addr} {n : Nat} {r : List TokV} (h : RowT W A n r) {i : Nat} (hi : i < n) : ∃ ad t, A = some ad ∧ r[i]? = some t ∧ W.cell? (ad.add (i * 5)) = some (.int .i64 t.k) ∧ W.cell? (ad.add (i * 5 + 1)) = some (.string ⟨t.x.toArray⟩) ∧ W.cell? (ad.add (i * 5 + 2)) = some (.int .i64 t.n) ∧ W.cell? (ad.add (i * 5 + 3)) = some (.int .i64 t.l) ∧ W.cell? (ad.add (i * 5 + 4)) = some (.int .i64 t.c) := by
  obtain ⟨ad, e1, _, hc⟩ := h.2.2 (by omega)
  obtain ⟨t, hp⟩ : ∃ t, r[i]? = some t := ⟨r[i]'(by have := h.1; omega), List.getElem?_eq_getElem _⟩
  have g := fun k hk => tcells_get r i t hp k hk
  exact ⟨ad, t, e1, hp, hc _ _ (g 0 (by omega)), hc _ _ (g 1 (by omega)), hc _ _ (g 2 (by omega)), hc _ _ (g 3 (by omega)), hc _ _ (g 4 (by omega))⟩

theorem info_rtok : (Tryd.prog.info? 40).map (fun i => (i.zero, i.size, i.bytes)) = some (some (.agg #[.int .i64 0, .string ByteArray.empty, .int .i64 0, .int .i64 0, .int .i64 0]), 5, 48) := by kernel_rfl
/-- A row of the call's own, of the reference's tokens; nothing that stood before has turned. -/
def GrowT (w : World) (v : Value) (r : List TokV) (W : World) : Prop := W.ownsRow w.heap.size 40 5 v r.length (tcells r) ∧ Below w.heap.size w W
theorem GrowT.start (w : World) : GrowT w (.slice none 0 0) [] w := ⟨World.ownsRow_nil _ _ _ _, Below.refl _ _⟩
theorem wpList_pushT {ops : Array Oper} {rest : List Oper} {o : Oper} {a : Act} {Q : Exit → Act → World → Prop} (hgd : o.guard = none) (s x : Operand)
    (ho : o.op = .call { callee := .builtin .append, args := #[s, x], argTypes := #[23, 23] })
    (v : Value) (r : List TokV) (t : TokV) (w0 wr : World) (hs : a.eval s = v) (hg : GrowT w0 v r wr) (hx : a.eval x = .slice (some ⟨wr.heap.size, 0, none⟩) 1 1) (hlen : r.length ≤ 1000000000)
    (h : ∀ v' w1, GrowT w0 v' (r ++ [t]) w1 → (∀ (p : Addr) (u : Value), (wr.alloc (.cells #[.int .i64 t.k, .string ⟨t.x.toArray⟩, .int .i64 t.n, .int .i64 t.l, .int .i64 t.c] 40)).cell? p = some u → some p.block ≠ v.ownBlock → w1.cell? p = some u) → wpList Tryd.prog ops Q rest (a.put o.dst v') w1) : wpList Tryd.prog ops Q (o :: rest) a (wr.alloc (.cells #[.int .i64 t.k, .string ⟨t.x.toArray⟩, .int .i64 t.n, .int .i64 t.l, .int .i64 t.c] 40)) := by
  obtain ⟨i0, hi0, hz0, hz1, hz2⟩ := info_parts info_rtok
  have hr : Reads (wr.alloc (.cells #[.int .i64 t.k, .string ⟨t.x.toArray⟩, .int .i64 t.n, .int .i64 t.l, .int .i64 t.c] 40)) (wr.heap.size + 1) 5 (some ⟨wr.heap.size, 0, none⟩) 1 (tcells [t]) :=
    ⟨by rw [tcells_len]; rfl, fun _ => ⟨_, rfl, by simp, fun j u hu => by
      match j with
      | 0 => simp [tcells, TokV.cells] at hu; subst hu; simp [Addr.add]
      | 1 => simp [tcells, TokV.cells] at hu; subst hu; simp [Addr.add]
      | 2 => simp [tcells, TokV.cells] at hu; subst hu; simp [Addr.add]
      | 3 => simp [tcells, TokV.cells] at hu; subst hu; simp [Addr.add]
      | 4 => simp [tcells, TokV.cells] at hu; subst hu; simp [Addr.add]
      | j + 5 => simp [tcells, TokV.cells] at hu⟩⟩
  have hsz := hg.2.size
  refine wpList_append_any _ hgd s x 23 ho w0.heap.size 40 i0 _ 5 48 Tryd.underlying23 hi0 hz0 hz1 hz2 rfl (by omega) v r.length (tcells r) hs (hg.1.alloc _) (wr.heap.size + 1) (some ⟨wr.heap.size, 0, none⟩) 1 1 (tcells [t]) hx hr (tcells_oneCell _)
    (by unfold maxLen; omega) (by omega) (by simp; omega) ?_
  intro v' w1 hown' hg' _
  refine h v' w1 ⟨by simpa [tcells_append] using hown', (hg.2.alloc hsz _).grown hg' (by simp; omega) (fun g hgk => (hg.1.lt g hgk).1)⟩ (fun p u hp hne => hg'.cell hp hne)
theorem GrowT.row {w W : World} {v : Value} {r : List TokV} (h : GrowT w v r W) : ∃ A c, v = .slice A r.length c ∧ RowT W A r.length r := by
  rcases h.1.2 with ⟨hv, h0⟩ | ⟨g, cap, cur, hv, _⟩
  · have hr : r = [] := List.eq_nil_of_length_eq_zero h0
    subst hr
    exact ⟨none, 0, hv, rfl, Reads.none_⟩
  · exact ⟨some ⟨g, 0, none⟩, cap, hv, rfl, by have := h.1; rw [hv] at this; exact Reads.of_own this⟩
theorem GrowT.step {w W W' : World} {v : Value} {r : List TokV} (h : GrowT w v r W) (hb : Below W.heap.size W W') : GrowT w v r W' := by
  refine ⟨⟨h.1.1, ?_⟩, h.2.trans (hb.mono h.2.size)⟩
  rcases h.1.2 with h2 | ⟨g, cap, cur, hv, hg, hh, r⟩
  · exact Or.inl h2
  · exact Or.inr ⟨g, cap, cur, hv, hg, by rw [hb.block g (Array.getElem?_eq_some_iff.1 hh).1]; exact hh, r⟩
theorem GrowT.from {w w0 W : World} {v : Value} {r : List TokV} (h : GrowT w0 v r W) (hb : Below w.heap.size w w0) : GrowT w v r W := by
  refine ⟨⟨h.1.1, ?_⟩, bth5 hb h.2⟩
  rcases h.1.2 with h2 | ⟨g, cap, cur, hv, hg, rest⟩
  · exact Or.inl h2
  · exact Or.inr ⟨g, cap, cur, hv, Nat.le_trans hb.size hg, rest⟩

/-- All tokens of a text. -/
def allF : Nat → List UInt8 → Nat → List TokV → List TokV × Int × Int × Int
  | 0, _, _, _ => ([], 0, 0, 0)
  | f + 1, L, p, acc =>
    let r := nextP L p
    if r.2.2.2.2 ≠ 0 then ([], r.2.2) else if r.1.k = 3 then (acc ++ [r.1], 0, 0, 0) else allF f L r.2.1 (acc ++ [r.1])
def allV (L : List UInt8) : List TokV × Int × Int × Int := allF (L.length + 2) L 0 []
theorem nextV_at (L : List UInt8) (p : Nat) (h : p ≤ L.length) : nextV L p = nextP L p := by
  unfold nextV clampP
  congr 1
  omega
/-- What Next tells of one that is no fault and no end: it goes on. -/
theorem nextP_on (L : List UInt8) (p : Nat) (h : p ≤ L.length) : (nextP L p).2.1 ≤ L.length ∧ ((nextP L p).2.2.2.2 = 0 → (nextP L p).1.k ≠ 3 → p < (nextP L p).2.1) := by
  have hq := skip_le L p h
  unfold nextP
  obtain ⟨q, hqq⟩ : ∃ q, q = p + skipL (L.drop p) false := ⟨_, rfl⟩
  rw [← hqq] at hq ⊢
  unfold nextQ
  by_cases he : q = L.length
  · rw [if_pos he]
    exact ⟨hq, fun _ h => absurd rfl h⟩
  · rw [if_neg he]
    obtain ⟨n, k, hnk⟩ : ∃ n k, longL (L.drop q) = (n, k) := ⟨_, _, rfl⟩
    rw [hnk]
    simp only
    have hn := longL_le (L.drop q)
    rw [hnk, List.length_drop] at hn
    simp only at hn
    by_cases hE : errV n k ((L.drop q).take n) = 0
    · rw [if_pos hE]
      refine ⟨by show q + n ≤ _; omega, fun _ _ => ?_⟩
      show p < q + n
      by_cases hn0 : n = 0
      · unfold errV at hE
        rw [if_pos hn0] at hE
        cases hE
      · omega
    · rw [if_neg hE]
      exact ⟨hq, fun h => absurd h hE⟩

set_option maxHeartbeats 4000000 in
theorem refAll (s : ByteArray) (hs : s.size ≤ 100000) (w : World) : Calls Tryd.prog 8 #[.string s] w fun e w' => ∃ v, e = .returned (.tuple #[v, .agg #[.int .i64 (allV s.data.toList).2.1, .int .i64 (allV s.data.toList).2.2.1, .int .i64 (allV s.data.toList).2.2.2]]) ∧ GrowT w v (allV s.data.toList).1 w' := by
  have hl := size_len_ s
  obtain ⟨R, hR⟩ : ∃ R, R = allV s.data.toList := ⟨_, rfl⟩
  rw [← hR]
  have hx0 := Box.new w [.int .i64 0, .int .i64 0, .int .i64 0] 28
  have hb0 := bnew5 w (.cells #[.int .i64 0, .int .i64 0, .int .i64 0] 28)
  have hst0 : Hid (R = allF (s.size + 2) s.data.toList 0 [] ∧ GrowT (w.alloc (.cells #[.int .i64 0, .int .i64 0, .int .i64 0] 28)) (.slice none 0 0) [] (w.alloc (.cells #[.int .i64 0, .int .i64 0, .int .i64 0] 28)) ∧ ([] : List TokV).length ≤ 0) := ⟨by rw [hR]; unfold allV; rw [hl], GrowT.start _, Nat.le_refl _⟩
  clear hR
  go_enter Tryd.func8, Tryd.ntmps8
  go_wp2_with fail
  have hx0 : Box (w.alloc (.cells #[.int .i64 0, .int .i64 0, .int .i64 0] 28)) w.heap.size [.int .i64 0, .int .i64 0, .int .i64 0] := hx0
  have hb0 : Below w.heap.size w (w.alloc (.cells #[.int .i64 0, .int .i64 0, .int .i64 0] 28)) := hb0
  generalize w.alloc (.cells #[.int .i64 0, .int .i64 0, .int .i64 0] 28) = W0 at *
  go_loopw [4, 5] (fun v pl W => ∃ (p g : Nat) (acc : List TokV), p ≤ s.size ∧ s.size + 2 ≤ g + p ∧ pl = .int .i64 p ∧ Hid (R = allF g s.data.toList p acc ∧ GrowT W0 v acc W ∧ acc.length ≤ p)) (fun _ pl _ => s.size + 1 - (intOf pl).toNat)
  case atStart => exact ⟨0, s.size + 2, [], by omega, by omega, rfl, hst0⟩
  case round =>
    obtain ⟨p, g, acc, hp, hg, rfl, hst⟩ := hrel
    clear hst0
    obtain ⟨g, rfl⟩ : ∃ g', g = g' + 1 := ⟨g - 1, by omega⟩
    have q1 := fun w => refNext s p hs w
    rw [nextV_at _ _ (by omega)] at q1
    have hon := nextP_on s.data.toList p (by omega)
    have hR : R = allF (g + 1) s.data.toList p acc := hst.out.1
    unfold allF at hR
    simp only at hR
    obtain ⟨⟨k, x, m, l, c⟩, nx, fl, fc, fe, hN⟩ : ∃ t nx fl fc fe, nextP s.data.toList p = (t, nx, fl, fc, fe) := ⟨_, _, _, _, _, rfl⟩
    rw [hN] at q1 hR hon
    simp only at hR hon
    have hgr := Lib.hid hst.out.2
    have HR := Lib.hid hR
    clear hN hR hst
    unfold nextA TokV.cells at q1
    simp only at q1
    go_wp2_with fail
    refine (q1 _).mono ?_
    rintro e w1 ⟨rfl, hb1⟩
    clear q1
    have hgr1 := Lib.hid (And.intro (hgr.out.1.step hb1) hgr.out.2)
    clear hgr hb1
    have hft := Box.new (w1.alloc (.cells #[.int .i64 k, .string ⟨x.toArray⟩, .int .i64 m, .int .i64 l, .int .i64 c] 40)) [.int .i64 fl, .int .i64 fc, .int .i64 fe] 28
    rw [show (w1.alloc (.cells #[.int .i64 k, .string ⟨x.toArray⟩, .int .i64 m, .int .i64 l, .int .i64 c] 40)).heap.size = w1.heap.size + 1 by simp] at hft
    have htk := (Box.new w1 [.int .i64 k, .string ⟨x.toArray⟩, .int .i64 m, .int .i64 l, .int .i64 c] 40).step (bnew5 _ (.cells #[.int .i64 fl, .int .i64 fc, .int .i64 fe] 28))
    have hb2 := bth5 (bnew5 w1 (.cells #[.int .i64 k, .string ⟨x.toArray⟩, .int .i64 m, .int .i64 l, .int .i64 c] 40)) (bnew5 _ (.cells #[.int .i64 fl, .int .i64 fc, .int .i64 fe] 28))
    have hft : Box ((w1.alloc (.cells #[.int .i64 k, .string ⟨x.toArray⟩, .int .i64 m, .int .i64 l, .int .i64 c] 40)).alloc (.cells #[.int .i64 fl, .int .i64 fc, .int .i64 fe] 28)) (w1.heap.size + 1) [.int .i64 fl, .int .i64 fc, .int .i64 fe] := hft
    have htk : Box ((w1.alloc (.cells #[.int .i64 k, .string ⟨x.toArray⟩, .int .i64 m, .int .i64 l, .int .i64 c] 40)).alloc (.cells #[.int .i64 fl, .int .i64 fc, .int .i64 fe] 28)) w1.heap.size [.int .i64 k, .string ⟨x.toArray⟩, .int .i64 m, .int .i64 l, .int .i64 c] := htk
    have hsz1 : W0.heap.size ≤ w1.heap.size := hgr1.out.1.2.size
    have hgr2 := Lib.hid (And.intro (hgr1.out.1.step hb2) hgr1.out.2)
    have hbx2 := hx0.step (hgr2.out.1.2)
    by_cases hfe : fe = 0
    · subst hfe
      have HSZ : Hid (((w1.alloc (.cells #[.int .i64 k, .string ⟨x.toArray⟩, .int .i64 m, .int .i64 l, .int .i64 c] 40)).alloc (.cells #[.int .i64 fl, .int .i64 fc, .int .i64 0] 28)).heap.size = w1.heap.size + 1 + 1) := by
        show _ = _
        simp
      have HOWN : Hid (∀ b, u4.ownBlock = some b → b ≠ w1.heap.size) := fun b hb e => by
        have := (hgr1.out.1.1.lt b hb).2
        omega
      have hbase : w.heap.size ≤ w1.heap.size := by
        have := hb0.size
        omega
      have hlen : acc.length ≤ 1000000000 := by have := hgr2.out.2; omega
      have e0 := (htk 0 _ rfl).1
      have e1 := (htk 1 _ rfl).1
      have e2 := (htk 2 _ rfl).1
      have e3 := (htk 3 _ rfl).1
      have e4 := (htk 4 _ rfl).1
      by_cases hk : k = 3
      · have hRR : Hid (R = (acc ++ [(⟨3, x, m, l, c⟩ : TokV)], 0, 0, 0)) := by show R = _; rw [HR.out, if_neg (by simp), if_pos hk, hk]
        subst hk
        go_wp2_with (first
          | (at_builtin
             refine wpList_pushT rfl (.tmp 20) (.tmp 22) rfl _ acc ⟨3, x, m, l, c⟩ W0 _ rfl hgr2.out.1 ?hx ?hl ?_
             case hx => rw [HSZ.out]; rfl
             case hl => exact hlen
             intro v' w2 hg2 hkeep
             have hg2 := Lib.hid hg2
             have kk := hkeep ⟨w1.heap.size, 0, none⟩ (.int .i64 3) ((bnew5 _ _).cell (World.block_lt_of_cell? _ _ e0) |>.trans e0) (fun e => HOWN.out _ e.symm rfl)
             clear hkeep
             have hbx3 := hx0.step hg2.out.2
             have d0 := (hbx3 0 _ rfl).1
             have d1 := (hbx3 1 _ rfl).1
             have d2 := (hbx3 2 _ rfl).1
             have g0 := (hbx3 0 _ rfl).2
             have g1 := (hbx3 1 _ rfl).2
             have g2 := (hbx3 2 _ rfl).2))
        refine bodyPost_ret (v := .tuple #[v', .agg #[.int .i64 0, .int .i64 0, .int .i64 0]]) (by simp [results, Tryd.results8, go_sem, d0, d1, d2]) rfl ?_
        rw [hRR.out]
        have hlt0 : w.heap.size < W0.heap.size := hx0.lt (by simp)
        have o1 := ownsRow_setCell_below (ownsRow_setCell_below (ownsRow_setCell_below hg2.out.1 (a := ⟨w.heap.size, 0, none⟩) hlt0 (.int .i64 0)) (a := ⟨w.heap.size, 1, none⟩) hlt0 (.int .i64 0)) (a := ⟨w.heap.size, 2, none⟩) hlt0 (.int .i64 0)
        refine ⟨v', rfl, ⟨o1.1, ?_⟩, (((bth5 hb0 hg2.out.2).setCell (Nat.le_refl _) _).setCell (Nat.le_refl _) _).setCell (Nat.le_refl _) _⟩
        rcases o1.2 with h2 | ⟨b, cap, cur, hv, hb, rest⟩
        · exact Or.inl h2
        · exact Or.inr ⟨b, cap, cur, hv, Nat.le_trans hb0.size hb, rest⟩
      · have hRR : Hid (R = allF g s.data.toList nx (acc ++ [(⟨k, x, m, l, c⟩ : TokV)])) := by show R = _; rw [HR.out, if_neg (by simp), if_neg hk]
        have hon2 := Lib.hid (And.intro hon.1 (hon.2 rfl hk))
        go_wp2_with (first
          | (at_builtin
             refine wpList_pushT rfl (.tmp 20) (.tmp 22) rfl _ acc ⟨k, x, m, l, c⟩ W0 _ rfl hgr2.out.1 ?hx ?hl ?_
             case hx => rw [HSZ.out]; rfl
             case hl => exact hlen
             intro v' w2 hg2 hkeep
             have hg2 := Lib.hid hg2
             have kk := hkeep ⟨w1.heap.size, 0, none⟩ (.int .i64 k) ((bnew5 _ _).cell (World.block_lt_of_cell? _ _ e0) |>.trans e0) (fun e => HOWN.out _ e.symm rfl)
             clear hkeep))
        exact ⟨⟨nx, g, acc ++ [(⟨k, x, m, l, c⟩ : TokV)], by have := hon2.out.1; omega, by have := hon2.out.2; omega, by first | rfl | trivial, ⟨hRR.out, hg2.out, by have := hgr2.out.2; have := hon2.out.2; simp; omega⟩⟩, by have := hon2.out.2; have := hon2.out.1; simp [intOf]; omega⟩
    · have hRR : Hid (R = ([], fl, fc, fe)) := by show R = _; rw [HR.out, if_pos hfe]
      have hbw := bth5 hb0 hgr2.out.1.2
      have hlt0 : w.heap.size < W0.heap.size := hx0.lt (by simp)
      have m1 : w.heap.size ≠ w1.heap.size + 1 := by omega
      clear HR hon hgr1 hgr2
      go_wp2_with fail
      generalize (w1.alloc (.cells #[.int .i64 k, .string ⟨x.toArray⟩, .int .i64 m, .int .i64 l, .int .i64 c] 40)).alloc (.cells #[.int .i64 fl, .int .i64 fc, .int .i64 fe] 28) = V at *
      have d0 := (hbx2 0 _ rfl).1
      have d1 := (hbx2 1 _ rfl).1
      have d2 := (hbx2 2 _ rfl).1
      have g0 := (hbx2 0 _ rfl).2
      have g1 := (hbx2 1 _ rfl).2
      have g2 := (hbx2 2 _ rfl).2
      have s0 := hft.drew.three
      go_region_held3 (fun w' => w'.cell? ⟨w1.heap.size + 1, 0, none⟩ = some (.int .i64 fl) ∧ w'.cell? ⟨w1.heap.size + 1, 1, none⟩ = some (.int .i64 fc) ∧ w'.cell? ⟨w1.heap.size + 1, 2, none⟩ = some (.int .i64 fe)) (first | with_reducible exact s0 | with_reducible exact (hft.far3 m1 _ _ _).drew.three)
        (fail)
      all_goals
        (go_wp2_with fail
         refine bodyPost_ret (v := .tuple #[.slice none 0 0, .agg #[.int .i64 fl, .int .i64 fc, .int .i64 fe]]) (by simp [results, Tryd.results8, go_sem, d0, d1, d2]) rfl ?_
         rw [hRR.out]
         exact ⟨_, rfl, World.ownsRow_nil _ _ _ _, (((hbw.setCell (Nat.le_refl _) _).setCell (Nat.le_refl _) _).setCell (Nat.le_refl _) _).drew⟩)
end Go.Proofs.YthlpldmodflmjaaDoor
