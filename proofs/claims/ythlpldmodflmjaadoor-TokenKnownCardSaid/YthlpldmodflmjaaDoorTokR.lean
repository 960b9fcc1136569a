/- Rows of tokens of the program's own that grow. -/
import Derived.Test.YthlpldmodflmjaaDoorTokP
import Derived.Test.YthlpldmodflmjaaDoorPosJ
namespace Go.Proofs.YthlpldmodflmjaaDoor
open Go.RowKit

theorem info_tok : (Tryd.prog.info? 34).map (fun i => (i.zero, i.size, i.bytes)) = some (some (.agg #[.int .i64 0, .string ByteArray.empty, .int .i64 0, .int .i64 0, .int .i64 0]), 5, 48) := by kernel_rfl
/-- A row of the call's own, of tokens; nothing that stood before has turned. -/
def GrowK (w : World) (v : Value) (r : List TokV) (W : World) : Prop := W.ownsRow w.heap.size 34 5 v r.length (tcells r) ∧ Below w.heap.size w W
theorem GrowK.start (w : World) : GrowK w (.slice none 0 0) [] w := ⟨World.ownsRow_nil _ _ _ _, Below.refl _ _⟩
theorem wpList_pushK {ops : Array Oper} {rest : List Oper} {o : Oper} {a : Act} {Q : Exit → Act → World → Prop} (hgd : o.guard = none) (s x : Operand)
    (ho : o.op = .call { callee := .builtin .append, args := #[s, x], argTypes := #[45, 45] })
    (v : Value) (r : List TokV) (t : TokV) (w0 wr : World) (hs : a.eval s = v) (hg : GrowK w0 v r wr) (hx : a.eval x = .slice (some ⟨wr.heap.size, 0, none⟩) 1 1) (hlen : r.length ≤ 1000000000)
    (h : ∀ v' w1, GrowK w0 v' (r ++ [t]) w1 → (∀ (p : Addr) (u : Value), (wr.alloc (.cells #[.int .i64 t.k, .string ⟨t.x.toArray⟩, .int .i64 t.n, .int .i64 t.l, .int .i64 t.c] 34)).cell? p = some u → some p.block ≠ v.ownBlock → w1.cell? p = some u) → wpList Tryd.prog ops Q rest (a.put o.dst v') w1) : wpList Tryd.prog ops Q (o :: rest) a (wr.alloc (.cells #[.int .i64 t.k, .string ⟨t.x.toArray⟩, .int .i64 t.n, .int .i64 t.l, .int .i64 t.c] 34)) := by
  obtain ⟨i0, hi0, hz0, hz1, hz2⟩ := info_parts info_tok
  have hr : Reads (wr.alloc (.cells #[.int .i64 t.k, .string ⟨t.x.toArray⟩, .int .i64 t.n, .int .i64 t.l, .int .i64 t.c] 34)) (wr.heap.size + 1) 5 (some ⟨wr.heap.size, 0, none⟩) 1 (tcells [t]) :=
    ⟨by rw [tcells_len]; rfl, fun _ => ⟨_, rfl, by simp, fun j u hu => by
      match j with
      | 0 => simp [tcells, TokV.cells] at hu; subst hu; simp [Addr.add]
      | 1 => simp [tcells, TokV.cells] at hu; subst hu; simp [Addr.add]
      | 2 => simp [tcells, TokV.cells] at hu; subst hu; simp [Addr.add]
      | 3 => simp [tcells, TokV.cells] at hu; subst hu; simp [Addr.add]
      | 4 => simp [tcells, TokV.cells] at hu; subst hu; simp [Addr.add]
      | j + 5 => simp [tcells, TokV.cells] at hu⟩⟩
  have hsz := hg.2.size
  refine wpList_append_any _ hgd s x 45 ho w0.heap.size 34 i0 _ 5 48 Tryd.underlying45 hi0 hz0 hz1 hz2 rfl (by omega) v r.length (tcells r) hs (hg.1.alloc _) (wr.heap.size + 1) (some ⟨wr.heap.size, 0, none⟩) 1 1 (tcells [t]) hx hr (tcells_oneCell _)
    (by unfold maxLen; omega) (by omega) (by simp; omega) ?_
  intro v' w1 hown' hg' _
  refine h v' w1 ⟨by simpa [tcells_append] using hown', (hg.2.alloc hsz _).grown hg' (by simp; omega) (fun g hgk => (hg.1.lt g hgk).1)⟩ (fun p u hp hne => hg'.cell hp hne)
theorem GrowK.row {w W : World} {v : Value} {r : List TokV} (h : GrowK w v r W) : ∃ A c, v = .slice A r.length c ∧ RowT W A r.length r := by
  rcases h.1.2 with ⟨hv, h0⟩ | ⟨g, cap, cur, hv, _⟩
  · have hr : r = [] := List.eq_nil_of_length_eq_zero h0
    subst hr
    exact ⟨none, 0, hv, rfl, Reads.none_⟩
  · exact ⟨some ⟨g, 0, none⟩, cap, hv, rfl, by have := h.1; rw [hv] at this; exact Reads.of_own this⟩
theorem GrowK.step {w W W' : World} {v : Value} {r : List TokV} (h : GrowK w v r W) (hb : Below W.heap.size W W') : GrowK w v r W' := by
  refine ⟨⟨h.1.1, ?_⟩, h.2.trans (hb.mono h.2.size)⟩
  rcases h.1.2 with h2 | ⟨g, cap, cur, hv, hg, hh, r⟩
  · exact Or.inl h2
  · exact Or.inr ⟨g, cap, cur, hv, hg, by rw [hb.block g (Array.getElem?_eq_some_iff.1 hh).1]; exact hh, r⟩
theorem GrowK.from {w w0 W : World} {v : Value} {r : List TokV} (h : GrowK w0 v r W) (hb : Below w.heap.size w w0) : GrowK w v r W := by
  refine ⟨⟨h.1.1, ?_⟩, bth5 hb h.2⟩
  rcases h.1.2 with h2 | ⟨g, cap, cur, hv, hg, rest⟩
  · exact Or.inl h2
  · exact Or.inr ⟨g, cap, cur, hv, Nat.le_trans hb.size hg, rest⟩

end Go.Proofs.YthlpldmodflmjaaDoor
