/- Tokens, and rows of tokens, that came in: what the row's proof tells of them. -/
import Derived.Test.YthlpldmodflmjaaDoorTokN
import Derived.Test.YthlpldmodflmjaaDoorLaidR
import Derived.Deep.Slices
import Derived.Carry
import Derived.ChangeSame
namespace Go.Proofs.YthlpldmodflmjaaDoor
open Go.RowKit Go.ChangeShapes Go.WideShapes Go.ChangeAt Go.Deep
set_option maxRecDepth 100000

theorem list5 {α : Type} {l : List α} (h : l.length = 5) : ∃ a b c d e, l = [a, b, c, d, e] := by
  match l, h with
  | [a, b, c, d, e], _ => exact ⟨a, b, c, d, e, rfl⟩
section
variable {H : Type} {enc : TypeId × Value → H} {w : World} {base : Nat} {sp : Nat → Bool} {held : Bool}
theorem struct4 {t : TypeId} {f0 f1 f2 f3 : Field} {fuel : Nat} {cs : List Value} {x : DataW H × List MemPlace} (ht : Tryd.prog.underlying t = some (.struct #[f0, f1, f2, f3])) (h : DataW.trod enc Tryd.prog w base sp held fuel t cs = some x) :
    ∃ y0 y1 y2 y3 n, cs.length = Tryd.prog.cellsOf t ∧ DataW.trod enc Tryd.prog w base sp held n f0.type ((cs.drop f0.offset).take (Tryd.prog.cellsOf f0.type)) = some y0 ∧
      DataW.trod enc Tryd.prog w base sp held n f1.type ((cs.drop f1.offset).take (Tryd.prog.cellsOf f1.type)) = some y1 ∧ DataW.trod enc Tryd.prog w base sp held n f2.type ((cs.drop f2.offset).take (Tryd.prog.cellsOf f2.type)) = some y2 ∧
      DataW.trod enc Tryd.prog w base sp held n f3.type ((cs.drop f3.offset).take (Tryd.prog.cellsOf f3.type)) = some y3 := by
  obtain ⟨xs, n, _, rfl, hl, hlen, hf⟩ := DataW.trod_struct ht h
  match xs, hlen with
  | [y0, y1, y2, y3], _ => exact ⟨y0, y1, y2, y3, n, hl, by simpa using hf 0 f0 rfl, by simpa using hf 1 f1 rfl, by simpa using hf 2 f2 rfl, by simpa using hf 3 f3 rfl⟩
theorem int1 {fuel : Nat} {cs : List Value} {x : DataW H × List MemPlace} (h : DataW.trod enc Tryd.prog w base sp held fuel 3 cs = some x) : ∃ n, cs = [.int .i64 n] ∧ in64 n := by
  obtain ⟨n, e, _, wf⟩ := DataW.trod_int Tryd.underlying3 h
  exact ⟨n, e, toInt64 wf⟩
theorem long1 {fuel : Nat} {cs : List Value} {x : DataW H × List MemPlace} (h : DataW.trod enc Tryd.prog w base sp held fuel 2 cs = some x) : ∃ n, cs = [.int .i64 n] ∧ in64 n := by
  obtain ⟨n, e, _, wf⟩ := DataW.trod_int Tryd.underlying2 h
  exact ⟨n, e, toInt64 wf⟩
theorem kind1 {fuel : Nat} {cs : List Value} {x : DataW H × List MemPlace} (h : DataW.trod enc Tryd.prog w base sp held fuel 31 cs = some x) : ∃ n, cs = [.int .i64 n] ∧ in64 n := by
  obtain ⟨n, e, _, wf⟩ := DataW.trod_int Tryd.underlying31 h
  exact ⟨n, e, toInt64 wf⟩
theorem text1 {fuel : Nat} {cs : List Value} {x : DataW H × List MemPlace} (h : DataW.trod enc Tryd.prog w base sp held fuel 9 cs = some x) : ∃ s : List UInt8, cs = [.string ⟨s.toArray⟩] ∧ s.length ≤ maxLen := by
  obtain ⟨s, e, _, hs⟩ := DataW.trod_string Tryd.underlying9 h
  exact ⟨s.data.toList, by rw [e], by rw [size_len_]; exact hs⟩
theorem posCells {fuel : Nat} {cs : List Value} {x : DataW H × List MemPlace} (h : DataW.trod enc Tryd.prog w base sp held fuel 32 cs = some x) : ∃ l c, cs = [.int .i64 l, .int .i64 c] ∧ in64 l ∧ in64 c := by
  obtain ⟨y0, y1, n, _, hl, h0, h1⟩ := trod_struct2 Tryd.underlying32 h
  rw [show Tryd.prog.cellsOf 32 = 2 by kernel_rfl] at hl
  match cs, hl with
  | [c0, c1], _ =>
    simp only [show Tryd.prog.cellsOf 3 = 1 by kernel_rfl] at h0 h1
    obtain ⟨l, e0, k0⟩ := int1 h0
    obtain ⟨c, e1, k1⟩ := int1 h1
    simp at e0 e1
    subst e0 e1
    exact ⟨l, c, rfl, k0, k1⟩
theorem tokCells {fuel : Nat} {cs : List Value} {x : DataW H × List MemPlace} (h : DataW.trod enc Tryd.prog w base sp held fuel 34 cs = some x) : ∃ t : TokV, cs = t.cells ∧ t.x.length ≤ maxLen ∧ in64 t.k ∧ in64 t.n := by
  obtain ⟨y0, y1, y2, y3, n, hl, h0, h1, h2, h3⟩ := struct4 Tryd.underlying34 h
  rw [show Tryd.prog.cellsOf 34 = 5 by kernel_rfl] at hl
  obtain ⟨c0, c1, c2, c3, c4, rfl⟩ := list5 hl
  simp only [show Tryd.prog.cellsOf 31 = 1 by kernel_rfl, show Tryd.prog.cellsOf 9 = 1 by kernel_rfl, show Tryd.prog.cellsOf 2 = 1 by kernel_rfl, show Tryd.prog.cellsOf 32 = 2 by kernel_rfl] at h0 h1 h2 h3
  obtain ⟨k, e0, k0⟩ := kind1 h0
  obtain ⟨s, e1, k1⟩ := text1 h1
  obtain ⟨m, e2, k2⟩ := long1 h2
  obtain ⟨l, c, e3, _, _⟩ := posCells h3
  simp at e0 e1 e2 e3
  obtain ⟨rfl, rfl⟩ := e3
  subst e0 e1 e2
  exact ⟨⟨k, s, m, l, c⟩, rfl, k1, k0, k2⟩
theorem agg_cells {r : Reach} {b0 : Nat} {t : TypeId} {fs : Array Field} {v : Value} {d : DataW H} {ps : List MemPlace} (hs : Tryd.prog.underlying t = some (.struct fs)) (hv : Value.okWide Tryd.prog w r b0 t v) (h : DataW.Trod enc Tryd.prog w base sp held t v d ps) :
    ∃ cs : Array Value, v = .agg cs ∧ ∃ fuel, DataW.trod enc Tryd.prog w base sp held fuel t cs.toList = some (d, ps) := by
  obtain ⟨cs, rfl, _⟩ := okWide_struct hs hv
  obtain ⟨fuel, hf⟩ := h
  exact ⟨cs, rfl, fuel, hf⟩
theorem openTok {r : Reach} {b0 : Nat} {v : Value} {d : DataW H} {ps : List MemPlace} (hv : Value.okWide Tryd.prog w r b0 34 v) (h : DataW.Trod enc Tryd.prog w base sp held 34 v d ps) : ∃ (k : Int) (x : List UInt8) (n l c : Int), v = .agg #[.int .i64 k, .string ⟨x.toArray⟩, .int .i64 n, .int .i64 l, .int .i64 c] ∧ x.length ≤ maxLen ∧ in64 k ∧ in64 n := by
  obtain ⟨cs, rfl, fuel, hf⟩ := agg_cells Tryd.underlying34 hv h
  obtain ⟨⟨k, x, n, l, c⟩, e, k1, k0, k2⟩ := tokCells hf
  exact ⟨k, x, n, l, c, by rw [← Array.toArray_toList (xs := cs), e]; rfl, k1, k0, k2⟩
instance : Inhabited TokV := ⟨TokV.none⟩
theorem tcells_at (r : List TokV) (j : Nat) (hj : j < (tcells r).length) : ∃ i k, i < r.length ∧ k < 5 ∧ j = i * 5 + k := by
  rw [tcells_len] at hj
  exact ⟨j / 5, j % 5, by omega, by omega, by omega⟩
/-- A slice of tokens that came in, as a row of tokens. -/
theorem openToks {r : Reach} {b0 : Nat} {v : Value} {d : DataW H} {ps : List MemPlace} (hv : Value.okWide Tryd.prog w r b0 45 v) (h : DataW.Trod enc Tryd.prog w base sp held 45 v d ps) :
    ∃ A n c0 l, v = .slice A n c0 ∧ n ≤ c0 ∧ c0 ≤ maxLen ∧ RowT w A n l ∧ ∀ t ∈ l, t.x.length ≤ maxLen ∧ in64 t.k ∧ in64 t.n := by
  obtain ⟨A, n, c0, rfl⟩ := okWide_slice Tryd.underlying45 hv
  obtain ⟨fuel, hf⟩ := h
  rcases open_slice Tryd.underlying45 hf with ⟨hcs, _⟩ | ⟨a, len, cap, m, k, D, Pl, hcs, _, hl, hm, hmm, _, hel⟩
  · simp [Value.cells] at hcs
    obtain ⟨rfl, rfl, rfl⟩ := hcs
    exact ⟨none, 0, 0, [], rfl, Nat.le_refl _, by unfold maxLen; omega, ⟨rfl, Reads.none_⟩, fun f hf => by cases hf⟩
  · simp [Value.cells] at hcs
    obtain ⟨rfl, rfl, rfl⟩ := hcs
    have hle : n ≤ m := by rw [hmm]; split <;> omega
    rw [show Tryd.prog.cellsOf 34 = 5 by kernel_rfl] at hel
    obtain ⟨F, hF⟩ := choose_lt (α := TokV) (n := n) (p := fun i t => (t.x.length ≤ maxLen ∧ in64 t.k ∧ in64 t.n) ∧ w.cell? (a.add (i * 5)) = some (.int .i64 t.k) ∧ w.cell? (a.add (i * 5 + 1)) = some (.string ⟨t.x.toArray⟩) ∧ w.cell? (a.add (i * 5 + 2)) = some (.int .i64 t.n) ∧ w.cell? (a.add (i * 5 + 3)) = some (.int .i64 t.l) ∧ w.cell? (a.add (i * 5 + 4)) = some (.int .i64 t.c)) (fun i hi => by
      obtain ⟨cs', h1, h2⟩ := hel i (by omega)
      obtain ⟨t, rfl, k0, k1, k2⟩ := tokCells h2
      obtain ⟨_, _, hc⟩ := World.cells?_some h1
      refine ⟨t, ⟨k0, k1, k2⟩, ?_, ?_, ?_, ?_, ?_⟩
      · simpa [Addr.add, TokV.cells] using hc 0 (by simp)
      · rw [← add_of_add]; exact hc 1 (by simp)
      · rw [← add_of_add]; exact hc 2 (by simp)
      · rw [← add_of_add]; exact hc 3 (by simp)
      · rw [← add_of_add]; exact hc 4 (by simp))
    have hget : ∀ i, i < n → ((List.range n).map F)[i]? = some (F i) := fun i hi => by simp [hi]
    refine ⟨_, _, _, (List.range n).map F, rfl, hl, hm, ⟨by simp, by rw [tcells_len]; simp, fun h0 => ⟨a, rfl, ?_, fun j u hu => ?_⟩⟩, fun f hf => ?_⟩
    · have := World.block_lt_of_cell? w _ (hF 0 h0).2.1
      rwa [block_of_add] at this
    · obtain ⟨i, k, hi, hk, rfl⟩ := tcells_at _ j (List.getElem?_eq_some_iff.1 hu).1
      have hi' : i < n := by simpa using hi
      rw [tcells_get _ i _ (hget i hi') k hk] at hu
      obtain ⟨_, e0, e1, e2, e3, e4⟩ := hF i hi'
      have hk5 : k = 0 ∨ k = 1 ∨ k = 2 ∨ k = 3 ∨ k = 4 := by omega
      rcases hk5 with rfl | rfl | rfl | rfl | rfl
      · simp [TokV.cells] at hu; rw [Nat.add_zero, e0, ← hu]
      · simp [TokV.cells] at hu; rw [e1, ← hu]
      · simp [TokV.cells] at hu; rw [e2, ← hu]
      · simp [TokV.cells] at hu; rw [e3, ← hu]
      · simp [TokV.cells] at hu; rw [e4, ← hu]
    · obtain ⟨i, hi, rfl⟩ := List.mem_map.1 hf
      exact (hF i (by simpa using hi)).1
end
end Go.Proofs.YthlpldmodflmjaaDoor
