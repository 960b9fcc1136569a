/- From what the rows list of the library's variables to what the walks ask; the start that fits. Positions, faults, and rows of faults that came in: what the row's proof tells of them. -/
import Derived.Test.YtijliimiojjjdaaDoorGDeciF
import Derived.Test.YtijliimiojjjdaaDoorRows
import Derived.Stop.LaidErr
import Derived.LaidMore
import Derived.MakeChecks
import Derived.Test.YtijliimiojjjdaaDoorGPosF
import Derived.Deep.Slices
import Derived.Carry
namespace Go.Proofs.YtijliimiojjjdaaDoor
section
open Go.RowKit Go.ChangeShapes

/-- What the rows list. -/
def laidAll : List (String × DataW Unit) := [("math/bits.deBruijn32tab", Rows.laid_math_bits_deBruijn32tab), ("math/bits.deBruijn64tab", Rows.laid_math_bits_deBruijn64tab), ("internal/strconv.uint64pow10", Rows.laid_internal_strconv_uint64pow10), ("strconv.ErrRange", Rows.laid_strconv_ErrRange), ("strconv.ErrSyntax", Rows.laid_strconv_ErrSyntax)]

theorem tabType : (Tryd.prog.globals[1]?).map (·.type) = some 112 := by kernel_rfl
theorem synType : (Tryd.prog.globals[2]?).map (·.type) = some 92 := by kernel_rfl
theorem rngType : (Tryd.prog.globals[3]?).map (·.type) = some 92 := by kernel_rfl
theorem errStar : "*" ++ "errors.errorString" = "*errors.errorString" := by decide
theorem rowErr (u : TypeId) (h : Tryd.prog.typeName? 3 u = some "*errors.errorString") : u = 123 :=
  typeName_ptr_named (nm := "errors.errorString") (by rw [errStar]; kernel_rfl) (by kernel_rfl) (by decide) u (by rw [errStar]; exact h)
theorem tab_lt {w : World} {n : String} {g : Nat} {cs : Array Value} (hg : Tryd.prog.globalNamed n = some g) (h : w.var? Tryd.prog n = some cs) : g < w.heap.size := by
  unfold World.var? at h
  rw [hg] at h
  rcases Nat.lt_or_ge g w.heap.size with h' | h'
  · exact h'
  · simp [Array.getElem?_eq_none h'] at h

theorem laid_of {W : World} (h : laidMetH Tryd.prog laidAll W) : Laid W := by
  rw [MakeChecks.laidMetH_plain _ _ _ (by kernel_rfl)] at h
  have h3 := h.tail.tail
  have ht : Lib.TabIs Tryd.prog W "internal/strconv.uint64pow10" .u64 Lib.pow10Tab :=
    Lib.tabIs_of_head gTab tabType Tryd.underlying112 Tryd.underlying78 (by kernel_rfl) (by kernel_rfl) (show laidMet Tryd.prog (("internal/strconv.uint64pow10", Lib.tabData .u64 Lib.pow10Tab) :: [("strconv.ErrRange", Rows.laid_strconv_ErrRange), ("strconv.ErrSyntax", Rows.laid_strconv_ErrSyntax)]) W from h3)
  obtain ⟨a0, s0, hv0, -⟩ := laid_sentinel h3.tail gRng rngType Tryd.underlying92 rowErr Tryd.underlying123 Tryd.underlying125 rfl rfl Tryd.underlying9 (by kernel_rfl) (by kernel_rfl)
  obtain ⟨a1, s1, hv1, -⟩ := laid_sentinel h3.tail.tail gSyn synType Tryd.underlying92 rowErr Tryd.underlying123 Tryd.underlying125 rfl rfl Tryd.underlying9 (by kernel_rfl) (by kernel_rfl)
  have k0 := tab_lt gRng hv0
  have k1 := tab_lt gSyn hv1
  have k2 := tab_lt gTab ht
  exact ⟨⟨k2, k1, k0⟩, ht, ⟨_, _, hv1⟩, ⟨_, _, hv0⟩⟩

/-- The door's own heap meets the condition. -/
theorem door_met (os : Os) (args : Array Value) : laidMetH Tryd.prog laidAll ((World.doorLaid Tryd.prog 4000 os).forCall (fun _ _ => 0) ⟨#[], args, []⟩).memory :=
  laidMetH_of_parts3 (fuel := 10) (laidMet_of_run' 10 (by kernel_rfl) (by kernel_rfl)) (by kernel_rfl) (by kernel_rfl)

theorem toNat64 {a : Int} (h : (Lit.int .u64 a).wf = true) : ∃ y : Nat, a = (y : Int) ∧ y < LB := by
  have hb : 0 ≤ a ∧ a ≤ 18446744073709551615 := by simpa [Lit.wf, IntKind.min, IntKind.max, IntKind.signed, IntKind.bits] using h
  exact ⟨a.toNat, by omega, by unfold LB; omega⟩
theorem toInt64 {a : Int} (h : (Lit.int .i64 a).wf = true) : -9223372036854775808 ≤ a ∧ a ≤ 9223372036854775807 := by
  simpa [Lit.wf, IntKind.min, IntKind.max, IntKind.signed, IntKind.bits] using h
end

section
open Go.RowKit Go.ChangeShapes Go.WideShapes Go.ChangeAt Go.Deep
set_option maxRecDepth 100000

section
variable {H : Type} {enc : TypeId × Value → H} {w : World} {base : Nat} {sp : Nat → Bool} {held : Bool}
theorem int1 {fuel : Nat} {cs : List Value} {x : DataW H × List MemPlace} (h : DataW.trod enc Tryd.prog w base sp held fuel 3 cs = some x) : ∃ n, cs = [.int .i64 n] ∧ in64 n := by
  obtain ⟨n, e, _, wf⟩ := DataW.trod_int Tryd.underlying3 h
  exact ⟨n, e, toInt64 wf⟩
theorem errno1 {fuel : Nat} {cs : List Value} {x : DataW H × List MemPlace} (h : DataW.trod enc Tryd.prog w base sp held fuel 40 cs = some x) : ∃ n, cs = [.int .i64 n] ∧ in64 n := by
  obtain ⟨n, e, _, wf⟩ := DataW.trod_int Tryd.underlying40 h
  exact ⟨n, e, toInt64 wf⟩
theorem posCells {fuel : Nat} {cs : List Value} {x : DataW H × List MemPlace} (h : DataW.trod enc Tryd.prog w base sp held fuel 23 cs = some x) : ∃ l c, cs = [.int .i64 l, .int .i64 c] ∧ in64 l ∧ in64 c := by
  obtain ⟨y0, y1, n, _, hl, h0, h1⟩ := trod_struct2 Tryd.underlying23 h
  rw [show Tryd.prog.cellsOf 23 = 2 by kernel_rfl] at hl
  match cs, hl with
  | [c0, c1], _ =>
    simp only [show Tryd.prog.cellsOf 3 = 1 by kernel_rfl] at h0 h1
    obtain ⟨l, e0, k0⟩ := int1 h0
    obtain ⟨c, e1, k1⟩ := int1 h1
    simp at e0 e1
    subst e0 e1
    exact ⟨l, c, rfl, k0, k1⟩
theorem faultCells {fuel : Nat} {cs : List Value} {x : DataW H × List MemPlace} (h : DataW.trod enc Tryd.prog w base sp held fuel 45 cs = some x) : ∃ l c n, cs = [.int .i64 l, .int .i64 c, .int .i64 n] ∧ in64 l ∧ in64 c ∧ in64 n := by
  obtain ⟨y0, y1, n, _, hl, h0, h1⟩ := trod_struct2 Tryd.underlying45 h
  rw [show Tryd.prog.cellsOf 45 = 3 by kernel_rfl] at hl
  match cs, hl with
  | [c0, c1, c2], _ =>
    simp only [show Tryd.prog.cellsOf 23 = 2 by kernel_rfl, show Tryd.prog.cellsOf 40 = 1 by kernel_rfl] at h0 h1
    obtain ⟨l, c, e0, k0, k1⟩ := posCells h0
    obtain ⟨m, e1, k2⟩ := errno1 h1
    simp at e0 e1
    obtain ⟨rfl, rfl⟩ := e0
    subst e1
    exact ⟨l, c, m, rfl, k0, k1, k2⟩
theorem agg_cells {r : Reach} {b0 : Nat} {t : TypeId} {fs : Array Field} {v : Value} {d : DataW H} {ps : List MemPlace} (hs : Tryd.prog.underlying t = some (.struct fs)) (hv : Value.okWide Tryd.prog w r b0 t v) (h : DataW.Trod enc Tryd.prog w base sp held t v d ps) :
    ∃ cs : Array Value, v = .agg cs ∧ ∃ fuel, DataW.trod enc Tryd.prog w base sp held fuel t cs.toList = some (d, ps) := by
  obtain ⟨cs, rfl, _⟩ := okWide_struct hs hv
  obtain ⟨fuel, hf⟩ := h
  exact ⟨cs, rfl, fuel, hf⟩
theorem openPos {r : Reach} {b0 : Nat} {v : Value} {d : DataW H} {ps : List MemPlace} (hv : Value.okWide Tryd.prog w r b0 23 v) (h : DataW.Trod enc Tryd.prog w base sp held 23 v d ps) : ∃ l c, v = .agg #[.int .i64 l, .int .i64 c] ∧ in64 l ∧ in64 c := by
  obtain ⟨cs, rfl, fuel, hf⟩ := agg_cells Tryd.underlying23 hv h
  obtain ⟨l, c, e, k0, k1⟩ := posCells hf
  exact ⟨l, c, by rw [← Array.toArray_toList (xs := cs), e], k0, k1⟩
theorem openFault {r : Reach} {b0 : Nat} {v : Value} {d : DataW H} {ps : List MemPlace} (hv : Value.okWide Tryd.prog w r b0 45 v) (h : DataW.Trod enc Tryd.prog w base sp held 45 v d ps) : ∃ l c n, v = .agg #[.int .i64 l, .int .i64 c, .int .i64 n] ∧ in64 l ∧ in64 c ∧ in64 n := by
  obtain ⟨cs, rfl, fuel, hf⟩ := agg_cells Tryd.underlying45 hv h
  obtain ⟨l, c, n, e, k0, k1, k2⟩ := faultCells hf
  exact ⟨l, c, n, by rw [← Array.toArray_toList (xs := cs), e], k0, k1, k2⟩
theorem fcells_at (r : List (Int × Int × Int)) (j : Nat) (hj : j < (fcells r).length) : ∃ i k, i < r.length ∧ k < 3 ∧ j = i * 3 + k := by
  rw [fcells_len] at hj
  exact ⟨j / 3, j % 3, by omega, by omega, by omega⟩
/-- A slice of faults that came in, as a row of faults. -/
theorem openFaults {r : Reach} {b0 : Nat} {v : Value} {d : DataW H} {ps : List MemPlace} (hv : Value.okWide Tryd.prog w r b0 38 v) (h : DataW.Trod enc Tryd.prog w base sp held 38 v d ps) :
    ∃ A n c0 l, v = .slice A n c0 ∧ n ≤ c0 ∧ c0 ≤ maxLen ∧ RowF w A n l ∧ ∀ f ∈ l, in64 f.1 ∧ in64 f.2.1 ∧ in64 f.2.2 := by
  obtain ⟨A, n, c0, rfl⟩ := okWide_slice Tryd.underlying38 hv
  obtain ⟨fuel, hf⟩ := h
  rcases open_slice Tryd.underlying38 hf with ⟨hcs, _⟩ | ⟨a, len, cap, m, k, D, Pl, hcs, _, hl, hm, hmm, _, hel⟩
  · simp [Value.cells] at hcs
    obtain ⟨rfl, rfl, rfl⟩ := hcs
    exact ⟨none, 0, 0, [], rfl, Nat.le_refl _, by unfold maxLen; omega, ⟨rfl, Reads.none_⟩, fun f hf => by cases hf⟩
  · simp [Value.cells] at hcs
    obtain ⟨rfl, rfl, rfl⟩ := hcs
    have hle : n ≤ m := by rw [hmm]; split <;> omega
    rw [show Tryd.prog.cellsOf 45 = 3 by kernel_rfl] at hel
    obtain ⟨F, hF⟩ := choose_lt (α := Int × Int × Int) (n := n) (p := fun i f => (in64 f.1 ∧ in64 f.2.1 ∧ in64 f.2.2) ∧ w.cell? (a.add (i * 3)) = some (.int .i64 f.1) ∧ w.cell? (a.add (i * 3 + 1)) = some (.int .i64 f.2.1) ∧ w.cell? (a.add (i * 3 + 2)) = some (.int .i64 f.2.2)) (fun i hi => by
      obtain ⟨cs', h1, h2⟩ := hel i (by omega)
      obtain ⟨l, c, e, rfl, k0, k1, k2⟩ := faultCells h2
      obtain ⟨_, _, hc⟩ := World.cells?_some h1
      refine ⟨(l, c, e), ⟨k0, k1, k2⟩, ?_, ?_, ?_⟩
      · simpa [Addr.add] using hc 0 (by omega)
      · rw [← add_of_add]; exact hc 1 (by omega)
      · rw [← add_of_add]; exact hc 2 (by omega))
    have hget : ∀ i, i < n → ((List.range n).map F)[i]? = some (F i) := fun i hi => by simp [hi]
    refine ⟨_, _, _, (List.range n).map F, rfl, hl, hm, ⟨by simp, by rw [fcells_len]; simp, fun h0 => ⟨a, rfl, ?_, fun j u hu => ?_⟩⟩, fun f hf => ?_⟩
    · have := World.block_lt_of_cell? w _ (hF 0 h0).2.1
      rwa [block_of_add] at this
    · obtain ⟨i, k, hi, hk, rfl⟩ := fcells_at _ j (List.getElem?_eq_some_iff.1 hu).1
      have hi' : i < n := by simpa using hi
      obtain ⟨g0, g1, g2⟩ := fcells_get _ i (F i).1 (F i).2.1 (F i).2.2 (hget i hi')
      obtain ⟨_, e0, e1, e2⟩ := hF i hi'
      have hk3 : k = 0 ∨ k = 1 ∨ k = 2 := by omega
      rcases hk3 with rfl | rfl | rfl
      · rw [Nat.add_zero, g0] at hu; rw [Nat.add_zero, e0, hu]
      · rw [g1] at hu; rw [e1, hu]
      · rw [g2] at hu; rw [e2, hu]
    · obtain ⟨i, hi, rfl⟩ := List.mem_map.1 hf
      exact (hF i (by simpa using hi)).1
end

/-- What the rows list that come to no text being read: no errors. -/
def laid3 : List (String × DataW Unit) := [("math/bits.deBruijn32tab", Rows.laid_math_bits_deBruijn32tab), ("math/bits.deBruijn64tab", Rows.laid_math_bits_deBruijn64tab), ("internal/strconv.uint64pow10", Rows.laid_internal_strconv_uint64pow10)]
theorem laid3_of {W : World} (h : laidMetH Tryd.prog laid3 W) : LaidT W := by
  rw [MakeChecks.laidMetH_plain _ _ _ (by kernel_rfl)] at h
  have ht : Lib.TabIs Tryd.prog W "internal/strconv.uint64pow10" .u64 Lib.pow10Tab :=
    Lib.tabIs_of_head gTab tabType Tryd.underlying112 Tryd.underlying78 (by kernel_rfl) (by kernel_rfl) (show laidMet Tryd.prog (("internal/strconv.uint64pow10", Lib.tabData .u64 Lib.pow10Tab) :: []) W from h.tail.tail)
  exact ⟨tab_lt gTab ht, ht⟩
theorem door_met3 (os : Os) (args : Array Value) : laidMetH Tryd.prog laid3 ((World.doorLaid Tryd.prog 4000 os).forCall (fun _ _ => 0) ⟨#[], args, []⟩).memory :=
  laidMetH_of_parts3 (fuel := 10) (laidMet_of_run' 10 (by kernel_rfl) (by kernel_rfl)) (by kernel_rfl) (by kernel_rfl)
end
end Go.Proofs.YtijliimiojjjdaaDoor
