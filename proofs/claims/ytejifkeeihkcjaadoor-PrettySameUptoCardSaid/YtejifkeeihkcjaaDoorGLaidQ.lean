/- From what the rows list of ast's tables to what layer 6's walks ask; the start that fits. From what the rows of stage 7 list to what pretty's walks ask. -/
import Derived.Test.YtejifkeeihkcjaaDoorGAstN
import Derived.Test.YtejifkeeihkcjaaDoorRows
import Derived.LaidMore
import Derived.MakeChecks
import Derived.OpenShut
import Derived.Stop.LaidErr
import Derived.Test.YtejifkeeihkcjaaDoorGPriC
namespace Go.Proofs.YtejifkeeihkcjaaDoor
section
open Go.RowKit Go.ChangeShapes
set_option maxRecDepth 100000

theorem chunks {α : Type} (k : Nat) : ∀ (n : Nat) (cs : List α), cs.length = n * k → cs = (List.range n).flatMap fun i => (cs.drop (i * k)).take k
  | 0, cs, h => by
    have : cs = [] := List.eq_nil_of_length_eq_zero (by simpa using h)
    subst this; simp
  | n + 1, cs, h => by
    rw [List.range_succ, List.flatMap_append]
    have h1 := chunks k n (cs.take (n * k)) (by rw [List.length_take]; rw [Nat.add_one_mul] at h; omega)
    have h2 : ((List.range n).flatMap fun i => ((cs.take (n * k)).drop (i * k)).take k) = (List.range n).flatMap fun i => (cs.drop (i * k)).take k := by
      rw [List.flatMap_def, List.flatMap_def]
      congr 1
      apply List.map_congr_left
      intro i hi
      have hi' := List.mem_range.1 hi
      rw [List.drop_take, List.take_take]
      congr 1
      have : (i + 1) * k ≤ n * k := Nat.mul_le_mul_right k hi'
      rw [Nat.add_one_mul] at this
      omega
    rw [h2] at h1
    rw [← h1]
    simp only [List.flatMap_cons, List.flatMap_nil, List.append_nil]
    rw [List.take_of_length_le (l := cs.drop (n * k)) (by rw [List.length_drop]; rw [Nat.add_one_mul] at h; omega)]
    exact (List.take_append_drop _ _).symm

/-- The value of a plain datum of one cell. -/
def val1 {H : Type} : DataW H → Value
  | .lit (.bool b) => .bool b
  | .lit (.int k n) => .int k n
  | .lit (.string s) => .string ⟨s.toArray⟩
  | _ => undef
section
variable {H : Type} {enc : TypeId × Value → H} {w : World} {base : Nat} {sp : Nat → Bool} {held : Bool}
theorem inv_str {m : Nat} {cs : List Value} {x : DataW H × List MemPlace} (h : DataW.trod enc Tryd.prog w base sp held m 9 cs = some x) : cs = [val1 x.1] := by
  obtain ⟨s, rfl, rfl, _⟩ := DataW.trod_string Tryd.underlying9 h
  simp [val1]
theorem inv_int {m : Nat} {cs : List Value} {x : DataW H × List MemPlace} (h : DataW.trod enc Tryd.prog w base sp held m 3 cs = some x) : cs = [val1 x.1] := by
  obtain ⟨n, rfl, rfl, _⟩ := DataW.trod_int Tryd.underlying3 h
  rfl
theorem inv_bool {m : Nat} {cs : List Value} {x : DataW H × List MemPlace} (h : DataW.trod enc Tryd.prog w base sp held m 4 cs = some x) : cs = [val1 x.1] := by
  obtain ⟨b, rfl, rfl⟩ := DataW.trod_bool Tryd.underlying4 h
  rfl
/-- The values of a plain struct's datum. -/
def vals {H : Type} : DataW H → List Value
  | .agg ds => ds.map val1
  | _ => []
theorem inv_arr {t e : TypeId} {n k fuel : Nat} {cs : List Value} {ds : List (DataW H)} {p : List MemPlace} (ht : Tryd.prog.underlying t = some (.array n e)) (hce : Tryd.prog.cellsOf e = k) (hct : Tryd.prog.cellsOf t = n * k) (f : DataW H → List Value)
    (hinv : ∀ m cs x, DataW.trod enc Tryd.prog w base sp held m e cs = some x → cs = f x.1) (h : DataW.trod enc Tryd.prog w base sp held fuel t cs = some (.agg ds, p)) : cs = ds.flatMap f := by
  obtain ⟨xs, m, rfl, hx, hl, hxn, hi⟩ := DataW.trod_array ht h
  injection hx with hx _
  injection hx with hx
  subst hx
  rw [hct] at hl
  rw [hce] at hi
  conv => lhs; rw [chunks k n cs hl]
  subst hxn
  rw [List.flatMap_map]
  apply List.ext_getElem?
  intro j
  congr 1
  have : ∀ i, i < xs.length → (cs.drop (i * k)).take k = (xs[i]?.map fun x => f x.1).getD [] := fun i hlt => by
    have h1 := hi i hlt
    rw [List.getElem?_eq_getElem hlt] at h1 ⊢
    exact hinv _ _ _ h1
  rw [List.flatMap_def, List.flatMap_def]
  congr 1
  apply List.ext_getElem?
  intro i
  by_cases hlt : i < xs.length
  · simp [hlt, this i hlt]
  · simp [hlt]
theorem inv_s4 {t : TypeId} {f0 f1 f2 f3 : Field} {m : Nat} {cs : List Value} {x : DataW H × List MemPlace} (ht : Tryd.prog.underlying t = some (.struct #[f0, f1, f2, f3])) (hc : Tryd.prog.cellsOf t = 4)
    (o0 : f0.offset = 0 ∧ Tryd.prog.cellsOf f0.type = 1) (o1 : f1.offset = 1 ∧ Tryd.prog.cellsOf f1.type = 1) (o2 : f2.offset = 2 ∧ Tryd.prog.cellsOf f2.type = 1) (o3 : f3.offset = 3 ∧ Tryd.prog.cellsOf f3.type = 1)
    (i0 : ∀ m cs x, DataW.trod enc Tryd.prog w base sp held m f0.type cs = some x → cs = [val1 x.1]) (i1 : ∀ m cs x, DataW.trod enc Tryd.prog w base sp held m f1.type cs = some x → cs = [val1 x.1]) (i2 : ∀ m cs x, DataW.trod enc Tryd.prog w base sp held m f2.type cs = some x → cs = [val1 x.1]) (i3 : ∀ m cs x, DataW.trod enc Tryd.prog w base sp held m f3.type cs = some x → cs = [val1 x.1])
    (h : DataW.trod enc Tryd.prog w base sp held m t cs = some x) : cs = vals x.1 := by
  obtain ⟨xs, n, _, rfl, hl, hlen, hf⟩ := DataW.trod_struct ht h
  rw [hc] at hl
  match xs, hlen, cs, hl with
  | [y0, y1, y2, y3], _, [a, b, c, d], _ =>
    have k0 := i0 _ _ _ (hf 0 f0 rfl)
    have k1 := i1 _ _ _ (hf 1 f1 rfl)
    have k2 := i2 _ _ _ (hf 2 f2 rfl)
    have k3 := i3 _ _ _ (hf 3 f3 rfl)
    rw [o0.1, o0.2] at k0
    rw [o1.1, o1.2] at k1
    rw [o2.1, o2.2] at k2
    rw [o3.1, o3.2] at k3
    simp at k0 k1 k2 k3
    subst k0 k1 k2 k3
    rfl
theorem inv_s3 {t : TypeId} {f0 f1 f2 : Field} {m : Nat} {cs : List Value} {x : DataW H × List MemPlace} (ht : Tryd.prog.underlying t = some (.struct #[f0, f1, f2])) (hc : Tryd.prog.cellsOf t = 3)
    (o0 : f0.offset = 0 ∧ Tryd.prog.cellsOf f0.type = 1) (o1 : f1.offset = 1 ∧ Tryd.prog.cellsOf f1.type = 1) (o2 : f2.offset = 2 ∧ Tryd.prog.cellsOf f2.type = 1)
    (i0 : ∀ m cs x, DataW.trod enc Tryd.prog w base sp held m f0.type cs = some x → cs = [val1 x.1]) (i1 : ∀ m cs x, DataW.trod enc Tryd.prog w base sp held m f1.type cs = some x → cs = [val1 x.1]) (i2 : ∀ m cs x, DataW.trod enc Tryd.prog w base sp held m f2.type cs = some x → cs = [val1 x.1])
    (h : DataW.trod enc Tryd.prog w base sp held m t cs = some x) : cs = vals x.1 := by
  obtain ⟨xs, n, _, rfl, hl, hlen, hf⟩ := DataW.trod_struct ht h
  rw [hc] at hl
  match xs, hlen, cs, hl with
  | [y0, y1, y2], _, [a, b, c], _ =>
    have k0 := i0 _ _ _ (hf 0 f0 rfl)
    have k1 := i1 _ _ _ (hf 1 f1 rfl)
    have k2 := i2 _ _ _ (hf 2 f2 rfl)
    rw [o0.1, o0.2] at k0
    rw [o1.1, o1.2] at k1
    rw [o2.1, o2.2] at k2
    simp at k0 k1 k2
    subst k0 k1 k2
    rfl
end

theorem tab_of_head {W : World} {name : String} {D : DataW Unit} {rest : List (String × DataW Unit)} {g : Nat} {t : TypeId} {vs : List Value} (hg : Tryd.prog.globalNamed name = some g) (hty : (Tryd.prog.globals[g]?).map (·.type) = some t)
    (hinv : ∀ (enc : TypeId × Value → Unit) (sp : Nat → Bool) (held : Bool) (fuel : Nat) (cs : List Value) (p : List MemPlace), DataW.trod enc Tryd.prog W 0 sp held fuel t cs = some (D, p) → cs = vs) (h : laidMet Tryd.prog ((name, D) :: rest) W) : Tab W g vs := by
  obtain ⟨ps, ⟨g', t', cs, fuel, p, q, hg', ht', hvar, hd, _, _⟩, _⟩ := h
  obtain rfl := Option.some.inj (hg.symm.trans hg')
  obtain rfl := Option.some.inj (hty.symm.trans ht')
  have := hinv _ _ _ _ _ _ hd
  unfold World.var? at hvar
  rw [hg] at hvar
  simp only [Option.bind_some] at hvar
  split at hvar
  · rename_i cs' t fr he
    injection hvar with hvar
    subst hvar
    exact ⟨t, fr, by rw [he, ← this]⟩
  · cases hvar

/-- What the rows list. -/
def laidQ3 : List (String × DataW Unit) := [("sieveholes/ast.texts", Rows.laid_sieveholes_ast_texts), ("sieveholes/ast.levels", Rows.laid_sieveholes_ast_levels), ("sieveholes/ast.keywords", Rows.laid_sieveholes_ast_keywords)]
def laidQ6 : List (String × DataW Unit) := ("sieveholes/ast.exprParts", Rows.laid_sieveholes_ast_exprParts) :: ("sieveholes/ast.stmtParts", Rows.laid_sieveholes_ast_stmtParts) :: ("sieveholes/ast.declParts", Rows.laid_sieveholes_ast_declParts) :: laidQ3

theorem laidW_plain {W : World} {rest : List (String × DataW Unit)} (h : laidMet Tryd.prog (("sieveholes/ast.texts", Rows.laid_sieveholes_ast_texts) :: ("sieveholes/ast.levels", Rows.laid_sieveholes_ast_levels) :: ("sieveholes/ast.keywords", Rows.laid_sieveholes_ast_keywords) :: rest) W) : LaidW W where
  texts := tab_of_head (by kernel_rfl) (t := 110) (by kernel_rfl) (fun _ _ _ _ _ _ hd => (inv_arr (k := 1) Tryd.underlying110 (by kernel_rfl) (by kernel_rfl) (fun d => [val1 d]) (fun _ _ _ h => inv_str h) hd).trans rfl) h
  levels := tab_of_head (by kernel_rfl) (t := 109) (by kernel_rfl) (fun _ _ _ _ _ _ hd => (inv_arr (k := 1) Tryd.underlying109 (by kernel_rfl) (by kernel_rfl) (fun d => [val1 d]) (fun _ _ _ h => inv_int h) hd).trans rfl) h.tail
  keys := tab_of_head (by kernel_rfl) (t := 97) (by kernel_rfl) (fun _ _ _ _ _ _ hd => (inv_arr (k := 1) Tryd.underlying97 (by kernel_rfl) (by kernel_rfl) (fun d => [val1 d]) (fun _ _ _ h => inv_str h) hd).trans rfl) h.tail.tail
theorem laidQ3_of {W : World} (h : laidMetH Tryd.prog laidQ3 W) : LaidW W := by
  rw [MakeChecks.laidMetH_plain _ _ _ (by kernel_rfl)] at h
  exact laidW_plain h
theorem laidQ6_plain {W : World} (h : laidMet Tryd.prog laidQ6 W) : LaidA W := by
  exact { words := laidW_plain h.tail.tail.tail
          x := tab_of_head (by kernel_rfl) (t := 99) (by kernel_rfl) (fun _ _ _ _ _ _ hd => (inv_arr (k := 4) Tryd.underlying99 (by kernel_rfl) (by kernel_rfl) vals (fun _ _ _ h => inv_s4 Tryd.underlying98 (by kernel_rfl) ⟨rfl, by kernel_rfl⟩ ⟨rfl, by kernel_rfl⟩ ⟨rfl, by kernel_rfl⟩ ⟨rfl, by kernel_rfl⟩ (fun _ _ _ h => inv_bool h) (fun _ _ _ h => inv_bool h) (fun _ _ _ h => inv_bool h) (fun _ _ _ h => inv_int h) h) hd).trans rfl) h
          s := tab_of_head (by kernel_rfl) (t := 81) (by kernel_rfl) (fun _ _ _ _ _ _ hd => (inv_arr (k := 4) Tryd.underlying81 (by kernel_rfl) (by kernel_rfl) vals (fun _ _ _ h => inv_s4 Tryd.underlying80 (by kernel_rfl) ⟨rfl, by kernel_rfl⟩ ⟨rfl, by kernel_rfl⟩ ⟨rfl, by kernel_rfl⟩ ⟨rfl, by kernel_rfl⟩ (fun _ _ _ h => inv_bool h) (fun _ _ _ h => inv_bool h) (fun _ _ _ h => inv_bool h) (fun _ _ _ h => inv_int h) h) hd).trans rfl) h.tail
          d := tab_of_head (by kernel_rfl) (t := 76) (by kernel_rfl) (fun _ _ _ _ _ _ hd => (inv_arr (k := 3) Tryd.underlying76 (by kernel_rfl) (by kernel_rfl) vals (fun _ _ _ h => inv_s3 Tryd.underlying75 (by kernel_rfl) ⟨rfl, by kernel_rfl⟩ ⟨rfl, by kernel_rfl⟩ ⟨rfl, by kernel_rfl⟩ (fun _ _ _ h => inv_bool h) (fun _ _ _ h => inv_bool h) (fun _ _ _ h => inv_bool h) h) hd).trans rfl) h.tail.tail }
theorem laidQ6_of {W : World} (h : laidMetH Tryd.prog laidQ6 W) : LaidA W := by
  rw [MakeChecks.laidMetH_plain _ _ _ (by kernel_rfl)] at h
  exact laidQ6_plain h

/-- The door's own heap meets the conditions. -/
theorem door_metQ3 (os : Os) (args : Array Value) : laidMetH Tryd.prog laidQ3 ((World.doorLaid Tryd.prog 4000 os).forCall (fun _ _ => 0) ⟨#[], args, []⟩).memory :=
  laidMetH_of_parts3 (fuel := 10) (laidMet_of_run' 10 (by kernel_rfl) (by kernel_rfl)) (by kernel_rfl) (by kernel_rfl)
theorem door_metQ6 (os : Os) (args : Array Value) : laidMetH Tryd.prog laidQ6 ((World.doorLaid Tryd.prog 4000 os).forCall (fun _ _ => 0) ⟨#[], args, []⟩).memory :=
  laidMetH_of_parts3 (fuel := 10) (laidMet_of_run' 10 (by kernel_rfl) (by kernel_rfl)) (by kernel_rfl) (by kernel_rfl)

theorem toInt64 {a : Int} (h : (Lit.int .i64 a).wf = true) : -9223372036854775808 ≤ a ∧ a ≤ 9223372036854775807 := by
  simpa [Lit.wf, IntKind.min, IntKind.max, IntKind.signed, IntKind.bits] using h
end

section
open Go.RowKit Go.ChangeShapes
set_option maxRecDepth 100000

theorem tabTypeP : (Tryd.prog.globals[6]?).map (·.type) = some 134 := by kernel_rfl
theorem tab_ltP {w : World} {n : String} {g : Nat} {cs : Array Value} (hg : Tryd.prog.globalNamed n = some g) (h : w.var? Tryd.prog n = some cs) : g < w.heap.size := by
  unfold World.var? at h
  rw [hg] at h
  rcases Nat.lt_or_ge g w.heap.size with h' | h'
  · exact h'
  · simp [Array.getElem?_eq_none h'] at h
/-- What the rows list. -/
def laidP9 : List (String × DataW Unit) := ("math/bits.deBruijn32tab", Rows.laid_math_bits_deBruijn32tab) :: ("math/bits.deBruijn64tab", Rows.laid_math_bits_deBruijn64tab) :: ("internal/strconv.uint64pow10", Rows.laid_internal_strconv_uint64pow10) :: laidQ6
theorem laidP9_of {W : World} (h : laidMetH Tryd.prog laidP9 W) : LaidP W := by
  rw [MakeChecks.laidMetH_plain _ _ _ (by kernel_rfl)] at h
  have h3 := h.tail.tail
  have ht : Lib.TabIs Tryd.prog W "internal/strconv.uint64pow10" .u64 Lib.pow10Tab :=
    Lib.tabIs_of_head gTabP tabTypeP Tryd.underlying134 Tryd.underlying102 (by kernel_rfl) (by kernel_rfl) (show laidMet Tryd.prog (("internal/strconv.uint64pow10", Lib.tabData .u64 Lib.pow10Tab) :: laidQ6) W from h3)
  exact ⟨laidQ6_plain h3.tail, tab_ltP gTabP ht, ht⟩
/-- The door's own heap meets the conditions. -/
theorem door_metP9 (os : Os) (args : Array Value) : laidMetH Tryd.prog laidP9 ((World.doorLaid Tryd.prog 4000 os).forCall (fun _ _ => 0) ⟨#[], args, []⟩).memory :=
  laidMetH_of_parts3 (fuel := 10) (laidMet_of_run' 10 (by kernel_rfl) (by kernel_rfl)) (by kernel_rfl) (by kernel_rfl)
end
end Go.Proofs.YtejifkeeihkcjaaDoor
