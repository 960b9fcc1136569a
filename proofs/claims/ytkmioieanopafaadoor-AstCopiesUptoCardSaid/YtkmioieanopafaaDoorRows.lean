/-
  NARROWER THAN 'FOR EVERY INPUT', by the rows' own cells (each row's printed sentence says how): AstOperators: laid · AstTells: loops, laid · AstCopies: loops, laid · AstPlaces: loops, laid.
  DERIVED. THE GIVEN ROWS OF THIS SEAT. 4 by the template 'for every input the law returns true; each argument reads behind the call as it read before'; 0 by the template 'total and deterministic' (their statements: YtkmioieanopafaaDoorTotals.lean).
  GIVEN WITH THE SEED: the statements are not yours to turn. If you find one false, say at which input.
  Laid BY PROGRAM, IN A SANDBOX (cutbox-rows.mjs): the forced cells as the released guide's own fill.sh prints them over the translation 739c0f737d970afc… (all of the seat's roots in one cut). By AI agents, Wed Nov 11 2026. No macro, syntax, notation, axiom, sorry.
-/
import Derived.Test.YtkmioieanopafaaDoorChecked
import GoSem.Claim
import GoSem.ClaimJoined
import GoSem.ClaimMapViews
import Derived.JoinedTies
import Derived.KernelRfl
namespace Go.Proofs.YtkmioieanopafaaDoor
/- THE CELL 'sum', in the pinned program and in every row, IS THE sha256 OF THE DUMP (.gsa) THAT YtkmioieanopafaaDoorProg.lean LOADS. Nothing in Lean hashes anything: it is a label: what it is worth is what the hold of that sum in a sandbox is worth. -/
noncomputable def Tryd.pinned : Pinned := { name := "ytkmioieanopafaadoor", sum := "739c0f737d970afcf71d867ac2998a63d6e9a6db23650dfe79dc5cf861a521e1", checked := Tryd.checked }
namespace Rows
def none {H : Type} : Left H := { results := [], args := [] }

/- WHAT THE LISTED PACKAGE-LEVEL VARIABLES READ AS WHEN THE CALL BEGINS. Each datum BY PROGRAM (the guide's laid-datum.mjs) off the statement by which the dump's own 'gosem.cut.vars' lays the variable. In a bare row this is a premise. The card (YtkmioieanopafaaDoorCards.lean) ties it to the program's text. -/
def laid_sieveholes_ast_texts {H : Type} : DataW H := .agg [.lit (.string [124, 124]), .lit (.string [38, 38]), .lit (.string [61, 61]), .lit (.string [33, 61]), .lit (.string [60]), .lit (.string [60, 61]), .lit (.string [62]), .lit (.string [62, 61]), .lit (.string [124]), .lit (.string [94]), .lit (.string [38]), .lit (.string [60, 60]), .lit (.string [62, 62]), .lit (.string [43]), .lit (.string [45]), .lit (.string [42]), .lit (.string [47]), .lit (.string [37]), .lit (.string [45]), .lit (.string [33]), .lit (.string [126])]
def laid_sieveholes_ast_levels {H : Type} : DataW H := .agg [.lit (.int .i64 1), .lit (.int .i64 2), .lit (.int .i64 3), .lit (.int .i64 3), .lit (.int .i64 4), .lit (.int .i64 4), .lit (.int .i64 4), .lit (.int .i64 4), .lit (.int .i64 5), .lit (.int .i64 5), .lit (.int .i64 6), .lit (.int .i64 7), .lit (.int .i64 7), .lit (.int .i64 8), .lit (.int .i64 8), .lit (.int .i64 9), .lit (.int .i64 9), .lit (.int .i64 9), .lit (.int .i64 10), .lit (.int .i64 10), .lit (.int .i64 10)]
def laid_sieveholes_ast_keywords {H : Type} : DataW H := .agg [.lit (.string [97, 114, 114, 97, 121]), .lit (.string [99, 97, 108, 108]), .lit (.string [101, 108, 115, 101]), .lit (.string [105, 102]), .lit (.string [105, 110]), .lit (.string [109, 97, 105, 110]), .lit (.string [111, 117, 116, 112, 117, 116]), .lit (.string [112, 114, 111, 99]), .lit (.string [112, 117, 98, 108, 105, 99]), .lit (.string [115, 101, 99, 114, 101, 116]), .lit (.string [115, 107, 105, 112]), .lit (.string [118, 97, 114]), .lit (.string [119, 104, 105, 108, 101])]
def laid_sieveholes_ast_exprParts {H : Type} : DataW H := .agg [.agg [.lit (.bool true), .lit (.bool false), .lit (.bool false), .lit (.int .i64 0)], .agg [.lit (.bool false), .lit (.bool true), .lit (.bool false), .lit (.int .i64 0)], .agg [.lit (.bool false), .lit (.bool true), .lit (.bool false), .lit (.int .i64 1)], .agg [.lit (.bool false), .lit (.bool false), .lit (.bool true), .lit (.int .i64 1)], .agg [.lit (.bool false), .lit (.bool false), .lit (.bool true), .lit (.int .i64 2)]]
def laid_sieveholes_ast_stmtParts {H : Type} : DataW H := .agg [.agg [.lit (.bool true), .lit (.bool false), .lit (.bool false), .lit (.int .i64 1)], .agg [.lit (.bool true), .lit (.bool false), .lit (.bool false), .lit (.int .i64 2)], .agg [.lit (.bool false), .lit (.bool true), .lit (.bool true), .lit (.int .i64 1)], .agg [.lit (.bool false), .lit (.bool true), .lit (.bool false), .lit (.int .i64 1)], .agg [.lit (.bool false), .lit (.bool false), .lit (.bool false), .lit (.int .i64 1)], .agg [.lit (.bool true), .lit (.bool false), .lit (.bool false), .lit (.int .i64 (-1))], .agg [.lit (.bool false), .lit (.bool false), .lit (.bool false), .lit (.int .i64 0)]]
def laid_sieveholes_ast_declParts {H : Type} : DataW H := .agg [.agg [.lit (.bool true), .lit (.bool false), .lit (.bool false)], .agg [.lit (.bool true), .lit (.bool false), .lit (.bool false)], .agg [.lit (.bool false), .lit (.bool false), .lit (.bool false)], .agg [.lit (.bool false), .lit (.bool true), .lit (.bool false)], .agg [.lit (.bool false), .lit (.bool false), .lit (.bool true)]]

/-- 'sieveholeslaw06.AstOperators': WHATEVER THE INPUT: true; the input reads as it did. -/
def astOperatorsSpec : ChangeSpec := { name := "astOperators", fn := fun _ => fun
  | [d1, d2, d3] => { results := [.lit (.bool true)], args := [d1, d2, d3] }
  | _ => none }
def astOperatorsRow : OpenClaim := { program := "ytkmioieanopafaadoor", sum := "739c0f737d970afcf71d867ac2998a63d6e9a6db23650dfe79dc5cf861a521e1", func := "sieveholes/sieveholeslaw06.AstOperators", spec := "astOperators", unfollowed := true, recurses := true, named := ["sieveholes/ast.texts", "sieveholes/ast.levels", "sieveholes/ast.keywords"], apart := false, laid := [("sieveholes/ast.texts", laid_sieveholes_ast_texts), ("sieveholes/ast.levels", laid_sieveholes_ast_levels), ("sieveholes/ast.keywords", laid_sieveholes_ast_keywords)] }
def AstOperatorsSaid : Prop := astOperatorsRow.holds Tryd.pinned (OpenSpec.ofChange astOperatorsSpec)

/-- ITS FALSE NEIGHBOUR: 'it returns false'. Refute it at one input. -/
def astOperatorsWrong : ChangeSpec := { name := "astOperators", fn := fun _ => fun
  | [d1, d2, d3] => { results := [.lit (.bool false)], args := [d1, d2, d3] }
  | _ => none }
def AstOperatorsWrongFalsely : Prop := astOperatorsRow.holds Tryd.pinned (OpenSpec.ofChange astOperatorsWrong)

/-- 'sieveholeslaw06.AstTells': WHATEVER THE INPUT: true; the input reads as it did. -/
def astTellsSpec : ChangeSpec := { name := "astTells", fn := fun _ => fun
  | [d1, d2] => { results := [.lit (.bool true)], args := [d1, d2] }
  | _ => none }
def astTellsRow : OpenClaim := { program := "ytkmioieanopafaadoor", sum := "739c0f737d970afcf71d867ac2998a63d6e9a6db23650dfe79dc5cf861a521e1", func := "sieveholes/sieveholeslaw06.AstTells", spec := "astTells", unfollowed := true, recurses := true, named := ["sieveholes/ast.texts", "sieveholes/ast.levels", "sieveholes/ast.keywords", "sieveholes/ast.declParts", "sieveholes/ast.stmtParts", "sieveholes/ast.exprParts"], loops := true, apart := false, laid := [("sieveholes/ast.exprParts", laid_sieveholes_ast_exprParts), ("sieveholes/ast.stmtParts", laid_sieveholes_ast_stmtParts), ("sieveholes/ast.declParts", laid_sieveholes_ast_declParts), ("sieveholes/ast.texts", laid_sieveholes_ast_texts), ("sieveholes/ast.levels", laid_sieveholes_ast_levels), ("sieveholes/ast.keywords", laid_sieveholes_ast_keywords)] }
def AstTellsSaid : Prop := astTellsRow.holds Tryd.pinned (OpenSpec.ofChange astTellsSpec)

/-- ITS FALSE NEIGHBOUR: 'it returns false'. Refute it at one input. -/
def astTellsWrong : ChangeSpec := { name := "astTells", fn := fun _ => fun
  | [d1, d2] => { results := [.lit (.bool false)], args := [d1, d2] }
  | _ => none }
def AstTellsWrongFalsely : Prop := astTellsRow.holds Tryd.pinned (OpenSpec.ofChange astTellsWrong)

/-- 'sieveholeslaw06.AstCopies': WHATEVER THE INPUT: true; the input reads as it did. -/
def astCopiesSpec : ChangeSpec := { name := "astCopies", fn := fun _ => fun
  | [d1, d2] => { results := [.lit (.bool true)], args := [d1, d2] }
  | _ => none }
def astCopiesRow : OpenClaim := { program := "ytkmioieanopafaadoor", sum := "739c0f737d970afcf71d867ac2998a63d6e9a6db23650dfe79dc5cf861a521e1", func := "sieveholes/sieveholeslaw06.AstCopies", spec := "astCopies", unfollowed := true, recurses := true, named := ["sieveholes/ast.texts", "sieveholes/ast.levels", "sieveholes/ast.keywords", "sieveholes/ast.declParts", "sieveholes/ast.stmtParts", "sieveholes/ast.exprParts"], loops := true, apart := false, laid := [("sieveholes/ast.exprParts", laid_sieveholes_ast_exprParts), ("sieveholes/ast.stmtParts", laid_sieveholes_ast_stmtParts), ("sieveholes/ast.declParts", laid_sieveholes_ast_declParts), ("sieveholes/ast.texts", laid_sieveholes_ast_texts), ("sieveholes/ast.levels", laid_sieveholes_ast_levels), ("sieveholes/ast.keywords", laid_sieveholes_ast_keywords)] }
def AstCopiesSaid : Prop := astCopiesRow.holds Tryd.pinned (OpenSpec.ofChange astCopiesSpec)

/-- ITS FALSE NEIGHBOUR: 'it returns false'. Refute it at one input. -/
def astCopiesWrong : ChangeSpec := { name := "astCopies", fn := fun _ => fun
  | [d1, d2] => { results := [.lit (.bool false)], args := [d1, d2] }
  | _ => none }
def AstCopiesWrongFalsely : Prop := astCopiesRow.holds Tryd.pinned (OpenSpec.ofChange astCopiesWrong)

/-- 'sieveholeslaw06.AstPlaces': WHATEVER THE INPUT: true; the input reads as it did. -/
def astPlacesSpec : ChangeSpec := { name := "astPlaces", fn := fun _ => fun
  | [d1, d2] => { results := [.lit (.bool true)], args := [d1, d2] }
  | _ => none }
def astPlacesRow : OpenClaim := { program := "ytkmioieanopafaadoor", sum := "739c0f737d970afcf71d867ac2998a63d6e9a6db23650dfe79dc5cf861a521e1", func := "sieveholes/sieveholeslaw06.AstPlaces", spec := "astPlaces", unfollowed := true, recurses := true, named := ["sieveholes/ast.texts", "sieveholes/ast.levels", "sieveholes/ast.keywords"], loops := true, apart := false, laid := [("sieveholes/ast.texts", laid_sieveholes_ast_texts), ("sieveholes/ast.levels", laid_sieveholes_ast_levels), ("sieveholes/ast.keywords", laid_sieveholes_ast_keywords)] }
def AstPlacesSaid : Prop := astPlacesRow.holds Tryd.pinned (OpenSpec.ofChange astPlacesSpec)

/-- ITS FALSE NEIGHBOUR: 'it returns false'. Refute it at one input. -/
def astPlacesWrong : ChangeSpec := { name := "astPlaces", fn := fun _ => fun
  | [d1, d2] => { results := [.lit (.bool false)], args := [d1, d2] }
  | _ => none }
def AstPlacesWrongFalsely : Prop := astPlacesRow.holds Tryd.pinned (OpenSpec.ofChange astPlacesWrong)

/- THE SECOND FORM. 'bulk': how many values and letters a reading holds, each counted each time it is reached (what is shared counts as often as it is met; a slice's spare places count too). A statement '..UptoSaid' is the law's where the arguments, and the package variables that the reading takes, are together of bulk at most 1048576: NARROWER than '..Said'. Prove '..Said' where nothing that the law and all that it calls make is longer than what came in: it says more and counts as full. Else prove '..UptoSaid'. A law counts once. -/
mutual
def uptoBulk {H : Type} : DataW H → Nat
  | .lit (.string bytes) => bytes.length + 1
  | .lit _ => 1
  | .nil => 1
  | .ptr d => uptoBulk d + 1
  | .slice elems spare => uptoBulkAll elems + uptoBulkAll spare + 1
  | .agg parts => uptoBulkAll parts + 1
  | .iface _ d => uptoBulk d + 1
  | .map entries => uptoBulkEntries entries + 1
  | .held _ => 1
def uptoBulkAll {H : Type} : List (DataW H) → Nat
  | [] => 0
  | d :: r => uptoBulk d + uptoBulkAll r
def uptoBulkEntries {H : Type} : List (Lit × DataW H) → Nat
  | [] => 0
  | x :: r => uptoBulkEntry x + uptoBulkEntries r
def uptoBulkEntry {H : Type} : Lit × DataW H → Nat
  | (.string bytes, d) => bytes.length + uptoBulk d + 1
  | (_, d) => uptoBulk d + 1
 end
def uptoSmall : (H : Type) → List (DataW H) → Bool := fun _ ds => decide (uptoBulkAll ds ≤ 1048576)
def OpenSpec.upto (s : _root_.Go.ChangeSpec) : _root_.Go.OpenSpec := { _root_.Go.OpenSpec.ofChange s with cond := some uptoSmall }

/-- 'sieveholeslaw06.AstOperators', WHERE WHAT IT READS IS OF BULK AT MOST 1048576: true; the input reads as it did. -/
def astOperatorsUptoRow : OpenClaim := { program := "ytkmioieanopafaadoor", sum := "739c0f737d970afcf71d867ac2998a63d6e9a6db23650dfe79dc5cf861a521e1", func := "sieveholes/sieveholeslaw06.AstOperators", spec := "astOperators", unfollowed := true, recurses := true, named := ["sieveholes/ast.texts", "sieveholes/ast.levels", "sieveholes/ast.keywords"], apart := false, laid := [("sieveholes/ast.texts", laid_sieveholes_ast_texts), ("sieveholes/ast.levels", laid_sieveholes_ast_levels), ("sieveholes/ast.keywords", laid_sieveholes_ast_keywords)], narrowed := true }
def AstOperatorsUptoSaid : Prop := astOperatorsUptoRow.holds Tryd.pinned (OpenSpec.upto astOperatorsSpec)

/-- 'sieveholeslaw06.AstTells', WHERE WHAT IT READS IS OF BULK AT MOST 1048576: true; the input reads as it did. -/
def astTellsUptoRow : OpenClaim := { program := "ytkmioieanopafaadoor", sum := "739c0f737d970afcf71d867ac2998a63d6e9a6db23650dfe79dc5cf861a521e1", func := "sieveholes/sieveholeslaw06.AstTells", spec := "astTells", unfollowed := true, recurses := true, named := ["sieveholes/ast.texts", "sieveholes/ast.levels", "sieveholes/ast.keywords", "sieveholes/ast.declParts", "sieveholes/ast.stmtParts", "sieveholes/ast.exprParts"], loops := true, apart := false, laid := [("sieveholes/ast.exprParts", laid_sieveholes_ast_exprParts), ("sieveholes/ast.stmtParts", laid_sieveholes_ast_stmtParts), ("sieveholes/ast.declParts", laid_sieveholes_ast_declParts), ("sieveholes/ast.texts", laid_sieveholes_ast_texts), ("sieveholes/ast.levels", laid_sieveholes_ast_levels), ("sieveholes/ast.keywords", laid_sieveholes_ast_keywords)], narrowed := true }
def AstTellsUptoSaid : Prop := astTellsUptoRow.holds Tryd.pinned (OpenSpec.upto astTellsSpec)

/-- 'sieveholeslaw06.AstCopies', WHERE WHAT IT READS IS OF BULK AT MOST 1048576: true; the input reads as it did. -/
def astCopiesUptoRow : OpenClaim := { program := "ytkmioieanopafaadoor", sum := "739c0f737d970afcf71d867ac2998a63d6e9a6db23650dfe79dc5cf861a521e1", func := "sieveholes/sieveholeslaw06.AstCopies", spec := "astCopies", unfollowed := true, recurses := true, named := ["sieveholes/ast.texts", "sieveholes/ast.levels", "sieveholes/ast.keywords", "sieveholes/ast.declParts", "sieveholes/ast.stmtParts", "sieveholes/ast.exprParts"], loops := true, apart := false, laid := [("sieveholes/ast.exprParts", laid_sieveholes_ast_exprParts), ("sieveholes/ast.stmtParts", laid_sieveholes_ast_stmtParts), ("sieveholes/ast.declParts", laid_sieveholes_ast_declParts), ("sieveholes/ast.texts", laid_sieveholes_ast_texts), ("sieveholes/ast.levels", laid_sieveholes_ast_levels), ("sieveholes/ast.keywords", laid_sieveholes_ast_keywords)], narrowed := true }
def AstCopiesUptoSaid : Prop := astCopiesUptoRow.holds Tryd.pinned (OpenSpec.upto astCopiesSpec)

/-- 'sieveholeslaw06.AstPlaces', WHERE WHAT IT READS IS OF BULK AT MOST 1048576: true; the input reads as it did. -/
def astPlacesUptoRow : OpenClaim := { program := "ytkmioieanopafaadoor", sum := "739c0f737d970afcf71d867ac2998a63d6e9a6db23650dfe79dc5cf861a521e1", func := "sieveholes/sieveholeslaw06.AstPlaces", spec := "astPlaces", unfollowed := true, recurses := true, named := ["sieveholes/ast.texts", "sieveholes/ast.levels", "sieveholes/ast.keywords"], loops := true, apart := false, laid := [("sieveholes/ast.texts", laid_sieveholes_ast_texts), ("sieveholes/ast.levels", laid_sieveholes_ast_levels), ("sieveholes/ast.keywords", laid_sieveholes_ast_keywords)], narrowed := true }
def AstPlacesUptoSaid : Prop := astPlacesUptoRow.holds Tryd.pinned (OpenSpec.upto astPlacesSpec)

end Rows
end Go.Proofs.YtkmioieanopafaaDoor
