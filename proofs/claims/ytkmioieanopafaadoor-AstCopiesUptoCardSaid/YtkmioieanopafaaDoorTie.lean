/-
  DERIVED. GIVEN WITH THE SEED: THE PROGRAM's TIES (one call each: nine closed facts by the kernel) AND EACH ROW's TIE, after the 31st guide's Derived/Test/Toyas{Tie, Card}.lean. No idea stands in it: it is a product of the set-up. Laid BY PROGRAM, IN A SANDBOX (cutbox-door.mjs). By AI agents, Wed Nov 11 2026. No macro, syntax, notation, axiom, sorry.
-/
import Derived.Test.YtkmioieanopafaaDoorRows
import Derived.LaidByTextLater
import Derived.SevenTiedAt
import Derived.LaidSub
import Derived.LaidOnce
namespace Go.Proofs.YtkmioieanopafaaDoor
open Go
set_option maxRecDepth 100000
theorem seatTie1 : Tryd.prog.laidByTextLater [("sieveholes/ast.exprParts", Rows.laid_sieveholes_ast_exprParts), ("sieveholes/ast.stmtParts", Rows.laid_sieveholes_ast_stmtParts), ("sieveholes/ast.declParts", Rows.laid_sieveholes_ast_declParts), ("sieveholes/ast.texts", Rows.laid_sieveholes_ast_texts), ("sieveholes/ast.levels", Rows.laid_sieveholes_ast_levels), ("sieveholes/ast.keywords", Rows.laid_sieveholes_ast_keywords)] [.data, .data, .data, .data, .data, .data] true :=
  Program.laidByTextLater_by_one 56 8 29 (by kernel_rfl) (by kernel_rfl) (by kernel_rfl) (by kernel_rfl) (by kernel_rfl) (by kernel_rfl) (fun _ _ => by kernel_rfl)
theorem noOwnUnsafe : Tryd.pinned.checked.prog.headLifts.contains "ownunsafe" = false := by kernel_rfl
theorem tie : Tryd.prog.laidByTextLater [("sieveholes/ast.texts", Rows.laid_sieveholes_ast_texts), ("sieveholes/ast.levels", Rows.laid_sieveholes_ast_levels), ("sieveholes/ast.keywords", Rows.laid_sieveholes_ast_keywords)] [.data, .data, .data] true :=
  Program.laidByTextLater.sub seatTie1 ["sieveholes/ast.texts", "sieveholes/ast.levels", "sieveholes/ast.keywords"] (by kernel_rfl) (by kernel_rfl)
theorem astOperators_row_tie : Rows.astOperatorsRow.laidByTextAt .later Tryd.pinned [.data, .data, .data] true :=
  OpenClaim.laidByTextAt_later rfl rfl tie noOwnUnsafe
theorem astPlaces_row_tie : Rows.astPlacesRow.laidByTextAt .later Tryd.pinned [.data, .data, .data] true :=
  OpenClaim.laidByTextAt_later rfl rfl tie noOwnUnsafe
theorem tie2 : Tryd.prog.laidByTextLater [("sieveholes/ast.exprParts", Rows.laid_sieveholes_ast_exprParts), ("sieveholes/ast.stmtParts", Rows.laid_sieveholes_ast_stmtParts), ("sieveholes/ast.declParts", Rows.laid_sieveholes_ast_declParts), ("sieveholes/ast.texts", Rows.laid_sieveholes_ast_texts), ("sieveholes/ast.levels", Rows.laid_sieveholes_ast_levels), ("sieveholes/ast.keywords", Rows.laid_sieveholes_ast_keywords)] [.data, .data, .data, .data, .data, .data] true :=
  Program.laidByTextLater.sub seatTie1 ["sieveholes/ast.exprParts", "sieveholes/ast.stmtParts", "sieveholes/ast.declParts", "sieveholes/ast.texts", "sieveholes/ast.levels", "sieveholes/ast.keywords"] (by kernel_rfl) (by kernel_rfl)
theorem astTells_row_tie : Rows.astTellsRow.laidByTextAt .later Tryd.pinned [.data, .data, .data, .data, .data, .data] true :=
  OpenClaim.laidByTextAt_later rfl rfl tie2 noOwnUnsafe
theorem astCopies_row_tie : Rows.astCopiesRow.laidByTextAt .later Tryd.pinned [.data, .data, .data, .data, .data, .data] true :=
  OpenClaim.laidByTextAt_later rfl rfl tie2 noOwnUnsafe
theorem astOperatorsUpto_row_tie : Rows.astOperatorsUptoRow.laidByTextAt .later Tryd.pinned [.data, .data, .data] true :=
  OpenClaim.laidByTextAt_later rfl rfl tie noOwnUnsafe
theorem astTellsUpto_row_tie : Rows.astTellsUptoRow.laidByTextAt .later Tryd.pinned [.data, .data, .data, .data, .data, .data] true :=
  OpenClaim.laidByTextAt_later rfl rfl tie2 noOwnUnsafe
theorem astCopiesUpto_row_tie : Rows.astCopiesUptoRow.laidByTextAt .later Tryd.pinned [.data, .data, .data, .data, .data, .data] true :=
  OpenClaim.laidByTextAt_later rfl rfl tie2 noOwnUnsafe
theorem astPlacesUpto_row_tie : Rows.astPlacesUptoRow.laidByTextAt .later Tryd.pinned [.data, .data, .data] true :=
  OpenClaim.laidByTextAt_later rfl rfl tie noOwnUnsafe
end Go.Proofs.YtkmioieanopafaaDoor
