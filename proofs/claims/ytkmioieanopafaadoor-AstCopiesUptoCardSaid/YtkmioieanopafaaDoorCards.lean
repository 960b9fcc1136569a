/-
  DERIVED. GIVEN WITH THE SEED: THE CARDS: each row of YtkmioieanopafaaDoorRows.lean that lists a variable, with what it lists TIED to the program's text (the seventh form; the later family's looks); each row that meets fmt, with fmt's text TOLD by the authors' own Lean function (tested against real Go, not proved from fmt's source: count such statements apart). THE CARD IS WHAT COUNTS. Prove the row's statement (the work); the ties are given (YtkmioieanopafaaDoorTie.lean); close each card by the builder's one call (the guide's Derived/Test/ToyasCard.lean, 'card_holds'). Laid BY PROGRAM, IN A SANDBOX (cutbox-door.mjs). By AI agents, Wed Nov 11 2026. No macro, syntax, notation, axiom, sorry.
-/
import Derived.Test.YtkmioieanopafaaDoorRows
import GoSem.ClaimSeven
namespace Go.Proofs.YtkmioieanopafaaDoor
namespace Rows

/-- THE TIED CARD OF 'sieveholeslaw06.AstOperators'. -/
def astOperatorsCard : Claim7 := { stood := { row := astOperatorsRow, standIns := [], harness := (true, "54b09ed156bde683d2ebaf7753da58e479bdf5fa15fd851a0fccd12c4fc4f756"), looks := false }, kinds := [], alts := [], laidByText := true, laidKinds := [.data, .data, .data], laidTests := true, laidLooks := .later }
def AstOperatorsCardSaid : Prop := Claim7.holds Tryd.pinned (.plain (OpenSpec.ofChange astOperatorsSpec)) astOperatorsCard

/-- THE TIED CARD OF 'sieveholeslaw06.AstTells'. -/
def astTellsCard : Claim7 := { stood := { row := astTellsRow, standIns := [], harness := (true, "54b09ed156bde683d2ebaf7753da58e479bdf5fa15fd851a0fccd12c4fc4f756"), looks := false }, kinds := [], alts := [], laidByText := true, laidKinds := [.data, .data, .data, .data, .data, .data], laidTests := true, laidLooks := .later }
def AstTellsCardSaid : Prop := Claim7.holds Tryd.pinned (.plain (OpenSpec.ofChange astTellsSpec)) astTellsCard

/-- THE TIED CARD OF 'sieveholeslaw06.AstCopies'. -/
def astCopiesCard : Claim7 := { stood := { row := astCopiesRow, standIns := [], harness := (true, "54b09ed156bde683d2ebaf7753da58e479bdf5fa15fd851a0fccd12c4fc4f756"), looks := false }, kinds := [], alts := [], laidByText := true, laidKinds := [.data, .data, .data, .data, .data, .data], laidTests := true, laidLooks := .later }
def AstCopiesCardSaid : Prop := Claim7.holds Tryd.pinned (.plain (OpenSpec.ofChange astCopiesSpec)) astCopiesCard

/-- THE TIED CARD OF 'sieveholeslaw06.AstPlaces'. -/
def astPlacesCard : Claim7 := { stood := { row := astPlacesRow, standIns := [], harness := (true, "54b09ed156bde683d2ebaf7753da58e479bdf5fa15fd851a0fccd12c4fc4f756"), looks := false }, kinds := [], alts := [], laidByText := true, laidKinds := [.data, .data, .data], laidTests := true, laidLooks := .later }
def AstPlacesCardSaid : Prop := Claim7.holds Tryd.pinned (.plain (OpenSpec.ofChange astPlacesSpec)) astPlacesCard

/-- THE SECOND FORM's CARD OF 'sieveholeslaw06.AstOperators'. -/
def astOperatorsUptoCard : Claim7 := { stood := { row := astOperatorsUptoRow, standIns := [], harness := (true, "54b09ed156bde683d2ebaf7753da58e479bdf5fa15fd851a0fccd12c4fc4f756"), looks := false }, kinds := [], alts := [], laidByText := true, laidKinds := [.data, .data, .data], laidTests := true, laidLooks := .later }
def AstOperatorsUptoCardSaid : Prop := Claim7.holds Tryd.pinned (.plain (OpenSpec.upto astOperatorsSpec)) astOperatorsUptoCard

/-- THE SECOND FORM's CARD OF 'sieveholeslaw06.AstTells'. -/
def astTellsUptoCard : Claim7 := { stood := { row := astTellsUptoRow, standIns := [], harness := (true, "54b09ed156bde683d2ebaf7753da58e479bdf5fa15fd851a0fccd12c4fc4f756"), looks := false }, kinds := [], alts := [], laidByText := true, laidKinds := [.data, .data, .data, .data, .data, .data], laidTests := true, laidLooks := .later }
def AstTellsUptoCardSaid : Prop := Claim7.holds Tryd.pinned (.plain (OpenSpec.upto astTellsSpec)) astTellsUptoCard

/-- THE SECOND FORM's CARD OF 'sieveholeslaw06.AstCopies'. -/
def astCopiesUptoCard : Claim7 := { stood := { row := astCopiesUptoRow, standIns := [], harness := (true, "54b09ed156bde683d2ebaf7753da58e479bdf5fa15fd851a0fccd12c4fc4f756"), looks := false }, kinds := [], alts := [], laidByText := true, laidKinds := [.data, .data, .data, .data, .data, .data], laidTests := true, laidLooks := .later }
def AstCopiesUptoCardSaid : Prop := Claim7.holds Tryd.pinned (.plain (OpenSpec.upto astCopiesSpec)) astCopiesUptoCard

/-- THE SECOND FORM's CARD OF 'sieveholeslaw06.AstPlaces'. -/
def astPlacesUptoCard : Claim7 := { stood := { row := astPlacesUptoRow, standIns := [], harness := (true, "54b09ed156bde683d2ebaf7753da58e479bdf5fa15fd851a0fccd12c4fc4f756"), looks := false }, kinds := [], alts := [], laidByText := true, laidKinds := [.data, .data, .data], laidTests := true, laidLooks := .later }
def AstPlacesUptoCardSaid : Prop := Claim7.holds Tryd.pinned (.plain (OpenSpec.upto astPlacesSpec)) astPlacesUptoCard
end Rows
end Go.Proofs.YtkmioieanopafaaDoor
