/-
  DERIVED. GIVEN WITH THE SEED: THE CARDS: each row of YtijliimiojjjdaaDoorRows.lean that lists a variable, with what it lists TIED to the program's text (the seventh form; the later family's looks); each row that meets fmt, with fmt's text TOLD by the authors' own Lean function (tested against real Go, not proved from fmt's source: count such statements apart). THE CARD IS WHAT COUNTS. Prove the row's statement (the work); the ties are given (YtijliimiojjjdaaDoorTie.lean); close each card by the builder's one call (the guide's Derived/Test/ToyasCard.lean, 'card_holds'). Laid BY PROGRAM, IN A SANDBOX (cutbox-door.mjs). By AI agents, Wed Nov 11 2026. No macro, syntax, notation, axiom, sorry.
-/
import Derived.Test.YtijliimiojjjdaaDoorRows
import GoSem.ClaimSeven
namespace Go.Proofs.YtijliimiojjjdaaDoor
namespace Rows

/-- THE TIED CARD OF 'sieveholeslaw04.PosPlaces'. -/
def posPlacesCard : Claim7 := { stood := { row := posPlacesRow, standIns := [], harness := (true, "8afe3b8c6f1901479ae42ac0ba76d500dad4dce45776dafd425c8463ec16af69"), looks := true }, kinds := [], alts := [], laidByText := true, laidKinds := [.data, .data, .data], laidTests := true, laidLooks := .later }
def PosPlacesCardSaid : Prop := Claim7.holds Tryd.pinned (.plain (OpenSpec.ofChange posPlacesSpec)) posPlacesCard

/-- THE TIED CARD OF 'sieveholeslaw04.PosTells'. -/
def posTellsCard : Claim7 := { stood := { row := posTellsRow, standIns := [], harness := (true, "8afe3b8c6f1901479ae42ac0ba76d500dad4dce45776dafd425c8463ec16af69"), looks := true }, kinds := [], alts := [], laidByText := true, laidKinds := [.data, .data, .data, .sentinel, .sentinel], laidTests := true, laidLooks := .later }
def PosTellsCardSaid : Prop := Claim7.holds Tryd.pinned (.plain (OpenSpec.ofChange posTellsSpec)) posTellsCard

/-- THE TIED CARD OF 'sieveholeslaw04.PosBack'. -/
def posBackCard : Claim7 := { stood := { row := posBackRow, standIns := [], harness := (true, "8afe3b8c6f1901479ae42ac0ba76d500dad4dce45776dafd425c8463ec16af69"), looks := true }, kinds := [], alts := [], laidByText := true, laidKinds := [.data, .data, .data, .sentinel, .sentinel], laidTests := true, laidLooks := .later }
def PosBackCardSaid : Prop := Claim7.holds Tryd.pinned (.plain (OpenSpec.ofChange posBackSpec)) posBackCard

/-- THE TIED CARD OF 'sieveholeslaw04.PosKnown'. -/
def posKnownCard : Claim7 := { stood := { row := posKnownRow, standIns := [], harness := (true, "8afe3b8c6f1901479ae42ac0ba76d500dad4dce45776dafd425c8463ec16af69"), looks := true }, kinds := [], alts := [], laidByText := true, laidKinds := [.data, .data, .data, .sentinel, .sentinel], laidTests := true, laidLooks := .later }
def PosKnownCardSaid : Prop := Claim7.holds Tryd.pinned (.plain (OpenSpec.ofChange posKnownSpec)) posKnownCard

/-- THE SECOND FORM's CARD OF 'sieveholeslaw04.PosPlaces'. -/
def posPlacesUptoCard : Claim7 := { stood := { row := posPlacesUptoRow, standIns := [], harness := (true, "8afe3b8c6f1901479ae42ac0ba76d500dad4dce45776dafd425c8463ec16af69"), looks := true }, kinds := [], alts := [], laidByText := true, laidKinds := [.data, .data, .data], laidTests := true, laidLooks := .later }
def PosPlacesUptoCardSaid : Prop := Claim7.holds Tryd.pinned (.plain (OpenSpec.upto posPlacesSpec)) posPlacesUptoCard

/-- THE SECOND FORM's CARD OF 'sieveholeslaw04.PosTells'. -/
def posTellsUptoCard : Claim7 := { stood := { row := posTellsUptoRow, standIns := [], harness := (true, "8afe3b8c6f1901479ae42ac0ba76d500dad4dce45776dafd425c8463ec16af69"), looks := true }, kinds := [], alts := [], laidByText := true, laidKinds := [.data, .data, .data, .sentinel, .sentinel], laidTests := true, laidLooks := .later }
def PosTellsUptoCardSaid : Prop := Claim7.holds Tryd.pinned (.plain (OpenSpec.upto posTellsSpec)) posTellsUptoCard

/-- THE SECOND FORM's CARD OF 'sieveholeslaw04.PosBack'. -/
def posBackUptoCard : Claim7 := { stood := { row := posBackUptoRow, standIns := [], harness := (true, "8afe3b8c6f1901479ae42ac0ba76d500dad4dce45776dafd425c8463ec16af69"), looks := true }, kinds := [], alts := [], laidByText := true, laidKinds := [.data, .data, .data, .sentinel, .sentinel], laidTests := true, laidLooks := .later }
def PosBackUptoCardSaid : Prop := Claim7.holds Tryd.pinned (.plain (OpenSpec.upto posBackSpec)) posBackUptoCard

/-- THE SECOND FORM's CARD OF 'sieveholeslaw04.PosKnown'. -/
def posKnownUptoCard : Claim7 := { stood := { row := posKnownUptoRow, standIns := [], harness := (true, "8afe3b8c6f1901479ae42ac0ba76d500dad4dce45776dafd425c8463ec16af69"), looks := true }, kinds := [], alts := [], laidByText := true, laidKinds := [.data, .data, .data, .sentinel, .sentinel], laidTests := true, laidLooks := .later }
def PosKnownUptoCardSaid : Prop := Claim7.holds Tryd.pinned (.plain (OpenSpec.upto posKnownSpec)) posKnownUptoCard
end Rows
end Go.Proofs.YtijliimiojjjdaaDoor
