/-
  DERIVED. GIVEN WITH THE SEED: THE CARDS: each row of YtejifkeeihkcjaaDoorRows.lean that lists a variable, with what it lists TIED to the program's text (the seventh form; the later family's looks); each row that meets fmt, with fmt's text TOLD by the authors' own Lean function (tested against real Go, not proved from fmt's source: count such statements apart). THE CARD IS WHAT COUNTS. Prove the row's statement (the work); the ties are given (YtejifkeeihkcjaaDoorTie.lean); close each card by the builder's one call (the guide's Derived/Test/ToyasCard.lean, 'card_holds'). Laid BY PROGRAM, IN A SANDBOX (cutbox-door.mjs). By AI agents, Wed Nov 11 2026. No macro, syntax, notation, axiom, sorry.
-/
import Derived.Test.YtejifkeeihkcjaaDoorRows
import GoSem.ClaimSeven
namespace Go.Proofs.YtejifkeeihkcjaaDoor
namespace Rows

/-- THE TIED CARD OF 'sieveholeslaw07.PrettySame'. -/
def prettySameCard : Claim7 := { stood := { row := prettySameRow, standIns := [], harness := (true, "b536a7de4ccbeefbcc2be333cc03971e69100f845e4fc3daed1534de12faa49e"), looks := false }, kinds := [], alts := [], laidByText := true, laidKinds := [.data, .data, .data, .data, .data, .data, .data, .data, .data], laidTests := true, laidLooks := .later }
def PrettySameCardSaid : Prop := Claim7.holds Tryd.pinned (.plain (OpenSpec.ofChange prettySameSpec)) prettySameCard

/-- THE SECOND FORM's CARD OF 'sieveholeslaw07.PrettySame'. -/
def prettySameUptoCard : Claim7 := { stood := { row := prettySameUptoRow, standIns := [], harness := (true, "b536a7de4ccbeefbcc2be333cc03971e69100f845e4fc3daed1534de12faa49e"), looks := false }, kinds := [], alts := [], laidByText := true, laidKinds := [.data, .data, .data, .data, .data, .data, .data, .data, .data], laidTests := true, laidLooks := .later }
def PrettySameUptoCardSaid : Prop := Claim7.holds Tryd.pinned (.plain (OpenSpec.upto prettySameSpec)) prettySameUptoCard
end Rows
end Go.Proofs.YtejifkeeihkcjaaDoor
