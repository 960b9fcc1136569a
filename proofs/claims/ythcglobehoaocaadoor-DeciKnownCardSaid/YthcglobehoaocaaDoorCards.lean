/-
  DERIVED. GIVEN WITH THE SEED: THE CARDS: each row of YthcglobehoaocaaDoorRows.lean that lists a variable, with what it lists TIED to the program's text (the seventh form; the later family's looks); each row that meets fmt, with fmt's text TOLD by the authors' own Lean function (tested against real Go, not proved from fmt's source: count such statements apart). THE CARD IS WHAT COUNTS. Prove the row's statement (the work); the ties are given (YthcglobehoaocaaDoorTie.lean); close each card by the builder's one call (the guide's Derived/Test/ToyasCard.lean, 'card_holds'). Laid BY PROGRAM, IN A SANDBOX (cutbox-door.mjs). By AI agents, Wed Nov 11 2026. No macro, syntax, notation, axiom, sorry.
-/
import Derived.Test.YthcglobehoaocaaDoorRows
import GoSem.ClaimSeven
namespace Go.Proofs.YthcglobehoaocaaDoor
namespace Rows

/-- THE TIED CARD OF 'sieveholeslaw02.DeciDivides'. -/
def deciDividesCard : Claim7 := { stood := { row := deciDividesRow, standIns := [], harness := (true, "d6f62dd9d780e20164d3155c1dc8c624b457fbd80fb725e8847eebb3e70acc80"), looks := true }, kinds := [], alts := [], laidByText := true, laidKinds := [.data, .data, .data, .sentinel, .sentinel], laidTests := true, laidLooks := .later }
def DeciDividesCardSaid : Prop := Claim7.holds Tryd.pinned (.plain (OpenSpec.ofChange deciDividesSpec)) deciDividesCard

/-- THE TIED CARD OF 'sieveholeslaw02.DeciTexts'. -/
def deciTextsCard : Claim7 := { stood := { row := deciTextsRow, standIns := [], harness := (true, "d6f62dd9d780e20164d3155c1dc8c624b457fbd80fb725e8847eebb3e70acc80"), looks := true }, kinds := [], alts := [], laidByText := true, laidKinds := [.data, .data, .data, .sentinel, .sentinel], laidTests := true, laidLooks := .later }
def DeciTextsCardSaid : Prop := Claim7.holds Tryd.pinned (.plain (OpenSpec.ofChange deciTextsSpec)) deciTextsCard

/-- THE TIED CARD OF 'sieveholeslaw02.DeciReads'. -/
def deciReadsCard : Claim7 := { stood := { row := deciReadsRow, standIns := [], harness := (true, "d6f62dd9d780e20164d3155c1dc8c624b457fbd80fb725e8847eebb3e70acc80"), looks := true }, kinds := [], alts := [], laidByText := true, laidKinds := [.data, .data, .data, .sentinel, .sentinel], laidTests := true, laidLooks := .later }
def DeciReadsCardSaid : Prop := Claim7.holds Tryd.pinned (.plain (OpenSpec.ofChange deciReadsSpec)) deciReadsCard

/-- THE TIED CARD OF 'sieveholeslaw02.DeciBack'. -/
def deciBackCard : Claim7 := { stood := { row := deciBackRow, standIns := [], harness := (true, "d6f62dd9d780e20164d3155c1dc8c624b457fbd80fb725e8847eebb3e70acc80"), looks := true }, kinds := [], alts := [], laidByText := true, laidKinds := [.data, .data, .data, .sentinel, .sentinel], laidTests := true, laidLooks := .later }
def DeciBackCardSaid : Prop := Claim7.holds Tryd.pinned (.plain (OpenSpec.ofChange deciBackSpec)) deciBackCard

/-- THE TIED CARD OF 'sieveholeslaw02.DeciKnown'. -/
def deciKnownCard : Claim7 := { stood := { row := deciKnownRow, standIns := [], harness := (true, "d6f62dd9d780e20164d3155c1dc8c624b457fbd80fb725e8847eebb3e70acc80"), looks := true }, kinds := [], alts := [], laidByText := true, laidKinds := [.data, .data, .data, .sentinel, .sentinel], laidTests := true, laidLooks := .later }
def DeciKnownCardSaid : Prop := Claim7.holds Tryd.pinned (.plain (OpenSpec.ofChange deciKnownSpec)) deciKnownCard

/-- THE SECOND FORM's CARD OF 'sieveholeslaw02.DeciDivides'. -/
def deciDividesUptoCard : Claim7 := { stood := { row := deciDividesUptoRow, standIns := [], harness := (true, "d6f62dd9d780e20164d3155c1dc8c624b457fbd80fb725e8847eebb3e70acc80"), looks := true }, kinds := [], alts := [], laidByText := true, laidKinds := [.data, .data, .data, .sentinel, .sentinel], laidTests := true, laidLooks := .later }
def DeciDividesUptoCardSaid : Prop := Claim7.holds Tryd.pinned (.plain (OpenSpec.upto deciDividesSpec)) deciDividesUptoCard

/-- THE SECOND FORM's CARD OF 'sieveholeslaw02.DeciTexts'. -/
def deciTextsUptoCard : Claim7 := { stood := { row := deciTextsUptoRow, standIns := [], harness := (true, "d6f62dd9d780e20164d3155c1dc8c624b457fbd80fb725e8847eebb3e70acc80"), looks := true }, kinds := [], alts := [], laidByText := true, laidKinds := [.data, .data, .data, .sentinel, .sentinel], laidTests := true, laidLooks := .later }
def DeciTextsUptoCardSaid : Prop := Claim7.holds Tryd.pinned (.plain (OpenSpec.upto deciTextsSpec)) deciTextsUptoCard

/-- THE SECOND FORM's CARD OF 'sieveholeslaw02.DeciReads'. -/
def deciReadsUptoCard : Claim7 := { stood := { row := deciReadsUptoRow, standIns := [], harness := (true, "d6f62dd9d780e20164d3155c1dc8c624b457fbd80fb725e8847eebb3e70acc80"), looks := true }, kinds := [], alts := [], laidByText := true, laidKinds := [.data, .data, .data, .sentinel, .sentinel], laidTests := true, laidLooks := .later }
def DeciReadsUptoCardSaid : Prop := Claim7.holds Tryd.pinned (.plain (OpenSpec.upto deciReadsSpec)) deciReadsUptoCard

/-- THE SECOND FORM's CARD OF 'sieveholeslaw02.DeciBack'. -/
def deciBackUptoCard : Claim7 := { stood := { row := deciBackUptoRow, standIns := [], harness := (true, "d6f62dd9d780e20164d3155c1dc8c624b457fbd80fb725e8847eebb3e70acc80"), looks := true }, kinds := [], alts := [], laidByText := true, laidKinds := [.data, .data, .data, .sentinel, .sentinel], laidTests := true, laidLooks := .later }
def DeciBackUptoCardSaid : Prop := Claim7.holds Tryd.pinned (.plain (OpenSpec.upto deciBackSpec)) deciBackUptoCard

/-- THE SECOND FORM's CARD OF 'sieveholeslaw02.DeciKnown'. -/
def deciKnownUptoCard : Claim7 := { stood := { row := deciKnownUptoRow, standIns := [], harness := (true, "d6f62dd9d780e20164d3155c1dc8c624b457fbd80fb725e8847eebb3e70acc80"), looks := true }, kinds := [], alts := [], laidByText := true, laidKinds := [.data, .data, .data, .sentinel, .sentinel], laidTests := true, laidLooks := .later }
def DeciKnownUptoCardSaid : Prop := Claim7.holds Tryd.pinned (.plain (OpenSpec.upto deciKnownSpec)) deciKnownUptoCard
end Rows
end Go.Proofs.YthcglobehoaocaaDoor
