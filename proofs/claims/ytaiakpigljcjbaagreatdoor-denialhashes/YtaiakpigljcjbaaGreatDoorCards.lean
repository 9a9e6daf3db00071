/-
  DERIVED. GIVEN WITH THE SEED: THE CARDS: each row of YtaiakpigljcjbaaGreatDoorRows.lean that lists a variable, with what it lists TIED to the program's text (the seventh form; the later family's looks); each row that meets fmt, with fmt's text TOLD by the authors' own Lean function (tested against real Go, not proved from fmt's source: count such statements apart). THE CARD IS WHAT COUNTS. Prove the row's statement (the work); the ties are given (YtaiakpigljcjbaaGreatDoorTie.lean); close each card by the builder's one call (the guide's Derived/Test/ToyasCard.lean, 'card_holds'). Laid BY PROGRAM, IN A SANDBOX (cutbox-door.mjs). By AI agents, Wed Nov 11 2026. No macro, syntax, notation, axiom, sorry.
-/
import Derived.Test.YtaiakpigljcjbaaGreatDoorRows
import GoSem.ClaimSeven
namespace Go.Proofs.YtaiakpigljcjbaaGreatDoor
namespace Rows

/-- THE TIED CARD OF 'guidepostlaw09.DenialHashes'. -/
def denialHashesCard : Claim7 := { stood := { row := denialHashesRow, standIns := [], harness := (true, "edab1babaaa7f20a5c68ebc072e3d528ae9dd901aa54da9c2eb3e8d9b9815cee"), looks := true }, kinds := [], alts := [], laidByText := true, laidKinds := [.data, .data, .data, .data, .sentinel, .sentinel, .data, .pinned], laidTests := true, laidLooks := .later }
def DenialHashesCardSaid : Prop := Claim7.holds Tryz.pinned (.plain (OpenSpec.ofChange denialHashesSpec)) denialHashesCard

/-- THE TIED CARD OF 'guidepostlaw09.DenialSides'. -/
def denialSidesCard : Claim7 := { stood := { row := denialSidesRow, standIns := [], harness := (true, "edab1babaaa7f20a5c68ebc072e3d528ae9dd901aa54da9c2eb3e8d9b9815cee"), looks := true }, kinds := [], alts := [], laidByText := true, laidKinds := [.data, .data, .data, .data, .sentinel, .sentinel, .data, .pinned], laidTests := true, laidLooks := .later }
def DenialSidesCardSaid : Prop := Claim7.holds Tryz.pinned (.plain (OpenSpec.ofChange denialSidesSpec)) denialSidesCard

/-- THE TIED CARD OF 'guidepostlaw09.DenialLetters'. -/
def denialLettersCard : Claim7 := { stood := { row := denialLettersRow, standIns := [], harness := (true, "edab1babaaa7f20a5c68ebc072e3d528ae9dd901aa54da9c2eb3e8d9b9815cee"), looks := true }, kinds := [], alts := [], laidByText := true, laidKinds := [.data, .data, .data, .data, .sentinel, .sentinel, .data, .pinned], laidTests := true, laidLooks := .later }
def DenialLettersCardSaid : Prop := Claim7.holds Tryz.pinned (.plain (OpenSpec.ofChange denialLettersSpec)) denialLettersCard

/-- THE SECOND FORM's CARD OF 'guidepostlaw09.DenialHashes'. -/
def denialHashesUptoCard : Claim7 := { stood := { row := denialHashesUptoRow, standIns := [], harness := (true, "edab1babaaa7f20a5c68ebc072e3d528ae9dd901aa54da9c2eb3e8d9b9815cee"), looks := true }, kinds := [], alts := [], laidByText := true, laidKinds := [.data, .data, .data, .data, .sentinel, .sentinel, .data, .pinned], laidTests := true, laidLooks := .later }
def DenialHashesUptoCardSaid : Prop := Claim7.holds Tryz.pinned (.plain (OpenSpec.upto denialHashesSpec)) denialHashesUptoCard

/-- THE SECOND FORM's CARD OF 'guidepostlaw09.DenialSides'. -/
def denialSidesUptoCard : Claim7 := { stood := { row := denialSidesUptoRow, standIns := [], harness := (true, "edab1babaaa7f20a5c68ebc072e3d528ae9dd901aa54da9c2eb3e8d9b9815cee"), looks := true }, kinds := [], alts := [], laidByText := true, laidKinds := [.data, .data, .data, .data, .sentinel, .sentinel, .data, .pinned], laidTests := true, laidLooks := .later }
def DenialSidesUptoCardSaid : Prop := Claim7.holds Tryz.pinned (.plain (OpenSpec.upto denialSidesSpec)) denialSidesUptoCard

/-- THE SECOND FORM's CARD OF 'guidepostlaw09.DenialLetters'. -/
def denialLettersUptoCard : Claim7 := { stood := { row := denialLettersUptoRow, standIns := [], harness := (true, "edab1babaaa7f20a5c68ebc072e3d528ae9dd901aa54da9c2eb3e8d9b9815cee"), looks := true }, kinds := [], alts := [], laidByText := true, laidKinds := [.data, .data, .data, .data, .sentinel, .sentinel, .data, .pinned], laidTests := true, laidLooks := .later }
def DenialLettersUptoCardSaid : Prop := Claim7.holds Tryz.pinned (.plain (OpenSpec.upto denialLettersSpec)) denialLettersUptoCard
end Rows
end Go.Proofs.YtaiakpigljcjbaaGreatDoor
