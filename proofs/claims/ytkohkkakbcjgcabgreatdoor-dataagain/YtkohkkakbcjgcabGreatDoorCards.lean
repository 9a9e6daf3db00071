/-
  DERIVED. GIVEN WITH THE SEED: THE CARDS: each row of YtkohkkakbcjgcabGreatDoorRows.lean that lists a variable, with what it lists TIED to the program's text (the seventh form; the later family's looks); each row that meets fmt, with fmt's text TOLD by the authors' own Lean function (tested against real Go, not proved from fmt's source: count such statements apart). THE CARD IS WHAT COUNTS. Prove the row's statement (the work); the ties are given (YtkohkkakbcjgcabGreatDoorTie.lean); close each card by the builder's one call (the guide's Derived/Test/ToyasCard.lean, 'card_holds'). Laid BY PROGRAM, IN A SANDBOX (cutbox-door.mjs). By AI agents, Wed Nov 11 2026. No macro, syntax, notation, axiom, sorry.
-/
import Derived.Test.YtkohkkakbcjgcabGreatDoorRows
import GoSem.ClaimSeven
namespace Go.Proofs.YtkohkkakbcjgcabGreatDoor
namespace Rows

/-- THE TIED CARD OF 'guidepostlaw02.DataBack'. -/
def dataBackCard : Claim7 := { stood := { row := dataBackRow, standIns := [], harness := (true, "bee50e2a193f30c9f0c32cfd9cc070b62dc1976b2db0083cfc25d42a00b81bbb"), looks := true }, kinds := [], alts := [], laidByText := true, laidKinds := [.data, .data, .data, .data, .sentinel, .sentinel, .data, .pinned], laidTests := true, laidLooks := .later }
def DataBackCardSaid : Prop := Claim7.holds Tryz.pinned (.plain (OpenSpec.ofChange dataBackSpec)) dataBackCard

/-- THE TIED CARD OF 'guidepostlaw02.DataAgain'. -/
def dataAgainCard : Claim7 := { stood := { row := dataAgainRow, standIns := [], harness := (true, "bee50e2a193f30c9f0c32cfd9cc070b62dc1976b2db0083cfc25d42a00b81bbb"), looks := true }, kinds := [], alts := [], laidByText := true, laidKinds := [.data, .data, .data, .data, .sentinel, .sentinel, .data, .pinned], laidTests := true, laidLooks := .later }
def DataAgainCardSaid : Prop := Claim7.holds Tryz.pinned (.plain (OpenSpec.ofChange dataAgainSpec)) dataAgainCard

/-- THE TIED CARD OF 'guidepostlaw02.DataSmall'. -/
def dataSmallCard : Claim7 := { stood := { row := dataSmallRow, standIns := [], harness := (true, "bee50e2a193f30c9f0c32cfd9cc070b62dc1976b2db0083cfc25d42a00b81bbb"), looks := true }, kinds := [], alts := [], laidByText := true, laidKinds := [.data, .data, .data, .data, .sentinel, .sentinel, .data, .pinned], laidTests := true, laidLooks := .later }
def DataSmallCardSaid : Prop := Claim7.holds Tryz.pinned (.plain (OpenSpec.ofChange dataSmallSpec)) dataSmallCard

/-- THE TIED CARD OF 'guidepostlaw02.DataRises'. -/
def dataRisesCard : Claim7 := { stood := { row := dataRisesRow, standIns := [], harness := (true, "bee50e2a193f30c9f0c32cfd9cc070b62dc1976b2db0083cfc25d42a00b81bbb"), looks := true }, kinds := [], alts := [], laidByText := true, laidKinds := [.data, .data, .data, .data, .sentinel, .sentinel, .data, .pinned], laidTests := true, laidLooks := .later }
def DataRisesCardSaid : Prop := Claim7.holds Tryz.pinned (.plain (OpenSpec.ofChange dataRisesSpec)) dataRisesCard

/-- THE TIED CARD OF 'guidepostlaw02.DataOthers'. -/
def dataOthersCard : Claim7 := { stood := { row := dataOthersRow, standIns := [], harness := (true, "bee50e2a193f30c9f0c32cfd9cc070b62dc1976b2db0083cfc25d42a00b81bbb"), looks := true }, kinds := [], alts := [], laidByText := true, laidKinds := [.data, .data, .data, .data, .sentinel, .sentinel, .data, .pinned], laidTests := true, laidLooks := .later }
def DataOthersCardSaid : Prop := Claim7.holds Tryz.pinned (.plain (OpenSpec.ofChange dataOthersSpec)) dataOthersCard

/-- THE SECOND FORM's CARD OF 'guidepostlaw02.DataBack'. -/
def dataBackUptoCard : Claim7 := { stood := { row := dataBackUptoRow, standIns := [], harness := (true, "bee50e2a193f30c9f0c32cfd9cc070b62dc1976b2db0083cfc25d42a00b81bbb"), looks := true }, kinds := [], alts := [], laidByText := true, laidKinds := [.data, .data, .data, .data, .sentinel, .sentinel, .data, .pinned], laidTests := true, laidLooks := .later }
def DataBackUptoCardSaid : Prop := Claim7.holds Tryz.pinned (.plain (OpenSpec.upto dataBackSpec)) dataBackUptoCard

/-- THE SECOND FORM's CARD OF 'guidepostlaw02.DataAgain'. -/
def dataAgainUptoCard : Claim7 := { stood := { row := dataAgainUptoRow, standIns := [], harness := (true, "bee50e2a193f30c9f0c32cfd9cc070b62dc1976b2db0083cfc25d42a00b81bbb"), looks := true }, kinds := [], alts := [], laidByText := true, laidKinds := [.data, .data, .data, .data, .sentinel, .sentinel, .data, .pinned], laidTests := true, laidLooks := .later }
def DataAgainUptoCardSaid : Prop := Claim7.holds Tryz.pinned (.plain (OpenSpec.upto dataAgainSpec)) dataAgainUptoCard

/-- THE SECOND FORM's CARD OF 'guidepostlaw02.DataSmall'. -/
def dataSmallUptoCard : Claim7 := { stood := { row := dataSmallUptoRow, standIns := [], harness := (true, "bee50e2a193f30c9f0c32cfd9cc070b62dc1976b2db0083cfc25d42a00b81bbb"), looks := true }, kinds := [], alts := [], laidByText := true, laidKinds := [.data, .data, .data, .data, .sentinel, .sentinel, .data, .pinned], laidTests := true, laidLooks := .later }
def DataSmallUptoCardSaid : Prop := Claim7.holds Tryz.pinned (.plain (OpenSpec.upto dataSmallSpec)) dataSmallUptoCard

/-- THE SECOND FORM's CARD OF 'guidepostlaw02.DataRises'. -/
def dataRisesUptoCard : Claim7 := { stood := { row := dataRisesUptoRow, standIns := [], harness := (true, "bee50e2a193f30c9f0c32cfd9cc070b62dc1976b2db0083cfc25d42a00b81bbb"), looks := true }, kinds := [], alts := [], laidByText := true, laidKinds := [.data, .data, .data, .data, .sentinel, .sentinel, .data, .pinned], laidTests := true, laidLooks := .later }
def DataRisesUptoCardSaid : Prop := Claim7.holds Tryz.pinned (.plain (OpenSpec.upto dataRisesSpec)) dataRisesUptoCard

/-- THE SECOND FORM's CARD OF 'guidepostlaw02.DataOthers'. -/
def dataOthersUptoCard : Claim7 := { stood := { row := dataOthersUptoRow, standIns := [], harness := (true, "bee50e2a193f30c9f0c32cfd9cc070b62dc1976b2db0083cfc25d42a00b81bbb"), looks := true }, kinds := [], alts := [], laidByText := true, laidKinds := [.data, .data, .data, .data, .sentinel, .sentinel, .data, .pinned], laidTests := true, laidLooks := .later }
def DataOthersUptoCardSaid : Prop := Claim7.holds Tryz.pinned (.plain (OpenSpec.upto dataOthersSpec)) dataOthersUptoCard
end Rows
end Go.Proofs.YtkohkkakbcjgcabGreatDoor
