/-
  DERIVED. GIVEN WITH THE SEED: THE CARDS: each row of YtndlplebodcmjaaGreatDoorRows.lean that lists a variable, with what it lists TIED to the program's text (the seventh form; the later family's looks); each row that meets fmt, with fmt's text TOLD by the authors' own Lean function (tested against real Go, not proved from fmt's source: count such statements apart). THE CARD IS WHAT COUNTS. Prove the row's statement (the work); the ties are given (YtndlplebodcmjaaGreatDoorTie.lean); close each card by the builder's one call (the guide's Derived/Test/ToyasCard.lean, 'card_holds'). Laid BY PROGRAM, IN A SANDBOX (cutbox-door.mjs). By AI agents, Wed Nov 11 2026. No macro, syntax, notation, axiom, sorry.
-/
import Derived.Test.YtndlplebodcmjaaGreatDoorRows
import GoSem.ClaimSeven
namespace Go.Proofs.YtndlplebodcmjaaGreatDoor
namespace Rows

/-- THE TIED CARD OF 'guidepostlaw02.DataTypes'. -/
def dataTypesCard : Claim7 := { stood := { row := dataTypesRow, standIns := [], harness := (true, "c96a48dd6836dce168a090a35c6a1b8edbd67994adb9b267a320668cb7aa573a"), looks := true }, kinds := [], alts := [], laidByText := true, laidKinds := [.data, .data, .data, .data, .sentinel, .sentinel, .data, .pinned], laidTests := true, laidLooks := .later }
def DataTypesCardSaid : Prop := Claim7.holds Tryz.pinned (.plain (OpenSpec.ofChange dataTypesSpec)) dataTypesCard

/-- THE SECOND FORM's CARD OF 'guidepostlaw02.DataTypes'. -/
def dataTypesUptoCard : Claim7 := { stood := { row := dataTypesUptoRow, standIns := [], harness := (true, "c96a48dd6836dce168a090a35c6a1b8edbd67994adb9b267a320668cb7aa573a"), looks := true }, kinds := [], alts := [], laidByText := true, laidKinds := [.data, .data, .data, .data, .sentinel, .sentinel, .data, .pinned], laidTests := true, laidLooks := .later }
def DataTypesUptoCardSaid : Prop := Claim7.holds Tryz.pinned (.plain (OpenSpec.upto dataTypesSpec)) dataTypesUptoCard
end Rows
end Go.Proofs.YtndlplebodcmjaaGreatDoor
