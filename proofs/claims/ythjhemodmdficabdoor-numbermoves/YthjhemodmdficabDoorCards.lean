/-
  DERIVED. GIVEN WITH THE SEED: THE CARDS: each row of YthjhemodmdficabDoorRows.lean that lists a variable, with what it lists TIED to the program's text (the seventh form; the later family's looks); each row that meets fmt, with fmt's text TOLD by the authors' own Lean function (tested against real Go, not proved from fmt's source: count such statements apart). THE CARD IS WHAT COUNTS. Prove the row's statement (the work); the ties are given (YthjhemodmdficabDoorTie.lean); close each card by the builder's one call (the guide's Derived/Test/ToyasCard.lean, 'card_holds'). Laid BY PROGRAM, IN A SANDBOX (cutbox-door.mjs). By AI agents, Wed Nov 11 2026. No macro, syntax, notation, axiom, sorry.
-/
import Derived.Test.YthjhemodmdficabDoorRows
import GoSem.ClaimSeven
namespace Go.Proofs.YthjhemodmdficabDoor
namespace Rows

/-- THE TIED CARD OF 'guidepostlaw05.NumberMoves'. -/
def numberMovesCard : Claim7 := { stood := { row := numberMovesRow, standIns := [], harness := (true, "9802646bde8b7e918ada1ad210d329cc4f95a6604818e1c95a48bf988b6036e4"), looks := false }, kinds := [], alts := [], laidByText := true, laidKinds := [.data, .pinned], laidTests := true, laidLooks := .later }
def NumberMovesCardSaid : Prop := Claim7.holds Tryd.pinned (.plain (OpenSpec.ofChange numberMovesSpec)) numberMovesCard

/-- THE TIED CARD OF 'guidepostlaw05.NumberOrders'. -/
def numberOrdersCard : Claim7 := { stood := { row := numberOrdersRow, standIns := [], harness := (true, "9802646bde8b7e918ada1ad210d329cc4f95a6604818e1c95a48bf988b6036e4"), looks := false }, kinds := [], alts := [], laidByText := true, laidKinds := [.data, .pinned], laidTests := true, laidLooks := .later }
def NumberOrdersCardSaid : Prop := Claim7.holds Tryd.pinned (.plain (OpenSpec.ofChange numberOrdersSpec)) numberOrdersCard

/-- THE SECOND FORM's CARD OF 'guidepostlaw05.NumberMoves'. -/
def numberMovesUptoCard : Claim7 := { stood := { row := numberMovesUptoRow, standIns := [], harness := (true, "9802646bde8b7e918ada1ad210d329cc4f95a6604818e1c95a48bf988b6036e4"), looks := false }, kinds := [], alts := [], laidByText := true, laidKinds := [.data, .pinned], laidTests := true, laidLooks := .later }
def NumberMovesUptoCardSaid : Prop := Claim7.holds Tryd.pinned (.plain (OpenSpec.upto numberMovesSpec)) numberMovesUptoCard

/-- THE SECOND FORM's CARD OF 'guidepostlaw05.NumberOrders'. -/
def numberOrdersUptoCard : Claim7 := { stood := { row := numberOrdersUptoRow, standIns := [], harness := (true, "9802646bde8b7e918ada1ad210d329cc4f95a6604818e1c95a48bf988b6036e4"), looks := false }, kinds := [], alts := [], laidByText := true, laidKinds := [.data, .pinned], laidTests := true, laidLooks := .later }
def NumberOrdersUptoCardSaid : Prop := Claim7.holds Tryd.pinned (.plain (OpenSpec.upto numberOrdersSpec)) numberOrdersUptoCard
end Rows
end Go.Proofs.YthjhemodmdficabDoor
