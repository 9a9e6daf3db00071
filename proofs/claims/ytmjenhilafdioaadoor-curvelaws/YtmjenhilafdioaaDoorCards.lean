/-
  DERIVED. GIVEN WITH THE SEED: THE CARDS: each row of YtmjenhilafdioaaDoorRows.lean that lists a variable, with what it lists TIED to the program's text (the seventh form; the later family's looks); each row that meets fmt, with fmt's text TOLD by the authors' own Lean function (tested against real Go, not proved from fmt's source: count such statements apart). THE CARD IS WHAT COUNTS. Prove the row's statement (the work); the ties are given (YtmjenhilafdioaaDoorTie.lean); close each card by the builder's one call (the guide's Derived/Test/ToyasCard.lean, 'card_holds'). Laid BY PROGRAM, IN A SANDBOX (cutbox-door.mjs). By AI agents, Wed Nov 11 2026. No macro, syntax, notation, axiom, sorry.
-/
import Derived.Test.YtmjenhilafdioaaDoorRows
import GoSem.ClaimSeven
namespace Go.Proofs.YtmjenhilafdioaaDoor
namespace Rows

/-- THE TIED CARD OF 'guidepostlaw07.CurveLaws'. -/
def curveLawsCard : Claim7 := { stood := { row := curveLawsRow, standIns := [], harness := (true, "202fa8b0437740640c75f2bbe4e04a4b78bf809c4b4682c590625b75c7a11238"), looks := false }, kinds := [], alts := [], laidByText := true, laidKinds := [.data, .pinned], laidTests := true, laidLooks := .later }
def CurveLawsCardSaid : Prop := Claim7.holds Tryd.pinned (.plain (OpenSpec.ofChange curveLawsSpec)) curveLawsCard

/-- THE TIED CARD OF 'guidepostlaw07.CurveTurns'. -/
def curveTurnsCard : Claim7 := { stood := { row := curveTurnsRow, standIns := [], harness := (true, "202fa8b0437740640c75f2bbe4e04a4b78bf809c4b4682c590625b75c7a11238"), looks := false }, kinds := [], alts := [], laidByText := true, laidKinds := [.data, .pinned], laidTests := true, laidLooks := .later }
def CurveTurnsCardSaid : Prop := Claim7.holds Tryd.pinned (.plain (OpenSpec.ofChange curveTurnsSpec)) curveTurnsCard

/-- THE SECOND FORM's CARD OF 'guidepostlaw07.CurveLaws'. -/
def curveLawsUptoCard : Claim7 := { stood := { row := curveLawsUptoRow, standIns := [], harness := (true, "202fa8b0437740640c75f2bbe4e04a4b78bf809c4b4682c590625b75c7a11238"), looks := false }, kinds := [], alts := [], laidByText := true, laidKinds := [.data, .pinned], laidTests := true, laidLooks := .later }
def CurveLawsUptoCardSaid : Prop := Claim7.holds Tryd.pinned (.plain (OpenSpec.upto curveLawsSpec)) curveLawsUptoCard

/-- THE SECOND FORM's CARD OF 'guidepostlaw07.CurveTurns'. -/
def curveTurnsUptoCard : Claim7 := { stood := { row := curveTurnsUptoRow, standIns := [], harness := (true, "202fa8b0437740640c75f2bbe4e04a4b78bf809c4b4682c590625b75c7a11238"), looks := false }, kinds := [], alts := [], laidByText := true, laidKinds := [.data, .pinned], laidTests := true, laidLooks := .later }
def CurveTurnsUptoCardSaid : Prop := Claim7.holds Tryd.pinned (.plain (OpenSpec.upto curveTurnsSpec)) curveTurnsUptoCard
end Rows
end Go.Proofs.YtmjenhilafdioaaDoor
