/-
  DERIVED. GIVEN WITH THE SEED: THE CARDS: each row of YtdhcbaennpediaaGreatDoorRows.lean that lists a variable, with what it lists TIED to the program's text (the seventh form; the later family's looks); each row that meets fmt, with fmt's text TOLD by the authors' own Lean function (tested against real Go, not proved from fmt's source: count such statements apart). THE CARD IS WHAT COUNTS. Prove the row's statement (the work); the ties are given (YtdhcbaennpediaaGreatDoorTie.lean); close each card by the builder's one call (the guide's Derived/Test/ToyasCard.lean, 'card_holds'). Laid BY PROGRAM, IN A SANDBOX (cutbox-door.mjs). By AI agents, Wed Nov 11 2026. No macro, syntax, notation, axiom, sorry.
-/
import Derived.Test.YtdhcbaennpediaaGreatDoorRows
import GoSem.ClaimSeven
namespace Go.Proofs.YtdhcbaennpediaaGreatDoor
namespace Rows

/-- THE TIED CARD OF 'guidepostlaw02.DataTakes'. -/
def dataTakesCard : Claim7 := { stood := { row := dataTakesRow, standIns := [], harness := (true, "b66508b673422527c1effa2c9fb909d529e5fc7dfdc2e27eafeb6642dfffda9f"), looks := true }, kinds := [], alts := [], laidByText := true, laidKinds := [.data, .data, .data, .data, .sentinel, .sentinel, .data, .pinned], laidTests := true, laidLooks := .later }
def DataTakesCardSaid : Prop := Claim7.holds Tryz.pinned (.plain (OpenSpec.ofChange dataTakesSpec)) dataTakesCard

/-- THE TIED CARD OF 'guidepostlaw02.DataMakes'. -/
def dataMakesCard : Claim7 := { stood := { row := dataMakesRow, standIns := [], harness := (true, "b66508b673422527c1effa2c9fb909d529e5fc7dfdc2e27eafeb6642dfffda9f"), looks := true }, kinds := [], alts := [], laidByText := true, laidKinds := [.data, .data, .data, .data, .sentinel, .sentinel, .data, .pinned], laidTests := true, laidLooks := .later }
def DataMakesCardSaid : Prop := Claim7.holds Tryz.pinned (.plain (OpenSpec.ofChange dataMakesSpec)) dataMakesCard

/-- THE TIED CARD OF 'guidepostlaw02.DataAgain'. -/
def dataAgainCard : Claim7 := { stood := { row := dataAgainRow, standIns := [], harness := (true, "b66508b673422527c1effa2c9fb909d529e5fc7dfdc2e27eafeb6642dfffda9f"), looks := true }, kinds := [], alts := [], laidByText := true, laidKinds := [.data, .data, .data, .data, .sentinel, .sentinel, .data, .pinned], laidTests := true, laidLooks := .later }
def DataAgainCardSaid : Prop := Claim7.holds Tryz.pinned (.plain (OpenSpec.ofChange dataAgainSpec)) dataAgainCard

/-- THE TIED CARD OF 'guidepostlaw02.DataRises'. -/
def dataRisesCard : Claim7 := { stood := { row := dataRisesRow, standIns := [], harness := (true, "b66508b673422527c1effa2c9fb909d529e5fc7dfdc2e27eafeb6642dfffda9f"), looks := true }, kinds := [], alts := [], laidByText := true, laidKinds := [.data, .data, .data, .data, .sentinel, .sentinel, .data, .pinned], laidTests := true, laidLooks := .later }
def DataRisesCardSaid : Prop := Claim7.holds Tryz.pinned (.plain (OpenSpec.ofChange dataRisesSpec)) dataRisesCard

/-- THE SECOND FORM's CARD OF 'guidepostlaw02.DataTakes'. -/
def dataTakesUptoCard : Claim7 := { stood := { row := dataTakesUptoRow, standIns := [], harness := (true, "b66508b673422527c1effa2c9fb909d529e5fc7dfdc2e27eafeb6642dfffda9f"), looks := true }, kinds := [], alts := [], laidByText := true, laidKinds := [.data, .data, .data, .data, .sentinel, .sentinel, .data, .pinned], laidTests := true, laidLooks := .later }
def DataTakesUptoCardSaid : Prop := Claim7.holds Tryz.pinned (.plain (OpenSpec.upto dataTakesSpec)) dataTakesUptoCard

/-- THE SECOND FORM's CARD OF 'guidepostlaw02.DataMakes'. -/
def dataMakesUptoCard : Claim7 := { stood := { row := dataMakesUptoRow, standIns := [], harness := (true, "b66508b673422527c1effa2c9fb909d529e5fc7dfdc2e27eafeb6642dfffda9f"), looks := true }, kinds := [], alts := [], laidByText := true, laidKinds := [.data, .data, .data, .data, .sentinel, .sentinel, .data, .pinned], laidTests := true, laidLooks := .later }
def DataMakesUptoCardSaid : Prop := Claim7.holds Tryz.pinned (.plain (OpenSpec.upto dataMakesSpec)) dataMakesUptoCard

/-- THE SECOND FORM's CARD OF 'guidepostlaw02.DataAgain'. -/
def dataAgainUptoCard : Claim7 := { stood := { row := dataAgainUptoRow, standIns := [], harness := (true, "b66508b673422527c1effa2c9fb909d529e5fc7dfdc2e27eafeb6642dfffda9f"), looks := true }, kinds := [], alts := [], laidByText := true, laidKinds := [.data, .data, .data, .data, .sentinel, .sentinel, .data, .pinned], laidTests := true, laidLooks := .later }
def DataAgainUptoCardSaid : Prop := Claim7.holds Tryz.pinned (.plain (OpenSpec.upto dataAgainSpec)) dataAgainUptoCard

/-- THE SECOND FORM's CARD OF 'guidepostlaw02.DataRises'. -/
def dataRisesUptoCard : Claim7 := { stood := { row := dataRisesUptoRow, standIns := [], harness := (true, "b66508b673422527c1effa2c9fb909d529e5fc7dfdc2e27eafeb6642dfffda9f"), looks := true }, kinds := [], alts := [], laidByText := true, laidKinds := [.data, .data, .data, .data, .sentinel, .sentinel, .data, .pinned], laidTests := true, laidLooks := .later }
def DataRisesUptoCardSaid : Prop := Claim7.holds Tryz.pinned (.plain (OpenSpec.upto dataRisesSpec)) dataRisesUptoCard
end Rows
end Go.Proofs.YtdhcbaennpediaaGreatDoor
