/-
  DERIVED. GIVEN WITH THE SEED: THE CARDS: each row of YthjhemodmdficaaDoorRows.lean that lists a variable, with what it lists TIED to the program's text (the seventh form; the later family's looks); each row that meets fmt, with fmt's text TOLD by the authors' own Lean function (tested against real Go, not proved from fmt's source: count such statements apart). THE CARD IS WHAT COUNTS. Prove the row's statement (the work); the ties are given (YthjhemodmdficaaDoorTie.lean); close each card by the builder's one call (the guide's Derived/Test/ToyasCard.lean, 'card_holds'). Laid BY PROGRAM, IN A SANDBOX (cutbox-door.mjs). By AI agents, Wed Nov 11 2026. No macro, syntax, notation, axiom, sorry.
-/
import Derived.Test.YthjhemodmdficaaDoorRows
import GoSem.ClaimSeven
namespace Go.Proofs.YthjhemodmdficaaDoor
namespace Rows

/-- THE TIED CARD OF 'guidepostlaw05.NumberTells'. -/
def numberTellsCard : Claim7 := { stood := { row := numberTellsRow, standIns := [], harness := (true, "985aaa735ee61328a68292540f12be6c113f05cce5f07282b5d270a43f73e30e"), looks := false }, kinds := [], alts := [], laidByText := true, laidKinds := [.data, .pinned], laidTests := true, laidLooks := .later }
def NumberTellsCardSaid : Prop := Claim7.holds Tryd.pinned (.plain (OpenSpec.ofChange numberTellsSpec)) numberTellsCard

/-- THE TIED CARD OF 'guidepostlaw05.NumberReckons'. -/
def numberReckonsCard : Claim7 := { stood := { row := numberReckonsRow, standIns := [], harness := (true, "985aaa735ee61328a68292540f12be6c113f05cce5f07282b5d270a43f73e30e"), looks := false }, kinds := [], alts := [], laidByText := true, laidKinds := [.data, .pinned], laidTests := true, laidLooks := .later }
def NumberReckonsCardSaid : Prop := Claim7.holds Tryd.pinned (.plain (OpenSpec.ofChange numberReckonsSpec)) numberReckonsCard

/-- THE TIED CARD OF 'guidepostlaw05.NumberPowers'. -/
def numberPowersCard : Claim7 := { stood := { row := numberPowersRow, standIns := [], harness := (true, "985aaa735ee61328a68292540f12be6c113f05cce5f07282b5d270a43f73e30e"), looks := false }, kinds := [], alts := [], laidByText := true, laidKinds := [.data, .pinned], laidTests := true, laidLooks := .later }
def NumberPowersCardSaid : Prop := Claim7.holds Tryd.pinned (.plain (OpenSpec.ofChange numberPowersSpec)) numberPowersCard

/-- THE TIED CARD OF 'guidepostlaw05.NumberLaws'. -/
def numberLawsCard : Claim7 := { stood := { row := numberLawsRow, standIns := [], harness := (true, "985aaa735ee61328a68292540f12be6c113f05cce5f07282b5d270a43f73e30e"), looks := false }, kinds := [], alts := [], laidByText := true, laidKinds := [.data, .pinned], laidTests := true, laidLooks := .later }
def NumberLawsCardSaid : Prop := Claim7.holds Tryd.pinned (.plain (OpenSpec.ofChange numberLawsSpec)) numberLawsCard

/-- THE TIED CARD OF 'guidepostlaw05.NumberDivides'. -/
def numberDividesCard : Claim7 := { stood := { row := numberDividesRow, standIns := [], harness := (true, "985aaa735ee61328a68292540f12be6c113f05cce5f07282b5d270a43f73e30e"), looks := false }, kinds := [], alts := [], laidByText := true, laidKinds := [.data, .pinned], laidTests := true, laidLooks := .later }
def NumberDividesCardSaid : Prop := Claim7.holds Tryd.pinned (.plain (OpenSpec.ofChange numberDividesSpec)) numberDividesCard

/-- THE TIED CARD OF 'guidepostlaw05.NumberExponents'. -/
def numberExponentsCard : Claim7 := { stood := { row := numberExponentsRow, standIns := [], harness := (true, "985aaa735ee61328a68292540f12be6c113f05cce5f07282b5d270a43f73e30e"), looks := false }, kinds := [], alts := [], laidByText := true, laidKinds := [.data, .pinned], laidTests := true, laidLooks := .later }
def NumberExponentsCardSaid : Prop := Claim7.holds Tryd.pinned (.plain (OpenSpec.ofChange numberExponentsSpec)) numberExponentsCard

/-- THE SECOND FORM's CARD OF 'guidepostlaw05.NumberTells'. -/
def numberTellsUptoCard : Claim7 := { stood := { row := numberTellsUptoRow, standIns := [], harness := (true, "985aaa735ee61328a68292540f12be6c113f05cce5f07282b5d270a43f73e30e"), looks := false }, kinds := [], alts := [], laidByText := true, laidKinds := [.data, .pinned], laidTests := true, laidLooks := .later }
def NumberTellsUptoCardSaid : Prop := Claim7.holds Tryd.pinned (.plain (OpenSpec.upto numberTellsSpec)) numberTellsUptoCard

/-- THE SECOND FORM's CARD OF 'guidepostlaw05.NumberReckons'. -/
def numberReckonsUptoCard : Claim7 := { stood := { row := numberReckonsUptoRow, standIns := [], harness := (true, "985aaa735ee61328a68292540f12be6c113f05cce5f07282b5d270a43f73e30e"), looks := false }, kinds := [], alts := [], laidByText := true, laidKinds := [.data, .pinned], laidTests := true, laidLooks := .later }
def NumberReckonsUptoCardSaid : Prop := Claim7.holds Tryd.pinned (.plain (OpenSpec.upto numberReckonsSpec)) numberReckonsUptoCard

/-- THE SECOND FORM's CARD OF 'guidepostlaw05.NumberPowers'. -/
def numberPowersUptoCard : Claim7 := { stood := { row := numberPowersUptoRow, standIns := [], harness := (true, "985aaa735ee61328a68292540f12be6c113f05cce5f07282b5d270a43f73e30e"), looks := false }, kinds := [], alts := [], laidByText := true, laidKinds := [.data, .pinned], laidTests := true, laidLooks := .later }
def NumberPowersUptoCardSaid : Prop := Claim7.holds Tryd.pinned (.plain (OpenSpec.upto numberPowersSpec)) numberPowersUptoCard

/-- THE SECOND FORM's CARD OF 'guidepostlaw05.NumberLaws'. -/
def numberLawsUptoCard : Claim7 := { stood := { row := numberLawsUptoRow, standIns := [], harness := (true, "985aaa735ee61328a68292540f12be6c113f05cce5f07282b5d270a43f73e30e"), looks := false }, kinds := [], alts := [], laidByText := true, laidKinds := [.data, .pinned], laidTests := true, laidLooks := .later }
def NumberLawsUptoCardSaid : Prop := Claim7.holds Tryd.pinned (.plain (OpenSpec.upto numberLawsSpec)) numberLawsUptoCard

/-- THE SECOND FORM's CARD OF 'guidepostlaw05.NumberDivides'. -/
def numberDividesUptoCard : Claim7 := { stood := { row := numberDividesUptoRow, standIns := [], harness := (true, "985aaa735ee61328a68292540f12be6c113f05cce5f07282b5d270a43f73e30e"), looks := false }, kinds := [], alts := [], laidByText := true, laidKinds := [.data, .pinned], laidTests := true, laidLooks := .later }
def NumberDividesUptoCardSaid : Prop := Claim7.holds Tryd.pinned (.plain (OpenSpec.upto numberDividesSpec)) numberDividesUptoCard

/-- THE SECOND FORM's CARD OF 'guidepostlaw05.NumberExponents'. -/
def numberExponentsUptoCard : Claim7 := { stood := { row := numberExponentsUptoRow, standIns := [], harness := (true, "985aaa735ee61328a68292540f12be6c113f05cce5f07282b5d270a43f73e30e"), looks := false }, kinds := [], alts := [], laidByText := true, laidKinds := [.data, .pinned], laidTests := true, laidLooks := .later }
def NumberExponentsUptoCardSaid : Prop := Claim7.holds Tryd.pinned (.plain (OpenSpec.upto numberExponentsSpec)) numberExponentsUptoCard
end Rows
end Go.Proofs.YthjhemodmdficaaDoor
