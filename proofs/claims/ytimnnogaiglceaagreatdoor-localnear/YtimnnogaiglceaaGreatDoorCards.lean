/-
  DERIVED. GIVEN WITH THE SEED: THE CARDS: each row of YtimnnogaiglceaaGreatDoorRows.lean that lists a variable, with what it lists TIED to the program's text (the seventh form; the later family's looks); each row that meets fmt, with fmt's text TOLD by the authors' own Lean function (tested against real Go, not proved from fmt's source: count such statements apart). THE CARD IS WHAT COUNTS. Prove the row's statement (the work); the ties are given (YtimnnogaiglceaaGreatDoorTie.lean); close each card by the builder's one call (the guide's Derived/Test/ToyasCard.lean, 'card_holds'). Laid BY PROGRAM, IN A SANDBOX (cutbox-door.mjs). By AI agents, Wed Nov 11 2026. No macro, syntax, notation, axiom, sorry.
-/
import Derived.Test.YtimnnogaiglceaaGreatDoorRows
import GoSem.ClaimSeven
namespace Go.Proofs.YtimnnogaiglceaaGreatDoor
namespace Rows

/-- THE TIED CARD OF 'guidepostlaw14.LocalAnswers'. -/
def localAnswersCard : Claim7 := { stood := { row := localAnswersRow, standIns := [], harness := (true, "5abb745a074ee4308456242119eed8ad8cbfe442d42612ec88191f36716d3283"), looks := true }, kinds := [], alts := [], laidByText := true, laidKinds := [.data, .data, .data, .data, .sentinel, .sentinel, .data, .pinned], laidTests := true, laidLooks := .later }
def LocalAnswersCardSaid : Prop := Claim7.holds Tryz.pinned (.plain (OpenSpec.ofChange localAnswersSpec)) localAnswersCard

/-- THE TIED CARD OF 'guidepostlaw14.LocalNear'. -/
def localNearCard : Claim7 := { stood := { row := localNearRow, standIns := [], harness := (true, "5abb745a074ee4308456242119eed8ad8cbfe442d42612ec88191f36716d3283"), looks := true }, kinds := [], alts := [], laidByText := true, laidKinds := [.data, .data, .data, .data, .sentinel, .sentinel, .data, .pinned], laidTests := true, laidLooks := .later }
def LocalNearCardSaid : Prop := Claim7.holds Tryz.pinned (.plain (OpenSpec.ofChange localNearSpec)) localNearCard

/-- THE TIED CARD OF 'guidepostlaw14.LocalKinds'. -/
def localKindsCard : Claim7 := { stood := { row := localKindsRow, standIns := [], harness := (true, "5abb745a074ee4308456242119eed8ad8cbfe442d42612ec88191f36716d3283"), looks := true }, kinds := [], alts := [], laidByText := true, laidKinds := [.data, .data, .data, .data, .sentinel, .sentinel, .data, .pinned], laidTests := true, laidLooks := .later }
def LocalKindsCardSaid : Prop := Claim7.holds Tryz.pinned (.plain (OpenSpec.ofChange localKindsSpec)) localKindsCard

/-- THE SECOND FORM's CARD OF 'guidepostlaw14.LocalAnswers'. -/
def localAnswersUptoCard : Claim7 := { stood := { row := localAnswersUptoRow, standIns := [], harness := (true, "5abb745a074ee4308456242119eed8ad8cbfe442d42612ec88191f36716d3283"), looks := true }, kinds := [], alts := [], laidByText := true, laidKinds := [.data, .data, .data, .data, .sentinel, .sentinel, .data, .pinned], laidTests := true, laidLooks := .later }
def LocalAnswersUptoCardSaid : Prop := Claim7.holds Tryz.pinned (.plain (OpenSpec.upto localAnswersSpec)) localAnswersUptoCard

/-- THE SECOND FORM's CARD OF 'guidepostlaw14.LocalNear'. -/
def localNearUptoCard : Claim7 := { stood := { row := localNearUptoRow, standIns := [], harness := (true, "5abb745a074ee4308456242119eed8ad8cbfe442d42612ec88191f36716d3283"), looks := true }, kinds := [], alts := [], laidByText := true, laidKinds := [.data, .data, .data, .data, .sentinel, .sentinel, .data, .pinned], laidTests := true, laidLooks := .later }
def LocalNearUptoCardSaid : Prop := Claim7.holds Tryz.pinned (.plain (OpenSpec.upto localNearSpec)) localNearUptoCard

/-- THE SECOND FORM's CARD OF 'guidepostlaw14.LocalKinds'. -/
def localKindsUptoCard : Claim7 := { stood := { row := localKindsUptoRow, standIns := [], harness := (true, "5abb745a074ee4308456242119eed8ad8cbfe442d42612ec88191f36716d3283"), looks := true }, kinds := [], alts := [], laidByText := true, laidKinds := [.data, .data, .data, .data, .sentinel, .sentinel, .data, .pinned], laidTests := true, laidLooks := .later }
def LocalKindsUptoCardSaid : Prop := Claim7.holds Tryz.pinned (.plain (OpenSpec.upto localKindsSpec)) localKindsUptoCard
end Rows
end Go.Proofs.YtimnnogaiglceaaGreatDoor
