/-
  DERIVED. GIVEN WITH THE SEED: THE CARDS: each row of YtdlcldjlfhmlgaaGreatDoorRows.lean that lists a variable, with what it lists TIED to the program's text (the seventh form; the later family's looks); each row that meets fmt, with fmt's text TOLD by the authors' own Lean function (tested against real Go, not proved from fmt's source: count such statements apart). THE CARD IS WHAT COUNTS. Prove the row's statement (the work); the ties are given (YtdlcldjlfhmlgaaGreatDoorTie.lean); close each card by the builder's one call (the guide's Derived/Test/ToyasCard.lean, 'card_holds'). Laid BY PROGRAM, IN A SANDBOX (cutbox-door.mjs). By AI agents, Wed Nov 11 2026. No macro, syntax, notation, axiom, sorry.
-/
import Derived.Test.YtdlcldjlfhmlgaaGreatDoorRows
import GoSem.ClaimSeven
namespace Go.Proofs.YtdlcldjlfhmlgaaGreatDoor
namespace Rows

/-- THE TIED CARD OF 'guidepostlaw14.LocalAnswers'. -/
def localAnswersCard : Claim7 := { stood := { row := localAnswersRow, standIns := [], harness := (true, "b51ff10f529cd424be2f4e341a4778378237d530f46001466d18f5ad31c2d4e2"), looks := true }, kinds := [], alts := [], laidByText := true, laidKinds := [.data, .data, .data, .data, .sentinel, .sentinel, .data, .pinned], laidTests := true, laidLooks := .later }
def LocalAnswersCardSaid : Prop := Claim7.holds Tryz.pinned (.plain (OpenSpec.ofChange localAnswersSpec)) localAnswersCard

/-- THE TIED CARD OF 'guidepostlaw15.ConfigChecks'. -/
def configChecksCard : Claim7 := { stood := { row := configChecksRow, standIns := [], harness := (true, "b51ff10f529cd424be2f4e341a4778378237d530f46001466d18f5ad31c2d4e2"), looks := true }, kinds := [], alts := [], laidByText := true, laidKinds := [.data, .data, .data, .data, .sentinel, .sentinel, .data, .pinned], laidTests := true, laidLooks := .later }
def ConfigChecksCardSaid : Prop := Claim7.holds Tryz.pinned (.plain (OpenSpec.ofChange configChecksSpec)) configChecksCard

/-- THE TIED CARD OF 'guidepostlaw15.ConfigFinds'. -/
def configFindsCard : Claim7 := { stood := { row := configFindsRow, standIns := [], harness := (true, "b51ff10f529cd424be2f4e341a4778378237d530f46001466d18f5ad31c2d4e2"), looks := true }, kinds := [], alts := [], laidByText := true, laidKinds := [.data, .data, .data, .data, .sentinel, .sentinel, .data, .pinned], laidTests := true, laidLooks := .later }
def ConfigFindsCardSaid : Prop := Claim7.holds Tryz.pinned (.plain (OpenSpec.ofChange configFindsSpec)) configFindsCard

/-- THE TIED CARD OF 'guidepostlaw15.ConfigNear'. -/
def configNearCard : Claim7 := { stood := { row := configNearRow, standIns := [], harness := (true, "b51ff10f529cd424be2f4e341a4778378237d530f46001466d18f5ad31c2d4e2"), looks := true }, kinds := [], alts := [], laidByText := true, laidKinds := [.data, .data, .data, .data, .sentinel, .sentinel, .data, .pinned], laidTests := true, laidLooks := .later }
def ConfigNearCardSaid : Prop := Claim7.holds Tryz.pinned (.plain (OpenSpec.ofChange configNearSpec)) configNearCard

/-- THE TIED CARD OF 'guidepostlaw15.ConfigParts'. -/
def configPartsCard : Claim7 := { stood := { row := configPartsRow, standIns := [], harness := (true, "b51ff10f529cd424be2f4e341a4778378237d530f46001466d18f5ad31c2d4e2"), looks := true }, kinds := [], alts := [], laidByText := true, laidKinds := [.data, .data, .data, .data, .sentinel, .sentinel, .data, .pinned], laidTests := true, laidLooks := .later }
def ConfigPartsCardSaid : Prop := Claim7.holds Tryz.pinned (.plain (OpenSpec.ofChange configPartsSpec)) configPartsCard

/-- THE SECOND FORM's CARD OF 'guidepostlaw14.LocalAnswers'. -/
def localAnswersUptoCard : Claim7 := { stood := { row := localAnswersUptoRow, standIns := [], harness := (true, "b51ff10f529cd424be2f4e341a4778378237d530f46001466d18f5ad31c2d4e2"), looks := true }, kinds := [], alts := [], laidByText := true, laidKinds := [.data, .data, .data, .data, .sentinel, .sentinel, .data, .pinned], laidTests := true, laidLooks := .later }
def LocalAnswersUptoCardSaid : Prop := Claim7.holds Tryz.pinned (.plain (OpenSpec.upto localAnswersSpec)) localAnswersUptoCard

/-- THE SECOND FORM's CARD OF 'guidepostlaw15.ConfigChecks'. -/
def configChecksUptoCard : Claim7 := { stood := { row := configChecksUptoRow, standIns := [], harness := (true, "b51ff10f529cd424be2f4e341a4778378237d530f46001466d18f5ad31c2d4e2"), looks := true }, kinds := [], alts := [], laidByText := true, laidKinds := [.data, .data, .data, .data, .sentinel, .sentinel, .data, .pinned], laidTests := true, laidLooks := .later }
def ConfigChecksUptoCardSaid : Prop := Claim7.holds Tryz.pinned (.plain (OpenSpec.upto configChecksSpec)) configChecksUptoCard

/-- THE SECOND FORM's CARD OF 'guidepostlaw15.ConfigFinds'. -/
def configFindsUptoCard : Claim7 := { stood := { row := configFindsUptoRow, standIns := [], harness := (true, "b51ff10f529cd424be2f4e341a4778378237d530f46001466d18f5ad31c2d4e2"), looks := true }, kinds := [], alts := [], laidByText := true, laidKinds := [.data, .data, .data, .data, .sentinel, .sentinel, .data, .pinned], laidTests := true, laidLooks := .later }
def ConfigFindsUptoCardSaid : Prop := Claim7.holds Tryz.pinned (.plain (OpenSpec.upto configFindsSpec)) configFindsUptoCard

/-- THE SECOND FORM's CARD OF 'guidepostlaw15.ConfigNear'. -/
def configNearUptoCard : Claim7 := { stood := { row := configNearUptoRow, standIns := [], harness := (true, "b51ff10f529cd424be2f4e341a4778378237d530f46001466d18f5ad31c2d4e2"), looks := true }, kinds := [], alts := [], laidByText := true, laidKinds := [.data, .data, .data, .data, .sentinel, .sentinel, .data, .pinned], laidTests := true, laidLooks := .later }
def ConfigNearUptoCardSaid : Prop := Claim7.holds Tryz.pinned (.plain (OpenSpec.upto configNearSpec)) configNearUptoCard

/-- THE SECOND FORM's CARD OF 'guidepostlaw15.ConfigParts'. -/
def configPartsUptoCard : Claim7 := { stood := { row := configPartsUptoRow, standIns := [], harness := (true, "b51ff10f529cd424be2f4e341a4778378237d530f46001466d18f5ad31c2d4e2"), looks := true }, kinds := [], alts := [], laidByText := true, laidKinds := [.data, .data, .data, .data, .sentinel, .sentinel, .data, .pinned], laidTests := true, laidLooks := .later }
def ConfigPartsUptoCardSaid : Prop := Claim7.holds Tryz.pinned (.plain (OpenSpec.upto configPartsSpec)) configPartsUptoCard
end Rows
end Go.Proofs.YtdlcldjlfhmlgaaGreatDoor
