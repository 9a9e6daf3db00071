/-
  DERIVED. GIVEN WITH THE SEED: THE CARDS: each row of YthionnpohcgoaaaGreatDoorRows.lean that lists a variable, with what it lists TIED to the program's text (the seventh form; the later family's looks); each row that meets fmt, with fmt's text TOLD by the authors' own Lean function (tested against real Go, not proved from fmt's source: count such statements apart). THE CARD IS WHAT COUNTS. Prove the row's statement (the work); the ties are given (YthionnpohcgoaaaGreatDoorTie.lean); close each card by the builder's one call (the guide's Derived/Test/ToyasCard.lean, 'card_holds'). Laid BY PROGRAM, IN A SANDBOX (cutbox-door.mjs). By AI agents, Wed Nov 11 2026. No macro, syntax, notation, axiom, sorry.
-/
import Derived.Test.YthionnpohcgoaaaGreatDoorRows
import GoSem.ClaimSeven
namespace Go.Proofs.YthionnpohcgoaaaGreatDoor
namespace Rows

/-- THE TIED CARD OF 'guidepostlaw16.RrcachePlays'. -/
def rrcachePlaysCard : Claim7 := { stood := { row := rrcachePlaysRow, standIns := [], harness := (true, "f4ed74ddd56ac21efbfaa2e782c5cbce296e2e90cc44187d09a9175b81e532c1"), looks := true }, kinds := [], alts := [], laidByText := true, laidKinds := [.data, .data, .data, .data, .sentinel, .sentinel, .data, .pinned], laidTests := true, laidLooks := .later }
def RrcachePlaysCardSaid : Prop := Claim7.holds Tryz.pinned (.plain (OpenSpec.ofChange rrcachePlaysSpec)) rrcachePlaysCard

/-- THE TIED CARD OF 'guidepostlaw16.RrcacheFresh'. -/
def rrcacheFreshCard : Claim7 := { stood := { row := rrcacheFreshRow, standIns := [], harness := (true, "f4ed74ddd56ac21efbfaa2e782c5cbce296e2e90cc44187d09a9175b81e532c1"), looks := true }, kinds := [], alts := [], laidByText := true, laidKinds := [.data, .data, .data, .data, .sentinel, .sentinel, .data, .pinned], laidTests := true, laidLooks := .later }
def RrcacheFreshCardSaid : Prop := Claim7.holds Tryz.pinned (.plain (OpenSpec.ofChange rrcacheFreshSpec)) rrcacheFreshCard

/-- THE TIED CARD OF 'guidepostlaw16.RrcacheVersions'. -/
def rrcacheVersionsCard : Claim7 := { stood := { row := rrcacheVersionsRow, standIns := [], harness := (true, "f4ed74ddd56ac21efbfaa2e782c5cbce296e2e90cc44187d09a9175b81e532c1"), looks := true }, kinds := [], alts := [], laidByText := true, laidKinds := [.data, .data, .data, .data, .sentinel, .sentinel, .data, .pinned], laidTests := true, laidLooks := .later }
def RrcacheVersionsCardSaid : Prop := Claim7.holds Tryz.pinned (.plain (OpenSpec.ofChange rrcacheVersionsSpec)) rrcacheVersionsCard

/-- THE TIED CARD OF 'guidepostlaw16.RrcacheRanks'. -/
def rrcacheRanksCard : Claim7 := { stood := { row := rrcacheRanksRow, standIns := [], harness := (true, "f4ed74ddd56ac21efbfaa2e782c5cbce296e2e90cc44187d09a9175b81e532c1"), looks := true }, kinds := [], alts := [], laidByText := true, laidKinds := [.data, .data, .data, .data, .sentinel, .sentinel, .data, .pinned], laidTests := true, laidLooks := .later }
def RrcacheRanksCardSaid : Prop := Claim7.holds Tryz.pinned (.plain (OpenSpec.ofChange rrcacheRanksSpec)) rrcacheRanksCard

/-- THE SECOND FORM's CARD OF 'guidepostlaw16.RrcachePlays'. -/
def rrcachePlaysUptoCard : Claim7 := { stood := { row := rrcachePlaysUptoRow, standIns := [], harness := (true, "f4ed74ddd56ac21efbfaa2e782c5cbce296e2e90cc44187d09a9175b81e532c1"), looks := true }, kinds := [], alts := [], laidByText := true, laidKinds := [.data, .data, .data, .data, .sentinel, .sentinel, .data, .pinned], laidTests := true, laidLooks := .later }
def RrcachePlaysUptoCardSaid : Prop := Claim7.holds Tryz.pinned (.plain (OpenSpec.upto rrcachePlaysSpec)) rrcachePlaysUptoCard

/-- THE SECOND FORM's CARD OF 'guidepostlaw16.RrcacheFresh'. -/
def rrcacheFreshUptoCard : Claim7 := { stood := { row := rrcacheFreshUptoRow, standIns := [], harness := (true, "f4ed74ddd56ac21efbfaa2e782c5cbce296e2e90cc44187d09a9175b81e532c1"), looks := true }, kinds := [], alts := [], laidByText := true, laidKinds := [.data, .data, .data, .data, .sentinel, .sentinel, .data, .pinned], laidTests := true, laidLooks := .later }
def RrcacheFreshUptoCardSaid : Prop := Claim7.holds Tryz.pinned (.plain (OpenSpec.upto rrcacheFreshSpec)) rrcacheFreshUptoCard

/-- THE SECOND FORM's CARD OF 'guidepostlaw16.RrcacheVersions'. -/
def rrcacheVersionsUptoCard : Claim7 := { stood := { row := rrcacheVersionsUptoRow, standIns := [], harness := (true, "f4ed74ddd56ac21efbfaa2e782c5cbce296e2e90cc44187d09a9175b81e532c1"), looks := true }, kinds := [], alts := [], laidByText := true, laidKinds := [.data, .data, .data, .data, .sentinel, .sentinel, .data, .pinned], laidTests := true, laidLooks := .later }
def RrcacheVersionsUptoCardSaid : Prop := Claim7.holds Tryz.pinned (.plain (OpenSpec.upto rrcacheVersionsSpec)) rrcacheVersionsUptoCard

/-- THE SECOND FORM's CARD OF 'guidepostlaw16.RrcacheRanks'. -/
def rrcacheRanksUptoCard : Claim7 := { stood := { row := rrcacheRanksUptoRow, standIns := [], harness := (true, "f4ed74ddd56ac21efbfaa2e782c5cbce296e2e90cc44187d09a9175b81e532c1"), looks := true }, kinds := [], alts := [], laidByText := true, laidKinds := [.data, .data, .data, .data, .sentinel, .sentinel, .data, .pinned], laidTests := true, laidLooks := .later }
def RrcacheRanksUptoCardSaid : Prop := Claim7.holds Tryz.pinned (.plain (OpenSpec.upto rrcacheRanksSpec)) rrcacheRanksUptoCard
end Rows
end Go.Proofs.YthionnpohcgoaaaGreatDoor
