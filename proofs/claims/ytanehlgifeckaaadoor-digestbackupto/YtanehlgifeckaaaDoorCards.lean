/-
  DERIVED. GIVEN WITH THE SEED: THE CARDS: each row of YtanehlgifeckaaaDoorRows.lean that lists a variable, with what it lists TIED to the program's text (the seventh form; the later family's looks); each row that meets fmt, with fmt's text TOLD by the authors' own Lean function (tested against real Go, not proved from fmt's source: count such statements apart). THE CARD IS WHAT COUNTS. Prove the row's statement (the work); the ties are given (YtanehlgifeckaaaDoorTie.lean); close each card by the builder's one call (the guide's Derived/Test/ToyasCard.lean, 'card_holds'). Laid BY PROGRAM, IN A SANDBOX (cutbox-door.mjs). By AI agents, Wed Nov 11 2026. No macro, syntax, notation, axiom, sorry.
-/
import Derived.Test.YtanehlgifeckaaaDoorRows
import GoSem.ClaimSeven
namespace Go.Proofs.YtanehlgifeckaaaDoor
namespace Rows

/-- THE TIED CARD OF 'guidepostlaw04.DigestBack'. -/
def digestBackCard : Claim7 := { stood := { row := digestBackRow, standIns := [], harness := (true, "c93150f9517327e3977cb4caf76609bd4a1209b38756d1b70f21aa8fa3a9aab5"), looks := false }, kinds := [], alts := [], laidByText := true, laidKinds := [.data], laidTests := true, laidLooks := .later }
def DigestBackCardSaid : Prop := Claim7.holds Tryd.pinned (.plain (OpenSpec.ofChange digestBackSpec)) digestBackCard

/-- THE TIED CARD OF 'guidepostlaw04.DigestSize'. -/
def digestSizeCard : Claim7 := { stood := { row := digestSizeRow, standIns := [], harness := (true, "c93150f9517327e3977cb4caf76609bd4a1209b38756d1b70f21aa8fa3a9aab5"), looks := false }, kinds := [], alts := [], laidByText := true, laidKinds := [.data], laidTests := true, laidLooks := .later }
def DigestSizeCardSaid : Prop := Claim7.holds Tryd.pinned (.plain (OpenSpec.ofChange digestSizeSpec)) digestSizeCard

/-- THE SECOND FORM's CARD OF 'guidepostlaw04.DigestBack'. -/
def digestBackUptoCard : Claim7 := { stood := { row := digestBackUptoRow, standIns := [], harness := (true, "c93150f9517327e3977cb4caf76609bd4a1209b38756d1b70f21aa8fa3a9aab5"), looks := false }, kinds := [], alts := [], laidByText := true, laidKinds := [.data], laidTests := true, laidLooks := .later }
def DigestBackUptoCardSaid : Prop := Claim7.holds Tryd.pinned (.plain (OpenSpec.upto digestBackSpec)) digestBackUptoCard

/-- THE SECOND FORM's CARD OF 'guidepostlaw04.DigestSize'. -/
def digestSizeUptoCard : Claim7 := { stood := { row := digestSizeUptoRow, standIns := [], harness := (true, "c93150f9517327e3977cb4caf76609bd4a1209b38756d1b70f21aa8fa3a9aab5"), looks := false }, kinds := [], alts := [], laidByText := true, laidKinds := [.data], laidTests := true, laidLooks := .later }
def DigestSizeUptoCardSaid : Prop := Claim7.holds Tryd.pinned (.plain (OpenSpec.upto digestSizeSpec)) digestSizeUptoCard
end Rows
end Go.Proofs.YtanehlgifeckaaaDoor
