/-
  DERIVED. GIVEN WITH THE SEED: THE CARDS: each row of YtdecmbpmgnoelaaDoorRows.lean that lists a variable, with what it lists TIED to the program's text (the seventh form; the later family's looks); each row that meets fmt, with fmt's text TOLD by the authors' own Lean function (tested against real Go, not proved from fmt's source: count such statements apart). THE CARD IS WHAT COUNTS. Prove the row's statement (the work); the ties are given (YtdecmbpmgnoelaaDoorTie.lean); close each card by the builder's one call (the guide's Derived/Test/ToyasCard.lean, 'card_holds'). Laid BY PROGRAM, IN A SANDBOX (cutbox-door.mjs). By AI agents, Wed Nov 11 2026. No macro, syntax, notation, axiom, sorry.
-/
import Derived.Test.YtdecmbpmgnoelaaDoorRows
import GoSem.ClaimSeven
namespace Go.Proofs.YtdecmbpmgnoelaaDoor
namespace Rows

/-- THE TIED CARD OF 'guidepostlaw04.DigestOnes'. -/
def digestOnesCard : Claim7 := { stood := { row := digestOnesRow, standIns := [], harness := (true, "92b1841875e189fe9ee22e0a9ddfd2fc99b3e5b5dfde18a2325728a0450e0ce0"), looks := false }, kinds := [], alts := [], laidByText := true, laidKinds := [.data], laidTests := true, laidLooks := .later }
def DigestOnesCardSaid : Prop := Claim7.holds Tryd.pinned (.plain (OpenSpec.ofChange digestOnesSpec)) digestOnesCard

/-- THE TIED CARD OF 'guidepostlaw04.DigestSums'. -/
def digestSumsCard : Claim7 := { stood := { row := digestSumsRow, standIns := [], harness := (true, "92b1841875e189fe9ee22e0a9ddfd2fc99b3e5b5dfde18a2325728a0450e0ce0"), looks := false }, kinds := [], alts := [], laidByText := true, laidKinds := [.data], laidTests := true, laidLooks := .later }
def DigestSumsCardSaid : Prop := Claim7.holds Tryd.pinned (.plain (OpenSpec.ofChange digestSumsSpec)) digestSumsCard

/-- THE TIED CARD OF 'guidepostlaw04.DigestTells'. -/
def digestTellsCard : Claim7 := { stood := { row := digestTellsRow, standIns := [], harness := (true, "92b1841875e189fe9ee22e0a9ddfd2fc99b3e5b5dfde18a2325728a0450e0ce0"), looks := false }, kinds := [], alts := [], laidByText := true, laidKinds := [.data], laidTests := true, laidLooks := .later }
def DigestTellsCardSaid : Prop := Claim7.holds Tryd.pinned (.plain (OpenSpec.ofChange digestTellsSpec)) digestTellsCard

/-- THE SECOND FORM's CARD OF 'guidepostlaw04.DigestOnes'. -/
def digestOnesUptoCard : Claim7 := { stood := { row := digestOnesUptoRow, standIns := [], harness := (true, "92b1841875e189fe9ee22e0a9ddfd2fc99b3e5b5dfde18a2325728a0450e0ce0"), looks := false }, kinds := [], alts := [], laidByText := true, laidKinds := [.data], laidTests := true, laidLooks := .later }
def DigestOnesUptoCardSaid : Prop := Claim7.holds Tryd.pinned (.plain (OpenSpec.upto digestOnesSpec)) digestOnesUptoCard

/-- THE SECOND FORM's CARD OF 'guidepostlaw04.DigestSums'. -/
def digestSumsUptoCard : Claim7 := { stood := { row := digestSumsUptoRow, standIns := [], harness := (true, "92b1841875e189fe9ee22e0a9ddfd2fc99b3e5b5dfde18a2325728a0450e0ce0"), looks := false }, kinds := [], alts := [], laidByText := true, laidKinds := [.data], laidTests := true, laidLooks := .later }
def DigestSumsUptoCardSaid : Prop := Claim7.holds Tryd.pinned (.plain (OpenSpec.upto digestSumsSpec)) digestSumsUptoCard

/-- THE SECOND FORM's CARD OF 'guidepostlaw04.DigestTells'. -/
def digestTellsUptoCard : Claim7 := { stood := { row := digestTellsUptoRow, standIns := [], harness := (true, "92b1841875e189fe9ee22e0a9ddfd2fc99b3e5b5dfde18a2325728a0450e0ce0"), looks := false }, kinds := [], alts := [], laidByText := true, laidKinds := [.data], laidTests := true, laidLooks := .later }
def DigestTellsUptoCardSaid : Prop := Claim7.holds Tryd.pinned (.plain (OpenSpec.upto digestTellsSpec)) digestTellsUptoCard
end Rows
end Go.Proofs.YtdecmbpmgnoelaaDoor
