/-
  DERIVED. GIVEN WITH THE SEED: THE CARDS: each row of YtikjepodmdaknaaGreatDoorRows.lean that lists a variable, with what it lists TIED to the program's text (the seventh form; the later family's looks); each row that meets fmt, with fmt's text TOLD by the authors' own Lean function (tested against real Go, not proved from fmt's source: count such statements apart). THE CARD IS WHAT COUNTS. Prove the row's statement (the work); the ties are given (YtikjepodmdaknaaGreatDoorTie.lean); close each card by the builder's one call (the guide's Derived/Test/ToyasCard.lean, 'card_holds'). Laid BY PROGRAM, IN A SANDBOX (cutbox-door.mjs). By AI agents, Wed Nov 11 2026. No macro, syntax, notation, axiom, sorry.
-/
import Derived.Test.YtikjepodmdaknaaGreatDoorRows
import GoSem.ClaimSeven
namespace Go.Proofs.YtikjepodmdaknaaGreatDoor
namespace Rows

/-- THE TIED CARD OF 'guidepostlaw16.RrcachePlays'. -/
def rrcachePlaysCard : Claim7 := { stood := { row := rrcachePlaysRow, standIns := [], harness := (true, "75206d05d42c0a9bf430c3cbd2ae0feba5cb8638471627db52045b89bbf7ede8"), looks := true }, kinds := [], alts := [], laidByText := true, laidKinds := [.data, .data, .data, .data, .sentinel, .sentinel, .data, .pinned], laidTests := true, laidLooks := .later }
def RrcachePlaysCardSaid : Prop := Claim7.holds Tryz.pinned (.plain (OpenSpec.ofChange rrcachePlaysSpec)) rrcachePlaysCard

/-- THE TIED CARD OF 'guidepostlaw17.MsgcachePlays'. -/
def msgcachePlaysCard : Claim7 := { stood := { row := msgcachePlaysRow, standIns := [], harness := (true, "75206d05d42c0a9bf430c3cbd2ae0feba5cb8638471627db52045b89bbf7ede8"), looks := true }, kinds := [], alts := [], laidByText := true, laidKinds := [.data, .data, .data, .data, .sentinel, .sentinel, .data, .pinned], laidTests := true, laidLooks := .later }
def MsgcachePlaysCardSaid : Prop := Claim7.holds Tryz.pinned (.plain (OpenSpec.ofChange msgcachePlaysSpec)) msgcachePlaysCard

/-- THE TIED CARD OF 'guidepostlaw17.MsgcacheFresh'. -/
def msgcacheFreshCard : Claim7 := { stood := { row := msgcacheFreshRow, standIns := [], harness := (true, "75206d05d42c0a9bf430c3cbd2ae0feba5cb8638471627db52045b89bbf7ede8"), looks := true }, kinds := [], alts := [], laidByText := true, laidKinds := [.data, .data, .data, .data, .sentinel, .sentinel, .data, .pinned], laidTests := true, laidLooks := .later }
def MsgcacheFreshCardSaid : Prop := Claim7.holds Tryz.pinned (.plain (OpenSpec.ofChange msgcacheFreshSpec)) msgcacheFreshCard

/-- THE TIED CARD OF 'guidepostlaw17.MsgcacheApart'. -/
def msgcacheApartCard : Claim7 := { stood := { row := msgcacheApartRow, standIns := [], harness := (true, "75206d05d42c0a9bf430c3cbd2ae0feba5cb8638471627db52045b89bbf7ede8"), looks := true }, kinds := [], alts := [], laidByText := true, laidKinds := [.data, .data, .data, .data, .sentinel, .sentinel, .data, .pinned], laidTests := true, laidLooks := .later }
def MsgcacheApartCardSaid : Prop := Claim7.holds Tryz.pinned (.plain (OpenSpec.ofChange msgcacheApartSpec)) msgcacheApartCard

/-- THE TIED CARD OF 'guidepostlaw17.MsgcacheNothing'. -/
def msgcacheNothingCard : Claim7 := { stood := { row := msgcacheNothingRow, standIns := [], harness := (true, "75206d05d42c0a9bf430c3cbd2ae0feba5cb8638471627db52045b89bbf7ede8"), looks := true }, kinds := [], alts := [], laidByText := true, laidKinds := [.data, .data, .data, .data, .sentinel, .sentinel, .data, .pinned], laidTests := true, laidLooks := .later }
def MsgcacheNothingCardSaid : Prop := Claim7.holds Tryz.pinned (.plain (OpenSpec.ofChange msgcacheNothingSpec)) msgcacheNothingCard

/-- THE TIED CARD OF 'guidepostlaw17.MsgcacheUntil'. -/
def msgcacheUntilCard : Claim7 := { stood := { row := msgcacheUntilRow, standIns := [], harness := (true, "75206d05d42c0a9bf430c3cbd2ae0feba5cb8638471627db52045b89bbf7ede8"), looks := true }, kinds := [], alts := [], laidByText := true, laidKinds := [.data, .data, .data, .data, .sentinel, .sentinel, .data, .pinned], laidTests := true, laidLooks := .later }
def MsgcacheUntilCardSaid : Prop := Claim7.holds Tryz.pinned (.plain (OpenSpec.ofChange msgcacheUntilSpec)) msgcacheUntilCard

/-- THE SECOND FORM's CARD OF 'guidepostlaw16.RrcachePlays'. -/
def rrcachePlaysUptoCard : Claim7 := { stood := { row := rrcachePlaysUptoRow, standIns := [], harness := (true, "75206d05d42c0a9bf430c3cbd2ae0feba5cb8638471627db52045b89bbf7ede8"), looks := true }, kinds := [], alts := [], laidByText := true, laidKinds := [.data, .data, .data, .data, .sentinel, .sentinel, .data, .pinned], laidTests := true, laidLooks := .later }
def RrcachePlaysUptoCardSaid : Prop := Claim7.holds Tryz.pinned (.plain (OpenSpec.upto rrcachePlaysSpec)) rrcachePlaysUptoCard

/-- THE SECOND FORM's CARD OF 'guidepostlaw17.MsgcachePlays'. -/
def msgcachePlaysUptoCard : Claim7 := { stood := { row := msgcachePlaysUptoRow, standIns := [], harness := (true, "75206d05d42c0a9bf430c3cbd2ae0feba5cb8638471627db52045b89bbf7ede8"), looks := true }, kinds := [], alts := [], laidByText := true, laidKinds := [.data, .data, .data, .data, .sentinel, .sentinel, .data, .pinned], laidTests := true, laidLooks := .later }
def MsgcachePlaysUptoCardSaid : Prop := Claim7.holds Tryz.pinned (.plain (OpenSpec.upto msgcachePlaysSpec)) msgcachePlaysUptoCard

/-- THE SECOND FORM's CARD OF 'guidepostlaw17.MsgcacheFresh'. -/
def msgcacheFreshUptoCard : Claim7 := { stood := { row := msgcacheFreshUptoRow, standIns := [], harness := (true, "75206d05d42c0a9bf430c3cbd2ae0feba5cb8638471627db52045b89bbf7ede8"), looks := true }, kinds := [], alts := [], laidByText := true, laidKinds := [.data, .data, .data, .data, .sentinel, .sentinel, .data, .pinned], laidTests := true, laidLooks := .later }
def MsgcacheFreshUptoCardSaid : Prop := Claim7.holds Tryz.pinned (.plain (OpenSpec.upto msgcacheFreshSpec)) msgcacheFreshUptoCard

/-- THE SECOND FORM's CARD OF 'guidepostlaw17.MsgcacheApart'. -/
def msgcacheApartUptoCard : Claim7 := { stood := { row := msgcacheApartUptoRow, standIns := [], harness := (true, "75206d05d42c0a9bf430c3cbd2ae0feba5cb8638471627db52045b89bbf7ede8"), looks := true }, kinds := [], alts := [], laidByText := true, laidKinds := [.data, .data, .data, .data, .sentinel, .sentinel, .data, .pinned], laidTests := true, laidLooks := .later }
def MsgcacheApartUptoCardSaid : Prop := Claim7.holds Tryz.pinned (.plain (OpenSpec.upto msgcacheApartSpec)) msgcacheApartUptoCard

/-- THE SECOND FORM's CARD OF 'guidepostlaw17.MsgcacheNothing'. -/
def msgcacheNothingUptoCard : Claim7 := { stood := { row := msgcacheNothingUptoRow, standIns := [], harness := (true, "75206d05d42c0a9bf430c3cbd2ae0feba5cb8638471627db52045b89bbf7ede8"), looks := true }, kinds := [], alts := [], laidByText := true, laidKinds := [.data, .data, .data, .data, .sentinel, .sentinel, .data, .pinned], laidTests := true, laidLooks := .later }
def MsgcacheNothingUptoCardSaid : Prop := Claim7.holds Tryz.pinned (.plain (OpenSpec.upto msgcacheNothingSpec)) msgcacheNothingUptoCard

/-- THE SECOND FORM's CARD OF 'guidepostlaw17.MsgcacheUntil'. -/
def msgcacheUntilUptoCard : Claim7 := { stood := { row := msgcacheUntilUptoRow, standIns := [], harness := (true, "75206d05d42c0a9bf430c3cbd2ae0feba5cb8638471627db52045b89bbf7ede8"), looks := true }, kinds := [], alts := [], laidByText := true, laidKinds := [.data, .data, .data, .data, .sentinel, .sentinel, .data, .pinned], laidTests := true, laidLooks := .later }
def MsgcacheUntilUptoCardSaid : Prop := Claim7.holds Tryz.pinned (.plain (OpenSpec.upto msgcacheUntilSpec)) msgcacheUntilUptoCard
end Rows
end Go.Proofs.YtikjepodmdaknaaGreatDoor
