/- Texts of this proof, joined: LeDa, LeDb, LeD, LeG, LeH, LeE. -/
import Derived.BigQuiet
import Derived.Deep.RegionHeld3
import Derived.Test.YtdlcldjlfhmlgaaGreatDoorJ29
import Derived.Test.YtdlcldjlfhmlgaaGreatDoorJ20
import Derived.Test.YtdlcldjlfhmlgaaGreatDoorJ13
import Derived.Test.YtdlcldjlfhmlgaaGreatDoorJ12
set_option linter.unusedVariables false
set_option linter.unusedSimpArgs false
/- The document's Lower of data (guidepostref02), of types that are no signatures. -/
namespace Go.Proofs.YtdlcldjlfhmlgaaGreatDoor
open Go.RowKit
end Go.Proofs.YtdlcldjlfhmlgaaGreatDoor
/- The document's Lower of data (guidepostref02), of types that are no signatures. -/
namespace Go.Proofs.YtdlcldjlfhmlgaaGreatDoor
open Go.RowKit
end Go.Proofs.YtdlcldjlfhmlgaaGreatDoor
/- The document's Lower of data (guidepostref02), of types that are no signatures. -/
namespace Go.Proofs.YtdlcldjlfhmlgaaGreatDoor
open Go.RowKit
end Go.Proofs.YtdlcldjlfhmlgaaGreatDoor
/- Layer 14: the records that the document takes in a zone, as lists. -/
namespace Go.Proofs.YtdlcldjlfhmlgaaGreatDoor
open Go.RowKit
end Go.Proofs.YtdlcldjlfhmlgaaGreatDoor
/- Layer 8: the document's sets in memory, with signatures: what lies where; facts alone. -/
namespace Go.Proofs.YtdlcldjlfhmlgaaGreatDoor
open Go.RowKit
open So (El elC elC_len elC_app elC_cons elC_take elC_drop elC_at SRow)
abbrev Sg := St × List ByteArray
end Go.Proofs.YtdlcldjlfhmlgaaGreatDoor
/- The document's rightRecord, ttl, find, has (guidepostref08). -/
namespace Go.Proofs.YtdlcldjlfhmlgaaGreatDoor
open Go.RowKit
open So (El elC elC_len SRow)
/-! ### find -/
/-! ### has -/
end Go.Proofs.YtdlcldjlfhmlgaaGreatDoor
