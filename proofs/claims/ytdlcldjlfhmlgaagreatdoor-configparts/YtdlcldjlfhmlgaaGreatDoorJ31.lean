/- Texts of this proof, joined: LeI, LeJ, LeK, LeL, LeM, AhBt. -/
import Derived.Deep.RegionHeld3
import Derived.Test.YtdlcldjlfhmlgaaGreatDoorJ30
import Derived.Test.YtdlcldjlfhmlgaaGreatDoorJ12
import Derived.Test.YtdlcldjlfhmlgaaGreatDoorJ26
set_option linter.unusedVariables false
set_option linter.unusedSimpArgs false
/- The document's Right and Same (guidepostref08), of sets of one text without signatures. -/
namespace Go.Proofs.YtdlcldjlfhmlgaaGreatDoor
open Go.RowKit
end Go.Proofs.YtdlcldjlfhmlgaaGreatDoor
/- The document's Sets (guidepostref08): what one record more does, as lists. -/
namespace Go.Proofs.YtdlcldjlfhmlgaaGreatDoor
open Go.RowKit
def pz (ss : List St) : List Sg := ss.map fun s => (s, [])
end Go.Proofs.YtdlcldjlfhmlgaaGreatDoor
/- The document's Sets (guidepostref08): its first loop, of any records; the second where no signature is. -/
namespace Go.Proofs.YtdlcldjlfhmlgaaGreatDoor
open Go.RowKit
open So (El elC SRow)
end Go.Proofs.YtdlcldjlfhmlgaaGreatDoor
/- The document's lost (guidepostref14): is a record of none of the sets? -/
namespace Go.Proofs.YtdlcldjlfhmlgaaGreatDoor
open Go.RowKit
open So (El elC SRow)
end Go.Proofs.YtdlcldjlfhmlgaaGreatDoor
/- The document's Right of local zones (guidepostref14). -/
namespace Go.Proofs.YtdlcldjlfhmlgaaGreatDoor
open Go.RowKit
open So (El elC SRow)
end Go.Proofs.YtdlcldjlfhmlgaaGreatDoor
/- Layer 13: the document's bit. -/
namespace Go.Proofs.YtdlcldjlfhmlgaaGreatDoor.A
open Go.RowKit
end Go.Proofs.YtdlcldjlfhmlgaaGreatDoor.A
