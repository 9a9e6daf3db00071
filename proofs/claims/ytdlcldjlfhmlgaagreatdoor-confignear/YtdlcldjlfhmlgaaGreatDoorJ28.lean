/- Texts of this proof, joined: DTyFacts, DTyAdd, DTyAdd2, DTyEnc, DRefTy, DJoin. -/
import Derived.Test.YtdlcldjlfhmlgaaGreatDoorJ7
import Derived.Test.YtdlcldjlfhmlgaaGreatDoorJ9
import Derived.BigRegion
import Derived.Deep.RegionHeld3
import Derived.Test.YtdlcldjlfhmlgaaGreatDoorJ26
import Derived.Test.YtdlcldjlfhmlgaaGreatDoorJ27
set_option linter.unusedVariables false
set_option linter.unusedSimpArgs false
/- Lists of types as bytes: windows of bits. Nothing here speaks of the program. -/
namespace Go.Proofs.YtdlcldjlfhmlgaaGreatDoor
open Go.RowKit
end Go.Proofs.YtdlcldjlfhmlgaaGreatDoor
/- typeList.add: one type more. -/
namespace Go.Proofs.YtdlcldjlfhmlgaaGreatDoor
open Go.RowKit
end Go.Proofs.YtdlcldjlfhmlgaaGreatDoor
/- typeList.add: one type more, in a new window. -/
namespace Go.Proofs.YtdlcldjlfhmlgaaGreatDoor
open Go.RowKit
end Go.Proofs.YtdlcldjlfhmlgaaGreatDoor
/- bytesOfTypes: a list of types as bytes. -/
namespace Go.Proofs.YtdlcldjlfhmlgaaGreatDoor
open Go.RowKit
end Go.Proofs.YtdlcldjlfhmlgaaGreatDoor
/- The document's own reader (guidepostref02): types. -/
namespace Go.Proofs.YtdlcldjlfhmlgaaGreatDoor
open Go.RowKit
end Go.Proofs.YtdlcldjlfhmlgaaGreatDoor
/- joined: data of pieces that are put down; slices.Equal. -/
namespace Go.Proofs.YtdlcldjlfhmlgaaGreatDoor
open Go.RowKit
end Go.Proofs.YtdlcldjlfhmlgaaGreatDoor
