/- Texts of this proof, joined: DTyEnc, DRefTy, DJoin, DKey, DNsec, DRefNsec. -/
import Derived.Test.YtdlcldjlfhmlgaaGreatDoorJ29
import Derived.Test.YtdlcldjlfhmlgaaGreatDoorJ28
import Derived.BigRegion
import Derived.Test.YtdlcldjlfhmlgaaGreatDoorJ9
import Derived.Deep.RegionHeld3
import Derived.Test.YtdlcldjlfhmlgaaGreatDoorJ10
set_option linter.unusedVariables false
set_option linter.unusedSimpArgs false
/- bytesOfTypes: a list of types as bytes. -/
namespace Go.Proofs.YtdlcldjlfhmlgaaGreatDoor
open Go.RowKit
end Go.Proofs.YtdlcldjlfhmlgaaGreatDoor
/- The document's own reader (guidepostref02): types. -/
namespace Go.Proofs.YtdlcldjlfhmlgaaGreatDoor
open Go.RowKit
end Go.Proofs.YtdlcldjlfhmlgaaGreatDoor
/- joined: data of pieces that are put down; slices.Equal. -/
namespace Go.Proofs.YtdlcldjlfhmlgaaGreatDoor
open Go.RowKit
end Go.Proofs.YtdlcldjlfhmlgaaGreatDoor
/- DNSKEY: taken apart, and put together. -/
namespace Go.Proofs.YtdlcldjlfhmlgaaGreatDoor
open Go.RowKit
end Go.Proofs.YtdlcldjlfhmlgaaGreatDoor
/- NSEC: taken apart, and put together. -/
namespace Go.Proofs.YtdlcldjlfhmlgaaGreatDoor
open Go.RowKit
end Go.Proofs.YtdlcldjlfhmlgaaGreatDoor
/- NSEC, as the document's own function takes it apart. -/
namespace Go.Proofs.YtdlcldjlfhmlgaaGreatDoor
open Go.RowKit
end Go.Proofs.YtdlcldjlfhmlgaaGreatDoor
