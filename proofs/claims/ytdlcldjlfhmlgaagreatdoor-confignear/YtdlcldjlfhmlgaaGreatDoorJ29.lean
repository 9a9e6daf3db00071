/- Texts of this proof, joined: DKey, DNsec, DRefNsec, DRefNsec3, LeB, LeC. -/
import Derived.Deep.RegionHeld3
import Derived.Test.YtdlcldjlfhmlgaaGreatDoorJ28
import Derived.Test.YtdlcldjlfhmlgaaGreatDoorJ10
import Derived.Test.YtdlcldjlfhmlgaaGreatDoorJ26
import Derived.Test.YtdlcldjlfhmlgaaGreatDoorJ27
import Derived.BigQuiet
import Derived.Test.YtdlcldjlfhmlgaaGreatDoorJ20
set_option linter.unusedVariables false
set_option linter.unusedSimpArgs false
/- DNSKEY: taken apart, and put together. -/
namespace Go.Proofs.YtdlcldjlfhmlgaaGreatDoor
open Go.RowKit
end Go.Proofs.YtdlcldjlfhmlgaaGreatDoor
/- NSEC: taken apart, and put together. -/
namespace Go.Proofs.YtdlcldjlfhmlgaaGreatDoor
open Go.RowKit
end Go.Proofs.YtdlcldjlfhmlgaaGreatDoor
/- NSEC, as the document's own function takes it apart. -/
namespace Go.Proofs.YtdlcldjlfhmlgaaGreatDoor
open Go.RowKit
end Go.Proofs.YtdlcldjlfhmlgaaGreatDoor
/- NSEC3, as the document's own function takes it apart. -/
namespace Go.Proofs.YtdlcldjlfhmlgaaGreatDoor
open Go.RowKit
end Go.Proofs.YtdlcldjlfhmlgaaGreatDoor
/- The document's mx and strings (guidepostref02): MX and TXT taken apart. -/
namespace Go.Proofs.YtdlcldjlfhmlgaaGreatDoor
open Go.RowKit
end Go.Proofs.YtdlcldjlfhmlgaaGreatDoor
/- The document's Right of data (guidepostref02). -/
namespace Go.Proofs.YtdlcldjlfhmlgaaGreatDoor
open Go.RowKit
end Go.Proofs.YtdlcldjlfhmlgaaGreatDoor
