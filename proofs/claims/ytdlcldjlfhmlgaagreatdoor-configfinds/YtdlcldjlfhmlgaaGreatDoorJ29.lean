/- Texts of this proof, joined: DRefSig, DRefKey, DRefDs, DTyFacts, DTyAdd, DTyAdd2. -/
import Derived.Test.YtdlcldjlfhmlgaaGreatDoorJ28
import Derived.Test.YtdlcldjlfhmlgaaGreatDoorJ7
import Derived.Test.YtdlcldjlfhmlgaaGreatDoorJ9
import Derived.BigRegion
import Derived.Deep.RegionHeld3
set_option linter.unusedVariables false
set_option linter.unusedSimpArgs false
/- Sig, as the document's own function takes it apart. -/
namespace Go.Proofs.YtdlcldjlfhmlgaaGreatDoor
open Go.RowKit
end Go.Proofs.YtdlcldjlfhmlgaaGreatDoor
/- Key, as the document's own function takes it apart. -/
namespace Go.Proofs.YtdlcldjlfhmlgaaGreatDoor
open Go.RowKit
end Go.Proofs.YtdlcldjlfhmlgaaGreatDoor
/- Ds, as the document's own function takes it apart. -/
namespace Go.Proofs.YtdlcldjlfhmlgaaGreatDoor
open Go.RowKit
end Go.Proofs.YtdlcldjlfhmlgaaGreatDoor
/- Lists of types as bytes: windows of bits. Nothing here speaks of the program. -/
namespace Go.Proofs.YtdlcldjlfhmlgaaGreatDoor
open Go.RowKit
/-! ### windows -/
/-! ### uniqueness -/
/-! ### one type more -/
end Go.Proofs.YtdlcldjlfhmlgaaGreatDoor
/- typeList.add: one type more. -/
namespace Go.Proofs.YtdlcldjlfhmlgaaGreatDoor
open Go.RowKit
end Go.Proofs.YtdlcldjlfhmlgaaGreatDoor
/- typeList.add: one type more, in a new window. -/
namespace Go.Proofs.YtdlcldjlfhmlgaaGreatDoor
open Go.RowKit
end Go.Proofs.YtdlcldjlfhmlgaaGreatDoor
