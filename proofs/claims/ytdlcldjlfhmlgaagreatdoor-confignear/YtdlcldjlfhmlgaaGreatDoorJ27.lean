/- Texts of this proof, joined: DRefRd, DRefSt, DRefSoa, DRefSig, DRefKey, DRefDs. -/
import Derived.Test.YtdlcldjlfhmlgaaGreatDoorJ26
import Derived.Test.YtdlcldjlfhmlgaaGreatDoorJ19
set_option linter.unusedVariables false
set_option linter.unusedSimpArgs false
/- The document's own reader (guidepostref02): the walks of its steps. -/
namespace Go.Proofs.YtdlcldjlfhmlgaaGreatDoor
open Go.RowKit
def RR (W : World) (d : Nat) (s : ByteArray) (b : Bool) : Prop := W.heap[d]? = some (.cells #[.string s, .bool b] 149 (0, 0))
end Go.Proofs.YtdlcldjlfhmlgaaGreatDoor
/- The document's own reader at work: what lies where while it takes data apart. -/
namespace Go.Proofs.YtdlcldjlfhmlgaaGreatDoor
open Go.RowKit
structure S0 (W w : World) (a rb : Nat) (r : ByteArray) (b : Bool) (t : TypeId) (zs : Array Value) : Prop where
 rr : RR w rb r b
 res : w.heap[a]? = some (.cells zs t (0, 0))
 bel : Below W.heap.size W w
 ne : a ≠ rb
 ha : W.heap.size ≤ a
 hr : W.heap.size ≤ rb
structure S1 (W w : World) (a rb xb : Nat) (r : ByteArray) (b : Bool) (t : TypeId) (zs cs : Array Value) : Prop where
 s : S0 W w a rb r b t zs
 x : w.heap[xb]? = some (.cells cs t (0, 0))
 nx : xb ≠ rb
 na : a ≠ xb
 hx : W.heap.size ≤ xb
end Go.Proofs.YtdlcldjlfhmlgaaGreatDoor
/- Soa, as the document's own function takes it apart. -/
namespace Go.Proofs.YtdlcldjlfhmlgaaGreatDoor
open Go.RowKit
end Go.Proofs.YtdlcldjlfhmlgaaGreatDoor
/- Sig, as the document's own function takes it apart. -/
namespace Go.Proofs.YtdlcldjlfhmlgaaGreatDoor
open Go.RowKit
end Go.Proofs.YtdlcldjlfhmlgaaGreatDoor
/- Key, as the document's own function takes it apart. -/
namespace Go.Proofs.YtdlcldjlfhmlgaaGreatDoor
open Go.RowKit
end Go.Proofs.YtdlcldjlfhmlgaaGreatDoor
/- Ds, as the document's own function takes it apart. -/
namespace Go.Proofs.YtdlcldjlfhmlgaaGreatDoor
open Go.RowKit
end Go.Proofs.YtdlcldjlfhmlgaaGreatDoor
