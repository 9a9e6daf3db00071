/- A world for the witnesses: Go's own tables hold what their texts lay; no walk reads them. -/
import Derived.OpenShut
import Derived.WalkKit
import Derived.ProofKit
import Derived.Lib.LaidTab
import Derived.Deep.DeepHandedRow
import Derived.Test.YthjhemodmdficaaDoorTie
import Derived.Test.YthjhemodmdficaaDoorCards
import Derived.Test.YthjhemodmdficaaDoorNEx
namespace Go.Proofs.YthjhemodmdficaaDoor
set_option linter.unusedVariables false
open Go.RowKit
def lit1 : DataW Unit → List Value
  | .lit (.int k n) => [.int k n]
  | .lit (.string s) => [.string ⟨s.toArray⟩]
  | _ => []
def flat2 : DataW Unit → Array Value
  | .agg l => (l.flatMap fun x => match x with
    | .agg l2 => l2.flatMap lit1
    | x => lit1 x).toArray
  | _ => #[]
/-- nothing is asked of the variables. -/
structure NG (W : World) : Prop where
  ok : True
theorem ng_of {W : World} {l : List (String × DataW Unit)} (h : laidMet Tryd.prog l W) (hs : W.ShapedOpen Tryd.prog) : NG W := ⟨trivial⟩
/-- A WORLD FOR THE WITNESS: the settled one, the variables of packages holding what their texts lay. -/
noncomputable def laidWorld (os : Os) : World :=
  let w0 := World.holding Tryd.prog os ⟨#[], #[], []⟩
  let put (h : Array Obj) (g : Nat) (cs : Array Value) : Array Obj := h.modify g fun
    | .cells _ t frozen => .cells cs t frozen
    | o => o
  let h7 := put w0.heap 0 (flat2 Rows.laid_unicode_utf8_first)
  let h8 := put h7 1 (flat2 Rows.laid_unicode_utf8_acceptRanges)
  { w0 with heap := h8 }
end Go.Proofs.YthjhemodmdficaaDoor
