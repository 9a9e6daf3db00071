/- A world for the witnesses: the variables of packages hold what their texts lay. -/
import Derived.WalkKit
import Derived.ProofKit
import Derived.Test.YtkohkkakbcjgcabGreatDoorDLaid
namespace Go.Proofs.YtkohkkakbcjgcabGreatDoor
set_option linter.unusedVariables false
open Go.RowKit

def lit1 : DataW Unit → List Value
  | .lit (.int k n) => [.int k n]
  | .lit (.string s) => [.string ⟨s.toArray⟩]
  | _ => []
def flat2 : DataW Unit → Array Value
  | .agg l => (l.flatMap fun x => match x with
    | .agg l2 => l2.flatMap lit1
    | x => lit1 x).toArray
  | _ => #[]
def errS : DataW Unit → ByteArray
  | .iface _ (.ptr (.agg [.lit (.string s)])) => ⟨s.toArray⟩
  | _ => ⟨#[]⟩

/-- A WORLD FOR THE WITNESS: the settled one, the variables of packages holding what their texts lay. -/
noncomputable def laidWorld (os : Os) : World :=
  let N := (World.settled Tryz.prog os).heap.size
  let w0 := World.holding Tryz.prog os ⟨#[.cells #[.string (errS Rows.laid_strconv_ErrSyntax)] 181, .cells #[.string (errS Rows.laid_strconv_ErrRange)] 181], #[], []⟩
  let put (h : Array Obj) (g : Nat) (cs : Array Value) : Array Obj := h.modify g fun
    | .cells _ t frozen => .cells cs t frozen
    | o => o
  let h0 := put w0.heap 0 (flat2 Rows.laid_guidepost_data_typeTexts)
  let h2 := put h0 2 (flat2 Rows.laid_internal_strconv_uint64pow10)
  let h3 := put h2 3 #[.iface 179 (.pointer (some ⟨N, 0, none⟩))]
  let h4 := put h3 4 #[.iface 179 (.pointer (some ⟨N + 1, 0, none⟩))]
  let h5 := put h4 5 (flat2 Rows.laid_math_bits_deBruijn32tab)
  let h6 := put h5 6 (flat2 Rows.laid_math_bits_deBruijn64tab)
  let h7 := put h6 7 (flat2 Rows.laid_unicode_utf8_first)
  let h8 := put h7 8 (flat2 Rows.laid_unicode_utf8_acceptRanges)
  { w0 with heap := h8 }

end Go.Proofs.YtkohkkakbcjgcabGreatDoor
