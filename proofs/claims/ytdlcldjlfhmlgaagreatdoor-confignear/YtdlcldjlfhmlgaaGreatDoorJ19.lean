/- Texts of this proof, joined: LdR, LdU, RefLabels, UCased, URefLower, URefUnder. -/
import Derived.Test.YtdlcldjlfhmlgaaGreatDoorJ18
import Derived.Test.YtdlcldjlfhmlgaaGreatDoorJ13
import Derived.Test.YtdlcldjlfhmlgaaGreatDoorJ1
import Derived.Test.YtdlcldjlfhmlgaaGreatDoorJ2
import Derived.Lib.ConvBytes
import Derived.Deep.RegionWith
import Derived.Test.YtdlcldjlfhmlgaaGreatDoorJ3
set_option linter.unusedVariables false
set_option linter.unusedSimpArgs false
/- Layer 14: a zone by itself. -/
namespace Go.Proofs.YtdlcldjlfhmlgaaGreatDoor
open Go.RowKit
end Go.Proofs.YtdlcldjlfhmlgaaGreatDoor
/- Layer 14: what letters change. -/
namespace Go.Proofs.YtdlcldjlfhmlgaaGreatDoor
open Go.RowKit
end Go.Proofs.YtdlcldjlfhmlgaaGreatDoor
/- The document's own Labels and Right (guidepostref01). -/
namespace Go.Proofs.YtdlcldjlfhmlgaaGreatDoor
open Go.RowKit
end Go.Proofs.YtdlcldjlfhmlgaaGreatDoor
/- Cased. -/
namespace Go.Proofs.YtdlcldjlfhmlgaaGreatDoor.U
set_option maxRecDepth 100000
open Go.RowKit
def isLow (b : UInt8) : Bool := decide (97 ≤ b.toNat ∧ b.toNat ≤ 122)
def cnt (l : List UInt8) : Nat := (l.filter isLow).length
def bitAt (bits k : Nat) : Bool := decide (bits / 2 ^ (k % 64) % 2 = 1)
theorem cnt_le (l : List UInt8) : cnt l ≤ l.length := List.length_filter_le _ _
theorem cnt_cons (b : UInt8) (l : List UInt8) : cnt (b :: l) = (if isLow b = true then 1 else 0) + cnt l := by
 unfold cnt
 by_cases h : isLow b = true
 ·simp [h]; omega
 ·simp [h]
end Go.Proofs.YtdlcldjlfhmlgaaGreatDoor.U
/- The document's own small and Lower (guidepostref01). -/
namespace Go.Proofs.YtdlcldjlfhmlgaaGreatDoor.U
set_option maxRecDepth 100000
open Go.RowKit
end Go.Proofs.YtdlcldjlfhmlgaaGreatDoor.U
/- The document's own Under (guidepostref01). -/
namespace Go.Proofs.YtdlcldjlfhmlgaaGreatDoor.U
open Go.RowKit
end Go.Proofs.YtdlcldjlfhmlgaaGreatDoor.U
