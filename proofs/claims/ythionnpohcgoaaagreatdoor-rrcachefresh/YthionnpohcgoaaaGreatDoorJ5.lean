/- Texts of this proof, joined: DHex, DTypes, DAny, DGroups, DGrpTell, DGlob. -/
import Derived.Deep.RegionLaw
import Derived.Test.YthionnpohcgoaaaGreatDoorJ3
import Derived.Test.YthionnpohcgoaaaGreatDoorJ4
import Derived.Lib.ItoaNum
import Derived.Deep.WholeRow
import Derived.Deep.Cut
import Derived.Lib.AppendIntMem
import Derived.Deep.RegionHeld3
set_option linter.unusedVariables false
set_option linter.unusedSimpArgs false
/- hex: bytes as digits of four bits. -/
namespace Go.Proofs.YthionnpohcgoaaaGreatDoor
open Go.RowKit
end Go.Proofs.YthionnpohcgoaaaGreatDoor
/- TypeText, TypeOf. -/
namespace Go.Proofs.YthionnpohcgoaaaGreatDoor
open Go.RowKit Go.Sort
def tab : List (Int × List UInt8) := [(1, [65]), (2, [78, 83]), (5, [67, 78, 65, 77, 69]), (6, [83, 79, 65]), (15, [77, 88]), (16, [84, 88, 84]), (28, [65, 65, 65, 65]), (39, [68, 78, 65, 77, 69]), (41, [79, 80, 84]), (43, [68, 83]), (46, [82, 82, 83, 73, 71]), (47, [78, 83, 69, 67]), (48, [68, 78, 83, 75, 69, 89]), (50, [78, 83, 69, 67, 51]), (255, [65, 78, 89])]
theorem cell_block {w : World} {a : Addr} {v : Value} (h : w.cell? a = some v) : a.block < w.heap.size := by
 apply Classical.byContradiction
 intro hn
 have : w.heap[a.block]? = none := by simp; omega
 simp [World.cell?, this] at h
end Go.Proofs.YthionnpohcgoaaaGreatDoor
/- Types that are none of the table: their text. -/
namespace Go.Proofs.YthionnpohcgoaaaGreatDoor
open Go.RowKit
end Go.Proofs.YthionnpohcgoaaaGreatDoor
/- The form of A: four numbers of a byte each. -/
namespace Go.Proofs.YthionnpohcgoaaaGreatDoor
open Go.RowKit
abbrev grpP (b : Nat) : Array Value := #[fnV 158 #[boxV b, boxV (b + 1)], fnV 159 #[boxV b, boxV (b + 1), boxV (b + 2), boxV (b + 3)], fnV 160 #[boxV (b + 3), boxV b, boxV (b + 2), boxV (b + 1)], .bool false]
end Go.Proofs.YthionnpohcgoaaaGreatDoor
/- The form of A: how it is told. -/
namespace Go.Proofs.YthionnpohcgoaaaGreatDoor
open Go.RowKit
def aPart (b : Nat) : Part := ⟨158, #[boxV b, boxV (b + 1)], 159, #[boxV b, boxV (b + 1), boxV (b + 2), boxV (b + 3)], 160, #[boxV (b + 3), boxV b, boxV (b + 2), boxV (b + 1)], false⟩
end Go.Proofs.YthionnpohcgoaaaGreatDoor
/- What lies there all the time; the reader's word; understood. -/
namespace Go.Proofs.YthionnpohcgoaaaGreatDoor
open Go.RowKit
end Go.Proofs.YthionnpohcgoaaaGreatDoor
