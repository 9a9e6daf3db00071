/- Texts of this proof, joined: DHex, DTypes, DAny, DGroups, DGrpTell, DGlob. -/
import Derived.Deep.RegionLaw
import Derived.Test.YtikjepodmdaknaaGreatDoorJ3
import Derived.Test.YtikjepodmdaknaaGreatDoorJ4
import Derived.Lib.ItoaNum
import Derived.Deep.WholeRow
import Derived.Deep.Cut
import Derived.Lib.AppendIntMem
import Derived.Deep.RegionHeld3
set_option linter.unusedVariables false
set_option linter.unusedSimpArgs false
/- hex: bytes as digits of four bits. -/
namespace Go.Proofs.YtikjepodmdaknaaGreatDoor
open Go.RowKit
end Go.Proofs.YtikjepodmdaknaaGreatDoor
/- TypeText, TypeOf. -/
namespace Go.Proofs.YtikjepodmdaknaaGreatDoor
open Go.RowKit Go.Sort
def tab : List (Int × List UInt8) := [(1, [65]), (2, [78, 83]), (5, [67, 78, 65, 77, 69]), (6, [83, 79, 65]), (15, [77, 88]), (16, [84, 88, 84]), (28, [65, 65, 65, 65]), (39, [68, 78, 65, 77, 69]), (41, [79, 80, 84]), (43, [68, 83]), (46, [82, 82, 83, 73, 71]), (47, [78, 83, 69, 67]), (48, [68, 78, 83, 75, 69, 89]), (50, [78, 83, 69, 67, 51]), (255, [65, 78, 89])]
theorem cell_block {w : World} {a : Addr} {v : Value} (h : w.cell? a = some v) : a.block < w.heap.size := by
 apply Classical.byContradiction
 intro hn
 have : w.heap[a.block]? = none := by simp; omega
 simp [World.cell?, this] at h
end Go.Proofs.YtikjepodmdaknaaGreatDoor
/- Types that are none of the table: their text. -/
namespace Go.Proofs.YtikjepodmdaknaaGreatDoor
open Go.RowKit
end Go.Proofs.YtikjepodmdaknaaGreatDoor
/- The form of A: four numbers of a byte each. -/
namespace Go.Proofs.YtikjepodmdaknaaGreatDoor
open Go.RowKit
abbrev grpP (b : Nat) : Array Value := #[fnV 213 #[boxV b, boxV (b + 1)], fnV 214 #[boxV b, boxV (b + 1), boxV (b + 2), boxV (b + 3)], fnV 215 #[boxV (b + 3), boxV b, boxV (b + 2), boxV (b + 1)], .bool false]
end Go.Proofs.YtikjepodmdaknaaGreatDoor
/- The form of A: how it is told. -/
namespace Go.Proofs.YtikjepodmdaknaaGreatDoor
open Go.RowKit
def aPart (b : Nat) : Part := ⟨213, #[boxV b, boxV (b + 1)], 214, #[boxV b, boxV (b + 1), boxV (b + 2), boxV (b + 3)], 215, #[boxV (b + 3), boxV b, boxV (b + 2), boxV (b + 1)], false⟩
end Go.Proofs.YtikjepodmdaknaaGreatDoor
/- What lies there all the time; the reader's word; understood. -/
namespace Go.Proofs.YtikjepodmdaknaaGreatDoor
open Go.RowKit
end Go.Proofs.YtikjepodmdaknaaGreatDoor
