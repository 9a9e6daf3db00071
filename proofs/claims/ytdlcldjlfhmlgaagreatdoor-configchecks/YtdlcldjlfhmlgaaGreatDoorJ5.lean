/- Texts of this proof, joined: DTypes, DAny, DGroups, DGrpTell, DGlob, DUnder. -/
import Derived.Test.YtdlcldjlfhmlgaaGreatDoorJ4
import Derived.Lib.ItoaNum
import Derived.Deep.WholeRow
import Derived.Deep.Cut
import Derived.Lib.AppendIntMem
import Derived.Deep.RegionHeld3
set_option linter.unusedVariables false
set_option linter.unusedSimpArgs false
/- TypeText, TypeOf. -/
namespace Go.Proofs.YtdlcldjlfhmlgaaGreatDoor
open Go.RowKit Go.Sort
theorem cell_block {w : World} {a : Addr} {v : Value} (h : w.cell? a = some v) : a.block < w.heap.size := by
 apply Classical.byContradiction
 intro hn
 have : w.heap[a.block]? = none := by simp; omega
 simp [World.cell?, this] at h
end Go.Proofs.YtdlcldjlfhmlgaaGreatDoor
/- Types that are none of the table: their text. -/
namespace Go.Proofs.YtdlcldjlfhmlgaaGreatDoor
open Go.RowKit
end Go.Proofs.YtdlcldjlfhmlgaaGreatDoor
/- The form of A: four numbers of a byte each. -/
namespace Go.Proofs.YtdlcldjlfhmlgaaGreatDoor
open Go.RowKit
abbrev grpP (b : Nat) : Array Value := #[fnV 184 #[boxV b, boxV (b + 1)], fnV 185 #[boxV b, boxV (b + 1), boxV (b + 2), boxV (b + 3)], fnV 186 #[boxV (b + 3), boxV b, boxV (b + 2), boxV (b + 1)], .bool false]
end Go.Proofs.YtdlcldjlfhmlgaaGreatDoor
/- The form of A: how it is told. -/
namespace Go.Proofs.YtdlcldjlfhmlgaaGreatDoor
open Go.RowKit
def aPart (b : Nat) : Part := ⟨184, #[boxV b, boxV (b + 1)], 185, #[boxV b, boxV (b + 1), boxV (b + 2), boxV (b + 3)], 186, #[boxV (b + 3), boxV b, boxV (b + 2), boxV (b + 1)], false⟩
end Go.Proofs.YtdlcldjlfhmlgaaGreatDoor
/- What lies there all the time; the reader's word; understood. -/
namespace Go.Proofs.YtdlcldjlfhmlgaaGreatDoor
open Go.RowKit
end Go.Proofs.YtdlcldjlfhmlgaaGreatDoor
/- understood: what a text tells to the parts of a type's form. -/
namespace Go.Proofs.YtdlcldjlfhmlgaaGreatDoor
open Go.RowKit
theorem kept_cell {d : Nat} {W W' : World} (h : Kept d W W') {a : Addr} (ha : a.block < W.heap.size) (hd : a.block ≠ d) : W'.cell? a = W.cell? a := by
 have := h.same a.block ha hd
 simp [World.cell?, this]
theorem PartsIn.kept {d g n : Nat} {P : Nat → Part} {W W' : World} (h : PartsIn W g n P) (k : Kept d W W') (hgd : g ≠ d) : PartsIn W' g n P :=
 ⟨fun h0 => Nat.lt_of_lt_of_le (h.lt h0) k.size, fun j hj => (kept_cell k (h.lt (by omega)) hgd).trans (h.c0 j hj), fun j hj => (kept_cell k (h.lt (by omega)) hgd).trans (h.c1 j hj), fun j hj => (kept_cell k (h.lt (by omega)) hgd).trans (h.c2 j hj), fun j hj => (kept_cell k (h.lt (by omega)) hgd).trans (h.c3 j hj)⟩
end Go.Proofs.YtdlcldjlfhmlgaaGreatDoor
