/- Texts of this proof, joined: DAny, DGroups, DGrpTell, DGlob, DUnder, DReads. -/
import Derived.Test.YtimnnogaiglceaaGreatDoorJ4
import Derived.Deep.RegionHeld3
/- Types that are none of the table: their text. -/
namespace Go.Proofs.YtimnnogaiglceaaGreatDoor
set_option linter.unusedVariables false
open Go.RowKit
/-! ### Text -/
end Go.Proofs.YtimnnogaiglceaaGreatDoor
/- The form of A: four numbers of a byte each. -/
namespace Go.Proofs.YtimnnogaiglceaaGreatDoor
set_option linter.unusedVariables false
open Go.RowKit
abbrev grpP (b : Nat) : Array Value := #[fnV 141 #[boxV b, boxV (b + 1)], fnV 142 #[boxV b, boxV (b + 1), boxV (b + 2), boxV (b + 3)], fnV 143 #[boxV (b + 3), boxV b, boxV (b + 2), boxV (b + 1)], .bool false]
structure GrpBoxes (W : World) (b : Nat) : Prop where
  cnt : W.heap[b]? = some (.cells #[.int .i64 4] 3 (0, 0))
  wid : W.heap[b + 1]? = some (.cells #[.int .i64 1] 3 (0, 0))
  bas : W.heap[b + 2]? = some (.cells #[.int .i64 10] 3 (0, 0))
  btw : W.heap[b + 3]? = some (.cells #[.string ⟨#[46]⟩] 9 (0, 0))
theorem GrpBoxes.below {W W' : World} {b : Nat} (h : GrpBoxes W b) (k : Below W.heap.size W W') : GrpBoxes W' b :=
  ⟨(k.block _ (box_lt h.cnt)).trans h.cnt, (k.block _ (box_lt h.wid)).trans h.wid, (k.block _ (box_lt h.bas)).trans h.bas, (k.block _ (box_lt h.btw)).trans h.btw⟩
end Go.Proofs.YtimnnogaiglceaaGreatDoor
/- The form of A: how it is told. -/
namespace Go.Proofs.YtimnnogaiglceaaGreatDoor
set_option linter.unusedVariables false
open Go.RowKit
def aPart (b : Nat) : Part := ⟨141, #[boxV b, boxV (b + 1)], 142, #[boxV b, boxV (b + 1), boxV (b + 2), boxV (b + 3)], 143, #[boxV (b + 3), boxV b, boxV (b + 2), boxV (b + 1)], false⟩
end Go.Proofs.YtimnnogaiglceaaGreatDoor
/- What lies there all the time; the reader's word; understood. -/
namespace Go.Proofs.YtimnnogaiglceaaGreatDoor
set_option linter.unusedVariables false
open Go.RowKit
structure Glob (W : World) : Prop where
  pow : Pow W
  types : Types W
  maxl : ∃ m, W.cell? ⟨1, 0, none⟩ = some (.int .i64 m)
theorem Glob.below {W W' : World} (h : Glob W) (hb : Below W.heap.size W W') : Glob W' := by
  obtain ⟨m, hm⟩ := h.maxl
  exact ⟨h.pow.below hb, h.types.below hb, m, (hb.cell (p := ⟨1, 0, none⟩) (cell_block hm)).trans hm⟩
end Go.Proofs.YtimnnogaiglceaaGreatDoor
/- understood: what a text tells to the parts of a type's form. -/
namespace Go.Proofs.YtimnnogaiglceaaGreatDoor
set_option linter.unusedVariables false
open Go.RowKit
theorem kept_cell {d : Nat} {W W' : World} (h : Kept d W W') {a : Addr} (ha : a.block < W.heap.size) (hd : a.block ≠ d) : W'.cell? a = W.cell? a := by
  have := h.same a.block ha hd
  simp [World.cell?, this]
theorem PartsIn.kept {d g n : Nat} {P : Nat → Part} {W W' : World} (h : PartsIn W g n P) (k : Kept d W W') (hgd : g ≠ d) : PartsIn W' g n P :=
  ⟨fun h0 => Nat.lt_of_lt_of_le (h.lt h0) k.size, fun j hj => (kept_cell k (h.lt (by omega)) hgd).trans (h.c0 j hj), fun j hj => (kept_cell k (h.lt (by omega)) hgd).trans (h.c1 j hj), fun j hj => (kept_cell k (h.lt (by omega)) hgd).trans (h.c2 j hj), fun j hj => (kept_cell k (h.lt (by omega)) hgd).trans (h.c3 j hj)⟩
end Go.Proofs.YtimnnogaiglceaaGreatDoor
/- understood, with sound around its work; Read. -/
namespace Go.Proofs.YtimnnogaiglceaaGreatDoor
set_option linter.unusedVariables false
open Go.RowKit
end Go.Proofs.YtimnnogaiglceaaGreatDoor