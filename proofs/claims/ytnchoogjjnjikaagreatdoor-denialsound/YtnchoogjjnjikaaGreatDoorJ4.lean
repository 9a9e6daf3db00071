/- Texts of this proof, joined: DGroups, DGrpTell, DGlob, DUnder, DReads, DGrpRead. -/
import Derived.Test.YtnchoogjjnjikaaGreatDoorJ3
import Derived.Deep.RegionHeld3
/- The form of A: four numbers of a byte each. -/
namespace Go.Proofs.YtnchoogjjnjikaaGreatDoor
set_option linter.unusedVariables false
open Go.RowKit
abbrev grpP (b : Nat) : Array Value := #[fnV 143 #[boxV b, boxV (b + 1)], fnV 144 #[boxV b, boxV (b + 1), boxV (b + 2), boxV (b + 3)], fnV 145 #[boxV (b + 3), boxV b, boxV (b + 2), boxV (b + 1)], .bool false]
structure GrpBoxes (W : World) (b : Nat) : Prop where
  cnt : W.heap[b]? = some (.cells #[.int .i64 4] 3 (0, 0))
  wid : W.heap[b + 1]? = some (.cells #[.int .i64 1] 3 (0, 0))
  bas : W.heap[b + 2]? = some (.cells #[.int .i64 10] 3 (0, 0))
  btw : W.heap[b + 3]? = some (.cells #[.string ⟨#[46]⟩] 9 (0, 0))
theorem GrpBoxes.below {W W' : World} {b : Nat} (h : GrpBoxes W b) (k : Below W.heap.size W W') : GrpBoxes W' b :=
  ⟨(k.block _ (box_lt h.cnt)).trans h.cnt, (k.block _ (box_lt h.wid)).trans h.wid, (k.block _ (box_lt h.bas)).trans h.bas, (k.block _ (box_lt h.btw)).trans h.btw⟩
end Go.Proofs.YtnchoogjjnjikaaGreatDoor
/- The form of A: how it is told. -/
namespace Go.Proofs.YtnchoogjjnjikaaGreatDoor
set_option linter.unusedVariables false
open Go.RowKit
def aPart (b : Nat) : Part := ⟨143, #[boxV b, boxV (b + 1)], 144, #[boxV b, boxV (b + 1), boxV (b + 2), boxV (b + 3)], 145, #[boxV (b + 3), boxV b, boxV (b + 2), boxV (b + 1)], false⟩
end Go.Proofs.YtnchoogjjnjikaaGreatDoor
/- What lies there all the time; the reader's word; understood. -/
namespace Go.Proofs.YtnchoogjjnjikaaGreatDoor
set_option linter.unusedVariables false
open Go.RowKit
structure Glob (W : World) : Prop where
  pow : Pow W
  types : Types W
  maxl : ∃ m, W.cell? ⟨0, 0, none⟩ = some (.int .i64 m)
theorem Glob.below {W W' : World} (h : Glob W) (hb : Below W.heap.size W W') : Glob W' := by
  obtain ⟨m, hm⟩ := h.maxl
  exact ⟨h.pow.below hb, h.types.below hb, m, (hb.cell (p := ⟨0, 0, none⟩) (cell_block hm)).trans hm⟩
def wordB (s : ByteArray) : ByteArray := ⟨(Lib.cut s.data.toList [32]).1.toArray⟩
def restB (s : ByteArray) : ByteArray := ⟨(Lib.cut s.data.toList [32]).2.1.toArray⟩
theorem word_in (W : World) (d : Nat) (s : ByteArray) (hs : s.size ≤ 1000000) (h : Rd W d s) (hG : Glob W) :
    Calls Tryz.prog 142 #[boxV d] W fun e w' => e = .returned (.string (wordB s)) ∧ Rd w' d (restB s) ∧ Kept d W w' := by
  obtain ⟨m, hm⟩ := hG.maxl
  have hc := h.cell
  have HC := Hid.mk (Tryz.strings_Cut s ⟨#[32]⟩ m W (by omega) hm)
  go_enter Tryz.func142, Tryz.ntmps142
  go_wp2_with fail
  refine HC.out.mono ?_
  rintro e w1 ⟨rfl, n, rfl⟩
  have hc1 : (W.drewN n).cell? ⟨d, 0, none⟩ = some (.string s) := hc
  have hf1 : (W.drewN n).frozen? ⟨d, 0, none⟩ = false := h.frozen
  have hf := h.frozen
  go_wp2
  go_ret
  refine ⟨rfl, ?_, ?_⟩
  · exact Rd.set (W := W.drewN n) h _
  · exact ⟨rfl, rfl, rfl, (Kept.set d 0 W _).size, (Kept.set d 0 W _).same⟩
end Go.Proofs.YtnchoogjjnjikaaGreatDoor
/- understood: what a text tells to the parts of a type's form. -/
namespace Go.Proofs.YtnchoogjjnjikaaGreatDoor
set_option linter.unusedVariables false
open Go.RowKit
theorem kept_cell {d : Nat} {W W' : World} (h : Kept d W W') {a : Addr} (ha : a.block < W.heap.size) (hd : a.block ≠ d) : W'.cell? a = W.cell? a := by
  have := h.same a.block ha hd
  simp [World.cell?, this]
theorem PartsIn.kept {d g n : Nat} {P : Nat → Part} {W W' : World} (h : PartsIn W g n P) (k : Kept d W W') (hgd : g ≠ d) : PartsIn W' g n P :=
  ⟨fun h0 => Nat.lt_of_lt_of_le (h.lt h0) k.size, fun j hj => (kept_cell k (h.lt (by omega)) hgd).trans (h.c0 j hj), fun j hj => (kept_cell k (h.lt (by omega)) hgd).trans (h.c1 j hj), fun j hj => (kept_cell k (h.lt (by omega)) hgd).trans (h.c2 j hj), fun j hj => (kept_cell k (h.lt (by omega)) hgd).trans (h.c3 j hj)⟩
end Go.Proofs.YtnchoogjjnjikaaGreatDoor
/- understood, with sound around its work; Read. -/
namespace Go.Proofs.YtnchoogjjnjikaaGreatDoor
set_option linter.unusedVariables false
open Go.RowKit
end Go.Proofs.YtnchoogjjnjikaaGreatDoor
/- Read; and the form of A, how it is read where it goes well. -/
namespace Go.Proofs.YtnchoogjjnjikaaGreatDoor
set_option linter.unusedVariables false
open Go.RowKit
theorem cells_new1 (W : World) (cs : Array Value) (t : TypeId) (j : Nat) (u : Value) (h : cs.toList[j]? = some u) : (W.alloc (.cells cs t)).cell? ((⟨W.heap.size, 0, none⟩ : Addr).add j) = some u := by
  rw [add_at]
  have hh : (W.alloc (.cells cs t)).heap[W.heap.size]? = some (.cells cs t) := World.alloc_heap_new W _
  simp only [World.cell?, hh]
  simpa using h
theorem GrpBoxes.kept {W W' : World} {b d : Nat} (h : GrpBoxes W b) (k : Kept d W W') (hd : d < b) : GrpBoxes W' b :=
  ⟨(k.same _ (box_lt h.cnt) (by omega)).trans h.cnt, (k.same _ (box_lt h.wid) (by omega)).trans h.wid, (k.same _ (box_lt h.bas) (by omega)).trans h.bas, (k.same _ (box_lt h.btw) (by omega)).trans h.btw⟩
end Go.Proofs.YtnchoogjjnjikaaGreatDoor