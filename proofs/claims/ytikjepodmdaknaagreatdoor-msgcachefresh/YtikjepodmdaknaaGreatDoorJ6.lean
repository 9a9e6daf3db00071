/- Texts of this proof, joined: DUnder, DReads, DGrpRead, DStr, DConv, DTxtRead. -/
import Derived.Test.YtikjepodmdaknaaGreatDoorJ5
import Derived.Lib.FrozenHead
set_option linter.unusedVariables false
set_option linter.unusedSimpArgs false
/- understood: what a text tells to the parts of a type's form. -/
namespace Go.Proofs.YtikjepodmdaknaaGreatDoor
open Go.RowKit
theorem kept_cell {d : Nat} {W W' : World} (h : Kept d W W') {a : Addr} (ha : a.block < W.heap.size) (hd : a.block ≠ d) : W'.cell? a = W.cell? a := by
 have := h.same a.block ha hd
 simp [World.cell?, this]
theorem PartsIn.kept {d g n : Nat} {P : Nat → Part} {W W' : World} (h : PartsIn W g n P) (k : Kept d W W') (hgd : g ≠ d) : PartsIn W' g n P :=
 ⟨fun h0 => Nat.lt_of_lt_of_le (h.lt h0) k.size, fun j hj => (kept_cell k (h.lt (by omega)) hgd).trans (h.c0 j hj), fun j hj => (kept_cell k (h.lt (by omega)) hgd).trans (h.c1 j hj), fun j hj => (kept_cell k (h.lt (by omega)) hgd).trans (h.c2 j hj), fun j hj => (kept_cell k (h.lt (by omega)) hgd).trans (h.c3 j hj)⟩
end Go.Proofs.YtikjepodmdaknaaGreatDoor
/- understood, with sound around its work; Read. -/
namespace Go.Proofs.YtikjepodmdaknaaGreatDoor
open Go.RowKit
end Go.Proofs.YtikjepodmdaknaaGreatDoor
/- Read; and the form of A, how it is read where it goes well. -/
namespace Go.Proofs.YtikjepodmdaknaaGreatDoor
open Go.RowKit
end Go.Proofs.YtikjepodmdaknaaGreatDoor
/- Strings of TXT: readString and readMarked, where no byte is told by its number. -/
namespace Go.Proofs.YtikjepodmdaknaaGreatDoor
open Go.RowKit
def strLen : Option Value → Nat
 | some (.string s) => s.size
 | _ => 0
def rdLen (W : World) (d : Nat) : Nat := strLen (W.cell? ⟨d, 0, none⟩)
theorem Rd.len {W : World} {d : Nat} {s : ByteArray} (h : Rd W d s) : rdLen W d = s.size := by
 rw [rdLen, h.cell]; rfl
end Go.Proofs.YtikjepodmdaknaaGreatDoor
/- Bytes made of a text ('[]byte(s)'), appended to: such a row bears its mark behind its last cell. -/
namespace Go.Proofs.YtikjepodmdaknaaGreatDoor
open Go.RowKit
end Go.Proofs.YtikjepodmdaknaaGreatDoor
/- TXT: how its strings are read, where they are told well. -/
namespace Go.Proofs.YtikjepodmdaknaaGreatDoor
open Go.RowKit
end Go.Proofs.YtikjepodmdaknaaGreatDoor
