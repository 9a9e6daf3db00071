/- Texts of this proof, joined: LeI, LeJ, LeK, LeL, LeM, AhBt. -/
import Derived.Deep.RegionHeld3
import Derived.Test.YtdlcldjlfhmlgaaGreatDoorJ30
import Derived.Test.YtdlcldjlfhmlgaaGreatDoorJ12
import Derived.Test.YtdlcldjlfhmlgaaGreatDoorJ26
set_option linter.unusedVariables false
set_option linter.unusedSimpArgs false
/- The document's Right and Same (guidepostref08), of sets of one text without signatures. -/
namespace Go.Proofs.YtdlcldjlfhmlgaaGreatDoor
open Go.RowKit
end Go.Proofs.YtdlcldjlfhmlgaaGreatDoor
/- The document's Sets (guidepostref08): what one record more does, as lists. -/
namespace Go.Proofs.YtdlcldjlfhmlgaaGreatDoor
open Go.RowKit
def pz (ss : List St) : List Sg := ss.map fun s => (s, [])
end Go.Proofs.YtdlcldjlfhmlgaaGreatDoor
/- The document's Sets (guidepostref08): its first loop, of any records; the second where no signature is. -/
namespace Go.Proofs.YtdlcldjlfhmlgaaGreatDoor
open Go.RowKit
open So (El elC SRow)
structure Dk (N : Nat) (W : World) (v : Value) (ps : List Sg) (w : World) : Prop where
 rs : ∃ els, RS N w v els ps
 bel : Below N W w
theorem Dk.at {N : Nat} {W w : World} {v : Value} {ps : List Sg} (h : Dk N W v ps w) (k : Nat) (hk : k < ps.length) : ∃ g cap els, v = .slice (some ⟨g, 0, none⟩) els.length cap ∧ els.length = ps.length ∧ RS N w (.slice (some ⟨g, 0, none⟩) els.length cap) els ps ∧ k < els.length := by
 obtain ⟨els, h1⟩ := h.rs
 have hl := h1.len
 obtain ⟨g, cap, e, _, _⟩ := srow_form h1.row (by omega)
 exact ⟨g, cap, els, e, hl, e ▸ h1, by omega⟩
end Go.Proofs.YtdlcldjlfhmlgaaGreatDoor
/- The document's lost (guidepostref14): is a record of none of the sets? -/
namespace Go.Proofs.YtdlcldjlfhmlgaaGreatDoor
open Go.RowKit
open So (El elC SRow)
end Go.Proofs.YtdlcldjlfhmlgaaGreatDoor
/- The document's Right of local zones (guidepostref14). -/
namespace Go.Proofs.YtdlcldjlfhmlgaaGreatDoor
open Go.RowKit
open So (El elC SRow)
end Go.Proofs.YtdlcldjlfhmlgaaGreatDoor
/- Layer 13: the document's bit. -/
namespace Go.Proofs.YtdlcldjlfhmlgaaGreatDoor.A
open Go.RowKit
end Go.Proofs.YtdlcldjlfhmlgaaGreatDoor.A
