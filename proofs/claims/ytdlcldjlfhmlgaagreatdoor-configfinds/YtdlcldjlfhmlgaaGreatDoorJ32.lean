/- Texts of this proof, joined: LeG, LeH, LeE, LeI, LeJ, LeK. -/
import Derived.Test.YtdlcldjlfhmlgaaGreatDoorJ20
import Derived.Test.YtdlcldjlfhmlgaaGreatDoorJ13
import Derived.Test.YtdlcldjlfhmlgaaGreatDoorJ12
import Derived.Test.YtdlcldjlfhmlgaaGreatDoorJ31
import Derived.Deep.RegionHeld3
set_option linter.unusedVariables false
set_option linter.unusedSimpArgs false
/- Layer 14: the records that the document takes in a zone, as lists. -/
namespace Go.Proofs.YtdlcldjlfhmlgaaGreatDoor
open Go.RowKit
end Go.Proofs.YtdlcldjlfhmlgaaGreatDoor
/- Layer 8: the document's sets in memory, with signatures: what lies where; facts alone. -/
namespace Go.Proofs.YtdlcldjlfhmlgaaGreatDoor
open Go.RowKit
open So (El elC elC_len elC_app elC_cons elC_take elC_drop elC_at SRow)
abbrev Sg := St × List ByteArray
def Sg.tx (p : Sg) : Bool → List ByteArray
 | false => p.1.ds
 | true => p.2
def fld (e : El) : Bool → Value
 | false => e.dv
 | true => e.sv
structure ElS (N : Nat) (w : World) (e : El) (p : Sg) : Prop where
 ls : e.ls = p.1.ls
 ty : e.ty = p.1.ty
 cl : e.cl = p.1.cl
 tl : e.tl = p.1.tl
 tx : ∀ f, w.ownsRow N 9 1 (fld e f) (p.tx f).length (strs (p.tx f))
structure RS (N : Nat) (w : World) (v : Value) (els : List El) (ps : List Sg) : Prop where
 row : w.ownsRow N 44 6 v els.length (elC els)
 rel : F2 (ElS N w) els ps
 dis : ∀ i j (hi : i < els.length) (hj : j < els.length) (f g : Bool) (b : Nat), (i ≠ j ∨ f ≠ g) → (fld els[i] f).ownBlock = some b → (fld els[j] g).ownBlock ≠ some b
theorem RS.len {N : Nat} {w : World} {v : Value} {els : List El} {ps : List Sg} (h : RS N w v els ps) : els.length = ps.length := h.rel.len
end Go.Proofs.YtdlcldjlfhmlgaaGreatDoor
/- The document's rightRecord, ttl, find, has (guidepostref08). -/
namespace Go.Proofs.YtdlcldjlfhmlgaaGreatDoor
open Go.RowKit
open So (El elC elC_len SRow)
/-! ### find -/
/-! ### has -/
end Go.Proofs.YtdlcldjlfhmlgaaGreatDoor
/- The document's Right and Same (guidepostref08), of sets of one text without signatures. -/
namespace Go.Proofs.YtdlcldjlfhmlgaaGreatDoor
open Go.RowKit
end Go.Proofs.YtdlcldjlfhmlgaaGreatDoor
/- The document's Sets (guidepostref08): what one record more does, as lists. -/
namespace Go.Proofs.YtdlcldjlfhmlgaaGreatDoor
open Go.RowKit
def pz (ss : List St) : List Sg := ss.map fun s => (s, [])
end Go.Proofs.YtdlcldjlfhmlgaaGreatDoor
/- The document's Sets (guidepostref08): its first loop, of any records; the second where no signature is. -/
namespace Go.Proofs.YtdlcldjlfhmlgaaGreatDoor
open Go.RowKit
open So (El elC SRow)
structure Dk (N : Nat) (W : World) (v : Value) (ps : List Sg) (w : World) : Prop where
 rs : ∃ els, RS N w v els ps
 bel : Below N W w
theorem Dk.at {N : Nat} {W w : World} {v : Value} {ps : List Sg} (h : Dk N W v ps w) (k : Nat) (hk : k < ps.length) : ∃ g cap els, v = .slice (some ⟨g, 0, none⟩) els.length cap ∧ els.length = ps.length ∧ RS N w (.slice (some ⟨g, 0, none⟩) els.length cap) els ps ∧ k < els.length := by
 obtain ⟨els, h1⟩ := h.rs
 have hl := h1.len
 obtain ⟨g, cap, e, _, _⟩ := srow_form h1.row (by omega)
 exact ⟨g, cap, els, e, hl, e ▸ h1, by omega⟩
end Go.Proofs.YtdlcldjlfhmlgaaGreatDoor
