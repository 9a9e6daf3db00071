/- Texts of this proof, joined: LeDa, LeDb, LeD, LeG, LeH, LeE. -/
import Derived.BigQuiet
import Derived.Deep.RegionHeld3
import Derived.Test.YtdlcldjlfhmlgaaGreatDoorJ29
import Derived.Test.YtdlcldjlfhmlgaaGreatDoorJ20
import Derived.Test.YtdlcldjlfhmlgaaGreatDoorJ13
import Derived.Test.YtdlcldjlfhmlgaaGreatDoorJ12
set_option linter.unusedVariables false
set_option linter.unusedSimpArgs false
/- The document's Lower of data (guidepostref02), of types that are no signatures. -/
namespace Go.Proofs.YtdlcldjlfhmlgaaGreatDoor
open Go.RowKit
end Go.Proofs.YtdlcldjlfhmlgaaGreatDoor
/- The document's Lower of data (guidepostref02), of types that are no signatures. -/
namespace Go.Proofs.YtdlcldjlfhmlgaaGreatDoor
open Go.RowKit
end Go.Proofs.YtdlcldjlfhmlgaaGreatDoor
/- The document's Lower of data (guidepostref02), of types that are no signatures. -/
namespace Go.Proofs.YtdlcldjlfhmlgaaGreatDoor
open Go.RowKit
end Go.Proofs.YtdlcldjlfhmlgaaGreatDoor
/- Layer 14: the records that the document takes in a zone, as lists. -/
namespace Go.Proofs.YtdlcldjlfhmlgaaGreatDoor
open Go.RowKit
end Go.Proofs.YtdlcldjlfhmlgaaGreatDoor
/- Layer 8: the document's sets in memory, with signatures: what lies where; facts alone. -/
namespace Go.Proofs.YtdlcldjlfhmlgaaGreatDoor
open Go.RowKit
open So (El elC elC_len elC_app elC_cons elC_take elC_drop elC_at SRow)
abbrev Sg := St × List ByteArray
def Sg.tx (p : Sg) : Bool → List ByteArray
 | false => p.1.ds
 | true => p.2
def fld (e : El) : Bool → Value
 | false => e.dv
 | true => e.sv
structure ElS (N : Nat) (w : World) (e : El) (p : Sg) : Prop where
 ls : e.ls = p.1.ls
 ty : e.ty = p.1.ty
 cl : e.cl = p.1.cl
 tl : e.tl = p.1.tl
 tx : ∀ f, w.ownsRow N 9 1 (fld e f) (p.tx f).length (strs (p.tx f))
structure RS (N : Nat) (w : World) (v : Value) (els : List El) (ps : List Sg) : Prop where
 row : w.ownsRow N 44 6 v els.length (elC els)
 rel : F2 (ElS N w) els ps
 dis : ∀ i j (hi : i < els.length) (hj : j < els.length) (f g : Bool) (b : Nat), (i ≠ j ∨ f ≠ g) → (fld els[i] f).ownBlock = some b → (fld els[j] g).ownBlock ≠ some b
theorem RS.len {N : Nat} {w : World} {v : Value} {els : List El} {ps : List Sg} (h : RS N w v els ps) : els.length = ps.length := h.rel.len
end Go.Proofs.YtdlcldjlfhmlgaaGreatDoor
/- The document's rightRecord, ttl, find, has (guidepostref08). -/
namespace Go.Proofs.YtdlcldjlfhmlgaaGreatDoor
open Go.RowKit
open So (El elC elC_len SRow)
end Go.Proofs.YtdlcldjlfhmlgaaGreatDoor
