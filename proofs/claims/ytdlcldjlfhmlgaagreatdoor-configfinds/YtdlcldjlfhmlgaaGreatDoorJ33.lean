/- Texts of this proof, joined: LeL, LeM, AhBt, AhDh, AhDo, AhRr. -/
import Derived.Deep.RegionHeld3
import Derived.Test.YtdlcldjlfhmlgaaGreatDoorJ32
import Derived.Test.YtdlcldjlfhmlgaaGreatDoorJ27
import Derived.Test.YtdlcldjlfhmlgaaGreatDoorJ23
set_option linter.unusedVariables false
set_option linter.unusedSimpArgs false
/- The document's lost (guidepostref14): is a record of none of the sets? -/
namespace Go.Proofs.YtdlcldjlfhmlgaaGreatDoor
open Go.RowKit
open So (El elC SRow)
end Go.Proofs.YtdlcldjlfhmlgaaGreatDoor
/- The document's Right of local zones (guidepostref14). -/
namespace Go.Proofs.YtdlcldjlfhmlgaaGreatDoor
open Go.RowKit
open So (El elC SRow)
end Go.Proofs.YtdlcldjlfhmlgaaGreatDoor
/- Layer 13: the document's bit. -/
namespace Go.Proofs.YtdlcldjlfhmlgaaGreatDoor.A
open Go.RowKit
end Go.Proofs.YtdlcldjlfhmlgaaGreatDoor.A
/- Layer 13: the document's RightPrefix, Holds. -/
namespace Go.Proofs.YtdlcldjlfhmlgaaGreatDoor.A
open Go.RowKit
end Go.Proofs.YtdlcldjlfhmlgaaGreatDoor.A
/- Layer 13: the document's Holds. -/
namespace Go.Proofs.YtdlcldjlfhmlgaaGreatDoor.A
open Go.RowKit
end Go.Proofs.YtdlcldjlfhmlgaaGreatDoor.A
/- Layer 13: the document's RightRules. -/
namespace Go.Proofs.YtdlcldjlfhmlgaaGreatDoor.A
open Go.RowKit
attribute [local go_sem ↓] bin_ad bin_pf
attribute [local go_sem] adEqV_run pfEqV_run
def RlC (w : World) (g o : Nat) (r : Rl) : Prop := w.cell? ⟨g, o, none⟩ = some (.bool r.p.v6) ∧ w.cell? ⟨g, o + 1, none⟩ = some (.int .u64 (r.p.hi : Int)) ∧ w.cell? ⟨g, o + 2, none⟩ = some (.int .u64 (r.p.lo : Int)) ∧ w.cell? ⟨g, o + 3, none⟩ = some (.int .i64 r.n) ∧ w.cell? ⟨g, o + 4, none⟩ = some (.int .i64 r.act)
theorem RlsAt.at {w : World} {g off : Nat} {rs : List Rl} (h : RlsAt w (some ⟨g, off, none⟩) rs) (k : Nat) (hk : k < rs.length) : RlC w g (off + k * 5) rs[k] := by
 obtain ⟨g', off', e, hg', c⟩ := h k hk
 cases e
 exact c
end Go.Proofs.YtdlcldjlfhmlgaaGreatDoor.A
