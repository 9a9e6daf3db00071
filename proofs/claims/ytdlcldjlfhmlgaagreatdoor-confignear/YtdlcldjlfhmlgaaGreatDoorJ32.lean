/- Texts of this proof, joined: AhDh, AhDo, AhRr, LfL, LfP, LfS. -/
import Derived.Test.YtdlcldjlfhmlgaaGreatDoorJ31
import Derived.Test.YtdlcldjlfhmlgaaGreatDoorJ23
import Derived.Test.YtdlcldjlfhmlgaaGreatDoorJ26
import Derived.Test.YtdlcldjlfhmlgaaGreatDoorJ25
set_option linter.unusedVariables false
set_option linter.unusedSimpArgs false
/- Layer 13: the document's RightPrefix, Holds. -/
namespace Go.Proofs.YtdlcldjlfhmlgaaGreatDoor.A
open Go.RowKit
end Go.Proofs.YtdlcldjlfhmlgaaGreatDoor.A
/- Layer 13: the document's Holds. -/
namespace Go.Proofs.YtdlcldjlfhmlgaaGreatDoor.A
open Go.RowKit
end Go.Proofs.YtdlcldjlfhmlgaaGreatDoor.A
/- Layer 13: the document's RightRules. -/
namespace Go.Proofs.YtdlcldjlfhmlgaaGreatDoor.A
open Go.RowKit
attribute [local go_sem ↓] bin_ad bin_pf
attribute [local go_sem] adEqV_run pfEqV_run
def RlC (w : World) (g o : Nat) (r : Rl) : Prop := w.cell? ⟨g, o, none⟩ = some (.bool r.p.v6) ∧ w.cell? ⟨g, o + 1, none⟩ = some (.int .u64 (r.p.hi : Int)) ∧ w.cell? ⟨g, o + 2, none⟩ = some (.int .u64 (r.p.lo : Int)) ∧ w.cell? ⟨g, o + 3, none⟩ = some (.int .i64 r.n) ∧ w.cell? ⟨g, o + 4, none⟩ = some (.int .i64 r.act)
theorem RlsAt.at {w : World} {g off : Nat} {rs : List Rl} (h : RlsAt w (some ⟨g, off, none⟩) rs) (k : Nat) (hk : k < rs.length) : RlC w g (off + k * 5) rs[k] := by
 obtain ⟨g', off', e, hg', c⟩ := h k hk
 cases e
 exact c
end Go.Proofs.YtdlcldjlfhmlgaaGreatDoor.A
/- Layer 15: the document's Check (guidepostref15). -/
namespace Go.Proofs.YtdlcldjlfhmlgaaGreatDoor
open Go.RowKit
end Go.Proofs.YtdlcldjlfhmlgaaGreatDoor
/- Layer 15: ConfigChecks' walk. -/
namespace Go.Proofs.YtdlcldjlfhmlgaaGreatDoor
open Go.RowKit
def CBx (w : World) (N : Nat) (k : Cq) (c : Cf) : Prop := w.cell? ⟨N, 0, none⟩ = some (.slice k.q0 c.rt.length k.c0) ∧ w.cell? ⟨N, 1, none⟩ = some (.slice k.q1 c.ru.length k.c1) ∧ w.cell? ⟨N, 2, none⟩ = some (.slice k.q2 c.lc.length k.c2) ∧ w.cell? ⟨N, 3, none⟩ = some (.slice k.q3 c.up.length k.c3) ∧ w.cell? ⟨N, 4, none⟩ = some (.slice k.q4 c.an.length k.c4) ∧ w.cell? ⟨N, 5, none⟩ = some (.int .i64 c.n0) ∧ w.cell? ⟨N, 6, none⟩ = some (.int .i64 c.n1) ∧ w.cell? ⟨N, 7, none⟩ = some (.int .i64 c.n2) ∧ w.cell? ⟨N, 8, none⟩ = some (.int .i64 c.n3)
theorem cbx_of {w : World} {N : Nat} {k : Cq} {c : Cf} (h : w.heap[N]? = some (.cells (cfC k c) 51 (0, 0))) : CBx w N k c := by
 refine ⟨?_, ?_, ?_, ?_, ?_, ?_, ?_, ?_, ?_⟩ <;> (rw [So.cell_blk h]; rfl)
end Go.Proofs.YtdlcldjlfhmlgaaGreatDoor
/- Layer 15: a configuration with one part made wrong. -/
namespace Go.Proofs.YtdlcldjlfhmlgaaGreatDoor
open Go.RowKit
section
variable {α : Type} {sz M : Nat} {R : World → α → List Value → Prop}
theorem rows_blk (ok : RowOk sz M R) {w w' : World} {q : Option Addr} {l : List α} (h : RowsAt sz R w q l) (hb : Below w.heap.size w w') (hM : M ≤ w.heap.size) : RowsAt sz R w' q l := fun j hj => by
 obtain ⟨b, off, row, e, hlt, hR, hc⟩ := h j hj
 exact ⟨b, off, row, e, Nat.lt_of_lt_of_le hlt hb.size, ok.blk _ _ _ _ (hb.mono hM) hR, fun i hi => (hb.cell (p := ⟨b, _, none⟩) hlt).trans (hc i hi)⟩
theorem rows_set (ok : RowOk sz M R) {N : Nat} (hMN : M ≤ N) {w : World} {q : Option Addr} {l : List α} (h : RowsAt sz R w q l) (hq : ∀ a, q = some a → a.block ≠ N) (i : Nat) (v : Value) : RowsAt sz R (w.setCell ⟨N, i, none⟩ v) q l := fun j hj => by
 obtain ⟨b, off, row, e, hlt, hR, hc⟩ := h j hj
 have hne : b ≠ N := hq _ e
 refine ⟨b, off, row, e, by simpa using hlt, ok.blk _ _ _ _ ((Below.refl _ _).setCell (p := ⟨N, i, none⟩) hMN v) hR, fun x hx => ?_⟩
 rw [← hc x hx]
 unfold World.cell?
 rw [Below.heap_setCell _ _ _ _ (show b ≠ (⟨N, i, none⟩ : Addr).block from hne)]
end
theorem cell_frozen {w : World} {N : Nat} {c : Array Value} {t : TypeId} (h : w.heap[N]? = some (.cells c t (0, 0))) (i : Nat) : w.frozen? ⟨N, i, none⟩ = false := frozenU h i
end Go.Proofs.YtdlcldjlfhmlgaaGreatDoor
