/- Texts of this proof, joined: LfL, LfP. -/
import Derived.Test.YtdlcldjlfhmlgaaGreatDoorJ27
import Derived.Test.YtdlcldjlfhmlgaaGreatDoorJ28
import Derived.Test.YtdlcldjlfhmlgaaGreatDoorJ33
set_option linter.unusedVariables false
set_option linter.unusedSimpArgs false
/- Layer 15: the document's Check (guidepostref15). -/
namespace Go.Proofs.YtdlcldjlfhmlgaaGreatDoor
open Go.RowKit
end Go.Proofs.YtdlcldjlfhmlgaaGreatDoor
/- Layer 15: ConfigChecks' walk. -/
namespace Go.Proofs.YtdlcldjlfhmlgaaGreatDoor
open Go.RowKit
def CBx (w : World) (N : Nat) (k : Cq) (c : Cf) : Prop := w.cell? ⟨N, 0, none⟩ = some (.slice k.q0 c.rt.length k.c0) ∧ w.cell? ⟨N, 1, none⟩ = some (.slice k.q1 c.ru.length k.c1) ∧ w.cell? ⟨N, 2, none⟩ = some (.slice k.q2 c.lc.length k.c2) ∧ w.cell? ⟨N, 3, none⟩ = some (.slice k.q3 c.up.length k.c3) ∧ w.cell? ⟨N, 4, none⟩ = some (.slice k.q4 c.an.length k.c4) ∧ w.cell? ⟨N, 5, none⟩ = some (.int .i64 c.n0) ∧ w.cell? ⟨N, 6, none⟩ = some (.int .i64 c.n1) ∧ w.cell? ⟨N, 7, none⟩ = some (.int .i64 c.n2) ∧ w.cell? ⟨N, 8, none⟩ = some (.int .i64 c.n3)
theorem cbx_of {w : World} {N : Nat} {k : Cq} {c : Cf} (h : w.heap[N]? = some (.cells (cfC k c) 51 (0, 0))) : CBx w N k c := by
 refine ⟨?_, ?_, ?_, ?_, ?_, ?_, ?_, ?_, ?_⟩ <;> (rw [So.cell_blk h]; rfl)
end Go.Proofs.YtdlcldjlfhmlgaaGreatDoor
