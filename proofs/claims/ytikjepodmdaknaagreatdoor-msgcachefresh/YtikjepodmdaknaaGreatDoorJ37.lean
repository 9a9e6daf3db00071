/- Texts of this proof, joined: McFactFresh. -/
import Derived.ProofKit
import Derived.JoinedCond
import Derived.Test.YtikjepodmdaknaaGreatDoorTie
import Derived.Test.YtikjepodmdaknaaGreatDoorCards
import Derived.Test.YtikjepodmdaknaaGreatDoorJ36
set_option linter.unusedVariables false
set_option linter.unusedSimpArgs false
/- Layer 17: what a machine can see of MsgcacheFresh' row. -/
namespace Go.Proofs.YtikjepodmdaknaaGreatDoor
open Go.RowKit
namespace msgcacheFresh
theorem and2 {a b : Bool} (ha : a = true) (hb : b = true) : (a && b) = true := by rw [ha, hb]; rfl
theorem fact0 : (Rows.msgcacheFreshRow.wf (OpenSpec.ofChange (OpenSpec.ofChange Rows.msgcacheFreshSpec).bare)) = true := by kernel_rfl
theorem fact1 : (laidOutB Tryz.pinned.checked.prog) = true := by kernel_rfl
theorem fact2 : (mapsRowed Tryz.pinned.checked.prog) = true := by kernel_rfl
theorem fact3 : (Tryz.f5.params.all (Tryz.pinned.checked.prog.readableRec ·)) = true := by kernel_rfl
theorem fact4 : (namedTie Tryz.pinned.checked.prog Rows.msgcacheFreshRow.named (OpenSpec.ofChange Rows.msgcacheFreshSpec).bare.vars) = true := by kernel_rfl
theorem fact5 : (Rows.msgcacheFreshRow.stops == []) = true := by kernel_rfl
theorem fact6 : (Tryz.pinned.checked.prog.stops == []) = true := by kernel_rfl
theorem fact7 : (Rows.msgcacheFreshRow.knobs == []) = true := by kernel_rfl
theorem fact8 : (Tryz.pinned.checked.prog.stopKnobs == []) = true := by kernel_rfl
theorem fact9 : (Rows.msgcacheFreshRow.inPlace == Tryz.pinned.checked.prog.inPlace 5) = true := by kernel_rfl
theorem fact10 : (Rows.msgcacheFreshRow.unfollowed == Tryz.pinned.checked.prog.unfollowed 5) = true := by kernel_rfl
theorem fact11 : (Rows.msgcacheFreshRow.recurses == Tryz.pinned.checked.prog.recurses 5) = true := by kernel_rfl
theorem fact12 : (Rows.msgcacheFreshRow.named == Tryz.pinned.checked.prog.varsNamed 5) = true := by kernel_rfl
theorem fact13 : (Rows.msgcacheFreshRow.maps == (Tryz.f5.params.toList ++ (OpenSpec.ofChange Rows.msgcacheFreshSpec).bare.plain.varTypes Tryz.pinned.checked.prog).any (Tryz.pinned.checked.prog.mapsRec ·)) = true := by kernel_rfl
theorem fact14 : (Rows.msgcacheFreshRow.ifaces == (Tryz.f5.params.toList ++ (OpenSpec.ofChange Rows.msgcacheFreshSpec).bare.plain.varTypes Tryz.pinned.checked.prog).any (Tryz.pinned.checked.prog.ifacesRec ·)) = true := by kernel_rfl
theorem fact15 : (Rows.msgcacheFreshRow.mapsOut == Tryz.pinned.checked.prog.mapsAmong Tryz.f5.resultTypes.toList) = true := by kernel_rfl
theorem fact16 : (Rows.msgcacheFreshRow.loops == (Tryz.f5.params.toList ++ (OpenSpec.ofChange Rows.msgcacheFreshSpec).bare.plain.varTypes Tryz.pinned.checked.prog).any (Tryz.pinned.checked.prog.loopsFrom ·)) = true := by kernel_rfl
theorem fact17 : (Rows.msgcacheFreshRow.wideKeys == (Tryz.f5.params.toList ++ (OpenSpec.ofChange Rows.msgcacheFreshSpec).bare.plain.varTypes Tryz.pinned.checked.prog ++ Tryz.f5.resultTypes.toList).any (Tryz.pinned.checked.prog.wideKeysFrom ·)) = true := by kernel_rfl
theorem fact18 : ((OpenSpec.ofChange Rows.msgcacheFreshSpec).bare.vars.all (Tryz.pinned.checked.prog.varReadable ·)) = true := by kernel_rfl
theorem fact19 : (Tryz.f5.resultTypes.all (fun t => Tryz.pinned.checked.prog.readableRec t && decide (t < Tryz.pinned.checked.prog.types.size))) = true := by kernel_rfl
theorem fact20 : (Rows.msgcacheFreshRow.ifacesOut == Tryz.f5.resultTypes.toList.any (Tryz.pinned.checked.prog.ifacesRec ·)) = true := by kernel_rfl
theorem fact21 : (Rows.msgcacheFreshRow.loopsOut == Tryz.f5.resultTypes.toList.any (Tryz.pinned.checked.prog.loopsFrom ·)) = true := by kernel_rfl
theorem fact22 : (Rows.msgcacheFreshRow.plainKeys == Tryz.pinned.checked.prog.plainKeys) = true := by kernel_rfl
theorem fact23 : (Rows.msgcacheFreshRow.shortTexts.isNone) = true := by kernel_rfl
theorem fact24 : (Tryz.pinned.checked.prog.stopsHeard) = true := by kernel_rfl
theorem fact25 : (Tryz.pinned.checked.prog.mayEnter) = true := by kernel_rfl
theorem fact26 : (Rows.msgcacheFreshRow.lifted == Tryz.pinned.checked.prog.liftsFinal) = true := by kernel_rfl
theorem fact27 : (Tryz.pinned.checked.prog.make == some Rows.msgcacheFreshRow.make) = true := by kernel_rfl
theorem fact28 : (Rows.msgcacheFreshRow.kinds == (if Rows.msgcacheFreshRow.domain.isEmpty then [] else Tryz.f5.params.toList.map fun t => match Tryz.pinned.checked.prog.underlying t with | some (.int k) => some k | _ => none)) = true := by kernel_rfl
theorem fact29 : (Rows.msgcacheFreshRow.pinned == Rows.msgcacheFreshRow.pinnedBy) = true := by kernel_rfl
theorem fact30 : (Rows.msgcacheFreshRow.veiled == (Tryz.f5.params.toList ++ (OpenSpec.ofChange Rows.msgcacheFreshSpec).bare.plain.varTypes Tryz.pinned.checked.prog ++ Tryz.f5.resultTypes.toList).any (Tryz.pinned.checked.prog.veiledRec ·)) = true := by kernel_rfl
theorem fact31 : (Rows.msgcacheFreshRow.veiledFits Tryz.pinned.checked.prog Tryz.f5.params.toList (Tryz.f5.params.toList ++ (OpenSpec.ofChange Rows.msgcacheFreshSpec).bare.plain.varTypes Tryz.pinned.checked.prog ++ Tryz.f5.resultTypes.toList)) = true := by kernel_rfl
end msgcacheFresh
end Go.Proofs.YtikjepodmdaknaaGreatDoor
