/- Texts of this proof, joined: RcFactFresh. -/
import Derived.ProofKit
import Derived.JoinedCond
import Derived.Test.YthionnpohcgoaaaGreatDoorTie
import Derived.Test.YthionnpohcgoaaaGreatDoorCards
import Derived.Test.YthionnpohcgoaaaGreatDoorJ27
set_option linter.unusedVariables false
set_option linter.unusedSimpArgs false
/- Layer 16: what a machine can see of RrcacheFresh' row. -/
namespace Go.Proofs.YthionnpohcgoaaaGreatDoor
open Go.RowKit
namespace rrcacheFresh
theorem and2 {a b : Bool} (ha : a = true) (hb : b = true) : (a && b) = true := by rw [ha, hb]; rfl
theorem fact0 : (Rows.rrcacheFreshRow.wf (OpenSpec.ofChange (OpenSpec.ofChange Rows.rrcacheFreshSpec).bare)) = true := by kernel_rfl
theorem fact1 : (laidOutB Tryz.pinned.checked.prog) = true := by kernel_rfl
theorem fact2 : (mapsRowed Tryz.pinned.checked.prog) = true := by kernel_rfl
theorem fact3 : (Tryz.f4.params.all (Tryz.pinned.checked.prog.readableRec ·)) = true := by kernel_rfl
theorem fact4 : (namedTie Tryz.pinned.checked.prog Rows.rrcacheFreshRow.named (OpenSpec.ofChange Rows.rrcacheFreshSpec).bare.vars) = true := by kernel_rfl
theorem fact5 : (Rows.rrcacheFreshRow.stops == []) = true := by kernel_rfl
theorem fact6 : (Tryz.pinned.checked.prog.stops == []) = true := by kernel_rfl
theorem fact7 : (Rows.rrcacheFreshRow.knobs == []) = true := by kernel_rfl
theorem fact8 : (Tryz.pinned.checked.prog.stopKnobs == []) = true := by kernel_rfl
theorem fact9 : (Rows.rrcacheFreshRow.inPlace == Tryz.pinned.checked.prog.inPlace 4) = true := by kernel_rfl
theorem fact10 : (Rows.rrcacheFreshRow.unfollowed == Tryz.pinned.checked.prog.unfollowed 4) = true := by kernel_rfl
theorem fact11 : (Rows.rrcacheFreshRow.recurses == Tryz.pinned.checked.prog.recurses 4) = true := by kernel_rfl
theorem fact12 : (Rows.rrcacheFreshRow.named == Tryz.pinned.checked.prog.varsNamed 4) = true := by kernel_rfl
theorem fact13 : (Rows.rrcacheFreshRow.maps == (Tryz.f4.params.toList ++ (OpenSpec.ofChange Rows.rrcacheFreshSpec).bare.plain.varTypes Tryz.pinned.checked.prog).any (Tryz.pinned.checked.prog.mapsRec ·)) = true := by kernel_rfl
theorem fact14 : (Rows.rrcacheFreshRow.ifaces == (Tryz.f4.params.toList ++ (OpenSpec.ofChange Rows.rrcacheFreshSpec).bare.plain.varTypes Tryz.pinned.checked.prog).any (Tryz.pinned.checked.prog.ifacesRec ·)) = true := by kernel_rfl
theorem fact15 : (Rows.rrcacheFreshRow.mapsOut == Tryz.pinned.checked.prog.mapsAmong Tryz.f4.resultTypes.toList) = true := by kernel_rfl
theorem fact16 : (Rows.rrcacheFreshRow.loops == (Tryz.f4.params.toList ++ (OpenSpec.ofChange Rows.rrcacheFreshSpec).bare.plain.varTypes Tryz.pinned.checked.prog).any (Tryz.pinned.checked.prog.loopsFrom ·)) = true := by kernel_rfl
theorem fact17 : (Rows.rrcacheFreshRow.wideKeys == (Tryz.f4.params.toList ++ (OpenSpec.ofChange Rows.rrcacheFreshSpec).bare.plain.varTypes Tryz.pinned.checked.prog ++ Tryz.f4.resultTypes.toList).any (Tryz.pinned.checked.prog.wideKeysFrom ·)) = true := by kernel_rfl
theorem fact18 : ((OpenSpec.ofChange Rows.rrcacheFreshSpec).bare.vars.all (Tryz.pinned.checked.prog.varReadable ·)) = true := by kernel_rfl
theorem fact19 : (Tryz.f4.resultTypes.all (fun t => Tryz.pinned.checked.prog.readableRec t && decide (t < Tryz.pinned.checked.prog.types.size))) = true := by kernel_rfl
theorem fact20 : (Rows.rrcacheFreshRow.ifacesOut == Tryz.f4.resultTypes.toList.any (Tryz.pinned.checked.prog.ifacesRec ·)) = true := by kernel_rfl
theorem fact21 : (Rows.rrcacheFreshRow.loopsOut == Tryz.f4.resultTypes.toList.any (Tryz.pinned.checked.prog.loopsFrom ·)) = true := by kernel_rfl
theorem fact22 : (Rows.rrcacheFreshRow.plainKeys == Tryz.pinned.checked.prog.plainKeys) = true := by kernel_rfl
theorem fact23 : (Rows.rrcacheFreshRow.shortTexts.isNone) = true := by kernel_rfl
theorem fact24 : (Tryz.pinned.checked.prog.stopsHeard) = true := by kernel_rfl
theorem fact25 : (Tryz.pinned.checked.prog.mayEnter) = true := by kernel_rfl
theorem fact26 : (Rows.rrcacheFreshRow.lifted == Tryz.pinned.checked.prog.liftsFinal) = true := by kernel_rfl
theorem fact27 : (Tryz.pinned.checked.prog.make == some Rows.rrcacheFreshRow.make) = true := by kernel_rfl
theorem fact28 : (Rows.rrcacheFreshRow.kinds == (if Rows.rrcacheFreshRow.domain.isEmpty then [] else Tryz.f4.params.toList.map fun t => match Tryz.pinned.checked.prog.underlying t with | some (.int k) => some k | _ => none)) = true := by kernel_rfl
theorem fact29 : (Rows.rrcacheFreshRow.pinned == Rows.rrcacheFreshRow.pinnedBy) = true := by kernel_rfl
theorem fact30 : (Rows.rrcacheFreshRow.veiled == (Tryz.f4.params.toList ++ (OpenSpec.ofChange Rows.rrcacheFreshSpec).bare.plain.varTypes Tryz.pinned.checked.prog ++ Tryz.f4.resultTypes.toList).any (Tryz.pinned.checked.prog.veiledRec ·)) = true := by kernel_rfl
theorem fact31 : (Rows.rrcacheFreshRow.veiledFits Tryz.pinned.checked.prog Tryz.f4.params.toList (Tryz.f4.params.toList ++ (OpenSpec.ofChange Rows.rrcacheFreshSpec).bare.plain.varTypes Tryz.pinned.checked.prog ++ Tryz.f4.resultTypes.toList)) = true := by kernel_rfl
end rrcacheFresh
end Go.Proofs.YthionnpohcgoaaaGreatDoor
