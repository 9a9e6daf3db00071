/- Texts of this proof, joined: RcFactVersions. -/
import Derived.ProofKit
import Derived.JoinedCond
import Derived.Test.YthionnpohcgoaaaGreatDoorTie
import Derived.Test.YthionnpohcgoaaaGreatDoorCards
import Derived.Test.YthionnpohcgoaaaGreatDoorJ26
set_option linter.unusedVariables false
set_option linter.unusedSimpArgs false
/- Layer 16: what a machine can see of RrcacheVersions' row. -/
namespace Go.Proofs.YthionnpohcgoaaaGreatDoor
open Go.RowKit
namespace rrcacheVersions
theorem and2 {a b : Bool} (ha : a = true) (hb : b = true) : (a && b) = true := by rw [ha, hb]; rfl
theorem fact0 : (Rows.rrcacheVersionsRow.wf (OpenSpec.ofChange (OpenSpec.ofChange Rows.rrcacheVersionsSpec).bare)) = true := by kernel_rfl
theorem fact1 : (laidOutB Tryz.pinned.checked.prog) = true := by kernel_rfl
theorem fact2 : (mapsRowed Tryz.pinned.checked.prog) = true := by kernel_rfl
theorem fact3 : (Tryz.f5.params.all (Tryz.pinned.checked.prog.readableRec ·)) = true := by kernel_rfl
theorem fact4 : (namedTie Tryz.pinned.checked.prog Rows.rrcacheVersionsRow.named (OpenSpec.ofChange Rows.rrcacheVersionsSpec).bare.vars) = true := by kernel_rfl
theorem fact5 : (Rows.rrcacheVersionsRow.stops == []) = true := by kernel_rfl
theorem fact6 : (Tryz.pinned.checked.prog.stops == []) = true := by kernel_rfl
theorem fact7 : (Rows.rrcacheVersionsRow.knobs == []) = true := by kernel_rfl
theorem fact8 : (Tryz.pinned.checked.prog.stopKnobs == []) = true := by kernel_rfl
theorem fact9 : (Rows.rrcacheVersionsRow.inPlace == Tryz.pinned.checked.prog.inPlace 5) = true := by kernel_rfl
theorem fact10 : (Rows.rrcacheVersionsRow.unfollowed == Tryz.pinned.checked.prog.unfollowed 5) = true := by kernel_rfl
theorem fact11 : (Rows.rrcacheVersionsRow.recurses == Tryz.pinned.checked.prog.recurses 5) = true := by kernel_rfl
theorem fact12 : (Rows.rrcacheVersionsRow.named == Tryz.pinned.checked.prog.varsNamed 5) = true := by kernel_rfl
theorem fact13 : (Rows.rrcacheVersionsRow.maps == (Tryz.f5.params.toList ++ (OpenSpec.ofChange Rows.rrcacheVersionsSpec).bare.plain.varTypes Tryz.pinned.checked.prog).any (Tryz.pinned.checked.prog.mapsRec ·)) = true := by kernel_rfl
theorem fact14 : (Rows.rrcacheVersionsRow.ifaces == (Tryz.f5.params.toList ++ (OpenSpec.ofChange Rows.rrcacheVersionsSpec).bare.plain.varTypes Tryz.pinned.checked.prog).any (Tryz.pinned.checked.prog.ifacesRec ·)) = true := by kernel_rfl
theorem fact15 : (Rows.rrcacheVersionsRow.mapsOut == Tryz.pinned.checked.prog.mapsAmong Tryz.f5.resultTypes.toList) = true := by kernel_rfl
theorem fact16 : (Rows.rrcacheVersionsRow.loops == (Tryz.f5.params.toList ++ (OpenSpec.ofChange Rows.rrcacheVersionsSpec).bare.plain.varTypes Tryz.pinned.checked.prog).any (Tryz.pinned.checked.prog.loopsFrom ·)) = true := by kernel_rfl
theorem fact17 : (Rows.rrcacheVersionsRow.wideKeys == (Tryz.f5.params.toList ++ (OpenSpec.ofChange Rows.rrcacheVersionsSpec).bare.plain.varTypes Tryz.pinned.checked.prog ++ Tryz.f5.resultTypes.toList).any (Tryz.pinned.checked.prog.wideKeysFrom ·)) = true := by kernel_rfl
theorem fact18 : ((OpenSpec.ofChange Rows.rrcacheVersionsSpec).bare.vars.all (Tryz.pinned.checked.prog.varReadable ·)) = true := by kernel_rfl
theorem fact19 : (Tryz.f5.resultTypes.all (fun t => Tryz.pinned.checked.prog.readableRec t && decide (t < Tryz.pinned.checked.prog.types.size))) = true := by kernel_rfl
theorem fact20 : (Rows.rrcacheVersionsRow.ifacesOut == Tryz.f5.resultTypes.toList.any (Tryz.pinned.checked.prog.ifacesRec ·)) = true := by kernel_rfl
theorem fact21 : (Rows.rrcacheVersionsRow.loopsOut == Tryz.f5.resultTypes.toList.any (Tryz.pinned.checked.prog.loopsFrom ·)) = true := by kernel_rfl
theorem fact22 : (Rows.rrcacheVersionsRow.plainKeys == Tryz.pinned.checked.prog.plainKeys) = true := by kernel_rfl
theorem fact23 : (Rows.rrcacheVersionsRow.shortTexts.isNone) = true := by kernel_rfl
theorem fact24 : (Tryz.pinned.checked.prog.stopsHeard) = true := by kernel_rfl
theorem fact25 : (Tryz.pinned.checked.prog.mayEnter) = true := by kernel_rfl
theorem fact26 : (Rows.rrcacheVersionsRow.lifted == Tryz.pinned.checked.prog.liftsFinal) = true := by kernel_rfl
theorem fact27 : (Tryz.pinned.checked.prog.make == some Rows.rrcacheVersionsRow.make) = true := by kernel_rfl
theorem fact28 : (Rows.rrcacheVersionsRow.kinds == (if Rows.rrcacheVersionsRow.domain.isEmpty then [] else Tryz.f5.params.toList.map fun t => match Tryz.pinned.checked.prog.underlying t with | some (.int k) => some k | _ => none)) = true := by kernel_rfl
theorem fact29 : (Rows.rrcacheVersionsRow.pinned == Rows.rrcacheVersionsRow.pinnedBy) = true := by kernel_rfl
theorem fact30 : (Rows.rrcacheVersionsRow.veiled == (Tryz.f5.params.toList ++ (OpenSpec.ofChange Rows.rrcacheVersionsSpec).bare.plain.varTypes Tryz.pinned.checked.prog ++ Tryz.f5.resultTypes.toList).any (Tryz.pinned.checked.prog.veiledRec ·)) = true := by kernel_rfl
theorem fact31 : (Rows.rrcacheVersionsRow.veiledFits Tryz.pinned.checked.prog Tryz.f5.params.toList (Tryz.f5.params.toList ++ (OpenSpec.ofChange Rows.rrcacheVersionsSpec).bare.plain.varTypes Tryz.pinned.checked.prog ++ Tryz.f5.resultTypes.toList)) = true := by kernel_rfl
end rrcacheVersions
end Go.Proofs.YthionnpohcgoaaaGreatDoor
