/- Texts of this proof, joined: RcFactRanks. -/
import Derived.ProofKit
import Derived.JoinedCond
import Derived.Test.YthionnpohcgoaaaGreatDoorTie
import Derived.Test.YthionnpohcgoaaaGreatDoorCards
import Derived.Test.YthionnpohcgoaaaGreatDoorJ25
set_option linter.unusedVariables false
set_option linter.unusedSimpArgs false
/- Layer 16: what a machine can see of RrcacheRanks' row. -/
namespace Go.Proofs.YthionnpohcgoaaaGreatDoor
open Go.RowKit
namespace rrcacheRanks
theorem and2 {a b : Bool} (ha : a = true) (hb : b = true) : (a && b) = true := by rw [ha, hb]; rfl
theorem fact0 : (Rows.rrcacheRanksRow.wf (OpenSpec.ofChange (OpenSpec.ofChange Rows.rrcacheRanksSpec).bare)) = true := by kernel_rfl
theorem fact1 : (laidOutB Tryz.pinned.checked.prog) = true := by kernel_rfl
theorem fact2 : (mapsRowed Tryz.pinned.checked.prog) = true := by kernel_rfl
theorem fact3 : (Tryz.f6.params.all (Tryz.pinned.checked.prog.readableRec ·)) = true := by kernel_rfl
theorem fact4 : (namedTie Tryz.pinned.checked.prog Rows.rrcacheRanksRow.named (OpenSpec.ofChange Rows.rrcacheRanksSpec).bare.vars) = true := by kernel_rfl
theorem fact5 : (Rows.rrcacheRanksRow.stops == []) = true := by kernel_rfl
theorem fact6 : (Tryz.pinned.checked.prog.stops == []) = true := by kernel_rfl
theorem fact7 : (Rows.rrcacheRanksRow.knobs == []) = true := by kernel_rfl
theorem fact8 : (Tryz.pinned.checked.prog.stopKnobs == []) = true := by kernel_rfl
theorem fact9 : (Rows.rrcacheRanksRow.inPlace == Tryz.pinned.checked.prog.inPlace 6) = true := by kernel_rfl
theorem fact10 : (Rows.rrcacheRanksRow.unfollowed == Tryz.pinned.checked.prog.unfollowed 6) = true := by kernel_rfl
theorem fact11 : (Rows.rrcacheRanksRow.recurses == Tryz.pinned.checked.prog.recurses 6) = true := by kernel_rfl
theorem fact12 : (Rows.rrcacheRanksRow.named == Tryz.pinned.checked.prog.varsNamed 6) = true := by kernel_rfl
theorem fact13 : (Rows.rrcacheRanksRow.maps == (Tryz.f6.params.toList ++ (OpenSpec.ofChange Rows.rrcacheRanksSpec).bare.plain.varTypes Tryz.pinned.checked.prog).any (Tryz.pinned.checked.prog.mapsRec ·)) = true := by kernel_rfl
theorem fact14 : (Rows.rrcacheRanksRow.ifaces == (Tryz.f6.params.toList ++ (OpenSpec.ofChange Rows.rrcacheRanksSpec).bare.plain.varTypes Tryz.pinned.checked.prog).any (Tryz.pinned.checked.prog.ifacesRec ·)) = true := by kernel_rfl
theorem fact15 : (Rows.rrcacheRanksRow.mapsOut == Tryz.pinned.checked.prog.mapsAmong Tryz.f6.resultTypes.toList) = true := by kernel_rfl
theorem fact16 : (Rows.rrcacheRanksRow.loops == (Tryz.f6.params.toList ++ (OpenSpec.ofChange Rows.rrcacheRanksSpec).bare.plain.varTypes Tryz.pinned.checked.prog).any (Tryz.pinned.checked.prog.loopsFrom ·)) = true := by kernel_rfl
theorem fact17 : (Rows.rrcacheRanksRow.wideKeys == (Tryz.f6.params.toList ++ (OpenSpec.ofChange Rows.rrcacheRanksSpec).bare.plain.varTypes Tryz.pinned.checked.prog ++ Tryz.f6.resultTypes.toList).any (Tryz.pinned.checked.prog.wideKeysFrom ·)) = true := by kernel_rfl
theorem fact18 : ((OpenSpec.ofChange Rows.rrcacheRanksSpec).bare.vars.all (Tryz.pinned.checked.prog.varReadable ·)) = true := by kernel_rfl
theorem fact19 : (Tryz.f6.resultTypes.all (fun t => Tryz.pinned.checked.prog.readableRec t && decide (t < Tryz.pinned.checked.prog.types.size))) = true := by kernel_rfl
theorem fact20 : (Rows.rrcacheRanksRow.ifacesOut == Tryz.f6.resultTypes.toList.any (Tryz.pinned.checked.prog.ifacesRec ·)) = true := by kernel_rfl
theorem fact21 : (Rows.rrcacheRanksRow.loopsOut == Tryz.f6.resultTypes.toList.any (Tryz.pinned.checked.prog.loopsFrom ·)) = true := by kernel_rfl
theorem fact22 : (Rows.rrcacheRanksRow.plainKeys == Tryz.pinned.checked.prog.plainKeys) = true := by kernel_rfl
theorem fact23 : (Rows.rrcacheRanksRow.shortTexts.isNone) = true := by kernel_rfl
theorem fact24 : (Tryz.pinned.checked.prog.stopsHeard) = true := by kernel_rfl
theorem fact25 : (Tryz.pinned.checked.prog.mayEnter) = true := by kernel_rfl
theorem fact26 : (Rows.rrcacheRanksRow.lifted == Tryz.pinned.checked.prog.liftsFinal) = true := by kernel_rfl
theorem fact27 : (Tryz.pinned.checked.prog.make == some Rows.rrcacheRanksRow.make) = true := by kernel_rfl
theorem fact28 : (Rows.rrcacheRanksRow.kinds == (if Rows.rrcacheRanksRow.domain.isEmpty then [] else Tryz.f6.params.toList.map fun t => match Tryz.pinned.checked.prog.underlying t with | some (.int k) => some k | _ => none)) = true := by kernel_rfl
theorem fact29 : (Rows.rrcacheRanksRow.pinned == Rows.rrcacheRanksRow.pinnedBy) = true := by kernel_rfl
theorem fact30 : (Rows.rrcacheRanksRow.veiled == (Tryz.f6.params.toList ++ (OpenSpec.ofChange Rows.rrcacheRanksSpec).bare.plain.varTypes Tryz.pinned.checked.prog ++ Tryz.f6.resultTypes.toList).any (Tryz.pinned.checked.prog.veiledRec ·)) = true := by kernel_rfl
theorem fact31 : (Rows.rrcacheRanksRow.veiledFits Tryz.pinned.checked.prog Tryz.f6.params.toList (Tryz.f6.params.toList ++ (OpenSpec.ofChange Rows.rrcacheRanksSpec).bare.plain.varTypes Tryz.pinned.checked.prog ++ Tryz.f6.resultTypes.toList)) = true := by kernel_rfl
end rrcacheRanks
end Go.Proofs.YthionnpohcgoaaaGreatDoor
