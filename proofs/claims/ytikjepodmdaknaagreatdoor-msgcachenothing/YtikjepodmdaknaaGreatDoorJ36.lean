/- Texts of this proof, joined: McFactNothing. -/
import Derived.ProofKit
import Derived.JoinedCond
import Derived.Test.YtikjepodmdaknaaGreatDoorTie
import Derived.Test.YtikjepodmdaknaaGreatDoorCards
import Derived.Test.YtikjepodmdaknaaGreatDoorJ35
set_option linter.unusedVariables false
set_option linter.unusedSimpArgs false
/- Layer 17: what a machine can see of MsgcacheNothing' row. -/
namespace Go.Proofs.YtikjepodmdaknaaGreatDoor
open Go.RowKit
namespace msgcacheNothing
theorem and2 {a b : Bool} (ha : a = true) (hb : b = true) : (a && b) = true := by rw [ha, hb]; rfl
theorem fact0 : (Rows.msgcacheNothingRow.wf (OpenSpec.ofChange (OpenSpec.ofChange Rows.msgcacheNothingSpec).bare)) = true := by kernel_rfl
theorem fact1 : (laidOutB Tryz.pinned.checked.prog) = true := by kernel_rfl
theorem fact2 : (mapsRowed Tryz.pinned.checked.prog) = true := by kernel_rfl
theorem fact3 : (Tryz.f7.params.all (Tryz.pinned.checked.prog.readableRec ·)) = true := by kernel_rfl
theorem fact4 : (namedTie Tryz.pinned.checked.prog Rows.msgcacheNothingRow.named (OpenSpec.ofChange Rows.msgcacheNothingSpec).bare.vars) = true := by kernel_rfl
theorem fact5 : (Rows.msgcacheNothingRow.stops == []) = true := by kernel_rfl
theorem fact6 : (Tryz.pinned.checked.prog.stops == []) = true := by kernel_rfl
theorem fact7 : (Rows.msgcacheNothingRow.knobs == []) = true := by kernel_rfl
theorem fact8 : (Tryz.pinned.checked.prog.stopKnobs == []) = true := by kernel_rfl
theorem fact9 : (Rows.msgcacheNothingRow.inPlace == Tryz.pinned.checked.prog.inPlace 7) = true := by kernel_rfl
theorem fact10 : (Rows.msgcacheNothingRow.unfollowed == Tryz.pinned.checked.prog.unfollowed 7) = true := by kernel_rfl
theorem fact11 : (Rows.msgcacheNothingRow.recurses == Tryz.pinned.checked.prog.recurses 7) = true := by kernel_rfl
theorem fact12 : (Rows.msgcacheNothingRow.named == Tryz.pinned.checked.prog.varsNamed 7) = true := by kernel_rfl
theorem fact13 : (Rows.msgcacheNothingRow.maps == (Tryz.f7.params.toList ++ (OpenSpec.ofChange Rows.msgcacheNothingSpec).bare.plain.varTypes Tryz.pinned.checked.prog).any (Tryz.pinned.checked.prog.mapsRec ·)) = true := by kernel_rfl
theorem fact14 : (Rows.msgcacheNothingRow.ifaces == (Tryz.f7.params.toList ++ (OpenSpec.ofChange Rows.msgcacheNothingSpec).bare.plain.varTypes Tryz.pinned.checked.prog).any (Tryz.pinned.checked.prog.ifacesRec ·)) = true := by kernel_rfl
theorem fact15 : (Rows.msgcacheNothingRow.mapsOut == Tryz.pinned.checked.prog.mapsAmong Tryz.f7.resultTypes.toList) = true := by kernel_rfl
theorem fact16 : (Rows.msgcacheNothingRow.loops == (Tryz.f7.params.toList ++ (OpenSpec.ofChange Rows.msgcacheNothingSpec).bare.plain.varTypes Tryz.pinned.checked.prog).any (Tryz.pinned.checked.prog.loopsFrom ·)) = true := by kernel_rfl
theorem fact17 : (Rows.msgcacheNothingRow.wideKeys == (Tryz.f7.params.toList ++ (OpenSpec.ofChange Rows.msgcacheNothingSpec).bare.plain.varTypes Tryz.pinned.checked.prog ++ Tryz.f7.resultTypes.toList).any (Tryz.pinned.checked.prog.wideKeysFrom ·)) = true := by kernel_rfl
theorem fact18 : ((OpenSpec.ofChange Rows.msgcacheNothingSpec).bare.vars.all (Tryz.pinned.checked.prog.varReadable ·)) = true := by kernel_rfl
theorem fact19 : (Tryz.f7.resultTypes.all (fun t => Tryz.pinned.checked.prog.readableRec t && decide (t < Tryz.pinned.checked.prog.types.size))) = true := by kernel_rfl
theorem fact20 : (Rows.msgcacheNothingRow.ifacesOut == Tryz.f7.resultTypes.toList.any (Tryz.pinned.checked.prog.ifacesRec ·)) = true := by kernel_rfl
theorem fact21 : (Rows.msgcacheNothingRow.loopsOut == Tryz.f7.resultTypes.toList.any (Tryz.pinned.checked.prog.loopsFrom ·)) = true := by kernel_rfl
theorem fact22 : (Rows.msgcacheNothingRow.plainKeys == Tryz.pinned.checked.prog.plainKeys) = true := by kernel_rfl
theorem fact23 : (Rows.msgcacheNothingRow.shortTexts.isNone) = true := by kernel_rfl
theorem fact24 : (Tryz.pinned.checked.prog.stopsHeard) = true := by kernel_rfl
theorem fact25 : (Tryz.pinned.checked.prog.mayEnter) = true := by kernel_rfl
theorem fact26 : (Rows.msgcacheNothingRow.lifted == Tryz.pinned.checked.prog.liftsFinal) = true := by kernel_rfl
theorem fact27 : (Tryz.pinned.checked.prog.make == some Rows.msgcacheNothingRow.make) = true := by kernel_rfl
theorem fact28 : (Rows.msgcacheNothingRow.kinds == (if Rows.msgcacheNothingRow.domain.isEmpty then [] else Tryz.f7.params.toList.map fun t => match Tryz.pinned.checked.prog.underlying t with | some (.int k) => some k | _ => none)) = true := by kernel_rfl
theorem fact29 : (Rows.msgcacheNothingRow.pinned == Rows.msgcacheNothingRow.pinnedBy) = true := by kernel_rfl
theorem fact30 : (Rows.msgcacheNothingRow.veiled == (Tryz.f7.params.toList ++ (OpenSpec.ofChange Rows.msgcacheNothingSpec).bare.plain.varTypes Tryz.pinned.checked.prog ++ Tryz.f7.resultTypes.toList).any (Tryz.pinned.checked.prog.veiledRec ·)) = true := by kernel_rfl
theorem fact31 : (Rows.msgcacheNothingRow.veiledFits Tryz.pinned.checked.prog Tryz.f7.params.toList (Tryz.f7.params.toList ++ (OpenSpec.ofChange Rows.msgcacheNothingSpec).bare.plain.varTypes Tryz.pinned.checked.prog ++ Tryz.f7.resultTypes.toList)) = true := by kernel_rfl
end msgcacheNothing
end Go.Proofs.YtikjepodmdaknaaGreatDoor
