/- Texts of this proof, joined: McFactUntil. -/
import Derived.ProofKit
import Derived.JoinedCond
import Derived.Test.YtikjepodmdaknaaGreatDoorTie
import Derived.Test.YtikjepodmdaknaaGreatDoorCards
import Derived.Test.YtikjepodmdaknaaGreatDoorJ35
set_option linter.unusedVariables false
set_option linter.unusedSimpArgs false
/- Layer 17: what a machine can see of MsgcacheUntil' row. -/
namespace Go.Proofs.YtikjepodmdaknaaGreatDoor
open Go.RowKit
namespace msgcacheUntil
theorem and2 {a b : Bool} (ha : a = true) (hb : b = true) : (a && b) = true := by rw [ha, hb]; rfl
theorem fact0 : (Rows.msgcacheUntilRow.wf (OpenSpec.ofChange (OpenSpec.ofChange Rows.msgcacheUntilSpec).bare)) = true := by kernel_rfl
theorem fact1 : (laidOutB Tryz.pinned.checked.prog) = true := by kernel_rfl
theorem fact2 : (mapsRowed Tryz.pinned.checked.prog) = true := by kernel_rfl
theorem fact3 : (Tryz.f8.params.all (Tryz.pinned.checked.prog.readableRec ·)) = true := by kernel_rfl
theorem fact4 : (namedTie Tryz.pinned.checked.prog Rows.msgcacheUntilRow.named (OpenSpec.ofChange Rows.msgcacheUntilSpec).bare.vars) = true := by kernel_rfl
theorem fact5 : (Rows.msgcacheUntilRow.stops == []) = true := by kernel_rfl
theorem fact6 : (Tryz.pinned.checked.prog.stops == []) = true := by kernel_rfl
theorem fact7 : (Rows.msgcacheUntilRow.knobs == []) = true := by kernel_rfl
theorem fact8 : (Tryz.pinned.checked.prog.stopKnobs == []) = true := by kernel_rfl
theorem fact9 : (Rows.msgcacheUntilRow.inPlace == Tryz.pinned.checked.prog.inPlace 8) = true := by kernel_rfl
theorem fact10 : (Rows.msgcacheUntilRow.unfollowed == Tryz.pinned.checked.prog.unfollowed 8) = true := by kernel_rfl
theorem fact11 : (Rows.msgcacheUntilRow.recurses == Tryz.pinned.checked.prog.recurses 8) = true := by kernel_rfl
theorem fact12 : (Rows.msgcacheUntilRow.named == Tryz.pinned.checked.prog.varsNamed 8) = true := by kernel_rfl
theorem fact13 : (Rows.msgcacheUntilRow.maps == (Tryz.f8.params.toList ++ (OpenSpec.ofChange Rows.msgcacheUntilSpec).bare.plain.varTypes Tryz.pinned.checked.prog).any (Tryz.pinned.checked.prog.mapsRec ·)) = true := by kernel_rfl
theorem fact14 : (Rows.msgcacheUntilRow.ifaces == (Tryz.f8.params.toList ++ (OpenSpec.ofChange Rows.msgcacheUntilSpec).bare.plain.varTypes Tryz.pinned.checked.prog).any (Tryz.pinned.checked.prog.ifacesRec ·)) = true := by kernel_rfl
theorem fact15 : (Rows.msgcacheUntilRow.mapsOut == Tryz.pinned.checked.prog.mapsAmong Tryz.f8.resultTypes.toList) = true := by kernel_rfl
theorem fact16 : (Rows.msgcacheUntilRow.loops == (Tryz.f8.params.toList ++ (OpenSpec.ofChange Rows.msgcacheUntilSpec).bare.plain.varTypes Tryz.pinned.checked.prog).any (Tryz.pinned.checked.prog.loopsFrom ·)) = true := by kernel_rfl
theorem fact17 : (Rows.msgcacheUntilRow.wideKeys == (Tryz.f8.params.toList ++ (OpenSpec.ofChange Rows.msgcacheUntilSpec).bare.plain.varTypes Tryz.pinned.checked.prog ++ Tryz.f8.resultTypes.toList).any (Tryz.pinned.checked.prog.wideKeysFrom ·)) = true := by kernel_rfl
theorem fact18 : ((OpenSpec.ofChange Rows.msgcacheUntilSpec).bare.vars.all (Tryz.pinned.checked.prog.varReadable ·)) = true := by kernel_rfl
theorem fact19 : (Tryz.f8.resultTypes.all (fun t => Tryz.pinned.checked.prog.readableRec t && decide (t < Tryz.pinned.checked.prog.types.size))) = true := by kernel_rfl
theorem fact20 : (Rows.msgcacheUntilRow.ifacesOut == Tryz.f8.resultTypes.toList.any (Tryz.pinned.checked.prog.ifacesRec ·)) = true := by kernel_rfl
theorem fact21 : (Rows.msgcacheUntilRow.loopsOut == Tryz.f8.resultTypes.toList.any (Tryz.pinned.checked.prog.loopsFrom ·)) = true := by kernel_rfl
theorem fact22 : (Rows.msgcacheUntilRow.plainKeys == Tryz.pinned.checked.prog.plainKeys) = true := by kernel_rfl
theorem fact23 : (Rows.msgcacheUntilRow.shortTexts.isNone) = true := by kernel_rfl
theorem fact24 : (Tryz.pinned.checked.prog.stopsHeard) = true := by kernel_rfl
theorem fact25 : (Tryz.pinned.checked.prog.mayEnter) = true := by kernel_rfl
theorem fact26 : (Rows.msgcacheUntilRow.lifted == Tryz.pinned.checked.prog.liftsFinal) = true := by kernel_rfl
theorem fact27 : (Tryz.pinned.checked.prog.make == some Rows.msgcacheUntilRow.make) = true := by kernel_rfl
theorem fact28 : (Rows.msgcacheUntilRow.kinds == (if Rows.msgcacheUntilRow.domain.isEmpty then [] else Tryz.f8.params.toList.map fun t => match Tryz.pinned.checked.prog.underlying t with | some (.int k) => some k | _ => none)) = true := by kernel_rfl
theorem fact29 : (Rows.msgcacheUntilRow.pinned == Rows.msgcacheUntilRow.pinnedBy) = true := by kernel_rfl
theorem fact30 : (Rows.msgcacheUntilRow.veiled == (Tryz.f8.params.toList ++ (OpenSpec.ofChange Rows.msgcacheUntilSpec).bare.plain.varTypes Tryz.pinned.checked.prog ++ Tryz.f8.resultTypes.toList).any (Tryz.pinned.checked.prog.veiledRec ·)) = true := by kernel_rfl
theorem fact31 : (Rows.msgcacheUntilRow.veiledFits Tryz.pinned.checked.prog Tryz.f8.params.toList (Tryz.f8.params.toList ++ (OpenSpec.ofChange Rows.msgcacheUntilSpec).bare.plain.varTypes Tryz.pinned.checked.prog ++ Tryz.f8.resultTypes.toList)) = true := by kernel_rfl
end msgcacheUntil
end Go.Proofs.YtikjepodmdaknaaGreatDoor
