/- Texts of this proof, joined: McFactApart. -/
import Derived.ProofKit
import Derived.JoinedCond
import Derived.Test.YtikjepodmdaknaaGreatDoorTie
import Derived.Test.YtikjepodmdaknaaGreatDoorCards
import Derived.Test.YtikjepodmdaknaaGreatDoorJ36
set_option linter.unusedVariables false
set_option linter.unusedSimpArgs false
/- Layer 17: what a machine can see of MsgcacheApart' row. -/
namespace Go.Proofs.YtikjepodmdaknaaGreatDoor
open Go.RowKit
namespace msgcacheApart
theorem and2 {a b : Bool} (ha : a = true) (hb : b = true) : (a && b) = true := by rw [ha, hb]; rfl
theorem fact0 : (Rows.msgcacheApartRow.wf (OpenSpec.ofChange (OpenSpec.ofChange Rows.msgcacheApartSpec).bare)) = true := by kernel_rfl
theorem fact1 : (laidOutB Tryz.pinned.checked.prog) = true := by kernel_rfl
theorem fact2 : (mapsRowed Tryz.pinned.checked.prog) = true := by kernel_rfl
theorem fact3 : (Tryz.f6.params.all (Tryz.pinned.checked.prog.readableRec ·)) = true := by kernel_rfl
theorem fact4 : (namedTie Tryz.pinned.checked.prog Rows.msgcacheApartRow.named (OpenSpec.ofChange Rows.msgcacheApartSpec).bare.vars) = true := by kernel_rfl
theorem fact5 : (Rows.msgcacheApartRow.stops == []) = true := by kernel_rfl
theorem fact6 : (Tryz.pinned.checked.prog.stops == []) = true := by kernel_rfl
theorem fact7 : (Rows.msgcacheApartRow.knobs == []) = true := by kernel_rfl
theorem fact8 : (Tryz.pinned.checked.prog.stopKnobs == []) = true := by kernel_rfl
theorem fact9 : (Rows.msgcacheApartRow.inPlace == Tryz.pinned.checked.prog.inPlace 6) = true := by kernel_rfl
theorem fact10 : (Rows.msgcacheApartRow.unfollowed == Tryz.pinned.checked.prog.unfollowed 6) = true := by kernel_rfl
theorem fact11 : (Rows.msgcacheApartRow.recurses == Tryz.pinned.checked.prog.recurses 6) = true := by kernel_rfl
theorem fact12 : (Rows.msgcacheApartRow.named == Tryz.pinned.checked.prog.varsNamed 6) = true := by kernel_rfl
theorem fact13 : (Rows.msgcacheApartRow.maps == (Tryz.f6.params.toList ++ (OpenSpec.ofChange Rows.msgcacheApartSpec).bare.plain.varTypes Tryz.pinned.checked.prog).any (Tryz.pinned.checked.prog.mapsRec ·)) = true := by kernel_rfl
theorem fact14 : (Rows.msgcacheApartRow.ifaces == (Tryz.f6.params.toList ++ (OpenSpec.ofChange Rows.msgcacheApartSpec).bare.plain.varTypes Tryz.pinned.checked.prog).any (Tryz.pinned.checked.prog.ifacesRec ·)) = true := by kernel_rfl
theorem fact15 : (Rows.msgcacheApartRow.mapsOut == Tryz.pinned.checked.prog.mapsAmong Tryz.f6.resultTypes.toList) = true := by kernel_rfl
theorem fact16 : (Rows.msgcacheApartRow.loops == (Tryz.f6.params.toList ++ (OpenSpec.ofChange Rows.msgcacheApartSpec).bare.plain.varTypes Tryz.pinned.checked.prog).any (Tryz.pinned.checked.prog.loopsFrom ·)) = true := by kernel_rfl
theorem fact17 : (Rows.msgcacheApartRow.wideKeys == (Tryz.f6.params.toList ++ (OpenSpec.ofChange Rows.msgcacheApartSpec).bare.plain.varTypes Tryz.pinned.checked.prog ++ Tryz.f6.resultTypes.toList).any (Tryz.pinned.checked.prog.wideKeysFrom ·)) = true := by kernel_rfl
theorem fact18 : ((OpenSpec.ofChange Rows.msgcacheApartSpec).bare.vars.all (Tryz.pinned.checked.prog.varReadable ·)) = true := by kernel_rfl
theorem fact19 : (Tryz.f6.resultTypes.all (fun t => Tryz.pinned.checked.prog.readableRec t && decide (t < Tryz.pinned.checked.prog.types.size))) = true := by kernel_rfl
theorem fact20 : (Rows.msgcacheApartRow.ifacesOut == Tryz.f6.resultTypes.toList.any (Tryz.pinned.checked.prog.ifacesRec ·)) = true := by kernel_rfl
theorem fact21 : (Rows.msgcacheApartRow.loopsOut == Tryz.f6.resultTypes.toList.any (Tryz.pinned.checked.prog.loopsFrom ·)) = true := by kernel_rfl
theorem fact22 : (Rows.msgcacheApartRow.plainKeys == Tryz.pinned.checked.prog.plainKeys) = true := by kernel_rfl
theorem fact23 : (Rows.msgcacheApartRow.shortTexts.isNone) = true := by kernel_rfl
theorem fact24 : (Tryz.pinned.checked.prog.stopsHeard) = true := by kernel_rfl
theorem fact25 : (Tryz.pinned.checked.prog.mayEnter) = true := by kernel_rfl
theorem fact26 : (Rows.msgcacheApartRow.lifted == Tryz.pinned.checked.prog.liftsFinal) = true := by kernel_rfl
theorem fact27 : (Tryz.pinned.checked.prog.make == some Rows.msgcacheApartRow.make) = true := by kernel_rfl
theorem fact28 : (Rows.msgcacheApartRow.kinds == (if Rows.msgcacheApartRow.domain.isEmpty then [] else Tryz.f6.params.toList.map fun t => match Tryz.pinned.checked.prog.underlying t with | some (.int k) => some k | _ => none)) = true := by kernel_rfl
theorem fact29 : (Rows.msgcacheApartRow.pinned == Rows.msgcacheApartRow.pinnedBy) = true := by kernel_rfl
theorem fact30 : (Rows.msgcacheApartRow.veiled == (Tryz.f6.params.toList ++ (OpenSpec.ofChange Rows.msgcacheApartSpec).bare.plain.varTypes Tryz.pinned.checked.prog ++ Tryz.f6.resultTypes.toList).any (Tryz.pinned.checked.prog.veiledRec ·)) = true := by kernel_rfl
theorem fact31 : (Rows.msgcacheApartRow.veiledFits Tryz.pinned.checked.prog Tryz.f6.params.toList (Tryz.f6.params.toList ++ (OpenSpec.ofChange Rows.msgcacheApartSpec).bare.plain.varTypes Tryz.pinned.checked.prog ++ Tryz.f6.resultTypes.toList)) = true := by kernel_rfl
end msgcacheApart
end Go.Proofs.YtikjepodmdaknaaGreatDoor
