/- DataSmall answers true for every type and all data (of a length that an argument may have): small letters in names change neither the length, nor whether data are right, nor how many names they have, and once more changes nothing; on condition that the package variables which the row lists hold what their texts lay (the card ties them). -/
import Derived.WalkKit
import Derived.ProofKit
import Derived.Test.YtkohkkakbcjgcabGreatDoorDWorld
import Derived.Test.YtkohkkakbcjgcabGreatDoorDLower2
import Derived.Test.YtkohkkakbcjgcabGreatDoorDExamples
namespace Go.Proofs.YtkohkkakbcjgcabGreatDoor
set_option linter.unusedVariables false
open Go.RowKit

set_option maxRecDepth 100000 in
set_option maxHeartbeats 2000000 in
theorem small_walk (k : Int) (_hk : (Lit.int .i64 k).wf = true) (d : ByteArray) (hd : d.size ≤ maxLen) (W : World) (hG : Glob W) :
    Calls Tryz.prog 5 #[.int .i64 k, .string d] W fun e w' => e = .returned (.bool true) ∧ Below W.heap.size W w' := by
  have hz : (lowR k d).size = d.size := lowR_size k d
  have HL1 := Hid.mk (lower_in k d hd)
  have HL2 := Hid.mk (lower_in k (lowR k d) (by rw [hz]; exact hd))
  rw [lowR_twice] at HL2
  have HR1 := Hid.mk (right_all k (lowR k d) (by rw [hz]; exact hd))
  have HR2 := Hid.mk (right_all k d hd)
  rw [lowR_right] at HR1
  have HN1 := Hid.mk (names_in k (lowR k d) (by rw [hz]; exact hd))
  have HN2 := Hid.mk (names_in k d hd)
  have HLN := Hid.mk (lowR_names k d)
  generalize lowR k d = l at hz HL1 HL2 HR1 HN1 HLN
  generalize (splitR k d).isSome = rt at HR1 HR2
  generalize namesR k l = n1 at HN1 HLN
  generalize namesR k d = n2 at HN2 HLN
  have HZ := Hid.mk hz
  clear hz
  have hself : (l.toList == l.toList) = true := by simp
  have hrt : (rt == rt) = true := by simp
  have hzz : ((l.size : Int) == (d.size : Int)) = true := by rw [HZ.out]; simp
  go_enter Tryz.func5, Tryz.ntmps5
  go_wp2_with fail
  refine (examples_in W hG).mono ?_
  rintro e w1 ⟨rfl, hb1⟩
  go_wp2_with fail
  refine (HL1.out _).mono ?_
  rintro e w2 ⟨rfl, hb2⟩
  have k2 : Below W.heap.size W w2 := bth hb1 hb2 hb1.size
  go_wp2_with fail
  refine (HL2.out _).mono ?_
  rintro e w3 ⟨rfl, hb3⟩
  have k3 : Below W.heap.size W w3 := bth k2 hb3 k2.size
  go_wp2_with fail
  refine (HR1.out _).mono ?_
  rintro e w4 ⟨rfl, hb4⟩
  have k4 : Below W.heap.size W w4 := bth k3 hb4 k3.size
  go_wp2_with fail
  refine (HR2.out _).mono ?_
  rintro e w5 ⟨rfl, hb5⟩
  have k5 : Below W.heap.size W w5 := bth k4 hb5 k4.size
  go_wp2_with fail
  refine (HN1.out _).mono ?_
  rintro e w6 ⟨⟨v6, rfl, hv6⟩, hb6⟩
  obtain ⟨q6, c6, hq6⟩ := row_as hv6
  subst hq6
  have k6 : Below W.heap.size W w6 := bth k5 hb6 k5.size
  go_wp2_with fail
  refine (HN2.out _).mono ?_
  rintro e w7 ⟨⟨v7, rfl, hv7⟩, hb7⟩
  obtain ⟨q7, c7, hq7⟩ := row_as hv7
  subst hq7
  have k7 : Below W.heap.size W w7 := bth k6 hb7 k6.size
  have hnn : ((n1.length : Int) == (n2.length : Int)) = true := by rw [HLN.out]; simp
  go_wp2
  go_ret
  exact ⟨rfl, k7⟩

namespace dataSmall
open Go.ChangeShapes Go.WideShapes Go.ChangeAt Go.RowKit
open Go.ChangeMaps (open_string shut_string)

theorem own : ownKnob Tryz.prog.godebug = none := by kernel_rfl
theorem laid_met (os : Os) : laidMet Tryz.prog Rows.dataSmallRow.laid ((laidWorld os).forCall (fun _ _ => 0) ⟨#[], #[.int .i64 0, .string ByteArray.empty], []⟩).memory :=
  laidMet_of_run' 8 (by kernel_rfl) (by kernel_rfl)
theorem reads (os : Os) {H : Type} (enc : TypeId × Value → H) : ∃ places, DataW.whole enc Tryz.prog ((laidWorld os).forCall (fun _ _ => 0) ⟨#[], #[.int .i64 0, .string ByteArray.empty], []⟩).memory Tryz.f5.params.toList Rows.dataSmallSpec.vars false #[Value.int .i64 0, .string ByteArray.empty].toList 8 = some ([.lit (.int .i64 0), .lit (.string [])], [], places) :=
  ⟨[], by kernel_rfl⟩

theorem plainH {W : World} (h : laidMetH Tryz.prog Rows.dataSmallRow.laid W) : laidMet Tryz.prog Rows.dataSmallRow.laid W := by
  unfold laidMetH at h
  rw [show (Rows.dataSmallRow.laid.filter fun x => x.2.handleName?.isSome) = [] by kernel_rfl] at h
  exact h
theorem globs {W : World} (h : laidMetH Tryz.prog Rows.dataSmallRow.laid W) (hs : W.ShapedOpen Tryz.prog) : Glob W :=
  glob_of (plainH h) hs (by simp [Rows.dataSmallRow]) (by simp [Rows.dataSmallRow])

set_option maxRecDepth 100000 in
theorem contract (H : Type) (enc : TypeId × Value → H) (W : World) (base : Nat) (args : Array Value) (ds gs : List (DataW H)) (before : List MemPlace)
    (hval : ∀ (j : Nat) t v, Tryz.f5.params[j]? = some t → args[j]? = some v → Value.okWide Tryz.prog W .any base t v)
    (hW : DataW.Whole enc Tryz.prog Tryz.f5.params.toList Rows.dataSmallSpec.vars false W args.toList ds gs before) (hG : Glob W) :
    Calls Tryz.prog 5 args W fun e W' => ∃ v, e = .returned v ∧ Rows.dataSmallSpec.post enc Tryz.prog Tryz.f5 false true false false W args v W' := by
  have hW' := hW
  obtain ⟨p, q, hA0, hV, rfl, hfz, hnd⟩ := hW
  have hA : DataW.TrodAll enc Tryz.prog W 0 (fun _ => true) true Tryz.f5.params.toList args.toList ds p := hA0
  rw [Tryz.params5] at hA hval
  obtain ⟨v0, vs0, d0, ds0, p0, q0, hargs, rfl, rfl, h0, r0⟩ := trodAll_cons hA
  obtain ⟨v1, vs1, d1, ds1, p1, q1, rfl, rfl, rfl, h1, r1⟩ := trodAll_cons r0
  obtain ⟨rfl, rfl, rfl⟩ := trodAll_nil r1
  obtain rfl : args = #[v0, v1] := by cases args; simp_all
  obtain ⟨rfl, rfl⟩ := trodVars_none hV
  obtain ⟨a0, rfl, rfl, rfl, w0⟩ := open_int Tryz.underlying3 (hval 0 3 v0 rfl rfl) h0
  obtain ⟨a1, rfl, rfl, rfl, w1⟩ := open_string Tryz.underlying9 (hval 1 9 v1 rfl rfl) h1
  clear hA0
  simp only [List.append_nil] at hW'
  refine (small_walk a0 w0 a1 w1 W hG).mono fun e W' ⟨he, bel⟩ => ?_
  subst he
  exact ⟨_, rfl, _, _, _, [], [], [], hW', trodAll_mk1 (shut_bool Tryz.underlying4 _), (trodAll_cons_mk (shut_int Tryz.underlying3 w0) (trodAll_cons_mk (shut_string Tryz.underlying9 w1) trodAll_mk0)), rfl, bel.frame _, fun h => by cases h⟩

set_option maxRecDepth 100000 in
theorem lifted (os : Os) (started : os.Started) (H : Type) (enc : TypeId × Value → H) (F : Stop.Interp) :
    ReturnsInHanded {} Tryz.checked os 5 .any ((OpenSpec.ofChange Rows.dataSmallSpec).preRow enc Tryz.prog Tryz.f5 Rows.dataSmallRow.domain false Rows.dataSmallRow.laid) (((OpenSpec.ofChange Rows.dataSmallSpec).at F).post enc Tryz.prog Tryz.f5 false true false false) := by
  obtain ⟨places, hx⟩ := reads os enc
  refine returnsInHanded_of_row (C := Tryz.checked) (s := OpenSpec.ofChange Rows.dataSmallSpec) own started (by kernel_rfl) Tryz.func5
    (witness_row_at (enc := enc) (C := Tryz.checked) false (laidWorld os) #[.int .i64 0, .string ByteArray.empty] rfl (by kernel_rfl) (by kernel_rfl) (by kernel_rfl)
      (OpenSpec.preRow_of_cond 8 hx (by kernel_rfl) (fun k hk => by cases hk) (by kernel_rfl) (laid_met os))) ?_
  intro W base args ds gs before hval hW _ _ _ hL hS _
  exact contract H enc W base args ds gs before hval hW (globs hL hS)

theorem said : Rows.DataSmallSaid :=
  OpenClaim.holds_of_cond 5 Tryz.f5 rfl rfl rfl rfl rfl rfl rfl ⟨rfl, rfl, rfl, rfl, rfl⟩ rfl rfl rfl rfl rfl (by kernel_rfl) Tryz.func5 (by kernel_rfl)
    (of_decide_eq_true (by kernel_rfl)) (by unfold Func.isWrapper; first | (rw [if_pos (by decide +kernel)]; kernel_rfl) | (rw [if_neg (by decide +kernel)]; exact ⟨rfl, rfl⟩))
    (fun os started H enc _ F => by rw [OpenClaim.pre_eq_preRow]; exact lifted os started H enc F)

set_option maxRecDepth 100000 in
theorem plain (f : FuncId) (fn : Func) (hf : Tryz.pinned.checked.prog.funcNamed "guidepost/guidepostlaw02.DataSmall" = some f) (hfn : Tryz.pinned.checked.prog.funcs[f]? = some fn) :
    true = Tryz.pinned.checked.prog.looks [] ∧ ∀ (j : Nat) t, fn.params[j]? = some t → Tryz.pinned.checked.prog.wantsStandIn t = false := by
  obtain rfl : f = 5 := Option.some.inj ((show Tryz.prog.funcNamed "guidepost/guidepostlaw02.DataSmall" = some 5 by kernel_rfl).symm.trans hf) |>.symm
  obtain rfl : fn = Tryz.f5 := (Option.some.inj (Tryz.func5.symm.trans hfn)).symm
  refine ⟨by kernel_rfl, fun j t ht => ?_⟩
  rw [Tryz.params5] at ht
  have hm := Array.mem_of_getElem? ht
  simp at hm
  rcases hm with rfl | rfl
  · exact (show Tryz.prog.wantsStandIn 3 = false by kernel_rfl)
  · exact (show Tryz.prog.wantsStandIn 9 = false by kernel_rfl)

theorem card : Rows.DataSmallCardSaid :=
  Claim7.holds_tied_plain_at .later [] _ _ _ _ said (fun _ h => by cases h) (by kernel_rfl) (fun _ h => by cases h) dataSmall_row_tie rfl ⟨rfl, rfl⟩ (by kernel_rfl) rfl plain (by kernel_rfl)
end dataSmall

theorem dataSmall_holds : Rows.DataSmallCardSaid := dataSmall.card

end Go.Proofs.YtkohkkakbcjgcabGreatDoor
