/- examples() holds. -/
import Derived.Test.YtkohkkakbcjgcabGreatDoorDExam
namespace Go.Proofs.YtkohkkakbcjgcabGreatDoor
set_option linter.unusedVariables false
open Go.RowKit

set_option maxRecDepth 100000 in
set_option maxHeartbeats 2000000 in
theorem examples_in (W : World) (hG : Glob W) : Calls Tryz.prog 8 #[] W fun e w' => e = .returned (.bool true) ∧ Below W.heap.size W w' := by
  go_enter Tryz.func8, Tryz.ntmps8
  go_wp2_with fail
  refine (ex_A1 W hG).mono ?_
  rintro e w1 ⟨rfl, hb1⟩
  have hG1 := hG.below hb1
  go_wp2_with fail
  refine (ex_A2 w1 hG1).mono ?_
  rintro e w2 ⟨rfl, hb2⟩
  have hG2 := hG1.below hb2
  have k2 : Below W.heap.size W w2 := bth hb1 hb2 hb1.size
  go_wp2_with fail
  refine (ex_T70 w2 hG2).mono ?_
  rintro e w3 ⟨rfl, hb3⟩
  have hG3 := hG2.below hb3
  have k3 : Below W.heap.size W w3 := bth k2 hb3 k2.size
  go_wp2_with fail
  refine (ex_Txt w3 hG3).mono ?_
  rintro e w4 ⟨rfl, hb4⟩
  have hG4 := hG3.below hb4
  have k4 : Below W.heap.size W w4 := bth k3 hb4 k3.size
  go_wp2_with fail
  refine (ex_Of70 w4 hG4).mono ?_
  rintro e w5 ⟨rfl, hb5⟩
  have hG5 := hG4.below hb5
  have k5 : Below W.heap.size W w5 := bth k4 hb5 k4.size
  go_wp2_with fail
  refine (ex_Of1 w5 hG5).mono ?_
  rintro e w6 ⟨rfl, hb6⟩
  have k6 : Below W.heap.size W w6 := bth k5 hb6 k5.size
  go_wp2_with fail
  refine (ex_R1 w6).mono ?_
  rintro e w7 ⟨rfl, hb7⟩
  have k7 : Below W.heap.size W w7 := bth k6 hb7 k6.size
  go_wp2_with fail
  refine (ex_R2 w7).mono ?_
  rintro e w8 ⟨rfl, hb8⟩
  have k8 : Below W.heap.size W w8 := bth k7 hb8 k7.size
  go_wp2
  go_ret
  exact ⟨rfl, k8⟩
end Go.Proofs.YtkohkkakbcjgcabGreatDoor
