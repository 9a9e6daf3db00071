/- Layer 11: the chapter's examples. -/
import Derived.Test.YtcebljcofkohiaaTbKvOps
namespace Go.Proofs.Ytcebljcofkohiaa
set_option linter.unusedVariables false
open Go.RowKit
open Go.MapKept Go.WideMaps

abbrev kA : ByteArray := ⟨#[97]⟩
abbrev kB : ByteArray := ⟨#[98]⟩
abbrev kC : ByteArray := ⟨#[99]⟩
theorem x1 : putR 2 [] kA 1 = [(kA, 1)] := by decide
theorem x2 : putR 2 [(kA, 1)] kB 2 = [(kB, 2), (kA, 1)] := by decide
theorem x3 : getR [(kB, 2), (kA, 1)] kA = some 1 := by decide
theorem x4 : (kA, (1 : Int)) :: without [(kB, 2), (kA, 1)] kA = [(kA, 1), (kB, 2)] := by decide
theorem x5 : putR 2 [(kA, 1), (kB, 2)] kC 3 = [(kC, 3), (kA, 1)] := by decide
theorem x6 : putG 2 [(kA, 1), (kB, 2)] kC = some kB := by decide
theorem x7 : getR [(kC, 3), (kA, 1)] kA = some 1 := by decide
theorem x8 : without [(kC, 3), (kA, 1)] kA = [(kC, 3)] := by decide
theorem x9 : getR [(kC, 3)] kA = none := by decide
theorem x10 : without [(kC, 3)] kA = [(kC, 3)] := by decide

set_option maxRecDepth 100000 in
set_option maxHeartbeats 2000000 in
theorem examples_in (w : World) : Calls Try.prog 6 #[] w fun e w' => e = .returned (.bool true) ∧ Below w.heap.size w w' := by
  have hsz : ∀ x : UInt8, (⟨#[x]⟩ : ByteArray).size ≤ maxLen := fun x => by show 1 ≤ maxLen; unfold maxLen; omega
  have hmx : ∀ n, n < 100 → n < maxLen := fun n h => by unfold maxLen; omega
  go_enter Try.func6, Try.ntmps6
  go_wp2_with fail
  refine (new_kv w 2 (by decide) (by decide)).mono ?_
  rintro e w1 ⟨rfl, t1, b1⟩
  obtain ⟨T, hT⟩ : ∃ T, w.heap.size + 3 = T := ⟨_, rfl⟩
  rw [hT] at t1 ⊢
  clear hT
  go_wp2_with fail
  refine (new_no w1 0 (.inl (by decide))).mono ?_
  rintro e w2 ⟨rfl, rfl⟩
  have H3 := Hid.mk (put_kv (m := 2) t1 kA 1 (by decide) (by decide) (by decide) (hsz _) (hmx _ (by omega)))
  clear t1
  go_wp2_with fail
  refine H3.out.mono ?_
  rintro e w3 ⟨rfl, t3, -⟩
  rw [x1] at t3
  have H4 := Hid.mk (put_kv (m := 2) t3 kB 2 (by decide) (by decide) (by decide) (hsz _) (hmx _ (by omega)))
  clear t3
  go_wp2_with fail
  refine H4.out.mono ?_
  rintro e w4 ⟨rfl, t4, -⟩
  rw [x2] at t4
  have H5 := Hid.mk (get_kv t4 kA (hsz _))
  clear t4
  go_wp2_with fail
  refine H5.out.mono ?_
  rintro e w5 ⟨rfl, t5, -⟩
  rw [x3] at t5 ⊢
  replace t5 := (show TabK w w5 T 2 2 ((kA, (1 : Int)) :: without [(kB, 2), (kA, 1)] kA) from t5)
  rw [x4] at t5
  have H6 := Hid.mk (put_kv (m := 2) t5 kC 3 (by decide) (by decide) (by decide) (hsz _) (hmx _ (by omega)))
  clear t5
  simp only [Option.getD_some, Option.isSome_some]
  go_wp2_with fail
  refine H6.out.mono ?_
  rintro e w6 ⟨rfl, t6, -⟩
  rw [x6]
  rw [x5] at t6
  simp only [Option.getD_some, Option.isSome_some]
  have H7 := Hid.mk (keys_kv t6)
  go_wp2_with fail
  refine H7.out.mono ?_
  rintro e w7 ⟨⟨v, rfl, hrow⟩, b7⟩
  have t7 := t6.blk b7
  obtain ⟨g, cap, rfl, _, _, hce⟩ := row_cells hrow (by decide)
  have cc0 := hce 0 (.string kC) rfl
  have cc1 := hce 1 (.string kA) rfl
  clear hce hrow H7 t6
  have H8 := Hid.mk (drop_kv t7 kA (hsz _))
  clear t7
  go_wp2_with fail
  refine H8.out.mono ?_
  rintro e w8 ⟨rfl, t8, -⟩
  rw [x7]
  rw [x8] at t8
  simp only [Option.isSome_some]
  have H9 := Hid.mk (drop_kv t8 kA (hsz _))
  clear t8
  go_wp2_with fail
  refine H9.out.mono ?_
  rintro e w9 ⟨rfl, t9, -⟩
  rw [x9]
  rw [x10] at t9
  simp only [Option.isSome_none]
  have H10 := Hid.mk (len_kv t9)
  go_wp2_with fail
  refine H10.out.mono ?_
  rintro e w10 ⟨rfl, rfl⟩
  have HB := Hid.mk t9.bel
  clear t9
  go_wp2
  go_ret
  exact ⟨rfl, HB.out⟩

end Go.Proofs.Ytcebljcofkohiaa
