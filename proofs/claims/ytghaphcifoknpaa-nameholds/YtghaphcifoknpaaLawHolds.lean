/- NameHolds returns true for every two texts: what name says of two texts is what the document says. No conditions. -/
import Derived.ProofKit
import Derived.OpenShut
import Derived.ShutString
import Derived.Test.YtghaphcifoknpaaExamples
import Derived.Test.YtghaphcifoknpaaOrder
import Derived.Test.YtghaphcifoknpaaRefCommon
import Derived.Test.YtghaphcifoknpaaRefCmp
namespace Go.Proofs.Ytghaphcifoknpaa
set_option linter.unusedVariables false
open Go.RowKit

theorem same_equal (s t : ByteArray) (hs : s.size ≤ maxLen) (ht : t.size ≤ maxLen) : ∃ r : Bool,
    (∀ w, Calls Try.prog 28 #[.string s, .string t] w fun e w' => e = .returned (.bool r) ∧ Below w.heap.size w w') ∧
    (∀ w, Calls Try.prog 22 #[.string s, .string t] w fun e w' => e = .returned (.bool r) ∧ Below w.heap.size w w') := by
  by_cases h : IsName s ∧ IsName t
  · obtain ⟨⟨a, ha, rfl⟩, ⟨b, hb, rfl⟩⟩ := h
    exact ⟨_, equal_yes a b ha hb, rEqual_yes a b ha hb⟩
  · exact ⟨_, equal_no s t hs ht h, rEqual_no s t hs ht h⟩
theorem same_under (s t : ByteArray) (hs : s.size ≤ maxLen) (ht : t.size ≤ maxLen) : ∃ r : Bool,
    (∀ w, Calls Try.prog 29 #[.string s, .string t] w fun e w' => e = .returned (.bool r) ∧ Below w.heap.size w w') ∧
    (∀ w, Calls Try.prog 23 #[.string s, .string t] w fun e w' => e = .returned (.bool r) ∧ Below w.heap.size w w') := by
  by_cases h : IsName s ∧ IsName t
  · obtain ⟨⟨a, ha, rfl⟩, ⟨b, hb, rfl⟩⟩ := h
    exact ⟨_, under_yes a b ha hb, rUnder_yes a b ha hb⟩
  · exact ⟨_, under_no s t hs ht h, rUnder_no s t hs ht h⟩
theorem same_compare (s t : ByteArray) (hs : s.size ≤ maxLen) (ht : t.size ≤ maxLen) : ∃ r : Int,
    (∀ w, Calls Try.prog 30 #[.string s, .string t] w fun e w' => e = .returned (.int .i64 r) ∧ Below w.heap.size w w') ∧
    (∀ w, Calls Try.prog 31 #[.string s, .string t] w fun e w' => e = .returned (.int .i64 r) ∧ Below w.heap.size w w') := by
  by_cases hn : IsName s
  · by_cases hm : IsName t
    · obtain ⟨a, ha, rfl⟩ := hn
      obtain ⟨b, hb, rfl⟩ := hm
      exact ⟨_, compare_yes a b ha hb, rCompare_yes a b ha hb⟩
    · obtain ⟨a, ha, rfl⟩ := hn
      exact ⟨1, compare_no _ t hs ht (fun h => hm h.2) 1 (strays_left a ha t), rCompare_left a ha t ht hm⟩
  · by_cases hm : IsName t
    · obtain ⟨b, hb, rfl⟩ := hm
      exact ⟨-1, compare_no s _ hs ht (fun h => hn h.1) (-1) (strays_right s hs hn b hb), rCompare_right s hs hn b hb⟩
    · exact ⟨_, compare_no s t hs ht (fun h => hn h.1) _ (strays_both s t hs hn ht hm), rCompare_none s t hs hn ht hm⟩
theorem same_common (s t : ByteArray) (hs : s.size ≤ maxLen) (ht : t.size ≤ maxLen) : ∃ (c : ByteArray) (k : Int), IntKind.i64.wrap k = k ∧
    (∀ w, Calls Try.prog 24 #[.string s, .string t] w fun e w' => e = .returned (.tuple #[.string c, .int .i64 k]) ∧ Below w.heap.size w w') ∧
    (∀ w, Calls Try.prog 25 #[.string s, .string t] w fun e w' => e = .returned (.tuple #[.string c, .int .i64 k]) ∧ Below w.heap.size w w') := by
  by_cases h : IsName s ∧ IsName t
  · obtain ⟨⟨a, ha, rfl⟩, ⟨b, hb, rfl⟩⟩ := h
    exact ⟨_, 0, rfl, common_yes a b ha hb, rCommon_yes a b ha hb⟩
  · exact ⟨_, 2, rfl, common_no s t hs ht h, rCommon_no s t hs ht h⟩
theorem same_parent (s : ByteArray) (hs : s.size ≤ maxLen) : ∃ (c : ByteArray) (k : Int), IntKind.i64.wrap k = k ∧
    (∀ w, Calls Try.prog 26 #[.string s] w fun e w' => e = .returned (.tuple #[.string c, .int .i64 k]) ∧ Below w.heap.size w w') ∧
    (∀ w, Calls Try.prog 27 #[.string s] w fun e w' => e = .returned (.tuple #[.string c, .int .i64 k]) ∧ Below w.heap.size w w') := by
  by_cases h : IsName s
  · obtain ⟨a, ha, rfl⟩ := h
    cases a with
    | nil => exact ⟨_, 1, rfl, parent_root, rParent_root⟩
    | cons l ls => exact ⟨_, 0, rfl, parent_yes l ls ha, rParent_yes l ls ha⟩
  · exact ⟨_, 2, rfl, parent_no s hs h, rParent_no s hs h⟩

set_option maxRecDepth 100000 in
set_option maxHeartbeats 2000000 in
theorem holds_walk (s t : ByteArray) (hs : s.size ≤ maxLen) (ht : t.size ≤ maxLen) (w : World) :
    Calls Try.prog 5 #[.string s, .string t] w fun e w' => e = .returned (.bool true) ∧ Below w.heap.size w w' := by
  obtain ⟨r1, e1, e2⟩ := same_equal s t hs ht
  obtain ⟨r2, u1, u2⟩ := same_under s t hs ht
  obtain ⟨r3, c1, c2⟩ := same_compare s t hs ht
  obtain ⟨c, k, hk, m1, m2⟩ := same_common s t hs ht
  obtain ⟨d, j, hj, p1, p2⟩ := same_parent s hs
  have E1 := Hid.mk e1
  have E2 := Hid.mk e2
  have U1 := Hid.mk u1
  have U2 := Hid.mk u2
  have C1 := Hid.mk c1
  have C2 := Hid.mk c2
  have M1 := Hid.mk m1
  have M2 := Hid.mk m2
  have P1 := Hid.mk p1
  have P2 := Hid.mk p2
  clear e1 e2 u1 u2 c1 c2 m1 m2 p1 p2
  have b1 : (c.toList == c.toList) = true := by simp
  have b2 : (d.toList == d.toList) = true := by simp
  go_enter Try.func5, Try.ntmps5
  go_wp2_with fail
  refine (examples_in _).mono ?_
  rintro e w1 ⟨rfl, hb1⟩
  go_wp2_with fail
  refine (E2.out _).mono ?_
  rintro e w2 ⟨rfl, hb2⟩
  go_wp2_with fail
  refine (U2.out _).mono ?_
  rintro e w3 ⟨rfl, hb3⟩
  go_wp2_with fail
  refine (M1.out _).mono ?_
  rintro e w4 ⟨rfl, hb4⟩
  go_wp2_with fail
  refine (M2.out _).mono ?_
  rintro e w5 ⟨rfl, hb5⟩
  go_wp2_with fail
  refine (P1.out _).mono ?_
  rintro e w6 ⟨rfl, hb6⟩
  go_wp2_with fail
  refine (P2.out _).mono ?_
  rintro e w7 ⟨rfl, hb7⟩
  go_wp2_with fail
  refine (E1.out _).mono ?_
  rintro e w8 ⟨rfl, hb8⟩
  go_wp2_with fail
  refine (U1.out _).mono ?_
  rintro e w9 ⟨rfl, hb9⟩
  go_wp2_with fail
  refine (C1.out _).mono ?_
  rintro e w10 ⟨rfl, hb10⟩
  go_wp2_with fail
  refine (C2.out _).mono ?_
  rintro e w11 ⟨rfl, hb11⟩
  go_wp2
  go_ret
  refine ⟨?_, bthen hb1 (bthen hb2 (bthen hb3 (bthen hb4 (bthen hb5 (bthen hb6 (bthen hb7 (bthen hb8 (bthen hb9 (bthen hb10 hb11)))))))))⟩
  first | rfl | simp

namespace nameHolds
open Go.ChangeShapes Go.WideShapes Go.ChangeAt Go.RowKit
open Go.ChangeMaps (open_string shut_string)

theorem own : ownKnob Try.prog.godebug = none := by kernel_rfl

set_option maxRecDepth 100000 in
theorem lifted (os : Os) (started : os.Started) (H : Type) (enc : TypeId × Value → H) :
    ReturnsInHanded {} Try.checked os 5 .any (Rows.nameHoldsSpec.pre6 enc Try.prog Try.f5 Rows.nameHoldsRow.domain false) (Rows.nameHoldsSpec.post enc Try.prog Try.f5 false true false false) := by
  refine returnsInHanded_of_change (C := Try.checked) own started (by kernel_rfl) Try.func5
    (ChangeSpec.witness6 (enc := enc) (C := Try.checked) false ⟨#[], #[.string ByteArray.empty, .string ByteArray.empty], []⟩ 8 (by kernel_rfl) (by kernel_rfl) (by kernel_rfl) (by kernel_rfl)) ?_
  intro W base args ds gs before hval0 hW hcnd _
  have hval : ∀ (j : Nat) t v, Try.f5.params[j]? = some t → args[j]? = some v → Value.okWide Try.prog W .any base t v := hval0
  have hW' := hW
  obtain ⟨p, q, hA0, hV, rfl, hfz, hnd⟩ := hW
  have hA : DataW.TrodAll enc Try.prog W 0 (fun _ => true) true Try.f5.params.toList args.toList ds p := hA0
  rw [Try.params5] at hA hval
  obtain ⟨v0, vs0, d0, ds0, p0, q0, hargs, rfl, rfl, h0, r0⟩ := trodAll_cons hA
  obtain ⟨v1, vs1, d1, ds1, p1, q1, rfl, rfl, rfl, h1, r1⟩ := trodAll_cons r0
  obtain ⟨rfl, rfl, rfl⟩ := trodAll_nil r1
  obtain rfl : args = #[v0, v1] := by cases args; simp_all
  obtain ⟨rfl, rfl⟩ := trodVars_none hV
  obtain ⟨a0, rfl, rfl, rfl, w0⟩ := open_string Try.underlying9 (hval 0 9 v0 rfl rfl) h0
  obtain ⟨a1, rfl, rfl, rfl, w1⟩ := open_string Try.underlying9 (hval 1 9 v1 rfl rfl) h1
  clear hA0 hval0
  simp only [List.append_nil] at hW'
  refine (holds_walk a0 a1 w0 w1 W).mono fun e W' ⟨he, bel⟩ => ?_
  subst he
  exact ⟨_, rfl, _, _, _, [], [], [], hW', trodAll_mk1 (shut_bool Try.underlying4 _), (trodAll_cons_mk (shut_string Try.underlying9 w0) (trodAll_cons_mk (shut_string Try.underlying9 w1) trodAll_mk0)), rfl, bel.frame _, fun h => by cases h⟩

theorem over : Rows.nameHoldsRow.holds Try.pinned (OpenSpec.ofChange Rows.nameHoldsSpec) :=
  OpenClaim.holds_of_wide 5 Try.f5 rfl rfl rfl rfl rfl rfl rfl ⟨rfl, rfl, rfl, rfl, rfl⟩ rfl rfl rfl rfl rfl (by kernel_rfl) Try.func5 (by kernel_rfl)
    (of_decide_eq_true (by kernel_rfl)) (by unfold Func.isWrapper; first | (rw [if_pos (by decide +kernel)]; kernel_rfl) | (rw [if_neg (by decide +kernel)]; exact ⟨rfl, rfl⟩))
    (fun os started H enc _ => lifted os started H enc)
end nameHolds

theorem nameHolds_holds : Rows.NameHoldsSaid := nameHolds.over

end Go.Proofs.Ytghaphcifoknpaa
