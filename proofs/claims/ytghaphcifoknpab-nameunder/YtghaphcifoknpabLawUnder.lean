/- NameUnder returns true for every three texts: what is under a name comes behind it, has it as what both have in common; a child is under its name, and this its parent. No conditions. -/
import Derived.ProofKit
import Derived.OpenShut
import Derived.ShutString
import Derived.Test.YtghaphcifoknpabExamples
import Derived.Test.YtghaphcifoknpabFacts
import Derived.Test.YtghaphcifoknpabChild
namespace Go.Proofs.Ytghaphcifoknpab
set_option linter.unusedVariables false
open Go.RowKit

/-- the second half: Child and what is asked of it. -/
structure ChildSays (label t : ByteArray) (d : ByteArray) (k : Int) (p : ByteArray) : Prop where
  child : ∀ w, Calls Try.prog 12 #[.string label, .string t] w fun e w' => e = .returned (.tuple #[.string d, .int .i64 k]) ∧ Below w.heap.size w w'
  bad : (k != 0) = true → d = ⟨#[]⟩
  parent : (k != 0) = false → ∀ w, Calls Try.prog 13 #[.string d] w fun e w' => e = .returned (.tuple #[.string t, .int .i64 0]) ∧ Below w.heap.size w w'
  below : (k != 0) = false → ∀ w, Calls Try.prog 9 #[.string d, .string t] w fun e w' => e = .returned (.bool true) ∧ Below w.heap.size w w'
  above : (k != 0) = false → ∀ w, Calls Try.prog 9 #[.string t, .string d] w fun e w' => e = .returned (.bool false) ∧ Below w.heap.size w w'
  behind : (k != 0) = false → ∀ w, Calls Try.prog 11 #[.string d, .string t] w fun e w' => e = .returned (.int .i64 1) ∧ Below w.heap.size w w'

theorem child_says (label t : ByteArray) (hl : label.size ≤ maxLen) (ht : t.size ≤ maxLen) : ∃ d k, ChildSays label t d k t := by
  by_cases h : IsName t ∧ 1 ≤ label.size ∧ label.size ≤ 63
  · obtain ⟨⟨a, ha, rfl⟩, h1, h2⟩ := h
    have hc := child_in label.data.toList a h1 h2 ha
    by_cases hz : (nm (label.data.toList :: a)).size ≤ 255
    · have ho : OkN (label.data.toList :: a) := by
        refine ⟨fun l hl => ?_, by rw [nm_size] at hz; omega⟩
        rcases List.mem_cons.1 hl with rfl | h'
        · exact ⟨h1, h2⟩
        · exact ha.lab l h'
      refine ⟨nm (label.data.toList :: a), 0, ⟨fun w => ?_, fun h => (by cases h), fun _ => parent_yes _ _ ho, fun _ w => ?_, fun _ w => ?_, fun _ w => ?_⟩⟩
      · have := hc w; rw [if_pos hz] at this; exact this
      · have := under_yes _ a ho ha w; rw [und_child] at this; exact this
      · have := under_yes a _ ha ho w; rw [not_und_child] at this; exact this
      · have := compare_yes _ a ho ha w; rw [cmp_child] at this; exact this
    · refine ⟨⟨#[]⟩, 3, ⟨fun w => ?_, fun _ => rfl, fun h => (by cases h), fun h => (by cases h), fun h => (by cases h), fun h => (by cases h)⟩⟩
      have := hc w; rw [if_neg hz] at this; exact this
  · exact ⟨⟨#[]⟩, 2, ⟨child_bad label t hl ht h, fun _ => rfl, fun h => (by cases h), fun h => (by cases h), fun h => (by cases h), fun h => (by cases h)⟩⟩

set_option maxRecDepth 100000 in
set_option maxHeartbeats 2000000 in
theorem lunder_no (s t u : ByteArray) (hs : s.size ≤ maxLen) (ht : t.size ≤ maxLen) (hu : u.size ≤ maxLen) (h : ¬ (IsName s ∧ IsName t)) (w : World) :
    Calls Try.prog 3 #[.string s, .string t, .string u] w fun e w' => e = .returned (.bool true) ∧ Below w.heap.size w w' := by
  have H1 := Hid.mk (common_no s t hs ht h)
  obtain ⟨d, k, C⟩ := child_says u s hu hs
  have C1 := Hid.mk C.child
  have hss : (s.toList == s.toList) = true := by simp
  cases hk : (k != 0) with
  | true =>
    have hd := C.bad hk
    subst hd
    clear C
    go_enter Try.func3, Try.ntmps3
    go_wp2_with fail
    refine (examples_in _).mono ?_
    rintro e w1 ⟨rfl, hb1⟩
    go_wp2_with fail
    refine (H1.out _).mono ?_
    rintro e w2 ⟨rfl, hb2⟩
    go_wp2_with fail
    refine (C1.out _).mono ?_
    rintro e w3 ⟨rfl, hb3⟩
    go_wp2
    go_ret
    exact ⟨rfl, bthen hb1 (bthen hb2 hb3)⟩
  | false =>
    have C2 := Hid.mk (C.parent hk)
    have C3 := Hid.mk (C.below hk)
    have C4 := Hid.mk (C.above hk)
    have C5 := Hid.mk (C.behind hk)
    clear C
    go_enter Try.func3, Try.ntmps3
    go_wp2_with fail
    refine (examples_in _).mono ?_
    rintro e w1 ⟨rfl, hb1⟩
    go_wp2_with fail
    refine (H1.out _).mono ?_
    rintro e w2 ⟨rfl, hb2⟩
    go_wp2_with fail
    refine (C1.out _).mono ?_
    rintro e w3 ⟨rfl, hb3⟩
    go_wp2_with fail
    refine (C2.out _).mono ?_
    rintro e w4 ⟨rfl, hb4⟩
    go_wp2_with fail
    refine (C3.out _).mono ?_
    rintro e w5 ⟨rfl, hb5⟩
    go_wp2_with fail
    refine (C4.out _).mono ?_
    rintro e w6 ⟨rfl, hb6⟩
    go_wp2_with fail
    refine (C5.out _).mono ?_
    rintro e w7 ⟨rfl, hb7⟩
    go_wp2
    go_ret
    exact ⟨by simp, bthen hb1 (bthen hb2 (bthen hb3 (bthen hb4 (bthen hb5 (bthen hb6 hb7)))))⟩

set_option maxRecDepth 100000 in
set_option maxHeartbeats 4000000 in
theorem lunder_go (a b : List (List UInt8)) (u : ByteArray) (ha : OkN a) (hb : OkN b) (hu : u.size ≤ maxLen) (w : World) :
    Calls Try.prog 3 #[.string (nm a), .string (nm b), .string u] w fun e w' => e = .returned (.bool true) ∧ Below w.heap.size w w' := by
  have hz : (nm a).size ≤ maxLen := by rw [nm_size]; have := ha.len; unfold maxLen; omega
  obtain ⟨d, k, C⟩ := child_says u (nm a) hu hz
  have C1 := Hid.mk C.child
  have hm := ok_com (b := b) ha
  have H1 := Hid.mk (common_yes a b ha hb)
  have h2 := under_yes a (comN a b) ha hm
  rw [und_com_left] at h2
  have H2 := Hid.mk h2
  have h3 := under_yes b (comN a b) hb hm
  rw [und_com_right] at h3
  have H3 := Hid.mk h3
  have H4 := Hid.mk (under_yes a b ha hb)
  have h5 := equal_yes b (comN a b) hb hm
  rw [← und_iff_com] at h5
  have H5 := Hid.mk h5
  have H6 := Hid.mk (compare_yes a b ha hb)
  have hcm : undB a b = true → 0 ≤ cmpN a b := und_cmp
  clear h2 h3 h5 hm
  generalize nm (comN a b) = c at H1 H2 H3 H5
  generalize undB a b = r at H4 H5 hcm
  generalize cmpN a b = z at H6 hcm
  have hss : ((nm a).toList == (nm a).toList) = true := by simp
  cases r with
  | true =>
    have hzz : decide (z < 0) = false := by have := hcm rfl; simp; omega
    clear hcm
    cases hk : (k != 0) with
    | true =>
      have hd := C.bad hk
      subst hd
      clear C
      go_enter Try.func3, Try.ntmps3
      go_wp2_with fail
      refine (examples_in _).mono ?_
      rintro e w1 ⟨rfl, hb1⟩
      go_wp2_with fail
      refine (H1.out _).mono ?_
      rintro e w2 ⟨rfl, hb2⟩
      go_wp2_with fail
      refine (H2.out _).mono ?_
      rintro e w3 ⟨rfl, hb3⟩
      go_wp2_with fail
      refine (H3.out _).mono ?_
      rintro e w4 ⟨rfl, hb4⟩
      go_wp2_with fail
      refine (H4.out _).mono ?_
      rintro e w5 ⟨rfl, hb5⟩
      go_wp2_with fail
      refine (H5.out _).mono ?_
      rintro e w6 ⟨rfl, hb6⟩
      go_wp2_with fail
      refine (H4.out _).mono ?_
      rintro e w7 ⟨rfl, hb7⟩
      go_wp2_with fail
      refine (H6.out _).mono ?_
      rintro e w8 ⟨rfl, hb8⟩
      go_wp2_with fail
      refine (C1.out _).mono ?_
      rintro e w9 ⟨rfl, hb9⟩
      go_wp2
      go_ret
      exact ⟨rfl, (bthen hb1 (bthen hb2 (bthen hb3 (bthen hb4 (bthen hb5 (bthen hb6 (bthen hb7 (bthen hb8 hb9))))))))⟩
    | false =>
      have C2 := Hid.mk (C.parent hk)
      have C3 := Hid.mk (C.below hk)
      have C4 := Hid.mk (C.above hk)
      have C5 := Hid.mk (C.behind hk)
      clear C
      go_enter Try.func3, Try.ntmps3
      go_wp2_with fail
      refine (examples_in _).mono ?_
      rintro e w1 ⟨rfl, hb1⟩
      go_wp2_with fail
      refine (H1.out _).mono ?_
      rintro e w2 ⟨rfl, hb2⟩
      go_wp2_with fail
      refine (H2.out _).mono ?_
      rintro e w3 ⟨rfl, hb3⟩
      go_wp2_with fail
      refine (H3.out _).mono ?_
      rintro e w4 ⟨rfl, hb4⟩
      go_wp2_with fail
      refine (H4.out _).mono ?_
      rintro e w5 ⟨rfl, hb5⟩
      go_wp2_with fail
      refine (H5.out _).mono ?_
      rintro e w6 ⟨rfl, hb6⟩
      go_wp2_with fail
      refine (H4.out _).mono ?_
      rintro e w7 ⟨rfl, hb7⟩
      go_wp2_with fail
      refine (H6.out _).mono ?_
      rintro e w8 ⟨rfl, hb8⟩
      go_wp2_with fail
      refine (C1.out _).mono ?_
      rintro e w9 ⟨rfl, hb9⟩
      go_wp2_with fail
      refine (C2.out _).mono ?_
      rintro e w10 ⟨rfl, hb10⟩
      go_wp2_with fail
      refine (C3.out _).mono ?_
      rintro e w11 ⟨rfl, hb11⟩
      go_wp2_with fail
      refine (C4.out _).mono ?_
      rintro e w12 ⟨rfl, hb12⟩
      go_wp2_with fail
      refine (C5.out _).mono ?_
      rintro e w13 ⟨rfl, hb13⟩
      go_wp2
      go_ret
      exact ⟨by simp, (bthen hb1 (bthen hb2 (bthen hb3 (bthen hb4 (bthen hb5 (bthen hb6 (bthen hb7 (bthen hb8 (bthen hb9 (bthen hb10 (bthen hb11 (bthen hb12 hb13))))))))))))⟩
  | false =>
    clear hcm
    cases hk : (k != 0) with
    | true =>
      have hd := C.bad hk
      subst hd
      clear C
      go_enter Try.func3, Try.ntmps3
      go_wp2_with fail
      refine (examples_in _).mono ?_
      rintro e w1 ⟨rfl, hb1⟩
      go_wp2_with fail
      refine (H1.out _).mono ?_
      rintro e w2 ⟨rfl, hb2⟩
      go_wp2_with fail
      refine (H2.out _).mono ?_
      rintro e w3 ⟨rfl, hb3⟩
      go_wp2_with fail
      refine (H3.out _).mono ?_
      rintro e w4 ⟨rfl, hb4⟩
      go_wp2_with fail
      refine (H4.out _).mono ?_
      rintro e w5 ⟨rfl, hb5⟩
      go_wp2_with fail
      refine (H5.out _).mono ?_
      rintro e w6 ⟨rfl, hb6⟩
      go_wp2_with fail
      refine (H4.out _).mono ?_
      rintro e w7 ⟨rfl, hb7⟩
      go_wp2_with fail
      refine (C1.out _).mono ?_
      rintro e w8 ⟨rfl, hb8⟩
      go_wp2
      go_ret
      exact ⟨rfl, (bthen hb1 (bthen hb2 (bthen hb3 (bthen hb4 (bthen hb5 (bthen hb6 (bthen hb7 hb8)))))))⟩
    | false =>
      have C2 := Hid.mk (C.parent hk)
      have C3 := Hid.mk (C.below hk)
      have C4 := Hid.mk (C.above hk)
      have C5 := Hid.mk (C.behind hk)
      clear C
      go_enter Try.func3, Try.ntmps3
      go_wp2_with fail
      refine (examples_in _).mono ?_
      rintro e w1 ⟨rfl, hb1⟩
      go_wp2_with fail
      refine (H1.out _).mono ?_
      rintro e w2 ⟨rfl, hb2⟩
      go_wp2_with fail
      refine (H2.out _).mono ?_
      rintro e w3 ⟨rfl, hb3⟩
      go_wp2_with fail
      refine (H3.out _).mono ?_
      rintro e w4 ⟨rfl, hb4⟩
      go_wp2_with fail
      refine (H4.out _).mono ?_
      rintro e w5 ⟨rfl, hb5⟩
      go_wp2_with fail
      refine (H5.out _).mono ?_
      rintro e w6 ⟨rfl, hb6⟩
      go_wp2_with fail
      refine (H4.out _).mono ?_
      rintro e w7 ⟨rfl, hb7⟩
      go_wp2_with fail
      refine (C1.out _).mono ?_
      rintro e w8 ⟨rfl, hb8⟩
      go_wp2_with fail
      refine (C2.out _).mono ?_
      rintro e w9 ⟨rfl, hb9⟩
      go_wp2_with fail
      refine (C3.out _).mono ?_
      rintro e w10 ⟨rfl, hb10⟩
      go_wp2_with fail
      refine (C4.out _).mono ?_
      rintro e w11 ⟨rfl, hb11⟩
      go_wp2_with fail
      refine (C5.out _).mono ?_
      rintro e w12 ⟨rfl, hb12⟩
      go_wp2
      go_ret
      exact ⟨by simp, (bthen hb1 (bthen hb2 (bthen hb3 (bthen hb4 (bthen hb5 (bthen hb6 (bthen hb7 (bthen hb8 (bthen hb9 (bthen hb10 (bthen hb11 hb12)))))))))))⟩

theorem lunder_walk (s t u : ByteArray) (hs : s.size ≤ maxLen) (ht : t.size ≤ maxLen) (hu : u.size ≤ maxLen) (w : World) :
    Calls Try.prog 3 #[.string s, .string t, .string u] w fun e w' => e = .returned (.bool true) ∧ Below w.heap.size w w' := by
  by_cases h : IsName s ∧ IsName t
  · obtain ⟨⟨a, ha, rfl⟩, ⟨b, hb, rfl⟩⟩ := h
    exact lunder_go a b u ha hb hu w
  · exact lunder_no s t u hs ht hu h w

namespace nameUnder
open Go.ChangeShapes Go.WideShapes Go.ChangeAt Go.RowKit
open Go.ChangeMaps (open_string shut_string)

theorem own : ownKnob Try.prog.godebug = none := by kernel_rfl

set_option maxRecDepth 100000 in
theorem lifted (os : Os) (started : os.Started) (H : Type) (enc : TypeId × Value → H) :
    ReturnsInHanded {} Try.checked os 3 .any (Rows.nameUnderSpec.pre6 enc Try.prog Try.f3 Rows.nameUnderRow.domain false) (Rows.nameUnderSpec.post enc Try.prog Try.f3 false true false false) := by
  refine returnsInHanded_of_change (C := Try.checked) own started (by kernel_rfl) Try.func3
    (ChangeSpec.witness6 (enc := enc) (C := Try.checked) false ⟨#[], #[.string ByteArray.empty, .string ByteArray.empty, .string ByteArray.empty], []⟩ 8 (by kernel_rfl) (by kernel_rfl) (by kernel_rfl) (by kernel_rfl)) ?_
  intro W base args ds gs before hval0 hW hcnd _
  have hval : ∀ (j : Nat) t v, Try.f3.params[j]? = some t → args[j]? = some v → Value.okWide Try.prog W .any base t v := hval0
  have hW' := hW
  obtain ⟨p, q, hA0, hV, rfl, hfz, hnd⟩ := hW
  have hA : DataW.TrodAll enc Try.prog W 0 (fun _ => true) true Try.f3.params.toList args.toList ds p := hA0
  rw [Try.params3] at hA hval
  obtain ⟨v0, vs0, d0, ds0, p0, q0, hargs, rfl, rfl, h0, r0⟩ := trodAll_cons hA
  obtain ⟨v1, vs1, d1, ds1, p1, q1, rfl, rfl, rfl, h1, r1⟩ := trodAll_cons r0
  obtain ⟨v2, vs2, d2, ds2, p2, q2, rfl, rfl, rfl, h2, r2⟩ := trodAll_cons r1
  obtain ⟨rfl, rfl, rfl⟩ := trodAll_nil r2
  obtain rfl : args = #[v0, v1, v2] := by cases args; simp_all
  obtain ⟨rfl, rfl⟩ := trodVars_none hV
  obtain ⟨a0, rfl, rfl, rfl, w0⟩ := open_string Try.underlying9 (hval 0 9 v0 rfl rfl) h0
  obtain ⟨a1, rfl, rfl, rfl, w1⟩ := open_string Try.underlying9 (hval 1 9 v1 rfl rfl) h1
  obtain ⟨a2, rfl, rfl, rfl, w2⟩ := open_string Try.underlying9 (hval 2 9 v2 rfl rfl) h2
  clear hA0 hval0
  simp only [List.append_nil] at hW'
  refine (lunder_walk a0 a1 a2 w0 w1 w2 W).mono fun e W' ⟨he, bel⟩ => ?_
  subst he
  exact ⟨_, rfl, _, _, _, [], [], [], hW', trodAll_mk1 (shut_bool Try.underlying4 _), (trodAll_cons_mk (shut_string Try.underlying9 w0) (trodAll_cons_mk (shut_string Try.underlying9 w1) (trodAll_cons_mk (shut_string Try.underlying9 w2) trodAll_mk0))), rfl, bel.frame _, fun h => by cases h⟩

theorem over : Rows.nameUnderRow.holds Try.pinned (OpenSpec.ofChange Rows.nameUnderSpec) :=
  OpenClaim.holds_of_wide 3 Try.f3 rfl rfl rfl rfl rfl rfl rfl ⟨rfl, rfl, rfl, rfl, rfl⟩ rfl rfl rfl rfl rfl (by kernel_rfl) Try.func3 (by kernel_rfl)
    (of_decide_eq_true (by kernel_rfl)) (by unfold Func.isWrapper; first | (rw [if_pos (by decide +kernel)]; kernel_rfl) | (rw [if_neg (by decide +kernel)]; exact ⟨rfl, rfl⟩))
    (fun os started H enc _ => lifted os started H enc)
end nameUnder

theorem nameUnder_holds : Rows.NameUnderSaid := nameUnder.over

end Go.Proofs.Ytghaphcifoknpab
