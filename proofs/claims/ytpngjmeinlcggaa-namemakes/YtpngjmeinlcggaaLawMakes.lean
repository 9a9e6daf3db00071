/- NameMakes returns true for every four texts and every number: what name makes of them is what the document makes. No conditions. -/
import Derived.ProofKit
import Derived.OpenShut
import Derived.ShutString
import Derived.Test.YtpngjmeinlcggaaExamples
import Derived.Test.YtpngjmeinlcggaaSameMakes
import Derived.Test.YtpngjmeinlcggaaRefCased
namespace Go.Proofs.Ytpngjmeinlcggaa
set_option linter.unusedVariables false
open Go.RowKit

theorem same_cased (s : ByteArray) (hs : s.size ≤ maxLen) (x : Int) (hx : (Lit.int .u64 x).wf = true) : ∃ (c : ByteArray) (k : Int), IntKind.i64.wrap k = k ∧
    (∀ w, Calls Try.prog 36 #[.string s, .int .u64 x] w fun e w' => e = .returned (.tuple #[.string c, .int .i64 k]) ∧ Below w.heap.size w w') ∧
    (∀ w, Calls Try.prog 37 #[.string s, .int .u64 x] w fun e w' => e = .returned (.tuple #[.string c, .int .i64 k]) ∧ Below w.heap.size w w') := by
  by_cases h : IsName s
  · obtain ⟨ls, ho, rfl⟩ := h
    have hb : 0 ≤ x ∧ x < 18446744073709551616 := by
      have := Go.bounds_u64 hx
      omega
    obtain ⟨n, rfl⟩ := Int.eq_ofNat_of_zero_le hb.1
    have h1 := cased_yes ls ho n (by omega)
    have h2 := rCased_yes ls ho n (by omega)
    have hg := casN_good n (lowN ls) 0 ho.low.lab
    have hf := casN_flat n (lowN ls) 0 (fun l hl => (ho.low.lab l hl).2)
    have hz : (nm (casN n 0 (lowN ls))).size ≤ 255 := by
      have e1 := congrArg List.length hf
      rw [casGo_length, List.length_append, List.length_append] at e1
      have := ho.low.len
      rw [nm_size]; simp at e1; omega
    rw [ofR_right hg, if_pos hz] at h2
    have e2 : (casGo n 0 (nm (lowN ls)).data.toList) = nmL (casN n 0 (lowN ls)) := hf
    rw [e2] at h1
    exact ⟨_, 0, rfl, h1, h2⟩
  · exact ⟨_, 2, rfl, cased_no s hs h x, rCased_no s hs h x⟩

set_option maxRecDepth 100000 in
set_option maxHeartbeats 2000000 in
theorem makes_walk (s f t l : ByteArray) (x : Int) (hs : s.size ≤ maxLen) (hf : f.size ≤ maxLen) (ht : t.size ≤ maxLen) (hl : l.size ≤ maxLen) (hx : (Lit.int .u64 x).wf = true) (w : World) :
    Calls Try.prog 6 #[.string s, .string f, .string t, .string l, .int .u64 x] w fun e w' => e = .returned (.bool true) ∧ Below w.heap.size w w' := by
  obtain ⟨a, k1, hk1, m1, m2⟩ := same_moved s f t hs hf ht
  obtain ⟨c, k2, hk2, c1, c2⟩ := same_child l s hl hs
  obtain ⟨y, k3, hk3, y1, y2⟩ := same_cased s hs x hx
  have M1 := Hid.mk m1
  have M2 := Hid.mk m2
  have C1 := Hid.mk c1
  have C2 := Hid.mk c2
  have Y1 := Hid.mk y1
  have Y2 := Hid.mk y2
  clear m1 m2 c1 c2 y1 y2
  have b1 : (a.toList == a.toList) = true := by simp
  have b2 : (c.toList == c.toList) = true := by simp
  have b3 : (y.toList == y.toList) = true := by simp
  go_enter Try.func6, Try.ntmps6
  go_wp2_with fail
  refine (examples_in _).mono ?_
  rintro e w1 ⟨rfl, hb1⟩
  go_wp2_with fail
  refine (M1.out _).mono ?_
  rintro e w2 ⟨rfl, hb2⟩
  go_wp2_with fail
  refine (M2.out _).mono ?_
  rintro e w3 ⟨rfl, hb3⟩
  go_wp2_with fail
  refine (C1.out _).mono ?_
  rintro e w4 ⟨rfl, hb4⟩
  go_wp2_with fail
  refine (C2.out _).mono ?_
  rintro e w5 ⟨rfl, hb5⟩
  go_wp2_with fail
  refine (Y1.out _).mono ?_
  rintro e w6 ⟨rfl, hb6⟩
  go_wp2_with fail
  refine (Y2.out _).mono ?_
  rintro e w7 ⟨rfl, hb7⟩
  go_wp2
  go_ret
  refine ⟨?_, bthen hb1 (bthen hb2 (bthen hb3 (bthen hb4 (bthen hb5 (bthen hb6 hb7)))))⟩
  first | rfl | simp

namespace nameMakes
open Go.ChangeShapes Go.WideShapes Go.ChangeAt Go.RowKit
open Go.ChangeMaps (open_string shut_string)

theorem own : ownKnob Try.prog.godebug = none := by kernel_rfl

set_option maxRecDepth 100000 in
theorem lifted (os : Os) (started : os.Started) (H : Type) (enc : TypeId × Value → H) :
    ReturnsInHanded {} Try.checked os 6 .any (Rows.nameMakesSpec.pre6 enc Try.prog Try.f6 Rows.nameMakesRow.domain false) (Rows.nameMakesSpec.post enc Try.prog Try.f6 false true false false) := by
  refine returnsInHanded_of_change (C := Try.checked) own started (by kernel_rfl) Try.func6
    (ChangeSpec.witness6 (enc := enc) (C := Try.checked) false ⟨#[], #[.string ByteArray.empty, .string ByteArray.empty, .string ByteArray.empty, .string ByteArray.empty, .int .u64 0], []⟩ 8 (by kernel_rfl) (by kernel_rfl) (by kernel_rfl) (by kernel_rfl)) ?_
  intro W base args ds gs before hval0 hW hcnd _
  have hval : ∀ (j : Nat) t v, Try.f6.params[j]? = some t → args[j]? = some v → Value.okWide Try.prog W .any base t v := hval0
  have hW' := hW
  obtain ⟨p, q, hA0, hV, rfl, hfz, hnd⟩ := hW
  have hA : DataW.TrodAll enc Try.prog W 0 (fun _ => true) true Try.f6.params.toList args.toList ds p := hA0
  rw [Try.params6] at hA hval
  obtain ⟨v0, vs0, d0, ds0, p0, q0, hargs, rfl, rfl, h0, r0⟩ := trodAll_cons hA
  obtain ⟨v1, vs1, d1, ds1, p1, q1, rfl, rfl, rfl, h1, r1⟩ := trodAll_cons r0
  obtain ⟨v2, vs2, d2, ds2, p2, q2, rfl, rfl, rfl, h2, r2⟩ := trodAll_cons r1
  obtain ⟨v3, vs3, d3, ds3, p3, q3, rfl, rfl, rfl, h3, r3⟩ := trodAll_cons r2
  obtain ⟨v4, vs4, d4, ds4, p4, q4, rfl, rfl, rfl, h4, r4⟩ := trodAll_cons r3
  obtain ⟨rfl, rfl, rfl⟩ := trodAll_nil r4
  obtain rfl : args = #[v0, v1, v2, v3, v4] := by cases args; simp_all
  obtain ⟨rfl, rfl⟩ := trodVars_none hV
  obtain ⟨a0, rfl, rfl, rfl, w0⟩ := open_string Try.underlying9 (hval 0 9 v0 rfl rfl) h0
  obtain ⟨a1, rfl, rfl, rfl, w1⟩ := open_string Try.underlying9 (hval 1 9 v1 rfl rfl) h1
  obtain ⟨a2, rfl, rfl, rfl, w2⟩ := open_string Try.underlying9 (hval 2 9 v2 rfl rfl) h2
  obtain ⟨a3, rfl, rfl, rfl, w3⟩ := open_string Try.underlying9 (hval 3 9 v3 rfl rfl) h3
  obtain ⟨a4, rfl, rfl, rfl, w4⟩ := open_int Try.underlying44 (hval 4 44 v4 rfl rfl) h4
  clear hA0 hval0
  simp only [List.append_nil] at hW'
  refine (makes_walk a0 a1 a2 a3 a4 w0 w1 w2 w3 w4 W).mono fun e W' ⟨he, bel⟩ => ?_
  subst he
  exact ⟨_, rfl, _, _, _, [], [], [], hW', trodAll_mk1 (shut_bool Try.underlying4 _), (trodAll_cons_mk (shut_string Try.underlying9 w0) (trodAll_cons_mk (shut_string Try.underlying9 w1) (trodAll_cons_mk (shut_string Try.underlying9 w2) (trodAll_cons_mk (shut_string Try.underlying9 w3) (trodAll_cons_mk (shut_int Try.underlying44 w4) trodAll_mk0))))), rfl, bel.frame _, fun h => by cases h⟩

theorem over : Rows.nameMakesRow.holds Try.pinned (OpenSpec.ofChange Rows.nameMakesSpec) :=
  OpenClaim.holds_of_wide 6 Try.f6 rfl rfl rfl rfl rfl rfl rfl ⟨rfl, rfl, rfl, rfl, rfl⟩ rfl rfl rfl rfl rfl (by kernel_rfl) Try.func6 (by kernel_rfl)
    (of_decide_eq_true (by kernel_rfl)) (by unfold Func.isWrapper; first | (rw [if_pos (by decide +kernel)]; kernel_rfl) | (rw [if_neg (by decide +kernel)]; exact ⟨rfl, rfl⟩))
    (fun os started H enc _ => lifted os started H enc)
end nameMakes

theorem nameMakes_holds : Rows.NameMakesSaid := nameMakes.over

end Go.Proofs.Ytpngjmeinlcggaa
