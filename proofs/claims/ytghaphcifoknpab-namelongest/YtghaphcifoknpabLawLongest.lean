/- NameLongest returns true for every three texts: what two names have in common is the longest name under which both are, either way round. No conditions. -/
import Derived.ProofKit
import Derived.OpenShut
import Derived.ShutString
import Derived.Test.YtghaphcifoknpabExamples
import Derived.Test.YtghaphcifoknpabFacts
namespace Go.Proofs.Ytghaphcifoknpab
set_option linter.unusedVariables false
open Go.RowKit

/-- Under, of any two texts: what it answers. -/
theorem under_any (s t : ByteArray) (hs : s.size ≤ maxLen) (ht : t.size ≤ maxLen) : ∃ b : Bool, (b = true ↔ ∃ x y, OkN x ∧ OkN y ∧ s = nm x ∧ t = nm y ∧ undB x y = true) ∧
    ∀ w, Calls Try.prog 9 #[.string s, .string t] w fun e w' => e = .returned (.bool b) ∧ Below w.heap.size w w' := by
  by_cases h : IsName s ∧ IsName t
  · obtain ⟨⟨x, hx, rfl⟩, ⟨y, hy, rfl⟩⟩ := h
    refine ⟨undB x y, ⟨fun h => ⟨x, y, hx, hy, rfl, rfl, h⟩, ?_⟩, under_yes x y hx hy⟩
    rintro ⟨x', y', hx', hy', e1, e2, h⟩
    rw [nm_inj hx hx' e1, nm_inj hy hy' e2]; exact h
  · refine ⟨false, ⟨fun h => (by cases h), ?_⟩, under_no s t hs ht h⟩
    rintro ⟨x', y', hx', hy', e1, e2, _⟩
    exact absurd ⟨⟨x', hx', e1⟩, ⟨y', hy', e2⟩⟩ h

set_option maxHeartbeats 1000000 in
theorem longest_no (s t u : ByteArray) (hs : s.size ≤ maxLen) (ht : t.size ≤ maxLen) (h : ¬ (IsName s ∧ IsName t)) (w : World) :
    Calls Try.prog 6 #[.string s, .string t, .string u] w fun e w' => e = .returned (.bool true) ∧ Below w.heap.size w w' := by
  have H1 := Hid.mk (common_no s t hs ht h)
  have H2 := Hid.mk (common_no t s ht hs (fun h' => h ⟨h'.2, h'.1⟩))
  go_enter Try.func6, Try.ntmps6
  go_wp2_with fail
  refine (examples_in _).mono ?_
  rintro e w1 ⟨rfl, hb1⟩
  go_wp2_with fail
  refine (H1.out _).mono ?_
  rintro e w2 ⟨rfl, hb2⟩
  go_wp2_with fail
  refine (H2.out _).mono ?_
  rintro e w3 ⟨rfl, hb3⟩
  go_wp2
  go_ret
  exact ⟨rfl, bthen hb1 (bthen hb2 hb3)⟩

set_option maxHeartbeats 1000000 in
theorem longest_go (a b : List (List UInt8)) (u : ByteArray) (ha : OkN a) (hb : OkN b) (hu : u.size ≤ maxLen) (w : World) :
    Calls Try.prog 6 #[.string (nm a), .string (nm b), .string u] w fun e w' => e = .returned (.bool true) ∧ Below w.heap.size w w' := by
  have hz : ∀ {x : List (List UInt8)}, OkN x → (nm x).size ≤ maxLen := fun h => by rw [nm_size]; have := h.len; unfold maxLen; omega
  have hm := ok_com (b := b) ha
  have H1 := Hid.mk (common_yes a b ha hb)
  have H2 := Hid.mk (common_yes b a hb ha)
  have hE := equal_yes (comN a b) (comN b a) hm (ok_com hb)
  rw [com_eq] at hE
  have H3 := Hid.mk hE
  obtain ⟨u1, hu1, c1⟩ := under_any (nm a) u (hz ha) hu
  obtain ⟨u2, hu2, c2⟩ := under_any (nm b) u (hz hb) hu
  obtain ⟨u3, hu3, c3⟩ := under_any (nm (comN a b)) u (hz hm) hu
  have hall : u1 = true → u2 = true → u3 = true := by
    intro e1 e2
    obtain ⟨x, y, hx, hy, f1, f2, f3⟩ := hu1.1 e1
    obtain ⟨x', y', hx', hy', g1, g2, g3⟩ := hu2.1 e2
    have := nm_inj ha hx f1; subst this
    have := nm_inj hb hx' g1; subst this
    have := nm_inj hy hy' (f2.symm.trans g2); subst this
    exact hu3.2 ⟨_, y, hm, hy, rfl, f2, und_com_of _ _ _ f3 g3⟩
  have C1 := Hid.mk c1
  have C2 := Hid.mk c2
  have C3 := Hid.mk c3
  clear hE c1 c2 c3 hu1 hu2 hu3
  generalize nm (comN a b) = x at H1 H3 C3
  generalize nm (comN b a) = y at H2 H3
  clear hm
  cases u1 with
  | false =>
    clear hall
    go_enter Try.func6, Try.ntmps6
    go_wp2_with fail
    refine (examples_in _).mono ?_
    rintro e w1 ⟨rfl, hb1⟩
    go_wp2_with fail
    refine (H1.out _).mono ?_
    rintro e w2 ⟨rfl, hb2⟩
    go_wp2_with fail
    refine (H2.out _).mono ?_
    rintro e w3 ⟨rfl, hb3⟩
    go_wp2_with fail
    refine (C1.out _).mono ?_
    rintro e w4 ⟨rfl, hb4⟩
    go_wp2_with fail
    refine (H3.out _).mono ?_
    rintro e w5 ⟨rfl, hb5⟩
    go_wp2
    go_ret
    exact ⟨rfl, bthen hb1 (bthen hb2 (bthen hb3 (bthen hb4 hb5)))⟩
  | true =>
    cases u2 with
    | false =>
      clear hall
      go_enter Try.func6, Try.ntmps6
      go_wp2_with fail
      refine (examples_in _).mono ?_
      rintro e w1 ⟨rfl, hb1⟩
      go_wp2_with fail
      refine (H1.out _).mono ?_
      rintro e w2 ⟨rfl, hb2⟩
      go_wp2_with fail
      refine (H2.out _).mono ?_
      rintro e w3 ⟨rfl, hb3⟩
      go_wp2_with fail
      refine (C1.out _).mono ?_
      rintro e w4 ⟨rfl, hb4⟩
      go_wp2_with fail
      refine (C2.out _).mono ?_
      rintro e w5 ⟨rfl, hb5⟩
      go_wp2_with fail
      refine (H3.out _).mono ?_
      rintro e w6 ⟨rfl, hb6⟩
      go_wp2
      go_ret
      exact ⟨rfl, bthen hb1 (bthen hb2 (bthen hb3 (bthen hb4 (bthen hb5 hb6))))⟩
    | true =>
      have h3 := hall rfl rfl
      subst h3
      clear hall
      go_enter Try.func6, Try.ntmps6
      go_wp2_with fail
      refine (examples_in _).mono ?_
      rintro e w1 ⟨rfl, hb1⟩
      go_wp2_with fail
      refine (H1.out _).mono ?_
      rintro e w2 ⟨rfl, hb2⟩
      go_wp2_with fail
      refine (H2.out _).mono ?_
      rintro e w3 ⟨rfl, hb3⟩
      go_wp2_with fail
      refine (C1.out _).mono ?_
      rintro e w4 ⟨rfl, hb4⟩
      go_wp2_with fail
      refine (C2.out _).mono ?_
      rintro e w5 ⟨rfl, hb5⟩
      go_wp2_with fail
      refine (C3.out _).mono ?_
      rintro e w6 ⟨rfl, hb6⟩
      go_wp2_with fail
      refine (H3.out _).mono ?_
      rintro e w7 ⟨rfl, hb7⟩
      go_wp2
      go_ret
      exact ⟨rfl, bthen hb1 (bthen hb2 (bthen hb3 (bthen hb4 (bthen hb5 (bthen hb6 hb7)))))⟩

theorem longest_walk (s t u : ByteArray) (hs : s.size ≤ maxLen) (ht : t.size ≤ maxLen) (hu : u.size ≤ maxLen) (w : World) :
    Calls Try.prog 6 #[.string s, .string t, .string u] w fun e w' => e = .returned (.bool true) ∧ Below w.heap.size w w' := by
  by_cases h : IsName s ∧ IsName t
  · obtain ⟨⟨a, ha, rfl⟩, ⟨b, hb, rfl⟩⟩ := h
    exact longest_go a b u ha hb hu w
  · exact longest_no s t u hs ht h w

namespace nameLongest
open Go.ChangeShapes Go.WideShapes Go.ChangeAt Go.RowKit
open Go.ChangeMaps (open_string shut_string)

theorem own : ownKnob Try.prog.godebug = none := by kernel_rfl

set_option maxRecDepth 100000 in
theorem lifted (os : Os) (started : os.Started) (H : Type) (enc : TypeId × Value → H) :
    ReturnsInHanded {} Try.checked os 6 .any (Rows.nameLongestSpec.pre6 enc Try.prog Try.f6 Rows.nameLongestRow.domain false) (Rows.nameLongestSpec.post enc Try.prog Try.f6 false true false false) := by
  refine returnsInHanded_of_change (C := Try.checked) own started (by kernel_rfl) Try.func6
    (ChangeSpec.witness6 (enc := enc) (C := Try.checked) false ⟨#[], #[.string ByteArray.empty, .string ByteArray.empty, .string ByteArray.empty], []⟩ 8 (by kernel_rfl) (by kernel_rfl) (by kernel_rfl) (by kernel_rfl)) ?_
  intro W base args ds gs before hval0 hW hcnd _
  have hval : ∀ (j : Nat) t v, Try.f6.params[j]? = some t → args[j]? = some v → Value.okWide Try.prog W .any base t v := hval0
  have hW' := hW
  obtain ⟨p, q, hA0, hV, rfl, hfz, hnd⟩ := hW
  have hA : DataW.TrodAll enc Try.prog W 0 (fun _ => true) true Try.f6.params.toList args.toList ds p := hA0
  rw [Try.params6] at hA hval
  obtain ⟨v0, vs0, d0, ds0, p0, q0, hargs, rfl, rfl, h0, r0⟩ := trodAll_cons hA
  obtain ⟨v1, vs1, d1, ds1, p1, q1, rfl, rfl, rfl, h1, r1⟩ := trodAll_cons r0
  obtain ⟨v2, vs2, d2, ds2, p2, q2, rfl, rfl, rfl, h2, r2⟩ := trodAll_cons r1
  obtain ⟨rfl, rfl, rfl⟩ := trodAll_nil r2
  obtain rfl : args = #[v0, v1, v2] := by cases args; simp_all
  obtain ⟨rfl, rfl⟩ := trodVars_none hV
  obtain ⟨a0, rfl, rfl, rfl, w0⟩ := open_string Try.underlying9 (hval 0 9 v0 rfl rfl) h0
  obtain ⟨a1, rfl, rfl, rfl, w1⟩ := open_string Try.underlying9 (hval 1 9 v1 rfl rfl) h1
  obtain ⟨a2, rfl, rfl, rfl, w2⟩ := open_string Try.underlying9 (hval 2 9 v2 rfl rfl) h2
  clear hA0 hval0
  simp only [List.append_nil] at hW'
  refine (longest_walk a0 a1 a2 w0 w1 w2 W).mono fun e W' ⟨he, bel⟩ => ?_
  subst he
  exact ⟨_, rfl, _, _, _, [], [], [], hW', trodAll_mk1 (shut_bool Try.underlying4 _), (trodAll_cons_mk (shut_string Try.underlying9 w0) (trodAll_cons_mk (shut_string Try.underlying9 w1) (trodAll_cons_mk (shut_string Try.underlying9 w2) trodAll_mk0))), rfl, bel.frame _, fun h => by cases h⟩

theorem over : Rows.nameLongestRow.holds Try.pinned (OpenSpec.ofChange Rows.nameLongestSpec) :=
  OpenClaim.holds_of_wide 6 Try.f6 rfl rfl rfl rfl rfl rfl rfl ⟨rfl, rfl, rfl, rfl, rfl⟩ rfl rfl rfl rfl rfl (by kernel_rfl) Try.func6 (by kernel_rfl)
    (of_decide_eq_true (by kernel_rfl)) (by unfold Func.isWrapper; first | (rw [if_pos (by decide +kernel)]; kernel_rfl) | (rw [if_neg (by decide +kernel)]; exact ⟨rfl, rfl⟩))
    (fun os started H enc _ => lifted os started H enc)
end nameLongest

theorem nameLongest_holds : Rows.NameLongestSaid := nameLongest.over

end Go.Proofs.Ytghaphcifoknpab
