/- NameTexts returns true for every two texts of together at most 1048576 bytes: what name makes of a text, and how it tells a name, is what the document says. -/
import Derived.ProofKit
import Derived.OpenShut
import Derived.ShutString
import Derived.JoinedCond
import Derived.Test.YtpngjmeinlcggaaExamples
import Derived.Test.YtpngjmeinlcggaaRefParse
import Derived.Test.YtpngjmeinlcggaaRefText
namespace Go.Proofs.Ytpngjmeinlcggaa
set_option linter.unusedVariables false
open Go.RowKit

theorem rParse_dot (w : World) :
    Calls Try.prog 19 #[.string ⟨#[46]⟩] w fun e w' => e = .returned (.tuple #[.string ⟨#[0]⟩, .int .i64 0]) ∧ Below w.heap.size w w' := by
  go_enter Try.func19, Try.ntmps19
  go_wp2
  go_ret2
  exact ⟨rfl, Below.refl _ _⟩

theorem rParse_in (s : ByteArray) (hs : s.size ≤ 1048576) (w : World) :
    Calls Try.prog 19 #[.string s] w fun e w' => e = .returned (resV (parseR s.data.toList)) ∧ Below w.heap.size w w' := by
  rw [parse_same]
  by_cases h : s.data.toList = [46]
  · have e : s = ⟨#[46]⟩ := ba_ext h
    subst e
    exact rParse_dot w
  · exact rParse_go s hs h w

theorem same_text (s : ByteArray) (hs : s.size ≤ maxLen) : ∃ (t : ByteArray) (k : Int) (ok : Bool), ((k == 0) = ok) ∧ (ok = false → k = 2) ∧
    (∀ w, Calls Try.prog 20 #[.string s] w fun e w' => e = .returned (.tuple #[.string t, .int .i64 k]) ∧ Below w.heap.size w w') ∧
    (∀ w, Calls Try.prog 21 #[.string s] w fun e w' => e = .returned (.tuple #[.string t, .bool ok]) ∧ Below w.heap.size w w') := by
  by_cases h : IsName s
  · obtain ⟨ls, ho, rfl⟩ := h
    refine ⟨⟨(txtN ls).toArray⟩, 0, true, rfl, by simp, text_in ls ho, fun w => ?_⟩
    by_cases hne : ls = []
    · subst hne; exact rText_root w
    · rw [txtN, if_neg hne]; exact rText_go ls ho hne w
  · exact ⟨_, 2, false, rfl, fun _ => rfl, text_no s hs h, rText_no s hs h⟩

theorem nmR_code (st : List UInt8 × Bool) : (nmR st).2 ≤ 7 := by
  unfold nmR
  split
  · show 2 ≤ 7; omega
  · split
    · show 0 ≤ 7; omega
    · show 3 ≤ 7; omega
theorem parseR_code (l : List UInt8) : (parseR l).2 ≤ 7 := by
  unfold parseR
  split
  · show 0 ≤ 7; omega
  · split
    · show 7 ≤ 7; omega
    · split
      · show 7 ≤ 7; omega
      · exact nmR_code _

set_option maxRecDepth 100000 in
set_option maxHeartbeats 2000000 in
theorem texts_walk (s n : ByteArray) (hs : s.size ≤ 1048576) (hn : n.size ≤ 1048576) (w : World) :
    Calls Try.prog 4 #[.string s, .string n] w fun e w' => e = .returned (.bool true) ∧ Below w.heap.size w w' := by
  have P1 := Hid.mk (parse_in s (by unfold maxLen; omega))
  have P2 := Hid.mk (rParse_in s hs)
  obtain ⟨t, k, ok, hk1, hk2, t1, t2⟩ := same_text n (by unfold maxLen; omega)
  have T1 := Hid.mk t1
  have T2 := Hid.mk t2
  clear t1 t2
  have hpk : (parseR s.data.toList).2 ≤ 7 := parseR_code _
  generalize parseR s.data.toList = r at P1 P2 hpk
  obtain ⟨rx, rc⟩ := r
  obtain ⟨x, hx⟩ : ∃ x : ByteArray, x = ⟨rx.toArray⟩ := ⟨_, rfl⟩
  have b1 : (x.toList == x.toList) = true := by simp
  have b2 : (t.toList == t.toList) = true := by simp
  simp only [resV, ← hx] at P1 P2
  clear hx
  have hw : IntKind.i64.wrap (rc : Int) = (rc : Int) := by rw [IntKind.wrap_i64]; omega
  cases ok with
  | true =>
    obtain rfl : k = 0 := by simpa using hk1
    clear hk1 hk2
    go_enter Try.func4, Try.ntmps4
    go_wp2_with fail
    refine (examples_in _).mono ?_
    rintro e w1 ⟨rfl, hb1⟩
    go_wp2_with fail
    refine (P1.out _).mono ?_
    rintro e w2 ⟨rfl, hb2⟩
    go_wp2_with fail
    refine (P2.out _).mono ?_
    rintro e w3 ⟨rfl, hb3⟩
    go_wp2_with fail
    refine (T1.out _).mono ?_
    rintro e w4 ⟨rfl, hb4⟩
    go_wp2_with fail
    refine (T2.out _).mono ?_
    rintro e w5 ⟨rfl, hb5⟩
    go_wp2
    go_ret
    refine ⟨?_, bthen hb1 (bthen hb2 (bthen hb3 (bthen hb4 hb5)))⟩
    first | rfl | simp
  | false =>
    obtain rfl : k = 2 := hk2 rfl
    clear hk1 hk2
    go_enter Try.func4, Try.ntmps4
    go_wp2_with fail
    refine (examples_in _).mono ?_
    rintro e w1 ⟨rfl, hb1⟩
    go_wp2_with fail
    refine (P1.out _).mono ?_
    rintro e w2 ⟨rfl, hb2⟩
    go_wp2_with fail
    refine (P2.out _).mono ?_
    rintro e w3 ⟨rfl, hb3⟩
    go_wp2_with fail
    refine (T1.out _).mono ?_
    rintro e w4 ⟨rfl, hb4⟩
    go_wp2_with fail
    refine (T2.out _).mono ?_
    rintro e w5 ⟨rfl, hb5⟩
    go_wp2
    go_ret
    refine ⟨?_, bthen hb1 (bthen hb2 (bthen hb3 (bthen hb4 hb5)))⟩
    first | rfl | simp

namespace nameTextsUpto
open Go.ChangeShapes Go.WideShapes Go.ChangeAt Go.RowKit
open Go.ChangeMaps (open_string shut_string)

theorem own : ownKnob Try.prog.godebug = none := by kernel_rfl

set_option maxRecDepth 100000 in
theorem lifted (os : Os) (started : os.Started) (H : Type) (enc : TypeId × Value → H) (F : Stop.Interp) :
    ReturnsInHanded {} Try.checked os 4 .any ((Rows.OpenSpec.upto Rows.nameTextsSpec).pre6 enc Try.prog Try.f4 Rows.nameTextsUptoRow.domain false) (((Rows.OpenSpec.upto Rows.nameTextsSpec).at F).post enc Try.prog Try.f4 false true false false) := by
  refine returnsInHanded_of_cond (C := Try.checked) (s := (Rows.OpenSpec.upto Rows.nameTextsSpec)) (k := Rows.uptoSmall) rfl own started (by kernel_rfl) Try.func4
    (OpenSpec.witness (enc := enc) (C := Try.checked) (s := (Rows.OpenSpec.upto Rows.nameTextsSpec)) (k := Rows.uptoSmall) rfl false ⟨#[], #[.string ByteArray.empty, .string ByteArray.empty], []⟩ 8 (by kernel_rfl) (by kernel_rfl) (by kernel_rfl)
      (x := ([.lit (.string []), .lit (.string [])], [], [])) (by kernel_rfl) rfl (by kernel_rfl)) ?_
  intro W base args ds gs before hval0 hW hcnd hk0 _
  have hk := hk0
  have hval : ∀ (j : Nat) t v, Try.f4.params[j]? = some t → args[j]? = some v → Value.okWide Try.prog W .any base t v := hval0
  have hW' := hW
  obtain ⟨p, q, hA0, hV, rfl, hfz, hnd⟩ := hW
  have hA : DataW.TrodAll enc Try.prog W 0 (fun _ => true) true Try.f4.params.toList args.toList ds p := hA0
  rw [Try.params4] at hA hval
  obtain ⟨v0, vs0, d0, ds0, p0, q0, hargs, rfl, rfl, h0, r0⟩ := trodAll_cons hA
  obtain ⟨v1, vs1, d1, ds1, p1, q1, rfl, rfl, rfl, h1, r1⟩ := trodAll_cons r0
  obtain ⟨rfl, rfl, rfl⟩ := trodAll_nil r1
  obtain rfl : args = #[v0, v1] := by cases args; simp_all
  obtain ⟨rfl, rfl⟩ := trodVars_none hV
  obtain ⟨a0, rfl, rfl, rfl, w0⟩ := open_string Try.underlying9 (hval 0 9 v0 rfl rfl) h0
  obtain ⟨a1, rfl, rfl, rfl, w1⟩ := open_string Try.underlying9 (hval 1 9 v1 rfl rfl) h1
  have hkk : Rows.uptoBulkAll (H := H) ([.lit (.string a0.data.toList), .lit (.string a1.data.toList)] ++ []) ≤ 1048576 := of_decide_eq_true hk
  simp only [List.append_nil, Rows.uptoBulkAll, Rows.uptoBulk, size_list] at hkk
  have b0 : a0.size ≤ 1048576 := by omega
  have b1 : a1.size ≤ 1048576 := by omega
  clear hA0 hval0 hk hkk hk0
  simp only [List.append_nil] at hW'
  refine (texts_walk a0 a1 b0 b1 W).mono fun e W' ⟨he, bel⟩ => ?_
  subst he
  exact ⟨_, rfl, _, _, _, [], [], [], hW', trodAll_mk1 (shut_bool Try.underlying4 _), (trodAll_cons_mk (shut_string Try.underlying9 w0) (trodAll_cons_mk (shut_string Try.underlying9 w1) trodAll_mk0)), rfl, bel.frame _, fun h => by cases h⟩

theorem over : Rows.nameTextsUptoRow.holds Try.pinned (Rows.OpenSpec.upto Rows.nameTextsSpec) :=
  OpenClaim.holds_of_cond 4 Try.f4 rfl rfl rfl rfl rfl rfl rfl ⟨rfl, rfl, rfl, rfl, rfl⟩ rfl rfl rfl rfl rfl (by kernel_rfl) Try.func4 (by kernel_rfl)
    (of_decide_eq_true (by kernel_rfl)) (by unfold Func.isWrapper; first | (rw [if_pos (by decide +kernel)]; kernel_rfl) | (rw [if_neg (by decide +kernel)]; exact ⟨rfl, rfl⟩))
    (fun os started H enc _ F => lifted os started H enc F)
end nameTextsUpto

theorem nameTextsUpto_holds : Rows.NameTextsUptoSaid := nameTextsUpto.over

end Go.Proofs.Ytpngjmeinlcggaa
