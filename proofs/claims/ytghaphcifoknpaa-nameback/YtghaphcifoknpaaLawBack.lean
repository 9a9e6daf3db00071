/- NameBack returns true for every text and bits: a name's text tells it again, its labels make it again, and with any letters it is the same. No conditions. -/
import Derived.ProofKit
import Derived.OpenShut
import Derived.ShutString
import Derived.Test.YtghaphcifoknpaaExamples
import Derived.Test.YtghaphcifoknpaaFacts
import Derived.Test.YtghaphcifoknpaaBackFacts
namespace Go.Proofs.Ytghaphcifoknpaa
set_option linter.unusedVariables false
open Go.RowKit

theorem lower_yes (ls : List (List UInt8)) (ho : OkN ls) (w : World) :
    Calls Try.prog 16 #[.string (nm ls)] w fun e w' => e = .returned (.string (nm (lowN ls))) ∧ Below w.heap.size w w' := by
  go_enter Try.func16, Try.ntmps16
  go_wp2_with fail
  refine (right_yes ls ho _).mono ?_
  rintro e w1 ⟨rfl, hb1⟩
  go_wp2_with fail
  refine (lowered_nm ls ho _).mono ?_
  rintro e w2 ⟨rfl, hb2⟩
  go_wp2
  go_ret
  exact ⟨rfl, bthen hb1 hb2⟩

theorem back_no (s : ByteArray) (hs : s.size ≤ maxLen) (h : ¬ IsName s) (x : Int) (w : World) :
    Calls Try.prog 7 #[.string s, .int .u64 x] w fun e w' => e = .returned (.bool true) ∧ Below w.heap.size w w' := by
  go_enter Try.func7, Try.ntmps7
  go_wp2_with fail
  refine (examples_in _).mono ?_
  rintro e w1 ⟨rfl, hb1⟩
  go_wp2_with fail
  refine (right_no s h hs _).mono ?_
  rintro e w2 ⟨rfl, hb2⟩
  go_wp2_with fail
  refine (labels_no s hs h _).mono ?_
  rintro e w3 ⟨rfl, hb3⟩
  go_wp2
  go_ret
  exact ⟨by first | rfl | simp, bthen hb1 (bthen hb2 hb3)⟩

set_option maxRecDepth 100000 in
set_option maxHeartbeats 4000000 in
theorem back_go (ls : List (List UInt8)) (ho : OkN ls) (bits : Nat) (hbits : bits < 18446744073709551616) (w : World) :
    Calls Try.prog 7 #[.string (nm ls), .int .u64 (bits : Int)] w fun e w' => e = .returned (.bool true) ∧ Below w.heap.size w w' := by
  obtain ⟨cs, hcs, hlow, hcn⟩ := cas_name ho bits
  have hT := text_in ls ho
  have htl : (⟨(txtN ls).toArray⟩ : ByteArray).size ≤ maxLen := by
    rw [ba_size]
    have h1 := txt_len ls
    have h2 := ho.len
    have : (txtN ls).length ≤ 2000 := by
      unfold txtN; split
      · simp
      · omega
    unfold maxLen; omega
  have hP := parse_in ⟨(txtN ls).toArray⟩ htl
  rw [ba_toList, parse_txt ho] at hP
  have hP' : ∀ w, Calls Try.prog 18 #[.string ⟨(txtN ls).toArray⟩] w fun e w' => e = .returned (.tuple #[.string (nm ls), .int .i64 0]) ∧ Below w.heap.size w w' := hP
  have hOf : ∀ v w, Strs w.heap.size w v ls → Calls Try.prog 11 #[v] w fun e w' => e = .returned (.tuple #[.string (nm ls), .int .i64 0]) ∧ Below w.heap.size w w' := by
    intro v w h
    have hcnt := ho.count
    have := of_in v ls w h (by unfold maxLen; omega) (fun l hl => by have := (ho.lab l hl).2; unfold maxLen; omega)
    rw [ofR_right ho.lab, if_pos (by rw [nm_size]; have := ho.len; omega)] at this
    exact this
  have hC := cased_yes ls ho bits hbits
  rw [hcn] at hC
  have hE := equal_yes cs ls hcs ho
  rw [show eqB cs ls = true by rw [eqB, decide_eq_true_iff]; exact hlow] at hE
  have hL1 := lower_yes cs hcs
  rw [hlow] at hL1
  have hL2 := lower_yes ls ho
  have hK := compare_yes cs ls hcs ho
  have hk0 : cmpN cs ls = 0 := by
    unfold cmpN; rw [hlow]
    have : ∀ a : List (List UInt8), cmpR a a = 0 := fun a => by induction a with | nil => rfl | cons x a ih => simp [cmpR, ih]
    exact this _
  rw [hk0] at hK
  have H1 := Hid.mk hT
  have H2 := Hid.mk hP'
  have H3 := Hid.mk hOf
  have H4 := Hid.mk hC
  have H5 := Hid.mk hE
  have H6 := Hid.mk hL1
  have H7 := Hid.mk hL2
  have H8 := Hid.mk hK
  have HR := Hid.mk (right_yes ls ho)
  have HB := Hid.mk (labels_yes ls ho)
  clear hT hP hP' hOf hC hE hL1 hL2 hK hk0 hcs hlow hcn htl hbits
  generalize (⟨(txtN ls).toArray⟩ : ByteArray) = t at H1 H2
  generalize nm cs = c at H4 H5 H6 H8
  generalize nm (lowN ls) = lo at H6 H7
  have hnn : ((nm ls).toList == (nm ls).toList) = true := by simp
  have hlo : (lo.toList == lo.toList) = true := by simp
  generalize nm ls = n at *
  clear cs
  go_enter Try.func7, Try.ntmps7
  go_wp2_with fail
  refine (examples_in _).mono ?_
  rintro e w1 ⟨rfl, hb1⟩
  go_wp2_with fail
  refine (HR.out _).mono ?_
  rintro e w2 ⟨rfl, hb2⟩
  go_wp2_with fail
  refine (H1.out _).mono ?_
  rintro e w3 ⟨rfl, hb3⟩
  go_wp2_with fail
  refine (H2.out _).mono ?_
  rintro e w4 ⟨rfl, hb4⟩
  go_wp2_with fail
  refine (HB.out _).mono ?_
  rintro e w5 ⟨⟨v, rfl, hv⟩, hb5⟩
  go_wp2_with fail
  refine (H3.out _ _ hv).mono ?_
  rintro e w6 ⟨rfl, hb6⟩
  clear hv
  go_wp2_with fail
  refine (H4.out _).mono ?_
  rintro e w7 ⟨rfl, hb7⟩
  go_wp2_with fail
  refine (H5.out _).mono ?_
  rintro e w8 ⟨rfl, hb8⟩
  go_wp2_with fail
  refine (H6.out _).mono ?_
  rintro e w9 ⟨rfl, hb9⟩
  go_wp2_with fail
  refine (H7.out _).mono ?_
  rintro e w10 ⟨rfl, hb10⟩
  go_wp2_with fail
  refine (H8.out _).mono ?_
  rintro e w11 ⟨rfl, hb11⟩
  go_wp2
  go_ret
  exact ⟨by first | rfl | simp, bthen hb1 (bthen hb2 (bthen hb3 (bthen hb4 (bthen hb5 (bthen hb6 (bthen hb7 (bthen hb8 (bthen hb9 (bthen hb10 hb11)))))))))⟩

theorem back_walk (s : ByteArray) (x : Int) (hs : s.size ≤ maxLen) (hx : (Lit.int .u64 x).wf = true) (w : World) :
    Calls Try.prog 7 #[.string s, .int .u64 x] w fun e w' => e = .returned (.bool true) ∧ Below w.heap.size w w' := by
  by_cases h : IsName s
  · obtain ⟨ls, ho, rfl⟩ := h
    have hb : 0 ≤ x ∧ x < 18446744073709551616 := by
      have := Go.bounds_u64 hx
      omega
    obtain ⟨n, rfl⟩ := Int.eq_ofNat_of_zero_le hb.1
    exact back_go ls ho n (by omega) w
  · exact back_no s hs h x w

namespace nameBack
open Go.ChangeShapes Go.WideShapes Go.ChangeAt Go.RowKit
open Go.ChangeMaps (open_string shut_string)

theorem own : ownKnob Try.prog.godebug = none := by kernel_rfl

set_option maxRecDepth 100000 in
theorem lifted (os : Os) (started : os.Started) (H : Type) (enc : TypeId × Value → H) :
    ReturnsInHanded {} Try.checked os 7 .any (Rows.nameBackSpec.pre6 enc Try.prog Try.f7 Rows.nameBackRow.domain false) (Rows.nameBackSpec.post enc Try.prog Try.f7 false true false false) := by
  refine returnsInHanded_of_change (C := Try.checked) own started (by kernel_rfl) Try.func7
    (ChangeSpec.witness6 (enc := enc) (C := Try.checked) false ⟨#[], #[.string ByteArray.empty, .int .u64 0], []⟩ 8 (by kernel_rfl) (by kernel_rfl) (by kernel_rfl) (by kernel_rfl)) ?_
  intro W base args ds gs before hval0 hW hcnd _
  have hval : ∀ (j : Nat) t v, Try.f7.params[j]? = some t → args[j]? = some v → Value.okWide Try.prog W .any base t v := hval0
  have hW' := hW
  obtain ⟨p, q, hA0, hV, rfl, hfz, hnd⟩ := hW
  have hA : DataW.TrodAll enc Try.prog W 0 (fun _ => true) true Try.f7.params.toList args.toList ds p := hA0
  rw [Try.params7] at hA hval
  obtain ⟨v0, vs0, d0, ds0, p0, q0, hargs, rfl, rfl, h0, r0⟩ := trodAll_cons hA
  obtain ⟨v1, vs1, d1, ds1, p1, q1, rfl, rfl, rfl, h1, r1⟩ := trodAll_cons r0
  obtain ⟨rfl, rfl, rfl⟩ := trodAll_nil r1
  obtain rfl : args = #[v0, v1] := by cases args; simp_all
  obtain ⟨rfl, rfl⟩ := trodVars_none hV
  obtain ⟨a0, rfl, rfl, rfl, w0⟩ := open_string Try.underlying9 (hval 0 9 v0 rfl rfl) h0
  obtain ⟨a1, rfl, rfl, rfl, w1⟩ := open_int Try.underlying44 (hval 1 44 v1 rfl rfl) h1
  clear hA0 hval0
  simp only [List.append_nil] at hW'
  refine (back_walk a0 a1 w0 w1 W).mono fun e W' ⟨he, bel⟩ => ?_
  subst he
  exact ⟨_, rfl, _, _, _, [], [], [], hW', trodAll_mk1 (shut_bool Try.underlying4 _), (trodAll_cons_mk (shut_string Try.underlying9 w0) (trodAll_cons_mk (shut_int Try.underlying44 w1) trodAll_mk0)), rfl, bel.frame _, fun h => by cases h⟩

theorem over : Rows.nameBackRow.holds Try.pinned (OpenSpec.ofChange Rows.nameBackSpec) :=
  OpenClaim.holds_of_wide 7 Try.f7 rfl rfl rfl rfl rfl rfl rfl ⟨rfl, rfl, rfl, rfl, rfl⟩ rfl rfl rfl rfl rfl (by kernel_rfl) Try.func7 (by kernel_rfl)
    (of_decide_eq_true (by kernel_rfl)) (by unfold Func.isWrapper; first | (rw [if_pos (by decide +kernel)]; kernel_rfl) | (rw [if_neg (by decide +kernel)]; exact ⟨rfl, rfl⟩))
    (fun os started H enc _ => lifted os started H enc)
end nameBack

theorem nameBack_holds : Rows.NameBackSaid := nameBack.over

end Go.Proofs.Ytghaphcifoknpaa
