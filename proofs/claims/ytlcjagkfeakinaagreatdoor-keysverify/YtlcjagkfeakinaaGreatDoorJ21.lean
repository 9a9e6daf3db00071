/- Texts of this proof, joined: KVerW. -/
import Derived.Test.YtlcjagkfeakinaaGreatDoorJ20
/- KeysVerify: the walk. -/
namespace Go.Proofs.YtlcjagkfeakinaaGreatDoor
set_option linter.unusedVariables false
open Go.RowKit
set_option maxRecDepth 100000 in
set_option maxHeartbeats 1000000 in
theorem keysverify_gen (s text sign : ByteArray) (E M : Nat) (ok q : Bool) (hE : E < N.Lim) (HR : Hid (∀ W, Calls Tryz.prog 19 #[.string s] W fun e w' => N.RrPost E M ok W e w'))
    (HW : Hid (∀ W, Calls Tryz.prog 22 #[.string s, .string text, .string sign] W fun e w' => e = .returned (.bool q) ∧ Below W.heap.size W w'))
    (HP : Hid (∀ W, G.Rk W → Calls Tryz.prog 23 #[.string s, .string text, .string sign] W fun e w' => e = .returned (.bool q) ∧ Below W.heap.size W w')) (W : World) (hG : G.Rk W) :
    Calls Tryz.prog 5 #[.string s, .string text, .string sign] W fun e w' => e = .returned (.bool true) ∧ Below W.heap.size W w' := by
  have HX := Hid.mk kexamples_in
  have G0 := Hid.mk hG
  have HE := Hid.mk (N.mny_le E hE)
  clear hG
  cases ok with
  | false =>
    go_enter Tryz.func5, Tryz.ntmps5
    go_wp2_with fail
    refine (HX.out _ G0.out).mono ?_
    rintro e w1 ⟨rfl, hb1⟩
    go_wp2_with fail
    refine (HR.out _).mono ?_
    rintro e w2 ⟨⟨v, u, rfl, hv, hu⟩, hb2⟩
    have HV := Hid.mk hv
    have B2 := Hid.mk (bth hb1 hb2 hb1.size)
    clear hb1 hb2 hv hu
    go_wp2_with fail
    refine (HW.out _).mono ?_
    rintro e w4 ⟨rfl, hb4⟩
    have B4 := Hid.mk (bth B2.out hb4 B2.out.size)
    clear hb4
    go_wp2_with fail
    refine (HP.out _ (G0.out.below B4.out)).mono ?_
    rintro e w5 ⟨rfl, hb5⟩
    have B5 := Hid.mk (bth B4.out hb5 B4.out.size)
    clear hb5
    go_wp2
    go_ret
    exact ⟨by simp, B5.out⟩
  | true =>
    obtain ⟨c, hc⟩ : ∃ c, N.btl E = c := ⟨_, rfl⟩
    have HC := Hid.mk hc
    clear hc
    by_cases h3 : 320 < c
    · have c1 : (320 : Int) < (c : Int) := by omega
      go_enter Tryz.func5, Tryz.ntmps5
      go_wp2_with fail
      refine (HX.out _ G0.out).mono ?_
      rintro e w1 ⟨rfl, hb1⟩
      go_wp2_with fail
      refine (HR.out _).mono ?_
      rintro e w2 ⟨⟨v, u, rfl, hv, hu⟩, hb2⟩
      have HV := Hid.mk hv
      have B2 := Hid.mk (bth hb1 hb2 hb1.size)
      clear hb1 hb2 hv hu
      go_wp2_with fail
      refine (N.rbits_in _ _ _ HV.out (by have := HE.out; omega)).mono ?_
      rintro e w3 ⟨rfl, rfl⟩
      rw [HC.out]
      go_wp2
      go_ret
      exact ⟨rfl, B2.out⟩
    · have c1 : ¬ ((320 : Int) < (c : Int)) := by omega
      go_enter Tryz.func5, Tryz.ntmps5
      go_wp2_with fail
      refine (HX.out _ G0.out).mono ?_
      rintro e w1 ⟨rfl, hb1⟩
      go_wp2_with fail
      refine (HR.out _).mono ?_
      rintro e w2 ⟨⟨v, u, rfl, hv, hu⟩, hb2⟩
      have HV := Hid.mk hv
      have B2 := Hid.mk (bth hb1 hb2 hb1.size)
      clear hb1 hb2 hv hu
      go_wp2_with fail
      refine (N.rbits_in _ _ _ HV.out (by have := HE.out; omega)).mono ?_
      rintro e w3 ⟨rfl, rfl⟩
      rw [HC.out]
      go_wp2_with fail
      refine (HW.out _).mono ?_
      rintro e w4 ⟨rfl, hb4⟩
      have B4 := Hid.mk (bth B2.out hb4 B2.out.size)
      clear hb4
      go_wp2_with fail
      refine (HP.out _ (G0.out.below B4.out)).mono ?_
      rintro e w5 ⟨rfl, hb5⟩
      have B5 := Hid.mk (bth B4.out hb5 B4.out.size)
      clear hb5
      go_wp2
      go_ret
      exact ⟨by simp, B5.out⟩
theorem keysverify_walk (s : ByteArray) (hs : s.size ≤ 140737488351232) (text : ByteArray) (ht : text.size ≤ 140737488351232) (sign : ByteArray) (hg : sign.size ≤ 140737488351232) (W : World) (hG : G.Rk W) :
    Calls Tryz.prog 5 #[.string s, .string text, .string sign] W fun e w' => e = .returned (.bool true) ∧ Below W.heap.size W w' :=
  keysverify_gen s text sign _ _ _ _ (rsa_lim s).1 (Hid.mk fun W => N.rrsa_in s hs W) (Hid.mk fun W => rverify_in s text sign hs ht hg W) (Hid.mk fun W hG => verify_in s text sign (by omega) (by omega) W hG) W hG
end Go.Proofs.YtlcjagkfeakinaaGreatDoor
