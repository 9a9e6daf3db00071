/- Texts of this proof, joined: ZSides, ZLaid. -/
import Derived.Test.YtaiakpigljcjbaaGreatDoorJ16
import Derived.OpenShut
import Derived.WalkKit
import Derived.ProofKit
import Derived.Lib.LaidTab
import Derived.Deep.DeepHandedRow
import Derived.Test.YtaiakpigljcjbaaGreatDoorTie
import Derived.Test.YtaiakpigljcjbaaGreatDoorCards
/- DenialSides. -/
namespace Go.Proofs.YtaiakpigljcjbaaGreatDoor
set_option linter.unusedVariables false
set_option linter.unusedSimpArgs false
open Go.RowKit
attribute [local go_sem ↓] storeAt_lk loadAt_lk
theorem cmpN_ne {a b : List (List UInt8)} (h : eqB a b = false) : cmpN a b ≠ 0 := fun e => by
  have h1 := cmpR_zero e
  have h2 : lowN a = lowN b := List.reverse_inj.1 h1
  unfold eqB at h
  rw [decide_eq_true h2] at h
  simp at h
theorem cmpN_anti (a b : List (List UInt8)) : cmpN b a = - cmpN a b := cmpR_anti _ _
theorem cmpN_refl (a : List (List UInt8)) : cmpN a a = 0 := cmpR_refl _
theorem side_facts {a n b : List (List UInt8)} (h1 : eqB a b = false) (h2 : eqB a n = false) (h3 : eqB n b = false) : btwB b n a = !btwB a n b ∧ btwB a a b = false ∧ btwB a b b = false ∧ btwB a n a = true := by
  have z0 := cmpN_ne h1
  have x0 := cmpN_ne h2
  have y0 := cmpN_ne h3
  have e1 := cmpN_anti a n
  have e2 := cmpN_anti a b
  unfold btwB gapB
  rw [cmpN_refl a, cmpN_refl b, e2, e1]
  generalize cmpN a b = z at *
  generalize cmpN a n = x at *
  generalize cmpN n b = y at *
  refine ⟨?_, ?_, ?_, ?_⟩
  · by_cases hz : z < 0
    · rw [if_neg (by omega), if_pos hz]
      by_cases hx : 0 < -x <;> by_cases hy : y < 0
      · rw [decide_eq_true hx, decide_eq_true hy, decide_eq_false (by omega), decide_eq_false (by omega)]; rfl
      · rw [decide_eq_true hx, decide_eq_false hy, decide_eq_true (show 0 < y by omega), decide_eq_false (by omega)]; rfl
      · rw [decide_eq_false hx, decide_eq_true hy, decide_eq_false (by omega), decide_eq_true (show -x < 0 by omega)]; rfl
      · rw [decide_eq_false hx, decide_eq_false hy, decide_eq_true (show 0 < y by omega)]; rfl
    · rw [if_pos (by omega), if_neg hz]
      by_cases hx : 0 < -x <;> by_cases hy : y < 0
      · rw [decide_eq_true hx, decide_eq_true hy, decide_eq_false (by omega), decide_eq_false (by omega)]; rfl
      · rw [decide_eq_true hx, decide_eq_false hy, decide_eq_true (show 0 < y by omega), decide_eq_false (by omega)]; rfl
      · rw [decide_eq_false hx, decide_eq_true hy, decide_eq_false (by omega), decide_eq_true (show -x < 0 by omega)]; rfl
      · rw [decide_eq_false hx, decide_eq_false hy, decide_eq_true (show 0 < y by omega), decide_eq_true (show -x < 0 by omega)]; rfl
  · by_cases hz : z < 0
    · rw [if_pos hz]; simp
    · rw [if_neg hz, decide_eq_false hz]; simp
  · by_cases hz : z < 0
    · rw [if_pos hz]; simp
    · rw [if_neg hz, decide_eq_false (show ¬ 0 < -z by omega)]; simp
  · rw [if_neg (by omega)]
    by_cases hx : 0 < -x
    · rw [decide_eq_true hx]; rfl
    · rw [decide_eq_true (show -x < 0 by omega)]; simp
structure ZG (W : World) : Prop where
  ok : True
theorem zg_of {W : World} {l : List (String × DataW Unit)} (h : laidMet Tryz.prog l W) (hs : W.ShapedOpen Tryz.prog) : ZG W := ⟨trivial⟩
theorem right_dec (x : ByteArray) (hx : x.size ≤ maxLen) : ∃ D : Bool, (D = true → IsName x) ∧ ∀ w, Calls Tryz.prog 11 #[.string x] w fun e w' => e = .returned (.bool D) ∧ Below w.heap.size w w' := by
  by_cases hn : IsName x
  · obtain ⟨ls, ho, rfl⟩ := hn
    exact ⟨true, fun _ => ⟨ls, ho, rfl⟩, right_yes ls ho⟩
  · exact ⟨false, fun h => by simp at h, fun w => right_no x hn hx w⟩
set_option maxRecDepth 100000 in
set_option maxHeartbeats 2000000 in
theorem sides_gen (a n b : ByteArray) (RA RN RB E1 E2 E3 : Bool) (W : World) (h1 : Hid (∀ w, Calls Tryz.prog 11 #[.string a] w fun e w' => e = .returned (.bool RA) ∧ Below w.heap.size w w')) (h2 : Hid (∀ w, Calls Tryz.prog 11 #[.string n] w fun e w' => e = .returned (.bool RN) ∧ Below w.heap.size w w')) (h3 : Hid (∀ w, Calls Tryz.prog 11 #[.string b] w fun e w' => e = .returned (.bool RB) ∧ Below w.heap.size w w')) (hE : RA = true → RN = true → RB = true → Hid (∀ w, Calls Tryz.prog 12 #[.string a, .string b] w fun e w' => e = .returned (.bool E1) ∧ Below w.heap.size w w') ∧ Hid (∀ w, Calls Tryz.prog 12 #[.string a, .string n] w fun e w' => e = .returned (.bool E2) ∧ Below w.heap.size w w') ∧ Hid (∀ w, Calls Tryz.prog 12 #[.string n, .string b] w fun e w' => e = .returned (.bool E3) ∧ Below w.heap.size w w')) (hB : RA = true → RN = true → RB = true → E1 = false → E2 = false → E3 = false → ∃ B, Hid (∀ w, Calls Tryz.prog 10 #[.string a, .string n, .string b] w fun e w' => e = .returned (.bool B) ∧ Below w.heap.size w w') ∧ Hid (∀ w, Calls Tryz.prog 10 #[.string b, .string n, .string a] w fun e w' => e = .returned (.bool (!B)) ∧ Below w.heap.size w w') ∧ Hid (∀ w, Calls Tryz.prog 10 #[.string a, .string a, .string b] w fun e w' => e = .returned (.bool false) ∧ Below w.heap.size w w') ∧ Hid (∀ w, Calls Tryz.prog 10 #[.string a, .string b, .string b] w fun e w' => e = .returned (.bool false) ∧ Below w.heap.size w w') ∧ Hid (∀ w, Calls Tryz.prog 10 #[.string a, .string n, .string a] w fun e w' => e = .returned (.bool true) ∧ Below w.heap.size w w')) :
    Calls Tryz.prog 4 #[.string a, .string n, .string b] W fun e w' => e = .returned (.bool true) ∧ Below W.heap.size W w' := by
  have HX := Hid.mk examples9_in
  have HE := Hid.mk hE
  have HB := Hid.mk hB
  clear hE hB
  have F := Fm.start W
  go_enter Tryz.func4, Tryz.ntmps4
  go_wp2_with fail
  refine (HX.out _).mono ?_
  rintro e u0 ⟨rfl, hb⟩
  replace F := F.blk hb
  clear hb
  go_wp2_with fail
  refine (h1.out _).mono ?_
  rintro e uRA ⟨rfl, hb⟩
  replace F := F.blk hb
  clear hb
  cases RA with
  | false =>
    go_wp2
    go_ret
    exact ⟨rfl, F.bel⟩
  | true =>
    go_wp2_with fail
    refine (h2.out _).mono ?_
    rintro e uRN ⟨rfl, hb⟩
    replace F := F.blk hb
    clear hb
    cases RN with
    | false =>
      go_wp2
      go_ret
      exact ⟨rfl, F.bel⟩
    | true =>
      go_wp2_with fail
      refine (h3.out _).mono ?_
      rintro e uRB ⟨rfl, hb⟩
      replace F := F.blk hb
      clear hb
      cases RB with
      | false =>
        go_wp2
        go_ret
        exact ⟨rfl, F.bel⟩
      | true =>
        obtain ⟨e1, e2, e3⟩ := HE.out (by first | rfl | trivial) (by first | rfl | trivial) (by first | rfl | trivial)
        have HB2 := Hid.mk (HB.out (by first | rfl | trivial) (by first | rfl | trivial) (by first | rfl | trivial))
        clear HE HB
        go_wp2_with fail
        refine (e1.out _).mono ?_
        rintro e uE1 ⟨rfl, hb⟩
        replace F := F.blk hb
        clear hb
        cases E1 with
        | true =>
          go_wp2
          go_ret
          exact ⟨rfl, F.bel⟩
        | false =>
          go_wp2_with fail
          refine (e2.out _).mono ?_
          rintro e uE2 ⟨rfl, hb⟩
          replace F := F.blk hb
          clear hb
          cases E2 with
          | true =>
            go_wp2
            go_ret
            exact ⟨rfl, F.bel⟩
          | false =>
            go_wp2_with fail
            refine (e3.out _).mono ?_
            rintro e uE3 ⟨rfl, hb⟩
            replace F := F.blk hb
            clear hb
            cases E3 with
            | true =>
              go_wp2
              go_ret
              exact ⟨rfl, F.bel⟩
            | false =>
              obtain ⟨B, b1, b2, b3, b4, b5⟩ := HB2.out (by first | rfl | trivial) (by first | rfl | trivial) (by first | rfl | trivial)
              clear HB2
              cases B with
              | false =>
                go_wp2_with fail
                refine (b1.out _).mono ?_
                rintro e v1 ⟨rfl, hb⟩
                replace F := F.blk hb
                clear hb
                go_wp2_with fail
                refine (b2.out _).mono ?_
                rintro e v2 ⟨rfl, hb⟩
                replace F := F.blk hb
                clear hb
                go_wp2_with fail
                refine (b3.out _).mono ?_
                rintro e v3 ⟨rfl, hb⟩
                replace F := F.blk hb
                clear hb
                go_wp2_with fail
                refine (b4.out _).mono ?_
                rintro e v4 ⟨rfl, hb⟩
                replace F := F.blk hb
                clear hb
                go_wp2_with fail
                refine (b5.out _).mono ?_
                rintro e v5 ⟨rfl, hb⟩
                replace F := F.blk hb
                clear hb
                go_wp2
                go_ret
                exact ⟨by first | rfl | simp, F.bel⟩
              | true =>
                go_wp2_with fail
                refine (b1.out _).mono ?_
                rintro e v1 ⟨rfl, hb⟩
                replace F := F.blk hb
                clear hb
                go_wp2_with fail
                refine (b2.out _).mono ?_
                rintro e v2 ⟨rfl, hb⟩
                replace F := F.blk hb
                clear hb
                go_wp2_with fail
                refine (b3.out _).mono ?_
                rintro e v3 ⟨rfl, hb⟩
                replace F := F.blk hb
                clear hb
                go_wp2_with fail
                refine (b4.out _).mono ?_
                rintro e v4 ⟨rfl, hb⟩
                replace F := F.blk hb
                clear hb
                go_wp2_with fail
                refine (b5.out _).mono ?_
                rintro e v5 ⟨rfl, hb⟩
                replace F := F.blk hb
                clear hb
                go_wp2
                go_ret
                exact ⟨by first | rfl | simp, F.bel⟩
theorem sides_walk (a : ByteArray) (ha : a.size ≤ 140737488355328) (n : ByteArray) (hn : n.size ≤ 140737488355328) (b : ByteArray) (hb : b.size ≤ 140737488355328) (W : World) (hG : ZG W) : Calls Tryz.prog 4 #[.string a, .string n, .string b] W fun e w' => e = .returned (.bool true) ∧ Below W.heap.size W w' := by
  have m1 : a.size ≤ maxLen := by unfold maxLen; omega
  have m2 : n.size ≤ maxLen := by unfold maxLen; omega
  have m3 : b.size ≤ maxLen := by unfold maxLen; omega
  obtain ⟨RA, hA, r1⟩ := right_dec a m1
  obtain ⟨RN, hN, r2⟩ := right_dec n m2
  obtain ⟨RB, hB, r3⟩ := right_dec b m3
  by_cases hall : RA = true ∧ RN = true ∧ RB = true
  · obtain ⟨e1, e2, e3⟩ := hall
    obtain ⟨la, oa, rfl⟩ := hA e1
    obtain ⟨ln, on, rfl⟩ := hN e2
    obtain ⟨lb, ob, rfl⟩ := hB e3
    refine sides_gen _ _ _ RA RN RB (eqB la lb) (eqB la ln) (eqB ln lb) W r1 r2 r3 (fun _ _ _ => ⟨equal_yes la lb oa ob, equal_yes la ln oa on, equal_yes ln lb on ob⟩) fun _ _ _ q1 q2 q3 => ?_
    obtain ⟨f1, f2, f3, f4⟩ := side_facts q1 q2 q3
    refine ⟨btwB la ln lb, btw_yes la ln lb oa on ob, fun w => ?_, fun w => ?_, fun w => ?_, fun w => ?_⟩
    · have := btw_yes lb ln la ob on oa w; rwa [f1] at this
    · have := btw_yes la la lb oa oa ob w; rwa [f2] at this
    · have := btw_yes la lb lb oa ob ob w; rwa [f3] at this
    · have := btw_yes la ln la oa on oa w; rwa [f4] at this
  · exact sides_gen a n b RA RN RB true true true W r1 r2 r3 (fun q1 q2 q3 => absurd ⟨q1, q2, q3⟩ hall) (fun q1 q2 q3 => absurd ⟨q1, q2, q3⟩ hall)
end Go.Proofs.YtaiakpigljcjbaaGreatDoor
/- A world for the witnesses: what the row lists lies there; no walk reads it. -/
namespace Go.Proofs.YtaiakpigljcjbaaGreatDoor
set_option linter.unusedVariables false
open Go.RowKit
def klit1 : DataW Unit → List Value
  | .lit (.int k n) => [.int k n]
  | .lit (.string s) => [.string ⟨s.toArray⟩]
  | _ => []
def kflat2 : DataW Unit → Array Value
  | .agg l => (l.flatMap fun x => match x with
    | .agg l2 => l2.flatMap klit1
    | x => klit1 x).toArray
  | _ => #[]
def kerrS : DataW Unit → ByteArray
  | .iface _ (.ptr (.agg [.lit (.string s)])) => ⟨s.toArray⟩
  | _ => ⟨#[]⟩
noncomputable def laidWorld (os : Os) : World :=
  let N := (World.settled Tryz.prog os).heap.size
  let w0 := World.holding Tryz.prog os ⟨#[.cells #[.string (kerrS Rows.laid_strconv_ErrSyntax)] 245, .cells #[.string (kerrS Rows.laid_strconv_ErrRange)] 245], #[], []⟩
  let put (h : Array Obj) (g : Nat) (cs : Array Value) : Array Obj := h.modify g fun
    | .cells _ t frozen => .cells cs t frozen
    | o => o
  let h0 := put w0.heap 1 (kflat2 Rows.laid_guidepost_data_typeTexts)
  let h2 := put h0 2 (kflat2 Rows.laid_internal_strconv_uint64pow10)
  let h3 := put h2 3 #[.iface 243 (.pointer (some ⟨N, 0, none⟩))]
  let h4 := put h3 4 #[.iface 243 (.pointer (some ⟨N + 1, 0, none⟩))]
  let h5 := put h4 7 (kflat2 Rows.laid_math_bits_deBruijn32tab)
  let h6 := put h5 8 (kflat2 Rows.laid_math_bits_deBruijn64tab)
  let h7 := put h6 5 (kflat2 Rows.laid_unicode_utf8_first)
  let h8 := put h7 6 (kflat2 Rows.laid_unicode_utf8_acceptRanges)
  { w0 with heap := h8 }
end Go.Proofs.YtaiakpigljcjbaaGreatDoor