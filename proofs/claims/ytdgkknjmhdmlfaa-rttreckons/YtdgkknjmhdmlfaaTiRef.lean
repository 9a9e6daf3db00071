/- Layer 12: how long servers take, by the document. -/
import Derived.Deep.RegionWith
import Derived.Deep.RegionHeld3
import Derived.Deep.Cut
import Derived.Handy
import Derived.Test.YtdgkknjmhdmlfaaTiPick
namespace Go.Proofs.Ytdgkknjmhdmlfaa
set_option linter.unusedVariables false
open Go.RowKit

theorem xwn_in (w : World) (n most : Int) (hm : 0 ≤ most) :
    Calls Try.prog 40 #[.int .i64 n, .int .i64 most] w fun e w' => e = .returned (.int .i64 (wn n most)) ∧ w' = w := by
  by_cases h1 : n < 0
  all_goals by_cases h2 : most < n
  all_goals
    go_enter Try.func40, Try.ntmps40
    go_wp2
  all_goals
    go_ret
    refine ⟨?_, rfl⟩
    congr 2
    unfold wn
    repeat' split
    all_goals first | rfl | omega | (simp_all; done) | (simp_all; omega)
theorem xsizeRtt : (Try.prog.info? 47).map (·.size) = some 3 := by kernel_rfl
theorem xresults_rtt {fn : Func} {p : Tmp} (h : fn.results = #[.cell p 47]) {tmps : Array Value} {W : World} {b : Nat} {x y z : Value} (hp : tmps.getD p undef = .pointer (some ⟨b, 0, none⟩)) (hb : W.heap[b]? = some (.cells #[x, y, z] 47 (0, 0))) : (results fn tmps).run Try.prog W = .ok (.agg #[x, y, z]) W := by
  have hp' : tmps[p]?.getD undef = .pointer (some ⟨b, 0, none⟩) := by simpa using hp
  have hl : (loadVar 47 ⟨b, 0, none⟩).run Try.prog W = .ok (.agg #[x, y, z]) W := run_loadVar_row W b _ _ _ (0, 0) _ hb Try.underlying47 rfl xsizeRtt
  simp only [results, h]
  simp [hp', asAddr, hl]

set_option maxRecDepth 100000 in
set_option maxHeartbeats 4000000 in
theorem xrwithin_in (w : World) (a b c : Int) :
    Calls Try.prog 39 #[rt a b c] w fun e w' => e = .returned (rt (wn a 1000000) (wn b 1000000) (wn c 10)) ∧ w' = ((w.alloc (.cells #[.int .i64 a, .int .i64 b, .int .i64 c] 47)).alloc (.cells #[.int .i64 (wn a 1000000), .int .i64 (wn b 1000000), .int .i64 (wn c 10)] 47)).drew := by
  obtain ⟨A1, hA⟩ : ∃ x, wn a 1000000 = x := ⟨_, rfl⟩
  obtain ⟨B1, hB⟩ : ∃ x, wn b 1000000 = x := ⟨_, rfl⟩
  obtain ⟨C1, hC⟩ : ∃ x, wn c 10 = x := ⟨_, rfl⟩
  rw [hA, hB, hC]
  have H1 : Hid (∀ w, Calls Try.prog 40 #[.int .i64 a, .int .i64 1000000] w fun e w' => e = .returned (.int .i64 A1) ∧ w' = w) := fun w => by rw [← hA]; exact xwn_in w a _ (by decide)
  have H2 : Hid (∀ w, Calls Try.prog 40 #[.int .i64 b, .int .i64 1000000] w fun e w' => e = .returned (.int .i64 B1) ∧ w' = w) := fun w => by rw [← hB]; exact xwn_in w b _ (by decide)
  have H3 : Hid (∀ w, Calls Try.prog 40 #[.int .i64 c, .int .i64 10] w fun e w' => e = .returned (.int .i64 C1) ∧ w' = w) := fun w => by rw [← hC]; exact xwn_in w c _ (by decide)
  clear hA hB hC
  go_enter Try.func39, Try.ntmps39
  go_wp2
  go_region_held3 (fun u => u.cell? ⟨w.heap.size, 0, none⟩ = some (.int .i64 a) ∧ u.cell? ⟨w.heap.size, 1, none⟩ = some (.int .i64 b) ∧ u.cell? ⟨w.heap.size, 2, none⟩ = some (.int .i64 c)) (first | assumption | go_keep)
    (first
    | (go_at_call 40; refine (H1.out _).mono ?_; rintro e w' ⟨rfl, rfl⟩)
    | (go_at_call 40; refine (H2.out _).mono ?_; rintro e w' ⟨rfl, rfl⟩)
    | (go_at_call 40; refine (H3.out _).mono ?_; rintro e w' ⟨rfl, rfl⟩))
  go_wp2
  refine bodyPost_ret (xresults_rtt Try.results39 rfl ?_) rfl ⟨rfl, rfl⟩
  have := heap_alloc_last (w.alloc (.cells #[.int .i64 a, .int .i64 b, .int .i64 c] 47)) (.cells #[.int .i64 A1, .int .i64 B1, .int .i64 C1] 47 (0, 0))
  rw [show (w.alloc (.cells #[.int .i64 a, .int .i64 b, .int .i64 c] 47)).heap.size = w.heap.size + 1 by simp] at this
  exact this

theorem xmiss_in (w : World) (a b c : Int) :
    Calls Try.prog 23 #[rt a b c] w fun e w' => e = .returned (rt (wn a 1000000) (wn b 1000000) (misC (wn c 10))) ∧ Below w.heap.size w w' := by
  have HW := Hid.mk (fun w => xrwithin_in w a b c)
  obtain ⟨A1, hA⟩ : ∃ x, wn a 1000000 = x := ⟨_, rfl⟩
  obtain ⟨B1, hB⟩ : ∃ x, wn b 1000000 = x := ⟨_, rfl⟩
  obtain ⟨C1, hC⟩ : ∃ x, wn c 10 = x := ⟨_, rfl⟩
  have ha0 : 0 ≤ A1 := by rw [← hA]; exact wn_ge _ (by decide)
  have ha1 : A1 ≤ 1000000 := by rw [← hA]; exact wn_le _ (by decide)
  have hb0 : 0 ≤ B1 := by rw [← hB]; exact wn_ge _ (by decide)
  have hb1 : B1 ≤ 1000000 := by rw [← hB]; exact wn_le _ (by decide)
  have hc0 : 0 ≤ C1 := by rw [← hC]; exact wn_ge _ (by decide)
  have hc1 : C1 ≤ 10 := by rw [← hC]; exact wn_le _ (by decide)
  rw [hA, hB, hC] at HW ⊢
  clear hA hB hC
  go_enter Try.func23, Try.ntmps23
  go_wp2_with fail
  refine (HW.out _).mono ?_
  rintro e w1 ⟨rfl, rfl⟩
  go_wp2
  all_goals
    refine bodyPost_ret (xresults_rtt Try.results23 rfl (heap_at1 w _ _ _ _)) rfl ⟨?_, by go_grown⟩
    congr 5
    unfold misC
    split <;> first | rfl | omega

set_option maxRecDepth 100000 in
set_option maxHeartbeats 4000000 in
theorem xsample_in (w : World) (a b c ms : Int) :
    Calls Try.prog 21 #[rt a b c, .int .i64 ms] w fun e w' => e = .returned (rt (smpA (wn a 1000000) (wn b 1000000) (wn ms 1000000)) (smpB (wn a 1000000) (wn b 1000000) (wn ms 1000000)) 0) ∧ Below w.heap.size w w' := by
  have HW := Hid.mk (fun w => xrwithin_in w a b c)
  have HM := Hid.mk (fun w => xwn_in w ms 1000000 (by decide))
  obtain ⟨A1, hA⟩ : ∃ x, wn a 1000000 = x := ⟨_, rfl⟩
  obtain ⟨B1, hB⟩ : ∃ x, wn b 1000000 = x := ⟨_, rfl⟩
  obtain ⟨C1, hC⟩ : ∃ x, wn c 10 = x := ⟨_, rfl⟩
  have ha0 : 0 ≤ A1 := by rw [← hA]; exact wn_ge _ (by decide)
  have ha1 : A1 ≤ 1000000 := by rw [← hA]; exact wn_le _ (by decide)
  have hb0 : 0 ≤ B1 := by rw [← hB]; exact wn_ge _ (by decide)
  have hb1 : B1 ≤ 1000000 := by rw [← hB]; exact wn_le _ (by decide)
  have hc0 : 0 ≤ C1 := by rw [← hC]; exact wn_ge _ (by decide)
  have hc1 : C1 ≤ 10 := by rw [← hC]; exact wn_le _ (by decide)
  obtain ⟨M1, hM⟩ : ∃ x, wn ms 1000000 = x := ⟨_, rfl⟩
  have hm0 : 0 ≤ M1 := by rw [← hM]; exact wn_ge _ (by decide)
  have hm1 : M1 ≤ 1000000 := by rw [← hM]; exact wn_le _ (by decide)
  rw [hA, hB, hC] at HW
  rw [hM] at HM
  rw [hA, hB, hM]
  clear hA hB hC hM
  have h8a : -1000000 ≤ (M1 - A1).tdiv 8 := by have := td8 (M1 - A1); omega
  have h8b : (M1 - A1).tdiv 8 ≤ 1000000 := by have := td8 (M1 - A1); omega
  have h4a : -2000000 ≤ (M1 - A1 - B1).tdiv 4 := by have := td4 (M1 - A1 - B1); omega
  have h4b : (M1 - A1 - B1).tdiv 4 ≤ 2000000 := by have := td4 (M1 - A1 - B1); omega
  have h4c : -2000000 ≤ (0 - (M1 - A1) - B1).tdiv 4 := by have := td4 (0 - (M1 - A1) - B1); omega
  have h4d : (0 - (M1 - A1) - B1).tdiv 4 ≤ 2000000 := by have := td4 (0 - (M1 - A1) - B1); omega
  have h4e : -2000000 ≤ (-(M1 - A1) - B1).tdiv 4 := by have := td4 (-(M1 - A1) - B1); omega
  have h4f : (-(M1 - A1) - B1).tdiv 4 ≤ 2000000 := by have := td4 (-(M1 - A1) - B1); omega
  obtain ⟨RA, hRA⟩ : ∃ x, smpA A1 B1 M1 = x := ⟨_, rfl⟩
  obtain ⟨RB, hRB⟩ : ∃ x, smpB A1 B1 M1 = x := ⟨_, rfl⟩
  rw [hRA, hRB]
  have HRR := Hid.mk (And.intro hRA hRB)
  clear hRA hRB
  by_cases za : A1 = 0
  · by_cases zb : B1 = 0
    · subst za
      subst zb
      go_enter Try.func21, Try.ntmps21
      go_wp2_with fail
      refine (HW.out _).mono ?_
      rintro e w1 ⟨rfl, rfl⟩
      go_wp2_with fail
      refine (HM.out _).mono ?_
      rintro e w1 ⟨rfl, rfl⟩
      go_wp2
      refine bodyPost_ret (xresults_rtt Try.results21 rfl (heap_at1 w _ _ _ _)) rfl ⟨?_, by go_grown⟩
      rw [← HRR.out.1, ← HRR.out.2, (smp_yes ⟨rfl, rfl⟩ M1).1, (smp_yes ⟨rfl, rfl⟩ M1).2, Int.tdiv_eq_ediv_of_nonneg hm0]
    · have HSN := Hid.mk (smp_no (fun h => zb h.2 : ¬ (A1 = 0 ∧ B1 = 0)) M1)
      subst za
      have zb' : (B1 == 0) = false := by simp [zb]
      go_enter Try.func21, Try.ntmps21
      go_wp2_with fail
      refine (HW.out _).mono ?_
      rintro e w1 ⟨rfl, rfl⟩
      go_wp2_with fail
      refine (HM.out _).mono ?_
      rintro e w1 ⟨rfl, rfl⟩
      go_wp2
      all_goals
        refine bodyPost_ret (xresults_rtt Try.results21 rfl (heap_at1 w _ _ _ _)) rfl ⟨?_, by go_grown⟩
        rw [← HRR.out.1, ← HRR.out.2, HSN.out.1, HSN.out.2]
        simp only [Int.sub_zero, Int.zero_add]
        rw [if_neg (by omega), wrap_id (by have := td4 (M1 - B1); omega) (by have := td4 (M1 - B1); omega), Int.tdiv_eq_ediv_of_nonneg hm0]
  · have HSN := Hid.mk (smp_no (fun h => za h.1 : ¬ (A1 = 0 ∧ B1 = 0)) M1)
    have za' : (A1 == 0) = false := by simp [za]
    go_enter Try.func21, Try.ntmps21
    go_wp2_with fail
    refine (HW.out _).mono ?_
    rintro e w1 ⟨rfl, rfl⟩
    go_wp2_with fail
    refine (HM.out _).mono ?_
    rintro e w1 ⟨rfl, rfl⟩
    go_wp2
    all_goals
      refine bodyPost_ret (xresults_rtt Try.results21 rfl (heap_at1 w _ _ _ _)) rfl ⟨?_, by go_grown⟩
      rw [← HRR.out.1, ← HRR.out.2, HSN.out.1, HSN.out.2]
      first | rw [if_pos (by omega), Int.zero_sub] | rw [if_neg (by omega)]

/-- n, as often doubled. -/
def lp (x : Int) : Nat → Int
  | 0 => x
  | j + 1 => dn12 (2 * lp x j)
theorem lp_bd {x : Int} (h0 : 0 ≤ x) (h1 : x ≤ 6000000) : ∀ j, 0 ≤ lp x j ∧ lp x j ≤ 6000000
  | 0 => ⟨h0, h1⟩
  | j + 1 => by
    have := lp_bd h0 h1 j
    simp only [lp]
    unfold dn12
    split <;> omega
theorem lp_eq {x : Int} (h0 : 0 ≤ x) (h1 : x ≤ 6000000) : ∀ j, dn12 (lp x j) = dn12 (dn12 x * 2 ^ j)
  | 0 => by
    simp only [lp, Int.pow_zero, Int.mul_one]
    unfold dn12
    repeat' split
    all_goals omega
  | j + 1 => by
    have ih := lp_eq h0 h1 j
    have hb := lp_bd h0 h1 j
    have hp := two_pos j
    have hd : 0 ≤ dn12 x := by unfold dn12; split <;> omega
    have hm : 0 ≤ dn12 x * 2 ^ j := Int.mul_nonneg hd (by omega)
    have e : dn12 x * 2 ^ (j + 1) = dn12 x * 2 ^ j * 2 := by rw [Int.pow_succ, Int.mul_assoc]
    rw [e]
    simp only [lp]
    obtain ⟨y, hy⟩ : ∃ y, dn12 x * 2 ^ j = y := ⟨_, rfl⟩
    obtain ⟨z, hz⟩ : ∃ z, lp x j = z := ⟨_, rfl⟩
    rw [hy] at ih hm ⊢
    rw [hz] at ih hb ⊢
    clear hy hz e hp hd
    unfold dn12 at *
    repeat' split
    all_goals (split at ih <;> split at ih <;> omega)

set_option maxRecDepth 100000 in
set_option maxHeartbeats 4000000 in
theorem xtimeout_in (w : World) (a b c : Int) :
    Calls Try.prog 25 #[rt a b c] w fun e w' => e = .returned (.int .i64 (tmo (wn a 1000000) (wn b 1000000) (wn c 10))) ∧ Below w.heap.size w w' := by
  have HW := Hid.mk (fun w => xrwithin_in w a b c)
  obtain ⟨A1, hA⟩ : ∃ x, wn a 1000000 = x := ⟨_, rfl⟩
  obtain ⟨B1, hB⟩ : ∃ x, wn b 1000000 = x := ⟨_, rfl⟩
  obtain ⟨C1, hC⟩ : ∃ x, wn c 10 = x := ⟨_, rfl⟩
  have ha0 : 0 ≤ A1 := by rw [← hA]; exact wn_ge _ (by decide)
  have ha1 : A1 ≤ 1000000 := by rw [← hA]; exact wn_le _ (by decide)
  have hb0 : 0 ≤ B1 := by rw [← hB]; exact wn_ge _ (by decide)
  have hb1 : B1 ≤ 1000000 := by rw [← hB]; exact wn_le _ (by decide)
  have hc0 : 0 ≤ C1 := by rw [← hC]; exact wn_ge _ (by decide)
  have hc1 : C1 ≤ 10 := by rw [← hC]; exact wn_le _ (by decide)
  rw [hA, hB, hC] at HW ⊢
  clear hA hB hC
  obtain ⟨C, rfl⟩ : ∃ C : Nat, C1 = (C : Int) := ⟨C1.toNat, by omega⟩
  have hx0 : 0 ≤ up50 (tm0 A1 B1) := by unfold up50 tm0; repeat' split <;> omega
  have hx1 : up50 (tm0 A1 B1) ≤ 6000000 := by unfold up50 tm0; repeat' split <;> omega
  have hR : tmo A1 B1 (C : Int) = dn12 (lp (up50 (tm0 A1 B1)) C) := by rw [lp_eq hx0 hx1]; unfold tmo; rw [Int.toNat_natCast]
  rw [hR]
  clear hR
  have hlp := lp_bd hx0 hx1
  obtain ⟨X, hX⟩ : ∃ X, up50 (tm0 A1 B1) = X := ⟨_, rfl⟩
  rw [hX] at hlp hx0 hx1 ⊢
  have HLP := Hid.mk hlp
  obtain ⟨V, hV⟩ : ∃ V, (((w.alloc (.cells #[.int .i64 A1, .int .i64 B1, .int .i64 (C : Int)] 47)).alloc (.cells #[.int .i64 a, .int .i64 b, .int .i64 c] 47)).alloc (.cells #[.int .i64 A1, .int .i64 B1, .int .i64 (C : Int)] 47)).drew = V := ⟨_, rfl⟩
  have HVb : Hid (Below w.heap.size w V) := by rw [← hV]; unfold Hid; go_grown
  have c2 : V.cell? ⟨w.heap.size, 2, none⟩ = some (.int .i64 (C : Int)) := by
    rw [← hV]
    have : ((((w.alloc (.cells #[.int .i64 A1, .int .i64 B1, .int .i64 (C : Int)] 47)).alloc (.cells #[.int .i64 a, .int .i64 b, .int .i64 c] 47)).alloc (.cells #[.int .i64 A1, .int .i64 B1, .int .i64 (C : Int)] 47)).drew).heap[w.heap.size]? = some (.cells #[.int .i64 A1, .int .i64 B1, .int .i64 (C : Int)] 47 (0, 0)) := by
      show (((w.heap.push _).push _).push _)[w.heap.size]? = _
      rw [Array.getElem?_push, if_neg (by simp; omega), Array.getElem?_push, if_neg (by simp), Array.getElem?_push, if_pos (by simp)]
    exact cell_of_heap this rfl
  have HV := Hid.mk hV
  have HX := Hid.mk hX
  clear hV hX hlp
  have hun : (A1 + 4 * B1 = 0 ∧ tm0 A1 B1 = 376) ∨ (¬ A1 + 4 * B1 = 0 ∧ tm0 A1 B1 = A1 + 4 * B1) := by
    unfold tm0
    by_cases h : A1 = 0 ∧ B1 = 0
    · rw [if_pos h]; left; omega
    · rw [if_neg h]; right; omega
  have key : ∀ n : Int, up50 (tm0 A1 B1) = n → X = n := fun n h => HX.out.symm.trans h
  go_enter Try.func25, Try.ntmps25
  go_wp2_with fail
  refine (HW.out _).mono ?_
  rintro e w1 ⟨rfl, rfl⟩
  have HK := Hid.mk key
  have HUn := Hid.mk hun
  clear key hun
  go_wp2
  all_goals
    rw [HV.out]
    go_loopw [3, 4] (fun nv kv wr => ∃ j : Nat, j ≤ C ∧ kv = .int .i64 (j : Int) ∧ nv = .int .i64 (lp X j) ∧ wr = V) (fun _ kv _ => C - (intOf kv).toNat)
    case atStart =>
      refine ⟨0, Nat.zero_le _, rfl, congrArg (Value.int .i64) ?_, rfl⟩
      show _ = X
      rw [← HX.out]
      rcases HUn.out with ⟨h1, h2⟩ | ⟨h1, h2⟩ <;> rw [h2] <;> unfold up50 <;> split <;> first | omega | (simp_all; done)
    case round =>
      obtain ⟨j, hj, rfl, rfl, rfl⟩ := hrel
      obtain ⟨l0, l1⟩ := HLP.out j
      obtain ⟨y, hy⟩ : ∃ y, lp X j = y := ⟨_, rfl⟩
      have HY := Hid.mk hy
      rw [hy] at l0 l1 ⊢
      clear hy
      by_cases hlt : j < C
      · have hz : (j : Int) < (C : Int) := by omega
        by_cases hm : 12000 < 2 * y
        · go_wp2
          go_roundw
          case rel => exact ⟨j + 1, hlt, by go_num, congrArg (Value.int .i64) (by show _ = dn12 (2 * lp X j); rw [HY.out]; unfold dn12; rw [if_pos (by omega)]), by first | rfl | trivial⟩
          case measure => simp [intOf]; omega
        · go_wp2
          go_roundw
          case rel => exact ⟨j + 1, hlt, by go_num, congrArg (Value.int .i64) (by show _ = dn12 (2 * lp X j); rw [HY.out]; unfold dn12; rw [if_neg (by omega)]), by first | rfl | trivial⟩
          case measure => simp [intOf]; omega
      · have hjC : j = C := by omega
        have hz : ¬ (j : Int) < (C : Int) := by omega
        have HJC := Hid.mk hjC
        clear hjC
        by_cases hm : 12000 < y
        · go_wp2
          go_ret
          refine ⟨?_, HVb.out⟩
          rw [← HJC.out, HY.out]
          unfold dn12
          rw [if_pos (by omega)]
          rfl
        · go_wp2
          go_ret
          refine ⟨?_, HVb.out⟩
          rw [← HJC.out, HY.out]
          unfold dn12
          rw [if_neg (by omega)]
          rfl

end Go.Proofs.Ytdgkknjmhdmlfaa
