/- Pow. -/
import Derived.Test.YthjhemodmdficaaDoorNPw
namespace Go.Proofs.YthjhemodmdficaaDoor
set_option linter.unusedVariables false
open Go.RowKit
attribute [local go_sem ↓] loadAt_nat storeAt_nat build_nat build_nat'
attribute [local go_sem] st1 st2a st2b natBuild_run
/-- what Pow answers. -/
noncomputable def powR (A E M : Nat) : Ending := if flt M = 0 then .returned (.tuple #[.agg (natL (A ^ E % M)).toArray, .int .i64 0]) else .returned (.tuple #[.agg (natL 0).toArray, .int .i64 (flt M)])
theorem flt_ok (M : Nat) : flt M = 0 ↔ M ≠ 0 ∧ btl M ≤ 2048 := by
  unfold flt
  split
  · simp_all
  · split
    · simp_all
    · simp_all
set_option maxRecDepth 100000 in
set_option maxHeartbeats 400000 in
theorem pow_in (A E M : Nat) (hA : A < Lim) (hE : E < Lim) (hM : M < Lim) (W : World) : Calls Tryd.prog 30 #[.agg (natL A).toArray, .agg (natL E).toArray, .agg (natL M).toArray] W fun e w' => e = powR A E M ∧ Below W.heap.size W w' := by
  obtain ⟨V, hV, b0, b1, b2, b3, hBl, hsz⟩ := four_new W (natL A) (natL E) (natL M) (natL 0) 27 27 27 27
  have hz := zero26
  have HF := Hid.mk (fault_in M hM)
  have l2 := natLoad_run b2
  by_cases h0 : flt M = 0
  · have HP : Hid (powR A E M = _) := if_pos h0
    obtain ⟨h1, h2⟩ := (flt_ok M).1 h0
    have HW := Hid.mk (power_in A E M hA hE hM h1 (lim_sq M h2))
    rw [h0] at HF
    clear h0 h1 h2
    obtain ⟨RR, hRR⟩ : ∃ RR, A ^ E % M = RR := ⟨_, rfl⟩
    rw [hRR] at HP HW
    clear hRR
    go_enter Tryd.func30, Tryd.ntmps30
    go_wp2_with fail
    refine (HF.out _).mono ?_
    rintro e w1 ⟨rfl, hb1⟩
    have c0 := natLoad_run ((hb1.block _ (box_lt b0)).trans b0)
    have c1 := natLoad_run ((hb1.block _ (box_lt b1)).trans b1)
    have c2 := natLoad_run ((hb1.block _ (box_lt b2)).trans b2)
    have c3 := (hb1.block _ (box_lt b3)).trans b3
    have hBW : Below W.heap.size W w1 := bthen hBl hb1
    clear b0 b1 b2 b3 hV l2 hBl hb1 hsz
    go_wp2_with fail
    refine (HW.out _).mono ?_
    rintro e w2 ⟨rfl, hb2⟩
    have d3 := (hb2.block _ (box_lt c3)).trans c3
    have s3 := natStore_run (N := RR) d3
    have r3 := setRow_heap _ _ _ (natL RR).toArray _ _ d3
    have hB3 := below_row (bthen hBW hb2) (show W.heap.size ≤ W.heap.size + 3 by omega) (natL RR).toArray
    clear c0 c1 c2 c3
    go_wp2
    exact bodyPost_ret (results_nat_tmp Tryd.results30 rfl rfl r3 (natL_len RR)) rfl ⟨HP.out.symm, hB3⟩
  · have HP : Hid (powR A E M = _) := if_neg h0
    have hf0 : ((flt M) == 0) = false := by rw [beq_eq_false_iff_ne]; exact h0
    generalize flt M = fv at *
    clear h0
    go_enter Tryd.func30, Tryd.ntmps30
    go_wp2_with fail
    refine (HF.out _).mono ?_
    rintro e w1 ⟨rfl, hb1⟩
    have c3 := (hb1.block _ (box_lt b3)).trans b3
    have hBW : Below W.heap.size W w1 := bthen hBl hb1
    clear b0 b1 b2 b3 hV l2 hBl hb1 hsz
    have s3 := natStore_run (N := 0) c3
    have r3 := setRow_heap _ _ _ (natL 0).toArray _ _ c3
    have hB3 := below_row hBW (show W.heap.size ≤ W.heap.size + 3 by omega) (natL 0).toArray
    go_wp2
    exact bodyPost_ret (results_nat_tmp Tryd.results30 rfl rfl r3 (natL_len 0)) rfl ⟨HP.out.symm, hB3⟩
end Go.Proofs.YthjhemodmdficaaDoor
