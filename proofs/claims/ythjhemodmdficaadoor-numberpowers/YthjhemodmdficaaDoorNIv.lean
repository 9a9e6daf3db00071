/- Inv. -/
import Derived.Test.YthjhemodmdficaaDoorNInv
namespace Go.Proofs.YthjhemodmdficaaDoor
set_option linter.unusedVariables false
open Go.RowKit
attribute [local go_sem ↓] loadAt_nat storeAt_nat build_nat build_nat'
attribute [local go_sem] st1 st2a st2b natBuild_run
set_option maxRecDepth 100000 in
set_option maxHeartbeats 400000 in
theorem inv_in (A M : Nat) (hA : A < Lim) (hM : M < Lim) (W : World) : Calls Tryd.prog 31 #[.agg (natL A).toArray, .agg (natL M).toArray] W fun e w' => ∃ I v, (flt M = 0 → InvIs A M I v) ∧ (flt M ≠ 0 → I = 0 ∧ v = flt M) ∧ I < Lim ∧ e = .returned (.tuple #[.agg (natL I).toArray, .int .i64 v]) ∧ Below W.heap.size W w' := by
  obtain ⟨V, hV, b0, b1, b2, hBl, hsz⟩ := three_new W (natL A) (natL M) (natL 0) 27 27 27
  have hz := zero26
  have HF := Hid.mk (fault_in M hM)
  have l1 := natLoad_run b1
  by_cases h0 : flt M = 0
  · obtain ⟨h1, h2⟩ := (flt_ok M).1 h0
    have HI := Hid.mk (inverse_in A M hA hM h1 (lim_sq M h2))
    have HF0 := Hid.mk h0
    rw [h0] at HF
    clear h0 h1 h2
    go_enter Tryd.func31, Tryd.ntmps31
    go_wp2_with fail
    refine (HF.out _).mono ?_
    rintro e w1 ⟨rfl, hb1⟩
    have c0 := natLoad_run (blk hb1 b0)
    have c1 := natLoad_run (blk hb1 b1)
    have c2 := blk hb1 b2
    have hBW : Below W.heap.size W w1 := bthen hBl hb1
    clear b0 b1 b2 hV l1 hBl hb1 hsz
    go_wp2_with fail
    refine (HI.out _).mono ?_
    rintro e w2 ⟨I, v, hI, rfl, hb2⟩
    have HIV := Hid.mk hI
    have hIL : I < Lim := by
      rcases hI with ⟨_, h, _⟩ | ⟨_, h, _⟩
      · omega
      · rw [h]; exact Nat.pow_pos (by omega)
    have d2 := blk hb2 c2
    have s2 := natStore_run (N := I) d2
    have r2 := setRow_heap _ _ _ (natL I).toArray _ _ d2
    have hB2 := below_row (bthen hBW hb2) (show W.heap.size ≤ W.heap.size + 2 by omega) (natL I).toArray
    clear c0 c1 c2 hI
    go_wp2
    exact bodyPost_ret (results_nat_tmp Tryd.results31 rfl rfl r2 (natL_len I)) rfl ⟨I, v, fun _ => HIV.out, fun h => absurd HF0.out h, hIL, rfl, hB2⟩
  · have hf0 : ((flt M) == 0) = false := by rw [beq_eq_false_iff_ne]; exact h0
    have HF0 := Hid.mk h0
    obtain ⟨fv, hfv⟩ : ∃ fv, flt M = fv := ⟨_, rfl⟩
    have HFV := Hid.mk hfv
    rw [hfv] at HF hf0
    clear h0 hfv
    go_enter Tryd.func31, Tryd.ntmps31
    go_wp2_with fail
    refine (HF.out _).mono ?_
    rintro e w1 ⟨rfl, hb1⟩
    have c2 := blk hb1 b2
    have hBW : Below W.heap.size W w1 := bthen hBl hb1
    clear b0 b1 b2 hV l1 hBl hb1 hsz
    have s2 := natStore_run (N := 0) c2
    have r2 := setRow_heap _ _ _ (natL 0).toArray _ _ c2
    have hB2 := below_row hBW (show W.heap.size ≤ W.heap.size + 2 by omega) (natL 0).toArray
    go_wp2
    exact bodyPost_ret (results_nat_tmp Tryd.results31 rfl rfl r2 (natL_len 0)) rfl ⟨0, fv, fun h => absurd h HF0.out, fun _ => ⟨rfl, HFV.out.symm⟩, Nat.pow_pos (by omega), rfl, hB2⟩
end Go.Proofs.YthjhemodmdficaaDoor
