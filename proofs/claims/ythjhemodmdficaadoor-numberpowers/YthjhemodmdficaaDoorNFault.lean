/- faultOf. -/
import Derived.Test.YthjhemodmdficaaDoorNTms
namespace Go.Proofs.YthjhemodmdficaaDoor
set_option linter.unusedVariables false
open Go.RowKit
theorem mny_none (M : Nat) : mny M = 0 ↔ M = 0 := by
  unfold mny
  split <;> omega
def flt (M : Nat) : Int := if M = 0 then 1 else if 2048 < btl M then 3 else 0
set_option maxRecDepth 100000 in
set_option maxHeartbeats 1000000 in
theorem fault_in (M : Nat) (hM : M < Lim) (W : World) : Calls Tryd.prog 51 #[.agg (natL M).toArray] W fun e w' => e = .returned (.int .i64 (flt M)) ∧ Below W.heap.size W w' := by
  have HB := Hid.mk (boxed W (natL M) 27)
  have hmany := (cells_at HB.out (nat_many M)).1
  have hB : Below W.heap.size W (W.alloc (.cells (natL M).toArray 27)) := (Below.refl _ _).alloc (Nat.le_refl _) _
  have HBT := Hid.mk (bits_in M hM)
  by_cases h0 : M = 0
  · have HF : Hid (flt M = 1) := if_pos h0
    rw [(mny_none M).2 h0] at hmany
    have hm0 : (W.alloc (.cells (natL M).toArray 27)).cell? ⟨W.heap.size, 128, none⟩ = some (.int .i64 0) := hmany
    clear hmany h0
    go_enter Tryd.func51, Tryd.ntmps51
    go_wp2
    go_ret
    exact ⟨by rw [HF.out]; rfl, hB⟩
  · have hne : ((mny M : Int) == 0) = false := by rw [beq_eq_false_iff_ne]; have := (mny_none M).1; omega
    have HF : Hid (flt M = if 2048 < btl M then 3 else 0) := if_neg h0
    generalize mny M = k at hmany hne
    obtain ⟨bt, hbt⟩ : ∃ bt, btl M = bt := ⟨_, rfl⟩
    rw [hbt] at HF HBT
    clear hbt
    go_enter Tryd.func51, Tryd.ntmps51
    go_upto_region 3 with fail
    generalize W.alloc (.cells (natL M).toArray 27) = V at HB hB hmany ⊢
    refine wp_region_lit ?_
    refine wpList_run (W' := V) (v := .agg (natL M).toArray) rfl (op_load HB.out (natL_len M) rfl rfl) ?_
    simp only [Act.put, List.setIfInBounds_toArray, List.set_cons_succ, List.set_cons_zero]
    go_wp2_with fail
    refine (HBT.out _).mono ?_
    rintro e w1 ⟨rfl, hb1⟩
    have hBW : Below W.heap.size W w1 := bthen hB hb1
    by_cases h2 : 2048 < bt
    · rw [if_pos h2] at HF
      have h2i : (2048 : Int) < (bt : Int) := by omega
      go_wp2
      go_ret
      exact ⟨by rw [HF.out]; rfl, hBW⟩
    · rw [if_neg h2] at HF
      have h2i : (bt : Int) ≤ 2048 := by omega
      go_wp2
      go_ret
      exact ⟨by rw [HF.out]; rfl, hBW⟩
end Go.Proofs.YthjhemodmdficaaDoor
