/- times. -/
import Derived.Test.YthjhemodmdficaaDoorNMod
namespace Go.Proofs.YthjhemodmdficaaDoor
set_option linter.unusedVariables false
open Go.RowKit
set_option maxRecDepth 100000 in
set_option maxHeartbeats 1000000 in
theorem times_in (A B M : Nat) (hA : A < Lim) (hB : B < Lim) (hAB : A * B < Lim) (hM : M < Lim) (hM0 : M ≠ 0) (W : World) : Calls Tryd.prog 71 #[.agg (natL A).toArray, .agg (natL B).toArray, .agg (natL M).toArray] W fun e w' => e = .returned (.agg (natL (A * B % M)).toArray) ∧ Below W.heap.size W w' := by
  obtain ⟨V, hV, b0, b1, b2, b3, hBl, hsz⟩ := four_new W (natL A) (natL B) (natL M) (natL 0) 27 27 27 27
  have hz := zero26
  have HD := Hid.mk (mul_in A B hA hB)
  rw [natR_ok _ hAB] at HD
  have HM := Hid.mk (modulo_in (A * B) M hAB hM hM0)
  generalize A * B % M = RR at HM ⊢
  generalize A * B = QQ at HD HM
  go_enter Tryd.func71, Tryd.ntmps71
  go_upto_region 1 with fail
  simp only [Nat.add_assoc, Nat.reduceAdd]
  clear hV
  have B0 := Hid.mk b0
  have B1 := Hid.mk b1
  have B2 := Hid.mk b2
  have B3 := Hid.mk b3
  clear b0 b1 b2 b3
  refine wp_region_lit ?_
  refine wpList_run (W' := V) (v := .agg (natL A).toArray) rfl (op_load B0.out (natL_len A) rfl rfl) ?_
  refine wpList_run (W' := V) (v := .agg (natL B).toArray) rfl (op_load B1.out (natL_len B) rfl rfl) ?_
  simp only [Act.put, List.setIfInBounds_toArray, List.set_cons_succ, List.set_cons_zero]
  go_wp2_with fail
  refine (HD.out _).mono ?_
  rintro e w1 ⟨rfl, hb1⟩
  have C2 : Hid (w1.heap[W.heap.size + 2]? = some (.cells (natL M).toArray 27 (0, 0))) := (hb1.block _ (box_lt B2.out)).trans B2.out
  have C3 : Hid (w1.heap[W.heap.size + 3]? = some (.cells (natL 0).toArray 27 (0, 0))) := (hb1.block _ (box_lt B3.out)).trans B3.out
  have hBW : Below W.heap.size W w1 := bthen hBl hb1
  have hg : W.heap.size + 3 < w1.heap.size := box_lt C3.out
  have t0 := boxed w1 (natL 0) 27
  have hst1 := store_cells t0 (natL_len 0) (natL_len QQ) (natL_cells QQ)
  have tB : Below w1.heap.size w1 (w1.alloc (.cells (natL 0).toArray 27)) := (Below.refl _ _).alloc (Nat.le_refl _) _
  have y1 : Hid (((w1.alloc (.cells (natL 0).toArray 27)).setRow w1.heap.size (natL QQ).toArray).heap[w1.heap.size]? = some (.cells (natL QQ).toArray 27 (0, 0))) := setRow_heap _ _ _ _ _ _ t0
  have y2 : Hid (((w1.alloc (.cells (natL 0).toArray 27)).setRow w1.heap.size (natL QQ).toArray).heap[W.heap.size + 2]? = some (.cells (natL M).toArray 27 (0, 0))) := by
    rw [Hid, setRow_other _ _ _ _ (by omega), tB.block _ (by omega)]
    exact C2.out
  have y3 : Hid (((w1.alloc (.cells (natL 0).toArray 27)).setRow w1.heap.size (natL QQ).toArray).heap[W.heap.size + 3]? = some (.cells (natL 0).toArray 27 (0, 0))) := by
    rw [Hid, setRow_other _ _ _ _ (by omega), tB.block _ (by omega)]
    exact C3.out
  have yB : Below W.heap.size W ((w1.alloc (.cells (natL 0).toArray 27)).setRow w1.heap.size (natL QQ).toArray) := below_row (hBW.trans (tB.mono (by omega))) (by omega) _
  have hlen := natL_len
  clear t0 tB hBl hsz B0 B1 B2 B3
  go_upto_region 2 with fail
  generalize (w1.alloc (.cells (natL 0).toArray 27)).setRow w1.heap.size (natL QQ).toArray = U at y1 y2 y3 yB ⊢
  clear hst1 hlen hz
  refine wp_region_lit ?_
  refine wpList_run (W' := U) (v := .agg (natL QQ).toArray) rfl (op_load y1.out (natL_len QQ) rfl rfl) ?_
  refine wpList_run (W' := U) (v := .agg (natL M).toArray) rfl (op_load y2.out (natL_len M) rfl rfl) ?_
  simp only [Act.put, List.setIfInBounds_toArray, List.set_cons_succ, List.set_cons_zero]
  go_wp2_with fail
  refine (HM.out _).mono ?_
  rintro e w2 ⟨rfl, hb2⟩
  have Z3 : Hid (w2.heap[W.heap.size + 3]? = some (.cells (natL 0).toArray 27 (0, 0))) := (hb2.block _ (box_lt y3.out)).trans y3.out
  have hst2 := store_cells Z3.out (natL_len 0) (natL_len RR) (natL_cells RR)
  have hlen := natL_len
  have B9 : Below W.heap.size W w2 := bthen yB hb2
  go_wp2
  refine bodyPost_ret (results_nat Tryd.results71 rfl (setRow_heap _ _ _ _ _ _ Z3.out) (natL_len RR)) rfl ⟨rfl, below_row B9 (by omega) _⟩
end Go.Proofs.YthjhemodmdficaaDoor
