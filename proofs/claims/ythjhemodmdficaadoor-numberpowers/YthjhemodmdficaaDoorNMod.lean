/- modulo. -/
import Derived.Test.YthjhemodmdficaaDoorNDiv
namespace Go.Proofs.YthjhemodmdficaaDoor
set_option linter.unusedVariables false
open Go.RowKit
set_option maxRecDepth 100000 in
set_option maxHeartbeats 1000000 in
theorem modulo_in (N M : Nat) (hN : N < Lim) (hM : M < Lim) (hM0 : M ≠ 0) (W : World) : Calls Tryd.prog 70 #[.agg (natL N).toArray, .agg (natL M).toArray] W fun e w' => e = .returned (.agg (natL (N % M)).toArray) ∧ Below W.heap.size W w' := by
  obtain ⟨V, hV, b0, b1, b2, hB, hsz⟩ := three_new W (natL N) (natL M) (natL 0) 27 27 27
  have hz := zero26
  have HD := Hid.mk (divided_in N M hN hM hM0)
  obtain ⟨QQ, hQQ⟩ : ∃ QQ, N / M = QQ := ⟨_, rfl⟩
  obtain ⟨RR, hRR⟩ : ∃ RR, N % M = RR := ⟨_, rfl⟩
  rw [hQQ, hRR] at HD
  rw [hRR]
  clear hQQ hRR
  go_enter Tryd.func70, Tryd.ntmps70
  go_upto_region 1 with fail
  simp only [Nat.add_assoc, Nat.reduceAdd]
  clear hV
  have B0 := Hid.mk b0
  have B1 := Hid.mk b1
  have B2 := Hid.mk b2
  clear b0 b1 b2
  refine wp_region_lit ?_
  refine wpList_run (W' := V) (v := .agg (natL N).toArray) rfl (op_load B0.out (natL_len N) rfl rfl) ?_
  refine wpList_run (W' := V) (v := .agg (natL M).toArray) rfl (op_load B1.out (natL_len M) rfl rfl) ?_
  simp only [Act.put, List.setIfInBounds_toArray, List.set_cons_succ, List.set_cons_zero]
  go_wp2_with fail
  refine (HD.out _).mono ?_
  rintro e w1 ⟨rfl, hb1⟩
  have C2 : Hid (w1.heap[W.heap.size + 2]? = some (.cells (natL 0).toArray 27 (0, 0))) := (hb1.block _ (box_lt B2.out)).trans B2.out
  have hBW : Below W.heap.size W w1 := bthen hB hb1
  have hg : W.heap.size + 2 < w1.heap.size := box_lt C2.out
  obtain ⟨t0, t1, tB, tS⟩ := two_new w1 (natL 0) (natL 0) 27 27
  have hst1 := store_cells t0 (natL_len 0) (natL_len QQ) (natL_cells QQ)
  have u1 : (((w1.alloc (.cells (natL 0).toArray 27)).alloc (.cells (natL 0).toArray 27)).setRow w1.heap.size (natL QQ).toArray).heap[w1.heap.size + 1]? = some (.cells (natL 0).toArray 27 (0, 0)) := (setRow_other _ _ _ _ (by omega)).trans t1
  have hst2 := store_cells u1 (natL_len 0) (natL_len RR) (natL_cells RR)
  have y1 : Hid (((((w1.alloc (.cells (natL 0).toArray 27)).alloc (.cells (natL 0).toArray 27)).setRow w1.heap.size (natL QQ).toArray).setRow (w1.heap.size + 1) (natL RR).toArray).heap[w1.heap.size + 1]? = some (.cells (natL RR).toArray 27 (0, 0))) := setRow_heap _ _ _ _ _ _ u1
  have y2 : Hid (((((w1.alloc (.cells (natL 0).toArray 27)).alloc (.cells (natL 0).toArray 27)).setRow w1.heap.size (natL QQ).toArray).setRow (w1.heap.size + 1) (natL RR).toArray).heap[W.heap.size + 2]? = some (.cells (natL 0).toArray 27 (0, 0))) := by
    rw [Hid, setRow_other _ _ _ _ (by omega), setRow_other _ _ _ _ (by omega), tB.block _ hg]
    exact C2.out
  have yB : Below W.heap.size W ((((w1.alloc (.cells (natL 0).toArray 27)).alloc (.cells (natL 0).toArray 27)).setRow w1.heap.size (natL QQ).toArray).setRow (w1.heap.size + 1) (natL RR).toArray) := below_row (below_row (hBW.trans (tB.mono (by omega))) (by omega) _) (by omega) _
  have hlen := natL_len
  clear t0 t1 tB tS u1 hB hsz B0 B1 B2
  go_upto_region 2 with fail
  generalize ((((w1.alloc (.cells (natL 0).toArray 27)).alloc (.cells (natL 0).toArray 27)).setRow w1.heap.size (natL QQ).toArray).setRow (w1.heap.size + 1) (natL RR).toArray) = U at y1 y2 yB ⊢
  clear hst1 hst2 hlen hz
  refine wp_region_lit ?_
  refine wpList_run (W' := U) (v := .agg (natL RR).toArray) rfl (op_load y1.out (natL_len RR) rfl rfl) ?_
  refine wpList_runS rfl (op_store y2.out (natL_len 0) (natL_len RR) (natL_cells RR) rfl rfl rfl) ?_
  go_wp2
  refine bodyPost_ret (results_nat Tryd.results70 rfl (setRow_heap _ _ _ _ _ _ y2.out) (natL_len RR)) rfl ⟨rfl, below_row yB (by omega) _⟩
end Go.Proofs.YthjhemodmdficaaDoor
