/- Div. -/
import Derived.Test.YthjhemodmdficaaDoorNLd
namespace Go.Proofs.YthjhemodmdficaaDoor
set_option linter.unusedVariables false
open Go.RowKit
attribute [local go_sem ↓] loadAt_nat storeAt_nat build_nat build_nat'
attribute [local go_sem] st1 st2a st2b natBuild_run
set_option maxRecDepth 100000 in
set_option maxHeartbeats 400000 in
theorem div_in (N M : Nat) (hN : N < Lim) (hM : M < Lim) (hM0 : M ≠ 0) (W : World) : Calls Tryd.prog 28 #[.agg (natL N).toArray, .agg (natL M).toArray] W fun e w' => e = .returned (.tuple #[.agg (natL (N / M)).toArray, .agg (natL (N % M)).toArray, .int .i64 0]) ∧ Below W.heap.size W w' := by
  obtain ⟨V, hV, b0, b1, b2, b3, hBl, hsz⟩ := four_new W (natL N) (natL M) (natL 0) (natL 0) 27 27 27 27
  have hz := zero26
  have HD := Hid.mk (divided_in N M hN hM hM0)
  have hm0 : 0 < mny M := (mny_ge M hM0).1
  obtain ⟨q, hq⟩ : ∃ q, mny M = q := ⟨_, rfl⟩
  have c1 : V.cell? ⟨W.heap.size + 1, 128, none⟩ = some (.int .i64 (q : Int)) := by have := (cells_at b1 (nat_many M)).1; rwa [hq] at this
  have hq0 : ((q : Int) == 0) = false := by rw [beq_eq_false_iff_ne]; omega
  clear hm0 hq
  generalize N / M = QQ at HD ⊢
  generalize N % M = RR at HD ⊢
  have l0 := natLoad_run b0
  have l1 := natLoad_run b1
  go_enter Tryd.func28, Tryd.ntmps28
  go_wp2_with fail
  refine (HD.out _).mono ?_
  rintro e w1 ⟨rfl, hb1⟩
  have k2 : w1.heap[W.heap.size + 2]? = some (.cells (natL 0).toArray 27 (0, 0)) := (hb1.block _ (box_lt b2)).trans b2
  have k3 : w1.heap[W.heap.size + 3]? = some (.cells (natL 0).toArray 27 (0, 0)) := (hb1.block _ (box_lt b3)).trans b3
  have hBW : Below W.heap.size W w1 := bthen hBl hb1
  have hg : W.heap.size + 3 < w1.heap.size := box_lt k3
  clear b0 b1 b2 b3 hV l0 l1 c1 hBl hb1 hsz
  go_upto_region 4 with fail
  obtain ⟨t0, t1, tB, tS⟩ := two_new w1 (natL QQ) (natL RR) 27 27
  have k2' := (tB.block _ (by omega)).trans k2
  have k3' := (tB.block _ (by omega)).trans k3
  have hBU : Below W.heap.size W ((w1.alloc (.cells (natL QQ).toArray 27)).alloc (.cells (natL RR).toArray 27)) := hBW.trans (tB.mono (by omega))
  generalize ((w1.alloc (.cells (natL QQ).toArray 27)).alloc (.cells (natL RR).toArray 27)) = U at t0 t1 k2' k3' hBU ⊢
  clear tB tS k2 k3
  simp only [Nat.add_assoc, Nat.reduceAdd]
  have lq : (natLoad (.pointer (some ⟨w1.heap.size, 0, none⟩))).run Tryd.prog U.drew = .ok _ U.drew := natLoad_run (w := U.drew) t0
  have lr : (natLoad (.pointer (some ⟨w1.heap.size + 1, 0, none⟩))).run Tryd.prog U.drew = .ok _ U.drew := natLoad_run (w := U.drew) t1
  have lr2 : (natLoad (.pointer (some ⟨w1.heap.size + 1, 0, none⟩))).run Tryd.prog (U.drew.setRow (W.heap.size + 2) (natL QQ).toArray) = .ok _ (U.drew.setRow (W.heap.size + 2) (natL QQ).toArray) := natLoad_run ((setRow_other _ _ _ _ (by omega)).trans t1)
  have sq : (natStore (.pointer (some ⟨W.heap.size + 2, 0, none⟩)) (.agg (natL QQ).toArray)).run Tryd.prog U.drew = _ := natStore_run (w := U.drew) k2'
  have sr : (natStore (.pointer (some ⟨W.heap.size + 3, 0, none⟩)) (.agg (natL RR).toArray)).run Tryd.prog (U.drew.setRow (W.heap.size + 2) (natL QQ).toArray) = _ := natStore_run ((setRow_other _ _ _ _ (by omega)).trans k3')
  go_region
  have r2 : ((U.drew.setRow (W.heap.size + 2) (natL QQ).toArray).setRow (W.heap.size + 3) (natL RR).toArray).heap[W.heap.size + 2]? = some (.cells (natL QQ).toArray 27 (0, 0)) := (setRow_other _ _ _ _ (by omega)).trans (setRow_heap (U.drew) _ _ _ _ _ k2')
  have r3 : ((U.drew.setRow (W.heap.size + 2) (natL QQ).toArray).setRow (W.heap.size + 3) (natL RR).toArray).heap[W.heap.size + 3]? = some (.cells (natL RR).toArray 27 (0, 0)) := setRow_heap _ _ _ _ _ _ ((setRow_other _ _ _ _ (by omega)).trans k3')
  have hBZ : Below W.heap.size W ((U.drew.setRow (W.heap.size + 2) (natL QQ).toArray).setRow (W.heap.size + 3) (natL RR).toArray) := below_row (below_row hBU.drew (by omega) _) (by omega) _
  generalize ((U.drew.setRow (W.heap.size + 2) (natL QQ).toArray).setRow (W.heap.size + 3) (natL RR).toArray) = Z at r2 r3 hBZ ⊢
  clear lq lr lr2 sq sr t0 t1 k2' k3'
  go_wp2
  exact bodyPost_ret (results_nat3 Tryd.results28 rfl rfl rfl r2 r3 (natL_len QQ) (natL_len RR)) rfl ⟨rfl, hBZ⟩
set_option maxRecDepth 100000 in
set_option maxHeartbeats 400000 in
theorem div_no (N : Nat) (hN : N < Lim) (W : World) : Calls Tryd.prog 28 #[.agg (natL N).toArray, .agg (natL 0).toArray] W fun e w' => e = .returned (.tuple #[.agg (natL 0).toArray, .agg (natL 0).toArray, .int .i64 1]) ∧ Below W.heap.size W w' := by
  obtain ⟨V, hV, b0, b1, b2, b3, hBl, hsz⟩ := four_new W (natL N) (natL 0) (natL 0) (natL 0) 27 27 27 27
  have hz := zero26
  have c1 : V.cell? ⟨W.heap.size + 1, 128, none⟩ = some (.int .i64 0) := (cells_at b1 (nat_many 0)).1
  have s2 := natStore_run (N := 0) b2
  have r3 := (setRow_other V (W.heap.size + 2) (W.heap.size + 3) (natL 0).toArray (by omega)).trans b3
  have s3 := natStore_run (N := 0) r3
  have q2 := (setRow_other (V.setRow (W.heap.size + 2) (natL 0).toArray) (W.heap.size + 3) (W.heap.size + 2) (natL 0).toArray (by omega)).trans (setRow_heap _ _ _ (natL 0).toArray _ _ b2)
  have q3 := setRow_heap _ _ _ (natL 0).toArray _ _ r3
  have hB2 := below_row (below_row hBl (show W.heap.size ≤ W.heap.size + 2 by omega) (natL 0).toArray) (show W.heap.size ≤ W.heap.size + 3 by omega) (natL 0).toArray
  go_enter Tryd.func28, Tryd.ntmps28
  go_wp2_with fail
  exact bodyPost_ret (results_nat3 Tryd.results28 rfl rfl rfl q2 q3 (natL_len 0) (natL_len 0)) rfl ⟨rfl, hB2⟩
end Go.Proofs.YthjhemodmdficaaDoor
