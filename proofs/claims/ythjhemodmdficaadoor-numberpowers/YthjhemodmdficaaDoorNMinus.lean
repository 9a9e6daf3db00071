/- Sub. -/
import Derived.Test.YthjhemodmdficaaDoorNPlus
namespace Go.Proofs.YthjhemodmdficaaDoor
set_option linter.unusedVariables false
open Go.RowKit
theorem three_new (w : World) (L0 L1 L2 : List Value) (t0 t1 t2 : TypeId) : ∃ V, ((w.alloc (.cells L0.toArray t0)).alloc (.cells L1.toArray t1)).alloc (.cells L2.toArray t2) = V ∧ V.heap[w.heap.size]? = some (.cells L0.toArray t0 (0, 0)) ∧ V.heap[w.heap.size + 1]? = some (.cells L1.toArray t1 (0, 0)) ∧
    V.heap[w.heap.size + 2]? = some (.cells L2.toArray t2 (0, 0)) ∧ Below w.heap.size w V ∧ V.heap.size = w.heap.size + 3 := by
  refine ⟨_, rfl, ?_, ?_, ?_, (((Below.refl _ _).alloc (Nat.le_refl _) _).alloc (by simp) _).alloc (by simp; omega) _, by simp⟩
  · rw [Below.heap_alloc _ _ _ (by first | (simp; done) | (simp; omega)), Below.heap_alloc _ _ _ (by first | (simp; done) | (simp; omega)), heap_new]
  · rw [Below.heap_alloc _ _ _ (by first | (simp; done) | (simp; omega))]
    exact (congrArg (fun k => (World.alloc _ _).heap[k]?) (World.size_alloc w _).symm).trans (heap_new _ _)
  · exact (congrArg (fun k => (World.alloc _ _).heap[k]?) (by simp)).trans (heap_new _ _)
noncomputable def subR (N M : Nat) : Ending := if M ≤ N then .returned (.tuple #[.agg (natL (N - M)).toArray, .int .i64 0]) else .returned (.tuple #[.agg (natL 0).toArray, .int .i64 1])
theorem natL_split (N p : Nat) : natL N = [] ++ (wl ((dg N).take p) ++ (wl ((dg N).drop p) ++ [Value.int .i64 (mny N : Int)])) := by
  rw [List.nil_append, ← List.append_assoc, ← wl_app, List.take_append_drop]
  rfl
theorem dg_cells {W : World} {b t N : Nat} (h : W.heap[b]? = some (.cells (natL N).toArray t (0, 0))) (p : Nat) (hp : p ≤ 128) (j : Nat) (hj : j < p) : W.cell? ⟨b, 0 + j, none⟩ = some (.int .u32 ((((dg N).take p)[j]?.getD 0).toNat : Int)) := by
  rw [Nat.zero_add, List.getElem?_take_of_lt hj]
  exact (cells_at h (nat_at N j (by omega))).1
set_option maxRecDepth 100000 in
set_option maxHeartbeats 2000000 in
theorem sub_in (N M : Nat) (hN : N < Lim) (hM : M < Lim) (W : World) : Calls Tryd.prog 26 #[.agg (natL N).toArray, .agg (natL M).toArray] W fun e w' => e = subR N M ∧ Below W.heap.size W w' := by
  obtain ⟨p, hp⟩ : ∃ p, mny N = p := ⟨_, rfl⟩
  have hp1 : p ≤ 128 := by rw [← hp]; exact mny_le N hN
  obtain ⟨V, hV, b0, b1, b2, hB, hsz⟩ := three_new W (natL N) (natL M) (natL 0) 27 27 27
  have hz := zero26
  have HC := Hid.mk (cmp_in N M hN hM)
  go_enter Tryd.func26, Tryd.ntmps26
  go_upto_region 1 with fail
  simp only [Nat.add_assoc, Nat.reduceAdd]
  clear hV hz
  have B0 := Hid.mk b0
  have B1 := Hid.mk b1
  have B2 := Hid.mk b2
  clear b0 b1 b2
  refine wp_region_lit ?_
  refine wpList_run (W' := V) (v := .agg (natL N).toArray) rfl (op_load B0.out (natL_len N) rfl rfl) ?_
  refine wpList_run (W' := V) (v := .agg (natL M).toArray) rfl (op_load B1.out (natL_len M) rfl rfl) ?_
  simp only [Act.put, List.setIfInBounds_toArray, List.set_cons_succ, List.set_cons_zero]
  go_wp2_with fail
  refine (HC.out _).mono ?_
  rintro e w1 ⟨rfl, hb1⟩
  have C0 : Hid (w1.heap[W.heap.size]? = some (.cells (natL N).toArray 27 (0, 0))) := (hb1.block _ (box_lt B0.out)).trans B0.out
  have C1 : Hid (w1.heap[W.heap.size + 1]? = some (.cells (natL M).toArray 27 (0, 0))) := (hb1.block _ (box_lt B1.out)).trans B1.out
  have C2 : Hid (w1.heap[W.heap.size + 2]? = some (.cells (natL 0).toArray 27 (0, 0))) := (hb1.block _ (box_lt B2.out)).trans B2.out
  have hBW : Below W.heap.size W w1 := bthen hB hb1
  clear B0 B1 B2 hB hb1 hsz
  by_cases hlt : N < M
  · rw [cmpI_lt _ _ hlt]
    have HSR : Hid (subR N M = .returned (.tuple #[.agg (natL 0).toArray, .int .i64 1])) := if_neg (by omega)
    go_upto_region 2 with fail
    refine wp_region_lit ?_
    refine wpList_run (W' := w1) (v := .agg (natL 0).toArray) rfl (op_build26 rfl) ?_
    refine wpList_runS rfl (op_store C2.out (natL_len 0) (natL_len 0) (natL_cells 0) rfl rfl rfl) ?_
    go_wp2
    refine bodyPost_ret (results_nat_tmp Tryd.results26 rfl rfl (setRow_heap _ _ _ _ _ _ C2.out) (natL_len 0)) rfl ⟨HSR.out.symm, below_row hBW (by omega) _⟩
  · have hge : 0 ≤ cmpI N M := by
      rcases Nat.lt_or_ge M N with h | h
      · rw [cmpI_gt _ _ h]; omega
      · rw [show N = M by omega, cmpI_eq]; omega
    generalize cmpI N M = cv at hge ⊢
    have HSR : Hid (subR N M = .returned (.tuple #[.agg (natL (N - M)).toArray, .int .i64 0])) := if_pos (by omega)
    have HQ : Hid (mny M ≤ p) := by rw [Hid, ← hp]; exact mny_mono M N (by omega)
    have c0 : w1.cell? ⟨W.heap.size, 128, none⟩ = some (.int .i64 (p : Int)) := by rw [← hp]; exact (cells_at C0.out (nat_many N)).1
    have HTK : Hid (∀ W' : World, W'.heap[W.heap.size]? = some (.cells (natL N).toArray 27 (0, 0)) → W'.heap[W.heap.size + 1]? = some (.cells (natL M).toArray 27 (0, 0)) → Calls Tryd.prog 46 #[.slice (some ⟨W.heap.size, 0, none⟩) p 128, .slice (some ⟨W.heap.size + 1, 0, none⟩) p 128, .int .u32 1] W' fun e w' => ∃ (zs : List (BitVec 32)) (c : BitVec 32), zs.length = p ∧ val zs = N - M ∧ e = .returned (.int .u32 (c.toNat : Int)) ∧ w'.heap[W.heap.size]? = some (.cells ([] ++ (wl zs ++ (wl ((dg N).drop p) ++ [Value.int .i64 (p : Int)]))).toArray 27 (0, 0)) ∧ But W.heap.size W' w') := fun W' h0 h1 => by
      have h := takeFrom_in W' W.heap.size (W.heap.size + 1) 27 0 0 128 128 p [] (wl ((dg N).drop p) ++ [Value.int .i64 (mny N : Int)]) ((dg N).take p) ((dg M).take p) 1#32 rfl (by rw [List.length_take, dg_len]; omega) (by rw [List.length_take, dg_len]; omega) (by omega) (by omega) (by omega) (by rw [← natL_split]; exact h0) (by omega) (dg_cells h1 p hp1)
      refine h.mono ?_
      rintro e w' ⟨zs, c, a1, a2, a3, a4, a5⟩
      refine ⟨zs, c, a1, ?_, a3, by rw [← hp]; rw [hp] at a4; rw [hp]; exact a4, a5⟩
      rw [dg_top N hN p (by omega), dg_top M hM p HQ.out, show (1#32).toNat = 1 from rfl, Nat.one_mul] at a2
      have l1 := val_lt zs
      rw [a1] at l1
      have hc0 : c.toNat = 0 := by
        apply Classical.byContradiction
        intro hc
        have : 4294967296 ^ p * 1 ≤ 4294967296 ^ p * c.toNat := Nat.mul_le_mul_left _ (by omega)
        omega
      rw [hc0, Nat.mul_zero, Nat.add_zero] at a2
      omega
    have HNT : Hid (∀ (W' : World) (zs : List (BitVec 32)), zs.length = p → val zs = N - M → W'.heap[W.heap.size]? = some (.cells ([] ++ (wl zs ++ (wl ((dg N).drop p) ++ [Value.int .i64 (p : Int)]))).toArray 27 (0, 0)) → Calls Tryd.prog 37 #[.slice (some ⟨W.heap.size, 0, none⟩) p 128] W' fun e w' => e = .returned (.tuple #[.agg (natL (N - M)).toArray, .int .i64 0]) ∧ Below W'.heap.size W' w') := fun W' zs hz hv h0 => by
      have h := natOf_in W' W.heap.size 27 0 128 p [] _ zs rfl hz (by omega) (by omega) hp1 (by omega) h0
      rwa [hv, natR_ok _ (by omega)] at h
    have HMC : Hid (∀ (w5 : World) (zs : List (BitVec 32)), zs.length = p → w5.heap[W.heap.size]? = some (.cells ([] ++ (wl zs ++ (wl ((dg N).drop p) ++ [Value.int .i64 (p : Int)]))).toArray 27 (0, 0)) → w5.cell? ⟨W.heap.size, 128, none⟩ = some (.int .i64 (p : Int))) := fun w5 zs hz h => by
      refine (cells_at h ?_).1
      rw [List.nil_append, ← List.append_assoc, ← wl_app, List.getElem?_append_right (by rw [wl_len, List.length_append, List.length_drop, dg_len]; omega), wl_len, List.length_append, List.length_drop, dg_len, hz, show 128 - (p + (128 - p)) = 0 by omega]
      rfl
    have pi1 : (p : Int) ≤ 128 := by omega
    have pi0 : (0 : Int) ≤ (p : Int) := by omega
    clear hp
    go_wp2_with fail
    go_region_held3 (fun w' => w'.cell? ⟨W.heap.size, 128, none⟩ = some (.int .i64 (p : Int))) (first | assumption | go_keep)
      (first
        | (go_at_call 46; refine (HTK.out _ (by exact C0.out) (by exact C1.out)).mono ?_; rintro e w5 ⟨zs, c, hzl, hval, rfl, hrow5, hbut⟩; have HROW := Hid.mk hrow5; have HBUT := Hid.mk hbut; have HZL := Hid.mk hzl; have HVAL := Hid.mk hval; have hm5 := HMC.out w5 zs hzl hrow5; clear hrow5 hbut hzl hval))
    have Z5 : Hid (w5.heap[W.heap.size + 2]? = some (.cells (natL 0).toArray 27 (0, 0))) := (HBUT.out.block _ (by omega) (box_lt C2.out)).trans C2.out
    have hb5 : Below W.heap.size W w5 := But.below (B := W.heap.size) (g := W.heap.size) (a := w1.drew) hBW.drew HBUT.out (Nat.le_refl _) hBW.size
    clear HBUT
    go_wp2_with fail
    refine (HNT.out _ zs HZL.out HVAL.out (by exact HROW.out)).mono ?_
    rintro e w7 ⟨rfl, hb7⟩
    have Z7 : Hid (w7.heap[W.heap.size + 2]? = some (.cells (natL 0).toArray 27 (0, 0))) := (hb7.block _ (box_lt Z5.out)).trans Z5.out
    have B7 : Below W.heap.size W w7 := bthen hb5 hb7
    have hst := store_cells Z7.out (natL_len 0) (natL_len (N - M)) (natL_cells (N - M))
    have hlen := natL_len
    go_wp2
    refine bodyPost_ret (results_nat_tmp Tryd.results26 rfl rfl (setRow_heap _ _ _ _ _ _ Z7.out) (natL_len (N - M))) rfl ⟨HSR.out.symm, below_row B7 (by omega) _⟩
end Go.Proofs.YthjhemodmdficaaDoor
