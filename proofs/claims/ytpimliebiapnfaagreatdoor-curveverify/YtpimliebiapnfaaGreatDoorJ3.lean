/- Texts of this proof, joined: NMinus, NTimes, NGoes, NBytes, NTrim. -/
import Derived.Test.YtpimliebiapnfaaGreatDoorJ2
import Derived.Laws.AppendOwn
import Derived.OwnWalk
/- Sub. -/
namespace Go.Proofs.YtpimliebiapnfaaGreatDoor.N
set_option linter.unusedVariables false
open Go.RowKit
theorem three_new (w : World) (L0 L1 L2 : List Value) (t0 t1 t2 : TypeId) : ∃ V, ((w.alloc (.cells L0.toArray t0)).alloc (.cells L1.toArray t1)).alloc (.cells L2.toArray t2) = V ∧ V.heap[w.heap.size]? = some (.cells L0.toArray t0 (0, 0)) ∧ V.heap[w.heap.size + 1]? = some (.cells L1.toArray t1 (0, 0)) ∧
    V.heap[w.heap.size + 2]? = some (.cells L2.toArray t2 (0, 0)) ∧ Below w.heap.size w V ∧ V.heap.size = w.heap.size + 3 := by
  refine ⟨_, rfl, ?_, ?_, ?_, (((Below.refl _ _).alloc (Nat.le_refl _) _).alloc (by simp) _).alloc (by simp; omega) _, by simp⟩
  · rw [Below.heap_alloc _ _ _ (by first | (simp; done) | (simp; omega)), Below.heap_alloc _ _ _ (by first | (simp; done) | (simp; omega)), heap_new]
  · rw [Below.heap_alloc _ _ _ (by first | (simp; done) | (simp; omega))]
    exact (congrArg (fun k => (World.alloc _ _).heap[k]?) (World.size_alloc w _).symm).trans (heap_new _ _)
  · exact (congrArg (fun k => (World.alloc _ _).heap[k]?) (by simp)).trans (heap_new _ _)
noncomputable def subR (N M : Nat) : Ending := if M ≤ N then .returned (.tuple #[.agg (natL (N - M)).toArray, .int .i64 0]) else .returned (.tuple #[.agg (natL 0).toArray, .int .i64 1])
theorem natL_split (N p : Nat) : natL N = [] ++ (wl ((dg N).take p) ++ (wl ((dg N).drop p) ++ [Value.int .i64 (mny N : Int)])) := by
  rw [List.nil_append, ← List.append_assoc, ← wl_app, List.take_append_drop]
  rfl
theorem dg_cells {W : World} {b t N : Nat} (h : W.heap[b]? = some (.cells (natL N).toArray t (0, 0))) (p : Nat) (hp : p ≤ 128) (j : Nat) (hj : j < p) : W.cell? ⟨b, 0 + j, none⟩ = some (.int .u32 ((((dg N).take p)[j]?.getD 0).toNat : Int)) := by
  rw [Nat.zero_add, List.getElem?_take_of_lt hj]
  exact (cells_at h (nat_at N j (by omega))).1
set_option maxRecDepth 100000 in
set_option maxHeartbeats 2000000 in
theorem sub_in (N M : Nat) (hN : N < Lim) (hM : M < Lim) (W : World) : Calls Tryz.prog 107 #[.agg (natL N).toArray, .agg (natL M).toArray] W fun e w' => e = subR N M ∧ Below W.heap.size W w' := by
  obtain ⟨p, hp⟩ : ∃ p, mny N = p := ⟨_, rfl⟩
  have hp1 : p ≤ 128 := by rw [← hp]; exact mny_le N hN
  obtain ⟨V, hV, b0, b1, b2, hB, hsz⟩ := three_new W (natL N) (natL M) (natL 0) 38 38 38
  have hz := zero26
  have HC := Hid.mk (cmp_in N M hN hM)
  go_enter Tryz.func107, Tryz.ntmps107
  go_upto_region 1 with fail
  simp only [Nat.add_assoc, Nat.reduceAdd]
  clear hV hz
  have B0 := Hid.mk b0
  have B1 := Hid.mk b1
  have B2 := Hid.mk b2
  clear b0 b1 b2
  refine wp_region_lit ?_
  refine wpList_run (W' := V) (v := .agg (natL N).toArray) rfl (op_load B0.out (natL_len N) rfl rfl) ?_
  refine wpList_run (W' := V) (v := .agg (natL M).toArray) rfl (op_load B1.out (natL_len M) rfl rfl) ?_
  simp only [Act.put, List.setIfInBounds_toArray, List.set_cons_succ, List.set_cons_zero]
  go_wp2_with fail
  refine (HC.out _).mono ?_
  rintro e w1 ⟨rfl, hb1⟩
  have C0 : Hid (w1.heap[W.heap.size]? = some (.cells (natL N).toArray 38 (0, 0))) := (hb1.block _ (box_lt B0.out)).trans B0.out
  have C1 : Hid (w1.heap[W.heap.size + 1]? = some (.cells (natL M).toArray 38 (0, 0))) := (hb1.block _ (box_lt B1.out)).trans B1.out
  have C2 : Hid (w1.heap[W.heap.size + 2]? = some (.cells (natL 0).toArray 38 (0, 0))) := (hb1.block _ (box_lt B2.out)).trans B2.out
  have hBW : Below W.heap.size W w1 := bthen hB hb1
  clear B0 B1 B2 hB hb1 hsz
  by_cases hlt : N < M
  · rw [cmpI_lt _ _ hlt]
    have HSR : Hid (subR N M = .returned (.tuple #[.agg (natL 0).toArray, .int .i64 1])) := if_neg (by omega)
    go_upto_region 2 with fail
    refine wp_region_lit ?_
    refine wpList_run (W' := w1) (v := .agg (natL 0).toArray) rfl (op_build26 rfl) ?_
    refine wpList_runS rfl (op_store C2.out (natL_len 0) (natL_len 0) (natL_cells 0) rfl rfl rfl) ?_
    go_wp2
    refine bodyPost_ret (results_nat_tmp Tryz.results107 rfl rfl (setRow_heap _ _ _ _ _ _ C2.out) (natL_len 0)) rfl ⟨HSR.out.symm, below_row hBW (by omega) _⟩
  · have hge : 0 ≤ cmpI N M := by
      rcases Nat.lt_or_ge M N with h | h
      · rw [cmpI_gt _ _ h]; omega
      · rw [show N = M by omega, cmpI_eq]; omega
    generalize cmpI N M = cv at hge ⊢
    have HSR : Hid (subR N M = .returned (.tuple #[.agg (natL (N - M)).toArray, .int .i64 0])) := if_pos (by omega)
    have HQ : Hid (mny M ≤ p) := by rw [Hid, ← hp]; exact mny_mono M N (by omega)
    have c0 : w1.cell? ⟨W.heap.size, 128, none⟩ = some (.int .i64 (p : Int)) := by rw [← hp]; exact (cells_at C0.out (nat_many N)).1
    have HTK : Hid (∀ W' : World, W'.heap[W.heap.size]? = some (.cells (natL N).toArray 38 (0, 0)) → W'.heap[W.heap.size + 1]? = some (.cells (natL M).toArray 38 (0, 0)) → Calls Tryz.prog 127 #[.slice (some ⟨W.heap.size, 0, none⟩) p 128, .slice (some ⟨W.heap.size + 1, 0, none⟩) p 128, .int .u32 1] W' fun e w' => ∃ (zs : List (BitVec 32)) (c : BitVec 32), zs.length = p ∧ val zs = N - M ∧ e = .returned (.int .u32 (c.toNat : Int)) ∧ w'.heap[W.heap.size]? = some (.cells ([] ++ (wl zs ++ (wl ((dg N).drop p) ++ [Value.int .i64 (p : Int)]))).toArray 38 (0, 0)) ∧ But W.heap.size W' w') := fun W' h0 h1 => by
      have h := takeFrom_in W' W.heap.size (W.heap.size + 1) 38 0 0 128 128 p [] (wl ((dg N).drop p) ++ [Value.int .i64 (mny N : Int)]) ((dg N).take p) ((dg M).take p) 1#32 rfl (by rw [List.length_take, dg_len]; omega) (by rw [List.length_take, dg_len]; omega) (by omega) (by omega) (by omega) (by rw [← natL_split]; exact h0) (by omega) (dg_cells h1 p hp1)
      refine h.mono ?_
      rintro e w' ⟨zs, c, a1, a2, a3, a4, a5⟩
      refine ⟨zs, c, a1, ?_, a3, by rw [← hp]; rw [hp] at a4; rw [hp]; exact a4, a5⟩
      rw [dg_top N hN p (by omega), dg_top M hM p HQ.out, show (1#32).toNat = 1 from rfl, Nat.one_mul] at a2
      have l1 := val_lt zs
      rw [a1] at l1
      have hc0 : c.toNat = 0 := by
        apply Classical.byContradiction
        intro hc
        have : 4294967296 ^ p * 1 ≤ 4294967296 ^ p * c.toNat := Nat.mul_le_mul_left _ (by omega)
        omega
      rw [hc0, Nat.mul_zero, Nat.add_zero] at a2
      omega
    have HNT : Hid (∀ (W' : World) (zs : List (BitVec 32)), zs.length = p → val zs = N - M → W'.heap[W.heap.size]? = some (.cells ([] ++ (wl zs ++ (wl ((dg N).drop p) ++ [Value.int .i64 (p : Int)]))).toArray 38 (0, 0)) → Calls Tryz.prog 87 #[.slice (some ⟨W.heap.size, 0, none⟩) p 128] W' fun e w' => e = .returned (.tuple #[.agg (natL (N - M)).toArray, .int .i64 0]) ∧ Below W'.heap.size W' w') := fun W' zs hz hv h0 => by
      have h := natOf_in W' W.heap.size 38 0 128 p [] _ zs rfl hz (by omega) (by omega) hp1 (by omega) h0
      rwa [hv, natR_ok _ (by omega)] at h
    have HMC : Hid (∀ (w5 : World) (zs : List (BitVec 32)), zs.length = p → w5.heap[W.heap.size]? = some (.cells ([] ++ (wl zs ++ (wl ((dg N).drop p) ++ [Value.int .i64 (p : Int)]))).toArray 38 (0, 0)) → w5.cell? ⟨W.heap.size, 128, none⟩ = some (.int .i64 (p : Int))) := fun w5 zs hz h => by
      refine (cells_at h ?_).1
      rw [List.nil_append, ← List.append_assoc, ← wl_app, List.getElem?_append_right (by rw [wl_len, List.length_append, List.length_drop, dg_len]; omega), wl_len, List.length_append, List.length_drop, dg_len, hz, show 128 - (p + (128 - p)) = 0 by omega]
      rfl
    have pi1 : (p : Int) ≤ 128 := by omega
    have pi0 : (0 : Int) ≤ (p : Int) := by omega
    clear hp
    go_wp2_with fail
    go_region_held3 (fun w' => w'.cell? ⟨W.heap.size, 128, none⟩ = some (.int .i64 (p : Int))) (first | assumption | go_keep)
      (first
        | (go_at_call 127; refine (HTK.out _ (by exact C0.out) (by exact C1.out)).mono ?_; rintro e w5 ⟨zs, c, hzl, hval, rfl, hrow5, hbut⟩; have HROW := Hid.mk hrow5; have HBUT := Hid.mk hbut; have HZL := Hid.mk hzl; have HVAL := Hid.mk hval; have hm5 := HMC.out w5 zs hzl hrow5; clear hrow5 hbut hzl hval))
    have Z5 : Hid (w5.heap[W.heap.size + 2]? = some (.cells (natL 0).toArray 38 (0, 0))) := (HBUT.out.block _ (by omega) (box_lt C2.out)).trans C2.out
    have hb5 : Below W.heap.size W w5 := But.below (B := W.heap.size) (g := W.heap.size) (a := w1.drew) hBW.drew HBUT.out (Nat.le_refl _) hBW.size
    clear HBUT
    go_wp2_with fail
    refine (HNT.out _ zs HZL.out HVAL.out (by exact HROW.out)).mono ?_
    rintro e w7 ⟨rfl, hb7⟩
    have Z7 : Hid (w7.heap[W.heap.size + 2]? = some (.cells (natL 0).toArray 38 (0, 0))) := (hb7.block _ (box_lt Z5.out)).trans Z5.out
    have B7 : Below W.heap.size W w7 := bthen hb5 hb7
    have hst := store_cells Z7.out (natL_len 0) (natL_len (N - M)) (natL_cells (N - M))
    have hlen := natL_len
    go_wp2
    refine bodyPost_ret (results_nat_tmp Tryz.results107 rfl rfl (setRow_heap _ _ _ _ _ _ Z7.out) (natL_len (N - M))) rfl ⟨HSR.out.symm, below_row B7 (by omega) _⟩
end Go.Proofs.YtpimliebiapnfaaGreatDoor.N
/- Mul. -/
namespace Go.Proofs.YtpimliebiapnfaaGreatDoor.N
set_option linter.unusedVariables false
open Go.RowKit
theorem zero48' (W : World) : (zeroValue 161).run Tryz.prog W = .ok (.agg (wl (List.replicate 256 0)).toArray) W := by kernel_rfl
theorem zero48 (W : World) : (zeroValue 161).run Tryz.prog W = .ok (.agg (zl 256).toArray) W := by rw [zl_eq]; exact zero48' W
theorem mul_step (B V D X M x z Bq c : Nat) (h1 : V + B * D = X * M) (h2 : z + Bq * c = D + x * M) : V + B * z + B * Bq * c = (X + B * x) * M := by
  have h3 : B * (z + Bq * c) = B * (D + x * M) := by rw [h2]
  rw [Nat.mul_add, Nat.mul_add] at h3
  rw [Nat.add_mul, Nat.mul_assoc B, Nat.mul_assoc B]
  omega
set_option maxRecDepth 100000 in
set_option maxHeartbeats 4000000 in
theorem mul_in (N M : Nat) (hN : N < Lim) (hM : M < Lim) (W : World) : Calls Tryz.prog 108 #[.agg (natL N).toArray, .agg (natL M).toArray] W fun e w' => e = natR (N * M) ∧ Below W.heap.size W w' := by
  obtain ⟨R, rv, hR⟩ := natR_form (N * M)
  have HR := Hid.mk hR
  obtain ⟨p, hp⟩ : ∃ p, mny N = p := ⟨_, rfl⟩
  obtain ⟨q, hq⟩ : ∃ q, mny M = q := ⟨_, rfl⟩
  have hp1 : p ≤ 128 := by rw [← hp]; exact mny_le N hN
  have hq1 : q ≤ 128 := by rw [← hq]; exact mny_le M hM
  obtain ⟨V, hV, b0, b1, b2, b3, hB, hsz⟩ := four_new W (natL N) (natL M) (natL 0) (zl 256) 38 38 38 161
  have hz := zero26
  have hz2 := zero48
  rw [hR]
  clear hR
  go_enter Tryz.func108, Tryz.ntmps108
  go_upto_region 2 with fail
  simp only [Nat.add_assoc, Nat.reduceAdd]
  clear hV hz hz2
  have c0 : V.cell? ⟨W.heap.size, 128, none⟩ = some (.int .i64 (p : Int)) := by rw [← hp]; exact (cells_at b0 (nat_many N)).1
  have B0 := Hid.mk b0
  have B1 := Hid.mk b1
  have B2 := Hid.mk b2
  have B3 := Hid.mk b3
  have HPQ := Hid.mk (And.intro hp hq)
  clear b0 b1 b2 b3 hp hq
  go_wp2_with fail
  clear c0
  go_loopw [10] (fun iv wr => ∃ (i : Nat) (S1 : List (BitVec 32)), i ≤ p ∧ iv = .int .i64 (i : Int) ∧ Hid (S1.length = i + q) ∧ Hid (val S1 = val ((dg N).take i) * M) ∧ wr.heap[W.heap.size]? = some (.cells (natL N).toArray 38 (0, 0)) ∧ wr.heap[W.heap.size + 1]? = some (.cells (natL M).toArray 38 (0, 0)) ∧ wr.heap[W.heap.size + 2]? = some (.cells (natL 0).toArray 38 (0, 0)) ∧ wr.heap[W.heap.size + 3]? = some (.cells (wl (S1 ++ List.replicate (256 - (i + q)) 0)).toArray 161 (0, 0)) ∧ Below W.heap.size W wr) (fun iv _ => p - (intOf iv).toNat)
  case atStart =>
    refine ⟨0, List.replicate q 0, by omega, rfl, by rw [Hid, List.length_replicate]; omega, by rw [Hid, val_zero, List.take_zero]; simp [val], B0.out, B1.out, B2.out, ?_, hB⟩
    rw [List.replicate_append_replicate, show q + (256 - (0 + q)) = 256 by omega, ← zl_eq]
    exact B3.out
  case round =>
    obtain ⟨i, S1, hi, rfl, HSL, HSV, h0, h1, h2, h3, hbl⟩ := hrel
    have H0 := Hid.mk h0
    have H1 := Hid.mk h1
    have H2 := Hid.mk h2
    have H3 := Hid.mk h3
    have c0 : wr.cell? ⟨W.heap.size, 128, none⟩ = some (.int .i64 (p : Int)) := by rw [← HPQ.out.1]; exact (cells_at h0 (nat_many N)).1
    have c1 : wr.cell? ⟨W.heap.size + 1, 128, none⟩ = some (.int .i64 (q : Int)) := by rw [← HPQ.out.2]; exact (cells_at h1 (nat_many M)).1
    clear B0 B1 B2 B3
    by_cases hlt : i < p
    · have cx := (cells_at h0 (nat_at N i (by omega))).1
      have HVX := Hid.mk (val_take_succ (dg N) i (by rw [dg_len]; omega))
      have HLX : Hid (∀ W' : World, W'.heap[W.heap.size]? = some (.cells (natL N).toArray 38 (0, 0)) → W'.cell? ⟨W.heap.size, i, none⟩ = some (.int .u32 (((dg N)[i]?.getD 0).toNat : Int))) := fun W' h => (cells_at h (nat_at N i (by omega))).1
      have HMC : Hid (∀ W' : World, W'.heap[W.heap.size + 1]? = some (.cells (natL M).toArray 38 (0, 0)) → W'.cell? ⟨W.heap.size + 1, 128, none⟩ = some (.int .i64 (q : Int))) := fun W' h => by rw [← HPQ.out.2]; exact (cells_at h (nat_many M)).1
      generalize (dg N)[i]?.getD 0 = x at cx HVX HLX
      have HAT : Hid (∀ W' : World, W'.heap[W.heap.size + 3]? = some (.cells (wl (S1 ++ List.replicate (256 - (i + q)) 0)).toArray 161 (0, 0)) → W'.heap[W.heap.size + 1]? = some (.cells (natL M).toArray 38 (0, 0)) → Calls Tryz.prog 128 #[.slice (some ⟨W.heap.size + 3, i, none⟩) q (256 - i), .slice (some ⟨W.heap.size + 1, 0, none⟩) q 128, .int .u32 (x.toNat : Int)] W' fun e w' => ∃ (T1 : List (BitVec 32)) (c : BitVec 32), T1.length = i + q ∧ (∀ T : List (BitVec 32), T = T1 ++ [c] → val T = (val ((dg N).take i) + 4294967296 ^ i * x.toNat) * M) ∧ e = .returned (.int .u32 (c.toNat : Int)) ∧ w'.heap[W.heap.size + 3]? = some (.cells (wl (T1 ++ List.replicate (256 - (i + q)) 0)).toArray 161 (0, 0)) ∧ But (W.heap.size + 3) W' w') := fun W' g3 g1 => by
        have hdl : (S1.drop i).length = q := by rw [List.length_drop, HSL.out]; omega
        have htl : (S1.take i).length = i := by rw [List.length_take, HSL.out]; omega
        have h := addTimes_in W' (W.heap.size + 3) (W.heap.size + 1) 161 i 0 (256 - i) 128 q (wl (S1.take i)) (wl (List.replicate (256 - (i + q)) 0)) (S1.drop i) ((dg M).take q) x (by rw [wl_len, htl]) hdl (by rw [List.length_take, dg_len]; omega) (by omega) (by omega) (by omega)
          (by rw [← wl_app, ← wl_app, ← List.append_assoc, List.take_append_drop]; exact g3) (by omega) (dg_cells g1 q hq1)
        refine h.mono ?_
        rintro e w' ⟨zs, c, a1, a2, a3, a4, a5⟩
        refine ⟨S1.take i ++ zs, c, by rw [List.length_append, htl, a1], ?_, a3, by rw [← wl_app, ← wl_app, ← List.append_assoc] at a4; exact a4, a5⟩
        rintro T rfl
        have hsp := val_split S1 i
        rw [htl] at hsp
        have hM2 := dg_top M hM q (by rw [HPQ.out.2]; omega)
        rw [hM2] at a2
        rw [val_snoc, val_app, List.length_append, htl, a1, Nat.pow_add]
        exact mul_step _ _ _ _ _ _ _ _ _ (by rw [← hsp]; exact HSV.out) a2
      have HCF : Hid (∀ (w5 : World) (T1 : List (BitVec 32)), T1.length = i + q → w5.heap[W.heap.size + 3]? = some (.cells (wl (T1 ++ List.replicate (256 - (i + q)) 0)).toArray 161 (0, 0)) → (∃ y : BitVec 32, w5.cell? ⟨W.heap.size + 3, i + q, none⟩ = some (.int .u32 (y.toNat : Int))) ∧ w5.frozen? ⟨W.heap.size + 3, i + q, none⟩ = false ∧ ∀ c : BitVec 32, (w5.setCell ⟨W.heap.size + 3, i + q, none⟩ (.int .u32 (c.toNat : Int))).heap[W.heap.size + 3]? = some (.cells (wl ((T1 ++ [c]) ++ List.replicate (256 - (i + 1 + q)) 0)).toArray 161 (0, 0))) := fun w5 T1 hz h => by
        have hl : i + q < (T1 ++ List.replicate (256 - (i + q)) (0 : BitVec 32)).length := by rw [List.length_append, hz, List.length_replicate]; omega
        obtain ⟨a1, a2⟩ := cells_at h (wl_at _ (i + q) hl)
        refine ⟨⟨_, a1⟩, a2, fun c => ?_⟩
        rw [cells_put h]
        have e : (T1 ++ List.replicate (256 - (i + q)) (0 : BitVec 32)).set (i + q) c = (T1 ++ [c]) ++ List.replicate (256 - (i + 1 + q)) 0 := by
          rw [List.set_append_right _ _ (by omega), hz, Nat.sub_self, List.append_assoc, show 256 - (i + q) = (256 - (i + 1 + q)) + 1 by omega, List.replicate_succ]
          rfl
        rw [← e]
        simp [wl]
      have i1 : (i : Int) < 128 := by omega
      have i2 : (i : Int) ≤ (i : Int) + (q : Int) := by omega
      have i3 : (i : Int) + (q : Int) ≤ 256 := by omega
      have i4 : (i : Int) + (q : Int) < 256 := by omega
      have i5 : ((i : Int) + (q : Int)).toNat = i + q := by omega
      have i6 : (0 : Int) ≤ (i : Int) + (q : Int) := by omega
      have i7 : ¬ (256 = i) := by omega
      have i8 : i + q - i = q := by omega
      have i9 : (q : Int) ≤ 128 := by omega
      have i10 : (0 : Int) ≤ (q : Int) := by omega
      have i11 : (0 : Int) ≤ (i : Int) := by omega
      have i12 : IntKind.i64.wrap ((i : Int) + (q : Int)) = (i : Int) + (q : Int) := by rw [IntKind.wrap_i64]; omega
      have HKP : Hid (∀ (W' : World) (v : Value) (k : Nat), W'.cell? ⟨W.heap.size + 1, 128, none⟩ = some (.int .i64 (q : Int)) ∧ W'.cell? ⟨W.heap.size, i, none⟩ = some (.int .u32 (x.toNat : Int)) → (W'.setCell ⟨W.heap.size + 3, k, none⟩ v).cell? ⟨W.heap.size + 1, 128, none⟩ = some (.int .i64 (q : Int)) ∧ (W'.setCell ⟨W.heap.size + 3, k, none⟩ v).cell? ⟨W.heap.size, i, none⟩ = some (.int .u32 (x.toNat : Int))) := fun W' v k h =>
        ⟨(World.cell?_of_block (w := W') (Below.heap_setCell W' ⟨W.heap.size + 3, k, none⟩ v _ (by show W.heap.size + 1 ≠ W.heap.size + 3; omega))).trans h.1, (World.cell?_of_block (w := W') (Below.heap_setCell W' ⟨W.heap.size + 3, k, none⟩ v _ (by show W.heap.size ≠ W.heap.size + 3; omega))).trans h.2⟩
      clear h0 h1 h2 h3
      go_wp2_with fail
      go_region_held3 (fun w' => w'.cell? ⟨W.heap.size + 1, 128, none⟩ = some (.int .i64 (q : Int)) ∧ w'.cell? ⟨W.heap.size, i, none⟩ = some (.int .u32 (x.toNat : Int))) (first | exact HKP.out _ _ _ (by assumption) | assumption | ((repeat' apply And.intro) <;> assumption) | go_keep)
        (first
          | (go_at_call 128; refine (HAT.out _ (by exact H3.out) (by exact H1.out)).mono ?_; rintro e w5 ⟨T1, c, hzl, hval, rfl, hrow5, hbut⟩; obtain ⟨⟨y5, hc5⟩, hf5, hput⟩ := HCF.out w5 T1 hzl hrow5; have HPUT := Hid.mk hput; have HBUT := Hid.mk hbut; have HZL := Hid.mk hzl; have HVAL := Hid.mk hval; have G0 : Hid (w5.heap[W.heap.size]? = _) := (hbut.block _ (by omega) (box_lt H0.out)).trans H0.out; have G1 : Hid (w5.heap[W.heap.size + 1]? = _) := (hbut.block _ (by omega) (box_lt H1.out)).trans H1.out; have s1 := HMC.out w5 G1.out; have s2 := HLX.out w5 G0.out; clear hput hbut hzl hval hrow5))
      have G2 : Hid (w5.heap[W.heap.size + 2]? = _) := (HBUT.out.block _ (by omega) (box_lt H2.out)).trans H2.out
      have hb5 : Below W.heap.size W w5 := But.below (B := W.heap.size) (g := W.heap.size + 3) (a := wr.drew) hbl.drew HBUT.out (Nat.le_add_right _ _) hbl.size
      go_wp2
      go_roundw
      case rel =>
        refine ⟨i + 1, T1 ++ [c], by omega, by go_num, by rw [Hid, List.length_append, HZL.out]; simp; omega, by rw [Hid, HVX.out]; exact HVAL.out _ rfl, ?_, ?_, ?_, HPUT.out c, ?_⟩
        · exact (Below.heap_setCell _ _ _ _ (by show W.heap.size ≠ W.heap.size + 3; omega)).trans G0.out
        · exact (Below.heap_setCell _ _ _ _ (by show W.heap.size + 1 ≠ W.heap.size + 3; omega)).trans G1.out
        · exact (Below.heap_setCell _ _ _ _ (by show W.heap.size + 2 ≠ W.heap.size + 3; omega)).trans G2.out
        · exact hb5.setCell (by show W.heap.size ≤ W.heap.size + 3; omega) _
      case measure => simp [intOf]; omega
    · obtain rfl : i = p := by omega
      have HNT : Hid (∀ W' : World, W'.heap[W.heap.size + 3]? = some (.cells (wl (S1 ++ List.replicate (256 - (i + q)) 0)).toArray 161 (0, 0)) → Calls Tryz.prog 87 #[.slice (some ⟨W.heap.size + 3, 0, none⟩) (i + q) 256] W' fun e w' => e = .returned (.tuple #[.agg (natL R).toArray, .int .i64 rv]) ∧ Below W'.heap.size W' w') := fun W' g3 => by
        have h := natOf_in W' (W.heap.size + 3) 161 0 256 (i + q) [] (wl (List.replicate (256 - (i + q)) 0)) S1 rfl HSL.out (by omega) (by omega) (by omega) (by omega) (by rw [List.nil_append, ← wl_app]; exact g3)
        rwa [HSV.out, dg_top N hN i (by rw [HPQ.out.1]; omega), HR.out] at h
      have i3 : (i : Int) + (q : Int) ≤ 256 := by omega
      have i5 : ((i : Int) + (q : Int)).toNat = i + q := by omega
      have i6 : (0 : Int) ≤ (i : Int) + (q : Int) := by omega
      clear h0 h1 h2 h3
      go_wp2_with fail
      refine (HNT.out _ (by exact H3.out)).mono ?_
      rintro e w7 ⟨rfl, hb7⟩
      have Z7 : Hid (w7.heap[W.heap.size + 2]? = some (.cells (natL 0).toArray 38 (0, 0))) := (hb7.block _ (box_lt H2.out)).trans H2.out
      have B7 : Below W.heap.size W w7 := bthen hbl hb7
      have hst := store_cells Z7.out (natL_len 0) (natL_len R) (natL_cells R)
      have hlen := natL_len
      go_wp2
      refine bodyPost_ret (results_nat_tmp Tryz.results108 rfl rfl (setRow_heap _ _ _ _ _ _ Z7.out) (natL_len R)) rfl ⟨rfl, below_row B7 (by omega) _⟩
end Go.Proofs.YtpimliebiapnfaaGreatDoor.N
/- goesIn. -/
namespace Go.Proofs.YtpimliebiapnfaaGreatDoor.N
set_option linter.unusedVariables false
open Go.RowKit
theorem guess_ge (X D a b d xl yl P : Nat) (hX : X = xl + P * (b + 4294967296 * a)) (hxl : xl < P) (hD : D = yl + P * d) (hd : 0 < d) (hlt : X < D * 4294967296) : X / D ≤ gs a b d := by
  have hP : 0 < P := by omega
  have hDp : 0 < D := by
    have : P * 1 ≤ P * d := Nat.mul_le_mul_left _ hd
    omega
  unfold gs
  have h1 : X / D ≤ 4294967295 := by
    have := (Nat.div_lt_iff_lt_mul hDp).2 (show X < 4294967296 * D by rw [Nat.mul_comm]; exact hlt)
    omega
  have h2 : X / D ≤ (4294967296 * a + b) / d := by
    rw [Nat.le_div_iff_mul_le hd]
    have h3 : X / D * D ≤ X := Nat.div_mul_le_self X D
    have h4 : X / D * (P * d) ≤ X / D * D := Nat.mul_le_mul_left _ (by omega)
    have h5 : P * (X / D * d) < P * (b + 4294967296 * a + 1) := by
      rw [← Nat.mul_assoc, Nat.mul_comm P (X / D), Nat.mul_assoc, Nat.mul_add, Nat.mul_one]
      omega
    have := Nat.lt_of_mul_lt_mul_left h5
    omega
  omega
theorem guess_le (X D a b d xl yl P : Nat) (hX : X = xl + P * (b + 4294967296 * a)) (hD : D = yl + P * d) (hyl : yl < P) (hd : 2147483648 ≤ d) : gs a b d ≤ X / D + 2 := by
  have hP : 0 < P := by omega
  have hDp : 0 < D := by
    have : P * 1 ≤ P * d := Nat.mul_le_mul_left _ (by omega)
    omega
  obtain ⟨g, hg⟩ : ∃ g, gs a b d = g := ⟨_, rfl⟩
  have hgb : g ≤ 4294967295 := by rw [← hg]; unfold gs; omega
  have hgd : g * d ≤ 4294967296 * a + b := by
    have h1 : g ≤ (4294967296 * a + b) / d := by rw [← hg]; unfold gs; omega
    exact (Nat.le_div_iff_mul_le (by omega)).1 h1
  rw [hg]
  by_cases h2 : g ≤ 2
  · exact Nat.le_trans h2 (Nat.le_add_left 2 _)
  · obtain ⟨k, rfl⟩ : ∃ k, g = k + 2 := ⟨g - 2, by omega⟩
    suffices k ≤ X / D from Nat.add_le_add_right this 2
    rw [Nat.le_div_iff_mul_le hDp]
    have e1 : P * ((k + 2) * d) ≤ P * (4294967296 * a + b) := Nat.mul_le_mul_left _ hgd
    have e2 : (k + 2) * D ≤ (k + 2) * (P * d + P) := Nat.mul_le_mul_left _ (by omega)
    have e3 : (k + 2) * P ≤ 2 * (P * d) := by
      have : P * (k + 2) ≤ P * (2 * d) := Nat.mul_le_mul_left _ (by omega)
      rw [Nat.mul_comm, Nat.mul_left_comm 2 P d]
      exact this
    have e4 : (k + 2) * (P * d) = P * ((k + 2) * d) := Nat.mul_left_comm _ _ _
    rw [Nat.mul_add (k + 2), e4] at e2
    rw [Nat.add_mul] at e2
    have e5 : P * (b + 4294967296 * a) = P * (4294967296 * a + b) := by rw [Nat.add_comm]
    omega
theorem put_right (Z k D RM Pn s c Z' : Nat) (h : Z + (k + 1) * D = RM + Pn * s) (hc : Z' + Pn * c = Z + D) (hRM : RM < D) (hD : D ≤ Pn) (hZ : Z' < Pn) : c ≤ s ∧ Z' + k * D = RM + Pn * (s - c) := by
  rw [Nat.add_mul, Nat.one_mul] at h
  have h1 : Z' + Pn * c + k * D = RM + Pn * s := by omega
  have hcs : c ≤ s := by
    apply Classical.byContradiction
    intro hn
    have : Pn * (s + 1) ≤ Pn * c := Nat.mul_le_mul_left _ (by omega)
    rw [Nat.mul_add, Nat.mul_one] at this
    omega
  refine ⟨hcs, ?_⟩
  obtain ⟨t, rfl⟩ : ∃ t, s = c + t := ⟨s - c, by omega⟩
  rw [Nat.add_sub_cancel_left]
  rw [Nat.mul_add] at h1
  omega
theorem first_take (Z q k D RM XL Pn c a : Nat) (h : Z + (q + k) * D = XL + Pn * c) (hX : XL + Pn * a = q * D + RM) (hRM : RM < D) (hD : D ≤ Pn) (hZ : Z < Pn) (hk : k ≤ 2) : a ≤ c ∧ Z + k * D = RM + Pn * (c - a) ∧ c - a ≤ 2 := by
  rw [Nat.add_mul] at h
  have h1 : Z + k * D + Pn * a = RM + Pn * c := by omega
  have hac : a ≤ c := by
    apply Classical.byContradiction
    intro hn
    have : Pn * (c + 1) ≤ Pn * a := Nat.mul_le_mul_left _ (by omega)
    rw [Nat.mul_add, Nat.mul_one] at this
    omega
  obtain ⟨t, rfl⟩ : ∃ t, c = a + t := ⟨c - a, by omega⟩
  rw [Nat.add_sub_cancel_left]
  rw [Nat.mul_add] at h1
  refine ⟨by omega, by omega, ?_⟩
  apply Classical.byContradiction
  intro hn
  have e1 : Pn * 3 ≤ Pn * t := Nat.mul_le_mul_left _ (by omega)
  have e2 : k * D ≤ 2 * D := Nat.mul_le_mul_right _ hk
  omega
def ng (s : Nat) : BitVec 32 := BitVec.ofNat 32 (4294967296 - s)
theorem ng_nat (s : Nat) (h : s ≤ 2) : (ng s).toNat = if s = 0 then 0 else 4294967296 - s := by
  unfold ng
  rw [bv_of]
  split <;> omega
theorem But.drew1 (g : Nat) (w : World) : But g w w.drew := ⟨rfl, rfl, rfl, Nat.le_refl _, fun _ _ _ => rfl⟩
theorem ng_wrap (a c : Nat) (h : a ≤ c) (h2 : c - a ≤ 2) : IntKind.u32.wrap ((a : Int) - (c : Int)) = ((ng (c - a)).toNat : Int) ∧ ((a : Int) - (c : Int)) % 4294967296 = ((ng (c - a)).toNat : Int) := by
  rw [IntKind.wrap_u32, ng_nat _ h2]
  split <;> omega
theorem ng_add (s c : Nat) (h : c ≤ s) (h2 : s ≤ 2) (h0 : s ≠ 0) : IntKind.u32.wrap (((ng s).toNat : Int) + (c : Int)) = ((ng (s - c)).toNat : Int) ∧ (((ng s).toNat : Int) + (c : Int)) % 4294967296 = ((ng (s - c)).toNat : Int) := by
  rw [IntKind.wrap_u32, ng_nat _ h2, ng_nat (s - c) (by omega), if_neg h0]
  split <;> omega
theorem ng_cell (s : Nat) (h : s ≤ 2) : ((ng s).toNat = 0 ↔ s = 0) := by
  rw [ng_nat s h]
  split <;> omega
set_option maxRecDepth 100000 in
set_option maxHeartbeats 800000 in
theorem goesIn_in (W : World) (g h t o c1 c2 n : Nat) (A C : List Value) (xs ys : List (BitVec 32)) (hA : A.length = o) (hx : xs.length = n + 1) (hy : ys.length = n) (hn : n ≤ 500) (hn1 : 1 ≤ n) (ho : o ≤ 500) (hc1 : n + 1 ≤ c1) (hc1b : c1 ≤ 1000)
    (hX : val xs < val ys * 4294967296) (htop : 2147483648 ≤ (ys[n - 1]?.getD 0).toNat)
    (hg : W.heap[g]? = some (.cells (A ++ (wl xs ++ C)).toArray t (0, 0))) (hne : h ≠ g) (hh : ∀ j, j < n → W.cell? ⟨h, 0 + j, none⟩ = some (.int .u32 ((ys[j]?.getD 0).toNat : Int))) :
    Calls Tryz.prog 141 #[.slice (some ⟨g, o, none⟩) (n + 1) c1, .slice (some ⟨h, 0, none⟩) n c2] W fun e w' => ∃ zs : List (BitVec 32), zs.length = n + 1 ∧ val zs = val xs % val ys ∧ e = .returned (.int .u32 ((val xs / val ys : Nat) : Int)) ∧ w'.heap[g]? = some (.cells (A ++ (wl zs ++ C)).toArray t (0, 0)) ∧ But g W w' := by
  obtain ⟨D, hD⟩ : ∃ D, val ys = D := ⟨_, rfl⟩
  obtain ⟨X, hXX⟩ : ∃ X, val xs = X := ⟨_, rfl⟩
  rw [hD, hXX] at hX
  rw [hD, hXX]
  have hDn : D < 4294967296 ^ n := by rw [← hD, ← hy]; exact val_lt ys
  obtain ⟨m, rfl⟩ : ∃ m, n = m + 1 := ⟨n - 1, by omega⟩
  rw [Nat.add_sub_cancel] at htop
  -- the three digits that are looked at
  have s1 := val_split xs (m + 1)
  have s2 := val_take_succ xs m (by omega)
  have s3 := val_take_succ ys m (by omega)
  have hl1 : (xs.take (m + 1)).length = m + 1 := by rw [List.length_take]; omega
  have hdr : xs.drop (m + 1) = [xs[m + 1]?.getD 0] := by
    rw [List.drop_eq_getElem_cons (by omega), List.drop_eq_nil_of_le (by omega), List.getElem?_eq_getElem (by omega)]
    rfl
  rw [hl1, hdr, val_one, s2, hXX] at s1
  rw [List.take_of_length_le (by omega), hD] at s3
  have l1 := val_lt (xs.take m)
  have l2 := val_lt (ys.take m)
  rw [List.length_take, Nat.min_eq_left (by omega)] at l1 l2
  have HXT : Hid (xs = xs.take (m + 1) ++ [xs[m + 1]?.getD 0]) := by rw [Hid, ← hdr, List.take_append_drop]
  have HVT : Hid (val (xs.take (m + 1)) + 4294967296 ^ (m + 1) * (xs[m + 1]?.getD 0).toNat = X) := by rw [Hid, s2]; exact s1.symm
  have hDp : 0 < D := by
    have : 4294967296 ^ m * 1 ≤ 4294967296 ^ m * (ys[m]?.getD 0).toNat := Nat.mul_le_mul_left _ (by omega)
    have : 0 < 4294967296 ^ m := Nat.pow_pos (by omega)
    omega
  have hXe : X = val (xs.take m) + 4294967296 ^ m * ((xs[m]?.getD 0).toNat + 4294967296 * (xs[m + 1]?.getD 0).toNat) := by rw [s1, Nat.pow_succ, Nat.mul_add (4294967296 ^ m), Nat.mul_assoc, Nat.add_assoc]
  have gA := guess_ge X D (xs[m + 1]?.getD 0).toNat (xs[m]?.getD 0).toNat (ys[m]?.getD 0).toNat _ _ _ hXe l1 s3 (by omega) hX
  have gB := guess_le X D (xs[m + 1]?.getD 0).toNat (xs[m]?.getD 0).toNat (ys[m]?.getD 0).toNat _ _ _ hXe s3 l2 htop
  have HQR : Hid (X / D * D + X % D = X) := by rw [Hid, Nat.mul_comm]; exact Nat.div_add_mod X D
  have hRM : X % D < D := Nat.mod_lt _ hDp
  have hqb : X / D < 4294967296 := (Nat.div_lt_iff_lt_mul hDp).2 (by rw [Nat.mul_comm]; exact hX)
  have HCX : Hid (∀ j, j < m + 2 → W.cell? ⟨g, o + j, none⟩ = some (.int .u32 ((xs[j]?.getD 0).toNat : Int)) ∧ W.frozen? ⟨g, o + j, none⟩ = false) := fun j hj => by rw [← hA]; exact cells_at hg (mid_at A C xs j (by omega))
  have e1 := (HCX.out (m + 1) (by omega)).1
  have e2 := (HCX.out m (by omega)).1
  have e3 := hh m (by omega)
  have f1 := (HCX.out (m + 1) (by omega)).2
  have HLT : Hid ((xs.take (m + 1)).length = m + 1) := hl1
  have HGX : Hid (W.heap[g]? = some (.cells (A ++ (wl (xs.take (m + 1)) ++ (wl [xs[m + 1]?.getD 0] ++ C))).toArray t (0, 0))) := by
    have hgg := hg
    rw [HXT.out, wl_app, List.append_assoc] at hgg
    exact hgg
  have HGS := Hid.mk (guess_in (xs[m + 1]?.getD 0) (xs[m]?.getD 0) (ys[m]?.getD 0) (by omega))
  rw [Nat.zero_add] at e3
  have gC : gs (xs[m + 1]?.getD 0).toNat (xs[m]?.getD 0).toNat (ys[m]?.getD 0).toNat ≤ 4294967295 := by unfold gs; omega
  generalize gs (xs[m + 1]?.getD 0).toNat (xs[m]?.getD 0).toNat (ys[m]?.getD 0).toNat = G at gA gB gC HGS
  generalize xs[m + 1]?.getD 0 = a at e1 HVT HGS HGX HXT
  generalize xs[m]?.getD 0 = b at e2 HGS
  generalize ys[m]?.getD 0 = d at e3 HGS
  generalize X / D = Q at gA gB HQR hqb ⊢
  generalize X % D = RM at HQR hRM ⊢
  obtain ⟨k, hk⟩ : ∃ k, G = Q + k := ⟨G - Q, by omega⟩
  have hk2 : k ≤ 2 := by omega
  have HK := Hid.mk hk
  have hDle : D ≤ 4294967296 ^ (m + 1) := by omega
  have HA := Hid.mk hA
  have HHB : Hid (∀ W' : World, (∀ k, k ≠ g → k < W.heap.size → W'.heap[k]? = W.heap[k]?) → ∀ j, j < m + 1 → W'.cell? ⟨h, 0 + j, none⟩ = some (.int .u32 ((ys[j]?.getD 0).toNat : Int))) := fun W' hb j hj =>
    (World.cell?_of_block (w := W) (a := ⟨h, 0 + j, none⟩) (hb h hne (cell_block (hh j hj)))).trans (hh j hj)
  have HTK : Hid (∀ W' : World, W'.heap[g]? = some (.cells (A ++ (wl (xs.take (m + 1)) ++ (wl [a] ++ C))).toArray t (0, 0)) → (∀ k, k ≠ g → k < W.heap.size → W'.heap[k]? = W.heap[k]?) → Calls Tryz.prog 127 #[.slice (some ⟨g, o, none⟩) (m + 1) c1, .slice (some ⟨h, 0, none⟩) (m + 1) c2, .int .u32 (G : Int)] W' fun e w' => ∃ (zs : List (BitVec 32)) (c : BitVec 32), zs.length = m + 1 ∧ a.toNat ≤ c.toNat ∧ val zs + k * D = RM + 4294967296 ^ (m + 1) * (c.toNat - a.toNat) ∧ c.toNat - a.toNat ≤ 2 ∧ e = .returned (.int .u32 (c.toNat : Int)) ∧ w'.heap[g]? = some (.cells (A ++ (wl (zs ++ [a]) ++ C)).toArray t (0, 0)) ∧ But g W' w') := fun W' hg' hb' => by
    have hGb : G < 4294967296 := by omega
    have hGv : (BitVec.ofNat 32 G).toNat = G := by rw [bv_of]; omega
    have h := takeFrom_in W' g h t o 0 c1 c2 (m + 1) A (wl [a] ++ C) (xs.take (m + 1)) ys (BitVec.ofNat 32 G) hA HLT.out hy (by omega) (by omega) (by omega) hg' hne (HHB.out W' hb')
    rw [hGv] at h
    refine h.mono ?_
    rintro e w' ⟨zs, c, a1, a2, a3, a4, a5⟩
    have lz := val_lt zs
    rw [a1] at lz
    rw [hD, HK.out] at a2
    obtain ⟨r1, r2, r3⟩ := first_take _ _ _ _ _ _ _ _ a.toNat a2 (by rw [HVT.out]; exact HQR.out.symm) hRM hDle lz hk2
    refine ⟨zs, c, a1, r1, r2, r3, a3, ?_, a5⟩
    rw [wl_app, List.append_assoc]
    exact a4
  have HAD : Hid (∀ (W' : World) (zs : List (BitVec 32)) (rv : BitVec 32), zs.length = m + 1 → W'.heap[g]? = some (.cells (A ++ (wl (zs ++ [rv]) ++ C)).toArray t (0, 0)) → (∀ k, k ≠ g → k < W.heap.size → W'.heap[k]? = W.heap[k]?) → Calls Tryz.prog 126 #[.slice (some ⟨g, o, none⟩) (m + 1) c1, .slice (some ⟨h, 0, none⟩) (m + 1) c2] W' fun e w' => ∃ (us : List (BitVec 32)) (c : BitVec 32), us.length = m + 1 ∧ val us + 4294967296 ^ (m + 1) * c.toNat = val zs + D ∧ e = .returned (.int .u32 (c.toNat : Int)) ∧ w'.heap[g]? = some (.cells (A ++ (wl (us ++ [rv]) ++ C)).toArray t (0, 0)) ∧ But g W' w') := fun W' zs rv hz hg' hb' => by
    rw [wl_app, List.append_assoc] at hg'
    have h := addTo_in W' g h t o 0 c1 c2 (m + 1) A (wl [rv] ++ C) zs ys hA hz hy (by omega) (by omega) (by omega) hg' hne (HHB.out W' hb')
    refine h.mono ?_
    rintro e w' ⟨us, c, a1, a2, a3, a4, a5⟩
    refine ⟨us, c, a1, by rw [a2, hD], a3, ?_, a5⟩
    rw [wl_app, List.append_assoc]
    exact a4
  have HEN : Hid (∀ (w5 : World) (zs : List (BitVec 32)) (rv : BitVec 32), zs.length = m + 1 → w5.heap[g]? = some (.cells (A ++ (wl (zs ++ [rv]) ++ C)).toArray t (0, 0)) → w5.cell? ⟨g, o + (m + 1), none⟩ = some (.int .u32 (rv.toNat : Int)) ∧ w5.frozen? ⟨g, o + (m + 1), none⟩ = false ∧ ∀ u : BitVec 32, (w5.setCell ⟨g, o + (m + 1), none⟩ (.int .u32 (u.toNat : Int))).heap[g]? = some (.cells (A ++ (wl (zs ++ [u]) ++ C)).toArray t (0, 0))) := fun w5 zs rv hz hr => by
    have hl : m + 1 < (zs ++ [rv]).length := by rw [List.length_append, hz]; simp
    have e0 : (zs ++ [rv])[m + 1]?.getD 0 = rv := by rw [List.getElem?_append_right (by omega), hz, Nat.sub_self]; rfl
    obtain ⟨q1, q2⟩ := cells_at hr (mid_at A C (zs ++ [rv]) (m + 1) hl)
    rw [e0, hA] at q1
    rw [hA] at q2
    refine ⟨q1, q2, fun u => ?_⟩
    have hp := cells_put (j := o + (m + 1)) hr (.int .u32 (u.toNat : Int))
    rw [← hA, mid_set A C (zs ++ [rv]) (m + 1) hl u, List.set_append_right _ _ (by omega), hz, Nat.sub_self, hA] at hp
    exact hp
  have hGb2 : G < 4294967296 := by omega
  have ai := bv_lt a
  have HNB : Hid (∀ W' : World, W'.heap = W.heap → ∀ k, k ≠ g → k < W.heap.size → W'.heap[k]? = W.heap[k]?) := fun W' e k _ _ => by rw [e]
  have HDL := Hid.mk hDle
  clear hD hXX s1 s2 s3 l1 l2 hl1 hdr hXe hX htop hg hh hA hx hy hDle hDn hk gA gB
  have mi0 : (0 : Int) ≤ (m : Int) := by omega
  have mi1 : (m : Int) < (m : Int) + 1 := by omega
  have mi2 : (m : Int) + 1 - 1 = (m : Int) := by omega
  have mi3 : (m : Int) + 1 < (m : Int) + 1 + 1 := by omega
  have mi4 : (0 : Int) ≤ (m : Int) + 1 := by omega
  have mi5 : ((m : Int) + 1).toNat = m + 1 := by omega
  have mi6 : (m : Int) + 1 ≤ (c1 : Int) := by omega
  have mi7 : m + 1 ≤ c1 := by omega
  have mi8 : IntKind.i64.wrap ((m : Int) + 1 - 1) = (m : Int) := by rw [IntKind.wrap_i64]; omega
  go_enter Tryz.func141, Tryz.ntmps141
  go_wp2_with fail
  go_quiet (first
    | (go_at_call 148; exact (HGS.out _).mono fun _ _ hh => ⟨hh.1, _, hh.2⟩))
  have E1 : (W.drewN nq).cell? ⟨g, o + (m + 1), none⟩ = some (.int .u32 (a.toNat : Int)) := e1
  have F1 : (W.drewN nq).frozen? ⟨g, o + (m + 1), none⟩ = false := f1
  have HG1 : Hid ((W.drewN nq).heap[g]? = _) := HGX.out
  have HB1 : Hid (∀ k, k ≠ g → k < W.heap.size → (W.drewN nq).heap[k]? = W.heap[k]?) := fun _ _ _ => rfl
  have hbut1 : But g W (W.drewN nq) := But.drewN _ _ _
  clear e1 e2 e3 f1 HGX HGS HCX HNB
  generalize W.drewN nq = V at E1 F1 HG1 HB1 hbut1 ⊢
  go_wp2_with fail
  go_region_with (first
    | (go_at_call 127; refine (HTK.out _ (by exact HG1.out) (by exact HB1.out)).mono ?_; rintro e w5 ⟨zs, c, hzl, hac, hval, hs2, rfl, hrow5, hbut⟩; obtain ⟨hc5, hf5, hput⟩ := HEN.out w5 zs a hzl hrow5; obtain ⟨hw1, hw2⟩ := ng_wrap a.toNat c.toNat hac hs2; have HPUT := Hid.mk hput; have HBUT := Hid.mk hbut; have HZL := Hid.mk hzl; have HVAL := Hid.mk hval; have HS2 := Hid.mk hs2; clear hput hbut hzl hval hrow5 hac hs2))
  all_goals (
    generalize c.toNat - a.toNat = s at hw1 hw2 HVAL HS2 ⊢
    have HROW := Hid.mk (HPUT.out (ng s))
    have HBW : But g W w5 := hbut1.trans ((But.drew1 g V).trans HBUT.out)
    clear HPUT HBUT
    go_wp2_with fail
    go_loopw [6] (fun iv wr => ∃ (k s : Nat) (zs : List (BitVec 32)), k ≤ 2 ∧ s ≤ 2 ∧ Q + k ≤ 4294967295 ∧ iv = .int .u32 ((Q + k : Nat) : Int) ∧ Hid (zs.length = m + 1) ∧ Hid (val zs + k * D = RM + 4294967296 ^ (m + 1) * s) ∧ wr.heap[g]? = some (.cells (A ++ (wl (zs ++ [ng s]) ++ C)).toArray t (0, 0)) ∧ But g W wr) (fun iv _ => (intOf iv).toNat)
    case atStart => exact ⟨k, s, zs, hk2, HS2.out, by rw [← HK.out]; exact gC, by rw [HK.out], HZL, HVAL, HROW.out, HBW.trans (But.setCell _ _ _ _)⟩
    case round =>
      obtain ⟨k, s, zs, hk2, hs2, hqk, rfl, HZL, HVAL, hrow, hbw⟩ := hrel
      obtain ⟨hcc, hff, hput⟩ := HEN.out wr zs (ng s) HZL.out hrow
      have HROW := Hid.mk hrow
      have HPUT := Hid.mk hput
      clear hrow hput
      have hzl := Hid.mk (val_lt zs)
      by_cases hs0 : s = 0
      · have h0 := (ng_cell s hs2).2 hs0
        rw [h0] at hcc
        have HK0 : Hid (k = 0) := by
          apply Classical.byContradiction
          intro hn
          have e1 := HVAL.out
          rw [hs0, Nat.mul_zero, Nat.add_zero] at e1
          have h3 : 1 * D ≤ k * D := Nat.mul_le_mul_right _ (Nat.one_le_iff_ne_zero.2 hn)
          rw [Nat.one_mul] at h3
          omega
        have HFIN : Hid (val (zs ++ [ng s]) = RM) := by
          rw [Hid, val_snoc, h0, Nat.mul_zero, Nat.add_zero]
          have e1 := HVAL.out
          rw [hs0, HK0.out, Nat.mul_zero, Nat.zero_mul] at e1
          omega
        clear h0
        go_wp2
        go_ret
        refine ⟨zs ++ [ng s], by rw [List.length_append, HZL.out]; rfl, HFIN.out, ?_, HROW.out, hbw⟩
        rw [HK0.out]
        rfl
      · have h0 : (ng s).toNat ≠ 0 := fun e => hs0 ((ng_cell s hs2).1 e)
        have hne2 : (((ng s).toNat : Int) != 0) = true := by rw [bne_iff_ne]; omega
        have HB2 : Hid (∀ k, k ≠ g → k < W.heap.size → wr.heap[k]? = W.heap[k]?) := hbw.block
        obtain ⟨k', hk'⟩ : ∃ k', k = k' + 1 := by
          refine ⟨k - 1, ?_⟩
          apply Classical.byContradiction
          intro hn
          have hk0 : k = 0 := by omega
          have e1 := HVAL.out
          have e2 := hzl.out
          rw [hk0, Nat.zero_mul, Nat.add_zero] at e1
          rw [HZL.out] at e2
          have : 4294967296 ^ (m + 1) * 1 ≤ 4294967296 ^ (m + 1) * s := Nat.mul_le_mul_left _ (by omega)
          omega
        have HPR : Hid (∀ (us : List (BitVec 32)) (c : BitVec 32), us.length = m + 1 → val us + 4294967296 ^ (m + 1) * c.toNat = val zs + D → c.toNat ≤ s ∧ val us + k' * D = RM + 4294967296 ^ (m + 1) * (s - c.toNat)) := fun us c hu hv => by
          have lz := val_lt us
          rw [hu] at lz
          have e1 := HVAL.out
          rw [hk'] at e1
          exact put_right _ _ _ _ _ _ _ _ e1 hv hRM HDL.out lz
        have qk1 : ((Q + k : Nat) : Int) - 1 = ((Q + k' : Nat) : Int) := by omega
        have qk2 : IntKind.u32.wrap (((Q + k : Nat) : Int) - 1) = ((Q + k' : Nat) : Int) := by rw [IntKind.wrap_u32]; omega
        have hqk' : Q + k' ≤ 4294967295 := by omega
        have hk2' : k' ≤ 2 := by omega
        have hlt' : Q + k' < Q + k := by omega
        obtain ⟨K1, hK1⟩ : ∃ K1, Q + k = K1 := ⟨_, rfl⟩
        obtain ⟨K2, hK2⟩ : ∃ K2, Q + k' = K2 := ⟨_, rfl⟩
        rw [hK1, hK2] at qk1 qk2 hlt'
        rw [hK1]
        rw [hK1] at hqk
        have HK2 := Hid.mk hK2
        clear hK1 hK2 hk' HVAL
        go_wp2_with fail
        go_region_with (first
          | (go_at_call 126; refine (HAD.out _ zs (ng s) HZL.out (by exact HROW.out) (by exact HB2.out)).mono ?_; rintro e w5 ⟨us, c, hul, hval, rfl, hrow5, hbut⟩; obtain ⟨hc5, hf5, hput⟩ := HEN.out w5 us (ng s) hul hrow5; obtain ⟨hcs, hv2⟩ := HPR.out us c hul hval; obtain ⟨hw1, hw2⟩ := ng_add s c.toNat hcs hs2 hs0; have HPUT5 := Hid.mk hput; have HBUT5 := Hid.mk hbut; have HUL := Hid.mk hul; have HV2 := Hid.mk hv2; clear hput hbut hul hval hrow5 hcs hv2))
        all_goals (
          have HBW5 : But g W w5 := hbw.trans ((But.drew1 g wr).trans HBUT5.out)
          clear HBUT5
          go_wp2
          go_roundw
          case rel =>
            exact ⟨k', s - c.toNat, us, hk2', by omega, hqk', by rw [HK2.out], HUL, HV2, HPUT5.out _, HBW5.trans (But.setCell _ _ _ _)⟩
          case measure => simp [intOf]; omega))
end Go.Proofs.YtpimliebiapnfaaGreatDoor.N
/- Bytes. -/
namespace Go.Proofs.YtpimliebiapnfaaGreatDoor.N
set_option linter.unusedVariables false
open Go.RowKit
theorem info5 : (Tryz.prog.info? 5).map (fun i => (i.zero, i.size, i.bytes)) = some (some (.int .u8 0), 1, 1) := by kernel_rfl
theorem info_of {t : Nat} {z : Value} {n b : Nat} (h : (Tryz.prog.info? t).map (fun i => (i.zero, i.size, i.bytes)) = some (some z, n, b)) : ∃ i0, Tryz.prog.info? t = some i0 ∧ i0.zero = some z ∧ i0.size = n ∧ i0.bytes = b := by
  cases hq : Tryz.prog.info? t with
  | none => simp [hq] at h
  | some i => exact ⟨i, rfl, by simp [hq] at h; exact h.1, by simp [hq] at h; exact h.2.1, by simp [hq] at h; exact h.2.2⟩
def bcl (l : List UInt8) : List Value := l.map fun c => Value.int .u8 (c.toNat : Int)
theorem bcl_at (l : List UInt8) (j : Nat) (h : j < l.length) : (bcl l)[j]? = some (.int .u8 ((l[j]?.getD 0).toNat : Int)) := by
  simp [bcl, List.getElem?_eq_getElem h]
theorem bcl_set (l : List UInt8) (j : Nat) (c : UInt8) : (bcl l).set j (.int .u8 (c.toNat : Int)) = bcl (l.set j c) := by simp [bcl]
theorem own_back {w : World} {base g n cap : Nat} {l : List UInt8} (h : w.ownsRow base 5 1 (.slice (some ⟨g, 0, none⟩) n cap) n (bcl l)) (hl : l.length = n) :
    (convert 90 9 (.slice (some ⟨g, 0, none⟩) n cap)).run Tryz.prog w = .ok (.string ⟨l.toArray⟩) w := by
  subst hl
  refine run_convert_bytes_back (P := Tryz.prog) w 90 9 5 ⟨g, 0, none⟩ cap l Tryz.underlying90 Tryz.underlying5 Tryz.underlying9 (fun j hj => ?_)
  rw [addr_at, Nat.zero_add, h.cellAt j (by omega)]
  simp [bcl, hj]
theorem made_zeros (n : Nat) : (madeCells (Value.int .u8 0).cells (n * 1)).toList = bcl (List.replicate n 0) := by
  apply List.ext_getElem?
  intro k
  simp [madeCells, bcl, Value.cells, List.getElem?_replicate]
  by_cases hk : k < n
  · rw [if_pos hk, List.getElem?_range hk]
    simp [Nat.mod_one]
  · rw [if_neg hk, List.getElem?_eq_none (by simpa using hk)]
    rfl
theorem dg_at (N : Nat) (h : N < Lim) (j : Nat) (hj : j < 128) : ((dg N)[j]?.getD 0).toNat = N / 4294967296 ^ j % 4294967296 := by
  have h1 := val_cut (dg N) j (by rw [dg_len]; exact hj)
  rw [dg_val N h] at h1
  have h2 := val_lt ((dg N).take j)
  rw [List.length_take, dg_len, Nat.min_eq_left (by omega)] at h2
  have hp : 0 < 4294967296 ^ j := Nat.pow_pos (by omega)
  have h3 := bv_lt ((dg N)[j]?.getD 0)
  have h4 : N / 4294967296 ^ j = ((dg N)[j]?.getD 0).toNat + 4294967296 * val ((dg N).drop (j + 1)) := by
    have e : N = 4294967296 ^ j * (((dg N)[j]?.getD 0).toNat + 4294967296 * val ((dg N).drop (j + 1))) + val ((dg N).take j) := by omega
    rw [e, Nat.mul_add_div hp, Nat.div_eq_of_lt h2, Nat.add_zero, ← e]
  rw [h4]
  omega
theorem byte_at (N i : Nat) : N / 4294967296 ^ (i / 4) % 4294967296 / 2 ^ (8 * (i % 4)) % 256 = N / 256 ^ i % 256 := by
  have e : 256 ^ i = 4294967296 ^ (i / 4) * 256 ^ (i % 4) := by
    rw [show (4294967296 : Nat) = 256 ^ 4 from rfl, ← Nat.pow_mul, ← Nat.pow_add, Nat.div_add_mod]
  rw [e, ← Nat.div_div_eq_div_mul]
  generalize N / 4294967296 ^ (i / 4) = A
  rcases (show i % 4 = 0 ∨ i % 4 = 1 ∨ i % 4 = 2 ∨ i % 4 = 3 by omega) with h | h | h | h <;> (rw [h]; simp only [Nat.reduceMul, Nat.reducePow]; omega)
def bys (N L : Nat) : List UInt8 := (List.range L).map fun k => UInt8.ofNat (N / 256 ^ (L - 1 - k))
def nbl (N : Nat) : Nat := (btl N + 7) / 8
def byr (N L i : Nat) : List UInt8 := (List.range L).map fun k => if L - i ≤ k then UInt8.ofNat (N / 256 ^ (L - 1 - k)) else 0
theorem byr_zero (N L : Nat) : byr N L 0 = List.replicate L 0 := by
  apply List.ext_getElem
  · simp [byr]
  · intro k h1 h2
    simp only [byr, List.getElem_map, List.getElem_range, List.getElem_replicate]
    rw [List.length_replicate] at h2
    rw [if_neg (by omega)]
theorem byr_all (N L i : Nat) (h : L ≤ i) : byr N L i = bys N L := by
  unfold byr bys
  apply List.map_congr_left
  intro k hk
  rw [if_pos (by omega)]
theorem byr_next (N L i : Nat) (h : i < L) : (byr N L i).set (L - 1 - i) (UInt8.ofNat (N / 256 ^ i)) = byr N L (i + 1) := by
  apply List.ext_getElem
  · simp [byr]
  · intro k h1 h2
    rw [List.getElem_set]
    simp only [byr, List.getElem_map, List.getElem_range]
    by_cases e : L - 1 - i = k
    · rw [if_pos e, if_pos (by omega), show L - 1 - k = i by omega]
    · rw [if_neg e]
      by_cases e2 : L - i ≤ k
      · rw [if_pos e2, if_pos (by omega)]
      · rw [if_neg e2, if_neg (by omega)]
theorem byr_len (N L i : Nat) : (byr N L i).length = L := by simp [byr]
theorem bys_len (N L : Nat) : (bys N L).length = L := by simp [bys]
theorem btl_le (N : Nat) (h : N < Lim) : btl N ≤ 4096 := by
  unfold btl
  split
  · omega
  · rename_i h0
    have h1 := mny_le N h
    unfold mny at h1
    rw [if_neg h0] at h1
    omega
set_option maxRecDepth 100000 in
set_option maxHeartbeats 2000000 in
theorem bytes_in (N : Nat) (h : N < Lim) (W : World) : Calls Tryz.prog 61 #[.agg (natL N).toArray] W fun e w' => e = .returned (.string ⟨(bys N (nbl N)).toArray⟩) ∧ Below W.heap.size W w' := by
  obtain ⟨i0, hi, hz0, hz1, hz2⟩ := info_of info5
  have HBX := Hid.mk (boxed W (natL N) 38)
  have HBT := Hid.mk (bits_in N h)
  have hbl := btl_le N h
  obtain ⟨L, hL⟩ : ∃ L, nbl N = L := ⟨_, rfl⟩
  have hLb : L ≤ 512 := by rw [← hL]; unfold nbl; omega
  have d1 : ((btl N : Int) + 7).tdiv 8 = (L : Int) := by rw [Int.tdiv_eq_ediv_of_nonneg (by omega), ← hL]; unfold nbl; omega
  have d2 : ((btl N : Int) + 7) / 8 = (L : Int) := by rw [← hL]; unfold nbl; omega
  have HDG : Hid (∀ j, j < 128 → ((dg N)[j]?.getD 0).toNat = N / 4294967296 ^ j % 4294967296) := fun j hj => dg_at N h j hj
  have hB : Below W.heap.size W (W.alloc (.cells (natL N).toArray 38)) := (Below.refl _ _).alloc (Nat.le_refl _) _
  rw [hL]
  clear hL
  generalize btl N = bn at HBT hbl d1 d2
  go_enter Tryz.func61, Tryz.ntmps61
  go_upto_region 1 with fail
  generalize W.alloc (.cells (natL N).toArray 38) = V at HBX hB ⊢
  refine wp_region_lit ?_
  refine wpList_run (W' := V) (v := .agg (natL N).toArray) rfl (op_load HBX.out (natL_len N) rfl rfl) ?_
  simp only [Act.put, List.setIfInBounds_toArray, List.set_cons_succ, List.set_cons_zero]
  go_wp2_with fail
  refine (HBT.out _).mono ?_
  rintro e w1 ⟨rfl, hb1⟩
  have HB1 : Hid (w1.heap[W.heap.size]? = some (.cells (natL N).toArray 38 (0, 0))) := (hb1.block _ (box_lt HBX.out)).trans HBX.out
  have hBW : Below W.heap.size W w1 := bthen hB hb1
  clear HBX hB hb1
  go_wp2_with (at_make; refine wpList_make_full _ rfl _ _ 90 rfl w1.heap.size 5 i0 (.int .u8 0) 1 Tryz.underlying90 hi hz0 hz1 _ _ _ _ L rfl rfl rfl rfl (by rw [hz2]; omega) (by unfold maxLen; omega) (Nat.le_refl _) ?_; intro w2 hown2 hgrow2)
  have B2 : Below w1.heap.size w1 w2 := (Below.refl _ _).grown hgrow2 (Nat.le_refl _) (by simp)
  rw [made_zeros, ← byr_zero N L] at hown2
  have HB2 : Hid (w2.heap[W.heap.size]? = some (.cells (natL N).toArray 38 (0, 0))) := (B2.block _ (box_lt HB1.out)).trans HB1.out
  have hgw : W.heap.size < w1.heap.size := box_lt HB1.out
  have hBW2 : Below W.heap.size W w2 := bthen hBW B2
  have HO2 := Hid.mk hown2
  clear hown2 hgrow2 B2 HB1 hBW d1 d2
  generalize w1.heap.size = g at hgw HO2 ⊢
  go_wp2_with fail
  go_loopw [12] (fun iv wr => ∃ i : Nat, i ≤ L ∧ iv = .int .i64 (i : Int) ∧ wr.ownsRow g 5 1 (.slice (some ⟨g, 0, none⟩) L L) L (bcl (byr N L i)) ∧ wr.heap[W.heap.size]? = some (.cells (natL N).toArray 38 (0, 0)) ∧ Below W.heap.size W wr) (fun iv _ => L - (intOf iv).toNat)
  case atStart => exact ⟨0, by omega, rfl, HO2.out, HB2.out, hBW2⟩
  case round =>
    obtain ⟨i, hi2, rfl, hown, hbx, hbl2⟩ := hrel
    have HO := Hid.mk hown
    have HBX := Hid.mk hbx
    clear HO2 HB2 hBW2
    by_cases hlt : i < L
    · obtain ⟨j, hj⟩ : ∃ j, i / 4 = j := ⟨_, rfl⟩
      obtain ⟨r, hr⟩ : ∃ r, i % 4 = r := ⟨_, rfl⟩
      obtain ⟨k, hk⟩ : ∃ k, L - 1 - i = k := ⟨_, rfl⟩
      have hj128 : j < 128 := by omega
      have hcx := (cells_at hbx (nat_at N j hj128)).1
      have HNX := Hid.mk (byr_next N L i hlt)
      rw [hk] at HNX
      have HBA := Hid.mk (byte_at N i)
      rw [hj, hr] at HBA
      rw [HDG.out j hj128] at hcx
      have hcb : wr.cell? ⟨g, k, none⟩ = some (.int .u8 (((byr N L i)[k]?.getD 0).toNat : Int)) := by rw [hown.cellAt k (by omega), bcl_at _ _ (by rw [byr_len]; omega)]
      have hfb := hown.frozenAt k
      generalize N / 4294967296 ^ j % 4294967296 = dd at hcx HBA
      obtain ⟨qd, hqd⟩ : ∃ qd, dd / 2 ^ (8 * r) = qd := ⟨_, rfl⟩
      rw [hqd] at HBA
      obtain ⟨y, HY⟩ : ∃ y, Hid (y = UInt8.ofNat (N / 256 ^ i)) := ⟨_, rfl⟩
      rw [← HY.out] at HNX
      have hyn : y.toNat = qd % 256 := by rw [HY.out, UInt8.toNat_ofNat', HBA.out]
      have t1 : (i : Int).tdiv 4 = (j : Int) := by rw [Int.tdiv_eq_ediv_of_nonneg (by omega)]; omega
      have t2 : (i : Int) / 4 = (j : Int) := by omega
      have t3 : (i : Int).tmod 4 = (r : Int) := by rw [Int.tmod_eq_emod_of_nonneg (by omega)]; omega
      have t4 : (i : Int) % 4 = (r : Int) := by omega
      have t5 : ((8 : Int) * (r : Int)).toNat = 8 * r := by omega
      have t6 : (dd : Int) / 2 ^ (8 * r) = (qd : Int) := by rw [← hqd, Int.natCast_ediv, Int.natCast_pow]; rfl
      have t7 : IntKind.u8.wrap (qd : Int) = (y.toNat : Int) := by rw [IntKind.wrap_u8]; omega
      have t8 : (qd : Int) % 256 = (y.toNat : Int) := by omega
      have t9 : (L : Int) - 1 - (i : Int) = (k : Int) := by omega
      have hr4 : r < 4 := by omega
      have hj' : (j : Int) < 128 := by omega
      have hkl : (k : Int) < (L : Int) := by omega
      have hkl2 : k < L := by omega
      generalize (byr N L i)[k]?.getD 0 = y0 at hcb
      clear hown hbx hj hr hk hqd hyn
      go_wp2
      go_roundw
      case rel =>
        obtain ⟨h1, h2⟩ := HO.out.stored k (.int .u8 (y.toNat : Int))
        rw [bcl_set, HNX.out] at h1
        refine ⟨i + 1, by omega, by go_num, h1, ?_, hbl2.grown h2 (Nat.le_trans hbl2.size (Nat.le_refl _)) (fun k hk => by cases hk; omega)⟩
        exact (Below.heap_setCell _ _ _ _ (by show W.heap.size ≠ g; omega)).trans HBX.out
      case measure => simp [intOf]; omega
    · obtain rfl : i = L := by omega
      rw [byr_all N i i (Nat.le_refl _)] at HO
      have hcv := own_back HO.out (bys_len N i)
      clear hown hbx
      go_wp2
      go_ret
      exact ⟨rfl, hbl2⟩
end Go.Proofs.YtpimliebiapnfaaGreatDoor.N
/- strings.TrimLeft of noughts. -/
namespace Go.Proofs.YtpimliebiapnfaaGreatDoor.N
set_option linter.unusedVariables false
open Go.RowKit
theorem ba_ne {x y : ByteArray} (h : x ≠ y) : (x.toList == y.toList) = false ∧ (x.toList != y.toList) = true := by
  have hn : ¬ x.toList = y.toList := fun e => h (ba_ext (by rw [← ByteArray.toList_eq, ← ByteArray.toList_eq]; exact e))
  exact ⟨by simpa using hn, by simpa using hn⟩
def strip : List UInt8 → List UInt8
  | [] => []
  | c :: l => if c.toNat = 0 then strip l else c :: l
def strLen : Value → Nat
  | .string u => u.size
  | _ => 0
theorem index_get (s : ByteArray) (k : Nat) (x : UInt8) (h : k < s.size) (hx : s.data.toList[k]?.getD 0 = x) (W : World) : (Instr.index 9 (.string s) (.int .i64 (k : Int))).run Tryz.prog W = .ok (.int .u8 (x.toNat : Int)) W := by
  rw [run_index_string _ _ _ _ _ Tryz.underlying9]
  have e : s.data.toList[k]?.getD 0 = s[k] := by rw [List.getElem?_eq_getElem (by rw [size_list]; exact h)]; rfl
  rw [← hx, e]
  simp [h]
theorem strip_cons (l : List UInt8) (h : 0 < l.length) (h0 : (l[0]?.getD 0).toNat = 0) : strip l = strip (l.drop 1) := by
  cases l with
  | nil => simp at h
  | cons c l => rw [strip, if_pos (by simpa using h0)]; rfl
theorem strip_stop (l : List UInt8) (h : 0 < l.length) (h0 : (l[0]?.getD 0).toNat ≠ 0) : strip l = l := by
  cases l with
  | nil => simp at h
  | cons c l => rw [strip, if_neg (by simpa using h0)]
theorem ext_one (s : ByteArray) : (s.extract 1 s.size).data.toList = s.data.toList.drop 1 := by
  rw [ByteArray.data_extract, Array.toList_extract, List.extract_eq_take_drop]
  apply List.take_of_length_le
  rw [List.length_drop, size_list]
  exact Nat.le_refl _
set_option maxRecDepth 100000 in
theorem trimByte_in (s : ByteArray) (hs : s.size ≤ 140737488355328) (W : World) : Calls Tryz.prog 116 #[.string s, .int .u8 0] W fun e w' => e = .returned (.string ⟨(strip s.data.toList).toArray⟩) ∧ w' = W := by
  obtain ⟨R, hR⟩ : ∃ R, strip s.data.toList = R := ⟨_, rfl⟩
  have HR := Hid.mk hR
  rw [hR]
  clear hR
  go_enter Tryz.func116, Tryz.ntmps116
  go_wp2_with fail
  go_loopw [0] (fun v wr => ∃ u : ByteArray, v = .string u ∧ u.size ≤ 140737488355328 ∧ Hid (strip u.data.toList = R) ∧ wr = W) (fun v _ => strLen v)
  case atStart => exact ⟨s, rfl, hs, HR, rfl⟩
  case round =>
    obtain ⟨u, rfl, hu, HU, rfl⟩ := hrel
    obtain ⟨n, hn⟩ : ∃ n, u.size = n := ⟨_, rfl⟩
    have HN : Hid (u.data.toList.length = n) := by rw [Hid, size_list]; exact hn
    by_cases h0 : 0 < n
    · have hix := index_get u 0 _ (by omega) rfl
      have hni : (0 : Int) < (n : Int) := by omega
      by_cases hz : (u.data.toList[0]?.getD 0).toNat = 0
      · have HNX : Hid (strip (u.extract 1 u.size).data.toList = R) := by rw [Hid, ext_one, ← strip_cons _ (by rw [HN.out]; exact h0) hz]; exact HU.out
        have hsz : (u.extract 1 u.size).size = n - 1 := by rw [← size_list, ext_one, List.length_drop, HN.out]
        rw [hn] at HNX hsz
        have hix0 : ∀ W : World, (Instr.index 9 (.string u) (.int .i64 0)).run Tryz.prog W = .ok (.int .u8 0) W := fun W => by have := hix W; rwa [hz] at this
        have h1n : (1 : Int) ≤ (n : Int) := by omega
        have h1n2 : 1 ≤ n := by omega
        clear hix
        go_wp2
        go_roundw
        case rel => exact ⟨_, rfl, by rw [hsz]; omega, HNX, trivial⟩
        case measure => simp only [strLen]; rw [hsz, hn]; omega
      · have HST : Hid (u.data.toList = R) := by rw [Hid, ← HU.out]; exact (strip_stop _ (by rw [HN.out]; exact h0) hz).symm
        have hix0 : ∀ W : World, (Instr.index 9 (.string u) (.int .i64 0)).run Tryz.prog W = .ok (.int .u8 ((u.data.toList[0]?.getD 0).toNat : Int)) W := hix
        have hne : (((u.data.toList[0]?.getD 0).toNat : Int) == 0) = false := by rw [beq_eq_false_iff_ne]; omega
        generalize u.data.toList[0]?.getD 0 = c at hix0 hne
        clear hix
        go_wp2
        go_ret
        exact ⟨by rw [← HST.out]; exact congrArg (fun z => Ending.returned (.string z)) (ba_ext rfl), rfl⟩
    · have hn0 : n = 0 := by omega
      subst hn0
      have HST : Hid (u.data.toList = R) := by
        have e : u.data.toList = [] := List.eq_nil_of_length_eq_zero HN.out
        rw [Hid, ← HU.out, e]
        rfl
      go_wp2
      go_ret
      exact ⟨by rw [← HST.out]; exact congrArg (fun z => Ending.returned (.string z)) (ba_ext rfl), rfl⟩
set_option maxRecDepth 100000 in
theorem trim_in (s : ByteArray) (hs : s.size ≤ 140737488355328) (W : World) : Calls Tryz.prog 94 #[.string s, .string ⟨#[0]⟩] W fun e w' => e = .returned (.string ⟨(strip s.data.toList).toArray⟩) ∧ w' = W := by
  have HT := Hid.mk (trimByte_in s hs)
  have hc1 : ((⟨#[0]⟩ : ByteArray) == ⟨#[]⟩) = false := by decide
  have hc2 : (⟨#[0]⟩ : ByteArray).size = 1 := rfl
  have hix : ∀ W : World, (Instr.index 9 (.string ⟨#[0]⟩) (.int .i64 0)).run Tryz.prog W = .ok (.int .u8 0) W := fun W => index_get ⟨#[0]⟩ 0 0 (by show 0 < 1; omega) rfl W
  by_cases h0 : s = ⟨#[]⟩
  · subst h0
    go_enter Tryz.func94, Tryz.ntmps94
    go_wp2
    go_ret
    exact ⟨rfl, rfl⟩
  · obtain ⟨hb1, hb2⟩ := ba_ne h0
    have hb3 : (s.toList == []) = false := by rw [ByteArray.toList_eq] at hb1; rw [ByteArray.toList_eq]; rw [ByteArray.toList_eq] at hb1; exact hb1
    go_enter Tryz.func94, Tryz.ntmps94
    go_wp2_with fail
    refine (HT.out _).mono ?_
    rintro e w1 ⟨rfl, rfl⟩
    go_wp2
    go_ret
    exact ⟨rfl, rfl⟩
end Go.Proofs.YtpimliebiapnfaaGreatDoor.N