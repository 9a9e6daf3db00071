/- Mul. -/
import Derived.Test.YthjhemodmdficaaDoorNMinus
namespace Go.Proofs.YthjhemodmdficaaDoor
set_option linter.unusedVariables false
open Go.RowKit
theorem zero48' (W : World) : (zeroValue 72).run Tryd.prog W = .ok (.agg (wl (List.replicate 256 0)).toArray) W := by kernel_rfl
theorem zero48 (W : World) : (zeroValue 72).run Tryd.prog W = .ok (.agg (zl 256).toArray) W := by rw [zl_eq]; exact zero48' W
theorem mul_step (B V D X M x z Bq c : Nat) (h1 : V + B * D = X * M) (h2 : z + Bq * c = D + x * M) : V + B * z + B * Bq * c = (X + B * x) * M := by
  have h3 : B * (z + Bq * c) = B * (D + x * M) := by rw [h2]
  rw [Nat.mul_add, Nat.mul_add] at h3
  rw [Nat.add_mul, Nat.mul_assoc B, Nat.mul_assoc B]
  omega
set_option maxRecDepth 100000 in
set_option maxHeartbeats 4000000 in
theorem mul_in (N M : Nat) (hN : N < Lim) (hM : M < Lim) (W : World) : Calls Tryd.prog 24 #[.agg (natL N).toArray, .agg (natL M).toArray] W fun e w' => e = natR (N * M) ∧ Below W.heap.size W w' := by
  obtain ⟨R, rv, hR⟩ := natR_form (N * M)
  have HR := Hid.mk hR
  obtain ⟨p, hp⟩ : ∃ p, mny N = p := ⟨_, rfl⟩
  obtain ⟨q, hq⟩ : ∃ q, mny M = q := ⟨_, rfl⟩
  have hp1 : p ≤ 128 := by rw [← hp]; exact mny_le N hN
  have hq1 : q ≤ 128 := by rw [← hq]; exact mny_le M hM
  obtain ⟨V, hV, b0, b1, b2, b3, hB, hsz⟩ := four_new W (natL N) (natL M) (natL 0) (zl 256) 27 27 27 72
  have hz := zero26
  have hz2 := zero48
  rw [hR]
  clear hR
  go_enter Tryd.func24, Tryd.ntmps24
  go_upto_region 2 with fail
  simp only [Nat.add_assoc, Nat.reduceAdd]
  clear hV hz hz2
  have c0 : V.cell? ⟨W.heap.size, 128, none⟩ = some (.int .i64 (p : Int)) := by rw [← hp]; exact (cells_at b0 (nat_many N)).1
  have B0 := Hid.mk b0
  have B1 := Hid.mk b1
  have B2 := Hid.mk b2
  have B3 := Hid.mk b3
  have HPQ := Hid.mk (And.intro hp hq)
  clear b0 b1 b2 b3 hp hq
  go_wp2_with fail
  clear c0
  go_loopw [10] (fun iv wr => ∃ (i : Nat) (S1 : List (BitVec 32)), i ≤ p ∧ iv = .int .i64 (i : Int) ∧ Hid (S1.length = i + q) ∧ Hid (val S1 = val ((dg N).take i) * M) ∧ wr.heap[W.heap.size]? = some (.cells (natL N).toArray 27 (0, 0)) ∧ wr.heap[W.heap.size + 1]? = some (.cells (natL M).toArray 27 (0, 0)) ∧ wr.heap[W.heap.size + 2]? = some (.cells (natL 0).toArray 27 (0, 0)) ∧ wr.heap[W.heap.size + 3]? = some (.cells (wl (S1 ++ List.replicate (256 - (i + q)) 0)).toArray 72 (0, 0)) ∧ Below W.heap.size W wr) (fun iv _ => p - (intOf iv).toNat)
  case atStart =>
    refine ⟨0, List.replicate q 0, by omega, rfl, by rw [Hid, List.length_replicate]; omega, by rw [Hid, val_zero, List.take_zero]; simp [val], B0.out, B1.out, B2.out, ?_, hB⟩
    rw [List.replicate_append_replicate, show q + (256 - (0 + q)) = 256 by omega, ← zl_eq]
    exact B3.out
  case round =>
    obtain ⟨i, S1, hi, rfl, HSL, HSV, h0, h1, h2, h3, hbl⟩ := hrel
    have H0 := Hid.mk h0
    have H1 := Hid.mk h1
    have H2 := Hid.mk h2
    have H3 := Hid.mk h3
    have c0 : wr.cell? ⟨W.heap.size, 128, none⟩ = some (.int .i64 (p : Int)) := by rw [← HPQ.out.1]; exact (cells_at h0 (nat_many N)).1
    have c1 : wr.cell? ⟨W.heap.size + 1, 128, none⟩ = some (.int .i64 (q : Int)) := by rw [← HPQ.out.2]; exact (cells_at h1 (nat_many M)).1
    clear B0 B1 B2 B3
    by_cases hlt : i < p
    · have cx := (cells_at h0 (nat_at N i (by omega))).1
      have HVX := Hid.mk (val_take_succ (dg N) i (by rw [dg_len]; omega))
      have HLX : Hid (∀ W' : World, W'.heap[W.heap.size]? = some (.cells (natL N).toArray 27 (0, 0)) → W'.cell? ⟨W.heap.size, i, none⟩ = some (.int .u32 (((dg N)[i]?.getD 0).toNat : Int))) := fun W' h => (cells_at h (nat_at N i (by omega))).1
      have HMC : Hid (∀ W' : World, W'.heap[W.heap.size + 1]? = some (.cells (natL M).toArray 27 (0, 0)) → W'.cell? ⟨W.heap.size + 1, 128, none⟩ = some (.int .i64 (q : Int))) := fun W' h => by rw [← HPQ.out.2]; exact (cells_at h (nat_many M)).1
      generalize (dg N)[i]?.getD 0 = x at cx HVX HLX
      have HAT : Hid (∀ W' : World, W'.heap[W.heap.size + 3]? = some (.cells (wl (S1 ++ List.replicate (256 - (i + q)) 0)).toArray 72 (0, 0)) → W'.heap[W.heap.size + 1]? = some (.cells (natL M).toArray 27 (0, 0)) → Calls Tryd.prog 45 #[.slice (some ⟨W.heap.size + 3, i, none⟩) q (256 - i), .slice (some ⟨W.heap.size + 1, 0, none⟩) q 128, .int .u32 (x.toNat : Int)] W' fun e w' => ∃ (T1 : List (BitVec 32)) (c : BitVec 32), T1.length = i + q ∧ (∀ T : List (BitVec 32), T = T1 ++ [c] → val T = (val ((dg N).take i) + 4294967296 ^ i * x.toNat) * M) ∧ e = .returned (.int .u32 (c.toNat : Int)) ∧ w'.heap[W.heap.size + 3]? = some (.cells (wl (T1 ++ List.replicate (256 - (i + q)) 0)).toArray 72 (0, 0)) ∧ But (W.heap.size + 3) W' w') := fun W' g3 g1 => by
        have hdl : (S1.drop i).length = q := by rw [List.length_drop, HSL.out]; omega
        have htl : (S1.take i).length = i := by rw [List.length_take, HSL.out]; omega
        have h := addTimes_in W' (W.heap.size + 3) (W.heap.size + 1) 72 i 0 (256 - i) 128 q (wl (S1.take i)) (wl (List.replicate (256 - (i + q)) 0)) (S1.drop i) ((dg M).take q) x (by rw [wl_len, htl]) hdl (by rw [List.length_take, dg_len]; omega) (by omega) (by omega) (by omega)
          (by rw [← wl_app, ← wl_app, ← List.append_assoc, List.take_append_drop]; exact g3) (by omega) (dg_cells g1 q hq1)
        refine h.mono ?_
        rintro e w' ⟨zs, c, a1, a2, a3, a4, a5⟩
        refine ⟨S1.take i ++ zs, c, by rw [List.length_append, htl, a1], ?_, a3, by rw [← wl_app, ← wl_app, ← List.append_assoc] at a4; exact a4, a5⟩
        rintro T rfl
        have hsp := val_split S1 i
        rw [htl] at hsp
        have hM2 := dg_top M hM q (by rw [HPQ.out.2]; omega)
        rw [hM2] at a2
        rw [val_snoc, val_app, List.length_append, htl, a1, Nat.pow_add]
        exact mul_step _ _ _ _ _ _ _ _ _ (by rw [← hsp]; exact HSV.out) a2
      have HCF : Hid (∀ (w5 : World) (T1 : List (BitVec 32)), T1.length = i + q → w5.heap[W.heap.size + 3]? = some (.cells (wl (T1 ++ List.replicate (256 - (i + q)) 0)).toArray 72 (0, 0)) → (∃ y : BitVec 32, w5.cell? ⟨W.heap.size + 3, i + q, none⟩ = some (.int .u32 (y.toNat : Int))) ∧ w5.frozen? ⟨W.heap.size + 3, i + q, none⟩ = false ∧ ∀ c : BitVec 32, (w5.setCell ⟨W.heap.size + 3, i + q, none⟩ (.int .u32 (c.toNat : Int))).heap[W.heap.size + 3]? = some (.cells (wl ((T1 ++ [c]) ++ List.replicate (256 - (i + 1 + q)) 0)).toArray 72 (0, 0))) := fun w5 T1 hz h => by
        have hl : i + q < (T1 ++ List.replicate (256 - (i + q)) (0 : BitVec 32)).length := by rw [List.length_append, hz, List.length_replicate]; omega
        obtain ⟨a1, a2⟩ := cells_at h (wl_at _ (i + q) hl)
        refine ⟨⟨_, a1⟩, a2, fun c => ?_⟩
        rw [cells_put h]
        have e : (T1 ++ List.replicate (256 - (i + q)) (0 : BitVec 32)).set (i + q) c = (T1 ++ [c]) ++ List.replicate (256 - (i + 1 + q)) 0 := by
          rw [List.set_append_right _ _ (by omega), hz, Nat.sub_self, List.append_assoc, show 256 - (i + q) = (256 - (i + 1 + q)) + 1 by omega, List.replicate_succ]
          rfl
        rw [← e]
        simp [wl]
      have i1 : (i : Int) < 128 := by omega
      have i2 : (i : Int) ≤ (i : Int) + (q : Int) := by omega
      have i3 : (i : Int) + (q : Int) ≤ 256 := by omega
      have i4 : (i : Int) + (q : Int) < 256 := by omega
      have i5 : ((i : Int) + (q : Int)).toNat = i + q := by omega
      have i6 : (0 : Int) ≤ (i : Int) + (q : Int) := by omega
      have i7 : ¬ (256 = i) := by omega
      have i8 : i + q - i = q := by omega
      have i9 : (q : Int) ≤ 128 := by omega
      have i10 : (0 : Int) ≤ (q : Int) := by omega
      have i11 : (0 : Int) ≤ (i : Int) := by omega
      have i12 : IntKind.i64.wrap ((i : Int) + (q : Int)) = (i : Int) + (q : Int) := by rw [IntKind.wrap_i64]; omega
      have HKP : Hid (∀ (W' : World) (v : Value) (k : Nat), W'.cell? ⟨W.heap.size + 1, 128, none⟩ = some (.int .i64 (q : Int)) ∧ W'.cell? ⟨W.heap.size, i, none⟩ = some (.int .u32 (x.toNat : Int)) → (W'.setCell ⟨W.heap.size + 3, k, none⟩ v).cell? ⟨W.heap.size + 1, 128, none⟩ = some (.int .i64 (q : Int)) ∧ (W'.setCell ⟨W.heap.size + 3, k, none⟩ v).cell? ⟨W.heap.size, i, none⟩ = some (.int .u32 (x.toNat : Int))) := fun W' v k h =>
        ⟨(World.cell?_of_block (w := W') (Below.heap_setCell W' ⟨W.heap.size + 3, k, none⟩ v _ (by show W.heap.size + 1 ≠ W.heap.size + 3; omega))).trans h.1, (World.cell?_of_block (w := W') (Below.heap_setCell W' ⟨W.heap.size + 3, k, none⟩ v _ (by show W.heap.size ≠ W.heap.size + 3; omega))).trans h.2⟩
      clear h0 h1 h2 h3
      go_wp2_with fail
      go_region_held3 (fun w' => w'.cell? ⟨W.heap.size + 1, 128, none⟩ = some (.int .i64 (q : Int)) ∧ w'.cell? ⟨W.heap.size, i, none⟩ = some (.int .u32 (x.toNat : Int))) (first | exact HKP.out _ _ _ (by assumption) | assumption | ((repeat' apply And.intro) <;> assumption) | go_keep)
        (first
          | (go_at_call 45; refine (HAT.out _ (by exact H3.out) (by exact H1.out)).mono ?_; rintro e w5 ⟨T1, c, hzl, hval, rfl, hrow5, hbut⟩; obtain ⟨⟨y5, hc5⟩, hf5, hput⟩ := HCF.out w5 T1 hzl hrow5; have HPUT := Hid.mk hput; have HBUT := Hid.mk hbut; have HZL := Hid.mk hzl; have HVAL := Hid.mk hval; have G0 : Hid (w5.heap[W.heap.size]? = _) := (hbut.block _ (by omega) (box_lt H0.out)).trans H0.out; have G1 : Hid (w5.heap[W.heap.size + 1]? = _) := (hbut.block _ (by omega) (box_lt H1.out)).trans H1.out; have s1 := HMC.out w5 G1.out; have s2 := HLX.out w5 G0.out; clear hput hbut hzl hval hrow5))
      have G2 : Hid (w5.heap[W.heap.size + 2]? = _) := (HBUT.out.block _ (by omega) (box_lt H2.out)).trans H2.out
      have hb5 : Below W.heap.size W w5 := But.below (B := W.heap.size) (g := W.heap.size + 3) (a := wr.drew) hbl.drew HBUT.out (Nat.le_add_right _ _) hbl.size
      go_wp2
      go_roundw
      case rel =>
        refine ⟨i + 1, T1 ++ [c], by omega, by go_num, by rw [Hid, List.length_append, HZL.out]; simp; omega, by rw [Hid, HVX.out]; exact HVAL.out _ rfl, ?_, ?_, ?_, HPUT.out c, ?_⟩
        · exact (Below.heap_setCell _ _ _ _ (by show W.heap.size ≠ W.heap.size + 3; omega)).trans G0.out
        · exact (Below.heap_setCell _ _ _ _ (by show W.heap.size + 1 ≠ W.heap.size + 3; omega)).trans G1.out
        · exact (Below.heap_setCell _ _ _ _ (by show W.heap.size + 2 ≠ W.heap.size + 3; omega)).trans G2.out
        · exact hb5.setCell (by show W.heap.size ≤ W.heap.size + 3; omega) _
      case measure => simp [intOf]; omega
    · obtain rfl : i = p := by omega
      have HNT : Hid (∀ W' : World, W'.heap[W.heap.size + 3]? = some (.cells (wl (S1 ++ List.replicate (256 - (i + q)) 0)).toArray 72 (0, 0)) → Calls Tryd.prog 37 #[.slice (some ⟨W.heap.size + 3, 0, none⟩) (i + q) 256] W' fun e w' => e = .returned (.tuple #[.agg (natL R).toArray, .int .i64 rv]) ∧ Below W'.heap.size W' w') := fun W' g3 => by
        have h := natOf_in W' (W.heap.size + 3) 72 0 256 (i + q) [] (wl (List.replicate (256 - (i + q)) 0)) S1 rfl HSL.out (by omega) (by omega) (by omega) (by omega) (by rw [List.nil_append, ← wl_app]; exact g3)
        rwa [HSV.out, dg_top N hN i (by rw [HPQ.out.1]; omega), HR.out] at h
      have i3 : (i : Int) + (q : Int) ≤ 256 := by omega
      have i5 : ((i : Int) + (q : Int)).toNat = i + q := by omega
      have i6 : (0 : Int) ≤ (i : Int) + (q : Int) := by omega
      clear h0 h1 h2 h3
      go_wp2_with fail
      refine (HNT.out _ (by exact H3.out)).mono ?_
      rintro e w7 ⟨rfl, hb7⟩
      have Z7 : Hid (w7.heap[W.heap.size + 2]? = some (.cells (natL 0).toArray 27 (0, 0))) := (hb7.block _ (box_lt H2.out)).trans H2.out
      have B7 : Below W.heap.size W w7 := bthen hbl hb7
      have hst := store_cells Z7.out (natL_len 0) (natL_len R) (natL_cells R)
      have hlen := natL_len
      go_wp2
      refine bodyPost_ret (results_nat_tmp Tryd.results24 rfl rfl (setRow_heap _ _ _ _ _ _ Z7.out) (natL_len R)) rfl ⟨rfl, below_row B7 (by omega) _⟩
end Go.Proofs.YthjhemodmdficaaDoor
