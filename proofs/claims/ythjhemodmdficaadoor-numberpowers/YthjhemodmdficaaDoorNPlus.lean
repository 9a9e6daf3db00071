/- Add. -/
import Derived.Test.YthjhemodmdficaaDoorNSmall
namespace Go.Proofs.YthjhemodmdficaaDoor
set_option linter.unusedVariables false
open Go.RowKit
theorem zl_ex (n : Nat) : ∃ L : List Value, L = wl (List.replicate n 0) := ⟨_, rfl⟩
/-- a row of noughts. -/
noncomputable def zl (n : Nat) : List Value := Classical.choose (zl_ex n)
theorem zl_eq (n : Nat) : zl n = wl (List.replicate n 0) := Classical.choose_spec (zl_ex n)
theorem zl_len (n : Nat) : (zl n).length = n := by rw [zl_eq, wl_len, List.length_replicate]
theorem natR_form (N : Nat) : ∃ R v, natR N = .returned (.tuple #[.agg (natL R).toArray, .int .i64 v]) := by
  by_cases h : N < Lim
  · exact ⟨_, _, natR_ok N h⟩
  · exact ⟨_, _, natR_no N h⟩
theorem zero67' (W : World) : (zeroValue 70).run Tryd.prog W = .ok (.agg (wl (List.replicate 129 0)).toArray) W := by kernel_rfl
theorem zero67 (W : World) : (zeroValue 70).run Tryd.prog W = .ok (.agg (zl 129).toArray) W := by rw [zl_eq]; exact zero67' W
theorem four_new (w : World) (L0 L1 L2 L3 : List Value) (t0 t1 t2 t3 : TypeId) : ∃ V, (((w.alloc (.cells L0.toArray t0)).alloc (.cells L1.toArray t1)).alloc (.cells L2.toArray t2)).alloc (.cells L3.toArray t3) = V ∧ V.heap[w.heap.size]? = some (.cells L0.toArray t0 (0, 0)) ∧ V.heap[w.heap.size + 1]? = some (.cells L1.toArray t1 (0, 0)) ∧
    V.heap[w.heap.size + 2]? = some (.cells L2.toArray t2 (0, 0)) ∧ V.heap[w.heap.size + 3]? = some (.cells L3.toArray t3 (0, 0)) ∧ Below w.heap.size w V ∧ V.heap.size = w.heap.size + 4 := by
  refine ⟨_, rfl, ?_, ?_, ?_, ?_, ((((Below.refl _ _).alloc (Nat.le_refl _) _).alloc (by simp) _).alloc (by simp; omega) _).alloc (by simp; omega) _, by simp⟩
  · rw [Below.heap_alloc _ _ _ (by first | (simp; done) | (simp; omega)), Below.heap_alloc _ _ _ (by first | (simp; done) | (simp; omega)), Below.heap_alloc _ _ _ (by first | (simp; done) | (simp; omega)), heap_new]
  · rw [Below.heap_alloc _ _ _ (by first | (simp; done) | (simp; omega)), Below.heap_alloc _ _ _ (by first | (simp; done) | (simp; omega))]
    exact (congrArg (fun k => (World.alloc _ _).heap[k]?) (World.size_alloc w _).symm).trans (heap_new _ _)
  · rw [Below.heap_alloc _ _ _ (by simp)]
    exact (congrArg (fun k => (World.alloc _ _).heap[k]?) (by simp)).trans (heap_new _ _)
  · exact (congrArg (fun k => (World.alloc _ _).heap[k]?) (by simp)).trans (heap_new _ _)
/-- digits copied over noughts. -/
theorem splice_zero (l : List (BitVec 32)) (n : Nat) (h : l.length ≤ n) : splice (zl n) 0 (wl l) = wl (l ++ List.replicate (n - l.length) 0) := by
  rw [zl_eq, splice, List.take_zero, List.nil_append, Nat.zero_add, wl_len, wl_app]
  congr 1
  unfold wl
  rw [← List.map_drop, List.drop_replicate]
theorem take_cells {W : World} {b t : Nat} {N : Nat} (h : W.heap[b]? = some (.cells (natL N).toArray t (0, 0))) (p : Nat) (hp : p ≤ 128) : ∀ j v, (wl ((dg N).take p))[j]? = some v → W.cell? ((⟨b, 0, none⟩ : Addr).add j) = some v := fun j v hv => by
  have hj : j < ((dg N).take p).length := by rw [← wl_len]; exact (List.getElem?_eq_some_iff.1 hv).1
  rw [wl_at _ j hj] at hv
  rw [List.length_take, dg_len] at hj
  rw [addr_at, ← hv, Nat.zero_add, (cells_at h (nat_at N j (by omega))).1, List.getElem?_take_of_lt (by omega)]
set_option maxRecDepth 100000 in
set_option maxHeartbeats 2000000 in
theorem add_in (N M : Nat) (hN : N < Lim) (hM : M < Lim) (W : World) : Calls Tryd.prog 21 #[.agg (natL N).toArray, .agg (natL M).toArray] W fun e w' => e = natR (N + M) ∧ Below W.heap.size W w' := by
  obtain ⟨R, rv, hR⟩ := natR_form (N + M)
  have HR := Hid.mk hR
  obtain ⟨p, hp⟩ : ∃ p, mny N = p := ⟨_, rfl⟩
  obtain ⟨q, hq⟩ : ∃ q, mny M = q := ⟨_, rfl⟩
  have hp1 : p ≤ 128 := by rw [← hp]; exact mny_le N hN
  have hq1 : q ≤ 128 := by rw [← hq]; exact mny_le M hM
  obtain ⟨K, hK⟩ : ∃ K, K = max p q := ⟨_, rfl⟩
  have hK1 : K ≤ 128 := by omega
  have hKp : p ≤ K := by omega
  have hKq : q ≤ K := by omega
  have m1 : (if (p : Int) < (q : Int) then (q : Int) else (p : Int)) = (K : Int) := by split <;> omega
  have m2 : (if (q : Int) < (p : Int) then (p : Int) else (q : Int)) = (K : Int) := by split <;> omega
  have m3 : (if (q : Int) ≤ (p : Int) then (p : Int) else (q : Int)) = (K : Int) := by split <;> omega
  have m4 : (if (p : Int) ≤ (q : Int) then (q : Int) else (p : Int)) = (K : Int) := by split <;> omega
  have m5 : max (p : Int) (q : Int) = (K : Int) := by omega
  obtain ⟨V, hV, b0, b1, b2, b3, hB, hsz⟩ := four_new W (natL N) (natL M) (natL 0) (zl 129) 27 27 27 70
  have hz := zero26
  have hz2 := zero67
  rw [hR]
  clear hR
  go_enter Tryd.func21, Tryd.ntmps21
  go_upto_region 2 with fail
  simp only [Nat.add_assoc, Nat.reduceAdd]
  clear hV hz hz2
  have c0 : V.cell? ⟨W.heap.size, 128, none⟩ = some (.int .i64 (p : Int)) := by rw [← hp]; exact (cells_at b0 (nat_many N)).1
  have c1 : V.cell? ⟨W.heap.size + 1, 128, none⟩ = some (.int .i64 (q : Int)) := by rw [← hq]; exact (cells_at b1 (nat_many M)).1
  obtain ⟨cs, hcs⟩ : ∃ cs, cs = wl ((dg N).take p) := ⟨_, rfl⟩
  have hcl : cs.length = p := by rw [hcs, wl_len, List.length_take, dg_len]; omega
  have HMIN : Hid (cs.length = Nat.min p 129) := by rw [Hid, hcl]; exact (Nat.min_eq_left (by omega)).symm
  have HFIT : Hid (0 + cs.length ≤ (zl 129).length) := by rw [Hid, hcl, zl_len]; omega
  have HONE : Hid (∀ v ∈ cs, v.oneCell' = true) := by rw [Hid, hcs]; exact wl_one _
  have HSRC : Hid (∀ j v, cs[j]? = some v → V.cell? ((⟨W.heap.size, 0, none⟩ : Addr).add j) = some v) := by rw [Hid, hcs]; exact take_cells b0 p hp1
  have HSP : Hid (splice (zl 129) 0 cs = wl ((dg N).take p ++ List.replicate (129 - p) 0)) := by
    rw [Hid, hcs, splice_zero _ _ (by rw [List.length_take, dg_len]; omega), List.length_take, dg_len, Nat.min_eq_left hp1]
  have B1 := Hid.mk b1
  have B2 := Hid.mk b2
  have B3 := Hid.mk b3
  have hsz3 : W.heap.size + 3 ≤ V.heap.size := by omega
  clear hcs hcl b0 b1 b2 b3
  have BB : Below (W.heap.size + 3) V V := Below.refl _ _
  have pi1 : (p : Int) ≤ 128 := by omega
  have pi0 : (0 : Int) ≤ (p : Int) := by omega
  go_region_law (first | (refine step_copy_splice rfl (.tmp 8) (.tmp 12) 31 31 rfl 24 Tryd.underlying31 size23 (some ⟨W.heap.size + 3, 0, none⟩) (some ⟨W.heap.size, 0, none⟩) 129 129 p 128 rfl rfl (W.heap.size + 3) 0 (zl 129) 70 B3.out cs HMIN.out (fun _ => ⟨rfl, ⟨W.heap.size, 0, none⟩, rfl, HSRC.out⟩) HFIT.out HONE.out (W.heap.size + 3) V BB.drew (Nat.le_refl _) ?_; intro w4 hg4 hb4))
  obtain ⟨S0, hS0⟩ : ∃ S0, S0 = (dg N).take p ++ List.replicate (129 - p) 0 := ⟨_, rfl⟩
  have hS0l : S0.length = 129 := by rw [hS0, List.length_append, List.length_take, dg_len, List.length_replicate]; omega
  have HVX : Hid (val (S0.take K) = N) := by
    rw [Hid, hS0]
    have h1 : val ((dg N).take p ++ List.replicate (129 - p) 0) = N := by rw [val_app, val_zero, Nat.mul_zero, Nat.add_zero]; exact dg_top N hN p (by omega)
    have h2 := val_split ((dg N).take p ++ List.replicate (129 - p) 0) K
    have h3 : ((dg N).take p ++ List.replicate (129 - p) 0).drop K = List.replicate (129 - K) 0 := by
      rw [List.drop_append, List.drop_eq_nil_of_le (by rw [List.length_take, dg_len]; omega), List.nil_append, List.drop_replicate, List.length_take, dg_len]
      congr 1
      omega
    rw [h3, val_zero, Nat.mul_zero, Nat.add_zero, h1] at h2
    exact h2.symm
  have HVY : Hid (val ((dg M).take K) = M) := dg_top M hM K (by omega)
  have hg5 : Hid (w4.heap[W.heap.size + 3]? = some (.cells (wl S0).toArray 70 (0, 0))) := by rw [Hid, hS0, ← HSP.out]; exact hg4.out
  have k1 : Hid (w4.heap[W.heap.size + 1]? = some (.cells (natL M).toArray 27 (0, 0))) := (hb4.block _ (by omega)).trans B1.out
  have k2 : Hid (w4.heap[W.heap.size + 2]? = some (.cells (natL 0).toArray 27 (0, 0))) := (hb4.block _ (by omega)).trans B2.out
  have d0 : w4.cell? ⟨W.heap.size, 128, none⟩ = some (.int .i64 (p : Int)) := (hb4.cell (p := ⟨W.heap.size, 128, none⟩) (by show W.heap.size < W.heap.size + 3; omega)).trans c0
  have d1 : w4.cell? ⟨W.heap.size + 1, 128, none⟩ = some (.int .i64 (q : Int)) := (hb4.cell (p := ⟨W.heap.size + 1, 128, none⟩) (by show W.heap.size + 1 < W.heap.size + 3; omega)).trans c1
  have HBW : Below W.heap.size W w4 := hB.trans (hb4.mono (by omega))
  have HS0 := Hid.mk hS0
  have HSL := Hid.mk hS0l
  have HADD : Hid (∀ W' : World, W'.heap[W.heap.size + 3]? = some (.cells (wl S0).toArray 70 (0, 0)) → W'.heap[W.heap.size + 1]? = some (.cells (natL M).toArray 27 (0, 0)) → Calls Tryd.prog 44 #[.slice (some ⟨W.heap.size + 3, 0, none⟩) K 129, .slice (some ⟨W.heap.size + 1, 0, none⟩) K 128] W' fun e w' => ∃ (zs : List (BitVec 32)) (c : BitVec 32), zs.length = K ∧ val zs + 4294967296 ^ K * c.toNat = N + M ∧ e = .returned (.int .u32 (c.toNat : Int)) ∧ w'.heap[W.heap.size + 3]? = some (.cells (wl (zs ++ S0.drop K)).toArray 70 (0, 0)) ∧ But (W.heap.size + 3) W' w') := fun W' h3 h1 => by
    have h := addTo_in W' (W.heap.size + 3) (W.heap.size + 1) 70 0 0 129 128 K [] (wl (S0.drop K)) (S0.take K) ((dg M).take K) rfl (by rw [List.length_take, HSL.out]; omega) (by rw [List.length_take, dg_len]; omega) (by omega) (by omega) (by omega)
      (by rw [List.nil_append, ← wl_app, List.take_append_drop]; exact h3) (by omega) (fun j hj => by rw [Nat.zero_add, List.getElem?_take_of_lt hj]; exact (cells_at h1 (nat_at M j (by omega))).1)
    rw [HVX.out, HVY.out] at h
    refine h.mono ?_
    rintro e w' ⟨zs, c, a1, a2, a3, a4, a5⟩
    refine ⟨zs, c, a1, a2, a3, ?_, a5⟩
    rw [wl_app]
    exact a4
  have HNAT : Hid (∀ (W' : World) (zs : List (BitVec 32)) (c : BitVec 32), zs.length = K → val zs + 4294967296 ^ K * c.toNat = N + M → W'.heap[W.heap.size + 3]? = some (.cells (wl ((zs ++ S0.drop K).set K c)).toArray 70 (0, 0)) → Calls Tryd.prog 37 #[.slice (some ⟨W.heap.size + 3, 0, none⟩) (K + 1) 129] W' fun e w' => e = .returned (.tuple #[.agg (natL R).toArray, .int .i64 rv]) ∧ Below W'.heap.size W' w') := fun W' zs c hz hv h3 => by
    have e : (zs ++ S0.drop K).set K c = (zs ++ [c]) ++ S0.drop (K + 1) := by
      rw [List.set_append_right _ _ (by omega), hz, Nat.sub_self, List.append_assoc, List.drop_eq_getElem_cons (by rw [HSL.out]; omega)]
      rfl
    have h := natOf_in W' (W.heap.size + 3) 70 0 129 (K + 1) [] (wl (S0.drop (K + 1))) (zs ++ [c]) rfl (by rw [List.length_append, hz]; rfl) (by omega) (by omega) (by omega) (by omega) (by rw [List.nil_append, ← wl_app, ← e]; exact h3)
    rwa [val_snoc, hz, hv, HR.out] at h
  have HCF : Hid (∀ (w5 : World) (zs : List (BitVec 32)), zs.length = K → w5.heap[W.heap.size + 3]? = some (.cells (wl (zs ++ S0.drop K)).toArray 70 (0, 0)) → (∃ y : BitVec 32, w5.cell? ⟨W.heap.size + 3, K, none⟩ = some (.int .u32 (y.toNat : Int))) ∧ w5.frozen? ⟨W.heap.size + 3, K, none⟩ = false ∧ ∀ c : BitVec 32, (w5.setCell ⟨W.heap.size + 3, K, none⟩ (.int .u32 (c.toNat : Int))).heap[W.heap.size + 3]? = some (.cells (wl ((zs ++ S0.drop K).set K c)).toArray 70 (0, 0))) := fun w5 zs hz h => by
    have hl : K < (zs ++ S0.drop K).length := by rw [List.length_append, hz, List.length_drop, HSL.out]; omega
    obtain ⟨a1, a2⟩ := cells_at h (wl_at _ K hl)
    refine ⟨⟨_, a1⟩, a2, fun c => ?_⟩
    rw [cells_put h]
    simp [wl]
  clear hS0 hS0l hg4 hb4 HSP B1 B2 B3 HSRC HONE HFIT HMIN c0 c1 hB BB hsz hsz3 hp hq hK HVX HVY
  have ki1 : (K : Int) ≤ 128 := by omega
  have ki2 : (K : Int) ≤ 129 := by omega
  have ki3 : (K : Int) < 129 := by omega
  have ki0 : (0 : Int) ≤ (K : Int) := by omega
  have ki4 : (K : Int) + 1 ≤ 129 := by omega
  have ki5 : (0 : Int) ≤ (K : Int) + 1 := by omega
  have ki6 : ((K : Int) + 1).toNat = K + 1 := by omega
  go_wp2_with fail
  go_region_held3 (fun _ => True) (trivial)
    (first
      | (go_at_call 44; refine (HADD.out _ (by exact hg5.out) (by exact k1.out)).mono ?_; rintro e w5 ⟨zs, c, hzl, hval, rfl, hrow5, hbut⟩; obtain ⟨⟨y5, hc5⟩, hf5, hput⟩ := HCF.out w5 zs hzl hrow5; have HPUT := Hid.mk hput; have HBUT := Hid.mk hbut; have HZL := Hid.mk hzl; have HVAL := Hid.mk hval; clear hput hbut hzl hval hrow5))
  have Z5 : Hid (w5.heap[W.heap.size + 2]? = some (.cells (natL 0).toArray 27 (0, 0))) := (HBUT.out.block _ (by omega) (box_lt k2.out)).trans k2.out
  have hb5 : Below W.heap.size W w5 := But.below (B := W.heap.size) (g := W.heap.size + 3) (a := w4.drew) HBW.drew HBUT.out (Nat.le_add_right _ _) HBW.size
  clear HBUT
  have Z6 : Hid ((w5.setCell ⟨W.heap.size + 3, K, none⟩ (.int .u32 (c.toNat : Int))).heap[W.heap.size + 2]? = some (.cells (natL 0).toArray 27 (0, 0))) := (Below.heap_setCell _ _ _ _ (by show W.heap.size + 2 ≠ W.heap.size + 3; omega)).trans Z5.out
  have hb6 : Below W.heap.size W (w5.setCell ⟨W.heap.size + 3, K, none⟩ (.int .u32 (c.toNat : Int))) := hb5.setCell (by show W.heap.size ≤ W.heap.size + 3; omega) _
  have R6 := Hid.mk (HPUT.out c)
  clear HPUT Z5 hb5 hc5 hf5
  generalize w5.setCell ⟨W.heap.size + 3, K, none⟩ (.int .u32 (c.toNat : Int)) = w6 at Z6 hb6 R6 ⊢
  go_wp2_with fail
  refine (HNAT.out _ zs c HZL.out HVAL.out (by exact R6.out)).mono ?_
  rintro e w7 ⟨rfl, hb7⟩
  have Z7 : Hid (w7.heap[W.heap.size + 2]? = some (.cells (natL 0).toArray 27 (0, 0))) := (hb7.block _ (box_lt Z6.out)).trans Z6.out
  have B7 : Below W.heap.size W w7 := bthen hb6 hb7
  have hst := store_cells Z7.out (natL_len 0) (natL_len R) (natL_cells R)
  have hlen := natL_len
  go_wp2
  refine bodyPost_ret (results_nat_tmp Tryd.results21 rfl rfl (setRow_heap _ _ _ _ _ _ Z7.out) (natL_len R)) rfl ⟨rfl, below_row B7 (by omega) _⟩
end Go.Proofs.YthjhemodmdficaaDoor
