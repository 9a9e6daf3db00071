/- Texts of this proof, joined: NDiv, NMod, NLd. -/
import Derived.Test.YtpimliebiapnfaaGreatDoorJ4
/- divided. -/
namespace Go.Proofs.YtpimliebiapnfaaGreatDoor.N
set_option linter.unusedVariables false
open Go.RowKit
set_option maxRecDepth 100000 in
set_option maxHeartbeats 2000000 in
theorem divided_in (N M : Nat) (hN : N < Lim) (hM : M < Lim) (hM0 : M ≠ 0) (W : World) : Calls Tryz.prog 123 #[.agg (natL N).toArray, .agg (natL M).toArray] W fun e w' => e = .returned (.tuple #[.agg (natL (N / M)).toArray, .agg (natL (N % M)).toArray]) ∧ Below W.heap.size W w' := by
  obtain ⟨p, hp⟩ : ∃ p, mny N = p := ⟨_, rfl⟩
  have hp1 : p ≤ 128 := by rw [← hp]; exact mny_le N hN
  obtain ⟨m, hq⟩ : ∃ m, mny M = m + 1 := ⟨mny M - 1, by have := (mny_ge M hM0).1; omega⟩
  have hq1 : m + 1 ≤ 128 := by rw [← hq]; exact mny_le M hM
  obtain ⟨low, l1, l2, l3⟩ := top_digit M hM m hq
  obtain ⟨d, hd⟩ : ∃ d, (dg M)[m]?.getD 0 = d := ⟨_, rfl⟩
  rw [hd] at l2 l3
  have hdl := bv_lt d
  obtain ⟨k1, k2, k3, k4⟩ := lead_ok d.toNat l3 hdl
  obtain ⟨sh, hsh⟩ : ∃ sh, 32 - btl d.toNat = sh := ⟨_, rfl⟩
  rw [hsh] at k3 k4
  have hsh32 : sh < 32 := by omega
  have hshi : (32 : Int) - (btl d.toNat : Int) = (sh : Int) := by omega
  obtain ⟨s, hs⟩ : ∃ s, 2 ^ sh = s := ⟨_, rfl⟩
  rw [hs] at k3 k4
  have hs0 : 0 < s := by rw [← hs]; exact Nat.two_pow_pos sh
  have hs31 : s ≤ 2147483648 := by rw [← hs]; exact Nat.pow_le_pow_right (n := 2) (by omega) (show sh ≤ 31 by omega)
  obtain ⟨u1, u2⟩ := up_fits _ _ _ s M l2 l1 k4 hs0
  have HLZ : Hid (∀ W : World, Calls Tryz.prog 139 #[.int .u32 (d.toNat : Int)] W fun e w' => e = .returned (.int .i64 (sh : Int)) ∧ w' = W) := fun W => by
    have := Tryz.bits_LeadingZeros32 (d.toNat : Int) W (by omega) (by omega)
    rwa [Int.toNat_natCast, bitLen_eq _ hdl, hshi] at this
  -- what is divided by, shifted up
  have HSU1 : Hid (∀ (W' : World) (b : Nat), W'.heap[b]? = some (.cells (natL M).toArray 38 (0, 0)) → Calls Tryz.prog 140 #[.slice (some ⟨b, 0, none⟩) (m + 1) 128, .int .i64 (sh : Int)] W' fun e w' => ∃ ys : List (BitVec 32), ys.length = m + 1 ∧ val ys = M * s ∧ 2147483648 ≤ (ys[m]?.getD 0).toNat ∧ e = .returned (.tuple #[]) ∧ w'.heap[b]? = some (.cells ([] ++ (wl ys ++ (wl ((dg M).drop (m + 1)) ++ [Value.int .i64 ((m + 1 : Nat) : Int)]))).toArray 38 (0, 0)) ∧ But b W' w') := fun W' b hb => by
    rw [natL_split M (m + 1), hq] at hb
    have h := shiftUp_in W' b 38 0 128 (m + 1) sh [] _ ((dg M).take (m + 1)) rfl (by rw [List.length_take, dg_len]; omega) (by omega) (by omega) hsh32 hb
    refine h.mono ?_
    rintro e w' ⟨ys, c, a1, a2, a3, a4, a5⟩
    rw [dg_top M hM (m + 1) (by omega), hs, Nat.pow_succ] at a2
    have ly := val_lt ys
    rw [a1, Nat.pow_succ] at ly
    have hc0 : c = 0 := by
      apply Classical.byContradiction
      intro hc
      have : 4294967296 ^ m * 4294967296 * 1 ≤ 4294967296 ^ m * 4294967296 * c := Nat.mul_le_mul_left _ (by omega)
      omega
    rw [hc0, Nat.mul_zero, Nat.add_zero] at a2
    refine ⟨ys, a1, a2, ?_, a3, a4, a5⟩
    have s2 := val_take_succ ys m (by omega)
    rw [List.take_of_length_le (by omega), a2] at s2
    have lt := val_lt (ys.take m)
    rw [List.length_take, Nat.min_eq_left (by omega)] at lt
    apply Classical.byContradiction
    intro hn
    have h5 : 4294967296 ^ m * ((ys[m]?.getD 0).toNat + 1) ≤ 4294967296 ^ m * (d.toNat * s) := Nat.mul_le_mul_left _ (by omega)
    rw [Nat.mul_add, Nat.mul_one] at h5
    omega
  obtain ⟨V, hV, b0, b1, b2, b3, hB, hsz⟩ := four_new W (natL N) (natL M) (natL 0) (natL 0) 38 38 38 38
  have hz := zero26
  have HP := Hid.mk hp
  have HQ := Hid.mk hq
  clear hp hq l1 l2 k1 k2 k3 k4 u1 u2 hshi hsh
  go_enter Tryz.func123, Tryz.ntmps123
  go_upto_region 1 with fail
  simp only [Nat.add_assoc, Nat.reduceAdd]
  clear hV hz
  have B0 := Hid.mk b0
  have B1 := Hid.mk b1
  have B2 := Hid.mk b2
  have B3 := Hid.mk b3
  have c1 : V.cell? ⟨W.heap.size + 1, 128, none⟩ = some (.int .i64 ((m : Int) + 1)) := by have := (cells_at b1 (nat_many M)).1; rw [HQ.out] at this; exact this
  have cd : V.cell? ⟨W.heap.size + 1, m, none⟩ = some (.int .u32 (d.toNat : Int)) := by have := (cells_at b1 (nat_at M m (by omega))).1; rwa [hd] at this
  clear b0 b1 b2 b3 hd
  have e1 : (m : Int) + 1 - 1 = (m : Int) := by omega
  have mi1 : (m : Int) < 128 := by omega
  have mi2 : (m : Int) + 1 ≤ 128 := by omega
  have mi3 : (0 : Int) ≤ (m : Int) + 1 := by omega
  have mi4 : ((m : Int) + 1).toNat = m + 1 := by omega
  go_wp2_with fail
  refine (HLZ.out _).mono ?_
  rintro e w1 ⟨rfl, rfl⟩
  go_wp2_with fail
  refine (HSU1.out _ _ (by exact B1.out)).mono ?_
  rintro e w1 ⟨ys, hyl, hyv, hytop, rfl, hy1, hbut1⟩
  have HYL := Hid.mk hyl
  have HYV := Hid.mk hyv
  have HYT := Hid.mk hytop
  have C1 := Hid.mk hy1
  have C0 : Hid (w1.heap[W.heap.size]? = some (.cells (natL N).toArray 38 (0, 0))) := (hbut1.block _ (by omega) (box_lt B0.out)).trans B0.out
  have C2 : Hid (w1.heap[W.heap.size + 2]? = some (.cells (natL 0).toArray 38 (0, 0))) := (hbut1.block _ (by omega) (box_lt B2.out)).trans B2.out
  have C3 : Hid (w1.heap[W.heap.size + 3]? = some (.cells (natL 0).toArray 38 (0, 0))) := (hbut1.block _ (by omega) (box_lt B3.out)).trans B3.out
  have hBW1 : Below W.heap.size W w1 := But.below (B := W.heap.size) (g := W.heap.size + 1) hB hbut1 (by omega) hB.size
  have hg4 : W.heap.size + 4 ≤ w1.heap.size := by rw [← hsz]; exact hbut1.size
  clear hyl hyv hytop hy1 hbut1 B0 B1 B2 B3 hB hsz c1 cd HSU1 HLZ
  -- what is divided
  obtain ⟨S0, hS0⟩ : ∃ S0, S0 = (dg N).take p ++ List.replicate (129 - p) 0 := ⟨_, rfl⟩
  have hS0l : S0.length = 129 := by rw [hS0, List.length_append, List.length_take, dg_len, List.length_replicate]; omega
  have HVX : Hid (val (S0.take (p + 1)) = N) := by
    have h1 : S0.take (p + 1) = (dg N).take p ++ [0] := by
      rw [hS0, List.take_append, List.take_of_length_le (by rw [List.length_take, dg_len]; omega), List.length_take, dg_len, Nat.min_eq_left hp1, show p + 1 - p = 1 by omega, show 129 - p = (128 - p) + 1 by omega, List.replicate_succ]
      rfl
    rw [Hid, h1, val_snoc, dg_top N hN p (by rw [HP.out]; omega)]
    simp
  have HDR : Hid (S0.drop (p + 1) = List.replicate (128 - p) 0) := by
    rw [Hid, hS0, List.drop_append, List.drop_eq_nil_of_le (by rw [List.length_take, dg_len]; omega), List.nil_append, List.length_take, dg_len, Nat.min_eq_left hp1, List.drop_replicate]
    congr 1
    omega
  have hNs : N * s < 4294967296 ^ p * 4294967296 := by
    have h1 := mny_lt N
    rw [HP.out] at h1
    have h2 : (N + 1) * s ≤ 4294967296 ^ p * s := Nat.mul_le_mul_right _ h1
    have h3 : 4294967296 ^ p * s ≤ 4294967296 ^ p * 4294967296 := Nat.mul_le_mul_left _ (by omega)
    rw [Nat.add_mul, Nat.one_mul] at h2
    omega
  have HSU2 : Hid (∀ (W' : World) (b : Nat), W'.heap[b]? = some (.cells (wl S0).toArray 158 (0, 0)) → Calls Tryz.prog 140 #[.slice (some ⟨b, 0, none⟩) (p + 1) 129, .int .i64 (sh : Int)] W' fun e w' => ∃ xs : List (BitVec 32), xs.length = p + 1 ∧ val xs = N * s ∧ e = .returned (.tuple #[]) ∧ w'.heap[b]? = some (.cells (wl (xs ++ List.replicate (128 - p) 0)).toArray 158 (0, 0)) ∧ But b W' w') := fun W' b hb => by
    have h := shiftUp_in W' b 158 0 129 (p + 1) sh [] (wl (S0.drop (p + 1))) (S0.take (p + 1)) rfl (by rw [List.length_take, hS0l]; omega) (by omega) (by omega) hsh32 (by rw [List.nil_append, ← wl_app, List.take_append_drop]; exact hb)
    refine h.mono ?_
    rintro e w' ⟨xs, c, a1, a2, a3, a4, a5⟩
    rw [HVX.out, hs, Nat.pow_succ] at a2
    have hc0 : c = 0 := by
      apply Classical.byContradiction
      intro hc
      have : 4294967296 ^ p * 4294967296 * 1 ≤ 4294967296 ^ p * 4294967296 * c := Nat.mul_le_mul_left _ (by omega)
      omega
    rw [hc0, Nat.mul_zero, Nat.add_zero] at a2
    refine ⟨xs, a1, a2, a3, ?_, a5⟩
    rw [wl_app, ← HDR.out]
    exact a4
  have HNS := Hid.mk hNs
  clear hNs
  obtain ⟨cs, hcs⟩ : ∃ cs, cs = wl ((dg N).take p) := ⟨_, rfl⟩
  have hcl : cs.length = p := by rw [hcs, wl_len, List.length_take, dg_len]; omega
  have HMIN : Hid (cs.length = Nat.min p 129) := by rw [Hid, hcl]; exact (Nat.min_eq_left (by omega)).symm
  have HFIT : Hid (0 + cs.length ≤ (zl 129).length) := by rw [Hid, hcl, zl_len]; omega
  have HONE : Hid (∀ v ∈ cs, v.oneCell' = true) := by rw [Hid, hcs]; exact wl_one _
  have HSP : Hid (splice (zl 129) 0 cs = wl S0) := by
    rw [Hid, hS0, hcs, splice_zero _ _ (by rw [List.length_take, dg_len]; omega), List.length_take, dg_len, Nat.min_eq_left hp1]
  have hz2 := zero67
  have A4 : Hid ((w1.alloc (.cells (zl 129).toArray 158)).heap[w1.heap.size]? = some (.cells (zl 129).toArray 158 (0, 0))) := heap_new _ _
  have BL : Below w1.heap.size w1 (w1.alloc (.cells (zl 129).toArray 158)) := (Below.refl _ _).alloc (Nat.le_refl _) _
  have HSRC : Hid (∀ j v, cs[j]? = some v → (w1.alloc (.cells (zl 129).toArray 158)).cell? ((⟨W.heap.size, 0, none⟩ : Addr).add j) = some v) := by
    rw [Hid, hcs]; exact take_cells ((BL.block _ (box_lt C0.out)).trans C0.out) p hp1
  have c0 : (w1.alloc (.cells (zl 129).toArray 158)).cell? ⟨W.heap.size, 128, none⟩ = some (.int .i64 (p : Int)) := by
    have := (cells_at ((BL.block _ (box_lt C0.out)).trans C0.out) (nat_many N)).1
    rwa [HP.out] at this
  clear hcs hcl hS0l hS0
  have pi0 : (0 : Int) ≤ (p : Int) := by omega
  have pi1 : (p : Int) ≤ 128 := by omega
  have pi2 : (p : Int) + 1 ≤ 129 := by omega
  have pi3 : (0 : Int) ≤ (p : Int) + 1 := by omega
  have pi4 : ((p : Int) + 1).toNat = p + 1 := by omega
  go_upto_region 5 with fail
  generalize w1.alloc (.cells (zl 129).toArray 158) = V2 at A4 BL HSRC c0 ⊢
  clear hz2
  generalize hgg : w1.heap.size = g4 at A4 BL hg4 ⊢
  go_region_law (first | (refine step_copy_splice rfl (.tmp 27) (.tmp 31) 45 45 rfl 35 Tryz.underlying45 size23 (some ⟨g4, 0, none⟩) (some ⟨W.heap.size, 0, none⟩) 129 129 p 128 rfl rfl g4 0 (zl 129) 158 A4.out cs HMIN.out (fun _ => ⟨rfl, ⟨W.heap.size, 0, none⟩, rfl, HSRC.out⟩) HFIT.out HONE.out g4 w1 BL.drew (Nat.le_refl _) ?_; intro w4 hc4 hb4))
  have R4 : Hid (w4.heap[g4]? = some (.cells (wl S0).toArray 158 (0, 0))) := by rw [Hid, ← HSP.out]; exact hc4.out
  have lt0 : W.heap.size < w1.heap.size := box_lt C0.out
  have E0 : Hid (w4.heap[W.heap.size]? = some (.cells (natL N).toArray 38 (0, 0))) := (hb4.block _ (by omega)).trans C0.out
  have E1 : Hid (w4.heap[W.heap.size + 1]? = some (.cells ([] ++ (wl ys ++ (wl ((dg M).drop (m + 1)) ++ [Value.int .i64 ((m + 1 : Nat) : Int)]))).toArray 38 (0, 0))) := (hb4.block _ (by omega)).trans C1.out
  have E2 : Hid (w4.heap[W.heap.size + 2]? = some (.cells (natL 0).toArray 38 (0, 0))) := (hb4.block _ (by omega)).trans C2.out
  have E3 : Hid (w4.heap[W.heap.size + 3]? = some (.cells (natL 0).toArray 38 (0, 0))) := (hb4.block _ (by omega)).trans C3.out
  have hBW4 : Below W.heap.size W w4 := hBW1.trans (hb4.mono (by omega))
  have d0 : w4.cell? ⟨W.heap.size, 128, none⟩ = some (.int .i64 (p : Int)) := by
    have := (cells_at E0.out (nat_many N)).1
    rwa [HP.out] at this
  clear hc4 hb4 HSP HSRC HONE HFIT HMIN A4 BL c0 C0 C1 C2 C3 hBW1 hgg lt0 HVX HDR
  go_wp2_with fail
  refine (HSU2.out _ _ (by exact R4.out)).mono ?_
  rintro e w5 ⟨xs, hxl, hxv, rfl, hx5, hbut5⟩
  have F0 : Hid (w5.heap[W.heap.size]? = some (.cells (natL N).toArray 38 (0, 0))) := (hbut5.block _ (by omega) (box_lt E0.out)).trans E0.out
  have F1 : Hid (w5.heap[W.heap.size + 1]? = some (.cells ([] ++ (wl ys ++ (wl ((dg M).drop (m + 1)) ++ [Value.int .i64 ((m + 1 : Nat) : Int)]))).toArray 38 (0, 0))) := (hbut5.block _ (by omega) (box_lt E1.out)).trans E1.out
  have F2 : Hid (w5.heap[W.heap.size + 2]? = some (.cells (natL 0).toArray 38 (0, 0))) := (hbut5.block _ (by omega) (box_lt E2.out)).trans E2.out
  have F3 : Hid (w5.heap[W.heap.size + 3]? = some (.cells (natL 0).toArray 38 (0, 0))) := (hbut5.block _ (by omega) (box_lt E3.out)).trans E3.out
  have F4 := Hid.mk hx5
  have HXL := Hid.mk hxl
  have HXV := Hid.mk hxv
  have hBW5 : Below W.heap.size W w5 := But.below (B := W.heap.size) (g := g4) hBW4 hbut5 (by omega) hBW4.size
  have hg5 : g4 < w5.heap.size := box_lt hx5
  have hz3 := zero24
  have A5 : Hid ((w5.alloc (.cells (zl 128).toArray 36)).heap[w5.heap.size]? = some (.cells (zl 128).toArray 36 (0, 0))) := heap_new _ _
  have BL5 : Below w5.heap.size w5 (w5.alloc (.cells (zl 128).toArray 36)) := (Below.refl _ _).alloc (Nat.le_refl _) _
  have f0 : (w5.alloc (.cells (zl 128).toArray 36)).cell? ⟨W.heap.size, 128, none⟩ = some (.int .i64 (p : Int)) := by
    have := (cells_at ((BL5.block _ (box_lt F0.out)).trans F0.out) (nat_many N)).1
    rwa [HP.out] at this
  have hyd : ys.length + ((dg M).drop (m + 1)).length = 128 := by rw [HYL.out, List.length_drop, dg_len]; omega
  have f1 : (w5.alloc (.cells (zl 128).toArray 36)).cell? ⟨W.heap.size + 1, 128, none⟩ = some (.int .i64 ((m : Int) + 1)) := many_mid ((BL5.block _ (box_lt F1.out)).trans F1.out) hyd
  clear hxl hxv hx5 hbut5 E0 E1 E2 E3 hBW4 d0 R4 HSU2
  go_wp2_with fail
  have G0 : Hid ((w5.alloc (.cells (zl 128).toArray 36)).heap[W.heap.size]? = _) := (BL5.block _ (box_lt F0.out)).trans F0.out
  have G1 : Hid ((w5.alloc (.cells (zl 128).toArray 36)).heap[W.heap.size + 1]? = _) := (BL5.block _ (box_lt F1.out)).trans F1.out
  have G2 : Hid ((w5.alloc (.cells (zl 128).toArray 36)).heap[W.heap.size + 2]? = _) := (BL5.block _ (box_lt F2.out)).trans F2.out
  have G3 : Hid ((w5.alloc (.cells (zl 128).toArray 36)).heap[W.heap.size + 3]? = _) := (BL5.block _ (box_lt F3.out)).trans F3.out
  have G4 : Hid ((w5.alloc (.cells (zl 128).toArray 36)).heap[g4]? = _) := (BL5.block _ (box_lt F4.out)).trans F4.out
  have hBW6 : Below W.heap.size W (w5.alloc (.cells (zl 128).toArray 36)) := bthen hBW5 BL5
  clear F0 F1 F2 F3 F4 BL5 f0 f1 hz3 hBW5
  generalize w5.alloc (.cells (zl 128).toArray 36) = V5 at A5 G0 G1 G2 G3 G4 hBW6 ⊢
  generalize w5.heap.size = g5 at A5 hg5 ⊢
  generalize hPL : (p : Int) - ((m : Int) + 1) + 1 = PL
  obtain ⟨T, hT⟩ : ∃ T, p - m = T := ⟨_, rfl⟩
  have hT128 : T ≤ 128 := by omega
  obtain ⟨D, hD⟩ : ∃ D, M * s = D := ⟨_, rfl⟩
  obtain ⟨X, hX⟩ : ∃ X, N * s = X := ⟨_, rfl⟩
  rw [hD] at HYV
  rw [hX] at HXV HNS
  have hDlo : 4294967296 ^ m * 2147483648 ≤ D := by
    have s2 := val_take_succ ys m (by rw [HYL.out]; omega)
    rw [List.take_of_length_le (by rw [HYL.out]; omega), HYV.out] at s2
    have : 4294967296 ^ m * 2147483648 ≤ 4294967296 ^ m * (ys[m]?.getD 0).toNat := Nat.mul_le_mul_left _ HYT.out
    omega
  have hDhi : D < 4294967296 ^ (m + 1) := by rw [← HYV.out, ← HYL.out]; exact val_lt ys
  have hDp : 0 < D := by
    have : 0 < 4294967296 ^ m := Nat.pow_pos (by omega)
    omega
  have hXD : X < D * 4294967296 ^ T := by
    by_cases hpm : p ≤ m
    · have hNM : N < M := by
        apply Classical.byContradiction
        intro hn
        have := mny_mono M N (by omega)
        rw [HP.out, HQ.out] at this
        omega
      rw [show T = 0 by omega, Nat.pow_zero, Nat.mul_one, ← hX, ← hD]
      exact Nat.mul_lt_mul_of_pos_right hNM hs0
    · have h1 := mny_lt N
      rw [HP.out] at h1
      have h2 : (N + 1) * s ≤ 4294967296 ^ p * s := Nat.mul_le_mul_right _ h1
      have h3 : 4294967296 ^ p * s ≤ 4294967296 ^ p * 2147483648 := Nat.mul_le_mul_left _ hs31
      have h4 : 4294967296 ^ m * 2147483648 * 4294967296 ^ T ≤ D * 4294967296 ^ T := Nat.mul_le_mul_right _ hDlo
      have h5 : 4294967296 ^ m * 2147483648 * 4294967296 ^ T = 4294967296 ^ p * 2147483648 := by
        rw [Nat.mul_assoc, Nat.mul_comm 2147483648, ← Nat.mul_assoc, ← Nat.pow_add, show m + T = p by omega]
      rw [Nat.add_mul, Nat.one_mul, hX] at h2
      omega
  have HDH := Hid.mk hDhi
  have HXD := Hid.mk hXD
  have HDX := Hid.mk (And.intro hD hX)
  clear hDlo hDhi hXD hD hX
  go_loopw [46] (fun iv wr => ∃ (i : Nat) (R fs : List (BitVec 32)), i ≤ T ∧ iv = .int .i64 (i : Int) ∧ Hid (R.length = 129) ∧ Hid (fs.length = 128 - (T - i)) ∧ Hid (val R = X % (D * 4294967296 ^ (T - i))) ∧ Hid (val fs = X / (D * 4294967296 ^ (T - i))) ∧ wr.heap[W.heap.size]? = some (.cells (natL N).toArray 38 (0, 0)) ∧ wr.heap[W.heap.size + 1]? = some (.cells ([] ++ (wl ys ++ (wl ((dg M).drop (m + 1)) ++ [Value.int .i64 ((m + 1 : Nat) : Int)]))).toArray 38 (0, 0)) ∧ wr.heap[W.heap.size + 2]? = some (.cells (natL 0).toArray 38 (0, 0)) ∧ wr.heap[W.heap.size + 3]? = some (.cells (natL 0).toArray 38 (0, 0)) ∧ wr.heap[g4]? = some (.cells (wl R).toArray 158 (0, 0)) ∧ wr.heap[g5]? = some (.cells (wl (List.replicate (T - i) 0 ++ fs)).toArray 36 (0, 0)) ∧ Below W.heap.size W wr) (fun iv _ => T - (intOf iv).toNat)
  case atStart =>
    refine ⟨0, xs ++ List.replicate (128 - p) 0, List.replicate (128 - T) 0, by omega, rfl, by rw [Hid, List.length_append, HXL.out, List.length_replicate]; omega, by rw [Hid, List.length_replicate]; omega, ?_, ?_, G0.out, G1.out, G2.out, G3.out, G4.out, ?_, hBW6⟩
    · rw [Hid, val_app, val_zero, Nat.mul_zero, Nat.add_zero, HXV.out, Nat.sub_zero]
      exact (Nat.mod_eq_of_lt HXD.out).symm
    · rw [Hid, val_zero, Nat.sub_zero]
      exact (Nat.div_eq_of_lt HXD.out).symm
    · rw [Nat.sub_zero, List.replicate_append_replicate, show T + (128 - T) = 128 by omega, ← zl_eq]
      exact A5.out
  case round =>
    obtain ⟨i, R, fs, hi, rfl, HRL, HFL, HRV, HFV, h0, h1, h2, h3, h4, h5, hbl⟩ := hrel
    have H0 := Hid.mk h0
    have H1 := Hid.mk h1
    have H2 := Hid.mk h2
    have H3 := Hid.mk h3
    have H4 := Hid.mk h4
    have H5 := Hid.mk h5
    have c0 : wr.cell? ⟨W.heap.size, 128, none⟩ = some (.int .i64 (p : Int)) := by
      have := (cells_at h0 (nat_many N)).1
      rwa [HP.out] at this
    have c1 : wr.cell? ⟨W.heap.size + 1, 128, none⟩ = some (.int .i64 ((m : Int) + 1)) := many_mid h1 hyd
    clear G0 G1 G2 G3 G4 A5 hBW6
    by_cases hlt : i < T
    · obtain ⟨a, ha⟩ : ∃ a, T - (i + 1) = a := ⟨_, rfl⟩
      have haT : T - i = a + 1 := by omega
      have ham : a + (m + 2) ≤ 129 := by omega
      -- the digits that are looked at
      have hX1 : ((R.drop a).take (m + 2)).length = m + 2 := by rw [List.length_take, List.length_drop, HRL.out]; omega
      have hta : (R.take a).length = a := by rw [List.length_take, HRL.out]; omega
      have HSPL : Hid (R = R.take a ++ ((R.drop a).take (m + 2) ++ R.drop (a + (m + 2)))) := by
        rw [Hid, ← List.drop_drop, List.take_append_drop, List.take_append_drop]
      have HVR : Hid (val (R.take a) + 4294967296 ^ a * val ((R.drop a).take (m + 2)) = X % (D * (4294967296 ^ a * 4294967296)) ∧ val (R.drop (a + (m + 2))) = 0) := by
        have e1 := HRV.out
        rw [haT, Nat.pow_succ] at e1
        have e2 : val R = val (R.take a) + 4294967296 ^ a * (val ((R.drop a).take (m + 2)) + 4294967296 ^ (m + 2) * val (R.drop (a + (m + 2)))) := by
          have := congrArg val HSPL.out
          rw [val_app, val_app, hta, hX1] at this
          exact this
        have hz : val (R.drop (a + (m + 2))) = 0 := by
          apply Classical.byContradiction
          intro hn
          have l1 : X % (D * (4294967296 ^ a * 4294967296)) < D * (4294967296 ^ a * 4294967296) := Nat.mod_lt _ (Nat.mul_pos hDp (Nat.mul_pos (Nat.pow_pos (by omega)) (by omega)))
          have l2 : D * (4294967296 ^ a * 4294967296) ≤ 4294967296 ^ (m + 1) * (4294967296 ^ a * 4294967296) := Nat.mul_le_mul_right _ (Nat.le_of_lt HDH.out)
          have l3 : 4294967296 ^ (m + 1) * (4294967296 ^ a * 4294967296) = 4294967296 ^ a * 4294967296 ^ (m + 2) := by
            rw [← Nat.pow_succ, ← Nat.pow_add, ← Nat.pow_add]; congr 1; omega
          have l4 : 4294967296 ^ a * (4294967296 ^ (m + 2) * 1) ≤ 4294967296 ^ a * (val ((R.drop a).take (m + 2)) + 4294967296 ^ (m + 2) * val (R.drop (a + (m + 2)))) :=
            Nat.mul_le_mul_left _ (Nat.le_trans (Nat.mul_le_mul_left _ (by omega)) (Nat.le_add_left _ _))
          rw [Nat.mul_one] at l4
          omega
        rw [hz, Nat.mul_zero, Nat.add_zero] at e2
        exact ⟨by rw [← e2]; exact e1, hz⟩
      obtain ⟨q1, q2, q3⟩ := div_step X D (4294967296 ^ a) (val (R.take a)) (val ((R.drop a).take (m + 2))) (Nat.pow_pos (by omega)) hDp (by have := val_lt (R.take a); rwa [hta] at this) HVR.out.1
      have HGO : Hid (∀ W' : World, W'.heap[g4]? = some (.cells (wl R).toArray 158 (0, 0)) → W'.heap[W.heap.size + 1]? = some (.cells ([] ++ (wl ys ++ (wl ((dg M).drop (m + 1)) ++ [Value.int .i64 ((m + 1 : Nat) : Int)]))).toArray 38 (0, 0)) → Calls Tryz.prog 141 #[.slice (some ⟨g4, a, none⟩) (m + 2) (129 - a), .slice (some ⟨W.heap.size + 1, 0, none⟩) (m + 1) 128] W' fun e w' => ∃ (R' : List (BitVec 32)) (z : BitVec 32), R'.length = 129 ∧ val R' = X % (D * 4294967296 ^ a) ∧ z.toNat + 4294967296 * (X / (D * 4294967296 ^ (a + 1))) = X / (D * 4294967296 ^ a) ∧ e = .returned (.int .u32 (z.toNat : Int)) ∧ w'.heap[g4]? = some (.cells (wl R').toArray 158 (0, 0)) ∧ But g4 W' w') := fun W' g4' g1' => by
        have g4'' := g4'
        rw [HSPL.out, wl_app, wl_app] at g4''
        have h := goesIn_in W' g4 (W.heap.size + 1) 158 a (129 - a) 128 (m + 1) (wl (R.take a)) (wl (R.drop (a + (m + 2)))) ((R.drop a).take (m + 2)) ys (by rw [wl_len, hta]) hX1 HYL.out (by omega) (by omega) (by omega) (by omega) (by omega) (by rw [HYV.out]; exact q1) (by rw [Nat.add_sub_cancel]; exact HYT.out) g4'' (by omega) (fun j hj => mid_cells g1' j (by rw [HYL.out]; exact hj))
        rw [HYV.out] at h
        refine h.mono ?_
        rintro e w' ⟨zs, a1, a2, a3, a4, a5⟩
        have hqb : val ((R.drop a).take (m + 2)) / D < 4294967296 := (Nat.div_lt_iff_lt_mul hDp).2 (by rw [Nat.mul_comm]; exact q1)
        have hzn : (BitVec.ofNat 32 (val ((R.drop a).take (m + 2)) / D)).toNat = val ((R.drop a).take (m + 2)) / D := by rw [bv_of]; exact Nat.mod_eq_of_lt hqb
        refine ⟨R.take a ++ (zs ++ R.drop (a + (m + 2))), BitVec.ofNat 32 (val ((R.drop a).take (m + 2)) / D), ?_, ?_, ?_, by rw [hzn]; exact a3, ?_, a5⟩
        · rw [List.length_append, List.length_append, hta, a1, List.length_drop, HRL.out]; omega
        · rw [val_app, val_app, HVR.out.2, Nat.mul_zero, Nat.add_zero, hta, a2]; exact q2
        · rw [hzn, q3, Nat.pow_succ]; omega
        · rw [wl_app, wl_app]; exact a4
      have HCF : Hid (∀ w6 : World, w6.heap[g5]? = some (.cells (wl (List.replicate (T - i) 0 ++ fs)).toArray 36 (0, 0)) → (∃ y : BitVec 32, w6.cell? ⟨g5, a, none⟩ = some (.int .u32 (y.toNat : Int))) ∧ w6.frozen? ⟨g5, a, none⟩ = false ∧ ∀ z : BitVec 32, (w6.setCell ⟨g5, a, none⟩ (.int .u32 (z.toNat : Int))).heap[g5]? = some (.cells (wl (List.replicate (T - (i + 1)) 0 ++ (z :: fs))).toArray 36 (0, 0))) := fun w6 hh => by
        have hl : a < (List.replicate (T - i) (0 : BitVec 32) ++ fs).length := by rw [List.length_append, List.length_replicate]; omega
        obtain ⟨x1, x2⟩ := cells_at hh (wl_at _ a hl)
        refine ⟨⟨_, x1⟩, x2, fun z => ?_⟩
        rw [cells_put hh]
        have e : (List.replicate (T - i) (0 : BitVec 32) ++ fs).set a z = List.replicate (T - (i + 1)) 0 ++ (z :: fs) := by
          rw [haT, ha, List.replicate_succ', List.append_assoc, List.set_append_right _ _ (by rw [List.length_replicate]; omega), List.length_replicate, Nat.sub_self]
          rfl
        rw [← e]
        simp [wl]
      have n1 : (i : Int) < PL := by omega
      have n2 : PL - 1 - (i : Int) = (a : Int) := by omega
      have n3 : (a : Int) ≤ (a : Int) + ((m : Int) + 1) + 1 := by omega
      have n4 : (a : Int) + ((m : Int) + 1) + 1 ≤ 129 := by omega
      have n5 : ((a : Int) + ((m : Int) + 1) + 1).toNat = a + (m + 2) := by omega
      have n6 : ¬ (129 = a) := by omega
      have n7 : (a : Int) < 128 := by omega
      have n8 : (0 : Int) ≤ (a : Int) := by omega
      have n9 : a + (m + 2) - a = m + 2 := by omega
      have n10 : IntKind.i64.wrap (PL - 1) = PL - 1 := by rw [IntKind.wrap_i64]; omega
      have n11 : IntKind.i64.wrap (PL - 1 - (i : Int)) = (a : Int) := by rw [IntKind.wrap_i64]; omega
      have HAA := Hid.mk (And.intro ha haT)
      clear h0 h1 h2 h3 h4 h5 hX1 hta ha haT q1 q2 q3 hPL hT
      go_wp2_with fail
      refine (HGO.out _ (by exact H4.out) (by exact H1.out)).mono ?_
      rintro e w6 ⟨R', z, r1, r2, r3, rfl, r4, hbut⟩
      have J0 : Hid (w6.heap[W.heap.size]? = _) := (hbut.block _ (by omega) (box_lt H0.out)).trans H0.out
      have J1 : Hid (w6.heap[W.heap.size + 1]? = _) := (hbut.block _ (by omega) (box_lt H1.out)).trans H1.out
      have J2 : Hid (w6.heap[W.heap.size + 2]? = _) := (hbut.block _ (by omega) (box_lt H2.out)).trans H2.out
      have J3 : Hid (w6.heap[W.heap.size + 3]? = _) := (hbut.block _ (by omega) (box_lt H3.out)).trans H3.out
      have J5 : Hid (w6.heap[g5]? = _) := (hbut.block _ (by omega) (box_lt H5.out)).trans H5.out
      have J4 := Hid.mk r4
      have hb6 : Below W.heap.size W w6 := But.below (B := W.heap.size) (g := g4) hbl hbut (by omega) hbl.size
      obtain ⟨⟨y6, hc6⟩, hf6, hput⟩ := HCF.out w6 J5.out
      have HPUT := Hid.mk hput
      have HR1 := Hid.mk r1
      have HR2 := Hid.mk r2
      have HR3 := Hid.mk r3
      clear hput r1 r2 r3 r4 hbut HGO HCF
      go_wp2
      go_roundw
      case rel =>
        refine ⟨i + 1, R', z :: fs, by omega, by go_num, HR1, ?_, ?_, ?_, ?_, ?_, ?_, ?_, ?_, HPUT.out z, ?_⟩
        · rw [Hid, List.length_cons, HFL.out, HAA.out.1, HAA.out.2]; omega
        · rw [HAA.out.1]; exact HR2
        · rw [Hid, val, HFV.out, HAA.out.1, HAA.out.2]; exact HR3.out
        · exact (Below.heap_setCell _ _ _ _ (by show W.heap.size ≠ g5; omega)).trans J0.out
        · exact (Below.heap_setCell _ _ _ _ (by show W.heap.size + 1 ≠ g5; omega)).trans J1.out
        · exact (Below.heap_setCell _ _ _ _ (by show W.heap.size + 2 ≠ g5; omega)).trans J2.out
        · exact (Below.heap_setCell _ _ _ _ (by show W.heap.size + 3 ≠ g5; omega)).trans J3.out
        · exact (Below.heap_setCell _ _ _ _ (by show g4 ≠ g5; omega)).trans J4.out
        · exact hb6.setCell (by show W.heap.size ≤ g5; omega) _
      case measure => simp [intOf]; omega
    · obtain rfl : i = T := by omega
      rw [Nat.sub_self, Nat.pow_zero, Nat.mul_one] at HRV HFV
      rw [Nat.sub_self] at HFL H5
      obtain ⟨t1, t2, t3⟩ := shifted_div N M s hs0
      rw [HDX.out.1, HDX.out.2] at t1 t2
      have HQL : Hid (N / M < Lim) := Nat.lt_of_le_of_lt (Nat.div_le_self _ _) hN
      have HML : Hid (N % M < Lim) := Nat.lt_of_le_of_lt (Nat.mod_le _ _) hN
      have HSD : Hid (∀ W' : World, W'.heap[g4]? = some (.cells (wl R).toArray 158 (0, 0)) → Calls Tryz.prog 142 #[.slice (some ⟨g4, 0, none⟩) (p + 1) 129, .int .i64 (sh : Int)] W' fun e w' => ∃ R2 : List (BitVec 32), R2.length = 129 ∧ val R2 = N % M ∧ e = .returned (.tuple #[]) ∧ w'.heap[g4]? = some (.cells (wl R2).toArray 158 (0, 0)) ∧ But g4 W' w') := fun W' hh => by
        have h := shiftDown_in W' g4 158 0 129 (p + 1) sh [] (wl (R.drop (p + 1))) (R.take (p + 1)) rfl (by rw [List.length_take, HRL.out]; omega) (by omega) (by omega) hsh32 (by rw [List.nil_append, ← wl_app, List.take_append_drop]; exact hh)
        have e1 := val_split R (p + 1)
        rw [List.length_take, HRL.out, Nat.min_eq_left (by omega), HRV.out, Nat.pow_succ] at e1
        have e2 : X % D ≤ X := Nat.mod_le _ _
        have e3 := HNS.out
        have hz : val (R.drop (p + 1)) = 0 := by
          apply Classical.byContradiction
          intro hn
          have : 4294967296 ^ p * 4294967296 * 1 ≤ 4294967296 ^ p * 4294967296 * val (R.drop (p + 1)) := Nat.mul_le_mul_left _ (by omega)
          omega
        rw [hz, Nat.mul_zero, Nat.add_zero] at e1
        refine h.mono ?_
        rintro e w' ⟨zs, a1, a2, a3, a4, a5⟩
        refine ⟨zs ++ R.drop (p + 1), ?_, ?_, a3, by rw [wl_app]; exact a4, a5⟩
        · rw [List.length_append, a1, List.length_drop, HRL.out]; omega
        · rw [val_app, hz, Nat.mul_zero, Nat.add_zero, a2, ← e1, t2, hs, t3]
      have HN1 : Hid (∀ W' : World, W'.heap[g5]? = some (.cells (wl fs).toArray 36 (0, 0)) → Calls Tryz.prog 87 #[.slice (some ⟨g5, 0, none⟩) 128 128] W' fun e w' => e = .returned (.tuple #[.agg (natL (N / M)).toArray, .int .i64 0]) ∧ Below W'.heap.size W' w') := fun W' hh => by
        have h := natOf_in W' g5 36 0 128 128 [] [] fs rfl (by rw [HFL.out]) (by omega) (by omega) (by omega) (by omega) (by rw [List.nil_append, List.append_nil]; exact hh)
        rwa [HFV.out, t1, natR_ok _ HQL.out] at h
      have HN2 : Hid (∀ (W' : World) (R2 : List (BitVec 32)), R2.length = 129 → val R2 = N % M → W'.heap[g4]? = some (.cells (wl R2).toArray 158 (0, 0)) → Calls Tryz.prog 87 #[.slice (some ⟨g4, 0, none⟩) 129 129] W' fun e w' => e = .returned (.tuple #[.agg (natL (N % M)).toArray, .int .i64 0]) ∧ Below W'.heap.size W' w') := fun W' R2 hl hv hh => by
        have h := natOf_in W' g4 158 0 129 129 [] [] R2 rfl hl (by omega) (by omega) (by omega) (by omega) (by rw [List.nil_append, List.append_nil]; exact hh)
        rwa [hv, natR_ok _ HML.out] at h
      have n1 : ¬ ((i : Int) < PL) := by omega
      have n2 : PL ≤ (i : Int) := by omega
      obtain ⟨QQ, hQQ⟩ : ∃ QQ, N / M = QQ := ⟨_, rfl⟩
      obtain ⟨RR, hRR⟩ : ∃ RR, N % M = RR := ⟨_, rfl⟩
      rw [hQQ] at HN1 HQL
      rw [hRR] at HSD HN2 HML
      have HQQ := Hid.mk hQQ
      have HRR := Hid.mk hRR
      clear hQQ hRR
      clear h0 h1 h2 h3 h4 h5 t1 t2 t3 hPL hT
      go_wp2_with fail
      refine (HSD.out _ (by exact H4.out)).mono ?_
      rintro e w6 ⟨R2, r1, r2, rfl, r4, hbut⟩
      have HR1 := Hid.mk r1
      have HR2 := Hid.mk r2
      have J4 := Hid.mk r4
      have J2 : Hid (w6.heap[W.heap.size + 2]? = _) := (hbut.block _ (by omega) (box_lt H2.out)).trans H2.out
      have J3 : Hid (w6.heap[W.heap.size + 3]? = _) := (hbut.block _ (by omega) (box_lt H3.out)).trans H3.out
      have J5 : Hid (w6.heap[g5]? = some (.cells (wl fs).toArray 36 (0, 0))) := (hbut.block _ (by omega) (box_lt H5.out)).trans H5.out
      have hb6 : Below W.heap.size W w6 := But.below (B := W.heap.size) (g := g4) hbl hbut (by omega) hbl.size
      clear r1 r2 r4 hbut HSD
      go_wp2_with fail
      refine (HN1.out _ (by exact J5.out)).mono ?_
      rintro e w7 ⟨rfl, hb7⟩
      have K2 : Hid (w7.heap[W.heap.size + 2]? = some (.cells (natL 0).toArray 38 (0, 0))) := (hb7.block _ (box_lt J2.out)).trans J2.out
      have K3 : Hid (w7.heap[W.heap.size + 3]? = some (.cells (natL 0).toArray 38 (0, 0))) := (hb7.block _ (box_lt J3.out)).trans J3.out
      have K4 : Hid (w7.heap[g4]? = some (.cells (wl R2).toArray 158 (0, 0))) := (hb7.block _ (box_lt J4.out)).trans J4.out
      have hb7' : Below W.heap.size W w7 := bthen hb6 hb7
      have hst := store_cells K2.out (natL_len 0) (natL_len QQ) (natL_cells QQ)
      have hlen := natL_len
      have L2 : Hid ((w7.setRow (W.heap.size + 2) (natL QQ).toArray).heap[W.heap.size + 2]? = some (.cells (natL QQ).toArray 38 (0, 0))) := setRow_heap _ _ _ _ _ _ K2.out
      have L3 : Hid ((w7.setRow (W.heap.size + 2) (natL QQ).toArray).heap[W.heap.size + 3]? = some (.cells (natL 0).toArray 38 (0, 0))) := (setRow_other _ _ _ _ (by omega)).trans K3.out
      have L4 : Hid ((w7.setRow (W.heap.size + 2) (natL QQ).toArray).heap[g4]? = some (.cells (wl R2).toArray 158 (0, 0))) := (setRow_other _ _ _ _ (by omega)).trans K4.out
      have hb8 : Below W.heap.size W (w7.setRow (W.heap.size + 2) (natL QQ).toArray) := below_row hb7' (by omega) _
      go_upto_region 17 with fail
      generalize w7.setRow (W.heap.size + 2) (natL QQ).toArray = w8 at L2 L3 L4 hb8 ⊢
      clear hst
      go_wp2_with fail
      refine (HN2.out _ R2 HR1.out HR2.out (by exact L4.out)).mono ?_
      rintro e w9 ⟨rfl, hb9⟩
      have M2 : Hid (w9.heap[W.heap.size + 2]? = some (.cells (natL QQ).toArray 38 (0, 0))) := (hb9.block _ (box_lt L2.out)).trans L2.out
      have M3 : Hid (w9.heap[W.heap.size + 3]? = some (.cells (natL 0).toArray 38 (0, 0))) := (hb9.block _ (box_lt L3.out)).trans L3.out
      have hb9' : Below W.heap.size W w9 := bthen hb8 hb9
      have hst2 := store_cells M3.out (natL_len 0) (natL_len RR) (natL_cells RR)
      have P2 : Hid ((w9.setRow (W.heap.size + 3) (natL RR).toArray).heap[W.heap.size + 2]? = some (.cells (natL QQ).toArray 38 (0, 0))) := (setRow_other _ _ _ _ (by omega)).trans M2.out
      have P3 : Hid ((w9.setRow (W.heap.size + 3) (natL RR).toArray).heap[W.heap.size + 3]? = some (.cells (natL RR).toArray 38 (0, 0))) := setRow_heap _ _ _ _ _ _ M3.out
      have hb10 : Below W.heap.size W (w9.setRow (W.heap.size + 3) (natL RR).toArray) := below_row hb9' (by omega) _
      go_upto_region 18 with fail
      generalize w9.setRow (W.heap.size + 3) (natL RR).toArray = w10 at P2 P3 hb10 ⊢
      clear hst2
      clear hlen
      refine wp_region_any (by kernel_rfl) ?_
      have Z2 : Hid (({ w10 with drawn := w10.drawn + 1 } : World).heap[W.heap.size + 2]? = some (.cells (natL QQ).toArray 38 (0, 0))) := P2.out
      have Z3 : Hid (({ w10 with drawn := w10.drawn + 1 } : World).heap[W.heap.size + 3]? = some (.cells (natL RR).toArray 38 (0, 0))) := P3.out
      have hbU : Below W.heap.size W ({ w10 with drawn := w10.drawn + 1 } : World) := hb10.drew
      generalize ({ w10 with drawn := w10.drawn + 1 } : World) = U at Z2 Z3 hbU ⊢
      refine swap_any (natL_len QQ) (natL_len RR) (natL_cells QQ) (natL_cells RR) Z2.out Z3.out rfl rfl (by simp) ?_ ?_
      all_goals (
        simp only [Act.put, List.setIfInBounds_toArray, List.set_cons_succ, List.set_cons_zero]
        go_wp2
        refine bodyPost_ret (results_nat2 Tryz.results123 rfl rfl (by exact Z2.out) (by exact Z3.out) (natL_len QQ) (natL_len RR)) rfl ⟨by rw [HQQ.out, HRR.out], hbU⟩)
end Go.Proofs.YtpimliebiapnfaaGreatDoor.N
/- modulo. -/
namespace Go.Proofs.YtpimliebiapnfaaGreatDoor.N
set_option linter.unusedVariables false
open Go.RowKit
set_option maxRecDepth 100000 in
set_option maxHeartbeats 1000000 in
theorem modulo_in (N M : Nat) (hN : N < Lim) (hM : M < Lim) (hM0 : M ≠ 0) (W : World) : Calls Tryz.prog 143 #[.agg (natL N).toArray, .agg (natL M).toArray] W fun e w' => e = .returned (.agg (natL (N % M)).toArray) ∧ Below W.heap.size W w' := by
  obtain ⟨V, hV, b0, b1, b2, hB, hsz⟩ := three_new W (natL N) (natL M) (natL 0) 38 38 38
  have hz := zero26
  have HD := Hid.mk (divided_in N M hN hM hM0)
  obtain ⟨QQ, hQQ⟩ : ∃ QQ, N / M = QQ := ⟨_, rfl⟩
  obtain ⟨RR, hRR⟩ : ∃ RR, N % M = RR := ⟨_, rfl⟩
  rw [hQQ, hRR] at HD
  rw [hRR]
  clear hQQ hRR
  go_enter Tryz.func143, Tryz.ntmps143
  go_upto_region 1 with fail
  simp only [Nat.add_assoc, Nat.reduceAdd]
  clear hV
  have B0 := Hid.mk b0
  have B1 := Hid.mk b1
  have B2 := Hid.mk b2
  clear b0 b1 b2
  refine wp_region_lit ?_
  refine wpList_run (W' := V) (v := .agg (natL N).toArray) rfl (op_load B0.out (natL_len N) rfl rfl) ?_
  refine wpList_run (W' := V) (v := .agg (natL M).toArray) rfl (op_load B1.out (natL_len M) rfl rfl) ?_
  simp only [Act.put, List.setIfInBounds_toArray, List.set_cons_succ, List.set_cons_zero]
  go_wp2_with fail
  refine (HD.out _).mono ?_
  rintro e w1 ⟨rfl, hb1⟩
  have C2 : Hid (w1.heap[W.heap.size + 2]? = some (.cells (natL 0).toArray 38 (0, 0))) := (hb1.block _ (box_lt B2.out)).trans B2.out
  have hBW : Below W.heap.size W w1 := bthen hB hb1
  have hg : W.heap.size + 2 < w1.heap.size := box_lt C2.out
  obtain ⟨t0, t1, tB, tS⟩ := two_new w1 (natL 0) (natL 0) 38 38
  have hst1 := store_cells t0 (natL_len 0) (natL_len QQ) (natL_cells QQ)
  have u1 : (((w1.alloc (.cells (natL 0).toArray 38)).alloc (.cells (natL 0).toArray 38)).setRow w1.heap.size (natL QQ).toArray).heap[w1.heap.size + 1]? = some (.cells (natL 0).toArray 38 (0, 0)) := (setRow_other _ _ _ _ (by omega)).trans t1
  have hst2 := store_cells u1 (natL_len 0) (natL_len RR) (natL_cells RR)
  have y1 : Hid (((((w1.alloc (.cells (natL 0).toArray 38)).alloc (.cells (natL 0).toArray 38)).setRow w1.heap.size (natL QQ).toArray).setRow (w1.heap.size + 1) (natL RR).toArray).heap[w1.heap.size + 1]? = some (.cells (natL RR).toArray 38 (0, 0))) := setRow_heap _ _ _ _ _ _ u1
  have y2 : Hid (((((w1.alloc (.cells (natL 0).toArray 38)).alloc (.cells (natL 0).toArray 38)).setRow w1.heap.size (natL QQ).toArray).setRow (w1.heap.size + 1) (natL RR).toArray).heap[W.heap.size + 2]? = some (.cells (natL 0).toArray 38 (0, 0))) := by
    rw [Hid, setRow_other _ _ _ _ (by omega), setRow_other _ _ _ _ (by omega), tB.block _ hg]
    exact C2.out
  have yB : Below W.heap.size W ((((w1.alloc (.cells (natL 0).toArray 38)).alloc (.cells (natL 0).toArray 38)).setRow w1.heap.size (natL QQ).toArray).setRow (w1.heap.size + 1) (natL RR).toArray) := below_row (below_row (hBW.trans (tB.mono (by omega))) (by omega) _) (by omega) _
  have hlen := natL_len
  clear t0 t1 tB tS u1 hB hsz B0 B1 B2
  go_upto_region 2 with fail
  generalize ((((w1.alloc (.cells (natL 0).toArray 38)).alloc (.cells (natL 0).toArray 38)).setRow w1.heap.size (natL QQ).toArray).setRow (w1.heap.size + 1) (natL RR).toArray) = U at y1 y2 yB ⊢
  clear hst1 hst2 hlen hz
  refine wp_region_lit ?_
  refine wpList_run (W' := U) (v := .agg (natL RR).toArray) rfl (op_load y1.out (natL_len RR) rfl rfl) ?_
  refine wpList_runS rfl (op_store y2.out (natL_len 0) (natL_len RR) (natL_cells RR) rfl rfl rfl) ?_
  go_wp2
  refine bodyPost_ret (results_nat Tryz.results143 rfl (setRow_heap _ _ _ _ _ _ y2.out) (natL_len RR)) rfl ⟨rfl, below_row yB (by omega) _⟩
end Go.Proofs.YtpimliebiapnfaaGreatDoor.N
/- A whole number loaded and stored, as one step that the walk does not look into. -/
namespace Go.Proofs.YtpimliebiapnfaaGreatDoor.N
set_option linter.unusedVariables false
open Go.RowKit
def natLoad (v : Value) : Sem Value := Instr.loadAt 38 v
def natStore (a x : Value) : Sem Unit := Instr.storeAt 38 a x
theorem loadAt_nat (v : Value) : Instr.loadAt 38 v = natLoad v := rfl
theorem storeAt_nat (a x : Value) : Instr.storeAt 38 a x = natStore a x := rfl
theorem natLoad_run {w : World} {b N : Nat} (h : w.heap[b]? = some (.cells (natL N).toArray 38 (0, 0))) : (natLoad (.pointer (some ⟨b, 0, none⟩))).run Tryz.prog w = .ok (.agg (natL N).toArray) w := nat_load h (natL_len N)
theorem natStore_run {w : World} {b N M : Nat} (h : w.heap[b]? = some (.cells (natL M).toArray 38 (0, 0))) : (natStore (.pointer (some ⟨b, 0, none⟩)) (.agg (natL N).toArray)).run Tryz.prog w = .ok () (w.setRow b (natL N).toArray) := nat_store h (natL_len M) (natL_len N) (natL_cells N)
theorem setRow_new (w : World) (L M : List Value) (t : TypeId) : (w.alloc (.cells L.toArray t)).setRow w.heap.size M.toArray = w.alloc (.cells M.toArray t) := by
  have e : ∀ (h1 h2 : Array Obj), h1 = h2 → ({ w with heap := h1 } : World) = { w with heap := h2 } := fun _ _ h => by rw [h]
  refine e _ _ ?_
  apply Array.ext_getElem?
  intro k
  show ((w.heap.push _).modify _ _)[k]? = (w.heap.push _)[k]?
  simp only [Array.getElem?_modify, Array.getElem?_push]
  by_cases hk : k = w.heap.size
  · subst hk; simp
  · simp [hk, Ne.symm hk]
theorem setRow_in (w : World) (A B : Obj) (M : Array Value) (b : Nat) (h : b < (w.alloc A).heap.size) : ((w.alloc A).alloc B).setRow b M = ((w.alloc A).setRow b M).alloc B := by
  have e : ∀ (h1 h2 : Array Obj), h1 = h2 → ({ w with heap := h1 } : World) = { w with heap := h2 } := fun _ _ h => by rw [h]
  refine e _ _ ?_
  apply Array.ext_getElem?
  intro k
  have h' : b < w.heap.size + 1 := by simpa using h
  show (((w.heap.push A).push B).modify _ _)[k]? = (((w.heap.push A).modify _ _).push B)[k]?
  simp only [Array.getElem?_modify, Array.getElem?_push, Array.size_modify, Array.size_push]
  by_cases hb : b = k
  · subst hb
    have : ¬ b = w.heap.size + 1 := by omega
    simp [this]
  · by_cases hk : k = w.heap.size + 1
    · subst hk; simp [hb]
    · simp [hb, hk]
theorem st1 (w : World) (N M : Nat) : (natStore (.pointer (some ⟨w.heap.size, 0, none⟩)) (.agg (natL N).toArray)).run Tryz.prog (w.alloc (.cells (natL M).toArray 38)) = .ok () (w.alloc (.cells (natL N).toArray 38)) := by
  rw [natStore_run (heap_new _ _), setRow_new]
theorem st2a (w : World) (N M K : Nat) : (natStore (.pointer (some ⟨w.heap.size, 0, none⟩)) (.agg (natL N).toArray)).run Tryz.prog ((w.alloc (.cells (natL M).toArray 38)).alloc (.cells (natL K).toArray 38)) = .ok () ((w.alloc (.cells (natL N).toArray 38)).alloc (.cells (natL K).toArray 38)) := by
  rw [natStore_run (two_new _ _ _ _ _).1, setRow_in _ _ _ _ _ (by simp), setRow_new]
theorem st2b (w : World) (N M K : Nat) : (natStore (.pointer (some ⟨w.heap.size + 1, 0, none⟩)) (.agg (natL N).toArray)).run Tryz.prog ((w.alloc (.cells (natL M).toArray 38)).alloc (.cells (natL K).toArray 38)) = .ok () ((w.alloc (.cells (natL M).toArray 38)).alloc (.cells (natL N).toArray 38)) := by
  rw [natStore_run (two_new _ _ _ _ _).2.1]
  have h := setRow_new (w.alloc (.cells (natL M).toArray 38)) (natL K) (natL N) 38
  rw [show (w.alloc (.cells (natL M).toArray 38)).heap.size = w.heap.size + 1 by simp] at h
  rw [h]
theorem st1d (w : World) (N M : Nat) : (natStore (.pointer (some ⟨w.heap.size, 0, none⟩)) (.agg (natL N).toArray)).run Tryz.prog (w.alloc (.cells (natL M).toArray 38)).drew = .ok () (w.alloc (.cells (natL N).toArray 38)).drew := st1 w.drew N M
theorem st2ad (w : World) (N M K : Nat) : (natStore (.pointer (some ⟨w.heap.size, 0, none⟩)) (.agg (natL N).toArray)).run Tryz.prog ((w.alloc (.cells (natL M).toArray 38)).alloc (.cells (natL K).toArray 38)).drew = .ok () ((w.alloc (.cells (natL N).toArray 38)).alloc (.cells (natL K).toArray 38)).drew := st2a w.drew N M K
theorem st2bd (w : World) (N M K : Nat) : (natStore (.pointer (some ⟨w.heap.size + 1, 0, none⟩)) (.agg (natL N).toArray)).run Tryz.prog ((w.alloc (.cells (natL M).toArray 38)).alloc (.cells (natL K).toArray 38)).drew = .ok () ((w.alloc (.cells (natL M).toArray 38)).alloc (.cells (natL N).toArray 38)).drew := st2b w.drew N M K
theorem kept_one {V w2 : World} {M : Nat} (hb : Below (V.alloc (.cells (natL M).toArray 38)).drew.heap.size (V.alloc (.cells (natL M).toArray 38)).drew w2) : w2.heap[V.heap.size]? = some (.cells (natL M).toArray 38 (0, 0)) ∧ V.heap.size < w2.heap.size ∧
    (∀ o N, (natStore (.pointer (some ⟨V.heap.size, 0, none⟩)) (.agg (natL N).toArray)).run Tryz.prog (w2.alloc o) = .ok () ((w2.alloc o).setRow V.heap.size (natL N).toArray)) ∧
    (∀ N N' K, (natStore (.pointer (some ⟨w2.heap.size, 0, none⟩)) (.agg (natL N').toArray)).run Tryz.prog ((w2.alloc (.cells (natL K).toArray 38)).setRow V.heap.size (natL N).toArray) = .ok () (((w2.alloc (.cells (natL K).toArray 38)).setRow V.heap.size (natL N).toArray).setRow w2.heap.size (natL N').toArray)) := by
  have g : w2.heap[V.heap.size]? = some (.cells (natL M).toArray 38 (0, 0)) := (hb.block V.heap.size (by simp)).trans (heap_new V _)
  have lt := box_lt g
  refine ⟨g, lt, fun o N => natStore_run ((heap_alloc_old w2 o lt).trans g), fun N N' K => natStore_run (M := K) ((setRow_other _ _ _ _ (by omega)).trans (heap_new w2 _))⟩
theorem kept_two {V w2 : World} {M L : Nat} (hb : Below ((V.alloc (.cells (natL M).toArray 38)).alloc (.cells (natL L).toArray 38)).drew.heap.size ((V.alloc (.cells (natL M).toArray 38)).alloc (.cells (natL L).toArray 38)).drew w2) : w2.heap[V.heap.size]? = some (.cells (natL M).toArray 38 (0, 0)) ∧ w2.heap[V.heap.size + 1]? = some (.cells (natL L).toArray 38 (0, 0)) ∧
    (∀ N, (natStore (.pointer (some ⟨V.heap.size, 0, none⟩)) (.agg (natL N).toArray)).run Tryz.prog w2 = .ok () (w2.setRow V.heap.size (natL N).toArray)) ∧
    (∀ N, (natStore (.pointer (some ⟨V.heap.size + 1, 0, none⟩)) (.agg (natL N).toArray)).run Tryz.prog w2 = .ok () (w2.setRow (V.heap.size + 1) (natL N).toArray)) ∧
    (∀ N N', (natStore (.pointer (some ⟨V.heap.size + 1, 0, none⟩)) (.agg (natL N').toArray)).run Tryz.prog (w2.setRow V.heap.size (natL N).toArray) = .ok () ((w2.setRow V.heap.size (natL N).toArray).setRow (V.heap.size + 1) (natL N').toArray)) ∧
    (∀ N N', (natStore (.pointer (some ⟨V.heap.size, 0, none⟩)) (.agg (natL N').toArray)).run Tryz.prog (w2.setRow (V.heap.size + 1) (natL N).toArray) = .ok () ((w2.setRow (V.heap.size + 1) (natL N).toArray).setRow V.heap.size (natL N').toArray)) := by
  have g1 : w2.heap[V.heap.size]? = some (.cells (natL M).toArray 38 (0, 0)) := (hb.block V.heap.size (by simp; omega)).trans (two_new V _ _ _ _).1
  have g2 : w2.heap[V.heap.size + 1]? = some (.cells (natL L).toArray 38 (0, 0)) := (hb.block (V.heap.size + 1) (by simp)).trans (two_new V _ _ _ _).2.1
  exact ⟨g1, g2, fun N => natStore_run g1, fun N => natStore_run g2, fun N N' => natStore_run ((setRow_other _ _ _ _ (by omega)).trans g2), fun N N' => natStore_run ((setRow_other _ _ _ _ (by omega)).trans g1)⟩
theorem wk1 {p : Prop} {V w2 : World} {M : Nat} (hb : Below (V.alloc (.cells (natL M).toArray 38)).drew.heap.size (V.alloc (.cells (natL M).toArray 38)).drew w2) (k : (w2.heap[V.heap.size]? = some (.cells (natL M).toArray 38 (0, 0)) ∧ V.heap.size < w2.heap.size ∧
    (∀ o N, (natStore (.pointer (some ⟨V.heap.size, 0, none⟩)) (.agg (natL N).toArray)).run Tryz.prog (w2.alloc o) = .ok () ((w2.alloc o).setRow V.heap.size (natL N).toArray)) ∧
    (∀ N N' K, (natStore (.pointer (some ⟨w2.heap.size, 0, none⟩)) (.agg (natL N').toArray)).run Tryz.prog ((w2.alloc (.cells (natL K).toArray 38)).setRow V.heap.size (natL N).toArray) = .ok () (((w2.alloc (.cells (natL K).toArray 38)).setRow V.heap.size (natL N).toArray).setRow w2.heap.size (natL N').toArray))) → p) : p := k (kept_one hb)
theorem wk2 {p : Prop} {V w2 : World} {M L : Nat} (hb : Below ((V.alloc (.cells (natL M).toArray 38)).alloc (.cells (natL L).toArray 38)).drew.heap.size ((V.alloc (.cells (natL M).toArray 38)).alloc (.cells (natL L).toArray 38)).drew w2) (k : (w2.heap[V.heap.size]? = some (.cells (natL M).toArray 38 (0, 0)) ∧ w2.heap[V.heap.size + 1]? = some (.cells (natL L).toArray 38 (0, 0)) ∧
    (∀ N, (natStore (.pointer (some ⟨V.heap.size, 0, none⟩)) (.agg (natL N).toArray)).run Tryz.prog w2 = .ok () (w2.setRow V.heap.size (natL N).toArray)) ∧
    (∀ N, (natStore (.pointer (some ⟨V.heap.size + 1, 0, none⟩)) (.agg (natL N).toArray)).run Tryz.prog w2 = .ok () (w2.setRow (V.heap.size + 1) (natL N).toArray)) ∧
    (∀ N N', (natStore (.pointer (some ⟨V.heap.size + 1, 0, none⟩)) (.agg (natL N').toArray)).run Tryz.prog (w2.setRow V.heap.size (natL N).toArray) = .ok () ((w2.setRow V.heap.size (natL N).toArray).setRow (V.heap.size + 1) (natL N').toArray)) ∧
    (∀ N N', (natStore (.pointer (some ⟨V.heap.size, 0, none⟩)) (.agg (natL N').toArray)).run Tryz.prog (w2.setRow (V.heap.size + 1) (natL N).toArray) = .ok () ((w2.setRow (V.heap.size + 1) (natL N).toArray).setRow V.heap.size (natL N').toArray))) → p) : p := k (kept_two hb)
theorem swap_f {X : World} {p q s t a b c d : Nat} (hp : X.heap[p]? = some (.cells (natL a).toArray 38 (0, 0))) (hq : X.heap[q]? = some (.cells (natL b).toArray 38 (0, 0))) (hs : X.heap[s]? = some (.cells (natL c).toArray 38 (0, 0))) (ht : X.heap[t]? = some (.cells (natL d).toArray 38 (0, 0))) (h1 : q ≠ s) (h2 : t ≠ s) :
    (natLoad (.pointer (some ⟨p, 0, none⟩))).run Tryz.prog X.drew = .ok (.agg (natL a).toArray) X.drew ∧ (natLoad (.pointer (some ⟨q, 0, none⟩))).run Tryz.prog X.drew = .ok (.agg (natL b).toArray) X.drew ∧
    (natLoad (.pointer (some ⟨q, 0, none⟩))).run Tryz.prog (X.drew.setRow s (natL a).toArray) = .ok (.agg (natL b).toArray) (X.drew.setRow s (natL a).toArray) ∧
    (natStore (.pointer (some ⟨s, 0, none⟩)) (.agg (natL a).toArray)).run Tryz.prog X.drew = .ok () (X.drew.setRow s (natL a).toArray) ∧
    (natStore (.pointer (some ⟨t, 0, none⟩)) (.agg (natL b).toArray)).run Tryz.prog (X.drew.setRow s (natL a).toArray) = .ok () ((X.drew.setRow s (natL a).toArray).setRow t (natL b).toArray) ∧
    ((X.drew.setRow s (natL a).toArray).setRow t (natL b).toArray).heap[s]? = some (.cells (natL a).toArray 38 (0, 0)) ∧ ((X.drew.setRow s (natL a).toArray).setRow t (natL b).toArray).heap[t]? = some (.cells (natL b).toArray 38 (0, 0)) ∧
    ∀ k, k ≠ s → k ≠ t → ((X.drew.setRow s (natL a).toArray).setRow t (natL b).toArray).heap[k]? = X.heap[k]? :=
  ⟨natLoad_run (w := X.drew) hp, natLoad_run (w := X.drew) hq, natLoad_run ((setRow_other _ _ _ _ h1).trans hq), natStore_run (w := X.drew) hs, natStore_run ((setRow_other _ _ _ _ h2).trans ht), (setRow_other _ _ _ _ (Ne.symm h2)).trans (setRow_heap X.drew _ _ _ _ _ hs), setRow_heap _ _ _ _ _ _ ((setRow_other _ _ _ _ h2).trans ht), fun k hk1 hk2 => (setRow_other _ _ _ _ hk2).trans (setRow_other _ _ _ _ hk1)⟩
def natBuild : Sem Value := Instr.build 38 #[]
theorem build_nat : Instr.build 38 #[] = natBuild := rfl
theorem build_nat' (f : Nat × Operand → Nat × Value) : Instr.build 38 (Array.map f #[]) = natBuild := by rw [Array.map_empty]; rfl
theorem natBuild_run (w : World) : natBuild.run Tryz.prog w = .ok (.agg (natL 0).toArray) w := by
  rw [natZ]; exact build26 w
theorem results_nat3 {fn : Func} {p q r : Tmp} (h : fn.results = #[.cell p 38, .cell q 38, .tmp r]) {tmps : Array Value} {W : World} {b c : Nat} {L M : List Value} {v : Value} {fz fy : Nat × Nat} (hp : tmps.getD p undef = .pointer (some ⟨b, 0, none⟩)) (hq : tmps.getD q undef = .pointer (some ⟨c, 0, none⟩)) (hr : tmps.getD r undef = v) (hb : W.heap[b]? = some (.cells L.toArray 38 fz)) (hc : W.heap[c]? = some (.cells M.toArray 38 fy)) (hs : L.length = 129) (ht : M.length = 129) :
    (results fn tmps).run Tryz.prog W = .ok (.tuple #[.agg L.toArray, .agg M.toArray, v]) W := by
  have hp' : tmps[p]?.getD undef = .pointer (some ⟨b, 0, none⟩) := by simpa using hp
  have hq' : tmps[q]?.getD undef = .pointer (some ⟨c, 0, none⟩) := by simpa using hq
  have hr' : tmps[r]?.getD undef = v := by simpa using hr
  simp only [results, h]
  simp [hp', hq', hr', asAddr, nat_loadV hb hs, nat_loadV hc ht]
end Go.Proofs.YtpimliebiapnfaaGreatDoor.N