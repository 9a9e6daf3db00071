/- Texts of this proof, joined: NDv, NTms, NFault, NWide, NPowF, NPw. -/
import Derived.Test.YtpimliebiapnfaaGreatDoorJ5
import Derived.Deep.RegionWith
import Derived.Deep.DeepCutAuto
import Derived.Test.YtpimliebiapnfaaGreatDoorJ7
/- Div. -/
namespace Go.Proofs.YtpimliebiapnfaaGreatDoor.N
set_option linter.unusedVariables false
open Go.RowKit
attribute [local go_sem ↓] loadAt_nat storeAt_nat build_nat build_nat'
attribute [local go_sem] st1 st2a st2b natBuild_run
set_option maxRecDepth 100000 in
set_option maxHeartbeats 400000 in
theorem div_in (N M : Nat) (hN : N < Lim) (hM : M < Lim) (hM0 : M ≠ 0) (W : World) : Calls Tryz.prog 104 #[.agg (natL N).toArray, .agg (natL M).toArray] W fun e w' => e = .returned (.tuple #[.agg (natL (N / M)).toArray, .agg (natL (N % M)).toArray, .int .i64 0]) ∧ Below W.heap.size W w' := by
  obtain ⟨V, hV, b0, b1, b2, b3, hBl, hsz⟩ := four_new W (natL N) (natL M) (natL 0) (natL 0) 38 38 38 38
  have hz := zero26
  have HD := Hid.mk (divided_in N M hN hM hM0)
  have hm0 : 0 < mny M := (mny_ge M hM0).1
  obtain ⟨q, hq⟩ : ∃ q, mny M = q := ⟨_, rfl⟩
  have c1 : V.cell? ⟨W.heap.size + 1, 128, none⟩ = some (.int .i64 (q : Int)) := by have := (cells_at b1 (nat_many M)).1; rwa [hq] at this
  have hq0 : ((q : Int) == 0) = false := by rw [beq_eq_false_iff_ne]; omega
  clear hm0 hq
  generalize N / M = QQ at HD ⊢
  generalize N % M = RR at HD ⊢
  have l0 := natLoad_run b0
  have l1 := natLoad_run b1
  go_enter Tryz.func104, Tryz.ntmps104
  go_wp2_with fail
  refine (HD.out _).mono ?_
  rintro e w1 ⟨rfl, hb1⟩
  have k2 : w1.heap[W.heap.size + 2]? = some (.cells (natL 0).toArray 38 (0, 0)) := (hb1.block _ (box_lt b2)).trans b2
  have k3 : w1.heap[W.heap.size + 3]? = some (.cells (natL 0).toArray 38 (0, 0)) := (hb1.block _ (box_lt b3)).trans b3
  have hBW : Below W.heap.size W w1 := bthen hBl hb1
  have hg : W.heap.size + 3 < w1.heap.size := box_lt k3
  clear b0 b1 b2 b3 hV l0 l1 c1 hBl hb1 hsz
  go_upto_region 4 with fail
  obtain ⟨t0, t1, tB, tS⟩ := two_new w1 (natL QQ) (natL RR) 38 38
  have k2' := (tB.block _ (by omega)).trans k2
  have k3' := (tB.block _ (by omega)).trans k3
  have hBU : Below W.heap.size W ((w1.alloc (.cells (natL QQ).toArray 38)).alloc (.cells (natL RR).toArray 38)) := hBW.trans (tB.mono (by omega))
  generalize ((w1.alloc (.cells (natL QQ).toArray 38)).alloc (.cells (natL RR).toArray 38)) = U at t0 t1 k2' k3' hBU ⊢
  clear tB tS k2 k3
  simp only [Nat.add_assoc, Nat.reduceAdd]
  have lq : (natLoad (.pointer (some ⟨w1.heap.size, 0, none⟩))).run Tryz.prog U.drew = .ok _ U.drew := natLoad_run (w := U.drew) t0
  have lr : (natLoad (.pointer (some ⟨w1.heap.size + 1, 0, none⟩))).run Tryz.prog U.drew = .ok _ U.drew := natLoad_run (w := U.drew) t1
  have lr2 : (natLoad (.pointer (some ⟨w1.heap.size + 1, 0, none⟩))).run Tryz.prog (U.drew.setRow (W.heap.size + 2) (natL QQ).toArray) = .ok _ (U.drew.setRow (W.heap.size + 2) (natL QQ).toArray) := natLoad_run ((setRow_other _ _ _ _ (by omega)).trans t1)
  have sq : (natStore (.pointer (some ⟨W.heap.size + 2, 0, none⟩)) (.agg (natL QQ).toArray)).run Tryz.prog U.drew = _ := natStore_run (w := U.drew) k2'
  have sr : (natStore (.pointer (some ⟨W.heap.size + 3, 0, none⟩)) (.agg (natL RR).toArray)).run Tryz.prog (U.drew.setRow (W.heap.size + 2) (natL QQ).toArray) = _ := natStore_run ((setRow_other _ _ _ _ (by omega)).trans k3')
  go_region
  have r2 : ((U.drew.setRow (W.heap.size + 2) (natL QQ).toArray).setRow (W.heap.size + 3) (natL RR).toArray).heap[W.heap.size + 2]? = some (.cells (natL QQ).toArray 38 (0, 0)) := (setRow_other _ _ _ _ (by omega)).trans (setRow_heap (U.drew) _ _ _ _ _ k2')
  have r3 : ((U.drew.setRow (W.heap.size + 2) (natL QQ).toArray).setRow (W.heap.size + 3) (natL RR).toArray).heap[W.heap.size + 3]? = some (.cells (natL RR).toArray 38 (0, 0)) := setRow_heap _ _ _ _ _ _ ((setRow_other _ _ _ _ (by omega)).trans k3')
  have hBZ : Below W.heap.size W ((U.drew.setRow (W.heap.size + 2) (natL QQ).toArray).setRow (W.heap.size + 3) (natL RR).toArray) := below_row (below_row hBU.drew (by omega) _) (by omega) _
  generalize ((U.drew.setRow (W.heap.size + 2) (natL QQ).toArray).setRow (W.heap.size + 3) (natL RR).toArray) = Z at r2 r3 hBZ ⊢
  clear lq lr lr2 sq sr t0 t1 k2' k3'
  go_wp2
  exact bodyPost_ret (results_nat3 Tryz.results104 rfl rfl rfl r2 r3 (natL_len QQ) (natL_len RR)) rfl ⟨rfl, hBZ⟩
end Go.Proofs.YtpimliebiapnfaaGreatDoor.N
/- times. -/
namespace Go.Proofs.YtpimliebiapnfaaGreatDoor.N
set_option linter.unusedVariables false
open Go.RowKit
end Go.Proofs.YtpimliebiapnfaaGreatDoor.N
/- faultOf. -/
namespace Go.Proofs.YtpimliebiapnfaaGreatDoor.N
set_option linter.unusedVariables false
open Go.RowKit
theorem mny_none (M : Nat) : mny M = 0 ↔ M = 0 := by
  unfold mny
  split <;> omega
def flt (M : Nat) : Int := if M = 0 then 1 else if 2048 < btl M then 3 else 0
set_option maxRecDepth 100000 in
set_option maxHeartbeats 1000000 in
theorem fault_in (M : Nat) (hM : M < Lim) (W : World) : Calls Tryz.prog 124 #[.agg (natL M).toArray] W fun e w' => e = .returned (.int .i64 (flt M)) ∧ Below W.heap.size W w' := by
  have HB := Hid.mk (boxed W (natL M) 38)
  have hmany := (cells_at HB.out (nat_many M)).1
  have hB : Below W.heap.size W (W.alloc (.cells (natL M).toArray 38)) := (Below.refl _ _).alloc (Nat.le_refl _) _
  have HBT := Hid.mk (bits_in M hM)
  by_cases h0 : M = 0
  · have HF : Hid (flt M = 1) := if_pos h0
    rw [(mny_none M).2 h0] at hmany
    have hm0 : (W.alloc (.cells (natL M).toArray 38)).cell? ⟨W.heap.size, 128, none⟩ = some (.int .i64 0) := hmany
    clear hmany h0
    go_enter Tryz.func124, Tryz.ntmps124
    go_wp2
    go_ret
    exact ⟨by rw [HF.out]; rfl, hB⟩
  · have hne : ((mny M : Int) == 0) = false := by rw [beq_eq_false_iff_ne]; have := (mny_none M).1; omega
    have HF : Hid (flt M = if 2048 < btl M then 3 else 0) := if_neg h0
    generalize mny M = k at hmany hne
    obtain ⟨bt, hbt⟩ : ∃ bt, btl M = bt := ⟨_, rfl⟩
    rw [hbt] at HF HBT
    clear hbt
    go_enter Tryz.func124, Tryz.ntmps124
    go_upto_region 3 with fail
    generalize W.alloc (.cells (natL M).toArray 38) = V at HB hB hmany ⊢
    refine wp_region_lit ?_
    refine wpList_run (W' := V) (v := .agg (natL M).toArray) rfl (op_load HB.out (natL_len M) rfl rfl) ?_
    simp only [Act.put, List.setIfInBounds_toArray, List.set_cons_succ, List.set_cons_zero]
    go_wp2_with fail
    refine (HBT.out _).mono ?_
    rintro e w1 ⟨rfl, hb1⟩
    have hBW : Below W.heap.size W w1 := bthen hB hb1
    by_cases h2 : 2048 < bt
    · rw [if_pos h2] at HF
      have h2i : (2048 : Int) < (bt : Int) := by omega
      go_wp2
      go_ret
      exact ⟨by rw [HF.out]; rfl, hBW⟩
    · rw [if_neg h2] at HF
      have h2i : (bt : Int) ≤ 2048 := by omega
      go_wp2
      go_ret
      exact ⟨by rw [HF.out]; rfl, hBW⟩
end Go.Proofs.YtpimliebiapnfaaGreatDoor.N
/- Wide. -/
namespace Go.Proofs.YtpimliebiapnfaaGreatDoor.N
set_option linter.unusedVariables false
open Go.RowKit
attribute [local go_sem ↓] loadAt_nat storeAt_nat build_nat build_nat'
attribute [local go_sem] st1 st2a st2b natBuild_run
theorem btl_lt (N : Nat) : N < 2 ^ btl N := by
  unfold btl
  split
  · rename_i h; rw [h]; exact Nat.two_pow_pos _
  · exact Nat.lt_log2_self
theorem nbl_lt (N : Nat) : N < 256 ^ nbl N := by
  have h1 := btl_lt N
  have h2 : 2 ^ btl N ≤ 2 ^ (8 * nbl N) := Nat.pow_le_pow_right (by omega) (by unfold nbl; omega)
  rw [Nat.pow_mul, show 2 ^ 8 = 256 from rfl] at h2
  omega
theorem nbl_le_iff (N k : Nat) : nbl N ≤ k ↔ N < 256 ^ k := by
  constructor
  · intro h
    exact Nat.lt_of_lt_of_le (nbl_lt N) (Nat.pow_le_pow_right (by omega) h)
  · intro h
    rw [show 256 = 2 ^ 8 from rfl, ← Nat.pow_mul] at h
    by_cases h0 : N = 0
    · unfold nbl btl; rw [if_pos h0]; omega
    · have := (Nat.log2_lt h0).2 h
      unfold nbl btl; rw [if_neg h0]; omega
theorem bys_wide (N k : Nat) (h : nbl N ≤ k) : List.replicate (k - nbl N) 0 ++ bys N (nbl N) = bys N k := by
  apply List.ext_getElem
  · rw [List.length_append, List.length_replicate, bys_len, bys_len]; omega
  · intro j h1 h2
    rw [bys_len] at h2
    simp only [bys, List.getElem_append, List.length_replicate, List.getElem_replicate, List.getElem_map, List.getElem_range]
    by_cases hj : j < k - nbl N
    · rw [dif_pos hj]
      have h3 := nbl_lt N
      have h4 : 256 ^ nbl N ≤ 256 ^ (k - 1 - j) := Nat.pow_le_pow_right (by omega) (by omega)
      rw [Nat.div_eq_of_lt (by omega)]
      rfl
    · rw [dif_neg hj, show nbl N - 1 - (j - (k - nbl N)) = k - 1 - j by omega]
set_option maxRecDepth 100000 in
set_option maxHeartbeats 400000 in
theorem wide_in (N k : Nat) (hN : N < Lim) (hk : k ≤ 2147483647) (hl : nbl N ≤ k) (W : World) : Calls Tryz.prog 48 #[.agg (natL N).toArray, .int .i64 (k : Int)] W fun e w' => e = .returned (.tuple #[.string ⟨(bys N k).toArray⟩, .int .i64 0]) ∧ Below W.heap.size W w' := by
  have l0 := natLoad_run (boxed W (natL N) 38)
  have hB : Below W.heap.size W (W.alloc (.cells (natL N).toArray 38)) := (Below.refl _ _).alloc (Nat.le_refl _) _
  have HBY := Hid.mk (bytes_in N hN)
  have HR : Hid (∀ W, Calls Tryz.prog 88 #[.string ⟨#[0]⟩, .int .i64 ((k : Int) - (nbl N : Int))] W fun e w' => e = .returned (.string ⟨(List.replicate (k - nbl N) (0 : UInt8)).toArray⟩) ∧ Below W.heap.size W w') := fun W => by
    have h := Tryz.strings_Repeat ⟨#[0]⟩ (k - nbl N) W (by omega) (by show 1 * _ ≤ _; omega)
    have e : Lib.repeatL (⟨#[0]⟩ : ByteArray).data.toList (k - nbl N) = List.replicate (k - nbl N) 0 := by
      have := Lib.repeatL_replicate 0 1 (k - nbl N)
      rw [Nat.mul_one] at this
      exact this
    rw [e, show ((k - nbl N : Nat) : Int) = (k : Int) - (nbl N : Int) by omega] at h
    exact h
  have HW := Hid.mk (bys_wide N k hl)
  obtain ⟨s, hs⟩ : ∃ s : ByteArray, (⟨(bys N (nbl N)).toArray⟩ : ByteArray) = s := ⟨_, rfl⟩
  have hsz : s.size = nbl N := by rw [← hs, ba_size, bys_len]
  have HS := Hid.mk hs
  rw [hs] at HBY
  obtain ⟨z, hz⟩ : ∃ z : ByteArray, (⟨(List.replicate (k - nbl N) (0 : UInt8)).toArray⟩ : ByteArray) = z := ⟨_, rfl⟩
  have HZ := Hid.mk hz
  rw [hz] at HR
  have hk0 : (0 : Int) ≤ (k : Int) := by omega
  have hk1 : ¬ ((2147483647 : Int) < (k : Int)) := by omega
  have hk2 : (k : Int) ≤ 2147483647 := by omega
  have hlI : ¬ ((k : Int) < (nbl N : Int)) := by omega
  have hlJ : (nbl N : Int) ≤ (k : Int) := by omega
  have hn0 : (0 : Int) ≤ (nbl N : Int) := by omega
  clear hs hz
  generalize nbl N = n at *
  go_enter Tryz.func48, Tryz.ntmps48
  go_wp2_with fail
  refine (HBY.out _).mono ?_
  rintro e w1 ⟨rfl, hb1⟩
  have hb1' : Below W.heap.size W w1 := bthen hB hb1
  clear l0
  go_wp2_with fail
  refine (HR.out _).mono ?_
  rintro e w2 ⟨rfl, hb2⟩
  have hb2' : Below W.heap.size W w2 := bthen hb1' hb2
  have HE : Hid (z ++ s = ⟨(bys N k).toArray⟩) := by
    rw [Hid, ← HZ.out, ← HS.out]
    apply ba_ext
    rw [ByteArray.toList_data_append]
    exact HW.out
  have hzn : ¬ 9223372036854775807 < z.size + n := by
    have e := congrArg ByteArray.size HZ.out
    rw [ba_size, List.length_replicate] at e
    omega
  go_wp2
  go_ret2
  exact ⟨by rw [← HE.out]; rfl, hb2'⟩
end Go.Proofs.YtpimliebiapnfaaGreatDoor.N
/- Facts on powers modulo a number. -/
namespace Go.Proofs.YtpimliebiapnfaaGreatDoor.N
set_option linter.unusedVariables false
open Go.RowKit
theorem bit_at (N k : Nat) : N / 4294967296 ^ (k / 32) % 4294967296 / 2 ^ (k % 32) % 2 = N / 2 ^ k % 2 := by
  have e : 2 ^ k = 4294967296 ^ (k / 32) * 2 ^ (k % 32) := by
    rw [show (4294967296 : Nat) = 2 ^ 32 from rfl, ← Nat.pow_mul, ← Nat.pow_add, Nat.div_add_mod]
  rw [e, ← Nat.div_div_eq_div_mul]
  generalize N / 4294967296 ^ (k / 32) = A
  have h : k % 32 < 32 := Nat.mod_lt _ (by omega)
  generalize k % 32 = r at h
  have e2 : 4294967296 = 2 ^ r * 2 ^ (31 - r) * 2 := by
    rw [← Nat.pow_add, show r + (31 - r) = 31 by omega]
  have e3 : A % 4294967296 = A % (2 ^ r * (2 ^ (31 - r) * 2)) := by rw [← Nat.mul_assoc, ← e2]
  rw [e3, Nat.mod_mul_right_div_self]
  rw [Nat.mod_mul_left_mod]
theorem lt_pow_of_btl (M k : Nat) (h : btl M ≤ 32 * k) : M < 4294967296 ^ k := by
  rw [pow_bits]
  exact Nat.lt_of_lt_of_le (btl_lt M) (Nat.pow_le_pow_right (by omega) h)
theorem lim_sq (M : Nat) (h : btl M ≤ 2048) : M * M ≤ Lim := by
  have h2 := lt_pow_of_btl M 64 h
  have h4 : M * M ≤ 4294967296 ^ 64 * 4294967296 ^ 64 := Nat.mul_le_mul (Nat.le_of_lt h2) (Nat.le_of_lt h2)
  rw [← Nat.pow_add] at h4
  exact h4
end Go.Proofs.YtpimliebiapnfaaGreatDoor.N
/- power. -/
namespace Go.Proofs.YtpimliebiapnfaaGreatDoor.N
set_option linter.unusedVariables false
open Go.RowKit
attribute [local go_sem ↓] loadAt_nat storeAt_nat build_nat build_nat'
attribute [local go_sem] st1 st2a st2b natBuild_run
end Go.Proofs.YtpimliebiapnfaaGreatDoor.N