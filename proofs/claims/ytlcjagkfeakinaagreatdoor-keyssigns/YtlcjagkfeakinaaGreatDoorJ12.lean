/- Texts of this proof, joined: NWide, NPowF, NPw, NPow, KRsa, KEx. -/
import Derived.Test.YtlcjagkfeakinaaGreatDoorJ11
import Derived.Deep.RegionWith
import Derived.Deep.DeepCutAuto
import Derived.BigQuiet
import Derived.Deep.QuietTactic
import Derived.Test.YtlcjagkfeakinaaGreatDoorJ7
/- Wide. -/
namespace Go.Proofs.YtlcjagkfeakinaaGreatDoor.N
set_option linter.unusedVariables false
open Go.RowKit
attribute [local go_sem ↓] loadAt_nat storeAt_nat build_nat build_nat'
attribute [local go_sem] st1 st2a st2b natBuild_run
theorem btl_lt (N : Nat) : N < 2 ^ btl N := by
  unfold btl
  split
  · rename_i h; rw [h]; exact Nat.two_pow_pos _
  · exact Nat.lt_log2_self
theorem nbl_lt (N : Nat) : N < 256 ^ nbl N := by
  have h1 := btl_lt N
  have h2 : 2 ^ btl N ≤ 2 ^ (8 * nbl N) := Nat.pow_le_pow_right (by omega) (by unfold nbl; omega)
  rw [Nat.pow_mul, show 2 ^ 8 = 256 from rfl] at h2
  omega
theorem nbl_le_iff (N k : Nat) : nbl N ≤ k ↔ N < 256 ^ k := by
  constructor
  · intro h
    exact Nat.lt_of_lt_of_le (nbl_lt N) (Nat.pow_le_pow_right (by omega) h)
  · intro h
    rw [show 256 = 2 ^ 8 from rfl, ← Nat.pow_mul] at h
    by_cases h0 : N = 0
    · unfold nbl btl; rw [if_pos h0]; omega
    · have := (Nat.log2_lt h0).2 h
      unfold nbl btl; rw [if_neg h0]; omega
theorem bys_wide (N k : Nat) (h : nbl N ≤ k) : List.replicate (k - nbl N) 0 ++ bys N (nbl N) = bys N k := by
  apply List.ext_getElem
  · rw [List.length_append, List.length_replicate, bys_len, bys_len]; omega
  · intro j h1 h2
    rw [bys_len] at h2
    simp only [bys, List.getElem_append, List.length_replicate, List.getElem_replicate, List.getElem_map, List.getElem_range]
    by_cases hj : j < k - nbl N
    · rw [dif_pos hj]
      have h3 := nbl_lt N
      have h4 : 256 ^ nbl N ≤ 256 ^ (k - 1 - j) := Nat.pow_le_pow_right (by omega) (by omega)
      rw [Nat.div_eq_of_lt (by omega)]
      rfl
    · rw [dif_neg hj, show nbl N - 1 - (j - (k - nbl N)) = k - 1 - j by omega]
set_option maxRecDepth 100000 in
set_option maxHeartbeats 400000 in
theorem wide_in (N k : Nat) (hN : N < Lim) (hk : k ≤ 2147483647) (hl : nbl N ≤ k) (W : World) : Calls Tryz.prog 28 #[.agg (natL N).toArray, .int .i64 (k : Int)] W fun e w' => e = .returned (.tuple #[.string ⟨(bys N k).toArray⟩, .int .i64 0]) ∧ Below W.heap.size W w' := by
  have l0 := natLoad_run (boxed W (natL N) 43)
  have hB : Below W.heap.size W (W.alloc (.cells (natL N).toArray 43)) := (Below.refl _ _).alloc (Nat.le_refl _) _
  have HBY := Hid.mk (bytes_in N hN)
  have HR : Hid (∀ W, Calls Tryz.prog 57 #[.string ⟨#[0]⟩, .int .i64 ((k : Int) - (nbl N : Int))] W fun e w' => e = .returned (.string ⟨(List.replicate (k - nbl N) (0 : UInt8)).toArray⟩) ∧ Below W.heap.size W w') := fun W => by
    have h := Tryz.strings_Repeat ⟨#[0]⟩ (k - nbl N) W (by omega) (by show 1 * _ ≤ _; omega)
    have e : Lib.repeatL (⟨#[0]⟩ : ByteArray).data.toList (k - nbl N) = List.replicate (k - nbl N) 0 := by
      have := Lib.repeatL_replicate 0 1 (k - nbl N)
      rw [Nat.mul_one] at this
      exact this
    rw [e, show ((k - nbl N : Nat) : Int) = (k : Int) - (nbl N : Int) by omega] at h
    exact h
  have HW := Hid.mk (bys_wide N k hl)
  obtain ⟨s, hs⟩ : ∃ s : ByteArray, (⟨(bys N (nbl N)).toArray⟩ : ByteArray) = s := ⟨_, rfl⟩
  have hsz : s.size = nbl N := by rw [← hs, ba_size, bys_len]
  have HS := Hid.mk hs
  rw [hs] at HBY
  obtain ⟨z, hz⟩ : ∃ z : ByteArray, (⟨(List.replicate (k - nbl N) (0 : UInt8)).toArray⟩ : ByteArray) = z := ⟨_, rfl⟩
  have HZ := Hid.mk hz
  rw [hz] at HR
  have hk0 : (0 : Int) ≤ (k : Int) := by omega
  have hk1 : ¬ ((2147483647 : Int) < (k : Int)) := by omega
  have hk2 : (k : Int) ≤ 2147483647 := by omega
  have hlI : ¬ ((k : Int) < (nbl N : Int)) := by omega
  have hlJ : (nbl N : Int) ≤ (k : Int) := by omega
  have hn0 : (0 : Int) ≤ (nbl N : Int) := by omega
  clear hs hz
  generalize nbl N = n at *
  go_enter Tryz.func28, Tryz.ntmps28
  go_wp2_with fail
  refine (HBY.out _).mono ?_
  rintro e w1 ⟨rfl, hb1⟩
  have hb1' : Below W.heap.size W w1 := bthen hB hb1
  clear l0
  go_wp2_with fail
  refine (HR.out _).mono ?_
  rintro e w2 ⟨rfl, hb2⟩
  have hb2' : Below W.heap.size W w2 := bthen hb1' hb2
  have HE : Hid (z ++ s = ⟨(bys N k).toArray⟩) := by
    rw [Hid, ← HZ.out, ← HS.out]
    apply ba_ext
    rw [ByteArray.toList_data_append]
    exact HW.out
  have hzn : ¬ 9223372036854775807 < z.size + n := by
    have e := congrArg ByteArray.size HZ.out
    rw [ba_size, List.length_replicate] at e
    omega
  go_wp2
  go_ret2
  exact ⟨by rw [← HE.out]; rfl, hb2'⟩
set_option maxRecDepth 100000 in
set_option maxHeartbeats 400000 in
theorem wide_long (N k : Nat) (hN : N < Lim) (hk : k ≤ 2147483647) (hl : k < nbl N) (W : World) : Calls Tryz.prog 28 #[.agg (natL N).toArray, .int .i64 (k : Int)] W fun e w' => e = .returned (.tuple #[.string ⟨#[]⟩, .int .i64 3]) ∧ Below W.heap.size W w' := by
  have l0 := natLoad_run (boxed W (natL N) 43)
  have hB : Below W.heap.size W (W.alloc (.cells (natL N).toArray 43)) := (Below.refl _ _).alloc (Nat.le_refl _) _
  have HBY := Hid.mk (bytes_in N hN)
  obtain ⟨s, hs⟩ : ∃ s : ByteArray, (⟨(bys N (nbl N)).toArray⟩ : ByteArray) = s := ⟨_, rfl⟩
  have hsz : s.size = nbl N := by rw [← hs, ba_size, bys_len]
  rw [hs] at HBY
  have hk0 : (0 : Int) ≤ (k : Int) := by omega
  have hk2 : (k : Int) ≤ 2147483647 := by omega
  have hlJ : (k : Int) < (nbl N : Int) := by omega
  clear hs
  generalize nbl N = n at *
  go_enter Tryz.func28, Tryz.ntmps28
  go_wp2_with fail
  refine (HBY.out _).mono ?_
  rintro e w1 ⟨rfl, hb1⟩
  have hb1' : Below W.heap.size W w1 := bthen hB hb1
  clear l0
  go_wp2
  go_ret2
  exact ⟨rfl, hb1'⟩
set_option maxRecDepth 100000 in
set_option maxHeartbeats 400000 in
theorem wide_neg (N : Nat) (k : Int) (hN : N < Lim) (hk : k < 0) (W : World) : Calls Tryz.prog 28 #[.agg (natL N).toArray, .int .i64 k] W fun e w' => e = .returned (.tuple #[.string ⟨#[]⟩, .int .i64 1]) ∧ Below W.heap.size W w' := by
  have hB : Below W.heap.size W (W.alloc (.cells (natL N).toArray 43)) := (Below.refl _ _).alloc (Nat.le_refl _) _
  go_enter Tryz.func28, Tryz.ntmps28
  go_wp2
  go_ret2
  exact ⟨rfl, hB⟩
end Go.Proofs.YtlcjagkfeakinaaGreatDoor.N

/- Facts on powers modulo a number. -/
namespace Go.Proofs.YtlcjagkfeakinaaGreatDoor.N
set_option linter.unusedVariables false
open Go.RowKit
theorem bit_at (N k : Nat) : N / 4294967296 ^ (k / 32) % 4294967296 / 2 ^ (k % 32) % 2 = N / 2 ^ k % 2 := by
  have e : 2 ^ k = 4294967296 ^ (k / 32) * 2 ^ (k % 32) := by
    rw [show (4294967296 : Nat) = 2 ^ 32 from rfl, ← Nat.pow_mul, ← Nat.pow_add, Nat.div_add_mod]
  rw [e, ← Nat.div_div_eq_div_mul]
  generalize N / 4294967296 ^ (k / 32) = A
  have h : k % 32 < 32 := Nat.mod_lt _ (by omega)
  generalize k % 32 = r at h
  have e2 : 4294967296 = 2 ^ r * 2 ^ (31 - r) * 2 := by
    rw [← Nat.pow_add, show r + (31 - r) = 31 by omega]
  have e3 : A % 4294967296 = A % (2 ^ r * (2 ^ (31 - r) * 2)) := by rw [← Nat.mul_assoc, ← e2]
  rw [e3, Nat.mod_mul_right_div_self]
  rw [Nat.mod_mul_left_mod]
theorem and_one (q : Nat) (h : q < 4294967296) : bits .and .u32 (q : Int) 1 = ((q % 2 : Nat) : Int) := by
  have := u32_and_nat q 1 h (by omega)
  rw [Nat.and_one_is_mod] at this
  exact this
/-- the power of the first i bits. -/
def pwr (A E M n i : Nat) : Nat := A ^ (E / 2 ^ (n - i)) % M
theorem pwr_start (A E M n : Nat) (h : E < 2 ^ n) : pwr A E M n 0 = 1 % M := by
  unfold pwr
  rw [Nat.sub_zero, Nat.div_eq_of_lt h, Nat.pow_zero]
theorem pwr_end (A E M n : Nat) : pwr A E M n n = A ^ E % M := by
  unfold pwr
  rw [Nat.sub_self, Nat.pow_zero, Nat.div_one]
theorem pwr_lt (A E M n i : Nat) (h : M ≠ 0) : pwr A E M n i < M := Nat.mod_lt _ (by omega)
theorem half (E k : Nat) : E / 2 ^ k = E / 2 ^ (k + 1) + E / 2 ^ (k + 1) + E / 2 ^ k % 2 := by
  rw [Nat.pow_succ, ← Nat.div_div_eq_div_mul]
  omega
theorem pow_even (A q M : Nat) : A ^ q % M * (A ^ q % M) % M = A ^ (q + q + 0) % M := by
  rw [Nat.add_zero, Nat.pow_add, ← Nat.mul_mod]
theorem pow_odd (A q M : Nat) : (A ^ q % M * (A ^ q % M) % M) * (A % M) % M = A ^ (q + q + 1) % M := by
  rw [pow_even, Nat.add_zero, ← Nat.mul_mod, Nat.pow_succ]
theorem pwr_even (A E M n i k : Nat) (hk : n - (i + 1) = k) (hi : i < n) (hb : E / 2 ^ k % 2 = 0) : pwr A E M n i * pwr A E M n i % M = pwr A E M n (i + 1) := by
  have h := half E k
  rw [hb] at h
  unfold pwr
  rw [hk, show n - i = k + 1 by omega, h]
  exact pow_even _ _ _
theorem pwr_odd (A E M n i k : Nat) (hk : n - (i + 1) = k) (hi : i < n) (hb : E / 2 ^ k % 2 = 1) : (pwr A E M n i * pwr A E M n i % M) * (A % M) % M = pwr A E M n (i + 1) := by
  have h := half E k
  rw [hb] at h
  unfold pwr
  rw [hk, show n - i = k + 1 by omega, h]
  exact pow_odd _ _ _
theorem lt_pow_of_btl (M k : Nat) (h : btl M ≤ 32 * k) : M < 4294967296 ^ k := by
  rw [pow_bits]
  exact Nat.lt_of_lt_of_le (btl_lt M) (Nat.pow_le_pow_right (by omega) h)
theorem lim_sq (M : Nat) (h : btl M ≤ 2048) : M * M ≤ Lim := by
  have h2 := lt_pow_of_btl M 64 h
  have h4 : M * M ≤ 4294967296 ^ 64 * 4294967296 ^ 64 := Nat.mul_le_mul (Nat.le_of_lt h2) (Nat.le_of_lt h2)
  rw [← Nat.pow_add] at h4
  exact h4
end Go.Proofs.YtlcjagkfeakinaaGreatDoor.N

/- power. -/
namespace Go.Proofs.YtlcjagkfeakinaaGreatDoor.N
set_option linter.unusedVariables false
open Go.RowKit
attribute [local go_sem ↓] loadAt_nat storeAt_nat build_nat build_nat'
attribute [local go_sem] st1 st2a st2b natBuild_run
set_option maxRecDepth 100000 in
set_option maxHeartbeats 1000000 in
theorem power_in (A E M : Nat) (hA : A < Lim) (hE : E < Lim) (hM : M < Lim) (hM0 : M ≠ 0) (hMM : M * M ≤ Lim) (W : World) : Calls Tryz.prog 56 #[.agg (natL A).toArray, .agg (natL E).toArray, .agg (natL M).toArray] W fun e w' => e = .returned (.agg (natL (A ^ E % M)).toArray) ∧ Below W.heap.size W w' := by
  obtain ⟨V, hV, b0, b1, b2, b3, hBl, hsz⟩ := four_new W (natL A) (natL E) (natL M) (natL 0) 43 43 43 43
  have hz := zero26
  have HMA := Hid.mk (modulo_in A M hA hM hM0)
  have HM1 := Hid.mk (modulo_in 1 M (lim_big 1 1 (by omega) (by omega)) hM hM0)
  have HS1 := Hid.mk (small_in 1 (by omega))
  obtain ⟨A', hA'⟩ : ∃ A', A % M = A' := ⟨_, rfl⟩
  rw [hA'] at HMA
  have HA' := Hid.mk hA'
  obtain ⟨o, ho⟩ : ∃ o, 1 % M = o := ⟨_, rfl⟩
  rw [ho] at HM1
  have HO := Hid.mk ho
  clear hA' ho
  have l0 := natLoad_run b0
  have l2 := natLoad_run b2
  go_enter Tryz.func56, Tryz.ntmps56
  go_wp2_with fail
  refine (HMA.out _).mono ?_
  rintro e w1 ⟨rfl, hb1⟩
  have c0 := (hb1.block _ (box_lt b0)).trans b0
  have c1 := (hb1.block _ (box_lt b1)).trans b1
  have c2 := (hb1.block _ (box_lt b2)).trans b2
  have c3 := (hb1.block _ (box_lt b3)).trans b3
  have hBW : Below W.heap.size W w1 := bthen hBl hb1
  clear b0 b1 b2 b3 hV l0 l2 hBl hb1 hsz
  have s0 := natStore_run (N := A') c0
  go_upto_region 2 with fail
  have d0 := setRow_heap w1 _ _ (natL A').toArray _ _ c0
  have d1 := (setRow_other w1 W.heap.size (W.heap.size + 1) (natL A').toArray (by omega)).trans c1
  have d2 := (setRow_other w1 W.heap.size (W.heap.size + 2) (natL A').toArray (by omega)).trans c2
  have d3 := (setRow_other w1 W.heap.size (W.heap.size + 3) (natL A').toArray (by omega)).trans c3
  have hBU := below_row hBW (Nat.le_refl _) (natL A').toArray
  generalize w1.setRow W.heap.size (natL A').toArray = U at d0 d1 d2 d3 hBU ⊢
  clear s0 c0 c1 c2 c3 hBW
  simp only [Nat.add_assoc, Nat.reduceAdd]
  obtain ⟨K, hK⟩ : ∃ K : World → Prop, K = fun w => w.heap[W.heap.size]? = some (.cells (natL A').toArray 43 (0, 0)) ∧ w.heap[W.heap.size + 1]? = some (.cells (natL E).toArray 43 (0, 0)) ∧ w.heap[W.heap.size + 2]? = some (.cells (natL M).toArray 43 (0, 0)) ∧ w.heap[W.heap.size + 3]? = some (.cells (natL 0).toArray 43 (0, 0)) ∧ Below W.heap.size W w := ⟨_, rfl⟩
  have kU : K U := by rw [hK]; exact ⟨d0, d1, d2, d3, hBU⟩
  have kd : ∀ w, K w → K w.drew := by rw [hK]; exact fun w h => ⟨h.1, h.2.1, h.2.2.1, h.2.2.2.1, h.2.2.2.2.drew⟩
  have kb : ∀ w w', K w → Below w.heap.size w w' → K w' := by
    rw [hK]
    exact fun w w' h hb => ⟨(hb.block _ (box_lt h.1)).trans h.1, (hb.block _ (box_lt h.2.1)).trans h.2.1, (hb.block _ (box_lt h.2.2.1)).trans h.2.2.1, (hb.block _ (box_lt h.2.2.2.1)).trans h.2.2.2.1, bthen h.2.2.2.2 hb⟩
  have ka : ∀ w o, K w → K (w.alloc o) := fun w o h => kb w _ h ((Below.refl _ _).alloc (Nat.le_refl _) _)
  have kl : ∀ w, K w → (natLoad (.pointer (some ⟨W.heap.size + 2, 0, none⟩))).run Tryz.prog w = .ok (.agg (natL M).toArray) w := by
    rw [hK]; exact fun w h => natLoad_run h.2.2.1
  have ksz : ∀ w, K w → W.heap.size + 4 ≤ w.heap.size := by rw [hK]; exact fun w h => box_lt h.2.2.2.1
  have ks : ∀ w b (x : Array Value), K w → W.heap.size + 4 ≤ b → K (w.setRow b x) := by
    rw [hK]
    exact fun w b x h hb => ⟨(setRow_other _ _ _ _ (by omega)).trans h.1, (setRow_other _ _ _ _ (by omega)).trans h.2.1, (setRow_other _ _ _ _ (by omega)).trans h.2.2.1, (setRow_other _ _ _ _ (by omega)).trans h.2.2.2.1, below_row h.2.2.2.2 (by omega) _⟩
  have HKe : Hid (∀ w, K w → w.heap[W.heap.size]? = some (.cells (natL A').toArray 43 (0, 0)) ∧ w.heap[W.heap.size + 1]? = some (.cells (natL E).toArray 43 (0, 0)) ∧ w.heap[W.heap.size + 2]? = some (.cells (natL M).toArray 43 (0, 0)) ∧ w.heap[W.heap.size + 3]? = some (.cells (natL 0).toArray 43 (0, 0)) ∧ Below W.heap.size W w) := by rw [hK]; exact fun w h => h
  clear d0 d1 d2 d3 hBU
  clear hK
  have KB := Hid.mk kb
  clear kb
  have lU := kl _ (kd _ kU)
  have lUa := fun o => kl (U.alloc o).drew (kd _ (ka _ o kU))
  go_cut [7] (fun s7 wx => ∃ b, s7 = .pointer (some ⟨b, 0, none⟩) ∧ K wx ∧ wx.heap[b]? = some (.cells (natL o).toArray 43 (0, 0)) ∧ W.heap.size + 4 ≤ b)
  case first =>
    go_region_with (first
      | (go_at_call 92; refine (HS1.out _).mono ?_; rintro e w2 ⟨rfl, hb2⟩; have k2 := KB.out _ _ (by first | exact kd _ kU | exact kd _ (ka _ _ kU)) hb2; have l2 := kl _ k2; have l2a := fun o => kl (w2.alloc o) (ka _ o k2); try have g2 := (hb2.block U.heap.size (by simp)).trans (heap_new U _))
      | (go_at_call 91; refine (HM1.out _).mono ?_; rintro e w3 ⟨rfl, hb3⟩; have k3 := KB.out _ _ (by first | exact k2 | exact ka _ _ k2) hb3; first | (have g3 := (hb3.block _ (box_lt g2)).trans g2; have s3 := natStore_run (N := o) g3) | (have g3 := (hb3.block w2.heap.size (by simp)).trans (heap_new w2 _); have s3 := natStore_run (N := o) g3) | skip))
    all_goals go_wp2
    all_goals go_meet
    all_goals (first
      | exact ⟨w3.heap.size, rfl, ka _ _ k3, heap_new _ _, ksz _ k3⟩
      | exact ⟨w2.heap.size, rfl, ks _ _ _ k3 (ksz _ k2), setRow_heap _ _ _ _ _ _ g3, ksz _ k2⟩
      | exact ⟨U.heap.size, rfl, ks _ _ _ k3 (ksz _ kU), setRow_heap _ _ _ _ _ _ g3, ksz _ kU⟩)
  case rest =>
    obtain ⟨b, rfl, kR, hbb, hbge⟩ := hcut
    clear lU lUa kU
    obtain ⟨n, hn⟩ : ∃ n, btl E = n := ⟨_, rfl⟩
    have HBT := Hid.mk (bits_in E hE)
    rw [hn] at HBT
    have hn4 : n ≤ 4096 := by rw [← hn]; exact btl_le E hE
    have HEn : Hid (E < 2 ^ n) := by rw [Hid, ← hn]; exact btl_lt E
    have HDG : Hid (∀ j, j < 128 → ((dg E)[j]?.getD 0).toNat = E / 4294967296 ^ j % 4294967296) := fun j hj => dg_at E hE j hj
    clear hn
    have HTM : Hid (∀ (X Y : Nat), X < M → Y < M → ∀ W : World, Calls Tryz.prog 93 #[.agg (natL X).toArray, .agg (natL Y).toArray, .agg (natL M).toArray] W fun e w' => e = .returned (.agg (natL (X * Y % M)).toArray) ∧ Below W.heap.size W w') := fun X Y hX hY => times_in X Y M (by omega) (by omega) (by
      have h1 : X * Y < M * M := Nat.mul_lt_mul'' hX hY
      omega) hM hM0
    have lE := natLoad_run (HKe.out _ kR).2.1
    have HPW : Hid (∀ i, pwr A E M n i < M) := fun i => pwr_lt A E M n i hM0
    have hA'M : A' < M := by rw [← HA'.out]; exact Nat.mod_lt _ (by omega)
    go_wp2_with fail
    refine (HBT.out _).mono ?_
    rintro e w1 ⟨rfl, hb1⟩
    have kR1 := KB.out _ _ kR hb1
    have hbb1 := (hb1.block _ (box_lt hbb)).trans hbb
    clear lE hb1 hbb kR
    go_wp2_with fail
    go_loopw [18] (fun iv wr => ∃ i : Nat, i ≤ n ∧ iv = .int .i64 (i : Int) ∧ wr.heap[b]? = some (.cells (natL (pwr A E M n i)).toArray 43 (0, 0)) ∧ K wr) (fun iv _ => n - (intOf iv).toNat)
    case atStart => exact ⟨0, by omega, rfl, by rw [pwr_start A E M n HEn.out, HO.out]; exact hbb1, kR1⟩
    case round =>
      obtain ⟨i, hi, rfl, hpb, kr⟩ := hrel
      clear kR1 hbb1
      have lp := natLoad_run hpb
      have lm := kl _ kr
      by_cases hlt : i < n
      · obtain ⟨k, hk⟩ : ∃ k, n - (i + 1) = k := ⟨_, rfl⟩
        have hp1 := HPW.out i
        have HT1 := Hid.mk (HTM.out _ _ hp1 hp1)
        have HEV := Hid.mk (pwr_even A E M n i k hk hlt)
        have HOD := Hid.mk (pwr_odd A E M n i k hk hlt)
        have hp2 : pwr A E M n i * pwr A E M n i % M < M := Nat.mod_lt _ (by omega)
        have HT2 := Hid.mk (HTM.out _ _ hp2 hA'M)
        rw [HA'.out] at HOD
        generalize pwr A E M n i = p at *
        generalize p * p % M = p2 at *
        have HBA := Hid.mk (bit_at E k)
        obtain ⟨j, hj⟩ : ∃ j, k / 32 = j := ⟨_, rfl⟩
        obtain ⟨r, hr⟩ : ∃ r, k % 32 = r := ⟨_, rfl⟩
        rw [hj, hr] at HBA
        have hj128 : j < 128 := by omega
        have hcx := Hid.mk (HDG.out j hj128)
        obtain ⟨dd, hdd⟩ : ∃ dd, E / 4294967296 ^ j % 4294967296 = dd := ⟨_, rfl⟩
        rw [hdd] at hcx HBA
        have hdl : dd < 4294967296 := by rw [← hdd]; exact Nat.mod_lt _ (by omega)
        obtain ⟨qd, hqd⟩ : ∃ qd, dd / 2 ^ r = qd := ⟨_, rfl⟩
        rw [hqd] at HBA
        have hql : qd < 4294967296 := by rw [← hqd]; exact Nat.lt_of_le_of_lt (Nat.div_le_self _ _) hdl
        have hand := and_one qd hql
        have t1 : (k : Int).tdiv 32 = (j : Int) := by rw [Int.tdiv_eq_ediv_of_nonneg (by omega)]; omega
        have t2 : (k : Int) / 32 = (j : Int) := by omega
        have t3 : (k : Int).tmod 32 = (r : Int) := by rw [Int.tmod_eq_emod_of_nonneg (by omega)]; omega
        have t4 : (k : Int) % 32 = (r : Int) := by omega
        have t6 : (dd : Int) / 2 ^ r = (qd : Int) := by rw [← hqd, Int.natCast_ediv, Int.natCast_pow]; rfl
        have t9 : (n : Int) - 1 - (i : Int) = (k : Int) := by omega
        have hr32 : r < 32 := by omega
        have hj' : (j : Int) < 128 := by omega
        have hk0 : (0 : Int) ≤ (k : Int) := by omega
        clear hj hr hqd hdd hk
        go_wp2_with fail
        refine (HT1.out _).mono ?_
        rintro e w2 ⟨rfl, hb2⟩
        have k2 := KB.out _ _ kr hb2
        have g2 := (hb2.block _ (box_lt hpb)).trans hpb
        have s2 := natStore_run (N := p2) g2
        have k3 := ks _ _ (natL p2).toArray k2 hbge
        have g3 := setRow_heap _ _ _ (natL p2).toArray _ _ g2
        clear lp lm hb2
        go_upto_region 7 with fail
        generalize w2.setRow b (natL p2).toArray = w3 at k3 g3 ⊢
        clear s2 g2
        have lE := natLoad_run (HKe.out _ k3).2.1
        go_wp2_with fail
        refine (HBT.out _).mono ?_
        rintro e w4 ⟨rfl, hb4⟩
        have k4 := KB.out _ _ k3 hb4
        have g4 := (hb4.block _ (box_lt g3)).trans g3
        have cE : w4.cell? ⟨W.heap.size + 1, j, none⟩ = some (.int .u32 (dd : Int)) := by
          have := (cells_at (HKe.out _ k4).2.1 (nat_at E j hj128)).1
          rwa [hcx.out] at this
        clear lE hb4 g3
        by_cases hbit : qd % 2 = 1
        · have hb' : E / 2 ^ k % 2 = 1 := by rw [← HBA.out]; exact hbit
          have HNX := Hid.mk (HOD.out hb')
          rw [hbit] at hand
          have l4 := natLoad_run g4
          have lA := natLoad_run (HKe.out _ k4).1
          have lm := kl _ k4
          clear hb' hbit
          go_wp2_with fail
          refine (HT2.out _).mono ?_
          rintro e w5 ⟨rfl, hb5⟩
          have k5 := KB.out _ _ k4 hb5
          have g5 := (hb5.block _ (box_lt g4)).trans g4
          obtain ⟨pn, hpn⟩ : ∃ pn, pwr A E M n (i + 1) = pn := ⟨_, rfl⟩
          rw [HNX.out, hpn]
          have HPN := Hid.mk hpn
          clear hpn
          have s5 := natStore_run (N := pn) g5
          have k6 := ks _ _ (natL pn).toArray k5 hbge
          have g6 := setRow_heap _ _ _ (natL pn).toArray _ _ g5
          clear l4 lA lm hb5
          go_wp2
          go_roundw
          case rel => exact ⟨i + 1, by omega, by go_num, by rw [HPN.out]; exact g6, k6⟩
          case measure => simp [intOf]; omega
        · have hb0 : qd % 2 = 0 := by omega
          have hb' : E / 2 ^ k % 2 = 0 := by rw [← HBA.out]; exact hb0
          have HNX := Hid.mk (HEV.out hb')
          rw [hb0] at hand
          clear hb' hbit hb0
          rw [HNX.out] at g4
          go_wp2
          go_roundw
          case rel => exact ⟨i + 1, by omega, by go_num, g4, k4⟩
          case measure => simp [intOf]; omega
      · obtain rfl : i = n := by omega
        rw [pwr_end] at hpb lp
        obtain ⟨RR, hRR⟩ : ∃ RR, A ^ E % M = RR := ⟨_, rfl⟩
        rw [hRR] at hpb lp
        have HRR := Hid.mk hRR
        clear hRR
        have s3 := natStore_run (N := RR) (HKe.out _ kr).2.2.2.1
        have r3 := setRow_heap _ _ _ (natL RR).toArray _ _ (HKe.out _ kr).2.2.2.1
        have hB3 := below_row (HKe.out _ kr).2.2.2.2 (show W.heap.size ≤ W.heap.size + 3 by omega) (natL RR).toArray
        go_wp2
        exact bodyPost_ret (results_nat Tryz.results56 rfl r3 (natL_len RR)) rfl ⟨by rw [HRR.out], hB3⟩
end Go.Proofs.YtlcjagkfeakinaaGreatDoor.N

/- Pow. -/
namespace Go.Proofs.YtlcjagkfeakinaaGreatDoor.N
set_option linter.unusedVariables false
open Go.RowKit
attribute [local go_sem ↓] loadAt_nat storeAt_nat build_nat build_nat'
attribute [local go_sem] st1 st2a st2b natBuild_run
/-- what Pow answers. -/
noncomputable def powR (A E M : Nat) : Ending := if flt M = 0 then .returned (.tuple #[.agg (natL (A ^ E % M)).toArray, .int .i64 0]) else .returned (.tuple #[.agg (natL 0).toArray, .int .i64 (flt M)])
theorem flt_ok (M : Nat) : flt M = 0 ↔ M ≠ 0 ∧ btl M ≤ 2048 := by
  unfold flt
  split
  · simp_all
  · split
    · simp_all
    · simp_all
set_option maxRecDepth 100000 in
set_option maxHeartbeats 400000 in
theorem pow_in (A E M : Nat) (hA : A < Lim) (hE : E < Lim) (hM : M < Lim) (W : World) : Calls Tryz.prog 27 #[.agg (natL A).toArray, .agg (natL E).toArray, .agg (natL M).toArray] W fun e w' => e = powR A E M ∧ Below W.heap.size W w' := by
  obtain ⟨V, hV, b0, b1, b2, b3, hBl, hsz⟩ := four_new W (natL A) (natL E) (natL M) (natL 0) 43 43 43 43
  have hz := zero26
  have HF := Hid.mk (fault_in M hM)
  have l2 := natLoad_run b2
  by_cases h0 : flt M = 0
  · have HP : Hid (powR A E M = _) := if_pos h0
    obtain ⟨h1, h2⟩ := (flt_ok M).1 h0
    have HW := Hid.mk (power_in A E M hA hE hM h1 (lim_sq M h2))
    rw [h0] at HF
    clear h0 h1 h2
    obtain ⟨RR, hRR⟩ : ∃ RR, A ^ E % M = RR := ⟨_, rfl⟩
    rw [hRR] at HP HW
    clear hRR
    go_enter Tryz.func27, Tryz.ntmps27
    go_wp2_with fail
    refine (HF.out _).mono ?_
    rintro e w1 ⟨rfl, hb1⟩
    have c0 := natLoad_run ((hb1.block _ (box_lt b0)).trans b0)
    have c1 := natLoad_run ((hb1.block _ (box_lt b1)).trans b1)
    have c2 := natLoad_run ((hb1.block _ (box_lt b2)).trans b2)
    have c3 := (hb1.block _ (box_lt b3)).trans b3
    have hBW : Below W.heap.size W w1 := bthen hBl hb1
    clear b0 b1 b2 b3 hV l2 hBl hb1 hsz
    go_wp2_with fail
    refine (HW.out _).mono ?_
    rintro e w2 ⟨rfl, hb2⟩
    have d3 := (hb2.block _ (box_lt c3)).trans c3
    have s3 := natStore_run (N := RR) d3
    have r3 := setRow_heap _ _ _ (natL RR).toArray _ _ d3
    have hB3 := below_row (bthen hBW hb2) (show W.heap.size ≤ W.heap.size + 3 by omega) (natL RR).toArray
    clear c0 c1 c2 c3
    go_wp2
    exact bodyPost_ret (results_nat_tmp Tryz.results27 rfl rfl r3 (natL_len RR)) rfl ⟨HP.out.symm, hB3⟩
  · have HP : Hid (powR A E M = _) := if_neg h0
    have hf0 : ((flt M) == 0) = false := by rw [beq_eq_false_iff_ne]; exact h0
    generalize flt M = fv at *
    clear h0
    go_enter Tryz.func27, Tryz.ntmps27
    go_wp2_with fail
    refine (HF.out _).mono ?_
    rintro e w1 ⟨rfl, hb1⟩
    have c3 := (hb1.block _ (box_lt b3)).trans b3
    have hBW : Below W.heap.size W w1 := bthen hBl hb1
    clear b0 b1 b2 b3 hV l2 hBl hb1 hsz
    have s3 := natStore_run (N := 0) c3
    have r3 := setRow_heap _ _ _ (natL 0).toArray _ _ c3
    have hB3 := below_row hBW (show W.heap.size ≤ W.heap.size + 3 by omega) (natL 0).toArray
    go_wp2
    exact bodyPost_ret (results_nat_tmp Tryz.results27 rfl rfl r3 (natL_len 0)) rfl ⟨HP.out.symm, hB3⟩
end Go.Proofs.YtlcjagkfeakinaaGreatDoor.N

/- numberOf and split of a public key. -/
namespace Go.Proofs.YtlcjagkfeakinaaGreatDoor.N
set_option linter.unusedVariables false
open Go.RowKit
attribute [local go_sem ↓] loadAt_nat storeAt_nat build_nat build_nat'
attribute [local go_sem] st1 st2a st2b natBuild_run

/-- the number of a key's part, if it is right. -/
noncomputable def nkR (l : List UInt8) (least : Nat) : Nat × Bool := if l.length = 0 ∨ l[0]?.getD 0 = 0 ∨ 512 < l.length ∨ btl (numB l) < least ∨ 2048 < btl (numB l) then (0, false) else (numB l, true)

theorem numberOf_empty (least : Int) (W : World) : Calls Tryz.prog 41 #[.string ⟨#[]⟩, .int .i64 least] W fun e w' => e = .returned (.tuple #[.agg (natL 0).toArray, .bool false]) ∧ Below W.heap.size W w' := by
  have hz := zero26
  go_enter Tryz.func41, Tryz.ntmps41
  go_wp2
  exact bodyPost_ret (results_nat_tmp Tryz.results41 rfl rfl (heap_new W (.cells (natL 0).toArray 43)) (natL_len 0)) rfl ⟨rfl, (Below.refl _ _).alloc (Nat.le_refl _) _⟩
theorem kne_text (s : ByteArray) (h : 0 < s.size) : (s.toList == []) = false ∧ (s.toList != []) = true := by
  rw [ByteArray.toList_eq]
  cases hs : s.data.toList with
  | nil =>
    have : s.size = 0 := by rw [← size_list, hs]; rfl
    omega
  | cons a l => exact ⟨rfl, rfl⟩
theorem head_at (s : ByteArray) (h : 0 < s.size) : s.data.toList[0]?.getD 0 = s[0] := by
  rw [List.getElem?_eq_getElem (by rw [size_list]; exact h)]
  rfl
theorem numberOf_zero (s : ByteArray) (h0 : 0 < s.size) (hb : s[0].toNat = 0) (least : Int) (W : World) : Calls Tryz.prog 41 #[.string s, .int .i64 least] W fun e w' => e = .returned (.tuple #[.agg (natL 0).toArray, .bool false]) ∧ Below W.heap.size W w' := by
  have hz := zero26
  obtain ⟨n1, n2⟩ := kne_text s h0
  have hb2 : ((s[0].toNat : Int) == 0) = true := by rw [hb]; rfl
  clear hb
  go_enter Tryz.func41, Tryz.ntmps41
  go_wp2
  exact bodyPost_ret (results_nat_tmp Tryz.results41 rfl rfl (heap_new W (.cells (natL 0).toArray 43)) (natL_len 0)) rfl ⟨rfl, (Below.refl _ _).alloc (Nat.le_refl _) _⟩
theorem klim_of (N k m : Nat) (hk : k ≤ 4 * m) (h : N < 256 ^ k) : N < 4294967296 ^ m := by
  rw [show (4294967296 : Nat) = 256 ^ 4 by rfl, ← Nat.pow_mul]
  exact Nat.lt_of_lt_of_le h (Nat.pow_le_pow_right (by omega) hk)
theorem knum_lim (l : List UInt8) (h : l.length ≤ 512) : numB l < Lim := klim_of _ l.length 128 (by omega) (numB_lt l)
set_option maxRecDepth 100000 in
theorem numberOf_long (s : ByteArray) (h0 : 0 < s.size) (hb : s[0].toNat ≠ 0) (hs : s.size ≤ 140737488355328) (hl : 512 < s.size) (least : Int) (W : World) : Calls Tryz.prog 41 #[.string s, .int .i64 least] W fun e w' => e = .returned (.tuple #[.agg (natL 0).toArray, .bool false]) ∧ Below W.heap.size W w' := by
  have hz := zero26
  obtain ⟨n1, n2⟩ := kne_text s h0
  have hb2 : ((s[0].toNat : Int) == 0) = false := by rw [beq_eq_false_iff_ne]; omega
  have HO := Hid.mk (of_in s hs)
  have ho : ofR s.data.toList = .returned (.tuple #[.agg (natL 0).toArray, .int .i64 3]) := by
    unfold ofR
    rw [strip_stop _ (by rw [size_list]; omega) (by rw [head_at s h0]; exact hb), if_neg (by rw [size_list]; omega)]
  rw [ho] at HO
  clear ho hb hl hs
  go_enter Tryz.func41, Tryz.ntmps41
  go_wp2_with fail
  refine (HO.out _).mono ?_
  rintro e w1 ⟨rfl, hb1⟩
  have x1 := (hb1.block _ (by simp)).trans (heap_new W (.cells (natL 0).toArray 43))
  have HB := Hid.mk (((Below.refl W.heap.size W).alloc (Nat.le_refl _) (.cells (natL 0).toArray 43)).trans (hb1.mono (by simp)))
  have x2 := (heap_alloc_old w1 (.cells (natL 0).toArray 43) (box_lt x1)).trans x1
  have s2 := natStore_run (N := 0) x2
  have r2 := setRow_heap _ _ _ (natL 0).toArray _ _ x2
  have hB2 := below_row (HB.out.alloc HB.out.size (.cells (natL 0).toArray 43)) (Nat.le_refl W.heap.size) (natL 0).toArray
  clear hb1 x1 x2
  go_wp2
  exact bodyPost_ret (results_nat_tmp Tryz.results41 rfl rfl r2 (natL_len 0)) rfl ⟨rfl, hB2⟩
set_option maxRecDepth 100000 in
theorem numberOf_go (s : ByteArray) (h0 : 0 < s.size) (hb : s[0].toNat ≠ 0) (hl : s.size ≤ 512) (least : Nat) (hle : least ≤ 2048) (W : World) : Calls Tryz.prog 41 #[.string s, .int .i64 (least : Int)] W fun e w' => e = .returned (.tuple #[.agg (natL (if btl (numB s.data.toList) < least ∨ 2048 < btl (numB s.data.toList) then 0 else numB s.data.toList)).toArray, .bool (!decide (btl (numB s.data.toList) < least ∨ 2048 < btl (numB s.data.toList)))]) ∧ Below W.heap.size W w' := by
  have hz := zero26
  obtain ⟨n1, n2⟩ := kne_text s h0
  have hb2 : ((s[0].toNat : Int) == 0) = false := by rw [beq_eq_false_iff_ne]; omega
  have HO := Hid.mk (of_in s (by omega))
  have ho : ofR s.data.toList = .returned (.tuple #[.agg (natL (numB s.data.toList)).toArray, .int .i64 0]) := by
    unfold ofR
    rw [strip_stop _ (by rw [size_list]; omega) (by rw [head_at s h0]; exact hb), if_pos (by rw [size_list]; omega)]
  rw [ho] at HO
  have hlim := knum_lim s.data.toList (by rw [size_list]; exact hl)
  clear ho hb hl
  generalize numB s.data.toList = N at HO hlim ⊢
  have HB := Hid.mk (bits_in N hlim)
  have h4 := btl_le N hlim
  obtain ⟨q, hq⟩ : ∃ q, btl N = q := ⟨_, rfl⟩
  rw [hq] at HB h4 ⊢
  clear hq
  have hq0 : (0 : Int) ≤ (q : Int) := by omega
  by_cases c1 : q < least
  · rw [if_pos (.inl c1), show (!decide (q < least ∨ 2048 < q)) = false by simp [c1]]
    have t1 : ((q : Int) < (least : Int)) := by omega
    go_enter Tryz.func41, Tryz.ntmps41
    go_wp2_with fail
    refine (HO.out _).mono ?_
    rintro e w1 ⟨rfl, hb1⟩
    have x1 := (hb1.block _ (by simp)).trans (heap_new W (.cells (natL 0).toArray 43))
    have HB1 := Hid.mk (((Below.refl W.heap.size W).alloc (Nat.le_refl _) (.cells (natL 0).toArray 43)).trans (hb1.mono (by simp)))
    have X1 := Hid.mk x1
    have l6 := natLoad_run (heap_new w1 (.cells (natL N).toArray 43))
    clear hb1 x1
    go_wp2_with fail
    refine (HB.out _).mono ?_
    rintro e w2 ⟨rfl, hb2⟩
    have x2 := (hb2.block _ (by simp; have := box_lt X1.out; omega)).trans ((heap_alloc_old w1 (.cells (natL N).toArray 43) (box_lt X1.out)).trans X1.out)
    have HB2 := Hid.mk ((HB1.out.alloc HB1.out.size (.cells (natL N).toArray 43)).trans (hb2.mono (by simp; have := HB1.out.size; omega)))
    have s2 := natStore_run (N := 0) x2
    have r2 := setRow_heap _ _ _ (natL 0).toArray _ _ x2
    have hB2 := below_row HB2.out (Nat.le_refl W.heap.size) (natL 0).toArray
    clear hb2 x2 l6
    go_wp2
    exact bodyPost_ret (results_nat_tmp Tryz.results41 rfl rfl r2 (natL_len 0)) rfl ⟨rfl, hB2⟩
  · have t1 : ¬ ((q : Int) < (least : Int)) := by omega
    by_cases c2 : 2048 < q
    · rw [if_pos (.inr c2), show (!decide (q < least ∨ 2048 < q)) = false by simp [c2]]
      have t2 : (2048 : Int) < (q : Int) := by omega
      go_enter Tryz.func41, Tryz.ntmps41
      go_wp2_with fail
      refine (HO.out _).mono ?_
      rintro e w1 ⟨rfl, hb1⟩
      have x1 := (hb1.block _ (by simp)).trans (heap_new W (.cells (natL 0).toArray 43))
      have HB1 := Hid.mk (((Below.refl W.heap.size W).alloc (Nat.le_refl _) (.cells (natL 0).toArray 43)).trans (hb1.mono (by simp)))
      have X1 := Hid.mk x1
      have y1 := heap_new w1 (.cells (natL N).toArray 43)
      have l6 := natLoad_run y1
      have Y1 := Hid.mk y1
      clear hb1 x1 y1
      go_wp2_with fail
      refine (HB.out _).mono ?_
      rintro e w2 ⟨rfl, hb2⟩
      have x2 := (hb2.block _ (by simp; have := box_lt X1.out; omega)).trans ((heap_alloc_old w1 (.cells (natL N).toArray 43) (box_lt X1.out)).trans X1.out)
      have y2 := (hb2.block _ (by simp)).trans Y1.out
      have HB2 := Hid.mk ((HB1.out.alloc HB1.out.size (.cells (natL N).toArray 43)).trans (hb2.mono (by simp; have := HB1.out.size; omega)))
      have X2 := Hid.mk x2
      have Y2 := Hid.mk y2
      have l7 := natLoad_run y2
      clear hb2 x2 y2 l6
      go_wp2_with fail
      refine (HB.out _).mono ?_
      rintro e w3 ⟨rfl, hb3⟩
      have x3 := (hb3.block _ (box_lt X2.out)).trans X2.out
      have y3 := (hb3.block _ (box_lt Y2.out)).trans Y2.out
      have HB3 := Hid.mk (bthen HB2.out hb3)
      have l8 := natLoad_run y3
      have s3 := natStore_run (N := 0) x3
      have r3 := setRow_heap _ _ _ (natL 0).toArray _ _ x3
      have hB3 := below_row HB3.out (Nat.le_refl W.heap.size) (natL 0).toArray
      clear hb3 x3 y3 l7
      go_wp2
      exact bodyPost_ret (results_nat_tmp Tryz.results41 rfl rfl r3 (natL_len 0)) rfl ⟨rfl, hB3⟩
    · rw [if_neg (by omega), show (!decide (q < least ∨ 2048 < q)) = true by simp [c1, c2]]
      have t2 : ¬ ((2048 : Int) < (q : Int)) := by omega
      go_enter Tryz.func41, Tryz.ntmps41
      go_wp2_with fail
      refine (HO.out _).mono ?_
      rintro e w1 ⟨rfl, hb1⟩
      have x1 := (hb1.block _ (by simp)).trans (heap_new W (.cells (natL 0).toArray 43))
      have HB1 := Hid.mk (((Below.refl W.heap.size W).alloc (Nat.le_refl _) (.cells (natL 0).toArray 43)).trans (hb1.mono (by simp)))
      have X1 := Hid.mk x1
      have y1 := heap_new w1 (.cells (natL N).toArray 43)
      have l6 := natLoad_run y1
      have Y1 := Hid.mk y1
      clear hb1 x1 y1
      go_wp2_with fail
      refine (HB.out _).mono ?_
      rintro e w2 ⟨rfl, hb2⟩
      have x2 := (hb2.block _ (by simp; have := box_lt X1.out; omega)).trans ((heap_alloc_old w1 (.cells (natL N).toArray 43) (box_lt X1.out)).trans X1.out)
      have y2 := (hb2.block _ (by simp)).trans Y1.out
      have HB2 := Hid.mk ((HB1.out.alloc HB1.out.size (.cells (natL N).toArray 43)).trans (hb2.mono (by simp; have := HB1.out.size; omega)))
      have X2 := Hid.mk x2
      have Y2 := Hid.mk y2
      have l7 := natLoad_run y2
      clear hb2 x2 y2 l6
      go_wp2_with fail
      refine (HB.out _).mono ?_
      rintro e w3 ⟨rfl, hb3⟩
      have x3 := (hb3.block _ (box_lt X2.out)).trans X2.out
      have y3 := (hb3.block _ (box_lt Y2.out)).trans Y2.out
      have HB3 := Hid.mk (bthen HB2.out hb3)
      have l8 := natLoad_run y3
      have s3 := natStore_run (N := N) x3
      have r3 := setRow_heap _ _ _ (natL N).toArray _ _ x3
      have hB3 := below_row HB3.out (Nat.le_refl W.heap.size) (natL N).toArray
      clear hb3 x3 y3 l7
      go_wp2
      exact bodyPost_ret (results_nat_tmp Tryz.results41 rfl rfl r3 (natL_len N)) rfl ⟨rfl, hB3⟩
/-- numberOf of any part. -/
theorem numberOf_in (s : ByteArray) (hs : s.size ≤ 140737488355328) (least : Nat) (hle : least ≤ 2048) (W : World) : Calls Tryz.prog 41 #[.string s, .int .i64 (least : Int)] W fun e w' => e = .returned (.tuple #[.agg (natL (nkR s.data.toList least).1).toArray, .bool (nkR s.data.toList least).2]) ∧ Below W.heap.size W w' := by
  unfold nkR
  by_cases h0 : 0 < s.size
  · have hh := head_at s h0
    by_cases hb : s[0].toNat = 0
    · have hb' : s.data.toList[0]?.getD 0 = 0 := by rw [hh]; exact UInt8.toNat_inj.1 hb
      rw [if_pos (.inr (.inl hb'))]
      exact numberOf_zero s h0 hb _ W
    · have hb' : ¬ s.data.toList[0]?.getD 0 = 0 := by rw [hh]; exact fun h => hb (by rw [h]; rfl)
      by_cases hl : 512 < s.size
      · rw [if_pos (.inr (.inr (.inl (by rw [size_list]; exact hl))))]
        exact numberOf_long s h0 hb hs hl _ W
      · have := numberOf_go s h0 hb (by omega) least hle W
        by_cases c : btl (numB s.data.toList) < least ∨ 2048 < btl (numB s.data.toList)
        · rw [if_pos (.inr (.inr (.inr c)))]
          rwa [if_pos c, decide_eq_true c] at this
        · rw [if_neg (by rw [size_list]; rintro (h | h | h | h); · omega
                         · exact hb' h
                         · omega
                         · exact c h)]
          rwa [if_neg c, decide_eq_false c] at this
  · obtain rfl : s = ⟨#[]⟩ := by
      apply ba_ext
      have : s.data.toList.length = 0 := by rw [size_list]; omega
      rw [List.length_eq_zero_iff.1 this]
    rw [if_pos (.inl rfl)]
    exact numberOf_empty _ W
/-- a row cut behind so many bytes. -/
def cutB (r : ByteArray) (m : Nat) : ByteArray × ByteArray := if m ≤ r.size then (r.extract 0 m, r.extract m r.size) else (⟨#[]⟩, ⟨#[]⟩)
/-- what split answers. -/
def splB (s : ByteArray) : ByteArray × ByteArray :=
  if h0 : 0 < s.size then (if h : s[0].toNat = 0 ∧ 3 ≤ s.size then cutB ((s.extract 1 s.size).extract 2 (s.size - 1)) (s[1].toNat * 256 + s[2].toNat) else cutB (s.extract 1 s.size) s[0].toNat) else (⟨#[]⟩, ⟨#[]⟩)
theorem idx_at (s : ByteArray) (k : Nat) (h : k < s.size) (w : World) : (Instr.index 9 (.string s) (.int .i64 (k : Int))).run Tryz.prog w = .ok (.int .u8 (s[k].toNat : Int)) w := by
  have h1 : ¬ ((s.size : Int) ≤ (k : Int)) := by omega
  simp [go_sem, h]
theorem kdrew_add (w : World) (n m : Nat) : (w.drewN n).drewN m = w.drewN (n + m) := by simp [World.drewN, Nat.add_assoc]
theorem bvalN {n a : Nat} (h : a < 2 ^ n) : (BitVec.ofNat n a).toNat = a := by rw [BitVec.toNat_ofNat, Nat.mod_eq_of_lt h]
set_option maxRecDepth 100000 in
theorem split_short (s : ByteArray) (h0 : 0 < s.size) (hs : s.size ≤ 140737488355328) (h : ¬ (s[0].toNat = 0 ∧ 3 ≤ s.size)) (W : World) : Calls Tryz.prog 40 #[.string s] W fun e w' => e = .returned (.tuple #[.string (cutB (s.extract 1 s.size) s[0].toNat).1, .string (cutB (s.extract 1 s.size) s[0].toNat).2]) ∧ ∃ j, w' = W.drewN j := by
  obtain ⟨n1, n2⟩ := kne_text s h0
  have i0 : ∀ w, (Instr.index 9 (.string s) (.int .i64 0)).run Tryz.prog w = .ok (.int .u8 (s[0].toNat : Int)) w := idx_at s 0 h0
  have hsz : (s.extract 1 s.size).size = s.size - 1 := by rw [ByteArray.size_extract]; omega
  have hb := s[0].toNat_lt
  generalize hr : s.extract 1 s.size = r at hsz
  generalize s[0].toNat = m at i0 hb h ⊢
  unfold cutB
  by_cases hc : m ≤ r.size
  · rw [if_pos hc]
    have g1 : ¬ ((r.size : Int) < (m : Int)) := by omega
    have g2 : (0 : Int) ≤ (m : Int) := by omega
    have g3 : (m : Int) ≤ (r.size : Int) := by omega
    by_cases hm : m = 0
    · have t1 : ((m : Int) == 0) = true := by rw [hm]; rfl
      have t2 : ¬ ((2 : Int) ≤ (r.size : Int)) := by omega
      clear h hsz hm
      go_enter Tryz.func40, Tryz.ntmps40
      go_wp2
      go_quiet (fail)
      go_wp2
      go_quiet (fail)
      go_wp2
      exact bodyPost_ret (v := .tuple #[.string (r.extract 0 m), .string (r.extract m r.size)]) (by simp [results, Tryz.results40, go_sem]) rfl ⟨rfl, _, by first | rfl | exact kdrew_add _ _ _ | (rw [kdrew_add]; exact kdrew_add _ _ _)⟩
    · have t2 : ((m : Int) == 0) = false := by rw [beq_eq_false_iff_ne]; omega
      clear h hsz
      go_enter Tryz.func40, Tryz.ntmps40
      go_wp2
      go_quiet (fail)
      go_wp2
      go_quiet (fail)
      go_wp2
      exact bodyPost_ret (v := .tuple #[.string (r.extract 0 m), .string (r.extract m r.size)]) (by simp [results, Tryz.results40, go_sem]) rfl ⟨rfl, _, by first | rfl | exact kdrew_add _ _ _ | (rw [kdrew_add]; exact kdrew_add _ _ _)⟩
  · rw [if_neg hc]
    have g1 : (r.size : Int) < (m : Int) := by omega
    have t2 : ((m : Int) == 0) = false := by rw [beq_eq_false_iff_ne]; omega
    clear h hsz
    go_enter Tryz.func40, Tryz.ntmps40
    go_wp2
    go_quiet (fail)
    go_wp2
    exact bodyPost_ret (v := .tuple #[.string ⟨#[]⟩, .string ⟨#[]⟩]) (by simp [results, Tryz.results40, go_sem]) rfl ⟨rfl, _, by first | rfl | exact kdrew_add _ _ _ | (rw [kdrew_add]; exact kdrew_add _ _ _)⟩
theorem kbits_or (a b : Nat) (ha : a < 9223372036854775808) (hb : b < 9223372036854775808) : bits BinOp.or IntKind.i64 (a : Int) (b : Int) = ((a ||| b : Nat) : Int) := by
  have hx : a ||| b < 2 ^ 63 := Nat.or_lt_two_pow (by omega) (by omega)
  have h1 : (BitVec.ofInt 64 (a : Int)).toNat = a := by
    rw [BitVec.ofInt_natCast, BitVec.toNat_ofNat]; exact Nat.mod_eq_of_lt (by omega)
  have h2 : (BitVec.ofInt 64 (b : Int)).toNat = b := by
    rw [BitVec.ofInt_natCast, BitVec.toNat_ofNat]; exact Nat.mod_eq_of_lt (by omega)
  show IntKind.i64.wrap ((BitVec.ofInt 64 (a : Int) ||| BitVec.ofInt 64 (b : Int)).toNat : Int) = _
  rw [BitVec.toNat_or, h1, h2, IntKind.wrap_i64]
  omega
theorem kor_low (n b : Nat) (hn : n < 36028797018963968) (hb : b < 256) : bits BinOp.or IntKind.i64 ((n : Int) * 256) (b : Int) = ((n * 256 + b : Nat) : Int) := by
  have e : ((n : Int) * 256) = ((n * 256 : Nat) : Int) := by omega
  rw [e, kbits_or _ _ (by omega) (by omega)]
  congr 1
  have := Nat.two_pow_add_eq_or_of_lt (i := 8) (b := b) (by omega) n
  rw [show n * 256 = 2 ^ 8 * n by omega, ← this]
theorem ext_at (s : ByteArray) (a k : Nat) (h : a + k < s.size) : (s.extract a s.size)[k]'(by rw [ByteArray.size_extract]; omega) = s[a + k] := by
  have e : (s.extract a s.size).data.toList = s.data.toList.drop a := by
    rw [ByteArray.data_extract, Array.toList_extract, List.extract_eq_take_drop]
    rw [List.take_of_length_le (by rw [List.length_drop, size_list]; omega)]
  have h1 : k < (s.extract a s.size).data.toList.length := by rw [size_list, ByteArray.size_extract]; omega
  show (s.extract a s.size).data.toList[k] = s.data.toList[a + k]
  simp only [e, List.getElem_drop]
set_option maxRecDepth 100000 in
theorem split_long (s : ByteArray) (h3 : 3 ≤ s.size) (hs : s.size ≤ 140737488355328) (hz : s[0].toNat = 0) (W : World) : Calls Tryz.prog 40 #[.string s] W fun e w' => e = .returned (.tuple #[.string (cutB ((s.extract 1 s.size).extract 2 (s.size - 1)) (s[1].toNat * 256 + s[2].toNat)).1, .string (cutB ((s.extract 1 s.size).extract 2 (s.size - 1)) (s[1].toNat * 256 + s[2].toNat)).2]) ∧ ∃ j, w' = W.drewN j := by
  obtain ⟨n1, n2⟩ := kne_text s (by omega)
  have i0 : ∀ w, (Instr.index 9 (.string s) (.int .i64 0)).run Tryz.prog w = .ok (.int .u8 0) w := fun w => by
    have := idx_at s 0 (by omega) w
    rw [hz] at this
    exact this
  have hsz : (s.extract 1 s.size).size = s.size - 1 := by rw [ByteArray.size_extract]; omega
  have j0 : ∀ w, (Instr.index 9 (.string (s.extract 1 s.size)) (.int .i64 0)).run Tryz.prog w = .ok (.int .u8 (s[1].toNat : Int)) w := fun w => by
    have := idx_at (s.extract 1 s.size) 0 (by omega) w
    rw [ext_at s 1 0 (by omega)] at this
    exact this
  have j1 : ∀ w, (Instr.index 9 (.string (s.extract 1 s.size)) (.int .i64 1)).run Tryz.prog w = .ok (.int .u8 (s[2].toNat : Int)) w := fun w => by
    have := idx_at (s.extract 1 s.size) 1 (by omega) w
    rw [ext_at s 1 1 (by omega)] at this
    exact this
  have ha := s[1].toNat_lt
  have hb := s[2].toNat_lt
  generalize s[1].toNat = a at j0 ha ⊢
  generalize s[2].toNat = b at j1 hb ⊢
  rw [← hsz]
  generalize hr : s.extract 1 s.size = r at hsz j0 j1 ⊢
  have h2z : (r.extract 2 r.size).size = r.size - 2 := by rw [ByteArray.size_extract]; omega
  generalize hr2 : r.extract 2 r.size = r2 at h2z ⊢
  have hor := kor_low a b (by omega) hb
  have w1 : IntKind.i64.wrap ((a : Int) * 256) = (a : Int) * 256 := by rw [IntKind.wrap_i64]; omega
  have wa : IntKind.i64.wrap (a : Int) = (a : Int) := by rw [IntKind.wrap_i64]; omega
  have wb : IntKind.i64.wrap (b : Int) = (b : Int) := by rw [IntKind.wrap_i64]; omega
  obtain ⟨m, hm⟩ : ∃ m, a * 256 + b = m := ⟨_, rfl⟩
  rw [hm] at hor ⊢
  have t2 : (2 : Int) ≤ (r.size : Int) := by omega
  have hmb : m < 65536 := by omega
  unfold cutB
  by_cases hc : m ≤ r2.size
  · rw [if_pos hc]
    have g1 : ¬ ((r2.size : Int) < (m : Int)) := by omega
    have g2 : (0 : Int) ≤ (m : Int) := by omega
    have g3 : (m : Int) ≤ (r2.size : Int) := by omega
    clear hsz h2z hm ha hb
    go_enter Tryz.func40, Tryz.ntmps40
    go_wp2
    go_quiet (fail)
    go_wp2
    go_quiet (fail)
    go_wp2
    go_quiet (fail)
    go_wp2
    exact bodyPost_ret (v := .tuple #[.string (r2.extract 0 m), .string (r2.extract m r2.size)]) (by simp [results, Tryz.results40, go_sem]) rfl ⟨rfl, _, by first | rfl | exact kdrew_add _ _ _ | (rw [kdrew_add]; exact kdrew_add _ _ _)⟩
  · rw [if_neg hc]
    have g1 : (r2.size : Int) < (m : Int) := by omega
    clear hsz h2z hm ha hb
    go_enter Tryz.func40, Tryz.ntmps40
    go_wp2
    go_quiet (fail)
    go_wp2
    go_quiet (fail)
    go_wp2
    exact bodyPost_ret (v := .tuple #[.string ⟨#[]⟩, .string ⟨#[]⟩]) (by simp [results, Tryz.results40, go_sem]) rfl ⟨rfl, _, by first | rfl | exact kdrew_add _ _ _ | (rw [kdrew_add]; exact kdrew_add _ _ _)⟩
theorem split_empty (W : World) : Calls Tryz.prog 40 #[.string ⟨#[]⟩] W fun e w' => e = .returned (.tuple #[.string ⟨#[]⟩, .string ⟨#[]⟩]) ∧ ∃ j, w' = W.drewN j := by
  go_enter Tryz.func40, Tryz.ntmps40
  go_wp2
  exact bodyPost_ret (v := .tuple #[.string ⟨#[]⟩, .string ⟨#[]⟩]) (by simp [results, Tryz.results40, go_sem]) rfl ⟨rfl, 0, rfl⟩
theorem ksplit_in (s : ByteArray) (hs : s.size ≤ 140737488355328) (W : World) : Calls Tryz.prog 40 #[.string s] W fun e w' => e = .returned (.tuple #[.string (splB s).1, .string (splB s).2]) ∧ ∃ j, w' = W.drewN j := by
  unfold splB
  by_cases h0 : 0 < s.size
  · rw [dif_pos h0]
    by_cases h : s[0].toNat = 0 ∧ 3 ≤ s.size
    · rw [dif_pos h]
      exact split_long s h.2 hs h.1 W
    · rw [dif_neg h]
      exact split_short s h0 hs h W
  · rw [dif_neg h0]
    obtain rfl : s = ⟨#[]⟩ := by
      apply ba_ext
      have : s.data.toList.length = 0 := by rw [size_list]; omega
      rw [List.length_eq_zero_iff.1 this]
    exact split_empty W
/-- the exponent and the modulus, if both are right. -/
noncomputable def rsaR (s : ByteArray) : Option (Nat × Nat) := if (nkR (splB s).1.data.toList 1).2 = true ∧ (nkR (splB s).2.data.toList 496).2 = true then some ((nkR (splB s).1.data.toList 1).1, (nkR (splB s).2.data.toList 496).1) else none
set_option maxRecDepth 100000 in
set_option maxHeartbeats 1000000 in
theorem rsa_gen (s a b : ByteArray) (A B : Nat) (x y : Bool) (HS : Hid (∀ W, Calls Tryz.prog 40 #[.string s] W fun e w' => e = .returned (.tuple #[.string a, .string b]) ∧ ∃ j, w' = W.drewN j))
    (HA : Hid (∀ W, Calls Tryz.prog 41 #[.string a, .int .i64 1] W fun e w' => e = .returned (.tuple #[.agg (natL A).toArray, .bool x]) ∧ Below W.heap.size W w'))
    (HB : Hid (∀ W, Calls Tryz.prog 41 #[.string b, .int .i64 496] W fun e w' => e = .returned (.tuple #[.agg (natL B).toArray, .bool y]) ∧ Below W.heap.size W w')) (W : World) :
    Calls Tryz.prog 18 #[.string s] W fun e w' => e = .returned (.tuple #[.agg (natL (if x && y then A else 0)).toArray, .agg (natL (if x && y then B else 0)).toArray, .int .i64 (if x && y then 0 else 8)]) ∧ Below W.heap.size W w' := by
  have hz := zero26
  obtain ⟨V, hV, b0, b1, hBl, hsz⟩ : ∃ V, (W.alloc (.cells (natL 0).toArray 43)).alloc (.cells (natL 0).toArray 43) = V ∧ V.heap[W.heap.size]? = some (.cells (natL 0).toArray 43 (0, 0)) ∧ V.heap[W.heap.size + 1]? = some (.cells (natL 0).toArray 43 (0, 0)) ∧ Below W.heap.size W V ∧ V.heap.size = W.heap.size + 2 :=
    ⟨_, rfl, (two_new W _ _ _ _).1, (two_new W _ _ _ _).2.1, ((Below.refl _ _).alloc (Nat.le_refl _) _).alloc (by simp) _, by simp⟩
  go_enter Tryz.func18, Tryz.ntmps18
  go_wp2_with fail
  refine (HS.out _).mono ?_
  rintro e w0 ⟨rfl, j, rfl⟩
  go_wp2_with fail
  refine (HA.out _).mono ?_
  rintro e w1 ⟨rfl, hb1⟩
  have c0 := (hb1.block _ (by show W.heap.size < V.heap.size; omega)).trans b0
  have c1 := (hb1.block _ (by show W.heap.size + 1 < V.heap.size; omega)).trans b1
  have B1 := Hid.mk (bthen (bthen hBl (below_dn V j)) hb1)
  have s1 := natStore_run (N := A) c0
  have d0 := setRow_heap _ _ _ (natL A).toArray _ _ c0
  have d1 := (setRow_other w1 W.heap.size (W.heap.size + 1) (natL A).toArray (by omega)).trans c1
  have B2 := Hid.mk (below_row B1.out (Nat.le_refl W.heap.size) (natL A).toArray)
  have D0 := Hid.mk d0
  have D1 := Hid.mk d1
  clear b0 b1 hBl hb1 c0 c1 d0 d1 hV hsz
  go_wp2_with fail
  refine (HB.out _).mono ?_
  rintro e w2 ⟨rfl, hb2⟩
  have e0 := (hb2.block _ (box_lt D0.out)).trans D0.out
  have e1 := (hb2.block _ (box_lt D1.out)).trans D1.out
  have B3 := Hid.mk (bthen B2.out hb2)
  have s2 := natStore_run (N := B) e1
  have g1 := setRow_heap _ _ _ (natL B).toArray _ _ e1
  have g0 := (setRow_other w2 (W.heap.size + 1) W.heap.size (natL B).toArray (by omega)).trans e0
  have B4 := Hid.mk (below_row B3.out (show W.heap.size ≤ W.heap.size + 1 by omega) (natL B).toArray)
  clear s1 e0 e1 hb2
  generalize hU : w2.setRow (W.heap.size + 1) (natL B).toArray = U at s2 g0 g1 B4
  clear hU
  have q0 := natStore_run (N := 0) g0
  have r0 := setRow_heap _ _ _ (natL 0).toArray _ _ g0
  have r1 := (setRow_other U W.heap.size (W.heap.size + 1) (natL 0).toArray (by omega)).trans g1
  have q1 := natStore_run (N := 0) r1
  have t1 := setRow_heap _ _ _ (natL 0).toArray _ _ r1
  have t0 := (setRow_other (U.setRow W.heap.size (natL 0).toArray) (W.heap.size + 1) W.heap.size (natL 0).toArray (by omega)).trans r0
  have BZ := Hid.mk (below_row (below_row B4.out (Nat.le_refl W.heap.size) (natL 0).toArray) (show W.heap.size ≤ W.heap.size + 1 by omega) (natL 0).toArray)
  have T0 := Hid.mk t0
  have T1 := Hid.mk t1
  clear r0 r1 t0 t1
  cases x with
  | false =>
    clear g0 g1
    go_wp2
    exact bodyPost_ret (results_nat3 Tryz.results18 rfl rfl rfl T0.out T1.out (natL_len 0) (natL_len 0)) rfl ⟨rfl, BZ.out⟩
  | true =>
    cases y with
    | false =>
      clear g0 g1
      go_wp2
      exact bodyPost_ret (results_nat3 Tryz.results18 rfl rfl rfl T0.out T1.out (natL_len 0) (natL_len 0)) rfl ⟨rfl, BZ.out⟩
    | true =>
      obtain ⟨x1, x2, x3, x4, x5, x6, x7, x8⟩ := swap_f g0 g1 g0 g1 (by omega) (by omega)
      have X6 := Hid.mk x6
      have X7 := Hid.mk x7
      have BX := Hid.mk (below_row (below_row B4.out.drew (Nat.le_refl W.heap.size) (natL A).toArray) (show W.heap.size ≤ W.heap.size + 1 by omega) (natL B).toArray)
      clear g0 g1 q0 q1 x6 x7 x8
      go_wp2
      go_region
      go_wp2
      exact bodyPost_ret (results_nat3 Tryz.results18 rfl rfl rfl X6.out X7.out (natL_len A) (natL_len B)) rfl ⟨rfl, BX.out⟩
theorem krsa_in (s : ByteArray) (hs : s.size ≤ 140737488355328) (W : World) : Calls Tryz.prog 18 #[.string s] W fun e w' => e = .returned (.tuple #[.agg (natL ((rsaR s).getD (0, 0)).1).toArray, .agg (natL ((rsaR s).getD (0, 0)).2).toArray, .int .i64 (if (rsaR s).isSome then 0 else 8)]) ∧ Below W.heap.size W w' := by
  have h1 : (splB s).1.size ≤ s.size ∧ (splB s).2.size ≤ s.size := by
    unfold splB cutB
    repeat' split
    all_goals
      simp only [ByteArray.size_extract]
      try (have : (⟨#[]⟩ : ByteArray).size = 0 := rfl)
      omega
  have := rsa_gen s _ _ _ _ _ _ (Hid.mk (ksplit_in s hs)) (Hid.mk (numberOf_in (splB s).1 (by omega) 1 (by omega))) (Hid.mk (numberOf_in (splB s).2 (by omega) 496 (by omega))) W
  unfold rsaR
  by_cases h : (nkR (splB s).1.data.toList 1).2 = true ∧ (nkR (splB s).2.data.toList 496).2 = true
  · rw [if_pos h]
    rw [h.1, h.2] at this
    exact this
  · rw [if_neg h]
    have hn : ((nkR (splB s).1.data.toList 1).2 && (nkR (splB s).2.data.toList 496).2) = false := by
      rw [Bool.eq_false_iff]; intro hc; exact h (by simpa using hc)
    rw [hn] at this
    exact this
end Go.Proofs.YtlcjagkfeakinaaGreatDoor.N

/- The chapter's examples. -/
namespace Go.Proofs.YtlcjagkfeakinaaGreatDoor
set_option linter.unusedVariables false
open Go.RowKit
open G (cells_at cells_put)
attribute [local go_sem ↓] N.loadAt_nat N.storeAt_nat N.build_nat N.build_nat'
attribute [local go_sem] N.st1 N.st2a N.st2b N.natBuild_run

abbrev exO : ByteArray := ⟨#[0]⟩
abbrev exD : ByteArray := ⟨#[1, 0, 3, 8, 1, 2]⟩
theorem exO_name : IsName exO := ⟨[], ⟨fun l h => by simp at h, by simp [flat]⟩, rfl⟩
theorem ex_dig : ∃ D : ByteArray, D.size = 32 ∧ digR 2 exO exD = (D, 0) := by
  refine ⟨hshd 2 (exO.data.toList.map lowB ++ exD.data.toList), ?_, ?_⟩
  · unfold hshd
    rw [if_neg (by omega)]
    exact G.sha2_len _
  · unfold digR
    rw [if_neg (not_not_intro (.inr rfl)), if_neg (not_not_intro exO_name), if_neg (not_not_intro (by decide))]
theorem ex_ds3 : dsR 3 exO exD = ((0, 0, 0, ⟨#[]⟩), 1) := by
  have e : digR 3 exO exD = (⟨#[]⟩, 1) := by
    unfold digR
    rw [if_pos (by omega)]
  unfold dsR
  rw [e]
  rfl
theorem ex_tag : tagN [1, 0, 3, 8, 1] = 1288 := by decide
theorem ex_rsa : N.rsaR ⟨#[1, 3, 255]⟩ = none := by
  unfold N.rsaR
  have e : (N.splB ⟨#[1, 3, 255]⟩).2.data.toList = [255] := by decide
  have f : (N.nkR [255] 496).2 = false := by
    unfold N.nkR
    rw [if_pos (.inr (.inr (.inr (.inl (by decide)))))]
  rw [e, f, if_neg (by simp)]
set_option maxRecDepth 100000 in
set_option maxHeartbeats 1000000 in
theorem kexamples_in (W : World) (hG : G.Rk W) : Calls Tryz.prog 9 #[] W fun e w' => e = .returned (.bool true) ∧ Below W.heap.size W w' := by
  have hz := N.zero26
  have HT := Hid.mk (tag_ok ⟨#[1, 0, 3, 8, 1]⟩ (by decide) (by decide))
  rw [show (⟨#[1, 0, 3, 8, 1]⟩ : ByteArray).data.toList = [1, 0, 3, 8, 1] from rfl, ex_tag] at HT
  have HO3 := Hid.mk (fun W hG => of_in 3 exO exD (by decide) (by decide) W hG)
  rw [ex_ds3] at HO3
  have HR := Hid.mk (N.krsa_in ⟨#[1, 3, 255]⟩ (by decide))
  rw [ex_rsa] at HR
  obtain ⟨D, hD, hdg⟩ := ex_dig
  have hds : dsR 2 exO exD = ((((tagN exD.data.toList : Nat) : Int), ((K48.algN exD : Nat) : Int), 2, D), 0) := by unfold dsR; rw [hdg]; rfl
  have HO2 := Hid.mk (fun W hG => of_in 2 exO exD (by decide) (by decide) W hG)
  have HF := Hid.mk (fun W hG => fits_in ((tagN exD.data.toList : Nat) : Int) ((K48.algN exD : Nat) : Int) 2 exO exD D (by decide) (by decide) W hG)
  rw [hds] at HO2 HF
  simp only [and_self, decide_true] at HF
  clear hds hdg
  generalize tagN exD.data.toList = t at HO2 HF
  generalize K48.algN exD = a at HO2 HF
  have G0 := Hid.mk hG
  have B0 := Hid.mk (Below.refl W.heap.size W)
  clear hG
  go_enter Tryz.func9, Tryz.ntmps9
  go_wp2_with fail
  refine (HT.out _).mono ?_
  rintro e w1 ⟨rfl, hb1⟩
  have B1 := Hid.mk hb1
  clear hb1
  go_wp2_with fail
  refine (HO3.out _ (G0.out.below B1.out)).mono ?_
  rintro e w2 ⟨rfl, hb2⟩
  have B2 := Hid.mk (bth B1.out hb2 B1.out.size)
  clear hb2
  go_wp2_with fail
  refine (HR.out _).mono ?_
  rintro e w3 ⟨rfl, hb3⟩
  have B3 := Hid.mk (bth (B2.out.alloc B2.out.size _) hb3 (B2.out.alloc B2.out.size _).size)
  clear hb3
  go_wp2_with fail
  have hA := (B3.out.alloc B3.out.size (.cells (N.natL 0).toArray 43)).alloc (Nat.le_trans B3.out.size (by simp)) (.cells (N.natL 0).toArray 43)
  refine (HO2.out _ (G0.out.below hA)).mono ?_
  rintro e w4 ⟨rfl, hb4⟩
  have B4 := Hid.mk (bth hA hb4 hA.size)
  clear hA hb4
  go_wp2_with fail
  have hA := B4.out.alloc B4.out.size (.cells (dsV t a 2 D) 23)
  refine (HF.out _ (G0.out.below hA)).mono ?_
  rintro e w5 ⟨rfl, hb5⟩
  have B5 := Hid.mk (bth hA hb5 hA.size)
  clear hA hb5
  go_wp2
  go_ret
  exact ⟨rfl, B5.out⟩
end Go.Proofs.YtlcjagkfeakinaaGreatDoor
