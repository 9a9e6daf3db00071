/- Wide. -/
import Derived.Test.YthjhemodmdficaaDoorNLd
namespace Go.Proofs.YthjhemodmdficaaDoor
set_option linter.unusedVariables false
open Go.RowKit
attribute [local go_sem ↓] loadAt_nat storeAt_nat build_nat build_nat'
attribute [local go_sem] st1 st2a st2b natBuild_run
theorem btl_lt (N : Nat) : N < 2 ^ btl N := by
  unfold btl
  split
  · rename_i h; rw [h]; exact Nat.two_pow_pos _
  · exact Nat.lt_log2_self
theorem nbl_lt (N : Nat) : N < 256 ^ nbl N := by
  have h1 := btl_lt N
  have h2 : 2 ^ btl N ≤ 2 ^ (8 * nbl N) := Nat.pow_le_pow_right (by omega) (by unfold nbl; omega)
  rw [Nat.pow_mul, show 2 ^ 8 = 256 from rfl] at h2
  omega
theorem nbl_le_iff (N k : Nat) : nbl N ≤ k ↔ N < 256 ^ k := by
  constructor
  · intro h
    exact Nat.lt_of_lt_of_le (nbl_lt N) (Nat.pow_le_pow_right (by omega) h)
  · intro h
    rw [show 256 = 2 ^ 8 from rfl, ← Nat.pow_mul] at h
    by_cases h0 : N = 0
    · unfold nbl btl; rw [if_pos h0]; omega
    · have := (Nat.log2_lt h0).2 h
      unfold nbl btl; rw [if_neg h0]; omega
theorem bys_wide (N k : Nat) (h : nbl N ≤ k) : List.replicate (k - nbl N) 0 ++ bys N (nbl N) = bys N k := by
  apply List.ext_getElem
  · rw [List.length_append, List.length_replicate, bys_len, bys_len]; omega
  · intro j h1 h2
    rw [bys_len] at h2
    simp only [bys, List.getElem_append, List.length_replicate, List.getElem_replicate, List.getElem_map, List.getElem_range]
    by_cases hj : j < k - nbl N
    · rw [dif_pos hj]
      have h3 := nbl_lt N
      have h4 : 256 ^ nbl N ≤ 256 ^ (k - 1 - j) := Nat.pow_le_pow_right (by omega) (by omega)
      rw [Nat.div_eq_of_lt (by omega)]
      rfl
    · rw [dif_neg hj, show nbl N - 1 - (j - (k - nbl N)) = k - 1 - j by omega]
set_option maxRecDepth 100000 in
set_option maxHeartbeats 400000 in
theorem wide_in (N k : Nat) (hN : N < Lim) (hk : k ≤ 2147483647) (hl : nbl N ≤ k) (W : World) : Calls Tryd.prog 15 #[.agg (natL N).toArray, .int .i64 (k : Int)] W fun e w' => e = .returned (.tuple #[.string ⟨(bys N k).toArray⟩, .int .i64 0]) ∧ Below W.heap.size W w' := by
  have l0 := natLoad_run (boxed W (natL N) 27)
  have hB : Below W.heap.size W (W.alloc (.cells (natL N).toArray 27)) := (Below.refl _ _).alloc (Nat.le_refl _) _
  have HBY := Hid.mk (bytes_in N hN)
  have HR : Hid (∀ W, Calls Tryd.prog 40 #[.string ⟨#[0]⟩, .int .i64 ((k : Int) - (nbl N : Int))] W fun e w' => e = .returned (.string ⟨(List.replicate (k - nbl N) (0 : UInt8)).toArray⟩) ∧ Below W.heap.size W w') := fun W => by
    have h := Tryd.strings_Repeat ⟨#[0]⟩ (k - nbl N) W (by omega) (by show 1 * _ ≤ _; omega)
    have e : Lib.repeatL (⟨#[0]⟩ : ByteArray).data.toList (k - nbl N) = List.replicate (k - nbl N) 0 := by
      have := Lib.repeatL_replicate 0 1 (k - nbl N)
      rw [Nat.mul_one] at this
      exact this
    rw [e, show ((k - nbl N : Nat) : Int) = (k : Int) - (nbl N : Int) by omega] at h
    exact h
  have HW := Hid.mk (bys_wide N k hl)
  obtain ⟨s, hs⟩ : ∃ s : ByteArray, (⟨(bys N (nbl N)).toArray⟩ : ByteArray) = s := ⟨_, rfl⟩
  have hsz : s.size = nbl N := by rw [← hs, ba_size, bys_len]
  have HS := Hid.mk hs
  rw [hs] at HBY
  obtain ⟨z, hz⟩ : ∃ z : ByteArray, (⟨(List.replicate (k - nbl N) (0 : UInt8)).toArray⟩ : ByteArray) = z := ⟨_, rfl⟩
  have HZ := Hid.mk hz
  rw [hz] at HR
  have hk0 : (0 : Int) ≤ (k : Int) := by omega
  have hk1 : ¬ ((2147483647 : Int) < (k : Int)) := by omega
  have hk2 : (k : Int) ≤ 2147483647 := by omega
  have hlI : ¬ ((k : Int) < (nbl N : Int)) := by omega
  have hlJ : (nbl N : Int) ≤ (k : Int) := by omega
  have hn0 : (0 : Int) ≤ (nbl N : Int) := by omega
  clear hs hz
  generalize nbl N = n at *
  go_enter Tryd.func15, Tryd.ntmps15
  go_wp2_with fail
  refine (HBY.out _).mono ?_
  rintro e w1 ⟨rfl, hb1⟩
  have hb1' : Below W.heap.size W w1 := bthen hB hb1
  clear l0
  go_wp2_with fail
  refine (HR.out _).mono ?_
  rintro e w2 ⟨rfl, hb2⟩
  have hb2' : Below W.heap.size W w2 := bthen hb1' hb2
  have HE : Hid (z ++ s = ⟨(bys N k).toArray⟩) := by
    rw [Hid, ← HZ.out, ← HS.out]
    apply ba_ext
    rw [ByteArray.toList_data_append]
    exact HW.out
  have hzn : ¬ 9223372036854775807 < z.size + n := by
    have e := congrArg ByteArray.size HZ.out
    rw [ba_size, List.length_replicate] at e
    omega
  go_wp2
  go_ret2
  exact ⟨by rw [← HE.out]; rfl, hb2'⟩
set_option maxRecDepth 100000 in
set_option maxHeartbeats 400000 in
theorem wide_long (N k : Nat) (hN : N < Lim) (hk : k ≤ 2147483647) (hl : k < nbl N) (W : World) : Calls Tryd.prog 15 #[.agg (natL N).toArray, .int .i64 (k : Int)] W fun e w' => e = .returned (.tuple #[.string ⟨#[]⟩, .int .i64 3]) ∧ Below W.heap.size W w' := by
  have l0 := natLoad_run (boxed W (natL N) 27)
  have hB : Below W.heap.size W (W.alloc (.cells (natL N).toArray 27)) := (Below.refl _ _).alloc (Nat.le_refl _) _
  have HBY := Hid.mk (bytes_in N hN)
  obtain ⟨s, hs⟩ : ∃ s : ByteArray, (⟨(bys N (nbl N)).toArray⟩ : ByteArray) = s := ⟨_, rfl⟩
  have hsz : s.size = nbl N := by rw [← hs, ba_size, bys_len]
  rw [hs] at HBY
  have hk0 : (0 : Int) ≤ (k : Int) := by omega
  have hk2 : (k : Int) ≤ 2147483647 := by omega
  have hlJ : (k : Int) < (nbl N : Int) := by omega
  clear hs
  generalize nbl N = n at *
  go_enter Tryd.func15, Tryd.ntmps15
  go_wp2_with fail
  refine (HBY.out _).mono ?_
  rintro e w1 ⟨rfl, hb1⟩
  have hb1' : Below W.heap.size W w1 := bthen hB hb1
  clear l0
  go_wp2
  go_ret2
  exact ⟨rfl, hb1'⟩
set_option maxRecDepth 100000 in
set_option maxHeartbeats 400000 in
theorem wide_neg (N : Nat) (k : Int) (hN : N < Lim) (hk : k < 0) (W : World) : Calls Tryd.prog 15 #[.agg (natL N).toArray, .int .i64 k] W fun e w' => e = .returned (.tuple #[.string ⟨#[]⟩, .int .i64 1]) ∧ Below W.heap.size W w' := by
  have hB : Below W.heap.size W (W.alloc (.cells (natL N).toArray 27)) := (Below.refl _ _).alloc (Nat.le_refl _) _
  go_enter Tryd.func15, Tryd.ntmps15
  go_wp2
  go_ret2
  exact ⟨rfl, hB⟩
end Go.Proofs.YthjhemodmdficaaDoor
