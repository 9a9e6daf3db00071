/- NumberMoves: a byte 0 behind a number's bytes makes it 256 times as great. -/
import Derived.Test.YthjhemodmdficabDoorNOrd
namespace Go.Proofs.YthjhemodmdficabDoor
set_option linter.unusedVariables false
open Go.RowKit
attribute [local go_sem ↓] loadAt_nat storeAt_nat build_nat build_nat'
attribute [local go_sem] st1 st2a st2b natBuild_run
def zs (l : List UInt8) (k : Nat) : ByteArray := ⟨(l ++ List.replicate k 0).toArray⟩
theorem zs_size (l : List UInt8) (k : Nat) : (zs l k).size = l.length + k := by
  show ((l ++ List.replicate k 0).toArray).size = _
  rw [List.size_toArray, List.length_append, List.length_replicate]
theorem zs_next (l : List UInt8) (k : Nat) : zs l k ++ ⟨#[0]⟩ = zs l (k + 1) := by
  apply ba_ext
  rw [ByteArray.toList_data_append]
  show (l ++ List.replicate k 0) ++ [0] = l ++ List.replicate (k + 1) 0
  rw [List.replicate_succ', List.append_assoc]
theorem numB_app : ∀ (a b : List UInt8), numB (a ++ b) = numB a * 256 ^ b.length + numB b
  | [], b => by simp [numB]
  | x :: a, b => by
    rw [List.cons_append, numB, numB, numB_app a b, List.length_append, Nat.add_mul, Nat.pow_add, Nat.mul_assoc]
    omega
theorem numB_noughts : ∀ k, numB (List.replicate k 0) = 0
  | 0 => rfl
  | k + 1 => by rw [List.replicate_succ, numB, numB_noughts k]; simp
theorem zs_num (l : List UInt8) (k : Nat) : numB (zs l k).data.toList = numB l * 256 ^ k := by
  show numB (l ++ List.replicate k 0) = _
  rw [numB_app, numB_noughts, List.length_replicate, Nat.add_zero]
theorem numB_bys : ∀ (L N : Nat), numB (bys N L) = N % 256 ^ L
  | 0, N => by simp [bys, numB, Nat.mod_one]
  | L + 1, N => by
    rw [bys_succ, numB, numB_bys L N, bys_len, mod_succ, UInt8.toNat_ofNat']
theorem numB_told (N : Nat) : numB (bys N (nbl N)) = N := by
  rw [numB_bys, Nat.mod_eq_of_lt (nbl_lt N)]
theorem btl_pow (k : Nat) : btl (256 ^ k) = 8 * k + 1 := by
  have h : (256 : Nat) ^ k ≠ 0 := Nat.ne_of_gt (Nat.pow_pos (by omega))
  unfold btl
  rw [if_neg h, show (256 : Nat) = 2 ^ 8 from rfl, ← Nat.pow_mul, Nat.log2_two_pow]
theorem mov_many (m : Int) (h1 : -9223372036854775808 ≤ m) (h2 : m ≤ 9223372036854775807) : ∃ k : Nat, k ≤ 50 ∧ (m < 0 → (-(m + 1)).tmod 51 = (k : Int) ∧ (-(m + 1)) % 51 = (k : Int)) ∧ (0 ≤ m → m.tmod 51 = (k : Int) ∧ m % 51 = (k : Int)) := by
  by_cases h : m < 0
  · refine ⟨((-(m + 1)) % 51).toNat, by omega, fun _ => ⟨?_, by omega⟩, fun h' => absurd h (by omega)⟩
    rw [Int.tmod_eq_emod_of_nonneg (by omega)]; omega
  · refine ⟨(m % 51).toNat, by omega, fun h' => absurd h' h, fun _ => ⟨?_, by omega⟩⟩
    rw [Int.tmod_eq_emod_of_nonneg (by omega)]; omega
theorem mov_lim (a p n k : Nat) (ha : a < 256 ^ n) (hp : 256 ^ k = p) (hn : n + k ≤ 512) : a * p < Lim := by
  refine lim_512 _ (n + k) hn ?_
  rw [Nat.pow_add, hp]
  exact Nat.mul_lt_mul_of_pos_right ha (by rw [← hp]; exact Nat.pow_pos (by omega))
set_option maxRecDepth 100000 in
set_option maxHeartbeats 1000000 in
theorem moves_pos (s : ByteArray) (hs : s.size ≤ 140737488355328) (a : Nat) (hA : numB (s.data.toList.take 400) = a) (ha : a < 256 ^ 400) (haL : a < Lim) (m : Int) (k : Nat) (hk : k ≤ 50) (hm0 : 0 ≤ m) (hm1 : m ≤ 9223372036854775807) (hm2 : m.tmod 51 = (k : Int)) (hm3 : m % 51 = (k : Int)) (W : World) : Calls Tryd.prog 3 #[.string s, .int .i64 m] W fun e w' => e = .returned (.bool true) ∧ Below W.heap.size W w' := by
  have hz := zero26
  have G : Has W [] := trivial
  have B : Below W.heap.size W W := Below.refl _ _
  have HE := Hid.mk examples_in
  have HA := Hid.mk (lawof_in s 400 hs (by omega))
  rw [hA] at HA
  have HY := Hid.mk (bytes_in a haL)
  have hn4 : nbl a ≤ 400 := (nbl_le_iff a 400).2 ha
  have HYZ : Hid ((⟨(bys a (nbl a)).toArray⟩ : ByteArray) = zs (bys a (nbl a)) 0) := by
    apply ba_ext
    show bys a (nbl a) = bys a (nbl a) ++ []
    rw [List.append_nil]
  rw [HYZ.out] at HY
  have h1s : Hid ((⟨#[1]⟩ : ByteArray) = zs [1] 0) := rfl
  have HNA := Hid.mk (numB_told a)
  have hbl := bys_len a (nbl a)
  generalize bys a (nbl a) = ls at *
  generalize nbl a = na at *
  clear HYZ
  obtain ⟨p, hp⟩ : ∃ p, 256 ^ k = p := ⟨_, rfl⟩
  have hp0 : 0 < p := by rw [← hp]; exact Nat.pow_pos (by omega)
  have hpL : p < Lim := lim_512 _ 51 (by omega) (by rw [← hp]; exact Nat.pow_lt_pow_right (by omega) (by omega))
  have hapL : a * p < Lim := mov_lim a p 400 k ha hp (by omega)
  have HOB : Hid (∀ W, Calls Tryd.prog 8 #[.string (zs [1] k)] W fun e w' => e = .returned (.tuple #[.agg (natL p).toArray, .int .i64 0]) ∧ Below W.heap.size W w') := by
    have h := of_in (zs [1] k) (by rw [zs_size]; simp; omega)
    rw [ofR_ok _ (Nat.le_trans (strip_le _) (by rw [size_list, zs_size]; simp; omega)), zs_num, hp, show numB [1] * p = p by simp [numB]] at h
    exact h
  have HOC : Hid (∀ W, Calls Tryd.prog 8 #[.string (zs ls k)] W fun e w' => e = .returned (.tuple #[.agg (natL (a * p)).toArray, .int .i64 0]) ∧ Below W.heap.size W w') := by
    have h := of_in (zs ls k) (by rw [zs_size]; omega)
    rw [ofR_ok _ (Nat.le_trans (strip_le _) (by rw [size_list, zs_size]; omega)), zs_num, hp, HNA.out] at h
    exact h
  have HM := Hid.mk (mul_in a p haL hpL)
  rw [natR_ok _ hapL] at HM
  have HD := Hid.mk (div_in (a * p) p hapL hpL (by omega))
  rw [Nat.mul_div_cancel _ hp0, Nat.mul_mod_left] at HD
  have HC1 := Hid.mk (cmp_in (a * p) (a * p) hapL hapL)
  have HC2 := Hid.mk (cmp_in a a haL haL)
  rw [cmpI_eq] at HC1 HC2
  have HT0 : Hid (∀ W, Calls Tryd.prog 12 #[.agg (natL 0).toArray] W fun e w' => e = .returned (.int .i64 0) ∧ Below W.heap.size W w') := bits_in 0 (lim_big 1 0 (by omega) (by omega))
  have HTP : Hid (∀ W, Calls Tryd.prog 12 #[.agg (natL p).toArray] W fun e w' => e = .returned (.int .i64 (8 * (k : Int) + 1)) ∧ Below W.heap.size W w') := by
    have h := bits_in p hpL
    rw [← hp, btl_pow, hp] at h
    exact h
  generalize a * p = ap at *
  have HZN : Hid (∀ l j, zs l j ++ ⟨#[0]⟩ = zs l (j + 1)) := zs_next
  have HZS : Hid (∀ j, (zs [1] j).size = 1 + j) := fun j => zs_size _ j
  have HZT : Hid (∀ j, (zs ls j).size = na + j) := fun j => by rw [zs_size, hbl]
  have hk0 : (0 : Int) ≤ (k : Int) := by omega
  have hk5 : (k : Int) ≤ 50 := by omega
  clear hA ha hp hp0 hbl
  go_enter Tryd.func3, Tryd.ntmps3
  go_wp2_with fail
  refine (HE.out _).mono ?_
  rintro e u1 ⟨rfl, hb⟩
  replace G := G.blk hb
  replace B := bthen B hb
  clear hb
  go_wp2_with fail
  refine (HA.out _).mono ?_
  rintro e u2 ⟨rfl, hb⟩
  replace G := G.blk hb
  replace B := bthen B hb
  clear hb
  go_upto_region 3 with fail
  replace G := G.new1 (a)
  replace B := below_new1 (a) B
  generalize u2.alloc (.cells (natL (a)).toArray 26) = v2 at G B ⊢
  generalize u2.heap.size = b_a at G ⊢
  have l_a := natLoad_run (G.get 0 rfl)
  go_wp2_with fail
  refine (HY.out _).mono ?_
  rintro e u3 ⟨rfl, hb⟩
  replace G := G.blk hb
  replace B := bthen B hb
  clear hb
  clear l_a
  go_wp2_with fail
  rw [h1s.out]
  go_loopw [7, 8, 9] (fun t u iv wr => ∃ j : Nat, j ≤ k ∧ iv = .int .i64 (j : Int) ∧ t = .string (zs [1] j) ∧ u = .string (zs ls j) ∧ wr = u3) (fun _ _ iv _ => k - (intOf iv).toNat)
  case atStart => exact ⟨0, by omega, rfl, rfl, rfl, rfl⟩
  case round =>
    obtain ⟨j, hj, rfl, rfl, rfl, rfl⟩ := hrel
    by_cases hlt : j < k
    · have hz1 := HZN.out [1] j
      have hz2 := HZN.out ls j
      have hs1 := HZS.out j
      have hs2 := HZT.out j
      have hsn1 : ¬ 9223372036854775807 < (zs [1] j).size + 1 := by omega
      have hsn2 : ¬ 9223372036854775807 < (zs ls j).size + 1 := by omega
      clear hs1 hs2
      obtain ⟨x2, hx2⟩ : ∃ x2, zs [1] (j + 1) = x2 := ⟨_, rfl⟩
      obtain ⟨y2, hy2⟩ : ∃ y2, zs ls (j + 1) = y2 := ⟨_, rfl⟩
      rw [hx2] at hz1
      rw [hy2] at hz2
      have HX := Hid.mk hx2
      have HYY := Hid.mk hy2
      clear hx2 hy2
      generalize zs [1] j = x1 at *
      generalize zs ls j = y1 at *
      go_wp2
      go_roundw
      case rel => exact ⟨j + 1, by omega, by go_num, by rw [HX.out], by rw [HYY.out], trivial⟩
      case measure => simp [intOf]; omega
    · obtain rfl : j = k := by omega
      clear h1s HZN HZS HZT HA HY HE hm0 hm1 hm2 hm3
      generalize zs [1] j = x1 at *
      generalize zs ls j = y1 at *
      go_wp2_with fail
      refine (HOB.out _).mono ?_
      rintro e u4 ⟨rfl, hb⟩
      replace G := G.blk hb
      replace B := bthen B hb
      clear hb
      go_upto_region 14 with fail
      replace G := G.new1 (p)
      replace B := below_new1 (p) B
      generalize u4.alloc (.cells (natL (p)).toArray 26) = v4 at G B ⊢
      generalize u4.heap.size = b_p at G ⊢
      go_wp2_with fail
      refine (HOC.out _).mono ?_
      rintro e u5 ⟨rfl, hb⟩
      replace G := G.blk hb
      replace B := bthen B hb
      clear hb
      go_upto_region 15 with fail
      replace G := G.new1 (ap)
      replace B := below_new1 (ap) B
      generalize u5.alloc (.cells (natL (ap)).toArray 26) = v5 at G B ⊢
      generalize u5.heap.size = b_c at G ⊢
      have l_a := natLoad_run (G.get 2 rfl)
      have l_p := natLoad_run (G.get 1 rfl)
      go_wp2_with fail
      refine (HM.out _).mono ?_
      rintro e u6 ⟨rfl, hb⟩
      replace G := G.blk hb
      replace B := bthen B hb
      clear hb
      clear l_a l_p
      go_upto_region 16 with fail
      replace G := G.new1 (ap)
      replace B := below_new1 (ap) B
      generalize u6.alloc (.cells (natL (ap)).toArray 26) = v6 at G B ⊢
      generalize u6.heap.size = b_d at G ⊢
      have l_d := natLoad_run (G.get 0 rfl)
      have l_p := natLoad_run (G.get 2 rfl)
      go_wp2_with fail
      refine (HD.out _).mono ?_
      rintro e u7 ⟨rfl, hb⟩
      replace G := G.blk hb
      replace B := bthen B hb
      clear hb
      clear l_d l_p
      go_upto_region 17 with fail
      replace G := G.new2 (a) (0)
      replace B := below_new2 (a) (0) B
      generalize (u7.alloc (.cells (natL (a)).toArray 26)).alloc (.cells (natL (0)).toArray 26) = v7 at G B ⊢
      generalize u7.heap.size = b_q at G ⊢
      obtain ⟨b_r, h_r⟩ : ∃ x, b_q + 1 = x := ⟨_, rfl⟩
      rw [h_r] at G ⊢
      clear h_r
      have l_d := natLoad_run (G.get 2 rfl)
      have l_c := natLoad_run (G.get 3 rfl)
      go_wp2_with fail
      refine (HC1.out _).mono ?_
      rintro e u8 ⟨rfl, hb⟩
      replace G := G.blk hb
      replace B := bthen B hb
      clear hb
      clear l_d l_c
      have l_q := natLoad_run (G.get 0 rfl)
      have l_a := natLoad_run (G.get 5 rfl)
      go_wp2_with fail
      refine (HC2.out _).mono ?_
      rintro e u9 ⟨rfl, hb⟩
      replace G := G.blk hb
      replace B := bthen B hb
      clear hb
      clear l_q l_a
      have l_r := natLoad_run (G.get 1 rfl)
      go_wp2_with fail
      refine (HT0.out _).mono ?_
      rintro e u10 ⟨rfl, hb⟩
      replace G := G.blk hb
      replace B := bthen B hb
      clear hb
      clear l_r
      have l_p := natLoad_run (G.get 4 rfl)
      go_wp2_with fail
      refine (HTP.out _).mono ?_
      rintro e u11 ⟨rfl, hb⟩
      replace G := G.blk hb
      replace B := bthen B hb
      clear hb
      clear l_p
      go_wp2
      go_ret
      exact ⟨rfl, B⟩
set_option maxRecDepth 100000 in
set_option maxHeartbeats 1000000 in
theorem moves_neg (s : ByteArray) (hs : s.size ≤ 140737488355328) (a : Nat) (hA : numB (s.data.toList.take 400) = a) (ha : a < 256 ^ 400) (haL : a < Lim) (m : Int) (k : Nat) (hk : k ≤ 50) (hm0 : m < 0) (hm1 : -9223372036854775808 ≤ m) (hm2 : (-(m + 1)).tmod 51 = (k : Int)) (hm3 : (-(m + 1)) % 51 = (k : Int)) (W : World) : Calls Tryd.prog 3 #[.string s, .int .i64 m] W fun e w' => e = .returned (.bool true) ∧ Below W.heap.size W w' := by
  have hz := zero26
  have G : Has W [] := trivial
  have B : Below W.heap.size W W := Below.refl _ _
  have HE := Hid.mk examples_in
  have HA := Hid.mk (lawof_in s 400 hs (by omega))
  rw [hA] at HA
  have HY := Hid.mk (bytes_in a haL)
  have hn4 : nbl a ≤ 400 := (nbl_le_iff a 400).2 ha
  have HYZ : Hid ((⟨(bys a (nbl a)).toArray⟩ : ByteArray) = zs (bys a (nbl a)) 0) := by
    apply ba_ext
    show bys a (nbl a) = bys a (nbl a) ++ []
    rw [List.append_nil]
  rw [HYZ.out] at HY
  have h1s : Hid ((⟨#[1]⟩ : ByteArray) = zs [1] 0) := rfl
  have HNA := Hid.mk (numB_told a)
  have hbl := bys_len a (nbl a)
  generalize bys a (nbl a) = ls at *
  generalize nbl a = na at *
  clear HYZ
  obtain ⟨p, hp⟩ : ∃ p, 256 ^ k = p := ⟨_, rfl⟩
  have hp0 : 0 < p := by rw [← hp]; exact Nat.pow_pos (by omega)
  have hpL : p < Lim := lim_512 _ 51 (by omega) (by rw [← hp]; exact Nat.pow_lt_pow_right (by omega) (by omega))
  have hapL : a * p < Lim := mov_lim a p 400 k ha hp (by omega)
  have HOB : Hid (∀ W, Calls Tryd.prog 8 #[.string (zs [1] k)] W fun e w' => e = .returned (.tuple #[.agg (natL p).toArray, .int .i64 0]) ∧ Below W.heap.size W w') := by
    have h := of_in (zs [1] k) (by rw [zs_size]; simp; omega)
    rw [ofR_ok _ (Nat.le_trans (strip_le _) (by rw [size_list, zs_size]; simp; omega)), zs_num, hp, show numB [1] * p = p by simp [numB]] at h
    exact h
  have HOC : Hid (∀ W, Calls Tryd.prog 8 #[.string (zs ls k)] W fun e w' => e = .returned (.tuple #[.agg (natL (a * p)).toArray, .int .i64 0]) ∧ Below W.heap.size W w') := by
    have h := of_in (zs ls k) (by rw [zs_size]; omega)
    rw [ofR_ok _ (Nat.le_trans (strip_le _) (by rw [size_list, zs_size]; omega)), zs_num, hp, HNA.out] at h
    exact h
  have HM := Hid.mk (mul_in a p haL hpL)
  rw [natR_ok _ hapL] at HM
  have HD := Hid.mk (div_in (a * p) p hapL hpL (by omega))
  rw [Nat.mul_div_cancel _ hp0, Nat.mul_mod_left] at HD
  have HC1 := Hid.mk (cmp_in (a * p) (a * p) hapL hapL)
  have HC2 := Hid.mk (cmp_in a a haL haL)
  rw [cmpI_eq] at HC1 HC2
  have HT0 : Hid (∀ W, Calls Tryd.prog 12 #[.agg (natL 0).toArray] W fun e w' => e = .returned (.int .i64 0) ∧ Below W.heap.size W w') := bits_in 0 (lim_big 1 0 (by omega) (by omega))
  have HTP : Hid (∀ W, Calls Tryd.prog 12 #[.agg (natL p).toArray] W fun e w' => e = .returned (.int .i64 (8 * (k : Int) + 1)) ∧ Below W.heap.size W w') := by
    have h := bits_in p hpL
    rw [← hp, btl_pow, hp] at h
    exact h
  generalize a * p = ap at *
  have HZN : Hid (∀ l j, zs l j ++ ⟨#[0]⟩ = zs l (j + 1)) := zs_next
  have HZS : Hid (∀ j, (zs [1] j).size = 1 + j) := fun j => zs_size _ j
  have HZT : Hid (∀ j, (zs ls j).size = na + j) := fun j => by rw [zs_size, hbl]
  have hk0 : (0 : Int) ≤ (k : Int) := by omega
  have hk5 : (k : Int) ≤ 50 := by omega
  clear hA ha hp hp0 hbl
  go_enter Tryd.func3, Tryd.ntmps3
  go_wp2_with fail
  refine (HE.out _).mono ?_
  rintro e u1 ⟨rfl, hb⟩
  replace G := G.blk hb
  replace B := bthen B hb
  clear hb
  go_wp2_with fail
  refine (HA.out _).mono ?_
  rintro e u2 ⟨rfl, hb⟩
  replace G := G.blk hb
  replace B := bthen B hb
  clear hb
  go_upto_region 3 with fail
  replace G := G.new1 (a)
  replace B := below_new1 (a) B
  generalize u2.alloc (.cells (natL (a)).toArray 26) = v2 at G B ⊢
  generalize u2.heap.size = b_a at G ⊢
  have l_a := natLoad_run (G.get 0 rfl)
  go_wp2_with fail
  refine (HY.out _).mono ?_
  rintro e u3 ⟨rfl, hb⟩
  replace G := G.blk hb
  replace B := bthen B hb
  clear hb
  clear l_a
  go_wp2_with fail
  rw [h1s.out]
  go_loopw [7, 8, 9] (fun t u iv wr => ∃ j : Nat, j ≤ k ∧ iv = .int .i64 (j : Int) ∧ t = .string (zs [1] j) ∧ u = .string (zs ls j) ∧ wr = u3) (fun _ _ iv _ => k - (intOf iv).toNat)
  case atStart => exact ⟨0, by omega, rfl, rfl, rfl, rfl⟩
  case round =>
    obtain ⟨j, hj, rfl, rfl, rfl, rfl⟩ := hrel
    by_cases hlt : j < k
    · have hz1 := HZN.out [1] j
      have hz2 := HZN.out ls j
      have hs1 := HZS.out j
      have hs2 := HZT.out j
      have hsn1 : ¬ 9223372036854775807 < (zs [1] j).size + 1 := by omega
      have hsn2 : ¬ 9223372036854775807 < (zs ls j).size + 1 := by omega
      clear hs1 hs2
      obtain ⟨x2, hx2⟩ : ∃ x2, zs [1] (j + 1) = x2 := ⟨_, rfl⟩
      obtain ⟨y2, hy2⟩ : ∃ y2, zs ls (j + 1) = y2 := ⟨_, rfl⟩
      rw [hx2] at hz1
      rw [hy2] at hz2
      have HX := Hid.mk hx2
      have HYY := Hid.mk hy2
      clear hx2 hy2
      generalize zs [1] j = x1 at *
      generalize zs ls j = y1 at *
      go_wp2
      go_roundw
      case rel => exact ⟨j + 1, by omega, by go_num, by rw [HX.out], by rw [HYY.out], trivial⟩
      case measure => simp [intOf]; omega
    · obtain rfl : j = k := by omega
      clear h1s HZN HZS HZT HA HY HE hm0 hm1 hm2 hm3
      generalize zs [1] j = x1 at *
      generalize zs ls j = y1 at *
      go_wp2_with fail
      refine (HOB.out _).mono ?_
      rintro e u4 ⟨rfl, hb⟩
      replace G := G.blk hb
      replace B := bthen B hb
      clear hb
      go_upto_region 14 with fail
      replace G := G.new1 (p)
      replace B := below_new1 (p) B
      generalize u4.alloc (.cells (natL (p)).toArray 26) = v4 at G B ⊢
      generalize u4.heap.size = b_p at G ⊢
      go_wp2_with fail
      refine (HOC.out _).mono ?_
      rintro e u5 ⟨rfl, hb⟩
      replace G := G.blk hb
      replace B := bthen B hb
      clear hb
      go_upto_region 15 with fail
      replace G := G.new1 (ap)
      replace B := below_new1 (ap) B
      generalize u5.alloc (.cells (natL (ap)).toArray 26) = v5 at G B ⊢
      generalize u5.heap.size = b_c at G ⊢
      have l_a := natLoad_run (G.get 2 rfl)
      have l_p := natLoad_run (G.get 1 rfl)
      go_wp2_with fail
      refine (HM.out _).mono ?_
      rintro e u6 ⟨rfl, hb⟩
      replace G := G.blk hb
      replace B := bthen B hb
      clear hb
      clear l_a l_p
      go_upto_region 16 with fail
      replace G := G.new1 (ap)
      replace B := below_new1 (ap) B
      generalize u6.alloc (.cells (natL (ap)).toArray 26) = v6 at G B ⊢
      generalize u6.heap.size = b_d at G ⊢
      have l_d := natLoad_run (G.get 0 rfl)
      have l_p := natLoad_run (G.get 2 rfl)
      go_wp2_with fail
      refine (HD.out _).mono ?_
      rintro e u7 ⟨rfl, hb⟩
      replace G := G.blk hb
      replace B := bthen B hb
      clear hb
      clear l_d l_p
      go_upto_region 17 with fail
      replace G := G.new2 (a) (0)
      replace B := below_new2 (a) (0) B
      generalize (u7.alloc (.cells (natL (a)).toArray 26)).alloc (.cells (natL (0)).toArray 26) = v7 at G B ⊢
      generalize u7.heap.size = b_q at G ⊢
      obtain ⟨b_r, h_r⟩ : ∃ x, b_q + 1 = x := ⟨_, rfl⟩
      rw [h_r] at G ⊢
      clear h_r
      have l_d := natLoad_run (G.get 2 rfl)
      have l_c := natLoad_run (G.get 3 rfl)
      go_wp2_with fail
      refine (HC1.out _).mono ?_
      rintro e u8 ⟨rfl, hb⟩
      replace G := G.blk hb
      replace B := bthen B hb
      clear hb
      clear l_d l_c
      have l_q := natLoad_run (G.get 0 rfl)
      have l_a := natLoad_run (G.get 5 rfl)
      go_wp2_with fail
      refine (HC2.out _).mono ?_
      rintro e u9 ⟨rfl, hb⟩
      replace G := G.blk hb
      replace B := bthen B hb
      clear hb
      clear l_q l_a
      have l_r := natLoad_run (G.get 1 rfl)
      go_wp2_with fail
      refine (HT0.out _).mono ?_
      rintro e u10 ⟨rfl, hb⟩
      replace G := G.blk hb
      replace B := bthen B hb
      clear hb
      clear l_r
      have l_p := natLoad_run (G.get 4 rfl)
      go_wp2_with fail
      refine (HTP.out _).mono ?_
      rintro e u11 ⟨rfl, hb⟩
      replace G := G.blk hb
      replace B := bthen B hb
      clear hb
      clear l_p
      go_wp2
      go_ret
      exact ⟨rfl, B⟩
theorem moves_walk (s : ByteArray) (hs : s.size ≤ 140737488355328) (m : Int) (hm : -9223372036854775808 ≤ m ∧ m ≤ 9223372036854775807) (W : World) : Calls Tryd.prog 3 #[.string s, .int .i64 m] W fun e w' => e = .returned (.bool true) ∧ Below W.heap.size W w' := by
  have ha := numB_take s.data.toList 400
  have haL := lim_512 _ 400 (by omega) ha
  obtain ⟨k, hk, h1, h2⟩ := mov_many m hm.1 hm.2
  by_cases h : m < 0
  · exact moves_neg s hs _ rfl ha haL m k hk h hm.1 (h1 h).1 (h1 h).2 W
  · exact moves_pos s hs _ rfl ha haL m k hk (by omega) hm.2 (h2 (by omega)).1 (h2 (by omega)).2 W
end Go.Proofs.YthjhemodmdficabDoor
