/- NumberOrders: numbers are ordered as their bytes are. -/
import Derived.Test.YthjhemodmdficabDoorNEx
namespace Go.Proofs.YthjhemodmdficabDoor
set_option linter.unusedVariables false
open Go.RowKit
attribute [local go_sem ↓] loadAt_nat storeAt_nat build_nat build_nat'
attribute [local go_sem] st1 st2a st2b natBuild_run
theorem bys_succ (N L : Nat) : bys N (L + 1) = UInt8.ofNat (N / 256 ^ L) :: bys N L := by
  unfold bys
  rw [List.range_succ_eq_map, List.map_cons, List.map_map]
  refine List.cons_eq_cons.2 ⟨by simp, List.map_congr_left fun k hk => ?_⟩
  simp only [Function.comp]
  rw [show L + 1 - 1 - (k + 1) = L - 1 - k by omega]
theorem mod_succ (a L : Nat) : a % 256 ^ (L + 1) = a / 256 ^ L % 256 * 256 ^ L + a % 256 ^ L := by
  rw [Nat.pow_succ, Nat.mod_mul, Nat.add_comm, Nat.mul_comm]
theorem bys_less : ∀ (L a b : Nat), Op.bytesLess (bys a L) (bys b L) = decide (a % 256 ^ L < b % 256 ^ L)
  | 0, a, b => by simp [bys, Op.bytesLess, Nat.mod_one]
  | L + 1, a, b => by
    rw [bys_succ, bys_succ, Op.bytesLess, bys_less L a b, mod_succ, mod_succ]
    have ha := Nat.mod_lt a (show 0 < 256 ^ L from Nat.pow_pos (by omega))
    have hb := Nat.mod_lt b (show 0 < 256 ^ L from Nat.pow_pos (by omega))
    generalize a % 256 ^ L = x at *
    generalize b % 256 ^ L = y at *
    generalize 256 ^ L = P at *
    rw [Bool.eq_iff_iff]
    simp only [Bool.or_eq_true, Bool.and_eq_true, decide_eq_true_eq, beq_iff_eq, UInt8.lt_iff_toNat_lt, UInt8.toNat_ofNat', ← UInt8.toNat_inj]
    generalize a / P % 256 = p
    generalize b / P % 256 = q
    rcases Nat.lt_trichotomy p q with h | h | h
    · have : (p + 1) * P ≤ q * P := Nat.mul_le_mul_right _ h
      rw [Nat.add_mul] at this
      constructor
      · intro _; omega
      · intro _; exact Or.inl h
    · subst h
      constructor
      · intro h; rcases h with h | h <;> omega
      · intro h; exact Or.inr ⟨rfl, by omega⟩
    · have : (q + 1) * P ≤ p * P := Nat.mul_le_mul_right _ h
      rw [Nat.add_mul] at this
      constructor
      · intro h; rcases h with h | h <;> omega
      · intro h; omega
theorem bys_same (L a b : Nat) (ha : a < 256 ^ L) (hb : b < 256 ^ L) (h : bys a L = bys b L) : a = b := by
  have h1 := bys_less L a b
  have h2 := bys_less L b a
  rw [h] at h1
  rw [← h] at h2
  have e : ∀ l, Op.bytesLess l l = false := fun l => by
    induction l with
    | nil => rfl
    | cons x l ih => rw [Op.bytesLess, ih]; simp
  rw [e, Nat.mod_eq_of_lt ha, Nat.mod_eq_of_lt hb] at h1
  rw [h, e, Nat.mod_eq_of_lt ha, Nat.mod_eq_of_lt hb] at h2
  have h3 := of_decide_eq_false h1.symm
  have h4 := of_decide_eq_false h2.symm
  omega
theorem str_less (L a b : Nat) (ha : a < 256 ^ L) (hb : b < 256 ^ L) : Op.bytesLess (⟨(bys a L).toArray⟩ : ByteArray).toList (⟨(bys b L).toArray⟩ : ByteArray).toList = decide (a < b) := by
  rw [Lib.toList_data, Lib.toList_data]
  have := bys_less L a b
  rwa [Nat.mod_eq_of_lt ha, Nat.mod_eq_of_lt hb] at this
theorem str_same (L a b : Nat) (ha : a < 256 ^ L) (hb : b < 256 ^ L) : ((⟨(bys a L).toArray⟩ : ByteArray).toList == (⟨(bys b L).toArray⟩ : ByteArray).toList) = decide (a = b) := by
  rw [Lib.toList_data, Lib.toList_data, Bool.eq_iff_iff, beq_iff_eq, decide_eq_true_eq]
  exact ⟨bys_same L a b ha hb, fun h => by rw [h]⟩
theorem btl_none (N : Nat) : btl N = 0 ↔ N = 0 := by
  unfold btl
  split <;> simp_all
set_option maxRecDepth 100000 in
set_option maxHeartbeats 1000000 in
theorem orders_lt (s t : ByteArray) (hs : s.size ≤ 140737488355328) (ht : t.size ≤ 140737488355328) (a b : Nat) (hA : numB (s.data.toList.take 512) = a) (hB : numB (t.data.toList.take 512) = b) (ha : a < 256 ^ 512) (hb : b < 256 ^ 512) (haL : a < Lim) (hbL : b < Lim) (hab : a < b) (W : World) : Calls Tryd.prog 4 #[.string s, .string t] W fun e w' => e = .returned (.bool true) ∧ Below W.heap.size W w' := by
  have hz := zero26
  have G : Has W [] := trivial
  have B : Below W.heap.size W W := Below.refl _ _
  have HE := Hid.mk examples_in
  have HA := Hid.mk (lawof_in s 512 hs (by omega))
  have HB := Hid.mk (lawof_in t 512 ht (by omega))
  rw [hA] at HA
  rw [hB] at HB
  have HWA := Hid.mk (wide_in a 512 haL (by omega) ((nbl_le_iff a 512).2 ha))
  have HWB := Hid.mk (wide_in b 512 hbL (by omega) ((nbl_le_iff b 512).2 hb))
  have h1 := str_less 512 a b ha hb
  have h2 := str_same 512 a b ha hb
  generalize (⟨(bys a 512).toArray⟩ : ByteArray) = X at *
  generalize (⟨(bys b 512).toArray⟩ : ByteArray) = Y at *
  have HC := Hid.mk (cmp_in a b haL hbL)
  have HCR := Hid.mk (cmp_in b a hbL haL)
  have HS := Hid.mk (sub_in a b haL hbL)
  rw [cmpI_lt a b hab] at HC
  rw [cmpI_gt b a hab] at HCR
  rw [show subR a b = .returned (.tuple #[.agg (natL 0).toArray, .int .i64 1]) from if_neg (by omega)] at HS
  rw [show decide (a < b) = true by simpa using hab] at h1
  rw [show decide (a = b) = false by simp; omega] at h2
  clear hA hB ha hb hab
  go_enter Tryd.func4, Tryd.ntmps4
  go_wp2_with fail
  refine (HE.out _).mono ?_
  rintro e u1 ⟨rfl, hb⟩
  replace G := G.blk hb
  replace B := bthen B hb
  clear hb
  go_wp2_with fail
  refine (HA.out _).mono ?_
  rintro e u2 ⟨rfl, hb⟩
  replace G := G.blk hb
  replace B := bthen B hb
  clear hb
  go_upto_region 3 with fail
  replace G := G.new1 (a)
  replace B := below_new1 (a) B
  generalize u2.alloc (.cells (natL (a)).toArray 26) = v2 at G B ⊢
  generalize u2.heap.size = b_a at G ⊢
  go_wp2_with fail
  refine (HB.out _).mono ?_
  rintro e u3 ⟨rfl, hb⟩
  replace G := G.blk hb
  replace B := bthen B hb
  clear hb
  go_upto_region 4 with fail
  replace G := G.new1 (b)
  replace B := below_new1 (b) B
  generalize u3.alloc (.cells (natL (b)).toArray 26) = v3 at G B ⊢
  generalize u3.heap.size = b_b at G ⊢
  have l_a := natLoad_run (G.get 1 rfl)
  go_wp2_with fail
  refine (HWA.out _).mono ?_
  rintro e u4 ⟨rfl, hb⟩
  replace G := G.blk hb
  replace B := bthen B hb
  clear hb
  clear l_a
  have l_b := natLoad_run (G.get 0 rfl)
  go_wp2_with fail
  refine (HWB.out _).mono ?_
  rintro e u5 ⟨rfl, hb⟩
  replace G := G.blk hb
  replace B := bthen B hb
  clear hb
  clear l_b
  have l_a := natLoad_run (G.get 1 rfl)
  have l_b := natLoad_run (G.get 0 rfl)
  go_wp2_with fail
  refine (HS.out _).mono ?_
  rintro e u6 ⟨rfl, hb⟩
  replace G := G.blk hb
  replace B := bthen B hb
  clear hb
  clear l_a l_b
  go_upto_region 12 with fail
  replace G := G.new1 (0)
  replace B := below_new1 (0) B
  generalize u6.alloc (.cells (natL (0)).toArray 26) = v6 at G B ⊢
  generalize u6.heap.size = b_d at G ⊢
  have l_a := natLoad_run (G.get 2 rfl)
  have l_b := natLoad_run (G.get 1 rfl)
  go_wp2_with fail
  refine (HC.out _).mono ?_
  rintro e u7 ⟨rfl, hb⟩
  replace G := G.blk hb
  replace B := bthen B hb
  clear hb
  clear l_a l_b
  have l_a := natLoad_run (G.get 2 rfl)
  have l_b := natLoad_run (G.get 1 rfl)
  go_wp2_with fail
  refine (HCR.out _).mono ?_
  rintro e u8 ⟨rfl, hb⟩
  replace G := G.blk hb
  replace B := bthen B hb
  clear hb
  clear l_a l_b
  go_wp2
  go_ret
  exact ⟨rfl, B⟩
set_option maxRecDepth 100000 in
set_option maxHeartbeats 1000000 in
theorem orders_eq (s t : ByteArray) (hs : s.size ≤ 140737488355328) (ht : t.size ≤ 140737488355328) (a b : Nat) (hA : numB (s.data.toList.take 512) = a) (hB : numB (t.data.toList.take 512) = b) (ha : a < 256 ^ 512) (hb : b < 256 ^ 512) (haL : a < Lim) (hbL : b < Lim) (hab : a = b) (W : World) : Calls Tryd.prog 4 #[.string s, .string t] W fun e w' => e = .returned (.bool true) ∧ Below W.heap.size W w' := by
  have hz := zero26
  have G : Has W [] := trivial
  have B : Below W.heap.size W W := Below.refl _ _
  have HE := Hid.mk examples_in
  have HA := Hid.mk (lawof_in s 512 hs (by omega))
  have HB := Hid.mk (lawof_in t 512 ht (by omega))
  rw [hA] at HA
  rw [hB] at HB
  have HWA := Hid.mk (wide_in a 512 haL (by omega) ((nbl_le_iff a 512).2 ha))
  have HWB := Hid.mk (wide_in b 512 hbL (by omega) ((nbl_le_iff b 512).2 hb))
  have h1 := str_less 512 a b ha hb
  have h2 := str_same 512 a b ha hb
  generalize (⟨(bys a 512).toArray⟩ : ByteArray) = X at *
  generalize (⟨(bys b 512).toArray⟩ : ByteArray) = Y at *
  have HC := Hid.mk (cmp_in a b haL hbL)
  have HCR := Hid.mk (cmp_in b a hbL haL)
  have HS := Hid.mk (sub_in a b haL hbL)
  subst hab
  rw [cmpI_eq a] at HC HCR
  rw [show subR a a = .returned (.tuple #[.agg (natL 0).toArray, .int .i64 0]) from (if_pos (Nat.le_refl _)).trans (by rw [Nat.sub_self])] at HS
  rw [show decide (a < a) = false by simp] at h1
  rw [show decide (a = a) = true by simp] at h2
  have HT : Hid (∀ W, Calls Tryd.prog 12 #[.agg (natL 0).toArray] W fun e w' => e = .returned (.int .i64 0) ∧ Below W.heap.size W w') := bits_in 0 (lim_big 1 0 (by omega) (by omega))
  clear hA hB ha hb
  go_enter Tryd.func4, Tryd.ntmps4
  go_wp2_with fail
  refine (HE.out _).mono ?_
  rintro e u1 ⟨rfl, hb⟩
  replace G := G.blk hb
  replace B := bthen B hb
  clear hb
  go_wp2_with fail
  refine (HA.out _).mono ?_
  rintro e u2 ⟨rfl, hb⟩
  replace G := G.blk hb
  replace B := bthen B hb
  clear hb
  go_upto_region 3 with fail
  replace G := G.new1 (a)
  replace B := below_new1 (a) B
  generalize u2.alloc (.cells (natL (a)).toArray 26) = v2 at G B ⊢
  generalize u2.heap.size = b_a at G ⊢
  go_wp2_with fail
  refine (HB.out _).mono ?_
  rintro e u3 ⟨rfl, hb⟩
  replace G := G.blk hb
  replace B := bthen B hb
  clear hb
  go_upto_region 4 with fail
  replace G := G.new1 (a)
  replace B := below_new1 (a) B
  generalize u3.alloc (.cells (natL (a)).toArray 26) = v3 at G B ⊢
  generalize u3.heap.size = b_b at G ⊢
  have l_a := natLoad_run (G.get 1 rfl)
  go_wp2_with fail
  refine (HWA.out _).mono ?_
  rintro e u4 ⟨rfl, hb⟩
  replace G := G.blk hb
  replace B := bthen B hb
  clear hb
  clear l_a
  have l_b := natLoad_run (G.get 0 rfl)
  go_wp2_with fail
  refine (HWB.out _).mono ?_
  rintro e u5 ⟨rfl, hb⟩
  replace G := G.blk hb
  replace B := bthen B hb
  clear hb
  clear l_b
  have l_a := natLoad_run (G.get 1 rfl)
  have l_b := natLoad_run (G.get 0 rfl)
  go_wp2_with fail
  refine (HS.out _).mono ?_
  rintro e u6 ⟨rfl, hb⟩
  replace G := G.blk hb
  replace B := bthen B hb
  clear hb
  clear l_a l_b
  go_upto_region 12 with fail
  replace G := G.new1 (0)
  replace B := below_new1 (0) B
  generalize u6.alloc (.cells (natL (0)).toArray 26) = v6 at G B ⊢
  generalize u6.heap.size = b_d at G ⊢
  have l_a := natLoad_run (G.get 2 rfl)
  have l_b := natLoad_run (G.get 1 rfl)
  go_wp2_with fail
  refine (HC.out _).mono ?_
  rintro e u7 ⟨rfl, hb⟩
  replace G := G.blk hb
  replace B := bthen B hb
  clear hb
  clear l_a l_b
  have l_a := natLoad_run (G.get 2 rfl)
  have l_b := natLoad_run (G.get 1 rfl)
  go_wp2_with fail
  refine (HCR.out _).mono ?_
  rintro e u8 ⟨rfl, hb⟩
  replace G := G.blk hb
  replace B := bthen B hb
  clear hb
  clear l_a l_b
  have l_d := natLoad_run (G.get 0 rfl)
  go_wp2_with fail
  refine (HT.out _).mono ?_
  rintro e u9 ⟨rfl, hb⟩
  replace G := G.blk hb
  replace B := bthen B hb
  clear hb
  clear l_d
  go_wp2
  go_ret
  exact ⟨rfl, B⟩
set_option maxRecDepth 100000 in
set_option maxHeartbeats 1000000 in
theorem orders_gt (s t : ByteArray) (hs : s.size ≤ 140737488355328) (ht : t.size ≤ 140737488355328) (a b : Nat) (hA : numB (s.data.toList.take 512) = a) (hB : numB (t.data.toList.take 512) = b) (ha : a < 256 ^ 512) (hb : b < 256 ^ 512) (haL : a < Lim) (hbL : b < Lim) (hab : b < a) (W : World) : Calls Tryd.prog 4 #[.string s, .string t] W fun e w' => e = .returned (.bool true) ∧ Below W.heap.size W w' := by
  have hz := zero26
  have G : Has W [] := trivial
  have B : Below W.heap.size W W := Below.refl _ _
  have HE := Hid.mk examples_in
  have HA := Hid.mk (lawof_in s 512 hs (by omega))
  have HB := Hid.mk (lawof_in t 512 ht (by omega))
  rw [hA] at HA
  rw [hB] at HB
  have HWA := Hid.mk (wide_in a 512 haL (by omega) ((nbl_le_iff a 512).2 ha))
  have HWB := Hid.mk (wide_in b 512 hbL (by omega) ((nbl_le_iff b 512).2 hb))
  have h1 := str_less 512 a b ha hb
  have h2 := str_same 512 a b ha hb
  generalize (⟨(bys a 512).toArray⟩ : ByteArray) = X at *
  generalize (⟨(bys b 512).toArray⟩ : ByteArray) = Y at *
  have HC := Hid.mk (cmp_in a b haL hbL)
  have HCR := Hid.mk (cmp_in b a hbL haL)
  have HS := Hid.mk (sub_in a b haL hbL)
  rw [cmpI_gt a b hab] at HC
  rw [cmpI_lt b a hab] at HCR
  rw [show subR a b = .returned (.tuple #[.agg (natL (a - b)).toArray, .int .i64 0]) from if_pos (by omega)] at HS
  rw [show decide (a < b) = false by simp; omega] at h1
  rw [show decide (a = b) = false by simp; omega] at h2
  obtain ⟨d, hd⟩ : ∃ d, a - b = d := ⟨_, rfl⟩
  rw [hd] at HS
  have HT := Hid.mk (bits_in d (by omega))
  have hn0 : btl d ≠ 0 := fun h => by have := (btl_none d).1 h; omega
  generalize btl d = bd at HT hn0
  have hn1 : ((bd : Int) == 0) = false := by rw [beq_eq_false_iff_ne]; omega
  clear hd hn0
  clear hA hB ha hb hab
  go_enter Tryd.func4, Tryd.ntmps4
  go_wp2_with fail
  refine (HE.out _).mono ?_
  rintro e u1 ⟨rfl, hb⟩
  replace G := G.blk hb
  replace B := bthen B hb
  clear hb
  go_wp2_with fail
  refine (HA.out _).mono ?_
  rintro e u2 ⟨rfl, hb⟩
  replace G := G.blk hb
  replace B := bthen B hb
  clear hb
  go_upto_region 3 with fail
  replace G := G.new1 (a)
  replace B := below_new1 (a) B
  generalize u2.alloc (.cells (natL (a)).toArray 26) = v2 at G B ⊢
  generalize u2.heap.size = b_a at G ⊢
  go_wp2_with fail
  refine (HB.out _).mono ?_
  rintro e u3 ⟨rfl, hb⟩
  replace G := G.blk hb
  replace B := bthen B hb
  clear hb
  go_upto_region 4 with fail
  replace G := G.new1 (b)
  replace B := below_new1 (b) B
  generalize u3.alloc (.cells (natL (b)).toArray 26) = v3 at G B ⊢
  generalize u3.heap.size = b_b at G ⊢
  have l_a := natLoad_run (G.get 1 rfl)
  go_wp2_with fail
  refine (HWA.out _).mono ?_
  rintro e u4 ⟨rfl, hb⟩
  replace G := G.blk hb
  replace B := bthen B hb
  clear hb
  clear l_a
  have l_b := natLoad_run (G.get 0 rfl)
  go_wp2_with fail
  refine (HWB.out _).mono ?_
  rintro e u5 ⟨rfl, hb⟩
  replace G := G.blk hb
  replace B := bthen B hb
  clear hb
  clear l_b
  have l_a := natLoad_run (G.get 1 rfl)
  have l_b := natLoad_run (G.get 0 rfl)
  go_wp2_with fail
  refine (HS.out _).mono ?_
  rintro e u6 ⟨rfl, hb⟩
  replace G := G.blk hb
  replace B := bthen B hb
  clear hb
  clear l_a l_b
  go_upto_region 12 with fail
  replace G := G.new1 (d)
  replace B := below_new1 (d) B
  generalize u6.alloc (.cells (natL (d)).toArray 26) = v6 at G B ⊢
  generalize u6.heap.size = b_d at G ⊢
  have l_a := natLoad_run (G.get 2 rfl)
  have l_b := natLoad_run (G.get 1 rfl)
  go_wp2_with fail
  refine (HC.out _).mono ?_
  rintro e u7 ⟨rfl, hb⟩
  replace G := G.blk hb
  replace B := bthen B hb
  clear hb
  clear l_a l_b
  have l_a := natLoad_run (G.get 2 rfl)
  have l_b := natLoad_run (G.get 1 rfl)
  go_wp2_with fail
  refine (HCR.out _).mono ?_
  rintro e u8 ⟨rfl, hb⟩
  replace G := G.blk hb
  replace B := bthen B hb
  clear hb
  clear l_a l_b
  have l_d := natLoad_run (G.get 0 rfl)
  go_wp2_with fail
  refine (HT.out _).mono ?_
  rintro e u9 ⟨rfl, hb⟩
  replace G := G.blk hb
  replace B := bthen B hb
  clear hb
  clear l_d
  go_wp2
  go_ret
  exact ⟨rfl, B⟩
theorem numB_take (l : List UInt8) (n : Nat) : numB (l.take n) < 256 ^ n :=
  Nat.lt_of_lt_of_le (numB_lt _) (Nat.pow_le_pow_right (by omega) (by rw [List.length_take]; omega))
theorem orders_walk (s : ByteArray) (hs : s.size ≤ 140737488355328) (t : ByteArray) (ht : t.size ≤ 140737488355328) (W : World) : Calls Tryd.prog 4 #[.string s, .string t] W fun e w' => e = .returned (.bool true) ∧ Below W.heap.size W w' := by
  have ha := numB_take s.data.toList 512
  have hb := numB_take t.data.toList 512
  have haL := lim_512 _ 512 (Nat.le_refl _) ha
  have hbL := lim_512 _ 512 (Nat.le_refl _) hb
  rcases Nat.lt_trichotomy (numB (s.data.toList.take 512)) (numB (t.data.toList.take 512)) with h | h | h
  · exact orders_lt s t hs ht _ _ rfl rfl ha hb haL hbL h W
  · exact orders_eq s t hs ht _ _ rfl rfl ha hb haL hbL h W
  · exact orders_gt s t hs ht _ _ rfl rfl ha hb haL hbL h W
end Go.Proofs.YthjhemodmdficabDoor
