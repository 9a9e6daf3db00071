/- NumberDivides: a quotient times what was divided by, and what is left, are the number. -/
import Derived.Test.YthjhemodmdficaaDoorNEx
namespace Go.Proofs.YthjhemodmdficaaDoor
set_option linter.unusedVariables false
open Go.RowKit
attribute [local go_sem ↓] loadAt_nat storeAt_nat build_nat build_nat'
attribute [local go_sem] st1 st2a st2b natBuild_run
theorem numB_take (l : List UInt8) (n : Nat) : numB (l.take n) < 256 ^ n :=
  Nat.lt_of_lt_of_le (numB_lt _) (Nat.pow_le_pow_right (by omega) (by rw [List.length_take]; omega))
set_option maxRecDepth 100000 in
set_option maxHeartbeats 1000000 in
theorem divides_no (s t : ByteArray) (hs : s.size ≤ 140737488355328) (ht : t.size ≤ 140737488355328) (a : Nat) (hA : numB (s.data.toList.take 512) = a) (hB : numB (t.data.toList.take 512) = 0) (haL : a < Lim) (W : World) : Calls Tryd.prog 7 #[.string s, .string t] W fun e w' => e = .returned (.bool true) ∧ Below W.heap.size W w' := by
  have hz := zero26
  have G : Has W [] := trivial
  have B : Below W.heap.size W W := Below.refl _ _
  have HE := Hid.mk examples_in
  have HA := Hid.mk (lawof_in s 512 hs (by omega))
  have HB := Hid.mk (lawof_in t 512 ht (by omega))
  rw [hA] at HA
  rw [hB] at HB
  have HD := Hid.mk (div_no a haL)
  have HT : Hid (∀ W, Calls Tryd.prog 18 #[.agg (natL 0).toArray] W fun e w' => e = .returned (.int .i64 0) ∧ Below W.heap.size W w') := bits_in 0 (lim_big 1 0 (by omega) (by omega))
  clear hA hB
  go_enter Tryd.func7, Tryd.ntmps7
  go_wp2_with fail
  refine (HE.out _).mono ?_
  rintro e u1 ⟨rfl, hb⟩
  replace G := G.blk hb
  replace B := bthen B hb
  clear hb
  go_wp2_with fail
  refine (HA.out _).mono ?_
  rintro e u2 ⟨rfl, hb⟩
  replace G := G.blk hb
  replace B := bthen B hb
  clear hb
  go_upto_region 3 with fail
  replace G := G.new1 (a)
  replace B := below_new1 (a) B
  generalize u2.alloc (.cells (natL (a)).toArray 27) = v2 at G B ⊢
  generalize u2.heap.size = b_a at G ⊢
  go_wp2_with fail
  refine (HB.out _).mono ?_
  rintro e u3 ⟨rfl, hb⟩
  replace G := G.blk hb
  replace B := bthen B hb
  clear hb
  go_upto_region 4 with fail
  replace G := G.new1 (0)
  replace B := below_new1 (0) B
  generalize u3.alloc (.cells (natL (0)).toArray 27) = v3 at G B ⊢
  generalize u3.heap.size = b_b at G ⊢
  have l_a := natLoad_run (G.get 1 rfl)
  have l_b := natLoad_run (G.get 0 rfl)
  go_wp2_with fail
  refine (HD.out _).mono ?_
  rintro e u4 ⟨rfl, hb⟩
  replace G := G.blk hb
  replace B := bthen B hb
  clear hb
  clear l_a l_b
  go_upto_region 5 with fail
  replace G := G.new2 (0) (0)
  replace B := below_new2 (0) (0) B
  generalize (u4.alloc (.cells (natL (0)).toArray 27)).alloc (.cells (natL (0)).toArray 27) = v4 at G B ⊢
  generalize u4.heap.size = b_q at G ⊢
  obtain ⟨b_r, h_r⟩ : ∃ x, b_q + 1 = x := ⟨_, rfl⟩
  rw [h_r] at G ⊢
  clear h_r
  have l_b := natLoad_run (G.get 2 rfl)
  go_wp2_with fail
  refine (HT.out _).mono ?_
  rintro e u5 ⟨rfl, hb⟩
  replace G := G.blk hb
  replace B := bthen B hb
  clear hb
  clear l_b
  go_wp2
  go_ret
  exact ⟨rfl, B⟩
set_option maxRecDepth 100000 in
set_option maxHeartbeats 1000000 in
theorem divides_ok (s t : ByteArray) (hs : s.size ≤ 140737488355328) (ht : t.size ≤ 140737488355328) (a b : Nat) (hA : numB (s.data.toList.take 512) = a) (hB : numB (t.data.toList.take 512) = b) (haL : a < Lim) (hbL : b < Lim) (hb0 : b ≠ 0) (W : World) : Calls Tryd.prog 7 #[.string s, .string t] W fun e w' => e = .returned (.bool true) ∧ Below W.heap.size W w' := by
  have hz := zero26
  have G : Has W [] := trivial
  have B : Below W.heap.size W W := Below.refl _ _
  have HE := Hid.mk examples_in
  have HA := Hid.mk (lawof_in s 512 hs (by omega))
  have HB := Hid.mk (lawof_in t 512 ht (by omega))
  rw [hA] at HA
  rw [hB] at HB
  have HD := Hid.mk (div_in a b haL hbL hb0)
  have hqr := Nat.div_add_mod a b
  have hrb := Nat.mod_lt a (Nat.pos_of_ne_zero hb0)
  generalize a / b = q at HD hqr
  generalize a % b = r at HD hqr hrb
  have hqb : q * b + r = a := by rw [Nat.mul_comm]; exact hqr
  clear hqr
  have HM := Hid.mk (mul_in q b (by have := Nat.le_mul_of_pos_right q (Nat.pos_of_ne_zero hb0); omega) hbL)
  rw [natR_ok _ (by omega)] at HM
  have HP := Hid.mk (add_in (q * b) r (by omega) (by omega))
  rw [natR_ok _ (by omega), hqb] at HP
  have HC1 := Hid.mk (cmp_in a a haL haL)
  rw [cmpI_eq] at HC1
  have HC2 := Hid.mk (cmp_in r b (by omega) hbL)
  rw [cmpI_lt _ _ hrb] at HC2
  generalize q * b = qb at *
  clear hA hB hqb hrb
  go_enter Tryd.func7, Tryd.ntmps7
  go_wp2_with fail
  refine (HE.out _).mono ?_
  rintro e u1 ⟨rfl, hb⟩
  replace G := G.blk hb
  replace B := bthen B hb
  clear hb
  go_wp2_with fail
  refine (HA.out _).mono ?_
  rintro e u2 ⟨rfl, hb⟩
  replace G := G.blk hb
  replace B := bthen B hb
  clear hb
  go_upto_region 3 with fail
  replace G := G.new1 (a)
  replace B := below_new1 (a) B
  generalize u2.alloc (.cells (natL (a)).toArray 27) = v2 at G B ⊢
  generalize u2.heap.size = b_a at G ⊢
  go_wp2_with fail
  refine (HB.out _).mono ?_
  rintro e u3 ⟨rfl, hb⟩
  replace G := G.blk hb
  replace B := bthen B hb
  clear hb
  go_upto_region 4 with fail
  replace G := G.new1 (b)
  replace B := below_new1 (b) B
  generalize u3.alloc (.cells (natL (b)).toArray 27) = v3 at G B ⊢
  generalize u3.heap.size = b_b at G ⊢
  have l_a := natLoad_run (G.get 1 rfl)
  have l_b := natLoad_run (G.get 0 rfl)
  go_wp2_with fail
  refine (HD.out _).mono ?_
  rintro e u4 ⟨rfl, hb⟩
  replace G := G.blk hb
  replace B := bthen B hb
  clear hb
  clear l_a l_b
  go_upto_region 5 with fail
  replace G := G.new2 (q) (r)
  replace B := below_new2 (q) (r) B
  generalize (u4.alloc (.cells (natL (q)).toArray 27)).alloc (.cells (natL (r)).toArray 27) = v4 at G B ⊢
  generalize u4.heap.size = b_q at G ⊢
  obtain ⟨b_r, h_r⟩ : ∃ x, b_q + 1 = x := ⟨_, rfl⟩
  rw [h_r] at G ⊢
  clear h_r
  have l_q := natLoad_run (G.get 0 rfl)
  have l_b := natLoad_run (G.get 2 rfl)
  go_wp2_with fail
  refine (HM.out _).mono ?_
  rintro e u5 ⟨rfl, hb⟩
  replace G := G.blk hb
  replace B := bthen B hb
  clear hb
  clear l_q l_b
  go_upto_region 8 with fail
  replace G := G.new1 (qb)
  replace B := below_new1 (qb) B
  generalize u5.alloc (.cells (natL (qb)).toArray 27) = v5 at G B ⊢
  generalize u5.heap.size = b_p at G ⊢
  have l_p := natLoad_run (G.get 0 rfl)
  have l_r := natLoad_run (G.get 2 rfl)
  go_wp2_with fail
  refine (HP.out _).mono ?_
  rintro e u6 ⟨rfl, hb⟩
  replace G := G.blk hb
  replace B := bthen B hb
  clear hb
  clear l_p l_r
  go_upto_region 9 with fail
  replace G := G.new1 (a)
  replace B := below_new1 (a) B
  generalize u6.alloc (.cells (natL (a)).toArray 27) = v6 at G B ⊢
  generalize u6.heap.size = b_n at G ⊢
  have l_n := natLoad_run (G.get 0 rfl)
  have l_a := natLoad_run (G.get 5 rfl)
  go_wp2_with fail
  refine (HC1.out _).mono ?_
  rintro e u7 ⟨rfl, hb⟩
  replace G := G.blk hb
  replace B := bthen B hb
  clear hb
  clear l_n l_a
  have l_r := natLoad_run (G.get 3 rfl)
  have l_b := natLoad_run (G.get 4 rfl)
  go_wp2_with fail
  refine (HC2.out _).mono ?_
  rintro e u8 ⟨rfl, hb⟩
  replace G := G.blk hb
  replace B := bthen B hb
  clear hb
  clear l_r l_b
  go_wp2
  go_ret
  exact ⟨rfl, B⟩
theorem divides_walk (s : ByteArray) (hs : s.size ≤ 140737488355328) (t : ByteArray) (ht : t.size ≤ 140737488355328) (W : World) : Calls Tryd.prog 7 #[.string s, .string t] W fun e w' => e = .returned (.bool true) ∧ Below W.heap.size W w' := by
  have haL := lim_512 _ 512 (Nat.le_refl _) (numB_take s.data.toList 512)
  have hbL := lim_512 _ 512 (Nat.le_refl _) (numB_take t.data.toList 512)
  by_cases h : numB (t.data.toList.take 512) = 0
  · exact divides_no s t hs ht _ rfl h haL W
  · exact divides_ok s t hs ht _ _ rfl rfl haL hbL h W
end Go.Proofs.YthjhemodmdficaaDoor
