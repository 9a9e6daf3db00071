/- NumberLaws: sums and products in any order and any grouping. -/
import Derived.Test.YthjhemodmdficaaDoorNEx
namespace Go.Proofs.YthjhemodmdficaaDoor
set_option linter.unusedVariables false
open Go.RowKit
attribute [local go_sem ↓] loadAt_nat storeAt_nat build_nat build_nat'
attribute [local go_sem] st1 st2a st2b natBuild_run
theorem numB_take (l : List UInt8) (n : Nat) : numB (l.take n) < 256 ^ n :=
  Nat.lt_of_lt_of_le (numB_lt _) (Nat.pow_le_pow_right (by omega) (by rw [List.length_take]; omega))
theorem pow_le4 (j m : Nat) (h : j ≤ 4 * m) : (256 : Nat) ^ j ≤ 4294967296 ^ m := by
  rw [← pow4]
  exact Nat.pow_le_pow_right (by omega) h
theorem sq_lim (P n : Nat) (hP : 256 ^ n = P) (h1 : 1 ≤ n) (hn : n + n + 1 ≤ 4 * 128) : 2 * (P * P) ≤ Lim ∧ 2 * P ≤ P * P ∧ 1 < P := by
  have e1 : P * P = 256 ^ (n + n) := by rw [← hP, ← Nat.pow_add]
  have e2 : 2 * (P * P) ≤ 256 ^ (n + n + 1) := by rw [Nat.pow_succ, ← e1]; omega
  have e3 : 256 ^ (n + n + 1) ≤ Lim := pow_le4 _ 128 hn
  have e4 : 256 ^ 1 ≤ P := by rw [← hP]; exact Nat.pow_le_pow_right (by omega) h1
  have e5 : 2 * P ≤ P * P := Nat.mul_le_mul_right _ (by omega)
  exact ⟨Nat.le_trans e2 e3, e5, by omega⟩
set_option maxRecDepth 100000 in
set_option maxHeartbeats 1000000 in
theorem laws_walk (s : ByteArray) (hs : s.size ≤ 140737488355328) (t : ByteArray) (ht : t.size ≤ 140737488355328) (u : ByteArray) (hu : u.size ≤ 140737488355328) (W : World) : Calls Tryd.prog 6 #[.string s, .string t, .string u] W fun e w' => e = .returned (.bool true) ∧ Below W.heap.size W w' := by
  have hz := zero26
  have G : Has W [] := trivial
  have B : Below W.heap.size W W := Below.refl _ _
  have HE := Hid.mk examples_in
  have HA := Hid.mk (lawof_in s 150 hs (by omega))
  have ab := numB_take s.data.toList 150
  generalize numB (s.data.toList.take 150) = a at HA ab
  have HB := Hid.mk (lawof_in t 150 ht (by omega))
  have bb := numB_take t.data.toList 150
  generalize numB (t.data.toList.take 150) = b at HB bb
  have HC := Hid.mk (lawof_in u 150 hu (by omega))
  have cb := numB_take u.data.toList 150
  generalize numB (u.data.toList.take 150) = c at HC cb
  obtain ⟨P, hP⟩ : ∃ P, 256 ^ 150 = P := ⟨_, rfl⟩
  have hPP := sq_lim P 150 hP (by omega) (by omega)
  rw [hP] at ab bb cb
  clear hP
  obtain ⟨p1, p2, p3⟩ := hPP
  have m1 : ∀ x y, x < P → y < P → x * y < P * P := fun x y hx hy => Nat.mul_lt_mul'' hx hy
  have mab := m1 a b ab bb
  have mac := m1 a c ab cb
  have mbc := m1 b c bb cb
  have dis : (a + b) * c = a * c + b * c := Nat.add_mul a b c
  have com : b * a = a * b := Nat.mul_comm b a
  have sco : b + a = a + b := Nat.add_comm b a
  have X := Hid.mk (add_in a b (by omega) (by omega))
  rw [natR_ok _ (by omega)] at X
  have Y := Hid.mk (add_in b a (by omega) (by omega))
  rw [natR_ok _ (by omega), sco] at Y
  have P1 := Hid.mk (mul_in a b (by omega) (by omega))
  rw [natR_ok _ (by omega)] at P1
  have Q1 := Hid.mk (mul_in b a (by omega) (by omega))
  rw [natR_ok _ (by omega), com] at Q1
  have L1 := Hid.mk (mul_in (a + b) c (by omega) (by omega))
  rw [natR_ok _ (by omega), dis] at L1
  have M1 := Hid.mk (mul_in a c (by omega) (by omega))
  rw [natR_ok _ (by omega)] at M1
  have N1 := Hid.mk (mul_in b c (by omega) (by omega))
  rw [natR_ok _ (by omega)] at N1
  have R1 := Hid.mk (add_in (a * c) (b * c) (by omega) (by omega))
  rw [natR_ok _ (by omega)] at R1
  have K1 := Hid.mk (sub_in (a + b) b (by omega) (by omega))
  rw [show subR (a + b) b = .returned (.tuple #[.agg (natL a).toArray, .int .i64 0]) from (if_pos (by omega)).trans (by rw [Nat.add_sub_cancel])] at K1
  have C1 := Hid.mk (cmp_in (a + b) (a + b) (by omega) (by omega))
  rw [cmpI_eq] at C1
  have C2 := Hid.mk (cmp_in (a * b) (a * b) (by omega) (by omega))
  rw [cmpI_eq] at C2
  have C3 := Hid.mk (cmp_in (a * c + b * c) (a * c + b * c) (by omega) (by omega))
  rw [cmpI_eq] at C3
  have C4 := Hid.mk (cmp_in a a (by omega) (by omega))
  rw [cmpI_eq] at C4
  clear dis com sco m1 mab mac mbc p1 p2 p3 ab bb cb
  generalize a * c + b * c = r at *
  generalize a * c = ac at *
  generalize b * c = bc at *
  generalize a * b = ab at *
  generalize a + b = x at *
  go_enter Tryd.func6, Tryd.ntmps6
  go_wp2_with fail
  refine (HE.out _).mono ?_
  rintro e u1 ⟨rfl, hb⟩
  replace G := G.blk hb
  replace B := bthen B hb
  clear hb
  go_wp2_with fail
  refine (HA.out _).mono ?_
  rintro e u2 ⟨rfl, hb⟩
  replace G := G.blk hb
  replace B := bthen B hb
  clear hb
  go_upto_region 3 with fail
  replace G := G.new1 (a)
  replace B := below_new1 (a) B
  generalize u2.alloc (.cells (natL (a)).toArray 27) = v2 at G B ⊢
  generalize u2.heap.size = b_a at G ⊢
  go_wp2_with fail
  refine (HB.out _).mono ?_
  rintro e u3 ⟨rfl, hb⟩
  replace G := G.blk hb
  replace B := bthen B hb
  clear hb
  go_upto_region 4 with fail
  replace G := G.new1 (b)
  replace B := below_new1 (b) B
  generalize u3.alloc (.cells (natL (b)).toArray 27) = v3 at G B ⊢
  generalize u3.heap.size = b_b at G ⊢
  go_wp2_with fail
  refine (HC.out _).mono ?_
  rintro e u4 ⟨rfl, hb⟩
  replace G := G.blk hb
  replace B := bthen B hb
  clear hb
  go_upto_region 5 with fail
  replace G := G.new1 (c)
  replace B := below_new1 (c) B
  generalize u4.alloc (.cells (natL (c)).toArray 27) = v4 at G B ⊢
  generalize u4.heap.size = b_c at G ⊢
  have l_a := natLoad_run (G.get 2 rfl)
  have l_b := natLoad_run (G.get 1 rfl)
  go_wp2_with fail
  refine (X.out _).mono ?_
  rintro e u5 ⟨rfl, hb⟩
  replace G := G.blk hb
  replace B := bthen B hb
  clear hb
  clear l_a l_b
  go_upto_region 6 with fail
  replace G := G.new1 (x)
  replace B := below_new1 (x) B
  generalize u5.alloc (.cells (natL (x)).toArray 27) = v5 at G B ⊢
  generalize u5.heap.size = b_x at G ⊢
  have l_a := natLoad_run (G.get 3 rfl)
  have l_b := natLoad_run (G.get 2 rfl)
  go_wp2_with fail
  refine (Y.out _).mono ?_
  rintro e u6 ⟨rfl, hb⟩
  replace G := G.blk hb
  replace B := bthen B hb
  clear hb
  clear l_a l_b
  go_upto_region 7 with fail
  replace G := G.new1 (x)
  replace B := below_new1 (x) B
  generalize u6.alloc (.cells (natL (x)).toArray 27) = v6 at G B ⊢
  generalize u6.heap.size = b_y at G ⊢
  have l_a := natLoad_run (G.get 4 rfl)
  have l_b := natLoad_run (G.get 3 rfl)
  go_wp2_with fail
  refine (P1.out _).mono ?_
  rintro e u7 ⟨rfl, hb⟩
  replace G := G.blk hb
  replace B := bthen B hb
  clear hb
  clear l_a l_b
  go_upto_region 8 with fail
  replace G := G.new1 (ab)
  replace B := below_new1 (ab) B
  generalize u7.alloc (.cells (natL (ab)).toArray 27) = v7 at G B ⊢
  generalize u7.heap.size = b_p at G ⊢
  have l_a := natLoad_run (G.get 5 rfl)
  have l_b := natLoad_run (G.get 4 rfl)
  go_wp2_with fail
  refine (Q1.out _).mono ?_
  rintro e u8 ⟨rfl, hb⟩
  replace G := G.blk hb
  replace B := bthen B hb
  clear hb
  clear l_a l_b
  go_upto_region 9 with fail
  replace G := G.new1 (ab)
  replace B := below_new1 (ab) B
  generalize u8.alloc (.cells (natL (ab)).toArray 27) = v8 at G B ⊢
  generalize u8.heap.size = b_q at G ⊢
  have l_x := natLoad_run (G.get 3 rfl)
  have l_c := natLoad_run (G.get 4 rfl)
  go_wp2_with fail
  refine (L1.out _).mono ?_
  rintro e u9 ⟨rfl, hb⟩
  replace G := G.blk hb
  replace B := bthen B hb
  clear hb
  clear l_x l_c
  go_upto_region 10 with fail
  replace G := G.new1 (r)
  replace B := below_new1 (r) B
  generalize u9.alloc (.cells (natL (r)).toArray 27) = v9 at G B ⊢
  generalize u9.heap.size = b_l at G ⊢
  have l_a := natLoad_run (G.get 7 rfl)
  have l_c := natLoad_run (G.get 5 rfl)
  go_wp2_with fail
  refine (M1.out _).mono ?_
  rintro e u10 ⟨rfl, hb⟩
  replace G := G.blk hb
  replace B := bthen B hb
  clear hb
  clear l_a l_c
  go_upto_region 11 with fail
  replace G := G.new1 (ac)
  replace B := below_new1 (ac) B
  generalize u10.alloc (.cells (natL (ac)).toArray 27) = v10 at G B ⊢
  generalize u10.heap.size = b_m at G ⊢
  have l_b := natLoad_run (G.get 7 rfl)
  have l_c := natLoad_run (G.get 6 rfl)
  go_wp2_with fail
  refine (N1.out _).mono ?_
  rintro e u11 ⟨rfl, hb⟩
  replace G := G.blk hb
  replace B := bthen B hb
  clear hb
  clear l_b l_c
  go_upto_region 12 with fail
  replace G := G.new1 (bc)
  replace B := below_new1 (bc) B
  generalize u11.alloc (.cells (natL (bc)).toArray 27) = v11 at G B ⊢
  generalize u11.heap.size = b_n at G ⊢
  have l_m := natLoad_run (G.get 1 rfl)
  have l_n := natLoad_run (G.get 0 rfl)
  go_wp2_with fail
  refine (R1.out _).mono ?_
  rintro e u12 ⟨rfl, hb⟩
  replace G := G.blk hb
  replace B := bthen B hb
  clear hb
  clear l_m l_n
  go_upto_region 13 with fail
  replace G := G.new1 (r)
  replace B := below_new1 (r) B
  generalize u12.alloc (.cells (natL (r)).toArray 27) = v12 at G B ⊢
  generalize u12.heap.size = b_r at G ⊢
  have l_x := natLoad_run (G.get 7 rfl)
  have l_b := natLoad_run (G.get 9 rfl)
  go_wp2_with fail
  refine (K1.out _).mono ?_
  rintro e u13 ⟨rfl, hb⟩
  replace G := G.blk hb
  replace B := bthen B hb
  clear hb
  clear l_x l_b
  go_upto_region 14 with fail
  replace G := G.new1 (a)
  replace B := below_new1 (a) B
  generalize u13.alloc (.cells (natL (a)).toArray 27) = v13 at G B ⊢
  generalize u13.heap.size = b_k at G ⊢
  have l_x := natLoad_run (G.get 8 rfl)
  have l_y := natLoad_run (G.get 7 rfl)
  go_wp2_with fail
  refine (C1.out _).mono ?_
  rintro e u14 ⟨rfl, hb⟩
  replace G := G.blk hb
  replace B := bthen B hb
  clear hb
  clear l_x l_y
  have l_p := natLoad_run (G.get 6 rfl)
  have l_q := natLoad_run (G.get 5 rfl)
  go_wp2_with fail
  refine (C2.out _).mono ?_
  rintro e u15 ⟨rfl, hb⟩
  replace G := G.blk hb
  replace B := bthen B hb
  clear hb
  clear l_p l_q
  have l_l := natLoad_run (G.get 4 rfl)
  have l_r := natLoad_run (G.get 1 rfl)
  go_wp2_with fail
  refine (C3.out _).mono ?_
  rintro e u16 ⟨rfl, hb⟩
  replace G := G.blk hb
  replace B := bthen B hb
  clear hb
  clear l_l l_r
  have l_k := natLoad_run (G.get 0 rfl)
  have l_a := natLoad_run (G.get 11 rfl)
  go_wp2_with fail
  refine (C4.out _).mono ?_
  rintro e u17 ⟨rfl, hb⟩
  replace G := G.blk hb
  replace B := bthen B hb
  clear hb
  clear l_k l_a
  go_wp2
  go_ret
  exact ⟨rfl, B⟩
end Go.Proofs.YthjhemodmdficaaDoor
