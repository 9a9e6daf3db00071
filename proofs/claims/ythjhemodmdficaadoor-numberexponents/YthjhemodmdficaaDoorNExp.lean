/- NumberExponents: powers of two exponents make that of their sum; what makes 1 does. -/
import Derived.Test.YthjhemodmdficaaDoorNFx
import Derived.Deep.RegionHeld3
import Derived.Deep.DeepCutAuto
namespace Go.Proofs.YthjhemodmdficaaDoor
set_option linter.unusedVariables false
open Go.RowKit
attribute [local go_sem ↓] loadAt_nat storeAt_nat build_nat build_nat'
attribute [local go_sem] st1 st2a st2b st1d st2ad st2bd natBuild_run
theorem numB_take (l : List UInt8) (n : Nat) : numB (l.take n) < 256 ^ n :=
  Nat.lt_of_lt_of_le (numB_lt _) (Nat.pow_le_pow_right (by omega) (by rw [List.length_take]; omega))
theorem btl_le_of (N k : Nat) (h : N < 256 ^ k) : btl N ≤ 8 * k := by
  have := (nbl_le_iff N k).2 h
  unfold nbl at this
  omega
theorem mul_lim (a b n : Nat) (ha : a < 256 ^ n) (hb : b < 256 ^ n) (hn : n + n ≤ 512) : a * b < Lim := by
  refine lim_512 _ (n + n) hn ?_
  rw [Nat.pow_add]
  exact Nat.mul_lt_mul'' ha hb
theorem pow_sum (a x y m : Nat) : a ^ x % m * (a ^ y % m) % m = a ^ (x + y) % m := by rw [← Nat.mul_mod, ← Nat.pow_add]
set_option maxRecDepth 100000 in
set_option maxHeartbeats 2000000 in
theorem exps_zero (s : ByteArray) (hs : s.size ≤ 140737488355328) (t : ByteArray) (ht : t.size ≤ 140737488355328) (u : ByteArray) (hu : u.size ≤ 140737488355328) (v : ByteArray) (hv : v.size ≤ 140737488355328) (a x y m : Nat) (ha : numB (s.data.toList.take 100) = a) (hx : numB (t.data.toList.take 12) = x) (hy : numB (u.data.toList.take 12) = y) (hm : numB (v.data.toList.take 100) = m) (h0 : m = 0) (W : World) : Calls Tryd.prog 8 #[.string s, .string t, .string u, .string v] W fun e w' => e = .returned (.bool true) ∧ Below W.heap.size W w' := by
  have hz := zero26
  have G : Has W [] := trivial
  have B : Below W.heap.size W W := Below.refl _ _
  have HE := Hid.mk examples_in
  have HA := Hid.mk (lawof_in s 100 hs (by omega))
  rw [ha] at HA
  have HX := Hid.mk (lawof_in t 12 ht (by omega))
  rw [hx] at HX
  have HY := Hid.mk (lawof_in u 12 hu (by omega))
  rw [hy] at HY
  have HM := Hid.mk (lawof_in v 100 hv (by omega))
  rw [hm] at HM
  have HT : Hid (∀ W, Calls Tryd.prog 18 #[.agg (natL 0).toArray] W fun e w' => e = .returned (.int .i64 0) ∧ Below W.heap.size W w') := bits_in 0 (lim_big 1 0 (by omega) (by omega))
  subst h0
  clear ha hx hy hm
  go_enter Tryd.func8, Tryd.ntmps8
  go_wp2_with fail
  refine (HE.out _).mono ?_
  rintro e u1 ⟨rfl, hb⟩
  replace G := G.blk hb
  replace B := bthen B hb
  clear hb
  go_wp2_with fail
  refine (HA.out _).mono ?_
  rintro e u2 ⟨rfl, hb⟩
  replace G := G.blk hb
  replace B := bthen B hb
  clear hb
  go_upto_region 3 with fail
  replace G := G.new1 (a)
  replace B := below_new1 (a) B
  generalize u2.alloc (.cells (natL (a)).toArray 27) = v2 at G B ⊢
  generalize u2.heap.size = b_a at G ⊢
  go_wp2_with fail
  refine (HX.out _).mono ?_
  rintro e u3 ⟨rfl, hb⟩
  replace G := G.blk hb
  replace B := bthen B hb
  clear hb
  go_upto_region 4 with fail
  replace G := G.new1 (x)
  replace B := below_new1 (x) B
  generalize u3.alloc (.cells (natL (x)).toArray 27) = v3 at G B ⊢
  generalize u3.heap.size = b_x at G ⊢
  go_wp2_with fail
  refine (HY.out _).mono ?_
  rintro e u4 ⟨rfl, hb⟩
  replace G := G.blk hb
  replace B := bthen B hb
  clear hb
  go_upto_region 5 with fail
  replace G := G.new1 (y)
  replace B := below_new1 (y) B
  generalize u4.alloc (.cells (natL (y)).toArray 27) = v4 at G B ⊢
  generalize u4.heap.size = b_y at G ⊢
  go_wp2_with fail
  refine (HM.out _).mono ?_
  rintro e u5 ⟨rfl, hb⟩
  replace G := G.blk hb
  replace B := bthen B hb
  clear hb
  go_upto_region 6 with fail
  replace G := G.new1 (0)
  replace B := below_new1 (0) B
  generalize u5.alloc (.cells (natL (0)).toArray 27) = v5 at G B ⊢
  generalize u5.heap.size = b_m at G ⊢
  have l_m := natLoad_run (G.get 0 rfl)
  go_wp2_with fail
  refine (HT.out _).mono ?_
  rintro e u6 ⟨rfl, hb⟩
  replace G := G.blk hb
  replace B := bthen B hb
  clear hb
  clear l_m
  go_wp2
  go_ret
  exact ⟨rfl, B⟩
set_option maxRecDepth 100000 in
set_option maxHeartbeats 2000000 in
theorem exps_main (s : ByteArray) (hs : s.size ≤ 140737488355328) (t : ByteArray) (ht : t.size ≤ 140737488355328) (u : ByteArray) (hu : u.size ≤ 140737488355328) (v : ByteArray) (hv : v.size ≤ 140737488355328) (a x y m : Nat) (ha : numB (s.data.toList.take 100) = a) (hx : numB (t.data.toList.take 12) = x) (hy : numB (u.data.toList.take 12) = y) (hm : numB (v.data.toList.take 100) = m) (ab : a < 256 ^ 100) (xb : x < 256 ^ 12) (yb : y < 256 ^ 12) (mb : m < 256 ^ 100) (h0 : m ≠ 0) (W : World) : Calls Tryd.prog 8 #[.string s, .string t, .string u, .string v] W fun e w' => e = .returned (.bool true) ∧ Below W.heap.size W w' := by
  have hz := zero26
  have G : Has W [] := trivial
  have B : Below W.heap.size W W := Below.refl _ _
  have HE := Hid.mk examples_in
  have HA := Hid.mk (lawof_in s 100 hs (by omega))
  rw [ha] at HA
  have HX := Hid.mk (lawof_in t 12 ht (by omega))
  rw [hx] at HX
  have HY := Hid.mk (lawof_in u 12 hu (by omega))
  rw [hy] at HY
  have HM := Hid.mk (lawof_in v 100 hv (by omega))
  rw [hm] at HM
  have la := lim_512 a 100 (by omega) ab
  have lx := lim_512 x 12 (by omega) xb
  have ly := lim_512 y 12 (by omega) yb
  have lm := lim_512 m 100 (by omega) mb
  have lz : x + y < Lim := lim_512 _ 13 (by omega) (by rw [Nat.pow_succ]; omega)
  have hf : flt m = 0 := (flt_ok m).2 ⟨h0, Nat.le_trans (btl_le_of m 100 mb) (by omega)⟩
  have m0 : 0 < m := Nat.pos_of_ne_zero h0
  have HT := Hid.mk (bits_in m lm)
  have hbt : btl m ≠ 0 := fun h => h0 (by unfold btl at h; split at h <;> omega)
  generalize btl m = bm at HT hbt
  have hbi : ((bm : Int) == 0) = false := by rw [beq_eq_false_iff_ne]; omega
  clear hbt
  have HZ := Hid.mk (add_in x y lx ly)
  rw [natR_ok _ lz] at HZ
  have HP := Hid.mk (pow_in a x m la lx lm)
  have HQ := Hid.mk (pow_in a y m la ly lm)
  have HR := Hid.mk (pow_in a (x + y) m la lz lm)
  rw [powR, if_pos hf] at HP HQ HR
  have pm : a ^ x % m < m := Nat.mod_lt _ m0
  have qm : a ^ y % m < m := Nat.mod_lt _ m0
  have rm : a ^ (x + y) % m < m := Nat.mod_lt _ m0
  have hsum := pow_sum a x y m
  generalize a ^ x % m = p at *
  generalize a ^ y % m = q at *
  generalize a ^ (x + y) % m = r at *
  generalize x + y = z at *
  have hpq : p * q < Lim := mul_lim p q 100 (by omega) (by omega) (by omega)
  have HW := Hid.mk (mul_in p q (by omega) (by omega))
  rw [natR_ok _ hpq] at HW
  have HD := Hid.mk (div_in (p * q) m hpq lm h0)
  rw [hsum] at HD
  generalize p * q = pq at *
  generalize pq / m = dq at HD
  have HC := Hid.mk (cmp_in r r (by omega) (by omega))
  rw [cmpI_eq] at HC
  have HI : Hid (∀ W, Calls Tryd.prog 31 #[.agg (natL a).toArray, .agg (natL m).toArray] W fun e w' => ∃ I v, InvIs a m I v ∧ e = .returned (.tuple #[.agg (natL I).toArray, .int .i64 v]) ∧ Below W.heap.size W w') := fun W => by
    refine (inv_in a m la lm W).mono ?_
    rintro e w' ⟨I, v, h1, h2, h3, rfl, hb⟩
    exact ⟨I, v, h1 hf, rfl, hb⟩
  have HMI : Hid (∀ I, I < m → a * I < Lim) := fun I hI => mul_lim a I 100 ab (by omega) (by omega)
  have HMUL : Hid (∀ I, I < m → ∀ W, Calls Tryd.prog 24 #[.agg (natL a).toArray, .agg (natL I).toArray] W fun e w' => e = .returned (.tuple #[.agg (natL (a * I)).toArray, .int .i64 0]) ∧ Below W.heap.size W w') := fun I hI => by
    have h := mul_in a I la (by omega)
    rw [natR_ok _ (HMI.out I hI)] at h
    exact h
  have HDV : Hid (∀ I, I < m → a * I % m = 1 % m → ∀ W, Calls Tryd.prog 28 #[.agg (natL (a * I)).toArray, .agg (natL m).toArray] W fun e w' => e = .returned (.tuple #[.agg (natL (a * I / m)).toArray, .agg (natL (1 % m)).toArray, .int .i64 0]) ∧ Below W.heap.size W w') := fun I hI he => by
    have h := div_in (a * I) m (HMI.out I hI) lm h0
    rw [he] at h
    exact h
  have HS1 := Hid.mk (small_in 1 (by omega))
  have HD1 := Hid.mk (div_in 1 m (lim_big 1 1 (by omega) (by omega)) lm h0)
  have om : 1 % m < m := Nat.mod_lt _ m0
  have HC1 := Hid.mk (cmp_in (1 % m) (1 % m) (by omega) (by omega))
  rw [cmpI_eq] at HC1
  obtain ⟨o, ho⟩ : ∃ o, 1 % m = o := ⟨_, rfl⟩
  rw [ho] at HD1 om HC1 HDV
  have HO1 := Hid.mk ho
  clear ho
  generalize 1 / m = oq at *
  have HCI : Hid (∀ I, I < m → ∀ W, Calls Tryd.prog 19 #[.agg (natL I).toArray, .agg (natL m).toArray] W fun e w' => e = .returned (.int .i64 (-1)) ∧ Below W.heap.size W w') := fun I hI => by
    have h := cmp_in I m (by omega) lm
    rw [cmpI_lt _ _ hI] at h
    exact h
  clear ha hx hy hm ab xb yb mb la lx ly lm lz hf m0 pm qm rm hsum hpq om h0
  go_enter Tryd.func8, Tryd.ntmps8
  go_wp2_with fail
  refine (HE.out _).mono ?_
  rintro e u1 ⟨rfl, hb⟩
  replace G := G.blk hb
  replace B := bthen B hb
  clear hb
  go_wp2_with fail
  refine (HA.out _).mono ?_
  rintro e u2 ⟨rfl, hb⟩
  replace G := G.blk hb
  replace B := bthen B hb
  clear hb
  go_upto_region 3 with fail
  replace G := G.new1 (a)
  replace B := below_new1 (a) B
  generalize u2.alloc (.cells (natL (a)).toArray 27) = v2 at G B ⊢
  generalize u2.heap.size = b_a at G ⊢
  go_wp2_with fail
  refine (HX.out _).mono ?_
  rintro e u3 ⟨rfl, hb⟩
  replace G := G.blk hb
  replace B := bthen B hb
  clear hb
  go_upto_region 4 with fail
  replace G := G.new1 (x)
  replace B := below_new1 (x) B
  generalize u3.alloc (.cells (natL (x)).toArray 27) = v3 at G B ⊢
  generalize u3.heap.size = b_x at G ⊢
  go_wp2_with fail
  refine (HY.out _).mono ?_
  rintro e u4 ⟨rfl, hb⟩
  replace G := G.blk hb
  replace B := bthen B hb
  clear hb
  go_upto_region 5 with fail
  replace G := G.new1 (y)
  replace B := below_new1 (y) B
  generalize u4.alloc (.cells (natL (y)).toArray 27) = v4 at G B ⊢
  generalize u4.heap.size = b_y at G ⊢
  go_wp2_with fail
  refine (HM.out _).mono ?_
  rintro e u5 ⟨rfl, hb⟩
  replace G := G.blk hb
  replace B := bthen B hb
  clear hb
  go_upto_region 6 with fail
  replace G := G.new1 (m)
  replace B := below_new1 (m) B
  generalize u5.alloc (.cells (natL (m)).toArray 27) = v5 at G B ⊢
  generalize u5.heap.size = b_m at G ⊢
  have l_m := natLoad_run (G.get 0 rfl)
  go_wp2_with fail
  refine (HT.out _).mono ?_
  rintro e u6 ⟨rfl, hb⟩
  replace G := G.blk hb
  replace B := bthen B hb
  clear hb
  clear l_m
  have l_x := natLoad_run (G.get 2 rfl)
  have l_y := natLoad_run (G.get 1 rfl)
  go_wp2_with fail
  refine (HZ.out _).mono ?_
  rintro e u7 ⟨rfl, hb⟩
  replace G := G.blk hb
  replace B := bthen B hb
  clear hb
  clear l_x l_y
  go_upto_region 9 with fail
  replace G := G.new1 (z)
  replace B := below_new1 (z) B
  generalize u7.alloc (.cells (natL (z)).toArray 27) = v7 at G B ⊢
  generalize u7.heap.size = b_z at G ⊢
  have l_a := natLoad_run (G.get 4 rfl)
  have l_x := natLoad_run (G.get 3 rfl)
  have l_m := natLoad_run (G.get 1 rfl)
  go_wp2_with fail
  refine (HP.out _).mono ?_
  rintro e u8 ⟨rfl, hb⟩
  replace G := G.blk hb
  replace B := bthen B hb
  clear hb
  clear l_a l_x l_m
  go_upto_region 10 with fail
  replace G := G.new1 (p)
  replace B := below_new1 (p) B
  generalize u8.alloc (.cells (natL (p)).toArray 27) = v8 at G B ⊢
  generalize u8.heap.size = b_p at G ⊢
  have l_a := natLoad_run (G.get 5 rfl)
  have l_y := natLoad_run (G.get 3 rfl)
  have l_m := natLoad_run (G.get 2 rfl)
  go_wp2_with fail
  refine (HQ.out _).mono ?_
  rintro e u9 ⟨rfl, hb⟩
  replace G := G.blk hb
  replace B := bthen B hb
  clear hb
  clear l_a l_y l_m
  go_upto_region 11 with fail
  replace G := G.new1 (q)
  replace B := below_new1 (q) B
  generalize u9.alloc (.cells (natL (q)).toArray 27) = v9 at G B ⊢
  generalize u9.heap.size = b_q at G ⊢
  have l_a := natLoad_run (G.get 6 rfl)
  have l_z := natLoad_run (G.get 2 rfl)
  have l_m := natLoad_run (G.get 3 rfl)
  go_wp2_with fail
  refine (HR.out _).mono ?_
  rintro e u10 ⟨rfl, hb⟩
  replace G := G.blk hb
  replace B := bthen B hb
  clear hb
  clear l_a l_z l_m
  go_upto_region 12 with fail
  replace G := G.new1 (r)
  replace B := below_new1 (r) B
  generalize u10.alloc (.cells (natL (r)).toArray 27) = v10 at G B ⊢
  generalize u10.heap.size = b_r at G ⊢
  have l_p := natLoad_run (G.get 2 rfl)
  have l_q := natLoad_run (G.get 1 rfl)
  go_wp2_with fail
  refine (HW.out _).mono ?_
  rintro e u11 ⟨rfl, hb⟩
  replace G := G.blk hb
  replace B := bthen B hb
  clear hb
  clear l_p l_q
  go_upto_region 13 with fail
  replace G := G.new1 (pq)
  replace B := below_new1 (pq) B
  generalize u11.alloc (.cells (natL (pq)).toArray 27) = v11 at G B ⊢
  generalize u11.heap.size = b_w at G ⊢
  have l_w := natLoad_run (G.get 0 rfl)
  have l_m := natLoad_run (G.get 5 rfl)
  go_wp2_with fail
  refine (HD.out _).mono ?_
  rintro e u12 ⟨rfl, hb⟩
  replace G := G.blk hb
  replace B := bthen B hb
  clear hb
  clear l_w l_m
  go_upto_region 14 with fail
  replace G := G.new2 (dq) (r)
  replace B := below_new2 (dq) (r) B
  generalize (u12.alloc (.cells (natL (dq)).toArray 27)).alloc (.cells (natL (r)).toArray 27) = v12 at G B ⊢
  generalize u12.heap.size = b_dq at G ⊢
  obtain ⟨b_rest, h_rest⟩ : ∃ x, b_dq + 1 = x := ⟨_, rfl⟩
  rw [h_rest] at G ⊢
  clear h_rest
  have l_rest := natLoad_run (G.get 1 rfl)
  have l_r := natLoad_run (G.get 3 rfl)
  go_wp2_with fail
  refine (HC.out _).mono ?_
  rintro e u13 ⟨rfl, hb⟩
  replace G := G.blk hb
  replace B := bthen B hb
  clear hb
  clear l_rest l_r
  have l_a := natLoad_run (G.get 10 rfl)
  have l_m := natLoad_run (G.get 7 rfl)
  go_wp2_with fail
  refine (HI.out _).mono ?_
  rintro e u14 ⟨I, v, hI, rfl, hb⟩
  replace G := G.blk hb
  replace B := bthen B hb
  clear hb
  clear l_a l_m
  go_upto_region 17 with fail
  replace G := G.new1 (I)
  replace B := below_new1 (I) B
  generalize u14.alloc (.cells (natL (I)).toArray 27) = v14 at G B ⊢
  generalize u14.heap.size = b_i at G ⊢
  rcases hI with ⟨rfl, hIm, hI1⟩ | ⟨rfl, rfl, hI1⟩
  rotate_left
  · go_wp2
    go_ret
    exact ⟨rfl, B⟩
  have HM1 := Hid.mk (HMUL.out I hIm)
  have HD2 := Hid.mk (HDV.out I hIm (hI1.trans HO1.out))
  have HC2 := Hid.mk (HCI.out I hIm)
  generalize a * I / m = dd at HD2
  generalize a * I = ai at *
  clear hI1 hIm
  have l_a := natLoad_run (G.get 11 rfl)
  have l_i := natLoad_run (G.get 0 rfl)
  go_wp2_with fail
  refine (HM1.out _).mono ?_
  rintro e u15 ⟨rfl, hb⟩
  replace G := G.blk hb
  replace B := bthen B hb
  clear hb
  clear l_a l_i
  go_upto_region 20 with fail
  replace G := G.new1 (ai)
  replace B := below_new1 (ai) B
  generalize u15.alloc (.cells (natL (ai)).toArray 27) = v15 at G B ⊢
  generalize u15.heap.size = b_one at G ⊢
  have l_one := natLoad_run (G.get 0 rfl)
  have l_m := natLoad_run (G.get 9 rfl)
  go_wp2_with fail
  refine (HD2.out _).mono ?_
  rintro e u16 ⟨rfl, hb⟩
  replace G := G.blk hb
  replace B := bthen B hb
  clear hb
  clear l_one l_m
  go_upto_region 21 with fail
  replace G := G.new2 (dd) (o)
  replace B := below_new2 (dd) (o) B
  generalize (u16.alloc (.cells (natL (dd)).toArray 27)).alloc (.cells (natL (o)).toArray 27) = v16 at G B ⊢
  generalize u16.heap.size = b_dd at G ⊢
  obtain ⟨b_left, h_left⟩ : ∃ x, b_dd + 1 = x := ⟨_, rfl⟩
  rw [h_left] at G ⊢
  clear h_left
  have F := Fr.start G B
  have HS : Hid (∀ w n l, Fr W n l w → l[11]? = some (b_m, m) → (natLoad (.pointer (some ⟨b_m, 0, none⟩))).run Tryd.prog w = .ok (.agg (natL m).toArray) w) := fun w n l h e => natLoad_run (h.has.get 11 e)
  have HS' : Hid (∀ w, Fr W v16.heap.size [(b_dd, dd), (b_left, o), (b_one, ai), (b_i, I), (b_dq, dq), (b_rest, r), (b_w, pq), (b_r, r), (b_q, q), (b_p, p), (b_z, z), (b_m, m), (b_y, y), (b_x, x), (b_a, a)] w → Fr W v16.heap.size [(b_dd, dd), (b_left, o), (b_one, ai), (b_i, I), (b_dq, dq), (b_rest, r), (b_w, pq), (b_r, r), (b_q, q), (b_p, p), (b_z, z), (b_m, m), (b_y, y), (b_x, x), (b_a, a)] w ∧ (natLoad (.pointer (some ⟨b_m, 0, none⟩))).run Tryd.prog w = .ok (.agg (natL m).toArray) w) := fun w h => ⟨h, HS.out w _ _ h rfl⟩
  have hS0 := HS'.out _ F
  clear G B HS
  go_cut [34, 35] (fun s34 s35 wx => ∃ b, s35 = .pointer (some ⟨b, 0, none⟩) ∧ Fr W v16.heap.size [(b_dd, dd), (b_left, o), (b_one, ai), (b_i, I), (b_dq, dq), (b_rest, r), (b_w, pq), (b_r, r), (b_q, q), (b_p, p), (b_z, z), (b_m, m), (b_y, y), (b_x, x), (b_a, a)] wx ∧ wx.heap[b]? = some (.cells (natL o).toArray 27 (0, 0)))
  case first =>
    go_region_held3 (fun w => Fr W v16.heap.size [(b_dd, dd), (b_left, o), (b_one, ai), (b_i, I), (b_dq, dq), (b_rest, r), (b_w, pq), (b_r, r), (b_q, q), (b_p, p), (b_z, z), (b_m, m), (b_y, y), (b_x, x), (b_a, a)] w ∧ (natLoad (.pointer (some ⟨b_m, 0, none⟩))).run Tryd.prog w = .ok (.agg (natL m).toArray) w)
      (first | assumption | (apply HS'.out; repeat (first | assumption | apply Fr.drew | apply Fr.alloc | apply Fr.setAt | apply Fr.setAt1)))
      (first
        | (go_at_call 12; refine (HS1.out _).mono ?_; rintro e w2 ⟨rfl, hb2⟩; have F2 := Fr.blk (by repeat (first | assumption | apply Fr.drew | apply Fr.alloc | apply Fr.setAt | apply Fr.setAt1)) hb2; have hs2 := HS'.out _ F2
           first
             | (refine kp2d hb2 ?_; intro g1 g2)
             | (refine kp1d hb2 ?_; intro g1)
             | skip)
        | (go_at_call 28; refine (HD1.out _).mono ?_; rintro e w3 ⟨rfl, hb3⟩; have F3 := Fr.blk (by repeat (first | assumption | apply Fr.drew | apply Fr.alloc | apply Fr.setAt | apply Fr.setAt1)) hb3; have hs3 := HS'.out _ F3
           first
             | (refine kp2 hb3 ?_; intro f1 f2; refine fx2 f1 f2 (by omega) ?_; rintro ⟨s1, s2, s12, s21⟩)
             | (refine kp1 hb3 ?_; intro f2; refine fx2 (kpo g1 hb3) f2 (by have := box_lt g1; omega) ?_; rintro ⟨s1, s2, s12, s21⟩)
             | (refine kp1 hb3 ?_; intro f1; refine fx1 f1 ?_; rintro ⟨lt1, s1, s12⟩)
             | (refine fx2 (blk hb3 g1) (blk hb3 g2) (by omega) ?_; rintro ⟨s1, s2, s12, s21⟩)
             | (refine fx1 (blk hb3 g1) ?_; rintro ⟨lt1, s1, s12⟩)
             | skip))
    all_goals go_wp2
    all_goals go_meet
    all_goals (first
      | exact ⟨w3.heap.size + 1, rfl, F3.alloc.alloc, (two_new _ _ _ _ _).2.1⟩
      | exact ⟨w3.heap.size, rfl, F3.alloc.alloc, (two_new _ _ _ _ _).1⟩
      | exact ⟨w3.heap.size, rfl, Fr.setAt F3 (Fr.setAt F F3.alloc), setRow_heap _ _ _ _ _ _ ((setRow_other _ v16.heap.size _ _ (by omega)).trans (heap_new w3 _))⟩
      | exact ⟨v16.heap.size, rfl, Fr.setAt F F3.alloc, setRow_heap _ _ _ _ _ _ ((heap_alloc_old w3 _ lt1).trans (blk hb3 g1))⟩
      | exact ⟨w3.heap.size, rfl, Fr.setAt F3 (Fr.setAt F2 F3.alloc), setRow_heap _ _ _ _ _ _ ((setRow_other _ w2.heap.size _ _ (by omega)).trans (heap_new w3 _))⟩
      | exact ⟨w2.heap.size, rfl, Fr.setAt F2 F3.alloc, setRow_heap _ _ _ _ _ _ ((heap_alloc_old w3 _ lt1).trans f1)⟩
      | exact ⟨v16.heap.size + 1, rfl, Fr.setAt1 F (Fr.setAt F F3), setRow_heap _ _ _ _ _ _ ((setRow_other _ _ _ _ (by omega)).trans (blk hb3 g2))⟩
      | exact ⟨v16.heap.size, rfl, Fr.setAt F (Fr.setAt1 F F3), setRow_heap _ _ _ _ _ _ ((setRow_other _ _ _ _ (by omega)).trans (blk hb3 g1))⟩
      | exact ⟨w2.heap.size, rfl, Fr.setAt F2 (Fr.setAt F F3), setRow_heap _ _ _ _ _ _ ((setRow_other _ _ _ _ (by have := box_lt g1; omega)).trans f2)⟩
      | exact ⟨v16.heap.size, rfl, Fr.setAt F (Fr.setAt F2 F3), setRow_heap _ _ _ _ _ _ ((setRow_other _ _ _ _ (by have := box_lt g1; omega)).trans (kpo g1 hb3))⟩
      | exact ⟨w2.heap.size + 1, rfl, Fr.setAt1 F2 (Fr.setAt F2 F3), setRow_heap _ _ _ _ _ _ ((setRow_other _ _ _ _ (by omega)).trans f2)⟩
      | exact ⟨w2.heap.size, rfl, Fr.setAt F2 (Fr.setAt1 F2 F3), setRow_heap _ _ _ _ _ _ ((setRow_other _ _ _ _ (by omega)).trans f1)⟩)
  case rest =>
    obtain ⟨b_want, rfl, F5, hbw⟩ := hcut
    have G : Has wc ((b_want, o) :: [(b_dd, dd), (b_left, o), (b_one, ai), (b_i, I), (b_dq, dq), (b_rest, r), (b_w, pq), (b_r, r), (b_q, q), (b_p, p), (b_z, z), (b_m, m), (b_y, y), (b_x, x), (b_a, a)]) := ⟨hbw, F5.has⟩
    have B := F5.bel
    clear F hS0 F5 hbw
    have l_left := natLoad_run (G.get 2 rfl)
    have l_want := natLoad_run (G.get 0 rfl)
    go_wp2_with fail
    refine (HC1.out _).mono ?_
    rintro e u17 ⟨rfl, hb⟩
    replace G := G.blk hb
    replace B := bthen B hb
    clear hb
    clear l_left l_want
    have l_i := natLoad_run (G.get 4 rfl)
    have l_m := natLoad_run (G.get 12 rfl)
    go_wp2_with fail
    refine (HC2.out _).mono ?_
    rintro e u18 ⟨rfl, hb⟩
    replace G := G.blk hb
    replace B := bthen B hb
    clear hb
    clear l_i l_m
    go_wp2
    go_ret
    exact ⟨rfl, B⟩
theorem exps_walk (s : ByteArray) (hs : s.size ≤ 140737488355328) (t : ByteArray) (ht : t.size ≤ 140737488355328) (u : ByteArray) (hu : u.size ≤ 140737488355328) (v : ByteArray) (hv : v.size ≤ 140737488355328) (W : World) : Calls Tryd.prog 8 #[.string s, .string t, .string u, .string v] W fun e w' => e = .returned (.bool true) ∧ Below W.heap.size W w' := by
  by_cases h : numB (v.data.toList.take 100) = 0
  · exact exps_zero s hs t ht u hu v hv _ _ _ _ rfl rfl rfl rfl h W
  · exact exps_main s hs t ht u hu v hv _ _ _ _ rfl rfl rfl rfl (numB_take _ _) (numB_take _ _) (numB_take _ _) (numB_take _ _) h W
end Go.Proofs.YthjhemodmdficaaDoor
