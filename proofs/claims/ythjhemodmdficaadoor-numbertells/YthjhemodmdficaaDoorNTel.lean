/- NumberTells: any bytes are the number that they tell, and are told again. -/
import Derived.Test.YthjhemodmdficaaDoorNR6
namespace Go.Proofs.YthjhemodmdficaaDoor
set_option linter.unusedVariables false
open Go.RowKit
attribute [local go_sem ↓] loadAt_nat storeAt_nat build_nat build_nat'
attribute [local go_sem] st1 st2a st2b natBuild_run
theorem below_same {w w' : World} (h : w' = w) : Below w.heap.size w w' := by rw [h]; exact Below.refl _ _
theorem below_drew {w w' : World} (h : ∃ n, w' = w.drewN n) : Below w.heap.size w w' := by
  obtain ⟨n, rfl⟩ := h
  exact below_dn w n
theorem bits_of_lim {N : Nat} (h : N < Lim) : mny N ≤ 70368744177664 ∧ btl N ≤ 700000 := ⟨Nat.le_trans (mny_le N h) (by omega), Nat.le_trans (btl_le N h) (by omega)⟩
set_option maxRecDepth 100000 in
set_option maxHeartbeats 400000 in
theorem is_in (N : Nat) (hN : N < Lim) (e : Int) (v : Value) (W : World) (hv : RN W v N) (he : e = 0 ∨ (e = 3 ∧ N = 0)) : Calls Tryd.prog 14 #[.agg (natL N).toArray, .int .i64 e, v, .int .i64 e] W fun r w' => r = .returned (.bool true) ∧ Below W.heap.size W w' := by
  have b0 := boxed W (natL N) 27
  have hBl : Below W.heap.size W (W.alloc (.cells (natL N).toArray 27)) := (Below.refl _ _).alloc (Nat.le_refl _) _
  have l0 := natLoad_run b0
  rcases he with rfl | ⟨rfl, rfl⟩
  · have HY := Hid.mk (bytes_in N hN)
    have HR : Hid (∀ W', RN W' v N → Calls Tryd.prog 39 #[v] W' fun e w' => e = .returned (.string ⟨(bys N (nbl N)).toArray⟩) ∧ Below W'.heap.size W' w') := fun W' h => rbytes_in W' v N h (bits_of_lim hN).2
    have X := hv.blk hBl
    generalize (⟨(bys N (nbl N)).toArray⟩ : ByteArray) = S at HY HR
    clear hv
    go_enter Tryd.func14, Tryd.ntmps14
    go_wp2_with fail
    refine (HY.out _).mono ?_
    rintro e w1 ⟨rfl, hb⟩
    replace X := X.blk hb
    have B := bthen hBl hb
    clear l0 b0 hb
    go_wp2_with fail
    refine (HR.out _ X).mono ?_
    rintro e w2 ⟨rfl, hb⟩
    replace B := bthen B hb
    go_wp2
    go_ret
    exact ⟨rfl, B⟩
  · have HT : Hid (∀ W, Calls Tryd.prog 18 #[.agg (natL 0).toArray] W fun e w' => e = .returned (.int .i64 0) ∧ Below W.heap.size W w') := bits_in 0 hN
    go_enter Tryd.func14, Tryd.ntmps14
    go_wp2_with fail
    refine (HT.out _).mono ?_
    rintro e w1 ⟨rfl, hb⟩
    have B := bthen hBl hb
    clear l0 b0 hb
    go_wp2
    go_ret
    exact ⟨rfl, B⟩
/-- what both Ofs answer. -/
theorem of_both (s : ByteArray) (hs : s.size ≤ 140737488351232) : ∃ (A : Nat) (e : Int), A < Lim ∧ (e = 0 ∨ (e = 3 ∧ A = 0)) ∧ (∀ W, Calls Tryd.prog 10 #[.string s] W fun r w' => r = .returned (.tuple #[.agg (natL A).toArray, .int .i64 e]) ∧ Below W.heap.size W w') ∧
    (∀ W, Calls Tryd.prog 11 #[.string s] W fun r w' => ∃ v, r = .returned (.tuple #[v, .int .i64 e]) ∧ RN w' v A ∧ Below W.heap.size W w') := by
  have h512 := strip_512 s.data.toList 512 128 (by omega)
  by_cases h : numB s.data.toList < Lim
  · refine ⟨numB s.data.toList, 0, h, .inl rfl, fun W => ?_, fun W => ?_⟩
    · have := of_in s (by omega) W
      rw [ofR_ok _ (h512.2 h)] at this
      exact this
    · refine (rof_in s hs W).mono ?_
      rintro r w' ⟨v, x, rfl, h1, h2, hb⟩
      obtain ⟨rfl, hr⟩ := h1 h
      exact ⟨v, rfl, hr, hb⟩
  · refine ⟨0, 3, Nat.pow_pos (by omega), .inr ⟨rfl, rfl⟩, fun W => ?_, fun W => ?_⟩
    · have := of_in s (by omega) W
      rw [ofR, if_neg (fun hh => h (h512.1 hh))] at this
      exact this
    · refine (rof_in s hs W).mono ?_
      rintro r w' ⟨v, x, rfl, h1, h2, hb⟩
      obtain ⟨rfl, hr⟩ := h2 h
      exact ⟨v, rfl, hr, hb⟩
set_option maxRecDepth 100000 in
set_option maxHeartbeats 1000000 in
theorem tells_neg (s : ByteArray) (A : Nat) (e : Int) (hof : A < Lim ∧ (e = 0 ∨ (e = 3 ∧ A = 0)) ∧ (∀ W, Calls Tryd.prog 10 #[.string s] W fun r w' => r = .returned (.tuple #[.agg (natL A).toArray, .int .i64 e]) ∧ Below W.heap.size W w') ∧ (∀ W, Calls Tryd.prog 11 #[.string s] W fun r w' => ∃ v, r = .returned (.tuple #[v, .int .i64 e]) ∧ RN w' v A ∧ Below W.heap.size W w')) (n : Nat) (hn : n < 18446744073709551616) (m : Int) (hm : m < 0) (W : World) : Calls Tryd.prog 3 #[.string s, .int .i64 m, .int .u64 (n : Int)] W fun e w' => e = .returned (.bool true) ∧ Below W.heap.size W w' := by
  have hz := zero26
  have G : Has W [] := trivial
  have B : Below W.heap.size W W := Below.refl _ _
  have HE := Hid.mk examples_in
  obtain ⟨hAL, hev, hO, hRO⟩ := hof
  have HO := Hid.mk hO
  have HRO := Hid.mk hRO
  clear hO hRO
  have hnL : n < Lim := lim_big 2 n (by omega) (by omega)
  have HS := Hid.mk (small_in n hn)
  have HRS := Hid.mk (rsmall_in n hn)
  have HI1 : Hid (∀ v W, RN W v A → Calls Tryd.prog 14 #[.agg (natL A).toArray, .int .i64 e, v, .int .i64 e] W fun r w' => r = .returned (.bool true) ∧ Below W.heap.size W w') := fun v W h => is_in A hAL e v W h hev
  have HI2 : Hid (∀ v W, RN W v n → Calls Tryd.prog 14 #[.agg (natL n).toArray, .int .i64 0, v, .int .i64 0] W fun r w' => r = .returned (.bool true) ∧ Below W.heap.size W w') := fun v W h => is_in n hnL 0 v W h (.inl rfl)
  have HBX : Hid (∀ v W, RN W v A → Calls Tryd.prog 16 #[v] W fun r w' => r = .returned (.int .i64 (btl A : Int)) ∧ Below W.heap.size W w') := fun v W h => (rbits_in W v A h (bits_of_lim hAL).1).mono fun r w' hh => ⟨hh.1, below_same hh.2⟩
  have HCX : Hid (∀ v u W, RN W v A → RN W u n → Calls Tryd.prog 20 #[v, u] W fun r w' => r = .returned (.int .i64 (cmpI A n)) ∧ Below W.heap.size W w') := fun v u W h k => (rcmp_in W v u A n h k).mono fun r w' hh => ⟨hh.1, below_drew hh.2⟩
  have HB := Hid.mk (bits_in A hAL)
  have HC := Hid.mk (cmp_in A n hAL hnL)
  have HW := Hid.mk (wide_neg A m hAL hm)
  have hm6 : ¬ ((600 : Int) < m) := by omega
  have hm7 : m ≤ 600 := by omega
  generalize btl A = ba at *
  generalize cmpI A n = cv at *
  clear hAL hnL hn hev
  go_enter Tryd.func3, Tryd.ntmps3
  go_wp2_with fail
  refine (HE.out _).mono ?_
  rintro e u1 ⟨rfl, hb⟩
  replace G := G.blk hb
  replace B := bthen B hb
  clear hb
  go_wp2_with fail
  refine (HO.out _).mono ?_
  rintro e u2 ⟨rfl, hb⟩
  replace G := G.blk hb
  replace B := bthen B hb
  clear hb
  go_upto_region 3 with fail
  replace G := G.new1 (A)
  replace B := below_new1 (A) B
  generalize u2.alloc (.cells (natL (A)).toArray 27) = v2 at G B ⊢
  generalize u2.heap.size = b_a at G ⊢
  go_wp2_with fail
  refine (HRO.out _).mono ?_
  rintro e u3 ⟨vx, rfl, X, hb⟩
  replace G := G.blk hb
  replace B := bthen B hb
  clear hb
  go_wp2_with fail
  refine (HS.out _).mono ?_
  rintro e u4 ⟨rfl, hb⟩
  replace G := G.blk hb
  replace B := bthen B hb
  replace X := X.blk hb
  clear hb
  go_upto_region 5 with fail
  replace G := G.new1 (n)
  replace B := below_new1 (n) B
  replace X := X.blk (w' := u4.alloc (.cells (natL (n)).toArray 27)) ((Below.refl _ _).alloc (Nat.le_refl _) _)
  generalize u4.alloc (.cells (natL (n)).toArray 27) = v4 at G B X ⊢
  generalize u4.heap.size = b_b at G ⊢
  go_wp2_with fail
  refine (HRS.out _).mono ?_
  rintro e u5 ⟨vy, rfl, Y, hb⟩
  replace G := G.blk hb
  replace B := bthen B hb
  replace X := X.blk hb
  clear hb
  have l_a := natLoad_run (G.get 1 rfl)
  go_wp2_with fail
  refine (HI1.out vx _ X).mono ?_
  rintro e u6 ⟨rfl, hb⟩
  replace G := G.blk hb
  replace B := bthen B hb
  replace X := X.blk hb
  replace Y := Y.blk hb
  clear hb
  clear l_a
  have l_b := natLoad_run (G.get 0 rfl)
  go_wp2_with fail
  refine (HI2.out vy _ Y).mono ?_
  rintro e u7 ⟨rfl, hb⟩
  replace G := G.blk hb
  replace B := bthen B hb
  replace X := X.blk hb
  replace Y := Y.blk hb
  clear hb
  clear l_b
  have l_a := natLoad_run (G.get 1 rfl)
  go_wp2_with fail
  refine (HW.out _).mono ?_
  rintro e u8 ⟨rfl, hb⟩
  replace G := G.blk hb
  replace B := bthen B hb
  replace X := X.blk hb
  replace Y := Y.blk hb
  clear hb
  clear l_a
  have l_a := natLoad_run (G.get 1 rfl)
  go_wp2_with fail
  refine (HB.out _).mono ?_
  rintro e u9 ⟨rfl, hb⟩
  replace G := G.blk hb
  replace B := bthen B hb
  replace X := X.blk hb
  replace Y := Y.blk hb
  clear hb
  clear l_a
  go_wp2_with fail
  refine (HBX.out vx _ X).mono ?_
  rintro e u10 ⟨rfl, hb⟩
  replace G := G.blk hb
  replace B := bthen B hb
  replace X := X.blk hb
  replace Y := Y.blk hb
  clear hb
  have l_a := natLoad_run (G.get 1 rfl)
  have l_b := natLoad_run (G.get 0 rfl)
  go_wp2_with fail
  refine (HC.out _).mono ?_
  rintro e u11 ⟨rfl, hb⟩
  replace G := G.blk hb
  replace B := bthen B hb
  replace X := X.blk hb
  replace Y := Y.blk hb
  clear hb
  clear l_a l_b
  go_wp2_with fail
  refine (HCX.out vx vy _ X Y).mono ?_
  rintro e u12 ⟨rfl, hb⟩
  replace G := G.blk hb
  replace B := bthen B hb
  replace X := X.blk hb
  replace Y := Y.blk hb
  clear hb
  go_wp2
  go_ret
  exact ⟨rfl, B⟩
set_option maxRecDepth 100000 in
set_option maxHeartbeats 1000000 in
theorem tells_small1 (s : ByteArray) (A : Nat) (e : Int) (hof : A < Lim ∧ (e = 0 ∨ (e = 3 ∧ A = 0)) ∧ (∀ W, Calls Tryd.prog 10 #[.string s] W fun r w' => r = .returned (.tuple #[.agg (natL A).toArray, .int .i64 e]) ∧ Below W.heap.size W w') ∧ (∀ W, Calls Tryd.prog 11 #[.string s] W fun r w' => ∃ v, r = .returned (.tuple #[v, .int .i64 e]) ∧ RN w' v A ∧ Below W.heap.size W w')) (n : Nat) (hn : n < 18446744073709551616) (L : Nat) (hL : L ≤ 600) (hfit : nbl A ≤ L) (W : World) : Calls Tryd.prog 3 #[.string s, .int .i64 (L : Int), .int .u64 (n : Int)] W fun e w' => e = .returned (.bool true) ∧ Below W.heap.size W w' := by
  have hz := zero26
  have G : Has W [] := trivial
  have B : Below W.heap.size W W := Below.refl _ _
  have HE := Hid.mk examples_in
  obtain ⟨hAL, hev, hO, hRO⟩ := hof
  have HO := Hid.mk hO
  have HRO := Hid.mk hRO
  clear hO hRO
  have hnL : n < Lim := lim_big 2 n (by omega) (by omega)
  have HS := Hid.mk (small_in n hn)
  have HRS := Hid.mk (rsmall_in n hn)
  have HI1 : Hid (∀ v W, RN W v A → Calls Tryd.prog 14 #[.agg (natL A).toArray, .int .i64 e, v, .int .i64 e] W fun r w' => r = .returned (.bool true) ∧ Below W.heap.size W w') := fun v W h => is_in A hAL e v W h hev
  have HI2 : Hid (∀ v W, RN W v n → Calls Tryd.prog 14 #[.agg (natL n).toArray, .int .i64 0, v, .int .i64 0] W fun r w' => r = .returned (.bool true) ∧ Below W.heap.size W w') := fun v W h => is_in n hnL 0 v W h (.inl rfl)
  have HBX : Hid (∀ v W, RN W v A → Calls Tryd.prog 16 #[v] W fun r w' => r = .returned (.int .i64 (btl A : Int)) ∧ Below W.heap.size W w') := fun v W h => (rbits_in W v A h (bits_of_lim hAL).1).mono fun r w' hh => ⟨hh.1, below_same hh.2⟩
  have HCX : Hid (∀ v u W, RN W v A → RN W u n → Calls Tryd.prog 20 #[v, u] W fun r w' => r = .returned (.int .i64 (cmpI A n)) ∧ Below W.heap.size W w') := fun v u W h k => (rcmp_in W v u A n h k).mono fun r w' hh => ⟨hh.1, below_drew hh.2⟩
  have HB := Hid.mk (bits_in A hAL)
  have HC := Hid.mk (cmp_in A n hAL hnL)
  have HW : Hid (∀ W, Calls Tryd.prog 15 #[.agg (natL A).toArray, .int .i64 (L : Int)] W fun e w' => e = .returned (.tuple #[.string ⟨(bys A L).toArray⟩, .int .i64 0]) ∧ Below W.heap.size W w') := wide_in A L hAL (by omega) hfit
  have HRW : Hid (∀ v W, RN W v A → Calls Tryd.prog 17 #[v, .int .i64 (L : Int)] W fun e w' => e = .returned (.string ⟨(bys A L).toArray⟩) ∧ Below W.heap.size W w') := fun v W h => rwide_in W v A L h (by omega)
  generalize (⟨(bys A L).toArray⟩ : ByteArray) = S at HW HRW
  have hbt : ¬ (8 * (L : Int) < (btl A : Int)) := by unfold nbl at hfit; omega
  have hbt2 : (btl A : Int) ≤ 8 * (L : Int) := by omega
  have hm0 : (0 : Int) ≤ (L : Int) := by omega
  have hm6 : ¬ ((600 : Int) < (L : Int)) := by omega
  have hm7 : (L : Int) ≤ 600 := by omega
  clear hfit
  generalize btl A = ba at *
  generalize cmpI A n = cv at *
  clear hAL hnL hn hev
  go_enter Tryd.func3, Tryd.ntmps3
  go_wp2_with fail
  refine (HE.out _).mono ?_
  rintro e u1 ⟨rfl, hb⟩
  replace G := G.blk hb
  replace B := bthen B hb
  clear hb
  go_wp2_with fail
  refine (HO.out _).mono ?_
  rintro e u2 ⟨rfl, hb⟩
  replace G := G.blk hb
  replace B := bthen B hb
  clear hb
  go_upto_region 3 with fail
  replace G := G.new1 (A)
  replace B := below_new1 (A) B
  generalize u2.alloc (.cells (natL (A)).toArray 27) = v2 at G B ⊢
  generalize u2.heap.size = b_a at G ⊢
  go_wp2_with fail
  refine (HRO.out _).mono ?_
  rintro e u3 ⟨vx, rfl, X, hb⟩
  replace G := G.blk hb
  replace B := bthen B hb
  clear hb
  go_wp2_with fail
  refine (HS.out _).mono ?_
  rintro e u4 ⟨rfl, hb⟩
  replace G := G.blk hb
  replace B := bthen B hb
  replace X := X.blk hb
  clear hb
  go_upto_region 5 with fail
  replace G := G.new1 (n)
  replace B := below_new1 (n) B
  replace X := X.blk (w' := u4.alloc (.cells (natL (n)).toArray 27)) ((Below.refl _ _).alloc (Nat.le_refl _) _)
  generalize u4.alloc (.cells (natL (n)).toArray 27) = v4 at G B X ⊢
  generalize u4.heap.size = b_b at G ⊢
  go_wp2_with fail
  refine (HRS.out _).mono ?_
  rintro e u5 ⟨vy, rfl, Y, hb⟩
  replace G := G.blk hb
  replace B := bthen B hb
  replace X := X.blk hb
  clear hb
  have l_a := natLoad_run (G.get 1 rfl)
  go_wp2_with fail
  refine (HI1.out vx _ X).mono ?_
  rintro e u6 ⟨rfl, hb⟩
  replace G := G.blk hb
  replace B := bthen B hb
  replace X := X.blk hb
  replace Y := Y.blk hb
  clear hb
  clear l_a
  have l_b := natLoad_run (G.get 0 rfl)
  go_wp2_with fail
  refine (HI2.out vy _ Y).mono ?_
  rintro e u7 ⟨rfl, hb⟩
  replace G := G.blk hb
  replace B := bthen B hb
  replace X := X.blk hb
  replace Y := Y.blk hb
  clear hb
  clear l_b
  have l_a := natLoad_run (G.get 1 rfl)
  go_wp2_with fail
  refine (HW.out _).mono ?_
  rintro e u8 ⟨rfl, hb⟩
  replace G := G.blk hb
  replace B := bthen B hb
  replace X := X.blk hb
  replace Y := Y.blk hb
  clear hb
  clear l_a
  go_wp2_with fail
  refine (HBX.out vx _ X).mono ?_
  rintro e u9 ⟨rfl, hb⟩
  replace G := G.blk hb
  replace B := bthen B hb
  replace X := X.blk hb
  replace Y := Y.blk hb
  clear hb
  go_wp2_with fail
  refine (HRW.out vx _ X).mono ?_
  rintro e u10 ⟨rfl, hb⟩
  replace G := G.blk hb
  replace B := bthen B hb
  replace X := X.blk hb
  replace Y := Y.blk hb
  clear hb
  have l_a := natLoad_run (G.get 1 rfl)
  go_wp2_with fail
  refine (HB.out _).mono ?_
  rintro e u11 ⟨rfl, hb⟩
  replace G := G.blk hb
  replace B := bthen B hb
  replace X := X.blk hb
  replace Y := Y.blk hb
  clear hb
  clear l_a
  go_wp2_with fail
  refine (HBX.out vx _ X).mono ?_
  rintro e u12 ⟨rfl, hb⟩
  replace G := G.blk hb
  replace B := bthen B hb
  replace X := X.blk hb
  replace Y := Y.blk hb
  clear hb
  have l_a := natLoad_run (G.get 1 rfl)
  have l_b := natLoad_run (G.get 0 rfl)
  go_wp2_with fail
  refine (HC.out _).mono ?_
  rintro e u13 ⟨rfl, hb⟩
  replace G := G.blk hb
  replace B := bthen B hb
  replace X := X.blk hb
  replace Y := Y.blk hb
  clear hb
  clear l_a l_b
  go_wp2_with fail
  refine (HCX.out vx vy _ X Y).mono ?_
  rintro e u14 ⟨rfl, hb⟩
  replace G := G.blk hb
  replace B := bthen B hb
  replace X := X.blk hb
  replace Y := Y.blk hb
  clear hb
  go_wp2
  go_ret
  exact ⟨rfl, B⟩
set_option maxRecDepth 100000 in
set_option maxHeartbeats 1000000 in
theorem tells_big1 (s : ByteArray) (A : Nat) (e : Int) (hof : A < Lim ∧ (e = 0 ∨ (e = 3 ∧ A = 0)) ∧ (∀ W, Calls Tryd.prog 10 #[.string s] W fun r w' => r = .returned (.tuple #[.agg (natL A).toArray, .int .i64 e]) ∧ Below W.heap.size W w') ∧ (∀ W, Calls Tryd.prog 11 #[.string s] W fun r w' => ∃ v, r = .returned (.tuple #[v, .int .i64 e]) ∧ RN w' v A ∧ Below W.heap.size W w')) (n : Nat) (hn : n < 18446744073709551616) (m : Int) (hm6 : 600 < m) (hfit : nbl A ≤ 600) (W : World) : Calls Tryd.prog 3 #[.string s, .int .i64 m, .int .u64 (n : Int)] W fun e w' => e = .returned (.bool true) ∧ Below W.heap.size W w' := by
  have hz := zero26
  have G : Has W [] := trivial
  have B : Below W.heap.size W W := Below.refl _ _
  have HE := Hid.mk examples_in
  obtain ⟨hAL, hev, hO, hRO⟩ := hof
  have HO := Hid.mk hO
  have HRO := Hid.mk hRO
  clear hO hRO
  have hnL : n < Lim := lim_big 2 n (by omega) (by omega)
  have HS := Hid.mk (small_in n hn)
  have HRS := Hid.mk (rsmall_in n hn)
  have HI1 : Hid (∀ v W, RN W v A → Calls Tryd.prog 14 #[.agg (natL A).toArray, .int .i64 e, v, .int .i64 e] W fun r w' => r = .returned (.bool true) ∧ Below W.heap.size W w') := fun v W h => is_in A hAL e v W h hev
  have HI2 : Hid (∀ v W, RN W v n → Calls Tryd.prog 14 #[.agg (natL n).toArray, .int .i64 0, v, .int .i64 0] W fun r w' => r = .returned (.bool true) ∧ Below W.heap.size W w') := fun v W h => is_in n hnL 0 v W h (.inl rfl)
  have HBX : Hid (∀ v W, RN W v A → Calls Tryd.prog 16 #[v] W fun r w' => r = .returned (.int .i64 (btl A : Int)) ∧ Below W.heap.size W w') := fun v W h => (rbits_in W v A h (bits_of_lim hAL).1).mono fun r w' hh => ⟨hh.1, below_same hh.2⟩
  have HCX : Hid (∀ v u W, RN W v A → RN W u n → Calls Tryd.prog 20 #[v, u] W fun r w' => r = .returned (.int .i64 (cmpI A n)) ∧ Below W.heap.size W w') := fun v u W h k => (rcmp_in W v u A n h k).mono fun r w' hh => ⟨hh.1, below_drew hh.2⟩
  have HB := Hid.mk (bits_in A hAL)
  have HC := Hid.mk (cmp_in A n hAL hnL)
  have HW : Hid (∀ W, Calls Tryd.prog 15 #[.agg (natL A).toArray, .int .i64 600] W fun e w' => e = .returned (.tuple #[.string ⟨(bys A 600).toArray⟩, .int .i64 0]) ∧ Below W.heap.size W w') := wide_in A 600 hAL (by omega) hfit
  have HRW : Hid (∀ v W, RN W v A → Calls Tryd.prog 17 #[v, .int .i64 600] W fun e w' => e = .returned (.string ⟨(bys A 600).toArray⟩) ∧ Below W.heap.size W w') := fun v W h => rwide_in W v A 600 h (by omega)
  generalize (⟨(bys A 600).toArray⟩ : ByteArray) = S at HW HRW
  have hbt : ¬ (8 * (600 : Int) < (btl A : Int)) := by unfold nbl at hfit; omega
  have hbt2 : (btl A : Int) ≤ 8 * (600 : Int) := by omega
  have hbt3 : (btl A : Int) ≤ 4800 := by omega
  have hbt4 : ¬ ((4800 : Int) < (btl A : Int)) := by omega
  clear hfit
  generalize btl A = ba at *
  generalize cmpI A n = cv at *
  clear hAL hnL hn hev
  go_enter Tryd.func3, Tryd.ntmps3
  go_wp2_with fail
  refine (HE.out _).mono ?_
  rintro e u1 ⟨rfl, hb⟩
  replace G := G.blk hb
  replace B := bthen B hb
  clear hb
  go_wp2_with fail
  refine (HO.out _).mono ?_
  rintro e u2 ⟨rfl, hb⟩
  replace G := G.blk hb
  replace B := bthen B hb
  clear hb
  go_upto_region 3 with fail
  replace G := G.new1 (A)
  replace B := below_new1 (A) B
  generalize u2.alloc (.cells (natL (A)).toArray 27) = v2 at G B ⊢
  generalize u2.heap.size = b_a at G ⊢
  go_wp2_with fail
  refine (HRO.out _).mono ?_
  rintro e u3 ⟨vx, rfl, X, hb⟩
  replace G := G.blk hb
  replace B := bthen B hb
  clear hb
  go_wp2_with fail
  refine (HS.out _).mono ?_
  rintro e u4 ⟨rfl, hb⟩
  replace G := G.blk hb
  replace B := bthen B hb
  replace X := X.blk hb
  clear hb
  go_upto_region 5 with fail
  replace G := G.new1 (n)
  replace B := below_new1 (n) B
  replace X := X.blk (w' := u4.alloc (.cells (natL (n)).toArray 27)) ((Below.refl _ _).alloc (Nat.le_refl _) _)
  generalize u4.alloc (.cells (natL (n)).toArray 27) = v4 at G B X ⊢
  generalize u4.heap.size = b_b at G ⊢
  go_wp2_with fail
  refine (HRS.out _).mono ?_
  rintro e u5 ⟨vy, rfl, Y, hb⟩
  replace G := G.blk hb
  replace B := bthen B hb
  replace X := X.blk hb
  clear hb
  have l_a := natLoad_run (G.get 1 rfl)
  go_wp2_with fail
  refine (HI1.out vx _ X).mono ?_
  rintro e u6 ⟨rfl, hb⟩
  replace G := G.blk hb
  replace B := bthen B hb
  replace X := X.blk hb
  replace Y := Y.blk hb
  clear hb
  clear l_a
  have l_b := natLoad_run (G.get 0 rfl)
  go_wp2_with fail
  refine (HI2.out vy _ Y).mono ?_
  rintro e u7 ⟨rfl, hb⟩
  replace G := G.blk hb
  replace B := bthen B hb
  replace X := X.blk hb
  replace Y := Y.blk hb
  clear hb
  clear l_b
  have l_a := natLoad_run (G.get 1 rfl)
  go_wp2_with fail
  refine (HW.out _).mono ?_
  rintro e u8 ⟨rfl, hb⟩
  replace G := G.blk hb
  replace B := bthen B hb
  replace X := X.blk hb
  replace Y := Y.blk hb
  clear hb
  clear l_a
  go_wp2_with fail
  refine (HBX.out vx _ X).mono ?_
  rintro e u9 ⟨rfl, hb⟩
  replace G := G.blk hb
  replace B := bthen B hb
  replace X := X.blk hb
  replace Y := Y.blk hb
  clear hb
  go_wp2_with fail
  refine (HRW.out vx _ X).mono ?_
  rintro e u10 ⟨rfl, hb⟩
  replace G := G.blk hb
  replace B := bthen B hb
  replace X := X.blk hb
  replace Y := Y.blk hb
  clear hb
  have l_a := natLoad_run (G.get 1 rfl)
  go_wp2_with fail
  refine (HB.out _).mono ?_
  rintro e u11 ⟨rfl, hb⟩
  replace G := G.blk hb
  replace B := bthen B hb
  replace X := X.blk hb
  replace Y := Y.blk hb
  clear hb
  clear l_a
  go_wp2_with fail
  refine (HBX.out vx _ X).mono ?_
  rintro e u12 ⟨rfl, hb⟩
  replace G := G.blk hb
  replace B := bthen B hb
  replace X := X.blk hb
  replace Y := Y.blk hb
  clear hb
  have l_a := natLoad_run (G.get 1 rfl)
  have l_b := natLoad_run (G.get 0 rfl)
  go_wp2_with fail
  refine (HC.out _).mono ?_
  rintro e u13 ⟨rfl, hb⟩
  replace G := G.blk hb
  replace B := bthen B hb
  replace X := X.blk hb
  replace Y := Y.blk hb
  clear hb
  clear l_a l_b
  go_wp2_with fail
  refine (HCX.out vx vy _ X Y).mono ?_
  rintro e u14 ⟨rfl, hb⟩
  replace G := G.blk hb
  replace B := bthen B hb
  replace X := X.blk hb
  replace Y := Y.blk hb
  clear hb
  go_wp2
  go_ret
  exact ⟨rfl, B⟩
set_option maxRecDepth 100000 in
set_option maxHeartbeats 1000000 in
theorem tells_small0 (s : ByteArray) (A : Nat) (e : Int) (hof : A < Lim ∧ (e = 0 ∨ (e = 3 ∧ A = 0)) ∧ (∀ W, Calls Tryd.prog 10 #[.string s] W fun r w' => r = .returned (.tuple #[.agg (natL A).toArray, .int .i64 e]) ∧ Below W.heap.size W w') ∧ (∀ W, Calls Tryd.prog 11 #[.string s] W fun r w' => ∃ v, r = .returned (.tuple #[v, .int .i64 e]) ∧ RN w' v A ∧ Below W.heap.size W w')) (n : Nat) (hn : n < 18446744073709551616) (L : Nat) (hL : L ≤ 600) (hfit : ¬ nbl A ≤ L) (W : World) : Calls Tryd.prog 3 #[.string s, .int .i64 (L : Int), .int .u64 (n : Int)] W fun e w' => e = .returned (.bool true) ∧ Below W.heap.size W w' := by
  have hz := zero26
  have G : Has W [] := trivial
  have B : Below W.heap.size W W := Below.refl _ _
  have HE := Hid.mk examples_in
  obtain ⟨hAL, hev, hO, hRO⟩ := hof
  have HO := Hid.mk hO
  have HRO := Hid.mk hRO
  clear hO hRO
  have hnL : n < Lim := lim_big 2 n (by omega) (by omega)
  have HS := Hid.mk (small_in n hn)
  have HRS := Hid.mk (rsmall_in n hn)
  have HI1 : Hid (∀ v W, RN W v A → Calls Tryd.prog 14 #[.agg (natL A).toArray, .int .i64 e, v, .int .i64 e] W fun r w' => r = .returned (.bool true) ∧ Below W.heap.size W w') := fun v W h => is_in A hAL e v W h hev
  have HI2 : Hid (∀ v W, RN W v n → Calls Tryd.prog 14 #[.agg (natL n).toArray, .int .i64 0, v, .int .i64 0] W fun r w' => r = .returned (.bool true) ∧ Below W.heap.size W w') := fun v W h => is_in n hnL 0 v W h (.inl rfl)
  have HBX : Hid (∀ v W, RN W v A → Calls Tryd.prog 16 #[v] W fun r w' => r = .returned (.int .i64 (btl A : Int)) ∧ Below W.heap.size W w') := fun v W h => (rbits_in W v A h (bits_of_lim hAL).1).mono fun r w' hh => ⟨hh.1, below_same hh.2⟩
  have HCX : Hid (∀ v u W, RN W v A → RN W u n → Calls Tryd.prog 20 #[v, u] W fun r w' => r = .returned (.int .i64 (cmpI A n)) ∧ Below W.heap.size W w') := fun v u W h k => (rcmp_in W v u A n h k).mono fun r w' hh => ⟨hh.1, below_drew hh.2⟩
  have HB := Hid.mk (bits_in A hAL)
  have HC := Hid.mk (cmp_in A n hAL hnL)
  have HW : Hid (∀ W, Calls Tryd.prog 15 #[.agg (natL A).toArray, .int .i64 (L : Int)] W fun e w' => e = .returned (.tuple #[.string ⟨#[]⟩, .int .i64 3]) ∧ Below W.heap.size W w') := wide_long A L hAL (by omega) (by omega)
  have hbt : 8 * (L : Int) < (btl A : Int) := by unfold nbl at hfit; omega
  have hm0 : (0 : Int) ≤ (L : Int) := by omega
  have hm6 : ¬ ((600 : Int) < (L : Int)) := by omega
  have hm7 : (L : Int) ≤ 600 := by omega
  clear hfit
  generalize btl A = ba at *
  generalize cmpI A n = cv at *
  clear hAL hnL hn hev
  go_enter Tryd.func3, Tryd.ntmps3
  go_wp2_with fail
  refine (HE.out _).mono ?_
  rintro e u1 ⟨rfl, hb⟩
  replace G := G.blk hb
  replace B := bthen B hb
  clear hb
  go_wp2_with fail
  refine (HO.out _).mono ?_
  rintro e u2 ⟨rfl, hb⟩
  replace G := G.blk hb
  replace B := bthen B hb
  clear hb
  go_upto_region 3 with fail
  replace G := G.new1 (A)
  replace B := below_new1 (A) B
  generalize u2.alloc (.cells (natL (A)).toArray 27) = v2 at G B ⊢
  generalize u2.heap.size = b_a at G ⊢
  go_wp2_with fail
  refine (HRO.out _).mono ?_
  rintro e u3 ⟨vx, rfl, X, hb⟩
  replace G := G.blk hb
  replace B := bthen B hb
  clear hb
  go_wp2_with fail
  refine (HS.out _).mono ?_
  rintro e u4 ⟨rfl, hb⟩
  replace G := G.blk hb
  replace B := bthen B hb
  replace X := X.blk hb
  clear hb
  go_upto_region 5 with fail
  replace G := G.new1 (n)
  replace B := below_new1 (n) B
  replace X := X.blk (w' := u4.alloc (.cells (natL (n)).toArray 27)) ((Below.refl _ _).alloc (Nat.le_refl _) _)
  generalize u4.alloc (.cells (natL (n)).toArray 27) = v4 at G B X ⊢
  generalize u4.heap.size = b_b at G ⊢
  go_wp2_with fail
  refine (HRS.out _).mono ?_
  rintro e u5 ⟨vy, rfl, Y, hb⟩
  replace G := G.blk hb
  replace B := bthen B hb
  replace X := X.blk hb
  clear hb
  have l_a := natLoad_run (G.get 1 rfl)
  go_wp2_with fail
  refine (HI1.out vx _ X).mono ?_
  rintro e u6 ⟨rfl, hb⟩
  replace G := G.blk hb
  replace B := bthen B hb
  replace X := X.blk hb
  replace Y := Y.blk hb
  clear hb
  clear l_a
  have l_b := natLoad_run (G.get 0 rfl)
  go_wp2_with fail
  refine (HI2.out vy _ Y).mono ?_
  rintro e u7 ⟨rfl, hb⟩
  replace G := G.blk hb
  replace B := bthen B hb
  replace X := X.blk hb
  replace Y := Y.blk hb
  clear hb
  clear l_b
  have l_a := natLoad_run (G.get 1 rfl)
  go_wp2_with fail
  refine (HW.out _).mono ?_
  rintro e u8 ⟨rfl, hb⟩
  replace G := G.blk hb
  replace B := bthen B hb
  replace X := X.blk hb
  replace Y := Y.blk hb
  clear hb
  clear l_a
  go_wp2_with fail
  refine (HBX.out vx _ X).mono ?_
  rintro e u9 ⟨rfl, hb⟩
  replace G := G.blk hb
  replace B := bthen B hb
  replace X := X.blk hb
  replace Y := Y.blk hb
  clear hb
  have l_a := natLoad_run (G.get 1 rfl)
  go_wp2_with fail
  refine (HB.out _).mono ?_
  rintro e u10 ⟨rfl, hb⟩
  replace G := G.blk hb
  replace B := bthen B hb
  replace X := X.blk hb
  replace Y := Y.blk hb
  clear hb
  clear l_a
  go_wp2_with fail
  refine (HBX.out vx _ X).mono ?_
  rintro e u11 ⟨rfl, hb⟩
  replace G := G.blk hb
  replace B := bthen B hb
  replace X := X.blk hb
  replace Y := Y.blk hb
  clear hb
  have l_a := natLoad_run (G.get 1 rfl)
  have l_b := natLoad_run (G.get 0 rfl)
  go_wp2_with fail
  refine (HC.out _).mono ?_
  rintro e u12 ⟨rfl, hb⟩
  replace G := G.blk hb
  replace B := bthen B hb
  replace X := X.blk hb
  replace Y := Y.blk hb
  clear hb
  clear l_a l_b
  go_wp2_with fail
  refine (HCX.out vx vy _ X Y).mono ?_
  rintro e u13 ⟨rfl, hb⟩
  replace G := G.blk hb
  replace B := bthen B hb
  replace X := X.blk hb
  replace Y := Y.blk hb
  clear hb
  go_wp2
  go_ret
  exact ⟨rfl, B⟩
set_option maxRecDepth 100000 in
set_option maxHeartbeats 1000000 in
theorem tells_big0 (s : ByteArray) (A : Nat) (e : Int) (hof : A < Lim ∧ (e = 0 ∨ (e = 3 ∧ A = 0)) ∧ (∀ W, Calls Tryd.prog 10 #[.string s] W fun r w' => r = .returned (.tuple #[.agg (natL A).toArray, .int .i64 e]) ∧ Below W.heap.size W w') ∧ (∀ W, Calls Tryd.prog 11 #[.string s] W fun r w' => ∃ v, r = .returned (.tuple #[v, .int .i64 e]) ∧ RN w' v A ∧ Below W.heap.size W w')) (n : Nat) (hn : n < 18446744073709551616) (m : Int) (hm6 : 600 < m) (hfit : ¬ nbl A ≤ 600) (W : World) : Calls Tryd.prog 3 #[.string s, .int .i64 m, .int .u64 (n : Int)] W fun e w' => e = .returned (.bool true) ∧ Below W.heap.size W w' := by
  have hz := zero26
  have G : Has W [] := trivial
  have B : Below W.heap.size W W := Below.refl _ _
  have HE := Hid.mk examples_in
  obtain ⟨hAL, hev, hO, hRO⟩ := hof
  have HO := Hid.mk hO
  have HRO := Hid.mk hRO
  clear hO hRO
  have hnL : n < Lim := lim_big 2 n (by omega) (by omega)
  have HS := Hid.mk (small_in n hn)
  have HRS := Hid.mk (rsmall_in n hn)
  have HI1 : Hid (∀ v W, RN W v A → Calls Tryd.prog 14 #[.agg (natL A).toArray, .int .i64 e, v, .int .i64 e] W fun r w' => r = .returned (.bool true) ∧ Below W.heap.size W w') := fun v W h => is_in A hAL e v W h hev
  have HI2 : Hid (∀ v W, RN W v n → Calls Tryd.prog 14 #[.agg (natL n).toArray, .int .i64 0, v, .int .i64 0] W fun r w' => r = .returned (.bool true) ∧ Below W.heap.size W w') := fun v W h => is_in n hnL 0 v W h (.inl rfl)
  have HBX : Hid (∀ v W, RN W v A → Calls Tryd.prog 16 #[v] W fun r w' => r = .returned (.int .i64 (btl A : Int)) ∧ Below W.heap.size W w') := fun v W h => (rbits_in W v A h (bits_of_lim hAL).1).mono fun r w' hh => ⟨hh.1, below_same hh.2⟩
  have HCX : Hid (∀ v u W, RN W v A → RN W u n → Calls Tryd.prog 20 #[v, u] W fun r w' => r = .returned (.int .i64 (cmpI A n)) ∧ Below W.heap.size W w') := fun v u W h k => (rcmp_in W v u A n h k).mono fun r w' hh => ⟨hh.1, below_drew hh.2⟩
  have HB := Hid.mk (bits_in A hAL)
  have HC := Hid.mk (cmp_in A n hAL hnL)
  have HW : Hid (∀ W, Calls Tryd.prog 15 #[.agg (natL A).toArray, .int .i64 600] W fun e w' => e = .returned (.tuple #[.string ⟨#[]⟩, .int .i64 3]) ∧ Below W.heap.size W w') := wide_long A 600 hAL (by omega) (by omega)
  have hbt : 8 * (600 : Int) < (btl A : Int) := by unfold nbl at hfit; omega
  have hbt3 : (4800 : Int) < (btl A : Int) := by omega
  clear hfit
  generalize btl A = ba at *
  generalize cmpI A n = cv at *
  clear hAL hnL hn hev
  go_enter Tryd.func3, Tryd.ntmps3
  go_wp2_with fail
  refine (HE.out _).mono ?_
  rintro e u1 ⟨rfl, hb⟩
  replace G := G.blk hb
  replace B := bthen B hb
  clear hb
  go_wp2_with fail
  refine (HO.out _).mono ?_
  rintro e u2 ⟨rfl, hb⟩
  replace G := G.blk hb
  replace B := bthen B hb
  clear hb
  go_upto_region 3 with fail
  replace G := G.new1 (A)
  replace B := below_new1 (A) B
  generalize u2.alloc (.cells (natL (A)).toArray 27) = v2 at G B ⊢
  generalize u2.heap.size = b_a at G ⊢
  go_wp2_with fail
  refine (HRO.out _).mono ?_
  rintro e u3 ⟨vx, rfl, X, hb⟩
  replace G := G.blk hb
  replace B := bthen B hb
  clear hb
  go_wp2_with fail
  refine (HS.out _).mono ?_
  rintro e u4 ⟨rfl, hb⟩
  replace G := G.blk hb
  replace B := bthen B hb
  replace X := X.blk hb
  clear hb
  go_upto_region 5 with fail
  replace G := G.new1 (n)
  replace B := below_new1 (n) B
  replace X := X.blk (w' := u4.alloc (.cells (natL (n)).toArray 27)) ((Below.refl _ _).alloc (Nat.le_refl _) _)
  generalize u4.alloc (.cells (natL (n)).toArray 27) = v4 at G B X ⊢
  generalize u4.heap.size = b_b at G ⊢
  go_wp2_with fail
  refine (HRS.out _).mono ?_
  rintro e u5 ⟨vy, rfl, Y, hb⟩
  replace G := G.blk hb
  replace B := bthen B hb
  replace X := X.blk hb
  clear hb
  have l_a := natLoad_run (G.get 1 rfl)
  go_wp2_with fail
  refine (HI1.out vx _ X).mono ?_
  rintro e u6 ⟨rfl, hb⟩
  replace G := G.blk hb
  replace B := bthen B hb
  replace X := X.blk hb
  replace Y := Y.blk hb
  clear hb
  clear l_a
  have l_b := natLoad_run (G.get 0 rfl)
  go_wp2_with fail
  refine (HI2.out vy _ Y).mono ?_
  rintro e u7 ⟨rfl, hb⟩
  replace G := G.blk hb
  replace B := bthen B hb
  replace X := X.blk hb
  replace Y := Y.blk hb
  clear hb
  clear l_b
  have l_a := natLoad_run (G.get 1 rfl)
  go_wp2_with fail
  refine (HW.out _).mono ?_
  rintro e u8 ⟨rfl, hb⟩
  replace G := G.blk hb
  replace B := bthen B hb
  replace X := X.blk hb
  replace Y := Y.blk hb
  clear hb
  clear l_a
  go_wp2_with fail
  refine (HBX.out vx _ X).mono ?_
  rintro e u9 ⟨rfl, hb⟩
  replace G := G.blk hb
  replace B := bthen B hb
  replace X := X.blk hb
  replace Y := Y.blk hb
  clear hb
  have l_a := natLoad_run (G.get 1 rfl)
  go_wp2_with fail
  refine (HB.out _).mono ?_
  rintro e u10 ⟨rfl, hb⟩
  replace G := G.blk hb
  replace B := bthen B hb
  replace X := X.blk hb
  replace Y := Y.blk hb
  clear hb
  clear l_a
  go_wp2_with fail
  refine (HBX.out vx _ X).mono ?_
  rintro e u11 ⟨rfl, hb⟩
  replace G := G.blk hb
  replace B := bthen B hb
  replace X := X.blk hb
  replace Y := Y.blk hb
  clear hb
  have l_a := natLoad_run (G.get 1 rfl)
  have l_b := natLoad_run (G.get 0 rfl)
  go_wp2_with fail
  refine (HC.out _).mono ?_
  rintro e u12 ⟨rfl, hb⟩
  replace G := G.blk hb
  replace B := bthen B hb
  replace X := X.blk hb
  replace Y := Y.blk hb
  clear hb
  clear l_a l_b
  go_wp2_with fail
  refine (HCX.out vx vy _ X Y).mono ?_
  rintro e u13 ⟨rfl, hb⟩
  replace G := G.blk hb
  replace B := bthen B hb
  replace X := X.blk hb
  replace Y := Y.blk hb
  clear hb
  go_wp2
  go_ret
  exact ⟨rfl, B⟩
theorem tells_walk (s : ByteArray) (hs : s.size ≤ 140737488351232) (m : Int) (n : Nat) (hn : n < 18446744073709551616) (W : World) : Calls Tryd.prog 3 #[.string s, .int .i64 m, .int .u64 (n : Int)] W fun e w' => e = .returned (.bool true) ∧ Below W.heap.size W w' := by
  obtain ⟨A, e, hof⟩ := of_both s hs
  by_cases h0 : m < 0
  · exact tells_neg s A e hof n hn m h0 W
  · by_cases h6 : 600 < m
    · by_cases hf : nbl A ≤ 600
      · exact tells_big1 s A e hof n hn m h6 hf W
      · exact tells_big0 s A e hof n hn m h6 hf W
    · obtain ⟨L, rfl⟩ := Int.eq_ofNat_of_zero_le (show 0 ≤ m by omega)
      by_cases hf : nbl A ≤ L
      · exact tells_small1 s A e hof n hn L (by omega) hf W
      · exact tells_small0 s A e hof n hn L (by omega) hf W
end Go.Proofs.YthjhemodmdficaaDoor
