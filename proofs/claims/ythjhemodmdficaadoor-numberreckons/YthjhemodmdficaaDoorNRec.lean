/- NumberReckons: sums, differences, products, quotients are what the document says. -/
import Derived.Test.YthjhemodmdficaaDoorNR13
import Derived.Deep.RegionHeld3
namespace Go.Proofs.YthjhemodmdficaaDoor
set_option linter.unusedVariables false
open Go.RowKit
attribute [local go_sem ↓] loadAt_nat storeAt_nat build_nat build_nat'
attribute [local go_sem] st1 st2a st2b natBuild_run
theorem bits_of_lim {N : Nat} (h : N < Lim) : mny N ≤ 70368744177664 ∧ btl N ≤ 700000 := ⟨Nat.le_trans (mny_le N h) (by omega), Nat.le_trans (btl_le N h) (by omega)⟩
set_option maxRecDepth 100000 in
set_option maxHeartbeats 400000 in
theorem is_in (N : Nat) (hN : N < Lim) (e : Int) (v : Value) (W : World) (hv : RN W v N) (he : e = 0 ∨ (e = 3 ∧ N = 0)) : Calls Tryd.prog 14 #[.agg (natL N).toArray, .int .i64 e, v, .int .i64 e] W fun r w' => r = .returned (.bool true) ∧ Below W.heap.size W w' := by
  have b0 := boxed W (natL N) 27
  have hBl : Below W.heap.size W (W.alloc (.cells (natL N).toArray 27)) := (Below.refl _ _).alloc (Nat.le_refl _) _
  have l0 := natLoad_run b0
  rcases he with rfl | ⟨rfl, rfl⟩
  · have HY := Hid.mk (bytes_in N hN)
    have HR : Hid (∀ W', RN W' v N → Calls Tryd.prog 39 #[v] W' fun e w' => e = .returned (.string ⟨(bys N (nbl N)).toArray⟩) ∧ Below W'.heap.size W' w') := fun W' h => rbytes_in W' v N h (bits_of_lim hN).2
    have X := hv.blk hBl
    generalize (⟨(bys N (nbl N)).toArray⟩ : ByteArray) = S at HY HR
    clear hv
    go_enter Tryd.func14, Tryd.ntmps14
    go_wp2_with fail
    refine (HY.out _).mono ?_
    rintro e w1 ⟨rfl, hb⟩
    replace X := X.blk hb
    have B := bthen hBl hb
    clear l0 b0 hb
    go_wp2_with fail
    refine (HR.out _ X).mono ?_
    rintro e w2 ⟨rfl, hb⟩
    replace B := bthen B hb
    go_wp2
    go_ret
    exact ⟨rfl, B⟩
  · have HT : Hid (∀ W, Calls Tryd.prog 18 #[.agg (natL 0).toArray] W fun e w' => e = .returned (.int .i64 0) ∧ Below W.heap.size W w') := bits_in 0 hN
    go_enter Tryd.func14, Tryd.ntmps14
    go_wp2_with fail
    refine (HT.out _).mono ?_
    rintro e w1 ⟨rfl, hb⟩
    have B := bthen hBl hb
    clear l0 b0 hb
    go_wp2
    go_ret
    exact ⟨rfl, B⟩
/-- what both Ofs answer. -/
theorem of_both (s : ByteArray) (hs : s.size ≤ 140737488351232) : ∃ (A : Nat) (e : Int), A < Lim ∧ (e = 0 ∨ (e = 3 ∧ A = 0)) ∧ (∀ W, Calls Tryd.prog 10 #[.string s] W fun r w' => r = .returned (.tuple #[.agg (natL A).toArray, .int .i64 e]) ∧ Below W.heap.size W w') ∧
    (∀ W, Calls Tryd.prog 11 #[.string s] W fun r w' => ∃ v, r = .returned (.tuple #[v, .int .i64 e]) ∧ RN w' v A ∧ Below W.heap.size W w') := by
  have h512 := strip_512 s.data.toList 512 128 (by omega)
  by_cases h : numB s.data.toList < Lim
  · refine ⟨numB s.data.toList, 0, h, .inl rfl, fun W => ?_, fun W => ?_⟩
    · have := of_in s (by omega) W
      rw [ofR_ok _ (h512.2 h)] at this
      exact this
    · refine (rof_in s hs W).mono ?_
      rintro r w' ⟨v, x, rfl, h1, h2, hb⟩
      obtain ⟨rfl, hr⟩ := h1 h
      exact ⟨v, rfl, hr, hb⟩
  · refine ⟨0, 3, Nat.pow_pos (by omega), .inr ⟨rfl, rfl⟩, fun W => ?_, fun W => ?_⟩
    · have := of_in s (by omega) W
      rw [ofR, if_neg (fun hh => h (h512.1 hh))] at this
      exact this
    · refine (rof_in s hs W).mono ?_
      rintro r w' ⟨v, x, rfl, h1, h2, hb⟩
      obtain ⟨rfl, hr⟩ := h2 h
      exact ⟨v, rfl, hr, hb⟩
theorem RN.slice {w : World} {v : Value} {N : Nat} (h : RN w v N) : ∃ p c, v = .slice p (mny N) c := by
  obtain ⟨ds, hr, rfl, ht⟩ := h
  obtain ⟨p, c, rfl, -⟩ := hr.read
  exact ⟨p, c, by rw [ht.many]⟩
set_option maxRecDepth 100000 in
set_option maxHeartbeats 400000 in
theorem is_err (v : Value) (W : World) : Calls Tryd.prog 14 #[.agg (natL 0).toArray, .int .i64 3, v, .int .i64 3] W fun r w' => r = .returned (.bool true) ∧ Below W.heap.size W w' := by
  have b0 := boxed W (natL 0) 27
  have hBl : Below W.heap.size W (W.alloc (.cells (natL 0).toArray 27)) := (Below.refl _ _).alloc (Nat.le_refl _) _
  have l0 := natLoad_run b0
  have HT : Hid (∀ W, Calls Tryd.prog 18 #[.agg (natL 0).toArray] W fun e w' => e = .returned (.int .i64 0) ∧ Below W.heap.size W w') := bits_in 0 (Nat.pow_pos (by omega))
  go_enter Tryd.func14, Tryd.ntmps14
  go_wp2_with fail
  refine (HT.out _).mono ?_
  rintro e w1 ⟨rfl, hb⟩
  have B := bthen hBl hb
  clear l0 b0 hb
  go_wp2
  go_ret
  exact ⟨rfl, B⟩
set_option maxRecDepth 100000 in
set_option maxHeartbeats 400000 in
theorem long_in (v : Value) (N : Nat) (W : World) (h : RN W v N) (hm : mny N ≤ 70368744177664) : Calls Tryd.prog 23 #[v] W fun r w' => r = .returned (.int .i64 (if N < Lim then 0 else 3)) ∧ w' = W := by
  have HB := Hid.mk (rbits_in W v N h hm)
  by_cases hl : N < Lim
  · rw [if_pos hl]
    have hb : (btl N : Int) ≤ 4096 := by have := (btl_lim N).2 hl; omega
    generalize btl N = bn at *
    go_enter Tryd.func23, Tryd.ntmps23
    go_wp2_with fail
    refine HB.out.mono ?_
    rintro e w1 ⟨rfl, rfl⟩
    go_wp2
    go_ret
    exact ⟨rfl, rfl⟩
  · rw [if_neg hl]
    have hb : (4096 : Int) < (btl N : Int) := by
      have : ¬ btl N ≤ 4096 := fun h => hl ((btl_lim N).1 h)
      omega
    generalize btl N = bn at *
    go_enter Tryd.func23, Tryd.ntmps23
    go_wp2_with fail
    refine HB.out.mono ?_
    rintro e w1 ⟨rfl, rfl⟩
    go_wp2
    go_ret
    exact ⟨rfl, rfl⟩
/-- a result that may be too long. -/
theorem res_both (S : Nat) (hm : mny S ≤ 70368744177664) : ∃ (C : Nat) (e : Int), C < Lim ∧ natR S = .returned (.tuple #[.agg (natL C).toArray, .int .i64 e]) ∧ (∀ v W, RN W v S → Calls Tryd.prog 23 #[v] W fun r w' => r = .returned (.int .i64 e) ∧ Below W.heap.size W w') ∧ (∀ v W, RN W v S → Calls Tryd.prog 14 #[.agg (natL C).toArray, .int .i64 e, v, .int .i64 e] W fun r w' => r = .returned (.bool true) ∧ Below W.heap.size W w') := by
  by_cases hl : S < Lim
  · refine ⟨S, 0, hl, natR_ok S hl, fun v W h => ?_, fun v W h => is_in S hl 0 v W h (.inl rfl)⟩
    have := long_in v S W h hm
    rw [if_pos hl] at this
    exact this.mono fun r w' hh => ⟨hh.1, below_same hh.2⟩
  · refine ⟨0, 3, Nat.pow_pos (by omega), natR_no S hl, fun v W h => ?_, fun v W h => is_err v W⟩
    have := long_in v S W h hm
    rw [if_neg hl] at this
    exact this.mono fun r w' hh => ⟨hh.1, below_same hh.2⟩
theorem mny_small (N k : Nat) (h : N < 4294967296 ^ k) : mny N ≤ k := by
  by_cases h0 : N = 0
  · rw [h0]; exact Nat.zero_le _
  · have h1 := (mny_ge N h0).2
    apply Classical.byContradiction
    intro hn
    have : 4294967296 ^ k ≤ 4294967296 ^ (mny N - 1) := Nat.pow_le_pow_right (by omega) (by omega)
    omega
set_option maxRecDepth 100000 in
set_option maxHeartbeats 4000000 in
theorem reck_lt (s t : ByteArray) (A : Nat) (e : Int) (hof : A < Lim ∧ (e = 0 ∨ (e = 3 ∧ A = 0)) ∧ (∀ W, Calls Tryd.prog 10 #[.string s] W fun r w' => r = .returned (.tuple #[.agg (natL A).toArray, .int .i64 e]) ∧ Below W.heap.size W w') ∧ (∀ W, Calls Tryd.prog 11 #[.string s] W fun r w' => ∃ v, r = .returned (.tuple #[v, .int .i64 e]) ∧ RN w' v A ∧ Below W.heap.size W w')) (D : Nat) (e' : Int) (hof' : D < Lim ∧ (e' = 0 ∨ (e' = 3 ∧ D = 0)) ∧ (∀ W, Calls Tryd.prog 10 #[.string t] W fun r w' => r = .returned (.tuple #[.agg (natL D).toArray, .int .i64 e']) ∧ Below W.heap.size W w') ∧ (∀ W, Calls Tryd.prog 11 #[.string t] W fun r w' => ∃ v, r = .returned (.tuple #[v, .int .i64 e']) ∧ RN w' v D ∧ Below W.heap.size W w')) (hlt : A < D) (hD0 : D ≠ 0) (W : World) : Calls Tryd.prog 4 #[.string s, .string t] W fun e w' => e = .returned (.bool true) ∧ Below W.heap.size W w' := by
  have hz := zero26
  have G : Has W [] := trivial
  have B : Below W.heap.size W W := Below.refl _ _
  have HE := Hid.mk examples_in
  obtain ⟨hAL, hev, hO, hRO⟩ := hof
  obtain ⟨hDL, hev', hO', hRO'⟩ := hof'
  have HO := Hid.mk hO
  have HRO := Hid.mk hRO
  have HO' := Hid.mk hO'
  have HRO' := Hid.mk hRO'
  clear hO hRO hO' hRO'
  have mA : mny A ≤ 128 := mny_le A hAL
  have mD : mny D ≤ 128 := mny_le D hDL
  have mS : mny (A + D) ≤ 70368744177664 := Nat.le_trans (mny_small (A + D) 129 (by rw [Nat.pow_succ]; unfold Lim at hAL hDL; omega)) (by omega)
  have mP : mny (A * D) ≤ 70368744177664 := Nat.le_trans (mny_small (A * D) (128 + 128) (by rw [Nat.pow_add]; exact Nat.mul_lt_mul'' hAL hDL)) (by omega)
  obtain ⟨C1, e1, h11, h12, h13, h14⟩ := res_both (A + D) mS
  obtain ⟨C2, e2, h21, h22, h23, h24⟩ := res_both (A * D) mP
  have HAD := Hid.mk (add_in A D hAL hDL)
  rw [h12] at HAD
  have HMU := Hid.mk (mul_in A D hAL hDL)
  rw [h22] at HMU
  have HL1 := Hid.mk h13
  have HI1 := Hid.mk h14
  have HL2 := Hid.mk h23
  have HI2 := Hid.mk h24
  clear h12 h13 h14 h22 h23 h24
  have HRA : Hid (∀ v u W, RN W v A → RN W u D → Calls Tryd.prog 22 #[v, u] W fun e w' => ∃ v, e = .returned v ∧ RN w' v (A + D) ∧ Below W.heap.size W w') := fun v u W h k => radd_in W v u A D h k (by omega) (by omega)
  have HRM : Hid (∀ v u W, RN W v A → RN W u D → Calls Tryd.prog 25 #[v, u] W fun e w' => ∃ v, e = .returned v ∧ RN w' v (A * D) ∧ Below W.heap.size W w') := fun v u W h k => rmul_in W v u A D h k (by omega) (by omega)
  have HCX : Hid (∀ v u W, RN W v A → RN W u D → Calls Tryd.prog 20 #[v, u] W fun r w' => r = .returned (.int .i64 (cmpI A D)) ∧ Below W.heap.size W w') := fun v u W h k => (rcmp_in W v u A D h k).mono fun r w' hh => ⟨hh.1, below_drew hh.2⟩
  have HSU := Hid.mk (sub_in A D hAL hDL)
  have HT0 : Hid (∀ W, Calls Tryd.prog 18 #[.agg (natL 0).toArray] W fun e w' => e = .returned (.int .i64 0) ∧ Below W.heap.size W w') := bits_in 0 (Nat.pow_pos (by omega))
  have HIA : Hid (∀ v W, RN W v A → Calls Tryd.prog 14 #[.agg (natL A).toArray, .int .i64 0, v, .int .i64 0] W fun r w' => r = .returned (.bool true) ∧ Below W.heap.size W w') := fun v W h => is_in A hAL 0 v W h (.inl rfl)
  have HID : Hid (∀ v W, RN W v D → Calls Tryd.prog 14 #[.agg (natL D).toArray, .int .i64 0, v, .int .i64 0] W fun r w' => r = .returned (.bool true) ∧ Below W.heap.size W w') := fun v W h => is_in D hDL 0 v W h (.inl rfl)
  rw [show subR A D = .returned (.tuple #[.agg (natL 0).toArray, .int .i64 1]) from if_neg (by omega)] at HSU
  have hcv : cmpI A D < 0 := by rw [cmpI_lt _ _ hlt]; omega
  have HDV := Hid.mk (div_in A D hAL hDL hD0)
  have HRD : Hid (∀ v u W, RN W v A → RN W u D → Calls Tryd.prog 29 #[v, u] W fun e w' => ∃ q r, e = .returned (.tuple #[q, r]) ∧ RN w' q (A / D) ∧ RN w' r (A % D) ∧ Below W.heap.size W w') := fun v u W h k => rdiv_in W v u A D h k (by omega) (by omega) hD0
  have hQL : A / D < Lim := Nat.lt_of_le_of_lt (Nat.div_le_self _ _) hAL
  have hRL : A % D < Lim := Nat.lt_of_le_of_lt (Nat.mod_le _ _) hAL
  have HIQ : Hid (∀ v W, RN W v (A / D) → Calls Tryd.prog 14 #[.agg (natL (A / D)).toArray, .int .i64 0, v, .int .i64 0] W fun r w' => r = .returned (.bool true) ∧ Below W.heap.size W w') := fun v W h => is_in (A / D) hQL 0 v W h (.inl rfl)
  have HIR : Hid (∀ v W, RN W v (A % D) → Calls Tryd.prog 14 #[.agg (natL (A % D)).toArray, .int .i64 0, v, .int .i64 0] W fun r w' => r = .returned (.bool true) ∧ Below W.heap.size W w') := fun v W h => is_in (A % D) hRL 0 v W h (.inl rfl)
  have hmp : 0 < mny D := (mny_ge D hD0).1
  obtain ⟨mm, hmm⟩ : ∃ mm, mny D = mm := ⟨_, rfl⟩
  have hmi : (0 : Int) < (mm : Int) := by omega
  have HSL : Hid (∀ w v, RN w v D → ∃ p c, v = .slice p mm c) := fun w v h => by
    obtain ⟨p, c, e⟩ := h.slice
    exact ⟨p, c, by rw [e, hmm]⟩
  generalize cmpI A D = cv at *
  generalize A + D = SS at *
  generalize A * D = PP at *
  generalize A / D = QQ at *
  generalize A % D = RR at *
  clear hAL hev hDL hev' mA mD mS mP h11 h21 hmm hQL hRL hmp
  go_enter Tryd.func4, Tryd.ntmps4
  go_wp2_with fail
  refine (HE.out _).mono ?_
  rintro e u1 ⟨rfl, hb⟩
  replace G := G.blk hb
  replace B := bthen B hb
  clear hb
  go_wp2_with fail
  refine (HO.out _).mono ?_
  rintro e u2 ⟨rfl, hb⟩
  replace G := G.blk hb
  replace B := bthen B hb
  clear hb
  go_upto_region 3 with fail
  replace G := G.new1 (A)
  replace B := below_new1 (A) B
  generalize u2.alloc (.cells (natL (A)).toArray 27) = v2 at G B ⊢
  generalize u2.heap.size = b_a at G ⊢
  go_wp2_with fail
  refine (HO'.out _).mono ?_
  rintro e u3 ⟨rfl, hb⟩
  replace G := G.blk hb
  replace B := bthen B hb
  clear hb
  go_upto_region 4 with fail
  replace G := G.new1 (D)
  replace B := below_new1 (D) B
  generalize u3.alloc (.cells (natL (D)).toArray 27) = v3 at G B ⊢
  generalize u3.heap.size = b_b at G ⊢
  go_wp2_with fail
  refine (HRO.out _).mono ?_
  rintro e u4 ⟨vx, rfl, X, hb⟩
  replace G := G.blk hb
  replace B := bthen B hb
  clear hb
  go_wp2_with fail
  refine (HRO'.out _).mono ?_
  rintro e u5 ⟨vy, rfl, Y, hb⟩
  replace G := G.blk hb
  replace B := bthen B hb
  replace X := X.blk hb
  clear hb
  obtain ⟨py, cy, rfl⟩ := HSL.out _ _ Y
  have l_a := natLoad_run (G.get 1 rfl)
  have l_b := natLoad_run (G.get 0 rfl)
  go_wp2_with fail
  refine (HAD.out _).mono ?_
  rintro e u6 ⟨rfl, hb⟩
  replace G := G.blk hb
  replace B := bthen B hb
  replace X := X.blk hb
  replace Y := Y.blk hb
  clear hb
  clear l_a l_b
  go_upto_region 7 with fail
  replace G := G.new1 (C1)
  replace B := below_new1 (C1) B
  replace X := X.blk (w' := u6.alloc (.cells (natL (C1)).toArray 27)) ((Below.refl _ _).alloc (Nat.le_refl _) _)
  replace Y := Y.blk (w' := u6.alloc (.cells (natL (C1)).toArray 27)) ((Below.refl _ _).alloc (Nat.le_refl _) _)
  generalize u6.alloc (.cells (natL (C1)).toArray 27) = v6 at G B X Y ⊢
  generalize u6.heap.size = b_c at G ⊢
  go_wp2_with fail
  refine (HRA.out vx (.slice py mm cy) _ X Y).mono ?_
  rintro e u7 ⟨vs, rfl, Z, hb⟩
  replace G := G.blk hb
  replace B := bthen B hb
  replace X := X.blk hb
  replace Y := Y.blk hb
  clear hb
  go_upto_region 8 with fail
  obtain ⟨Kp1, hK⟩ : ∃ K : World → Prop, K = fun w => Has w [(b_c, C1), (b_b, D), (b_a, A)] ∧ Below W.heap.size W w ∧ RN w vx A ∧ RN w (.slice py mm cy) D ∧ RN w vs SS := ⟨_, rfl⟩
  have kz : Kp1 u7 := by rw [hK]; exact ⟨G, B, X, Y, Z⟩
  have KB : Hid (∀ w w', Kp1 w → Below w.heap.size w w' → Kp1 w') := by
    rw [Hid, hK]
    exact fun w w' h hb => ⟨h.1.blk hb, bthen h.2.1 hb, h.2.2.1.blk hb, h.2.2.2.1.blk hb, h.2.2.2.2.blk hb⟩
  have kd : ∀ w, Kp1 w → Kp1 w.drew := fun w h => KB.out w _ h (Below.refl _ _).drew
  have HKe : Hid (∀ w, Kp1 w → Has w [(b_c, C1), (b_b, D), (b_a, A)] ∧ Below W.heap.size W w ∧ RN w vx A ∧ RN w (.slice py mm cy) D ∧ RN w vs SS) := by rw [Hid, hK]; exact fun w h => h
  have HS : Hid (∀ w, Kp1 w → Kp1 w ∧ (natLoad (.pointer (some ⟨b_c, 0, none⟩))).run Tryd.prog w = .ok (.agg (natL C1).toArray) w) := fun w h => ⟨h, natLoad_run ((HKe.out w h).1.get 0 rfl)⟩
  have hS0 := HS.out _ kz
  clear hK G B X Y Z
  go_region_held3 (fun w => Kp1 w ∧ (natLoad (.pointer (some ⟨b_c, 0, none⟩))).run Tryd.prog w = .ok (.agg (natL C1).toArray) w)
    (first | assumption | (apply HS.out; repeat (first | assumption | apply kd)))
    (first
      | (go_at_call 23; have k1 := kd _ kz; refine (HL1.out vs _ (HKe.out _ k1).2.2.2.2).mono ?_; rintro e w2 ⟨rfl, hb2⟩; have k2 := KB.out _ _ k1 hb2; have hs2 := HS.out _ k2)
      | (go_at_call 14; refine (HI1.out vs _ (HKe.out _ k2).2.2.2.2).mono ?_; rintro e w3 ⟨rfl, hb3⟩; have k3 := KB.out _ _ k2 hb3; have hs3 := HS.out _ k3))
  obtain ⟨G, B, X, Y, Z⟩ := HKe.out _ k3
  clear hS0 kz kd k1 k2 k3 hs2 hs3 hb2 hb3 KB HKe HS
  generalize w3 = u8 at *
  clear Z
  have l_a := natLoad_run (G.get 2 rfl)
  have l_b := natLoad_run (G.get 1 rfl)
  go_wp2_with fail
  refine (HMU.out _).mono ?_
  rintro e u9 ⟨rfl, hb⟩
  replace G := G.blk hb
  replace B := bthen B hb
  replace X := X.blk hb
  replace Y := Y.blk hb
  clear hb
  clear l_a l_b
  go_upto_region 10 with fail
  replace G := G.new1 (C2)
  replace B := below_new1 (C2) B
  replace X := X.blk (w' := u9.alloc (.cells (natL (C2)).toArray 27)) ((Below.refl _ _).alloc (Nat.le_refl _) _)
  replace Y := Y.blk (w' := u9.alloc (.cells (natL (C2)).toArray 27)) ((Below.refl _ _).alloc (Nat.le_refl _) _)
  generalize u9.alloc (.cells (natL (C2)).toArray 27) = v9 at G B X Y ⊢
  generalize u9.heap.size = b_d at G ⊢
  go_wp2_with fail
  refine (HRM.out vx (.slice py mm cy) _ X Y).mono ?_
  rintro e u10 ⟨vp, rfl, Z, hb⟩
  replace G := G.blk hb
  replace B := bthen B hb
  replace X := X.blk hb
  replace Y := Y.blk hb
  clear hb
  go_upto_region 11 with fail
  obtain ⟨Kp2, hK⟩ : ∃ K : World → Prop, K = fun w => Has w [(b_d, C2), (b_c, C1), (b_b, D), (b_a, A)] ∧ Below W.heap.size W w ∧ RN w vx A ∧ RN w (.slice py mm cy) D ∧ RN w vp PP := ⟨_, rfl⟩
  have kz : Kp2 u10 := by rw [hK]; exact ⟨G, B, X, Y, Z⟩
  have KB : Hid (∀ w w', Kp2 w → Below w.heap.size w w' → Kp2 w') := by
    rw [Hid, hK]
    exact fun w w' h hb => ⟨h.1.blk hb, bthen h.2.1 hb, h.2.2.1.blk hb, h.2.2.2.1.blk hb, h.2.2.2.2.blk hb⟩
  have kd : ∀ w, Kp2 w → Kp2 w.drew := fun w h => KB.out w _ h (Below.refl _ _).drew
  have HKe : Hid (∀ w, Kp2 w → Has w [(b_d, C2), (b_c, C1), (b_b, D), (b_a, A)] ∧ Below W.heap.size W w ∧ RN w vx A ∧ RN w (.slice py mm cy) D ∧ RN w vp PP) := by rw [Hid, hK]; exact fun w h => h
  have HS : Hid (∀ w, Kp2 w → Kp2 w ∧ (natLoad (.pointer (some ⟨b_d, 0, none⟩))).run Tryd.prog w = .ok (.agg (natL C2).toArray) w) := fun w h => ⟨h, natLoad_run ((HKe.out w h).1.get 0 rfl)⟩
  have hS0 := HS.out _ kz
  clear hK G B X Y Z
  go_region_held3 (fun w => Kp2 w ∧ (natLoad (.pointer (some ⟨b_d, 0, none⟩))).run Tryd.prog w = .ok (.agg (natL C2).toArray) w)
    (first | assumption | (apply HS.out; repeat (first | assumption | apply kd)))
    (first
      | (go_at_call 23; have k1 := kd _ kz; refine (HL2.out vp _ (HKe.out _ k1).2.2.2.2).mono ?_; rintro e w2 ⟨rfl, hb2⟩; have k2 := KB.out _ _ k1 hb2; have hs2 := HS.out _ k2)
      | (go_at_call 14; refine (HI2.out vp _ (HKe.out _ k2).2.2.2.2).mono ?_; rintro e w3 ⟨rfl, hb3⟩; have k3 := KB.out _ _ k2 hb3; have hs3 := HS.out _ k3))
  obtain ⟨G, B, X, Y, Z⟩ := HKe.out _ k3
  clear hS0 kz kd k1 k2 k3 hs2 hs3 hb2 hb3 KB HKe HS
  generalize w3 = u11 at *
  clear Z
  have l_a := natLoad_run (G.get 3 rfl)
  have l_b := natLoad_run (G.get 2 rfl)
  go_wp2_with fail
  refine (HSU.out _).mono ?_
  rintro e u12 ⟨rfl, hb⟩
  replace G := G.blk hb
  replace B := bthen B hb
  replace X := X.blk hb
  replace Y := Y.blk hb
  clear hb
  clear l_a l_b
  go_upto_region 13 with fail
  replace G := G.new1 (0)
  replace B := below_new1 (0) B
  replace X := X.blk (w' := u12.alloc (.cells (natL (0)).toArray 27)) ((Below.refl _ _).alloc (Nat.le_refl _) _)
  replace Y := Y.blk (w' := u12.alloc (.cells (natL (0)).toArray 27)) ((Below.refl _ _).alloc (Nat.le_refl _) _)
  generalize u12.alloc (.cells (natL (0)).toArray 27) = v12 at G B X Y ⊢
  generalize u12.heap.size = b_h at G ⊢
  have l_h := natLoad_run (G.get 0 rfl)
  go_wp2_with fail
  refine (HT0.out _).mono ?_
  rintro e u13 ⟨rfl, hb⟩
  replace G := G.blk hb
  replace B := bthen B hb
  replace X := X.blk hb
  replace Y := Y.blk hb
  clear hb
  clear l_h
  go_wp2_with fail
  refine (HCX.out vx (.slice py mm cy) _ X Y).mono ?_
  rintro e u14 ⟨rfl, hb⟩
  replace G := G.blk hb
  replace B := bthen B hb
  replace X := X.blk hb
  replace Y := Y.blk hb
  clear hb
  have l_a := natLoad_run (G.get 4 rfl)
  have l_b := natLoad_run (G.get 3 rfl)
  go_wp2_with fail
  refine (HDV.out _).mono ?_
  rintro e u15 ⟨rfl, hb⟩
  replace G := G.blk hb
  replace B := bthen B hb
  replace X := X.blk hb
  replace Y := Y.blk hb
  clear hb
  clear l_a l_b
  go_upto_region 17 with fail
  replace G := G.new2 (QQ) (RR)
  replace B := below_new2 (QQ) (RR) B
  replace X := X.blk (two_new u15 (natL (QQ)) (natL (RR)) 27 27).2.2.1
  replace Y := Y.blk (two_new u15 (natL (QQ)) (natL (RR)) 27 27).2.2.1
  generalize (u15.alloc (.cells (natL (QQ)).toArray 27)).alloc (.cells (natL (RR)).toArray 27) = v15 at G B X Y ⊢
  generalize u15.heap.size = b_q at G ⊢
  obtain ⟨b_r, h_r⟩ : ∃ x, b_q + 1 = x := ⟨_, rfl⟩
  rw [h_r] at G ⊢
  clear h_r
  go_wp2_with fail
  refine (HRD.out vx (.slice py mm cy) _ X Y).mono ?_
  rintro e u16 ⟨vq, vr, rfl, Q, Z, hb⟩
  replace G := G.blk hb
  replace B := bthen B hb
  replace X := X.blk hb
  replace Y := Y.blk hb
  clear hb
  have l_q := natLoad_run (G.get 0 rfl)
  go_wp2_with fail
  refine (HIQ.out vq _ Q).mono ?_
  rintro e u17 ⟨rfl, hb⟩
  replace G := G.blk hb
  replace B := bthen B hb
  replace X := X.blk hb
  replace Y := Y.blk hb
  replace Q := Q.blk hb
  replace Z := Z.blk hb
  clear hb
  clear l_q
  have l_r := natLoad_run (G.get 1 rfl)
  go_wp2_with fail
  refine (HIR.out vr _ Z).mono ?_
  rintro e u18 ⟨rfl, hb⟩
  replace G := G.blk hb
  replace B := bthen B hb
  replace X := X.blk hb
  replace Y := Y.blk hb
  replace Q := Q.blk hb
  replace Z := Z.blk hb
  clear hb
  clear l_r
  have l_a := natLoad_run (G.get 6 rfl)
  go_wp2_with fail
  refine (HIA.out vx _ X).mono ?_
  rintro e u19 ⟨rfl, hb⟩
  replace G := G.blk hb
  replace B := bthen B hb
  replace X := X.blk hb
  replace Y := Y.blk hb
  replace Q := Q.blk hb
  replace Z := Z.blk hb
  clear hb
  clear l_a
  have l_b := natLoad_run (G.get 5 rfl)
  go_wp2_with fail
  refine (HID.out (.slice py mm cy) _ Y).mono ?_
  rintro e u20 ⟨rfl, hb⟩
  replace G := G.blk hb
  replace B := bthen B hb
  replace X := X.blk hb
  replace Y := Y.blk hb
  replace Q := Q.blk hb
  replace Z := Z.blk hb
  clear hb
  clear l_b
  go_wp2
  go_ret
  exact ⟨rfl, B⟩
set_option maxRecDepth 100000 in
set_option maxHeartbeats 4000000 in
theorem reck_zero (s t : ByteArray) (A : Nat) (e : Int) (hof : A < Lim ∧ (e = 0 ∨ (e = 3 ∧ A = 0)) ∧ (∀ W, Calls Tryd.prog 10 #[.string s] W fun r w' => r = .returned (.tuple #[.agg (natL A).toArray, .int .i64 e]) ∧ Below W.heap.size W w') ∧ (∀ W, Calls Tryd.prog 11 #[.string s] W fun r w' => ∃ v, r = .returned (.tuple #[v, .int .i64 e]) ∧ RN w' v A ∧ Below W.heap.size W w')) (D : Nat) (e' : Int) (hof' : D < Lim ∧ (e' = 0 ∨ (e' = 3 ∧ D = 0)) ∧ (∀ W, Calls Tryd.prog 10 #[.string t] W fun r w' => r = .returned (.tuple #[.agg (natL D).toArray, .int .i64 e']) ∧ Below W.heap.size W w') ∧ (∀ W, Calls Tryd.prog 11 #[.string t] W fun r w' => ∃ v, r = .returned (.tuple #[v, .int .i64 e']) ∧ RN w' v D ∧ Below W.heap.size W w')) (hle : D ≤ A) (hD0 : D = 0) (W : World) : Calls Tryd.prog 4 #[.string s, .string t] W fun e w' => e = .returned (.bool true) ∧ Below W.heap.size W w' := by
  have hz := zero26
  have G : Has W [] := trivial
  have B : Below W.heap.size W W := Below.refl _ _
  have HE := Hid.mk examples_in
  obtain ⟨hAL, hev, hO, hRO⟩ := hof
  obtain ⟨hDL, hev', hO', hRO'⟩ := hof'
  have HO := Hid.mk hO
  have HRO := Hid.mk hRO
  have HO' := Hid.mk hO'
  have HRO' := Hid.mk hRO'
  clear hO hRO hO' hRO'
  have mA : mny A ≤ 128 := mny_le A hAL
  have mD : mny D ≤ 128 := mny_le D hDL
  have mS : mny (A + D) ≤ 70368744177664 := Nat.le_trans (mny_small (A + D) 129 (by rw [Nat.pow_succ]; unfold Lim at hAL hDL; omega)) (by omega)
  have mP : mny (A * D) ≤ 70368744177664 := Nat.le_trans (mny_small (A * D) (128 + 128) (by rw [Nat.pow_add]; exact Nat.mul_lt_mul'' hAL hDL)) (by omega)
  obtain ⟨C1, e1, h11, h12, h13, h14⟩ := res_both (A + D) mS
  obtain ⟨C2, e2, h21, h22, h23, h24⟩ := res_both (A * D) mP
  have HAD := Hid.mk (add_in A D hAL hDL)
  rw [h12] at HAD
  have HMU := Hid.mk (mul_in A D hAL hDL)
  rw [h22] at HMU
  have HL1 := Hid.mk h13
  have HI1 := Hid.mk h14
  have HL2 := Hid.mk h23
  have HI2 := Hid.mk h24
  clear h12 h13 h14 h22 h23 h24
  have HRA : Hid (∀ v u W, RN W v A → RN W u D → Calls Tryd.prog 22 #[v, u] W fun e w' => ∃ v, e = .returned v ∧ RN w' v (A + D) ∧ Below W.heap.size W w') := fun v u W h k => radd_in W v u A D h k (by omega) (by omega)
  have HRM : Hid (∀ v u W, RN W v A → RN W u D → Calls Tryd.prog 25 #[v, u] W fun e w' => ∃ v, e = .returned v ∧ RN w' v (A * D) ∧ Below W.heap.size W w') := fun v u W h k => rmul_in W v u A D h k (by omega) (by omega)
  have HCX : Hid (∀ v u W, RN W v A → RN W u D → Calls Tryd.prog 20 #[v, u] W fun r w' => r = .returned (.int .i64 (cmpI A D)) ∧ Below W.heap.size W w') := fun v u W h k => (rcmp_in W v u A D h k).mono fun r w' hh => ⟨hh.1, below_drew hh.2⟩
  have HSU := Hid.mk (sub_in A D hAL hDL)
  have HT0 : Hid (∀ W, Calls Tryd.prog 18 #[.agg (natL 0).toArray] W fun e w' => e = .returned (.int .i64 0) ∧ Below W.heap.size W w') := bits_in 0 (Nat.pow_pos (by omega))
  have HIA : Hid (∀ v W, RN W v A → Calls Tryd.prog 14 #[.agg (natL A).toArray, .int .i64 0, v, .int .i64 0] W fun r w' => r = .returned (.bool true) ∧ Below W.heap.size W w') := fun v W h => is_in A hAL 0 v W h (.inl rfl)
  have HID : Hid (∀ v W, RN W v D → Calls Tryd.prog 14 #[.agg (natL D).toArray, .int .i64 0, v, .int .i64 0] W fun r w' => r = .returned (.bool true) ∧ Below W.heap.size W w') := fun v W h => is_in D hDL 0 v W h (.inl rfl)
  rw [show subR A D = .returned (.tuple #[.agg (natL (A - D)).toArray, .int .i64 0]) from if_pos hle] at HSU
  have HRS : Hid (∀ v u W, RN W v A → RN W u D → Calls Tryd.prog 27 #[v, u] W fun e w' => ∃ v, e = .returned v ∧ RN w' v (A - D) ∧ Fresh W.heap.size v ∧ Below W.heap.size W w') := fun v u W h k => rsub_in W v u A D h k (by omega) hle
  have HIS : Hid (∀ v W, RN W v (A - D) → Calls Tryd.prog 14 #[.agg (natL (A - D)).toArray, .int .i64 0, v, .int .i64 0] W fun r w' => r = .returned (.bool true) ∧ Below W.heap.size W w') := fun v W h => is_in (A - D) (by omega) 0 v W h (.inl rfl)
  have hcv : 0 ≤ cmpI A D := by
    rcases Nat.lt_or_ge D A with h | h
    · rw [cmpI_gt _ _ h]; omega
    · rw [show A = D by omega, cmpI_eq]; omega
  subst hD0
  have HDV := Hid.mk (div_no A hAL)
  obtain ⟨mm, hmm⟩ : ∃ mm, mny 0 = mm := ⟨_, rfl⟩
  have hm0 : mm = 0 := by rw [← hmm]; exact mny_zero
  subst hm0
  have HSL : Hid (∀ w v, RN w v 0 → ∃ p c, v = .slice p 0 c) := fun w v h => by
    obtain ⟨p, c, e⟩ := h.slice
    exact ⟨p, c, by rw [e, hmm]⟩
  generalize cmpI A 0 = cv at *
  generalize A + 0 = SS at *
  generalize A * 0 = PP at *
  generalize A - 0 = DD at *
  clear hAL hev hDL hev' mA mD mS mP h11 h21 hmm 
  go_enter Tryd.func4, Tryd.ntmps4
  go_wp2_with fail
  refine (HE.out _).mono ?_
  rintro e u1 ⟨rfl, hb⟩
  replace G := G.blk hb
  replace B := bthen B hb
  clear hb
  go_wp2_with fail
  refine (HO.out _).mono ?_
  rintro e u2 ⟨rfl, hb⟩
  replace G := G.blk hb
  replace B := bthen B hb
  clear hb
  go_upto_region 3 with fail
  replace G := G.new1 (A)
  replace B := below_new1 (A) B
  generalize u2.alloc (.cells (natL (A)).toArray 27) = v2 at G B ⊢
  generalize u2.heap.size = b_a at G ⊢
  go_wp2_with fail
  refine (HO'.out _).mono ?_
  rintro e u3 ⟨rfl, hb⟩
  replace G := G.blk hb
  replace B := bthen B hb
  clear hb
  go_upto_region 4 with fail
  replace G := G.new1 (0)
  replace B := below_new1 (0) B
  generalize u3.alloc (.cells (natL (0)).toArray 27) = v3 at G B ⊢
  generalize u3.heap.size = b_b at G ⊢
  go_wp2_with fail
  refine (HRO.out _).mono ?_
  rintro e u4 ⟨vx, rfl, X, hb⟩
  replace G := G.blk hb
  replace B := bthen B hb
  clear hb
  go_wp2_with fail
  refine (HRO'.out _).mono ?_
  rintro e u5 ⟨vy, rfl, Y, hb⟩
  replace G := G.blk hb
  replace B := bthen B hb
  replace X := X.blk hb
  clear hb
  obtain ⟨py, cy, rfl⟩ := HSL.out _ _ Y
  have l_a := natLoad_run (G.get 1 rfl)
  have l_b := natLoad_run (G.get 0 rfl)
  go_wp2_with fail
  refine (HAD.out _).mono ?_
  rintro e u6 ⟨rfl, hb⟩
  replace G := G.blk hb
  replace B := bthen B hb
  replace X := X.blk hb
  replace Y := Y.blk hb
  clear hb
  clear l_a l_b
  go_upto_region 7 with fail
  replace G := G.new1 (C1)
  replace B := below_new1 (C1) B
  replace X := X.blk (w' := u6.alloc (.cells (natL (C1)).toArray 27)) ((Below.refl _ _).alloc (Nat.le_refl _) _)
  replace Y := Y.blk (w' := u6.alloc (.cells (natL (C1)).toArray 27)) ((Below.refl _ _).alloc (Nat.le_refl _) _)
  generalize u6.alloc (.cells (natL (C1)).toArray 27) = v6 at G B X Y ⊢
  generalize u6.heap.size = b_c at G ⊢
  go_wp2_with fail
  refine (HRA.out vx (.slice py 0 cy) _ X Y).mono ?_
  rintro e u7 ⟨vs, rfl, Z, hb⟩
  replace G := G.blk hb
  replace B := bthen B hb
  replace X := X.blk hb
  replace Y := Y.blk hb
  clear hb
  go_upto_region 8 with fail
  obtain ⟨Kp1, hK⟩ : ∃ K : World → Prop, K = fun w => Has w [(b_c, C1), (b_b, 0), (b_a, A)] ∧ Below W.heap.size W w ∧ RN w vx A ∧ RN w (.slice py 0 cy) 0 ∧ RN w vs SS := ⟨_, rfl⟩
  have kz : Kp1 u7 := by rw [hK]; exact ⟨G, B, X, Y, Z⟩
  have KB : Hid (∀ w w', Kp1 w → Below w.heap.size w w' → Kp1 w') := by
    rw [Hid, hK]
    exact fun w w' h hb => ⟨h.1.blk hb, bthen h.2.1 hb, h.2.2.1.blk hb, h.2.2.2.1.blk hb, h.2.2.2.2.blk hb⟩
  have kd : ∀ w, Kp1 w → Kp1 w.drew := fun w h => KB.out w _ h (Below.refl _ _).drew
  have HKe : Hid (∀ w, Kp1 w → Has w [(b_c, C1), (b_b, 0), (b_a, A)] ∧ Below W.heap.size W w ∧ RN w vx A ∧ RN w (.slice py 0 cy) 0 ∧ RN w vs SS) := by rw [Hid, hK]; exact fun w h => h
  have HS : Hid (∀ w, Kp1 w → Kp1 w ∧ (natLoad (.pointer (some ⟨b_c, 0, none⟩))).run Tryd.prog w = .ok (.agg (natL C1).toArray) w) := fun w h => ⟨h, natLoad_run ((HKe.out w h).1.get 0 rfl)⟩
  have hS0 := HS.out _ kz
  clear hK G B X Y Z
  go_region_held3 (fun w => Kp1 w ∧ (natLoad (.pointer (some ⟨b_c, 0, none⟩))).run Tryd.prog w = .ok (.agg (natL C1).toArray) w)
    (first | assumption | (apply HS.out; repeat (first | assumption | apply kd)))
    (first
      | (go_at_call 23; have k1 := kd _ kz; refine (HL1.out vs _ (HKe.out _ k1).2.2.2.2).mono ?_; rintro e w2 ⟨rfl, hb2⟩; have k2 := KB.out _ _ k1 hb2; have hs2 := HS.out _ k2)
      | (go_at_call 14; refine (HI1.out vs _ (HKe.out _ k2).2.2.2.2).mono ?_; rintro e w3 ⟨rfl, hb3⟩; have k3 := KB.out _ _ k2 hb3; have hs3 := HS.out _ k3))
  obtain ⟨G, B, X, Y, Z⟩ := HKe.out _ k3
  clear hS0 kz kd k1 k2 k3 hs2 hs3 hb2 hb3 KB HKe HS
  generalize w3 = u8 at *
  clear Z
  have l_a := natLoad_run (G.get 2 rfl)
  have l_b := natLoad_run (G.get 1 rfl)
  go_wp2_with fail
  refine (HMU.out _).mono ?_
  rintro e u9 ⟨rfl, hb⟩
  replace G := G.blk hb
  replace B := bthen B hb
  replace X := X.blk hb
  replace Y := Y.blk hb
  clear hb
  clear l_a l_b
  go_upto_region 10 with fail
  replace G := G.new1 (C2)
  replace B := below_new1 (C2) B
  replace X := X.blk (w' := u9.alloc (.cells (natL (C2)).toArray 27)) ((Below.refl _ _).alloc (Nat.le_refl _) _)
  replace Y := Y.blk (w' := u9.alloc (.cells (natL (C2)).toArray 27)) ((Below.refl _ _).alloc (Nat.le_refl _) _)
  generalize u9.alloc (.cells (natL (C2)).toArray 27) = v9 at G B X Y ⊢
  generalize u9.heap.size = b_d at G ⊢
  go_wp2_with fail
  refine (HRM.out vx (.slice py 0 cy) _ X Y).mono ?_
  rintro e u10 ⟨vp, rfl, Z, hb⟩
  replace G := G.blk hb
  replace B := bthen B hb
  replace X := X.blk hb
  replace Y := Y.blk hb
  clear hb
  go_upto_region 11 with fail
  obtain ⟨Kp2, hK⟩ : ∃ K : World → Prop, K = fun w => Has w [(b_d, C2), (b_c, C1), (b_b, 0), (b_a, A)] ∧ Below W.heap.size W w ∧ RN w vx A ∧ RN w (.slice py 0 cy) 0 ∧ RN w vp PP := ⟨_, rfl⟩
  have kz : Kp2 u10 := by rw [hK]; exact ⟨G, B, X, Y, Z⟩
  have KB : Hid (∀ w w', Kp2 w → Below w.heap.size w w' → Kp2 w') := by
    rw [Hid, hK]
    exact fun w w' h hb => ⟨h.1.blk hb, bthen h.2.1 hb, h.2.2.1.blk hb, h.2.2.2.1.blk hb, h.2.2.2.2.blk hb⟩
  have kd : ∀ w, Kp2 w → Kp2 w.drew := fun w h => KB.out w _ h (Below.refl _ _).drew
  have HKe : Hid (∀ w, Kp2 w → Has w [(b_d, C2), (b_c, C1), (b_b, 0), (b_a, A)] ∧ Below W.heap.size W w ∧ RN w vx A ∧ RN w (.slice py 0 cy) 0 ∧ RN w vp PP) := by rw [Hid, hK]; exact fun w h => h
  have HS : Hid (∀ w, Kp2 w → Kp2 w ∧ (natLoad (.pointer (some ⟨b_d, 0, none⟩))).run Tryd.prog w = .ok (.agg (natL C2).toArray) w) := fun w h => ⟨h, natLoad_run ((HKe.out w h).1.get 0 rfl)⟩
  have hS0 := HS.out _ kz
  clear hK G B X Y Z
  go_region_held3 (fun w => Kp2 w ∧ (natLoad (.pointer (some ⟨b_d, 0, none⟩))).run Tryd.prog w = .ok (.agg (natL C2).toArray) w)
    (first | assumption | (apply HS.out; repeat (first | assumption | apply kd)))
    (first
      | (go_at_call 23; have k1 := kd _ kz; refine (HL2.out vp _ (HKe.out _ k1).2.2.2.2).mono ?_; rintro e w2 ⟨rfl, hb2⟩; have k2 := KB.out _ _ k1 hb2; have hs2 := HS.out _ k2)
      | (go_at_call 14; refine (HI2.out vp _ (HKe.out _ k2).2.2.2.2).mono ?_; rintro e w3 ⟨rfl, hb3⟩; have k3 := KB.out _ _ k2 hb3; have hs3 := HS.out _ k3))
  obtain ⟨G, B, X, Y, Z⟩ := HKe.out _ k3
  clear hS0 kz kd k1 k2 k3 hs2 hs3 hb2 hb3 KB HKe HS
  generalize w3 = u11 at *
  clear Z
  have l_a := natLoad_run (G.get 3 rfl)
  have l_b := natLoad_run (G.get 2 rfl)
  go_wp2_with fail
  refine (HSU.out _).mono ?_
  rintro e u12 ⟨rfl, hb⟩
  replace G := G.blk hb
  replace B := bthen B hb
  replace X := X.blk hb
  replace Y := Y.blk hb
  clear hb
  clear l_a l_b
  go_upto_region 13 with fail
  replace G := G.new1 (DD)
  replace B := below_new1 (DD) B
  replace X := X.blk (w' := u12.alloc (.cells (natL (DD)).toArray 27)) ((Below.refl _ _).alloc (Nat.le_refl _) _)
  replace Y := Y.blk (w' := u12.alloc (.cells (natL (DD)).toArray 27)) ((Below.refl _ _).alloc (Nat.le_refl _) _)
  generalize u12.alloc (.cells (natL (DD)).toArray 27) = v12 at G B X Y ⊢
  generalize u12.heap.size = b_h at G ⊢
  go_wp2_with fail
  refine (HCX.out vx (.slice py 0 cy) _ X Y).mono ?_
  rintro e u13 ⟨rfl, hb⟩
  replace G := G.blk hb
  replace B := bthen B hb
  replace X := X.blk hb
  replace Y := Y.blk hb
  clear hb
  go_upto_region 15 with fail
  obtain ⟨Kp3, hK⟩ : ∃ K : World → Prop, K = fun w => Has w [(b_h, DD), (b_d, C2), (b_c, C1), (b_b, 0), (b_a, A)] ∧ Below W.heap.size W w ∧ RN w vx A ∧ RN w (.slice py 0 cy) 0 := ⟨_, rfl⟩
  have kz : Kp3 u13 := by rw [hK]; exact ⟨G, B, X, Y⟩
  have KB : Hid (∀ w w', Kp3 w → Below w.heap.size w w' → Kp3 w') := by
    rw [Hid, hK]
    exact fun w w' h hb => ⟨h.1.blk hb, bthen h.2.1 hb, h.2.2.1.blk hb, h.2.2.2.blk hb⟩
  have kd : ∀ w, Kp3 w → Kp3 w.drew := fun w h => KB.out w _ h (Below.refl _ _).drew
  have HKe : Hid (∀ w, Kp3 w → Has w [(b_h, DD), (b_d, C2), (b_c, C1), (b_b, 0), (b_a, A)] ∧ Below W.heap.size W w ∧ RN w vx A ∧ RN w (.slice py 0 cy) 0) := by rw [Hid, hK]; exact fun w h => h
  have HS : Hid (∀ w, Kp3 w → Kp3 w ∧ (natLoad (.pointer (some ⟨b_h, 0, none⟩))).run Tryd.prog w = .ok (.agg (natL DD).toArray) w) := fun w h => ⟨h, natLoad_run ((HKe.out w h).1.get 0 rfl)⟩
  have hS0 := HS.out _ kz
  clear hK G B X Y
  go_region_held3 (fun w => Kp3 w ∧ (natLoad (.pointer (some ⟨b_h, 0, none⟩))).run Tryd.prog w = .ok (.agg (natL DD).toArray) w)
    (first | assumption | (apply HS.out; repeat (first | assumption | apply kd)))
    (first
      | (go_at_call 27; have k1 := kd _ kz; refine (HRS.out vx (.slice py 0 cy) _ (HKe.out _ k1).2.2.1 (HKe.out _ k1).2.2.2).mono ?_; rintro e w2 ⟨v9, rfl, r9, _, hb2⟩; have k2 := KB.out _ _ k1 hb2; have hs2 := HS.out _ k2)
      | (go_at_call 14; refine (HIS.out v9 _ r9).mono ?_; rintro e w3 ⟨rfl, hb3⟩; have k3 := KB.out _ _ k2 hb3; have hs3 := HS.out _ k3))
  obtain ⟨G, B, X, Y⟩ := HKe.out _ k3
  clear hS0 kz kd k1 k2 k3 hs2 hs3 hb2 hb3 KB HKe HS r9
  generalize w3 = u14 at *
  have l_a := natLoad_run (G.get 4 rfl)
  have l_b := natLoad_run (G.get 3 rfl)
  go_wp2_with fail
  refine (HDV.out _).mono ?_
  rintro e u15 ⟨rfl, hb⟩
  replace G := G.blk hb
  replace B := bthen B hb
  replace X := X.blk hb
  replace Y := Y.blk hb
  clear hb
  clear l_a l_b
  go_upto_region 17 with fail
  replace G := G.new2 (0) (0)
  replace B := below_new2 (0) (0) B
  replace X := X.blk (two_new u15 (natL (0)) (natL (0)) 27 27).2.2.1
  replace Y := Y.blk (two_new u15 (natL (0)) (natL (0)) 27 27).2.2.1
  generalize (u15.alloc (.cells (natL (0)).toArray 27)).alloc (.cells (natL (0)).toArray 27) = v15 at G B X Y ⊢
  generalize u15.heap.size = b_q at G ⊢
  obtain ⟨b_r, h_r⟩ : ∃ x, b_q + 1 = x := ⟨_, rfl⟩
  rw [h_r] at G ⊢
  clear h_r
  have l_q := natLoad_run (G.get 0 rfl)
  go_wp2_with fail
  refine (HT0.out _).mono ?_
  rintro e u16 ⟨rfl, hb⟩
  replace G := G.blk hb
  replace B := bthen B hb
  replace X := X.blk hb
  replace Y := Y.blk hb
  clear hb
  clear l_q
  have l_r := natLoad_run (G.get 1 rfl)
  go_wp2_with fail
  refine (HT0.out _).mono ?_
  rintro e u17 ⟨rfl, hb⟩
  replace G := G.blk hb
  replace B := bthen B hb
  replace X := X.blk hb
  replace Y := Y.blk hb
  clear hb
  clear l_r
  have l_a := natLoad_run (G.get 6 rfl)
  go_wp2_with fail
  refine (HIA.out vx _ X).mono ?_
  rintro e u18 ⟨rfl, hb⟩
  replace G := G.blk hb
  replace B := bthen B hb
  replace X := X.blk hb
  replace Y := Y.blk hb
  clear hb
  clear l_a
  have l_b := natLoad_run (G.get 5 rfl)
  go_wp2_with fail
  refine (HID.out (.slice py 0 cy) _ Y).mono ?_
  rintro e u19 ⟨rfl, hb⟩
  replace G := G.blk hb
  replace B := bthen B hb
  replace X := X.blk hb
  replace Y := Y.blk hb
  clear hb
  clear l_b
  go_wp2
  go_ret
  exact ⟨rfl, B⟩
set_option maxRecDepth 100000 in
set_option maxHeartbeats 4000000 in
theorem reck_ge (s t : ByteArray) (A : Nat) (e : Int) (hof : A < Lim ∧ (e = 0 ∨ (e = 3 ∧ A = 0)) ∧ (∀ W, Calls Tryd.prog 10 #[.string s] W fun r w' => r = .returned (.tuple #[.agg (natL A).toArray, .int .i64 e]) ∧ Below W.heap.size W w') ∧ (∀ W, Calls Tryd.prog 11 #[.string s] W fun r w' => ∃ v, r = .returned (.tuple #[v, .int .i64 e]) ∧ RN w' v A ∧ Below W.heap.size W w')) (D : Nat) (e' : Int) (hof' : D < Lim ∧ (e' = 0 ∨ (e' = 3 ∧ D = 0)) ∧ (∀ W, Calls Tryd.prog 10 #[.string t] W fun r w' => r = .returned (.tuple #[.agg (natL D).toArray, .int .i64 e']) ∧ Below W.heap.size W w') ∧ (∀ W, Calls Tryd.prog 11 #[.string t] W fun r w' => ∃ v, r = .returned (.tuple #[v, .int .i64 e']) ∧ RN w' v D ∧ Below W.heap.size W w')) (hle : D ≤ A) (hD0 : D ≠ 0) (W : World) : Calls Tryd.prog 4 #[.string s, .string t] W fun e w' => e = .returned (.bool true) ∧ Below W.heap.size W w' := by
  have hz := zero26
  have G : Has W [] := trivial
  have B : Below W.heap.size W W := Below.refl _ _
  have HE := Hid.mk examples_in
  obtain ⟨hAL, hev, hO, hRO⟩ := hof
  obtain ⟨hDL, hev', hO', hRO'⟩ := hof'
  have HO := Hid.mk hO
  have HRO := Hid.mk hRO
  have HO' := Hid.mk hO'
  have HRO' := Hid.mk hRO'
  clear hO hRO hO' hRO'
  have mA : mny A ≤ 128 := mny_le A hAL
  have mD : mny D ≤ 128 := mny_le D hDL
  have mS : mny (A + D) ≤ 70368744177664 := Nat.le_trans (mny_small (A + D) 129 (by rw [Nat.pow_succ]; unfold Lim at hAL hDL; omega)) (by omega)
  have mP : mny (A * D) ≤ 70368744177664 := Nat.le_trans (mny_small (A * D) (128 + 128) (by rw [Nat.pow_add]; exact Nat.mul_lt_mul'' hAL hDL)) (by omega)
  obtain ⟨C1, e1, h11, h12, h13, h14⟩ := res_both (A + D) mS
  obtain ⟨C2, e2, h21, h22, h23, h24⟩ := res_both (A * D) mP
  have HAD := Hid.mk (add_in A D hAL hDL)
  rw [h12] at HAD
  have HMU := Hid.mk (mul_in A D hAL hDL)
  rw [h22] at HMU
  have HL1 := Hid.mk h13
  have HI1 := Hid.mk h14
  have HL2 := Hid.mk h23
  have HI2 := Hid.mk h24
  clear h12 h13 h14 h22 h23 h24
  have HRA : Hid (∀ v u W, RN W v A → RN W u D → Calls Tryd.prog 22 #[v, u] W fun e w' => ∃ v, e = .returned v ∧ RN w' v (A + D) ∧ Below W.heap.size W w') := fun v u W h k => radd_in W v u A D h k (by omega) (by omega)
  have HRM : Hid (∀ v u W, RN W v A → RN W u D → Calls Tryd.prog 25 #[v, u] W fun e w' => ∃ v, e = .returned v ∧ RN w' v (A * D) ∧ Below W.heap.size W w') := fun v u W h k => rmul_in W v u A D h k (by omega) (by omega)
  have HCX : Hid (∀ v u W, RN W v A → RN W u D → Calls Tryd.prog 20 #[v, u] W fun r w' => r = .returned (.int .i64 (cmpI A D)) ∧ Below W.heap.size W w') := fun v u W h k => (rcmp_in W v u A D h k).mono fun r w' hh => ⟨hh.1, below_drew hh.2⟩
  have HSU := Hid.mk (sub_in A D hAL hDL)
  have HT0 : Hid (∀ W, Calls Tryd.prog 18 #[.agg (natL 0).toArray] W fun e w' => e = .returned (.int .i64 0) ∧ Below W.heap.size W w') := bits_in 0 (Nat.pow_pos (by omega))
  have HIA : Hid (∀ v W, RN W v A → Calls Tryd.prog 14 #[.agg (natL A).toArray, .int .i64 0, v, .int .i64 0] W fun r w' => r = .returned (.bool true) ∧ Below W.heap.size W w') := fun v W h => is_in A hAL 0 v W h (.inl rfl)
  have HID : Hid (∀ v W, RN W v D → Calls Tryd.prog 14 #[.agg (natL D).toArray, .int .i64 0, v, .int .i64 0] W fun r w' => r = .returned (.bool true) ∧ Below W.heap.size W w') := fun v W h => is_in D hDL 0 v W h (.inl rfl)
  rw [show subR A D = .returned (.tuple #[.agg (natL (A - D)).toArray, .int .i64 0]) from if_pos hle] at HSU
  have HRS : Hid (∀ v u W, RN W v A → RN W u D → Calls Tryd.prog 27 #[v, u] W fun e w' => ∃ v, e = .returned v ∧ RN w' v (A - D) ∧ Fresh W.heap.size v ∧ Below W.heap.size W w') := fun v u W h k => rsub_in W v u A D h k (by omega) hle
  have HIS : Hid (∀ v W, RN W v (A - D) → Calls Tryd.prog 14 #[.agg (natL (A - D)).toArray, .int .i64 0, v, .int .i64 0] W fun r w' => r = .returned (.bool true) ∧ Below W.heap.size W w') := fun v W h => is_in (A - D) (by omega) 0 v W h (.inl rfl)
  have hcv : 0 ≤ cmpI A D := by
    rcases Nat.lt_or_ge D A with h | h
    · rw [cmpI_gt _ _ h]; omega
    · rw [show A = D by omega, cmpI_eq]; omega
  have HDV := Hid.mk (div_in A D hAL hDL hD0)
  have HRD : Hid (∀ v u W, RN W v A → RN W u D → Calls Tryd.prog 29 #[v, u] W fun e w' => ∃ q r, e = .returned (.tuple #[q, r]) ∧ RN w' q (A / D) ∧ RN w' r (A % D) ∧ Below W.heap.size W w') := fun v u W h k => rdiv_in W v u A D h k (by omega) (by omega) hD0
  have hQL : A / D < Lim := Nat.lt_of_le_of_lt (Nat.div_le_self _ _) hAL
  have hRL : A % D < Lim := Nat.lt_of_le_of_lt (Nat.mod_le _ _) hAL
  have HIQ : Hid (∀ v W, RN W v (A / D) → Calls Tryd.prog 14 #[.agg (natL (A / D)).toArray, .int .i64 0, v, .int .i64 0] W fun r w' => r = .returned (.bool true) ∧ Below W.heap.size W w') := fun v W h => is_in (A / D) hQL 0 v W h (.inl rfl)
  have HIR : Hid (∀ v W, RN W v (A % D) → Calls Tryd.prog 14 #[.agg (natL (A % D)).toArray, .int .i64 0, v, .int .i64 0] W fun r w' => r = .returned (.bool true) ∧ Below W.heap.size W w') := fun v W h => is_in (A % D) hRL 0 v W h (.inl rfl)
  have hmp : 0 < mny D := (mny_ge D hD0).1
  obtain ⟨mm, hmm⟩ : ∃ mm, mny D = mm := ⟨_, rfl⟩
  have hmi : (0 : Int) < (mm : Int) := by omega
  have HSL : Hid (∀ w v, RN w v D → ∃ p c, v = .slice p mm c) := fun w v h => by
    obtain ⟨p, c, e⟩ := h.slice
    exact ⟨p, c, by rw [e, hmm]⟩
  generalize cmpI A D = cv at *
  generalize A + D = SS at *
  generalize A * D = PP at *
  generalize A / D = QQ at *
  generalize A % D = RR at *
  generalize A - D = DD at *
  clear hAL hev hDL hev' mA mD mS mP h11 h21 hmm hQL hRL hmp
  go_enter Tryd.func4, Tryd.ntmps4
  go_wp2_with fail
  refine (HE.out _).mono ?_
  rintro e u1 ⟨rfl, hb⟩
  replace G := G.blk hb
  replace B := bthen B hb
  clear hb
  go_wp2_with fail
  refine (HO.out _).mono ?_
  rintro e u2 ⟨rfl, hb⟩
  replace G := G.blk hb
  replace B := bthen B hb
  clear hb
  go_upto_region 3 with fail
  replace G := G.new1 (A)
  replace B := below_new1 (A) B
  generalize u2.alloc (.cells (natL (A)).toArray 27) = v2 at G B ⊢
  generalize u2.heap.size = b_a at G ⊢
  go_wp2_with fail
  refine (HO'.out _).mono ?_
  rintro e u3 ⟨rfl, hb⟩
  replace G := G.blk hb
  replace B := bthen B hb
  clear hb
  go_upto_region 4 with fail
  replace G := G.new1 (D)
  replace B := below_new1 (D) B
  generalize u3.alloc (.cells (natL (D)).toArray 27) = v3 at G B ⊢
  generalize u3.heap.size = b_b at G ⊢
  go_wp2_with fail
  refine (HRO.out _).mono ?_
  rintro e u4 ⟨vx, rfl, X, hb⟩
  replace G := G.blk hb
  replace B := bthen B hb
  clear hb
  go_wp2_with fail
  refine (HRO'.out _).mono ?_
  rintro e u5 ⟨vy, rfl, Y, hb⟩
  replace G := G.blk hb
  replace B := bthen B hb
  replace X := X.blk hb
  clear hb
  obtain ⟨py, cy, rfl⟩ := HSL.out _ _ Y
  have l_a := natLoad_run (G.get 1 rfl)
  have l_b := natLoad_run (G.get 0 rfl)
  go_wp2_with fail
  refine (HAD.out _).mono ?_
  rintro e u6 ⟨rfl, hb⟩
  replace G := G.blk hb
  replace B := bthen B hb
  replace X := X.blk hb
  replace Y := Y.blk hb
  clear hb
  clear l_a l_b
  go_upto_region 7 with fail
  replace G := G.new1 (C1)
  replace B := below_new1 (C1) B
  replace X := X.blk (w' := u6.alloc (.cells (natL (C1)).toArray 27)) ((Below.refl _ _).alloc (Nat.le_refl _) _)
  replace Y := Y.blk (w' := u6.alloc (.cells (natL (C1)).toArray 27)) ((Below.refl _ _).alloc (Nat.le_refl _) _)
  generalize u6.alloc (.cells (natL (C1)).toArray 27) = v6 at G B X Y ⊢
  generalize u6.heap.size = b_c at G ⊢
  go_wp2_with fail
  refine (HRA.out vx (.slice py mm cy) _ X Y).mono ?_
  rintro e u7 ⟨vs, rfl, Z, hb⟩
  replace G := G.blk hb
  replace B := bthen B hb
  replace X := X.blk hb
  replace Y := Y.blk hb
  clear hb
  go_upto_region 8 with fail
  obtain ⟨Kp1, hK⟩ : ∃ K : World → Prop, K = fun w => Has w [(b_c, C1), (b_b, D), (b_a, A)] ∧ Below W.heap.size W w ∧ RN w vx A ∧ RN w (.slice py mm cy) D ∧ RN w vs SS := ⟨_, rfl⟩
  have kz : Kp1 u7 := by rw [hK]; exact ⟨G, B, X, Y, Z⟩
  have KB : Hid (∀ w w', Kp1 w → Below w.heap.size w w' → Kp1 w') := by
    rw [Hid, hK]
    exact fun w w' h hb => ⟨h.1.blk hb, bthen h.2.1 hb, h.2.2.1.blk hb, h.2.2.2.1.blk hb, h.2.2.2.2.blk hb⟩
  have kd : ∀ w, Kp1 w → Kp1 w.drew := fun w h => KB.out w _ h (Below.refl _ _).drew
  have HKe : Hid (∀ w, Kp1 w → Has w [(b_c, C1), (b_b, D), (b_a, A)] ∧ Below W.heap.size W w ∧ RN w vx A ∧ RN w (.slice py mm cy) D ∧ RN w vs SS) := by rw [Hid, hK]; exact fun w h => h
  have HS : Hid (∀ w, Kp1 w → Kp1 w ∧ (natLoad (.pointer (some ⟨b_c, 0, none⟩))).run Tryd.prog w = .ok (.agg (natL C1).toArray) w) := fun w h => ⟨h, natLoad_run ((HKe.out w h).1.get 0 rfl)⟩
  have hS0 := HS.out _ kz
  clear hK G B X Y Z
  go_region_held3 (fun w => Kp1 w ∧ (natLoad (.pointer (some ⟨b_c, 0, none⟩))).run Tryd.prog w = .ok (.agg (natL C1).toArray) w)
    (first | assumption | (apply HS.out; repeat (first | assumption | apply kd)))
    (first
      | (go_at_call 23; have k1 := kd _ kz; refine (HL1.out vs _ (HKe.out _ k1).2.2.2.2).mono ?_; rintro e w2 ⟨rfl, hb2⟩; have k2 := KB.out _ _ k1 hb2; have hs2 := HS.out _ k2)
      | (go_at_call 14; refine (HI1.out vs _ (HKe.out _ k2).2.2.2.2).mono ?_; rintro e w3 ⟨rfl, hb3⟩; have k3 := KB.out _ _ k2 hb3; have hs3 := HS.out _ k3))
  obtain ⟨G, B, X, Y, Z⟩ := HKe.out _ k3
  clear hS0 kz kd k1 k2 k3 hs2 hs3 hb2 hb3 KB HKe HS
  generalize w3 = u8 at *
  clear Z
  have l_a := natLoad_run (G.get 2 rfl)
  have l_b := natLoad_run (G.get 1 rfl)
  go_wp2_with fail
  refine (HMU.out _).mono ?_
  rintro e u9 ⟨rfl, hb⟩
  replace G := G.blk hb
  replace B := bthen B hb
  replace X := X.blk hb
  replace Y := Y.blk hb
  clear hb
  clear l_a l_b
  go_upto_region 10 with fail
  replace G := G.new1 (C2)
  replace B := below_new1 (C2) B
  replace X := X.blk (w' := u9.alloc (.cells (natL (C2)).toArray 27)) ((Below.refl _ _).alloc (Nat.le_refl _) _)
  replace Y := Y.blk (w' := u9.alloc (.cells (natL (C2)).toArray 27)) ((Below.refl _ _).alloc (Nat.le_refl _) _)
  generalize u9.alloc (.cells (natL (C2)).toArray 27) = v9 at G B X Y ⊢
  generalize u9.heap.size = b_d at G ⊢
  go_wp2_with fail
  refine (HRM.out vx (.slice py mm cy) _ X Y).mono ?_
  rintro e u10 ⟨vp, rfl, Z, hb⟩
  replace G := G.blk hb
  replace B := bthen B hb
  replace X := X.blk hb
  replace Y := Y.blk hb
  clear hb
  go_upto_region 11 with fail
  obtain ⟨Kp2, hK⟩ : ∃ K : World → Prop, K = fun w => Has w [(b_d, C2), (b_c, C1), (b_b, D), (b_a, A)] ∧ Below W.heap.size W w ∧ RN w vx A ∧ RN w (.slice py mm cy) D ∧ RN w vp PP := ⟨_, rfl⟩
  have kz : Kp2 u10 := by rw [hK]; exact ⟨G, B, X, Y, Z⟩
  have KB : Hid (∀ w w', Kp2 w → Below w.heap.size w w' → Kp2 w') := by
    rw [Hid, hK]
    exact fun w w' h hb => ⟨h.1.blk hb, bthen h.2.1 hb, h.2.2.1.blk hb, h.2.2.2.1.blk hb, h.2.2.2.2.blk hb⟩
  have kd : ∀ w, Kp2 w → Kp2 w.drew := fun w h => KB.out w _ h (Below.refl _ _).drew
  have HKe : Hid (∀ w, Kp2 w → Has w [(b_d, C2), (b_c, C1), (b_b, D), (b_a, A)] ∧ Below W.heap.size W w ∧ RN w vx A ∧ RN w (.slice py mm cy) D ∧ RN w vp PP) := by rw [Hid, hK]; exact fun w h => h
  have HS : Hid (∀ w, Kp2 w → Kp2 w ∧ (natLoad (.pointer (some ⟨b_d, 0, none⟩))).run Tryd.prog w = .ok (.agg (natL C2).toArray) w) := fun w h => ⟨h, natLoad_run ((HKe.out w h).1.get 0 rfl)⟩
  have hS0 := HS.out _ kz
  clear hK G B X Y Z
  go_region_held3 (fun w => Kp2 w ∧ (natLoad (.pointer (some ⟨b_d, 0, none⟩))).run Tryd.prog w = .ok (.agg (natL C2).toArray) w)
    (first | assumption | (apply HS.out; repeat (first | assumption | apply kd)))
    (first
      | (go_at_call 23; have k1 := kd _ kz; refine (HL2.out vp _ (HKe.out _ k1).2.2.2.2).mono ?_; rintro e w2 ⟨rfl, hb2⟩; have k2 := KB.out _ _ k1 hb2; have hs2 := HS.out _ k2)
      | (go_at_call 14; refine (HI2.out vp _ (HKe.out _ k2).2.2.2.2).mono ?_; rintro e w3 ⟨rfl, hb3⟩; have k3 := KB.out _ _ k2 hb3; have hs3 := HS.out _ k3))
  obtain ⟨G, B, X, Y, Z⟩ := HKe.out _ k3
  clear hS0 kz kd k1 k2 k3 hs2 hs3 hb2 hb3 KB HKe HS
  generalize w3 = u11 at *
  clear Z
  have l_a := natLoad_run (G.get 3 rfl)
  have l_b := natLoad_run (G.get 2 rfl)
  go_wp2_with fail
  refine (HSU.out _).mono ?_
  rintro e u12 ⟨rfl, hb⟩
  replace G := G.blk hb
  replace B := bthen B hb
  replace X := X.blk hb
  replace Y := Y.blk hb
  clear hb
  clear l_a l_b
  go_upto_region 13 with fail
  replace G := G.new1 (DD)
  replace B := below_new1 (DD) B
  replace X := X.blk (w' := u12.alloc (.cells (natL (DD)).toArray 27)) ((Below.refl _ _).alloc (Nat.le_refl _) _)
  replace Y := Y.blk (w' := u12.alloc (.cells (natL (DD)).toArray 27)) ((Below.refl _ _).alloc (Nat.le_refl _) _)
  generalize u12.alloc (.cells (natL (DD)).toArray 27) = v12 at G B X Y ⊢
  generalize u12.heap.size = b_h at G ⊢
  go_wp2_with fail
  refine (HCX.out vx (.slice py mm cy) _ X Y).mono ?_
  rintro e u13 ⟨rfl, hb⟩
  replace G := G.blk hb
  replace B := bthen B hb
  replace X := X.blk hb
  replace Y := Y.blk hb
  clear hb
  go_upto_region 15 with fail
  obtain ⟨Kp3, hK⟩ : ∃ K : World → Prop, K = fun w => Has w [(b_h, DD), (b_d, C2), (b_c, C1), (b_b, D), (b_a, A)] ∧ Below W.heap.size W w ∧ RN w vx A ∧ RN w (.slice py mm cy) D := ⟨_, rfl⟩
  have kz : Kp3 u13 := by rw [hK]; exact ⟨G, B, X, Y⟩
  have KB : Hid (∀ w w', Kp3 w → Below w.heap.size w w' → Kp3 w') := by
    rw [Hid, hK]
    exact fun w w' h hb => ⟨h.1.blk hb, bthen h.2.1 hb, h.2.2.1.blk hb, h.2.2.2.blk hb⟩
  have kd : ∀ w, Kp3 w → Kp3 w.drew := fun w h => KB.out w _ h (Below.refl _ _).drew
  have HKe : Hid (∀ w, Kp3 w → Has w [(b_h, DD), (b_d, C2), (b_c, C1), (b_b, D), (b_a, A)] ∧ Below W.heap.size W w ∧ RN w vx A ∧ RN w (.slice py mm cy) D) := by rw [Hid, hK]; exact fun w h => h
  have HS : Hid (∀ w, Kp3 w → Kp3 w ∧ (natLoad (.pointer (some ⟨b_h, 0, none⟩))).run Tryd.prog w = .ok (.agg (natL DD).toArray) w) := fun w h => ⟨h, natLoad_run ((HKe.out w h).1.get 0 rfl)⟩
  have hS0 := HS.out _ kz
  clear hK G B X Y
  go_region_held3 (fun w => Kp3 w ∧ (natLoad (.pointer (some ⟨b_h, 0, none⟩))).run Tryd.prog w = .ok (.agg (natL DD).toArray) w)
    (first | assumption | (apply HS.out; repeat (first | assumption | apply kd)))
    (first
      | (go_at_call 27; have k1 := kd _ kz; refine (HRS.out vx (.slice py mm cy) _ (HKe.out _ k1).2.2.1 (HKe.out _ k1).2.2.2).mono ?_; rintro e w2 ⟨v9, rfl, r9, _, hb2⟩; have k2 := KB.out _ _ k1 hb2; have hs2 := HS.out _ k2)
      | (go_at_call 14; refine (HIS.out v9 _ r9).mono ?_; rintro e w3 ⟨rfl, hb3⟩; have k3 := KB.out _ _ k2 hb3; have hs3 := HS.out _ k3))
  obtain ⟨G, B, X, Y⟩ := HKe.out _ k3
  clear hS0 kz kd k1 k2 k3 hs2 hs3 hb2 hb3 KB HKe HS r9
  generalize w3 = u14 at *
  have l_a := natLoad_run (G.get 4 rfl)
  have l_b := natLoad_run (G.get 3 rfl)
  go_wp2_with fail
  refine (HDV.out _).mono ?_
  rintro e u15 ⟨rfl, hb⟩
  replace G := G.blk hb
  replace B := bthen B hb
  replace X := X.blk hb
  replace Y := Y.blk hb
  clear hb
  clear l_a l_b
  go_upto_region 17 with fail
  replace G := G.new2 (QQ) (RR)
  replace B := below_new2 (QQ) (RR) B
  replace X := X.blk (two_new u15 (natL (QQ)) (natL (RR)) 27 27).2.2.1
  replace Y := Y.blk (two_new u15 (natL (QQ)) (natL (RR)) 27 27).2.2.1
  generalize (u15.alloc (.cells (natL (QQ)).toArray 27)).alloc (.cells (natL (RR)).toArray 27) = v15 at G B X Y ⊢
  generalize u15.heap.size = b_q at G ⊢
  obtain ⟨b_r, h_r⟩ : ∃ x, b_q + 1 = x := ⟨_, rfl⟩
  rw [h_r] at G ⊢
  clear h_r
  go_wp2_with fail
  refine (HRD.out vx (.slice py mm cy) _ X Y).mono ?_
  rintro e u16 ⟨vq, vr, rfl, Q, Z, hb⟩
  replace G := G.blk hb
  replace B := bthen B hb
  replace X := X.blk hb
  replace Y := Y.blk hb
  clear hb
  have l_q := natLoad_run (G.get 0 rfl)
  go_wp2_with fail
  refine (HIQ.out vq _ Q).mono ?_
  rintro e u17 ⟨rfl, hb⟩
  replace G := G.blk hb
  replace B := bthen B hb
  replace X := X.blk hb
  replace Y := Y.blk hb
  replace Q := Q.blk hb
  replace Z := Z.blk hb
  clear hb
  clear l_q
  have l_r := natLoad_run (G.get 1 rfl)
  go_wp2_with fail
  refine (HIR.out vr _ Z).mono ?_
  rintro e u18 ⟨rfl, hb⟩
  replace G := G.blk hb
  replace B := bthen B hb
  replace X := X.blk hb
  replace Y := Y.blk hb
  replace Q := Q.blk hb
  replace Z := Z.blk hb
  clear hb
  clear l_r
  have l_a := natLoad_run (G.get 6 rfl)
  go_wp2_with fail
  refine (HIA.out vx _ X).mono ?_
  rintro e u19 ⟨rfl, hb⟩
  replace G := G.blk hb
  replace B := bthen B hb
  replace X := X.blk hb
  replace Y := Y.blk hb
  replace Q := Q.blk hb
  replace Z := Z.blk hb
  clear hb
  clear l_a
  have l_b := natLoad_run (G.get 5 rfl)
  go_wp2_with fail
  refine (HID.out (.slice py mm cy) _ Y).mono ?_
  rintro e u20 ⟨rfl, hb⟩
  replace G := G.blk hb
  replace B := bthen B hb
  replace X := X.blk hb
  replace Y := Y.blk hb
  replace Q := Q.blk hb
  replace Z := Z.blk hb
  clear hb
  clear l_b
  go_wp2
  go_ret
  exact ⟨rfl, B⟩
theorem reck_walk (s : ByteArray) (hs : s.size ≤ 140737488351232) (t : ByteArray) (ht : t.size ≤ 140737488351232) (W : World) : Calls Tryd.prog 4 #[.string s, .string t] W fun e w' => e = .returned (.bool true) ∧ Below W.heap.size W w' := by
  obtain ⟨A, e, hof⟩ := of_both s hs
  obtain ⟨D, e', hof'⟩ := of_both t ht
  by_cases h : A < D
  · exact reck_lt s t A e hof D e' hof' h (by omega) W
  · by_cases h0 : D = 0
    · exact reck_zero s t A e hof D e' hof' (by omega) h0 W
    · exact reck_ge s t A e hof D e' hof' (by omega) h0 W
end Go.Proofs.YthjhemodmdficaaDoor
