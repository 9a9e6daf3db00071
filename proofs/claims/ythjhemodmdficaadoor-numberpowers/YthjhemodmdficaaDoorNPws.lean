/- NumberPowers: powers and inverses modulo a number are what the document says. -/
import Derived.Test.YthjhemodmdficaaDoorNR15
import Derived.Deep.RegionHeld3
namespace Go.Proofs.YthjhemodmdficaaDoor
set_option linter.unusedVariables false
open Go.RowKit
attribute [local go_sem ↓] loadAt_nat storeAt_nat build_nat build_nat'
attribute [local go_sem] st1 st2a st2b natBuild_run
theorem bits_of_lim {N : Nat} (h : N < Lim) : mny N ≤ 70368744177664 ∧ btl N ≤ 700000 := ⟨Nat.le_trans (mny_le N h) (by omega), Nat.le_trans (btl_le N h) (by omega)⟩
set_option maxRecDepth 100000 in
set_option maxHeartbeats 400000 in
theorem is_in (N : Nat) (hN : N < Lim) (e : Int) (v : Value) (W : World) (hv : RN W v N) (he : e = 0 ∨ (e = 3 ∧ N = 0)) : Calls Tryd.prog 14 #[.agg (natL N).toArray, .int .i64 e, v, .int .i64 e] W fun r w' => r = .returned (.bool true) ∧ Below W.heap.size W w' := by
  have b0 := boxed W (natL N) 27
  have hBl : Below W.heap.size W (W.alloc (.cells (natL N).toArray 27)) := (Below.refl _ _).alloc (Nat.le_refl _) _
  have l0 := natLoad_run b0
  rcases he with rfl | ⟨rfl, rfl⟩
  · have HY := Hid.mk (bytes_in N hN)
    have HR : Hid (∀ W', RN W' v N → Calls Tryd.prog 39 #[v] W' fun e w' => e = .returned (.string ⟨(bys N (nbl N)).toArray⟩) ∧ Below W'.heap.size W' w') := fun W' h => rbytes_in W' v N h (bits_of_lim hN).2
    have X := hv.blk hBl
    generalize (⟨(bys N (nbl N)).toArray⟩ : ByteArray) = S at HY HR
    clear hv
    go_enter Tryd.func14, Tryd.ntmps14
    go_wp2_with fail
    refine (HY.out _).mono ?_
    rintro e w1 ⟨rfl, hb⟩
    replace X := X.blk hb
    have B := bthen hBl hb
    clear l0 b0 hb
    go_wp2_with fail
    refine (HR.out _ X).mono ?_
    rintro e w2 ⟨rfl, hb⟩
    replace B := bthen B hb
    go_wp2
    go_ret
    exact ⟨rfl, B⟩
  · have HT : Hid (∀ W, Calls Tryd.prog 18 #[.agg (natL 0).toArray] W fun e w' => e = .returned (.int .i64 0) ∧ Below W.heap.size W w') := bits_in 0 hN
    go_enter Tryd.func14, Tryd.ntmps14
    go_wp2_with fail
    refine (HT.out _).mono ?_
    rintro e w1 ⟨rfl, hb⟩
    have B := bthen hBl hb
    clear l0 b0 hb
    go_wp2
    go_ret
    exact ⟨rfl, B⟩
/-- what both Ofs answer. -/
theorem of_both (s : ByteArray) (hs : s.size ≤ 140737488351232) : ∃ (A : Nat) (e : Int), A < Lim ∧ (e = 0 ∨ (e = 3 ∧ A = 0)) ∧ (∀ W, Calls Tryd.prog 10 #[.string s] W fun r w' => r = .returned (.tuple #[.agg (natL A).toArray, .int .i64 e]) ∧ Below W.heap.size W w') ∧
    (∀ W, Calls Tryd.prog 11 #[.string s] W fun r w' => ∃ v, r = .returned (.tuple #[v, .int .i64 e]) ∧ RN w' v A ∧ Below W.heap.size W w') := by
  have h512 := strip_512 s.data.toList 512 128 (by omega)
  by_cases h : numB s.data.toList < Lim
  · refine ⟨numB s.data.toList, 0, h, .inl rfl, fun W => ?_, fun W => ?_⟩
    · have := of_in s (by omega) W
      rw [ofR_ok _ (h512.2 h)] at this
      exact this
    · refine (rof_in s hs W).mono ?_
      rintro r w' ⟨v, x, rfl, h1, h2, hb⟩
      obtain ⟨rfl, hr⟩ := h1 h
      exact ⟨v, rfl, hr, hb⟩
  · refine ⟨0, 3, Nat.pow_pos (by omega), .inr ⟨rfl, rfl⟩, fun W => ?_, fun W => ?_⟩
    · have := of_in s (by omega) W
      rw [ofR, if_neg (fun hh => h (h512.1 hh))] at this
      exact this
    · refine (rof_in s hs W).mono ?_
      rintro r w' ⟨v, x, rfl, h1, h2, hb⟩
      obtain ⟨rfl, hr⟩ := h2 h
      exact ⟨v, rfl, hr, hb⟩
theorem RN.slice {w : World} {v : Value} {N : Nat} (h : RN w v N) : ∃ p c, v = .slice p (mny N) c := by
  obtain ⟨ds, hr, rfl, ht⟩ := h
  obtain ⟨p, c, rfl, -⟩ := hr.read
  exact ⟨p, c, by rw [ht.many]⟩
set_option maxRecDepth 100000 in
set_option maxHeartbeats 400000 in
theorem is_err (v : Value) (W : World) : Calls Tryd.prog 14 #[.agg (natL 0).toArray, .int .i64 3, v, .int .i64 3] W fun r w' => r = .returned (.bool true) ∧ Below W.heap.size W w' := by
  have b0 := boxed W (natL 0) 27
  have hBl : Below W.heap.size W (W.alloc (.cells (natL 0).toArray 27)) := (Below.refl _ _).alloc (Nat.le_refl _) _
  have l0 := natLoad_run b0
  have HT : Hid (∀ W, Calls Tryd.prog 18 #[.agg (natL 0).toArray] W fun e w' => e = .returned (.int .i64 0) ∧ Below W.heap.size W w') := bits_in 0 (Nat.pow_pos (by omega))
  go_enter Tryd.func14, Tryd.ntmps14
  go_wp2_with fail
  refine (HT.out _).mono ?_
  rintro e w1 ⟨rfl, hb⟩
  have B := bthen hBl hb
  clear l0 b0 hb
  go_wp2
  go_ret
  exact ⟨rfl, B⟩
set_option maxRecDepth 100000 in
set_option maxHeartbeats 400000 in
theorem long_in (v : Value) (N : Nat) (W : World) (h : RN W v N) (hm : mny N ≤ 70368744177664) : Calls Tryd.prog 23 #[v] W fun r w' => r = .returned (.int .i64 (if N < Lim then 0 else 3)) ∧ w' = W := by
  have HB := Hid.mk (rbits_in W v N h hm)
  by_cases hl : N < Lim
  · rw [if_pos hl]
    have hb : (btl N : Int) ≤ 4096 := by have := (btl_lim N).2 hl; omega
    generalize btl N = bn at *
    go_enter Tryd.func23, Tryd.ntmps23
    go_wp2_with fail
    refine HB.out.mono ?_
    rintro e w1 ⟨rfl, rfl⟩
    go_wp2
    go_ret
    exact ⟨rfl, rfl⟩
  · rw [if_neg hl]
    have hb : (4096 : Int) < (btl N : Int) := by
      have : ¬ btl N ≤ 4096 := fun h => hl ((btl_lim N).1 h)
      omega
    generalize btl N = bn at *
    go_enter Tryd.func23, Tryd.ntmps23
    go_wp2_with fail
    refine HB.out.mono ?_
    rintro e w1 ⟨rfl, rfl⟩
    go_wp2
    go_ret
    exact ⟨rfl, rfl⟩
/-- a result that may be too long. -/
theorem res_both (S : Nat) (hm : mny S ≤ 70368744177664) : ∃ (C : Nat) (e : Int), C < Lim ∧ natR S = .returned (.tuple #[.agg (natL C).toArray, .int .i64 e]) ∧ (∀ v W, RN W v S → Calls Tryd.prog 23 #[v] W fun r w' => r = .returned (.int .i64 e) ∧ Below W.heap.size W w') ∧ (∀ v W, RN W v S → Calls Tryd.prog 14 #[.agg (natL C).toArray, .int .i64 e, v, .int .i64 e] W fun r w' => r = .returned (.bool true) ∧ Below W.heap.size W w') := by
  by_cases hl : S < Lim
  · refine ⟨S, 0, hl, natR_ok S hl, fun v W h => ?_, fun v W h => is_in S hl 0 v W h (.inl rfl)⟩
    have := long_in v S W h hm
    rw [if_pos hl] at this
    exact this.mono fun r w' hh => ⟨hh.1, below_same hh.2⟩
  · refine ⟨0, 3, Nat.pow_pos (by omega), natR_no S hl, fun v W h => ?_, fun v W h => is_err v W⟩
    have := long_in v S W h hm
    rw [if_neg hl] at this
    exact this.mono fun r w' hh => ⟨hh.1, below_same hh.2⟩
set_option maxRecDepth 100000 in
set_option maxHeartbeats 400000 in
theorem is_err13 (v : Value) (W : World) : Calls Tryd.prog 14 #[.agg (natL 0).toArray, .int .i64 13, v, .int .i64 13] W fun r w' => r = .returned (.bool true) ∧ Below W.heap.size W w' := by
  have b0 := boxed W (natL 0) 27
  have hBl : Below W.heap.size W (W.alloc (.cells (natL 0).toArray 27)) := (Below.refl _ _).alloc (Nat.le_refl _) _
  have l0 := natLoad_run b0
  have HT : Hid (∀ W, Calls Tryd.prog 18 #[.agg (natL 0).toArray] W fun e w' => e = .returned (.int .i64 0) ∧ Below W.heap.size W w') := bits_in 0 (Nat.pow_pos (by omega))
  go_enter Tryd.func14, Tryd.ntmps14
  go_wp2_with fail
  refine (HT.out _).mono ?_
  rintro e w1 ⟨rfl, hb⟩
  have B := bthen hBl hb
  clear l0 b0 hb
  go_wp2
  go_ret
  exact ⟨rfl, B⟩
theorem inv_none {A D I : Nat} {v : Int} (h1 : flt D ≠ 0 → I = 0 ∧ v = flt D) (h : flt D ≠ 0) : I = 0 ∧ v = flt D := h1 h
set_option maxRecDepth 100000 in
set_option maxHeartbeats 4000000 in
theorem pows_zero0 (s t u tt : ByteArray) (hlen : (t.size : Int) ≤ 40) (htt : t = tt) (A : Nat) (ea : Int) (hofa : A < Lim ∧ (ea = 0 ∨ (ea = 3 ∧ A = 0)) ∧ (∀ W, Calls Tryd.prog 10 #[.string s] W fun r w' => r = .returned (.tuple #[.agg (natL A).toArray, .int .i64 ea]) ∧ Below W.heap.size W w') ∧ (∀ W, Calls Tryd.prog 11 #[.string s] W fun r w' => ∃ v, r = .returned (.tuple #[v, .int .i64 ea]) ∧ RN w' v A ∧ Below W.heap.size W w')) (E : Nat) (ee : Int) (hofe : E < Lim ∧ (ee = 0 ∨ (ee = 3 ∧ E = 0)) ∧ (∀ W, Calls Tryd.prog 10 #[.string tt] W fun r w' => r = .returned (.tuple #[.agg (natL E).toArray, .int .i64 ee]) ∧ Below W.heap.size W w') ∧ (∀ W, Calls Tryd.prog 11 #[.string tt] W fun r w' => ∃ v, r = .returned (.tuple #[v, .int .i64 ee]) ∧ RN w' v E ∧ Below W.heap.size W w')) (D : Nat) (em : Int) (hofm : D < Lim ∧ (em = 0 ∨ (em = 3 ∧ D = 0)) ∧ (∀ W, Calls Tryd.prog 10 #[.string u] W fun r w' => r = .returned (.tuple #[.agg (natL D).toArray, .int .i64 em]) ∧ Below W.heap.size W w') ∧ (∀ W, Calls Tryd.prog 11 #[.string u] W fun r w' => ∃ v, r = .returned (.tuple #[v, .int .i64 em]) ∧ RN w' v D ∧ Below W.heap.size W w')) (hD : D = 0) (W : World) : Calls Tryd.prog 5 #[.string s, .string t, .string u] W fun e w' => e = .returned (.bool true) ∧ Below W.heap.size W w' := by
  subst htt
  have hz := zero26
  have G : Has W [] := trivial
  have B : Below W.heap.size W W := Below.refl _ _
  have HE := Hid.mk examples_in
  obtain ⟨hAL, hev0, hO0, hRO0⟩ := hofa
  have HO0 := Hid.mk hO0
  have HRO0 := Hid.mk hRO0
  clear hO0 hRO0 hev0
  obtain ⟨hEL, hev1, hO1, hRO1⟩ := hofe
  have HO1 := Hid.mk hO1
  have HRO1 := Hid.mk hRO1
  clear hO1 hRO1 hev1
  obtain ⟨hDL, hev2, hO2, hRO2⟩ := hofm
  have HO2 := Hid.mk hO2
  have HRO2 := Hid.mk hRO2
  clear hO2 hRO2 hev2
  have mA : mny A ≤ 128 := mny_le A hAL
  have mE : mny E ≤ 128 := mny_le E hEL
  have mD : mny D ≤ 128 := mny_le D hDL
  have HPW := Hid.mk (pow_in A E D hAL hEL hDL)
  have HIV := Hid.mk (inv_in A D hAL hDL)
  have HT0 : Hid (∀ W, Calls Tryd.prog 18 #[.agg (natL 0).toArray] W fun e w' => e = .returned (.int .i64 0) ∧ Below W.heap.size W w') := bits_in 0 (Nat.pow_pos (by omega))
  have HBD : Hid (∀ v W, RN W v D → Calls Tryd.prog 16 #[v] W fun r w' => r = .returned (.int .i64 (btl D : Int)) ∧ Below W.heap.size W w') := fun v W h => (rbits_in W v D h (bits_of_lim hDL).1).mono fun r w' hh => ⟨hh.1, below_same hh.2⟩
  have hfl : flt D = 1 := by rw [hD]; rfl
  rw [show powR A E D = .returned (.tuple #[.agg (natL 0).toArray, .int .i64 1]) by rw [powR, if_neg (by rw [hfl]; decide), hfl]] at HPW
  have HIW : Hid (∀ W, Calls Tryd.prog 31 #[.agg (natL A).toArray, .agg (natL D).toArray] W fun e w' => e = .returned (.tuple #[.agg (natL 0).toArray, .int .i64 1]) ∧ Below W.heap.size W w') := fun W => by
    refine (HIV.out W).mono ?_
    rintro e w' ⟨I, v, h1, h2, h3, rfl, hb⟩
    obtain ⟨rfl, rfl⟩ := h2 (by rw [hfl]; decide)
    exact ⟨by rw [hfl], hb⟩
  obtain ⟨mm, hmm⟩ : ∃ mm, mny D = mm := ⟨_, rfl⟩
  have hm0 : mm = 0 := by rw [← hmm, hD]; exact mny_zero
  subst hm0
  have HSL : Hid (∀ w v, RN w v D → ∃ p c, v = .slice p 0 c) := fun w v h => by
    obtain ⟨p, c, e⟩ := h.slice
    exact ⟨p, c, by rw [e, hmm]⟩
  skip
  clear hAL hEL hDL mA mE mD hfl hmm HIV hD
  go_enter Tryd.func5, Tryd.ntmps5
  go_wp2_with fail
  refine (HE.out _).mono ?_
  rintro e u1 ⟨rfl, hb⟩
  replace G := G.blk hb
  replace B := bthen B hb
  clear hb
  go_wp2_with fail
  refine (HO0.out _).mono ?_
  rintro e u2 ⟨rfl, hb⟩
  replace G := G.blk hb
  replace B := bthen B hb
  clear hb
  go_upto_region 5 with fail
  replace G := G.new1 (A)
  replace B := below_new1 (A) B
  generalize u2.alloc (.cells (natL (A)).toArray 27) = v2 at G B ⊢
  generalize u2.heap.size = b_a at G ⊢
  go_wp2_with fail
  refine (HO1.out _).mono ?_
  rintro e u3 ⟨rfl, hb⟩
  replace G := G.blk hb
  replace B := bthen B hb
  clear hb
  go_upto_region 6 with fail
  replace G := G.new1 (E)
  replace B := below_new1 (E) B
  generalize u3.alloc (.cells (natL (E)).toArray 27) = v3 at G B ⊢
  generalize u3.heap.size = b_e at G ⊢
  go_wp2_with fail
  refine (HO2.out _).mono ?_
  rintro e u4 ⟨rfl, hb⟩
  replace G := G.blk hb
  replace B := bthen B hb
  clear hb
  go_upto_region 7 with fail
  replace G := G.new1 (D)
  replace B := below_new1 (D) B
  generalize u4.alloc (.cells (natL (D)).toArray 27) = v4 at G B ⊢
  generalize u4.heap.size = b_m at G ⊢
  go_wp2_with fail
  refine (HRO0.out _).mono ?_
  rintro e u5 ⟨vx, rfl, X, hb⟩
  replace G := G.blk hb
  replace B := bthen B hb
  clear hb
  go_wp2_with fail
  refine (HRO1.out _).mono ?_
  rintro e u6 ⟨vy, rfl, Y, hb⟩
  replace G := G.blk hb
  replace B := bthen B hb
  replace X := X.blk hb
  clear hb
  go_wp2_with fail
  refine (HRO2.out _).mono ?_
  rintro e u7 ⟨vz, rfl, Z, hb⟩
  replace G := G.blk hb
  replace B := bthen B hb
  replace X := X.blk hb
  replace Y := Y.blk hb
  clear hb
  obtain ⟨pz, cz, rfl⟩ := HSL.out _ _ Z
  have l_a := natLoad_run (G.get 2 rfl)
  have l_e := natLoad_run (G.get 1 rfl)
  have l_m := natLoad_run (G.get 0 rfl)
  go_wp2_with fail
  refine (HPW.out _).mono ?_
  rintro e u8 ⟨rfl, hb⟩
  replace G := G.blk hb
  replace B := bthen B hb
  replace X := X.blk hb
  replace Y := Y.blk hb
  replace Z := Z.blk hb
  clear hb
  clear l_a l_e l_m
  go_upto_region 11 with fail
  replace G := G.new1 (0)
  replace B := below_new1 (0) B
  replace X := X.blk (w' := u8.alloc (.cells (natL (0)).toArray 27)) ((Below.refl _ _).alloc (Nat.le_refl _) _)
  replace Y := Y.blk (w' := u8.alloc (.cells (natL (0)).toArray 27)) ((Below.refl _ _).alloc (Nat.le_refl _) _)
  replace Z := Z.blk (w' := u8.alloc (.cells (natL (0)).toArray 27)) ((Below.refl _ _).alloc (Nat.le_refl _) _)
  generalize u8.alloc (.cells (natL (0)).toArray 27) = v8 at G B X Y Z ⊢
  generalize u8.heap.size = b_p at G ⊢
  have l_a := natLoad_run (G.get 3 rfl)
  have l_m := natLoad_run (G.get 1 rfl)
  go_wp2_with fail
  refine (HIW.out _).mono ?_
  rintro e u9 ⟨rfl, hb⟩
  replace G := G.blk hb
  replace B := bthen B hb
  replace X := X.blk hb
  replace Y := Y.blk hb
  replace Z := Z.blk hb
  clear hb
  clear l_a l_m
  go_upto_region 12 with fail
  replace G := G.new1 (0)
  replace B := below_new1 (0) B
  replace X := X.blk (w' := u9.alloc (.cells (natL (0)).toArray 27)) ((Below.refl _ _).alloc (Nat.le_refl _) _)
  replace Y := Y.blk (w' := u9.alloc (.cells (natL (0)).toArray 27)) ((Below.refl _ _).alloc (Nat.le_refl _) _)
  replace Z := Z.blk (w' := u9.alloc (.cells (natL (0)).toArray 27)) ((Below.refl _ _).alloc (Nat.le_refl _) _)
  generalize u9.alloc (.cells (natL (0)).toArray 27) = v9 at G B X Y Z ⊢
  generalize u9.heap.size = b_i at G ⊢
  go_upto_region 13 with fail
  obtain ⟨Kp, hK⟩ : ∃ K : World → Prop, K = fun w => Has w [(b_i, 0), (b_p, 0), (b_m, D), (b_e, E), (b_a, A)] ∧ Below W.heap.size W w ∧ RN w vx A ∧ RN w vy E ∧ RN w (.slice pz 0 cz) D := ⟨_, rfl⟩
  have kz : Kp v9 := by rw [hK]; exact ⟨G, B, X, Y, Z⟩
  have KB : Hid (∀ w w', Kp w → Below w.heap.size w w' → Kp w') := by
    rw [Hid, hK]
    exact fun w w' h hb => ⟨h.1.blk hb, bthen h.2.1 hb, h.2.2.1.blk hb, h.2.2.2.1.blk hb, h.2.2.2.2.blk hb⟩
  have kd : ∀ w, Kp w → Kp w.drew := fun w h => KB.out w _ h (Below.refl _ _).drew
  have HKe : Hid (∀ w, Kp w → Has w [(b_i, 0), (b_p, 0), (b_m, D), (b_e, E), (b_a, A)] ∧ Below W.heap.size W w ∧ RN w vx A ∧ RN w vy E ∧ RN w (.slice pz 0 cz) D) := by rw [Hid, hK]; exact fun w h => h
  have HS : Hid (∀ w, Kp w → Kp w ∧ (natLoad (.pointer (some ⟨b_p, 0, none⟩))).run Tryd.prog w = .ok (.agg (natL (0)).toArray) w ∧ (natLoad (.pointer (some ⟨b_i, 0, none⟩))).run Tryd.prog w = .ok (.agg (natL (0)).toArray) w) := fun w h => ⟨h, natLoad_run ((HKe.out w h).1.get 1 rfl), natLoad_run ((HKe.out w h).1.get 0 rfl)⟩
  have hS0 := HS.out _ kz
  clear hK G B X Y Z
  go_region_held3 (fun w => Kp w ∧ (natLoad (.pointer (some ⟨b_p, 0, none⟩))).run Tryd.prog w = .ok (.agg (natL (0)).toArray) w ∧ (natLoad (.pointer (some ⟨b_i, 0, none⟩))).run Tryd.prog w = .ok (.agg (natL (0)).toArray) w)
    (first | assumption | (apply HS.out; repeat (first | assumption | apply kd)))
    (first
      | (go_at_call 18; refine (HT0.out _).mono ?_; rintro e w2 ⟨rfl, hb2⟩; have k2 := KB.out _ _ (by repeat (first | assumption | apply kd)) hb2; have hs2 := HS.out _ k2))
  all_goals go_wp2
  all_goals go_ret
  all_goals exact ⟨rfl, (HKe.out _ k2).2.1⟩
set_option maxRecDepth 100000 in
set_option maxHeartbeats 4000000 in
theorem pows_zero1 (s t u tt : ByteArray) (hlen : (40 : Int) < (t.size : Int)) (htt : t.extract 0 40 = tt) (A : Nat) (ea : Int) (hofa : A < Lim ∧ (ea = 0 ∨ (ea = 3 ∧ A = 0)) ∧ (∀ W, Calls Tryd.prog 10 #[.string s] W fun r w' => r = .returned (.tuple #[.agg (natL A).toArray, .int .i64 ea]) ∧ Below W.heap.size W w') ∧ (∀ W, Calls Tryd.prog 11 #[.string s] W fun r w' => ∃ v, r = .returned (.tuple #[v, .int .i64 ea]) ∧ RN w' v A ∧ Below W.heap.size W w')) (E : Nat) (ee : Int) (hofe : E < Lim ∧ (ee = 0 ∨ (ee = 3 ∧ E = 0)) ∧ (∀ W, Calls Tryd.prog 10 #[.string tt] W fun r w' => r = .returned (.tuple #[.agg (natL E).toArray, .int .i64 ee]) ∧ Below W.heap.size W w') ∧ (∀ W, Calls Tryd.prog 11 #[.string tt] W fun r w' => ∃ v, r = .returned (.tuple #[v, .int .i64 ee]) ∧ RN w' v E ∧ Below W.heap.size W w')) (D : Nat) (em : Int) (hofm : D < Lim ∧ (em = 0 ∨ (em = 3 ∧ D = 0)) ∧ (∀ W, Calls Tryd.prog 10 #[.string u] W fun r w' => r = .returned (.tuple #[.agg (natL D).toArray, .int .i64 em]) ∧ Below W.heap.size W w') ∧ (∀ W, Calls Tryd.prog 11 #[.string u] W fun r w' => ∃ v, r = .returned (.tuple #[v, .int .i64 em]) ∧ RN w' v D ∧ Below W.heap.size W w')) (hD : D = 0) (W : World) : Calls Tryd.prog 5 #[.string s, .string t, .string u] W fun e w' => e = .returned (.bool true) ∧ Below W.heap.size W w' := by
  have hl40 : (40 : Int) ≤ (t.size : Int) := by omega
  have hz := zero26
  have G : Has W [] := trivial
  have B : Below W.heap.size W W := Below.refl _ _
  have HE := Hid.mk examples_in
  obtain ⟨hAL, hev0, hO0, hRO0⟩ := hofa
  have HO0 := Hid.mk hO0
  have HRO0 := Hid.mk hRO0
  clear hO0 hRO0 hev0
  obtain ⟨hEL, hev1, hO1, hRO1⟩ := hofe
  have HO1 := Hid.mk hO1
  have HRO1 := Hid.mk hRO1
  clear hO1 hRO1 hev1
  obtain ⟨hDL, hev2, hO2, hRO2⟩ := hofm
  have HO2 := Hid.mk hO2
  have HRO2 := Hid.mk hRO2
  clear hO2 hRO2 hev2
  have mA : mny A ≤ 128 := mny_le A hAL
  have mE : mny E ≤ 128 := mny_le E hEL
  have mD : mny D ≤ 128 := mny_le D hDL
  have HPW := Hid.mk (pow_in A E D hAL hEL hDL)
  have HIV := Hid.mk (inv_in A D hAL hDL)
  have HT0 : Hid (∀ W, Calls Tryd.prog 18 #[.agg (natL 0).toArray] W fun e w' => e = .returned (.int .i64 0) ∧ Below W.heap.size W w') := bits_in 0 (Nat.pow_pos (by omega))
  have HBD : Hid (∀ v W, RN W v D → Calls Tryd.prog 16 #[v] W fun r w' => r = .returned (.int .i64 (btl D : Int)) ∧ Below W.heap.size W w') := fun v W h => (rbits_in W v D h (bits_of_lim hDL).1).mono fun r w' hh => ⟨hh.1, below_same hh.2⟩
  have hfl : flt D = 1 := by rw [hD]; rfl
  rw [show powR A E D = .returned (.tuple #[.agg (natL 0).toArray, .int .i64 1]) by rw [powR, if_neg (by rw [hfl]; decide), hfl]] at HPW
  have HIW : Hid (∀ W, Calls Tryd.prog 31 #[.agg (natL A).toArray, .agg (natL D).toArray] W fun e w' => e = .returned (.tuple #[.agg (natL 0).toArray, .int .i64 1]) ∧ Below W.heap.size W w') := fun W => by
    refine (HIV.out W).mono ?_
    rintro e w' ⟨I, v, h1, h2, h3, rfl, hb⟩
    obtain ⟨rfl, rfl⟩ := h2 (by rw [hfl]; decide)
    exact ⟨by rw [hfl], hb⟩
  obtain ⟨mm, hmm⟩ : ∃ mm, mny D = mm := ⟨_, rfl⟩
  have hm0 : mm = 0 := by rw [← hmm, hD]; exact mny_zero
  subst hm0
  have HSL : Hid (∀ w v, RN w v D → ∃ p c, v = .slice p 0 c) := fun w v h => by
    obtain ⟨p, c, e⟩ := h.slice
    exact ⟨p, c, by rw [e, hmm]⟩
  skip
  clear hAL hEL hDL mA mE mD hfl hmm HIV hD
  go_enter Tryd.func5, Tryd.ntmps5
  go_wp2_with fail
  refine (HE.out _).mono ?_
  rintro e u1 ⟨rfl, hb⟩
  replace G := G.blk hb
  replace B := bthen B hb
  clear hb
  go_wp2_with fail
  refine (HO0.out _).mono ?_
  rintro e u2 ⟨rfl, hb⟩
  replace G := G.blk hb
  replace B := bthen B hb
  clear hb
  go_upto_region 5 with fail
  replace G := G.new1 (A)
  replace B := below_new1 (A) B
  generalize u2.alloc (.cells (natL (A)).toArray 27) = v2 at G B ⊢
  generalize u2.heap.size = b_a at G ⊢
  go_wp2_with fail
  refine (HO1.out _).mono ?_
  rintro e u3 ⟨rfl, hb⟩
  replace G := G.blk hb
  replace B := bthen B hb
  clear hb
  go_upto_region 6 with fail
  replace G := G.new1 (E)
  replace B := below_new1 (E) B
  generalize u3.alloc (.cells (natL (E)).toArray 27) = v3 at G B ⊢
  generalize u3.heap.size = b_e at G ⊢
  go_wp2_with fail
  refine (HO2.out _).mono ?_
  rintro e u4 ⟨rfl, hb⟩
  replace G := G.blk hb
  replace B := bthen B hb
  clear hb
  go_upto_region 7 with fail
  replace G := G.new1 (D)
  replace B := below_new1 (D) B
  generalize u4.alloc (.cells (natL (D)).toArray 27) = v4 at G B ⊢
  generalize u4.heap.size = b_m at G ⊢
  go_wp2_with fail
  refine (HRO0.out _).mono ?_
  rintro e u5 ⟨vx, rfl, X, hb⟩
  replace G := G.blk hb
  replace B := bthen B hb
  clear hb
  go_wp2_with fail
  refine (HRO1.out _).mono ?_
  rintro e u6 ⟨vy, rfl, Y, hb⟩
  replace G := G.blk hb
  replace B := bthen B hb
  replace X := X.blk hb
  clear hb
  go_wp2_with fail
  refine (HRO2.out _).mono ?_
  rintro e u7 ⟨vz, rfl, Z, hb⟩
  replace G := G.blk hb
  replace B := bthen B hb
  replace X := X.blk hb
  replace Y := Y.blk hb
  clear hb
  obtain ⟨pz, cz, rfl⟩ := HSL.out _ _ Z
  have l_a := natLoad_run (G.get 2 rfl)
  have l_e := natLoad_run (G.get 1 rfl)
  have l_m := natLoad_run (G.get 0 rfl)
  go_wp2_with fail
  refine (HPW.out _).mono ?_
  rintro e u8 ⟨rfl, hb⟩
  replace G := G.blk hb
  replace B := bthen B hb
  replace X := X.blk hb
  replace Y := Y.blk hb
  replace Z := Z.blk hb
  clear hb
  clear l_a l_e l_m
  go_upto_region 11 with fail
  replace G := G.new1 (0)
  replace B := below_new1 (0) B
  replace X := X.blk (w' := u8.alloc (.cells (natL (0)).toArray 27)) ((Below.refl _ _).alloc (Nat.le_refl _) _)
  replace Y := Y.blk (w' := u8.alloc (.cells (natL (0)).toArray 27)) ((Below.refl _ _).alloc (Nat.le_refl _) _)
  replace Z := Z.blk (w' := u8.alloc (.cells (natL (0)).toArray 27)) ((Below.refl _ _).alloc (Nat.le_refl _) _)
  generalize u8.alloc (.cells (natL (0)).toArray 27) = v8 at G B X Y Z ⊢
  generalize u8.heap.size = b_p at G ⊢
  have l_a := natLoad_run (G.get 3 rfl)
  have l_m := natLoad_run (G.get 1 rfl)
  go_wp2_with fail
  refine (HIW.out _).mono ?_
  rintro e u9 ⟨rfl, hb⟩
  replace G := G.blk hb
  replace B := bthen B hb
  replace X := X.blk hb
  replace Y := Y.blk hb
  replace Z := Z.blk hb
  clear hb
  clear l_a l_m
  go_upto_region 12 with fail
  replace G := G.new1 (0)
  replace B := below_new1 (0) B
  replace X := X.blk (w' := u9.alloc (.cells (natL (0)).toArray 27)) ((Below.refl _ _).alloc (Nat.le_refl _) _)
  replace Y := Y.blk (w' := u9.alloc (.cells (natL (0)).toArray 27)) ((Below.refl _ _).alloc (Nat.le_refl _) _)
  replace Z := Z.blk (w' := u9.alloc (.cells (natL (0)).toArray 27)) ((Below.refl _ _).alloc (Nat.le_refl _) _)
  generalize u9.alloc (.cells (natL (0)).toArray 27) = v9 at G B X Y Z ⊢
  generalize u9.heap.size = b_i at G ⊢
  go_upto_region 13 with fail
  obtain ⟨Kp, hK⟩ : ∃ K : World → Prop, K = fun w => Has w [(b_i, 0), (b_p, 0), (b_m, D), (b_e, E), (b_a, A)] ∧ Below W.heap.size W w ∧ RN w vx A ∧ RN w vy E ∧ RN w (.slice pz 0 cz) D := ⟨_, rfl⟩
  have kz : Kp v9 := by rw [hK]; exact ⟨G, B, X, Y, Z⟩
  have KB : Hid (∀ w w', Kp w → Below w.heap.size w w' → Kp w') := by
    rw [Hid, hK]
    exact fun w w' h hb => ⟨h.1.blk hb, bthen h.2.1 hb, h.2.2.1.blk hb, h.2.2.2.1.blk hb, h.2.2.2.2.blk hb⟩
  have kd : ∀ w, Kp w → Kp w.drew := fun w h => KB.out w _ h (Below.refl _ _).drew
  have HKe : Hid (∀ w, Kp w → Has w [(b_i, 0), (b_p, 0), (b_m, D), (b_e, E), (b_a, A)] ∧ Below W.heap.size W w ∧ RN w vx A ∧ RN w vy E ∧ RN w (.slice pz 0 cz) D) := by rw [Hid, hK]; exact fun w h => h
  have HS : Hid (∀ w, Kp w → Kp w ∧ (natLoad (.pointer (some ⟨b_p, 0, none⟩))).run Tryd.prog w = .ok (.agg (natL (0)).toArray) w ∧ (natLoad (.pointer (some ⟨b_i, 0, none⟩))).run Tryd.prog w = .ok (.agg (natL (0)).toArray) w) := fun w h => ⟨h, natLoad_run ((HKe.out w h).1.get 1 rfl), natLoad_run ((HKe.out w h).1.get 0 rfl)⟩
  have hS0 := HS.out _ kz
  clear hK G B X Y Z
  go_region_held3 (fun w => Kp w ∧ (natLoad (.pointer (some ⟨b_p, 0, none⟩))).run Tryd.prog w = .ok (.agg (natL (0)).toArray) w ∧ (natLoad (.pointer (some ⟨b_i, 0, none⟩))).run Tryd.prog w = .ok (.agg (natL (0)).toArray) w)
    (first | assumption | (apply HS.out; repeat (first | assumption | apply kd)))
    (first
      | (go_at_call 18; refine (HT0.out _).mono ?_; rintro e w2 ⟨rfl, hb2⟩; have k2 := KB.out _ _ (by repeat (first | assumption | apply kd)) hb2; have hs2 := HS.out _ k2))
  all_goals go_wp2
  all_goals go_ret
  all_goals exact ⟨rfl, (HKe.out _ k2).2.1⟩
set_option maxRecDepth 100000 in
set_option maxHeartbeats 4000000 in
theorem pows_long0 (s t u tt : ByteArray) (hlen : (t.size : Int) ≤ 40) (htt : t = tt) (A : Nat) (ea : Int) (hofa : A < Lim ∧ (ea = 0 ∨ (ea = 3 ∧ A = 0)) ∧ (∀ W, Calls Tryd.prog 10 #[.string s] W fun r w' => r = .returned (.tuple #[.agg (natL A).toArray, .int .i64 ea]) ∧ Below W.heap.size W w') ∧ (∀ W, Calls Tryd.prog 11 #[.string s] W fun r w' => ∃ v, r = .returned (.tuple #[v, .int .i64 ea]) ∧ RN w' v A ∧ Below W.heap.size W w')) (E : Nat) (ee : Int) (hofe : E < Lim ∧ (ee = 0 ∨ (ee = 3 ∧ E = 0)) ∧ (∀ W, Calls Tryd.prog 10 #[.string tt] W fun r w' => r = .returned (.tuple #[.agg (natL E).toArray, .int .i64 ee]) ∧ Below W.heap.size W w') ∧ (∀ W, Calls Tryd.prog 11 #[.string tt] W fun r w' => ∃ v, r = .returned (.tuple #[v, .int .i64 ee]) ∧ RN w' v E ∧ Below W.heap.size W w')) (D : Nat) (em : Int) (hofm : D < Lim ∧ (em = 0 ∨ (em = 3 ∧ D = 0)) ∧ (∀ W, Calls Tryd.prog 10 #[.string u] W fun r w' => r = .returned (.tuple #[.agg (natL D).toArray, .int .i64 em]) ∧ Below W.heap.size W w') ∧ (∀ W, Calls Tryd.prog 11 #[.string u] W fun r w' => ∃ v, r = .returned (.tuple #[v, .int .i64 em]) ∧ RN w' v D ∧ Below W.heap.size W w')) (hD0 : D ≠ 0) (hD : 2048 < btl D) (W : World) : Calls Tryd.prog 5 #[.string s, .string t, .string u] W fun e w' => e = .returned (.bool true) ∧ Below W.heap.size W w' := by
  subst htt
  have hz := zero26
  have G : Has W [] := trivial
  have B : Below W.heap.size W W := Below.refl _ _
  have HE := Hid.mk examples_in
  obtain ⟨hAL, hev0, hO0, hRO0⟩ := hofa
  have HO0 := Hid.mk hO0
  have HRO0 := Hid.mk hRO0
  clear hO0 hRO0 hev0
  obtain ⟨hEL, hev1, hO1, hRO1⟩ := hofe
  have HO1 := Hid.mk hO1
  have HRO1 := Hid.mk hRO1
  clear hO1 hRO1 hev1
  obtain ⟨hDL, hev2, hO2, hRO2⟩ := hofm
  have HO2 := Hid.mk hO2
  have HRO2 := Hid.mk hRO2
  clear hO2 hRO2 hev2
  have mA : mny A ≤ 128 := mny_le A hAL
  have mE : mny E ≤ 128 := mny_le E hEL
  have mD : mny D ≤ 128 := mny_le D hDL
  have HPW := Hid.mk (pow_in A E D hAL hEL hDL)
  have HIV := Hid.mk (inv_in A D hAL hDL)
  have HT0 : Hid (∀ W, Calls Tryd.prog 18 #[.agg (natL 0).toArray] W fun e w' => e = .returned (.int .i64 0) ∧ Below W.heap.size W w') := bits_in 0 (Nat.pow_pos (by omega))
  have HBD : Hid (∀ v W, RN W v D → Calls Tryd.prog 16 #[v] W fun r w' => r = .returned (.int .i64 (btl D : Int)) ∧ Below W.heap.size W w') := fun v W h => (rbits_in W v D h (bits_of_lim hDL).1).mono fun r w' hh => ⟨hh.1, below_same hh.2⟩
  have hfl : flt D = 3 := by unfold flt; rw [if_neg hD0, if_pos hD]
  rw [show powR A E D = .returned (.tuple #[.agg (natL 0).toArray, .int .i64 3]) by rw [powR, if_neg (by rw [hfl]; decide), hfl]] at HPW
  have HIW : Hid (∀ W, Calls Tryd.prog 31 #[.agg (natL A).toArray, .agg (natL D).toArray] W fun e w' => e = .returned (.tuple #[.agg (natL 0).toArray, .int .i64 3]) ∧ Below W.heap.size W w') := fun W => by
    refine (HIV.out W).mono ?_
    rintro e w' ⟨I, v, h1, h2, h3, rfl, hb⟩
    obtain ⟨rfl, rfl⟩ := h2 (by rw [hfl]; decide)
    exact ⟨by rw [hfl], hb⟩
  obtain ⟨mm, hmm⟩ : ∃ mm, mny D = mm := ⟨_, rfl⟩
  have hmi : ((mm : Int) == 0) = false := by rw [beq_eq_false_iff_ne]; have := (mny_ge D hD0).1; omega
  have HSL : Hid (∀ w v, RN w v D → ∃ p c, v = .slice p mm c) := fun w v h => by
    obtain ⟨p, c, e⟩ := h.slice
    exact ⟨p, c, by rw [e, hmm]⟩
  have hbi : (2048 : Int) < (btl D : Int) := by omega
  generalize btl D = bd at *
  clear hAL hEL hDL mA mE mD hfl hmm HIV hD
  go_enter Tryd.func5, Tryd.ntmps5
  go_wp2_with fail
  refine (HE.out _).mono ?_
  rintro e u1 ⟨rfl, hb⟩
  replace G := G.blk hb
  replace B := bthen B hb
  clear hb
  go_wp2_with fail
  refine (HO0.out _).mono ?_
  rintro e u2 ⟨rfl, hb⟩
  replace G := G.blk hb
  replace B := bthen B hb
  clear hb
  go_upto_region 5 with fail
  replace G := G.new1 (A)
  replace B := below_new1 (A) B
  generalize u2.alloc (.cells (natL (A)).toArray 27) = v2 at G B ⊢
  generalize u2.heap.size = b_a at G ⊢
  go_wp2_with fail
  refine (HO1.out _).mono ?_
  rintro e u3 ⟨rfl, hb⟩
  replace G := G.blk hb
  replace B := bthen B hb
  clear hb
  go_upto_region 6 with fail
  replace G := G.new1 (E)
  replace B := below_new1 (E) B
  generalize u3.alloc (.cells (natL (E)).toArray 27) = v3 at G B ⊢
  generalize u3.heap.size = b_e at G ⊢
  go_wp2_with fail
  refine (HO2.out _).mono ?_
  rintro e u4 ⟨rfl, hb⟩
  replace G := G.blk hb
  replace B := bthen B hb
  clear hb
  go_upto_region 7 with fail
  replace G := G.new1 (D)
  replace B := below_new1 (D) B
  generalize u4.alloc (.cells (natL (D)).toArray 27) = v4 at G B ⊢
  generalize u4.heap.size = b_m at G ⊢
  go_wp2_with fail
  refine (HRO0.out _).mono ?_
  rintro e u5 ⟨vx, rfl, X, hb⟩
  replace G := G.blk hb
  replace B := bthen B hb
  clear hb
  go_wp2_with fail
  refine (HRO1.out _).mono ?_
  rintro e u6 ⟨vy, rfl, Y, hb⟩
  replace G := G.blk hb
  replace B := bthen B hb
  replace X := X.blk hb
  clear hb
  go_wp2_with fail
  refine (HRO2.out _).mono ?_
  rintro e u7 ⟨vz, rfl, Z, hb⟩
  replace G := G.blk hb
  replace B := bthen B hb
  replace X := X.blk hb
  replace Y := Y.blk hb
  clear hb
  obtain ⟨pz, cz, rfl⟩ := HSL.out _ _ Z
  have l_a := natLoad_run (G.get 2 rfl)
  have l_e := natLoad_run (G.get 1 rfl)
  have l_m := natLoad_run (G.get 0 rfl)
  go_wp2_with fail
  refine (HPW.out _).mono ?_
  rintro e u8 ⟨rfl, hb⟩
  replace G := G.blk hb
  replace B := bthen B hb
  replace X := X.blk hb
  replace Y := Y.blk hb
  replace Z := Z.blk hb
  clear hb
  clear l_a l_e l_m
  go_upto_region 11 with fail
  replace G := G.new1 (0)
  replace B := below_new1 (0) B
  replace X := X.blk (w' := u8.alloc (.cells (natL (0)).toArray 27)) ((Below.refl _ _).alloc (Nat.le_refl _) _)
  replace Y := Y.blk (w' := u8.alloc (.cells (natL (0)).toArray 27)) ((Below.refl _ _).alloc (Nat.le_refl _) _)
  replace Z := Z.blk (w' := u8.alloc (.cells (natL (0)).toArray 27)) ((Below.refl _ _).alloc (Nat.le_refl _) _)
  generalize u8.alloc (.cells (natL (0)).toArray 27) = v8 at G B X Y Z ⊢
  generalize u8.heap.size = b_p at G ⊢
  have l_a := natLoad_run (G.get 3 rfl)
  have l_m := natLoad_run (G.get 1 rfl)
  go_wp2_with fail
  refine (HIW.out _).mono ?_
  rintro e u9 ⟨rfl, hb⟩
  replace G := G.blk hb
  replace B := bthen B hb
  replace X := X.blk hb
  replace Y := Y.blk hb
  replace Z := Z.blk hb
  clear hb
  clear l_a l_m
  go_upto_region 12 with fail
  replace G := G.new1 (0)
  replace B := below_new1 (0) B
  replace X := X.blk (w' := u9.alloc (.cells (natL (0)).toArray 27)) ((Below.refl _ _).alloc (Nat.le_refl _) _)
  replace Y := Y.blk (w' := u9.alloc (.cells (natL (0)).toArray 27)) ((Below.refl _ _).alloc (Nat.le_refl _) _)
  replace Z := Z.blk (w' := u9.alloc (.cells (natL (0)).toArray 27)) ((Below.refl _ _).alloc (Nat.le_refl _) _)
  generalize u9.alloc (.cells (natL (0)).toArray 27) = v9 at G B X Y Z ⊢
  generalize u9.heap.size = b_i at G ⊢
  go_wp2_with fail
  refine (HBD.out (.slice pz mm cz) _ Z).mono ?_
  rintro e u10 ⟨rfl, hb⟩
  replace G := G.blk hb
  replace B := bthen B hb
  replace X := X.blk hb
  replace Y := Y.blk hb
  replace Z := Z.blk hb
  clear hb
  go_upto_region 15 with fail
  obtain ⟨Kp, hK⟩ : ∃ K : World → Prop, K = fun w => Has w [(b_i, 0), (b_p, 0), (b_m, D), (b_e, E), (b_a, A)] ∧ Below W.heap.size W w ∧ RN w vx A ∧ RN w vy E ∧ RN w (.slice pz mm cz) D := ⟨_, rfl⟩
  have kz : Kp u10 := by rw [hK]; exact ⟨G, B, X, Y, Z⟩
  have KB : Hid (∀ w w', Kp w → Below w.heap.size w w' → Kp w') := by
    rw [Hid, hK]
    exact fun w w' h hb => ⟨h.1.blk hb, bthen h.2.1 hb, h.2.2.1.blk hb, h.2.2.2.1.blk hb, h.2.2.2.2.blk hb⟩
  have kd : ∀ w, Kp w → Kp w.drew := fun w h => KB.out w _ h (Below.refl _ _).drew
  have HKe : Hid (∀ w, Kp w → Has w [(b_i, 0), (b_p, 0), (b_m, D), (b_e, E), (b_a, A)] ∧ Below W.heap.size W w ∧ RN w vx A ∧ RN w vy E ∧ RN w (.slice pz mm cz) D) := by rw [Hid, hK]; exact fun w h => h
  have HS : Hid (∀ w, Kp w → Kp w ∧ (natLoad (.pointer (some ⟨b_p, 0, none⟩))).run Tryd.prog w = .ok (.agg (natL (0)).toArray) w ∧ (natLoad (.pointer (some ⟨b_i, 0, none⟩))).run Tryd.prog w = .ok (.agg (natL (0)).toArray) w) := fun w h => ⟨h, natLoad_run ((HKe.out w h).1.get 1 rfl), natLoad_run ((HKe.out w h).1.get 0 rfl)⟩
  have hS0 := HS.out _ kz
  clear hK G B X Y Z
  go_region_held3 (fun w => Kp w ∧ (natLoad (.pointer (some ⟨b_p, 0, none⟩))).run Tryd.prog w = .ok (.agg (natL (0)).toArray) w ∧ (natLoad (.pointer (some ⟨b_i, 0, none⟩))).run Tryd.prog w = .ok (.agg (natL (0)).toArray) w)
    (first | assumption | (apply HS.out; repeat (first | assumption | apply kd)))
    (first
      | (go_at_call 18; refine (HT0.out _).mono ?_; rintro e w2 ⟨rfl, hb2⟩; have k2 := KB.out _ _ (by repeat (first | assumption | apply kd)) hb2; have hs2 := HS.out _ k2))
  all_goals go_wp2
  all_goals go_ret
  all_goals exact ⟨rfl, (HKe.out _ k2).2.1⟩
set_option maxRecDepth 100000 in
set_option maxHeartbeats 4000000 in
theorem pows_long1 (s t u tt : ByteArray) (hlen : (40 : Int) < (t.size : Int)) (htt : t.extract 0 40 = tt) (A : Nat) (ea : Int) (hofa : A < Lim ∧ (ea = 0 ∨ (ea = 3 ∧ A = 0)) ∧ (∀ W, Calls Tryd.prog 10 #[.string s] W fun r w' => r = .returned (.tuple #[.agg (natL A).toArray, .int .i64 ea]) ∧ Below W.heap.size W w') ∧ (∀ W, Calls Tryd.prog 11 #[.string s] W fun r w' => ∃ v, r = .returned (.tuple #[v, .int .i64 ea]) ∧ RN w' v A ∧ Below W.heap.size W w')) (E : Nat) (ee : Int) (hofe : E < Lim ∧ (ee = 0 ∨ (ee = 3 ∧ E = 0)) ∧ (∀ W, Calls Tryd.prog 10 #[.string tt] W fun r w' => r = .returned (.tuple #[.agg (natL E).toArray, .int .i64 ee]) ∧ Below W.heap.size W w') ∧ (∀ W, Calls Tryd.prog 11 #[.string tt] W fun r w' => ∃ v, r = .returned (.tuple #[v, .int .i64 ee]) ∧ RN w' v E ∧ Below W.heap.size W w')) (D : Nat) (em : Int) (hofm : D < Lim ∧ (em = 0 ∨ (em = 3 ∧ D = 0)) ∧ (∀ W, Calls Tryd.prog 10 #[.string u] W fun r w' => r = .returned (.tuple #[.agg (natL D).toArray, .int .i64 em]) ∧ Below W.heap.size W w') ∧ (∀ W, Calls Tryd.prog 11 #[.string u] W fun r w' => ∃ v, r = .returned (.tuple #[v, .int .i64 em]) ∧ RN w' v D ∧ Below W.heap.size W w')) (hD0 : D ≠ 0) (hD : 2048 < btl D) (W : World) : Calls Tryd.prog 5 #[.string s, .string t, .string u] W fun e w' => e = .returned (.bool true) ∧ Below W.heap.size W w' := by
  have hl40 : (40 : Int) ≤ (t.size : Int) := by omega
  have hz := zero26
  have G : Has W [] := trivial
  have B : Below W.heap.size W W := Below.refl _ _
  have HE := Hid.mk examples_in
  obtain ⟨hAL, hev0, hO0, hRO0⟩ := hofa
  have HO0 := Hid.mk hO0
  have HRO0 := Hid.mk hRO0
  clear hO0 hRO0 hev0
  obtain ⟨hEL, hev1, hO1, hRO1⟩ := hofe
  have HO1 := Hid.mk hO1
  have HRO1 := Hid.mk hRO1
  clear hO1 hRO1 hev1
  obtain ⟨hDL, hev2, hO2, hRO2⟩ := hofm
  have HO2 := Hid.mk hO2
  have HRO2 := Hid.mk hRO2
  clear hO2 hRO2 hev2
  have mA : mny A ≤ 128 := mny_le A hAL
  have mE : mny E ≤ 128 := mny_le E hEL
  have mD : mny D ≤ 128 := mny_le D hDL
  have HPW := Hid.mk (pow_in A E D hAL hEL hDL)
  have HIV := Hid.mk (inv_in A D hAL hDL)
  have HT0 : Hid (∀ W, Calls Tryd.prog 18 #[.agg (natL 0).toArray] W fun e w' => e = .returned (.int .i64 0) ∧ Below W.heap.size W w') := bits_in 0 (Nat.pow_pos (by omega))
  have HBD : Hid (∀ v W, RN W v D → Calls Tryd.prog 16 #[v] W fun r w' => r = .returned (.int .i64 (btl D : Int)) ∧ Below W.heap.size W w') := fun v W h => (rbits_in W v D h (bits_of_lim hDL).1).mono fun r w' hh => ⟨hh.1, below_same hh.2⟩
  have hfl : flt D = 3 := by unfold flt; rw [if_neg hD0, if_pos hD]
  rw [show powR A E D = .returned (.tuple #[.agg (natL 0).toArray, .int .i64 3]) by rw [powR, if_neg (by rw [hfl]; decide), hfl]] at HPW
  have HIW : Hid (∀ W, Calls Tryd.prog 31 #[.agg (natL A).toArray, .agg (natL D).toArray] W fun e w' => e = .returned (.tuple #[.agg (natL 0).toArray, .int .i64 3]) ∧ Below W.heap.size W w') := fun W => by
    refine (HIV.out W).mono ?_
    rintro e w' ⟨I, v, h1, h2, h3, rfl, hb⟩
    obtain ⟨rfl, rfl⟩ := h2 (by rw [hfl]; decide)
    exact ⟨by rw [hfl], hb⟩
  obtain ⟨mm, hmm⟩ : ∃ mm, mny D = mm := ⟨_, rfl⟩
  have hmi : ((mm : Int) == 0) = false := by rw [beq_eq_false_iff_ne]; have := (mny_ge D hD0).1; omega
  have HSL : Hid (∀ w v, RN w v D → ∃ p c, v = .slice p mm c) := fun w v h => by
    obtain ⟨p, c, e⟩ := h.slice
    exact ⟨p, c, by rw [e, hmm]⟩
  have hbi : (2048 : Int) < (btl D : Int) := by omega
  generalize btl D = bd at *
  clear hAL hEL hDL mA mE mD hfl hmm HIV hD
  go_enter Tryd.func5, Tryd.ntmps5
  go_wp2_with fail
  refine (HE.out _).mono ?_
  rintro e u1 ⟨rfl, hb⟩
  replace G := G.blk hb
  replace B := bthen B hb
  clear hb
  go_wp2_with fail
  refine (HO0.out _).mono ?_
  rintro e u2 ⟨rfl, hb⟩
  replace G := G.blk hb
  replace B := bthen B hb
  clear hb
  go_upto_region 5 with fail
  replace G := G.new1 (A)
  replace B := below_new1 (A) B
  generalize u2.alloc (.cells (natL (A)).toArray 27) = v2 at G B ⊢
  generalize u2.heap.size = b_a at G ⊢
  go_wp2_with fail
  refine (HO1.out _).mono ?_
  rintro e u3 ⟨rfl, hb⟩
  replace G := G.blk hb
  replace B := bthen B hb
  clear hb
  go_upto_region 6 with fail
  replace G := G.new1 (E)
  replace B := below_new1 (E) B
  generalize u3.alloc (.cells (natL (E)).toArray 27) = v3 at G B ⊢
  generalize u3.heap.size = b_e at G ⊢
  go_wp2_with fail
  refine (HO2.out _).mono ?_
  rintro e u4 ⟨rfl, hb⟩
  replace G := G.blk hb
  replace B := bthen B hb
  clear hb
  go_upto_region 7 with fail
  replace G := G.new1 (D)
  replace B := below_new1 (D) B
  generalize u4.alloc (.cells (natL (D)).toArray 27) = v4 at G B ⊢
  generalize u4.heap.size = b_m at G ⊢
  go_wp2_with fail
  refine (HRO0.out _).mono ?_
  rintro e u5 ⟨vx, rfl, X, hb⟩
  replace G := G.blk hb
  replace B := bthen B hb
  clear hb
  go_wp2_with fail
  refine (HRO1.out _).mono ?_
  rintro e u6 ⟨vy, rfl, Y, hb⟩
  replace G := G.blk hb
  replace B := bthen B hb
  replace X := X.blk hb
  clear hb
  go_wp2_with fail
  refine (HRO2.out _).mono ?_
  rintro e u7 ⟨vz, rfl, Z, hb⟩
  replace G := G.blk hb
  replace B := bthen B hb
  replace X := X.blk hb
  replace Y := Y.blk hb
  clear hb
  obtain ⟨pz, cz, rfl⟩ := HSL.out _ _ Z
  have l_a := natLoad_run (G.get 2 rfl)
  have l_e := natLoad_run (G.get 1 rfl)
  have l_m := natLoad_run (G.get 0 rfl)
  go_wp2_with fail
  refine (HPW.out _).mono ?_
  rintro e u8 ⟨rfl, hb⟩
  replace G := G.blk hb
  replace B := bthen B hb
  replace X := X.blk hb
  replace Y := Y.blk hb
  replace Z := Z.blk hb
  clear hb
  clear l_a l_e l_m
  go_upto_region 11 with fail
  replace G := G.new1 (0)
  replace B := below_new1 (0) B
  replace X := X.blk (w' := u8.alloc (.cells (natL (0)).toArray 27)) ((Below.refl _ _).alloc (Nat.le_refl _) _)
  replace Y := Y.blk (w' := u8.alloc (.cells (natL (0)).toArray 27)) ((Below.refl _ _).alloc (Nat.le_refl _) _)
  replace Z := Z.blk (w' := u8.alloc (.cells (natL (0)).toArray 27)) ((Below.refl _ _).alloc (Nat.le_refl _) _)
  generalize u8.alloc (.cells (natL (0)).toArray 27) = v8 at G B X Y Z ⊢
  generalize u8.heap.size = b_p at G ⊢
  have l_a := natLoad_run (G.get 3 rfl)
  have l_m := natLoad_run (G.get 1 rfl)
  go_wp2_with fail
  refine (HIW.out _).mono ?_
  rintro e u9 ⟨rfl, hb⟩
  replace G := G.blk hb
  replace B := bthen B hb
  replace X := X.blk hb
  replace Y := Y.blk hb
  replace Z := Z.blk hb
  clear hb
  clear l_a l_m
  go_upto_region 12 with fail
  replace G := G.new1 (0)
  replace B := below_new1 (0) B
  replace X := X.blk (w' := u9.alloc (.cells (natL (0)).toArray 27)) ((Below.refl _ _).alloc (Nat.le_refl _) _)
  replace Y := Y.blk (w' := u9.alloc (.cells (natL (0)).toArray 27)) ((Below.refl _ _).alloc (Nat.le_refl _) _)
  replace Z := Z.blk (w' := u9.alloc (.cells (natL (0)).toArray 27)) ((Below.refl _ _).alloc (Nat.le_refl _) _)
  generalize u9.alloc (.cells (natL (0)).toArray 27) = v9 at G B X Y Z ⊢
  generalize u9.heap.size = b_i at G ⊢
  go_wp2_with fail
  refine (HBD.out (.slice pz mm cz) _ Z).mono ?_
  rintro e u10 ⟨rfl, hb⟩
  replace G := G.blk hb
  replace B := bthen B hb
  replace X := X.blk hb
  replace Y := Y.blk hb
  replace Z := Z.blk hb
  clear hb
  go_upto_region 15 with fail
  obtain ⟨Kp, hK⟩ : ∃ K : World → Prop, K = fun w => Has w [(b_i, 0), (b_p, 0), (b_m, D), (b_e, E), (b_a, A)] ∧ Below W.heap.size W w ∧ RN w vx A ∧ RN w vy E ∧ RN w (.slice pz mm cz) D := ⟨_, rfl⟩
  have kz : Kp u10 := by rw [hK]; exact ⟨G, B, X, Y, Z⟩
  have KB : Hid (∀ w w', Kp w → Below w.heap.size w w' → Kp w') := by
    rw [Hid, hK]
    exact fun w w' h hb => ⟨h.1.blk hb, bthen h.2.1 hb, h.2.2.1.blk hb, h.2.2.2.1.blk hb, h.2.2.2.2.blk hb⟩
  have kd : ∀ w, Kp w → Kp w.drew := fun w h => KB.out w _ h (Below.refl _ _).drew
  have HKe : Hid (∀ w, Kp w → Has w [(b_i, 0), (b_p, 0), (b_m, D), (b_e, E), (b_a, A)] ∧ Below W.heap.size W w ∧ RN w vx A ∧ RN w vy E ∧ RN w (.slice pz mm cz) D) := by rw [Hid, hK]; exact fun w h => h
  have HS : Hid (∀ w, Kp w → Kp w ∧ (natLoad (.pointer (some ⟨b_p, 0, none⟩))).run Tryd.prog w = .ok (.agg (natL (0)).toArray) w ∧ (natLoad (.pointer (some ⟨b_i, 0, none⟩))).run Tryd.prog w = .ok (.agg (natL (0)).toArray) w) := fun w h => ⟨h, natLoad_run ((HKe.out w h).1.get 1 rfl), natLoad_run ((HKe.out w h).1.get 0 rfl)⟩
  have hS0 := HS.out _ kz
  clear hK G B X Y Z
  go_region_held3 (fun w => Kp w ∧ (natLoad (.pointer (some ⟨b_p, 0, none⟩))).run Tryd.prog w = .ok (.agg (natL (0)).toArray) w ∧ (natLoad (.pointer (some ⟨b_i, 0, none⟩))).run Tryd.prog w = .ok (.agg (natL (0)).toArray) w)
    (first | assumption | (apply HS.out; repeat (first | assumption | apply kd)))
    (first
      | (go_at_call 18; refine (HT0.out _).mono ?_; rintro e w2 ⟨rfl, hb2⟩; have k2 := KB.out _ _ (by repeat (first | assumption | apply kd)) hb2; have hs2 := HS.out _ k2))
  all_goals go_wp2
  all_goals go_ret
  all_goals exact ⟨rfl, (HKe.out _ k2).2.1⟩
set_option maxRecDepth 100000 in
set_option maxHeartbeats 4000000 in
theorem pows_ok0 (s t u tt : ByteArray) (hlen : (t.size : Int) ≤ 40) (htt : t = tt) (A : Nat) (ea : Int) (hofa : A < Lim ∧ (ea = 0 ∨ (ea = 3 ∧ A = 0)) ∧ (∀ W, Calls Tryd.prog 10 #[.string s] W fun r w' => r = .returned (.tuple #[.agg (natL A).toArray, .int .i64 ea]) ∧ Below W.heap.size W w') ∧ (∀ W, Calls Tryd.prog 11 #[.string s] W fun r w' => ∃ v, r = .returned (.tuple #[v, .int .i64 ea]) ∧ RN w' v A ∧ Below W.heap.size W w')) (E : Nat) (ee : Int) (hofe : E < Lim ∧ (ee = 0 ∨ (ee = 3 ∧ E = 0)) ∧ (∀ W, Calls Tryd.prog 10 #[.string tt] W fun r w' => r = .returned (.tuple #[.agg (natL E).toArray, .int .i64 ee]) ∧ Below W.heap.size W w') ∧ (∀ W, Calls Tryd.prog 11 #[.string tt] W fun r w' => ∃ v, r = .returned (.tuple #[v, .int .i64 ee]) ∧ RN w' v E ∧ Below W.heap.size W w')) (D : Nat) (em : Int) (hofm : D < Lim ∧ (em = 0 ∨ (em = 3 ∧ D = 0)) ∧ (∀ W, Calls Tryd.prog 10 #[.string u] W fun r w' => r = .returned (.tuple #[.agg (natL D).toArray, .int .i64 em]) ∧ Below W.heap.size W w') ∧ (∀ W, Calls Tryd.prog 11 #[.string u] W fun r w' => ∃ v, r = .returned (.tuple #[v, .int .i64 em]) ∧ RN w' v D ∧ Below W.heap.size W w')) (hD0 : D ≠ 0) (hD : btl D ≤ 2048) (W : World) : Calls Tryd.prog 5 #[.string s, .string t, .string u] W fun e w' => e = .returned (.bool true) ∧ Below W.heap.size W w' := by
  subst htt
  have hz := zero26
  have G : Has W [] := trivial
  have B : Below W.heap.size W W := Below.refl _ _
  have HE := Hid.mk examples_in
  obtain ⟨hAL, hev0, hO0, hRO0⟩ := hofa
  have HO0 := Hid.mk hO0
  have HRO0 := Hid.mk hRO0
  clear hO0 hRO0 hev0
  obtain ⟨hEL, hev1, hO1, hRO1⟩ := hofe
  have HO1 := Hid.mk hO1
  have HRO1 := Hid.mk hRO1
  clear hO1 hRO1 hev1
  obtain ⟨hDL, hev2, hO2, hRO2⟩ := hofm
  have HO2 := Hid.mk hO2
  have HRO2 := Hid.mk hRO2
  clear hO2 hRO2 hev2
  have mA : mny A ≤ 128 := mny_le A hAL
  have mE : mny E ≤ 128 := mny_le E hEL
  have mD : mny D ≤ 128 := mny_le D hDL
  have HPW := Hid.mk (pow_in A E D hAL hEL hDL)
  have HIV := Hid.mk (inv_in A D hAL hDL)
  have HT0 : Hid (∀ W, Calls Tryd.prog 18 #[.agg (natL 0).toArray] W fun e w' => e = .returned (.int .i64 0) ∧ Below W.heap.size W w') := bits_in 0 (Nat.pow_pos (by omega))
  have HBD : Hid (∀ v W, RN W v D → Calls Tryd.prog 16 #[v] W fun r w' => r = .returned (.int .i64 (btl D : Int)) ∧ Below W.heap.size W w') := fun v W h => (rbits_in W v D h (bits_of_lim hDL).1).mono fun r w' hh => ⟨hh.1, below_same hh.2⟩
  have hfl : flt D = 0 := (flt_ok D).2 ⟨hD0, hD⟩
  rw [show powR A E D = .returned (.tuple #[.agg (natL (A ^ E % D)).toArray, .int .i64 0]) from if_pos hfl] at HPW
  have HIW : Hid (∀ W, Calls Tryd.prog 31 #[.agg (natL A).toArray, .agg (natL D).toArray] W fun e w' => ∃ I v, InvIs A D I v ∧ I < Lim ∧ e = .returned (.tuple #[.agg (natL I).toArray, .int .i64 v]) ∧ Below W.heap.size W w') := fun W => by
    refine (HIV.out W).mono ?_
    rintro e w' ⟨I, v, h1, h2, h3, rfl, hb⟩
    exact ⟨I, v, h1 hfl, h3, rfl, hb⟩
  have HRP : Hid (∀ a e m W, RN W a A → RN W e E → RN W m D → Calls Tryd.prog 32 #[a, e, m] W fun r w' => ∃ v, r = .returned v ∧ RN w' v (A ^ E % D) ∧ Below W.heap.size W w') := fun a e m W h1 h2 h3 => rpow_in W a e m A E D h1 h2 h3 (by omega) (by omega) (by omega) hD0
  have HRI : Hid (∀ a m W, RN W a A → RN W m D → Calls Tryd.prog 33 #[a, m] W fun e w' => ∃ v I c, (c = true ∧ InvIs A D I 0 ∨ c = false ∧ I = 0 ∧ InvIs A D 0 13) ∧ e = .returned (.tuple #[v, .bool c]) ∧ RN w' v I ∧ Below W.heap.size W w') := fun a m W h1 h2 => rinv_in W a m A D h1 h2 (by omega) (by omega) hD0
  have hPL : A ^ E % D < Lim := Nat.lt_of_lt_of_le (Nat.mod_lt _ (Nat.pos_of_ne_zero hD0)) (Nat.le_of_lt hDL)
  have HIS : Hid (∀ v W, RN W v (A ^ E % D) → Calls Tryd.prog 14 #[.agg (natL (A ^ E % D)).toArray, .int .i64 0, v, .int .i64 0] W fun r w' => r = .returned (.bool true) ∧ Below W.heap.size W w') := fun v W h => is_in _ hPL 0 v W h (.inl rfl)
  have HI0 : Hid (∀ I v W, I < Lim → RN W v I → Calls Tryd.prog 14 #[.agg (natL I).toArray, .int .i64 0, v, .int .i64 0] W fun r w' => r = .returned (.bool true) ∧ Below W.heap.size W w') := fun I v W hl h => is_in I hl 0 v W h (.inl rfl)
  obtain ⟨mm, hmm⟩ : ∃ mm, mny D = mm := ⟨_, rfl⟩
  have hmi : ((mm : Int) == 0) = false := by rw [beq_eq_false_iff_ne]; have := (mny_ge D hD0).1; omega
  have HSL : Hid (∀ w v, RN w v D → ∃ p c, v = .slice p mm c) := fun w v h => by
    obtain ⟨p, c, e⟩ := h.slice
    exact ⟨p, c, by rw [e, hmm]⟩
  have hbi : (btl D : Int) ≤ 2048 := by omega
  generalize btl D = bd at *
  generalize A ^ E % D = PP at *
  clear hAL hEL hDL mA mE mD hfl hmm HIV hPL hD hD0
  go_enter Tryd.func5, Tryd.ntmps5
  go_wp2_with fail
  refine (HE.out _).mono ?_
  rintro e u1 ⟨rfl, hb⟩
  replace G := G.blk hb
  replace B := bthen B hb
  clear hb
  go_wp2_with fail
  refine (HO0.out _).mono ?_
  rintro e u2 ⟨rfl, hb⟩
  replace G := G.blk hb
  replace B := bthen B hb
  clear hb
  go_upto_region 5 with fail
  replace G := G.new1 (A)
  replace B := below_new1 (A) B
  generalize u2.alloc (.cells (natL (A)).toArray 27) = v2 at G B ⊢
  generalize u2.heap.size = b_a at G ⊢
  go_wp2_with fail
  refine (HO1.out _).mono ?_
  rintro e u3 ⟨rfl, hb⟩
  replace G := G.blk hb
  replace B := bthen B hb
  clear hb
  go_upto_region 6 with fail
  replace G := G.new1 (E)
  replace B := below_new1 (E) B
  generalize u3.alloc (.cells (natL (E)).toArray 27) = v3 at G B ⊢
  generalize u3.heap.size = b_e at G ⊢
  go_wp2_with fail
  refine (HO2.out _).mono ?_
  rintro e u4 ⟨rfl, hb⟩
  replace G := G.blk hb
  replace B := bthen B hb
  clear hb
  go_upto_region 7 with fail
  replace G := G.new1 (D)
  replace B := below_new1 (D) B
  generalize u4.alloc (.cells (natL (D)).toArray 27) = v4 at G B ⊢
  generalize u4.heap.size = b_m at G ⊢
  go_wp2_with fail
  refine (HRO0.out _).mono ?_
  rintro e u5 ⟨vx, rfl, X, hb⟩
  replace G := G.blk hb
  replace B := bthen B hb
  clear hb
  go_wp2_with fail
  refine (HRO1.out _).mono ?_
  rintro e u6 ⟨vy, rfl, Y, hb⟩
  replace G := G.blk hb
  replace B := bthen B hb
  replace X := X.blk hb
  clear hb
  go_wp2_with fail
  refine (HRO2.out _).mono ?_
  rintro e u7 ⟨vz, rfl, Z, hb⟩
  replace G := G.blk hb
  replace B := bthen B hb
  replace X := X.blk hb
  replace Y := Y.blk hb
  clear hb
  obtain ⟨pz, cz, rfl⟩ := HSL.out _ _ Z
  have l_a := natLoad_run (G.get 2 rfl)
  have l_e := natLoad_run (G.get 1 rfl)
  have l_m := natLoad_run (G.get 0 rfl)
  go_wp2_with fail
  refine (HPW.out _).mono ?_
  rintro e u8 ⟨rfl, hb⟩
  replace G := G.blk hb
  replace B := bthen B hb
  replace X := X.blk hb
  replace Y := Y.blk hb
  replace Z := Z.blk hb
  clear hb
  clear l_a l_e l_m
  go_upto_region 11 with fail
  replace G := G.new1 (PP)
  replace B := below_new1 (PP) B
  replace X := X.blk (w' := u8.alloc (.cells (natL (PP)).toArray 27)) ((Below.refl _ _).alloc (Nat.le_refl _) _)
  replace Y := Y.blk (w' := u8.alloc (.cells (natL (PP)).toArray 27)) ((Below.refl _ _).alloc (Nat.le_refl _) _)
  replace Z := Z.blk (w' := u8.alloc (.cells (natL (PP)).toArray 27)) ((Below.refl _ _).alloc (Nat.le_refl _) _)
  generalize u8.alloc (.cells (natL (PP)).toArray 27) = v8 at G B X Y Z ⊢
  generalize u8.heap.size = b_p at G ⊢
  have l_a := natLoad_run (G.get 3 rfl)
  have l_m := natLoad_run (G.get 1 rfl)
  go_wp2_with fail
  refine (HIW.out _).mono ?_
  rintro e u9 ⟨I, v, hIv, hIL, rfl, hb⟩
  replace G := G.blk hb
  replace B := bthen B hb
  replace X := X.blk hb
  replace Y := Y.blk hb
  replace Z := Z.blk hb
  clear hb
  clear l_a l_m
  go_upto_region 12 with fail
  replace G := G.new1 (I)
  replace B := below_new1 (I) B
  replace X := X.blk (w' := u9.alloc (.cells (natL (I)).toArray 27)) ((Below.refl _ _).alloc (Nat.le_refl _) _)
  replace Y := Y.blk (w' := u9.alloc (.cells (natL (I)).toArray 27)) ((Below.refl _ _).alloc (Nat.le_refl _) _)
  replace Z := Z.blk (w' := u9.alloc (.cells (natL (I)).toArray 27)) ((Below.refl _ _).alloc (Nat.le_refl _) _)
  generalize u9.alloc (.cells (natL (I)).toArray 27) = v9 at G B X Y Z ⊢
  generalize u9.heap.size = b_i at G ⊢
  go_wp2_with fail
  refine (HBD.out (.slice pz mm cz) _ Z).mono ?_
  rintro e u10 ⟨rfl, hb⟩
  replace G := G.blk hb
  replace B := bthen B hb
  replace X := X.blk hb
  replace Y := Y.blk hb
  replace Z := Z.blk hb
  clear hb
  go_upto_region 16 with fail
  obtain ⟨Kp, hK⟩ : ∃ K : World → Prop, K = fun w => Has w [(b_i, I), (b_p, PP), (b_m, D), (b_e, E), (b_a, A)] ∧ Below W.heap.size W w ∧ RN w vx A ∧ RN w vy E ∧ RN w (.slice pz mm cz) D := ⟨_, rfl⟩
  have kz : Kp u10 := by rw [hK]; exact ⟨G, B, X, Y, Z⟩
  have KB : Hid (∀ w w', Kp w → Below w.heap.size w w' → Kp w') := by
    rw [Hid, hK]
    exact fun w w' h hb => ⟨h.1.blk hb, bthen h.2.1 hb, h.2.2.1.blk hb, h.2.2.2.1.blk hb, h.2.2.2.2.blk hb⟩
  have kd : ∀ w, Kp w → Kp w.drew := fun w h => KB.out w _ h (Below.refl _ _).drew
  have HKe : Hid (∀ w, Kp w → Has w [(b_i, I), (b_p, PP), (b_m, D), (b_e, E), (b_a, A)] ∧ Below W.heap.size W w ∧ RN w vx A ∧ RN w vy E ∧ RN w (.slice pz mm cz) D) := by rw [Hid, hK]; exact fun w h => h
  have HS : Hid (∀ w, Kp w → Kp w ∧ (natLoad (.pointer (some ⟨b_p, 0, none⟩))).run Tryd.prog w = .ok (.agg (natL (PP)).toArray) w) := fun w h => ⟨h, natLoad_run ((HKe.out w h).1.get 1 rfl)⟩
  have hS0 := HS.out _ kz
  clear hK G B X Y Z
  go_region_held3 (fun w => Kp w ∧ (natLoad (.pointer (some ⟨b_p, 0, none⟩))).run Tryd.prog w = .ok (.agg (natL (PP)).toArray) w)
    (first | assumption | (apply HS.out; repeat (first | assumption | apply kd)))
    (first
      | (go_at_call 32; have k1 := kd _ kz; refine (HRP.out vx vy (.slice pz mm cz) _ (HKe.out _ k1).2.2.1 (HKe.out _ k1).2.2.2.1 (HKe.out _ k1).2.2.2.2).mono ?_; rintro e w2 ⟨v9, rfl, r9, hb2⟩; have k2 := KB.out _ _ k1 hb2; have hs2 := HS.out _ k2)
      | (go_at_call 14; refine (HIS.out v9 _ r9).mono ?_; rintro e w3 ⟨rfl, hb3⟩; have k3 := KB.out _ _ k2 hb3; have hs3 := HS.out _ k3))
  obtain ⟨G, B, X, Y, Z⟩ := HKe.out _ k3
  clear hS0 kz kd k1 k2 k3 hs2 hs3 hb2 hb3 KB HKe HS r9
  generalize w3 = u11 at *
  go_wp2_with fail
  refine (HRI.out vx (.slice pz mm cz) _ X Z).mono ?_
  rintro e u12 ⟨vi, I', c, hc, rfl, Q, hb⟩
  replace G := G.blk hb
  replace B := bthen B hb
  replace X := X.blk hb
  replace Y := Y.blk hb
  replace Z := Z.blk hb
  clear hb
  rcases hc with ⟨rfl, hJ⟩ | ⟨rfl, rfl, hJ⟩
  · obtain ⟨rfl, rfl⟩ := inv_one hIv hJ
    have HQI := Hid.mk (HI0.out I vi _ hIL Q)
    clear hIv hJ
    have l_i := natLoad_run (G.get 0 rfl)
    go_wp2_with fail
    refine HQI.out.mono ?_
    rintro e z1 ⟨rfl, hb⟩
    replace B := bthen B hb
    clear hb
    clear l_i
    go_wp2
    go_ret
    exact ⟨rfl, B⟩
  · obtain ⟨rfl, rfl⟩ := inv_one hIv hJ
    have HQI := Hid.mk (is_err13 vi)
    clear hIv hJ
    have l_i := natLoad_run (G.get 0 rfl)
    go_wp2_with fail
    refine (HQI.out _).mono ?_
    rintro e z1 ⟨rfl, hb⟩
    replace B := bthen B hb
    clear hb
    clear l_i
    go_wp2
    go_ret
    exact ⟨rfl, B⟩
set_option maxRecDepth 100000 in
set_option maxHeartbeats 4000000 in
theorem pows_ok1 (s t u tt : ByteArray) (hlen : (40 : Int) < (t.size : Int)) (htt : t.extract 0 40 = tt) (A : Nat) (ea : Int) (hofa : A < Lim ∧ (ea = 0 ∨ (ea = 3 ∧ A = 0)) ∧ (∀ W, Calls Tryd.prog 10 #[.string s] W fun r w' => r = .returned (.tuple #[.agg (natL A).toArray, .int .i64 ea]) ∧ Below W.heap.size W w') ∧ (∀ W, Calls Tryd.prog 11 #[.string s] W fun r w' => ∃ v, r = .returned (.tuple #[v, .int .i64 ea]) ∧ RN w' v A ∧ Below W.heap.size W w')) (E : Nat) (ee : Int) (hofe : E < Lim ∧ (ee = 0 ∨ (ee = 3 ∧ E = 0)) ∧ (∀ W, Calls Tryd.prog 10 #[.string tt] W fun r w' => r = .returned (.tuple #[.agg (natL E).toArray, .int .i64 ee]) ∧ Below W.heap.size W w') ∧ (∀ W, Calls Tryd.prog 11 #[.string tt] W fun r w' => ∃ v, r = .returned (.tuple #[v, .int .i64 ee]) ∧ RN w' v E ∧ Below W.heap.size W w')) (D : Nat) (em : Int) (hofm : D < Lim ∧ (em = 0 ∨ (em = 3 ∧ D = 0)) ∧ (∀ W, Calls Tryd.prog 10 #[.string u] W fun r w' => r = .returned (.tuple #[.agg (natL D).toArray, .int .i64 em]) ∧ Below W.heap.size W w') ∧ (∀ W, Calls Tryd.prog 11 #[.string u] W fun r w' => ∃ v, r = .returned (.tuple #[v, .int .i64 em]) ∧ RN w' v D ∧ Below W.heap.size W w')) (hD0 : D ≠ 0) (hD : btl D ≤ 2048) (W : World) : Calls Tryd.prog 5 #[.string s, .string t, .string u] W fun e w' => e = .returned (.bool true) ∧ Below W.heap.size W w' := by
  have hl40 : (40 : Int) ≤ (t.size : Int) := by omega
  have hz := zero26
  have G : Has W [] := trivial
  have B : Below W.heap.size W W := Below.refl _ _
  have HE := Hid.mk examples_in
  obtain ⟨hAL, hev0, hO0, hRO0⟩ := hofa
  have HO0 := Hid.mk hO0
  have HRO0 := Hid.mk hRO0
  clear hO0 hRO0 hev0
  obtain ⟨hEL, hev1, hO1, hRO1⟩ := hofe
  have HO1 := Hid.mk hO1
  have HRO1 := Hid.mk hRO1
  clear hO1 hRO1 hev1
  obtain ⟨hDL, hev2, hO2, hRO2⟩ := hofm
  have HO2 := Hid.mk hO2
  have HRO2 := Hid.mk hRO2
  clear hO2 hRO2 hev2
  have mA : mny A ≤ 128 := mny_le A hAL
  have mE : mny E ≤ 128 := mny_le E hEL
  have mD : mny D ≤ 128 := mny_le D hDL
  have HPW := Hid.mk (pow_in A E D hAL hEL hDL)
  have HIV := Hid.mk (inv_in A D hAL hDL)
  have HT0 : Hid (∀ W, Calls Tryd.prog 18 #[.agg (natL 0).toArray] W fun e w' => e = .returned (.int .i64 0) ∧ Below W.heap.size W w') := bits_in 0 (Nat.pow_pos (by omega))
  have HBD : Hid (∀ v W, RN W v D → Calls Tryd.prog 16 #[v] W fun r w' => r = .returned (.int .i64 (btl D : Int)) ∧ Below W.heap.size W w') := fun v W h => (rbits_in W v D h (bits_of_lim hDL).1).mono fun r w' hh => ⟨hh.1, below_same hh.2⟩
  have hfl : flt D = 0 := (flt_ok D).2 ⟨hD0, hD⟩
  rw [show powR A E D = .returned (.tuple #[.agg (natL (A ^ E % D)).toArray, .int .i64 0]) from if_pos hfl] at HPW
  have HIW : Hid (∀ W, Calls Tryd.prog 31 #[.agg (natL A).toArray, .agg (natL D).toArray] W fun e w' => ∃ I v, InvIs A D I v ∧ I < Lim ∧ e = .returned (.tuple #[.agg (natL I).toArray, .int .i64 v]) ∧ Below W.heap.size W w') := fun W => by
    refine (HIV.out W).mono ?_
    rintro e w' ⟨I, v, h1, h2, h3, rfl, hb⟩
    exact ⟨I, v, h1 hfl, h3, rfl, hb⟩
  have HRP : Hid (∀ a e m W, RN W a A → RN W e E → RN W m D → Calls Tryd.prog 32 #[a, e, m] W fun r w' => ∃ v, r = .returned v ∧ RN w' v (A ^ E % D) ∧ Below W.heap.size W w') := fun a e m W h1 h2 h3 => rpow_in W a e m A E D h1 h2 h3 (by omega) (by omega) (by omega) hD0
  have HRI : Hid (∀ a m W, RN W a A → RN W m D → Calls Tryd.prog 33 #[a, m] W fun e w' => ∃ v I c, (c = true ∧ InvIs A D I 0 ∨ c = false ∧ I = 0 ∧ InvIs A D 0 13) ∧ e = .returned (.tuple #[v, .bool c]) ∧ RN w' v I ∧ Below W.heap.size W w') := fun a m W h1 h2 => rinv_in W a m A D h1 h2 (by omega) (by omega) hD0
  have hPL : A ^ E % D < Lim := Nat.lt_of_lt_of_le (Nat.mod_lt _ (Nat.pos_of_ne_zero hD0)) (Nat.le_of_lt hDL)
  have HIS : Hid (∀ v W, RN W v (A ^ E % D) → Calls Tryd.prog 14 #[.agg (natL (A ^ E % D)).toArray, .int .i64 0, v, .int .i64 0] W fun r w' => r = .returned (.bool true) ∧ Below W.heap.size W w') := fun v W h => is_in _ hPL 0 v W h (.inl rfl)
  have HI0 : Hid (∀ I v W, I < Lim → RN W v I → Calls Tryd.prog 14 #[.agg (natL I).toArray, .int .i64 0, v, .int .i64 0] W fun r w' => r = .returned (.bool true) ∧ Below W.heap.size W w') := fun I v W hl h => is_in I hl 0 v W h (.inl rfl)
  obtain ⟨mm, hmm⟩ : ∃ mm, mny D = mm := ⟨_, rfl⟩
  have hmi : ((mm : Int) == 0) = false := by rw [beq_eq_false_iff_ne]; have := (mny_ge D hD0).1; omega
  have HSL : Hid (∀ w v, RN w v D → ∃ p c, v = .slice p mm c) := fun w v h => by
    obtain ⟨p, c, e⟩ := h.slice
    exact ⟨p, c, by rw [e, hmm]⟩
  have hbi : (btl D : Int) ≤ 2048 := by omega
  generalize btl D = bd at *
  generalize A ^ E % D = PP at *
  clear hAL hEL hDL mA mE mD hfl hmm HIV hPL hD hD0
  go_enter Tryd.func5, Tryd.ntmps5
  go_wp2_with fail
  refine (HE.out _).mono ?_
  rintro e u1 ⟨rfl, hb⟩
  replace G := G.blk hb
  replace B := bthen B hb
  clear hb
  go_wp2_with fail
  refine (HO0.out _).mono ?_
  rintro e u2 ⟨rfl, hb⟩
  replace G := G.blk hb
  replace B := bthen B hb
  clear hb
  go_upto_region 5 with fail
  replace G := G.new1 (A)
  replace B := below_new1 (A) B
  generalize u2.alloc (.cells (natL (A)).toArray 27) = v2 at G B ⊢
  generalize u2.heap.size = b_a at G ⊢
  go_wp2_with fail
  refine (HO1.out _).mono ?_
  rintro e u3 ⟨rfl, hb⟩
  replace G := G.blk hb
  replace B := bthen B hb
  clear hb
  go_upto_region 6 with fail
  replace G := G.new1 (E)
  replace B := below_new1 (E) B
  generalize u3.alloc (.cells (natL (E)).toArray 27) = v3 at G B ⊢
  generalize u3.heap.size = b_e at G ⊢
  go_wp2_with fail
  refine (HO2.out _).mono ?_
  rintro e u4 ⟨rfl, hb⟩
  replace G := G.blk hb
  replace B := bthen B hb
  clear hb
  go_upto_region 7 with fail
  replace G := G.new1 (D)
  replace B := below_new1 (D) B
  generalize u4.alloc (.cells (natL (D)).toArray 27) = v4 at G B ⊢
  generalize u4.heap.size = b_m at G ⊢
  go_wp2_with fail
  refine (HRO0.out _).mono ?_
  rintro e u5 ⟨vx, rfl, X, hb⟩
  replace G := G.blk hb
  replace B := bthen B hb
  clear hb
  go_wp2_with fail
  refine (HRO1.out _).mono ?_
  rintro e u6 ⟨vy, rfl, Y, hb⟩
  replace G := G.blk hb
  replace B := bthen B hb
  replace X := X.blk hb
  clear hb
  go_wp2_with fail
  refine (HRO2.out _).mono ?_
  rintro e u7 ⟨vz, rfl, Z, hb⟩
  replace G := G.blk hb
  replace B := bthen B hb
  replace X := X.blk hb
  replace Y := Y.blk hb
  clear hb
  obtain ⟨pz, cz, rfl⟩ := HSL.out _ _ Z
  have l_a := natLoad_run (G.get 2 rfl)
  have l_e := natLoad_run (G.get 1 rfl)
  have l_m := natLoad_run (G.get 0 rfl)
  go_wp2_with fail
  refine (HPW.out _).mono ?_
  rintro e u8 ⟨rfl, hb⟩
  replace G := G.blk hb
  replace B := bthen B hb
  replace X := X.blk hb
  replace Y := Y.blk hb
  replace Z := Z.blk hb
  clear hb
  clear l_a l_e l_m
  go_upto_region 11 with fail
  replace G := G.new1 (PP)
  replace B := below_new1 (PP) B
  replace X := X.blk (w' := u8.alloc (.cells (natL (PP)).toArray 27)) ((Below.refl _ _).alloc (Nat.le_refl _) _)
  replace Y := Y.blk (w' := u8.alloc (.cells (natL (PP)).toArray 27)) ((Below.refl _ _).alloc (Nat.le_refl _) _)
  replace Z := Z.blk (w' := u8.alloc (.cells (natL (PP)).toArray 27)) ((Below.refl _ _).alloc (Nat.le_refl _) _)
  generalize u8.alloc (.cells (natL (PP)).toArray 27) = v8 at G B X Y Z ⊢
  generalize u8.heap.size = b_p at G ⊢
  have l_a := natLoad_run (G.get 3 rfl)
  have l_m := natLoad_run (G.get 1 rfl)
  go_wp2_with fail
  refine (HIW.out _).mono ?_
  rintro e u9 ⟨I, v, hIv, hIL, rfl, hb⟩
  replace G := G.blk hb
  replace B := bthen B hb
  replace X := X.blk hb
  replace Y := Y.blk hb
  replace Z := Z.blk hb
  clear hb
  clear l_a l_m
  go_upto_region 12 with fail
  replace G := G.new1 (I)
  replace B := below_new1 (I) B
  replace X := X.blk (w' := u9.alloc (.cells (natL (I)).toArray 27)) ((Below.refl _ _).alloc (Nat.le_refl _) _)
  replace Y := Y.blk (w' := u9.alloc (.cells (natL (I)).toArray 27)) ((Below.refl _ _).alloc (Nat.le_refl _) _)
  replace Z := Z.blk (w' := u9.alloc (.cells (natL (I)).toArray 27)) ((Below.refl _ _).alloc (Nat.le_refl _) _)
  generalize u9.alloc (.cells (natL (I)).toArray 27) = v9 at G B X Y Z ⊢
  generalize u9.heap.size = b_i at G ⊢
  go_wp2_with fail
  refine (HBD.out (.slice pz mm cz) _ Z).mono ?_
  rintro e u10 ⟨rfl, hb⟩
  replace G := G.blk hb
  replace B := bthen B hb
  replace X := X.blk hb
  replace Y := Y.blk hb
  replace Z := Z.blk hb
  clear hb
  go_upto_region 16 with fail
  obtain ⟨Kp, hK⟩ : ∃ K : World → Prop, K = fun w => Has w [(b_i, I), (b_p, PP), (b_m, D), (b_e, E), (b_a, A)] ∧ Below W.heap.size W w ∧ RN w vx A ∧ RN w vy E ∧ RN w (.slice pz mm cz) D := ⟨_, rfl⟩
  have kz : Kp u10 := by rw [hK]; exact ⟨G, B, X, Y, Z⟩
  have KB : Hid (∀ w w', Kp w → Below w.heap.size w w' → Kp w') := by
    rw [Hid, hK]
    exact fun w w' h hb => ⟨h.1.blk hb, bthen h.2.1 hb, h.2.2.1.blk hb, h.2.2.2.1.blk hb, h.2.2.2.2.blk hb⟩
  have kd : ∀ w, Kp w → Kp w.drew := fun w h => KB.out w _ h (Below.refl _ _).drew
  have HKe : Hid (∀ w, Kp w → Has w [(b_i, I), (b_p, PP), (b_m, D), (b_e, E), (b_a, A)] ∧ Below W.heap.size W w ∧ RN w vx A ∧ RN w vy E ∧ RN w (.slice pz mm cz) D) := by rw [Hid, hK]; exact fun w h => h
  have HS : Hid (∀ w, Kp w → Kp w ∧ (natLoad (.pointer (some ⟨b_p, 0, none⟩))).run Tryd.prog w = .ok (.agg (natL (PP)).toArray) w) := fun w h => ⟨h, natLoad_run ((HKe.out w h).1.get 1 rfl)⟩
  have hS0 := HS.out _ kz
  clear hK G B X Y Z
  go_region_held3 (fun w => Kp w ∧ (natLoad (.pointer (some ⟨b_p, 0, none⟩))).run Tryd.prog w = .ok (.agg (natL (PP)).toArray) w)
    (first | assumption | (apply HS.out; repeat (first | assumption | apply kd)))
    (first
      | (go_at_call 32; have k1 := kd _ kz; refine (HRP.out vx vy (.slice pz mm cz) _ (HKe.out _ k1).2.2.1 (HKe.out _ k1).2.2.2.1 (HKe.out _ k1).2.2.2.2).mono ?_; rintro e w2 ⟨v9, rfl, r9, hb2⟩; have k2 := KB.out _ _ k1 hb2; have hs2 := HS.out _ k2)
      | (go_at_call 14; refine (HIS.out v9 _ r9).mono ?_; rintro e w3 ⟨rfl, hb3⟩; have k3 := KB.out _ _ k2 hb3; have hs3 := HS.out _ k3))
  obtain ⟨G, B, X, Y, Z⟩ := HKe.out _ k3
  clear hS0 kz kd k1 k2 k3 hs2 hs3 hb2 hb3 KB HKe HS r9
  generalize w3 = u11 at *
  go_wp2_with fail
  refine (HRI.out vx (.slice pz mm cz) _ X Z).mono ?_
  rintro e u12 ⟨vi, I', c, hc, rfl, Q, hb⟩
  replace G := G.blk hb
  replace B := bthen B hb
  replace X := X.blk hb
  replace Y := Y.blk hb
  replace Z := Z.blk hb
  clear hb
  rcases hc with ⟨rfl, hJ⟩ | ⟨rfl, rfl, hJ⟩
  · obtain ⟨rfl, rfl⟩ := inv_one hIv hJ
    have HQI := Hid.mk (HI0.out I vi _ hIL Q)
    clear hIv hJ
    have l_i := natLoad_run (G.get 0 rfl)
    go_wp2_with fail
    refine HQI.out.mono ?_
    rintro e z1 ⟨rfl, hb⟩
    replace B := bthen B hb
    clear hb
    clear l_i
    go_wp2
    go_ret
    exact ⟨rfl, B⟩
  · obtain ⟨rfl, rfl⟩ := inv_one hIv hJ
    have HQI := Hid.mk (is_err13 vi)
    clear hIv hJ
    have l_i := natLoad_run (G.get 0 rfl)
    go_wp2_with fail
    refine (HQI.out _).mono ?_
    rintro e z1 ⟨rfl, hb⟩
    replace B := bthen B hb
    clear hb
    clear l_i
    go_wp2
    go_ret
    exact ⟨rfl, B⟩
theorem pows_walk (s : ByteArray) (hs : s.size ≤ 140737488351232) (t : ByteArray) (ht : t.size ≤ 140737488351232) (u : ByteArray) (hu : u.size ≤ 140737488351232) (W : World) : Calls Tryd.prog 5 #[.string s, .string t, .string u] W fun e w' => e = .returned (.bool true) ∧ Below W.heap.size W w' := by
  obtain ⟨A, ea, hofa⟩ := of_both s hs
  obtain ⟨D, em, hofm⟩ := of_both u hu
  by_cases hl : t.size ≤ 40
  · obtain ⟨E, ee, hofe⟩ := of_both t ht
    by_cases h0 : D = 0
    · exact pows_zero0 s t u t (by omega) rfl A ea hofa E ee hofe D em hofm h0 W
    · by_cases hb : btl D ≤ 2048
      · exact pows_ok0 s t u t (by omega) rfl A ea hofa E ee hofe D em hofm h0 hb W
      · exact pows_long0 s t u t (by omega) rfl A ea hofa E ee hofe D em hofm h0 (by omega) W
  · obtain ⟨E, ee, hofe⟩ := of_both (t.extract 0 40) (by rw [ByteArray.size_extract]; omega)
    by_cases h0 : D = 0
    · exact pows_zero1 s t u _ (by omega) rfl A ea hofa E ee hofe D em hofm h0 W
    · by_cases hb : btl D ≤ 2048
      · exact pows_ok1 s t u _ (by omega) rfl A ea hofa E ee hofe D em hofm h0 hb W
      · exact pows_long1 s t u _ (by omega) rfl A ea hofa E ee hofe D em hofm h0 (by omega) W
end Go.Proofs.YthjhemodmdficaaDoor
