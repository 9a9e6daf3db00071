/- Texts of this proof, joined: NR13, NR14, KRefVer. -/
import Derived.Test.YtlcjagkfeakinaaGreatDoorJ19
import Derived.Test.YtlcjagkfeakinaaGreatDoorJ16
import Derived.Test.YtlcjagkfeakinaaGreatDoorJ18
/- The document's Div: the walk. -/
namespace Go.Proofs.YtlcjagkfeakinaaGreatDoor.N
set_option linter.unusedVariables false
open Go.RowKit
set_option maxRecDepth 100000 in
set_option maxHeartbeats 4000000 in
theorem rdiv_in (W : World) (v u : Value) (A B : Nat) (hA : RN W v A) (hB : RN W u B) (ha : mny A ≤ 90000) (hb : mny B ≤ 90000) (hB0 : B ≠ 0) : Calls Tryz.prog 76 #[v, u] W fun e w' => ∃ q r, e = .returned (.tuple #[q, r]) ∧ RN w' q (A / B) ∧ RN w' r (A % B) ∧ Below W.heap.size W w' := by
  obtain ⟨i0, hi, hz0, hz1, hz2⟩ := info_of info24
  obtain ⟨sh, hsh, hshB⟩ := shift_of B hB0
  have HBT := Hid.mk (rbits_in W u B hB (by omega))
  have HUA := Hid.mk (rup_in W v A sh hA (by omega) hsh)
  have HUB : Hid (∀ W', RN W' u B → Calls Tryz.prog 107 #[u, .int .i64 (sh : Int)] W' fun e w' => ∃ v, e = .returned v ∧ RN w' v (B * 2 ^ sh) ∧ Below W'.heap.size W' w') := fun W' h => rup_in W' u B sh h (by omega) hsh
  obtain ⟨s, hs⟩ : ∃ s, 2 ^ sh = s := ⟨_, rfl⟩
  have hs0 : 0 < s := by rw [← hs]; exact Nat.two_pow_pos sh
  have hXm := mny_mul_pow A sh 90000 hsh ha
  have hDm := mny_mul_pow B sh 90000 hsh hb
  rw [hs] at HUA HUB hXm hDm
  obtain ⟨sd1, sd2, sd3⟩ := shifted_div A B s hs0
  have hD0 : B * s ≠ 0 := Nat.mul_ne_zero hB0 (by omega)
  obtain ⟨X, hX⟩ : ∃ X, A * s = X := ⟨_, rfl⟩
  obtain ⟨D, hD⟩ : ∃ D, B * s = D := ⟨_, rfl⟩
  rw [hX] at HUA hXm sd1 sd2
  rw [hD] at HUB hDm hD0 sd1 sd2
  have HSD := Hid.mk (And.intro sd1 (And.intro sd2 sd3))
  have HS := Hid.mk hs
  have hDp : 0 < D := by omega
  obtain ⟨gu, cu, us, rfl, hgu, hul, huv, hcu⟩ := hB.open hB0
  obtain ⟨nB, hnB⟩ : ∃ nB, mny B = nB := ⟨_, rfl⟩
  rw [hnB] at hshB HBT HUB ⊢
  obtain ⟨bB, hbB⟩ : ∃ bB, btl B = bB := ⟨_, rfl⟩
  rw [hbB] at hshB HBT
  have e1 : 32 * (nB : Int) - (bB : Int) = (sh : Int) := by omega
  have e2 : (nB : Int) ≤ 90000 := by omega
  have e3 : (0 : Int) ≤ (bB : Int) := by omega
  have e4 : (bB : Int) ≤ 32 * (nB : Int) := by omega
  rw [hnB] at hB
  have HB := Hid.mk hB
  clear hA hB hs hX hD sd1 sd2 sd3 hul huv hcu hnB hbB hgu
  go_enter Tryz.func76, Tryz.ntmps76
  go_wp2_with fail
  refine HBT.out.mono ?_
  rintro e w1 ⟨rfl, rfl⟩
  go_wp2_with fail
  refine HUA.out.mono ?_
  rintro e w2 ⟨v1, rfl, hx2, hb2⟩
  have HB2 := Hid.mk (HB.out.blk hb2)
  go_wp2_with fail
  refine (HUB.out _ HB2.out).mono ?_
  rintro e W2 ⟨u1, rfl, hd3, hb3⟩
  have hBW : Below w1.heap.size w1 W2 := bthen hb2 hb3
  have hX2 : RN W2 v1 X := hx2.blk hb3
  obtain ⟨gd, cd, ys, rfl, hgd, hyl, hyv, hcy⟩ := hd3.open hD0
  obtain ⟨xs, hxr, hxv, htx⟩ := hX2
  have hxm := htx.many
  obtain ⟨px, cx, rfl, hrd⟩ := hxr.read
  obtain ⟨n, hn⟩ : ∃ n, mny D = n + 1 := ⟨mny D - 1, by have := (mny_ge D hD0).1; omega⟩
  rw [hn] at hyl hcy hd3 hDm ⊢
  obtain ⟨m, hm⟩ : ∃ m, xs.length = m := ⟨_, rfl⟩
  have hm9 : m ≤ 90001 := by rw [← hm, hxm, hxv]; exact hXm
  rw [hm]
  -- what is known of the digits
  have HCB : Hid (∀ wr, Below W2.heap.size W2 wr → wr.cell? ⟨gd, n, none⟩ = some (.int .u32 ((ys[n]?.getD 0).toNat : Int))) := fun wr h => (h.cell (p := ⟨gd, n, none⟩) hgd).trans (hcy n (by omega))
  have HBTOP : Hid (D / 4294967296 ^ n = (ys[n]?.getD 0).toNat) := by rw [Hid, ← hyv]; exact top_one ys n hyl
  have hbtl := bv_lt (ys[n]?.getD 0)
  generalize (ys[n]?.getD 0).toNat = bt at *
  have HDB : Hid (D < (bt + 1) * 4294967296 ^ n) := by
    rw [Hid, ← HBTOP.out, Nat.mul_comm]
    exact Nat.lt_mul_div_succ D (Nat.pow_pos (by omega))
  have HXD : Hid (∀ i, i < m → (xs[i]?.getD 0).toNat = X / 4294967296 ^ i % 4294967296) := fun i hi => by rw [dig_of xs i (by omega), hxv]
  have HRD := Hid.mk hrd
  have HXL : Hid (X < 4294967296 ^ m) := by rw [Hid, ← hxv, ← hm]; exact val_lt xs
  have HD3 := Hid.mk hd3
  have HMX := Hid.mk hm
  have HBW := Hid.mk hBW
  have hsz : w1.heap.size ≤ W2.heap.size := hBW.size
  have f1 : (0 : Int) ≤ (m : Int) := by omega
  have f2 : (m : Int) ≤ 90001 := by omega
  have f3 : (n : Int) ≤ 90001 := by omega
  have f4 : (0 : Int) ≤ (n : Int) := by omega
  have HND : Hid (mny D = n + 1) := hn
  clear hx2 hb2 hb3 hd3 hyl hyv hcy hxr hxv htx hxm hrd hn hm hBW HB2 HUA HUB HBT hgd
  go_wp2_with (at_make; refine wpList_make_full _ rfl _ _ 46 rfl W2.heap.size 40 i0 (.int .u32 0) 1 Tryz.underlying46 hi hz0 hz1 _ _ _ _ m rfl rfl rfl rfl (by rw [hz2]; omega) (by unfold maxLen; omega) (Nat.le_refl _) ?_; intro w4 hown4 hgrow4)
  have B4 : Below W2.heap.size W2 w4 := (Below.refl _ _).grown hgrow4 (Nat.le_refl _) (by simp)
  rw [made_noughts] at hown4
  have HO4 := Hid.mk hown4
  clear hown4 hgrow4
  obtain ⟨g0, hg0⟩ : ∃ g0, W2.heap.size = g0 := ⟨_, rfl⟩
  rw [hg0] at HO4 ⊢
  have HG0 := Hid.mk hg0
  clear hg0
  go_wp2_with fail
  go_loopw [9, 10] (fun rv kv wr => ∃ (j : Nat) (zs : List (BitVec 32)), j ≤ m ∧ kv = .int .i64 ((j : Int) - 1) ∧ Hid (zs.length = m) ∧ Hid (val zs = 4294967296 ^ j * (X / 4294967296 ^ j / D)) ∧ Hid (∀ i, i < j → zs[i]?.getD 0 = 0) ∧ RN wr rv (X / 4294967296 ^ j % D) ∧ Hid (Fresh (g0 + 1) rv) ∧ wr.ownsRow g0 40 1 (.slice (some ⟨g0, 0, none⟩) m m) m (wl zs) ∧ Below W2.heap.size W2 wr) (fun _ kv _ => (intOf kv + 1).toNat)
  case atStart =>
    refine ⟨m, List.replicate m 0, Nat.le_refl _, by go_num, by simp [Hid], ?_, fun i _ => by simp [List.getElem?_replicate]; split <;> rfl, ?_, (fun _ _ _ _ h => by cases h), HO4.out, B4⟩
    · rw [Hid, val_zero, Nat.div_eq_of_lt HXL.out, Nat.zero_div, Nat.mul_zero]
    · rw [Nat.div_eq_of_lt HXL.out, Nat.zero_mod]; exact RN.zero _
  case round =>
    obtain ⟨j, zs, hjm, rfl, HZL, HZV, HZ0, hrn, HFR, hown, hbl⟩ := hrel
    have HO := Hid.mk hown
    have HRN := Hid.mk hrn
    clear HO4 B4 hown hrn
    rcases Nat.eq_zero_or_pos j with rfl | hj0
    · rw [Nat.pow_zero, Nat.div_one] at HRN HZV
      rw [Nat.one_mul] at HZV
      have HT := Hid.mk (rtrim_in _ _ zs (Rw.of HO.out HZL.out))
      rw [HZV.out, HSD.out.1] at HT
      have hrn' := HRN.out
      rw [HSD.out.2.1] at hrn'
      have HRN' := Hid.mk hrn'
      clear hrn'
      have hml : mny (A % B * s) ≤ 100000 := by
        rw [← HSD.out.2.1]
        have := mny_mono (X % D) D (Nat.le_of_lt (Nat.mod_lt _ hDp))
        have := HND.out
        omega
      go_wp2_with fail
      refine HT.out.mono ?_
      rintro e w5 ⟨q1, rfl, hq, rfl⟩
      have HQ := Hid.mk hq
      clear hq
      go_wp2_with fail
      refine (rdown_in _ _ _ sh HRN'.out hml hsh).mono ?_
      rintro e w6 ⟨r1, rfl, hr, hb6⟩
      rw [HS.out, HSD.out.2.2] at hr
      have HR := Hid.mk hr
      have HBB := Hid.mk (bthen HBW.out (bthen hbl hb6))
      have HQ6 := Hid.mk (HQ.out.blk hb6)
      clear hr hb6
      go_wp2
      go_ret2
      exact ⟨q1, r1, rfl, HQ6.out, HR.out, HBB.out⟩
    · obtain ⟨i, rfl⟩ : ∃ i, j = i + 1 := ⟨j - 1, by omega⟩
      have hki : ((i + 1 : Nat) : Int) - 1 = (i : Int) := by omega
      rw [hki]
      obtain ⟨gx, rfl, hgx, hcx⟩ := HRD.out i (by rw [HMX.out]; omega)
      have c1 : wr.cell? ⟨gx, i, none⟩ = _ := (hbl.cell (p := ⟨gx, i, none⟩) hgx).trans hcx
      have hxd := HXD.out i (by omega)
      obtain ⟨x, hx⟩ : ∃ x, xs[i]?.getD 0 = x := ⟨_, rfl⟩
      rw [hx] at c1 hxd
      obtain ⟨hs1, hs2, hs3⟩ := high_step X D 0 (4294967296 ^ i) hDp (Nat.pow_pos (by omega))
      rw [← Nat.pow_succ, ← hxd] at hs1 hs2 hs3
      simp only [Nat.succ_eq_add_one] at hs1 hs2 hs3
      have HM : Hid (mny (X / 4294967296 ^ (i + 1) % D) ≤ 100000) := by
        have h1 := mny_mono (X / 4294967296 ^ (i + 1) % D) D (Nat.le_of_lt (Nat.mod_lt _ hDp))
        have := HND.out
        rw [Hid]
        omega
      have HMV := Hid.mk (rmoved_in _ _ _ x HRN.out HM.out)
      obtain ⟨R, hR⟩ : ∃ R, X / 4294967296 ^ (i + 1) % D * 4294967296 + x.toNat = R := ⟨_, rfl⟩
      rw [hR] at hs1 hs2 hs3 HMV
      have HS2 := Hid.mk hs2
      have HS3 := Hid.mk hs3
      have hRm : mny R ≤ 100000 := by
        have h1 := mny_mul_pow D 31 (n + 1) (by omega) (by rw [HND.out]; omega)
        by_cases hz : R = 0
        · rw [hz]; exact Nat.zero_le _
        · by_cases hDR : D ≤ R
          · have := rest_many R D hDR hs1 hD0
            have := HND.out
            omega
          · have := mny_mono R D (by omega)
            have := HND.out
            omega
      have i1 : (0 : Int) ≤ (i : Int) := by omega
      have i2 : (i : Int) < (m : Int) := by omega
      have hgsz : g0 + 1 ≤ wr.heap.size := (World.ownsRow.lt HO.out g0 rfl).2
      clear hcx hxd hx hR hs2 hs3
      go_wp2_with fail
      refine HMV.out.mono ?_
      rintro e w5 ⟨r5, rfl, hr5, hf5, hb5⟩
      have HR5 := Hid.mk hr5
      have HF5 : Hid (Fresh (g0 + 1) r5) := fun g o n c h => Nat.le_trans hgsz (hf5 g o n c h)
      clear hf5
      have hbl5 : Below W2.heap.size W2 w5 := bthen hbl hb5
      have HO5 := Hid.mk (own_blk hb5 HO.out)
      have HD5 := Hid.mk (HD3.out.blk hbl5)
      clear hr5 c1
      have HCM := Hid.mk (rcmp_in _ _ _ R D HR5.out HD5.out)
      by_cases hlt : R < D
      · rw [cmpI_lt _ _ hlt] at HCM
        have HV' : Hid (val zs = 4294967296 ^ i * (X / 4294967296 ^ i / D)) := by
          rw [Hid, HZV.out, HS2.out, Nat.div_eq_of_lt hlt]
          exact pow_shift0 _ _
        have HR' : Hid (X / 4294967296 ^ i % D = R) := by rw [Hid, HS3.out, Nat.mod_eq_of_lt hlt]
        go_wp2_with fail
        refine HCM.out.mono ?_
        rintro e w6 ⟨rfl, hd6⟩
        have hb6 := below_drew hd6
        have HR6 := Hid.mk (HR5.out.blk hb6)
        have HO6 := Hid.mk (own_blk hb6 HO5.out)
        have hbl6 : Below W2.heap.size W2 w6 := bthen hbl5 hb6
        clear hd6 hb6
        go_wp2
        go_roundw
        case rel => exact ⟨i, zs, by omega, by go_num, HZL, HV', fun t ht => HZ0.out t (by omega), by rw [HR'.out]; exact HR6.out, HF5, HO6.out, hbl6⟩
        case measure => simp [intOf]
      · have hDR : D ≤ R := by omega
        have hR0 : R ≠ 0 := by omega
        have hge0 : 0 ≤ cmpI R D := by
          rcases Nat.lt_or_ge D R with h | h
          · rw [cmpI_gt _ _ h]; omega
          · rw [show R = D by omega, cmpI_eq]; omega
        generalize cmpI R D = cv0 at *
        have hmany := rest_many R D hDR hs1 hD0
        rw [HND.out] at hmany
        obtain ⟨gr, cr, rs, rfl, hgr, hrl, hrv, hcr⟩ := HR5.out.open hR0
        rcases hmany with hmr | hmr
        · skip
          rw [hmr] at hrl hcr HCM HR5 ⊢
          have HTT : Hid (R / 4294967296 ^ n = (rs[n]?.getD 0).toNat) := by rw [Hid, ← hrv]; exact top_one rs n hrl
          have hx1 := bv_lt (rs[n]?.getD 0)
          have d1 := hcr n (by omega)
          generalize (rs[n]?.getD 0).toNat = y1 at *
          obtain ⟨T, hT⟩ : ∃ T, R / 4294967296 ^ n = T := ⟨_, rfl⟩
          obtain ⟨d0, hd0⟩ : ∃ d0, T / (bt + 1) = d0 := ⟨_, rfl⟩
          have hlow : d0 * D ≤ R := by rw [← hd0, ← hT]; exact low_guess R D (4294967296 ^ n) bt (Nat.pow_pos (by omega)) HDB.out
          rw [hT] at HTT
          have hTe := HTT.out
          have hTl : T < 18446744073709551616 := by omega
          have hdT : d0 ≤ T := by rw [← hd0]; exact Nat.div_le_self _ _
          have hdq : d0 ≤ R / D := (Nat.le_div_iff_mul_le hDp).2 hlow
          have hqB : R / D < 4294967296 := (Nat.div_lt_iff_lt_mul hDp).2 (by rw [Nat.mul_comm]; exact hs1)
          obtain ⟨z0, hz0'⟩ : ∃ z : BitVec 32, z.toNat = d0 % 4294967296 := ⟨BitVec.ofNat 32 (d0 % 4294967296), by rw [bv_of]; omega⟩
          obtain ⟨z1, hz1'⟩ : ∃ z : BitVec 32, z.toNat = d0 / 4294967296 := ⟨BitVec.ofNat 32 (d0 / 4294967296), by rw [bv_of]; omega⟩
          have HVZ : Hid (val [z0, z1] = d0) := by rw [Hid, val, val_one]; omega
          go_wp2_with fail
          refine HCM.out.mono ?_
          rintro e w6 ⟨rfl, hd6⟩
          have hb6 := below_drew hd6
          have HR6 := Hid.mk (HR5.out.blk hb6)
          have HO6 := Hid.mk (own_blk hb6 HO5.out)
          have hbl6 : Below W2.heap.size W2 w6 := bthen hbl5 hb6
          have HD6 := Hid.mk (HD3.out.blk hbl6)
          have c1 : w6.cell? ⟨gr, n, none⟩ = _ := (hb6.cell (p := ⟨gr, n, none⟩) hgr).trans d1
          have c3 := HCB.out w6 hbl6
          have t1 : (T : Int) / ((bt : Int) + 1) = (d0 : Int) := by rw [← hd0, Int.natCast_ediv]; rfl
          have t2 : (T : Int).tdiv ((bt : Int) + 1) = (d0 : Int) := by rw [Int.tdiv_eq_ediv_of_nonneg (by omega)]; exact t1
          have t3 : IntKind.u64.wrap (d0 : Int) = (d0 : Int) := by rw [IntKind.wrap_u64]; omega
          have t4 : IntKind.u64.wrap ((bt : Int) + 1) = (bt : Int) + 1 := by rw [IntKind.wrap_u64]; omega
          have t5 : IntKind.u64.wrap (bt : Int) = (bt : Int) := by rw [IntKind.wrap_u64]; omega
          have t6 : IntKind.u64.wrap (y1 : Int) = (y1 : Int) := by rw [IntKind.wrap_u64]; omega
          have t7 : (d0 : Int) % 4294967296 = (z0.toNat : Int) := by omega
          have t8 : (d0 : Int).tmod 4294967296 = (z0.toNat : Int) := by rw [Int.tmod_eq_emod_of_nonneg (by omega)]; omega
          have t9 : (d0 : Int) / 4294967296 = (z1.toNat : Int) := by omega
          have t10 : (d0 : Int).tdiv 4294967296 = (z1.toNat : Int) := by rw [Int.tdiv_eq_ediv_of_nonneg (by omega)]; omega
          have t11 : IntKind.u32.wrap (z0.toNat : Int) = (z0.toNat : Int) := by rw [IntKind.wrap_u32]; have := bv_lt z0; omega
          have t12 : (z0.toNat : Int) % 4294967296 = (z0.toNat : Int) := by have := bv_lt z0; omega
          have t13 : IntKind.u64.wrap (z0.toNat : Int) = (z0.toNat : Int) := by rw [IntKind.wrap_u64]; have := bv_lt z0; omega
          have t14 : IntKind.u32.wrap (z1.toNat : Int) = (z1.toNat : Int) := by rw [IntKind.wrap_u32]; have := bv_lt z1; omega
          have t15 : (z1.toNat : Int) % 4294967296 = (z1.toNat : Int) := by have := bv_lt z1; omega
          have t16 : IntKind.u64.wrap (z1.toNat : Int) = (z1.toNat : Int) := by rw [IntKind.wrap_u64]; have := bv_lt z1; omega
          have tb : ((bt : Int) + 1 == 0) = false := by rw [beq_eq_false_iff_ne]; omega
          have tb2 : ¬ ((bt : Int) + 1 = 0) := by omega
          obtain rfl : T = y1 := hTe
          have q5 : (n : Int) + 1 - 1 = (n : Int) := by omega
          have q11 : (n : Int) < (n : Int) + 1 := by omega
          have q12 : (n : Int) + 1 - 1 = (n : Int) := by omega
          clear hT hd0 hTl hdT hz0' hz1' hd6 hb6 d1 hrl hrv hcr HTT
          go_wp2_with fail
          refine (rtrim_in _ _ [z0, z1] (Rw.two w6 z0 z1)).mono ?_
          rintro e w7 ⟨v7, rfl, hr7, rfl⟩
          rw [HVZ.out] at hr7
          have hb7 : Below w6.heap.size w6 (w6.alloc (.cells #[.int .u32 (z0.toNat : Int), .int .u32 (z1.toNat : Int)] 40)) := (Below.refl _ _).alloc (Nat.le_refl _) _
          have HR7 := Hid.mk hr7
          have HD7 := Hid.mk (HD6.out.blk hb7)
          have HX7 := Hid.mk (HR6.out.blk hb7)
          have HO7 := Hid.mk (own_blk hb7 HO6.out)
          have hbl7 := bthen hbl6 hb7
          clear hr7 hb7 c1 c3 
          go_wp2_with fail
          refine (rmul_in _ _ _ D d0 HD7.out HR7.out (by rw [HND.out]; omega) (Nat.le_trans (mny_mono d0 R (Nat.le_trans hdq (Nat.div_le_self _ _))) hRm)).mono ?_
          rintro e w8 ⟨v8, rfl, hr8, hb8⟩
          have HR8 := Hid.mk hr8
          have HX8 := Hid.mk (HX7.out.blk hb8)
          have HO8 := Hid.mk (own_blk hb8 HO7.out)
          have hbl8 := bthen hbl7 hb8
          clear hr8 hb8
          go_wp2_with fail
          refine (rsub_in _ _ _ R (D * d0) HX8.out HR8.out hRm (by rw [Nat.mul_comm]; exact hlow)).mono ?_
          rintro e w9 ⟨v9, rfl, hr9, hf9, hb9⟩
          have HR9 := Hid.mk hr9
          have HF9 : Hid (Fresh (g0 + 1) v9) := fun g o n c h => Nat.le_trans (World.ownsRow.lt HO8.out g0 rfl).2 (hf9 g o n c h)
          have HO9 := Hid.mk (own_blk hb9 HO8.out)
          have hbl9 := bthen hbl8 hb9
          clear hr9 hb9 hf9
          have hlow' : D * d0 ≤ R := by rw [Nat.mul_comm]; exact hlow
          go_wp2_with fail
          go_loopw [9, 12] (fun rv dv wr => ∃ e : Nat, dv = .int .u64 (e : Int) ∧ D * e ≤ R ∧ RN wr rv (R - D * e) ∧ Hid (Fresh (g0 + 1) rv) ∧ wr.ownsRow g0 40 1 (.slice (some ⟨g0, 0, none⟩) m m) m (wl zs) ∧ Below W2.heap.size W2 wr) (fun _ dv _ => R / D + 1 - (intOf dv).toNat)
          case atStart => exact ⟨d0, rfl, hlow', HR9.out, HF9, HO9.out, hbl9⟩
          case round =>
            obtain ⟨e, rfl, hle, hrn, HFr, hown, hblr⟩ := hrel
            have HRr := Hid.mk hrn
            have HOr := Hid.mk hown
            have HDr := Hid.mk (HD3.out.blk hblr)
            have hRe : mny (R - D * e) ≤ 100000 := Nat.le_trans (mny_mono _ R (Nat.sub_le _ _)) hRm
            have heq : e ≤ R / D := (Nat.le_div_iff_mul_le hDp).2 (by rw [Nat.mul_comm]; exact hle)
            have HCr := Hid.mk (rcmp_in _ _ _ (R - D * e) D HRr.out HDr.out)
            clear hrn hown hlow hlow'
            by_cases hge : D ≤ R - D * e
            · have hc0 : 0 ≤ cmpI (R - D * e) D := by
                rcases Nat.lt_or_ge D (R - D * e) with h | h
                · rw [cmpI_gt _ _ h]; omega
                · rw [show R - D * e = D by omega, cmpI_eq]; omega
              have hDe : D * (e + 1) = D * e + D := by rw [Nat.mul_add, Nat.mul_one]
              have hle' : D * (e + 1) ≤ R := by omega
              have hsb : R - D * (e + 1) = R - D * e - D := by omega
              have he1 : e + 1 ≤ R / D := (Nat.le_div_iff_mul_le hDp).2 (by rw [Nat.mul_comm]; exact hle')
              have HSB : Hid (R - D * (e + 1) = R - D * e - D) := hsb
              have we : IntKind.u64.wrap ((e : Int) + 1) = (e : Int) + 1 := by rw [IntKind.wrap_u64]; omega
              generalize cmpI (R - D * e) D = cv at *
              clear hDe hsb
              go_wp2_with fail
              refine HCr.out.mono ?_
              rintro e' w10 ⟨rfl, hd10⟩
              have hb10 := below_drew hd10
              have HR10 := Hid.mk (HRr.out.blk hb10)
              have HO10 := Hid.mk (own_blk hb10 HOr.out)
              have hbl10 : Below W2.heap.size W2 w10 := bthen hblr hb10
              have HD10 := Hid.mk (HD3.out.blk hbl10)
              clear hd10 hb10
              go_wp2_with fail
              refine (rsub_in _ _ _ _ D HR10.out HD10.out hRe hge).mono ?_
              rintro e' w11 ⟨v11, rfl, hr11, hf11, hb11⟩
              have HR11 := Hid.mk hr11
              have HF11 : Hid (Fresh (g0 + 1) v11) := fun g o n c h => Nat.le_trans (World.ownsRow.lt HO10.out g0 rfl).2 (hf11 g o n c h)
              have HO11 := Hid.mk (own_blk hb11 HO10.out)
              have hbl11 := bthen hbl10 hb11
              clear hr11 hb11 hf11
              go_wp2
              go_roundw
              case rel => exact ⟨e + 1, by go_num, hle', by rw [HSB.out]; exact HR11.out, HF11, HO11.out, hbl11⟩
              case measure => simp [intOf]; omega
            · have hcl : cmpI (R - D * e) D = -1 := cmpI_lt _ _ (by omega)
              rw [hcl] at HCr
              have heR : e = R / D := by
                have h1 : R < D * (e + 1) := by rw [Nat.mul_add, Nat.mul_one]; omega
                have h2 : R / D < e + 1 := (Nat.div_lt_iff_lt_mul hDp).2 (by rw [Nat.mul_comm]; exact h1)
                omega
              have hmd : R - D * e = R % D := by
                have := Nat.div_add_mod R D
                rw [← heR] at this
                omega
              obtain ⟨z, hz⟩ : ∃ z : BitVec 32, z.toNat = e := ⟨BitVec.ofNat 32 e, by rw [bv_of]; omega⟩
              have hst := val_set zs i (by rw [HZL.out]; omega) z
              rw [HZ0.out i (by omega), show (0 : BitVec 32).toNat = 0 from rfl, Nat.mul_zero, Nat.add_zero, hz, heR] at hst
              have HV' : Hid (val (zs.set i z) = 4294967296 ^ i * (X / 4294967296 ^ i / D)) := by
                rw [Hid, hst, HZV.out, HS2.out, Nat.mul_add, pow_shift]
              have HR' : Hid (X / 4294967296 ^ i % D = R - D * e) := by rw [Hid, HS3.out, hmd]
              have HL' : Hid ((zs.set i z).length = m) := by rw [Hid, List.length_set, HZL.out]
              have HZ' : Hid (∀ t, t < i → (zs.set i z)[t]?.getD 0 = 0) := fun t ht => by rw [set_other zs i t z (by omega)]; exact HZ0.out t (by omega)
              rw [← hz]
              have u1 : IntKind.u32.wrap (z.toNat : Int) = (z.toNat : Int) := by rw [IntKind.wrap_u32]; have := bv_lt z; omega
              have u2 : (z.toNat : Int) % 4294967296 = (z.toNat : Int) := by have := bv_lt z; omega
              generalize R - D * e = RM at *
              clear hz hst heR hmd hcl hge heq hle
              go_wp2_with fail
              refine HCr.out.mono ?_
              rintro e' w10 ⟨rfl, hd10⟩
              have hb10 := below_drew hd10
              have HR10 := Hid.mk (HRr.out.blk hb10)
              have HO10 := Hid.mk (own_blk hb10 HOr.out)
              have hbl10 : Below W2.heap.size W2 w10 := bthen hblr hb10
              have c10 : w10.cell? ⟨g0, i, none⟩ = some (.int .u32 ((zs[i]?.getD 0).toNat : Int)) := by
                have := HO10.out.cellAt i (by omega)
                rw [wl_at zs i (by rw [HZL.out]; omega)] at this
                exact this
              have f10 : w10.frozen? ⟨g0, i, none⟩ = false := HO10.out.frozenAt i
              clear hd10 hb10
              go_wp2
              go_roundw
              case rel =>
                obtain ⟨h1, h2⟩ := HO10.out.stored i (.int .u32 (z.toNat : Int))
                rw [wl_set] at h1
                have hbf : Below W2.heap.size W2 (w10.setCell ⟨g0, i, none⟩ (.int .u32 (z.toNat : Int))) := hbl10.setCell (by show W2.heap.size ≤ g0; rw [HG0.out]; exact Nat.le_refl _) _
                have hrf := HR10.out.put (g := g0) (i := i) (x := .int .u32 (z.toNat : Int)) HFr.out
                exact ⟨i, zs.set i z, by omega, by go_num, HL', HV', HZ', by rw [HR'.out]; exact hrf, HFr, h1, hbf⟩
              case measure => simp [intOf]
        · skip
          rw [hmr] at hrl hcr HCM HR5 ⊢
          have HTT : Hid (R / 4294967296 ^ n = (rs[n + 1]?.getD 0).toNat * 4294967296 + (rs[n]?.getD 0).toNat) := by rw [Hid, ← hrv]; exact top_two rs n hrl
          have hx1 := bv_lt (rs[n + 1]?.getD 0)
          have hx2 := bv_lt (rs[n]?.getD 0)
          have d1 := hcr (n + 1) (by omega)
          have d2 := hcr n (by omega)
          generalize (rs[n + 1]?.getD 0).toNat = y1 at *
          generalize (rs[n]?.getD 0).toNat = y2 at *
          obtain ⟨T, hT⟩ : ∃ T, R / 4294967296 ^ n = T := ⟨_, rfl⟩
          obtain ⟨d0, hd0⟩ : ∃ d0, T / (bt + 1) = d0 := ⟨_, rfl⟩
          have hlow : d0 * D ≤ R := by rw [← hd0, ← hT]; exact low_guess R D (4294967296 ^ n) bt (Nat.pow_pos (by omega)) HDB.out
          rw [hT] at HTT
          have hTe := HTT.out
          have hTl : T < 18446744073709551616 := by omega
          have hdT : d0 ≤ T := by rw [← hd0]; exact Nat.div_le_self _ _
          have hdq : d0 ≤ R / D := (Nat.le_div_iff_mul_le hDp).2 hlow
          have hqB : R / D < 4294967296 := (Nat.div_lt_iff_lt_mul hDp).2 (by rw [Nat.mul_comm]; exact hs1)
          obtain ⟨z0, hz0'⟩ : ∃ z : BitVec 32, z.toNat = d0 % 4294967296 := ⟨BitVec.ofNat 32 (d0 % 4294967296), by rw [bv_of]; omega⟩
          obtain ⟨z1, hz1'⟩ : ∃ z : BitVec 32, z.toNat = d0 / 4294967296 := ⟨BitVec.ofNat 32 (d0 / 4294967296), by rw [bv_of]; omega⟩
          have HVZ : Hid (val [z0, z1] = d0) := by rw [Hid, val, val_one]; omega
          go_wp2_with fail
          refine HCM.out.mono ?_
          rintro e w6 ⟨rfl, hd6⟩
          have hb6 := below_drew hd6
          have HR6 := Hid.mk (HR5.out.blk hb6)
          have HO6 := Hid.mk (own_blk hb6 HO5.out)
          have hbl6 : Below W2.heap.size W2 w6 := bthen hbl5 hb6
          have HD6 := Hid.mk (HD3.out.blk hbl6)
          have c1 : w6.cell? ⟨gr, n + 1, none⟩ = _ := (hb6.cell (p := ⟨gr, n + 1, none⟩) hgr).trans d1
          have c2 : w6.cell? ⟨gr, n, none⟩ = _ := (hb6.cell (p := ⟨gr, n, none⟩) hgr).trans d2
          have c3 := HCB.out w6 hbl6
          have t1 : (T : Int) / ((bt : Int) + 1) = (d0 : Int) := by rw [← hd0, Int.natCast_ediv]; rfl
          have t2 : (T : Int).tdiv ((bt : Int) + 1) = (d0 : Int) := by rw [Int.tdiv_eq_ediv_of_nonneg (by omega)]; exact t1
          have t3 : IntKind.u64.wrap (d0 : Int) = (d0 : Int) := by rw [IntKind.wrap_u64]; omega
          have t4 : IntKind.u64.wrap ((bt : Int) + 1) = (bt : Int) + 1 := by rw [IntKind.wrap_u64]; omega
          have t5 : IntKind.u64.wrap (bt : Int) = (bt : Int) := by rw [IntKind.wrap_u64]; omega
          have t6 : IntKind.u64.wrap (y1 : Int) = (y1 : Int) := by rw [IntKind.wrap_u64]; omega
          have t7 : (d0 : Int) % 4294967296 = (z0.toNat : Int) := by omega
          have t8 : (d0 : Int).tmod 4294967296 = (z0.toNat : Int) := by rw [Int.tmod_eq_emod_of_nonneg (by omega)]; omega
          have t9 : (d0 : Int) / 4294967296 = (z1.toNat : Int) := by omega
          have t10 : (d0 : Int).tdiv 4294967296 = (z1.toNat : Int) := by rw [Int.tdiv_eq_ediv_of_nonneg (by omega)]; omega
          have t11 : IntKind.u32.wrap (z0.toNat : Int) = (z0.toNat : Int) := by rw [IntKind.wrap_u32]; have := bv_lt z0; omega
          have t12 : (z0.toNat : Int) % 4294967296 = (z0.toNat : Int) := by have := bv_lt z0; omega
          have t13 : IntKind.u64.wrap (z0.toNat : Int) = (z0.toNat : Int) := by rw [IntKind.wrap_u64]; have := bv_lt z0; omega
          have t14 : IntKind.u32.wrap (z1.toNat : Int) = (z1.toNat : Int) := by rw [IntKind.wrap_u32]; have := bv_lt z1; omega
          have t15 : (z1.toNat : Int) % 4294967296 = (z1.toNat : Int) := by have := bv_lt z1; omega
          have t16 : IntKind.u64.wrap (z1.toNat : Int) = (z1.toNat : Int) := by rw [IntKind.wrap_u64]; have := bv_lt z1; omega
          have tb : ((bt : Int) + 1 == 0) = false := by rw [beq_eq_false_iff_ne]; omega
          have tb2 : ¬ ((bt : Int) + 1 = 0) := by omega
          have q1 : (y1 : Int) * 4294967296 + (y2 : Int) = (T : Int) := by omega
          have q2 : IntKind.u64.wrap ((y1 : Int) * 4294967296) = (y1 : Int) * 4294967296 := by rw [IntKind.wrap_u64]; omega
          have q3 : IntKind.u64.wrap (T : Int) = (T : Int) := by rw [IntKind.wrap_u64]; omega
          have q4 : IntKind.u64.wrap (y2 : Int) = (y2 : Int) := by rw [IntKind.wrap_u64]; omega
          have q5 : (n : Int) + 2 - 1 = (n : Int) + 1 := by omega
          have q6 : (n : Int) + 2 - 2 = (n : Int) := by omega
          have q7 : (n : Int) + 1 < (n : Int) + 2 := by omega
          have q8 : ((n : Int) + 1).toNat = n + 1 := by omega
          have q9 : (n : Int) < (n : Int) + 2 := by omega
          have q10 : (0 : Int) ≤ (n : Int) + 1 := by omega
          have q11 : (n : Int) < (n : Int) + 1 := by omega
          have q12 : (n : Int) + 1 - 1 = (n : Int) := by omega
          clear hT hd0 hTe hTl hdT hz0' hz1' hd6 hb6 d1 hrl hrv hcr d2 HTT
          go_wp2_with fail
          refine (rtrim_in _ _ [z0, z1] (Rw.two w6 z0 z1)).mono ?_
          rintro e w7 ⟨v7, rfl, hr7, rfl⟩
          rw [HVZ.out] at hr7
          have hb7 : Below w6.heap.size w6 (w6.alloc (.cells #[.int .u32 (z0.toNat : Int), .int .u32 (z1.toNat : Int)] 40)) := (Below.refl _ _).alloc (Nat.le_refl _) _
          have HR7 := Hid.mk hr7
          have HD7 := Hid.mk (HD6.out.blk hb7)
          have HX7 := Hid.mk (HR6.out.blk hb7)
          have HO7 := Hid.mk (own_blk hb7 HO6.out)
          have hbl7 := bthen hbl6 hb7
          clear hr7 hb7 c1 c3 c2
          go_wp2_with fail
          refine (rmul_in _ _ _ D d0 HD7.out HR7.out (by rw [HND.out]; omega) (Nat.le_trans (mny_mono d0 R (Nat.le_trans hdq (Nat.div_le_self _ _))) hRm)).mono ?_
          rintro e w8 ⟨v8, rfl, hr8, hb8⟩
          have HR8 := Hid.mk hr8
          have HX8 := Hid.mk (HX7.out.blk hb8)
          have HO8 := Hid.mk (own_blk hb8 HO7.out)
          have hbl8 := bthen hbl7 hb8
          clear hr8 hb8
          go_wp2_with fail
          refine (rsub_in _ _ _ R (D * d0) HX8.out HR8.out hRm (by rw [Nat.mul_comm]; exact hlow)).mono ?_
          rintro e w9 ⟨v9, rfl, hr9, hf9, hb9⟩
          have HR9 := Hid.mk hr9
          have HF9 : Hid (Fresh (g0 + 1) v9) := fun g o n c h => Nat.le_trans (World.ownsRow.lt HO8.out g0 rfl).2 (hf9 g o n c h)
          have HO9 := Hid.mk (own_blk hb9 HO8.out)
          have hbl9 := bthen hbl8 hb9
          clear hr9 hb9 hf9
          have hlow' : D * d0 ≤ R := by rw [Nat.mul_comm]; exact hlow
          go_wp2_with fail
          go_loopw [9, 12] (fun rv dv wr => ∃ e : Nat, dv = .int .u64 (e : Int) ∧ D * e ≤ R ∧ RN wr rv (R - D * e) ∧ Hid (Fresh (g0 + 1) rv) ∧ wr.ownsRow g0 40 1 (.slice (some ⟨g0, 0, none⟩) m m) m (wl zs) ∧ Below W2.heap.size W2 wr) (fun _ dv _ => R / D + 1 - (intOf dv).toNat)
          case atStart => exact ⟨d0, rfl, hlow', HR9.out, HF9, HO9.out, hbl9⟩
          case round =>
            obtain ⟨e, rfl, hle, hrn, HFr, hown, hblr⟩ := hrel
            have HRr := Hid.mk hrn
            have HOr := Hid.mk hown
            have HDr := Hid.mk (HD3.out.blk hblr)
            have hRe : mny (R - D * e) ≤ 100000 := Nat.le_trans (mny_mono _ R (Nat.sub_le _ _)) hRm
            have heq : e ≤ R / D := (Nat.le_div_iff_mul_le hDp).2 (by rw [Nat.mul_comm]; exact hle)
            have HCr := Hid.mk (rcmp_in _ _ _ (R - D * e) D HRr.out HDr.out)
            clear hrn hown hlow hlow'
            by_cases hge : D ≤ R - D * e
            · have hc0 : 0 ≤ cmpI (R - D * e) D := by
                rcases Nat.lt_or_ge D (R - D * e) with h | h
                · rw [cmpI_gt _ _ h]; omega
                · rw [show R - D * e = D by omega, cmpI_eq]; omega
              have hDe : D * (e + 1) = D * e + D := by rw [Nat.mul_add, Nat.mul_one]
              have hle' : D * (e + 1) ≤ R := by omega
              have hsb : R - D * (e + 1) = R - D * e - D := by omega
              have he1 : e + 1 ≤ R / D := (Nat.le_div_iff_mul_le hDp).2 (by rw [Nat.mul_comm]; exact hle')
              have HSB : Hid (R - D * (e + 1) = R - D * e - D) := hsb
              have we : IntKind.u64.wrap ((e : Int) + 1) = (e : Int) + 1 := by rw [IntKind.wrap_u64]; omega
              generalize cmpI (R - D * e) D = cv at *
              clear hDe hsb
              go_wp2_with fail
              refine HCr.out.mono ?_
              rintro e' w10 ⟨rfl, hd10⟩
              have hb10 := below_drew hd10
              have HR10 := Hid.mk (HRr.out.blk hb10)
              have HO10 := Hid.mk (own_blk hb10 HOr.out)
              have hbl10 : Below W2.heap.size W2 w10 := bthen hblr hb10
              have HD10 := Hid.mk (HD3.out.blk hbl10)
              clear hd10 hb10
              go_wp2_with fail
              refine (rsub_in _ _ _ _ D HR10.out HD10.out hRe hge).mono ?_
              rintro e' w11 ⟨v11, rfl, hr11, hf11, hb11⟩
              have HR11 := Hid.mk hr11
              have HF11 : Hid (Fresh (g0 + 1) v11) := fun g o n c h => Nat.le_trans (World.ownsRow.lt HO10.out g0 rfl).2 (hf11 g o n c h)
              have HO11 := Hid.mk (own_blk hb11 HO10.out)
              have hbl11 := bthen hbl10 hb11
              clear hr11 hb11 hf11
              go_wp2
              go_roundw
              case rel => exact ⟨e + 1, by go_num, hle', by rw [HSB.out]; exact HR11.out, HF11, HO11.out, hbl11⟩
              case measure => simp [intOf]; omega
            · have hcl : cmpI (R - D * e) D = -1 := cmpI_lt _ _ (by omega)
              rw [hcl] at HCr
              have heR : e = R / D := by
                have h1 : R < D * (e + 1) := by rw [Nat.mul_add, Nat.mul_one]; omega
                have h2 : R / D < e + 1 := (Nat.div_lt_iff_lt_mul hDp).2 (by rw [Nat.mul_comm]; exact h1)
                omega
              have hmd : R - D * e = R % D := by
                have := Nat.div_add_mod R D
                rw [← heR] at this
                omega
              obtain ⟨z, hz⟩ : ∃ z : BitVec 32, z.toNat = e := ⟨BitVec.ofNat 32 e, by rw [bv_of]; omega⟩
              have hst := val_set zs i (by rw [HZL.out]; omega) z
              rw [HZ0.out i (by omega), show (0 : BitVec 32).toNat = 0 from rfl, Nat.mul_zero, Nat.add_zero, hz, heR] at hst
              have HV' : Hid (val (zs.set i z) = 4294967296 ^ i * (X / 4294967296 ^ i / D)) := by
                rw [Hid, hst, HZV.out, HS2.out, Nat.mul_add, pow_shift]
              have HR' : Hid (X / 4294967296 ^ i % D = R - D * e) := by rw [Hid, HS3.out, hmd]
              have HL' : Hid ((zs.set i z).length = m) := by rw [Hid, List.length_set, HZL.out]
              have HZ' : Hid (∀ t, t < i → (zs.set i z)[t]?.getD 0 = 0) := fun t ht => by rw [set_other zs i t z (by omega)]; exact HZ0.out t (by omega)
              rw [← hz]
              have u1 : IntKind.u32.wrap (z.toNat : Int) = (z.toNat : Int) := by rw [IntKind.wrap_u32]; have := bv_lt z; omega
              have u2 : (z.toNat : Int) % 4294967296 = (z.toNat : Int) := by have := bv_lt z; omega
              generalize R - D * e = RM at *
              clear hz hst heR hmd hcl hge heq hle
              go_wp2_with fail
              refine HCr.out.mono ?_
              rintro e' w10 ⟨rfl, hd10⟩
              have hb10 := below_drew hd10
              have HR10 := Hid.mk (HRr.out.blk hb10)
              have HO10 := Hid.mk (own_blk hb10 HOr.out)
              have hbl10 : Below W2.heap.size W2 w10 := bthen hblr hb10
              have c10 : w10.cell? ⟨g0, i, none⟩ = some (.int .u32 ((zs[i]?.getD 0).toNat : Int)) := by
                have := HO10.out.cellAt i (by omega)
                rw [wl_at zs i (by rw [HZL.out]; omega)] at this
                exact this
              have f10 : w10.frozen? ⟨g0, i, none⟩ = false := HO10.out.frozenAt i
              clear hd10 hb10
              go_wp2
              go_roundw
              case rel =>
                obtain ⟨h1, h2⟩ := HO10.out.stored i (.int .u32 (z.toNat : Int))
                rw [wl_set] at h1
                have hbf : Below W2.heap.size W2 (w10.setCell ⟨g0, i, none⟩ (.int .u32 (z.toNat : Int))) := hbl10.setCell (by show W2.heap.size ≤ g0; rw [HG0.out]; exact Nat.le_refl _) _
                have hrf := HR10.out.put (g := g0) (i := i) (x := .int .u32 (z.toNat : Int)) HFr.out
                exact ⟨i, zs.set i z, by omega, by go_num, HL', HV', HZ', by rw [HR'.out]; exact hrf, HFr, h1, hbf⟩
              case measure => simp [intOf]
end Go.Proofs.YtlcjagkfeakinaaGreatDoor.N

/- The document's Pow. -/
namespace Go.Proofs.YtlcjagkfeakinaaGreatDoor.N
set_option linter.unusedVariables false
open Go.RowKit
theorem mny_small (N k : Nat) (h : N < 4294967296 ^ k) : mny N ≤ k := by
  by_cases h0 : N = 0
  · rw [h0]; exact Nat.zero_le _
  · have h1 := (mny_ge N h0).2
    apply Classical.byContradiction
    intro hn
    have : 4294967296 ^ k ≤ 4294967296 ^ (mny N - 1) := Nat.pow_le_pow_right (by omega) (by omega)
    omega
theorem mny_mul (X Y a b : Nat) (hx : mny X ≤ a) (hy : mny Y ≤ b) : mny (X * Y) ≤ a + b := by
  refine mny_small _ _ ?_
  rw [Nat.pow_add]
  have h1 : X < 4294967296 ^ a := Nat.lt_of_lt_of_le (mny_lt X) (Nat.pow_le_pow_right (by omega) hx)
  have h2 : Y < 4294967296 ^ b := Nat.lt_of_lt_of_le (mny_lt Y) (Nat.pow_le_pow_right (by omega) hy)
  exact Nat.mul_lt_mul'' h1 h2
theorem RN.one (W : World) : RN (W.alloc (.cells #[.int .u32 1] 40)) (.slice (some ⟨W.heap.size, 0, none⟩) 1 1) 1 := ⟨[1#32], Rw.one W 1#32, rfl, .inr ⟨[], 1#32, rfl, by decide⟩⟩
theorem mny_one : mny 1 = 1 := by decide +kernel
set_option maxRecDepth 100000 in
set_option maxHeartbeats 2000000 in
theorem rpow_in (W : World) (va ve vm : Value) (A E M : Nat) (hA : RN W va A) (hE : RN W ve E) (hM : RN W vm M) (ha : mny A ≤ 300) (he : mny E ≤ 300) (hm : mny M ≤ 300) (hM0 : M ≠ 0) : Calls Tryz.prog 47 #[va, ve, vm] W fun e w' => ∃ v, e = .returned v ∧ RN w' v (A ^ E % M) ∧ Below W.heap.size W w' := by
  have hBl : Below W.heap.size W (W.alloc (.cells #[.int .u32 1] 40)) := (Below.refl _ _).alloc (Nat.le_refl _) _
  have HD1 := Hid.mk (rdiv_in _ _ _ 1 M (RN.one W) (hM.blk hBl) (by rw [mny_one]; omega) (by omega) hM0)
  have HDA : Hid (∀ W', RN W' va A → RN W' vm M → Calls Tryz.prog 76 #[va, vm] W' fun e w' => ∃ q r, e = .returned (.tuple #[q, r]) ∧ RN w' q (A / M) ∧ RN w' r (A % M) ∧ Below W'.heap.size W' w') := fun W' h k => rdiv_in W' va vm A M h k (by omega) (by omega) hM0
  have HML : Hid (∀ W' v u X Y, RN W' v X → RN W' u Y → X < M → Y < M → Calls Tryz.prog 77 #[v, u] W' fun e w' => ∃ v, e = .returned v ∧ RN w' v (X * Y) ∧ Below W'.heap.size W' w') := fun W' v u X Y h k hx hy => rmul_in W' v u X Y h k (Nat.le_trans (mny_mono X M (by omega)) (by omega)) (Nat.le_trans (mny_mono Y M (by omega)) (by omega))
  have HDM : Hid (∀ W' v X Y, RN W' v (X * Y) → RN W' vm M → X < M → Y < M → Calls Tryz.prog 76 #[v, vm] W' fun e w' => ∃ q r, e = .returned (.tuple #[q, r]) ∧ RN w' q (X * Y / M) ∧ RN w' r (X * Y % M) ∧ Below W'.heap.size W' w') := fun W' v X Y h k hx hy => rdiv_in W' v vm (X * Y) M h k (Nat.le_trans (mny_mul X Y 300 300 (Nat.le_trans (mny_mono X M (by omega)) hm) (Nat.le_trans (mny_mono Y M (by omega)) hm)) (by omega)) (by omega) hM0
  have HBT : Hid (∀ W', RN W' ve E → Calls Tryz.prog 21 #[ve] W' fun e w' => e = .returned (.int .i64 (btl E : Int)) ∧ w' = W') := fun W' h => rbits_in W' ve E h (by omega)
  obtain ⟨n, hn⟩ : ∃ n, btl E = n := ⟨_, rfl⟩
  have hn4 : n ≤ 9600 := by
    rw [← hn]
    unfold btl
    unfold mny at he
    split
    · omega
    · rename_i h0
      rw [if_neg h0] at he
      omega
  have HEn : Hid (E < 2 ^ n) := by rw [Hid, ← hn]; exact btl_lt E
  have HNE : Hid (0 < n → E ≠ 0) := fun h h0 => by rw [h0] at hn; have : btl 0 = 0 := rfl; omega
  have HKN : Hid (∀ k, k < n → k / 32 < mny E) := fun k hk => by
    have h0 := HNE.out (by omega)
    rw [← hn] at hk
    unfold btl at hk
    unfold mny
    rw [if_neg h0] at hk ⊢
    omega
  rw [hn] at HBT
  have hm0 : 0 < M := Nat.pos_of_ne_zero hM0
  have HPW : Hid (∀ i, pwr A E M n i < M) := fun i => pwr_lt A E M n i hM0
  have HAM : Hid (A % M < M) := Nat.mod_lt _ hm0
  have HSZ : Hid (∀ W' : World, Below W.heap.size W W' → RN W' ve E) := fun W' h => hE.blk h
  have HMZ : Hid (∀ W' : World, Below W.heap.size W W' → RN W' vm M) := fun W' h => hM.blk h
  have HAZ : Hid (∀ W' : World, Below W.heap.size W W' → RN W' va A) := fun W' h => hA.blk h
  have HOP : Hid (0 < n → ∃ g cap ds, ve = .slice (some ⟨g, 0, none⟩) (mny E) cap ∧ g < W.heap.size ∧ ∀ j, j < mny E → W.cell? ⟨g, j, none⟩ = some (.int .u32 ((E / 4294967296 ^ j % 4294967296 : Nat) : Int))) := fun h => by
    obtain ⟨g, cap, ds, h1, h2, h3, h4, h5⟩ := hE.open (HNE.out h)
    refine ⟨g, cap, ds, h1, h2, fun j hj => ?_⟩
    rw [h5 j hj, dig_of ds j (by omega), h4]
  have HBB := Hid.mk hBl
  clear hn hA hE hM hBl ha he
  go_enter Tryz.func47, Tryz.ntmps47
  go_wp2_with fail
  refine HD1.out.mono ?_
  rintro e w1 ⟨q1, r1, rfl, hq1, hr1, hb1⟩
  have hbl1 : Below W.heap.size W w1 := bthen HBB.out hb1
  have HR1 := Hid.mk hr1
  clear hq1 hr1 hb1
  go_wp2_with fail
  refine (HDA.out _ (HAZ.out _ hbl1) (HMZ.out _ hbl1)).mono ?_
  rintro e w2 ⟨q2, r2, rfl, hq2, hr2, hb2⟩
  have hbl2 : Below W.heap.size W w2 := bthen hbl1 hb2
  have HR2 := Hid.mk hr2
  have HR1' := Hid.mk (HR1.out.blk hb2)
  clear hq2 hr2 hb2 hbl1 HR1
  go_wp2_with fail
  refine (HBT.out _ (HSZ.out _ hbl2)).mono ?_
  rintro e w3 ⟨rfl, rfl⟩
  go_wp2_with fail
  go_loopw [8, 12] (fun v kv wr => ∃ j : Nat, j ≤ n ∧ kv = .int .i64 ((j : Int) - 1) ∧ RN wr v (pwr A E M n (n - j)) ∧ RN wr r2 (A % M) ∧ Below W.heap.size W wr) (fun _ kv _ => (intOf kv + 1).toNat)
  case atStart => exact ⟨n, Nat.le_refl _, by go_num, by rw [Nat.sub_self, pwr_start A E M n HEn.out]; exact HR1'.out, HR2.out, hbl2⟩
  case round =>
    obtain ⟨j, hj, rfl, hp, hx, hbl⟩ := hrel
    have HP := Hid.mk hp
    have HX := Hid.mk hx
    clear hp hx HR1' HR2 hbl2
    rcases Nat.eq_zero_or_pos j with rfl | hj0
    · rw [Nat.sub_zero, pwr_end] at HP
      go_wp2
      go_ret
      exact ⟨_, rfl, HP.out, hbl⟩
    · obtain ⟨k, rfl⟩ : ∃ k, j = k + 1 := ⟨j - 1, by omega⟩
      have hki : ((k + 1 : Nat) : Int) - 1 = (k : Int) := by omega
      rw [hki]
      obtain ⟨i, hi⟩ : ∃ i, n - (k + 1) = i := ⟨_, rfl⟩
      rw [hi] at HP
      have hi1 : n - k = i + 1 := by omega
      have hkk : n - (i + 1) = k := by omega
      have hil : i < n := by omega
      have hp1 := HPW.out i
      have HEV := Hid.mk (pwr_even A E M n i k hkk hil)
      have HOD := Hid.mk (pwr_odd A E M n i k hkk hil)
      have hp2 : pwr A E M n i * pwr A E M n i % M < M := Nat.mod_lt _ hm0
      obtain ⟨gE, cE, ds, rfl, hgE, hcE⟩ := HOP.out (by omega)
      have HBA := Hid.mk (bit_at E k)
      have hjm := HKN.out k (by omega)
      obtain ⟨jd, hjd⟩ : ∃ jd, k / 32 = jd := ⟨_, rfl⟩
      obtain ⟨r, hr⟩ : ∃ r, k % 32 = r := ⟨_, rfl⟩
      rw [hjd, hr] at HBA
      rw [hjd] at hjm
      have hce := hcE jd hjm
      obtain ⟨dd, hdd⟩ : ∃ dd, E / 4294967296 ^ jd % 4294967296 = dd := ⟨_, rfl⟩
      rw [hdd] at hce HBA
      have hdl : dd < 4294967296 := by rw [← hdd]; exact Nat.mod_lt _ (by omega)
      obtain ⟨qd, hqd⟩ : ∃ qd, dd / 2 ^ r = qd := ⟨_, rfl⟩
      rw [hqd] at HBA
      have hql : qd < 4294967296 := by rw [← hqd]; exact Nat.lt_of_le_of_lt (Nat.div_le_self _ _) hdl
      have t1 : (k : Int).tdiv 32 = (jd : Int) := by rw [Int.tdiv_eq_ediv_of_nonneg (by omega)]; omega
      have t2 : (k : Int) / 32 = (jd : Int) := by omega
      have t3 : (k : Int).tmod 32 = (r : Int) := by rw [Int.tmod_eq_emod_of_nonneg (by omega)]; omega
      have t4 : (k : Int) % 32 = (r : Int) := by omega
      have t6 : (dd : Int) / 2 ^ r = (qd : Int) := by rw [← hqd, Int.natCast_ediv, Int.natCast_pow]; rfl
      have hr32 : r < 32 := by omega
      obtain ⟨nE, hnE⟩ : ∃ nE, mny E = nE := ⟨_, rfl⟩
      rw [hnE] at hjm HBT HSZ ⊢
      have hj' : (jd : Int) < (nE : Int) := by omega
      have hk0 : (0 : Int) ≤ (k : Int) := by omega
      have HCE := Hid.mk hce
      clear hjd hr hqd hdd hcE hnE HOP HKN hce hi
      obtain ⟨p, hpp⟩ : ∃ p, pwr A E M n i = p := ⟨_, rfl⟩
      rw [hpp] at HP hp1 hp2 HEV HOD
      clear hpp
      go_wp2_with fail
      refine (HML.out _ _ _ p p HP.out HP.out hp1 hp1).mono ?_
      rintro e w4 ⟨v4, rfl, hr4, hb4⟩
      have hbl4 : Below W.heap.size W w4 := bthen hbl hb4
      have HR4 := Hid.mk hr4
      have HX4 := Hid.mk (HX.out.blk hb4)
      clear hr4 hb4
      go_wp2_with fail
      refine (HDM.out _ _ p p HR4.out (HMZ.out _ hbl4) hp1 hp1).mono ?_
      rintro e w5 ⟨q5, r5, rfl, hq5, hr5, hb5⟩
      have hbl5 : Below W.heap.size W w5 := bthen hbl4 hb5
      have HR5 := Hid.mk hr5
      have HX5 := Hid.mk (HX4.out.blk hb5)
      have cE5 : w5.cell? ⟨gE, jd, none⟩ = some (.int .u32 (dd : Int)) := (hbl5.cell (p := ⟨gE, jd, none⟩) hgE).trans HCE.out
      clear hq5 hr5 hb5
      by_cases hbit : qd % 2 = 1
      · have hb' : E / 2 ^ k % 2 = 1 := by rw [← HBA.out]; exact hbit
        have HNX := Hid.mk (HOD.out hb')
        have u1 : (qd : Int) % 2 = 1 := by omega
        have u2 : (qd : Int).tmod 2 = 1 := by rw [Int.tmod_eq_emod_of_nonneg (by omega)]; omega
        obtain ⟨p2, hp22⟩ : ∃ p2, p * p % M = p2 := ⟨_, rfl⟩
        rw [hp22] at HR5 hp2 HNX
        clear hb' hbit hp22
        go_wp2_with fail
        refine (HML.out _ _ _ p2 (A % M) HR5.out HX5.out hp2 HAM.out).mono ?_
        rintro e w6 ⟨v6, rfl, hr6, hb6⟩
        have hbl6 : Below W.heap.size W w6 := bthen hbl5 hb6
        have HR6 := Hid.mk hr6
        have HX6 := Hid.mk (HX5.out.blk hb6)
        clear hr6 hb6 cE5
        go_wp2_with fail
        refine (HDM.out _ _ p2 (A % M) HR6.out (HMZ.out _ hbl6) hp2 HAM.out).mono ?_
        rintro e w7 ⟨q7, r7, rfl, hq7, hr7, hb7⟩
        have hbl7 : Below W.heap.size W w7 := bthen hbl6 hb7
        rw [HNX.out] at hr7
        have HR7 := Hid.mk hr7
        have HX7 := Hid.mk (HX6.out.blk hb7)
        have HI1 : Hid (n - k = i + 1) := hi1
        clear hq7 hr7 hb7 hi1 hkk
        go_wp2
        go_roundw
        case rel => exact ⟨k, by omega, by go_num, by rw [HI1.out]; exact HR7.out, HX7.out, hbl7⟩
        case measure => simp [intOf]
      · have hb0 : qd % 2 = 0 := by omega
        have hb' : E / 2 ^ k % 2 = 0 := by rw [← HBA.out]; exact hb0
        have hnx := HEV.out hb'
        rw [hnx] at HR5
        have u1 : (qd : Int) % 2 = 0 := by omega
        have u2 : (qd : Int).tmod 2 = 0 := by rw [Int.tmod_eq_emod_of_nonneg (by omega)]; omega
        have HI1 : Hid (n - k = i + 1) := hi1
        clear hb' hbit hb0 hnx hi1 hkk
        go_wp2
        go_roundw
        case rel => exact ⟨k, by omega, by go_num, by rw [HI1.out]; exact HR5.out, HX5.out, hbl5⟩
        case measure => simp [intOf]
end Go.Proofs.YtlcjagkfeakinaaGreatDoor.N

/- The document's own Block and Verify. -/
namespace Go.Proofs.YtlcjagkfeakinaaGreatDoor
set_option linter.unusedVariables false
open Go.RowKit

/-- so many bytes FF behind 00 01. -/
def ffB (c : Nat) : ByteArray := (⟨#[0, 1]⟩ : ByteArray) ++ ⟨(Lib.repeatL [255] c).toArray⟩
theorem ffB_size (c : Nat) : (ffB c).size = 2 + c := by
  unfold ffB
  rw [ByteArray.size_append]
  show 2 + (Lib.repeatL [255] c).length = 2 + c
  rw [rep_len]
theorem rep_snoc : ∀ c, Lib.repeatL [255] c ++ [255] = Lib.repeatL [255] (c + 1)
  | 0 => rfl
  | c + 1 => by
    show ([255] ++ Lib.repeatL [255] c) ++ [255] = [255] ++ Lib.repeatL [255] (c + 1)
    rw [List.append_assoc, rep_snoc c]
theorem ffB_snoc (c : Nat) : ffB c ++ (⟨#[255]⟩ : ByteArray) = ffB (c + 1) := by
  apply ba_ext
  unfold ffB
  rw [app_list, app_list, app_list]
  show (_ ++ Lib.repeatL [255] c) ++ [255] = _ ++ Lib.repeatL [255] (c + 1)
  rw [List.append_assoc, rep_snoc c]
/-- how long a text is. -/
def strSz : Value → Nat
  | .string s => s.size
  | _ => 0
set_option maxRecDepth 100000 in
theorem block_in (text Z : ByteArray) (hZ : Z.size = 32) (many : Nat) (h1 : 54 ≤ many) (h2 : many ≤ 1000) (HS : Hid (∀ W, Calls Tryz.prog 38 #[.string text] W fun e w' => e = .returned (.string Z) ∧ Below W.heap.size W w')) (W : World) :
    Calls Tryz.prog 48 #[.string text, .int .i64 (many : Int)] W fun e w' => e = .returned (.string (padB Z many)) ∧ Below W.heap.size W w' := by
  have hT : (shaH ++ Z).size = 52 := by rw [ByteArray.size_append, hZ]; rfl
  have z1 : ¬ (9223372036854775807 < shaH.size + Z.size) := by rw [hZ]; decide
  have hp : padB Z many = ffB (many - 54) ++ (shaH ++ Z) := by
    unfold padB ffB
    rw [hZ, show many - 2 - (20 + 32) = many - 54 by omega]
  rw [hp]
  clear hp
  go_enter Tryz.func48, Tryz.ntmps48
  go_wp2_with fail
  refine (HS.out _).mono ?_
  rintro e w1 ⟨rfl, hb1⟩
  go_wp2
  go_loopw [5] (fun sv wr => ∃ c, c ≤ many - 54 ∧ sv = .string (ffB c) ∧ wr = w1) (fun sv _ => many - strSz sv)
  case atStart => exact ⟨0, Nat.zero_le _, rfl, rfl⟩
  case round =>
    obtain ⟨c, hc, rfl, rfl⟩ := hrel
    have hF := ffB_size c
    have hsn := Hid.mk (ffB_snoc c)
    have hsz := Hid.mk (ffB_size (c + 1))
    by_cases hlt : c < many - 54
    · generalize ffB (c + 1) = F' at hsn hsz
      have HQ : Hid (∃ q, q ≤ many - 54 ∧ F' = ffB q) := ⟨c + 1, by omega, by rw [← hsn.out, ffB_snoc]⟩
      generalize ffB c = F at hF hsn ⊢
      have w1' : IntKind.i64.wrap ((F.size : Int) + 52) = (F.size : Int) + 52 := by rw [IntKind.wrap_i64]; omega
      have c1 : (F.size : Int) + 52 < (many : Int) := by omega
      have z2 : ¬ (9223372036854775807 < F.size + (⟨#[255]⟩ : ByteArray).size) := by show ¬ (9223372036854775807 < F.size + 1); omega
      have z2' : ¬ (9223372036854775807 < F.size + 1) := by omega
      have hF' := Hid.mk hF
      clear hF
      go_wp2
      rw [hsn.out]
      obtain ⟨q, hq, hqq⟩ := HQ.out
      refine ⟨⟨q, hq, by rw [hqq], trivial⟩, ?_⟩
      have := hF'.out
      have := hsz.out
      show many - F'.size < many - F.size
      omega
    · obtain rfl : c = many - 54 := by omega
      generalize hFe : ffB (many - 54) = F at hF ⊢
      have HFE := Hid.mk hFe
      have w1' : IntKind.i64.wrap ((F.size : Int) + 52) = (F.size : Int) + 52 := by rw [IntKind.wrap_i64]; omega
      have c1 : ¬ ((F.size : Int) + 52 < (many : Int)) := by omega
      have z3 : ¬ (9223372036854775807 < F.size + (shaH ++ Z).size) := by rw [hT]; omega
      have z3' : ¬ (9223372036854775807 < F.size + 52) := by omega
      clear hF hsn hsz hFe
      go_wp2
      go_ret
      exact ⟨by rw [HFE.out]; rfl, hb1⟩
set_option maxRecDepth 100000 in
set_option maxHeartbeats 1000000 in
theorem rverify_none (s text sign : ByteArray) (HR : Hid (∀ W, Calls Tryz.prog 19 #[.string s] W fun e w' => N.RrPost 0 0 false W e w')) (W : World) : Calls Tryz.prog 22 #[.string s, .string text, .string sign] W fun e w' => e = .returned (.bool false) ∧ Below W.heap.size W w' := by
  go_enter Tryz.func22, Tryz.ntmps22
  go_wp2_with fail
  refine (HR.out _).mono ?_
  rintro e w1 ⟨⟨v, u, rfl, _, _⟩, hb1⟩
  go_wp2
  go_ret
  exact ⟨rfl, hb1⟩
set_option maxRecDepth 100000 in
set_option maxHeartbeats 1000000 in
theorem rverify_some (s text sign Q : ByteArray) (E M S L : Nat) (HR : Hid (∀ W, Calls Tryz.prog 19 #[.string s] W fun e w' => N.RrPost E M true W e w')) (hE : E < N.Lim) (hM : M < N.Lim) (hM0 : M ≠ 0) (hL : N.nbl M = L) (hL2 : L ≤ 256) (hS : N.numB sign.data.toList = S) (hsb : sign.size ≤ 140737488351232) 
    (HB : Hid (∀ W, Calls Tryz.prog 48 #[.string text, .int .i64 (L : Int)] W fun e w' => e = .returned (.string Q) ∧ Below W.heap.size W w'))
    (W : World) : Calls Tryz.prog 22 #[.string s, .string text, .string sign] W fun e w' => e = .returned (.bool (decide (sign.size = L) && (decide (S < M) && decide ((⟨(N.bys (S ^ E % M) L).toArray⟩ : ByteArray) = Q)))) ∧ Below W.heap.size W w' := by
  have hm := N.mny_le M hM
  have he := N.mny_le E hE
  have HM := Hid.mk hm
  have HE := Hid.mk he
  have h4 := N.btl_le M hM
  have w1' : IntKind.i64.wrap ((N.btl M : Int) + 7) = (N.btl M : Int) + 7 := by rw [IntKind.wrap_i64]; omega
  have w2' : ((N.btl M : Int) + 7).tdiv 8 = (L : Int) := by rw [Int.tdiv_eq_ediv_of_nonneg (by omega)]; unfold N.nbl at hL; omega
  have w3' : IntKind.i64.wrap (L : Int) = (L : Int) := by rw [IntKind.wrap_i64]; omega
  obtain ⟨bt, hbt⟩ : ∃ bt, N.btl M = bt := ⟨_, rfl⟩
  have HBT := Hid.mk hbt
  rw [hbt] at w1' w2'
  clear hbt h4 hm he hL
  by_cases hsz : sign.size = L
  · have hsz' : ((sign.size : Int) != (L : Int)) = false := by simp [hsz]
    have hSl : S < N.Lim := by rw [← hS]; exact N.knum_lim _ (by rw [size_list]; omega)
    have HO := Hid.mk (N.rof_in sign hsb)
    rw [hS] at HO
    have LS := Hid.mk hSl
    by_cases hlt : S < M
    · have HC := Hid.mk (cmp_lt hlt)
      rw [show (decide (sign.size = L) && (decide (S < M) && decide ((⟨(N.bys (S ^ E % M) L).toArray⟩ : ByteArray) = Q))) = decide ((⟨(N.bys (S ^ E % M) L).toArray⟩ : ByteArray) = Q) by simp [hsz, hlt]]
      have HMS := Hid.mk (N.mny_le S hSl)
      have HM0 := Hid.mk hM0
      have HL2 := Hid.mk hL2
      obtain ⟨X, hX⟩ : ∃ X : ByteArray, (⟨(N.bys (S ^ E % M) L).toArray⟩ : ByteArray) = X := ⟨_, rfl⟩
      have HXE := Hid.mk hX
      rw [hX]
      clear hX hsz hlt hSl hS hM0 hL2
      go_enter Tryz.func22, Tryz.ntmps22
      go_wp2_with fail
      refine (HR.out _).mono ?_
      rintro e z1 ⟨⟨v, u, rfl, hv, hu⟩, hb1⟩
      have HV := Hid.mk hv
      have HU := Hid.mk hu
      clear hv hu
      go_wp2_with fail
      refine (N.rbits_in _ _ _ HU.out (by have := HM.out; omega)).mono ?_
      rintro e z2 ⟨rfl, rfl⟩
      rw [HBT.out]
      go_wp2_with fail
      refine (HO.out _).mono ?_
      rintro e z3 ⟨x, f, rfl, hx, _, hb3⟩
      obtain ⟨rfl, hx2⟩ := hx LS.out
      have HX := Hid.mk hx2
      have HV3 := Hid.mk (HV.out.blk hb3)
      have HU3 := Hid.mk (HU.out.blk hb3)
      have B3 := Hid.mk (bth hb1 hb3 hb1.size)
      clear hx hx2 hb3 hb1
      go_wp2_with fail
      refine (N.rcmp_in _ _ _ _ _ HX.out HU3.out).mono ?_
      rintro e z4 ⟨rfl, n, rfl⟩
      rw [HC.out]
      go_wp2_with fail
      refine (N.rpow_in _ _ _ _ S E M (HX.out.blk (N.below_dn _ n)) (HV3.out.blk (N.below_dn _ n)) (HU3.out.blk (N.below_dn _ n)) (by have := HMS.out; omega) (by have := HE.out; omega) (by have := HM.out; omega) HM0.out).mono ?_
      rintro e z5 ⟨p, rfl, hp, hb5⟩
      have HP := Hid.mk hp
      have B5 := Hid.mk (bth (bth B3.out (N.below_dn _ n) B3.out.size) hb5 (bth B3.out (N.below_dn _ n) B3.out.size).size)
      clear hp hb5
      go_wp2_with fail
      refine (N.rwide_in _ p _ L HP.out (by have := HL2.out; omega)).mono ?_
      rintro e z6 ⟨rfl, hb6⟩
      rw [HXE.out]
      have B6 := Hid.mk (bth B5.out hb6 B5.out.size)
      clear hb6
      go_wp2_with fail
      refine (HB.out _).mono ?_
      rintro e z7 ⟨rfl, hb7⟩
      have B7 := Hid.mk (bth B6.out hb7 B6.out.size)
      clear hb7
      go_wp2
      all_goals
        go_ret
        refine ⟨ret_dec ?_, B7.out⟩
        simp_all [toList_iff]
    · have HC : Hid (∃ q, N.cmpI S M = q ∧ 0 ≤ q) := ⟨_, rfl, cmp_ge hlt⟩
      rw [show (decide (sign.size = L) && (decide (S < M) && decide ((⟨(N.bys (S ^ E % M) L).toArray⟩ : ByteArray) = Q))) = false by simp [hlt]]
      obtain ⟨q, hq, hq0⟩ := HC
      have HC := Hid.mk hq
      clear hq hsz hlt hSl hS hM0 hL2
      go_enter Tryz.func22, Tryz.ntmps22
      go_wp2_with fail
      refine (HR.out _).mono ?_
      rintro e z1 ⟨⟨v, u, rfl, hv, hu⟩, hb1⟩
      have HV := Hid.mk hv
      have HU := Hid.mk hu
      clear hv hu
      go_wp2_with fail
      refine (N.rbits_in _ _ _ HU.out (by have := HM.out; omega)).mono ?_
      rintro e z2 ⟨rfl, rfl⟩
      rw [HBT.out]
      go_wp2_with fail
      refine (HO.out _).mono ?_
      rintro e z3 ⟨x, f, rfl, hx, _, hb3⟩
      obtain ⟨rfl, hx2⟩ := hx LS.out
      have HX := Hid.mk hx2
      have HV3 := Hid.mk (HV.out.blk hb3)
      have HU3 := Hid.mk (HU.out.blk hb3)
      have B3 := Hid.mk (bth hb1 hb3 hb1.size)
      clear hx hx2 hb3 hb1
      go_wp2_with fail
      refine (N.rcmp_in _ _ _ _ _ HX.out HU3.out).mono ?_
      rintro e z4 ⟨rfl, n, rfl⟩
      rw [HC.out]
      go_wp2
      go_ret
      exact ⟨rfl, bth B3.out (N.below_dn _ n) B3.out.size⟩
  · have hsz' : ((sign.size : Int) != (L : Int)) = true := by simp; omega
    rw [show (decide (sign.size = L) && (decide (S < M) && decide ((⟨(N.bys (S ^ E % M) L).toArray⟩ : ByteArray) = Q))) = false by simp [hsz]]
    clear hsz hS hM0 hL2
    go_enter Tryz.func22, Tryz.ntmps22
    go_wp2_with fail
    refine (HR.out _).mono ?_
    rintro e z1 ⟨⟨v, u, rfl, hv, hu⟩, hb1⟩
    have HV := Hid.mk hv
    have HU := Hid.mk hu
    clear hv hu
    go_wp2_with fail
    refine (N.rbits_in _ _ _ HU.out (by have := HM.out; omega)).mono ?_
    rintro e z2 ⟨rfl, rfl⟩
    rw [HBT.out]
    go_wp2
    go_ret
    exact ⟨rfl, hb1⟩
theorem rverify_in (s text sign : ByteArray) (hs : s.size ≤ 140737488351232) (ht : text.size ≤ 140737488351232) (hg : sign.size ≤ 140737488351232) (W : World) : Calls Tryz.prog 22 #[.string s, .string text, .string sign] W fun e w' => e = .returned (.bool (vfyR s text sign)) ∧ Below W.heap.size W w' := by
  have HR := Hid.mk (fun W => N.rrsa_in s hs W)
  unfold vfyR
  cases hr : N.rsaR s with
  | none =>
    rw [hr] at HR
    exact rverify_none s text sign HR W
  | some p =>
    obtain ⟨E, M⟩ := p
    obtain ⟨h0, h1, h2, hE, hM⟩ := rsa_some hr
    rw [hr] at HR
    have hL1 : 54 ≤ N.nbl M := by unfold N.nbl; omega
    have hL2 : N.nbl M ≤ 256 := by unfold N.nbl; omega
    have := rverify_some s text sign _ E M _ _ HR hE hM h0 rfl hL2 rfl hg (Hid.mk (block_in text ⟨(G.sha2 text.data.toList).toArray⟩ (G.sha2_len _) (N.nbl M) hL1 (by omega) (Hid.mk fun W => G.rsum2_in text ht W))) W
    refine this.mono ?_
    rintro e w' ⟨rfl, hb⟩
    refine ⟨?_, hb⟩
    congr 2
    by_cases hz : sign.size = N.nbl M
    · simp only [hz, decide_true, Bool.true_and]
      unfold opnR
      by_cases hlt : N.numB sign.data.toList < M
      · rw [if_pos hlt, hz]
        simp [hlt]
      · rw [if_neg hlt]
        simp [hlt]
    · simp [hz]
end Go.Proofs.YtlcjagkfeakinaaGreatDoor
