/- Texts of this proof, joined: NR11, NR12, NR13, NR14. -/
import Derived.Test.YtpimliebiapnfaaGreatDoorJ19
/- The document's down. -/
namespace Go.Proofs.YtpimliebiapnfaaGreatDoor.N
set_option linter.unusedVariables false
open Go.RowKit
theorem val_digits (l : List (BitVec 32)) (N : Nat) (h : ∀ j, j < l.length → (l[j]?.getD 0).toNat = N / 4294967296 ^ j % 4294967296) : ∀ k, k ≤ l.length → val (l.take k) = N % 4294967296 ^ k
  | 0, _ => by simp [val, Nat.mod_one]
  | k + 1, hk => by
    rw [val_take_succ l k (by omega), val_digits l N h k (by omega), h k (by omega), Nat.pow_succ, Nat.mod_mul]
theorem down_digit (A s r j : Nat) (hs : s * r = 4294967296) : (A / s) / 4294967296 ^ j % 4294967296 = (A / 4294967296 ^ j % 4294967296 + 4294967296 * (A / 4294967296 ^ (j + 1) % 4294967296)) / s % 4294967296 := by
  have hs0 : 0 < s := Nat.pos_of_ne_zero fun h => by rw [h] at hs; omega
  have hr0 : 0 < r := Nat.pos_of_ne_zero fun h => by rw [h] at hs; omega
  rw [Nat.div_div_eq_div_mul, Nat.mul_comm s, ← Nat.div_div_eq_div_mul, Nat.pow_succ, ← Nat.div_div_eq_div_mul]
  generalize A / 4294967296 ^ j = D
  have e : D % 4294967296 + 4294967296 * (D / 4294967296 % 4294967296) = D % (4294967296 * 4294967296) := by rw [Nat.mod_mul]
  rw [e, ← hs]
  have e2 : s * r * (s * r) = s * ((s * r) * r) := by rw [Nat.mul_assoc, Nat.mul_left_comm r, Nat.mul_assoc]
  rw [e2, Nat.mod_mul_right_div_self, Nat.mod_mul_right_mod]
set_option maxRecDepth 100000 in
set_option maxHeartbeats 1000000 in
theorem rdown_go (W : World) (p : Option Addr) (cp : Nat) (xs : List (BitVec 32)) (a k : Nat) (ha : xs.length = a) (ha1 : a ≤ 100000) (hk : k < 32) (hX : Rd W p xs) : Calls Tryz.prog 97 #[.slice p a cp, .int .i64 (k : Int)] W fun e w' => ∃ v, e = .returned v ∧ RN w' v (val xs / 2 ^ k) ∧ Below W.heap.size W w' := by
  obtain ⟨i0, hi, hz0, hz1, hz2⟩ := info_of info24
  have HX := Hid.mk hX
  have HA := Hid.mk ha
  obtain ⟨s, hs⟩ : ∃ s, 2 ^ k = s := ⟨_, rfl⟩
  have hs0 : 0 < s := by rw [← hs]; exact Nat.two_pow_pos k
  have hsr : s * 2 ^ (32 - k) = 4294967296 := by rw [← hs, ← Nat.pow_add, show k + (32 - k) = 32 by omega]
  have HDD : Hid (∀ A j, (A / s) / 4294967296 ^ j % 4294967296 = (A / 4294967296 ^ j % 4294967296 + 4294967296 * (A / 4294967296 ^ (j + 1) % 4294967296)) / s % 4294967296) := fun A j => down_digit A s _ j hsr
  obtain ⟨N, hN⟩ : ∃ N, val xs / s = N := ⟨_, rfl⟩
  have HDG : Hid (∀ j, j < a → N / 4294967296 ^ j % 4294967296 = ((xs[j]?.getD 0).toNat + 4294967296 * (xs[j + 1]?.getD 0).toNat) / s % 4294967296) := fun j hj => by
    rw [← hN, HDD.out, dig_of xs j (by omega)]
    by_cases h : j + 1 < xs.length
    · rw [dig_of xs (j + 1) h]
    · have hq : val xs / 4294967296 ^ (j + 1) = 0 := Nat.div_eq_of_lt (Nat.lt_of_lt_of_le (val_lt xs) (Nat.pow_le_pow_right (by omega) (by omega)))
      rw [dig_none xs (j + 1) h, hq]
  have HNL : Hid (N < 4294967296 ^ a) := by
    rw [Hid, ← hN, ← ha]
    exact Nat.lt_of_le_of_lt (Nat.div_le_self _ _) (val_lt xs)
  rw [hs, hN]
  have hsk : ∀ v : Nat, (v : Int) / 2 ^ k = ((v / s : Nat) : Int) := fun v => by rw [← hs, Int.natCast_ediv, Int.natCast_pow]; rfl
  have HSK := Hid.mk hsk
  have ha0 : (0 : Int) ≤ (a : Int) := by omega
  have kt : ((k : Int)).toNat = k := by omega
  have k0 : (0 : Int) ≤ (k : Int) := by omega
  have k1 : (k : Int) < 64 := by omega
  have hs1 : 1 ≤ s := hs0
  clear hX ha hs hN hsr HDD hsk hs0
  go_enter Tryz.func97, Tryz.ntmps97
  go_wp2_with (at_make; refine wpList_make_full _ rfl _ _ 45 rfl W.heap.size 35 i0 (.int .u32 0) 1 Tryz.underlying45 hi hz0 hz1 _ _ _ _ a rfl rfl rfl rfl (by rw [hz2]; omega) (by unfold maxLen; omega) (Nat.le_refl _) ?_; intro w2 hown2 hgrow2)
  have B2 : Below W.heap.size W w2 := (Below.refl _ _).grown hgrow2 (Nat.le_refl _) (by simp)
  rw [made_noughts] at hown2
  have HO2 := Hid.mk hown2
  clear hown2 hgrow2
  obtain ⟨g0, hg0⟩ : ∃ g0, W.heap.size = g0 := ⟨_, rfl⟩
  rw [hg0] at HO2 ⊢
  have HG0 := Hid.mk hg0
  clear hg0
  go_wp2_with fail
  go_loopw [6] (fun iv wr => ∃ (i : Nat) (zs : List (BitVec 32)), i ≤ a ∧ iv = .int .i64 (i : Int) ∧ Hid (zs.length = a) ∧ Hid (∀ j, j < i → (zs[j]?.getD 0).toNat = N / 4294967296 ^ j % 4294967296) ∧ wr.ownsRow g0 35 1 (.slice (some ⟨g0, 0, none⟩) a a) a (wl zs) ∧ Below W.heap.size W wr) (fun iv _ => a - (intOf iv).toNat)
  case atStart => exact ⟨0, List.replicate a 0, by omega, rfl, by simp [Hid], fun j hj => absurd hj (by omega), HO2.out, B2⟩
  case round =>
    obtain ⟨i, zs, hia, rfl, HZL, HZV, hown, hbl⟩ := hrel
    have HO := Hid.mk hown
    clear HO2 B2
    by_cases hlt : i < a
    · obtain ⟨g, rfl, hg, hcx⟩ := HX.out i (by rw [HA.out]; exact hlt)
      have c1 : wr.cell? ⟨g, i, none⟩ = _ := (hbl.cell (p := ⟨g, i, none⟩) hg).trans hcx
      have hd := HDG.out i hlt
      have hxl := bv_lt (xs[i]?.getD 0)
      have hyl := bv_lt (xs[i + 1]?.getD 0)
      have c3 : wr.cell? ⟨g0, i, none⟩ = some (.int .u32 ((zs[i]?.getD 0).toNat : Int)) := by
        have := hown.cellAt i (by omega)
        rw [wl_at zs i (by rw [HZL.out]; exact hlt)] at this
        exact this
      have f3 : wr.frozen? ⟨g0, i, none⟩ = false := hown.frozenAt i
      have i1 : (i : Int) < (a : Int) := by omega
      have i0' : (0 : Int) ≤ (i : Int) := by omega
      have i2 : (i : Int) ≤ 100000 := by omega
      have HFIN : Hid (∀ z : BitVec 32, z.toNat = N / 4294967296 ^ i % 4294967296 → (zs.set i z).length = a ∧ ∀ j, j < i + 1 → ((zs.set i z)[j]?.getD 0).toNat = N / 4294967296 ^ j % 4294967296) := fun z hz => by
        refine ⟨by rw [List.length_set, HZL.out], fun j hj => ?_⟩
        by_cases e : j = i
        · subst e
          rw [List.getElem?_set_self (by rw [HZL.out]; exact hlt)]
          exact hz
        · rw [set_other zs i j z e]
          exact HZV.out j (by omega)
      by_cases hnx : i + 1 < a
      · obtain ⟨g2, hge, hg2, hcy⟩ := HX.out (i + 1) (by rw [HA.out]; exact hnx)
        obtain rfl : g = g2 := by simpa using hge
        have c2 : wr.cell? ⟨g, i + 1, none⟩ = _ := (hbl.cell (p := ⟨g, i + 1, none⟩) hg2).trans hcy
        generalize (xs[i]?.getD 0).toNat = x at *
        generalize (xs[i + 1]?.getD 0).toNat = y at *
        obtain ⟨t, ht⟩ : ∃ t, x + 4294967296 * y = t := ⟨_, rfl⟩
        obtain ⟨u, hu⟩ : ∃ u, t / s = u := ⟨_, rfl⟩
        have hut : u ≤ t := by rw [← hu]; exact Nat.div_le_self _ _
        obtain ⟨z, hz⟩ : ∃ z : BitVec 32, z.toNat = u % 4294967296 := ⟨BitVec.ofNat 32 (u % 4294967296), by rw [bv_of]; omega⟩
        rw [ht, hu, ← hz] at hd
        obtain ⟨hf1, hf2⟩ := HFIN.out z hd.symm
        have HF1 := Hid.mk hf1
        have HF2 := Hid.mk hf2
        have hdv := HSK.out t
        rw [hu] at hdv
        have e1 : (x : Int) + (y : Int) * 4294967296 = (t : Int) := by omega
        have e2 : IntKind.u64.wrap ((y : Int) * 4294967296) = (y : Int) * 4294967296 := by rw [IntKind.wrap_u64]; omega
        have e3 : IntKind.u64.wrap (t : Int) = (t : Int) := by rw [IntKind.wrap_u64]; omega
        have w1 : IntKind.u64.wrap (x : Int) = (x : Int) := by rw [IntKind.wrap_u64]; omega
        have w2 : IntKind.u64.wrap (y : Int) = (y : Int) := by rw [IntKind.wrap_u64]; omega
        have w3 : IntKind.u64.wrap (u : Int) = (u : Int) := by rw [IntKind.wrap_u64]; omega
        have t1 : (u : Int) % 4294967296 = (z.toNat : Int) := by omega
        have t2 : (u : Int).tmod 4294967296 = (z.toNat : Int) := by rw [Int.tmod_eq_emod_of_nonneg (by omega)]; omega
        have t5 : IntKind.u32.wrap (z.toNat : Int) = (z.toNat : Int) := by rw [IntKind.wrap_u32]; have := bv_lt z; omega
        have t6 : (z.toNat : Int) % 4294967296 = (z.toNat : Int) := by have := bv_lt z; omega
        have t7 : IntKind.u64.wrap (z.toNat : Int) = (z.toNat : Int) := by rw [IntKind.wrap_u64]; have := bv_lt z; omega
        have i3 : (i : Int) + 1 < (a : Int) := by omega
        have i4 : ((i : Int) + 1).toNat = i + 1 := by omega
        clear hz hd ht hu hf1 hf2 hcx hcy hown hge hut
        go_wp2
        go_roundw
        case rel =>
          obtain ⟨h1, h2⟩ := HO.out.stored i (.int .u32 (z.toNat : Int))
          rw [wl_set] at h1
          exact ⟨i + 1, zs.set i z, by omega, by go_num, HF1, HF2, h1, (hbl.grown h2 (Nat.le_trans hbl.size (Nat.le_refl _)) (fun k hk => by cases hk; rw [HG0.out]; exact Nat.le_refl _))⟩
        case measure => simp [intOf]; omega
      · rw [dig_none xs (i + 1) (by rw [HA.out]; exact hnx), Nat.mul_zero, Nat.add_zero] at hd
        generalize (xs[i]?.getD 0).toNat = x at *
        obtain ⟨u, hu⟩ : ∃ u, x / s = u := ⟨_, rfl⟩
        have hut : u ≤ x := by rw [← hu]; exact Nat.div_le_self _ _
        obtain ⟨z, hz⟩ : ∃ z : BitVec 32, z.toNat = u % 4294967296 := ⟨BitVec.ofNat 32 (u % 4294967296), by rw [bv_of]; omega⟩
        rw [hu, ← hz] at hd
        obtain ⟨hf1, hf2⟩ := HFIN.out z hd.symm
        have HF1 := Hid.mk hf1
        have HF2 := Hid.mk hf2
        have hdv := HSK.out x
        rw [hu] at hdv
        have w1 : IntKind.u64.wrap (x : Int) = (x : Int) := by rw [IntKind.wrap_u64]; omega
        have w3 : IntKind.u64.wrap (u : Int) = (u : Int) := by rw [IntKind.wrap_u64]; omega
        have t1 : (u : Int) % 4294967296 = (z.toNat : Int) := by omega
        have t2 : (u : Int).tmod 4294967296 = (z.toNat : Int) := by rw [Int.tmod_eq_emod_of_nonneg (by omega)]; omega
        have t5 : IntKind.u32.wrap (z.toNat : Int) = (z.toNat : Int) := by rw [IntKind.wrap_u32]; have := bv_lt z; omega
        have t6 : (z.toNat : Int) % 4294967296 = (z.toNat : Int) := by have := bv_lt z; omega
        have t7 : IntKind.u64.wrap (z.toNat : Int) = (z.toNat : Int) := by rw [IntKind.wrap_u64]; have := bv_lt z; omega
        have i3 : ¬ ((i : Int) + 1 < (a : Int)) := by omega
        have i4 : (a : Int) ≤ (i : Int) + 1 := by omega
        clear hz hd hu hf1 hf2 hcx hown hut
        go_wp2
        go_roundw
        case rel =>
          obtain ⟨h1, h2⟩ := HO.out.stored i (.int .u32 (z.toNat : Int))
          rw [wl_set] at h1
          exact ⟨i + 1, zs.set i z, by omega, by go_num, HF1, HF2, h1, (hbl.grown h2 (Nat.le_trans hbl.size (Nat.le_refl _)) (fun k hk => by cases hk; rw [HG0.out]; exact Nat.le_refl _))⟩
        case measure => simp [intOf]; omega
    · obtain rfl : i = a := by omega
      have i1 : ¬ ((i : Int) < (i : Int)) := by omega
      have HE : Hid (val zs = N) := by
        have h := val_digits zs N (fun j hj => HZV.out j (by rw [← HZL.out]; exact hj)) i (by rw [HZL.out]; omega)
        rw [take_all zs i (by rw [HZL.out]; omega), Nat.mod_eq_of_lt HNL.out] at h
        exact h
      clear hown
      go_wp2_with fail
      refine (rtrim_in _ _ zs (Rw.of HO.out HZL.out)).mono ?_
      rintro e w1 ⟨v1, rfl, hr1, rfl⟩
      rw [HE.out] at hr1
      have HR1 := Hid.mk hr1
      clear hr1
      go_wp2
      go_ret
      exact ⟨_, rfl, HR1.out, hbl⟩
theorem rdown_in (W : World) (v : Value) (A k : Nat) (hA : RN W v A) (ha : mny A ≤ 100000) (hk : k < 32) : Calls Tryz.prog 97 #[v, .int .i64 (k : Int)] W fun e w' => ∃ v, e = .returned v ∧ RN w' v (A / 2 ^ k) ∧ Below W.heap.size W w' := by
  obtain ⟨xs, hx, rfl, tx⟩ := hA
  obtain ⟨p, c, rfl, hp⟩ := hx.read
  rw [← tx.many] at ha
  exact rdown_go W p c xs _ k rfl ha hk hp
end Go.Proofs.YtpimliebiapnfaaGreatDoor.N
/- The document's Div. -/
namespace Go.Proofs.YtpimliebiapnfaaGreatDoor.N
set_option linter.unusedVariables false
open Go.RowKit
theorem below_drew {w w' : World} (h : ∃ n, w' = w.drewN n) : Below w.heap.size w w' := by
  obtain ⟨n, rfl⟩ := h
  exact below_dn w n
theorem own_blk {w w' : World} {base n : Nat} {v : Value} {xs : List Value} (hb : Below w.heap.size w w') (h : w.ownsRow base 35 1 v n xs) : w'.ownsRow base 35 1 v n xs := by
  obtain ⟨h1, ⟨h2, h3⟩ | ⟨g, cap, cur, h2, h3, h4, h5, h6, h7, h8⟩⟩ := h
  · exact ⟨h1, .inl ⟨h2, h3⟩⟩
  · exact ⟨h1, .inr ⟨g, cap, cur, h2, h3, blk hb h4, h5, h6, h7, h8⟩⟩
theorem RN.open {w : World} {v : Value} {N : Nat} (h : RN w v N) (h0 : N ≠ 0) : ∃ g cap ds, v = .slice (some ⟨g, 0, none⟩) (mny N) cap ∧ g < w.heap.size ∧ ds.length = mny N ∧ val ds = N ∧ ∀ j, j < mny N → w.cell? ⟨g, j, none⟩ = some (.int .u32 ((ds[j]?.getD 0).toNat : Int)) := by
  obtain ⟨ds, hr, rfl, ht⟩ := h
  rcases hr.view with ⟨rfl, rfl⟩ | ⟨g, cap, rfl, hc, hm, hg, hcell, -⟩
  · exact absurd rfl h0
  · rw [← ht.many]
    exact ⟨g, cap, ds, rfl, hg, rfl, rfl, hcell⟩
theorem Rw.two (w : World) (z y : BitVec 32) : Rw (w.alloc (.cells #[.int .u32 (z.toNat : Int), .int .u32 (y.toNat : Int)] 35)) (.slice (some ⟨w.heap.size, 0, none⟩) 2 2) [z, y] :=
  ⟨rfl, .inr ⟨w.heap.size, 2, #[.int .u32 (z.toNat : Int), .int .u32 (y.toNat : Int)], rfl, Nat.zero_le _, heap_new _ _, Nat.le_refl _, by unfold maxLen; omega, rfl, rfl⟩⟩
theorem high_step (X D b P : Nat) (hD : 0 < D) (hP : 0 < P) : (X / (P * 4294967296)) % D * 4294967296 + X / P % 4294967296 < D * 4294967296 ∧ X / P / D = X / (P * 4294967296) / D * 4294967296 + ((X / (P * 4294967296)) % D * 4294967296 + X / P % 4294967296) / D ∧ X / P % D = ((X / (P * 4294967296)) % D * 4294967296 + X / P % 4294967296) % D := by
  rw [← Nat.div_div_eq_div_mul]
  generalize X / P = Y
  have e := Nat.div_add_mod Y 4294967296
  have l := Nat.mod_lt Y (show 0 < 4294967296 by omega)
  generalize Y / 4294967296 = H at *
  generalize Y % 4294967296 = x at *
  have eH := Nat.div_add_mod H D
  have lH := Nat.mod_lt H hD
  generalize H / D = Q at *
  generalize H % D = r at *
  have hY : Y = r * 4294967296 + x + D * (Q * 4294967296) := by
    have : D * (Q * 4294967296) = D * Q * 4294967296 := (Nat.mul_assoc _ _ _).symm
    rw [this, ← e, ← eH]
    omega
  refine ⟨?_, ?_, ?_⟩
  · have : (r + 1) * 4294967296 ≤ D * 4294967296 := Nat.mul_le_mul_right _ lH
    omega
  · rw [hY, Nat.add_mul_div_left _ _ hD, Nat.add_comm]
  · rw [hY, Nat.add_mul_mod_self_left]
theorem pow_shift (i Q : Nat) : 4294967296 ^ (i + 1) * Q = 4294967296 ^ i * (Q * 4294967296) := by rw [Nat.pow_succ, Nat.mul_assoc, Nat.mul_comm 4294967296 Q]
theorem pow_shift0 (i Q : Nat) : 4294967296 ^ (i + 1) * Q = 4294967296 ^ i * (Q * 4294967296 + 0) := (pow_shift i Q).trans (by simp only [Nat.add_zero])
theorem low_guess (R D P bt : Nat) (hP : 0 < P) (hD : D < (bt + 1) * P) : R / P / (bt + 1) * D ≤ R := by
  have h1 : R / P / (bt + 1) * D ≤ R / P / (bt + 1) * ((bt + 1) * P) := Nat.mul_le_mul_left _ (Nat.le_of_lt hD)
  have h2 : R / P / (bt + 1) * ((bt + 1) * P) = R / P / (bt + 1) * (bt + 1) * P := (Nat.mul_assoc _ _ _).symm
  have h3 : R / P / (bt + 1) * (bt + 1) ≤ R / P := Nat.div_mul_le_self _ _
  have h4 : R / P / (bt + 1) * (bt + 1) * P ≤ R / P * P := Nat.mul_le_mul_right _ h3
  have h5 : R / P * P ≤ R := Nat.div_mul_le_self _ _
  omega
theorem shift_of (B : Nat) (h0 : B ≠ 0) : ∃ sh, sh < 32 ∧ 32 * mny B = btl B + sh := by
  unfold mny btl
  rw [if_neg h0, if_neg h0]
  exact ⟨32 * (Nat.log2 B / 32 + 1) - (Nat.log2 B + 1), by omega, by omega⟩
theorem mny_mul_pow (A k n : Nat) (hk : k < 32) (h : mny A ≤ n) : mny (A * 2 ^ k) ≤ n + 1 := by
  by_cases h0 : A * 2 ^ k = 0
  · rw [h0]; exact Nat.zero_le _
  · have h1 := (mny_ge _ h0).2
    have h2 := mny_lt A
    have h3 : 2 ^ k ≤ 4294967296 := Nat.pow_le_pow_right (n := 2) (by omega) (show k ≤ 32 by omega)
    have h4 : A * 2 ^ k < 4294967296 ^ (n + 1) := by
      have a1 : 4294967296 ^ mny A ≤ 4294967296 ^ n := Nat.pow_le_pow_right (by omega) h
      have a2 : A * 2 ^ k ≤ A * 4294967296 := Nat.mul_le_mul_left _ h3
      have a3 : (A + 1) * 4294967296 ≤ 4294967296 ^ n * 4294967296 := Nat.mul_le_mul_right _ (by omega)
      rw [Nat.pow_succ]
      omega
    apply Classical.byContradiction
    intro hn
    have h5 : 4294967296 ^ (n + 1) ≤ 4294967296 ^ (mny (A * 2 ^ k) - 1) := Nat.pow_le_pow_right (by omega) (by omega)
    omega
theorem rest_many (R D : Nat) (h1 : D ≤ R) (h2 : R < D * 4294967296) (h0 : D ≠ 0) : mny R = mny D ∨ mny R = mny D + 1 := by
  have a := mny_mono D R h1
  have hR : R ≠ 0 := by omega
  have b := (mny_ge R hR).2
  have c := mny_lt D
  have d : R < 4294967296 ^ (mny D + 1) := by
    rw [Nat.pow_succ]
    have h7 : D + 1 ≤ 4294967296 ^ mny D := by omega
    have h6 := Nat.mul_le_mul_right 4294967296 h7
    exact Nat.lt_of_lt_of_le h2 (Nat.le_trans (Nat.mul_le_mul_right 4294967296 (Nat.le_succ D)) h6)
  have e : ¬ mny D + 2 ≤ mny R := fun h => by
    have : 4294967296 ^ (mny D + 1) ≤ 4294967296 ^ (mny R - 1) := Nat.pow_le_pow_right (by omega) (by omega)
    omega
  omega
theorem top_one (ds : List (BitVec 32)) (n : Nat) (hl : ds.length = n + 1) : val ds / 4294967296 ^ n = (ds[n]?.getD 0).toNat := by
  have h := val_cut ds n (by omega)
  have hl2 := val_lt (ds.take n)
  rw [List.length_take, Nat.min_eq_left (by omega)] at hl2
  rw [List.drop_of_length_le (by omega)] at h
  rw [h, Nat.add_mul_div_left _ _ (Nat.pow_pos (by omega)), Nat.div_eq_of_lt hl2]
  simp [val]
theorem top_two (ds : List (BitVec 32)) (n : Nat) (hl : ds.length = n + 2) : val ds / 4294967296 ^ n = (ds[n + 1]?.getD 0).toNat * 4294967296 + (ds[n]?.getD 0).toNat := by
  have h := val_cut ds n (by omega)
  have hl2 := val_lt (ds.take n)
  rw [List.length_take, Nat.min_eq_left (by omega)] at hl2
  have h4 : ds.drop (n + 1) = [ds[n + 1]?.getD 0] := by
    rw [List.drop_eq_getElem_cons (by omega), List.drop_of_length_le (by omega), List.getElem?_eq_getElem (by omega)]
    rfl
  rw [h4, val_one] at h
  rw [h, Nat.add_mul_div_left _ _ (Nat.pow_pos (by omega)), Nat.div_eq_of_lt hl2]
  omega
end Go.Proofs.YtpimliebiapnfaaGreatDoor.N
/- The document's Div: the walk. -/
namespace Go.Proofs.YtpimliebiapnfaaGreatDoor.N
set_option linter.unusedVariables false
open Go.RowKit
set_option maxRecDepth 100000 in
set_option maxHeartbeats 4000000 in
theorem rdiv_in (W : World) (v u : Value) (A B : Nat) (hA : RN W v A) (hB : RN W u B) (ha : mny A ≤ 90000) (hb : mny B ≤ 90000) (hB0 : B ≠ 0) : Calls Tryz.prog 74 #[v, u] W fun e w' => ∃ q r, e = .returned (.tuple #[q, r]) ∧ RN w' q (A / B) ∧ RN w' r (A % B) ∧ Below W.heap.size W w' := by
  obtain ⟨i0, hi, hz0, hz1, hz2⟩ := info_of info24
  obtain ⟨sh, hsh, hshB⟩ := shift_of B hB0
  have HBT := Hid.mk (rbits_in W u B hB (by omega))
  have HUA := Hid.mk (rup_in W v A sh hA (by omega) hsh)
  have HUB : Hid (∀ W', RN W' u B → Calls Tryz.prog 95 #[u, .int .i64 (sh : Int)] W' fun e w' => ∃ v, e = .returned v ∧ RN w' v (B * 2 ^ sh) ∧ Below W'.heap.size W' w') := fun W' h => rup_in W' u B sh h (by omega) hsh
  obtain ⟨s, hs⟩ : ∃ s, 2 ^ sh = s := ⟨_, rfl⟩
  have hs0 : 0 < s := by rw [← hs]; exact Nat.two_pow_pos sh
  have hXm := mny_mul_pow A sh 90000 hsh ha
  have hDm := mny_mul_pow B sh 90000 hsh hb
  rw [hs] at HUA HUB hXm hDm
  obtain ⟨sd1, sd2, sd3⟩ := shifted_div A B s hs0
  have hD0 : B * s ≠ 0 := Nat.mul_ne_zero hB0 (by omega)
  obtain ⟨X, hX⟩ : ∃ X, A * s = X := ⟨_, rfl⟩
  obtain ⟨D, hD⟩ : ∃ D, B * s = D := ⟨_, rfl⟩
  rw [hX] at HUA hXm sd1 sd2
  rw [hD] at HUB hDm hD0 sd1 sd2
  have HSD := Hid.mk (And.intro sd1 (And.intro sd2 sd3))
  have HS := Hid.mk hs
  have hDp : 0 < D := by omega
  obtain ⟨gu, cu, us, rfl, hgu, hul, huv, hcu⟩ := hB.open hB0
  obtain ⟨nB, hnB⟩ : ∃ nB, mny B = nB := ⟨_, rfl⟩
  rw [hnB] at hshB HBT HUB ⊢
  obtain ⟨bB, hbB⟩ : ∃ bB, btl B = bB := ⟨_, rfl⟩
  rw [hbB] at hshB HBT
  have e1 : 32 * (nB : Int) - (bB : Int) = (sh : Int) := by omega
  have e2 : (nB : Int) ≤ 90000 := by omega
  have e3 : (0 : Int) ≤ (bB : Int) := by omega
  have e4 : (bB : Int) ≤ 32 * (nB : Int) := by omega
  rw [hnB] at hB
  have HB := Hid.mk hB
  clear hA hB hs hX hD sd1 sd2 sd3 hul huv hcu hnB hbB hgu
  go_enter Tryz.func74, Tryz.ntmps74
  go_wp2_with fail
  refine HBT.out.mono ?_
  rintro e w1 ⟨rfl, rfl⟩
  go_wp2_with fail
  refine HUA.out.mono ?_
  rintro e w2 ⟨v1, rfl, hx2, hb2⟩
  have HB2 := Hid.mk (HB.out.blk hb2)
  go_wp2_with fail
  refine (HUB.out _ HB2.out).mono ?_
  rintro e W2 ⟨u1, rfl, hd3, hb3⟩
  have hBW : Below w1.heap.size w1 W2 := bthen hb2 hb3
  have hX2 : RN W2 v1 X := hx2.blk hb3
  obtain ⟨gd, cd, ys, rfl, hgd, hyl, hyv, hcy⟩ := hd3.open hD0
  obtain ⟨xs, hxr, hxv, htx⟩ := hX2
  have hxm := htx.many
  obtain ⟨px, cx, rfl, hrd⟩ := hxr.read
  obtain ⟨n, hn⟩ : ∃ n, mny D = n + 1 := ⟨mny D - 1, by have := (mny_ge D hD0).1; omega⟩
  rw [hn] at hyl hcy hd3 hDm ⊢
  obtain ⟨m, hm⟩ : ∃ m, xs.length = m := ⟨_, rfl⟩
  have hm9 : m ≤ 90001 := by rw [← hm, hxm, hxv]; exact hXm
  rw [hm]
  -- what is known of the digits
  have HCB : Hid (∀ wr, Below W2.heap.size W2 wr → wr.cell? ⟨gd, n, none⟩ = some (.int .u32 ((ys[n]?.getD 0).toNat : Int))) := fun wr h => (h.cell (p := ⟨gd, n, none⟩) hgd).trans (hcy n (by omega))
  have HBTOP : Hid (D / 4294967296 ^ n = (ys[n]?.getD 0).toNat) := by rw [Hid, ← hyv]; exact top_one ys n hyl
  have hbtl := bv_lt (ys[n]?.getD 0)
  generalize (ys[n]?.getD 0).toNat = bt at *
  have HDB : Hid (D < (bt + 1) * 4294967296 ^ n) := by
    rw [Hid, ← HBTOP.out, Nat.mul_comm]
    exact Nat.lt_mul_div_succ D (Nat.pow_pos (by omega))
  have HXD : Hid (∀ i, i < m → (xs[i]?.getD 0).toNat = X / 4294967296 ^ i % 4294967296) := fun i hi => by rw [dig_of xs i (by omega), hxv]
  have HRD := Hid.mk hrd
  have HXL : Hid (X < 4294967296 ^ m) := by rw [Hid, ← hxv, ← hm]; exact val_lt xs
  have HD3 := Hid.mk hd3
  have HMX := Hid.mk hm
  have HBW := Hid.mk hBW
  have hsz : w1.heap.size ≤ W2.heap.size := hBW.size
  have f1 : (0 : Int) ≤ (m : Int) := by omega
  have f2 : (m : Int) ≤ 90001 := by omega
  have f3 : (n : Int) ≤ 90001 := by omega
  have f4 : (0 : Int) ≤ (n : Int) := by omega
  have HND : Hid (mny D = n + 1) := hn
  clear hx2 hb2 hb3 hd3 hyl hyv hcy hxr hxv htx hxm hrd hn hm hBW HB2 HUA HUB HBT hgd
  go_wp2_with (at_make; refine wpList_make_full _ rfl _ _ 45 rfl W2.heap.size 35 i0 (.int .u32 0) 1 Tryz.underlying45 hi hz0 hz1 _ _ _ _ m rfl rfl rfl rfl (by rw [hz2]; omega) (by unfold maxLen; omega) (Nat.le_refl _) ?_; intro w4 hown4 hgrow4)
  have B4 : Below W2.heap.size W2 w4 := (Below.refl _ _).grown hgrow4 (Nat.le_refl _) (by simp)
  rw [made_noughts] at hown4
  have HO4 := Hid.mk hown4
  clear hown4 hgrow4
  obtain ⟨g0, hg0⟩ : ∃ g0, W2.heap.size = g0 := ⟨_, rfl⟩
  rw [hg0] at HO4 ⊢
  have HG0 := Hid.mk hg0
  clear hg0
  go_wp2_with fail
  go_loopw [9, 10] (fun rv kv wr => ∃ (j : Nat) (zs : List (BitVec 32)), j ≤ m ∧ kv = .int .i64 ((j : Int) - 1) ∧ Hid (zs.length = m) ∧ Hid (val zs = 4294967296 ^ j * (X / 4294967296 ^ j / D)) ∧ Hid (∀ i, i < j → zs[i]?.getD 0 = 0) ∧ RN wr rv (X / 4294967296 ^ j % D) ∧ Hid (Fresh (g0 + 1) rv) ∧ wr.ownsRow g0 35 1 (.slice (some ⟨g0, 0, none⟩) m m) m (wl zs) ∧ Below W2.heap.size W2 wr) (fun _ kv _ => (intOf kv + 1).toNat)
  case atStart =>
    refine ⟨m, List.replicate m 0, Nat.le_refl _, by go_num, by simp [Hid], ?_, fun i _ => by simp [List.getElem?_replicate]; split <;> rfl, ?_, (fun _ _ _ _ h => by cases h), HO4.out, B4⟩
    · rw [Hid, val_zero, Nat.div_eq_of_lt HXL.out, Nat.zero_div, Nat.mul_zero]
    · rw [Nat.div_eq_of_lt HXL.out, Nat.zero_mod]; exact RN.zero _
  case round =>
    obtain ⟨j, zs, hjm, rfl, HZL, HZV, HZ0, hrn, HFR, hown, hbl⟩ := hrel
    have HO := Hid.mk hown
    have HRN := Hid.mk hrn
    clear HO4 B4 hown hrn
    rcases Nat.eq_zero_or_pos j with rfl | hj0
    · rw [Nat.pow_zero, Nat.div_one] at HRN HZV
      rw [Nat.one_mul] at HZV
      have HT := Hid.mk (rtrim_in _ _ zs (Rw.of HO.out HZL.out))
      rw [HZV.out, HSD.out.1] at HT
      have hrn' := HRN.out
      rw [HSD.out.2.1] at hrn'
      have HRN' := Hid.mk hrn'
      clear hrn'
      have hml : mny (A % B * s) ≤ 100000 := by
        rw [← HSD.out.2.1]
        have := mny_mono (X % D) D (Nat.le_of_lt (Nat.mod_lt _ hDp))
        have := HND.out
        omega
      go_wp2_with fail
      refine HT.out.mono ?_
      rintro e w5 ⟨q1, rfl, hq, rfl⟩
      have HQ := Hid.mk hq
      clear hq
      go_wp2_with fail
      refine (rdown_in _ _ _ sh HRN'.out hml hsh).mono ?_
      rintro e w6 ⟨r1, rfl, hr, hb6⟩
      rw [HS.out, HSD.out.2.2] at hr
      have HR := Hid.mk hr
      have HBB := Hid.mk (bthen HBW.out (bthen hbl hb6))
      have HQ6 := Hid.mk (HQ.out.blk hb6)
      clear hr hb6
      go_wp2
      go_ret2
      exact ⟨q1, r1, rfl, HQ6.out, HR.out, HBB.out⟩
    · obtain ⟨i, rfl⟩ : ∃ i, j = i + 1 := ⟨j - 1, by omega⟩
      have hki : ((i + 1 : Nat) : Int) - 1 = (i : Int) := by omega
      rw [hki]
      obtain ⟨gx, rfl, hgx, hcx⟩ := HRD.out i (by rw [HMX.out]; omega)
      have c1 : wr.cell? ⟨gx, i, none⟩ = _ := (hbl.cell (p := ⟨gx, i, none⟩) hgx).trans hcx
      have hxd := HXD.out i (by omega)
      obtain ⟨x, hx⟩ : ∃ x, xs[i]?.getD 0 = x := ⟨_, rfl⟩
      rw [hx] at c1 hxd
      obtain ⟨hs1, hs2, hs3⟩ := high_step X D 0 (4294967296 ^ i) hDp (Nat.pow_pos (by omega))
      rw [← Nat.pow_succ, ← hxd] at hs1 hs2 hs3
      simp only [Nat.succ_eq_add_one] at hs1 hs2 hs3
      have HM : Hid (mny (X / 4294967296 ^ (i + 1) % D) ≤ 100000) := by
        have h1 := mny_mono (X / 4294967296 ^ (i + 1) % D) D (Nat.le_of_lt (Nat.mod_lt _ hDp))
        have := HND.out
        rw [Hid]
        omega
      have HMV := Hid.mk (rmoved_in _ _ _ x HRN.out HM.out)
      obtain ⟨R, hR⟩ : ∃ R, X / 4294967296 ^ (i + 1) % D * 4294967296 + x.toNat = R := ⟨_, rfl⟩
      rw [hR] at hs1 hs2 hs3 HMV
      have HS2 := Hid.mk hs2
      have HS3 := Hid.mk hs3
      have hRm : mny R ≤ 100000 := by
        have h1 := mny_mul_pow D 31 (n + 1) (by omega) (by rw [HND.out]; omega)
        by_cases hz : R = 0
        · rw [hz]; exact Nat.zero_le _
        · by_cases hDR : D ≤ R
          · have := rest_many R D hDR hs1 hD0
            have := HND.out
            omega
          · have := mny_mono R D (by omega)
            have := HND.out
            omega
      have i1 : (0 : Int) ≤ (i : Int) := by omega
      have i2 : (i : Int) < (m : Int) := by omega
      have hgsz : g0 + 1 ≤ wr.heap.size := (World.ownsRow.lt HO.out g0 rfl).2
      clear hcx hxd hx hR hs2 hs3
      go_wp2_with fail
      refine HMV.out.mono ?_
      rintro e w5 ⟨r5, rfl, hr5, hf5, hb5⟩
      have HR5 := Hid.mk hr5
      have HF5 : Hid (Fresh (g0 + 1) r5) := fun g o n c h => Nat.le_trans hgsz (hf5 g o n c h)
      clear hf5
      have hbl5 : Below W2.heap.size W2 w5 := bthen hbl hb5
      have HO5 := Hid.mk (own_blk hb5 HO.out)
      have HD5 := Hid.mk (HD3.out.blk hbl5)
      clear hr5 c1
      have HCM := Hid.mk (rcmp_in _ _ _ R D HR5.out HD5.out)
      by_cases hlt : R < D
      · rw [cmpI_lt _ _ hlt] at HCM
        have HV' : Hid (val zs = 4294967296 ^ i * (X / 4294967296 ^ i / D)) := by
          rw [Hid, HZV.out, HS2.out, Nat.div_eq_of_lt hlt]
          exact pow_shift0 _ _
        have HR' : Hid (X / 4294967296 ^ i % D = R) := by rw [Hid, HS3.out, Nat.mod_eq_of_lt hlt]
        go_wp2_with fail
        refine HCM.out.mono ?_
        rintro e w6 ⟨rfl, hd6⟩
        have hb6 := below_drew hd6
        have HR6 := Hid.mk (HR5.out.blk hb6)
        have HO6 := Hid.mk (own_blk hb6 HO5.out)
        have hbl6 : Below W2.heap.size W2 w6 := bthen hbl5 hb6
        clear hd6 hb6
        go_wp2
        go_roundw
        case rel => exact ⟨i, zs, by omega, by go_num, HZL, HV', fun t ht => HZ0.out t (by omega), by rw [HR'.out]; exact HR6.out, HF5, HO6.out, hbl6⟩
        case measure => simp [intOf]
      · have hDR : D ≤ R := by omega
        have hR0 : R ≠ 0 := by omega
        have hge0 : 0 ≤ cmpI R D := by
          rcases Nat.lt_or_ge D R with h | h
          · rw [cmpI_gt _ _ h]; omega
          · rw [show R = D by omega, cmpI_eq]; omega
        generalize cmpI R D = cv0 at *
        have hmany := rest_many R D hDR hs1 hD0
        rw [HND.out] at hmany
        obtain ⟨gr, cr, rs, rfl, hgr, hrl, hrv, hcr⟩ := HR5.out.open hR0
        rcases hmany with hmr | hmr
        · skip
          rw [hmr] at hrl hcr HCM HR5 ⊢
          have HTT : Hid (R / 4294967296 ^ n = (rs[n]?.getD 0).toNat) := by rw [Hid, ← hrv]; exact top_one rs n hrl
          have hx1 := bv_lt (rs[n]?.getD 0)
          have d1 := hcr n (by omega)
          generalize (rs[n]?.getD 0).toNat = y1 at *
          obtain ⟨T, hT⟩ : ∃ T, R / 4294967296 ^ n = T := ⟨_, rfl⟩
          obtain ⟨d0, hd0⟩ : ∃ d0, T / (bt + 1) = d0 := ⟨_, rfl⟩
          have hlow : d0 * D ≤ R := by rw [← hd0, ← hT]; exact low_guess R D (4294967296 ^ n) bt (Nat.pow_pos (by omega)) HDB.out
          rw [hT] at HTT
          have hTe := HTT.out
          have hTl : T < 18446744073709551616 := by omega
          have hdT : d0 ≤ T := by rw [← hd0]; exact Nat.div_le_self _ _
          have hdq : d0 ≤ R / D := (Nat.le_div_iff_mul_le hDp).2 hlow
          have hqB : R / D < 4294967296 := (Nat.div_lt_iff_lt_mul hDp).2 (by rw [Nat.mul_comm]; exact hs1)
          obtain ⟨z0, hz0'⟩ : ∃ z : BitVec 32, z.toNat = d0 % 4294967296 := ⟨BitVec.ofNat 32 (d0 % 4294967296), by rw [bv_of]; omega⟩
          obtain ⟨z1, hz1'⟩ : ∃ z : BitVec 32, z.toNat = d0 / 4294967296 := ⟨BitVec.ofNat 32 (d0 / 4294967296), by rw [bv_of]; omega⟩
          have HVZ : Hid (val [z0, z1] = d0) := by rw [Hid, val, val_one]; omega
          go_wp2_with fail
          refine HCM.out.mono ?_
          rintro e w6 ⟨rfl, hd6⟩
          have hb6 := below_drew hd6
          have HR6 := Hid.mk (HR5.out.blk hb6)
          have HO6 := Hid.mk (own_blk hb6 HO5.out)
          have hbl6 : Below W2.heap.size W2 w6 := bthen hbl5 hb6
          have HD6 := Hid.mk (HD3.out.blk hbl6)
          have c1 : w6.cell? ⟨gr, n, none⟩ = _ := (hb6.cell (p := ⟨gr, n, none⟩) hgr).trans d1
          have c3 := HCB.out w6 hbl6
          have t1 : (T : Int) / ((bt : Int) + 1) = (d0 : Int) := by rw [← hd0, Int.natCast_ediv]; rfl
          have t2 : (T : Int).tdiv ((bt : Int) + 1) = (d0 : Int) := by rw [Int.tdiv_eq_ediv_of_nonneg (by omega)]; exact t1
          have t3 : IntKind.u64.wrap (d0 : Int) = (d0 : Int) := by rw [IntKind.wrap_u64]; omega
          have t4 : IntKind.u64.wrap ((bt : Int) + 1) = (bt : Int) + 1 := by rw [IntKind.wrap_u64]; omega
          have t5 : IntKind.u64.wrap (bt : Int) = (bt : Int) := by rw [IntKind.wrap_u64]; omega
          have t6 : IntKind.u64.wrap (y1 : Int) = (y1 : Int) := by rw [IntKind.wrap_u64]; omega
          have t7 : (d0 : Int) % 4294967296 = (z0.toNat : Int) := by omega
          have t8 : (d0 : Int).tmod 4294967296 = (z0.toNat : Int) := by rw [Int.tmod_eq_emod_of_nonneg (by omega)]; omega
          have t9 : (d0 : Int) / 4294967296 = (z1.toNat : Int) := by omega
          have t10 : (d0 : Int).tdiv 4294967296 = (z1.toNat : Int) := by rw [Int.tdiv_eq_ediv_of_nonneg (by omega)]; omega
          have t11 : IntKind.u32.wrap (z0.toNat : Int) = (z0.toNat : Int) := by rw [IntKind.wrap_u32]; have := bv_lt z0; omega
          have t12 : (z0.toNat : Int) % 4294967296 = (z0.toNat : Int) := by have := bv_lt z0; omega
          have t13 : IntKind.u64.wrap (z0.toNat : Int) = (z0.toNat : Int) := by rw [IntKind.wrap_u64]; have := bv_lt z0; omega
          have t14 : IntKind.u32.wrap (z1.toNat : Int) = (z1.toNat : Int) := by rw [IntKind.wrap_u32]; have := bv_lt z1; omega
          have t15 : (z1.toNat : Int) % 4294967296 = (z1.toNat : Int) := by have := bv_lt z1; omega
          have t16 : IntKind.u64.wrap (z1.toNat : Int) = (z1.toNat : Int) := by rw [IntKind.wrap_u64]; have := bv_lt z1; omega
          have tb : ((bt : Int) + 1 == 0) = false := by rw [beq_eq_false_iff_ne]; omega
          have tb2 : ¬ ((bt : Int) + 1 = 0) := by omega
          obtain rfl : T = y1 := hTe
          have q5 : (n : Int) + 1 - 1 = (n : Int) := by omega
          have q11 : (n : Int) < (n : Int) + 1 := by omega
          have q12 : (n : Int) + 1 - 1 = (n : Int) := by omega
          clear hT hd0 hTl hdT hz0' hz1' hd6 hb6 d1 hrl hrv hcr HTT
          go_wp2_with fail
          refine (rtrim_in _ _ [z0, z1] (Rw.two w6 z0 z1)).mono ?_
          rintro e w7 ⟨v7, rfl, hr7, rfl⟩
          rw [HVZ.out] at hr7
          have hb7 : Below w6.heap.size w6 (w6.alloc (.cells #[.int .u32 (z0.toNat : Int), .int .u32 (z1.toNat : Int)] 35)) := (Below.refl _ _).alloc (Nat.le_refl _) _
          have HR7 := Hid.mk hr7
          have HD7 := Hid.mk (HD6.out.blk hb7)
          have HX7 := Hid.mk (HR6.out.blk hb7)
          have HO7 := Hid.mk (own_blk hb7 HO6.out)
          have hbl7 := bthen hbl6 hb7
          clear hr7 hb7 c1 c3
          go_wp2_with fail
          refine (rmul_in _ _ _ D d0 HD7.out HR7.out (by rw [HND.out]; omega) (Nat.le_trans (mny_mono d0 R (Nat.le_trans hdq (Nat.div_le_self _ _))) hRm)).mono ?_
          rintro e w8 ⟨v8, rfl, hr8, hb8⟩
          have HR8 := Hid.mk hr8
          have HX8 := Hid.mk (HX7.out.blk hb8)
          have HO8 := Hid.mk (own_blk hb8 HO7.out)
          have hbl8 := bthen hbl7 hb8
          clear hr8 hb8
          go_wp2_with fail
          refine (rsub_in _ _ _ R (D * d0) HX8.out HR8.out hRm (by rw [Nat.mul_comm]; exact hlow)).mono ?_
          rintro e w9 ⟨v9, rfl, hr9, hf9, hb9⟩
          have HR9 := Hid.mk hr9
          have HF9 : Hid (Fresh (g0 + 1) v9) := fun g o n c h => Nat.le_trans (World.ownsRow.lt HO8.out g0 rfl).2 (hf9 g o n c h)
          have HO9 := Hid.mk (own_blk hb9 HO8.out)
          have hbl9 := bthen hbl8 hb9
          clear hr9 hb9 hf9
          have hlow' : D * d0 ≤ R := by rw [Nat.mul_comm]; exact hlow
          go_wp2_with fail
          go_loopw [9, 12] (fun rv dv wr => ∃ e : Nat, dv = .int .u64 (e : Int) ∧ D * e ≤ R ∧ RN wr rv (R - D * e) ∧ Hid (Fresh (g0 + 1) rv) ∧ wr.ownsRow g0 35 1 (.slice (some ⟨g0, 0, none⟩) m m) m (wl zs) ∧ Below W2.heap.size W2 wr) (fun _ dv _ => R / D + 1 - (intOf dv).toNat)
          case atStart => exact ⟨d0, rfl, hlow', HR9.out, HF9, HO9.out, hbl9⟩
          case round =>
            obtain ⟨e, rfl, hle, hrn, HFr, hown, hblr⟩ := hrel
            have HRr := Hid.mk hrn
            have HOr := Hid.mk hown
            have HDr := Hid.mk (HD3.out.blk hblr)
            have hRe : mny (R - D * e) ≤ 100000 := Nat.le_trans (mny_mono _ R (Nat.sub_le _ _)) hRm
            have heq : e ≤ R / D := (Nat.le_div_iff_mul_le hDp).2 (by rw [Nat.mul_comm]; exact hle)
            have HCr := Hid.mk (rcmp_in _ _ _ (R - D * e) D HRr.out HDr.out)
            clear hrn hown hlow hlow'
            by_cases hge : D ≤ R - D * e
            · have hc0 : 0 ≤ cmpI (R - D * e) D := by
                rcases Nat.lt_or_ge D (R - D * e) with h | h
                · rw [cmpI_gt _ _ h]; omega
                · rw [show R - D * e = D by omega, cmpI_eq]; omega
              have hDe : D * (e + 1) = D * e + D := by rw [Nat.mul_add, Nat.mul_one]
              have hle' : D * (e + 1) ≤ R := by omega
              have hsb : R - D * (e + 1) = R - D * e - D := by omega
              have he1 : e + 1 ≤ R / D := (Nat.le_div_iff_mul_le hDp).2 (by rw [Nat.mul_comm]; exact hle')
              have HSB : Hid (R - D * (e + 1) = R - D * e - D) := hsb
              have we : IntKind.u64.wrap ((e : Int) + 1) = (e : Int) + 1 := by rw [IntKind.wrap_u64]; omega
              generalize cmpI (R - D * e) D = cv at *
              clear hDe hsb
              go_wp2_with fail
              refine HCr.out.mono ?_
              rintro e' w10 ⟨rfl, hd10⟩
              have hb10 := below_drew hd10
              have HR10 := Hid.mk (HRr.out.blk hb10)
              have HO10 := Hid.mk (own_blk hb10 HOr.out)
              have hbl10 : Below W2.heap.size W2 w10 := bthen hblr hb10
              have HD10 := Hid.mk (HD3.out.blk hbl10)
              clear hd10 hb10
              go_wp2_with fail
              refine (rsub_in _ _ _ _ D HR10.out HD10.out hRe hge).mono ?_
              rintro e' w11 ⟨v11, rfl, hr11, hf11, hb11⟩
              have HR11 := Hid.mk hr11
              have HF11 : Hid (Fresh (g0 + 1) v11) := fun g o n c h => Nat.le_trans (World.ownsRow.lt HO10.out g0 rfl).2 (hf11 g o n c h)
              have HO11 := Hid.mk (own_blk hb11 HO10.out)
              have hbl11 := bthen hbl10 hb11
              clear hr11 hb11 hf11
              go_wp2
              go_roundw
              case rel => exact ⟨e + 1, by go_num, hle', by rw [HSB.out]; exact HR11.out, HF11, HO11.out, hbl11⟩
              case measure => simp [intOf]; omega
            · have hcl : cmpI (R - D * e) D = -1 := cmpI_lt _ _ (by omega)
              rw [hcl] at HCr
              have heR : e = R / D := by
                have h1 : R < D * (e + 1) := by rw [Nat.mul_add, Nat.mul_one]; omega
                have h2 : R / D < e + 1 := (Nat.div_lt_iff_lt_mul hDp).2 (by rw [Nat.mul_comm]; exact h1)
                omega
              have hmd : R - D * e = R % D := by
                have := Nat.div_add_mod R D
                rw [← heR] at this
                omega
              obtain ⟨z, hz⟩ : ∃ z : BitVec 32, z.toNat = e := ⟨BitVec.ofNat 32 e, by rw [bv_of]; omega⟩
              have hst := val_set zs i (by rw [HZL.out]; omega) z
              rw [HZ0.out i (by omega), show (0 : BitVec 32).toNat = 0 from rfl, Nat.mul_zero, Nat.add_zero, hz, heR] at hst
              have HV' : Hid (val (zs.set i z) = 4294967296 ^ i * (X / 4294967296 ^ i / D)) := by
                rw [Hid, hst, HZV.out, HS2.out, Nat.mul_add, pow_shift]
              have HR' : Hid (X / 4294967296 ^ i % D = R - D * e) := by rw [Hid, HS3.out, hmd]
              have HL' : Hid ((zs.set i z).length = m) := by rw [Hid, List.length_set, HZL.out]
              have HZ' : Hid (∀ t, t < i → (zs.set i z)[t]?.getD 0 = 0) := fun t ht => by rw [set_other zs i t z (by omega)]; exact HZ0.out t (by omega)
              rw [← hz]
              have u1 : IntKind.u32.wrap (z.toNat : Int) = (z.toNat : Int) := by rw [IntKind.wrap_u32]; have := bv_lt z; omega
              have u2 : (z.toNat : Int) % 4294967296 = (z.toNat : Int) := by have := bv_lt z; omega
              generalize R - D * e = RM at *
              clear hz hst heR hmd hcl hge heq hle
              go_wp2_with fail
              refine HCr.out.mono ?_
              rintro e' w10 ⟨rfl, hd10⟩
              have hb10 := below_drew hd10
              have HR10 := Hid.mk (HRr.out.blk hb10)
              have HO10 := Hid.mk (own_blk hb10 HOr.out)
              have hbl10 : Below W2.heap.size W2 w10 := bthen hblr hb10
              have c10 : w10.cell? ⟨g0, i, none⟩ = some (.int .u32 ((zs[i]?.getD 0).toNat : Int)) := by
                have := HO10.out.cellAt i (by omega)
                rw [wl_at zs i (by rw [HZL.out]; omega)] at this
                exact this
              have f10 : w10.frozen? ⟨g0, i, none⟩ = false := HO10.out.frozenAt i
              clear hd10 hb10
              go_wp2
              go_roundw
              case rel =>
                obtain ⟨h1, h2⟩ := HO10.out.stored i (.int .u32 (z.toNat : Int))
                rw [wl_set] at h1
                have hbf : Below W2.heap.size W2 (w10.setCell ⟨g0, i, none⟩ (.int .u32 (z.toNat : Int))) := hbl10.setCell (by show W2.heap.size ≤ g0; rw [HG0.out]; exact Nat.le_refl _) _
                have hrf := HR10.out.put (g := g0) (i := i) (x := .int .u32 (z.toNat : Int)) HFr.out
                exact ⟨i, zs.set i z, by omega, by go_num, HL', HV', HZ', by rw [HR'.out]; exact hrf, HFr, h1, hbf⟩
              case measure => simp [intOf]
        · skip
          rw [hmr] at hrl hcr HCM HR5 ⊢
          have HTT : Hid (R / 4294967296 ^ n = (rs[n + 1]?.getD 0).toNat * 4294967296 + (rs[n]?.getD 0).toNat) := by rw [Hid, ← hrv]; exact top_two rs n hrl
          have hx1 := bv_lt (rs[n + 1]?.getD 0)
          have hx2 := bv_lt (rs[n]?.getD 0)
          have d1 := hcr (n + 1) (by omega)
          have d2 := hcr n (by omega)
          generalize (rs[n + 1]?.getD 0).toNat = y1 at *
          generalize (rs[n]?.getD 0).toNat = y2 at *
          obtain ⟨T, hT⟩ : ∃ T, R / 4294967296 ^ n = T := ⟨_, rfl⟩
          obtain ⟨d0, hd0⟩ : ∃ d0, T / (bt + 1) = d0 := ⟨_, rfl⟩
          have hlow : d0 * D ≤ R := by rw [← hd0, ← hT]; exact low_guess R D (4294967296 ^ n) bt (Nat.pow_pos (by omega)) HDB.out
          rw [hT] at HTT
          have hTe := HTT.out
          have hTl : T < 18446744073709551616 := by omega
          have hdT : d0 ≤ T := by rw [← hd0]; exact Nat.div_le_self _ _
          have hdq : d0 ≤ R / D := (Nat.le_div_iff_mul_le hDp).2 hlow
          have hqB : R / D < 4294967296 := (Nat.div_lt_iff_lt_mul hDp).2 (by rw [Nat.mul_comm]; exact hs1)
          obtain ⟨z0, hz0'⟩ : ∃ z : BitVec 32, z.toNat = d0 % 4294967296 := ⟨BitVec.ofNat 32 (d0 % 4294967296), by rw [bv_of]; omega⟩
          obtain ⟨z1, hz1'⟩ : ∃ z : BitVec 32, z.toNat = d0 / 4294967296 := ⟨BitVec.ofNat 32 (d0 / 4294967296), by rw [bv_of]; omega⟩
          have HVZ : Hid (val [z0, z1] = d0) := by rw [Hid, val, val_one]; omega
          go_wp2_with fail
          refine HCM.out.mono ?_
          rintro e w6 ⟨rfl, hd6⟩
          have hb6 := below_drew hd6
          have HR6 := Hid.mk (HR5.out.blk hb6)
          have HO6 := Hid.mk (own_blk hb6 HO5.out)
          have hbl6 : Below W2.heap.size W2 w6 := bthen hbl5 hb6
          have HD6 := Hid.mk (HD3.out.blk hbl6)
          have c1 : w6.cell? ⟨gr, n + 1, none⟩ = _ := (hb6.cell (p := ⟨gr, n + 1, none⟩) hgr).trans d1
          have c2 : w6.cell? ⟨gr, n, none⟩ = _ := (hb6.cell (p := ⟨gr, n, none⟩) hgr).trans d2
          have c3 := HCB.out w6 hbl6
          have t1 : (T : Int) / ((bt : Int) + 1) = (d0 : Int) := by rw [← hd0, Int.natCast_ediv]; rfl
          have t2 : (T : Int).tdiv ((bt : Int) + 1) = (d0 : Int) := by rw [Int.tdiv_eq_ediv_of_nonneg (by omega)]; exact t1
          have t3 : IntKind.u64.wrap (d0 : Int) = (d0 : Int) := by rw [IntKind.wrap_u64]; omega
          have t4 : IntKind.u64.wrap ((bt : Int) + 1) = (bt : Int) + 1 := by rw [IntKind.wrap_u64]; omega
          have t5 : IntKind.u64.wrap (bt : Int) = (bt : Int) := by rw [IntKind.wrap_u64]; omega
          have t6 : IntKind.u64.wrap (y1 : Int) = (y1 : Int) := by rw [IntKind.wrap_u64]; omega
          have t7 : (d0 : Int) % 4294967296 = (z0.toNat : Int) := by omega
          have t8 : (d0 : Int).tmod 4294967296 = (z0.toNat : Int) := by rw [Int.tmod_eq_emod_of_nonneg (by omega)]; omega
          have t9 : (d0 : Int) / 4294967296 = (z1.toNat : Int) := by omega
          have t10 : (d0 : Int).tdiv 4294967296 = (z1.toNat : Int) := by rw [Int.tdiv_eq_ediv_of_nonneg (by omega)]; omega
          have t11 : IntKind.u32.wrap (z0.toNat : Int) = (z0.toNat : Int) := by rw [IntKind.wrap_u32]; have := bv_lt z0; omega
          have t12 : (z0.toNat : Int) % 4294967296 = (z0.toNat : Int) := by have := bv_lt z0; omega
          have t13 : IntKind.u64.wrap (z0.toNat : Int) = (z0.toNat : Int) := by rw [IntKind.wrap_u64]; have := bv_lt z0; omega
          have t14 : IntKind.u32.wrap (z1.toNat : Int) = (z1.toNat : Int) := by rw [IntKind.wrap_u32]; have := bv_lt z1; omega
          have t15 : (z1.toNat : Int) % 4294967296 = (z1.toNat : Int) := by have := bv_lt z1; omega
          have t16 : IntKind.u64.wrap (z1.toNat : Int) = (z1.toNat : Int) := by rw [IntKind.wrap_u64]; have := bv_lt z1; omega
          have tb : ((bt : Int) + 1 == 0) = false := by rw [beq_eq_false_iff_ne]; omega
          have tb2 : ¬ ((bt : Int) + 1 = 0) := by omega
          have q1 : (y1 : Int) * 4294967296 + (y2 : Int) = (T : Int) := by omega
          have q2 : IntKind.u64.wrap ((y1 : Int) * 4294967296) = (y1 : Int) * 4294967296 := by rw [IntKind.wrap_u64]; omega
          have q3 : IntKind.u64.wrap (T : Int) = (T : Int) := by rw [IntKind.wrap_u64]; omega
          have q4 : IntKind.u64.wrap (y2 : Int) = (y2 : Int) := by rw [IntKind.wrap_u64]; omega
          have q5 : (n : Int) + 2 - 1 = (n : Int) + 1 := by omega
          have q6 : (n : Int) + 2 - 2 = (n : Int) := by omega
          have q7 : (n : Int) + 1 < (n : Int) + 2 := by omega
          have q8 : ((n : Int) + 1).toNat = n + 1 := by omega
          have q9 : (n : Int) < (n : Int) + 2 := by omega
          have q10 : (0 : Int) ≤ (n : Int) + 1 := by omega
          have q11 : (n : Int) < (n : Int) + 1 := by omega
          have q12 : (n : Int) + 1 - 1 = (n : Int) := by omega
          clear hT hd0 hTe hTl hdT hz0' hz1' hd6 hb6 d1 hrl hrv hcr d2 HTT
          go_wp2_with fail
          refine (rtrim_in _ _ [z0, z1] (Rw.two w6 z0 z1)).mono ?_
          rintro e w7 ⟨v7, rfl, hr7, rfl⟩
          rw [HVZ.out] at hr7
          have hb7 : Below w6.heap.size w6 (w6.alloc (.cells #[.int .u32 (z0.toNat : Int), .int .u32 (z1.toNat : Int)] 35)) := (Below.refl _ _).alloc (Nat.le_refl _) _
          have HR7 := Hid.mk hr7
          have HD7 := Hid.mk (HD6.out.blk hb7)
          have HX7 := Hid.mk (HR6.out.blk hb7)
          have HO7 := Hid.mk (own_blk hb7 HO6.out)
          have hbl7 := bthen hbl6 hb7
          clear hr7 hb7 c1 c3 c2
          go_wp2_with fail
          refine (rmul_in _ _ _ D d0 HD7.out HR7.out (by rw [HND.out]; omega) (Nat.le_trans (mny_mono d0 R (Nat.le_trans hdq (Nat.div_le_self _ _))) hRm)).mono ?_
          rintro e w8 ⟨v8, rfl, hr8, hb8⟩
          have HR8 := Hid.mk hr8
          have HX8 := Hid.mk (HX7.out.blk hb8)
          have HO8 := Hid.mk (own_blk hb8 HO7.out)
          have hbl8 := bthen hbl7 hb8
          clear hr8 hb8
          go_wp2_with fail
          refine (rsub_in _ _ _ R (D * d0) HX8.out HR8.out hRm (by rw [Nat.mul_comm]; exact hlow)).mono ?_
          rintro e w9 ⟨v9, rfl, hr9, hf9, hb9⟩
          have HR9 := Hid.mk hr9
          have HF9 : Hid (Fresh (g0 + 1) v9) := fun g o n c h => Nat.le_trans (World.ownsRow.lt HO8.out g0 rfl).2 (hf9 g o n c h)
          have HO9 := Hid.mk (own_blk hb9 HO8.out)
          have hbl9 := bthen hbl8 hb9
          clear hr9 hb9 hf9
          have hlow' : D * d0 ≤ R := by rw [Nat.mul_comm]; exact hlow
          go_wp2_with fail
          go_loopw [9, 12] (fun rv dv wr => ∃ e : Nat, dv = .int .u64 (e : Int) ∧ D * e ≤ R ∧ RN wr rv (R - D * e) ∧ Hid (Fresh (g0 + 1) rv) ∧ wr.ownsRow g0 35 1 (.slice (some ⟨g0, 0, none⟩) m m) m (wl zs) ∧ Below W2.heap.size W2 wr) (fun _ dv _ => R / D + 1 - (intOf dv).toNat)
          case atStart => exact ⟨d0, rfl, hlow', HR9.out, HF9, HO9.out, hbl9⟩
          case round =>
            obtain ⟨e, rfl, hle, hrn, HFr, hown, hblr⟩ := hrel
            have HRr := Hid.mk hrn
            have HOr := Hid.mk hown
            have HDr := Hid.mk (HD3.out.blk hblr)
            have hRe : mny (R - D * e) ≤ 100000 := Nat.le_trans (mny_mono _ R (Nat.sub_le _ _)) hRm
            have heq : e ≤ R / D := (Nat.le_div_iff_mul_le hDp).2 (by rw [Nat.mul_comm]; exact hle)
            have HCr := Hid.mk (rcmp_in _ _ _ (R - D * e) D HRr.out HDr.out)
            clear hrn hown hlow hlow'
            by_cases hge : D ≤ R - D * e
            · have hc0 : 0 ≤ cmpI (R - D * e) D := by
                rcases Nat.lt_or_ge D (R - D * e) with h | h
                · rw [cmpI_gt _ _ h]; omega
                · rw [show R - D * e = D by omega, cmpI_eq]; omega
              have hDe : D * (e + 1) = D * e + D := by rw [Nat.mul_add, Nat.mul_one]
              have hle' : D * (e + 1) ≤ R := by omega
              have hsb : R - D * (e + 1) = R - D * e - D := by omega
              have he1 : e + 1 ≤ R / D := (Nat.le_div_iff_mul_le hDp).2 (by rw [Nat.mul_comm]; exact hle')
              have HSB : Hid (R - D * (e + 1) = R - D * e - D) := hsb
              have we : IntKind.u64.wrap ((e : Int) + 1) = (e : Int) + 1 := by rw [IntKind.wrap_u64]; omega
              generalize cmpI (R - D * e) D = cv at *
              clear hDe hsb
              go_wp2_with fail
              refine HCr.out.mono ?_
              rintro e' w10 ⟨rfl, hd10⟩
              have hb10 := below_drew hd10
              have HR10 := Hid.mk (HRr.out.blk hb10)
              have HO10 := Hid.mk (own_blk hb10 HOr.out)
              have hbl10 : Below W2.heap.size W2 w10 := bthen hblr hb10
              have HD10 := Hid.mk (HD3.out.blk hbl10)
              clear hd10 hb10
              go_wp2_with fail
              refine (rsub_in _ _ _ _ D HR10.out HD10.out hRe hge).mono ?_
              rintro e' w11 ⟨v11, rfl, hr11, hf11, hb11⟩
              have HR11 := Hid.mk hr11
              have HF11 : Hid (Fresh (g0 + 1) v11) := fun g o n c h => Nat.le_trans (World.ownsRow.lt HO10.out g0 rfl).2 (hf11 g o n c h)
              have HO11 := Hid.mk (own_blk hb11 HO10.out)
              have hbl11 := bthen hbl10 hb11
              clear hr11 hb11 hf11
              go_wp2
              go_roundw
              case rel => exact ⟨e + 1, by go_num, hle', by rw [HSB.out]; exact HR11.out, HF11, HO11.out, hbl11⟩
              case measure => simp [intOf]; omega
            · have hcl : cmpI (R - D * e) D = -1 := cmpI_lt _ _ (by omega)
              rw [hcl] at HCr
              have heR : e = R / D := by
                have h1 : R < D * (e + 1) := by rw [Nat.mul_add, Nat.mul_one]; omega
                have h2 : R / D < e + 1 := (Nat.div_lt_iff_lt_mul hDp).2 (by rw [Nat.mul_comm]; exact h1)
                omega
              have hmd : R - D * e = R % D := by
                have := Nat.div_add_mod R D
                rw [← heR] at this
                omega
              obtain ⟨z, hz⟩ : ∃ z : BitVec 32, z.toNat = e := ⟨BitVec.ofNat 32 e, by rw [bv_of]; omega⟩
              have hst := val_set zs i (by rw [HZL.out]; omega) z
              rw [HZ0.out i (by omega), show (0 : BitVec 32).toNat = 0 from rfl, Nat.mul_zero, Nat.add_zero, hz, heR] at hst
              have HV' : Hid (val (zs.set i z) = 4294967296 ^ i * (X / 4294967296 ^ i / D)) := by
                rw [Hid, hst, HZV.out, HS2.out, Nat.mul_add, pow_shift]
              have HR' : Hid (X / 4294967296 ^ i % D = R - D * e) := by rw [Hid, HS3.out, hmd]
              have HL' : Hid ((zs.set i z).length = m) := by rw [Hid, List.length_set, HZL.out]
              have HZ' : Hid (∀ t, t < i → (zs.set i z)[t]?.getD 0 = 0) := fun t ht => by rw [set_other zs i t z (by omega)]; exact HZ0.out t (by omega)
              rw [← hz]
              have u1 : IntKind.u32.wrap (z.toNat : Int) = (z.toNat : Int) := by rw [IntKind.wrap_u32]; have := bv_lt z; omega
              have u2 : (z.toNat : Int) % 4294967296 = (z.toNat : Int) := by have := bv_lt z; omega
              generalize R - D * e = RM at *
              clear hz hst heR hmd hcl hge heq hle
              go_wp2_with fail
              refine HCr.out.mono ?_
              rintro e' w10 ⟨rfl, hd10⟩
              have hb10 := below_drew hd10
              have HR10 := Hid.mk (HRr.out.blk hb10)
              have HO10 := Hid.mk (own_blk hb10 HOr.out)
              have hbl10 : Below W2.heap.size W2 w10 := bthen hblr hb10
              have c10 : w10.cell? ⟨g0, i, none⟩ = some (.int .u32 ((zs[i]?.getD 0).toNat : Int)) := by
                have := HO10.out.cellAt i (by omega)
                rw [wl_at zs i (by rw [HZL.out]; omega)] at this
                exact this
              have f10 : w10.frozen? ⟨g0, i, none⟩ = false := HO10.out.frozenAt i
              clear hd10 hb10
              go_wp2
              go_roundw
              case rel =>
                obtain ⟨h1, h2⟩ := HO10.out.stored i (.int .u32 (z.toNat : Int))
                rw [wl_set] at h1
                have hbf : Below W2.heap.size W2 (w10.setCell ⟨g0, i, none⟩ (.int .u32 (z.toNat : Int))) := hbl10.setCell (by show W2.heap.size ≤ g0; rw [HG0.out]; exact Nat.le_refl _) _
                have hrf := HR10.out.put (g := g0) (i := i) (x := .int .u32 (z.toNat : Int)) HFr.out
                exact ⟨i, zs.set i z, by omega, by go_num, HL', HV', HZ', by rw [HR'.out]; exact hrf, HFr, h1, hbf⟩
              case measure => simp [intOf]
end Go.Proofs.YtpimliebiapnfaaGreatDoor.N
/- The document's Pow. -/
namespace Go.Proofs.YtpimliebiapnfaaGreatDoor.N
set_option linter.unusedVariables false
open Go.RowKit
theorem mny_small (N k : Nat) (h : N < 4294967296 ^ k) : mny N ≤ k := by
  by_cases h0 : N = 0
  · rw [h0]; exact Nat.zero_le _
  · have h1 := (mny_ge N h0).2
    apply Classical.byContradiction
    intro hn
    have : 4294967296 ^ k ≤ 4294967296 ^ (mny N - 1) := Nat.pow_le_pow_right (by omega) (by omega)
    omega
theorem mny_mul (X Y a b : Nat) (hx : mny X ≤ a) (hy : mny Y ≤ b) : mny (X * Y) ≤ a + b := by
  refine mny_small _ _ ?_
  rw [Nat.pow_add]
  have h1 : X < 4294967296 ^ a := Nat.lt_of_lt_of_le (mny_lt X) (Nat.pow_le_pow_right (by omega) hx)
  have h2 : Y < 4294967296 ^ b := Nat.lt_of_lt_of_le (mny_lt Y) (Nat.pow_le_pow_right (by omega) hy)
  exact Nat.mul_lt_mul'' h1 h2
theorem RN.one (W : World) : RN (W.alloc (.cells #[.int .u32 1] 35)) (.slice (some ⟨W.heap.size, 0, none⟩) 1 1) 1 := ⟨[1#32], Rw.one W 1#32, rfl, .inr ⟨[], 1#32, rfl, by decide⟩⟩
theorem mny_one : mny 1 = 1 := by decide +kernel
end Go.Proofs.YtpimliebiapnfaaGreatDoor.N