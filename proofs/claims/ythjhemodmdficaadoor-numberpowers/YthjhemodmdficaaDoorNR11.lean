/- The document's down. -/
import Derived.Test.YthjhemodmdficaaDoorNR10
namespace Go.Proofs.YthjhemodmdficaaDoor
set_option linter.unusedVariables false
open Go.RowKit
theorem val_digits (l : List (BitVec 32)) (N : Nat) (h : ∀ j, j < l.length → (l[j]?.getD 0).toNat = N / 4294967296 ^ j % 4294967296) : ∀ k, k ≤ l.length → val (l.take k) = N % 4294967296 ^ k
  | 0, _ => by simp [val, Nat.mod_one]
  | k + 1, hk => by
    rw [val_take_succ l k (by omega), val_digits l N h k (by omega), h k (by omega), Nat.pow_succ, Nat.mod_mul]
/-- the digit of a number that was divided by 2 so often. -/
theorem down_digit (A s r j : Nat) (hs : s * r = 4294967296) : (A / s) / 4294967296 ^ j % 4294967296 = (A / 4294967296 ^ j % 4294967296 + 4294967296 * (A / 4294967296 ^ (j + 1) % 4294967296)) / s % 4294967296 := by
  have hs0 : 0 < s := Nat.pos_of_ne_zero fun h => by rw [h] at hs; omega
  have hr0 : 0 < r := Nat.pos_of_ne_zero fun h => by rw [h] at hs; omega
  rw [Nat.div_div_eq_div_mul, Nat.mul_comm s, ← Nat.div_div_eq_div_mul, Nat.pow_succ, ← Nat.div_div_eq_div_mul]
  generalize A / 4294967296 ^ j = D
  have e : D % 4294967296 + 4294967296 * (D / 4294967296 % 4294967296) = D % (4294967296 * 4294967296) := by rw [Nat.mod_mul]
  rw [e, ← hs]
  have e2 : s * r * (s * r) = s * ((s * r) * r) := by rw [Nat.mul_assoc, Nat.mul_left_comm r, Nat.mul_assoc]
  rw [e2, Nat.mod_mul_right_div_self, Nat.mod_mul_right_mod]
set_option maxRecDepth 100000 in
set_option maxHeartbeats 1000000 in
theorem rdown_go (W : World) (p : Option Addr) (cp : Nat) (xs : List (BitVec 32)) (a k : Nat) (ha : xs.length = a) (ha1 : a ≤ 100000) (hk : k < 32) (hX : Rd W p xs) : Calls Tryd.prog 50 #[.slice p a cp, .int .i64 (k : Int)] W fun e w' => ∃ v, e = .returned v ∧ RN w' v (val xs / 2 ^ k) ∧ Below W.heap.size W w' := by
  obtain ⟨i0, hi, hz0, hz1, hz2⟩ := info_of info24
  have HX := Hid.mk hX
  have HA := Hid.mk ha
  obtain ⟨s, hs⟩ : ∃ s, 2 ^ k = s := ⟨_, rfl⟩
  have hs0 : 0 < s := by rw [← hs]; exact Nat.two_pow_pos k
  have hsr : s * 2 ^ (32 - k) = 4294967296 := by rw [← hs, ← Nat.pow_add, show k + (32 - k) = 32 by omega]
  have HDD : Hid (∀ A j, (A / s) / 4294967296 ^ j % 4294967296 = (A / 4294967296 ^ j % 4294967296 + 4294967296 * (A / 4294967296 ^ (j + 1) % 4294967296)) / s % 4294967296) := fun A j => down_digit A s _ j hsr
  obtain ⟨N, hN⟩ : ∃ N, val xs / s = N := ⟨_, rfl⟩
  have HDG : Hid (∀ j, j < a → N / 4294967296 ^ j % 4294967296 = ((xs[j]?.getD 0).toNat + 4294967296 * (xs[j + 1]?.getD 0).toNat) / s % 4294967296) := fun j hj => by
    rw [← hN, HDD.out, dig_of xs j (by omega)]
    by_cases h : j + 1 < xs.length
    · rw [dig_of xs (j + 1) h]
    · have hq : val xs / 4294967296 ^ (j + 1) = 0 := Nat.div_eq_of_lt (Nat.lt_of_lt_of_le (val_lt xs) (Nat.pow_le_pow_right (by omega) (by omega)))
      rw [dig_none xs (j + 1) h, hq]
  have HNL : Hid (N < 4294967296 ^ a) := by
    rw [Hid, ← hN, ← ha]
    exact Nat.lt_of_le_of_lt (Nat.div_le_self _ _) (val_lt xs)
  rw [hs, hN]
  have hsk : ∀ v : Nat, (v : Int) / 2 ^ k = ((v / s : Nat) : Int) := fun v => by rw [← hs, Int.natCast_ediv, Int.natCast_pow]; rfl
  have HSK := Hid.mk hsk
  have ha0 : (0 : Int) ≤ (a : Int) := by omega
  have kt : ((k : Int)).toNat = k := by omega
  have k0 : (0 : Int) ≤ (k : Int) := by omega
  have k1 : (k : Int) < 64 := by omega
  have hs1 : 1 ≤ s := hs0
  clear hX ha hs hN hsr HDD hsk hs0
  go_enter Tryd.func50, Tryd.ntmps50
  go_wp2_with (at_make; refine wpList_make_full _ rfl _ _ 31 rfl W.heap.size 24 i0 (.int .u32 0) 1 Tryd.underlying31 hi hz0 hz1 _ _ _ _ a rfl rfl rfl rfl (by rw [hz2]; omega) (by unfold maxLen; omega) (Nat.le_refl _) ?_; intro w2 hown2 hgrow2)
  have B2 : Below W.heap.size W w2 := (Below.refl _ _).grown hgrow2 (Nat.le_refl _) (by simp)
  rw [made_noughts] at hown2
  have HO2 := Hid.mk hown2
  clear hown2 hgrow2
  obtain ⟨g0, hg0⟩ : ∃ g0, W.heap.size = g0 := ⟨_, rfl⟩
  rw [hg0] at HO2 ⊢
  have HG0 := Hid.mk hg0
  clear hg0
  go_wp2_with fail
  go_loopw [6] (fun iv wr => ∃ (i : Nat) (zs : List (BitVec 32)), i ≤ a ∧ iv = .int .i64 (i : Int) ∧ Hid (zs.length = a) ∧ Hid (∀ j, j < i → (zs[j]?.getD 0).toNat = N / 4294967296 ^ j % 4294967296) ∧ wr.ownsRow g0 24 1 (.slice (some ⟨g0, 0, none⟩) a a) a (wl zs) ∧ Below W.heap.size W wr) (fun iv _ => a - (intOf iv).toNat)
  case atStart => exact ⟨0, List.replicate a 0, by omega, rfl, by simp [Hid], fun j hj => absurd hj (by omega), HO2.out, B2⟩
  case round =>
    obtain ⟨i, zs, hia, rfl, HZL, HZV, hown, hbl⟩ := hrel
    have HO := Hid.mk hown
    clear HO2 B2
    by_cases hlt : i < a
    · obtain ⟨g, rfl, hg, hcx⟩ := HX.out i (by rw [HA.out]; exact hlt)
      have c1 : wr.cell? ⟨g, i, none⟩ = _ := (hbl.cell (p := ⟨g, i, none⟩) hg).trans hcx
      have hd := HDG.out i hlt
      have hxl := bv_lt (xs[i]?.getD 0)
      have hyl := bv_lt (xs[i + 1]?.getD 0)
      have c3 : wr.cell? ⟨g0, i, none⟩ = some (.int .u32 ((zs[i]?.getD 0).toNat : Int)) := by
        have := hown.cellAt i (by omega)
        rw [wl_at zs i (by rw [HZL.out]; exact hlt)] at this
        exact this
      have f3 : wr.frozen? ⟨g0, i, none⟩ = false := hown.frozenAt i
      have i1 : (i : Int) < (a : Int) := by omega
      have i0' : (0 : Int) ≤ (i : Int) := by omega
      have i2 : (i : Int) ≤ 100000 := by omega
      have HFIN : Hid (∀ z : BitVec 32, z.toNat = N / 4294967296 ^ i % 4294967296 → (zs.set i z).length = a ∧ ∀ j, j < i + 1 → ((zs.set i z)[j]?.getD 0).toNat = N / 4294967296 ^ j % 4294967296) := fun z hz => by
        refine ⟨by rw [List.length_set, HZL.out], fun j hj => ?_⟩
        by_cases e : j = i
        · subst e
          rw [List.getElem?_set_self (by rw [HZL.out]; exact hlt)]
          exact hz
        · rw [set_other zs i j z e]
          exact HZV.out j (by omega)
      by_cases hnx : i + 1 < a
      · obtain ⟨g2, hge, hg2, hcy⟩ := HX.out (i + 1) (by rw [HA.out]; exact hnx)
        obtain rfl : g = g2 := by simpa using hge
        have c2 : wr.cell? ⟨g, i + 1, none⟩ = _ := (hbl.cell (p := ⟨g, i + 1, none⟩) hg2).trans hcy
        generalize (xs[i]?.getD 0).toNat = x at *
        generalize (xs[i + 1]?.getD 0).toNat = y at *
        obtain ⟨t, ht⟩ : ∃ t, x + 4294967296 * y = t := ⟨_, rfl⟩
        obtain ⟨u, hu⟩ : ∃ u, t / s = u := ⟨_, rfl⟩
        have hut : u ≤ t := by rw [← hu]; exact Nat.div_le_self _ _
        obtain ⟨z, hz⟩ : ∃ z : BitVec 32, z.toNat = u % 4294967296 := ⟨BitVec.ofNat 32 (u % 4294967296), by rw [bv_of]; omega⟩
        rw [ht, hu, ← hz] at hd
        obtain ⟨hf1, hf2⟩ := HFIN.out z hd.symm
        have HF1 := Hid.mk hf1
        have HF2 := Hid.mk hf2
        have hdv := HSK.out t
        rw [hu] at hdv
        have e1 : (x : Int) + (y : Int) * 4294967296 = (t : Int) := by omega
        have e2 : IntKind.u64.wrap ((y : Int) * 4294967296) = (y : Int) * 4294967296 := by rw [IntKind.wrap_u64]; omega
        have e3 : IntKind.u64.wrap (t : Int) = (t : Int) := by rw [IntKind.wrap_u64]; omega
        have w1 : IntKind.u64.wrap (x : Int) = (x : Int) := by rw [IntKind.wrap_u64]; omega
        have w2 : IntKind.u64.wrap (y : Int) = (y : Int) := by rw [IntKind.wrap_u64]; omega
        have w3 : IntKind.u64.wrap (u : Int) = (u : Int) := by rw [IntKind.wrap_u64]; omega
        have t1 : (u : Int) % 4294967296 = (z.toNat : Int) := by omega
        have t2 : (u : Int).tmod 4294967296 = (z.toNat : Int) := by rw [Int.tmod_eq_emod_of_nonneg (by omega)]; omega
        have t5 : IntKind.u32.wrap (z.toNat : Int) = (z.toNat : Int) := by rw [IntKind.wrap_u32]; have := bv_lt z; omega
        have t6 : (z.toNat : Int) % 4294967296 = (z.toNat : Int) := by have := bv_lt z; omega
        have t7 : IntKind.u64.wrap (z.toNat : Int) = (z.toNat : Int) := by rw [IntKind.wrap_u64]; have := bv_lt z; omega
        have i3 : (i : Int) + 1 < (a : Int) := by omega
        have i4 : ((i : Int) + 1).toNat = i + 1 := by omega
        clear hz hd ht hu hf1 hf2 hcx hcy hown hge hut
        go_wp2
        go_roundw
        case rel =>
          obtain ⟨h1, h2⟩ := HO.out.stored i (.int .u32 (z.toNat : Int))
          rw [wl_set] at h1
          exact ⟨i + 1, zs.set i z, by omega, by go_num, HF1, HF2, h1, (hbl.grown h2 (Nat.le_trans hbl.size (Nat.le_refl _)) (fun k hk => by cases hk; rw [HG0.out]; exact Nat.le_refl _))⟩
        case measure => simp [intOf]; omega
      · rw [dig_none xs (i + 1) (by rw [HA.out]; exact hnx), Nat.mul_zero, Nat.add_zero] at hd
        generalize (xs[i]?.getD 0).toNat = x at *
        obtain ⟨u, hu⟩ : ∃ u, x / s = u := ⟨_, rfl⟩
        have hut : u ≤ x := by rw [← hu]; exact Nat.div_le_self _ _
        obtain ⟨z, hz⟩ : ∃ z : BitVec 32, z.toNat = u % 4294967296 := ⟨BitVec.ofNat 32 (u % 4294967296), by rw [bv_of]; omega⟩
        rw [hu, ← hz] at hd
        obtain ⟨hf1, hf2⟩ := HFIN.out z hd.symm
        have HF1 := Hid.mk hf1
        have HF2 := Hid.mk hf2
        have hdv := HSK.out x
        rw [hu] at hdv
        have w1 : IntKind.u64.wrap (x : Int) = (x : Int) := by rw [IntKind.wrap_u64]; omega
        have w3 : IntKind.u64.wrap (u : Int) = (u : Int) := by rw [IntKind.wrap_u64]; omega
        have t1 : (u : Int) % 4294967296 = (z.toNat : Int) := by omega
        have t2 : (u : Int).tmod 4294967296 = (z.toNat : Int) := by rw [Int.tmod_eq_emod_of_nonneg (by omega)]; omega
        have t5 : IntKind.u32.wrap (z.toNat : Int) = (z.toNat : Int) := by rw [IntKind.wrap_u32]; have := bv_lt z; omega
        have t6 : (z.toNat : Int) % 4294967296 = (z.toNat : Int) := by have := bv_lt z; omega
        have t7 : IntKind.u64.wrap (z.toNat : Int) = (z.toNat : Int) := by rw [IntKind.wrap_u64]; have := bv_lt z; omega
        have i3 : ¬ ((i : Int) + 1 < (a : Int)) := by omega
        have i4 : (a : Int) ≤ (i : Int) + 1 := by omega
        clear hz hd hu hf1 hf2 hcx hown hut
        go_wp2
        go_roundw
        case rel =>
          obtain ⟨h1, h2⟩ := HO.out.stored i (.int .u32 (z.toNat : Int))
          rw [wl_set] at h1
          exact ⟨i + 1, zs.set i z, by omega, by go_num, HF1, HF2, h1, (hbl.grown h2 (Nat.le_trans hbl.size (Nat.le_refl _)) (fun k hk => by cases hk; rw [HG0.out]; exact Nat.le_refl _))⟩
        case measure => simp [intOf]; omega
    · obtain rfl : i = a := by omega
      have i1 : ¬ ((i : Int) < (i : Int)) := by omega
      have HE : Hid (val zs = N) := by
        have h := val_digits zs N (fun j hj => HZV.out j (by rw [← HZL.out]; exact hj)) i (by rw [HZL.out]; omega)
        rw [take_all zs i (by rw [HZL.out]; omega), Nat.mod_eq_of_lt HNL.out] at h
        exact h
      clear hown
      go_wp2_with fail
      refine (rtrim_in _ _ zs (Rw.of HO.out HZL.out)).mono ?_
      rintro e w1 ⟨v1, rfl, hr1, rfl⟩
      rw [HE.out] at hr1
      have HR1 := Hid.mk hr1
      clear hr1
      go_wp2
      go_ret
      exact ⟨_, rfl, HR1.out, hbl⟩
theorem rdown_in (W : World) (v : Value) (A k : Nat) (hA : RN W v A) (ha : mny A ≤ 100000) (hk : k < 32) : Calls Tryd.prog 50 #[v, .int .i64 (k : Int)] W fun e w' => ∃ v, e = .returned v ∧ RN w' v (A / 2 ^ k) ∧ Below W.heap.size W w' := by
  obtain ⟨xs, hx, rfl, tx⟩ := hA
  obtain ⟨p, c, rfl, hp⟩ := hx.read
  rw [← tx.many] at ha
  exact rdown_go W p c xs _ k rfl ha hk hp
end Go.Proofs.YthjhemodmdficaaDoor
