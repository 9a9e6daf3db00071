/- The document's Pow. -/
import Derived.Test.YthjhemodmdficaaDoorNR13
namespace Go.Proofs.YthjhemodmdficaaDoor
set_option linter.unusedVariables false
open Go.RowKit
theorem mny_small (N k : Nat) (h : N < 4294967296 ^ k) : mny N ≤ k := by
  by_cases h0 : N = 0
  · rw [h0]; exact Nat.zero_le _
  · have h1 := (mny_ge N h0).2
    apply Classical.byContradiction
    intro hn
    have : 4294967296 ^ k ≤ 4294967296 ^ (mny N - 1) := Nat.pow_le_pow_right (by omega) (by omega)
    omega
theorem mny_mul (X Y a b : Nat) (hx : mny X ≤ a) (hy : mny Y ≤ b) : mny (X * Y) ≤ a + b := by
  refine mny_small _ _ ?_
  rw [Nat.pow_add]
  have h1 : X < 4294967296 ^ a := Nat.lt_of_lt_of_le (mny_lt X) (Nat.pow_le_pow_right (by omega) hx)
  have h2 : Y < 4294967296 ^ b := Nat.lt_of_lt_of_le (mny_lt Y) (Nat.pow_le_pow_right (by omega) hy)
  exact Nat.mul_lt_mul'' h1 h2
theorem RN.one (W : World) : RN (W.alloc (.cells #[.int .u32 1] 24)) (.slice (some ⟨W.heap.size, 0, none⟩) 1 1) 1 := ⟨[1#32], Rw.one W 1#32, rfl, .inr ⟨[], 1#32, rfl, by decide⟩⟩
theorem mny_one : mny 1 = 1 := by decide +kernel
set_option maxRecDepth 100000 in
set_option maxHeartbeats 2000000 in
theorem rpow_in (W : World) (va ve vm : Value) (A E M : Nat) (hA : RN W va A) (hE : RN W ve E) (hM : RN W vm M) (ha : mny A ≤ 300) (he : mny E ≤ 300) (hm : mny M ≤ 300) (hM0 : M ≠ 0) : Calls Tryd.prog 32 #[va, ve, vm] W fun e w' => ∃ v, e = .returned v ∧ RN w' v (A ^ E % M) ∧ Below W.heap.size W w' := by
  have hBl : Below W.heap.size W (W.alloc (.cells #[.int .u32 1] 24)) := (Below.refl _ _).alloc (Nat.le_refl _) _
  have HD1 := Hid.mk (rdiv_in _ _ _ 1 M (RN.one W) (hM.blk hBl) (by rw [mny_one]; omega) (by omega) hM0)
  have HDA : Hid (∀ W', RN W' va A → RN W' vm M → Calls Tryd.prog 29 #[va, vm] W' fun e w' => ∃ q r, e = .returned (.tuple #[q, r]) ∧ RN w' q (A / M) ∧ RN w' r (A % M) ∧ Below W'.heap.size W' w') := fun W' h k => rdiv_in W' va vm A M h k (by omega) (by omega) hM0
  have HML : Hid (∀ W' v u X Y, RN W' v X → RN W' u Y → X < M → Y < M → Calls Tryd.prog 25 #[v, u] W' fun e w' => ∃ v, e = .returned v ∧ RN w' v (X * Y) ∧ Below W'.heap.size W' w') := fun W' v u X Y h k hx hy => rmul_in W' v u X Y h k (Nat.le_trans (mny_mono X M (by omega)) (by omega)) (Nat.le_trans (mny_mono Y M (by omega)) (by omega))
  have HDM : Hid (∀ W' v X Y, RN W' v (X * Y) → RN W' vm M → X < M → Y < M → Calls Tryd.prog 29 #[v, vm] W' fun e w' => ∃ q r, e = .returned (.tuple #[q, r]) ∧ RN w' q (X * Y / M) ∧ RN w' r (X * Y % M) ∧ Below W'.heap.size W' w') := fun W' v X Y h k hx hy => rdiv_in W' v vm (X * Y) M h k (Nat.le_trans (mny_mul X Y 300 300 (Nat.le_trans (mny_mono X M (by omega)) hm) (Nat.le_trans (mny_mono Y M (by omega)) hm)) (by omega)) (by omega) hM0
  have HBT : Hid (∀ W', RN W' ve E → Calls Tryd.prog 16 #[ve] W' fun e w' => e = .returned (.int .i64 (btl E : Int)) ∧ w' = W') := fun W' h => rbits_in W' ve E h (by omega)
  obtain ⟨n, hn⟩ : ∃ n, btl E = n := ⟨_, rfl⟩
  have hn4 : n ≤ 9600 := by
    rw [← hn]
    unfold btl
    unfold mny at he
    split
    · omega
    · rename_i h0
      rw [if_neg h0] at he
      omega
  have HEn : Hid (E < 2 ^ n) := by rw [Hid, ← hn]; exact btl_lt E
  have HNE : Hid (0 < n → E ≠ 0) := fun h h0 => by rw [h0] at hn; have : btl 0 = 0 := rfl; omega
  have HKN : Hid (∀ k, k < n → k / 32 < mny E) := fun k hk => by
    have h0 := HNE.out (by omega)
    rw [← hn] at hk
    unfold btl at hk
    unfold mny
    rw [if_neg h0] at hk ⊢
    omega
  rw [hn] at HBT
  have hm0 : 0 < M := Nat.pos_of_ne_zero hM0
  have HPW : Hid (∀ i, pwr A E M n i < M) := fun i => pwr_lt A E M n i hM0
  have HAM : Hid (A % M < M) := Nat.mod_lt _ hm0
  have HSZ : Hid (∀ W' : World, Below W.heap.size W W' → RN W' ve E) := fun W' h => hE.blk h
  have HMZ : Hid (∀ W' : World, Below W.heap.size W W' → RN W' vm M) := fun W' h => hM.blk h
  have HAZ : Hid (∀ W' : World, Below W.heap.size W W' → RN W' va A) := fun W' h => hA.blk h
  have HOP : Hid (0 < n → ∃ g cap ds, ve = .slice (some ⟨g, 0, none⟩) (mny E) cap ∧ g < W.heap.size ∧ ∀ j, j < mny E → W.cell? ⟨g, j, none⟩ = some (.int .u32 ((E / 4294967296 ^ j % 4294967296 : Nat) : Int))) := fun h => by
    obtain ⟨g, cap, ds, h1, h2, h3, h4, h5⟩ := hE.open (HNE.out h)
    refine ⟨g, cap, ds, h1, h2, fun j hj => ?_⟩
    rw [h5 j hj, dig_of ds j (by omega), h4]
  have HBB := Hid.mk hBl
  clear hn hA hE hM hBl ha he
  go_enter Tryd.func32, Tryd.ntmps32
  go_wp2_with fail
  refine HD1.out.mono ?_
  rintro e w1 ⟨q1, r1, rfl, hq1, hr1, hb1⟩
  have hbl1 : Below W.heap.size W w1 := bthen HBB.out hb1
  have HR1 := Hid.mk hr1
  clear hq1 hr1 hb1
  go_wp2_with fail
  refine (HDA.out _ (HAZ.out _ hbl1) (HMZ.out _ hbl1)).mono ?_
  rintro e w2 ⟨q2, r2, rfl, hq2, hr2, hb2⟩
  have hbl2 : Below W.heap.size W w2 := bthen hbl1 hb2
  have HR2 := Hid.mk hr2
  have HR1' := Hid.mk (HR1.out.blk hb2)
  clear hq2 hr2 hb2 hbl1 HR1
  go_wp2_with fail
  refine (HBT.out _ (HSZ.out _ hbl2)).mono ?_
  rintro e w3 ⟨rfl, rfl⟩
  go_wp2_with fail
  go_loopw [8, 12] (fun v kv wr => ∃ j : Nat, j ≤ n ∧ kv = .int .i64 ((j : Int) - 1) ∧ RN wr v (pwr A E M n (n - j)) ∧ RN wr r2 (A % M) ∧ Below W.heap.size W wr) (fun _ kv _ => (intOf kv + 1).toNat)
  case atStart => exact ⟨n, Nat.le_refl _, by go_num, by rw [Nat.sub_self, pwr_start A E M n HEn.out]; exact HR1'.out, HR2.out, hbl2⟩
  case round =>
    obtain ⟨j, hj, rfl, hp, hx, hbl⟩ := hrel
    have HP := Hid.mk hp
    have HX := Hid.mk hx
    clear hp hx HR1' HR2 hbl2
    rcases Nat.eq_zero_or_pos j with rfl | hj0
    · rw [Nat.sub_zero, pwr_end] at HP
      go_wp2
      go_ret
      exact ⟨_, rfl, HP.out, hbl⟩
    · obtain ⟨k, rfl⟩ : ∃ k, j = k + 1 := ⟨j - 1, by omega⟩
      have hki : ((k + 1 : Nat) : Int) - 1 = (k : Int) := by omega
      rw [hki]
      obtain ⟨i, hi⟩ : ∃ i, n - (k + 1) = i := ⟨_, rfl⟩
      rw [hi] at HP
      have hi1 : n - k = i + 1 := by omega
      have hkk : n - (i + 1) = k := by omega
      have hil : i < n := by omega
      have hp1 := HPW.out i
      have HEV := Hid.mk (pwr_even A E M n i k hkk hil)
      have HOD := Hid.mk (pwr_odd A E M n i k hkk hil)
      have hp2 : pwr A E M n i * pwr A E M n i % M < M := Nat.mod_lt _ hm0
      obtain ⟨gE, cE, ds, rfl, hgE, hcE⟩ := HOP.out (by omega)
      have HBA := Hid.mk (bit_at E k)
      have hjm := HKN.out k (by omega)
      obtain ⟨jd, hjd⟩ : ∃ jd, k / 32 = jd := ⟨_, rfl⟩
      obtain ⟨r, hr⟩ : ∃ r, k % 32 = r := ⟨_, rfl⟩
      rw [hjd, hr] at HBA
      rw [hjd] at hjm
      have hce := hcE jd hjm
      obtain ⟨dd, hdd⟩ : ∃ dd, E / 4294967296 ^ jd % 4294967296 = dd := ⟨_, rfl⟩
      rw [hdd] at hce HBA
      have hdl : dd < 4294967296 := by rw [← hdd]; exact Nat.mod_lt _ (by omega)
      obtain ⟨qd, hqd⟩ : ∃ qd, dd / 2 ^ r = qd := ⟨_, rfl⟩
      rw [hqd] at HBA
      have hql : qd < 4294967296 := by rw [← hqd]; exact Nat.lt_of_le_of_lt (Nat.div_le_self _ _) hdl
      have t1 : (k : Int).tdiv 32 = (jd : Int) := by rw [Int.tdiv_eq_ediv_of_nonneg (by omega)]; omega
      have t2 : (k : Int) / 32 = (jd : Int) := by omega
      have t3 : (k : Int).tmod 32 = (r : Int) := by rw [Int.tmod_eq_emod_of_nonneg (by omega)]; omega
      have t4 : (k : Int) % 32 = (r : Int) := by omega
      have t6 : (dd : Int) / 2 ^ r = (qd : Int) := by rw [← hqd, Int.natCast_ediv, Int.natCast_pow]; rfl
      have hr32 : r < 32 := by omega
      obtain ⟨nE, hnE⟩ : ∃ nE, mny E = nE := ⟨_, rfl⟩
      rw [hnE] at hjm HBT HSZ ⊢
      have hj' : (jd : Int) < (nE : Int) := by omega
      have hk0 : (0 : Int) ≤ (k : Int) := by omega
      have HCE := Hid.mk hce
      clear hjd hr hqd hdd hcE hnE HOP HKN hce hi
      obtain ⟨p, hpp⟩ : ∃ p, pwr A E M n i = p := ⟨_, rfl⟩
      rw [hpp] at HP hp1 hp2 HEV HOD
      clear hpp
      go_wp2_with fail
      refine (HML.out _ _ _ p p HP.out HP.out hp1 hp1).mono ?_
      rintro e w4 ⟨v4, rfl, hr4, hb4⟩
      have hbl4 : Below W.heap.size W w4 := bthen hbl hb4
      have HR4 := Hid.mk hr4
      have HX4 := Hid.mk (HX.out.blk hb4)
      clear hr4 hb4
      go_wp2_with fail
      refine (HDM.out _ _ p p HR4.out (HMZ.out _ hbl4) hp1 hp1).mono ?_
      rintro e w5 ⟨q5, r5, rfl, hq5, hr5, hb5⟩
      have hbl5 : Below W.heap.size W w5 := bthen hbl4 hb5
      have HR5 := Hid.mk hr5
      have HX5 := Hid.mk (HX4.out.blk hb5)
      have cE5 : w5.cell? ⟨gE, jd, none⟩ = some (.int .u32 (dd : Int)) := (hbl5.cell (p := ⟨gE, jd, none⟩) hgE).trans HCE.out
      clear hq5 hr5 hb5
      by_cases hbit : qd % 2 = 1
      · have hb' : E / 2 ^ k % 2 = 1 := by rw [← HBA.out]; exact hbit
        have HNX := Hid.mk (HOD.out hb')
        have u1 : (qd : Int) % 2 = 1 := by omega
        have u2 : (qd : Int).tmod 2 = 1 := by rw [Int.tmod_eq_emod_of_nonneg (by omega)]; omega
        obtain ⟨p2, hp22⟩ : ∃ p2, p * p % M = p2 := ⟨_, rfl⟩
        rw [hp22] at HR5 hp2 HNX
        clear hb' hbit hp22
        go_wp2_with fail
        refine (HML.out _ _ _ p2 (A % M) HR5.out HX5.out hp2 HAM.out).mono ?_
        rintro e w6 ⟨v6, rfl, hr6, hb6⟩
        have hbl6 : Below W.heap.size W w6 := bthen hbl5 hb6
        have HR6 := Hid.mk hr6
        have HX6 := Hid.mk (HX5.out.blk hb6)
        clear hr6 hb6 cE5
        go_wp2_with fail
        refine (HDM.out _ _ p2 (A % M) HR6.out (HMZ.out _ hbl6) hp2 HAM.out).mono ?_
        rintro e w7 ⟨q7, r7, rfl, hq7, hr7, hb7⟩
        have hbl7 : Below W.heap.size W w7 := bthen hbl6 hb7
        rw [HNX.out] at hr7
        have HR7 := Hid.mk hr7
        have HX7 := Hid.mk (HX6.out.blk hb7)
        have HI1 : Hid (n - k = i + 1) := hi1
        clear hq7 hr7 hb7 hi1 hkk
        go_wp2
        go_roundw
        case rel => exact ⟨k, by omega, by go_num, by rw [HI1.out]; exact HR7.out, HX7.out, hbl7⟩
        case measure => simp [intOf]
      · have hb0 : qd % 2 = 0 := by omega
        have hb' : E / 2 ^ k % 2 = 0 := by rw [← HBA.out]; exact hb0
        have hnx := HEV.out hb'
        rw [hnx] at HR5
        have u1 : (qd : Int) % 2 = 0 := by omega
        have u2 : (qd : Int).tmod 2 = 0 := by rw [Int.tmod_eq_emod_of_nonneg (by omega)]; omega
        have HI1 : Hid (n - k = i + 1) := hi1
        clear hb' hbit hb0 hnx hi1 hkk
        go_wp2
        go_roundw
        case rel => exact ⟨k, by omega, by go_num, by rw [HI1.out]; exact HR5.out, HX5.out, hbl5⟩
        case measure => simp [intOf]
end Go.Proofs.YthjhemodmdficaaDoor
