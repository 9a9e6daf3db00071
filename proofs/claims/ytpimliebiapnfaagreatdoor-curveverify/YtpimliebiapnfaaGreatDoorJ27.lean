/- Texts of this proof, joined: CRtm, CTimI, GRSum1. -/
import Derived.Test.YtpimliebiapnfaaGreatDoorJ26
import Derived.Test.YtpimliebiapnfaaGreatDoorJ21
/- The document's times. -/
namespace Go.Proofs.YtpimliebiapnfaaGreatDoor
set_option linter.unusedVariables false
set_option linter.unusedSimpArgs false
open Go.RowKit N
attribute [local go_sem ↓] N.loadAt_nat N.storeAt_nat N.build_nat N.build_nat' loadAt_pt storeAt_pt build_pt0 build_pt0' build_pt'
attribute [local go_sem] N.st1 N.st2a N.st2b N.st1d N.st2ad N.st2bd N.natBuild_run ptst1 ptst1d ptBuild0_run build_pt ptBuild_run
attribute [local go_sem ↓] bin_nat bin_pt
attribute [local go_sem ↓] storeAt_pd loadAt_pd
attribute [local go_sem ↓] storeAt_sd loadAt_sd
theorem Sc.zero (w : World) : Sc w (.agg #[.slice none 0 0, .slice none 0 0, .slice none 0 0]) T3.zero := by
  have z0 : RN w (.slice none 0 0) 0 := RN.zero w
  refine ⟨none, 0, none, 0, none, 0, ?_, ?_, ?_, ?_⟩
  · simp only [T3.zero, N.mny_zero]
  all_goals simpa only [T3.zero, N.mny_zero] using z0
theorem dtwice_zero : T3.zero.dtwice = T3.zero := by unfold T3.dtwice; rw [if_pos (show T3.zero.z = 0 from rfl)]
theorem T3.dtimes_ok {bx byy : Nat} (h1 : bx < pP) (h2 : byy < pP) : ∀ f k, (T3.dtimes bx byy f k).Ok
  | 0, _ => T3.zero_ok
  | f + 1, k => by
    have ih := T3.dtimes_ok h1 h2 f (k / 2)
    rw [T3.dtimes]
    split
    · exact T3.dplus_ok (T3.dtwice_ok ih) h1 h2
    · exact T3.dtwice_ok ih
def accD (bx byy k n i : Nat) : T3 := T3.dtimes bx byy i (k / 2 ^ (n - i))
theorem accD_step {bx byy k n i : Nat} (hi : i < n) : accD bx byy k n (i + 1) = if k / 2 ^ (n - (i + 1)) % 2 = 1 then (accD bx byy k n i).dtwice.dplus bx byy else (accD bx byy k n i).dtwice := by
  unfold accD
  rw [T3.dtimes]
  have : k / 2 ^ (n - (i + 1)) / 2 = k / 2 ^ (n - i) := by
    rw [Nat.div_div_eq_div_mul, ← Nat.pow_succ, show (n - (i + 1)).succ = n - i by omega]
  rw [this]
theorem accD_end (bx byy k n : Nat) : accD bx byy k n n = T3.dtimes bx byy n k := by
  unfold accD
  rw [Nat.sub_self, Nat.pow_zero, Nat.div_one]
set_option maxRecDepth 100000 in
set_option maxHeartbeats 2000000 in
theorem rtimes_z (W : World) (vp vk ax ay : Value) (nb : Bool) (K n : Nat) (A : Nat → T3) (RX RY RZ : Nat) (hP : RN W vp pP) (hK : RN W vk K) (hkm : N.mny K ≤ 300) (hn : N.btl K = n) (hA0 : A 0 = T3.zero) (hOK : ∀ i, (A i).Ok) (HN : Hid (∀ i, i < n → (K / 2 ^ (n - (i + 1)) % 2 = 0 ∨ nb = true) → A (i + 1) = (A i).dtwice)) (HPL : Hid (∀ i, i < n → K / 2 ^ (n - (i + 1)) % 2 = 1 → nb = false → ∀ w v, Below W.heap.size W w → Sc w v (A i).dtwice → Calls Tryz.prog 66 #[.agg #[vp], v, .agg #[ax, ay, .bool nb]] w fun e w' => ∃ v', e = .returned v' ∧ Sc w' v' (A (i + 1)) ∧ Below w.heap.size w w')) (hR : A n = ⟨RX, RY, RZ⟩) (hz : RZ = 0) : Calls Tryz.prog 32 #[.agg #[vp], vk, .agg #[ax, ay, .bool nb]] W fun e w' => e = .returned (.agg #[.slice none 0 0, .slice none 0 0, .bool true]) ∧ Below W.heap.size W w' := by
  have hm0 : N.mny RZ = 0 := by rw [hz]; exact N.mny_zero
  have HB : Hid (∀ w, RN w vk K → Calls Tryz.prog 64 #[vk] w fun e w' => e = .returned (.int .i64 (n : Int)) ∧ w' = w) := fun w h => by rw [← hn]; exact N.rbits_in w vk K h (by omega)
  have hn4 : n ≤ 9600 := by
    rw [← hn]
    unfold N.btl
    unfold N.mny at hkm
    split
    · omega
    · rename_i h0
      rw [if_neg h0] at hkm
      omega
  have HNE : Hid (0 < n → K ≠ 0) := fun h h0 => by rw [h0] at hn; have : N.btl 0 = 0 := rfl; omega
  have HKN : Hid (∀ k, k < n → k / 32 < N.mny K) := fun k hk => by
    have h0 := HNE.out (by omega)
    rw [← hn] at hk
    unfold N.btl at hk
    unfold N.mny
    rw [if_neg h0] at hk ⊢
    omega
  have HKZ : Hid (∀ w : World, Below W.heap.size W w → RN w vk K) := fun w h => RN.blk h hK
  have HPZ : Hid (∀ w : World, Below W.heap.size W w → RN w vp pP) := fun w h => RN.blk h hP
  have HOP : Hid (0 < n → ∃ g cap, vk = .slice (some ⟨g, 0, none⟩) (N.mny K) cap ∧ g < W.heap.size ∧ ∀ j, j < N.mny K → W.cell? ⟨g, j, none⟩ = some (.int .u32 ((K / 4294967296 ^ j % 4294967296 : Nat) : Int))) := fun h => by
    obtain ⟨g, cap, ds, h1, h2, h3, h4, h5⟩ := hK.open (HNE.out h)
    refine ⟨g, cap, h1, h2, fun j hj => ?_⟩
    rw [h5 j hj, N.dig_of ds j (by omega), h4]
  have HT : Hid (∀ i w v, RN w vp pP → Sc w v (A i) → Calls Tryz.prog 65 #[.agg #[vp], v] w fun e w' => ∃ v', e = .returned v' ∧ Sc w' v' (A i).dtwice ∧ Below w.heap.size w w') := fun i w v h k => rtwice_in w vp v (A i) h (hOK i) k
  have HR : Hid (A n = ⟨RX, RY, RZ⟩) := hR
  have HA0 : Hid (A 0 = T3.zero) := hA0
  have HBIT := Hid.mk (N.bit_at K)
  clear hn hK hP hkm hA0 hOK hR HNE
  obtain ⟨pp, hpp⟩ : ∃ q, pP = q := ⟨_, rfl⟩
  rw [hpp] at HPZ HT
  clear hpp
  obtain ⟨V, hV, F⟩ : ∃ V, ((((W.alloc (Obj.cells #[vp] 54 (0, 0))).alloc (Obj.cells #[ax, ay, .bool nb] 47 (0, 0))).alloc (Obj.cells #[.slice none 0 0, .slice none 0 0, .bool false] 47 (0, 0))).alloc (Obj.cells #[.slice none 0 0, .slice none 0 0, .slice none 0 0] 96 (0, 0))) = V ∧ Fm W [(W.heap.size + 3, Obj.cells #[.slice none 0 0, .slice none 0 0, .slice none 0 0] 96 (0, 0)), (W.heap.size + 2, Obj.cells #[.slice none 0 0, .slice none 0 0, .bool false] 47 (0, 0)), (W.heap.size + 1, Obj.cells #[ax, ay, .bool nb] 47 (0, 0)), (W.heap.size, Obj.cells #[vp] 54 (0, 0))] V := ⟨_, rfl, Fm.box4 W _ _ _ _⟩
  go_enter Tryz.func32, Tryz.ntmps32
  go_upto_region 2 with fail
  simp only [Nat.add_assoc, Nat.reduceAdd]
  clear hV
  go_wp2_with fail
  refine (HB.out _ (HKZ.out _ F.bel)).mono ?_
  rintro e u1 ⟨rfl, rfl⟩
  go_wp2_with fail
  go_loopw [8] (fun kv wr => ∃ j : Nat, j ≤ n ∧ kv = .int .i64 ((j : Int) - 1) ∧ ∃ x y z, Fm W [(W.heap.size + 3, Obj.cells #[x, y, z] 96 (0, 0)), (W.heap.size + 2, Obj.cells #[.slice none 0 0, .slice none 0 0, .bool false] 47 (0, 0)), (W.heap.size + 1, Obj.cells #[ax, ay, .bool nb] 47 (0, 0)), (W.heap.size, Obj.cells #[vp] 54 (0, 0))] wr ∧ Sc wr (.agg #[x, y, z]) (A (n - j))) (fun kv _ => (intOf kv + 1).toNat)
  case atStart => exact ⟨n, Nat.le_refl _, by go_num, _, _, _, F, by rw [Nat.sub_self, HA0.out]; exact Sc.zero _⟩
  case round =>
    obtain ⟨j, hj, rfl, x, y, z, Fr, sc⟩ := hrel
    clear F
    rcases Nat.eq_zero_or_pos j with rfl | hj0
    · rw [Nat.sub_zero, HR.out] at sc
      obtain ⟨p1, k1, p2, k2, p3, k3, ee, r1, r2, r3⟩ := sc
      simp only [Value.agg.injEq, Array.mk.injEq, List.cons.injEq, and_true] at ee
      obtain ⟨rfl, rfl, rfl⟩ := ee
      simp only at r1 r2 r3 Fr
      have HBl := Hid.mk Fr.bel
      rw [hm0] at Fr
      have qz : wr.cell? ⟨W.heap.size + 3, 2, none⟩ = some (.slice p3 0 k3) := (N.cells_at (L := [.slice p1 (N.mny RX) k1, .slice p2 (N.mny RY) k2, .slice p3 0 k3]) (Fr.get 0 rfl) rfl).1
      have s6 := pdStore_run (x' := .slice none 0 0) (y' := .slice none 0 0) (z' := .bool true) (Fr.get 1 rfl) rfl rfl rfl
      have F4 := Fr.put 1 #[.slice none 0 0, .slice none 0 0, .bool true] rfl
      clear r1 r2 r3
      go_wp2
      exact bodyPost_ret (results_pd Tryz.results32 rfl (F4.get 1 rfl)) rfl ⟨rfl, F4.bel⟩
    · obtain ⟨k, rfl⟩ : ∃ k, j = k + 1 := ⟨j - 1, by omega⟩
      have hki : ((k + 1 : Nat) : Int) - 1 = (k : Int) := by omega
      rw [hki]
      obtain ⟨i, hi⟩ : ∃ i, n - (k + 1) = i := ⟨_, rfl⟩
      rw [hi] at sc
      have HI1 : Hid (n - k = i + 1) := by show n - k = i + 1; omega
      have hkk : n - (i + 1) = k := by omega
      have hil : i < n := by omega
      have HN1 := Hid.mk (HN.out i hil)
      have HPL1 := Hid.mk (HPL.out i hil)
      rw [hkk] at HN1 HPL1
      obtain ⟨gE, cE, rfl, hgE, hcE⟩ := HOP.out (by omega)
      have HBA := Hid.mk (HBIT.out k)
      have hjm := HKN.out k (by omega)
      obtain ⟨jd, hjd⟩ : ∃ jd, k / 32 = jd := ⟨_, rfl⟩
      obtain ⟨r, hr⟩ : ∃ r, k % 32 = r := ⟨_, rfl⟩
      rw [hjd, hr] at HBA
      rw [hjd] at hjm
      have hce := hcE jd hjm
      obtain ⟨dd, hdd⟩ : ∃ dd, K / 4294967296 ^ jd % 4294967296 = dd := ⟨_, rfl⟩
      rw [hdd] at hce HBA
      have hdl : dd < 4294967296 := by rw [← hdd]; exact Nat.mod_lt _ (by omega)
      obtain ⟨qd, hqd⟩ : ∃ qd, dd / 2 ^ r = qd := ⟨_, rfl⟩
      rw [hqd] at HBA
      have hql : qd < 4294967296 := by rw [← hqd]; exact Nat.lt_of_le_of_lt (Nat.div_le_self _ _) hdl
      have t1 : (k : Int).tdiv 32 = (jd : Int) := by rw [Int.tdiv_eq_ediv_of_nonneg (by omega)]; omega
      have t2 : (k : Int) / 32 = (jd : Int) := by omega
      have t3 : (k : Int).tmod 32 = (r : Int) := by rw [Int.tmod_eq_emod_of_nonneg (by omega)]; omega
      have t4 : (k : Int) % 32 = (r : Int) := by omega
      have t6 : (dd : Int) / 2 ^ r = (qd : Int) := by rw [← hqd, Int.natCast_ediv, Int.natCast_pow]; rfl
      have hr32 : r < 32 := by omega
      obtain ⟨nE, hnE⟩ : ∃ nE, N.mny K = nE := ⟨_, rfl⟩
      rw [hnE] at hjm HB HKZ ⊢
      have hj' : (jd : Int) < (nE : Int) := by omega
      have hk0 : (0 : Int) ≤ (k : Int) := by omega
      have HCE := Hid.mk hce
      clear hjd hr hqd hdd hcE hnE HOP HKN hce hi hkk hil
      have HT1 := Hid.mk (HT.out i)
      obtain ⟨An, hAn⟩ : ∃ An, A (i + 1) = An := ⟨_, rfl⟩
      rw [hAn] at HN1 HPL1
      have HAN := Hid.mk hAn
      clear hAn
      obtain ⟨Ai, hAi⟩ : ∃ Ai, A i = Ai := ⟨_, rfl⟩
      rw [hAi] at sc HT1 HN1 HPL1
      obtain ⟨A2, hA2⟩ : ∃ A2, Ai.dtwice = A2 := ⟨_, rfl⟩
      rw [hA2] at HT1 HN1 HPL1
      clear hAi hA2
      have ld := sdLoad_run (Fr.get 0 rfl)
      have qf : wr.cell? ⟨W.heap.size, 0, none⟩ = some vp := (N.cells_at (L := [vp]) (Fr.get 3 rfl) rfl).1
      go_wp2_with fail
      refine (HT1.out _ _ (HPZ.out _ Fr.bel) sc).mono ?_
      rintro e w4 ⟨v4, rfl, sc4, hb⟩
      replace Fr := Fr.blk hb
      clear hb ld qf sc
      obtain ⟨p1, k1, p2, k2, p3, k3, rfl, r1, r2, r3⟩ := sc4
      have s7 := sdStore_run (x' := .slice p1 (N.mny A2.x) k1) (y' := .slice p2 (N.mny A2.y) k2) (z' := .slice p3 (N.mny A2.z) k3) (Fr.get 0 rfl) rfl rfl rfl
      have g1 := rn_rows (x := #[.slice p1 (N.mny A2.x) k1, .slice p2 (N.mny A2.y) k2, .slice p3 (N.mny A2.z) k3]) r1 (Fr.get 0 rfl)
      have g2 := rn_rows (x := #[.slice p1 (N.mny A2.x) k1, .slice p2 (N.mny A2.y) k2, .slice p3 (N.mny A2.z) k3]) r2 (Fr.get 0 rfl)
      have g3 := rn_rows (x := #[.slice p1 (N.mny A2.x) k1, .slice p2 (N.mny A2.y) k2, .slice p3 (N.mny A2.z) k3]) r3 (Fr.get 0 rfl)
      clear r1 r2 r3
      replace Fr := Fr.put 0 #[.slice p1 (N.mny A2.x) k1, .slice p2 (N.mny A2.y) k2, .slice p3 (N.mny A2.z) k3] rfl
      simp only [List.set_cons_zero] at Fr
      go_upto_region 6 with fail
      clear s7
      generalize w4.setRow (W.heap.size + 3) #[.slice p1 (N.mny A2.x) k1, .slice p2 (N.mny A2.y) k2, .slice p3 (N.mny A2.z) k3] = w5 at Fr g1 g2 g3 ⊢
      have sc5 : Sc w5 (.agg #[.slice p1 (N.mny A2.x) k1, .slice p2 (N.mny A2.y) k2, .slice p3 (N.mny A2.z) k3]) A2 := ⟨_, _, _, _, _, _, rfl, g1, g2, g3⟩
      clear g1 g2 g3
      have cE5 : w5.cell? ⟨gE, jd, none⟩ = some (.int .u32 (dd : Int)) := (Fr.bel.cell (p := ⟨gE, jd, none⟩) hgE).trans HCE.out
      have qn : w5.cell? ⟨W.heap.size + 1, 2, none⟩ = some (.bool nb) := (N.cells_at (L := [ax, ay, .bool nb]) (Fr.get 2 rfl) rfl).1
      generalize Value.slice p1 (N.mny A2.x) k1 = x5 at *
      generalize Value.slice p2 (N.mny A2.y) k2 = y5 at *
      generalize Value.slice p3 (N.mny A2.z) k3 = z5 at *
      by_cases hbit : qd % 2 = 1
      · have hb' : K / 2 ^ k % 2 = 1 := by rw [← HBA.out]; exact hbit
        have u1 : (qd : Int) % 2 = 1 := by omega
        have u2 : (qd : Int).tmod 2 = 1 := by rw [Int.tmod_eq_emod_of_nonneg (by omega)]; omega
        cases nb with
        | true =>
          have e1 := HN1.out (.inr rfl)
          rw [← e1] at sc5
          have SC := Hid.mk sc5
          clear hb' hbit e1 sc5 HN1 HPL1 HBA
          go_wp2
          go_roundw
          case rel => exact ⟨k, by omega, by go_num, _, _, _, Fr, by rw [HI1.out, HAN.out]; exact SC.out⟩
          case measure => simp [intOf]
        | false =>
          have HC := Hid.mk (HPL1.out hb' rfl)
          have ld := sdLoad_run (Fr.get 0 rfl)
          have lp := pdLoad_run (Fr.get 2 rfl)
          have qf : w5.cell? ⟨W.heap.size, 0, none⟩ = some vp := (N.cells_at (L := [vp]) (Fr.get 3 rfl) rfl).1
          have SC := Hid.mk sc5
          clear hb' hbit sc5 HN1 HPL1 HBA
          go_wp2_with fail
          refine (HC.out _ _ Fr.bel SC.out).mono ?_
          rintro e w6 ⟨v6, rfl, sc6, hb⟩
          replace Fr := Fr.blk hb
          clear hb ld lp qf qn cE5 SC
          obtain ⟨p1, k1, p2, k2, p3, k3, rfl, r1, r2, r3⟩ := sc6
          have s7 := sdStore_run (x' := .slice p1 (N.mny An.x) k1) (y' := .slice p2 (N.mny An.y) k2) (z' := .slice p3 (N.mny An.z) k3) (Fr.get 0 rfl) rfl rfl rfl
          have g1 := rn_rows (x := #[.slice p1 (N.mny An.x) k1, .slice p2 (N.mny An.y) k2, .slice p3 (N.mny An.z) k3]) r1 (Fr.get 0 rfl)
          have g2 := rn_rows (x := #[.slice p1 (N.mny An.x) k1, .slice p2 (N.mny An.y) k2, .slice p3 (N.mny An.z) k3]) r2 (Fr.get 0 rfl)
          have g3 := rn_rows (x := #[.slice p1 (N.mny An.x) k1, .slice p2 (N.mny An.y) k2, .slice p3 (N.mny An.z) k3]) r3 (Fr.get 0 rfl)
          clear r1 r2 r3
          replace Fr := Fr.put 0 #[.slice p1 (N.mny An.x) k1, .slice p2 (N.mny An.y) k2, .slice p3 (N.mny An.z) k3] rfl
          simp only [List.set_cons_zero] at Fr
          have SC6 : Hid (Sc _ (.agg #[.slice p1 (N.mny An.x) k1, .slice p2 (N.mny An.y) k2, .slice p3 (N.mny An.z) k3]) An) := ⟨_, _, _, _, _, _, rfl, g1, g2, g3⟩
          clear g1 g2 g3
          go_wp2
          go_roundw
          case rel => exact ⟨k, by omega, by go_num, _, _, _, Fr, by rw [HI1.out, HAN.out]; exact SC6.out⟩
          case measure => simp [intOf]
      · have hb0 : qd % 2 = 0 := by omega
        have hb' : K / 2 ^ k % 2 = 0 := by rw [← HBA.out]; exact hb0
        have e1 := HN1.out (.inl hb')
        rw [← e1] at sc5
        have SC := Hid.mk sc5
        have u1 : (qd : Int) % 2 = 0 := by omega
        have u2 : (qd : Int).tmod 2 = 0 := by rw [Int.tmod_eq_emod_of_nonneg (by omega)]; omega
        clear hb' hbit hb0 e1 sc5 HN1 HPL1 HBA
        go_wp2
        go_roundw
        case rel => exact ⟨k, by omega, by go_num, _, _, _, Fr, by rw [HI1.out, HAN.out]; exact SC.out⟩
        case measure => simp [intOf]
set_option maxRecDepth 100000 in
set_option maxHeartbeats 2000000 in
theorem rtimes_n (W : World) (vp vk ax ay : Value) (nb : Bool) (K n : Nat) (A : Nat → T3) (RX RY RZ iv zz z3 X3 Y3 : Nat) (hP : RN W vp pP) (hK : RN W vk K) (hkm : N.mny K ≤ 300) (hn : N.btl K = n) (hA0 : A 0 = T3.zero) (hOK : ∀ i, (A i).Ok) (HN : Hid (∀ i, i < n → (K / 2 ^ (n - (i + 1)) % 2 = 0 ∨ nb = true) → A (i + 1) = (A i).dtwice)) (HPL : Hid (∀ i, i < n → K / 2 ^ (n - (i + 1)) % 2 = 1 → nb = false → ∀ w v, Below W.heap.size W w → Sc w v (A i).dtwice → Calls Tryz.prog 66 #[.agg #[vp], v, .agg #[ax, ay, .bool nb]] w fun e w' => ∃ v', e = .returned v' ∧ Sc w' v' (A (i + 1)) ∧ Below w.heap.size w w')) (hR : A n = ⟨RX, RY, RZ⟩) (h0 : RZ ≠ 0) (e_iv : ivN pP RZ = iv) (e_zz : mtimes iv iv = zz) (e_z3 : mtimes zz iv = z3) (e_X3 : mtimes RX zz = X3) (e_Y3 : mtimes RY z3 = Y3) : Calls Tryz.prog 32 #[.agg #[vp], vk, .agg #[ax, ay, .bool nb]] W fun e w' => ∃ p k p' k', e = .returned (.agg #[.slice p (N.mny X3) k, .slice p' (N.mny Y3) k', .bool false]) ∧ RN w' (.slice p (N.mny X3) k) X3 ∧ RN w' (.slice p' (N.mny Y3) k') Y3 ∧ Below W.heap.size W w' := by
  have hRok : (⟨RX, RY, RZ⟩ : T3).Ok := by rw [← hR]; exact hOK n
  have l1 : RX < pP := hRok.1
  have l2 : RY < pP := hRok.2.1
  have l3 : RZ < pP := hRok.2.2
  have b_iv : iv < pP := by rw [← e_iv]; exact (iv_spec pr_P h0 l3).2
  have b_zz : zz < pP := by rw [← e_zz]; exact mtimes_lt _ _
  have b_z3 : z3 < pP := by rw [← e_z3]; exact mtimes_lt _ _
  have HIV : Hid (∀ w va, RN w vp pP → RN w va RZ → Calls Tryz.prog 36 #[.agg #[vp], va] w fun e w' => ∃ v, e = .returned v ∧ RN w' v iv ∧ Below w.heap.size w w') := fun w va h k => (rfInv w vp va RZ h k l3 h0).mono fun e w' ⟨v, q1, q2, q3⟩ => ⟨v, q1, by rw [← e_iv]; exact q2, q3⟩
  have H11 : Hid (∀ w va vb, RN w vp pP → RN w va iv → RN w vb iv → Calls Tryz.prog 37 #[.agg #[vp], va, vb] w fun e w' => ∃ v, e = .returned v ∧ RN w' v zz ∧ Below w.heap.size w w') := fun w va vb h k l => (rfMul w vp va vb iv iv h k l b_iv b_iv).mono fun e w' ⟨v, q1, q2, q3⟩ => ⟨v, q1, by rw [← e_zz]; exact q2, q3⟩
  have H64 : Hid (∀ w va vb, RN w vp pP → RN w va zz → RN w vb iv → Calls Tryz.prog 37 #[.agg #[vp], va, vb] w fun e w' => ∃ v, e = .returned v ∧ RN w' v z3 ∧ Below w.heap.size w w') := fun w va vb h k l => (rfMul w vp va vb zz iv h k l b_zz b_iv).mono fun e w' ⟨v, q1, q2, q3⟩ => ⟨v, q1, by rw [← e_z3]; exact q2, q3⟩
  have H57D : Hid (∀ w va vb, RN w vp pP → RN w va RX → RN w vb zz → Calls Tryz.prog 37 #[.agg #[vp], va, vb] w fun e w' => ∃ v, e = .returned v ∧ RN w' v X3 ∧ Below w.heap.size w w') := fun w va vb h k l => (rfMul w vp va vb RX zz h k l l1 b_zz).mono fun e w' ⟨v, q1, q2, q3⟩ => ⟨v, q1, by rw [← e_X3]; exact q2, q3⟩
  have H65D : Hid (∀ w va vb, RN w vp pP → RN w va RY → RN w vb z3 → Calls Tryz.prog 37 #[.agg #[vp], va, vb] w fun e w' => ∃ v, e = .returned v ∧ RN w' v Y3 ∧ Below w.heap.size w w') := fun w va vb h k l => (rfMul w vp va vb RY z3 h k l l2 b_z3).mono fun e w' ⟨v, q1, q2, q3⟩ => ⟨v, q1, by rw [← e_Y3]; exact q2, q3⟩
  have H57 : Hid (∀ w va vb, RN w vp pP → RN w va RX → RN w vb zz → Calls Tryz.prog 37 #[.agg #[vp], va, vb] w fun e w' => ∃ p k, e = .returned (.slice p (N.mny X3) k) ∧ RN w' (.slice p (N.mny X3) k) X3 ∧ Below w.heap.size w w') := fun w va vb h k l => (H57D.out w va vb h k l).mono fun e w' ⟨v, q1, q2, q3⟩ => by
    obtain ⟨p, c, rfl⟩ := q2.sl
    exact ⟨p, c, q1, q2, q3⟩
  clear H57D
  have H65 : Hid (∀ w va vb, RN w vp pP → RN w va RY → RN w vb z3 → Calls Tryz.prog 37 #[.agg #[vp], va, vb] w fun e w' => ∃ p k, e = .returned (.slice p (N.mny Y3) k) ∧ RN w' (.slice p (N.mny Y3) k) Y3 ∧ Below w.heap.size w w') := fun w va vb h k l => (H65D.out w va vb h k l).mono fun e w' ⟨v, q1, q2, q3⟩ => by
    obtain ⟨p, c, rfl⟩ := q2.sl
    exact ⟨p, c, q1, q2, q3⟩
  clear H65D
  have hl0 := mny_0 h0
  clear hRok l1 l2 l3 b_iv b_zz b_z3 e_iv e_zz e_z3 e_X3 e_Y3
  have HB : Hid (∀ w, RN w vk K → Calls Tryz.prog 64 #[vk] w fun e w' => e = .returned (.int .i64 (n : Int)) ∧ w' = w) := fun w h => by rw [← hn]; exact N.rbits_in w vk K h (by omega)
  have hn4 : n ≤ 9600 := by
    rw [← hn]
    unfold N.btl
    unfold N.mny at hkm
    split
    · omega
    · rename_i h0
      rw [if_neg h0] at hkm
      omega
  have HNE : Hid (0 < n → K ≠ 0) := fun h h0 => by rw [h0] at hn; have : N.btl 0 = 0 := rfl; omega
  have HKN : Hid (∀ k, k < n → k / 32 < N.mny K) := fun k hk => by
    have h0 := HNE.out (by omega)
    rw [← hn] at hk
    unfold N.btl at hk
    unfold N.mny
    rw [if_neg h0] at hk ⊢
    omega
  have HKZ : Hid (∀ w : World, Below W.heap.size W w → RN w vk K) := fun w h => RN.blk h hK
  have HPZ : Hid (∀ w : World, Below W.heap.size W w → RN w vp pP) := fun w h => RN.blk h hP
  have HOP : Hid (0 < n → ∃ g cap, vk = .slice (some ⟨g, 0, none⟩) (N.mny K) cap ∧ g < W.heap.size ∧ ∀ j, j < N.mny K → W.cell? ⟨g, j, none⟩ = some (.int .u32 ((K / 4294967296 ^ j % 4294967296 : Nat) : Int))) := fun h => by
    obtain ⟨g, cap, ds, h1, h2, h3, h4, h5⟩ := hK.open (HNE.out h)
    refine ⟨g, cap, h1, h2, fun j hj => ?_⟩
    rw [h5 j hj, N.dig_of ds j (by omega), h4]
  have HT : Hid (∀ i w v, RN w vp pP → Sc w v (A i) → Calls Tryz.prog 65 #[.agg #[vp], v] w fun e w' => ∃ v', e = .returned v' ∧ Sc w' v' (A i).dtwice ∧ Below w.heap.size w w') := fun i w v h k => rtwice_in w vp v (A i) h (hOK i) k
  have HR : Hid (A n = ⟨RX, RY, RZ⟩) := hR
  have HA0 : Hid (A 0 = T3.zero) := hA0
  have HBIT := Hid.mk (N.bit_at K)
  clear hn hK hP hkm hA0 hOK hR HNE
  obtain ⟨pp, hpp⟩ : ∃ q, pP = q := ⟨_, rfl⟩
  rw [hpp] at HPZ HT HIV H11 H64 H57 H65
  clear hpp
  obtain ⟨V, hV, F⟩ : ∃ V, ((((W.alloc (Obj.cells #[vp] 54 (0, 0))).alloc (Obj.cells #[ax, ay, .bool nb] 47 (0, 0))).alloc (Obj.cells #[.slice none 0 0, .slice none 0 0, .bool false] 47 (0, 0))).alloc (Obj.cells #[.slice none 0 0, .slice none 0 0, .slice none 0 0] 96 (0, 0))) = V ∧ Fm W [(W.heap.size + 3, Obj.cells #[.slice none 0 0, .slice none 0 0, .slice none 0 0] 96 (0, 0)), (W.heap.size + 2, Obj.cells #[.slice none 0 0, .slice none 0 0, .bool false] 47 (0, 0)), (W.heap.size + 1, Obj.cells #[ax, ay, .bool nb] 47 (0, 0)), (W.heap.size, Obj.cells #[vp] 54 (0, 0))] V := ⟨_, rfl, Fm.box4 W _ _ _ _⟩
  go_enter Tryz.func32, Tryz.ntmps32
  go_upto_region 2 with fail
  simp only [Nat.add_assoc, Nat.reduceAdd]
  clear hV
  go_wp2_with fail
  refine (HB.out _ (HKZ.out _ F.bel)).mono ?_
  rintro e u1 ⟨rfl, rfl⟩
  go_wp2_with fail
  go_loopw [8] (fun kv wr => ∃ j : Nat, j ≤ n ∧ kv = .int .i64 ((j : Int) - 1) ∧ ∃ x y z, Fm W [(W.heap.size + 3, Obj.cells #[x, y, z] 96 (0, 0)), (W.heap.size + 2, Obj.cells #[.slice none 0 0, .slice none 0 0, .bool false] 47 (0, 0)), (W.heap.size + 1, Obj.cells #[ax, ay, .bool nb] 47 (0, 0)), (W.heap.size, Obj.cells #[vp] 54 (0, 0))] wr ∧ Sc wr (.agg #[x, y, z]) (A (n - j))) (fun kv _ => (intOf kv + 1).toNat)
  case atStart => exact ⟨n, Nat.le_refl _, by go_num, _, _, _, F, by rw [Nat.sub_self, HA0.out]; exact Sc.zero _⟩
  case round =>
    obtain ⟨j, hj, rfl, x, y, z, Fr, sc⟩ := hrel
    clear F
    rcases Nat.eq_zero_or_pos j with rfl | hj0
    · rw [Nat.sub_zero, HR.out] at sc
      obtain ⟨p1, k1, p2, k2, p3, k3, ee, r1, r2, r3⟩ := sc
      simp only [Value.agg.injEq, Array.mk.injEq, List.cons.injEq, and_true] at ee
      obtain ⟨rfl, rfl, rfl⟩ := ee
      simp only at r1 r2 r3 Fr
      have HBl := Hid.mk Fr.bel
      replace Fr := Fr.swap
      obtain ⟨L, hL⟩ : ∃ L : List (Nat × Obj), [(W.heap.size + 3, Obj.cells #[.slice p1 (N.mny RX) k1, .slice p2 (N.mny RY) k2, .slice p3 (N.mny RZ) k3] 96 (0, 0)), (W.heap.size + 1, Obj.cells #[ax, ay, .bool nb] 47 (0, 0)), (W.heap.size, Obj.cells #[vp] 54 (0, 0))] = L := ⟨_, rfl⟩
      rw [hL] at Fr
      have HS : Hid (∀ w, Fd W (W.heap.size + 2) L w → Fd W (W.heap.size + 2) L w ∧ w.cell? ⟨W.heap.size, 0, none⟩ = some vp ∧ w.cell? ⟨W.heap.size + 3, 0, none⟩ = some (.slice p1 (N.mny RX) k1) ∧ w.cell? ⟨W.heap.size + 3, 1, none⟩ = some (.slice p2 (N.mny RY) k2) ∧ w.cell? ⟨W.heap.size + 3, 2, none⟩ = some (.slice p3 (N.mny RZ) k3) ∧ (∀ p n c p' n' c', (pdStore (.pointer (some ⟨W.heap.size + 2, 0, none⟩)) (.agg #[.slice p n c, .slice p' n' c', .bool false])).run Tryz.prog w = .ok () (w.setRow (W.heap.size + 2) #[.slice p n c, .slice p' n' c', .bool false]))) := fun w h => ⟨h, (N.cells_at (L := [vp]) (h.get 2 (by rw [← hL]; rfl)) rfl).1, (N.cells_at (L := [.slice p1 (N.mny RX) k1, .slice p2 (N.mny RY) k2, .slice p3 (N.mny RZ) k3]) (h.get 0 (by rw [← hL]; rfl)) rfl).1, (N.cells_at (L := [.slice p1 (N.mny RX) k1, .slice p2 (N.mny RY) k2, .slice p3 (N.mny RZ) k3]) (h.get 0 (by rw [← hL]; rfl)) rfl).1, (N.cells_at (L := [.slice p1 (N.mny RX) k1, .slice p2 (N.mny RY) k2, .slice p3 (N.mny RZ) k3]) (h.get 0 (by rw [← hL]; rfl)) rfl).1, h.st⟩
      have Z : Fd W (W.heap.size + 2) L _ := ⟨_, _, _, Fr⟩
      clear Fr hL HBl
      obtain ⟨-, qf, qx, qy, qz, qst⟩ := HS.out _ Z
      go_wp2_with fail
      refine (HIV.out _ _ (HPZ.out _ Z.bel) r3).mono ?_
      rintro e y1 ⟨vi, rfl, ri, hb⟩
      replace Z := Z.blk hb
      replace r1 := RN.blk hb r1
      replace r2 := RN.blk hb r2
      clear hb qf qx qy qz qst r3
      obtain ⟨-, qf, qx, qy, qz, qst⟩ := HS.out _ Z
      go_wp2_with fail
      refine (H11.out _ _ _ (HPZ.out _ Z.bel) ri ri).mono ?_
      rintro e y2 ⟨vz, rfl, rz, hb⟩
      replace Z := Z.blk hb
      replace r1 := RN.blk hb r1
      replace r2 := RN.blk hb r2
      replace ri := RN.blk hb ri
      clear hb qf qx qy qz qst
      have r81 := RN.drew' r1
      have r82 := RN.drew' r2
      have r83 := RN.drew' ri
      have r84 := RN.drew' rz
      clear r1 r2 ri rz
      go_upto_region 12 with fail
      have hS0 := HS.out _ Z
      go_region_held3 (fun w => Fd W (W.heap.size + 2) L w ∧ w.cell? ⟨W.heap.size, 0, none⟩ = some vp ∧ w.cell? ⟨W.heap.size + 3, 0, none⟩ = some (.slice p1 (N.mny RX) k1) ∧ w.cell? ⟨W.heap.size + 3, 1, none⟩ = some (.slice p2 (N.mny RY) k2) ∧ w.cell? ⟨W.heap.size + 3, 2, none⟩ = some (.slice p3 (N.mny RZ) k3) ∧ (∀ p n c p' n' c', (pdStore (.pointer (some ⟨W.heap.size + 2, 0, none⟩)) (.agg #[.slice p n c, .slice p' n' c', .bool false])).run Tryz.prog w = .ok () (w.setRow (W.heap.size + 2) #[.slice p n c, .slice p' n' c', .bool false])))
        (first | assumption | (apply HS.out; repeat (first | assumption | apply Fd.drew | apply Fd.set)))
        (first
          | (go_at_call 37; with_reducible refine (H65.out _ _ _ (HPZ.out _ (Fd.bel (by repeat (first | assumption | apply Fd.drew)))) r82 r64).mono ?_; rintro e w65 ⟨p65, k65, rfl, r65, hb65⟩; have F65 := Fd.blk (by repeat (first | assumption | apply Fd.drew)) hb65; have hs65 := HS.out _ F65; have r57 := RN.blk hb65 r57)
          | (go_at_call 37; with_reducible refine (H64.out _ _ _ (HPZ.out _ (Fd.bel (by repeat (first | assumption | apply Fd.drew)))) r84 r83).mono ?_; rintro e w64 ⟨v64, rfl, r64, hb64⟩; have F64 := Fd.blk (by repeat (first | assumption | apply Fd.drew)) hb64; have hs64 := HS.out _ F64; have r57 := RN.blk hb64 r57; have r82 := RN.blk hb64 r82)
          | (go_at_call 37; with_reducible refine (H57.out _ _ _ (HPZ.out _ (Fd.bel (by repeat (first | assumption | apply Fd.drew)))) r81 r84).mono ?_; rintro e w57 ⟨p57, k57, rfl, r57, hb57⟩; have F57 := Fd.blk (by repeat (first | assumption | apply Fd.drew)) hb57; have hs57 := HS.out _ F57; have r82 := RN.blk hb57 r82; have r83 := RN.blk hb57 r83; have r84 := RN.blk hb57 r84))
      have F6 := F65.fin (.slice p57 (N.mny X3) k57) (.slice p65 (N.mny Y3) k65) (.bool false)
      obtain ⟨LL, hLL⟩ := F65.at
      go_wp2
      exact bodyPost_ret (results_pd Tryz.results32 rfl (F6.get 0 rfl)) rfl ⟨_, _, _, _, rfl, rn_row r57 hLL, rn_row r65 hLL, F6.bel⟩
    · obtain ⟨k, rfl⟩ : ∃ k, j = k + 1 := ⟨j - 1, by omega⟩
      have hki : ((k + 1 : Nat) : Int) - 1 = (k : Int) := by omega
      rw [hki]
      obtain ⟨i, hi⟩ : ∃ i, n - (k + 1) = i := ⟨_, rfl⟩
      rw [hi] at sc
      have HI1 : Hid (n - k = i + 1) := by show n - k = i + 1; omega
      have hkk : n - (i + 1) = k := by omega
      have hil : i < n := by omega
      have HN1 := Hid.mk (HN.out i hil)
      have HPL1 := Hid.mk (HPL.out i hil)
      rw [hkk] at HN1 HPL1
      obtain ⟨gE, cE, rfl, hgE, hcE⟩ := HOP.out (by omega)
      have HBA := Hid.mk (HBIT.out k)
      have hjm := HKN.out k (by omega)
      obtain ⟨jd, hjd⟩ : ∃ jd, k / 32 = jd := ⟨_, rfl⟩
      obtain ⟨r, hr⟩ : ∃ r, k % 32 = r := ⟨_, rfl⟩
      rw [hjd, hr] at HBA
      rw [hjd] at hjm
      have hce := hcE jd hjm
      obtain ⟨dd, hdd⟩ : ∃ dd, K / 4294967296 ^ jd % 4294967296 = dd := ⟨_, rfl⟩
      rw [hdd] at hce HBA
      have hdl : dd < 4294967296 := by rw [← hdd]; exact Nat.mod_lt _ (by omega)
      obtain ⟨qd, hqd⟩ : ∃ qd, dd / 2 ^ r = qd := ⟨_, rfl⟩
      rw [hqd] at HBA
      have hql : qd < 4294967296 := by rw [← hqd]; exact Nat.lt_of_le_of_lt (Nat.div_le_self _ _) hdl
      have t1 : (k : Int).tdiv 32 = (jd : Int) := by rw [Int.tdiv_eq_ediv_of_nonneg (by omega)]; omega
      have t2 : (k : Int) / 32 = (jd : Int) := by omega
      have t3 : (k : Int).tmod 32 = (r : Int) := by rw [Int.tmod_eq_emod_of_nonneg (by omega)]; omega
      have t4 : (k : Int) % 32 = (r : Int) := by omega
      have t6 : (dd : Int) / 2 ^ r = (qd : Int) := by rw [← hqd, Int.natCast_ediv, Int.natCast_pow]; rfl
      have hr32 : r < 32 := by omega
      obtain ⟨nE, hnE⟩ : ∃ nE, N.mny K = nE := ⟨_, rfl⟩
      rw [hnE] at hjm HB HKZ ⊢
      have hj' : (jd : Int) < (nE : Int) := by omega
      have hk0 : (0 : Int) ≤ (k : Int) := by omega
      have HCE := Hid.mk hce
      clear hjd hr hqd hdd hcE hnE HOP HKN hce hi hkk hil
      have HT1 := Hid.mk (HT.out i)
      obtain ⟨An, hAn⟩ : ∃ An, A (i + 1) = An := ⟨_, rfl⟩
      rw [hAn] at HN1 HPL1
      have HAN := Hid.mk hAn
      clear hAn
      obtain ⟨Ai, hAi⟩ : ∃ Ai, A i = Ai := ⟨_, rfl⟩
      rw [hAi] at sc HT1 HN1 HPL1
      obtain ⟨A2, hA2⟩ : ∃ A2, Ai.dtwice = A2 := ⟨_, rfl⟩
      rw [hA2] at HT1 HN1 HPL1
      clear hAi hA2
      have ld := sdLoad_run (Fr.get 0 rfl)
      have qf : wr.cell? ⟨W.heap.size, 0, none⟩ = some vp := (N.cells_at (L := [vp]) (Fr.get 3 rfl) rfl).1
      go_wp2_with fail
      refine (HT1.out _ _ (HPZ.out _ Fr.bel) sc).mono ?_
      rintro e w4 ⟨v4, rfl, sc4, hb⟩
      replace Fr := Fr.blk hb
      clear hb ld qf sc
      obtain ⟨p1, k1, p2, k2, p3, k3, rfl, r1, r2, r3⟩ := sc4
      have s7 := sdStore_run (x' := .slice p1 (N.mny A2.x) k1) (y' := .slice p2 (N.mny A2.y) k2) (z' := .slice p3 (N.mny A2.z) k3) (Fr.get 0 rfl) rfl rfl rfl
      have g1 := rn_rows (x := #[.slice p1 (N.mny A2.x) k1, .slice p2 (N.mny A2.y) k2, .slice p3 (N.mny A2.z) k3]) r1 (Fr.get 0 rfl)
      have g2 := rn_rows (x := #[.slice p1 (N.mny A2.x) k1, .slice p2 (N.mny A2.y) k2, .slice p3 (N.mny A2.z) k3]) r2 (Fr.get 0 rfl)
      have g3 := rn_rows (x := #[.slice p1 (N.mny A2.x) k1, .slice p2 (N.mny A2.y) k2, .slice p3 (N.mny A2.z) k3]) r3 (Fr.get 0 rfl)
      clear r1 r2 r3
      replace Fr := Fr.put 0 #[.slice p1 (N.mny A2.x) k1, .slice p2 (N.mny A2.y) k2, .slice p3 (N.mny A2.z) k3] rfl
      simp only [List.set_cons_zero] at Fr
      go_upto_region 6 with fail
      clear s7
      generalize w4.setRow (W.heap.size + 3) #[.slice p1 (N.mny A2.x) k1, .slice p2 (N.mny A2.y) k2, .slice p3 (N.mny A2.z) k3] = w5 at Fr g1 g2 g3 ⊢
      have sc5 : Sc w5 (.agg #[.slice p1 (N.mny A2.x) k1, .slice p2 (N.mny A2.y) k2, .slice p3 (N.mny A2.z) k3]) A2 := ⟨_, _, _, _, _, _, rfl, g1, g2, g3⟩
      clear g1 g2 g3
      have cE5 : w5.cell? ⟨gE, jd, none⟩ = some (.int .u32 (dd : Int)) := (Fr.bel.cell (p := ⟨gE, jd, none⟩) hgE).trans HCE.out
      have qn : w5.cell? ⟨W.heap.size + 1, 2, none⟩ = some (.bool nb) := (N.cells_at (L := [ax, ay, .bool nb]) (Fr.get 2 rfl) rfl).1
      generalize Value.slice p1 (N.mny A2.x) k1 = x5 at *
      generalize Value.slice p2 (N.mny A2.y) k2 = y5 at *
      generalize Value.slice p3 (N.mny A2.z) k3 = z5 at *
      by_cases hbit : qd % 2 = 1
      · have hb' : K / 2 ^ k % 2 = 1 := by rw [← HBA.out]; exact hbit
        have u1 : (qd : Int) % 2 = 1 := by omega
        have u2 : (qd : Int).tmod 2 = 1 := by rw [Int.tmod_eq_emod_of_nonneg (by omega)]; omega
        cases nb with
        | true =>
          have e1 := HN1.out (.inr rfl)
          rw [← e1] at sc5
          have SC := Hid.mk sc5
          clear hb' hbit e1 sc5 HN1 HPL1 HBA
          go_wp2
          go_roundw
          case rel => exact ⟨k, by omega, by go_num, _, _, _, Fr, by rw [HI1.out, HAN.out]; exact SC.out⟩
          case measure => simp [intOf]
        | false =>
          have HC := Hid.mk (HPL1.out hb' rfl)
          have ld := sdLoad_run (Fr.get 0 rfl)
          have lp := pdLoad_run (Fr.get 2 rfl)
          have qf : w5.cell? ⟨W.heap.size, 0, none⟩ = some vp := (N.cells_at (L := [vp]) (Fr.get 3 rfl) rfl).1
          have SC := Hid.mk sc5
          clear hb' hbit sc5 HN1 HPL1 HBA
          go_wp2_with fail
          refine (HC.out _ _ Fr.bel SC.out).mono ?_
          rintro e w6 ⟨v6, rfl, sc6, hb⟩
          replace Fr := Fr.blk hb
          clear hb ld lp qf qn cE5 SC
          obtain ⟨p1, k1, p2, k2, p3, k3, rfl, r1, r2, r3⟩ := sc6
          have s7 := sdStore_run (x' := .slice p1 (N.mny An.x) k1) (y' := .slice p2 (N.mny An.y) k2) (z' := .slice p3 (N.mny An.z) k3) (Fr.get 0 rfl) rfl rfl rfl
          have g1 := rn_rows (x := #[.slice p1 (N.mny An.x) k1, .slice p2 (N.mny An.y) k2, .slice p3 (N.mny An.z) k3]) r1 (Fr.get 0 rfl)
          have g2 := rn_rows (x := #[.slice p1 (N.mny An.x) k1, .slice p2 (N.mny An.y) k2, .slice p3 (N.mny An.z) k3]) r2 (Fr.get 0 rfl)
          have g3 := rn_rows (x := #[.slice p1 (N.mny An.x) k1, .slice p2 (N.mny An.y) k2, .slice p3 (N.mny An.z) k3]) r3 (Fr.get 0 rfl)
          clear r1 r2 r3
          replace Fr := Fr.put 0 #[.slice p1 (N.mny An.x) k1, .slice p2 (N.mny An.y) k2, .slice p3 (N.mny An.z) k3] rfl
          simp only [List.set_cons_zero] at Fr
          have SC6 : Hid (Sc _ (.agg #[.slice p1 (N.mny An.x) k1, .slice p2 (N.mny An.y) k2, .slice p3 (N.mny An.z) k3]) An) := ⟨_, _, _, _, _, _, rfl, g1, g2, g3⟩
          clear g1 g2 g3
          go_wp2
          go_roundw
          case rel => exact ⟨k, by omega, by go_num, _, _, _, Fr, by rw [HI1.out, HAN.out]; exact SC6.out⟩
          case measure => simp [intOf]
      · have hb0 : qd % 2 = 0 := by omega
        have hb' : K / 2 ^ k % 2 = 0 := by rw [← HBA.out]; exact hb0
        have e1 := HN1.out (.inl hb')
        rw [← e1] at sc5
        have SC := Hid.mk sc5
        have u1 : (qd : Int) % 2 = 0 := by omega
        have u2 : (qd : Int).tmod 2 = 0 := by rw [Int.tmod_eq_emod_of_nonneg (by omega)]; omega
        clear hb' hbit hb0 e1 sc5 HN1 HPL1 HBA
        go_wp2
        go_roundw
        case rel => exact ⟨k, by omega, by go_num, _, _, _, Fr, by rw [HI1.out, HAN.out]; exact SC.out⟩
        case measure => simp [intOf]
end Go.Proofs.YtpimliebiapnfaaGreatDoor
/- The document's times is the curve's. -/
namespace Go.Proofs.YtpimliebiapnfaaGreatDoor
set_option linter.unusedVariables false
set_option linter.unusedSimpArgs false
open Go.RowKit N
attribute [local go_sem ↓] N.loadAt_nat N.storeAt_nat N.build_nat N.build_nat' loadAt_pt storeAt_pt build_pt0 build_pt0' build_pt'
attribute [local go_sem] N.st1 N.st2a N.st2b N.st1d N.st2ad N.st2bd N.natBuild_run ptst1 ptst1d ptBuild0_run build_pt ptBuild_run
attribute [local go_sem ↓] bin_nat bin_pt
theorem rtimes_in (vp vk ax ay : Value) (nb : Bool) (K : Nat) (p : Ec) (W : World) (hP : RN W vp pP) (hK : RN W vk K) (hkm : N.mny K ≤ 300) (hp : PtD W ax ay nb p) :
    Calls Tryz.prog 32 #[.agg #[vp], vk, .agg #[ax, ay, .bool nb]] W fun e w' => ∃ x y n, e = .returned (.agg #[x, y, .bool n]) ∧ x.oneCell' = true ∧ y.oneCell' = true ∧ PtD w' x y n (Ec.mul K p) ∧ Below W.heap.size W w' := by
  obtain ⟨n, hn⟩ : ∃ n, N.btl K = n := ⟨_, rfl⟩
  have hKn : K < 2 ^ n := by rw [← hn]; exact N.btl_lt K
  cases po : p.o with
  | none =>
    have ep : p = Ec.zero := Ec.ext2 po
    subst ep
    have hna : nb = true := by unfold PtD at hp; rw [po] at hp; exact hp
    subst hna
    rw [Ec.mul_zero]
    exact (rtimes_z W vp vk ax ay true K n (fun _ => T3.zero) 0 0 0 hP hK hkm hn rfl (fun _ => T3.zero_ok) (Hid.mk fun i _ _ => dtwice_zero.symm) (Hid.mk fun i _ _ h => by simp at h) rfl rfl).mono fun e w' ⟨h1, h2⟩ => ⟨_, _, _, h1, rfl, rfl, by unfold PtD; rw [po], h2⟩
  | some q =>
    have hp' := hp
    unfold PtD at hp
    rw [po] at hp
    obtain ⟨rfl, hx, hy⟩ := hp
    obtain ⟨pb, kb, rfl⟩ := hx.sl
    obtain ⟨pd, kd, rfl⟩ := hy.sl
    have lx : q.x.val < pP := q.x.isLt
    have ly : q.y.val < pP := q.y.isLt
    have hpo : p.o = some ⟨fz q.x.val, fz q.y.val⟩ := by rw [po, fz_val, fz_val]
    obtain ⟨ok, rep⟩ := T3.dtimes_rep lx ly p hpo n K hKn
    have hR := accD_end q.x.val q.y.val K n
    have hOK : ∀ i, (accD q.x.val q.y.val K n i).Ok := fun i => T3.dtimes_ok lx ly _ _
    have HN : Hid (∀ i, i < n → (K / 2 ^ (n - (i + 1)) % 2 = 0 ∨ false = true) → accD q.x.val q.y.val K n (i + 1) = (accD q.x.val q.y.val K n i).dtwice) := fun i hi h => by
      rw [accD_step hi, if_neg]
      rcases h with h | h
      · omega
      · simp at h
    have HPL : Hid (∀ i, i < n → K / 2 ^ (n - (i + 1)) % 2 = 1 → false = false → ∀ w v, Below W.heap.size W w → Sc w v (accD q.x.val q.y.val K n i).dtwice → Calls Tryz.prog 66 #[.agg #[vp], v, .agg #[.slice pb (N.mny q.x.val) kb, .slice pd (N.mny q.y.val) kd, .bool false]] w fun e w' => ∃ v', e = .returned v' ∧ Sc w' v' (accD q.x.val q.y.val K n (i + 1)) ∧ Below w.heap.size w w') := fun i hi h _ w v hb sc => by
      rw [accD_step hi, if_pos h]
      exact rplus_in w vp v _ pb pd kb kd q.x.val q.y.val (RN.blk hb hP) (T3.dtwice_ok (hOK i)) sc (RN.blk hb hx) (RN.blk hb hy) lx ly
    obtain ⟨DD, hD⟩ : ∃ D, T3.dtimes q.x.val q.y.val n K = D := ⟨_, rfl⟩
    obtain ⟨RX, RY, RZ⟩ := DD
    rw [hD] at ok rep hR
    have ok3 : RZ < pP := ok.2.2
    by_cases hz : RZ = 0
    · have ho : (Ec.mul K p).o = none := by
        cases hm : (Ec.mul K p).o with
        | none => rfl
        | some u =>
          rw [hm] at rep
          exact absurd (show fz RZ = 0 by rw [hz, fz_0]) rep.1
      exact (rtimes_z W vp vk _ _ false K n (accD q.x.val q.y.val K n) RX RY RZ hP hK hkm hn rfl hOK HN HPL hR hz).mono fun e w' ⟨h1, h2⟩ => ⟨_, _, _, h1, rfl, rfl, by unfold PtD; rw [ho], h2⟩
    · have hi := (iv_spec pr_P hz ok3).1
      cases hm : (Ec.mul K p).o with
      | none =>
        rw [hm] at rep
        have e := (rep_zero ok).1 rep
        exact absurd (congrArg T3.z e) hz
      | some u =>
        rw [hm] at rep
        obtain ⟨e1, e2⟩ := T3.told rep hi
        exact (rtimes_n W vp vk _ _ false K n (accD q.x.val q.y.val K n) RX RY RZ _ _ _ _ _ hP hK hkm hn rfl hOK HN HPL hR hz rfl rfl rfl e1 e2).mono fun e w' ⟨a, b, c, d, h1, h2, h3, h4⟩ => ⟨_, _, false, h1, rfl, rfl, by unfold PtD; rw [hm]; exact ⟨rfl, h2, h3⟩, h4⟩
end Go.Proofs.YtpimliebiapnfaaGreatDoor
/- The document's Sum1. -/
namespace Go.Proofs.YtpimliebiapnfaaGreatDoor.G
set_option linter.unusedVariables false
open Go.RowKit
theorem info31 : (Tryz.prog.info? 35).map (fun i => (i.zero, i.size, i.bytes)) = some (some (.int .u32 0), 1, 4) := by kernel_rfl
theorem made_row {w : World} {base g n : Nat} {e : TypeId} {xs : List Value} (h : w.ownsRow base e 1 (.slice (some ⟨g, 0, none⟩) n n) n xs) : w.heap[g]? = some (.cells xs.toArray e (0, 0)) := by
  rcases h.2 with ⟨hv, h0⟩ | ⟨g', cap', cur, hv, hb, hh, h1, h2, h3, h4⟩
  · cases hv
  · cases hv
    rw [hh]
    have : cur.toList.take (n * 1) = cur.toList := List.take_of_length_le (by rw [Array.length_toList]; omega)
    rw [this] at h4
    rw [← h4]
theorem made_words (n : Nat) : (madeCells (Value.int .u32 0).cells (n * 1)).toList = (List.replicate n (0 : BitVec 32)).map fun x => Value.int .u32 (x.toNat : Int) := by
  apply List.ext_getElem?
  intro k
  simp [madeCells, Value.cells, List.getElem?_replicate]
  by_cases hk : k < n
  · rw [if_pos hk, List.getElem?_range hk]
    simp [Nat.mod_one]
  · rw [if_neg hk, List.getElem?_eq_none (by simpa using hk)]
    rfl
theorem bv_notr (x : BitVec 32) : bits .xor .u32 (x.toNat : Int) 4294967295 = ((~~~x).toNat : Int) := by
  have h := bv_xor x 4294967295#32
  rw [show ((4294967295#32).toNat : Int) = 4294967295 from rfl] at h
  rw [h, ← BitVec.xor_allOnes]
  rfl
end Go.Proofs.YtpimliebiapnfaaGreatDoor.G