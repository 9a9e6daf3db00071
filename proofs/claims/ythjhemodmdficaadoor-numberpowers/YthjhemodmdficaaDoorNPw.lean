/- power. -/
import Derived.Test.YthjhemodmdficaaDoorNDv
import Derived.Test.YthjhemodmdficaaDoorNTms
import Derived.Test.YthjhemodmdficaaDoorNFault
import Derived.Test.YthjhemodmdficaaDoorNPowF
import Derived.Deep.RegionWith
import Derived.Deep.DeepCutAuto
namespace Go.Proofs.YthjhemodmdficaaDoor
set_option linter.unusedVariables false
open Go.RowKit
attribute [local go_sem ↓] loadAt_nat storeAt_nat build_nat build_nat'
attribute [local go_sem] st1 st2a st2b natBuild_run
set_option maxRecDepth 100000 in
set_option maxHeartbeats 1000000 in
theorem power_in (A E M : Nat) (hA : A < Lim) (hE : E < Lim) (hM : M < Lim) (hM0 : M ≠ 0) (hMM : M * M ≤ Lim) (W : World) : Calls Tryd.prog 52 #[.agg (natL A).toArray, .agg (natL E).toArray, .agg (natL M).toArray] W fun e w' => e = .returned (.agg (natL (A ^ E % M)).toArray) ∧ Below W.heap.size W w' := by
  obtain ⟨V, hV, b0, b1, b2, b3, hBl, hsz⟩ := four_new W (natL A) (natL E) (natL M) (natL 0) 27 27 27 27
  have hz := zero26
  have HMA := Hid.mk (modulo_in A M hA hM hM0)
  have HM1 := Hid.mk (modulo_in 1 M (lim_big 1 1 (by omega) (by omega)) hM hM0)
  have HS1 := Hid.mk (small_in 1 (by omega))
  obtain ⟨A', hA'⟩ : ∃ A', A % M = A' := ⟨_, rfl⟩
  rw [hA'] at HMA
  have HA' := Hid.mk hA'
  obtain ⟨o, ho⟩ : ∃ o, 1 % M = o := ⟨_, rfl⟩
  rw [ho] at HM1
  have HO := Hid.mk ho
  clear hA' ho
  have l0 := natLoad_run b0
  have l2 := natLoad_run b2
  go_enter Tryd.func52, Tryd.ntmps52
  go_wp2_with fail
  refine (HMA.out _).mono ?_
  rintro e w1 ⟨rfl, hb1⟩
  have c0 := (hb1.block _ (box_lt b0)).trans b0
  have c1 := (hb1.block _ (box_lt b1)).trans b1
  have c2 := (hb1.block _ (box_lt b2)).trans b2
  have c3 := (hb1.block _ (box_lt b3)).trans b3
  have hBW : Below W.heap.size W w1 := bthen hBl hb1
  clear b0 b1 b2 b3 hV l0 l2 hBl hb1 hsz
  have s0 := natStore_run (N := A') c0
  go_upto_region 2 with fail
  have d0 := setRow_heap w1 _ _ (natL A').toArray _ _ c0
  have d1 := (setRow_other w1 W.heap.size (W.heap.size + 1) (natL A').toArray (by omega)).trans c1
  have d2 := (setRow_other w1 W.heap.size (W.heap.size + 2) (natL A').toArray (by omega)).trans c2
  have d3 := (setRow_other w1 W.heap.size (W.heap.size + 3) (natL A').toArray (by omega)).trans c3
  have hBU := below_row hBW (Nat.le_refl _) (natL A').toArray
  generalize w1.setRow W.heap.size (natL A').toArray = U at d0 d1 d2 d3 hBU ⊢
  clear s0 c0 c1 c2 c3 hBW
  simp only [Nat.add_assoc, Nat.reduceAdd]
  obtain ⟨K, hK⟩ : ∃ K : World → Prop, K = fun w => w.heap[W.heap.size]? = some (.cells (natL A').toArray 27 (0, 0)) ∧ w.heap[W.heap.size + 1]? = some (.cells (natL E).toArray 27 (0, 0)) ∧ w.heap[W.heap.size + 2]? = some (.cells (natL M).toArray 27 (0, 0)) ∧ w.heap[W.heap.size + 3]? = some (.cells (natL 0).toArray 27 (0, 0)) ∧ Below W.heap.size W w := ⟨_, rfl⟩
  have kU : K U := by rw [hK]; exact ⟨d0, d1, d2, d3, hBU⟩
  have kd : ∀ w, K w → K w.drew := by rw [hK]; exact fun w h => ⟨h.1, h.2.1, h.2.2.1, h.2.2.2.1, h.2.2.2.2.drew⟩
  have kb : ∀ w w', K w → Below w.heap.size w w' → K w' := by
    rw [hK]
    exact fun w w' h hb => ⟨(hb.block _ (box_lt h.1)).trans h.1, (hb.block _ (box_lt h.2.1)).trans h.2.1, (hb.block _ (box_lt h.2.2.1)).trans h.2.2.1, (hb.block _ (box_lt h.2.2.2.1)).trans h.2.2.2.1, bthen h.2.2.2.2 hb⟩
  have ka : ∀ w o, K w → K (w.alloc o) := fun w o h => kb w _ h ((Below.refl _ _).alloc (Nat.le_refl _) _)
  have kl : ∀ w, K w → (natLoad (.pointer (some ⟨W.heap.size + 2, 0, none⟩))).run Tryd.prog w = .ok (.agg (natL M).toArray) w := by
    rw [hK]; exact fun w h => natLoad_run h.2.2.1
  have ksz : ∀ w, K w → W.heap.size + 4 ≤ w.heap.size := by rw [hK]; exact fun w h => box_lt h.2.2.2.1
  have ks : ∀ w b (x : Array Value), K w → W.heap.size + 4 ≤ b → K (w.setRow b x) := by
    rw [hK]
    exact fun w b x h hb => ⟨(setRow_other _ _ _ _ (by omega)).trans h.1, (setRow_other _ _ _ _ (by omega)).trans h.2.1, (setRow_other _ _ _ _ (by omega)).trans h.2.2.1, (setRow_other _ _ _ _ (by omega)).trans h.2.2.2.1, below_row h.2.2.2.2 (by omega) _⟩
  have HKe : Hid (∀ w, K w → w.heap[W.heap.size]? = some (.cells (natL A').toArray 27 (0, 0)) ∧ w.heap[W.heap.size + 1]? = some (.cells (natL E).toArray 27 (0, 0)) ∧ w.heap[W.heap.size + 2]? = some (.cells (natL M).toArray 27 (0, 0)) ∧ w.heap[W.heap.size + 3]? = some (.cells (natL 0).toArray 27 (0, 0)) ∧ Below W.heap.size W w) := by rw [hK]; exact fun w h => h
  clear d0 d1 d2 d3 hBU
  clear hK
  have KB := Hid.mk kb
  clear kb
  have lU := kl _ (kd _ kU)
  have lUa := fun o => kl (U.alloc o).drew (kd _ (ka _ o kU))
  go_cut [7] (fun s7 wx => ∃ b, s7 = .pointer (some ⟨b, 0, none⟩) ∧ K wx ∧ wx.heap[b]? = some (.cells (natL o).toArray 27 (0, 0)) ∧ W.heap.size + 4 ≤ b)
  case first =>
    go_region_with (first
      | (go_at_call 12; refine (HS1.out _).mono ?_; rintro e w2 ⟨rfl, hb2⟩; have k2 := KB.out _ _ (by first | exact kd _ kU | exact kd _ (ka _ _ kU)) hb2; have l2 := kl _ k2; have l2a := fun o => kl (w2.alloc o) (ka _ o k2); try have g2 := (hb2.block U.heap.size (by simp)).trans (heap_new U _))
      | (go_at_call 70; refine (HM1.out _).mono ?_; rintro e w3 ⟨rfl, hb3⟩; have k3 := KB.out _ _ (by first | exact k2 | exact ka _ _ k2) hb3; first | (have g3 := (hb3.block _ (box_lt g2)).trans g2; have s3 := natStore_run (N := o) g3) | (have g3 := (hb3.block w2.heap.size (by simp)).trans (heap_new w2 _); have s3 := natStore_run (N := o) g3) | skip))
    all_goals go_wp2
    all_goals go_meet
    all_goals (first
      | exact ⟨w3.heap.size, rfl, ka _ _ k3, heap_new _ _, ksz _ k3⟩
      | exact ⟨w2.heap.size, rfl, ks _ _ _ k3 (ksz _ k2), setRow_heap _ _ _ _ _ _ g3, ksz _ k2⟩
      | exact ⟨U.heap.size, rfl, ks _ _ _ k3 (ksz _ kU), setRow_heap _ _ _ _ _ _ g3, ksz _ kU⟩)
  case rest =>
    obtain ⟨b, rfl, kR, hbb, hbge⟩ := hcut
    clear lU lUa kU
    obtain ⟨n, hn⟩ : ∃ n, btl E = n := ⟨_, rfl⟩
    have HBT := Hid.mk (bits_in E hE)
    rw [hn] at HBT
    have hn4 : n ≤ 4096 := by rw [← hn]; exact btl_le E hE
    have HEn : Hid (E < 2 ^ n) := by rw [Hid, ← hn]; exact btl_lt E
    have HDG : Hid (∀ j, j < 128 → ((dg E)[j]?.getD 0).toNat = E / 4294967296 ^ j % 4294967296) := fun j hj => dg_at E hE j hj
    clear hn
    have HTM : Hid (∀ (X Y : Nat), X < M → Y < M → ∀ W : World, Calls Tryd.prog 71 #[.agg (natL X).toArray, .agg (natL Y).toArray, .agg (natL M).toArray] W fun e w' => e = .returned (.agg (natL (X * Y % M)).toArray) ∧ Below W.heap.size W w') := fun X Y hX hY => times_in X Y M (by omega) (by omega) (by
      have h1 : X * Y < M * M := Nat.mul_lt_mul'' hX hY
      omega) hM hM0
    have lE := natLoad_run (HKe.out _ kR).2.1
    have HPW : Hid (∀ i, pwr A E M n i < M) := fun i => pwr_lt A E M n i hM0
    have hA'M : A' < M := by rw [← HA'.out]; exact Nat.mod_lt _ (by omega)
    go_wp2_with fail
    refine (HBT.out _).mono ?_
    rintro e w1 ⟨rfl, hb1⟩
    have kR1 := KB.out _ _ kR hb1
    have hbb1 := (hb1.block _ (box_lt hbb)).trans hbb
    clear lE hb1 hbb kR
    go_wp2_with fail
    go_loopw [18] (fun iv wr => ∃ i : Nat, i ≤ n ∧ iv = .int .i64 (i : Int) ∧ wr.heap[b]? = some (.cells (natL (pwr A E M n i)).toArray 27 (0, 0)) ∧ K wr) (fun iv _ => n - (intOf iv).toNat)
    case atStart => exact ⟨0, by omega, rfl, by rw [pwr_start A E M n HEn.out, HO.out]; exact hbb1, kR1⟩
    case round =>
      obtain ⟨i, hi, rfl, hpb, kr⟩ := hrel
      clear kR1 hbb1
      have lp := natLoad_run hpb
      have lm := kl _ kr
      by_cases hlt : i < n
      · obtain ⟨k, hk⟩ : ∃ k, n - (i + 1) = k := ⟨_, rfl⟩
        have hp1 := HPW.out i
        have HT1 := Hid.mk (HTM.out _ _ hp1 hp1)
        have HEV := Hid.mk (pwr_even A E M n i k hk hlt)
        have HOD := Hid.mk (pwr_odd A E M n i k hk hlt)
        have hp2 : pwr A E M n i * pwr A E M n i % M < M := Nat.mod_lt _ (by omega)
        have HT2 := Hid.mk (HTM.out _ _ hp2 hA'M)
        rw [HA'.out] at HOD
        generalize pwr A E M n i = p at *
        generalize p * p % M = p2 at *
        have HBA := Hid.mk (bit_at E k)
        obtain ⟨j, hj⟩ : ∃ j, k / 32 = j := ⟨_, rfl⟩
        obtain ⟨r, hr⟩ : ∃ r, k % 32 = r := ⟨_, rfl⟩
        rw [hj, hr] at HBA
        have hj128 : j < 128 := by omega
        have hcx := Hid.mk (HDG.out j hj128)
        obtain ⟨dd, hdd⟩ : ∃ dd, E / 4294967296 ^ j % 4294967296 = dd := ⟨_, rfl⟩
        rw [hdd] at hcx HBA
        have hdl : dd < 4294967296 := by rw [← hdd]; exact Nat.mod_lt _ (by omega)
        obtain ⟨qd, hqd⟩ : ∃ qd, dd / 2 ^ r = qd := ⟨_, rfl⟩
        rw [hqd] at HBA
        have hql : qd < 4294967296 := by rw [← hqd]; exact Nat.lt_of_le_of_lt (Nat.div_le_self _ _) hdl
        have hand := and_one qd hql
        have t1 : (k : Int).tdiv 32 = (j : Int) := by rw [Int.tdiv_eq_ediv_of_nonneg (by omega)]; omega
        have t2 : (k : Int) / 32 = (j : Int) := by omega
        have t3 : (k : Int).tmod 32 = (r : Int) := by rw [Int.tmod_eq_emod_of_nonneg (by omega)]; omega
        have t4 : (k : Int) % 32 = (r : Int) := by omega
        have t6 : (dd : Int) / 2 ^ r = (qd : Int) := by rw [← hqd, Int.natCast_ediv, Int.natCast_pow]; rfl
        have t9 : (n : Int) - 1 - (i : Int) = (k : Int) := by omega
        have hr32 : r < 32 := by omega
        have hj' : (j : Int) < 128 := by omega
        have hk0 : (0 : Int) ≤ (k : Int) := by omega
        clear hj hr hqd hdd hk
        go_wp2_with fail
        refine (HT1.out _).mono ?_
        rintro e w2 ⟨rfl, hb2⟩
        have k2 := KB.out _ _ kr hb2
        have g2 := (hb2.block _ (box_lt hpb)).trans hpb
        have s2 := natStore_run (N := p2) g2
        have k3 := ks _ _ (natL p2).toArray k2 hbge
        have g3 := setRow_heap _ _ _ (natL p2).toArray _ _ g2
        clear lp lm hb2
        go_upto_region 7 with fail
        generalize w2.setRow b (natL p2).toArray = w3 at k3 g3 ⊢
        clear s2 g2
        have lE := natLoad_run (HKe.out _ k3).2.1
        go_wp2_with fail
        refine (HBT.out _).mono ?_
        rintro e w4 ⟨rfl, hb4⟩
        have k4 := KB.out _ _ k3 hb4
        have g4 := (hb4.block _ (box_lt g3)).trans g3
        have cE : w4.cell? ⟨W.heap.size + 1, j, none⟩ = some (.int .u32 (dd : Int)) := by
          have := (cells_at (HKe.out _ k4).2.1 (nat_at E j hj128)).1
          rwa [hcx.out] at this
        clear lE hb4 g3
        by_cases hbit : qd % 2 = 1
        · have hb' : E / 2 ^ k % 2 = 1 := by rw [← HBA.out]; exact hbit
          have HNX := Hid.mk (HOD.out hb')
          rw [hbit] at hand
          have l4 := natLoad_run g4
          have lA := natLoad_run (HKe.out _ k4).1
          have lm := kl _ k4
          clear hb' hbit
          go_wp2_with fail
          refine (HT2.out _).mono ?_
          rintro e w5 ⟨rfl, hb5⟩
          have k5 := KB.out _ _ k4 hb5
          have g5 := (hb5.block _ (box_lt g4)).trans g4
          obtain ⟨pn, hpn⟩ : ∃ pn, pwr A E M n (i + 1) = pn := ⟨_, rfl⟩
          rw [HNX.out, hpn]
          have HPN := Hid.mk hpn
          clear hpn
          have s5 := natStore_run (N := pn) g5
          have k6 := ks _ _ (natL pn).toArray k5 hbge
          have g6 := setRow_heap _ _ _ (natL pn).toArray _ _ g5
          clear l4 lA lm hb5
          go_wp2
          go_roundw
          case rel => exact ⟨i + 1, by omega, by go_num, by rw [HPN.out]; exact g6, k6⟩
          case measure => simp [intOf]; omega
        · have hb0 : qd % 2 = 0 := by omega
          have hb' : E / 2 ^ k % 2 = 0 := by rw [← HBA.out]; exact hb0
          have HNX := Hid.mk (HEV.out hb')
          rw [hb0] at hand
          clear hb' hbit hb0
          rw [HNX.out] at g4
          go_wp2
          go_roundw
          case rel => exact ⟨i + 1, by omega, by go_num, g4, k4⟩
          case measure => simp [intOf]; omega
      · obtain rfl : i = n := by omega
        rw [pwr_end] at hpb lp
        obtain ⟨RR, hRR⟩ : ∃ RR, A ^ E % M = RR := ⟨_, rfl⟩
        rw [hRR] at hpb lp
        have HRR := Hid.mk hRR
        clear hRR
        have s3 := natStore_run (N := RR) (HKe.out _ kr).2.2.2.1
        have r3 := setRow_heap _ _ _ (natL RR).toArray _ _ (HKe.out _ kr).2.2.2.1
        have hB3 := below_row (HKe.out _ kr).2.2.2.2 (show W.heap.size ≤ W.heap.size + 3 by omega) (natL RR).toArray
        go_wp2
        exact bodyPost_ret (results_nat Tryd.results52 rfl r3 (natL_len RR)) rfl ⟨by rw [HRR.out], hB3⟩
end Go.Proofs.YthjhemodmdficaaDoor
