/- inverse. -/
import Derived.Test.YthjhemodmdficaaDoorNInvF
import Derived.Deep.RegionHeld3
import Derived.Deep.LoopGhost
namespace Go.Proofs.YthjhemodmdficaaDoor
set_option linter.unusedVariables false
open Go.RowKit
attribute [local go_sem ↓] loadAt_nat storeAt_nat build_nat build_nat'
attribute [local go_sem] st1 st2a st2b st1d st2ad st2bd natBuild_run
theorem blk {w w' : World} {b : Nat} {o : Obj} (hb : Below w.heap.size w w') (h : w.heap[b]? = some o) : w'.heap[b]? = some o := (hb.block _ (box_lt h)).trans h
set_option maxRecDepth 100000 in
set_option maxHeartbeats 1000000 in
theorem inverse_in (A M : Nat) (hA : A < Lim) (hM : M < Lim) (hM0 : M ≠ 0) (hMM : M * M ≤ Lim) (W : World) : Calls Tryd.prog 53 #[.agg (natL A).toArray, .agg (natL M).toArray] W fun e w' => ∃ I v, InvIs A M I v ∧ e = .returned (.tuple #[.agg (natL I).toArray, .int .i64 v]) ∧ Below W.heap.size W w' := by
  obtain ⟨V, hV, b0, b1, b2, hBl, hsz⟩ := three_new W (natL A) (natL M) (natL 0) 27 27 27
  have hz := zero26
  have HMA := Hid.mk (modulo_in A M hA hM hM0)
  have HE0 := Hid.mk (euc_start A M hM0)
  obtain ⟨A', hA'⟩ : ∃ A', A % M = A' := ⟨_, rfl⟩
  rw [hA'] at HMA HE0
  clear hA'
  obtain ⟨K, hK⟩ : ∃ K : World → Prop, K = fun w => w.heap[W.heap.size]? = some (.cells (natL A).toArray 27 (0, 0)) ∧ w.heap[W.heap.size + 1]? = some (.cells (natL M).toArray 27 (0, 0)) ∧ w.heap[W.heap.size + 2]? = some (.cells (natL 0).toArray 27 (0, 0)) ∧ Below W.heap.size W w := ⟨_, rfl⟩
  have kV : K V := by rw [hK]; exact ⟨b0, b1, b2, hBl⟩
  have kd : ∀ w, K w → K w.drew := by rw [hK]; exact fun w h => ⟨h.1, h.2.1, h.2.2.1, h.2.2.2.drew⟩
  have kb : ∀ w w', K w → Below w.heap.size w w' → K w' := by
    rw [hK]
    exact fun w w' h hb => ⟨(hb.block _ (box_lt h.1)).trans h.1, (hb.block _ (box_lt h.2.1)).trans h.2.1, (hb.block _ (box_lt h.2.2.1)).trans h.2.2.1, bthen h.2.2.2 hb⟩
  have ka : ∀ w o, K w → K (w.alloc o) := fun w o h => kb w _ h ((Below.refl _ _).alloc (Nat.le_refl _) _)
  have ksz : ∀ w, K w → W.heap.size + 3 ≤ w.heap.size := by rw [hK]; exact fun w h => box_lt h.2.2.1
  have ks : ∀ w b (x : Array Value), K w → W.heap.size + 3 ≤ b → K (w.setRow b x) := by
    rw [hK]
    exact fun w b x h hb => ⟨(setRow_other _ _ _ _ (by omega)).trans h.1, (setRow_other _ _ _ _ (by omega)).trans h.2.1, (setRow_other _ _ _ _ (by omega)).trans h.2.2.1, below_row h.2.2.2 (by omega) _⟩
  have HKe : Hid (∀ w, K w → w.heap[W.heap.size]? = some (.cells (natL A).toArray 27 (0, 0)) ∧ w.heap[W.heap.size + 1]? = some (.cells (natL M).toArray 27 (0, 0)) ∧ w.heap[W.heap.size + 2]? = some (.cells (natL 0).toArray 27 (0, 0)) ∧ Below W.heap.size W w) := by rw [hK]; exact fun w h => h
  have HS : Hid (∀ w, K w → K w ∧ (natLoad (.pointer (some ⟨W.heap.size, 0, none⟩))).run Tryd.prog w = .ok (.agg (natL A).toArray) w ∧ (natLoad (.pointer (some ⟨W.heap.size + 1, 0, none⟩))).run Tryd.prog w = .ok (.agg (natL M).toArray) w) := fun w h => ⟨h, natLoad_run (HKe.out _ h).1, natLoad_run (HKe.out _ h).2.1⟩
  have KB := Hid.mk kb
  have ksw : ∀ u, K u → ∀ w (x : Array Value), K w → K (w.setRow u.heap.size x) := fun u hu w x h => ks w _ x h (ksz u hu)
  have ksw1 : ∀ u, K u → ∀ w (x : Array Value), K w → K (w.setRow (u.heap.size + 1) x) := fun u hu w x h => ks w _ x h (Nat.le_succ_of_le (ksz u hu))
  clear b0 b1 b2 hBl kb hK hsz
  go_enter Tryd.func53, Tryd.ntmps53
  go_upto_region 1 with fail
  simp only [Nat.add_assoc, Nat.reduceAdd]
  clear hV
  have hS0 := HS.out _ kV
  go_cut [6, 7] (fun s6 s7 wx => ∃ b c, s6 = .pointer (some ⟨b, 0, none⟩) ∧ s7 = .pointer (some ⟨c, 0, none⟩) ∧ K wx ∧ wx.heap[b]? = some (.cells (natL M).toArray 27 (0, 0)) ∧ wx.heap[c]? = some (.cells (natL A').toArray 27 (0, 0)) ∧ W.heap.size + 3 ≤ b ∧ W.heap.size + 3 ≤ c ∧ b ≠ c)
  case first =>
    go_region_held3 (fun w => K w ∧ (natLoad (.pointer (some ⟨W.heap.size, 0, none⟩))).run Tryd.prog w = .ok (.agg (natL A).toArray) w ∧ (natLoad (.pointer (some ⟨W.heap.size + 1, 0, none⟩))).run Tryd.prog w = .ok (.agg (natL M).toArray) w)
      (first | assumption | (apply HS.out; repeat (first | assumption | apply kd | apply ka | apply ksw | apply ksw1)))
      (first
        | (go_at_call 70; refine (HMA.out _).mono ?_; rintro e w2 ⟨rfl, hb2⟩; have k2 := KB.out _ _ (by repeat (first | assumption | apply kd | apply ka)) hb2; have hs2 := HS.out _ k2
           first
             | (refine wk2 hb2 ?_; rintro ⟨g1, g2, s1, s2, s12, s21⟩)
             | (refine wk1 hb2 ?_; rintro ⟨g1, lt1, s1, s12⟩)
             | skip))
    all_goals go_wp2
    all_goals go_meet
    all_goals have hk2 := ksz _ k2
    all_goals have hkV := ksz _ kV
    all_goals (first
      | exact ⟨w2.heap.size, w2.heap.size + 1, rfl, rfl, ka _ _ (ka _ _ k2), (two_new _ _ _ _ _).1, (two_new _ _ _ _ _).2.1, hk2, Nat.le_succ_of_le hk2, by omega⟩
      | exact ⟨w2.heap.size + 1, w2.heap.size, rfl, rfl, ka _ _ (ka _ _ k2), (two_new _ _ _ _ _).2.1, (two_new _ _ _ _ _).1, Nat.le_succ_of_le hk2, hk2, by omega⟩
      | exact ⟨V.heap.size, w2.heap.size, rfl, rfl, ksw _ k2 _ _ (ksw _ kV _ _ (ka _ _ k2)), (setRow_other _ _ _ _ (by omega)).trans (setRow_heap _ _ _ _ _ _ ((heap_alloc_old w2 _ lt1).trans g1)), setRow_heap _ _ _ _ _ _ ((setRow_other _ _ _ _ (by omega)).trans (heap_new w2 _)), hkV, hk2, by omega⟩
      | exact ⟨w2.heap.size, V.heap.size, rfl, rfl, ksw _ kV _ _ (ka _ _ k2), (setRow_other _ _ _ _ (by omega)).trans (heap_new w2 _), setRow_heap _ _ _ _ _ _ ((heap_alloc_old w2 _ lt1).trans g1), hk2, hkV, by omega⟩
      | exact ⟨V.heap.size, V.heap.size + 1, rfl, rfl, ksw1 _ kV _ _ (ksw _ kV _ _ k2), (setRow_other _ _ _ _ (by omega)).trans (setRow_heap _ _ _ _ _ _ g1), setRow_heap _ _ _ _ _ _ ((setRow_other _ _ _ _ (by omega)).trans g2), hkV, Nat.le_succ_of_le hkV, by omega⟩
      | exact ⟨V.heap.size + 1, V.heap.size, rfl, rfl, ksw _ kV _ _ (ksw1 _ kV _ _ k2), (setRow_other _ _ _ _ (by omega)).trans (setRow_heap _ _ _ _ _ _ g2), setRow_heap _ _ _ _ _ _ ((setRow_other _ _ _ _ (by omega)).trans g1), Nat.le_succ_of_le hkV, hkV, by omega⟩)
  case rest =>
    obtain ⟨bg, bl, rfl, rfl, kR, hbg, hbl, hbg3, hbl3, hne⟩ := hcut
    clear hS0 kV
    have HS0 := Hid.mk (small_in 0 (by omega))
    have HS1 := Hid.mk (small_in 1 (by omega))
    go_wp2_with fail
    refine (HS0.out _).mono ?_
    rintro e w3 ⟨rfl, hb3⟩
    have k3 := KB.out _ _ kR hb3
    have c1 := (hb3.block _ (box_lt hbg)).trans hbg
    have c2 := (hb3.block _ (box_lt hbl)).trans hbl
    clear hb3 hbg hbl kR
    go_wp2_with fail
    refine (HS1.out _).mono ?_
    rintro e w4 ⟨rfl, hb4⟩
    have k4 := KB.out _ _ k3 hb4
    have d1 := (hb4.block _ (box_lt c1)).trans c1
    have d2 := (hb4.block _ (box_lt c2)).trans c2
    clear hb4 c1 c2 k3
    go_upto_region 3 with fail
    obtain ⟨t0, t1, tB, tS⟩ := two_new w4 (natL 0) (natL 1) 27 27
    have e1 := (tB.block _ (box_lt d1)).trans d1
    have e2 := (tB.block _ (box_lt d2)).trans d2
    have k5 := KB.out _ _ k4 tB
    have n1 : bg < w4.heap.size := box_lt d1
    have n2 : bl < w4.heap.size := box_lt d2
    have n3 := ksz _ k4
    generalize ((w4.alloc (.cells (natL 0).toArray 27)).alloc (.cells (natL 1).toArray 27)) = U at t0 t1 e1 e2 k5 ⊢
    generalize w4.heap.size = bf at *
    clear tB tS d1 d2 k4
    go_wp2_with fail
    go_loopg [10] A' (fun k bv wr => ∃ g f n b, bv = .bool b ∧ Hid (Euc A M g k f n b) ∧ Hid (f ≤ M) ∧ K wr ∧ wr.heap[bg]? = some (.cells (natL g).toArray 27 (0, 0)) ∧ wr.heap[bl]? = some (.cells (natL k).toArray 27 (0, 0)) ∧ wr.heap[bf]? = some (.cells (natL f).toArray 27 (0, 0)) ∧ wr.heap[bf + 1]? = some (.cells (natL n).toArray 27 (0, 0)))
    case atStart => exact ⟨M, 0, 1, true, rfl, HE0, Nat.zero_le _, k5, e1, e2, t0, t1⟩
    case round =>
      obtain ⟨g, f, n, b, rfl, HEU, HFM, kr, h1, h2, h3, h4⟩ := hrel
      clear k5 e1 e2 t0 t1 HE0
      have cl : wr.cell? ⟨bl, 128, none⟩ = some (.int .i64 (mny gk : Int)) := (cells_at h2 (nat_many gk)).1
      obtain ⟨hgM, hlM⟩ := HEU.out.gle
      have hg0 := HEU.out.gpos
      have hgL : g < Lim := by omega
      have hlL : gk < Lim := by omega
      by_cases hl : gk = 0
      · subst hl
        have cl' : wr.cell? ⟨bl, 128, none⟩ = some (.int .i64 0) := cl
        clear cl hlM hlL
        go_upto_region 11 with fail
        have HC := Hid.mk (cmp_in g 1 hgL (lim_big 1 1 (by omega) (by omega)))
        obtain ⟨K2, hK2⟩ : ∃ K2 : World → Prop, K2 = fun w => K w ∧ w.heap[bg]? = some (.cells (natL g).toArray 27 (0, 0)) ∧ w.heap[bf]? = some (.cells (natL f).toArray 27 (0, 0)) := ⟨_, rfl⟩
        have k2r : K2 wr := by rw [hK2]; exact ⟨kr, h1, h3⟩
        have k2d : ∀ w, K2 w → K2 w.drew := by rw [hK2]; exact fun w h => ⟨kd _ h.1, h.2.1, h.2.2⟩
        have K2B : Hid (∀ w w', K2 w → Below w.heap.size w w' → K2 w') := by
          rw [Hid, hK2]
          exact fun w w' h hb => ⟨KB.out _ _ h.1 hb, (hb.block _ (box_lt h.2.1)).trans h.2.1, (hb.block _ (box_lt h.2.2)).trans h.2.2⟩
        have HK2 : Hid (∀ w, K2 w → K w ∧ w.heap[bg]? = some (.cells (natL g).toArray 27 (0, 0)) ∧ w.heap[bf]? = some (.cells (natL f).toArray 27 (0, 0))) := by rw [hK2]; exact fun w h => h
        have HS2 : Hid (∀ w, K2 w → K2 w ∧ (natLoad (.pointer (some ⟨bg, 0, none⟩))).run Tryd.prog w = .ok (.agg (natL g).toArray) w) := fun w h => ⟨h, natLoad_run (HK2.out _ h).2.1⟩
        have hS2 := HS2.out _ k2r
        clear hK2 h1 h2 h3 h4 kr cl'
        go_region_held3 (fun w => K2 w ∧ (natLoad (.pointer (some ⟨bg, 0, none⟩))).run Tryd.prog w = .ok (.agg (natL g).toArray) w)
          (first | assumption | (apply HS2.out; repeat (first | assumption | apply k2d)))
          (first
            | (go_at_call 12; refine (HS1.out _).mono ?_; rintro e w6 ⟨rfl, hb6⟩; have k26 := K2B.out _ _ (by repeat (first | assumption | apply k2d)) hb6; have hs6 := HS2.out _ k26)
            | (go_at_call 19; refine (HC.out _).mono ?_; rintro e w7 ⟨rfl, hb7⟩; have k27 := K2B.out _ _ (by repeat (first | assumption | apply k2d)) hb7; have hs7 := HS2.out _ k27))
        obtain ⟨k7, j1, j3⟩ := HK2.out _ k27
        clear hS2 hs6 hs7 k26 k27 k2r k2d hb6 hb7
        have hres := (HKe.out _ k7).2.2.1
        have hBW := (HKe.out _ k7).2.2.2
        by_cases hg1 : g = 1
        · subst hg1
          have hcz : cmpI 1 1 = 0 := cmpI_eq 1
          have lM := natLoad_run (HKe.out _ k7).2.1
          have lf := natLoad_run j3
          rw [hcz]
          cases b with
          | true =>
            have HIV := Hid.mk (euc_below A M f n HEU.out HFM.out hM0)
            have HSB := Hid.mk (sub_in M f hM (by have := HFM.out; omega))
            rw [show subR M f = .returned (.tuple #[.agg (natL (M - f)).toArray, .int .i64 0]) from if_pos HFM.out] at HSB
            have HMD := Hid.mk (modulo_in (M - f) M (by omega) hM hM0)
            obtain ⟨RR, hRR⟩ : ∃ RR, (M - f) % M = RR := ⟨_, rfl⟩
            rw [hRR] at HMD HIV
            clear hRR
            generalize M - f = D at HSB HMD
            go_wp2_with fail
            refine (HSB.out _).mono ?_
            rintro e w8 ⟨rfl, hb8⟩
            have k8 := KB.out _ _ k7 hb8
            have j8 := (hb8.block _ (box_lt j3)).trans j3
            have s8 := natStore_run (N := D) j8
            have k9 := ks _ bf (natL D).toArray k8 (by omega)
            have j9 := setRow_heap _ _ _ (natL D).toArray _ _ j8
            clear lM lf hb8
            go_upto_region 15 with fail
            generalize w8.setRow bf (natL D).toArray = w9 at k9 j9 ⊢
            clear s8 j8 k8
            have lM := natLoad_run (HKe.out _ k9).2.1
            have lf := natLoad_run j9
            go_wp2_with fail
            refine (HMD.out _).mono ?_
            rintro e w10 ⟨rfl, hb10⟩
            have k10 := KB.out _ _ k9 hb10
            have s10 := natStore_run (N := RR) (HKe.out _ k10).2.2.1
            have r10 := setRow_heap _ _ _ (natL RR).toArray _ _ (HKe.out _ k10).2.2.1
            have hB10 := below_row (HKe.out _ k10).2.2.2 (show W.heap.size ≤ W.heap.size + 2 by omega) (natL RR).toArray
            clear lM lf hb10
            go_wp2
            exact bodyPost_ret (results_nat_tmp Tryd.results53 rfl rfl r10 (natL_len RR)) rfl ⟨RR, 0, HIV.out, rfl, hB10⟩
          | false =>
            have HIV := Hid.mk (euc_above A M f n HEU.out hM0)
            have HMD := Hid.mk (modulo_in f M (by have := HFM.out; omega) hM hM0)
            obtain ⟨RR, hRR⟩ : ∃ RR, f % M = RR := ⟨_, rfl⟩
            rw [hRR] at HMD HIV
            clear hRR
            go_wp2_with fail
            refine (HMD.out _).mono ?_
            rintro e w10 ⟨rfl, hb10⟩
            have k10 := KB.out _ _ k7 hb10
            have s10 := natStore_run (N := RR) (HKe.out _ k10).2.2.1
            have r10 := setRow_heap _ _ _ (natL RR).toArray _ _ (HKe.out _ k10).2.2.1
            have hB10 := below_row (HKe.out _ k10).2.2.2 (show W.heap.size ≤ W.heap.size + 2 by omega) (natL RR).toArray
            clear lM lf hb10
            go_wp2
            exact bodyPost_ret (results_nat_tmp Tryd.results53 rfl rfl r10 (natL_len RR)) rfl ⟨RR, 0, HIV.out, rfl, hB10⟩
        · have HIV := Hid.mk (euc_none A M g f n b HEU.out hg1)
          have hcz : (cmpI g 1 != 0) = true := by rw [cmpI_gt g 1 (by omega)]; rfl
          have s10 := natStore_run (N := 0) hres
          have r10 := setRow_heap _ _ _ (natL 0).toArray _ _ hres
          have hB10 := below_row hBW (show W.heap.size ≤ W.heap.size + 2 by omega) (natL 0).toArray
          rw [cmpI_gt g 1 (by omega)]
          go_wp2
          exact bodyPost_ret (results_nat_tmp Tryd.results53 rfl rfl r10 (natL_len 0)) rfl ⟨0, 13, HIV.out, rfl, hB10⟩
      · have hl0 : 0 < gk := by omega
        have hml := (mny_ge gk hl).1
        obtain ⟨ml, hml'⟩ : ∃ ml, mny gk = ml := ⟨_, rfl⟩
        rw [hml'] at cl hml
        have hmi : (0 : Int) < (ml : Int) := by omega
        clear hml'
        have HD := Hid.mk (divided_in g gk hgL hlL hl)
        have HEN := Hid.mk (euc_step A M g gk f n b HEU.out hl0)
        obtain ⟨hmo1, hmo2⟩ := euc_more A M g gk f n b HEU.out hl0
        have hrl : g % gk < gk := Nat.mod_lt _ hl0
        obtain ⟨QQ, hQQ⟩ : ∃ QQ, g / gk = QQ := ⟨_, rfl⟩
        obtain ⟨RR, hRR⟩ : ∃ RR, g % gk = RR := ⟨_, rfl⟩
        rw [hQQ] at HD HEN hmo1
        rw [hRR] at HD HEN hrl
        have hQg : QQ ≤ g := by rw [← hQQ]; exact Nat.div_le_self _ _
        clear hQQ hRR
        have HMU := Hid.mk (mul_in QQ n (by omega) (by omega))
        rw [natR_ok _ (by omega)] at HMU
        have HAD := Hid.mk (add_in (QQ * n) f (by omega) (by omega))
        rw [natR_ok _ (by omega)] at HAD
        have HNM := Hid.mk hmo2
        obtain ⟨P, hP⟩ : ∃ P, QQ * n = P := ⟨_, rfl⟩
        rw [hP] at HMU HAD HEN hmo1
        obtain ⟨S, hS⟩ : ∃ S, P + f = S := ⟨_, rfl⟩
        rw [hS] at HAD HEN hmo1
        clear hP hS hQg hmo2
        have lg := natLoad_run h1
        have ll := natLoad_run h2
        go_wp2_with fail
        refine (HD.out _).mono ?_
        rintro e w2 ⟨rfl, hb2⟩
        have k2 := KB.out _ _ kr hb2
        have i1 := blk hb2 h1
        have i2 := blk hb2 h2
        have i3 := blk hb2 h3
        have i4 := blk hb2 h4
        clear lg ll cl hb2 h1 h2 h3 h4 kr
        go_upto_region 6 with fail
        obtain ⟨t0, t1, tB, tS⟩ := two_new w2 (natL QQ) (natL RR) 27 27
        have k3 := KB.out _ _ k2 tB
        replace i1 := blk tB i1
        replace i2 := blk tB i2
        replace i3 := blk tB i3
        have q4 : bf + 1 < w2.heap.size := box_lt i4
        replace i4 := blk tB i4
        generalize ((w2.alloc (.cells (natL QQ).toArray 27)).alloc (.cells (natL RR).toArray 27)) = U2 at t0 t1 i1 i2 i3 i4 k3 ⊢
        generalize w2.heap.size = bq at t0 t1 q4 ⊢
        clear tB tS k2
        have lq := natLoad_run t0
        have ln := natLoad_run i4
        go_wp2_with fail
        refine (HMU.out _).mono ?_
        rintro e w3 ⟨rfl, hb3⟩
        replace k3 := KB.out _ _ k3 hb3
        replace i1 := blk hb3 i1
        replace i2 := blk hb3 i2
        replace i3 := blk hb3 i3
        replace i4 := blk hb3 i4
        replace t1 := blk hb3 t1
        clear lq ln hb3 t0
        go_upto_region 7 with fail
        have tB : Below w3.heap.size w3 (w3.alloc (.cells (natL P).toArray 27)) := (Below.refl _ _).alloc (Nat.le_refl _) _
        have t2 := heap_new w3 (.cells (natL P).toArray 27)
        have q5 : bq + 1 < w3.heap.size := box_lt t1
        replace k3 := KB.out _ _ k3 tB
        replace i1 := blk tB i1
        replace i2 := blk tB i2
        replace i3 := blk tB i3
        replace i4 := blk tB i4
        replace t1 := blk tB t1
        generalize w3.alloc (.cells (natL P).toArray 27) = U3 at t1 t2 i1 i2 i3 i4 k3 ⊢
        generalize w3.heap.size = bp at t2 q5 ⊢
        clear tB
        have lp := natLoad_run t2
        have lf := natLoad_run i3
        go_wp2_with fail
        refine (HAD.out _).mono ?_
        rintro e w4 ⟨rfl, hb4⟩
        replace k3 := KB.out _ _ k3 hb4
        replace i1 := blk hb4 i1
        replace i2 := blk hb4 i2
        replace i3 := blk hb4 i3
        replace i4 := blk hb4 i4
        replace t1 := blk hb4 t1
        replace t2 := blk hb4 t2
        clear lp lf hb4
        have s4 := natStore_run (N := S) t2
        go_upto_region 8 with fail
        have k4 := ks _ bp (natL S).toArray k3 (by omega)
        have u2 := setRow_heap _ _ _ (natL S).toArray _ _ t2
        have v1 := (setRow_other w4 bp bg (natL S).toArray (by omega)).trans i1
        have v2 := (setRow_other w4 bp bl (natL S).toArray (by omega)).trans i2
        have v3 := (setRow_other w4 bp bf (natL S).toArray (by omega)).trans i3
        have v4 := (setRow_other w4 bp (bf + 1) (natL S).toArray (by omega)).trans i4
        have v5 := (setRow_other w4 bp (bq + 1) (natL S).toArray (by omega)).trans t1
        generalize w4.setRow bp (natL S).toArray = U4 at k4 u2 v1 v2 v3 v4 v5 ⊢
        clear s4 i1 i2 i3 i4 t1 t2 k3
        obtain ⟨x1, x2, x3, x4, x5, x6, x7, x8⟩ := swap_f v2 v5 v1 v2 (by omega) (by omega)
        have y3 := (x8 bf (by omega) (by omega)).trans v3
        have y4 := (x8 (bf + 1) (by omega) (by omega)).trans v4
        have y5 := (x8 bp (by omega) (by omega)).trans u2
        have k5 := ks _ bl (natL RR).toArray (ks _ bg (natL gk).toArray (kd _ k4) (by omega)) (by omega)
        clear x8
        go_region
        generalize (U4.drew.setRow bg (natL gk).toArray).setRow bl (natL RR).toArray = U5 at x6 x7 y3 y4 y5 k5 ⊢
        clear x1 x2 x3 x4 x5 v1 v2 v3 v4 v5 u2 k4
        obtain ⟨z1, z2, z3, z4, z5, z6, z7, z8⟩ := swap_f y4 y5 y3 y4 (by omega) (by omega)
        have o1 := (z8 bg (by omega) (by omega)).trans x6
        have o2 := (z8 bl (by omega) (by omega)).trans x7
        have k6 := ks _ (bf + 1) (natL S).toArray (ks _ bf (natL n).toArray (kd _ k5) (by omega)) (by omega)
        clear z8
        go_upto_region 9 with fail
        go_region
        generalize (U5.drew.setRow bf (natL n).toArray).setRow (bf + 1) (natL S).toArray = U6 at z6 z7 o1 o2 k6 ⊢
        clear z1 z2 z3 z4 z5 y3 y4 y5 k5 x6 x7
        go_wp2
        go_roundg RR
        case measure => exact hrl
        case rel => exact ⟨gk, n, S, !b, rfl, HEN, HNM, k6, o1, o2, z6, z7⟩
end Go.Proofs.YthjhemodmdficaaDoor
