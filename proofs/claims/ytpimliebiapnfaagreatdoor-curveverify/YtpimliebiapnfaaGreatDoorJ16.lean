/- Texts of this proof, joined: CThird, CTwice, CSum, CSumAB. -/
import Derived.Test.YtpimliebiapnfaaGreatDoorJ13
import Derived.Test.YtpimliebiapnfaaGreatDoorJ15
/- third. -/
namespace Go.Proofs.YtpimliebiapnfaaGreatDoor
set_option linter.unusedVariables false
set_option linter.unusedSimpArgs false
open Go.RowKit N
attribute [local go_sem ↓] N.loadAt_nat N.storeAt_nat N.build_nat N.build_nat' loadAt_pt storeAt_pt build_pt0 build_pt0' build_pt'
attribute [local go_sem] N.st1 N.st2a N.st2b N.st1d N.st2ad N.st2bd N.natBuild_run ptst1 ptst1d ptBuild0_run build_pt ptBuild_run
attribute [local go_sem ↓] bin_nat bin_pt
set_option maxRecDepth 100000 in
set_option maxHeartbeats 2000000 in
theorem third_in {c mp mn : Nat} (a b : T3) (rise run : Nat) (W : World) (C : Cv W c mp mn) (ha : a.Ok) (hbo : b.Ok) (hri : rise < pP) (hru : run < pP) :
    Calls Tryz.prog 52 #[boxM c, .agg (ptL a).toArray, .agg (ptL b).toArray, .agg (N.natL rise).toArray, .agg (N.natL run).toArray] W fun e w' => e = .returned (.agg (ptL (a.third b rise run)).toArray) ∧ Below W.heap.size W w' := by
  obtain ⟨rr, E_rr⟩ : ∃ R, Hid (mtimes run run = R) := ⟨_, Hid.mk rfl⟩
  have b_rr : rr < pP := by rw [← E_rr.out]; exact mtimes_lt _ _
  obtain ⟨bx, E_bx⟩ : ∃ R, Hid (mtimes b.x rr = R) := ⟨_, Hid.mk rfl⟩
  have b_bx : bx < pP := by rw [← E_bx.out]; exact mtimes_lt _ _
  have HSC : Hid (∀ w, Cv w c mp mn → Calls Tryz.prog 49 #[boxM c, .agg (ptL a).toArray, .agg (N.natL run).toArray] w fun e w' => e = .returned (.agg (ptL (a.scl run)).toArray) ∧ Below w.heap.size w w') := fun w h => scaled_in a run w h ha hru
  have hd := a.scl_ok run
  obtain ⟨d, E_d⟩ : ∃ d, Hid (a.scl run = d) := ⟨_, Hid.mk rfl⟩
  rw [E_d.out] at HSC hd
  obtain ⟨r2, E_r2⟩ : ∃ R, Hid (mtimes rise rise = R) := ⟨_, Hid.mk rfl⟩
  have b_r2 : r2 < pP := by rw [← E_r2.out]; exact mtimes_lt _ _
  obtain ⟨d1, E_d1⟩ : ∃ R, Hid (mminus r2 d.x = R) := ⟨_, Hid.mk rfl⟩
  have b_d1 : d1 < pP := by rw [← E_d1.out]; exact mminus_lt b_r2 hd.1
  obtain ⟨x, E_x⟩ : ∃ R, Hid (mminus d1 bx = R) := ⟨_, Hid.mk rfl⟩
  have b_x : x < pP := by rw [← E_x.out]; exact mminus_lt b_d1 b_bx
  obtain ⟨d2, E_d2⟩ : ∃ R, Hid (mminus d.x x = R) := ⟨_, Hid.mk rfl⟩
  have b_d2 : d2 < pP := by rw [← E_d2.out]; exact mminus_lt hd.1 b_x
  obtain ⟨m1, E_m1⟩ : ∃ R, Hid (mtimes rise d2 = R) := ⟨_, Hid.mk rfl⟩
  have b_m1 : m1 < pP := by rw [← E_m1.out]; exact mtimes_lt _ _
  obtain ⟨y, E_y⟩ : ∃ R, Hid (mminus m1 d.y = R) := ⟨_, Hid.mk rfl⟩
  have b_y : y < pP := by rw [← E_y.out]; exact mminus_lt b_m1 hd.2.1
  have hfin : a.third b rise run = ⟨x, y, d.z⟩ := by
    unfold T3.third
    simp only [E_rr.out, E_bx.out, E_d.out, E_r2.out, E_d1.out, E_x.out, E_d2.out, E_m1.out, E_y.out]
  rw [hfin]
  clear hfin
  have hz := N.zero26
  have hzp := zeroPt
  obtain ⟨V, hV, F⟩ : ∃ V, (((((W.alloc (Obj.cells (ptL a).toArray 40 (0, 0))).alloc (Obj.cells (ptL b).toArray 40 (0, 0))).alloc (Obj.cells (N.natL rise).toArray 38 (0, 0))).alloc (Obj.cells (N.natL run).toArray 38 (0, 0))).alloc (Obj.cells (ptL (T3.zero)).toArray 40 (0, 0))) = V ∧ Fm W [(W.heap.size + 4, Obj.cells (ptL (T3.zero)).toArray 40 (0, 0)), (W.heap.size + 3, Obj.cells (N.natL run).toArray 38 (0, 0)), (W.heap.size + 2, Obj.cells (N.natL rise).toArray 38 (0, 0)), (W.heap.size + 1, Obj.cells (ptL b).toArray 40 (0, 0)), (W.heap.size, Obj.cells (ptL a).toArray 40 (0, 0))] V := ⟨_, rfl, Fm.box5 W _ _ _ _ _⟩
  have c4 := (F.cv C).fn 4 rfl
  have c5 := (F.cv C).fn 5 rfl
  go_enter Tryz.func52, Tryz.ntmps52
  go_upto_region 1 with fail
  go_region
  simp only [Nat.add_assoc, Nat.reduceAdd]
  go_upto_region 2 with fail
  replace F := F.drew
  generalize V.drew = v0 at F ⊢
  clear hV c4 c5
  obtain ⟨L, hL⟩ : ∃ L : List (Nat × Obj), [(W.heap.size + 4, Obj.cells (ptL (T3.zero)).toArray 40 (0, 0)), (W.heap.size + 3, Obj.cells (N.natL run).toArray 38 (0, 0)), (W.heap.size + 2, Obj.cells (N.natL rise).toArray 38 (0, 0)), (W.heap.size + 1, Obj.cells (ptL b).toArray 40 (0, 0)), (W.heap.size, Obj.cells (ptL a).toArray 40 (0, 0))] = L := ⟨_, rfl⟩
  rw [hL] at F
  have HS : Hid (∀ w, Fm W L w → Fm W L w ∧ (N.natLoad (.pointer (some ⟨W.heap.size + 1, 0, none⟩))).run Tryz.prog w = .ok (.agg (N.natL b.x).toArray) w ∧ (N.natLoad (.pointer (some ⟨W.heap.size + 3, 0, none⟩))).run Tryz.prog w = .ok (.agg (N.natL run).toArray) w) := fun w h => ⟨h, ptX (h.get 3 (by rw [← hL]; rfl)), N.natLoad_run (h.get 1 (by rw [← hL]; rfl))⟩
  have H1 : Hid (∀ w, Fm W L w → Calls Tryz.prog 86 #[boxM mp, .agg (N.natL run).toArray, .agg (N.natL run).toArray] w fun e w' => e = .returned (.agg (N.natL rr).toArray) ∧ Below w.heap.size w w') := fun w h => (pTimes (h.cv C) hru hru).mono fun e w' ⟨he, hb⟩ => ⟨by rw [he, E_rr.out], hb⟩
  have H2 : Hid (∀ w, Fm W L w → Calls Tryz.prog 86 #[boxM mp, .agg (N.natL b.x).toArray, .agg (N.natL rr).toArray] w fun e w' => e = .returned (.agg (N.natL bx).toArray) ∧ Below w.heap.size w w') := fun w h => (pTimes (h.cv C) hbo.1 b_rr).mono fun e w' ⟨he, hb⟩ => ⟨by rw [he, E_bx.out], hb⟩
  have hS0 := HS.out _ F
  go_cut [13] (fun s wx => ∃ b, s = .pointer (some ⟨b, 0, none⟩) ∧ Fm W ((b, Obj.cells (N.natL bx).toArray 38 (0, 0)) :: L) wx)
  case first =>
    go_region_held3 (fun w => Fm W L w ∧ (N.natLoad (.pointer (some ⟨W.heap.size + 1, 0, none⟩))).run Tryz.prog w = .ok (.agg (N.natL b.x).toArray) w ∧ (N.natLoad (.pointer (some ⟨W.heap.size + 3, 0, none⟩))).run Tryz.prog w = .ok (.agg (N.natL run).toArray) w)
      (first | assumption | (apply HS.out; repeat (first | assumption | apply Fm.drew | apply Fz.drew | apply Fq.drew | apply Fm.alloc | (apply Fm.setO (V := _); assumption))))
      (first
        | (go_at_call 86; with_reducible refine (H2.out _ (by repeat (first | assumption | apply Fm.drew | apply Fz.drew | apply Fq.drew | apply Fm.alloc))).mono ?_; rintro e w3 ⟨rfl, hb3⟩; have F3 := Fm.blk (by repeat (first | assumption | apply Fm.drew | apply Fz.drew | apply Fq.drew | apply Fm.alloc)) hb3; have hs3 := HS.out _ F3
           first
             | (refine kpN hb3 ?_; rintro ⟨g1, s1⟩)
             | (refine kpM hb3 ?_; rintro ⟨g1, s1⟩)
             | (refine kpO g1 hb3 ?_; rintro ⟨g2, s2⟩; clear g1 s1; have g1 := g2; have s1 := s2; clear g2 s2)
             | skip)
        | (go_at_call 86; with_reducible refine (H1.out _ (by repeat (first | assumption | apply Fm.drew | apply Fz.drew | apply Fq.drew | apply Fm.alloc))).mono ?_; rintro e w2 ⟨rfl, hb2⟩; have F2 := Fm.blk (by repeat (first | assumption | apply Fm.drew | apply Fz.drew | apply Fq.drew | apply Fm.alloc)) hb2; have hs2 := HS.out _ F2
           first
             | (refine kpN hb2 ?_; rintro ⟨g1, s1⟩)
             | (refine kpM hb2 ?_; rintro ⟨g1, s1⟩)
             | (refine kpO g1 hb2 ?_; rintro ⟨g2, s2⟩; clear g1 s1; have g1 := g2; have s1 := s2; clear g2 s2)
             | skip))
    all_goals go_wp2
    all_goals go_meet
    all_goals (first
      | exact ⟨_, rfl, Fm.new (by assumption) _⟩
      | exact ⟨_, rfl, Fm.late (by assumption) (by assumption) g1⟩)
  case rest =>
    obtain ⟨b13, rfl, F1⟩ := hcut
    rw [← hL] at F1
    clear hS0 F HS hL H1 H2
    have l6 := ptLoad_run (F1.get 5 rfl)
    have l9 := N.natLoad_run (F1.get 2 rfl)
    go_wp2_with fail
    refine (HSC.out _ (F1.cv C)).mono ?_
    rintro e u1 ⟨rfl, hb⟩
    replace F1 := F1.blk hb
    clear hb l6 l9
    have s6 := fun q => ptStore_run (c := q) (F1.get 5 rfl)
    go_upto_region 4 with fail
    replace F1 := F1.put 5 (ptL d).toArray rfl
    clear s6
    generalize u1.setRow W.heap.size (ptL d).toArray = v1 at F1 ⊢
    simp only [List.set_cons_succ, List.set_cons_zero] at F1
    obtain ⟨L1, hL1⟩ : ∃ L : List (Nat × Obj), [(b13, Obj.cells (N.natL bx).toArray 38 (0, 0)), (W.heap.size + 4, Obj.cells (ptL (T3.zero)).toArray 40 (0, 0)), (W.heap.size + 3, Obj.cells (N.natL run).toArray 38 (0, 0)), (W.heap.size + 2, Obj.cells (N.natL rise).toArray 38 (0, 0)), (W.heap.size + 1, Obj.cells (ptL b).toArray 40 (0, 0)), (W.heap.size, Obj.cells (ptL d).toArray 40 (0, 0))] = L := ⟨_, rfl⟩
    rw [hL1] at F1
    have HS : Hid (∀ w, Fm W L1 w → Fm W L1 w ∧ (N.natLoad (.pointer (some ⟨W.heap.size + 2, 0, none⟩))).run Tryz.prog w = .ok (.agg (N.natL rise).toArray) w ∧ (N.natLoad (.pointer (some ⟨W.heap.size, 0, none⟩))).run Tryz.prog w = .ok (.agg (N.natL d.x).toArray) w ∧ (N.natLoad (.pointer (some ⟨b13, 0, none⟩))).run Tryz.prog w = .ok (.agg (N.natL bx).toArray) w) := fun w h => ⟨h, N.natLoad_run (h.get 3 (by rw [← hL1]; rfl)), ptX (h.get 5 (by rw [← hL1]; rfl)), N.natLoad_run (h.get 0 (by rw [← hL1]; rfl))⟩
    have H1 : Hid (∀ w, Fm W L1 w → Calls Tryz.prog 86 #[boxM mp, .agg (N.natL rise).toArray, .agg (N.natL rise).toArray] w fun e w' => e = .returned (.agg (N.natL r2).toArray) ∧ Below w.heap.size w w') := fun w h => (pTimes (h.cv C) hri hri).mono fun e w' ⟨he, hb⟩ => ⟨by rw [he, E_r2.out], hb⟩
    have H2 : Hid (∀ w, Fm W L1 w → Calls Tryz.prog 85 #[boxM mp, .agg (N.natL r2).toArray, .agg (N.natL d.x).toArray] w fun e w' => e = .returned (.agg (N.natL d1).toArray) ∧ Below w.heap.size w w') := fun w h => (pMinus (h.cv C) b_r2 hd.1).mono fun e w' ⟨he, hb⟩ => ⟨by rw [he, E_d1.out], hb⟩
    have H3 : Hid (∀ w, Fm W L1 w → Calls Tryz.prog 85 #[boxM mp, .agg (N.natL d1).toArray, .agg (N.natL bx).toArray] w fun e w' => e = .returned (.agg (N.natL x).toArray) ∧ Below w.heap.size w w') := fun w h => (pMinus (h.cv C) b_d1 b_bx).mono fun e w' ⟨he, hb⟩ => ⟨by rw [he, E_x.out], hb⟩
    have hS0 := HS.out _ F1
    go_cut [14] (fun s wx => ∃ b, s = .pointer (some ⟨b, 0, none⟩) ∧ Fm W ((b, Obj.cells (N.natL x).toArray 38 (0, 0)) :: L1) wx)
    case first =>
      go_region_held3 (fun w => Fm W L1 w ∧ (N.natLoad (.pointer (some ⟨W.heap.size + 2, 0, none⟩))).run Tryz.prog w = .ok (.agg (N.natL rise).toArray) w ∧ (N.natLoad (.pointer (some ⟨W.heap.size, 0, none⟩))).run Tryz.prog w = .ok (.agg (N.natL d.x).toArray) w ∧ (N.natLoad (.pointer (some ⟨b13, 0, none⟩))).run Tryz.prog w = .ok (.agg (N.natL bx).toArray) w)
        (first | assumption | (apply HS.out; repeat (first | assumption | apply Fm.drew | apply Fz.drew | apply Fq.drew | apply Fm.alloc | (apply Fm.setO (V := _); assumption))))
        (first
          | (go_at_call 85; with_reducible refine (H3.out _ (by repeat (first | assumption | apply Fm.drew | apply Fz.drew | apply Fq.drew | apply Fm.alloc))).mono ?_; rintro e w4 ⟨rfl, hb4⟩; have F4 := Fm.blk (by repeat (first | assumption | apply Fm.drew | apply Fz.drew | apply Fq.drew | apply Fm.alloc)) hb4; have hs4 := HS.out _ F4
             first
               | (refine kpN hb4 ?_; rintro ⟨g1, s1⟩)
               | (refine kpM hb4 ?_; rintro ⟨g1, s1⟩)
               | (refine kpO g1 hb4 ?_; rintro ⟨g2, s2⟩; clear g1 s1; have g1 := g2; have s1 := s2; clear g2 s2)
               | skip)
          | (go_at_call 85; with_reducible refine (H2.out _ (by repeat (first | assumption | apply Fm.drew | apply Fz.drew | apply Fq.drew | apply Fm.alloc))).mono ?_; rintro e w3 ⟨rfl, hb3⟩; have F3 := Fm.blk (by repeat (first | assumption | apply Fm.drew | apply Fz.drew | apply Fq.drew | apply Fm.alloc)) hb3; have hs3 := HS.out _ F3
             first
               | (refine kpN hb3 ?_; rintro ⟨g1, s1⟩)
               | (refine kpM hb3 ?_; rintro ⟨g1, s1⟩)
               | (refine kpO g1 hb3 ?_; rintro ⟨g2, s2⟩; clear g1 s1; have g1 := g2; have s1 := s2; clear g2 s2)
               | skip)
          | (go_at_call 86; with_reducible refine (H1.out _ (by repeat (first | assumption | apply Fm.drew | apply Fz.drew | apply Fq.drew | apply Fm.alloc))).mono ?_; rintro e w2 ⟨rfl, hb2⟩; have F2 := Fm.blk (by repeat (first | assumption | apply Fm.drew | apply Fz.drew | apply Fq.drew | apply Fm.alloc)) hb2; have hs2 := HS.out _ F2
             first
               | (refine kpN hb2 ?_; rintro ⟨g1, s1⟩)
               | (refine kpM hb2 ?_; rintro ⟨g1, s1⟩)
               | (refine kpO g1 hb2 ?_; rintro ⟨g2, s2⟩; clear g1 s1; have g1 := g2; have s1 := s2; clear g2 s2)
               | skip))
      all_goals go_wp2
      all_goals go_meet
      all_goals (first
        | exact ⟨_, rfl, Fm.new (by assumption) _⟩
        | exact ⟨_, rfl, Fm.late (by assumption) (by assumption) g1⟩)
    case rest =>
      obtain ⟨b14, rfl, F2⟩ := hcut
      rw [← hL1] at F2
      clear hS0 F1 HS hL1 H1 H2 H3
      go_upto_region 5 with fail
      obtain ⟨L2, hL2⟩ : ∃ L : List (Nat × Obj), [(b14, Obj.cells (N.natL x).toArray 38 (0, 0)), (b13, Obj.cells (N.natL bx).toArray 38 (0, 0)), (W.heap.size + 4, Obj.cells (ptL (T3.zero)).toArray 40 (0, 0)), (W.heap.size + 3, Obj.cells (N.natL run).toArray 38 (0, 0)), (W.heap.size + 2, Obj.cells (N.natL rise).toArray 38 (0, 0)), (W.heap.size + 1, Obj.cells (ptL b).toArray 40 (0, 0)), (W.heap.size, Obj.cells (ptL d).toArray 40 (0, 0))] = L := ⟨_, rfl⟩
      rw [hL2] at F2
      have HS : Hid (∀ w, Fm W L2 w → Fm W L2 w ∧ (N.natLoad (.pointer (some ⟨W.heap.size + 2, 0, none⟩))).run Tryz.prog w = .ok (.agg (N.natL rise).toArray) w ∧ (N.natLoad (.pointer (some ⟨W.heap.size, 0, none⟩))).run Tryz.prog w = .ok (.agg (N.natL d.x).toArray) w ∧ (N.natLoad (.pointer (some ⟨W.heap.size, 129, none⟩))).run Tryz.prog w = .ok (.agg (N.natL d.y).toArray) w ∧ (N.natLoad (.pointer (some ⟨b14, 0, none⟩))).run Tryz.prog w = .ok (.agg (N.natL x).toArray) w) := fun w h => ⟨h, N.natLoad_run (h.get 4 (by rw [← hL2]; rfl)), ptX (h.get 6 (by rw [← hL2]; rfl)), ptY (h.get 6 (by rw [← hL2]; rfl)), N.natLoad_run (h.get 0 (by rw [← hL2]; rfl))⟩
      have H1 : Hid (∀ w, Fm W L2 w → Calls Tryz.prog 85 #[boxM mp, .agg (N.natL d.x).toArray, .agg (N.natL x).toArray] w fun e w' => e = .returned (.agg (N.natL d2).toArray) ∧ Below w.heap.size w w') := fun w h => (pMinus (h.cv C) hd.1 b_x).mono fun e w' ⟨he, hb⟩ => ⟨by rw [he, E_d2.out], hb⟩
      have H2 : Hid (∀ w, Fm W L2 w → Calls Tryz.prog 86 #[boxM mp, .agg (N.natL rise).toArray, .agg (N.natL d2).toArray] w fun e w' => e = .returned (.agg (N.natL m1).toArray) ∧ Below w.heap.size w w') := fun w h => (pTimes (h.cv C) hri b_d2).mono fun e w' ⟨he, hb⟩ => ⟨by rw [he, E_m1.out], hb⟩
      have H3 : Hid (∀ w, Fm W L2 w → Calls Tryz.prog 85 #[boxM mp, .agg (N.natL m1).toArray, .agg (N.natL d.y).toArray] w fun e w' => e = .returned (.agg (N.natL y).toArray) ∧ Below w.heap.size w w') := fun w h => (pMinus (h.cv C) b_m1 hd.2.1).mono fun e w' ⟨he, hb⟩ => ⟨by rw [he, E_y.out], hb⟩
      have hS0 := HS.out _ F2
      go_cut [15] (fun s wx => ∃ b, s = .pointer (some ⟨b, 0, none⟩) ∧ Fm W ((b, Obj.cells (N.natL y).toArray 38 (0, 0)) :: L2) wx)
      case first =>
        go_region_held3 (fun w => Fm W L2 w ∧ (N.natLoad (.pointer (some ⟨W.heap.size + 2, 0, none⟩))).run Tryz.prog w = .ok (.agg (N.natL rise).toArray) w ∧ (N.natLoad (.pointer (some ⟨W.heap.size, 0, none⟩))).run Tryz.prog w = .ok (.agg (N.natL d.x).toArray) w ∧ (N.natLoad (.pointer (some ⟨W.heap.size, 129, none⟩))).run Tryz.prog w = .ok (.agg (N.natL d.y).toArray) w ∧ (N.natLoad (.pointer (some ⟨b14, 0, none⟩))).run Tryz.prog w = .ok (.agg (N.natL x).toArray) w)
          (first | assumption | (apply HS.out; repeat (first | assumption | apply Fm.drew | apply Fz.drew | apply Fq.drew | apply Fm.alloc | (apply Fm.setO (V := _); assumption))))
          (first
            | (go_at_call 85; with_reducible refine (H3.out _ (by repeat (first | assumption | apply Fm.drew | apply Fz.drew | apply Fq.drew | apply Fm.alloc))).mono ?_; rintro e w4 ⟨rfl, hb4⟩; have F4 := Fm.blk (by repeat (first | assumption | apply Fm.drew | apply Fz.drew | apply Fq.drew | apply Fm.alloc)) hb4; have hs4 := HS.out _ F4
               first
                 | (refine kpN hb4 ?_; rintro ⟨g1, s1⟩)
                 | (refine kpM hb4 ?_; rintro ⟨g1, s1⟩)
                 | (refine kpO g1 hb4 ?_; rintro ⟨g2, s2⟩; clear g1 s1; have g1 := g2; have s1 := s2; clear g2 s2)
                 | skip)
            | (go_at_call 86; with_reducible refine (H2.out _ (by repeat (first | assumption | apply Fm.drew | apply Fz.drew | apply Fq.drew | apply Fm.alloc))).mono ?_; rintro e w3 ⟨rfl, hb3⟩; have F3 := Fm.blk (by repeat (first | assumption | apply Fm.drew | apply Fz.drew | apply Fq.drew | apply Fm.alloc)) hb3; have hs3 := HS.out _ F3
               first
                 | (refine kpN hb3 ?_; rintro ⟨g1, s1⟩)
                 | (refine kpM hb3 ?_; rintro ⟨g1, s1⟩)
                 | (refine kpO g1 hb3 ?_; rintro ⟨g2, s2⟩; clear g1 s1; have g1 := g2; have s1 := s2; clear g2 s2)
                 | skip)
            | (go_at_call 85; with_reducible refine (H1.out _ (by repeat (first | assumption | apply Fm.drew | apply Fz.drew | apply Fq.drew | apply Fm.alloc))).mono ?_; rintro e w2 ⟨rfl, hb2⟩; have F2 := Fm.blk (by repeat (first | assumption | apply Fm.drew | apply Fz.drew | apply Fq.drew | apply Fm.alloc)) hb2; have hs2 := HS.out _ F2
               first
                 | (refine kpN hb2 ?_; rintro ⟨g1, s1⟩)
                 | (refine kpM hb2 ?_; rintro ⟨g1, s1⟩)
                 | (refine kpO g1 hb2 ?_; rintro ⟨g2, s2⟩; clear g1 s1; have g1 := g2; have s1 := s2; clear g2 s2)
                 | skip))
        all_goals go_wp2
        all_goals go_meet
        all_goals (first
          | exact ⟨_, rfl, Fm.new (by assumption) _⟩
          | exact ⟨_, rfl, Fm.late (by assumption) (by assumption) g1⟩)
      case rest =>
        obtain ⟨b15, rfl, F3⟩ := hcut
        rw [← hL2] at F3
        clear hS0 F2 HS hL2 H1 H2 H3
        have l14 := N.natLoad_run (F3.get 1 rfl)
        have l15 := N.natLoad_run (F3.get 0 rfl)
        have lz := ptZ (F3.get 7 rfl)
        have s10 := fun q => ptStore_run (c := q) (F3.get 3 rfl)
        have F4 := F3.put 3 (ptL ⟨x, y, d.z⟩).toArray rfl
        go_wp2
        exact bodyPost_ret (results_pt Tryz.results52 rfl (F4.get 3 rfl)) rfl ⟨rfl, F4.bel⟩
end Go.Proofs.YtpimliebiapnfaaGreatDoor
/- twice. -/
namespace Go.Proofs.YtpimliebiapnfaaGreatDoor
set_option linter.unusedVariables false
set_option linter.unusedSimpArgs false
open Go.RowKit N
attribute [local go_sem ↓] N.loadAt_nat N.storeAt_nat N.build_nat N.build_nat' loadAt_pt storeAt_pt build_pt0 build_pt0' build_pt'
attribute [local go_sem] N.st1 N.st2a N.st2b N.st1d N.st2ad N.st2bd N.natBuild_run ptst1 ptst1d ptBuild0_run build_pt ptBuild_run
attribute [local go_sem ↓] bin_nat bin_pt
theorem Fm.rot {W w : World} {x y z : Nat × Obj} {l : List (Nat × Obj)} (h : Fm W (x :: y :: z :: l) w) : Fm W (z :: x :: y :: l) w where
  has := fun i b o e => by
    match i, e with
    | 0, e => exact h.has 2 b o (by simpa using e)
    | 1, e => exact h.has 0 b o (by simpa using e)
    | 2, e => exact h.has 1 b o (by simpa using e)
    | i + 3, e => exact h.has (i + 3) b o (by simpa using e)
  own := fun p hp => h.own p (by simp only [List.mem_cons] at hp ⊢; rcases hp with h | h | h | h <;> simp [h])
  nd := by
    have := h.nd
    simp only [List.map_cons, List.nodup_cons, List.mem_cons, not_or] at this ⊢
    exact ⟨⟨fun e => this.1.2.1 e.symm, fun e => this.2.1.1 e.symm, this.2.2.1⟩, ⟨this.1.1, this.1.2.2⟩, this.2.1.2, this.2.2.2⟩
  bel := h.bel
set_option maxRecDepth 100000 in
set_option maxHeartbeats 2000000 in
theorem twice_in {c mp mn : Nat} (a : T3) (W : World) (C : Cv W c mp mn) (ha : a.Ok) :
    Calls Tryz.prog 50 #[boxM c, .agg (ptL a).toArray] W fun e w' => e = .returned (.agg (ptL a.twice).toArray) ∧ Below W.heap.size W w' := by
  obtain ⟨sq, E_sq⟩ : ∃ R, Hid (mtimes a.z a.z = R) := ⟨_, Hid.mk rfl⟩
  have b_sq : sq < pP := by rw [← E_sq.out]; exact mtimes_lt _ _
  obtain ⟨p1, E_p1⟩ : ∃ R, Hid (mplus a.x sq = R) := ⟨_, Hid.mk rfl⟩
  have b_p1 : p1 < pP := by rw [← E_p1.out]; exact mplus_lt ha.1 b_sq
  obtain ⟨m1, E_m1⟩ : ∃ R, Hid (mminus a.x sq = R) := ⟨_, Hid.mk rfl⟩
  have b_m1 : m1 < pP := by rw [← E_m1.out]; exact mminus_lt ha.1 b_sq
  obtain ⟨pm, E_pm⟩ : ∃ R, Hid (mtimes p1 m1 = R) := ⟨_, Hid.mk rfl⟩
  have b_pm : pm < pP := by rw [← E_pm.out]; exact mtimes_lt _ _
  obtain ⟨rise, E_rise⟩ : ∃ R, Hid (mtimes 3 pm = R) := ⟨_, Hid.mk rfl⟩
  have b_rise : rise < pP := by rw [← E_rise.out]; exact mtimes_lt _ _
  obtain ⟨run, E_run⟩ : ∃ R, Hid (mplus a.y a.y = R) := ⟨_, Hid.mk rfl⟩
  have b_run : run < pP := by rw [← E_run.out]; exact mplus_lt ha.2.1 ha.2.1
  obtain ⟨d, E_d⟩ : ∃ d, Hid (a.third a rise run = d) := ⟨_, Hid.mk rfl⟩
  have hfin : a.twice = d := by
    unfold T3.twice
    simp only [E_sq.out, E_p1.out, E_m1.out, E_pm.out, E_rise.out, E_run.out, E_d.out]
  rw [hfin]
  clear hfin
  have HSm := Hid.mk (N.small_in 3 (by omega))
  have hz := N.zero26
  have hzp := zeroPt
  obtain ⟨V, hV, F⟩ : ∃ V, ((W.alloc (Obj.cells (ptL a).toArray 40 (0, 0))).alloc (Obj.cells (ptL (T3.zero)).toArray 40 (0, 0))) = V ∧ Fm W [(W.heap.size + 1, Obj.cells (ptL (T3.zero)).toArray 40 (0, 0)), (W.heap.size, Obj.cells (ptL a).toArray 40 (0, 0))] V := ⟨_, rfl, Fm.box2 W _ _⟩
  have c3 := (F.cv C).fn 3 rfl
  have c4 := (F.cv C).fn 4 rfl
  have c5 := (F.cv C).fn 5 rfl
  go_enter Tryz.func50, Tryz.ntmps50
  go_upto_region 1 with fail
  go_region
  go_upto_region 2 with fail
  replace F := F.drew
  generalize V.drew = v0 at F ⊢
  clear hV c3 c4 c5
  have lz := ptZ (F.get 1 rfl)
  have H1 : Hid (∀ w, Fm W [(W.heap.size + 1, Obj.cells (ptL (T3.zero)).toArray 40 (0, 0)), (W.heap.size, Obj.cells (ptL a).toArray 40 (0, 0))] w → Calls Tryz.prog 86 #[boxM mp, .agg (N.natL a.z).toArray, .agg (N.natL a.z).toArray] w fun e w' => e = .returned (.agg (N.natL sq).toArray) ∧ Below w.heap.size w w') := fun w h => (pTimes (h.cv C) ha.2.2 ha.2.2).mono fun e w' ⟨he, hb⟩ => ⟨by rw [he, E_sq.out], hb⟩
  go_wp2_with fail
  refine (H1.out _ F).mono ?_
  rintro e u1 ⟨rfl, hb⟩
  replace F := F.blk hb
  clear hb lz H1
  go_upto_region 3 with fail
  replace F := F.new (Obj.cells (N.natL sq).toArray 38 (0, 0))
  generalize u1.alloc (Obj.cells (N.natL sq).toArray 38 (0, 0)) = v1 at F ⊢
  generalize u1.heap.size = b8 at F ⊢
  obtain ⟨L1, hL1⟩ : ∃ L : List (Nat × Obj), [(b8, Obj.cells (N.natL sq).toArray 38 (0, 0)), (W.heap.size + 1, Obj.cells (ptL (T3.zero)).toArray 40 (0, 0)), (W.heap.size, Obj.cells (ptL a).toArray 40 (0, 0))] = L := ⟨_, rfl⟩
  rw [hL1] at F
  have HS : Hid (∀ w, Fm W L1 w → Fm W L1 w ∧ (N.natLoad (.pointer (some ⟨W.heap.size, 0, none⟩))).run Tryz.prog w = .ok (.agg (N.natL a.x).toArray) w ∧ (N.natLoad (.pointer (some ⟨b8, 0, none⟩))).run Tryz.prog w = .ok (.agg (N.natL sq).toArray) w) := fun w h => ⟨h, ptX (h.get 2 (by rw [← hL1]; rfl)), N.natLoad_run (h.get 0 (by rw [← hL1]; rfl))⟩
  have H2 : Hid (∀ w, Fm W L1 w → Calls Tryz.prog 84 #[boxM mp, .agg (N.natL a.x).toArray, .agg (N.natL sq).toArray] w fun e w' => e = .returned (.agg (N.natL p1).toArray) ∧ Below w.heap.size w w') := fun w h => (pPlus (h.cv C) ha.1 b_sq).mono fun e w' ⟨he, hb⟩ => ⟨by rw [he, E_p1.out], hb⟩
  have H3 : Hid (∀ w, Fm W L1 w → Calls Tryz.prog 85 #[boxM mp, .agg (N.natL a.x).toArray, .agg (N.natL sq).toArray] w fun e w' => e = .returned (.agg (N.natL m1).toArray) ∧ Below w.heap.size w w') := fun w h => (pMinus (h.cv C) ha.1 b_sq).mono fun e w' ⟨he, hb⟩ => ⟨by rw [he, E_m1.out], hb⟩
  have H4 : Hid (∀ w, Fm W L1 w → Calls Tryz.prog 86 #[boxM mp, .agg (N.natL p1).toArray, .agg (N.natL m1).toArray] w fun e w' => e = .returned (.agg (N.natL pm).toArray) ∧ Below w.heap.size w w') := fun w h => (pTimes (h.cv C) b_p1 b_m1).mono fun e w' ⟨he, hb⟩ => ⟨by rw [he, E_pm.out], hb⟩
  have H5 : Hid (∀ w, Fm W L1 w → Calls Tryz.prog 86 #[boxM mp, .agg (N.natL 3).toArray, .agg (N.natL pm).toArray] w fun e w' => e = .returned (.agg (N.natL rise).toArray) ∧ Below w.heap.size w w') := fun w h => (pTimes (h.cv C) (show 3 < pP by decide) b_pm).mono fun e w' ⟨he, hb⟩ => ⟨by rw [he, E_rise.out], hb⟩
  have H1 : Hid (∀ w, Fm W L1 w → Calls Tryz.prog 45 #[.int .u64 3] w fun e w' => e = .returned (.agg (N.natL 3).toArray) ∧ Below w.heap.size w w') := fun w _ => HSm.out w
  have hS0 := HS.out _ F
  go_cut [9] (fun s wx => ∃ b, s = .pointer (some ⟨b, 0, none⟩) ∧ Fm W ((b, Obj.cells (N.natL rise).toArray 38 (0, 0)) :: L1) wx)
  case first =>
    go_region_held3 (fun w => Fm W L1 w ∧ (N.natLoad (.pointer (some ⟨W.heap.size, 0, none⟩))).run Tryz.prog w = .ok (.agg (N.natL a.x).toArray) w ∧ (N.natLoad (.pointer (some ⟨b8, 0, none⟩))).run Tryz.prog w = .ok (.agg (N.natL sq).toArray) w)
      (first | assumption | (apply HS.out; repeat (first | assumption | apply Fm.drew | apply Fz.drew | apply Fq.drew | apply Fm.alloc | (apply Fm.setO (V := _); assumption))))
      (first
        | (go_at_call 86; with_reducible refine (H5.out _ (by repeat (first | assumption | apply Fm.drew | apply Fz.drew | apply Fq.drew | apply Fm.alloc))).mono ?_; rintro e w6 ⟨rfl, hb6⟩; have F6 := Fm.blk (by repeat (first | assumption | apply Fm.drew | apply Fz.drew | apply Fq.drew | apply Fm.alloc)) hb6; have hs6 := HS.out _ F6
           first
             | (refine kpN hb6 ?_; rintro ⟨g1, s1⟩)
             | (refine kpM hb6 ?_; rintro ⟨g1, s1⟩)
             | (refine kpO g1 hb6 ?_; rintro ⟨g2, s2⟩; clear g1 s1; have g1 := g2; have s1 := s2; clear g2 s2)
             | skip)
        | (go_at_call 86; with_reducible refine (H4.out _ (by repeat (first | assumption | apply Fm.drew | apply Fz.drew | apply Fq.drew | apply Fm.alloc))).mono ?_; rintro e w5 ⟨rfl, hb5⟩; have F5 := Fm.blk (by repeat (first | assumption | apply Fm.drew | apply Fz.drew | apply Fq.drew | apply Fm.alloc)) hb5; have hs5 := HS.out _ F5
           first
             | (refine kpN hb5 ?_; rintro ⟨g1, s1⟩)
             | (refine kpM hb5 ?_; rintro ⟨g1, s1⟩)
             | (refine kpO g1 hb5 ?_; rintro ⟨g2, s2⟩; clear g1 s1; have g1 := g2; have s1 := s2; clear g2 s2)
             | skip)
        | (go_at_call 85; with_reducible refine (H3.out _ (by repeat (first | assumption | apply Fm.drew | apply Fz.drew | apply Fq.drew | apply Fm.alloc))).mono ?_; rintro e w4 ⟨rfl, hb4⟩; have F4 := Fm.blk (by repeat (first | assumption | apply Fm.drew | apply Fz.drew | apply Fq.drew | apply Fm.alloc)) hb4; have hs4 := HS.out _ F4
           first
             | (refine kpN hb4 ?_; rintro ⟨g1, s1⟩)
             | (refine kpM hb4 ?_; rintro ⟨g1, s1⟩)
             | (refine kpO g1 hb4 ?_; rintro ⟨g2, s2⟩; clear g1 s1; have g1 := g2; have s1 := s2; clear g2 s2)
             | skip)
        | (go_at_call 84; with_reducible refine (H2.out _ (by repeat (first | assumption | apply Fm.drew | apply Fz.drew | apply Fq.drew | apply Fm.alloc))).mono ?_; rintro e w3 ⟨rfl, hb3⟩; have F3 := Fm.blk (by repeat (first | assumption | apply Fm.drew | apply Fz.drew | apply Fq.drew | apply Fm.alloc)) hb3; have hs3 := HS.out _ F3
           first
             | (refine kpN hb3 ?_; rintro ⟨g1, s1⟩)
             | (refine kpM hb3 ?_; rintro ⟨g1, s1⟩)
             | (refine kpO g1 hb3 ?_; rintro ⟨g2, s2⟩; clear g1 s1; have g1 := g2; have s1 := s2; clear g2 s2)
             | skip)
        | (go_at_call 45; with_reducible refine (H1.out _ (by repeat (first | assumption | apply Fm.drew | apply Fz.drew | apply Fq.drew | apply Fm.alloc))).mono ?_; rintro e w2 ⟨rfl, hb2⟩; have F2 := Fm.blk (by repeat (first | assumption | apply Fm.drew | apply Fz.drew | apply Fq.drew | apply Fm.alloc)) hb2; have hs2 := HS.out _ F2
           first
             | (refine kpN hb2 ?_; rintro ⟨g1, s1⟩)
             | (refine kpM hb2 ?_; rintro ⟨g1, s1⟩)
             | (refine kpO g1 hb2 ?_; rintro ⟨g2, s2⟩; clear g1 s1; have g1 := g2; have s1 := s2; clear g2 s2)
             | skip))
    all_goals go_wp2
    all_goals go_meet
    all_goals (first
      | exact ⟨_, rfl, Fm.new (by assumption) _⟩
      | exact ⟨_, rfl, Fm.late (by assumption) (by assumption) g1⟩)
  case rest =>
    obtain ⟨b9, rfl, F1⟩ := hcut
    rw [← hL1] at F1
    clear hS0 F HS hL1 H1 H2 H3 H4 H5
    go_upto_region 4 with fail
    have F3 := F1.rot
    clear F1
    obtain ⟨L, hL⟩ : ∃ L : List (Nat × Obj), [(b9, Obj.cells (N.natL rise).toArray 38 (0, 0)), (b8, Obj.cells (N.natL sq).toArray 38 (0, 0)), (W.heap.size, Obj.cells (ptL a).toArray 40 (0, 0))] = L := ⟨_, rfl⟩
    rw [hL] at F3
    have Z : Fq W (W.heap.size + 1) L _ := ⟨_, F3⟩
    have HS : Hid (∀ w, Fq W (W.heap.size + 1) L w → Fq W (W.heap.size + 1) L w ∧ (∀ v, (ptStore (.pointer (some ⟨W.heap.size + 1, 0, none⟩)) (.agg (ptL v).toArray)).run Tryz.prog w = .ok () (w.setRow (W.heap.size + 1) (ptL v).toArray)) ∧ (ptLoad (.pointer (some ⟨W.heap.size, 0, none⟩))).run Tryz.prog w = .ok (.agg (ptL a).toArray) w ∧ (N.natLoad (.pointer (some ⟨W.heap.size, 129, none⟩))).run Tryz.prog w = .ok (.agg (N.natL a.y).toArray) w ∧ (N.natLoad (.pointer (some ⟨b9, 0, none⟩))).run Tryz.prog w = .ok (.agg (N.natL rise).toArray) w) := fun w h => ⟨h, h.st, ptLoad_run (h.get 2 (by rw [← hL]; rfl)), ptY (h.get 2 (by rw [← hL]; rfl)), N.natLoad_run (h.get 0 (by rw [← hL]; rfl))⟩
    have H1 : Hid (∀ w, Fq W (W.heap.size + 1) L w → Calls Tryz.prog 84 #[boxM mp, .agg (N.natL a.y).toArray, .agg (N.natL a.y).toArray] w fun e w' => e = .returned (.agg (N.natL run).toArray) ∧ Below w.heap.size w w') := fun w h => (pPlus (h.cv C) ha.2.1 ha.2.1).mono fun e w' ⟨he, hb⟩ => ⟨by rw [he, E_run.out], hb⟩
    have H2 : Hid (∀ w, Fq W (W.heap.size + 1) L w → Calls Tryz.prog 52 #[boxM c, .agg (ptL a).toArray, .agg (ptL a).toArray, .agg (N.natL rise).toArray, .agg (N.natL run).toArray] w fun e w' => e = .returned (.agg (ptL d).toArray) ∧ Below w.heap.size w w') := fun w h => (third_in a a rise run w (h.cv C) ha ha b_rise b_run).mono fun e w' ⟨he, hb⟩ => ⟨by rw [he, E_d.out], hb⟩
    clear F3 hL C
    have hS0 := HS.out _ Z
    go_region_held3 (fun w => Fq W (W.heap.size + 1) L w ∧ (∀ v, (ptStore (.pointer (some ⟨W.heap.size + 1, 0, none⟩)) (.agg (ptL v).toArray)).run Tryz.prog w = .ok () (w.setRow (W.heap.size + 1) (ptL v).toArray)) ∧ (ptLoad (.pointer (some ⟨W.heap.size, 0, none⟩))).run Tryz.prog w = .ok (.agg (ptL a).toArray) w ∧ (N.natLoad (.pointer (some ⟨W.heap.size, 129, none⟩))).run Tryz.prog w = .ok (.agg (N.natL a.y).toArray) w ∧ (N.natLoad (.pointer (some ⟨b9, 0, none⟩))).run Tryz.prog w = .ok (.agg (N.natL rise).toArray) w)
      (first | assumption | (apply HS.out; repeat (first | assumption | apply Fm.drew | apply Fz.drew | apply Fq.drew | apply Fm.alloc | apply Fq.set)))
      (first
        | (go_at_call 52; with_reducible refine (H2.out _ (by repeat (first | assumption | apply Fm.drew | apply Fz.drew | apply Fq.drew | apply Fm.alloc))).mono ?_; rintro e w3 ⟨rfl, hb3⟩; have F3 := Fq.blk (by repeat (first | assumption | apply Fm.drew | apply Fz.drew | apply Fq.drew | apply Fm.alloc)) hb3; have hs3 := HS.out _ F3)
        | (go_at_call 84; with_reducible refine (H1.out _ (by repeat (first | assumption | apply Fm.drew | apply Fz.drew | apply Fq.drew | apply Fm.alloc))).mono ?_; rintro e w2 ⟨rfl, hb2⟩; have F2 := Fq.blk (by repeat (first | assumption | apply Fm.drew | apply Fz.drew | apply Fq.drew | apply Fm.alloc)) hb2; have hs2 := HS.out _ F2))
    have F6 := F3.fin d
    go_wp2
    exact bodyPost_ret (results_pt Tryz.results50 rfl (F6.get 0 rfl)) rfl ⟨rfl, F6.bel⟩
end Go.Proofs.YtpimliebiapnfaaGreatDoor
/- sum. -/
namespace Go.Proofs.YtpimliebiapnfaaGreatDoor
set_option linter.unusedVariables false
set_option linter.unusedSimpArgs false
open Go.RowKit N
attribute [local go_sem ↓] N.loadAt_nat N.storeAt_nat N.build_nat N.build_nat' loadAt_pt storeAt_pt build_pt0 build_pt0' build_pt'
attribute [local go_sem] N.st1 N.st2a N.st2b N.st1d N.st2ad N.st2bd N.natBuild_run ptst1 ptst1d ptBuild0_run build_pt ptBuild_run
attribute [local go_sem ↓] bin_nat bin_pt
set_option maxRecDepth 100000 in
set_option maxHeartbeats 2000000 in
theorem sum_a {c mp mn : Nat} (a b : T3) (W : World) (C : Cv W c mp mn) (ha : a.Ok) (hbo : b.Ok) (ha0 : a = T3.zero) :
    Calls Tryz.prog 21 #[boxM c, .agg (ptL a).toArray, .agg (ptL b).toArray] W fun e w' => e = .returned (.agg (ptL b).toArray) ∧ Below W.heap.size W w' := by
  have HA : Hid (∀ w, Calls Tryz.prog 26 #[.agg (ptL a).toArray] w fun e w' => e = .returned (.bool true) ∧ Below w.heap.size w w') := fun w => (nowhere_in a ha.lm w).mono fun e w' ⟨he, hb⟩ => ⟨by rw [he, decide_eq_true ha0], hb⟩
  have hzp := zeroPt
  clear ha0
  obtain ⟨V, hV, F⟩ : ∃ V, (((W.alloc (Obj.cells (ptL a).toArray 40 (0, 0))).alloc (Obj.cells (ptL b).toArray 40 (0, 0))).alloc (Obj.cells (ptL (T3.zero)).toArray 40 (0, 0))) = V ∧ Fm W [(W.heap.size + 2, Obj.cells (ptL (T3.zero)).toArray 40 (0, 0)), (W.heap.size + 1, Obj.cells (ptL b).toArray 40 (0, 0)), (W.heap.size, Obj.cells (ptL a).toArray 40 (0, 0))] V := ⟨_, rfl, Fm.box3 W _ _ _⟩
  have l4 := ptLoad_run (F.get 2 rfl)
  go_enter Tryz.func21, Tryz.ntmps21
  go_wp2_with fail
  refine (HA.out _).mono ?_
  rintro e u1 ⟨rfl, hb⟩
  replace F := F.blk hb
  clear hb l4 hV
  simp only [Nat.add_assoc, Nat.reduceAdd]
  have l5 := ptLoad_run (F.get 1 rfl)
  have s6 := fun q => ptStore_run (c := q) (F.get 0 rfl)
  have F4 := F.put 0 (ptL b).toArray rfl
  go_wp2
  exact bodyPost_ret (results_pt Tryz.results21 rfl (F4.get 0 rfl)) rfl ⟨rfl, F4.bel⟩
set_option maxRecDepth 100000 in
set_option maxHeartbeats 2000000 in
theorem sum_b {c mp mn : Nat} (a b : T3) (W : World) (C : Cv W c mp mn) (ha : a.Ok) (hbo : b.Ok) (ha0 : a ≠ T3.zero) (hb0 : b = T3.zero) :
    Calls Tryz.prog 21 #[boxM c, .agg (ptL a).toArray, .agg (ptL b).toArray] W fun e w' => e = .returned (.agg (ptL a).toArray) ∧ Below W.heap.size W w' := by
  have HA : Hid (∀ w, Calls Tryz.prog 26 #[.agg (ptL a).toArray] w fun e w' => e = .returned (.bool false) ∧ Below w.heap.size w w') := fun w => (nowhere_in a ha.lm w).mono fun e w' ⟨he, hb⟩ => ⟨by rw [he, decide_eq_false ha0], hb⟩
  have HB : Hid (∀ w, Calls Tryz.prog 26 #[.agg (ptL b).toArray] w fun e w' => e = .returned (.bool true) ∧ Below w.heap.size w w') := fun w => (nowhere_in b hbo.lm w).mono fun e w' ⟨he, hb⟩ => ⟨by rw [he, decide_eq_true hb0], hb⟩
  have hzp := zeroPt
  clear ha0 hb0
  obtain ⟨V, hV, F⟩ : ∃ V, (((W.alloc (Obj.cells (ptL a).toArray 40 (0, 0))).alloc (Obj.cells (ptL b).toArray 40 (0, 0))).alloc (Obj.cells (ptL (T3.zero)).toArray 40 (0, 0))) = V ∧ Fm W [(W.heap.size + 2, Obj.cells (ptL (T3.zero)).toArray 40 (0, 0)), (W.heap.size + 1, Obj.cells (ptL b).toArray 40 (0, 0)), (W.heap.size, Obj.cells (ptL a).toArray 40 (0, 0))] V := ⟨_, rfl, Fm.box3 W _ _ _⟩
  have l4 := ptLoad_run (F.get 2 rfl)
  go_enter Tryz.func21, Tryz.ntmps21
  go_wp2_with fail
  refine (HA.out _).mono ?_
  rintro e u1 ⟨rfl, hb⟩
  replace F := F.blk hb
  clear hb l4 hV
  simp only [Nat.add_assoc, Nat.reduceAdd]
  have l5 := ptLoad_run (F.get 1 rfl)
  go_wp2_with fail
  refine (HB.out _).mono ?_
  rintro e u2 ⟨rfl, hb⟩
  replace F := F.blk hb
  clear hb l5
  have l4 := ptLoad_run (F.get 2 rfl)
  have s6 := fun q => ptStore_run (c := q) (F.get 0 rfl)
  have F4 := F.put 0 (ptL a).toArray rfl
  go_wp2
  exact bodyPost_ret (results_pt Tryz.results21 rfl (F4.get 0 rfl)) rfl ⟨rfl, F4.bel⟩
end Go.Proofs.YtpimliebiapnfaaGreatDoor
/- sum of two that are somewhere. -/
namespace Go.Proofs.YtpimliebiapnfaaGreatDoor
set_option linter.unusedVariables false
set_option linter.unusedSimpArgs false
open Go.RowKit N
attribute [local go_sem ↓] N.loadAt_nat N.storeAt_nat N.build_nat N.build_nat' loadAt_pt storeAt_pt build_pt0 build_pt0' build_pt'
attribute [local go_sem] N.st1 N.st2a N.st2b N.st1d N.st2ad N.st2bd N.natBuild_run ptst1 ptst1d ptBuild0_run build_pt ptBuild_run
attribute [local go_sem ↓] bin_nat bin_pt
set_option maxRecDepth 100000 in
set_option maxHeartbeats 40000000 in
theorem sum_ab {c mp mn : Nat} (a b : T3) (W : World) (C : Cv W c mp mn) (ha : a.Ok) (hbo : b.Ok) (ha0 : a ≠ T3.zero) (hb0 : b ≠ T3.zero) :
    Calls Tryz.prog 21 #[boxM c, .agg (ptL a).toArray, .agg (ptL b).toArray] W fun e w' => e = .returned (.agg (ptL (a.sum b)).toArray) ∧ Below W.heap.size W w' := by
  have HA : Hid (∀ w, Calls Tryz.prog 26 #[.agg (ptL a).toArray] w fun e w' => e = .returned (.bool false) ∧ Below w.heap.size w w') := fun w => (nowhere_in a ha.lm w).mono fun e w' ⟨he, hb⟩ => ⟨by rw [he, decide_eq_false ha0], hb⟩
  have HB : Hid (∀ w, Calls Tryz.prog 26 #[.agg (ptL b).toArray] w fun e w' => e = .returned (.bool false) ∧ Below w.heap.size w w') := fun w => (nowhere_in b hbo.lm w).mono fun e w' ⟨he, hb⟩ => ⟨by rw [he, decide_eq_false hb0], hb⟩
  have hs : a.sum b = if a.scl b.z = b.scl a.z then (a.scl b.z).twice else if a.scl b.z = (b.scl a.z).opp then T3.zero else (a.scl b.z).third (b.scl a.z) (mminus (b.scl a.z).y (a.scl b.z).y) (mminus (b.scl a.z).x (a.scl b.z).x) := by
    unfold T3.sum
    rw [if_neg ha0, if_neg hb0]
  rw [hs]
  clear hs ha0 hb0
  have H1 : Hid (∀ w, Cv w c mp mn → Calls Tryz.prog 49 #[boxM c, .agg (ptL a).toArray, .agg (N.natL b.z).toArray] w fun e w' => e = .returned (.agg (ptL (a.scl b.z)).toArray) ∧ Below w.heap.size w w') := fun w h => scaled_in a b.z w h ha hbo.2.2
  have H2 : Hid (∀ w, Cv w c mp mn → Calls Tryz.prog 49 #[boxM c, .agg (ptL b).toArray, .agg (N.natL a.z).toArray] w fun e w' => e = .returned (.agg (ptL (b.scl a.z)).toArray) ∧ Below w.heap.size w w') := fun w h => scaled_in b a.z w h hbo ha.2.2
  have hp := a.scl_ok b.z
  have hq := b.scl_ok a.z
  obtain ⟨p, E_p⟩ : ∃ d, Hid (a.scl b.z = d) := ⟨_, Hid.mk rfl⟩
  obtain ⟨q, E_q⟩ : ∃ d, Hid (b.scl a.z = d) := ⟨_, Hid.mk rfl⟩
  rw [E_p.out] at H1 hp ⊢
  rw [E_q.out] at H2 hq ⊢
  obtain ⟨R, E_R⟩ : ∃ R, Hid ((if p = q then p.twice else if p = q.opp then T3.zero else p.third q (mminus q.y p.y) (mminus q.x p.x)) = R) := ⟨_, Hid.mk rfl⟩
  rw [E_R.out]
  have hzp := zeroPt
  obtain ⟨V, hV, F⟩ : ∃ V, (((W.alloc (Obj.cells (ptL a).toArray 40 (0, 0))).alloc (Obj.cells (ptL b).toArray 40 (0, 0))).alloc (Obj.cells (ptL (T3.zero)).toArray 40 (0, 0))) = V ∧ Fm W [(W.heap.size + 2, Obj.cells (ptL (T3.zero)).toArray 40 (0, 0)), (W.heap.size + 1, Obj.cells (ptL b).toArray 40 (0, 0)), (W.heap.size, Obj.cells (ptL a).toArray 40 (0, 0))] V := ⟨_, rfl, Fm.box3 W _ _ _⟩
  have l4 := ptLoad_run (F.get 2 rfl)
  go_enter Tryz.func21, Tryz.ntmps21
  go_wp2_with fail
  refine (HA.out _).mono ?_
  rintro e u1 ⟨rfl, hb⟩
  replace F := F.blk hb
  clear hb l4 hV
  simp only [Nat.add_assoc, Nat.reduceAdd]
  have l5 := ptLoad_run (F.get 1 rfl)
  go_wp2_with fail
  refine (HB.out _).mono ?_
  rintro e u2 ⟨rfl, hb⟩
  replace F := F.blk hb
  clear hb l5 HA HB
  go_upto_region 5 with fail
  go_cut [] (fun wx => Fm W [(W.heap.size + 2, Obj.cells (ptL (T3.zero)).toArray 40 (0, 0)), (W.heap.size + 1, Obj.cells (ptL q).toArray 40 (0, 0)), (W.heap.size, Obj.cells (ptL p).toArray 40 (0, 0))] wx)
  case first =>
    have kA : (ptLoad (.pointer (some ⟨W.heap.size, 0, none⟩))).run Tryz.prog u2.drew = .ok (.agg (ptL a).toArray) u2.drew := ptLoad_run (F.get 2 rfl)
    have kB : (ptLoad (.pointer (some ⟨W.heap.size + 1, 0, none⟩))).run Tryz.prog u2.drew = .ok (.agg (ptL b).toArray) u2.drew := ptLoad_run (F.get 1 rfl)
    have kz : (N.natLoad (.pointer (some ⟨W.heap.size + 1, 258, none⟩))).run Tryz.prog u2.drew = .ok (.agg (N.natL b.z).toArray) u2.drew := ptZ (F.get 1 rfl)
    have ky : (N.natLoad (.pointer (some ⟨W.heap.size, 258, none⟩))).run Tryz.prog u2.drew = .ok (.agg (N.natL a.z).toArray) u2.drew := ptZ (F.get 2 rfl)
    go_region_with (first
      | (go_at_call 49; with_reducible refine (H1.out _ (F.drew.cv C)).mono ?_; rintro e w2 ⟨rfl, hb2⟩; have F2 := Fm.blk F.drew hb2; have mB := ptLoad_run (F2.get 1 rfl); have my := ptZ (F2.get 2 rfl); clear hb2 kA kz)
      | (go_at_call 49; with_reducible refine (H2.out _ (F2.cv C)).mono ?_; rintro e w3 ⟨rfl, hb3⟩; have F3 := Fm.blk F2 hb3; have F4 := F3.put 2 (ptL p).toArray rfl; have F5 := F4.put 1 (ptL q).toArray rfl; have sA := fun v => ptStore_run (c := v) (F3.get 2 rfl); have sB := fun v => ptStore_run (c := v) (F4.get 1 rfl); clear hb3))
    all_goals go_wp2
    all_goals go_meet
    all_goals exact F5
  case rest =>
    clear F H1 H2
    by_cases hpq : p = q
    · have HR : Hid (R = p.twice) := by rw [Hid, ← E_R.out, if_pos hpq]
      have he : (ptEqV (.agg (ptL p).toArray) (.agg (ptL q).toArray)).run Tryz.prog wc = .ok (.bool true) wc := by rw [show ptEqV (.agg (ptL p).toArray) (.agg (ptL q).toArray) = binOp .eql 40 (.agg (ptL p).toArray) (.agg (ptL q).toArray) from rfl, eqPt wc p q hp.lm hq.lm, decide_eq_true hpq]
      have H3 : Hid (∀ w, Cv w c mp mn → Calls Tryz.prog 50 #[boxM c, .agg (ptL p).toArray] w fun e w' => e = .returned (.agg (ptL p.twice).toArray) ∧ Below w.heap.size w w') := fun w h => twice_in p w h hp
      generalize p.twice = d at H3 HR
      clear hpq
      have l4 := ptLoad_run (hcut.get 2 rfl)
      have l5 := ptLoad_run (hcut.get 1 rfl)
      go_wp2_with fail
      refine (H3.out _ (hcut.cv C)).mono ?_
      rintro e u3 ⟨rfl, hb⟩
      replace hcut := hcut.blk hb
      clear hb l4 l5 he
      have s6 := fun v => ptStore_run (c := v) (hcut.get 0 rfl)
      have F4 := hcut.put 0 (ptL d).toArray rfl
      go_wp2
      exact bodyPost_ret (results_pt Tryz.results21 rfl (F4.get 0 rfl)) rfl ⟨by rw [HR.out], F4.bel⟩
    · have HR : Hid (R = if p = q.opp then T3.zero else p.third q (mminus q.y p.y) (mminus q.x p.x)) := by rw [Hid, ← E_R.out, if_neg hpq]
      have he : (ptEqV (.agg (ptL p).toArray) (.agg (ptL q).toArray)).run Tryz.prog wc = .ok (.bool false) wc := by rw [show ptEqV (.agg (ptL p).toArray) (.agg (ptL q).toArray) = binOp .eql 40 (.agg (ptL p).toArray) (.agg (ptL q).toArray) from rfl, eqPt wc p q hp.lm hq.lm, decide_eq_false hpq]
      clear hpq
      have l4 := ptLoad_run (hcut.get 2 rfl)
      have l5 := ptLoad_run (hcut.get 1 rfl)
      go_upto_region 8 with fail
      clear l4 l5 he
      have H3 : Hid (∀ w, Cv w c mp mn → Calls Tryz.prog 51 #[boxM c, .agg (ptL q).toArray] w fun e w' => e = .returned (.agg (ptL q.opp).toArray) ∧ Below w.heap.size w w') := fun w h => opposite_in q w h hq
      have ho := (T3.opp_ok hq).lm
      obtain ⟨r, E_r⟩ : ∃ d, Hid (q.opp = d) := ⟨_, Hid.mk rfl⟩
      rw [E_r.out] at H3 ho HR
      obtain ⟨D, hD⟩ : ∃ D, decide (p = r) = D := ⟨_, rfl⟩
      have HE : Hid (∀ w, (ptEqV (.agg (ptL p).toArray) (.agg (ptL r).toArray)).run Tryz.prog w = .ok (.bool D) w) := fun w => (eqPt w p r hp.lm ho).trans (by rw [hD])
      have hcut0 := hcut
      obtain ⟨L, hL⟩ : ∃ L : List (Nat × Obj), [(W.heap.size + 2, Obj.cells (ptL (T3.zero)).toArray 40 (0, 0)), (W.heap.size + 1, Obj.cells (ptL q).toArray 40 (0, 0)), (W.heap.size, Obj.cells (ptL p).toArray 40 (0, 0))] = L := ⟨_, rfl⟩
      rw [hL] at hcut
      have HS : Hid (∀ w, Fm W L w → Fm W L w ∧ (ptLoad (.pointer (some ⟨W.heap.size, 0, none⟩))).run Tryz.prog w = .ok (.agg (ptL p).toArray) w ∧ (ptLoad (.pointer (some ⟨W.heap.size + 1, 0, none⟩))).run Tryz.prog w = .ok (.agg (ptL q).toArray) w ∧ (ptEqV (.agg (ptL p).toArray) (.agg (ptL r).toArray)).run Tryz.prog w = .ok (.bool D) w) := fun w h => ⟨h, ptLoad_run (h.get 2 (by rw [← hL]; rfl)), ptLoad_run (h.get 1 (by rw [← hL]; rfl)), HE.out w⟩
      have H4 : Hid (∀ w, Fm W L w → Calls Tryz.prog 51 #[boxM c, .agg (ptL q).toArray] w fun e w' => e = .returned (.agg (ptL r).toArray) ∧ Below w.heap.size w w') := fun w h => H3.out w (h.cv C)
      have hS0 := HS.out _ hcut
      clear hcut0
      cases D with
      | true =>
        replace HR : Hid (R = T3.zero) := by rw [Hid, HR.out, if_pos (of_decide_eq_true hD)]
        clear hD
        go_region_held3 (fun w => Fm W L w ∧ (ptLoad (.pointer (some ⟨W.heap.size, 0, none⟩))).run Tryz.prog w = .ok (.agg (ptL p).toArray) w ∧ (ptLoad (.pointer (some ⟨W.heap.size + 1, 0, none⟩))).run Tryz.prog w = .ok (.agg (ptL q).toArray) w ∧ (ptEqV (.agg (ptL p).toArray) (.agg (ptL r).toArray)).run Tryz.prog w = .ok (.bool true) w)
          (first | assumption | (apply HS.out; repeat (first | assumption | apply Fm.drew | apply Fz.drew | apply Fq.drew | apply Fm.alloc)))
          (first
            | (go_at_call 51; with_reducible refine (H4.out _ (by repeat (first | assumption | apply Fm.drew | apply Fz.drew | apply Fq.drew | apply Fm.alloc))).mono ?_; rintro e w2 ⟨rfl, hb2⟩; have F2 := Fm.blk (by repeat (first | assumption | apply Fm.drew | apply Fz.drew | apply Fq.drew | apply Fm.alloc)) hb2; have hs2 := HS.out _ F2))
        rw [← hL] at F2
        have s6 := fun v => ptStore_run (c := v) (F2.get 0 rfl)
        have F4 := F2.put 0 (ptL T3.zero).toArray rfl
        clear hs2 hS0
        go_wp2
        exact bodyPost_ret (results_pt Tryz.results21 rfl (F4.get 0 rfl)) rfl ⟨by rw [HR.out], F4.bel⟩
      | false =>
        replace HR : Hid (R = p.third q (mminus q.y p.y) (mminus q.x p.x)) := by rw [Hid, HR.out, if_neg (of_decide_eq_false hD)]
        clear hD
        go_region_held3 (fun w => Fm W L w ∧ (ptLoad (.pointer (some ⟨W.heap.size, 0, none⟩))).run Tryz.prog w = .ok (.agg (ptL p).toArray) w ∧ (ptLoad (.pointer (some ⟨W.heap.size + 1, 0, none⟩))).run Tryz.prog w = .ok (.agg (ptL q).toArray) w ∧ (ptEqV (.agg (ptL p).toArray) (.agg (ptL r).toArray)).run Tryz.prog w = .ok (.bool false) w)
          (first | assumption | (apply HS.out; repeat (first | assumption | apply Fm.drew | apply Fz.drew | apply Fq.drew | apply Fm.alloc)))
          (first
            | (go_at_call 51; with_reducible refine (H4.out _ (by repeat (first | assumption | apply Fm.drew | apply Fz.drew | apply Fq.drew | apply Fm.alloc))).mono ?_; rintro e w2 ⟨rfl, hb2⟩; have F2 := Fm.blk (by repeat (first | assumption | apply Fm.drew | apply Fz.drew | apply Fq.drew | apply Fm.alloc)) hb2; have hs2 := HS.out _ F2))
        obtain ⟨rise, E_rise⟩ : ∃ R, Hid (mminus q.y p.y = R) := ⟨_, Hid.mk rfl⟩
        have b_rise : rise < pP := by rw [← E_rise.out]; exact mminus_lt hq.2.1 hp.2.1
        obtain ⟨run, E_run⟩ : ∃ R, Hid (mminus q.x p.x = R) := ⟨_, Hid.mk rfl⟩
        have b_run : run < pP := by rw [← E_run.out]; exact mminus_lt hq.1 hp.1
        rw [E_rise.out, E_run.out] at HR
        obtain ⟨d, E_d⟩ : ∃ d, Hid (p.third q rise run = d) := ⟨_, Hid.mk rfl⟩
        rw [E_d.out] at HR
        rw [← hL] at F2
        clear hs2 hS0 HS H3 H4 hL hcut
        go_upto_region 10 with fail
        obtain ⟨L, hL⟩ : ∃ L : List (Nat × Obj), [(W.heap.size + 1, Obj.cells (ptL q).toArray 40 (0, 0)), (W.heap.size, Obj.cells (ptL p).toArray 40 (0, 0))] = L := ⟨_, rfl⟩
        rw [hL] at F2
        have Z : Fq W (W.heap.size + 2) L w2 := ⟨_, F2⟩
        have HS : Hid (∀ w, Fq W (W.heap.size + 2) L w → Fq W (W.heap.size + 2) L w ∧ (∀ v, (ptStore (.pointer (some ⟨W.heap.size + 2, 0, none⟩)) (.agg (ptL v).toArray)).run Tryz.prog w = .ok () (w.setRow (W.heap.size + 2) (ptL v).toArray)) ∧ (ptLoad (.pointer (some ⟨W.heap.size, 0, none⟩))).run Tryz.prog w = .ok (.agg (ptL p).toArray) w ∧ (ptLoad (.pointer (some ⟨W.heap.size + 1, 0, none⟩))).run Tryz.prog w = .ok (.agg (ptL q).toArray) w ∧ (N.natLoad (.pointer (some ⟨W.heap.size + 1, 129, none⟩))).run Tryz.prog w = .ok (.agg (N.natL q.y).toArray) w ∧ (N.natLoad (.pointer (some ⟨W.heap.size, 129, none⟩))).run Tryz.prog w = .ok (.agg (N.natL p.y).toArray) w ∧ (N.natLoad (.pointer (some ⟨W.heap.size + 1, 0, none⟩))).run Tryz.prog w = .ok (.agg (N.natL q.x).toArray) w ∧ (N.natLoad (.pointer (some ⟨W.heap.size, 0, none⟩))).run Tryz.prog w = .ok (.agg (N.natL p.x).toArray) w ∧ w.cell? ⟨c, 4, none⟩ = some (fnM 85 mp)) := fun w h => ⟨h, h.st, ptLoad_run (h.get 1 (by rw [← hL]; rfl)), ptLoad_run (h.get 0 (by rw [← hL]; rfl)), ptY (h.get 0 (by rw [← hL]; rfl)), ptY (h.get 1 (by rw [← hL]; rfl)), ptX (h.get 0 (by rw [← hL]; rfl)), ptX (h.get 1 (by rw [← hL]; rfl)), (h.cv C).fn 4 rfl⟩
        have H1 : Hid (∀ w, Fq W (W.heap.size + 2) L w → Calls Tryz.prog 85 #[boxM mp, .agg (N.natL q.y).toArray, .agg (N.natL p.y).toArray] w fun e w' => e = .returned (.agg (N.natL rise).toArray) ∧ Below w.heap.size w w') := fun w h => (pMinus (h.cv C) hq.2.1 hp.2.1).mono fun e w' ⟨he, hb⟩ => ⟨by rw [he, E_rise.out], hb⟩
        have H2 : Hid (∀ w, Fq W (W.heap.size + 2) L w → Calls Tryz.prog 85 #[boxM mp, .agg (N.natL q.x).toArray, .agg (N.natL p.x).toArray] w fun e w' => e = .returned (.agg (N.natL run).toArray) ∧ Below w.heap.size w w') := fun w h => (pMinus (h.cv C) hq.1 hp.1).mono fun e w' ⟨he, hb⟩ => ⟨by rw [he, E_run.out], hb⟩
        have H3 : Hid (∀ w, Fq W (W.heap.size + 2) L w → Calls Tryz.prog 52 #[boxM c, .agg (ptL p).toArray, .agg (ptL q).toArray, .agg (N.natL rise).toArray, .agg (N.natL run).toArray] w fun e w' => e = .returned (.agg (ptL d).toArray) ∧ Below w.heap.size w w') := fun w h => (third_in p q rise run w (h.cv C) hp hq b_rise b_run).mono fun e w' ⟨he, hb⟩ => ⟨by rw [he, E_d.out], hb⟩
        clear F2 hL C
        have hS0 := HS.out _ Z
        go_region_held3 (fun w => Fq W (W.heap.size + 2) L w ∧ (∀ v, (ptStore (.pointer (some ⟨W.heap.size + 2, 0, none⟩)) (.agg (ptL v).toArray)).run Tryz.prog w = .ok () (w.setRow (W.heap.size + 2) (ptL v).toArray)) ∧ (ptLoad (.pointer (some ⟨W.heap.size, 0, none⟩))).run Tryz.prog w = .ok (.agg (ptL p).toArray) w ∧ (ptLoad (.pointer (some ⟨W.heap.size + 1, 0, none⟩))).run Tryz.prog w = .ok (.agg (ptL q).toArray) w ∧ (N.natLoad (.pointer (some ⟨W.heap.size + 1, 129, none⟩))).run Tryz.prog w = .ok (.agg (N.natL q.y).toArray) w ∧ (N.natLoad (.pointer (some ⟨W.heap.size, 129, none⟩))).run Tryz.prog w = .ok (.agg (N.natL p.y).toArray) w ∧ (N.natLoad (.pointer (some ⟨W.heap.size + 1, 0, none⟩))).run Tryz.prog w = .ok (.agg (N.natL q.x).toArray) w ∧ (N.natLoad (.pointer (some ⟨W.heap.size, 0, none⟩))).run Tryz.prog w = .ok (.agg (N.natL p.x).toArray) w ∧ w.cell? ⟨c, 4, none⟩ = some (fnM 85 mp))
          (first | assumption | (apply HS.out; repeat (first | assumption | apply Fm.drew | apply Fz.drew | apply Fq.drew | apply Fm.alloc | apply Fq.set)))
          (first
            | (go_at_call 52; with_reducible refine (H3.out _ (by repeat (first | assumption | apply Fm.drew | apply Fz.drew | apply Fq.drew | apply Fm.alloc))).mono ?_; rintro e w5 ⟨rfl, hb5⟩; have F5 := Fq.blk (by repeat (first | assumption | apply Fm.drew | apply Fz.drew | apply Fq.drew | apply Fm.alloc)) hb5; have hs5 := HS.out _ F5)
            | (go_at_call 85; with_reducible refine (H2.out _ (by repeat (first | assumption | apply Fm.drew | apply Fz.drew | apply Fq.drew | apply Fm.alloc))).mono ?_; rintro e w4 ⟨rfl, hb4⟩; have F4 := Fq.blk (by repeat (first | assumption | apply Fm.drew | apply Fz.drew | apply Fq.drew | apply Fm.alloc)) hb4; have hs4 := HS.out _ F4)
            | (go_at_call 85; with_reducible refine (H1.out _ (by repeat (first | assumption | apply Fm.drew | apply Fz.drew | apply Fq.drew | apply Fm.alloc))).mono ?_; rintro e w3 ⟨rfl, hb3⟩; have F3 := Fq.blk (by repeat (first | assumption | apply Fm.drew | apply Fz.drew | apply Fq.drew | apply Fm.alloc)) hb3; have hs3 := HS.out _ F3))
        have F6 := F5.fin d
        go_wp2
        exact bodyPost_ret (results_pt Tryz.results21 rfl (F6.get 0 rfl)) rfl ⟨by rw [HR.out], F6.bel⟩
theorem sum_in {c mp mn : Nat} (a b : T3) (W : World) (C : Cv W c mp mn) (ha : a.Ok) (hbo : b.Ok) :
    Calls Tryz.prog 21 #[boxM c, .agg (ptL a).toArray, .agg (ptL b).toArray] W fun e w' => e = .returned (.agg (ptL (a.sum b)).toArray) ∧ Below W.heap.size W w' := by
  by_cases ha0 : a = T3.zero
  · rw [show a.sum b = b by unfold T3.sum; rw [if_pos ha0]]
    exact sum_a a b W C ha hbo ha0
  · by_cases hb0 : b = T3.zero
    · rw [show a.sum b = a by unfold T3.sum; rw [if_neg ha0, if_pos hb0]]
      exact sum_b a b W C ha hbo ha0 hb0
    · exact sum_ab a b W C ha hbo ha0 hb0
end Go.Proofs.YtpimliebiapnfaaGreatDoor