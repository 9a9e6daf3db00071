/- Texts of this proof, joined: CFits. -/
import Derived.Test.YtpimliebiapnfaaGreatDoorJ29
import Derived.Test.YtpimliebiapnfaaGreatDoorJ17
import Derived.Test.YtpimliebiapnfaaGreatDoorJ15
import Derived.Test.YtpimliebiapnfaaGreatDoorJ16
/- fits. -/
namespace Go.Proofs.YtpimliebiapnfaaGreatDoor
set_option linter.unusedVariables false
set_option linter.unusedSimpArgs false
open Go.RowKit N
attribute [local go_sem ↓] N.loadAt_nat N.storeAt_nat N.build_nat N.build_nat' loadAt_pt storeAt_pt build_pt0 build_pt0' build_pt'
attribute [local go_sem] N.st1 N.st2a N.st2b N.st1d N.st2ad N.st2bd N.natBuild_run ptst1 ptst1d ptBuild0_run build_pt ptBuild_run
attribute [local go_sem ↓] bin_nat bin_pt
def ptFld (v : Value) : Sem Value := Instr.field 40 v 0
theorem field_pt (v : Value) : Instr.field 40 v 0 = ptFld v := rfl
theorem ptFld_run (c : T3) (W : World) : (ptFld (.agg (ptL c).toArray)).run Tryz.prog W = .ok (.agg (N.natL c.x).toArray) W := by
  have hu : Tryz.prog.underlying 40 = some (.struct (Tryz.prog.fieldsOf 40)) := by kernel_rfl
  obtain ⟨f1, hf, t1, o1⟩ : ∃ f1 : Field, (Tryz.prog.fieldsOf 40)[0]? = some f1 ∧ f1.type = 38 ∧ f1.offset = 0 := ⟨(Tryz.prog.fieldsOf 40)[0]!, by kernel_rfl, by kernel_rfl, by kernel_rfl⟩
  have un : Tryz.prog.underlying 38 = some (.struct (Tryz.prog.fieldsOf 38)) := by kernel_rfl
  have sn : (sizeOf 38).run Tryz.prog W = .ok 129 W := by kernel_rfl
  have p1 : (part 38 (ptL c).toArray 0).run Tryz.prog W = .ok (.agg (N.natL c.x).toArray) W := by
    have := ext_mid [] (N.natL c.x) (N.natL c.y ++ N.natL c.z) 0 129 rfl (N.natL_len _)
    rw [List.nil_append, ← List.append_assoc] at this
    unfold part isAgg ptL
    simp only [Sem.run_bind, run_underlying un, Result.andThen_ok, Sem.run_pure, if_true, sn, this]
  unfold ptFld Instr.field
  rw [Sem.run_bind, run_underlying hu, Result.andThen_ok]
  simp only [hf, t1, o1]
  have ha : (asAgg (.agg (ptL c).toArray)).run Tryz.prog W = .ok (ptL c).toArray W := rfl
  rw [Sem.run_bind, ha, Result.andThen_ok, p1]
theorem nTimes {W : World} {c mp mn A B : Nat} (C : Cv W c mp mn) (hA : A < 2 ^ 256) (hB : B < 2 ^ 256) : Calls Tryz.prog 86 #[boxM mn, .agg (N.natL A).toArray, .agg (N.natL B).toArray] W fun e w' => e = .returned (.agg (N.natL (A * B % nN)).toArray) ∧ Below W.heap.size W w' :=
  times_in mn nN A B W C.n nN_lim (N.lim_big 8 A (by omega) (Nat.lt_of_lt_of_le hA (by decide))) (N.lim_big 8 B (by omega) (Nat.lt_of_lt_of_le hB (by decide))) (lim2 hA hB) (by decide)
theorem nRest {W : World} {c mp mn A : Nat} (C : Cv W c mp mn) (hA : A < N.Lim) : Calls Tryz.prog 82 #[boxM mn, .agg (N.natL A).toArray] W fun e w' => e = .returned (.agg (N.natL (A % nN)).toArray) ∧ Below W.heap.size W w' :=
  rest_in mn nN A W C.n nN_lim hA (by decide)
theorem nInv {W : World} {c mp mn A : Nat} (C : Cv W c mp mn) (hA : A < nN) (h0 : A ≠ 0) : Calls Tryz.prog 83 #[boxM mn, .agg (N.natL A).toArray] W fun e w' => e = .returned (.agg (N.natL (ivN nN A)).toArray) ∧ Below W.heap.size W w' :=
  inverse_in mn nN A W C.n nN_lim (Nat.lt_trans hA nN_lim) flt_n (by rw [Nat.gcd_comm]; exact cop_n hA h0)
attribute [local go_sem ↓] field_pt
attribute [local go_sem] ptFld_run
set_option maxRecDepth 100000 in
set_option maxHeartbeats 2000000 in
theorem fits_0 {c mp mn : Nat} (key : T3) (ee r s iw u1 u2 : Nat) (ba m1 m2 mt : T3) (W : World) (C : Cv W c mp mn) (H1 : Hid (∀ w, Cv w c mp mn → Calls Tryz.prog 83 #[boxM mn, .agg (N.natL s).toArray] w fun e w' => e = .returned (.agg (N.natL iw).toArray) ∧ Below w.heap.size w w')) (H3a : Hid (∀ w, Cv w c mp mn → Calls Tryz.prog 86 #[boxM mn, .agg (N.natL ee).toArray, .agg (N.natL iw).toArray] w fun e w' => e = .returned (.agg (N.natL u1).toArray) ∧ Below w.heap.size w w')) (H3b : Hid (∀ w, Cv w c mp mn → Calls Tryz.prog 29 #[boxM c, .agg (N.natL u1).toArray, .agg (ptL ba).toArray] w fun e w' => e = .returned (.agg (ptL m1).toArray) ∧ Below w.heap.size w w')) (H3c : Hid (∀ w, Cv w c mp mn → Calls Tryz.prog 86 #[boxM mn, .agg (N.natL r).toArray, .agg (N.natL iw).toArray] w fun e w' => e = .returned (.agg (N.natL u2).toArray) ∧ Below w.heap.size w w')) (H3d : Hid (∀ w, Cv w c mp mn → Calls Tryz.prog 29 #[boxM c, .agg (N.natL u2).toArray, .agg (ptL key).toArray] w fun e w' => e = .returned (.agg (ptL m2).toArray) ∧ Below w.heap.size w w')) (H3e : Hid (∀ w, Cv w c mp mn → Calls Tryz.prog 21 #[boxM c, .agg (ptL m1).toArray, .agg (ptL m2).toArray] w fun e w' => e = .returned (.agg (ptL mt).toArray) ∧ Below w.heap.size w w')) (H4a : Hid (∀ w, Calls Tryz.prog 26 #[.agg (ptL mt).toArray] w fun e w' => e = .returned (.bool true) ∧ Below w.heap.size w w')) (hba : ba = ⟨bX, bY, 1⟩) :
    Calls Tryz.prog 40 #[boxM c, .agg (ptL key).toArray, .agg (N.natL ee).toArray, .agg (N.natL r).toArray, .agg (N.natL s).toArray] W fun e w' => e = .returned (.bool false) ∧ Below W.heap.size W w' := by
  have HX : Hid (∀ w, Calls Tryz.prog 44 #[.string hexX] w fun e w' => e = .returned (.agg (N.natL bX).toArray) ∧ Below w.heap.size w w') := fun w => by have := known_in hexX hexXb (by decide) hexX_u (by decide) w; rwa [hexX_n] at this
  have HY : Hid (∀ w, Calls Tryz.prog 44 #[.string hexY] w fun e w' => e = .returned (.agg (N.natL bY).toArray) ∧ Below w.heap.size w w') := fun w => by have := known_in hexY hexYb (by decide) hexY_u (by decide) w; rwa [hexY_n] at this
  have HSm := Hid.mk (N.small_in 1 (by omega))
  have hz := N.zero26
  have hzp := zeroPt
  have HBA := Hid.mk hba
  clear hba
  obtain ⟨gx, hgx⟩ : ∃ q, bX = q := ⟨_, rfl⟩
  obtain ⟨gy, hgy⟩ : ∃ q, bY = q := ⟨_, rfl⟩
  rw [hgx] at HX HBA
  rw [hgy] at HY HBA
  clear hgx hgy
  obtain ⟨V, hV, F⟩ : ∃ V, ((((W.alloc (Obj.cells (ptL key).toArray 40 (0, 0))).alloc (Obj.cells (N.natL ee).toArray 38 (0, 0))).alloc (Obj.cells (N.natL r).toArray 38 (0, 0))).alloc (Obj.cells (N.natL s).toArray 38 (0, 0))) = V ∧ Fm W [(W.heap.size + 3, Obj.cells (N.natL s).toArray 38 (0, 0)), (W.heap.size + 2, Obj.cells (N.natL r).toArray 38 (0, 0)), (W.heap.size + 1, Obj.cells (N.natL ee).toArray 38 (0, 0)), (W.heap.size, Obj.cells (ptL key).toArray 40 (0, 0))] V := ⟨_, rfl, Fm.box4 W _ _ _ _⟩
  obtain ⟨L, hL⟩ : ∃ L : List (Nat × Obj), [(W.heap.size + 3, Obj.cells (N.natL s).toArray 38 (0, 0)), (W.heap.size + 2, Obj.cells (N.natL r).toArray 38 (0, 0)), (W.heap.size + 1, Obj.cells (N.natL ee).toArray 38 (0, 0)), (W.heap.size, Obj.cells (ptL key).toArray 40 (0, 0))] = L := ⟨_, rfl⟩
  rw [hL] at F
  have HS : Hid (∀ w, Fm W L w → Fm W L w ∧ (N.natLoad (.pointer (some ⟨W.heap.size + 3, 0, none⟩))).run Tryz.prog w = .ok (.agg (N.natL s).toArray) w ∧ w.cell? ⟨c, 8, none⟩ = some (fnM 83 mn)) := fun w h => ⟨h, N.natLoad_run (h.get 0 (by rw [← hL]; rfl)), (h.cv C).fn 8 rfl⟩
  have G1 : Hid (∀ w, Fm W L w → Calls Tryz.prog 83 #[boxM mn, .agg (N.natL s).toArray] w fun e w' => e = .returned (.agg (N.natL iw).toArray) ∧ Below w.heap.size w w') := fun w h => H1.out w (h.cv C)
  go_enter Tryz.func40, Tryz.ntmps40
  go_upto_region 1 with fail
  clear hV
  simp only [Nat.add_assoc, Nat.reduceAdd]
  have hS0 := HS.out _ F
  go_cut [11] (fun s wx => ∃ b, s = .pointer (some ⟨b, 0, none⟩) ∧ Fm W ((b, Obj.cells (N.natL iw).toArray 38 (0, 0)) :: L) wx)
  case first =>
    go_region_held3 (fun w => Fm W L w ∧ (N.natLoad (.pointer (some ⟨W.heap.size + 3, 0, none⟩))).run Tryz.prog w = .ok (.agg (N.natL s).toArray) w ∧ w.cell? ⟨c, 8, none⟩ = some (fnM 83 mn))
      (first | assumption | (apply HS.out; repeat (first | assumption | apply Fm.drew | apply Fz.drew | apply Fq.drew | apply Fm.alloc | (apply Fm.setO (V := _); assumption))))
      (first
        | (go_at_call 83; with_reducible refine (G1.out _ (by repeat (first | assumption | apply Fm.drew | apply Fz.drew | apply Fq.drew | apply Fm.alloc))).mono ?_; rintro e w2 ⟨rfl, hb2⟩; have F2 := Fm.blk (by repeat (first | assumption | apply Fm.drew | apply Fz.drew | apply Fq.drew | apply Fm.alloc)) hb2; have hs2 := HS.out _ F2
           first
             | (refine kpN hb2 ?_; rintro ⟨g1, s1⟩)
             | (refine kpM hb2 ?_; rintro ⟨g1, s1⟩)
             | (refine kpO g1 hb2 ?_; rintro ⟨g2, s2⟩; clear g1 s1; have g1 := g2; have s1 := s2; clear g2 s2)
             | skip))
    all_goals go_wp2
    all_goals go_meet
    all_goals (first
      | exact ⟨_, rfl, Fm.new (by assumption) _⟩
      | exact ⟨_, rfl, Fm.late (by assumption) (by assumption) g1⟩)
  case rest =>
    obtain ⟨b11, rfl, F1⟩ := hcut
    rw [← hL] at F1
    clear hS0 F HS hL G1 H1
    go_wp2_with fail
    refine (HX.out _).mono ?_
    rintro e u3 ⟨rfl, hb⟩
    replace F1 := F1.blk hb
    clear hb
    go_wp2_with fail
    refine (HY.out _).mono ?_
    rintro e u4 ⟨rfl, hb⟩
    replace F1 := F1.blk hb
    clear hb
    go_wp2_with fail
    refine (HSm.out _).mono ?_
    rintro e u5 ⟨rfl, hb⟩
    replace F1 := F1.blk hb
    clear hb
    go_upto_region 3 with fail
    rw [← HBA.out]
    replace F1 := F1.new (Obj.cells (ptL ba).toArray 40 (0, 0))
    generalize u5.alloc (Obj.cells (ptL ba).toArray 40 (0, 0)) = v5 at F1 ⊢
    generalize u5.heap.size = b12 at F1 ⊢
    clear HX HY HSm
    obtain ⟨L1, hL1⟩ : ∃ L : List (Nat × Obj), [(b12, Obj.cells (ptL ba).toArray 40 (0, 0)), (b11, Obj.cells (N.natL iw).toArray 38 (0, 0)), (W.heap.size + 3, Obj.cells (N.natL s).toArray 38 (0, 0)), (W.heap.size + 2, Obj.cells (N.natL r).toArray 38 (0, 0)), (W.heap.size + 1, Obj.cells (N.natL ee).toArray 38 (0, 0)), (W.heap.size, Obj.cells (ptL key).toArray 40 (0, 0))] = L := ⟨_, rfl⟩
    rw [hL1] at F1
    have HS : Hid (∀ w, Fm W L1 w → Fm W L1 w ∧ (N.natLoad (.pointer (some ⟨W.heap.size + 1, 0, none⟩))).run Tryz.prog w = .ok (.agg (N.natL ee).toArray) w ∧ (N.natLoad (.pointer (some ⟨W.heap.size + 2, 0, none⟩))).run Tryz.prog w = .ok (.agg (N.natL r).toArray) w ∧ (N.natLoad (.pointer (some ⟨b11, 0, none⟩))).run Tryz.prog w = .ok (.agg (N.natL iw).toArray) w ∧ (ptLoad (.pointer (some ⟨b12, 0, none⟩))).run Tryz.prog w = .ok (.agg (ptL ba).toArray) w ∧ (ptLoad (.pointer (some ⟨W.heap.size, 0, none⟩))).run Tryz.prog w = .ok (.agg (ptL key).toArray) w ∧ w.cell? ⟨c, 11, none⟩ = some (fnM 86 mn)) := fun w h => ⟨h, N.natLoad_run (h.get 4 (by rw [← hL1]; rfl)), N.natLoad_run (h.get 3 (by rw [← hL1]; rfl)), N.natLoad_run (h.get 1 (by rw [← hL1]; rfl)), ptLoad_run (h.get 0 (by rw [← hL1]; rfl)), ptLoad_run (h.get 5 (by rw [← hL1]; rfl)), (h.cv C).fn 11 rfl⟩
    have G1 : Hid (∀ w, Fm W L1 w → Calls Tryz.prog 86 #[boxM mn, .agg (N.natL ee).toArray, .agg (N.natL iw).toArray] w fun e w' => e = .returned (.agg (N.natL u1).toArray) ∧ Below w.heap.size w w') := fun w h => H3a.out w (h.cv C)
    have G2 : Hid (∀ w, Fm W L1 w → Calls Tryz.prog 29 #[boxM c, .agg (N.natL u1).toArray, .agg (ptL ba).toArray] w fun e w' => e = .returned (.agg (ptL m1).toArray) ∧ Below w.heap.size w w') := fun w h => H3b.out w (h.cv C)
    have G3 : Hid (∀ w, Fm W L1 w → Calls Tryz.prog 86 #[boxM mn, .agg (N.natL r).toArray, .agg (N.natL iw).toArray] w fun e w' => e = .returned (.agg (N.natL u2).toArray) ∧ Below w.heap.size w w') := fun w h => H3c.out w (h.cv C)
    have G4 : Hid (∀ w, Fm W L1 w → Calls Tryz.prog 29 #[boxM c, .agg (N.natL u2).toArray, .agg (ptL key).toArray] w fun e w' => e = .returned (.agg (ptL m2).toArray) ∧ Below w.heap.size w w') := fun w h => H3d.out w (h.cv C)
    have G5 : Hid (∀ w, Fm W L1 w → Calls Tryz.prog 21 #[boxM c, .agg (ptL m1).toArray, .agg (ptL m2).toArray] w fun e w' => e = .returned (.agg (ptL mt).toArray) ∧ Below w.heap.size w w') := fun w h => H3e.out w (h.cv C)
    clear H3a H3b H3c H3d H3e
    have hS0 := HS.out _ F1
    go_cut [13] (fun s13 wx => ∃ b, s13 = .pointer (some ⟨b, 0, none⟩) ∧ Fm W ((b, Obj.cells (ptL mt).toArray 40 (0, 0)) :: L1) wx)
    case first =>
      go_region_held3 (fun w => Fm W L1 w ∧ (N.natLoad (.pointer (some ⟨W.heap.size + 1, 0, none⟩))).run Tryz.prog w = .ok (.agg (N.natL ee).toArray) w ∧ (N.natLoad (.pointer (some ⟨W.heap.size + 2, 0, none⟩))).run Tryz.prog w = .ok (.agg (N.natL r).toArray) w ∧ (N.natLoad (.pointer (some ⟨b11, 0, none⟩))).run Tryz.prog w = .ok (.agg (N.natL iw).toArray) w ∧ (ptLoad (.pointer (some ⟨b12, 0, none⟩))).run Tryz.prog w = .ok (.agg (ptL ba).toArray) w ∧ (ptLoad (.pointer (some ⟨W.heap.size, 0, none⟩))).run Tryz.prog w = .ok (.agg (ptL key).toArray) w ∧ w.cell? ⟨c, 11, none⟩ = some (fnM 86 mn))
        (first | assumption | (apply HS.out; repeat (first | assumption | apply Fm.drew | apply Fz.drew | apply Fq.drew | apply Fm.alloc | (apply Fm.setO (V := _); assumption))))
        (first
          | (go_at_call 21; with_reducible refine (G5.out _ (by repeat (first | assumption | apply Fm.drew | apply Fz.drew | apply Fq.drew | apply Fm.alloc))).mono ?_; rintro e w6 ⟨rfl, hb6⟩; have F6 := Fm.blk (by repeat (first | assumption | apply Fm.drew | apply Fz.drew | apply Fq.drew | apply Fm.alloc)) hb6; have hs6 := HS.out _ F6
             first
               | (refine kqN hb6 ?_; rintro ⟨g1, s1⟩)
               | (refine kqM hb6 ?_; rintro ⟨g1, s1⟩)
               | (refine kqO g1 hb6 ?_; rintro ⟨g2, s2⟩; clear g1 s1; have g1 := g2; have s1 := s2; clear g2 s2)
               | skip)
          | (go_at_call 29; with_reducible refine (G4.out _ (by repeat (first | assumption | apply Fm.drew | apply Fz.drew | apply Fq.drew | apply Fm.alloc))).mono ?_; rintro e w5 ⟨rfl, hb5⟩; have F5 := Fm.blk (by repeat (first | assumption | apply Fm.drew | apply Fz.drew | apply Fq.drew | apply Fm.alloc)) hb5; have hs5 := HS.out _ F5
             first
               | (refine kqN hb5 ?_; rintro ⟨g1, s1⟩)
               | (refine kqM hb5 ?_; rintro ⟨g1, s1⟩)
               | (refine kqO g1 hb5 ?_; rintro ⟨g2, s2⟩; clear g1 s1; have g1 := g2; have s1 := s2; clear g2 s2)
               | skip)
          | (go_at_call 86; with_reducible refine (G3.out _ (by repeat (first | assumption | apply Fm.drew | apply Fz.drew | apply Fq.drew | apply Fm.alloc))).mono ?_; rintro e w4 ⟨rfl, hb4⟩; have F4 := Fm.blk (by repeat (first | assumption | apply Fm.drew | apply Fz.drew | apply Fq.drew | apply Fm.alloc)) hb4; have hs4 := HS.out _ F4
             first
               | (refine kqN hb4 ?_; rintro ⟨g1, s1⟩)
               | (refine kqM hb4 ?_; rintro ⟨g1, s1⟩)
               | (refine kqO g1 hb4 ?_; rintro ⟨g2, s2⟩; clear g1 s1; have g1 := g2; have s1 := s2; clear g2 s2)
               | skip)
          | (go_at_call 29; with_reducible refine (G2.out _ (by repeat (first | assumption | apply Fm.drew | apply Fz.drew | apply Fq.drew | apply Fm.alloc))).mono ?_; rintro e w3 ⟨rfl, hb3⟩; have F3 := Fm.blk (by repeat (first | assumption | apply Fm.drew | apply Fz.drew | apply Fq.drew | apply Fm.alloc)) hb3; have hs3 := HS.out _ F3
             first
               | (refine kqN hb3 ?_; rintro ⟨g1, s1⟩)
               | (refine kqM hb3 ?_; rintro ⟨g1, s1⟩)
               | (refine kqO g1 hb3 ?_; rintro ⟨g2, s2⟩; clear g1 s1; have g1 := g2; have s1 := s2; clear g2 s2)
               | skip)
          | (go_at_call 86; with_reducible refine (G1.out _ (by repeat (first | assumption | apply Fm.drew | apply Fz.drew | apply Fq.drew | apply Fm.alloc))).mono ?_; rintro e w2 ⟨rfl, hb2⟩; have F2 := Fm.blk (by repeat (first | assumption | apply Fm.drew | apply Fz.drew | apply Fq.drew | apply Fm.alloc)) hb2; have hs2 := HS.out _ F2
             first
               | (refine kqN hb2 ?_; rintro ⟨g1, s1⟩)
               | (refine kqM hb2 ?_; rintro ⟨g1, s1⟩)
               | (refine kqO g1 hb2 ?_; rintro ⟨g2, s2⟩; clear g1 s1; have g1 := g2; have s1 := s2; clear g2 s2)
               | skip))
      all_goals go_wp2
      all_goals go_meet
      all_goals (first
        | exact ⟨_, rfl, Fm.new (by assumption) _⟩
        | exact ⟨_, rfl, Fm.late (by assumption) (by assumption) g1⟩)
    case rest =>
      obtain ⟨b13, rfl, F2⟩ := hcut
      rw [← hL1] at F2
      clear hS0 F1 HS hL1 G1 G2 G3 G4 G5
      go_upto_region 4 with fail
      obtain ⟨L2, hL2⟩ : ∃ L : List (Nat × Obj), [(b13, Obj.cells (ptL mt).toArray 40 (0, 0)), (b12, Obj.cells (ptL ba).toArray 40 (0, 0)), (b11, Obj.cells (N.natL iw).toArray 38 (0, 0)), (W.heap.size + 3, Obj.cells (N.natL s).toArray 38 (0, 0)), (W.heap.size + 2, Obj.cells (N.natL r).toArray 38 (0, 0)), (W.heap.size + 1, Obj.cells (N.natL ee).toArray 38 (0, 0)), (W.heap.size, Obj.cells (ptL key).toArray 40 (0, 0))] = L := ⟨_, rfl⟩
      rw [hL2] at F2
      have HS : Hid (∀ w, Fm W L2 w → Fm W L2 w ∧ (ptLoad (.pointer (some ⟨b13, 0, none⟩))).run Tryz.prog w = .ok (.agg (ptL mt).toArray) w) := fun w h => ⟨h, ptLoad_run (h.get 0 (by rw [← hL2]; rfl))⟩
      have G1 : Hid (∀ w, Fm W L2 w → Calls Tryz.prog 26 #[.agg (ptL mt).toArray] w fun e w' => e = .returned (.bool true) ∧ Below w.heap.size w w') := fun w h => H4a.out w
      have hS0 := HS.out _ F2
      refine wp_region_held_drew (S := fun w => Fm W L2 w ∧ (ptLoad (.pointer (some ⟨b13, 0, none⟩))).run Tryz.prog w = .ok (.agg (ptL mt).toArray) w) (by kernel_rfl) (HS.out _ F2.drew) (fun hHeld => ?_)
      refine wpAnyH_take (i := 0) (v := ?vh1_0) rfl (by kernel_rfl) (by kernel_rfl) (by kernel_rfl) (fun _ _ _ h => h) (Or.inl ⟨by kernel_rfl, ?yh1_0⟩) (by assumption) ?_
      case yh1_0 => (intro w hSw; (try dsimp only at hSw); go_simp; try with_reducible rfl)
      try simp only [Act.put, List.getElem_toArray, List.getElem_cons_succ, List.getElem_cons_zero, List.setIfInBounds_toArray, List.set_cons_zero, List.set_cons_succ]
      refine wpAnyH_ready (rs := [1]) (by kernel_rfl) (by simp) ?_
      refine AllReadyH.cons rfl (fun K hK => ?_) AllReadyH.nil
      go_simp
      go_at_call 26
      with_reducible refine (G1.out _ (by repeat (first | assumption | apply Fm.drew | apply Fz.drew | apply Fq.drew | apply Fm.alloc))).mono ?_
      rintro e w3 ⟨rfl, hb3⟩
      have F3 := Fm.blk (by repeat (first | assumption | apply Fm.drew | apply Fz.drew | apply Fq.drew | apply Fm.alloc)) hb3
      have hs3 := HS.out _ F3
      refine hK.out _ _ hs3 (fun hHeld3 => ?_)
      clear hK K
      try simp only [Act.put, List.getElem_toArray, List.getElem_cons_succ, List.getElem_cons_zero, List.setIfInBounds_toArray, List.set_cons_zero, List.set_cons_succ]
      refine wpAnyH_take (i := 2) (v := ?vh1_2) rfl (by kernel_rfl) (by kernel_rfl) (by kernel_rfl) (fun _ _ _ h => h) (Or.inl ⟨by kernel_rfl, ?yh1_2⟩) (by assumption) ?_
      case yh1_2 => (intro w hSw; (try dsimp only at hSw); go_simp; try with_reducible rfl)
      refine wpAnyH_take (i := 3) (v := ?vh1_3) rfl (by kernel_rfl) (by kernel_rfl) (by kernel_rfl) (fun _ _ _ h => h) (Or.inl ⟨by kernel_rfl, ?yh1_3⟩) (by assumption) ?_
      case yh1_3 => (intro w hSw; (try dsimp only at hSw); go_simp; try with_reducible rfl)
      try simp only [Act.put, List.getElem_toArray, List.getElem_cons_succ, List.getElem_cons_zero, List.setIfInBounds_toArray, List.set_cons_zero, List.set_cons_succ]
      refine wpAnyH_take (i := 4) (v := undef) rfl (by kernel_rfl) (by kernel_rfl) (by kernel_rfl) (fun _ _ _ h => h) (Or.inr ⟨by kernel_rfl, rfl⟩) (by assumption) ?_
      refine wpAnyH_take (i := 5) (v := undef) rfl (by kernel_rfl) (by kernel_rfl) (by kernel_rfl) (fun _ _ _ h => h) (Or.inr ⟨by kernel_rfl, rfl⟩) (by assumption) ?_
      refine wpAnyH_take (i := 6) (v := undef) rfl (by kernel_rfl) (by kernel_rfl) (by kernel_rfl) (fun _ _ _ h => h) (Or.inr ⟨by kernel_rfl, rfl⟩) (by assumption) ?_
      refine wpAnyH_take (i := 7) (v := undef) rfl (by kernel_rfl) (by kernel_rfl) (by kernel_rfl) (fun _ _ _ h => h) (Or.inr ⟨by kernel_rfl, rfl⟩) (by assumption) ?_
      refine wpAnyH_take (i := 8) (v := undef) rfl (by kernel_rfl) (by kernel_rfl) (by kernel_rfl) (fun _ _ _ h => h) (Or.inr ⟨by kernel_rfl, rfl⟩) (by assumption) ?_
      refine wpAnyH_take (i := 9) (v := undef) rfl (by kernel_rfl) (by kernel_rfl) (by kernel_rfl) (fun _ _ _ h => h) (Or.inr ⟨by kernel_rfl, rfl⟩) (by assumption) ?_
      refine wpAnyH_take (i := 10) (v := undef) rfl (by kernel_rfl) (by kernel_rfl) (by kernel_rfl) (fun _ _ _ h => h) (Or.inr ⟨by kernel_rfl, rfl⟩) (by assumption) ?_
      refine wpAnyH_take (i := 11) (v := undef) rfl (by kernel_rfl) (by kernel_rfl) (by kernel_rfl) (fun _ _ _ h => h) (Or.inr ⟨by kernel_rfl, rfl⟩) (by assumption) ?_
      refine wpAnyH_take (i := 12) (v := undef) rfl (by kernel_rfl) (by kernel_rfl) (by kernel_rfl) (fun _ _ _ h => h) (Or.inr ⟨by kernel_rfl, rfl⟩) (by assumption) ?_
      refine wpAnyH_take (i := 13) (v := undef) rfl (by kernel_rfl) (by kernel_rfl) (by kernel_rfl) (fun _ _ _ h => h) (Or.inr ⟨by kernel_rfl, rfl⟩) (by assumption) ?_
      refine wpAnyH_take (i := 14) (v := undef) rfl (by kernel_rfl) (by kernel_rfl) (by kernel_rfl) (fun _ _ _ h => h) (Or.inr ⟨by kernel_rfl, rfl⟩) (by assumption) ?_
      refine wpAnyH_take (i := 15) (v := undef) rfl (by kernel_rfl) (by kernel_rfl) (by kernel_rfl) (fun _ _ _ h => h) (Or.inr ⟨by kernel_rfl, rfl⟩) (by assumption) ?_
      try simp only [Act.put, List.getElem_toArray, List.getElem_cons_succ, List.getElem_cons_zero, List.setIfInBounds_toArray, List.set_cons_zero, List.set_cons_succ]
      refine wpAnyH_take (i := 16) (v := ?vh1_16) rfl (by kernel_rfl) (by kernel_rfl) (by kernel_rfl) (fun _ _ _ h => h) (Or.inl ⟨by kernel_rfl, ?yh1_16⟩) (by assumption) ?_
      case yh1_16 => (intro w hSw; (try dsimp only at hSw); go_simp; try with_reducible rfl)
      refine wpAnyH_take (i := 17) (v := ?vh1_17) rfl (by kernel_rfl) (by kernel_rfl) (by kernel_rfl) (fun _ _ _ h => h) (Or.inl ⟨by kernel_rfl, ?yh1_17⟩) (by assumption) ?_
      case yh1_17 => (intro w hSw; (try dsimp only at hSw); go_simp; try with_reducible rfl)
      try simp only [Act.put, List.getElem_toArray, List.getElem_cons_succ, List.getElem_cons_zero, List.setIfInBounds_toArray, List.set_cons_zero, List.set_cons_succ]
      refine wpAnyH_done (by kernel_rfl) ?_ _
      go_wp2
      go_ret
      exact ⟨rfl, F3.bel⟩
set_option maxRecDepth 100000 in
set_option maxHeartbeats 2000000 in
theorem fits_1 {c mp mn : Nat} (key : T3) (ee r s iw u1 u2 : Nat) (ba m1 m2 mt : T3) (pm : T3) (xr : Nat) (D : Bool) (W : World) (C : Cv W c mp mn) (H1 : Hid (∀ w, Cv w c mp mn → Calls Tryz.prog 83 #[boxM mn, .agg (N.natL s).toArray] w fun e w' => e = .returned (.agg (N.natL iw).toArray) ∧ Below w.heap.size w w')) (H3a : Hid (∀ w, Cv w c mp mn → Calls Tryz.prog 86 #[boxM mn, .agg (N.natL ee).toArray, .agg (N.natL iw).toArray] w fun e w' => e = .returned (.agg (N.natL u1).toArray) ∧ Below w.heap.size w w')) (H3b : Hid (∀ w, Cv w c mp mn → Calls Tryz.prog 29 #[boxM c, .agg (N.natL u1).toArray, .agg (ptL ba).toArray] w fun e w' => e = .returned (.agg (ptL m1).toArray) ∧ Below w.heap.size w w')) (H3c : Hid (∀ w, Cv w c mp mn → Calls Tryz.prog 86 #[boxM mn, .agg (N.natL r).toArray, .agg (N.natL iw).toArray] w fun e w' => e = .returned (.agg (N.natL u2).toArray) ∧ Below w.heap.size w w')) (H3d : Hid (∀ w, Cv w c mp mn → Calls Tryz.prog 29 #[boxM c, .agg (N.natL u2).toArray, .agg (ptL key).toArray] w fun e w' => e = .returned (.agg (ptL m2).toArray) ∧ Below w.heap.size w w')) (H3e : Hid (∀ w, Cv w c mp mn → Calls Tryz.prog 21 #[boxM c, .agg (ptL m1).toArray, .agg (ptL m2).toArray] w fun e w' => e = .returned (.agg (ptL mt).toArray) ∧ Below w.heap.size w w')) (H4a : Hid (∀ w, Calls Tryz.prog 26 #[.agg (ptL mt).toArray] w fun e w' => e = .returned (.bool false) ∧ Below w.heap.size w w')) (hba : ba = ⟨bX, bY, 1⟩) (H4b : Hid (∀ w, Cv w c mp mn → Calls Tryz.prog 47 #[boxM c, .agg (ptL mt).toArray] w fun e w' => e = .returned (.agg (ptL pm).toArray) ∧ Below w.heap.size w w')) (H4c : Hid (∀ w, Cv w c mp mn → Calls Tryz.prog 82 #[boxM mn, .agg (N.natL pm.x).toArray] w fun e w' => e = .returned (.agg (N.natL xr).toArray) ∧ Below w.heap.size w w')) (HE : Hid (∀ w : World, (natEqV (.agg (N.natL xr).toArray) (.agg (N.natL r).toArray)).run Tryz.prog w = .ok (.bool D) w)) :
    Calls Tryz.prog 40 #[boxM c, .agg (ptL key).toArray, .agg (N.natL ee).toArray, .agg (N.natL r).toArray, .agg (N.natL s).toArray] W fun e w' => e = .returned (.bool D) ∧ Below W.heap.size W w' := by
  have HX : Hid (∀ w, Calls Tryz.prog 44 #[.string hexX] w fun e w' => e = .returned (.agg (N.natL bX).toArray) ∧ Below w.heap.size w w') := fun w => by have := known_in hexX hexXb (by decide) hexX_u (by decide) w; rwa [hexX_n] at this
  have HY : Hid (∀ w, Calls Tryz.prog 44 #[.string hexY] w fun e w' => e = .returned (.agg (N.natL bY).toArray) ∧ Below w.heap.size w w') := fun w => by have := known_in hexY hexYb (by decide) hexY_u (by decide) w; rwa [hexY_n] at this
  have HSm := Hid.mk (N.small_in 1 (by omega))
  have hz := N.zero26
  have hzp := zeroPt
  have HBA := Hid.mk hba
  clear hba
  obtain ⟨gx, hgx⟩ : ∃ q, bX = q := ⟨_, rfl⟩
  obtain ⟨gy, hgy⟩ : ∃ q, bY = q := ⟨_, rfl⟩
  rw [hgx] at HX HBA
  rw [hgy] at HY HBA
  clear hgx hgy
  obtain ⟨V, hV, F⟩ : ∃ V, ((((W.alloc (Obj.cells (ptL key).toArray 40 (0, 0))).alloc (Obj.cells (N.natL ee).toArray 38 (0, 0))).alloc (Obj.cells (N.natL r).toArray 38 (0, 0))).alloc (Obj.cells (N.natL s).toArray 38 (0, 0))) = V ∧ Fm W [(W.heap.size + 3, Obj.cells (N.natL s).toArray 38 (0, 0)), (W.heap.size + 2, Obj.cells (N.natL r).toArray 38 (0, 0)), (W.heap.size + 1, Obj.cells (N.natL ee).toArray 38 (0, 0)), (W.heap.size, Obj.cells (ptL key).toArray 40 (0, 0))] V := ⟨_, rfl, Fm.box4 W _ _ _ _⟩
  obtain ⟨L, hL⟩ : ∃ L : List (Nat × Obj), [(W.heap.size + 3, Obj.cells (N.natL s).toArray 38 (0, 0)), (W.heap.size + 2, Obj.cells (N.natL r).toArray 38 (0, 0)), (W.heap.size + 1, Obj.cells (N.natL ee).toArray 38 (0, 0)), (W.heap.size, Obj.cells (ptL key).toArray 40 (0, 0))] = L := ⟨_, rfl⟩
  rw [hL] at F
  have HS : Hid (∀ w, Fm W L w → Fm W L w ∧ (N.natLoad (.pointer (some ⟨W.heap.size + 3, 0, none⟩))).run Tryz.prog w = .ok (.agg (N.natL s).toArray) w ∧ w.cell? ⟨c, 8, none⟩ = some (fnM 83 mn)) := fun w h => ⟨h, N.natLoad_run (h.get 0 (by rw [← hL]; rfl)), (h.cv C).fn 8 rfl⟩
  have G1 : Hid (∀ w, Fm W L w → Calls Tryz.prog 83 #[boxM mn, .agg (N.natL s).toArray] w fun e w' => e = .returned (.agg (N.natL iw).toArray) ∧ Below w.heap.size w w') := fun w h => H1.out w (h.cv C)
  go_enter Tryz.func40, Tryz.ntmps40
  go_upto_region 1 with fail
  clear hV
  simp only [Nat.add_assoc, Nat.reduceAdd]
  have hS0 := HS.out _ F
  go_cut [11] (fun s wx => ∃ b, s = .pointer (some ⟨b, 0, none⟩) ∧ Fm W ((b, Obj.cells (N.natL iw).toArray 38 (0, 0)) :: L) wx)
  case first =>
    go_region_held3 (fun w => Fm W L w ∧ (N.natLoad (.pointer (some ⟨W.heap.size + 3, 0, none⟩))).run Tryz.prog w = .ok (.agg (N.natL s).toArray) w ∧ w.cell? ⟨c, 8, none⟩ = some (fnM 83 mn))
      (first | assumption | (apply HS.out; repeat (first | assumption | apply Fm.drew | apply Fz.drew | apply Fq.drew | apply Fm.alloc | (apply Fm.setO (V := _); assumption))))
      (first
        | (go_at_call 83; with_reducible refine (G1.out _ (by repeat (first | assumption | apply Fm.drew | apply Fz.drew | apply Fq.drew | apply Fm.alloc))).mono ?_; rintro e w2 ⟨rfl, hb2⟩; have F2 := Fm.blk (by repeat (first | assumption | apply Fm.drew | apply Fz.drew | apply Fq.drew | apply Fm.alloc)) hb2; have hs2 := HS.out _ F2
           first
             | (refine kpN hb2 ?_; rintro ⟨g1, s1⟩)
             | (refine kpM hb2 ?_; rintro ⟨g1, s1⟩)
             | (refine kpO g1 hb2 ?_; rintro ⟨g2, s2⟩; clear g1 s1; have g1 := g2; have s1 := s2; clear g2 s2)
             | skip))
    all_goals go_wp2
    all_goals go_meet
    all_goals (first
      | exact ⟨_, rfl, Fm.new (by assumption) _⟩
      | exact ⟨_, rfl, Fm.late (by assumption) (by assumption) g1⟩)
  case rest =>
    obtain ⟨b11, rfl, F1⟩ := hcut
    rw [← hL] at F1
    clear hS0 F HS hL G1 H1
    go_wp2_with fail
    refine (HX.out _).mono ?_
    rintro e u3 ⟨rfl, hb⟩
    replace F1 := F1.blk hb
    clear hb
    go_wp2_with fail
    refine (HY.out _).mono ?_
    rintro e u4 ⟨rfl, hb⟩
    replace F1 := F1.blk hb
    clear hb
    go_wp2_with fail
    refine (HSm.out _).mono ?_
    rintro e u5 ⟨rfl, hb⟩
    replace F1 := F1.blk hb
    clear hb
    go_upto_region 3 with fail
    rw [← HBA.out]
    replace F1 := F1.new (Obj.cells (ptL ba).toArray 40 (0, 0))
    generalize u5.alloc (Obj.cells (ptL ba).toArray 40 (0, 0)) = v5 at F1 ⊢
    generalize u5.heap.size = b12 at F1 ⊢
    clear HX HY HSm
    obtain ⟨L1, hL1⟩ : ∃ L : List (Nat × Obj), [(b12, Obj.cells (ptL ba).toArray 40 (0, 0)), (b11, Obj.cells (N.natL iw).toArray 38 (0, 0)), (W.heap.size + 3, Obj.cells (N.natL s).toArray 38 (0, 0)), (W.heap.size + 2, Obj.cells (N.natL r).toArray 38 (0, 0)), (W.heap.size + 1, Obj.cells (N.natL ee).toArray 38 (0, 0)), (W.heap.size, Obj.cells (ptL key).toArray 40 (0, 0))] = L := ⟨_, rfl⟩
    rw [hL1] at F1
    have HS : Hid (∀ w, Fm W L1 w → Fm W L1 w ∧ (N.natLoad (.pointer (some ⟨W.heap.size + 1, 0, none⟩))).run Tryz.prog w = .ok (.agg (N.natL ee).toArray) w ∧ (N.natLoad (.pointer (some ⟨W.heap.size + 2, 0, none⟩))).run Tryz.prog w = .ok (.agg (N.natL r).toArray) w ∧ (N.natLoad (.pointer (some ⟨b11, 0, none⟩))).run Tryz.prog w = .ok (.agg (N.natL iw).toArray) w ∧ (ptLoad (.pointer (some ⟨b12, 0, none⟩))).run Tryz.prog w = .ok (.agg (ptL ba).toArray) w ∧ (ptLoad (.pointer (some ⟨W.heap.size, 0, none⟩))).run Tryz.prog w = .ok (.agg (ptL key).toArray) w ∧ w.cell? ⟨c, 11, none⟩ = some (fnM 86 mn)) := fun w h => ⟨h, N.natLoad_run (h.get 4 (by rw [← hL1]; rfl)), N.natLoad_run (h.get 3 (by rw [← hL1]; rfl)), N.natLoad_run (h.get 1 (by rw [← hL1]; rfl)), ptLoad_run (h.get 0 (by rw [← hL1]; rfl)), ptLoad_run (h.get 5 (by rw [← hL1]; rfl)), (h.cv C).fn 11 rfl⟩
    have G1 : Hid (∀ w, Fm W L1 w → Calls Tryz.prog 86 #[boxM mn, .agg (N.natL ee).toArray, .agg (N.natL iw).toArray] w fun e w' => e = .returned (.agg (N.natL u1).toArray) ∧ Below w.heap.size w w') := fun w h => H3a.out w (h.cv C)
    have G2 : Hid (∀ w, Fm W L1 w → Calls Tryz.prog 29 #[boxM c, .agg (N.natL u1).toArray, .agg (ptL ba).toArray] w fun e w' => e = .returned (.agg (ptL m1).toArray) ∧ Below w.heap.size w w') := fun w h => H3b.out w (h.cv C)
    have G3 : Hid (∀ w, Fm W L1 w → Calls Tryz.prog 86 #[boxM mn, .agg (N.natL r).toArray, .agg (N.natL iw).toArray] w fun e w' => e = .returned (.agg (N.natL u2).toArray) ∧ Below w.heap.size w w') := fun w h => H3c.out w (h.cv C)
    have G4 : Hid (∀ w, Fm W L1 w → Calls Tryz.prog 29 #[boxM c, .agg (N.natL u2).toArray, .agg (ptL key).toArray] w fun e w' => e = .returned (.agg (ptL m2).toArray) ∧ Below w.heap.size w w') := fun w h => H3d.out w (h.cv C)
    have G5 : Hid (∀ w, Fm W L1 w → Calls Tryz.prog 21 #[boxM c, .agg (ptL m1).toArray, .agg (ptL m2).toArray] w fun e w' => e = .returned (.agg (ptL mt).toArray) ∧ Below w.heap.size w w') := fun w h => H3e.out w (h.cv C)
    clear H3a H3b H3c H3d H3e
    have hS0 := HS.out _ F1
    go_cut [13] (fun s13 wx => ∃ b, s13 = .pointer (some ⟨b, 0, none⟩) ∧ Fm W ((b, Obj.cells (ptL mt).toArray 40 (0, 0)) :: L1) wx)
    case first =>
      go_region_held3 (fun w => Fm W L1 w ∧ (N.natLoad (.pointer (some ⟨W.heap.size + 1, 0, none⟩))).run Tryz.prog w = .ok (.agg (N.natL ee).toArray) w ∧ (N.natLoad (.pointer (some ⟨W.heap.size + 2, 0, none⟩))).run Tryz.prog w = .ok (.agg (N.natL r).toArray) w ∧ (N.natLoad (.pointer (some ⟨b11, 0, none⟩))).run Tryz.prog w = .ok (.agg (N.natL iw).toArray) w ∧ (ptLoad (.pointer (some ⟨b12, 0, none⟩))).run Tryz.prog w = .ok (.agg (ptL ba).toArray) w ∧ (ptLoad (.pointer (some ⟨W.heap.size, 0, none⟩))).run Tryz.prog w = .ok (.agg (ptL key).toArray) w ∧ w.cell? ⟨c, 11, none⟩ = some (fnM 86 mn))
        (first | assumption | (apply HS.out; repeat (first | assumption | apply Fm.drew | apply Fz.drew | apply Fq.drew | apply Fm.alloc | (apply Fm.setO (V := _); assumption))))
        (first
          | (go_at_call 21; with_reducible refine (G5.out _ (by repeat (first | assumption | apply Fm.drew | apply Fz.drew | apply Fq.drew | apply Fm.alloc))).mono ?_; rintro e w6 ⟨rfl, hb6⟩; have F6 := Fm.blk (by repeat (first | assumption | apply Fm.drew | apply Fz.drew | apply Fq.drew | apply Fm.alloc)) hb6; have hs6 := HS.out _ F6
             first
               | (refine kqN hb6 ?_; rintro ⟨g1, s1⟩)
               | (refine kqM hb6 ?_; rintro ⟨g1, s1⟩)
               | (refine kqO g1 hb6 ?_; rintro ⟨g2, s2⟩; clear g1 s1; have g1 := g2; have s1 := s2; clear g2 s2)
               | skip)
          | (go_at_call 29; with_reducible refine (G4.out _ (by repeat (first | assumption | apply Fm.drew | apply Fz.drew | apply Fq.drew | apply Fm.alloc))).mono ?_; rintro e w5 ⟨rfl, hb5⟩; have F5 := Fm.blk (by repeat (first | assumption | apply Fm.drew | apply Fz.drew | apply Fq.drew | apply Fm.alloc)) hb5; have hs5 := HS.out _ F5
             first
               | (refine kqN hb5 ?_; rintro ⟨g1, s1⟩)
               | (refine kqM hb5 ?_; rintro ⟨g1, s1⟩)
               | (refine kqO g1 hb5 ?_; rintro ⟨g2, s2⟩; clear g1 s1; have g1 := g2; have s1 := s2; clear g2 s2)
               | skip)
          | (go_at_call 86; with_reducible refine (G3.out _ (by repeat (first | assumption | apply Fm.drew | apply Fz.drew | apply Fq.drew | apply Fm.alloc))).mono ?_; rintro e w4 ⟨rfl, hb4⟩; have F4 := Fm.blk (by repeat (first | assumption | apply Fm.drew | apply Fz.drew | apply Fq.drew | apply Fm.alloc)) hb4; have hs4 := HS.out _ F4
             first
               | (refine kqN hb4 ?_; rintro ⟨g1, s1⟩)
               | (refine kqM hb4 ?_; rintro ⟨g1, s1⟩)
               | (refine kqO g1 hb4 ?_; rintro ⟨g2, s2⟩; clear g1 s1; have g1 := g2; have s1 := s2; clear g2 s2)
               | skip)
          | (go_at_call 29; with_reducible refine (G2.out _ (by repeat (first | assumption | apply Fm.drew | apply Fz.drew | apply Fq.drew | apply Fm.alloc))).mono ?_; rintro e w3 ⟨rfl, hb3⟩; have F3 := Fm.blk (by repeat (first | assumption | apply Fm.drew | apply Fz.drew | apply Fq.drew | apply Fm.alloc)) hb3; have hs3 := HS.out _ F3
             first
               | (refine kqN hb3 ?_; rintro ⟨g1, s1⟩)
               | (refine kqM hb3 ?_; rintro ⟨g1, s1⟩)
               | (refine kqO g1 hb3 ?_; rintro ⟨g2, s2⟩; clear g1 s1; have g1 := g2; have s1 := s2; clear g2 s2)
               | skip)
          | (go_at_call 86; with_reducible refine (G1.out _ (by repeat (first | assumption | apply Fm.drew | apply Fz.drew | apply Fq.drew | apply Fm.alloc))).mono ?_; rintro e w2 ⟨rfl, hb2⟩; have F2 := Fm.blk (by repeat (first | assumption | apply Fm.drew | apply Fz.drew | apply Fq.drew | apply Fm.alloc)) hb2; have hs2 := HS.out _ F2
             first
               | (refine kqN hb2 ?_; rintro ⟨g1, s1⟩)
               | (refine kqM hb2 ?_; rintro ⟨g1, s1⟩)
               | (refine kqO g1 hb2 ?_; rintro ⟨g2, s2⟩; clear g1 s1; have g1 := g2; have s1 := s2; clear g2 s2)
               | skip))
      all_goals go_wp2
      all_goals go_meet
      all_goals (first
        | exact ⟨_, rfl, Fm.new (by assumption) _⟩
        | exact ⟨_, rfl, Fm.late (by assumption) (by assumption) g1⟩)
    case rest =>
      obtain ⟨b13, rfl, F2⟩ := hcut
      rw [← hL1] at F2
      clear hS0 F1 HS hL1 G1 G2 G3 G4 G5
      go_upto_region 4 with fail
      obtain ⟨L2, hL2⟩ : ∃ L : List (Nat × Obj), [(b13, Obj.cells (ptL mt).toArray 40 (0, 0)), (b12, Obj.cells (ptL ba).toArray 40 (0, 0)), (b11, Obj.cells (N.natL iw).toArray 38 (0, 0)), (W.heap.size + 3, Obj.cells (N.natL s).toArray 38 (0, 0)), (W.heap.size + 2, Obj.cells (N.natL r).toArray 38 (0, 0)), (W.heap.size + 1, Obj.cells (N.natL ee).toArray 38 (0, 0)), (W.heap.size, Obj.cells (ptL key).toArray 40 (0, 0))] = L := ⟨_, rfl⟩
      rw [hL2] at F2
      have HS : Hid (∀ w, Fm W L2 w → Fm W L2 w ∧ (ptLoad (.pointer (some ⟨b13, 0, none⟩))).run Tryz.prog w = .ok (.agg (ptL mt).toArray) w ∧ (N.natLoad (.pointer (some ⟨W.heap.size + 2, 0, none⟩))).run Tryz.prog w = .ok (.agg (N.natL r).toArray) w ∧ w.cell? ⟨c, 7, none⟩ = some (fnM 82 mn) ∧ (natEqV (.agg (N.natL xr).toArray) (.agg (N.natL r).toArray)).run Tryz.prog w = .ok (.bool D) w) := fun w h => ⟨h, ptLoad_run (h.get 0 (by rw [← hL2]; rfl)), N.natLoad_run (h.get 4 (by rw [← hL2]; rfl)), (h.cv C).fn 7 rfl, HE.out w⟩
      have G1 : Hid (∀ w, Fm W L2 w → Calls Tryz.prog 26 #[.agg (ptL mt).toArray] w fun e w' => e = .returned (.bool false) ∧ Below w.heap.size w w') := fun w h => H4a.out w
      have G2 : Hid (∀ w, Fm W L2 w → Calls Tryz.prog 47 #[boxM c, .agg (ptL mt).toArray] w fun e w' => e = .returned (.agg (ptL pm).toArray) ∧ Below w.heap.size w w') := fun w h => H4b.out w (h.cv C)
      have G3 : Hid (∀ w, Fm W L2 w → Calls Tryz.prog 82 #[boxM mn, .agg (N.natL pm.x).toArray] w fun e w' => e = .returned (.agg (N.natL xr).toArray) ∧ Below w.heap.size w w') := fun w h => H4c.out w (h.cv C)
      have hS0 := HS.out _ F2
      refine wp_region_held_drew (S := fun w => Fm W L2 w ∧ (ptLoad (.pointer (some ⟨b13, 0, none⟩))).run Tryz.prog w = .ok (.agg (ptL mt).toArray) w ∧ (N.natLoad (.pointer (some ⟨W.heap.size + 2, 0, none⟩))).run Tryz.prog w = .ok (.agg (N.natL r).toArray) w ∧ w.cell? ⟨c, 7, none⟩ = some (fnM 82 mn) ∧ (natEqV (.agg (N.natL xr).toArray) (.agg (N.natL r).toArray)).run Tryz.prog w = .ok (.bool D) w) (by kernel_rfl) (HS.out _ F2.drew) (fun hHeld => ?_)
      refine wpAnyH_take (i := 0) (v := ?vh2_0) rfl (by kernel_rfl) (by kernel_rfl) (by kernel_rfl) (fun _ _ _ h => h) (Or.inl ⟨by kernel_rfl, ?yh2_0⟩) (by assumption) ?_
      case yh2_0 => (intro w hSw; (try dsimp only at hSw); go_simp; try with_reducible rfl)
      try simp only [Act.put, List.getElem_toArray, List.getElem_cons_succ, List.getElem_cons_zero, List.setIfInBounds_toArray, List.set_cons_zero, List.set_cons_succ]
      refine wpAnyH_ready (rs := [1]) (by kernel_rfl) (by simp) ?_
      refine AllReadyH.cons rfl (fun K hK => ?_) AllReadyH.nil
      go_simp
      go_at_call 26
      with_reducible refine (G1.out _ (by repeat (first | assumption | apply Fm.drew | apply Fz.drew | apply Fq.drew | apply Fm.alloc))).mono ?_
      rintro e w3 ⟨rfl, hb3⟩
      have F3 := Fm.blk (by repeat (first | assumption | apply Fm.drew | apply Fz.drew | apply Fq.drew | apply Fm.alloc)) hb3
      have hs3 := HS.out _ F3
      refine hK.out _ _ hs3 (fun hHeld3 => ?_)
      clear hK K
      try simp only [Act.put, List.getElem_toArray, List.getElem_cons_succ, List.getElem_cons_zero, List.setIfInBounds_toArray, List.set_cons_zero, List.set_cons_succ]
      refine wpAnyH_take (i := 2) (v := ?vh2_2) rfl (by kernel_rfl) (by kernel_rfl) (by kernel_rfl) (fun _ _ _ h => h) (Or.inl ⟨by kernel_rfl, ?yh2_2⟩) (by assumption) ?_
      case yh2_2 => (intro w hSw; (try dsimp only at hSw); go_simp; try with_reducible rfl)
      refine wpAnyH_take (i := 3) (v := ?vh2_3) rfl (by kernel_rfl) (by kernel_rfl) (by kernel_rfl) (fun _ _ _ h => h) (Or.inl ⟨by kernel_rfl, ?yh2_3⟩) (by assumption) ?_
      case yh2_3 => (intro w hSw; (try dsimp only at hSw); go_simp; try with_reducible rfl)
      try simp only [Act.put, List.getElem_toArray, List.getElem_cons_succ, List.getElem_cons_zero, List.setIfInBounds_toArray, List.set_cons_zero, List.set_cons_succ]
      refine wpAnyH_take (i := 4) (v := ?vh2_4) rfl (by kernel_rfl) (by kernel_rfl) (by kernel_rfl) (fun _ _ _ h => h) (Or.inl ⟨by kernel_rfl, ?yh2_4⟩) (by assumption) ?_
      case yh2_4 => (intro w hSw; (try dsimp only at hSw); go_simp; try with_reducible rfl)
      refine wpAnyH_take (i := 5) (v := ?vh2_5) rfl (by kernel_rfl) (by kernel_rfl) (by kernel_rfl) (fun _ _ _ h => h) (Or.inl ⟨by kernel_rfl, ?yh2_5⟩) (by assumption) ?_
      case yh2_5 => (intro w hSw; (try dsimp only at hSw); go_simp; try with_reducible rfl)
      refine wpAnyH_take (i := 6) (v := ?vh2_6) rfl (by kernel_rfl) (by kernel_rfl) (by kernel_rfl) (fun _ _ _ h => h) (Or.inl ⟨by kernel_rfl, ?yh2_6⟩) (by assumption) ?_
      case yh2_6 => (intro w hSw; (try dsimp only at hSw); go_simp; try with_reducible rfl)
      refine wpAnyH_take (i := 7) (v := ?vh2_7) rfl (by kernel_rfl) (by kernel_rfl) (by kernel_rfl) (fun _ _ _ h => h) (Or.inl ⟨by kernel_rfl, ?yh2_7⟩) (by assumption) ?_
      case yh2_7 => (intro w hSw; (try dsimp only at hSw); go_simp; try with_reducible rfl)
      refine wpAnyH_take (i := 8) (v := ?vh2_8) rfl (by kernel_rfl) (by kernel_rfl) (by kernel_rfl) (fun _ _ _ h => h) (Or.inl ⟨by kernel_rfl, ?yh2_8⟩) (by assumption) ?_
      case yh2_8 => (intro w hSw; (try dsimp only at hSw); go_simp; try with_reducible rfl)
      refine wpAnyH_take (i := 9) (v := ?vh2_9) rfl (by kernel_rfl) (by kernel_rfl) (by kernel_rfl) (fun _ _ _ h => h) (Or.inl ⟨by kernel_rfl, ?yh2_9⟩) (by assumption) ?_
      case yh2_9 => (intro w hSw; (try dsimp only at hSw); go_simp; try with_reducible rfl)
      refine wpAnyH_take (i := 10) (v := ?vh2_10) rfl (by kernel_rfl) (by kernel_rfl) (by kernel_rfl) (fun _ _ _ h => h) (Or.inl ⟨by kernel_rfl, ?yh2_10⟩) (by assumption) ?_
      case yh2_10 => (intro w hSw; (try dsimp only at hSw); go_simp; try with_reducible rfl)
      try simp only [Act.put, List.getElem_toArray, List.getElem_cons_succ, List.getElem_cons_zero, List.setIfInBounds_toArray, List.set_cons_zero, List.set_cons_succ]
      refine wpAnyH_take (i := 14) (v := ?vh2_14) rfl (by kernel_rfl) (by kernel_rfl) (by kernel_rfl) (fun _ _ _ h => h) (Or.inl ⟨by kernel_rfl, ?yh2_14⟩) (by assumption) ?_
      case yh2_14 => (intro w hSw; (try dsimp only at hSw); go_simp; try with_reducible rfl)
      try simp only [Act.put, List.getElem_toArray, List.getElem_cons_succ, List.getElem_cons_zero, List.setIfInBounds_toArray, List.set_cons_zero, List.set_cons_succ]
      refine wpAnyH_ready (rs := [11]) (by kernel_rfl) (by simp) ?_
      refine AllReadyH.cons rfl (fun K hK => ?_) AllReadyH.nil
      go_simp
      go_at_call 47
      with_reducible refine (G2.out _ (by repeat (first | assumption | apply Fm.drew | apply Fz.drew | apply Fq.drew | apply Fm.alloc))).mono ?_
      rintro e w4 ⟨rfl, hb4⟩
      have F4 := Fm.blk (by repeat (first | assumption | apply Fm.drew | apply Fz.drew | apply Fq.drew | apply Fm.alloc)) hb4
      have hs4 := HS.out _ F4
      refine hK.out _ _ hs4 (fun hHeld4 => ?_)
      clear hK K
      try simp only [Act.put, List.getElem_toArray, List.getElem_cons_succ, List.getElem_cons_zero, List.setIfInBounds_toArray, List.set_cons_zero, List.set_cons_succ]
      refine wpAnyH_take (i := 12) (v := ?vh2_12) rfl (by kernel_rfl) (by kernel_rfl) (by kernel_rfl) (fun _ _ _ h => h) (Or.inl ⟨by kernel_rfl, ?yh2_12⟩) (by assumption) ?_
      case yh2_12 => (intro w hSw; (try dsimp only at hSw); go_simp; try with_reducible rfl)
      try simp only [Act.put, List.getElem_toArray, List.getElem_cons_succ, List.getElem_cons_zero, List.setIfInBounds_toArray, List.set_cons_zero, List.set_cons_succ]
      refine wpAnyH_ready (rs := [13]) (by kernel_rfl) (by simp) ?_
      refine AllReadyH.cons rfl (fun K hK => ?_) AllReadyH.nil
      go_simp
      go_at_call 82
      with_reducible refine (G3.out _ (by repeat (first | assumption | apply Fm.drew | apply Fz.drew | apply Fq.drew | apply Fm.alloc))).mono ?_
      rintro e w5 ⟨rfl, hb5⟩
      have F5 := Fm.blk (by repeat (first | assumption | apply Fm.drew | apply Fz.drew | apply Fq.drew | apply Fm.alloc)) hb5
      have hs5 := HS.out _ F5
      refine hK.out _ _ hs5 (fun hHeld5 => ?_)
      clear hK K
      try simp only [Act.put, List.getElem_toArray, List.getElem_cons_succ, List.getElem_cons_zero, List.setIfInBounds_toArray, List.set_cons_zero, List.set_cons_succ]
      refine wpAnyH_take (i := 15) (v := ?vh2_15) rfl (by kernel_rfl) (by kernel_rfl) (by kernel_rfl) (fun _ _ _ h => h) (Or.inl ⟨by kernel_rfl, ?yh2_15⟩) (by assumption) ?_
      case yh2_15 => (intro w hSw; (try dsimp only at hSw); go_simp; try with_reducible rfl)
      try simp only [Act.put, List.getElem_toArray, List.getElem_cons_succ, List.getElem_cons_zero, List.setIfInBounds_toArray, List.set_cons_zero, List.set_cons_succ]
      refine wpAnyH_take (i := 16) (v := ?vh2_16) rfl (by kernel_rfl) (by kernel_rfl) (by kernel_rfl) (fun _ _ _ h => h) (Or.inl ⟨by kernel_rfl, ?yh2_16⟩) (by assumption) ?_
      case yh2_16 => (intro w hSw; (try dsimp only at hSw); go_simp; try with_reducible rfl)
      refine wpAnyH_take (i := 17) (v := ?vh2_17) rfl (by kernel_rfl) (by kernel_rfl) (by kernel_rfl) (fun _ _ _ h => h) (Or.inl ⟨by kernel_rfl, ?yh2_17⟩) (by assumption) ?_
      case yh2_17 => (intro w hSw; (try dsimp only at hSw); go_simp; try with_reducible rfl)
      try simp only [Act.put, List.getElem_toArray, List.getElem_cons_succ, List.getElem_cons_zero, List.setIfInBounds_toArray, List.set_cons_zero, List.set_cons_succ]
      refine wpAnyH_done (by kernel_rfl) ?_ _
      go_wp2
      go_ret
      exact ⟨rfl, F5.bel⟩
end Go.Proofs.YtpimliebiapnfaaGreatDoor