/- Texts of this proof, joined: CPofxy, CPofxon, CPofok, CPof, COpp, CTell. -/
import Derived.Test.YtpimliebiapnfaaGreatDoorJ14
import Derived.Test.YtpimliebiapnfaaGreatDoorJ13
/- pointOf: xy. -/
namespace Go.Proofs.YtpimliebiapnfaaGreatDoor
set_option linter.unusedVariables false
set_option linter.unusedSimpArgs false
open Go.RowKit N
attribute [local go_sem ↓] N.loadAt_nat N.storeAt_nat N.build_nat N.build_nat' loadAt_pt storeAt_pt build_pt0 build_pt0' build_pt'
attribute [local go_sem] N.st1 N.st2a N.st2b N.st1d N.st2ad N.st2bd N.natBuild_run ptst1 ptst1d ptBuild0_run build_pt ptBuild_run
attribute [local go_sem ↓] bin_nat bin_pt
set_option maxRecDepth 100000 in
set_option maxHeartbeats 2000000 in
theorem pof_xy {c mp mn : Nat} (s : ByteArray) (W : World) (C : Cv W c mp mn) (h : s.size = 64) (h1 : hiN s < pP) (h2 : ¬ loN s < pP) :
    Calls Tryz.prog 19 #[boxM c, .string s] W fun e w' => e = .returned (.tuple #[.agg (ptL T3.zero).toArray, .bool false]) ∧ Below W.heap.size W w' := by
  have he : s.toList.isEmpty = false := by
    rw [Bool.eq_false_iff]
    intro e
    have : s.size = 0 := by rw [← size_list, ← ByteArray.toList_eq, List.isEmpty_iff.1 e]; rfl
    omega
  have he2 : ((s.size : Int) != 64) = false := by simp; omega
  have hi1 : (32 : Int) ≤ (s.size : Int) := by omega
  have hi2 : (0 : Int) ≤ (s.size : Int) := by omega
  have HX := Hid.mk (numberOf_in (s.extract 0 32) (by rw [ByteArray.size_extract]; omega))
  have HY := Hid.mk (numberOf_in (s.extract 32 s.size) (by rw [ByteArray.size_extract]; omega))
  have hxl : hiN s < N.Lim := numB_32 _ (by rw [ByteArray.size_extract]; omega)
  have hyl : loN s < N.Lim := numB_32 _ (by rw [ByteArray.size_extract]; omega)
  have HSm := Hid.mk (N.small_in 1 (by omega))
  rw [show N.numB (s.extract 0 32).data.toList = hiN s from rfl] at HX
  rw [show N.numB (s.extract 32 s.size).data.toList = loN s from rfl] at HY
  generalize hiN s = x at *
  generalize loN s = y at *
  clear h
  have hzp := zeroPt
  obtain ⟨V, hV, F⟩ : ∃ V, (W.alloc (Obj.cells (ptL (T3.zero)).toArray 40 (0, 0))) = V ∧ Fm W [(W.heap.size, Obj.cells (ptL (T3.zero)).toArray 40 (0, 0))] V := ⟨_, rfl, Fm.box1 W _⟩
  obtain ⟨L, hL⟩ : ∃ L : List (Nat × Obj), [(W.heap.size, Obj.cells (ptL (T3.zero)).toArray 40 (0, 0))] = L := ⟨_, rfl⟩
  rw [hL] at F
  obtain ⟨sx, hsx⟩ : ∃ t, s.extract 0 32 = t := ⟨_, rfl⟩
  obtain ⟨sy, hsy⟩ : ∃ t, s.extract 32 s.size = t := ⟨_, rfl⟩
  rw [hsx] at HX
  rw [hsy] at HY
  have H1 : Hid (∀ w, Fm W L w → Calls Tryz.prog 30 #[.string sx] w fun e w' => e = .returned (.agg (N.natL x).toArray) ∧ Below w.heap.size w w') := fun w _ => HX.out w
  have H2 : Hid (∀ w, Fm W L w → Calls Tryz.prog 30 #[.string sy] w fun e w' => e = .returned (.agg (N.natL y).toArray) ∧ Below w.heap.size w w') := fun w _ => HY.out w
  have H3 : Hid (∀ w, Fm W L w → Calls Tryz.prog 45 #[.int .u64 1] w fun e w' => e = .returned (.agg (N.natL 1).toArray) ∧ Below w.heap.size w w') := fun w _ => HSm.out w
  have HS : Hid (∀ w, Fm W L w → Fm W L w ∧ True) := fun w h => ⟨h, trivial⟩
  clear HX HY HSm
  go_enter Tryz.func19, Tryz.ntmps19
  go_upto_region 5 with fail
  clear hV
  have hS0 := HS.out _ F
  go_cut [6] (fun s6 wx => ∃ b, s6 = .pointer (some ⟨b, 0, none⟩) ∧ Fm W ((b, Obj.cells (ptL (⟨x, y, 1⟩)).toArray 40 (0, 0)) :: L) wx)
  case first =>
    go_region_held3 (fun w => Fm W L w ∧ True)
      (first | assumption | (apply HS.out; repeat (first | assumption | apply Fm.drew | apply Fz.drew | apply Fq.drew | apply Fm.alloc | (apply Fm.setO (V := _); assumption))))
      (first
        | (go_at_call 30; with_reducible refine (H1.out _ (by repeat (first | assumption | apply Fm.drew | apply Fz.drew | apply Fq.drew | apply Fm.alloc))).mono ?_; rintro e w2 ⟨rfl, hb2⟩; have F2 := Fm.blk (by repeat (first | assumption | apply Fm.drew | apply Fz.drew | apply Fq.drew | apply Fm.alloc)) hb2; have hs2 := HS.out _ F2
           first
             | (refine kqN hb2 ?_; rintro ⟨g1, s1⟩)
             | (refine kqM hb2 ?_; rintro ⟨g1, s1⟩)
             | (refine kqO g1 hb2 ?_; rintro ⟨g2, s2⟩; clear g1 s1; have g1 := g2; have s1 := s2; clear g2 s2)
             | skip)
        | (go_at_call 30; with_reducible refine (H2.out _ (by repeat (first | assumption | apply Fm.drew | apply Fz.drew | apply Fq.drew | apply Fm.alloc))).mono ?_; rintro e w3 ⟨rfl, hb3⟩; have F3 := Fm.blk (by repeat (first | assumption | apply Fm.drew | apply Fz.drew | apply Fq.drew | apply Fm.alloc)) hb3; have hs3 := HS.out _ F3
           first
             | (refine kqN hb3 ?_; rintro ⟨g1, s1⟩)
             | (refine kqM hb3 ?_; rintro ⟨g1, s1⟩)
             | (refine kqO g1 hb3 ?_; rintro ⟨g2, s2⟩; clear g1 s1; have g1 := g2; have s1 := s2; clear g2 s2)
             | skip)
        | (go_at_call 45; with_reducible refine (H3.out _ (by repeat (first | assumption | apply Fm.drew | apply Fz.drew | apply Fq.drew | apply Fm.alloc))).mono ?_; rintro e w4 ⟨rfl, hb4⟩; have F4 := Fm.blk (by repeat (first | assumption | apply Fm.drew | apply Fz.drew | apply Fq.drew | apply Fm.alloc)) hb4; have hs4 := HS.out _ F4
           first
             | (refine kqN hb4 ?_; rintro ⟨g1, s1⟩)
             | (refine kqM hb4 ?_; rintro ⟨g1, s1⟩)
             | (refine kqO g1 hb4 ?_; rintro ⟨g2, s2⟩; clear g1 s1; have g1 := g2; have s1 := s2; clear g2 s2)
             | skip))
    all_goals go_wp2
    all_goals go_meet
    all_goals (first
      | exact ⟨_, rfl, Fm.new (by assumption) _⟩
      | exact ⟨_, rfl, Fm.late (by assumption) (by assumption) g1⟩)
  case rest =>
    obtain ⟨b6, rfl, F1⟩ := hcut
    clear hS0 F HS H1 H2 H3
    go_upto_region 6 with fail
    rw [← hL] at F1
    clear hL
    have H1 : Hid (∀ w, Cv w c mp mn → Calls Tryz.prog 81 #[boxM mp, .agg (N.natL x).toArray] w fun e w' => e = .returned (.bool true) ∧ Below w.heap.size w w') := fun w h => (pBelow h hxl).mono fun e w' ⟨he, hb⟩ => ⟨by rw [he, decide_eq_true h1], hb⟩
    have H2 : Hid (∀ w, Cv w c mp mn → Calls Tryz.prog 81 #[boxM mp, .agg (N.natL y).toArray] w fun e w' => e = .returned (.bool false) ∧ Below w.heap.size w w') := fun w h => (pBelow h hyl).mono fun e w' ⟨he, hb⟩ => ⟨by rw [he, decide_eq_false h2], hb⟩
    clear h1 hxl hyl h2
    obtain ⟨L1, hL1⟩ : ∃ L : List (Nat × Obj), [(b6, Obj.cells (ptL (⟨x, y, 1⟩)).toArray 40 (0, 0)), (W.heap.size, Obj.cells (ptL (T3.zero)).toArray 40 (0, 0))] = L := ⟨_, rfl⟩
    rw [hL1] at F1
    have HS : Hid (∀ w, Fm W L1 w → Fm W L1 w ∧ (N.natLoad (.pointer (some ⟨b6, 0, none⟩))).run Tryz.prog w = .ok (.agg (N.natL x).toArray) w ∧ (N.natLoad (.pointer (some ⟨b6, 129, none⟩))).run Tryz.prog w = .ok (.agg (N.natL y).toArray) w ∧ w.cell? ⟨c, 0, none⟩ = some (fnM 81 mp)) := fun w h => ⟨h, ptX (a := ⟨x, y, 1⟩) (h.get 0 (by rw [← hL1]; rfl)), ptY (a := ⟨x, y, 1⟩) (h.get 0 (by rw [← hL1]; rfl)), (h.cv C).fn 0 rfl⟩
    have HC : Hid (∀ w, Fm W L1 w → Cv w c mp mn) := fun w h => h.cv C
    have hS0 := HS.out _ F1
    refine wp_region_held_drew (S := fun w => Fm W L1 w ∧ (N.natLoad (.pointer (some ⟨b6, 0, none⟩))).run Tryz.prog w = .ok (.agg (N.natL x).toArray) w ∧ (N.natLoad (.pointer (some ⟨b6, 129, none⟩))).run Tryz.prog w = .ok (.agg (N.natL y).toArray) w ∧ w.cell? ⟨c, 0, none⟩ = some (fnM 81 mp)) (by kernel_rfl) (HS.out _ F1.drew) (fun hHeld => ?_)
    refine wpAnyH_take (i := 0) (v := ?v0) rfl (by kernel_rfl) (by kernel_rfl) (by kernel_rfl) (fun _ _ _ h => h) (Or.inl ⟨by kernel_rfl, ?hy0⟩) (by assumption) ?_
    case hy0 => (intro w hSw; (try dsimp only at hSw); go_simp; try with_reducible rfl)
    try simp only [Act.put, List.getElem_toArray, List.getElem_cons_succ, List.getElem_cons_zero, List.setIfInBounds_toArray, List.set_cons_zero, List.set_cons_succ]
    refine wpAnyH_take (i := 1) (v := ?v1) rfl (by kernel_rfl) (by kernel_rfl) (by kernel_rfl) (fun _ _ _ h => h) (Or.inl ⟨by kernel_rfl, ?hy1⟩) (by assumption) ?_
    case hy1 => (intro w hSw; (try dsimp only at hSw); go_simp; try with_reducible rfl)
    try simp only [Act.put, List.getElem_toArray, List.getElem_cons_succ, List.getElem_cons_zero, List.setIfInBounds_toArray, List.set_cons_zero, List.set_cons_succ]
    refine wpAnyH_take (i := 2) (v := ?v2) rfl (by kernel_rfl) (by kernel_rfl) (by kernel_rfl) (fun _ _ _ h => h) (Or.inl ⟨by kernel_rfl, ?hy2⟩) (by assumption) ?_
    case hy2 => (intro w hSw; (try dsimp only at hSw); go_simp; try with_reducible rfl)
    try simp only [Act.put, List.getElem_toArray, List.getElem_cons_succ, List.getElem_cons_zero, List.setIfInBounds_toArray, List.set_cons_zero, List.set_cons_succ]
    refine wpAnyH_take (i := 3) (v := ?v3) rfl (by kernel_rfl) (by kernel_rfl) (by kernel_rfl) (fun _ _ _ h => h) (Or.inl ⟨by kernel_rfl, ?hy3⟩) (by assumption) ?_
    case hy3 => (intro w hSw; (try dsimp only at hSw); go_simp; try with_reducible rfl)
    try simp only [Act.put, List.getElem_toArray, List.getElem_cons_succ, List.getElem_cons_zero, List.setIfInBounds_toArray, List.set_cons_zero, List.set_cons_succ]
    refine wpAnyH_take (i := 4) (v := ?v4) rfl (by kernel_rfl) (by kernel_rfl) (by kernel_rfl) (fun _ _ _ h => h) (Or.inl ⟨by kernel_rfl, ?hy4⟩) (by assumption) ?_
    case hy4 => (intro w hSw; (try dsimp only at hSw); go_simp; try with_reducible rfl)
    try simp only [Act.put, List.getElem_toArray, List.getElem_cons_succ, List.getElem_cons_zero, List.setIfInBounds_toArray, List.set_cons_zero, List.set_cons_succ]
    refine wpAnyH_take (i := 5) (v := ?v5) rfl (by kernel_rfl) (by kernel_rfl) (by kernel_rfl) (fun _ _ _ h => h) (Or.inl ⟨by kernel_rfl, ?hy5⟩) (by assumption) ?_
    case hy5 => (intro w hSw; (try dsimp only at hSw); go_simp; try with_reducible rfl)
    try simp only [Act.put, List.getElem_toArray, List.getElem_cons_succ, List.getElem_cons_zero, List.setIfInBounds_toArray, List.set_cons_zero, List.set_cons_succ]
    refine wpAnyH_take (i := 6) (v := ?v6) rfl (by kernel_rfl) (by kernel_rfl) (by kernel_rfl) (fun _ _ _ h => h) (Or.inl ⟨by kernel_rfl, ?hy6⟩) (by assumption) ?_
    case hy6 => (intro w hSw; (try dsimp only at hSw); go_simp; try with_reducible rfl)
    try simp only [Act.put, List.getElem_toArray, List.getElem_cons_succ, List.getElem_cons_zero, List.setIfInBounds_toArray, List.set_cons_zero, List.set_cons_succ]
    refine wpAnyH_ready (rs := [7]) (by kernel_rfl) (by simp) ?_
    refine AllReadyH.cons rfl (fun K hK => ?_) AllReadyH.nil
    go_simp
    go_at_call 81
    with_reducible refine (H1.out _ (HC.out _ (by repeat (first | assumption | apply Fm.drew | apply Fz.drew | apply Fq.drew | apply Fm.alloc)))).mono ?_
    rintro e w2 ⟨rfl, hb2⟩
    have F2 := Fm.blk (by repeat (first | assumption | apply Fm.drew | apply Fz.drew | apply Fq.drew | apply Fm.alloc)) hb2
    have hs2 := HS.out _ F2
    refine hK.out _ _ hs2 (fun hHeld2 => ?_)
    clear hK K
    try simp only [Act.put, List.getElem_toArray, List.getElem_cons_succ, List.getElem_cons_zero, List.setIfInBounds_toArray, List.set_cons_zero, List.set_cons_succ]
    refine wpAnyH_take (i := 8) (v := ?v8) rfl (by kernel_rfl) (by kernel_rfl) (by kernel_rfl) (fun _ _ _ h => h) (Or.inl ⟨by kernel_rfl, ?hy8⟩) (by assumption) ?_
    case hy8 => (intro w hSw; (try dsimp only at hSw); go_simp; try with_reducible rfl)
    try simp only [Act.put, List.getElem_toArray, List.getElem_cons_succ, List.getElem_cons_zero, List.setIfInBounds_toArray, List.set_cons_zero, List.set_cons_succ]
    refine wpAnyH_take (i := 9) (v := ?v9) rfl (by kernel_rfl) (by kernel_rfl) (by kernel_rfl) (fun _ _ _ h => h) (Or.inl ⟨by kernel_rfl, ?hy9⟩) (by assumption) ?_
    case hy9 => (intro w hSw; (try dsimp only at hSw); go_simp; try with_reducible rfl)
    try simp only [Act.put, List.getElem_toArray, List.getElem_cons_succ, List.getElem_cons_zero, List.setIfInBounds_toArray, List.set_cons_zero, List.set_cons_succ]
    refine wpAnyH_take (i := 10) (v := ?v10) rfl (by kernel_rfl) (by kernel_rfl) (by kernel_rfl) (fun _ _ _ h => h) (Or.inl ⟨by kernel_rfl, ?hy10⟩) (by assumption) ?_
    case hy10 => (intro w hSw; (try dsimp only at hSw); go_simp; try with_reducible rfl)
    try simp only [Act.put, List.getElem_toArray, List.getElem_cons_succ, List.getElem_cons_zero, List.setIfInBounds_toArray, List.set_cons_zero, List.set_cons_succ]
    refine wpAnyH_take (i := 11) (v := ?v11) rfl (by kernel_rfl) (by kernel_rfl) (by kernel_rfl) (fun _ _ _ h => h) (Or.inl ⟨by kernel_rfl, ?hy11⟩) (by assumption) ?_
    case hy11 => (intro w hSw; (try dsimp only at hSw); go_simp; try with_reducible rfl)
    try simp only [Act.put, List.getElem_toArray, List.getElem_cons_succ, List.getElem_cons_zero, List.setIfInBounds_toArray, List.set_cons_zero, List.set_cons_succ]
    refine wpAnyH_take (i := 12) (v := ?v12) rfl (by kernel_rfl) (by kernel_rfl) (by kernel_rfl) (fun _ _ _ h => h) (Or.inl ⟨by kernel_rfl, ?hy12⟩) (by assumption) ?_
    case hy12 => (intro w hSw; (try dsimp only at hSw); go_simp; try with_reducible rfl)
    try simp only [Act.put, List.getElem_toArray, List.getElem_cons_succ, List.getElem_cons_zero, List.setIfInBounds_toArray, List.set_cons_zero, List.set_cons_succ]
    refine wpAnyH_take (i := 13) (v := ?v13) rfl (by kernel_rfl) (by kernel_rfl) (by kernel_rfl) (fun _ _ _ h => h) (Or.inl ⟨by kernel_rfl, ?hy13⟩) (by assumption) ?_
    case hy13 => (intro w hSw; (try dsimp only at hSw); go_simp; try with_reducible rfl)
    try simp only [Act.put, List.getElem_toArray, List.getElem_cons_succ, List.getElem_cons_zero, List.setIfInBounds_toArray, List.set_cons_zero, List.set_cons_succ]
    refine wpAnyH_take (i := 14) (v := ?v14) rfl (by kernel_rfl) (by kernel_rfl) (by kernel_rfl) (fun _ _ _ h => h) (Or.inl ⟨by kernel_rfl, ?hy14⟩) (by assumption) ?_
    case hy14 => (intro w hSw; (try dsimp only at hSw); go_simp; try with_reducible rfl)
    try simp only [Act.put, List.getElem_toArray, List.getElem_cons_succ, List.getElem_cons_zero, List.setIfInBounds_toArray, List.set_cons_zero, List.set_cons_succ]
    refine wpAnyH_take (i := 15) (v := ?v15) rfl (by kernel_rfl) (by kernel_rfl) (by kernel_rfl) (fun _ _ _ h => h) (Or.inl ⟨by kernel_rfl, ?hy15⟩) (by assumption) ?_
    case hy15 => (intro w hSw; (try dsimp only at hSw); go_simp; try with_reducible rfl)
    try simp only [Act.put, List.getElem_toArray, List.getElem_cons_succ, List.getElem_cons_zero, List.setIfInBounds_toArray, List.set_cons_zero, List.set_cons_succ]
    refine wpAnyH_take (i := 16) (v := ?v16) rfl (by kernel_rfl) (by kernel_rfl) (by kernel_rfl) (fun _ _ _ h => h) (Or.inl ⟨by kernel_rfl, ?hy16⟩) (by assumption) ?_
    case hy16 => (intro w hSw; (try dsimp only at hSw); go_simp; try with_reducible rfl)
    try simp only [Act.put, List.getElem_toArray, List.getElem_cons_succ, List.getElem_cons_zero, List.setIfInBounds_toArray, List.set_cons_zero, List.set_cons_succ]
    refine wpAnyH_ready (rs := [17]) (by kernel_rfl) (by simp) ?_
    refine AllReadyH.cons rfl (fun K hK => ?_) AllReadyH.nil
    go_simp
    go_at_call 81
    with_reducible refine (H2.out _ (HC.out _ (by repeat (first | assumption | apply Fm.drew | apply Fz.drew | apply Fq.drew | apply Fm.alloc)))).mono ?_
    rintro e w3 ⟨rfl, hb3⟩
    have F3 := Fm.blk (by repeat (first | assumption | apply Fm.drew | apply Fz.drew | apply Fq.drew | apply Fm.alloc)) hb3
    have hs3 := HS.out _ F3
    refine hK.out _ _ hs3 (fun hHeld3 => ?_)
    clear hK K
    try simp only [Act.put, List.getElem_toArray, List.getElem_cons_succ, List.getElem_cons_zero, List.setIfInBounds_toArray, List.set_cons_zero, List.set_cons_succ]
    refine wpAnyH_take (i := 18) (v := ?v18) rfl (by kernel_rfl) (by kernel_rfl) (by kernel_rfl) (fun _ _ _ h => h) (Or.inl ⟨by kernel_rfl, ?hy18⟩) (by assumption) ?_
    case hy18 => (intro w hSw; (try dsimp only at hSw); go_simp; try with_reducible rfl)
    try simp only [Act.put, List.getElem_toArray, List.getElem_cons_succ, List.getElem_cons_zero, List.setIfInBounds_toArray, List.set_cons_zero, List.set_cons_succ]
    refine wpAnyH_take (i := 19) (v := ?v19) rfl (by kernel_rfl) (by kernel_rfl) (by kernel_rfl) (fun _ _ _ h => h) (Or.inl ⟨by kernel_rfl, ?hy19⟩) (by assumption) ?_
    case hy19 => (intro w hSw; (try dsimp only at hSw); go_simp; try with_reducible rfl)
    try simp only [Act.put, List.getElem_toArray, List.getElem_cons_succ, List.getElem_cons_zero, List.setIfInBounds_toArray, List.set_cons_zero, List.set_cons_succ]
    refine wpAnyH_take (i := 20) (v := ?v20) rfl (by kernel_rfl) (by kernel_rfl) (by kernel_rfl) (fun _ _ _ h => h) (Or.inl ⟨by kernel_rfl, ?hy20⟩) (by assumption) ?_
    case hy20 => (intro w hSw; (try dsimp only at hSw); go_simp; try with_reducible rfl)
    try simp only [Act.put, List.getElem_toArray, List.getElem_cons_succ, List.getElem_cons_zero, List.setIfInBounds_toArray, List.set_cons_zero, List.set_cons_succ]
    refine wpAnyH_take (i := 21) (v := undef) rfl (by kernel_rfl) (by kernel_rfl) (by kernel_rfl) (fun _ _ _ h => h) (Or.inr ⟨by kernel_rfl, rfl⟩) (by assumption) ?_
    try simp only [Act.put, List.getElem_toArray, List.getElem_cons_succ, List.getElem_cons_zero, List.setIfInBounds_toArray, List.set_cons_zero, List.set_cons_succ]
    refine wpAnyH_take (i := 22) (v := undef) rfl (by kernel_rfl) (by kernel_rfl) (by kernel_rfl) (fun _ _ _ h => h) (Or.inr ⟨by kernel_rfl, rfl⟩) (by assumption) ?_
    try simp only [Act.put, List.getElem_toArray, List.getElem_cons_succ, List.getElem_cons_zero, List.setIfInBounds_toArray, List.set_cons_zero, List.set_cons_succ]
    refine wpAnyH_take (i := 23) (v := undef) rfl (by kernel_rfl) (by kernel_rfl) (by kernel_rfl) (fun _ _ _ h => h) (Or.inr ⟨by kernel_rfl, rfl⟩) (by assumption) ?_
    try simp only [Act.put, List.getElem_toArray, List.getElem_cons_succ, List.getElem_cons_zero, List.setIfInBounds_toArray, List.set_cons_zero, List.set_cons_succ]
    refine wpAnyH_take (i := 24) (v := undef) rfl (by kernel_rfl) (by kernel_rfl) (by kernel_rfl) (fun _ _ _ h => h) (Or.inr ⟨by kernel_rfl, rfl⟩) (by assumption) ?_
    try simp only [Act.put, List.getElem_toArray, List.getElem_cons_succ, List.getElem_cons_zero, List.setIfInBounds_toArray, List.set_cons_zero, List.set_cons_succ]
    refine wpAnyH_take (i := 25) (v := undef) rfl (by kernel_rfl) (by kernel_rfl) (by kernel_rfl) (fun _ _ _ h => h) (Or.inr ⟨by kernel_rfl, rfl⟩) (by assumption) ?_
    try simp only [Act.put, List.getElem_toArray, List.getElem_cons_succ, List.getElem_cons_zero, List.setIfInBounds_toArray, List.set_cons_zero, List.set_cons_succ]
    refine wpAnyH_take (i := 26) (v := undef) rfl (by kernel_rfl) (by kernel_rfl) (by kernel_rfl) (fun _ _ _ h => h) (Or.inr ⟨by kernel_rfl, rfl⟩) (by assumption) ?_
    try simp only [Act.put, List.getElem_toArray, List.getElem_cons_succ, List.getElem_cons_zero, List.setIfInBounds_toArray, List.set_cons_zero, List.set_cons_succ]
    refine wpAnyH_take (i := 27) (v := undef) rfl (by kernel_rfl) (by kernel_rfl) (by kernel_rfl) (fun _ _ _ h => h) (Or.inr ⟨by kernel_rfl, rfl⟩) (by assumption) ?_
    try simp only [Act.put, List.getElem_toArray, List.getElem_cons_succ, List.getElem_cons_zero, List.setIfInBounds_toArray, List.set_cons_zero, List.set_cons_succ]
    refine wpAnyH_take (i := 28) (v := ?v28) rfl (by kernel_rfl) (by kernel_rfl) (by kernel_rfl) (fun _ _ _ h => h) (Or.inl ⟨by kernel_rfl, ?hy28⟩) (by assumption) ?_
    case hy28 => (intro w hSw; (try dsimp only at hSw); go_simp; try with_reducible rfl)
    try simp only [Act.put, List.getElem_toArray, List.getElem_cons_succ, List.getElem_cons_zero, List.setIfInBounds_toArray, List.set_cons_zero, List.set_cons_succ]
    refine wpAnyH_done (by kernel_rfl) ?_ _
    rw [← hL1] at F3
    clear hS0
    have s4 := fun q => ptStore_run (c := q) (F3.get 1 rfl)
    have F9 := F3.put 1 (ptL T3.zero).toArray rfl
    go_wp2
    exact bodyPost_ret (results_pt_tmp Tryz.results19 rfl rfl (F9.get 1 rfl)) rfl ⟨rfl, F9.bel⟩
end Go.Proofs.YtpimliebiapnfaaGreatDoor
/- pointOf: xon. -/
namespace Go.Proofs.YtpimliebiapnfaaGreatDoor
set_option linter.unusedVariables false
set_option linter.unusedSimpArgs false
open Go.RowKit N
attribute [local go_sem ↓] N.loadAt_nat N.storeAt_nat N.build_nat N.build_nat' loadAt_pt storeAt_pt build_pt0 build_pt0' build_pt'
attribute [local go_sem] N.st1 N.st2a N.st2b N.st1d N.st2ad N.st2bd N.natBuild_run ptst1 ptst1d ptBuild0_run build_pt ptBuild_run
attribute [local go_sem ↓] bin_nat bin_pt
set_option maxRecDepth 100000 in
set_option maxHeartbeats 2000000 in
theorem pof_xon {c mp mn : Nat} (s : ByteArray) (W : World) (C : Cv W c mp mn) (h : s.size = 64) (h1 : hiN s < pP) (h2 : loN s < pP) (h3 : onN (hiN s) (loN s) = false) :
    Calls Tryz.prog 19 #[boxM c, .string s] W fun e w' => e = .returned (.tuple #[.agg (ptL T3.zero).toArray, .bool false]) ∧ Below W.heap.size W w' := by
  have he : s.toList.isEmpty = false := by
    rw [Bool.eq_false_iff]
    intro e
    have : s.size = 0 := by rw [← size_list, ← ByteArray.toList_eq, List.isEmpty_iff.1 e]; rfl
    omega
  have he2 : ((s.size : Int) != 64) = false := by simp; omega
  have hi1 : (32 : Int) ≤ (s.size : Int) := by omega
  have hi2 : (0 : Int) ≤ (s.size : Int) := by omega
  have HX := Hid.mk (numberOf_in (s.extract 0 32) (by rw [ByteArray.size_extract]; omega))
  have HY := Hid.mk (numberOf_in (s.extract 32 s.size) (by rw [ByteArray.size_extract]; omega))
  have hxl : hiN s < N.Lim := numB_32 _ (by rw [ByteArray.size_extract]; omega)
  have hyl : loN s < N.Lim := numB_32 _ (by rw [ByteArray.size_extract]; omega)
  have HSm := Hid.mk (N.small_in 1 (by omega))
  rw [show N.numB (s.extract 0 32).data.toList = hiN s from rfl] at HX
  rw [show N.numB (s.extract 32 s.size).data.toList = loN s from rfl] at HY
  generalize hiN s = x at *
  generalize loN s = y at *
  clear h
  have hzp := zeroPt
  obtain ⟨V, hV, F⟩ : ∃ V, (W.alloc (Obj.cells (ptL (T3.zero)).toArray 40 (0, 0))) = V ∧ Fm W [(W.heap.size, Obj.cells (ptL (T3.zero)).toArray 40 (0, 0))] V := ⟨_, rfl, Fm.box1 W _⟩
  obtain ⟨L, hL⟩ : ∃ L : List (Nat × Obj), [(W.heap.size, Obj.cells (ptL (T3.zero)).toArray 40 (0, 0))] = L := ⟨_, rfl⟩
  rw [hL] at F
  obtain ⟨sx, hsx⟩ : ∃ t, s.extract 0 32 = t := ⟨_, rfl⟩
  obtain ⟨sy, hsy⟩ : ∃ t, s.extract 32 s.size = t := ⟨_, rfl⟩
  rw [hsx] at HX
  rw [hsy] at HY
  have H1 : Hid (∀ w, Fm W L w → Calls Tryz.prog 30 #[.string sx] w fun e w' => e = .returned (.agg (N.natL x).toArray) ∧ Below w.heap.size w w') := fun w _ => HX.out w
  have H2 : Hid (∀ w, Fm W L w → Calls Tryz.prog 30 #[.string sy] w fun e w' => e = .returned (.agg (N.natL y).toArray) ∧ Below w.heap.size w w') := fun w _ => HY.out w
  have H3 : Hid (∀ w, Fm W L w → Calls Tryz.prog 45 #[.int .u64 1] w fun e w' => e = .returned (.agg (N.natL 1).toArray) ∧ Below w.heap.size w w') := fun w _ => HSm.out w
  have HS : Hid (∀ w, Fm W L w → Fm W L w ∧ True) := fun w h => ⟨h, trivial⟩
  clear HX HY HSm
  go_enter Tryz.func19, Tryz.ntmps19
  go_upto_region 5 with fail
  clear hV
  have hS0 := HS.out _ F
  go_cut [6] (fun s6 wx => ∃ b, s6 = .pointer (some ⟨b, 0, none⟩) ∧ Fm W ((b, Obj.cells (ptL (⟨x, y, 1⟩)).toArray 40 (0, 0)) :: L) wx)
  case first =>
    go_region_held3 (fun w => Fm W L w ∧ True)
      (first | assumption | (apply HS.out; repeat (first | assumption | apply Fm.drew | apply Fz.drew | apply Fq.drew | apply Fm.alloc | (apply Fm.setO (V := _); assumption))))
      (first
        | (go_at_call 30; with_reducible refine (H1.out _ (by repeat (first | assumption | apply Fm.drew | apply Fz.drew | apply Fq.drew | apply Fm.alloc))).mono ?_; rintro e w2 ⟨rfl, hb2⟩; have F2 := Fm.blk (by repeat (first | assumption | apply Fm.drew | apply Fz.drew | apply Fq.drew | apply Fm.alloc)) hb2; have hs2 := HS.out _ F2
           first
             | (refine kqN hb2 ?_; rintro ⟨g1, s1⟩)
             | (refine kqM hb2 ?_; rintro ⟨g1, s1⟩)
             | (refine kqO g1 hb2 ?_; rintro ⟨g2, s2⟩; clear g1 s1; have g1 := g2; have s1 := s2; clear g2 s2)
             | skip)
        | (go_at_call 30; with_reducible refine (H2.out _ (by repeat (first | assumption | apply Fm.drew | apply Fz.drew | apply Fq.drew | apply Fm.alloc))).mono ?_; rintro e w3 ⟨rfl, hb3⟩; have F3 := Fm.blk (by repeat (first | assumption | apply Fm.drew | apply Fz.drew | apply Fq.drew | apply Fm.alloc)) hb3; have hs3 := HS.out _ F3
           first
             | (refine kqN hb3 ?_; rintro ⟨g1, s1⟩)
             | (refine kqM hb3 ?_; rintro ⟨g1, s1⟩)
             | (refine kqO g1 hb3 ?_; rintro ⟨g2, s2⟩; clear g1 s1; have g1 := g2; have s1 := s2; clear g2 s2)
             | skip)
        | (go_at_call 45; with_reducible refine (H3.out _ (by repeat (first | assumption | apply Fm.drew | apply Fz.drew | apply Fq.drew | apply Fm.alloc))).mono ?_; rintro e w4 ⟨rfl, hb4⟩; have F4 := Fm.blk (by repeat (first | assumption | apply Fm.drew | apply Fz.drew | apply Fq.drew | apply Fm.alloc)) hb4; have hs4 := HS.out _ F4
           first
             | (refine kqN hb4 ?_; rintro ⟨g1, s1⟩)
             | (refine kqM hb4 ?_; rintro ⟨g1, s1⟩)
             | (refine kqO g1 hb4 ?_; rintro ⟨g2, s2⟩; clear g1 s1; have g1 := g2; have s1 := s2; clear g2 s2)
             | skip))
    all_goals go_wp2
    all_goals go_meet
    all_goals (first
      | exact ⟨_, rfl, Fm.new (by assumption) _⟩
      | exact ⟨_, rfl, Fm.late (by assumption) (by assumption) g1⟩)
  case rest =>
    obtain ⟨b6, rfl, F1⟩ := hcut
    clear hS0 F HS H1 H2 H3
    go_upto_region 6 with fail
    rw [← hL] at F1
    clear hL
    have H1 : Hid (∀ w, Cv w c mp mn → Calls Tryz.prog 81 #[boxM mp, .agg (N.natL x).toArray] w fun e w' => e = .returned (.bool true) ∧ Below w.heap.size w w') := fun w h => (pBelow h hxl).mono fun e w' ⟨he, hb⟩ => ⟨by rw [he, decide_eq_true h1], hb⟩
    have H2 : Hid (∀ w, Cv w c mp mn → Calls Tryz.prog 81 #[boxM mp, .agg (N.natL y).toArray] w fun e w' => e = .returned (.bool true) ∧ Below w.heap.size w w') := fun w h => (pBelow h hyl).mono fun e w' ⟨he, hb⟩ => ⟨by rw [he, decide_eq_true h2], hb⟩
    have H3 : Hid (∀ w, Cv w c mp mn → Calls Tryz.prog 46 #[boxM c, .agg (N.natL x).toArray, .agg (N.natL y).toArray] w fun e w' => e = .returned (.bool false) ∧ Below w.heap.size w w') := fun w h => (on_in x y w h h1 h2).mono fun e w' ⟨he, hb⟩ => ⟨by rw [he, h3], hb⟩
    clear h1 hxl hyl h2 h3
    obtain ⟨L1, hL1⟩ : ∃ L : List (Nat × Obj), [(b6, Obj.cells (ptL (⟨x, y, 1⟩)).toArray 40 (0, 0)), (W.heap.size, Obj.cells (ptL (T3.zero)).toArray 40 (0, 0))] = L := ⟨_, rfl⟩
    rw [hL1] at F1
    have HS : Hid (∀ w, Fm W L1 w → Fm W L1 w ∧ (N.natLoad (.pointer (some ⟨b6, 0, none⟩))).run Tryz.prog w = .ok (.agg (N.natL x).toArray) w ∧ (N.natLoad (.pointer (some ⟨b6, 129, none⟩))).run Tryz.prog w = .ok (.agg (N.natL y).toArray) w ∧ w.cell? ⟨c, 0, none⟩ = some (fnM 81 mp)) := fun w h => ⟨h, ptX (a := ⟨x, y, 1⟩) (h.get 0 (by rw [← hL1]; rfl)), ptY (a := ⟨x, y, 1⟩) (h.get 0 (by rw [← hL1]; rfl)), (h.cv C).fn 0 rfl⟩
    have HC : Hid (∀ w, Fm W L1 w → Cv w c mp mn) := fun w h => h.cv C
    have hS0 := HS.out _ F1
    first
    | (skip
       go_region_held3 (fun w => Fm W L1 w ∧ (N.natLoad (.pointer (some ⟨b6, 0, none⟩))).run Tryz.prog w = .ok (.agg (N.natL x).toArray) w ∧ (N.natLoad (.pointer (some ⟨b6, 129, none⟩))).run Tryz.prog w = .ok (.agg (N.natL y).toArray) w ∧ w.cell? ⟨c, 0, none⟩ = some (fnM 81 mp))
         (first | assumption | (apply HS.out; repeat (first | assumption | apply Fm.drew | apply Fz.drew | apply Fq.drew | apply Fm.alloc)))
         (first
           | (go_at_call 81; with_reducible refine (H1.out _ (HC.out _ (by repeat (first | assumption | apply Fm.drew | apply Fz.drew | apply Fq.drew | apply Fm.alloc)))).mono ?_; rintro e w2 ⟨rfl, hb2⟩; have F2 := Fm.blk (by repeat (first | assumption | apply Fm.drew | apply Fz.drew | apply Fq.drew | apply Fm.alloc)) hb2; have hs2 := HS.out _ F2)
           | (go_at_call 81; with_reducible refine (H2.out _ (HC.out _ (by repeat (first | assumption | apply Fm.drew | apply Fz.drew | apply Fq.drew | apply Fm.alloc)))).mono ?_; rintro e w3 ⟨rfl, hb3⟩; have F3 := Fm.blk (by repeat (first | assumption | apply Fm.drew | apply Fz.drew | apply Fq.drew | apply Fm.alloc)) hb3; have hs3 := HS.out _ F3)
           | (go_at_call 46; with_reducible refine (H3.out _ (HC.out _ (by repeat (first | assumption | apply Fm.drew | apply Fz.drew | apply Fq.drew | apply Fm.alloc)))).mono ?_; rintro e w4 ⟨rfl, hb4⟩; have F4 := Fm.blk (by repeat (first | assumption | apply Fm.drew | apply Fz.drew | apply Fq.drew | apply Fm.alloc)) hb4; have hs4 := HS.out _ F4)))
    | fail
    rw [← hL1] at F4
    clear hS0
    have s4 := fun q => ptStore_run (c := q) (F4.get 1 rfl)
    have F9 := F4.put 1 (ptL T3.zero).toArray rfl
    go_wp2
    exact bodyPost_ret (results_pt_tmp Tryz.results19 rfl rfl (F9.get 1 rfl)) rfl ⟨rfl, F9.bel⟩
end Go.Proofs.YtpimliebiapnfaaGreatDoor
/- pointOf: ok. -/
namespace Go.Proofs.YtpimliebiapnfaaGreatDoor
set_option linter.unusedVariables false
set_option linter.unusedSimpArgs false
open Go.RowKit N
attribute [local go_sem ↓] N.loadAt_nat N.storeAt_nat N.build_nat N.build_nat' loadAt_pt storeAt_pt build_pt0 build_pt0' build_pt'
attribute [local go_sem] N.st1 N.st2a N.st2b N.st1d N.st2ad N.st2bd N.natBuild_run ptst1 ptst1d ptBuild0_run build_pt ptBuild_run
attribute [local go_sem ↓] bin_nat bin_pt
set_option maxRecDepth 100000 in
set_option maxHeartbeats 2000000 in
theorem pof_ok {c mp mn : Nat} (s : ByteArray) (W : World) (C : Cv W c mp mn) (h : s.size = 64) (h1 : hiN s < pP) (h2 : loN s < pP) (h3 : onN (hiN s) (loN s) = true) :
    Calls Tryz.prog 19 #[boxM c, .string s] W fun e w' => e = .returned (.tuple #[.agg (ptL ⟨hiN s, loN s, 1⟩).toArray, .bool true]) ∧ Below W.heap.size W w' := by
  have he : s.toList.isEmpty = false := by
    rw [Bool.eq_false_iff]
    intro e
    have : s.size = 0 := by rw [← size_list, ← ByteArray.toList_eq, List.isEmpty_iff.1 e]; rfl
    omega
  have he2 : ((s.size : Int) != 64) = false := by simp; omega
  have hi1 : (32 : Int) ≤ (s.size : Int) := by omega
  have hi2 : (0 : Int) ≤ (s.size : Int) := by omega
  have HX := Hid.mk (numberOf_in (s.extract 0 32) (by rw [ByteArray.size_extract]; omega))
  have HY := Hid.mk (numberOf_in (s.extract 32 s.size) (by rw [ByteArray.size_extract]; omega))
  have hxl : hiN s < N.Lim := numB_32 _ (by rw [ByteArray.size_extract]; omega)
  have hyl : loN s < N.Lim := numB_32 _ (by rw [ByteArray.size_extract]; omega)
  have HSm := Hid.mk (N.small_in 1 (by omega))
  rw [show N.numB (s.extract 0 32).data.toList = hiN s from rfl] at HX
  rw [show N.numB (s.extract 32 s.size).data.toList = loN s from rfl] at HY
  generalize hiN s = x at *
  generalize loN s = y at *
  clear h
  have hzp := zeroPt
  obtain ⟨V, hV, F⟩ : ∃ V, (W.alloc (Obj.cells (ptL (T3.zero)).toArray 40 (0, 0))) = V ∧ Fm W [(W.heap.size, Obj.cells (ptL (T3.zero)).toArray 40 (0, 0))] V := ⟨_, rfl, Fm.box1 W _⟩
  obtain ⟨L, hL⟩ : ∃ L : List (Nat × Obj), [(W.heap.size, Obj.cells (ptL (T3.zero)).toArray 40 (0, 0))] = L := ⟨_, rfl⟩
  rw [hL] at F
  obtain ⟨sx, hsx⟩ : ∃ t, s.extract 0 32 = t := ⟨_, rfl⟩
  obtain ⟨sy, hsy⟩ : ∃ t, s.extract 32 s.size = t := ⟨_, rfl⟩
  rw [hsx] at HX
  rw [hsy] at HY
  have H1 : Hid (∀ w, Fm W L w → Calls Tryz.prog 30 #[.string sx] w fun e w' => e = .returned (.agg (N.natL x).toArray) ∧ Below w.heap.size w w') := fun w _ => HX.out w
  have H2 : Hid (∀ w, Fm W L w → Calls Tryz.prog 30 #[.string sy] w fun e w' => e = .returned (.agg (N.natL y).toArray) ∧ Below w.heap.size w w') := fun w _ => HY.out w
  have H3 : Hid (∀ w, Fm W L w → Calls Tryz.prog 45 #[.int .u64 1] w fun e w' => e = .returned (.agg (N.natL 1).toArray) ∧ Below w.heap.size w w') := fun w _ => HSm.out w
  have HS : Hid (∀ w, Fm W L w → Fm W L w ∧ True) := fun w h => ⟨h, trivial⟩
  clear HX HY HSm
  go_enter Tryz.func19, Tryz.ntmps19
  go_upto_region 5 with fail
  clear hV
  have hS0 := HS.out _ F
  go_cut [6] (fun s6 wx => ∃ b, s6 = .pointer (some ⟨b, 0, none⟩) ∧ Fm W ((b, Obj.cells (ptL (⟨x, y, 1⟩)).toArray 40 (0, 0)) :: L) wx)
  case first =>
    go_region_held3 (fun w => Fm W L w ∧ True)
      (first | assumption | (apply HS.out; repeat (first | assumption | apply Fm.drew | apply Fz.drew | apply Fq.drew | apply Fm.alloc | (apply Fm.setO (V := _); assumption))))
      (first
        | (go_at_call 30; with_reducible refine (H1.out _ (by repeat (first | assumption | apply Fm.drew | apply Fz.drew | apply Fq.drew | apply Fm.alloc))).mono ?_; rintro e w2 ⟨rfl, hb2⟩; have F2 := Fm.blk (by repeat (first | assumption | apply Fm.drew | apply Fz.drew | apply Fq.drew | apply Fm.alloc)) hb2; have hs2 := HS.out _ F2
           first
             | (refine kqN hb2 ?_; rintro ⟨g1, s1⟩)
             | (refine kqM hb2 ?_; rintro ⟨g1, s1⟩)
             | (refine kqO g1 hb2 ?_; rintro ⟨g2, s2⟩; clear g1 s1; have g1 := g2; have s1 := s2; clear g2 s2)
             | skip)
        | (go_at_call 30; with_reducible refine (H2.out _ (by repeat (first | assumption | apply Fm.drew | apply Fz.drew | apply Fq.drew | apply Fm.alloc))).mono ?_; rintro e w3 ⟨rfl, hb3⟩; have F3 := Fm.blk (by repeat (first | assumption | apply Fm.drew | apply Fz.drew | apply Fq.drew | apply Fm.alloc)) hb3; have hs3 := HS.out _ F3
           first
             | (refine kqN hb3 ?_; rintro ⟨g1, s1⟩)
             | (refine kqM hb3 ?_; rintro ⟨g1, s1⟩)
             | (refine kqO g1 hb3 ?_; rintro ⟨g2, s2⟩; clear g1 s1; have g1 := g2; have s1 := s2; clear g2 s2)
             | skip)
        | (go_at_call 45; with_reducible refine (H3.out _ (by repeat (first | assumption | apply Fm.drew | apply Fz.drew | apply Fq.drew | apply Fm.alloc))).mono ?_; rintro e w4 ⟨rfl, hb4⟩; have F4 := Fm.blk (by repeat (first | assumption | apply Fm.drew | apply Fz.drew | apply Fq.drew | apply Fm.alloc)) hb4; have hs4 := HS.out _ F4
           first
             | (refine kqN hb4 ?_; rintro ⟨g1, s1⟩)
             | (refine kqM hb4 ?_; rintro ⟨g1, s1⟩)
             | (refine kqO g1 hb4 ?_; rintro ⟨g2, s2⟩; clear g1 s1; have g1 := g2; have s1 := s2; clear g2 s2)
             | skip))
    all_goals go_wp2
    all_goals go_meet
    all_goals (first
      | exact ⟨_, rfl, Fm.new (by assumption) _⟩
      | exact ⟨_, rfl, Fm.late (by assumption) (by assumption) g1⟩)
  case rest =>
    obtain ⟨b6, rfl, F1⟩ := hcut
    clear hS0 F HS H1 H2 H3
    go_upto_region 6 with fail
    rw [← hL] at F1
    clear hL
    have H1 : Hid (∀ w, Cv w c mp mn → Calls Tryz.prog 81 #[boxM mp, .agg (N.natL x).toArray] w fun e w' => e = .returned (.bool true) ∧ Below w.heap.size w w') := fun w h => (pBelow h hxl).mono fun e w' ⟨he, hb⟩ => ⟨by rw [he, decide_eq_true h1], hb⟩
    have H2 : Hid (∀ w, Cv w c mp mn → Calls Tryz.prog 81 #[boxM mp, .agg (N.natL y).toArray] w fun e w' => e = .returned (.bool true) ∧ Below w.heap.size w w') := fun w h => (pBelow h hyl).mono fun e w' ⟨he, hb⟩ => ⟨by rw [he, decide_eq_true h2], hb⟩
    have H3 : Hid (∀ w, Cv w c mp mn → Calls Tryz.prog 46 #[boxM c, .agg (N.natL x).toArray, .agg (N.natL y).toArray] w fun e w' => e = .returned (.bool true) ∧ Below w.heap.size w w') := fun w h => (on_in x y w h h1 h2).mono fun e w' ⟨he, hb⟩ => ⟨by rw [he, h3], hb⟩
    clear h1 hxl hyl h2 h3
    obtain ⟨L1, hL1⟩ : ∃ L : List (Nat × Obj), [(b6, Obj.cells (ptL (⟨x, y, 1⟩)).toArray 40 (0, 0)), (W.heap.size, Obj.cells (ptL (T3.zero)).toArray 40 (0, 0))] = L := ⟨_, rfl⟩
    rw [hL1] at F1
    have HS : Hid (∀ w, Fm W L1 w → Fm W L1 w ∧ (N.natLoad (.pointer (some ⟨b6, 0, none⟩))).run Tryz.prog w = .ok (.agg (N.natL x).toArray) w ∧ (N.natLoad (.pointer (some ⟨b6, 129, none⟩))).run Tryz.prog w = .ok (.agg (N.natL y).toArray) w ∧ w.cell? ⟨c, 0, none⟩ = some (fnM 81 mp)) := fun w h => ⟨h, ptX (a := ⟨x, y, 1⟩) (h.get 0 (by rw [← hL1]; rfl)), ptY (a := ⟨x, y, 1⟩) (h.get 0 (by rw [← hL1]; rfl)), (h.cv C).fn 0 rfl⟩
    have HC : Hid (∀ w, Fm W L1 w → Cv w c mp mn) := fun w h => h.cv C
    have hS0 := HS.out _ F1
    first
    | (skip
       go_region_held3 (fun w => Fm W L1 w ∧ (N.natLoad (.pointer (some ⟨b6, 0, none⟩))).run Tryz.prog w = .ok (.agg (N.natL x).toArray) w ∧ (N.natLoad (.pointer (some ⟨b6, 129, none⟩))).run Tryz.prog w = .ok (.agg (N.natL y).toArray) w ∧ w.cell? ⟨c, 0, none⟩ = some (fnM 81 mp))
         (first | assumption | (apply HS.out; repeat (first | assumption | apply Fm.drew | apply Fz.drew | apply Fq.drew | apply Fm.alloc)))
         (first
           | (go_at_call 81; with_reducible refine (H1.out _ (HC.out _ (by repeat (first | assumption | apply Fm.drew | apply Fz.drew | apply Fq.drew | apply Fm.alloc)))).mono ?_; rintro e w2 ⟨rfl, hb2⟩; have F2 := Fm.blk (by repeat (first | assumption | apply Fm.drew | apply Fz.drew | apply Fq.drew | apply Fm.alloc)) hb2; have hs2 := HS.out _ F2)
           | (go_at_call 81; with_reducible refine (H2.out _ (HC.out _ (by repeat (first | assumption | apply Fm.drew | apply Fz.drew | apply Fq.drew | apply Fm.alloc)))).mono ?_; rintro e w3 ⟨rfl, hb3⟩; have F3 := Fm.blk (by repeat (first | assumption | apply Fm.drew | apply Fz.drew | apply Fq.drew | apply Fm.alloc)) hb3; have hs3 := HS.out _ F3)
           | (go_at_call 46; with_reducible refine (H3.out _ (HC.out _ (by repeat (first | assumption | apply Fm.drew | apply Fz.drew | apply Fq.drew | apply Fm.alloc)))).mono ?_; rintro e w4 ⟨rfl, hb4⟩; have F4 := Fm.blk (by repeat (first | assumption | apply Fm.drew | apply Fz.drew | apply Fq.drew | apply Fm.alloc)) hb4; have hs4 := HS.out _ F4)))
    | fail
    rw [← hL1] at F4
    clear hS0
    have l6 := ptLoad_run (F4.get 0 rfl)
    have s4 := fun q => ptStore_run (c := q) (F4.get 1 rfl)
    have F9 := F4.put 1 (ptL ⟨x, y, 1⟩).toArray rfl
    go_wp2
    exact bodyPost_ret (results_pt_tmp Tryz.results19 rfl rfl (F9.get 1 rfl)) rfl ⟨rfl, F9.bel⟩
end Go.Proofs.YtpimliebiapnfaaGreatDoor
/- pointOf. -/
namespace Go.Proofs.YtpimliebiapnfaaGreatDoor
set_option linter.unusedVariables false
set_option linter.unusedSimpArgs false
open Go.RowKit N
attribute [local go_sem ↓] N.loadAt_nat N.storeAt_nat N.build_nat N.build_nat' loadAt_pt storeAt_pt build_pt0 build_pt0' build_pt'
attribute [local go_sem] N.st1 N.st2a N.st2b N.st1d N.st2ad N.st2bd N.natBuild_run ptst1 ptst1d ptBuild0_run build_pt ptBuild_run
attribute [local go_sem ↓] bin_nat bin_pt
theorem pointOf_in {c mp mn : Nat} (s : ByteArray) (W : World) (C : Cv W c mp mn) :
    Calls Tryz.prog 19 #[boxM c, .string s] W fun e w' => e = .returned (.tuple #[.agg (ptL (ptOf s).1).toArray, .bool (ptOf s).2]) ∧ Below W.heap.size W w' := by
  unfold ptOf
  by_cases h : s.size = 0
  · rw [if_pos h]; exact pof_0 s W C h
  · rw [if_neg h]
    by_cases h2 : s.size = 64
    · rw [if_neg (not_not_intro h2)]
      by_cases h3 : hiN s < pP
      · rw [if_pos h3]
        by_cases h4 : loN s < pP
        · rw [if_pos h4]
          by_cases h5 : onN (hiN s) (loN s) = true
          · rw [if_pos h5]; exact pof_ok s W C h2 h3 h4 h5
          · rw [if_neg h5]; exact pof_xon s W C h2 h3 h4 (by simpa using h5)
        · rw [if_neg h4]; exact pof_xy s W C h2 h3 h4
      · rw [if_neg h3]; exact pof_xx s W C h2 h3
    · rw [if_pos h2]; exact pof_n s W C h h2
end Go.Proofs.YtpimliebiapnfaaGreatDoor
/- opposite, plain. -/
namespace Go.Proofs.YtpimliebiapnfaaGreatDoor
set_option linter.unusedVariables false
set_option linter.unusedSimpArgs false
open Go.RowKit N
attribute [local go_sem ↓] N.loadAt_nat N.storeAt_nat N.build_nat N.build_nat' loadAt_pt storeAt_pt build_pt0 build_pt0' build_pt'
attribute [local go_sem] N.st1 N.st2a N.st2b N.st1d N.st2ad N.st2bd N.natBuild_run ptst1 ptst1d ptBuild0_run build_pt ptBuild_run
attribute [local go_sem ↓] bin_nat bin_pt
set_option maxRecDepth 100000 in
set_option maxHeartbeats 2000000 in
theorem opposite_in {c mp mn : Nat} (a : T3) (W : World) (C : Cv W c mp mn) (ha : a.Ok) :
    Calls Tryz.prog 51 #[boxM c, .agg (ptL a).toArray] W fun e w' => e = .returned (.agg (ptL a.opp).toArray) ∧ Below W.heap.size W w' := by
  obtain ⟨y, E_y⟩ : ∃ R, Hid (mminus 0 a.y = R) := ⟨_, Hid.mk rfl⟩
  have b_y : y < pP := by rw [← E_y.out]; exact mminus_lt (show 0 < pP by decide) ha.2.1
  have hfin : a.opp = ⟨a.x, y, a.z⟩ := by unfold T3.opp; rw [E_y.out]
  rw [hfin]
  clear hfin
  have HSm := Hid.mk (N.small_in 0 (by omega))
  have hz := N.zero26
  have hzp := zeroPt
  obtain ⟨V, hV, F⟩ : ∃ V, ((W.alloc (Obj.cells (ptL a).toArray 40 (0, 0))).alloc (Obj.cells (ptL (T3.zero)).toArray 40 (0, 0))) = V ∧ Fm W [(W.heap.size + 1, Obj.cells (ptL (T3.zero)).toArray 40 (0, 0)), (W.heap.size, Obj.cells (ptL a).toArray 40 (0, 0))] V := ⟨_, rfl, Fm.box2 W _ _⟩
  obtain ⟨L, hL⟩ : ∃ L : List (Nat × Obj), [(W.heap.size, Obj.cells (ptL a).toArray 40 (0, 0))] = L := ⟨_, rfl⟩
  rw [hL] at F
  have Z : Fq W (W.heap.size + 1) L V := ⟨_, F⟩
  have HS : Hid (∀ w, Fq W (W.heap.size + 1) L w → Fq W (W.heap.size + 1) L w ∧ (∀ v, (ptStore (.pointer (some ⟨W.heap.size + 1, 0, none⟩)) (.agg (ptL v).toArray)).run Tryz.prog w = .ok () (w.setRow (W.heap.size + 1) (ptL v).toArray)) ∧ (N.natLoad (.pointer (some ⟨W.heap.size, 0, none⟩))).run Tryz.prog w = .ok (.agg (N.natL a.x).toArray) w ∧ (N.natLoad (.pointer (some ⟨W.heap.size, 129, none⟩))).run Tryz.prog w = .ok (.agg (N.natL a.y).toArray) w ∧ (N.natLoad (.pointer (some ⟨W.heap.size, 258, none⟩))).run Tryz.prog w = .ok (.agg (N.natL a.z).toArray) w ∧ w.cell? ⟨c, 4, none⟩ = some (fnM 85 mp)) := fun w h => ⟨h, h.st, ptX (h.get 0 (by rw [← hL]; rfl)), ptY (h.get 0 (by rw [← hL]; rfl)), ptZ (h.get 0 (by rw [← hL]; rfl)), (h.cv C).fn 4 rfl⟩
  have H1 : Hid (∀ w, Fq W (W.heap.size + 1) L w → Calls Tryz.prog 85 #[boxM mp, .agg (N.natL 0).toArray, .agg (N.natL a.y).toArray] w fun e w' => e = .returned (.agg (N.natL y).toArray) ∧ Below w.heap.size w w') := fun w h => (pMinus (h.cv C) (show 0 < pP by decide) ha.2.1).mono fun e w' ⟨he, hb⟩ => ⟨by rw [he, E_y.out], hb⟩
  have H0 : Hid (∀ w, Fq W (W.heap.size + 1) L w → Calls Tryz.prog 45 #[.int .u64 0] w fun e w' => e = .returned (.agg (N.natL 0).toArray) ∧ Below w.heap.size w w') := fun w _ => HSm.out w
  go_enter Tryz.func51, Tryz.ntmps51
  go_upto_region 1 with fail
  clear hV F
  have hS0 := HS.out _ Z
  go_region_held3 (fun w => Fq W (W.heap.size + 1) L w ∧ (∀ v, (ptStore (.pointer (some ⟨W.heap.size + 1, 0, none⟩)) (.agg (ptL v).toArray)).run Tryz.prog w = .ok () (w.setRow (W.heap.size + 1) (ptL v).toArray)) ∧ (N.natLoad (.pointer (some ⟨W.heap.size, 0, none⟩))).run Tryz.prog w = .ok (.agg (N.natL a.x).toArray) w ∧ (N.natLoad (.pointer (some ⟨W.heap.size, 129, none⟩))).run Tryz.prog w = .ok (.agg (N.natL a.y).toArray) w ∧ (N.natLoad (.pointer (some ⟨W.heap.size, 258, none⟩))).run Tryz.prog w = .ok (.agg (N.natL a.z).toArray) w ∧ w.cell? ⟨c, 4, none⟩ = some (fnM 85 mp))
    (first | assumption | (apply HS.out; repeat (first | assumption | apply Fm.drew | apply Fz.drew | apply Fq.drew | apply Fm.alloc | apply Fq.set)))
    (first
      | (go_at_call 85; with_reducible refine (H1.out _ (by repeat (first | assumption | apply Fm.drew | apply Fz.drew | apply Fq.drew | apply Fm.alloc))).mono ?_; rintro e w3 ⟨rfl, hb3⟩; have F3 := Fq.blk (by repeat (first | assumption | apply Fm.drew | apply Fz.drew | apply Fq.drew | apply Fm.alloc)) hb3; have hs3 := HS.out _ F3)
      | (go_at_call 45; with_reducible refine (H0.out _ (by repeat (first | assumption | apply Fm.drew | apply Fz.drew | apply Fq.drew | apply Fm.alloc))).mono ?_; rintro e w2 ⟨rfl, hb2⟩; have F2 := Fq.blk (by repeat (first | assumption | apply Fm.drew | apply Fz.drew | apply Fq.drew | apply Fm.alloc)) hb2; have hs2 := HS.out _ F2))
  have F6 := F3.fin ⟨a.x, y, a.z⟩
  go_wp2
  exact bodyPost_ret (results_pt Tryz.results51 rfl (F6.get 0 rfl)) rfl ⟨rfl, F6.bel⟩
set_option maxRecDepth 100000 in
set_option maxHeartbeats 2000000 in
theorem plain_in {c mp mn : Nat} (a : T3) (W : World) (C : Cv W c mp mn) (ha : a.Ok) (hz0 : a.z ≠ 0) :
    Calls Tryz.prog 47 #[boxM c, .agg (ptL a).toArray] W fun e w' => e = .returned (.agg (ptL (a.scl (ivN pP a.z))).toArray) ∧ Below W.heap.size W w' := by
  obtain ⟨i, E_i⟩ : ∃ R, Hid (ivN pP a.z = R) := ⟨_, Hid.mk rfl⟩
  have hi : i < pP := by rw [← E_i.out]; exact (iv_spec pr_P hz0 ha.2.2).2
  rw [E_i.out]
  obtain ⟨d, E_d⟩ : ∃ d, Hid (a.scl i = d) := ⟨_, Hid.mk rfl⟩
  rw [E_d.out]
  have hz := N.zero26
  have hzp := zeroPt
  obtain ⟨V, hV, F⟩ : ∃ V, ((W.alloc (Obj.cells (ptL a).toArray 40 (0, 0))).alloc (Obj.cells (ptL (T3.zero)).toArray 40 (0, 0))) = V ∧ Fm W [(W.heap.size + 1, Obj.cells (ptL (T3.zero)).toArray 40 (0, 0)), (W.heap.size, Obj.cells (ptL a).toArray 40 (0, 0))] V := ⟨_, rfl, Fm.box2 W _ _⟩
  obtain ⟨L, hL⟩ : ∃ L : List (Nat × Obj), [(W.heap.size, Obj.cells (ptL a).toArray 40 (0, 0))] = L := ⟨_, rfl⟩
  rw [hL] at F
  have Z : Fq W (W.heap.size + 1) L V := ⟨_, F⟩
  have HS : Hid (∀ w, Fq W (W.heap.size + 1) L w → Fq W (W.heap.size + 1) L w ∧ (∀ v, (ptStore (.pointer (some ⟨W.heap.size + 1, 0, none⟩)) (.agg (ptL v).toArray)).run Tryz.prog w = .ok () (w.setRow (W.heap.size + 1) (ptL v).toArray)) ∧ (ptLoad (.pointer (some ⟨W.heap.size, 0, none⟩))).run Tryz.prog w = .ok (.agg (ptL a).toArray) w ∧ (N.natLoad (.pointer (some ⟨W.heap.size, 258, none⟩))).run Tryz.prog w = .ok (.agg (N.natL a.z).toArray) w ∧ w.cell? ⟨c, 2, none⟩ = some (fnM 83 mp)) := fun w h => ⟨h, h.st, ptLoad_run (h.get 0 (by rw [← hL]; rfl)), ptZ (h.get 0 (by rw [← hL]; rfl)), (h.cv C).fn 2 rfl⟩
  have H1 : Hid (∀ w, Fq W (W.heap.size + 1) L w → Calls Tryz.prog 83 #[boxM mp, .agg (N.natL a.z).toArray] w fun e w' => e = .returned (.agg (N.natL i).toArray) ∧ Below w.heap.size w w') := fun w h => (pInv (h.cv C) ha.2.2 hz0).mono fun e w' ⟨he, hb⟩ => ⟨by rw [he, E_i.out], hb⟩
  have H2 : Hid (∀ w, Fq W (W.heap.size + 1) L w → Calls Tryz.prog 49 #[boxM c, .agg (ptL a).toArray, .agg (N.natL i).toArray] w fun e w' => e = .returned (.agg (ptL d).toArray) ∧ Below w.heap.size w w') := fun w h => (scaled_in a i w (h.cv C) ha hi).mono fun e w' ⟨he, hb⟩ => ⟨by rw [he, E_d.out], hb⟩
  go_enter Tryz.func47, Tryz.ntmps47
  go_upto_region 1 with fail
  clear hV F
  have hS0 := HS.out _ Z
  go_region_held3 (fun w => Fq W (W.heap.size + 1) L w ∧ (∀ v, (ptStore (.pointer (some ⟨W.heap.size + 1, 0, none⟩)) (.agg (ptL v).toArray)).run Tryz.prog w = .ok () (w.setRow (W.heap.size + 1) (ptL v).toArray)) ∧ (ptLoad (.pointer (some ⟨W.heap.size, 0, none⟩))).run Tryz.prog w = .ok (.agg (ptL a).toArray) w ∧ (N.natLoad (.pointer (some ⟨W.heap.size, 258, none⟩))).run Tryz.prog w = .ok (.agg (N.natL a.z).toArray) w ∧ w.cell? ⟨c, 2, none⟩ = some (fnM 83 mp))
    (first | assumption | (apply HS.out; repeat (first | assumption | apply Fm.drew | apply Fz.drew | apply Fq.drew | apply Fm.alloc | apply Fq.set)))
    (first
      | (go_at_call 49; with_reducible refine (H2.out _ (by repeat (first | assumption | apply Fm.drew | apply Fz.drew | apply Fq.drew | apply Fm.alloc))).mono ?_; rintro e w3 ⟨rfl, hb3⟩; have F3 := Fq.blk (by repeat (first | assumption | apply Fm.drew | apply Fz.drew | apply Fq.drew | apply Fm.alloc)) hb3; have hs3 := HS.out _ F3)
      | (go_at_call 83; with_reducible refine (H1.out _ (by repeat (first | assumption | apply Fm.drew | apply Fz.drew | apply Fq.drew | apply Fm.alloc))).mono ?_; rintro e w2 ⟨rfl, hb2⟩; have F2 := Fq.blk (by repeat (first | assumption | apply Fm.drew | apply Fz.drew | apply Fq.drew | apply Fm.alloc)) hb2; have hs2 := HS.out _ F2))
  have F6 := F3.fin d
  go_wp2
  exact bodyPost_ret (results_pt Tryz.results47 rfl (F6.get 0 rfl)) rfl ⟨rfl, F6.bel⟩
end Go.Proofs.YtpimliebiapnfaaGreatDoor
/- bytesOf. -/
namespace Go.Proofs.YtpimliebiapnfaaGreatDoor
set_option linter.unusedVariables false
set_option linter.unusedSimpArgs false
open Go.RowKit N
attribute [local go_sem ↓] N.loadAt_nat N.storeAt_nat N.build_nat N.build_nat' loadAt_pt storeAt_pt build_pt0 build_pt0' build_pt'
attribute [local go_sem] N.st1 N.st2a N.st2b N.st1d N.st2ad N.st2bd N.natBuild_run ptst1 ptst1d ptBuild0_run build_pt ptBuild_run
attribute [local go_sem ↓] bin_nat bin_pt
theorem bys_32 (m : Nat) : (⟨(N.bys m 32).toArray⟩ : ByteArray).size = 32 := by rw [← size_list]; exact N.bys_len m 32
noncomputable def tellT (a : T3) : ByteArray := if a = T3.zero then ⟨#[]⟩ else ⟨(N.bys (a.scl (ivN pP a.z)).x 32).toArray⟩ ++ ⟨(N.bys (a.scl (ivN pP a.z)).y 32).toArray⟩
set_option maxRecDepth 100000 in
set_option maxHeartbeats 2000000 in
theorem tell_0 {c mp mn : Nat} (a : T3) (W : World) (C : Cv W c mp mn) (ha : a.Ok) (ha0 : a = T3.zero) :
    Calls Tryz.prog 20 #[boxM c, .agg (ptL a).toArray] W fun e w' => e = .returned (.string ⟨#[]⟩) ∧ Below W.heap.size W w' := by
  have HA : Hid (∀ w, Calls Tryz.prog 26 #[.agg (ptL a).toArray] w fun e w' => e = .returned (.bool true) ∧ Below w.heap.size w w') := fun w => (nowhere_in a ha.lm w).mono fun e w' ⟨he, hb⟩ => ⟨by rw [he, decide_eq_true ha0], hb⟩
  clear ha0
  obtain ⟨V, hV, F⟩ : ∃ V, (W.alloc (Obj.cells (ptL a).toArray 40 (0, 0))) = V ∧ Fm W [(W.heap.size, Obj.cells (ptL a).toArray 40 (0, 0))] V := ⟨_, rfl, Fm.box1 W _⟩
  have l3 := ptLoad_run (F.get 0 rfl)
  go_enter Tryz.func20, Tryz.ntmps20
  go_wp2_with fail
  refine (HA.out _).mono ?_
  rintro e u1 ⟨rfl, hb⟩
  replace F := F.blk hb
  clear hb l3 hV
  go_wp2
  go_ret
  exact ⟨rfl, F.bel⟩
set_option maxRecDepth 100000 in
set_option maxHeartbeats 2000000 in
theorem tell_1 {c mp mn : Nat} (a : T3) (W : World) (C : Cv W c mp mn) (ha : a.Ok) (ha0 : a ≠ T3.zero) (hz0 : a.z ≠ 0) :
    Calls Tryz.prog 20 #[boxM c, .agg (ptL a).toArray] W fun e w' => e = .returned (.string (⟨(N.bys (a.scl (ivN pP a.z)).x 32).toArray⟩ ++ ⟨(N.bys (a.scl (ivN pP a.z)).y 32).toArray⟩)) ∧ Below W.heap.size W w' := by
  have HA : Hid (∀ w, Calls Tryz.prog 26 #[.agg (ptL a).toArray] w fun e w' => e = .returned (.bool false) ∧ Below w.heap.size w w') := fun w => (nowhere_in a ha.lm w).mono fun e w' ⟨he, hb⟩ => ⟨by rw [he, decide_eq_false ha0], hb⟩
  have HP : Hid (∀ w, Cv w c mp mn → Calls Tryz.prog 47 #[boxM c, .agg (ptL a).toArray] w fun e w' => e = .returned (.agg (ptL (a.scl (ivN pP a.z))).toArray) ∧ Below w.heap.size w w') := fun w h => plain_in a w h ha hz0
  have hd := a.scl_ok (ivN pP a.z)
  generalize a.scl (ivN pP a.z) = d at HP hd ⊢
  have w32 : ∀ x, x < pP → N.nbl x ≤ 32 := fun x hx => (N.nbl_le_iff x 32).2 (Nat.lt_of_lt_of_le (Nat.lt_trans hx p256_lt) (by decide))
  have HX := Hid.mk (N.wide_in d.x 32 (lim_p hd.1) (by omega) (w32 _ hd.1))
  have HY := Hid.mk (N.wide_in d.y 32 (lim_p hd.2.1) (by omega) (w32 _ hd.2.1))
  have z1 := bys_32 d.x
  have z2 := bys_32 d.y
  generalize (⟨(N.bys d.x 32).toArray⟩ : ByteArray) = X at HX z1 ⊢
  generalize (⟨(N.bys d.y 32).toArray⟩ : ByteArray) = Y at HY z2 ⊢
  have z3 : ¬ (9223372036854775807 < X.size + Y.size) := by rw [z1, z2]; decide
  clear z1 z2 w32 ha0
  obtain ⟨V, hV, F⟩ : ∃ V, (W.alloc (Obj.cells (ptL a).toArray 40 (0, 0))) = V ∧ Fm W [(W.heap.size, Obj.cells (ptL a).toArray 40 (0, 0))] V := ⟨_, rfl, Fm.box1 W _⟩
  have l3 := ptLoad_run (F.get 0 rfl)
  go_enter Tryz.func20, Tryz.ntmps20
  go_wp2_with fail
  refine (HA.out _).mono ?_
  rintro e u1 ⟨rfl, hb⟩
  replace F := F.blk hb
  clear hb l3 hV HA
  have l3 := ptLoad_run (F.get 0 rfl)
  go_wp2_with fail
  refine (HP.out _ (F.cv C)).mono ?_
  rintro e u2 ⟨rfl, hb⟩
  replace F := F.blk hb
  clear hb l3
  have s3 := fun q => ptStore_run (c := q) (F.get 0 rfl)
  go_upto_region 4 with fail
  replace F := F.put 0 (ptL d).toArray rfl
  clear s3
  generalize u2.setRow W.heap.size (ptL d).toArray = v2 at F ⊢
  have lx := ptX (F.get 0 rfl)
  go_wp2_with fail
  refine (HX.out _).mono ?_
  rintro e u3 ⟨rfl, hb⟩
  replace F := F.blk hb
  clear hb lx
  have ly := ptY (F.get 0 rfl)
  go_wp2_with fail
  refine (HY.out _).mono ?_
  rintro e u4 ⟨rfl, hb⟩
  replace F := F.blk hb
  clear hb ly
  go_wp2
  go_ret
  exact ⟨rfl, F.bel⟩
theorem bytesOf_in {c mp mn : Nat} (a : T3) (W : World) (C : Cv W c mp mn) (ha : a.Ok) (hz : a = T3.zero ∨ a.z ≠ 0) :
    Calls Tryz.prog 20 #[boxM c, .agg (ptL a).toArray] W fun e w' => e = .returned (.string (tellT a)) ∧ Below W.heap.size W w' := by
  unfold tellT
  by_cases ha0 : a = T3.zero
  · rw [if_pos ha0]; exact tell_0 a W C ha ha0
  · rw [if_neg ha0]
    exact tell_1 a W C ha ha0 (hz.resolve_left ha0)
end Go.Proofs.YtpimliebiapnfaaGreatDoor