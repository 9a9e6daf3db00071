/- Texts of this proof, joined: CPofxx, CPofxy, CPofxon, CPofok, CPof. -/
import Derived.Test.YtmjenhilafdioaaDoorJ13
/- pointOf: xx. -/
namespace Go.Proofs.YtmjenhilafdioaaDoor
set_option linter.unusedVariables false
set_option linter.unusedSimpArgs false
open Go.RowKit N
attribute [local go_sem ↓] N.loadAt_nat N.storeAt_nat N.build_nat N.build_nat' loadAt_pt storeAt_pt build_pt0 build_pt0' build_pt'
attribute [local go_sem] N.st1 N.st2a N.st2b N.st1d N.st2ad N.st2bd N.natBuild_run ptst1 ptst1d ptBuild0_run build_pt ptBuild_run
attribute [local go_sem ↓] bin_nat bin_pt
set_option maxRecDepth 100000 in
set_option maxHeartbeats 2000000 in
theorem pof_xx {c mp mn : Nat} (s : ByteArray) (W : World) (C : Cv W c mp mn) (h : s.size = 64) (h1 : ¬ hiN s < pP) :
    Calls Tryd.prog 19 #[boxM c, .string s] W fun e w' => e = .returned (.tuple #[.agg (ptL T3.zero).toArray, .bool false]) ∧ Below W.heap.size W w' := by
  have he : s.toList.isEmpty = false := by
    rw [Bool.eq_false_iff]
    intro e
    have : s.size = 0 := by rw [← size_list, ← ByteArray.toList_eq, List.isEmpty_iff.1 e]; rfl
    omega
  have he2 : ((s.size : Int) != 64) = false := by simp; omega
  have hi1 : (32 : Int) ≤ (s.size : Int) := by omega
  have hi2 : (0 : Int) ≤ (s.size : Int) := by omega
  have HX := Hid.mk (numberOf_in (s.extract 0 32) (by rw [ByteArray.size_extract]; omega))
  have HY := Hid.mk (numberOf_in (s.extract 32 s.size) (by rw [ByteArray.size_extract]; omega))
  have hxl : hiN s < N.Lim := numB_32 _ (by rw [ByteArray.size_extract]; omega)
  have hyl : loN s < N.Lim := numB_32 _ (by rw [ByteArray.size_extract]; omega)
  have HSm := Hid.mk (N.small_in 1 (by omega))
  rw [show N.numB (s.extract 0 32).data.toList = hiN s from rfl] at HX
  rw [show N.numB (s.extract 32 s.size).data.toList = loN s from rfl] at HY
  generalize hiN s = x at *
  generalize loN s = y at *
  clear h
  have hzp := zeroPt
  obtain ⟨V, hV, F⟩ : ∃ V, (W.alloc (Obj.cells (ptL (T3.zero)).toArray 41 (0, 0))) = V ∧ Fm W [(W.heap.size, Obj.cells (ptL (T3.zero)).toArray 41 (0, 0))] V := ⟨_, rfl, Fm.box1 W _⟩
  obtain ⟨L, hL⟩ : ∃ L : List (Nat × Obj), [(W.heap.size, Obj.cells (ptL (T3.zero)).toArray 41 (0, 0))] = L := ⟨_, rfl⟩
  rw [hL] at F
  obtain ⟨sx, hsx⟩ : ∃ t, s.extract 0 32 = t := ⟨_, rfl⟩
  obtain ⟨sy, hsy⟩ : ∃ t, s.extract 32 s.size = t := ⟨_, rfl⟩
  rw [hsx] at HX
  rw [hsy] at HY
  have H1 : Hid (∀ w, Fm W L w → Calls Tryd.prog 29 #[.string sx] w fun e w' => e = .returned (.agg (N.natL x).toArray) ∧ Below w.heap.size w w') := fun w _ => HX.out w
  have H2 : Hid (∀ w, Fm W L w → Calls Tryd.prog 29 #[.string sy] w fun e w' => e = .returned (.agg (N.natL y).toArray) ∧ Below w.heap.size w w') := fun w _ => HY.out w
  have H3 : Hid (∀ w, Fm W L w → Calls Tryd.prog 11 #[.int .u64 1] w fun e w' => e = .returned (.agg (N.natL 1).toArray) ∧ Below w.heap.size w w') := fun w _ => HSm.out w
  have HS : Hid (∀ w, Fm W L w → Fm W L w ∧ True) := fun w h => ⟨h, trivial⟩
  clear HX HY HSm
  go_enter Tryd.func19, Tryd.ntmps19
  go_upto_region 5 with fail
  clear hV
  have hS0 := HS.out _ F
  go_cut [6] (fun s6 wx => ∃ b, s6 = .pointer (some ⟨b, 0, none⟩) ∧ Fm W ((b, Obj.cells (ptL (⟨x, y, 1⟩)).toArray 41 (0, 0)) :: L) wx)
  case first =>
    go_region_held3 (fun w => Fm W L w ∧ True)
      (first | assumption | (apply HS.out; repeat (first | assumption | apply Fm.drew | apply Fz.drew | apply Fq.drew | apply Fm.alloc | (apply Fm.setO (V := _); assumption))))
      (first
        | (go_at_call 29; with_reducible refine (H1.out _ (by repeat (first | assumption | apply Fm.drew | apply Fz.drew | apply Fq.drew | apply Fm.alloc))).mono ?_; rintro e w2 ⟨rfl, hb2⟩; have F2 := Fm.blk (by repeat (first | assumption | apply Fm.drew | apply Fz.drew | apply Fq.drew | apply Fm.alloc)) hb2; have hs2 := HS.out _ F2
           first
             | (refine kqN hb2 ?_; rintro ⟨g1, s1⟩)
             | (refine kqM hb2 ?_; rintro ⟨g1, s1⟩)
             | (refine kqO g1 hb2 ?_; rintro ⟨g2, s2⟩; clear g1 s1; have g1 := g2; have s1 := s2; clear g2 s2)
             | skip)
        | (go_at_call 29; with_reducible refine (H2.out _ (by repeat (first | assumption | apply Fm.drew | apply Fz.drew | apply Fq.drew | apply Fm.alloc))).mono ?_; rintro e w3 ⟨rfl, hb3⟩; have F3 := Fm.blk (by repeat (first | assumption | apply Fm.drew | apply Fz.drew | apply Fq.drew | apply Fm.alloc)) hb3; have hs3 := HS.out _ F3
           first
             | (refine kqN hb3 ?_; rintro ⟨g1, s1⟩)
             | (refine kqM hb3 ?_; rintro ⟨g1, s1⟩)
             | (refine kqO g1 hb3 ?_; rintro ⟨g2, s2⟩; clear g1 s1; have g1 := g2; have s1 := s2; clear g2 s2)
             | skip)
        | (go_at_call 11; with_reducible refine (H3.out _ (by repeat (first | assumption | apply Fm.drew | apply Fz.drew | apply Fq.drew | apply Fm.alloc))).mono ?_; rintro e w4 ⟨rfl, hb4⟩; have F4 := Fm.blk (by repeat (first | assumption | apply Fm.drew | apply Fz.drew | apply Fq.drew | apply Fm.alloc)) hb4; have hs4 := HS.out _ F4
           first
             | (refine kqN hb4 ?_; rintro ⟨g1, s1⟩)
             | (refine kqM hb4 ?_; rintro ⟨g1, s1⟩)
             | (refine kqO g1 hb4 ?_; rintro ⟨g2, s2⟩; clear g1 s1; have g1 := g2; have s1 := s2; clear g2 s2)
             | skip))
    all_goals go_wp2
    all_goals go_meet
    all_goals (first
      | exact ⟨_, rfl, Fm.new (by assumption) _⟩
      | exact ⟨_, rfl, Fm.late (by assumption) (by assumption) g1⟩)
  case rest =>
    obtain ⟨b6, rfl, F1⟩ := hcut
    clear hS0 F HS H1 H2 H3
    go_upto_region 6 with fail
    rw [← hL] at F1
    clear hL
    have H1 : Hid (∀ w, Cv w c mp mn → Calls Tryd.prog 58 #[boxM mp, .agg (N.natL x).toArray] w fun e w' => e = .returned (.bool false) ∧ Below w.heap.size w w') := fun w h => (pBelow h hxl).mono fun e w' ⟨he, hb⟩ => ⟨by rw [he, decide_eq_false h1], hb⟩
    clear h1 hxl hyl
    obtain ⟨L1, hL1⟩ : ∃ L : List (Nat × Obj), [(b6, Obj.cells (ptL (⟨x, y, 1⟩)).toArray 41 (0, 0)), (W.heap.size, Obj.cells (ptL (T3.zero)).toArray 41 (0, 0))] = L := ⟨_, rfl⟩
    rw [hL1] at F1
    have HS : Hid (∀ w, Fm W L1 w → Fm W L1 w ∧ (N.natLoad (.pointer (some ⟨b6, 0, none⟩))).run Tryd.prog w = .ok (.agg (N.natL x).toArray) w ∧ (N.natLoad (.pointer (some ⟨b6, 129, none⟩))).run Tryd.prog w = .ok (.agg (N.natL y).toArray) w ∧ w.cell? ⟨c, 0, none⟩ = some (fnM 58 mp)) := fun w h => ⟨h, ptX (a := ⟨x, y, 1⟩) (h.get 0 (by rw [← hL1]; rfl)), ptY (a := ⟨x, y, 1⟩) (h.get 0 (by rw [← hL1]; rfl)), (h.cv C).fn 0 rfl⟩
    have HC : Hid (∀ w, Fm W L1 w → Cv w c mp mn) := fun w h => h.cv C
    have hS0 := HS.out _ F1
    refine wp_region_held_drew (S := fun w => Fm W L1 w ∧ (N.natLoad (.pointer (some ⟨b6, 0, none⟩))).run Tryd.prog w = .ok (.agg (N.natL x).toArray) w ∧ (N.natLoad (.pointer (some ⟨b6, 129, none⟩))).run Tryd.prog w = .ok (.agg (N.natL y).toArray) w ∧ w.cell? ⟨c, 0, none⟩ = some (fnM 58 mp)) (by kernel_rfl) (HS.out _ F1.drew) (fun hHeld => ?_)
    refine wpAnyH_take (i := 0) (v := ?v0) rfl (by kernel_rfl) (by kernel_rfl) (by kernel_rfl) (fun _ _ _ h => h) (Or.inl ⟨by kernel_rfl, ?hy0⟩) (by assumption) ?_
    case hy0 => (intro w hSw; (try dsimp only at hSw); go_simp; try with_reducible rfl)
    try simp only [Act.put, List.getElem_toArray, List.getElem_cons_succ, List.getElem_cons_zero, List.setIfInBounds_toArray, List.set_cons_zero, List.set_cons_succ]
    refine wpAnyH_take (i := 1) (v := ?v1) rfl (by kernel_rfl) (by kernel_rfl) (by kernel_rfl) (fun _ _ _ h => h) (Or.inl ⟨by kernel_rfl, ?hy1⟩) (by assumption) ?_
    case hy1 => (intro w hSw; (try dsimp only at hSw); go_simp; try with_reducible rfl)
    try simp only [Act.put, List.getElem_toArray, List.getElem_cons_succ, List.getElem_cons_zero, List.setIfInBounds_toArray, List.set_cons_zero, List.set_cons_succ]
    refine wpAnyH_take (i := 2) (v := ?v2) rfl (by kernel_rfl) (by kernel_rfl) (by kernel_rfl) (fun _ _ _ h => h) (Or.inl ⟨by kernel_rfl, ?hy2⟩) (by assumption) ?_
    case hy2 => (intro w hSw; (try dsimp only at hSw); go_simp; try with_reducible rfl)
    try simp only [Act.put, List.getElem_toArray, List.getElem_cons_succ, List.getElem_cons_zero, List.setIfInBounds_toArray, List.set_cons_zero, List.set_cons_succ]
    refine wpAnyH_take (i := 3) (v := ?v3) rfl (by kernel_rfl) (by kernel_rfl) (by kernel_rfl) (fun _ _ _ h => h) (Or.inl ⟨by kernel_rfl, ?hy3⟩) (by assumption) ?_
    case hy3 => (intro w hSw; (try dsimp only at hSw); go_simp; try with_reducible rfl)
    try simp only [Act.put, List.getElem_toArray, List.getElem_cons_succ, List.getElem_cons_zero, List.setIfInBounds_toArray, List.set_cons_zero, List.set_cons_succ]
    refine wpAnyH_take (i := 4) (v := ?v4) rfl (by kernel_rfl) (by kernel_rfl) (by kernel_rfl) (fun _ _ _ h => h) (Or.inl ⟨by kernel_rfl, ?hy4⟩) (by assumption) ?_
    case hy4 => (intro w hSw; (try dsimp only at hSw); go_simp; try with_reducible rfl)
    try simp only [Act.put, List.getElem_toArray, List.getElem_cons_succ, List.getElem_cons_zero, List.setIfInBounds_toArray, List.set_cons_zero, List.set_cons_succ]
    refine wpAnyH_take (i := 5) (v := ?v5) rfl (by kernel_rfl) (by kernel_rfl) (by kernel_rfl) (fun _ _ _ h => h) (Or.inl ⟨by kernel_rfl, ?hy5⟩) (by assumption) ?_
    case hy5 => (intro w hSw; (try dsimp only at hSw); go_simp; try with_reducible rfl)
    try simp only [Act.put, List.getElem_toArray, List.getElem_cons_succ, List.getElem_cons_zero, List.setIfInBounds_toArray, List.set_cons_zero, List.set_cons_succ]
    refine wpAnyH_take (i := 6) (v := ?v6) rfl (by kernel_rfl) (by kernel_rfl) (by kernel_rfl) (fun _ _ _ h => h) (Or.inl ⟨by kernel_rfl, ?hy6⟩) (by assumption) ?_
    case hy6 => (intro w hSw; (try dsimp only at hSw); go_simp; try with_reducible rfl)
    try simp only [Act.put, List.getElem_toArray, List.getElem_cons_succ, List.getElem_cons_zero, List.setIfInBounds_toArray, List.set_cons_zero, List.set_cons_succ]
    refine wpAnyH_ready (rs := [7]) (by kernel_rfl) (by simp) ?_
    refine AllReadyH.cons rfl (fun K hK => ?_) AllReadyH.nil
    go_simp
    go_at_call 58
    with_reducible refine (H1.out _ (HC.out _ (by repeat (first | assumption | apply Fm.drew | apply Fz.drew | apply Fq.drew | apply Fm.alloc)))).mono ?_
    rintro e w2 ⟨rfl, hb2⟩
    have F2 := Fm.blk (by repeat (first | assumption | apply Fm.drew | apply Fz.drew | apply Fq.drew | apply Fm.alloc)) hb2
    have hs2 := HS.out _ F2
    refine hK.out _ _ hs2 (fun hHeld2 => ?_)
    clear hK K
    try simp only [Act.put, List.getElem_toArray, List.getElem_cons_succ, List.getElem_cons_zero, List.setIfInBounds_toArray, List.set_cons_zero, List.set_cons_succ]
    refine wpAnyH_take (i := 8) (v := ?v8) rfl (by kernel_rfl) (by kernel_rfl) (by kernel_rfl) (fun _ _ _ h => h) (Or.inl ⟨by kernel_rfl, ?hy8⟩) (by assumption) ?_
    case hy8 => (intro w hSw; (try dsimp only at hSw); go_simp; try with_reducible rfl)
    try simp only [Act.put, List.getElem_toArray, List.getElem_cons_succ, List.getElem_cons_zero, List.setIfInBounds_toArray, List.set_cons_zero, List.set_cons_succ]
    refine wpAnyH_take (i := 9) (v := ?v9) rfl (by kernel_rfl) (by kernel_rfl) (by kernel_rfl) (fun _ _ _ h => h) (Or.inl ⟨by kernel_rfl, ?hy9⟩) (by assumption) ?_
    case hy9 => (intro w hSw; (try dsimp only at hSw); go_simp; try with_reducible rfl)
    try simp only [Act.put, List.getElem_toArray, List.getElem_cons_succ, List.getElem_cons_zero, List.setIfInBounds_toArray, List.set_cons_zero, List.set_cons_succ]
    refine wpAnyH_take (i := 10) (v := undef) rfl (by kernel_rfl) (by kernel_rfl) (by kernel_rfl) (fun _ _ _ h => h) (Or.inr ⟨by kernel_rfl, rfl⟩) (by assumption) ?_
    try simp only [Act.put, List.getElem_toArray, List.getElem_cons_succ, List.getElem_cons_zero, List.setIfInBounds_toArray, List.set_cons_zero, List.set_cons_succ]
    refine wpAnyH_take (i := 11) (v := undef) rfl (by kernel_rfl) (by kernel_rfl) (by kernel_rfl) (fun _ _ _ h => h) (Or.inr ⟨by kernel_rfl, rfl⟩) (by assumption) ?_
    try simp only [Act.put, List.getElem_toArray, List.getElem_cons_succ, List.getElem_cons_zero, List.setIfInBounds_toArray, List.set_cons_zero, List.set_cons_succ]
    refine wpAnyH_take (i := 12) (v := undef) rfl (by kernel_rfl) (by kernel_rfl) (by kernel_rfl) (fun _ _ _ h => h) (Or.inr ⟨by kernel_rfl, rfl⟩) (by assumption) ?_
    try simp only [Act.put, List.getElem_toArray, List.getElem_cons_succ, List.getElem_cons_zero, List.setIfInBounds_toArray, List.set_cons_zero, List.set_cons_succ]
    refine wpAnyH_take (i := 13) (v := undef) rfl (by kernel_rfl) (by kernel_rfl) (by kernel_rfl) (fun _ _ _ h => h) (Or.inr ⟨by kernel_rfl, rfl⟩) (by assumption) ?_
    try simp only [Act.put, List.getElem_toArray, List.getElem_cons_succ, List.getElem_cons_zero, List.setIfInBounds_toArray, List.set_cons_zero, List.set_cons_succ]
    refine wpAnyH_take (i := 14) (v := undef) rfl (by kernel_rfl) (by kernel_rfl) (by kernel_rfl) (fun _ _ _ h => h) (Or.inr ⟨by kernel_rfl, rfl⟩) (by assumption) ?_
    try simp only [Act.put, List.getElem_toArray, List.getElem_cons_succ, List.getElem_cons_zero, List.setIfInBounds_toArray, List.set_cons_zero, List.set_cons_succ]
    refine wpAnyH_take (i := 15) (v := undef) rfl (by kernel_rfl) (by kernel_rfl) (by kernel_rfl) (fun _ _ _ h => h) (Or.inr ⟨by kernel_rfl, rfl⟩) (by assumption) ?_
    try simp only [Act.put, List.getElem_toArray, List.getElem_cons_succ, List.getElem_cons_zero, List.setIfInBounds_toArray, List.set_cons_zero, List.set_cons_succ]
    refine wpAnyH_take (i := 16) (v := undef) rfl (by kernel_rfl) (by kernel_rfl) (by kernel_rfl) (fun _ _ _ h => h) (Or.inr ⟨by kernel_rfl, rfl⟩) (by assumption) ?_
    try simp only [Act.put, List.getElem_toArray, List.getElem_cons_succ, List.getElem_cons_zero, List.setIfInBounds_toArray, List.set_cons_zero, List.set_cons_succ]
    refine wpAnyH_take (i := 17) (v := undef) rfl (by kernel_rfl) (by kernel_rfl) (by kernel_rfl) (fun _ _ _ h => h) (Or.inr ⟨by kernel_rfl, rfl⟩) (by assumption) ?_
    try simp only [Act.put, List.getElem_toArray, List.getElem_cons_succ, List.getElem_cons_zero, List.setIfInBounds_toArray, List.set_cons_zero, List.set_cons_succ]
    refine wpAnyH_take (i := 18) (v := undef) rfl (by kernel_rfl) (by kernel_rfl) (by kernel_rfl) (fun _ _ _ h => h) (Or.inr ⟨by kernel_rfl, rfl⟩) (by assumption) ?_
    try simp only [Act.put, List.getElem_toArray, List.getElem_cons_succ, List.getElem_cons_zero, List.setIfInBounds_toArray, List.set_cons_zero, List.set_cons_succ]
    refine wpAnyH_take (i := 19) (v := ?v19) rfl (by kernel_rfl) (by kernel_rfl) (by kernel_rfl) (fun _ _ _ h => h) (Or.inl ⟨by kernel_rfl, ?hy19⟩) (by assumption) ?_
    case hy19 => (intro w hSw; (try dsimp only at hSw); go_simp; try with_reducible rfl)
    try simp only [Act.put, List.getElem_toArray, List.getElem_cons_succ, List.getElem_cons_zero, List.setIfInBounds_toArray, List.set_cons_zero, List.set_cons_succ]
    refine wpAnyH_take (i := 20) (v := ?v20) rfl (by kernel_rfl) (by kernel_rfl) (by kernel_rfl) (fun _ _ _ h => h) (Or.inl ⟨by kernel_rfl, ?hy20⟩) (by assumption) ?_
    case hy20 => (intro w hSw; (try dsimp only at hSw); go_simp; try with_reducible rfl)
    try simp only [Act.put, List.getElem_toArray, List.getElem_cons_succ, List.getElem_cons_zero, List.setIfInBounds_toArray, List.set_cons_zero, List.set_cons_succ]
    refine wpAnyH_take (i := 21) (v := undef) rfl (by kernel_rfl) (by kernel_rfl) (by kernel_rfl) (fun _ _ _ h => h) (Or.inr ⟨by kernel_rfl, rfl⟩) (by assumption) ?_
    try simp only [Act.put, List.getElem_toArray, List.getElem_cons_succ, List.getElem_cons_zero, List.setIfInBounds_toArray, List.set_cons_zero, List.set_cons_succ]
    refine wpAnyH_take (i := 22) (v := undef) rfl (by kernel_rfl) (by kernel_rfl) (by kernel_rfl) (fun _ _ _ h => h) (Or.inr ⟨by kernel_rfl, rfl⟩) (by assumption) ?_
    try simp only [Act.put, List.getElem_toArray, List.getElem_cons_succ, List.getElem_cons_zero, List.setIfInBounds_toArray, List.set_cons_zero, List.set_cons_succ]
    refine wpAnyH_take (i := 23) (v := undef) rfl (by kernel_rfl) (by kernel_rfl) (by kernel_rfl) (fun _ _ _ h => h) (Or.inr ⟨by kernel_rfl, rfl⟩) (by assumption) ?_
    try simp only [Act.put, List.getElem_toArray, List.getElem_cons_succ, List.getElem_cons_zero, List.setIfInBounds_toArray, List.set_cons_zero, List.set_cons_succ]
    refine wpAnyH_take (i := 24) (v := undef) rfl (by kernel_rfl) (by kernel_rfl) (by kernel_rfl) (fun _ _ _ h => h) (Or.inr ⟨by kernel_rfl, rfl⟩) (by assumption) ?_
    try simp only [Act.put, List.getElem_toArray, List.getElem_cons_succ, List.getElem_cons_zero, List.setIfInBounds_toArray, List.set_cons_zero, List.set_cons_succ]
    refine wpAnyH_take (i := 25) (v := undef) rfl (by kernel_rfl) (by kernel_rfl) (by kernel_rfl) (fun _ _ _ h => h) (Or.inr ⟨by kernel_rfl, rfl⟩) (by assumption) ?_
    try simp only [Act.put, List.getElem_toArray, List.getElem_cons_succ, List.getElem_cons_zero, List.setIfInBounds_toArray, List.set_cons_zero, List.set_cons_succ]
    refine wpAnyH_take (i := 26) (v := undef) rfl (by kernel_rfl) (by kernel_rfl) (by kernel_rfl) (fun _ _ _ h => h) (Or.inr ⟨by kernel_rfl, rfl⟩) (by assumption) ?_
    try simp only [Act.put, List.getElem_toArray, List.getElem_cons_succ, List.getElem_cons_zero, List.setIfInBounds_toArray, List.set_cons_zero, List.set_cons_succ]
    refine wpAnyH_take (i := 27) (v := undef) rfl (by kernel_rfl) (by kernel_rfl) (by kernel_rfl) (fun _ _ _ h => h) (Or.inr ⟨by kernel_rfl, rfl⟩) (by assumption) ?_
    try simp only [Act.put, List.getElem_toArray, List.getElem_cons_succ, List.getElem_cons_zero, List.setIfInBounds_toArray, List.set_cons_zero, List.set_cons_succ]
    refine wpAnyH_take (i := 28) (v := ?v28) rfl (by kernel_rfl) (by kernel_rfl) (by kernel_rfl) (fun _ _ _ h => h) (Or.inl ⟨by kernel_rfl, ?hy28⟩) (by assumption) ?_
    case hy28 => (intro w hSw; (try dsimp only at hSw); go_simp; try with_reducible rfl)
    try simp only [Act.put, List.getElem_toArray, List.getElem_cons_succ, List.getElem_cons_zero, List.setIfInBounds_toArray, List.set_cons_zero, List.set_cons_succ]
    refine wpAnyH_done (by kernel_rfl) ?_ _
    rw [← hL1] at F2
    clear hS0
    have s4 := fun q => ptStore_run (c := q) (F2.get 1 rfl)
    have F9 := F2.put 1 (ptL T3.zero).toArray rfl
    go_wp2
    exact bodyPost_ret (results_pt_tmp Tryd.results19 rfl rfl (F9.get 1 rfl)) rfl ⟨rfl, F9.bel⟩
end Go.Proofs.YtmjenhilafdioaaDoor

/- pointOf: xy. -/
namespace Go.Proofs.YtmjenhilafdioaaDoor
set_option linter.unusedVariables false
set_option linter.unusedSimpArgs false
open Go.RowKit N
attribute [local go_sem ↓] N.loadAt_nat N.storeAt_nat N.build_nat N.build_nat' loadAt_pt storeAt_pt build_pt0 build_pt0' build_pt'
attribute [local go_sem] N.st1 N.st2a N.st2b N.st1d N.st2ad N.st2bd N.natBuild_run ptst1 ptst1d ptBuild0_run build_pt ptBuild_run
attribute [local go_sem ↓] bin_nat bin_pt
set_option maxRecDepth 100000 in
set_option maxHeartbeats 2000000 in
theorem pof_xy {c mp mn : Nat} (s : ByteArray) (W : World) (C : Cv W c mp mn) (h : s.size = 64) (h1 : hiN s < pP) (h2 : ¬ loN s < pP) :
    Calls Tryd.prog 19 #[boxM c, .string s] W fun e w' => e = .returned (.tuple #[.agg (ptL T3.zero).toArray, .bool false]) ∧ Below W.heap.size W w' := by
  have he : s.toList.isEmpty = false := by
    rw [Bool.eq_false_iff]
    intro e
    have : s.size = 0 := by rw [← size_list, ← ByteArray.toList_eq, List.isEmpty_iff.1 e]; rfl
    omega
  have he2 : ((s.size : Int) != 64) = false := by simp; omega
  have hi1 : (32 : Int) ≤ (s.size : Int) := by omega
  have hi2 : (0 : Int) ≤ (s.size : Int) := by omega
  have HX := Hid.mk (numberOf_in (s.extract 0 32) (by rw [ByteArray.size_extract]; omega))
  have HY := Hid.mk (numberOf_in (s.extract 32 s.size) (by rw [ByteArray.size_extract]; omega))
  have hxl : hiN s < N.Lim := numB_32 _ (by rw [ByteArray.size_extract]; omega)
  have hyl : loN s < N.Lim := numB_32 _ (by rw [ByteArray.size_extract]; omega)
  have HSm := Hid.mk (N.small_in 1 (by omega))
  rw [show N.numB (s.extract 0 32).data.toList = hiN s from rfl] at HX
  rw [show N.numB (s.extract 32 s.size).data.toList = loN s from rfl] at HY
  generalize hiN s = x at *
  generalize loN s = y at *
  clear h
  have hzp := zeroPt
  obtain ⟨V, hV, F⟩ : ∃ V, (W.alloc (Obj.cells (ptL (T3.zero)).toArray 41 (0, 0))) = V ∧ Fm W [(W.heap.size, Obj.cells (ptL (T3.zero)).toArray 41 (0, 0))] V := ⟨_, rfl, Fm.box1 W _⟩
  obtain ⟨L, hL⟩ : ∃ L : List (Nat × Obj), [(W.heap.size, Obj.cells (ptL (T3.zero)).toArray 41 (0, 0))] = L := ⟨_, rfl⟩
  rw [hL] at F
  obtain ⟨sx, hsx⟩ : ∃ t, s.extract 0 32 = t := ⟨_, rfl⟩
  obtain ⟨sy, hsy⟩ : ∃ t, s.extract 32 s.size = t := ⟨_, rfl⟩
  rw [hsx] at HX
  rw [hsy] at HY
  have H1 : Hid (∀ w, Fm W L w → Calls Tryd.prog 29 #[.string sx] w fun e w' => e = .returned (.agg (N.natL x).toArray) ∧ Below w.heap.size w w') := fun w _ => HX.out w
  have H2 : Hid (∀ w, Fm W L w → Calls Tryd.prog 29 #[.string sy] w fun e w' => e = .returned (.agg (N.natL y).toArray) ∧ Below w.heap.size w w') := fun w _ => HY.out w
  have H3 : Hid (∀ w, Fm W L w → Calls Tryd.prog 11 #[.int .u64 1] w fun e w' => e = .returned (.agg (N.natL 1).toArray) ∧ Below w.heap.size w w') := fun w _ => HSm.out w
  have HS : Hid (∀ w, Fm W L w → Fm W L w ∧ True) := fun w h => ⟨h, trivial⟩
  clear HX HY HSm
  go_enter Tryd.func19, Tryd.ntmps19
  go_upto_region 5 with fail
  clear hV
  have hS0 := HS.out _ F
  go_cut [6] (fun s6 wx => ∃ b, s6 = .pointer (some ⟨b, 0, none⟩) ∧ Fm W ((b, Obj.cells (ptL (⟨x, y, 1⟩)).toArray 41 (0, 0)) :: L) wx)
  case first =>
    go_region_held3 (fun w => Fm W L w ∧ True)
      (first | assumption | (apply HS.out; repeat (first | assumption | apply Fm.drew | apply Fz.drew | apply Fq.drew | apply Fm.alloc | (apply Fm.setO (V := _); assumption))))
      (first
        | (go_at_call 29; with_reducible refine (H1.out _ (by repeat (first | assumption | apply Fm.drew | apply Fz.drew | apply Fq.drew | apply Fm.alloc))).mono ?_; rintro e w2 ⟨rfl, hb2⟩; have F2 := Fm.blk (by repeat (first | assumption | apply Fm.drew | apply Fz.drew | apply Fq.drew | apply Fm.alloc)) hb2; have hs2 := HS.out _ F2
           first
             | (refine kqN hb2 ?_; rintro ⟨g1, s1⟩)
             | (refine kqM hb2 ?_; rintro ⟨g1, s1⟩)
             | (refine kqO g1 hb2 ?_; rintro ⟨g2, s2⟩; clear g1 s1; have g1 := g2; have s1 := s2; clear g2 s2)
             | skip)
        | (go_at_call 29; with_reducible refine (H2.out _ (by repeat (first | assumption | apply Fm.drew | apply Fz.drew | apply Fq.drew | apply Fm.alloc))).mono ?_; rintro e w3 ⟨rfl, hb3⟩; have F3 := Fm.blk (by repeat (first | assumption | apply Fm.drew | apply Fz.drew | apply Fq.drew | apply Fm.alloc)) hb3; have hs3 := HS.out _ F3
           first
             | (refine kqN hb3 ?_; rintro ⟨g1, s1⟩)
             | (refine kqM hb3 ?_; rintro ⟨g1, s1⟩)
             | (refine kqO g1 hb3 ?_; rintro ⟨g2, s2⟩; clear g1 s1; have g1 := g2; have s1 := s2; clear g2 s2)
             | skip)
        | (go_at_call 11; with_reducible refine (H3.out _ (by repeat (first | assumption | apply Fm.drew | apply Fz.drew | apply Fq.drew | apply Fm.alloc))).mono ?_; rintro e w4 ⟨rfl, hb4⟩; have F4 := Fm.blk (by repeat (first | assumption | apply Fm.drew | apply Fz.drew | apply Fq.drew | apply Fm.alloc)) hb4; have hs4 := HS.out _ F4
           first
             | (refine kqN hb4 ?_; rintro ⟨g1, s1⟩)
             | (refine kqM hb4 ?_; rintro ⟨g1, s1⟩)
             | (refine kqO g1 hb4 ?_; rintro ⟨g2, s2⟩; clear g1 s1; have g1 := g2; have s1 := s2; clear g2 s2)
             | skip))
    all_goals go_wp2
    all_goals go_meet
    all_goals (first
      | exact ⟨_, rfl, Fm.new (by assumption) _⟩
      | exact ⟨_, rfl, Fm.late (by assumption) (by assumption) g1⟩)
  case rest =>
    obtain ⟨b6, rfl, F1⟩ := hcut
    clear hS0 F HS H1 H2 H3
    go_upto_region 6 with fail
    rw [← hL] at F1
    clear hL
    have H1 : Hid (∀ w, Cv w c mp mn → Calls Tryd.prog 58 #[boxM mp, .agg (N.natL x).toArray] w fun e w' => e = .returned (.bool true) ∧ Below w.heap.size w w') := fun w h => (pBelow h hxl).mono fun e w' ⟨he, hb⟩ => ⟨by rw [he, decide_eq_true h1], hb⟩
    have H2 : Hid (∀ w, Cv w c mp mn → Calls Tryd.prog 58 #[boxM mp, .agg (N.natL y).toArray] w fun e w' => e = .returned (.bool false) ∧ Below w.heap.size w w') := fun w h => (pBelow h hyl).mono fun e w' ⟨he, hb⟩ => ⟨by rw [he, decide_eq_false h2], hb⟩
    clear h1 hxl hyl h2
    obtain ⟨L1, hL1⟩ : ∃ L : List (Nat × Obj), [(b6, Obj.cells (ptL (⟨x, y, 1⟩)).toArray 41 (0, 0)), (W.heap.size, Obj.cells (ptL (T3.zero)).toArray 41 (0, 0))] = L := ⟨_, rfl⟩
    rw [hL1] at F1
    have HS : Hid (∀ w, Fm W L1 w → Fm W L1 w ∧ (N.natLoad (.pointer (some ⟨b6, 0, none⟩))).run Tryd.prog w = .ok (.agg (N.natL x).toArray) w ∧ (N.natLoad (.pointer (some ⟨b6, 129, none⟩))).run Tryd.prog w = .ok (.agg (N.natL y).toArray) w ∧ w.cell? ⟨c, 0, none⟩ = some (fnM 58 mp)) := fun w h => ⟨h, ptX (a := ⟨x, y, 1⟩) (h.get 0 (by rw [← hL1]; rfl)), ptY (a := ⟨x, y, 1⟩) (h.get 0 (by rw [← hL1]; rfl)), (h.cv C).fn 0 rfl⟩
    have HC : Hid (∀ w, Fm W L1 w → Cv w c mp mn) := fun w h => h.cv C
    have hS0 := HS.out _ F1
    refine wp_region_held_drew (S := fun w => Fm W L1 w ∧ (N.natLoad (.pointer (some ⟨b6, 0, none⟩))).run Tryd.prog w = .ok (.agg (N.natL x).toArray) w ∧ (N.natLoad (.pointer (some ⟨b6, 129, none⟩))).run Tryd.prog w = .ok (.agg (N.natL y).toArray) w ∧ w.cell? ⟨c, 0, none⟩ = some (fnM 58 mp)) (by kernel_rfl) (HS.out _ F1.drew) (fun hHeld => ?_)
    refine wpAnyH_take (i := 0) (v := ?v0) rfl (by kernel_rfl) (by kernel_rfl) (by kernel_rfl) (fun _ _ _ h => h) (Or.inl ⟨by kernel_rfl, ?hy0⟩) (by assumption) ?_
    case hy0 => (intro w hSw; (try dsimp only at hSw); go_simp; try with_reducible rfl)
    try simp only [Act.put, List.getElem_toArray, List.getElem_cons_succ, List.getElem_cons_zero, List.setIfInBounds_toArray, List.set_cons_zero, List.set_cons_succ]
    refine wpAnyH_take (i := 1) (v := ?v1) rfl (by kernel_rfl) (by kernel_rfl) (by kernel_rfl) (fun _ _ _ h => h) (Or.inl ⟨by kernel_rfl, ?hy1⟩) (by assumption) ?_
    case hy1 => (intro w hSw; (try dsimp only at hSw); go_simp; try with_reducible rfl)
    try simp only [Act.put, List.getElem_toArray, List.getElem_cons_succ, List.getElem_cons_zero, List.setIfInBounds_toArray, List.set_cons_zero, List.set_cons_succ]
    refine wpAnyH_take (i := 2) (v := ?v2) rfl (by kernel_rfl) (by kernel_rfl) (by kernel_rfl) (fun _ _ _ h => h) (Or.inl ⟨by kernel_rfl, ?hy2⟩) (by assumption) ?_
    case hy2 => (intro w hSw; (try dsimp only at hSw); go_simp; try with_reducible rfl)
    try simp only [Act.put, List.getElem_toArray, List.getElem_cons_succ, List.getElem_cons_zero, List.setIfInBounds_toArray, List.set_cons_zero, List.set_cons_succ]
    refine wpAnyH_take (i := 3) (v := ?v3) rfl (by kernel_rfl) (by kernel_rfl) (by kernel_rfl) (fun _ _ _ h => h) (Or.inl ⟨by kernel_rfl, ?hy3⟩) (by assumption) ?_
    case hy3 => (intro w hSw; (try dsimp only at hSw); go_simp; try with_reducible rfl)
    try simp only [Act.put, List.getElem_toArray, List.getElem_cons_succ, List.getElem_cons_zero, List.setIfInBounds_toArray, List.set_cons_zero, List.set_cons_succ]
    refine wpAnyH_take (i := 4) (v := ?v4) rfl (by kernel_rfl) (by kernel_rfl) (by kernel_rfl) (fun _ _ _ h => h) (Or.inl ⟨by kernel_rfl, ?hy4⟩) (by assumption) ?_
    case hy4 => (intro w hSw; (try dsimp only at hSw); go_simp; try with_reducible rfl)
    try simp only [Act.put, List.getElem_toArray, List.getElem_cons_succ, List.getElem_cons_zero, List.setIfInBounds_toArray, List.set_cons_zero, List.set_cons_succ]
    refine wpAnyH_take (i := 5) (v := ?v5) rfl (by kernel_rfl) (by kernel_rfl) (by kernel_rfl) (fun _ _ _ h => h) (Or.inl ⟨by kernel_rfl, ?hy5⟩) (by assumption) ?_
    case hy5 => (intro w hSw; (try dsimp only at hSw); go_simp; try with_reducible rfl)
    try simp only [Act.put, List.getElem_toArray, List.getElem_cons_succ, List.getElem_cons_zero, List.setIfInBounds_toArray, List.set_cons_zero, List.set_cons_succ]
    refine wpAnyH_take (i := 6) (v := ?v6) rfl (by kernel_rfl) (by kernel_rfl) (by kernel_rfl) (fun _ _ _ h => h) (Or.inl ⟨by kernel_rfl, ?hy6⟩) (by assumption) ?_
    case hy6 => (intro w hSw; (try dsimp only at hSw); go_simp; try with_reducible rfl)
    try simp only [Act.put, List.getElem_toArray, List.getElem_cons_succ, List.getElem_cons_zero, List.setIfInBounds_toArray, List.set_cons_zero, List.set_cons_succ]
    refine wpAnyH_ready (rs := [7]) (by kernel_rfl) (by simp) ?_
    refine AllReadyH.cons rfl (fun K hK => ?_) AllReadyH.nil
    go_simp
    go_at_call 58
    with_reducible refine (H1.out _ (HC.out _ (by repeat (first | assumption | apply Fm.drew | apply Fz.drew | apply Fq.drew | apply Fm.alloc)))).mono ?_
    rintro e w2 ⟨rfl, hb2⟩
    have F2 := Fm.blk (by repeat (first | assumption | apply Fm.drew | apply Fz.drew | apply Fq.drew | apply Fm.alloc)) hb2
    have hs2 := HS.out _ F2
    refine hK.out _ _ hs2 (fun hHeld2 => ?_)
    clear hK K
    try simp only [Act.put, List.getElem_toArray, List.getElem_cons_succ, List.getElem_cons_zero, List.setIfInBounds_toArray, List.set_cons_zero, List.set_cons_succ]
    refine wpAnyH_take (i := 8) (v := ?v8) rfl (by kernel_rfl) (by kernel_rfl) (by kernel_rfl) (fun _ _ _ h => h) (Or.inl ⟨by kernel_rfl, ?hy8⟩) (by assumption) ?_
    case hy8 => (intro w hSw; (try dsimp only at hSw); go_simp; try with_reducible rfl)
    try simp only [Act.put, List.getElem_toArray, List.getElem_cons_succ, List.getElem_cons_zero, List.setIfInBounds_toArray, List.set_cons_zero, List.set_cons_succ]
    refine wpAnyH_take (i := 9) (v := ?v9) rfl (by kernel_rfl) (by kernel_rfl) (by kernel_rfl) (fun _ _ _ h => h) (Or.inl ⟨by kernel_rfl, ?hy9⟩) (by assumption) ?_
    case hy9 => (intro w hSw; (try dsimp only at hSw); go_simp; try with_reducible rfl)
    try simp only [Act.put, List.getElem_toArray, List.getElem_cons_succ, List.getElem_cons_zero, List.setIfInBounds_toArray, List.set_cons_zero, List.set_cons_succ]
    refine wpAnyH_take (i := 10) (v := ?v10) rfl (by kernel_rfl) (by kernel_rfl) (by kernel_rfl) (fun _ _ _ h => h) (Or.inl ⟨by kernel_rfl, ?hy10⟩) (by assumption) ?_
    case hy10 => (intro w hSw; (try dsimp only at hSw); go_simp; try with_reducible rfl)
    try simp only [Act.put, List.getElem_toArray, List.getElem_cons_succ, List.getElem_cons_zero, List.setIfInBounds_toArray, List.set_cons_zero, List.set_cons_succ]
    refine wpAnyH_take (i := 11) (v := ?v11) rfl (by kernel_rfl) (by kernel_rfl) (by kernel_rfl) (fun _ _ _ h => h) (Or.inl ⟨by kernel_rfl, ?hy11⟩) (by assumption) ?_
    case hy11 => (intro w hSw; (try dsimp only at hSw); go_simp; try with_reducible rfl)
    try simp only [Act.put, List.getElem_toArray, List.getElem_cons_succ, List.getElem_cons_zero, List.setIfInBounds_toArray, List.set_cons_zero, List.set_cons_succ]
    refine wpAnyH_take (i := 12) (v := ?v12) rfl (by kernel_rfl) (by kernel_rfl) (by kernel_rfl) (fun _ _ _ h => h) (Or.inl ⟨by kernel_rfl, ?hy12⟩) (by assumption) ?_
    case hy12 => (intro w hSw; (try dsimp only at hSw); go_simp; try with_reducible rfl)
    try simp only [Act.put, List.getElem_toArray, List.getElem_cons_succ, List.getElem_cons_zero, List.setIfInBounds_toArray, List.set_cons_zero, List.set_cons_succ]
    refine wpAnyH_take (i := 13) (v := ?v13) rfl (by kernel_rfl) (by kernel_rfl) (by kernel_rfl) (fun _ _ _ h => h) (Or.inl ⟨by kernel_rfl, ?hy13⟩) (by assumption) ?_
    case hy13 => (intro w hSw; (try dsimp only at hSw); go_simp; try with_reducible rfl)
    try simp only [Act.put, List.getElem_toArray, List.getElem_cons_succ, List.getElem_cons_zero, List.setIfInBounds_toArray, List.set_cons_zero, List.set_cons_succ]
    refine wpAnyH_take (i := 14) (v := ?v14) rfl (by kernel_rfl) (by kernel_rfl) (by kernel_rfl) (fun _ _ _ h => h) (Or.inl ⟨by kernel_rfl, ?hy14⟩) (by assumption) ?_
    case hy14 => (intro w hSw; (try dsimp only at hSw); go_simp; try with_reducible rfl)
    try simp only [Act.put, List.getElem_toArray, List.getElem_cons_succ, List.getElem_cons_zero, List.setIfInBounds_toArray, List.set_cons_zero, List.set_cons_succ]
    refine wpAnyH_take (i := 15) (v := ?v15) rfl (by kernel_rfl) (by kernel_rfl) (by kernel_rfl) (fun _ _ _ h => h) (Or.inl ⟨by kernel_rfl, ?hy15⟩) (by assumption) ?_
    case hy15 => (intro w hSw; (try dsimp only at hSw); go_simp; try with_reducible rfl)
    try simp only [Act.put, List.getElem_toArray, List.getElem_cons_succ, List.getElem_cons_zero, List.setIfInBounds_toArray, List.set_cons_zero, List.set_cons_succ]
    refine wpAnyH_take (i := 16) (v := ?v16) rfl (by kernel_rfl) (by kernel_rfl) (by kernel_rfl) (fun _ _ _ h => h) (Or.inl ⟨by kernel_rfl, ?hy16⟩) (by assumption) ?_
    case hy16 => (intro w hSw; (try dsimp only at hSw); go_simp; try with_reducible rfl)
    try simp only [Act.put, List.getElem_toArray, List.getElem_cons_succ, List.getElem_cons_zero, List.setIfInBounds_toArray, List.set_cons_zero, List.set_cons_succ]
    refine wpAnyH_ready (rs := [17]) (by kernel_rfl) (by simp) ?_
    refine AllReadyH.cons rfl (fun K hK => ?_) AllReadyH.nil
    go_simp
    go_at_call 58
    with_reducible refine (H2.out _ (HC.out _ (by repeat (first | assumption | apply Fm.drew | apply Fz.drew | apply Fq.drew | apply Fm.alloc)))).mono ?_
    rintro e w3 ⟨rfl, hb3⟩
    have F3 := Fm.blk (by repeat (first | assumption | apply Fm.drew | apply Fz.drew | apply Fq.drew | apply Fm.alloc)) hb3
    have hs3 := HS.out _ F3
    refine hK.out _ _ hs3 (fun hHeld3 => ?_)
    clear hK K
    try simp only [Act.put, List.getElem_toArray, List.getElem_cons_succ, List.getElem_cons_zero, List.setIfInBounds_toArray, List.set_cons_zero, List.set_cons_succ]
    refine wpAnyH_take (i := 18) (v := ?v18) rfl (by kernel_rfl) (by kernel_rfl) (by kernel_rfl) (fun _ _ _ h => h) (Or.inl ⟨by kernel_rfl, ?hy18⟩) (by assumption) ?_
    case hy18 => (intro w hSw; (try dsimp only at hSw); go_simp; try with_reducible rfl)
    try simp only [Act.put, List.getElem_toArray, List.getElem_cons_succ, List.getElem_cons_zero, List.setIfInBounds_toArray, List.set_cons_zero, List.set_cons_succ]
    refine wpAnyH_take (i := 19) (v := ?v19) rfl (by kernel_rfl) (by kernel_rfl) (by kernel_rfl) (fun _ _ _ h => h) (Or.inl ⟨by kernel_rfl, ?hy19⟩) (by assumption) ?_
    case hy19 => (intro w hSw; (try dsimp only at hSw); go_simp; try with_reducible rfl)
    try simp only [Act.put, List.getElem_toArray, List.getElem_cons_succ, List.getElem_cons_zero, List.setIfInBounds_toArray, List.set_cons_zero, List.set_cons_succ]
    refine wpAnyH_take (i := 20) (v := ?v20) rfl (by kernel_rfl) (by kernel_rfl) (by kernel_rfl) (fun _ _ _ h => h) (Or.inl ⟨by kernel_rfl, ?hy20⟩) (by assumption) ?_
    case hy20 => (intro w hSw; (try dsimp only at hSw); go_simp; try with_reducible rfl)
    try simp only [Act.put, List.getElem_toArray, List.getElem_cons_succ, List.getElem_cons_zero, List.setIfInBounds_toArray, List.set_cons_zero, List.set_cons_succ]
    refine wpAnyH_take (i := 21) (v := undef) rfl (by kernel_rfl) (by kernel_rfl) (by kernel_rfl) (fun _ _ _ h => h) (Or.inr ⟨by kernel_rfl, rfl⟩) (by assumption) ?_
    try simp only [Act.put, List.getElem_toArray, List.getElem_cons_succ, List.getElem_cons_zero, List.setIfInBounds_toArray, List.set_cons_zero, List.set_cons_succ]
    refine wpAnyH_take (i := 22) (v := undef) rfl (by kernel_rfl) (by kernel_rfl) (by kernel_rfl) (fun _ _ _ h => h) (Or.inr ⟨by kernel_rfl, rfl⟩) (by assumption) ?_
    try simp only [Act.put, List.getElem_toArray, List.getElem_cons_succ, List.getElem_cons_zero, List.setIfInBounds_toArray, List.set_cons_zero, List.set_cons_succ]
    refine wpAnyH_take (i := 23) (v := undef) rfl (by kernel_rfl) (by kernel_rfl) (by kernel_rfl) (fun _ _ _ h => h) (Or.inr ⟨by kernel_rfl, rfl⟩) (by assumption) ?_
    try simp only [Act.put, List.getElem_toArray, List.getElem_cons_succ, List.getElem_cons_zero, List.setIfInBounds_toArray, List.set_cons_zero, List.set_cons_succ]
    refine wpAnyH_take (i := 24) (v := undef) rfl (by kernel_rfl) (by kernel_rfl) (by kernel_rfl) (fun _ _ _ h => h) (Or.inr ⟨by kernel_rfl, rfl⟩) (by assumption) ?_
    try simp only [Act.put, List.getElem_toArray, List.getElem_cons_succ, List.getElem_cons_zero, List.setIfInBounds_toArray, List.set_cons_zero, List.set_cons_succ]
    refine wpAnyH_take (i := 25) (v := undef) rfl (by kernel_rfl) (by kernel_rfl) (by kernel_rfl) (fun _ _ _ h => h) (Or.inr ⟨by kernel_rfl, rfl⟩) (by assumption) ?_
    try simp only [Act.put, List.getElem_toArray, List.getElem_cons_succ, List.getElem_cons_zero, List.setIfInBounds_toArray, List.set_cons_zero, List.set_cons_succ]
    refine wpAnyH_take (i := 26) (v := undef) rfl (by kernel_rfl) (by kernel_rfl) (by kernel_rfl) (fun _ _ _ h => h) (Or.inr ⟨by kernel_rfl, rfl⟩) (by assumption) ?_
    try simp only [Act.put, List.getElem_toArray, List.getElem_cons_succ, List.getElem_cons_zero, List.setIfInBounds_toArray, List.set_cons_zero, List.set_cons_succ]
    refine wpAnyH_take (i := 27) (v := undef) rfl (by kernel_rfl) (by kernel_rfl) (by kernel_rfl) (fun _ _ _ h => h) (Or.inr ⟨by kernel_rfl, rfl⟩) (by assumption) ?_
    try simp only [Act.put, List.getElem_toArray, List.getElem_cons_succ, List.getElem_cons_zero, List.setIfInBounds_toArray, List.set_cons_zero, List.set_cons_succ]
    refine wpAnyH_take (i := 28) (v := ?v28) rfl (by kernel_rfl) (by kernel_rfl) (by kernel_rfl) (fun _ _ _ h => h) (Or.inl ⟨by kernel_rfl, ?hy28⟩) (by assumption) ?_
    case hy28 => (intro w hSw; (try dsimp only at hSw); go_simp; try with_reducible rfl)
    try simp only [Act.put, List.getElem_toArray, List.getElem_cons_succ, List.getElem_cons_zero, List.setIfInBounds_toArray, List.set_cons_zero, List.set_cons_succ]
    refine wpAnyH_done (by kernel_rfl) ?_ _
    rw [← hL1] at F3
    clear hS0
    have s4 := fun q => ptStore_run (c := q) (F3.get 1 rfl)
    have F9 := F3.put 1 (ptL T3.zero).toArray rfl
    go_wp2
    exact bodyPost_ret (results_pt_tmp Tryd.results19 rfl rfl (F9.get 1 rfl)) rfl ⟨rfl, F9.bel⟩
end Go.Proofs.YtmjenhilafdioaaDoor

/- pointOf: xon. -/
namespace Go.Proofs.YtmjenhilafdioaaDoor
set_option linter.unusedVariables false
set_option linter.unusedSimpArgs false
open Go.RowKit N
attribute [local go_sem ↓] N.loadAt_nat N.storeAt_nat N.build_nat N.build_nat' loadAt_pt storeAt_pt build_pt0 build_pt0' build_pt'
attribute [local go_sem] N.st1 N.st2a N.st2b N.st1d N.st2ad N.st2bd N.natBuild_run ptst1 ptst1d ptBuild0_run build_pt ptBuild_run
attribute [local go_sem ↓] bin_nat bin_pt
set_option maxRecDepth 100000 in
set_option maxHeartbeats 2000000 in
theorem pof_xon {c mp mn : Nat} (s : ByteArray) (W : World) (C : Cv W c mp mn) (h : s.size = 64) (h1 : hiN s < pP) (h2 : loN s < pP) (h3 : onN (hiN s) (loN s) = false) :
    Calls Tryd.prog 19 #[boxM c, .string s] W fun e w' => e = .returned (.tuple #[.agg (ptL T3.zero).toArray, .bool false]) ∧ Below W.heap.size W w' := by
  have he : s.toList.isEmpty = false := by
    rw [Bool.eq_false_iff]
    intro e
    have : s.size = 0 := by rw [← size_list, ← ByteArray.toList_eq, List.isEmpty_iff.1 e]; rfl
    omega
  have he2 : ((s.size : Int) != 64) = false := by simp; omega
  have hi1 : (32 : Int) ≤ (s.size : Int) := by omega
  have hi2 : (0 : Int) ≤ (s.size : Int) := by omega
  have HX := Hid.mk (numberOf_in (s.extract 0 32) (by rw [ByteArray.size_extract]; omega))
  have HY := Hid.mk (numberOf_in (s.extract 32 s.size) (by rw [ByteArray.size_extract]; omega))
  have hxl : hiN s < N.Lim := numB_32 _ (by rw [ByteArray.size_extract]; omega)
  have hyl : loN s < N.Lim := numB_32 _ (by rw [ByteArray.size_extract]; omega)
  have HSm := Hid.mk (N.small_in 1 (by omega))
  rw [show N.numB (s.extract 0 32).data.toList = hiN s from rfl] at HX
  rw [show N.numB (s.extract 32 s.size).data.toList = loN s from rfl] at HY
  generalize hiN s = x at *
  generalize loN s = y at *
  clear h
  have hzp := zeroPt
  obtain ⟨V, hV, F⟩ : ∃ V, (W.alloc (Obj.cells (ptL (T3.zero)).toArray 41 (0, 0))) = V ∧ Fm W [(W.heap.size, Obj.cells (ptL (T3.zero)).toArray 41 (0, 0))] V := ⟨_, rfl, Fm.box1 W _⟩
  obtain ⟨L, hL⟩ : ∃ L : List (Nat × Obj), [(W.heap.size, Obj.cells (ptL (T3.zero)).toArray 41 (0, 0))] = L := ⟨_, rfl⟩
  rw [hL] at F
  obtain ⟨sx, hsx⟩ : ∃ t, s.extract 0 32 = t := ⟨_, rfl⟩
  obtain ⟨sy, hsy⟩ : ∃ t, s.extract 32 s.size = t := ⟨_, rfl⟩
  rw [hsx] at HX
  rw [hsy] at HY
  have H1 : Hid (∀ w, Fm W L w → Calls Tryd.prog 29 #[.string sx] w fun e w' => e = .returned (.agg (N.natL x).toArray) ∧ Below w.heap.size w w') := fun w _ => HX.out w
  have H2 : Hid (∀ w, Fm W L w → Calls Tryd.prog 29 #[.string sy] w fun e w' => e = .returned (.agg (N.natL y).toArray) ∧ Below w.heap.size w w') := fun w _ => HY.out w
  have H3 : Hid (∀ w, Fm W L w → Calls Tryd.prog 11 #[.int .u64 1] w fun e w' => e = .returned (.agg (N.natL 1).toArray) ∧ Below w.heap.size w w') := fun w _ => HSm.out w
  have HS : Hid (∀ w, Fm W L w → Fm W L w ∧ True) := fun w h => ⟨h, trivial⟩
  clear HX HY HSm
  go_enter Tryd.func19, Tryd.ntmps19
  go_upto_region 5 with fail
  clear hV
  have hS0 := HS.out _ F
  go_cut [6] (fun s6 wx => ∃ b, s6 = .pointer (some ⟨b, 0, none⟩) ∧ Fm W ((b, Obj.cells (ptL (⟨x, y, 1⟩)).toArray 41 (0, 0)) :: L) wx)
  case first =>
    go_region_held3 (fun w => Fm W L w ∧ True)
      (first | assumption | (apply HS.out; repeat (first | assumption | apply Fm.drew | apply Fz.drew | apply Fq.drew | apply Fm.alloc | (apply Fm.setO (V := _); assumption))))
      (first
        | (go_at_call 29; with_reducible refine (H1.out _ (by repeat (first | assumption | apply Fm.drew | apply Fz.drew | apply Fq.drew | apply Fm.alloc))).mono ?_; rintro e w2 ⟨rfl, hb2⟩; have F2 := Fm.blk (by repeat (first | assumption | apply Fm.drew | apply Fz.drew | apply Fq.drew | apply Fm.alloc)) hb2; have hs2 := HS.out _ F2
           first
             | (refine kqN hb2 ?_; rintro ⟨g1, s1⟩)
             | (refine kqM hb2 ?_; rintro ⟨g1, s1⟩)
             | (refine kqO g1 hb2 ?_; rintro ⟨g2, s2⟩; clear g1 s1; have g1 := g2; have s1 := s2; clear g2 s2)
             | skip)
        | (go_at_call 29; with_reducible refine (H2.out _ (by repeat (first | assumption | apply Fm.drew | apply Fz.drew | apply Fq.drew | apply Fm.alloc))).mono ?_; rintro e w3 ⟨rfl, hb3⟩; have F3 := Fm.blk (by repeat (first | assumption | apply Fm.drew | apply Fz.drew | apply Fq.drew | apply Fm.alloc)) hb3; have hs3 := HS.out _ F3
           first
             | (refine kqN hb3 ?_; rintro ⟨g1, s1⟩)
             | (refine kqM hb3 ?_; rintro ⟨g1, s1⟩)
             | (refine kqO g1 hb3 ?_; rintro ⟨g2, s2⟩; clear g1 s1; have g1 := g2; have s1 := s2; clear g2 s2)
             | skip)
        | (go_at_call 11; with_reducible refine (H3.out _ (by repeat (first | assumption | apply Fm.drew | apply Fz.drew | apply Fq.drew | apply Fm.alloc))).mono ?_; rintro e w4 ⟨rfl, hb4⟩; have F4 := Fm.blk (by repeat (first | assumption | apply Fm.drew | apply Fz.drew | apply Fq.drew | apply Fm.alloc)) hb4; have hs4 := HS.out _ F4
           first
             | (refine kqN hb4 ?_; rintro ⟨g1, s1⟩)
             | (refine kqM hb4 ?_; rintro ⟨g1, s1⟩)
             | (refine kqO g1 hb4 ?_; rintro ⟨g2, s2⟩; clear g1 s1; have g1 := g2; have s1 := s2; clear g2 s2)
             | skip))
    all_goals go_wp2
    all_goals go_meet
    all_goals (first
      | exact ⟨_, rfl, Fm.new (by assumption) _⟩
      | exact ⟨_, rfl, Fm.late (by assumption) (by assumption) g1⟩)
  case rest =>
    obtain ⟨b6, rfl, F1⟩ := hcut
    clear hS0 F HS H1 H2 H3
    go_upto_region 6 with fail
    rw [← hL] at F1
    clear hL
    have H1 : Hid (∀ w, Cv w c mp mn → Calls Tryd.prog 58 #[boxM mp, .agg (N.natL x).toArray] w fun e w' => e = .returned (.bool true) ∧ Below w.heap.size w w') := fun w h => (pBelow h hxl).mono fun e w' ⟨he, hb⟩ => ⟨by rw [he, decide_eq_true h1], hb⟩
    have H2 : Hid (∀ w, Cv w c mp mn → Calls Tryd.prog 58 #[boxM mp, .agg (N.natL y).toArray] w fun e w' => e = .returned (.bool true) ∧ Below w.heap.size w w') := fun w h => (pBelow h hyl).mono fun e w' ⟨he, hb⟩ => ⟨by rw [he, decide_eq_true h2], hb⟩
    have H3 : Hid (∀ w, Cv w c mp mn → Calls Tryd.prog 36 #[boxM c, .agg (N.natL x).toArray, .agg (N.natL y).toArray] w fun e w' => e = .returned (.bool false) ∧ Below w.heap.size w w') := fun w h => (on_in x y w h h1 h2).mono fun e w' ⟨he, hb⟩ => ⟨by rw [he, h3], hb⟩
    clear h1 hxl hyl h2 h3
    obtain ⟨L1, hL1⟩ : ∃ L : List (Nat × Obj), [(b6, Obj.cells (ptL (⟨x, y, 1⟩)).toArray 41 (0, 0)), (W.heap.size, Obj.cells (ptL (T3.zero)).toArray 41 (0, 0))] = L := ⟨_, rfl⟩
    rw [hL1] at F1
    have HS : Hid (∀ w, Fm W L1 w → Fm W L1 w ∧ (N.natLoad (.pointer (some ⟨b6, 0, none⟩))).run Tryd.prog w = .ok (.agg (N.natL x).toArray) w ∧ (N.natLoad (.pointer (some ⟨b6, 129, none⟩))).run Tryd.prog w = .ok (.agg (N.natL y).toArray) w ∧ w.cell? ⟨c, 0, none⟩ = some (fnM 58 mp)) := fun w h => ⟨h, ptX (a := ⟨x, y, 1⟩) (h.get 0 (by rw [← hL1]; rfl)), ptY (a := ⟨x, y, 1⟩) (h.get 0 (by rw [← hL1]; rfl)), (h.cv C).fn 0 rfl⟩
    have HC : Hid (∀ w, Fm W L1 w → Cv w c mp mn) := fun w h => h.cv C
    have hS0 := HS.out _ F1
    first
    | (skip
       go_region_held3 (fun w => Fm W L1 w ∧ (N.natLoad (.pointer (some ⟨b6, 0, none⟩))).run Tryd.prog w = .ok (.agg (N.natL x).toArray) w ∧ (N.natLoad (.pointer (some ⟨b6, 129, none⟩))).run Tryd.prog w = .ok (.agg (N.natL y).toArray) w ∧ w.cell? ⟨c, 0, none⟩ = some (fnM 58 mp))
         (first | assumption | (apply HS.out; repeat (first | assumption | apply Fm.drew | apply Fz.drew | apply Fq.drew | apply Fm.alloc)))
         (first
           | (go_at_call 58; with_reducible refine (H1.out _ (HC.out _ (by repeat (first | assumption | apply Fm.drew | apply Fz.drew | apply Fq.drew | apply Fm.alloc)))).mono ?_; rintro e w2 ⟨rfl, hb2⟩; have F2 := Fm.blk (by repeat (first | assumption | apply Fm.drew | apply Fz.drew | apply Fq.drew | apply Fm.alloc)) hb2; have hs2 := HS.out _ F2)
           | (go_at_call 58; with_reducible refine (H2.out _ (HC.out _ (by repeat (first | assumption | apply Fm.drew | apply Fz.drew | apply Fq.drew | apply Fm.alloc)))).mono ?_; rintro e w3 ⟨rfl, hb3⟩; have F3 := Fm.blk (by repeat (first | assumption | apply Fm.drew | apply Fz.drew | apply Fq.drew | apply Fm.alloc)) hb3; have hs3 := HS.out _ F3)
           | (go_at_call 36; with_reducible refine (H3.out _ (HC.out _ (by repeat (first | assumption | apply Fm.drew | apply Fz.drew | apply Fq.drew | apply Fm.alloc)))).mono ?_; rintro e w4 ⟨rfl, hb4⟩; have F4 := Fm.blk (by repeat (first | assumption | apply Fm.drew | apply Fz.drew | apply Fq.drew | apply Fm.alloc)) hb4; have hs4 := HS.out _ F4)))
    | fail
    rw [← hL1] at F4
    clear hS0
    have s4 := fun q => ptStore_run (c := q) (F4.get 1 rfl)
    have F9 := F4.put 1 (ptL T3.zero).toArray rfl
    go_wp2
    exact bodyPost_ret (results_pt_tmp Tryd.results19 rfl rfl (F9.get 1 rfl)) rfl ⟨rfl, F9.bel⟩
end Go.Proofs.YtmjenhilafdioaaDoor

/- pointOf: ok. -/
namespace Go.Proofs.YtmjenhilafdioaaDoor
set_option linter.unusedVariables false
set_option linter.unusedSimpArgs false
open Go.RowKit N
attribute [local go_sem ↓] N.loadAt_nat N.storeAt_nat N.build_nat N.build_nat' loadAt_pt storeAt_pt build_pt0 build_pt0' build_pt'
attribute [local go_sem] N.st1 N.st2a N.st2b N.st1d N.st2ad N.st2bd N.natBuild_run ptst1 ptst1d ptBuild0_run build_pt ptBuild_run
attribute [local go_sem ↓] bin_nat bin_pt
set_option maxRecDepth 100000 in
set_option maxHeartbeats 2000000 in
theorem pof_ok {c mp mn : Nat} (s : ByteArray) (W : World) (C : Cv W c mp mn) (h : s.size = 64) (h1 : hiN s < pP) (h2 : loN s < pP) (h3 : onN (hiN s) (loN s) = true) :
    Calls Tryd.prog 19 #[boxM c, .string s] W fun e w' => e = .returned (.tuple #[.agg (ptL ⟨hiN s, loN s, 1⟩).toArray, .bool true]) ∧ Below W.heap.size W w' := by
  have he : s.toList.isEmpty = false := by
    rw [Bool.eq_false_iff]
    intro e
    have : s.size = 0 := by rw [← size_list, ← ByteArray.toList_eq, List.isEmpty_iff.1 e]; rfl
    omega
  have he2 : ((s.size : Int) != 64) = false := by simp; omega
  have hi1 : (32 : Int) ≤ (s.size : Int) := by omega
  have hi2 : (0 : Int) ≤ (s.size : Int) := by omega
  have HX := Hid.mk (numberOf_in (s.extract 0 32) (by rw [ByteArray.size_extract]; omega))
  have HY := Hid.mk (numberOf_in (s.extract 32 s.size) (by rw [ByteArray.size_extract]; omega))
  have hxl : hiN s < N.Lim := numB_32 _ (by rw [ByteArray.size_extract]; omega)
  have hyl : loN s < N.Lim := numB_32 _ (by rw [ByteArray.size_extract]; omega)
  have HSm := Hid.mk (N.small_in 1 (by omega))
  rw [show N.numB (s.extract 0 32).data.toList = hiN s from rfl] at HX
  rw [show N.numB (s.extract 32 s.size).data.toList = loN s from rfl] at HY
  generalize hiN s = x at *
  generalize loN s = y at *
  clear h
  have hzp := zeroPt
  obtain ⟨V, hV, F⟩ : ∃ V, (W.alloc (Obj.cells (ptL (T3.zero)).toArray 41 (0, 0))) = V ∧ Fm W [(W.heap.size, Obj.cells (ptL (T3.zero)).toArray 41 (0, 0))] V := ⟨_, rfl, Fm.box1 W _⟩
  obtain ⟨L, hL⟩ : ∃ L : List (Nat × Obj), [(W.heap.size, Obj.cells (ptL (T3.zero)).toArray 41 (0, 0))] = L := ⟨_, rfl⟩
  rw [hL] at F
  obtain ⟨sx, hsx⟩ : ∃ t, s.extract 0 32 = t := ⟨_, rfl⟩
  obtain ⟨sy, hsy⟩ : ∃ t, s.extract 32 s.size = t := ⟨_, rfl⟩
  rw [hsx] at HX
  rw [hsy] at HY
  have H1 : Hid (∀ w, Fm W L w → Calls Tryd.prog 29 #[.string sx] w fun e w' => e = .returned (.agg (N.natL x).toArray) ∧ Below w.heap.size w w') := fun w _ => HX.out w
  have H2 : Hid (∀ w, Fm W L w → Calls Tryd.prog 29 #[.string sy] w fun e w' => e = .returned (.agg (N.natL y).toArray) ∧ Below w.heap.size w w') := fun w _ => HY.out w
  have H3 : Hid (∀ w, Fm W L w → Calls Tryd.prog 11 #[.int .u64 1] w fun e w' => e = .returned (.agg (N.natL 1).toArray) ∧ Below w.heap.size w w') := fun w _ => HSm.out w
  have HS : Hid (∀ w, Fm W L w → Fm W L w ∧ True) := fun w h => ⟨h, trivial⟩
  clear HX HY HSm
  go_enter Tryd.func19, Tryd.ntmps19
  go_upto_region 5 with fail
  clear hV
  have hS0 := HS.out _ F
  go_cut [6] (fun s6 wx => ∃ b, s6 = .pointer (some ⟨b, 0, none⟩) ∧ Fm W ((b, Obj.cells (ptL (⟨x, y, 1⟩)).toArray 41 (0, 0)) :: L) wx)
  case first =>
    go_region_held3 (fun w => Fm W L w ∧ True)
      (first | assumption | (apply HS.out; repeat (first | assumption | apply Fm.drew | apply Fz.drew | apply Fq.drew | apply Fm.alloc | (apply Fm.setO (V := _); assumption))))
      (first
        | (go_at_call 29; with_reducible refine (H1.out _ (by repeat (first | assumption | apply Fm.drew | apply Fz.drew | apply Fq.drew | apply Fm.alloc))).mono ?_; rintro e w2 ⟨rfl, hb2⟩; have F2 := Fm.blk (by repeat (first | assumption | apply Fm.drew | apply Fz.drew | apply Fq.drew | apply Fm.alloc)) hb2; have hs2 := HS.out _ F2
           first
             | (refine kqN hb2 ?_; rintro ⟨g1, s1⟩)
             | (refine kqM hb2 ?_; rintro ⟨g1, s1⟩)
             | (refine kqO g1 hb2 ?_; rintro ⟨g2, s2⟩; clear g1 s1; have g1 := g2; have s1 := s2; clear g2 s2)
             | skip)
        | (go_at_call 29; with_reducible refine (H2.out _ (by repeat (first | assumption | apply Fm.drew | apply Fz.drew | apply Fq.drew | apply Fm.alloc))).mono ?_; rintro e w3 ⟨rfl, hb3⟩; have F3 := Fm.blk (by repeat (first | assumption | apply Fm.drew | apply Fz.drew | apply Fq.drew | apply Fm.alloc)) hb3; have hs3 := HS.out _ F3
           first
             | (refine kqN hb3 ?_; rintro ⟨g1, s1⟩)
             | (refine kqM hb3 ?_; rintro ⟨g1, s1⟩)
             | (refine kqO g1 hb3 ?_; rintro ⟨g2, s2⟩; clear g1 s1; have g1 := g2; have s1 := s2; clear g2 s2)
             | skip)
        | (go_at_call 11; with_reducible refine (H3.out _ (by repeat (first | assumption | apply Fm.drew | apply Fz.drew | apply Fq.drew | apply Fm.alloc))).mono ?_; rintro e w4 ⟨rfl, hb4⟩; have F4 := Fm.blk (by repeat (first | assumption | apply Fm.drew | apply Fz.drew | apply Fq.drew | apply Fm.alloc)) hb4; have hs4 := HS.out _ F4
           first
             | (refine kqN hb4 ?_; rintro ⟨g1, s1⟩)
             | (refine kqM hb4 ?_; rintro ⟨g1, s1⟩)
             | (refine kqO g1 hb4 ?_; rintro ⟨g2, s2⟩; clear g1 s1; have g1 := g2; have s1 := s2; clear g2 s2)
             | skip))
    all_goals go_wp2
    all_goals go_meet
    all_goals (first
      | exact ⟨_, rfl, Fm.new (by assumption) _⟩
      | exact ⟨_, rfl, Fm.late (by assumption) (by assumption) g1⟩)
  case rest =>
    obtain ⟨b6, rfl, F1⟩ := hcut
    clear hS0 F HS H1 H2 H3
    go_upto_region 6 with fail
    rw [← hL] at F1
    clear hL
    have H1 : Hid (∀ w, Cv w c mp mn → Calls Tryd.prog 58 #[boxM mp, .agg (N.natL x).toArray] w fun e w' => e = .returned (.bool true) ∧ Below w.heap.size w w') := fun w h => (pBelow h hxl).mono fun e w' ⟨he, hb⟩ => ⟨by rw [he, decide_eq_true h1], hb⟩
    have H2 : Hid (∀ w, Cv w c mp mn → Calls Tryd.prog 58 #[boxM mp, .agg (N.natL y).toArray] w fun e w' => e = .returned (.bool true) ∧ Below w.heap.size w w') := fun w h => (pBelow h hyl).mono fun e w' ⟨he, hb⟩ => ⟨by rw [he, decide_eq_true h2], hb⟩
    have H3 : Hid (∀ w, Cv w c mp mn → Calls Tryd.prog 36 #[boxM c, .agg (N.natL x).toArray, .agg (N.natL y).toArray] w fun e w' => e = .returned (.bool true) ∧ Below w.heap.size w w') := fun w h => (on_in x y w h h1 h2).mono fun e w' ⟨he, hb⟩ => ⟨by rw [he, h3], hb⟩
    clear h1 hxl hyl h2 h3
    obtain ⟨L1, hL1⟩ : ∃ L : List (Nat × Obj), [(b6, Obj.cells (ptL (⟨x, y, 1⟩)).toArray 41 (0, 0)), (W.heap.size, Obj.cells (ptL (T3.zero)).toArray 41 (0, 0))] = L := ⟨_, rfl⟩
    rw [hL1] at F1
    have HS : Hid (∀ w, Fm W L1 w → Fm W L1 w ∧ (N.natLoad (.pointer (some ⟨b6, 0, none⟩))).run Tryd.prog w = .ok (.agg (N.natL x).toArray) w ∧ (N.natLoad (.pointer (some ⟨b6, 129, none⟩))).run Tryd.prog w = .ok (.agg (N.natL y).toArray) w ∧ w.cell? ⟨c, 0, none⟩ = some (fnM 58 mp)) := fun w h => ⟨h, ptX (a := ⟨x, y, 1⟩) (h.get 0 (by rw [← hL1]; rfl)), ptY (a := ⟨x, y, 1⟩) (h.get 0 (by rw [← hL1]; rfl)), (h.cv C).fn 0 rfl⟩
    have HC : Hid (∀ w, Fm W L1 w → Cv w c mp mn) := fun w h => h.cv C
    have hS0 := HS.out _ F1
    first
    | (skip
       go_region_held3 (fun w => Fm W L1 w ∧ (N.natLoad (.pointer (some ⟨b6, 0, none⟩))).run Tryd.prog w = .ok (.agg (N.natL x).toArray) w ∧ (N.natLoad (.pointer (some ⟨b6, 129, none⟩))).run Tryd.prog w = .ok (.agg (N.natL y).toArray) w ∧ w.cell? ⟨c, 0, none⟩ = some (fnM 58 mp))
         (first | assumption | (apply HS.out; repeat (first | assumption | apply Fm.drew | apply Fz.drew | apply Fq.drew | apply Fm.alloc)))
         (first
           | (go_at_call 58; with_reducible refine (H1.out _ (HC.out _ (by repeat (first | assumption | apply Fm.drew | apply Fz.drew | apply Fq.drew | apply Fm.alloc)))).mono ?_; rintro e w2 ⟨rfl, hb2⟩; have F2 := Fm.blk (by repeat (first | assumption | apply Fm.drew | apply Fz.drew | apply Fq.drew | apply Fm.alloc)) hb2; have hs2 := HS.out _ F2)
           | (go_at_call 58; with_reducible refine (H2.out _ (HC.out _ (by repeat (first | assumption | apply Fm.drew | apply Fz.drew | apply Fq.drew | apply Fm.alloc)))).mono ?_; rintro e w3 ⟨rfl, hb3⟩; have F3 := Fm.blk (by repeat (first | assumption | apply Fm.drew | apply Fz.drew | apply Fq.drew | apply Fm.alloc)) hb3; have hs3 := HS.out _ F3)
           | (go_at_call 36; with_reducible refine (H3.out _ (HC.out _ (by repeat (first | assumption | apply Fm.drew | apply Fz.drew | apply Fq.drew | apply Fm.alloc)))).mono ?_; rintro e w4 ⟨rfl, hb4⟩; have F4 := Fm.blk (by repeat (first | assumption | apply Fm.drew | apply Fz.drew | apply Fq.drew | apply Fm.alloc)) hb4; have hs4 := HS.out _ F4)))
    | fail
    rw [← hL1] at F4
    clear hS0
    have l6 := ptLoad_run (F4.get 0 rfl)
    have s4 := fun q => ptStore_run (c := q) (F4.get 1 rfl)
    have F9 := F4.put 1 (ptL ⟨x, y, 1⟩).toArray rfl
    go_wp2
    exact bodyPost_ret (results_pt_tmp Tryd.results19 rfl rfl (F9.get 1 rfl)) rfl ⟨rfl, F9.bel⟩
end Go.Proofs.YtmjenhilafdioaaDoor

/- pointOf. -/
namespace Go.Proofs.YtmjenhilafdioaaDoor
set_option linter.unusedVariables false
set_option linter.unusedSimpArgs false
open Go.RowKit N
attribute [local go_sem ↓] N.loadAt_nat N.storeAt_nat N.build_nat N.build_nat' loadAt_pt storeAt_pt build_pt0 build_pt0' build_pt'
attribute [local go_sem] N.st1 N.st2a N.st2b N.st1d N.st2ad N.st2bd N.natBuild_run ptst1 ptst1d ptBuild0_run build_pt ptBuild_run
attribute [local go_sem ↓] bin_nat bin_pt
theorem pointOf_in {c mp mn : Nat} (s : ByteArray) (W : World) (C : Cv W c mp mn) :
    Calls Tryd.prog 19 #[boxM c, .string s] W fun e w' => e = .returned (.tuple #[.agg (ptL (ptOf s).1).toArray, .bool (ptOf s).2]) ∧ Below W.heap.size W w' := by
  unfold ptOf
  by_cases h : s.size = 0
  · rw [if_pos h]; exact pof_0 s W C h
  · rw [if_neg h]
    by_cases h2 : s.size = 64
    · rw [if_neg (not_not_intro h2)]
      by_cases h3 : hiN s < pP
      · rw [if_pos h3]
        by_cases h4 : loN s < pP
        · rw [if_pos h4]
          by_cases h5 : onN (hiN s) (loN s) = true
          · rw [if_pos h5]; exact pof_ok s W C h2 h3 h4 h5
          · rw [if_neg h5]; exact pof_xon s W C h2 h3 h4 (by simpa using h5)
        · rw [if_neg h4]; exact pof_xy s W C h2 h3 h4
      · rw [if_neg h3]; exact pof_xx s W C h2 h3
    · rw [if_pos h2]; exact pof_n s W C h h2
end Go.Proofs.YtmjenhilafdioaaDoor
