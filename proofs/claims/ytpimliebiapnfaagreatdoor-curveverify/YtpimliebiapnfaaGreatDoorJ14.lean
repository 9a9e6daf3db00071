/- Texts of this proof, joined: COn, CP256, CPofA, CPofxx. -/
import Derived.Test.YtpimliebiapnfaaGreatDoorJ13
/- on. -/
namespace Go.Proofs.YtpimliebiapnfaaGreatDoor
set_option linter.unusedVariables false
set_option linter.unusedSimpArgs false
open Go.RowKit N
attribute [local go_sem ↓] N.loadAt_nat N.storeAt_nat N.build_nat N.build_nat' loadAt_pt storeAt_pt build_pt0 build_pt0' build_pt'
attribute [local go_sem] N.st1 N.st2a N.st2b N.st1d N.st2ad N.st2bd N.natBuild_run ptst1 ptst1d ptBuild0_run build_pt ptBuild_run
attribute [local go_sem ↓] bin_nat bin_pt
def onN (x y : Nat) : Bool := decide (mtimes y y = mplus (mminus (mtimes x (mtimes x x)) (mtimes x 3)) bP)
set_option maxRecDepth 100000 in
set_option maxHeartbeats 2000000 in
theorem on_in {c mp mn : Nat} (x y : Nat) (W : World) (C : Cv W c mp mn) (hx : x < pP) (hy : y < pP) :
    Calls Tryz.prog 46 #[boxM c, .agg (N.natL x).toArray, .agg (N.natL y).toArray] W fun e w' => e = .returned (.bool (onN x y)) ∧ Below W.heap.size W w' := by
  obtain ⟨x2, E_x2⟩ : ∃ R, Hid (mtimes x x = R) := ⟨_, Hid.mk rfl⟩
  have b_x2 : x2 < pP := by rw [← E_x2.out]; exact mtimes_lt _ _
  obtain ⟨x3, E_x3⟩ : ∃ R, Hid (mtimes x x2 = R) := ⟨_, Hid.mk rfl⟩
  have b_x3 : x3 < pP := by rw [← E_x3.out]; exact mtimes_lt _ _
  obtain ⟨y2, E_y2⟩ : ∃ R, Hid (mtimes y y = R) := ⟨_, Hid.mk rfl⟩
  have b_y2 : y2 < pP := by rw [← E_y2.out]; exact mtimes_lt _ _
  obtain ⟨t3, E_t3⟩ : ∃ R, Hid (mtimes x 3 = R) := ⟨_, Hid.mk rfl⟩
  have b_t3 : t3 < pP := by rw [← E_t3.out]; exact mtimes_lt _ _
  obtain ⟨d1, E_d1⟩ : ∃ R, Hid (mminus x3 t3 = R) := ⟨_, Hid.mk rfl⟩
  have b_d1 : d1 < pP := by rw [← E_d1.out]; exact mminus_lt b_x3 b_t3
  obtain ⟨r, E_r⟩ : ∃ R, Hid (mplus d1 bP = R) := ⟨_, Hid.mk rfl⟩
  have b_r : r < pP := by rw [← E_r.out]; exact mplus_lt b_d1 (show bP < pP by decide)
  have hfin : onN x y = decide (y2 = r) := by unfold onN; rw [E_x2.out, E_x3.out, E_y2.out, E_t3.out, E_d1.out, E_r.out]
  rw [hfin]
  clear hfin
  have HE : Hid (∀ w, (natEqV (.agg (N.natL y2).toArray) (.agg (N.natL r).toArray)).run Tryz.prog w = .ok (.bool (decide (y2 = r))) w) := fun w => eqNat w y2 r (lim_p b_y2) (lim_p b_r)
  generalize decide (y2 = r) = D at HE ⊢
  have HSm := Hid.mk (N.small_in 3 (by omega))
  have hz := N.zero26
  obtain ⟨V, hV, F⟩ : ∃ V, ((W.alloc (Obj.cells (N.natL x).toArray 38 (0, 0))).alloc (Obj.cells (N.natL y).toArray 38 (0, 0))) = V ∧ Fm W [(W.heap.size + 1, Obj.cells (N.natL y).toArray 38 (0, 0)), (W.heap.size, Obj.cells (N.natL x).toArray 38 (0, 0))] V := ⟨_, rfl, Fm.box2 W _ _⟩
  have c3 := (F.cv C).fn 3 rfl
  have c4 := (F.cv C).fn 4 rfl
  have c5 := (F.cv C).fn 5 rfl
  go_enter Tryz.func46, Tryz.ntmps46
  go_upto_region 1 with fail
  go_region
  go_upto_region 2 with fail
  replace F := F.drew
  generalize V.drew = v0 at F ⊢
  clear hV c3 c4 c5
  obtain ⟨L, hL⟩ : ∃ L : List (Nat × Obj), [(W.heap.size + 1, Obj.cells (N.natL y).toArray 38 (0, 0)), (W.heap.size, Obj.cells (N.natL x).toArray 38 (0, 0))] = L := ⟨_, rfl⟩
  rw [hL] at F
  have HS : Hid (∀ w, Fm W L w → Fm W L w ∧ (N.natLoad (.pointer (some ⟨W.heap.size, 0, none⟩))).run Tryz.prog w = .ok (.agg (N.natL x).toArray) w) := fun w h => ⟨h, N.natLoad_run (h.get 1 (by rw [← hL]; rfl))⟩
  have H1 : Hid (∀ w, Fm W L w → Calls Tryz.prog 86 #[boxM mp, .agg (N.natL x).toArray, .agg (N.natL x).toArray] w fun e w' => e = .returned (.agg (N.natL x2).toArray) ∧ Below w.heap.size w w') := fun w h => (pTimes (h.cv C) hx hx).mono fun e w' ⟨he, hb⟩ => ⟨by rw [he, E_x2.out], hb⟩
  have H2 : Hid (∀ w, Fm W L w → Calls Tryz.prog 86 #[boxM mp, .agg (N.natL x).toArray, .agg (N.natL x2).toArray] w fun e w' => e = .returned (.agg (N.natL x3).toArray) ∧ Below w.heap.size w w') := fun w h => (pTimes (h.cv C) hx b_x2).mono fun e w' ⟨he, hb⟩ => ⟨by rw [he, E_x3.out], hb⟩
  have hS0 := HS.out _ F
  go_cut [10] (fun s wx => ∃ b, s = .pointer (some ⟨b, 0, none⟩) ∧ Fm W ((b, Obj.cells (N.natL x3).toArray 38 (0, 0)) :: L) wx)
  case first =>
    go_region_held3 (fun w => Fm W L w ∧ (N.natLoad (.pointer (some ⟨W.heap.size, 0, none⟩))).run Tryz.prog w = .ok (.agg (N.natL x).toArray) w)
      (first | assumption | (apply HS.out; repeat (first | assumption | apply Fm.drew | apply Fz.drew | apply Fq.drew | apply Fm.alloc | (apply Fm.setO (V := _); assumption))))
      (first
        | (go_at_call 86; with_reducible refine (H2.out _ (by repeat (first | assumption | apply Fm.drew | apply Fz.drew | apply Fq.drew | apply Fm.alloc))).mono ?_; rintro e w3 ⟨rfl, hb3⟩; have F3 := Fm.blk (by repeat (first | assumption | apply Fm.drew | apply Fz.drew | apply Fq.drew | apply Fm.alloc)) hb3; have hs3 := HS.out _ F3
           first
             | (refine kpN hb3 ?_; rintro ⟨g1, s1⟩)
             | (refine kpM hb3 ?_; rintro ⟨g1, s1⟩)
             | (refine kpO g1 hb3 ?_; rintro ⟨g2, s2⟩; clear g1 s1; have g1 := g2; have s1 := s2; clear g2 s2)
             | skip)
        | (go_at_call 86; with_reducible refine (H1.out _ (by repeat (first | assumption | apply Fm.drew | apply Fz.drew | apply Fq.drew | apply Fm.alloc))).mono ?_; rintro e w2 ⟨rfl, hb2⟩; have F2 := Fm.blk (by repeat (first | assumption | apply Fm.drew | apply Fz.drew | apply Fq.drew | apply Fm.alloc)) hb2; have hs2 := HS.out _ F2
           first
             | (refine kpN hb2 ?_; rintro ⟨g1, s1⟩)
             | (refine kpM hb2 ?_; rintro ⟨g1, s1⟩)
             | (refine kpO g1 hb2 ?_; rintro ⟨g2, s2⟩; clear g1 s1; have g1 := g2; have s1 := s2; clear g2 s2)
             | skip))
    all_goals go_wp2
    all_goals go_meet
    all_goals (first
      | exact ⟨_, rfl, Fm.new (by assumption) _⟩
      | exact ⟨_, rfl, Fm.late (by assumption) (by assumption) g1⟩)
  case rest =>
    obtain ⟨b10, rfl, F1⟩ := hcut
    rw [← hL] at F1
    clear hS0 F HS hL H1 H2
    go_upto_region 3 with fail
    obtain ⟨L1, hL1⟩ : ∃ L : List (Nat × Obj), [(b10, Obj.cells (N.natL x3).toArray 38 (0, 0)), (W.heap.size + 1, Obj.cells (N.natL y).toArray 38 (0, 0)), (W.heap.size, Obj.cells (N.natL x).toArray 38 (0, 0))] = L := ⟨_, rfl⟩
    rw [hL1] at F1
    have HS : Hid (∀ w, Fm W L1 w → Fm W L1 w ∧ (N.natLoad (.pointer (some ⟨W.heap.size + 1, 0, none⟩))).run Tryz.prog w = .ok (.agg (N.natL y).toArray) w ∧ (N.natLoad (.pointer (some ⟨W.heap.size, 0, none⟩))).run Tryz.prog w = .ok (.agg (N.natL x).toArray) w ∧ (N.natLoad (.pointer (some ⟨b10, 0, none⟩))).run Tryz.prog w = .ok (.agg (N.natL x3).toArray) w ∧ (N.natLoad (.pointer (some ⟨c, 12, none⟩))).run Tryz.prog w = .ok (.agg (N.natL bP).toArray) w ∧ (natEqV (.agg (N.natL y2).toArray) (.agg (N.natL r).toArray)).run Tryz.prog w = .ok (.bool D) w) := fun w h => ⟨h, N.natLoad_run (h.get 1 (by rw [← hL1]; rfl)), N.natLoad_run (h.get 2 (by rw [← hL1]; rfl)), N.natLoad_run (h.get 0 (by rw [← hL1]; rfl)), (h.cv C).b, HE.out w⟩
    have H1 : Hid (∀ w, Fm W L1 w → Calls Tryz.prog 86 #[boxM mp, .agg (N.natL y).toArray, .agg (N.natL y).toArray] w fun e w' => e = .returned (.agg (N.natL y2).toArray) ∧ Below w.heap.size w w') := fun w h => (pTimes (h.cv C) hy hy).mono fun e w' ⟨he, hb⟩ => ⟨by rw [he, E_y2.out], hb⟩
    have H3 : Hid (∀ w, Fm W L1 w → Calls Tryz.prog 86 #[boxM mp, .agg (N.natL x).toArray, .agg (N.natL 3).toArray] w fun e w' => e = .returned (.agg (N.natL t3).toArray) ∧ Below w.heap.size w w') := fun w h => (pTimes (h.cv C) hx (show 3 < pP by decide)).mono fun e w' ⟨he, hb⟩ => ⟨by rw [he, E_t3.out], hb⟩
    have H4 : Hid (∀ w, Fm W L1 w → Calls Tryz.prog 85 #[boxM mp, .agg (N.natL x3).toArray, .agg (N.natL t3).toArray] w fun e w' => e = .returned (.agg (N.natL d1).toArray) ∧ Below w.heap.size w w') := fun w h => (pMinus (h.cv C) b_x3 b_t3).mono fun e w' ⟨he, hb⟩ => ⟨by rw [he, E_d1.out], hb⟩
    have H5 : Hid (∀ w, Fm W L1 w → Calls Tryz.prog 84 #[boxM mp, .agg (N.natL d1).toArray, .agg (N.natL bP).toArray] w fun e w' => e = .returned (.agg (N.natL r).toArray) ∧ Below w.heap.size w w') := fun w h => (pPlus (h.cv C) b_d1 (show bP < pP by decide)).mono fun e w' ⟨he, hb⟩ => ⟨by rw [he, E_r.out], hb⟩
    have H2 : Hid (∀ w, Fm W L1 w → Calls Tryz.prog 45 #[.int .u64 3] w fun e w' => e = .returned (.agg (N.natL 3).toArray) ∧ Below w.heap.size w w') := fun w _ => HSm.out w
    have hS0 := HS.out _ F1
    go_region_held3 (fun w => Fm W L1 w ∧ (N.natLoad (.pointer (some ⟨W.heap.size + 1, 0, none⟩))).run Tryz.prog w = .ok (.agg (N.natL y).toArray) w ∧ (N.natLoad (.pointer (some ⟨W.heap.size, 0, none⟩))).run Tryz.prog w = .ok (.agg (N.natL x).toArray) w ∧ (N.natLoad (.pointer (some ⟨b10, 0, none⟩))).run Tryz.prog w = .ok (.agg (N.natL x3).toArray) w ∧ (N.natLoad (.pointer (some ⟨c, 12, none⟩))).run Tryz.prog w = .ok (.agg (N.natL bP).toArray) w ∧ (natEqV (.agg (N.natL y2).toArray) (.agg (N.natL r).toArray)).run Tryz.prog w = .ok (.bool D) w)
      (first | assumption | (apply HS.out; repeat (first | assumption | apply Fm.drew | apply Fz.drew | apply Fq.drew | apply Fm.alloc)))
      (first
        | (go_at_call 84; with_reducible refine (H5.out _ (by repeat (first | assumption | apply Fm.drew | apply Fz.drew | apply Fq.drew | apply Fm.alloc))).mono ?_; rintro e w6 ⟨rfl, hb6⟩; have F6 := Fm.blk (by repeat (first | assumption | apply Fm.drew | apply Fz.drew | apply Fq.drew | apply Fm.alloc)) hb6; have hs6 := HS.out _ F6)
        | (go_at_call 85; with_reducible refine (H4.out _ (by repeat (first | assumption | apply Fm.drew | apply Fz.drew | apply Fq.drew | apply Fm.alloc))).mono ?_; rintro e w5 ⟨rfl, hb5⟩; have F5 := Fm.blk (by repeat (first | assumption | apply Fm.drew | apply Fz.drew | apply Fq.drew | apply Fm.alloc)) hb5; have hs5 := HS.out _ F5)
        | (go_at_call 86; with_reducible refine (H3.out _ (by repeat (first | assumption | apply Fm.drew | apply Fz.drew | apply Fq.drew | apply Fm.alloc))).mono ?_; rintro e w4 ⟨rfl, hb4⟩; have F4 := Fm.blk (by repeat (first | assumption | apply Fm.drew | apply Fz.drew | apply Fq.drew | apply Fm.alloc)) hb4; have hs4 := HS.out _ F4)
        | (go_at_call 45; with_reducible refine (H2.out _ (by repeat (first | assumption | apply Fm.drew | apply Fz.drew | apply Fq.drew | apply Fm.alloc))).mono ?_; rintro e w3 ⟨rfl, hb3⟩; have F3 := Fm.blk (by repeat (first | assumption | apply Fm.drew | apply Fz.drew | apply Fq.drew | apply Fm.alloc)) hb3; have hs3 := HS.out _ F3)
        | (go_at_call 86; with_reducible refine (H1.out _ (by repeat (first | assumption | apply Fm.drew | apply Fz.drew | apply Fq.drew | apply Fm.alloc))).mono ?_; rintro e w2 ⟨rfl, hb2⟩; have F2 := Fm.blk (by repeat (first | assumption | apply Fm.drew | apply Fz.drew | apply Fq.drew | apply Fm.alloc)) hb2; have hs2 := HS.out _ F2))
    go_wp2
    go_ret
    exact ⟨rfl, F6.bel⟩
end Go.Proofs.YtpimliebiapnfaaGreatDoor
/- reckoningOf, p256. -/
namespace Go.Proofs.YtpimliebiapnfaaGreatDoor
set_option linter.unusedVariables false
set_option linter.unusedSimpArgs false
open Go.RowKit N
attribute [local go_sem ↓] N.loadAt_nat N.storeAt_nat N.build_nat N.build_nat' loadAt_pt storeAt_pt build_pt0 build_pt0' build_pt'
attribute [local go_sem] N.st1 N.st2a N.st2b N.st1d N.st2ad N.st2bd N.natBuild_run ptst1 ptst1d ptBuild0_run build_pt ptBuild_run
def modStore (a x : Value) : Sem Unit := Instr.storeAt 117 a x
theorem storeAt_mod (a x : Value) : Instr.storeAt 117 a x = modStore a x := rfl
theorem sizeMod : (Tryz.prog.info? 117).map (·.size) = some 129 := by kernel_rfl
theorem zeroMod (W : World) : (zeroValue 117).run Tryz.prog W = .ok (.agg (N.natL 0).toArray) W := by
  rw [N.natZ]
  kernel_rfl
theorem modst1 (w : World) (n m : Nat) : (modStore (.pointer (some ⟨w.heap.size, 0, none⟩)) (.agg (N.natL n).toArray)).run Tryz.prog (w.alloc (.cells (N.natL m).toArray 117)) = .ok () (w.alloc (.cells (N.natL n).toArray 117)) := by
  unfold modStore
  simp only [Instr.storeAt, Instr.sureAddr, Sem.run_bind, Sem.run_pure, Result.andThen]
  rw [run_storeVar_row (w.alloc (.cells (N.natL m).toArray 117)) w.heap.size _ _ _ _ (N.heap_new _ _) (by rw [List.size_toArray, N.natL_len]; exact sizeMod) (by rw [List.size_toArray, List.size_toArray, N.natL_len, N.natL_len]) (by simpa using N.natL_cells n), N.setRow_new]
def modBuild (p : Nat × Value) : Sem Value := Instr.build 117 #[p]
theorem build_mod' (f : Nat × Operand → Nat × Value) (x : Nat × Operand) : Instr.build 117 (Array.map f #[x]) = modBuild (f x) := by simp [modBuild]
set_option maxRecDepth 100000 in
theorem modBuild_run (x : Nat) (W : World) : (modBuild (0, .agg (N.natL x).toArray)).run Tryz.prog W = .ok (.agg (N.natL x).toArray) W := by
  have hf : Instr.fill (fun i => (#[(0, 129)] : Array (Nat × Nat))[i]?) (N.natL 0).toArray [(0, .agg (N.natL x).toArray)] = some (N.natL x).toArray := by
    have n0 := N.natL_len 0
    have nx := N.natL_len x
    have f0 := fold_mid [] (N.natL 0) [] (N.natL x) (by rw [nx, n0]) 0 rfl
    simp only [List.nil_append, List.append_nil] at f0
    unfold Instr.fill
    simp only [Value.cells, List.getElem?_cons_zero, List.size_toArray, List.getElem?_toArray]
    rw [if_neg (by simp [n0, nx]), f0]
    unfold Instr.fill
    rfl
  unfold modBuild Instr.build
  have hu : Tryz.prog.underlying 117 = some (.struct (Tryz.prog.fieldsOf 117)) := by kernel_rfl
  have hp : (((Tryz.prog.fieldsOf 117).mapM fun f => do pure (f.offset, ← sizeOf f.type)) : Sem (Array (Nat × Nat))).run Tryz.prog W = .ok #[(0, 129)] W := by kernel_rfl
  simp only [Sem.run_bind, zeroMod, Result.andThen_ok, run_underlying hu]
  rw [hp]
  simp only [Result.andThen_ok]
  rw [show Value.cells (.agg (N.natL 0).toArray) = (N.natL 0).toArray from rfl]
  simp only [hf]
  rfl
def cvBuild (p q r : Nat × Value) : Sem Value := Instr.build 77 #[p, q, r]
theorem build_cv' (f : Nat × Operand → Nat × Value) (x y z : Nat × Operand) : Instr.build 77 (Array.map f #[x, y, z]) = cvBuild (f x) (f y) (f z) := by simp [cvBuild]
theorem zeroCv (W : World) : (zeroValue 77).run Tryz.prog W = .ok (.agg (List.replicate 6 Value.nilFunc ++ List.replicate 6 Value.nilFunc ++ N.natL 0).toArray) W := by
  rw [N.natZ]
  kernel_rfl
set_option maxRecDepth 100000 in
theorem cvBuild_run (mp mn : Nat) (W : World) : (cvBuild (0, .agg (rkL mp).toArray) (1, .agg (rkL mn).toArray) (2, .agg (N.natL bP).toArray)).run Tryz.prog W = .ok (.agg (cvL mp mn).toArray) W := by
  have hf : Instr.fill (fun i => (#[(0, 6), (6, 6), (12, 129)] : Array (Nat × Nat))[i]?) (List.replicate 6 Value.nilFunc ++ List.replicate 6 Value.nilFunc ++ N.natL 0).toArray [(0, .agg (rkL mp).toArray), (1, .agg (rkL mn).toArray), (2, .agg (N.natL bP).toArray)] = some (cvL mp mn).toArray := by
    unfold cvL
    have n0 := N.natL_len 0
    have nx := N.natL_len bP
    have r1 : (rkL mp).length = 6 := rfl
    have r2 : (rkL mn).length = 6 := rfl
    generalize rkL mp = R1 at r1 ⊢
    generalize rkL mn = R2 at r2 ⊢
    have f0 := fold_mid [] (List.replicate 6 Value.nilFunc) (List.replicate 6 Value.nilFunc ++ N.natL 0) R1 (by rw [r1]; rfl) 0 rfl
    have f1 := fold_mid R1 (List.replicate 6 Value.nilFunc) (N.natL 0) R2 (by rw [r2]; rfl) 6 r1
    have f2 := fold_mid (R1 ++ R2) (N.natL 0) [] (N.natL bP) (by rw [nx, n0]) 12 (by simp [r1, r2])
    rw [show List.replicate 6 Value.nilFunc ++ List.replicate 6 Value.nilFunc ++ N.natL 0 = [] ++ List.replicate 6 Value.nilFunc ++ (List.replicate 6 Value.nilFunc ++ N.natL 0) by rw [List.nil_append, List.append_assoc]]
    unfold Instr.fill
    simp only [Value.cells, List.getElem?_cons_zero, List.size_toArray, List.getElem?_toArray]
    rw [if_neg (by simp [n0, r1]), f0]
    unfold Instr.fill
    simp only [Value.cells, List.getElem?_cons_zero, List.getElem?_cons_succ, List.size_toArray, List.getElem?_toArray]
    rw [if_neg (by simp [n0, r1, r2]), show [] ++ R1 ++ (List.replicate 6 Value.nilFunc ++ N.natL 0) = R1 ++ List.replicate 6 Value.nilFunc ++ N.natL 0 by simp, f1]
    unfold Instr.fill
    simp only [Value.cells, List.getElem?_cons_zero, List.getElem?_cons_succ, List.size_toArray, List.getElem?_toArray]
    rw [if_neg (by simp [n0, r1, r2, nx]), show R1 ++ R2 ++ N.natL 0 = R1 ++ R2 ++ N.natL 0 ++ [] by simp, f2]
    unfold Instr.fill
    simp
  unfold cvBuild Instr.build
  have hu : Tryz.prog.underlying 77 = some (.struct (Tryz.prog.fieldsOf 77)) := by kernel_rfl
  have hp : (((Tryz.prog.fieldsOf 77).mapM fun f => do pure (f.offset, ← sizeOf f.type)) : Sem (Array (Nat × Nat))).run Tryz.prog W = .ok #[(0, 6), (6, 6), (12, 129)] W := by kernel_rfl
  simp only [Sem.run_bind, zeroCv, Result.andThen_ok, run_underlying hu]
  rw [hp]
  simp only [Result.andThen_ok]
  rw [show Value.cells (.agg (List.replicate 6 Value.nilFunc ++ List.replicate 6 Value.nilFunc ++ N.natL 0).toArray) = (List.replicate 6 Value.nilFunc ++ List.replicate 6 Value.nilFunc ++ N.natL 0).toArray from rfl]
  simp only [hf]
  rfl
attribute [local go_sem ↓] storeAt_mod build_mod' build_cv'
attribute [local go_sem] modst1 modBuild_run cvBuild_run
def rkStore (a x : Value) : Sem Unit := Instr.storeAt 74 a x
theorem storeAt_rk (a x : Value) : Instr.storeAt 74 a x = rkStore a x := rfl
theorem sizeRk : (Tryz.prog.info? 74).map (·.size) = some 6 := by kernel_rfl
theorem rkStore_run (m : Nat) {W : World} {b : Nat} {L : Array Value} (h : W.heap[b]? = some (.cells L 74 (0, 0))) (hL : L.size = 6) : (rkStore (.pointer (some ⟨b, 0, none⟩)) (.agg #[fnM 81 m, fnM 82 m, fnM 83 m, fnM 84 m, fnM 85 m, fnM 86 m])).run Tryz.prog W = .ok () (W.setRow b (rkL m).toArray) := by
  unfold rkStore
  simp only [Instr.storeAt, Instr.sureAddr, Sem.run_bind, Sem.run_pure, Result.andThen]
  exact run_storeVar_row W b _ _ _ _ h sizeRk (by rw [hL]; rfl) (by simp [Value.oneCell'])
theorem results_rk {fn : Func} {p : Tmp} (h : fn.results = #[.cell p 74]) {tmps : Array Value} {W : World} {b m : Nat} {fz : Nat × Nat} (hp : tmps.getD p undef = .pointer (some ⟨b, 0, none⟩)) (hb : W.heap[b]? = some (.cells (rkL m).toArray 74 fz)) : (results fn tmps).run Tryz.prog W = .ok (.agg (rkL m).toArray) W := by
  have hp' : tmps[p]?.getD undef = .pointer (some ⟨b, 0, none⟩) := by simpa using hp
  have hl : (loadVar 74 ⟨b, 0, none⟩).run Tryz.prog W = .ok (.agg (rkL m).toArray) W := run_loadVar_row W b _ _ _ fz _ hb Tryz.underlying74 rfl sizeRk
  simp only [results, h]
  simp [hp', asAddr, hl]
attribute [local go_sem ↓] storeAt_rk
theorem mkf (k : Nat) (first caps : Array Value) (w : World) : (Instr.makeFunc (.func k) first caps).run Tryz.prog w = .ok (.func (.func k) first caps) w := rfl
set_option maxRecDepth 100000 in
set_option maxHeartbeats 2000000 in
theorem reckoningOf_in (P : Nat) (W : World) : Calls Tryz.prog 43 #[.agg (N.natL P).toArray] W fun e w' => ∃ m, e = .returned (.agg (rkL m).toArray) ∧ w'.heap[m]? = some (.cells (N.natL P).toArray 117 (0, 0)) ∧ Below W.heap.size W w' := by
  have hz := zeroMod
  have hmf := mkf
  obtain ⟨V, hV, F⟩ : ∃ V, (W.alloc (.cells (N.natL P).toArray 38)).alloc (.cells #[.nilFunc, .nilFunc, .nilFunc, .nilFunc, .nilFunc, .nilFunc] 74) = V ∧ Fm W [(W.heap.size + 1, .cells #[.nilFunc, .nilFunc, .nilFunc, .nilFunc, .nilFunc, .nilFunc] 74), (W.heap.size, .cells (N.natL P).toArray 38)] V := ⟨_, rfl, Fm.box2 W _ _⟩
  have l1 := N.natLoad_run (F.get 1 rfl)
  go_enter Tryz.func43, Tryz.ntmps43
  go_upto_region 2 with fail
  replace F := F.new (.cells (N.natL P).toArray 117)
  generalize V.alloc (.cells (N.natL P).toArray 117) = v1 at F ⊢
  generalize V.heap.size = m at F ⊢
  clear hV l1
  have s2 := rkStore_run m (F.get 1 rfl) rfl
  have F4 := F.put 1 (rkL m).toArray rfl
  go_wp2
  exact bodyPost_ret (results_rk Tryz.results43 rfl (F4.get 1 rfl)) rfl ⟨m, rfl, F4.get 0 rfl, F4.bel⟩
set_option maxRecDepth 100000 in
set_option maxHeartbeats 2000000 in
theorem p256_in (W : World) : Calls Tryz.prog 18 #[] W fun e w' => ∃ c mp mn, e = .returned (boxM c) ∧ Cv w' c mp mn ∧ Below W.heap.size W w' := by
  have HP := Hid.mk (known_in hexP hexPb (by decide) hexP_u (by decide))
  have HN := Hid.mk (known_in hexN hexNb (by decide) hexN_u (by decide))
  have HB := Hid.mk (known_in hexB hexBb (by decide) hexB_u (by decide))
  rw [hexP_n] at HP
  rw [hexN_n] at HN
  rw [hexB_n] at HB
  have HR1 := Hid.mk (reckoningOf_in pP)
  have HR2 := Hid.mk (reckoningOf_in nN)
  generalize hp : pP = p at HP HR1
  generalize hn : nN = n at HN HR2
  generalize hbb : bP = q at HB
  have hcb : ∀ mp mn W, (cvBuild (0, .agg (rkL mp).toArray) (1, .agg (rkL mn).toArray) (2, .agg (N.natL q).toArray)).run Tryz.prog W = .ok (.agg (cvL mp mn).toArray) W := by rw [← hbb]; exact cvBuild_run
  have Hp := Hid.mk hp
  have Hn := Hid.mk hn
  clear hp hn hbb
  have F := Fm.start W
  go_enter Tryz.func18, Tryz.ntmps18
  go_wp2_with fail
  refine (HP.out _).mono ?_
  rintro e u1 ⟨rfl, hb⟩
  replace F := F.blk hb
  clear hb
  go_wp2_with fail
  refine (HR1.out _).mono ?_
  rintro e u2 ⟨mp, rfl, gp, hb⟩
  replace F := F.blk hb
  clear hb
  obtain ⟨R1, h1⟩ : ∃ R, rkL mp = R := ⟨_, rfl⟩
  rw [h1]
  go_wp2_with fail
  refine (HN.out _).mono ?_
  rintro e u3 ⟨rfl, hb⟩
  replace F := F.blk hb
  replace gp := N.blk hb gp
  clear hb
  go_wp2_with fail
  refine (HR2.out _).mono ?_
  rintro e u4 ⟨mn, rfl, gn, hb⟩
  replace F := F.blk hb
  replace gp := N.blk hb gp
  clear hb
  obtain ⟨R2, h2⟩ : ∃ R, rkL mn = R := ⟨_, rfl⟩
  rw [h2]
  go_wp2_with fail
  refine (HB.out _).mono ?_
  rintro e u5 ⟨rfl, hb⟩
  replace F := F.blk hb
  replace gp := N.blk hb gp
  replace gn := N.blk hb gn
  clear hb
  have hcv := hcb mp mn
  rw [h1, h2] at hcv
  clear hcb h1 h2
  go_wp2
  go_ret
  rw [← Hp.out] at gp
  rw [← Hn.out] at gn
  have hA : Below u5.heap.size u5 (u5.alloc (.cells (cvL mp mn).toArray 77)) := (Below.refl _ _).alloc (Nat.le_refl _) _
  exact ⟨_, mp, mn, rfl, ⟨N.heap_new _ _, N.blk hA gp, N.blk hA gn⟩, N.bthen F.bel hA⟩
end Go.Proofs.YtpimliebiapnfaaGreatDoor
/- pointOf. -/
namespace Go.Proofs.YtpimliebiapnfaaGreatDoor
set_option linter.unusedVariables false
set_option linter.unusedSimpArgs false
open Go.RowKit N
attribute [local go_sem ↓] N.loadAt_nat N.storeAt_nat N.build_nat N.build_nat' loadAt_pt storeAt_pt build_pt0 build_pt0' build_pt'
attribute [local go_sem] N.st1 N.st2a N.st2b N.st1d N.st2ad N.st2bd N.natBuild_run ptst1 ptst1d ptBuild0_run build_pt ptBuild_run
attribute [local go_sem ↓] bin_nat bin_pt
noncomputable def hiN (s : ByteArray) : Nat := N.numB (s.extract 0 32).data.toList
noncomputable def loN (s : ByteArray) : Nat := N.numB (s.extract 32 s.size).data.toList
noncomputable def ptOf (s : ByteArray) : T3 × Bool :=
  if s.size = 0 then (T3.zero, true) else if s.size ≠ 64 then (T3.zero, false) else
    if hiN s < pP then if loN s < pP then if onN (hiN s) (loN s) then (⟨hiN s, loN s, 1⟩, true) else (T3.zero, false) else (T3.zero, false) else (T3.zero, false)
theorem results_pt_tmp {fn : Func} {p u : Tmp} (h : fn.results = #[.cell p 40, .tmp u]) {tmps : Array Value} {W : World} {b : Nat} {a : T3} {fz : Nat × Nat} {v : Value} (hp : tmps.getD p undef = .pointer (some ⟨b, 0, none⟩)) (hv : tmps.getD u undef = v) (hb : W.heap[b]? = some (.cells (ptL a).toArray 40 fz)) : (results fn tmps).run Tryz.prog W = .ok (.tuple #[.agg (ptL a).toArray, v]) W := by
  have hp' : tmps[p]?.getD undef = .pointer (some ⟨b, 0, none⟩) := by simpa using hp
  have hv' : tmps[u]?.getD undef = v := by simpa using hv
  simp only [results, h]
  simp [hp', hv', asAddr, pt_loadV hb]
theorem kqN {p : Prop} {V w2 : World} {M : T3} (hb : Below (V.alloc (.cells (ptL M).toArray 40)).drew.heap.size (V.alloc (.cells (ptL M).toArray 40)).drew w2) (k : (w2.heap[V.heap.size]? = some (.cells (ptL M).toArray 40 (0, 0)) ∧
    (∀ v, (ptStore (.pointer (some ⟨V.heap.size, 0, none⟩)) (.agg (ptL v).toArray)).run Tryz.prog w2 = .ok () (w2.setRow V.heap.size (ptL v).toArray))) → p) : p := by
  have g : w2.heap[V.heap.size]? = some (.cells (ptL M).toArray 40 (0, 0)) := (hb.block V.heap.size (by simp)).trans (N.heap_new V _)
  exact k ⟨g, fun v => ptStore_run g⟩
theorem kqM {p : Prop} {V w2 : World} {M : T3} (hb : Below (V.alloc (.cells (ptL M).toArray 40)).heap.size (V.alloc (.cells (ptL M).toArray 40)) w2) (k : (w2.heap[V.heap.size]? = some (.cells (ptL M).toArray 40 (0, 0)) ∧
    (∀ v, (ptStore (.pointer (some ⟨V.heap.size, 0, none⟩)) (.agg (ptL v).toArray)).run Tryz.prog w2 = .ok () (w2.setRow V.heap.size (ptL v).toArray))) → p) : p := by
  have g : w2.heap[V.heap.size]? = some (.cells (ptL M).toArray 40 (0, 0)) := (hb.block V.heap.size (by simp)).trans (N.heap_new V _)
  exact k ⟨g, fun v => ptStore_run g⟩
theorem kqO {p : Prop} {w w2 : World} {b : Nat} {M : T3} (g : w.heap[b]? = some (.cells (ptL M).toArray 40 (0, 0))) (hb : Below w.heap.size w w2) (k : (w2.heap[b]? = some (.cells (ptL M).toArray 40 (0, 0)) ∧
    (∀ v, (ptStore (.pointer (some ⟨b, 0, none⟩)) (.agg (ptL v).toArray)).run Tryz.prog w2 = .ok () (w2.setRow b (ptL v).toArray))) → p) : p := by
  have g2 : w2.heap[b]? = some (.cells (ptL M).toArray 40 (0, 0)) := (hb.block b (N.box_lt g)).trans g
  exact k ⟨g2, fun v => ptStore_run g2⟩
theorem numB_32 (s : ByteArray) (h : s.size ≤ 32) : N.numB s.data.toList < N.Lim := N.lim_big 8 _ (by omega) (by
  have h1 : N.numB s.data.toList < 256 ^ s.data.toList.length := N.numB_lt _
  rw [size_list] at h1
  exact Nat.lt_of_lt_of_le h1 (Nat.le_trans (Nat.pow_le_pow_right (by omega) h) (by decide)))
set_option maxRecDepth 100000 in
set_option maxHeartbeats 2000000 in
theorem pof_0 {c mp mn : Nat} (s : ByteArray) (W : World) (C : Cv W c mp mn) (h : s.size = 0) :
    Calls Tryz.prog 19 #[boxM c, .string s] W fun e w' => e = .returned (.tuple #[.agg (ptL T3.zero).toArray, .bool true]) ∧ Below W.heap.size W w' := by
  have he : s.toList = [] := by rw [ByteArray.toList_eq]; exact List.length_eq_zero_iff.1 (by rw [size_list]; exact h)
  clear h
  have hzp := zeroPt
  obtain ⟨V, hV, F⟩ : ∃ V, (W.alloc (Obj.cells (ptL (T3.zero)).toArray 40 (0, 0))) = V ∧ Fm W [(W.heap.size, Obj.cells (ptL (T3.zero)).toArray 40 (0, 0))] V := ⟨_, rfl, Fm.box1 W _⟩
  have s4 := fun q => ptStore_run (c := q) (F.get 0 rfl)
  have F4 := F.put 0 (ptL T3.zero).toArray rfl
  go_enter Tryz.func19, Tryz.ntmps19
  go_wp2
  exact bodyPost_ret (results_pt_tmp Tryz.results19 rfl rfl (F4.get 0 rfl)) rfl ⟨rfl, F4.bel⟩
set_option maxRecDepth 100000 in
set_option maxHeartbeats 2000000 in
theorem pof_n {c mp mn : Nat} (s : ByteArray) (W : World) (C : Cv W c mp mn) (h : s.size ≠ 0) (h2 : s.size ≠ 64) :
    Calls Tryz.prog 19 #[boxM c, .string s] W fun e w' => e = .returned (.tuple #[.agg (ptL T3.zero).toArray, .bool false]) ∧ Below W.heap.size W w' := by
  have he : s.toList.isEmpty = false := by
    rw [Bool.eq_false_iff]
    intro e
    exact h (by rw [← size_list, ← ByteArray.toList_eq, List.isEmpty_iff.1 e]; rfl)
  have he2 : ((s.size : Int) != 64) = true := by simp; omega
  clear h h2
  have hzp := zeroPt
  obtain ⟨V, hV, F⟩ : ∃ V, (W.alloc (Obj.cells (ptL (T3.zero)).toArray 40 (0, 0))) = V ∧ Fm W [(W.heap.size, Obj.cells (ptL (T3.zero)).toArray 40 (0, 0))] V := ⟨_, rfl, Fm.box1 W _⟩
  have s4 := fun q => ptStore_run (c := q) (F.get 0 rfl)
  have F4 := F.put 0 (ptL T3.zero).toArray rfl
  go_enter Tryz.func19, Tryz.ntmps19
  go_wp2
  exact bodyPost_ret (results_pt_tmp Tryz.results19 rfl rfl (F4.get 0 rfl)) rfl ⟨rfl, F4.bel⟩
end Go.Proofs.YtpimliebiapnfaaGreatDoor
/- pointOf: xx. -/
namespace Go.Proofs.YtpimliebiapnfaaGreatDoor
set_option linter.unusedVariables false
set_option linter.unusedSimpArgs false
open Go.RowKit N
attribute [local go_sem ↓] N.loadAt_nat N.storeAt_nat N.build_nat N.build_nat' loadAt_pt storeAt_pt build_pt0 build_pt0' build_pt'
attribute [local go_sem] N.st1 N.st2a N.st2b N.st1d N.st2ad N.st2bd N.natBuild_run ptst1 ptst1d ptBuild0_run build_pt ptBuild_run
attribute [local go_sem ↓] bin_nat bin_pt
set_option maxRecDepth 100000 in
set_option maxHeartbeats 2000000 in
theorem pof_xx {c mp mn : Nat} (s : ByteArray) (W : World) (C : Cv W c mp mn) (h : s.size = 64) (h1 : ¬ hiN s < pP) :
    Calls Tryz.prog 19 #[boxM c, .string s] W fun e w' => e = .returned (.tuple #[.agg (ptL T3.zero).toArray, .bool false]) ∧ Below W.heap.size W w' := by
  have he : s.toList.isEmpty = false := by
    rw [Bool.eq_false_iff]
    intro e
    have : s.size = 0 := by rw [← size_list, ← ByteArray.toList_eq, List.isEmpty_iff.1 e]; rfl
    omega
  have he2 : ((s.size : Int) != 64) = false := by simp; omega
  have hi1 : (32 : Int) ≤ (s.size : Int) := by omega
  have hi2 : (0 : Int) ≤ (s.size : Int) := by omega
  have HX := Hid.mk (numberOf_in (s.extract 0 32) (by rw [ByteArray.size_extract]; omega))
  have HY := Hid.mk (numberOf_in (s.extract 32 s.size) (by rw [ByteArray.size_extract]; omega))
  have hxl : hiN s < N.Lim := numB_32 _ (by rw [ByteArray.size_extract]; omega)
  have hyl : loN s < N.Lim := numB_32 _ (by rw [ByteArray.size_extract]; omega)
  have HSm := Hid.mk (N.small_in 1 (by omega))
  rw [show N.numB (s.extract 0 32).data.toList = hiN s from rfl] at HX
  rw [show N.numB (s.extract 32 s.size).data.toList = loN s from rfl] at HY
  generalize hiN s = x at *
  generalize loN s = y at *
  clear h
  have hzp := zeroPt
  obtain ⟨V, hV, F⟩ : ∃ V, (W.alloc (Obj.cells (ptL (T3.zero)).toArray 40 (0, 0))) = V ∧ Fm W [(W.heap.size, Obj.cells (ptL (T3.zero)).toArray 40 (0, 0))] V := ⟨_, rfl, Fm.box1 W _⟩
  obtain ⟨L, hL⟩ : ∃ L : List (Nat × Obj), [(W.heap.size, Obj.cells (ptL (T3.zero)).toArray 40 (0, 0))] = L := ⟨_, rfl⟩
  rw [hL] at F
  obtain ⟨sx, hsx⟩ : ∃ t, s.extract 0 32 = t := ⟨_, rfl⟩
  obtain ⟨sy, hsy⟩ : ∃ t, s.extract 32 s.size = t := ⟨_, rfl⟩
  rw [hsx] at HX
  rw [hsy] at HY
  have H1 : Hid (∀ w, Fm W L w → Calls Tryz.prog 30 #[.string sx] w fun e w' => e = .returned (.agg (N.natL x).toArray) ∧ Below w.heap.size w w') := fun w _ => HX.out w
  have H2 : Hid (∀ w, Fm W L w → Calls Tryz.prog 30 #[.string sy] w fun e w' => e = .returned (.agg (N.natL y).toArray) ∧ Below w.heap.size w w') := fun w _ => HY.out w
  have H3 : Hid (∀ w, Fm W L w → Calls Tryz.prog 45 #[.int .u64 1] w fun e w' => e = .returned (.agg (N.natL 1).toArray) ∧ Below w.heap.size w w') := fun w _ => HSm.out w
  have HS : Hid (∀ w, Fm W L w → Fm W L w ∧ True) := fun w h => ⟨h, trivial⟩
  clear HX HY HSm
  go_enter Tryz.func19, Tryz.ntmps19
  go_upto_region 5 with fail
  clear hV
  have hS0 := HS.out _ F
  go_cut [6] (fun s6 wx => ∃ b, s6 = .pointer (some ⟨b, 0, none⟩) ∧ Fm W ((b, Obj.cells (ptL (⟨x, y, 1⟩)).toArray 40 (0, 0)) :: L) wx)
  case first =>
    go_region_held3 (fun w => Fm W L w ∧ True)
      (first | assumption | (apply HS.out; repeat (first | assumption | apply Fm.drew | apply Fz.drew | apply Fq.drew | apply Fm.alloc | (apply Fm.setO (V := _); assumption))))
      (first
        | (go_at_call 30; with_reducible refine (H1.out _ (by repeat (first | assumption | apply Fm.drew | apply Fz.drew | apply Fq.drew | apply Fm.alloc))).mono ?_; rintro e w2 ⟨rfl, hb2⟩; have F2 := Fm.blk (by repeat (first | assumption | apply Fm.drew | apply Fz.drew | apply Fq.drew | apply Fm.alloc)) hb2; have hs2 := HS.out _ F2
           first
             | (refine kqN hb2 ?_; rintro ⟨g1, s1⟩)
             | (refine kqM hb2 ?_; rintro ⟨g1, s1⟩)
             | (refine kqO g1 hb2 ?_; rintro ⟨g2, s2⟩; clear g1 s1; have g1 := g2; have s1 := s2; clear g2 s2)
             | skip)
        | (go_at_call 30; with_reducible refine (H2.out _ (by repeat (first | assumption | apply Fm.drew | apply Fz.drew | apply Fq.drew | apply Fm.alloc))).mono ?_; rintro e w3 ⟨rfl, hb3⟩; have F3 := Fm.blk (by repeat (first | assumption | apply Fm.drew | apply Fz.drew | apply Fq.drew | apply Fm.alloc)) hb3; have hs3 := HS.out _ F3
           first
             | (refine kqN hb3 ?_; rintro ⟨g1, s1⟩)
             | (refine kqM hb3 ?_; rintro ⟨g1, s1⟩)
             | (refine kqO g1 hb3 ?_; rintro ⟨g2, s2⟩; clear g1 s1; have g1 := g2; have s1 := s2; clear g2 s2)
             | skip)
        | (go_at_call 45; with_reducible refine (H3.out _ (by repeat (first | assumption | apply Fm.drew | apply Fz.drew | apply Fq.drew | apply Fm.alloc))).mono ?_; rintro e w4 ⟨rfl, hb4⟩; have F4 := Fm.blk (by repeat (first | assumption | apply Fm.drew | apply Fz.drew | apply Fq.drew | apply Fm.alloc)) hb4; have hs4 := HS.out _ F4
           first
             | (refine kqN hb4 ?_; rintro ⟨g1, s1⟩)
             | (refine kqM hb4 ?_; rintro ⟨g1, s1⟩)
             | (refine kqO g1 hb4 ?_; rintro ⟨g2, s2⟩; clear g1 s1; have g1 := g2; have s1 := s2; clear g2 s2)
             | skip))
    all_goals go_wp2
    all_goals go_meet
    all_goals (first
      | exact ⟨_, rfl, Fm.new (by assumption) _⟩
      | exact ⟨_, rfl, Fm.late (by assumption) (by assumption) g1⟩)
  case rest =>
    obtain ⟨b6, rfl, F1⟩ := hcut
    clear hS0 F HS H1 H2 H3
    go_upto_region 6 with fail
    rw [← hL] at F1
    clear hL
    have H1 : Hid (∀ w, Cv w c mp mn → Calls Tryz.prog 81 #[boxM mp, .agg (N.natL x).toArray] w fun e w' => e = .returned (.bool false) ∧ Below w.heap.size w w') := fun w h => (pBelow h hxl).mono fun e w' ⟨he, hb⟩ => ⟨by rw [he, decide_eq_false h1], hb⟩
    clear h1 hxl hyl
    obtain ⟨L1, hL1⟩ : ∃ L : List (Nat × Obj), [(b6, Obj.cells (ptL (⟨x, y, 1⟩)).toArray 40 (0, 0)), (W.heap.size, Obj.cells (ptL (T3.zero)).toArray 40 (0, 0))] = L := ⟨_, rfl⟩
    rw [hL1] at F1
    have HS : Hid (∀ w, Fm W L1 w → Fm W L1 w ∧ (N.natLoad (.pointer (some ⟨b6, 0, none⟩))).run Tryz.prog w = .ok (.agg (N.natL x).toArray) w ∧ (N.natLoad (.pointer (some ⟨b6, 129, none⟩))).run Tryz.prog w = .ok (.agg (N.natL y).toArray) w ∧ w.cell? ⟨c, 0, none⟩ = some (fnM 81 mp)) := fun w h => ⟨h, ptX (a := ⟨x, y, 1⟩) (h.get 0 (by rw [← hL1]; rfl)), ptY (a := ⟨x, y, 1⟩) (h.get 0 (by rw [← hL1]; rfl)), (h.cv C).fn 0 rfl⟩
    have HC : Hid (∀ w, Fm W L1 w → Cv w c mp mn) := fun w h => h.cv C
    have hS0 := HS.out _ F1
    refine wp_region_held_drew (S := fun w => Fm W L1 w ∧ (N.natLoad (.pointer (some ⟨b6, 0, none⟩))).run Tryz.prog w = .ok (.agg (N.natL x).toArray) w ∧ (N.natLoad (.pointer (some ⟨b6, 129, none⟩))).run Tryz.prog w = .ok (.agg (N.natL y).toArray) w ∧ w.cell? ⟨c, 0, none⟩ = some (fnM 81 mp)) (by kernel_rfl) (HS.out _ F1.drew) (fun hHeld => ?_)
    refine wpAnyH_take (i := 0) (v := ?v0) rfl (by kernel_rfl) (by kernel_rfl) (by kernel_rfl) (fun _ _ _ h => h) (Or.inl ⟨by kernel_rfl, ?hy0⟩) (by assumption) ?_
    case hy0 => (intro w hSw; (try dsimp only at hSw); go_simp; try with_reducible rfl)
    try simp only [Act.put, List.getElem_toArray, List.getElem_cons_succ, List.getElem_cons_zero, List.setIfInBounds_toArray, List.set_cons_zero, List.set_cons_succ]
    refine wpAnyH_take (i := 1) (v := ?v1) rfl (by kernel_rfl) (by kernel_rfl) (by kernel_rfl) (fun _ _ _ h => h) (Or.inl ⟨by kernel_rfl, ?hy1⟩) (by assumption) ?_
    case hy1 => (intro w hSw; (try dsimp only at hSw); go_simp; try with_reducible rfl)
    try simp only [Act.put, List.getElem_toArray, List.getElem_cons_succ, List.getElem_cons_zero, List.setIfInBounds_toArray, List.set_cons_zero, List.set_cons_succ]
    refine wpAnyH_take (i := 2) (v := ?v2) rfl (by kernel_rfl) (by kernel_rfl) (by kernel_rfl) (fun _ _ _ h => h) (Or.inl ⟨by kernel_rfl, ?hy2⟩) (by assumption) ?_
    case hy2 => (intro w hSw; (try dsimp only at hSw); go_simp; try with_reducible rfl)
    try simp only [Act.put, List.getElem_toArray, List.getElem_cons_succ, List.getElem_cons_zero, List.setIfInBounds_toArray, List.set_cons_zero, List.set_cons_succ]
    refine wpAnyH_take (i := 3) (v := ?v3) rfl (by kernel_rfl) (by kernel_rfl) (by kernel_rfl) (fun _ _ _ h => h) (Or.inl ⟨by kernel_rfl, ?hy3⟩) (by assumption) ?_
    case hy3 => (intro w hSw; (try dsimp only at hSw); go_simp; try with_reducible rfl)
    try simp only [Act.put, List.getElem_toArray, List.getElem_cons_succ, List.getElem_cons_zero, List.setIfInBounds_toArray, List.set_cons_zero, List.set_cons_succ]
    refine wpAnyH_take (i := 4) (v := ?v4) rfl (by kernel_rfl) (by kernel_rfl) (by kernel_rfl) (fun _ _ _ h => h) (Or.inl ⟨by kernel_rfl, ?hy4⟩) (by assumption) ?_
    case hy4 => (intro w hSw; (try dsimp only at hSw); go_simp; try with_reducible rfl)
    try simp only [Act.put, List.getElem_toArray, List.getElem_cons_succ, List.getElem_cons_zero, List.setIfInBounds_toArray, List.set_cons_zero, List.set_cons_succ]
    refine wpAnyH_take (i := 5) (v := ?v5) rfl (by kernel_rfl) (by kernel_rfl) (by kernel_rfl) (fun _ _ _ h => h) (Or.inl ⟨by kernel_rfl, ?hy5⟩) (by assumption) ?_
    case hy5 => (intro w hSw; (try dsimp only at hSw); go_simp; try with_reducible rfl)
    try simp only [Act.put, List.getElem_toArray, List.getElem_cons_succ, List.getElem_cons_zero, List.setIfInBounds_toArray, List.set_cons_zero, List.set_cons_succ]
    refine wpAnyH_take (i := 6) (v := ?v6) rfl (by kernel_rfl) (by kernel_rfl) (by kernel_rfl) (fun _ _ _ h => h) (Or.inl ⟨by kernel_rfl, ?hy6⟩) (by assumption) ?_
    case hy6 => (intro w hSw; (try dsimp only at hSw); go_simp; try with_reducible rfl)
    try simp only [Act.put, List.getElem_toArray, List.getElem_cons_succ, List.getElem_cons_zero, List.setIfInBounds_toArray, List.set_cons_zero, List.set_cons_succ]
    refine wpAnyH_ready (rs := [7]) (by kernel_rfl) (by simp) ?_
    refine AllReadyH.cons rfl (fun K hK => ?_) AllReadyH.nil
    go_simp
    go_at_call 81
    with_reducible refine (H1.out _ (HC.out _ (by repeat (first | assumption | apply Fm.drew | apply Fz.drew | apply Fq.drew | apply Fm.alloc)))).mono ?_
    rintro e w2 ⟨rfl, hb2⟩
    have F2 := Fm.blk (by repeat (first | assumption | apply Fm.drew | apply Fz.drew | apply Fq.drew | apply Fm.alloc)) hb2
    have hs2 := HS.out _ F2
    refine hK.out _ _ hs2 (fun hHeld2 => ?_)
    clear hK K
    try simp only [Act.put, List.getElem_toArray, List.getElem_cons_succ, List.getElem_cons_zero, List.setIfInBounds_toArray, List.set_cons_zero, List.set_cons_succ]
    refine wpAnyH_take (i := 8) (v := ?v8) rfl (by kernel_rfl) (by kernel_rfl) (by kernel_rfl) (fun _ _ _ h => h) (Or.inl ⟨by kernel_rfl, ?hy8⟩) (by assumption) ?_
    case hy8 => (intro w hSw; (try dsimp only at hSw); go_simp; try with_reducible rfl)
    try simp only [Act.put, List.getElem_toArray, List.getElem_cons_succ, List.getElem_cons_zero, List.setIfInBounds_toArray, List.set_cons_zero, List.set_cons_succ]
    refine wpAnyH_take (i := 9) (v := ?v9) rfl (by kernel_rfl) (by kernel_rfl) (by kernel_rfl) (fun _ _ _ h => h) (Or.inl ⟨by kernel_rfl, ?hy9⟩) (by assumption) ?_
    case hy9 => (intro w hSw; (try dsimp only at hSw); go_simp; try with_reducible rfl)
    try simp only [Act.put, List.getElem_toArray, List.getElem_cons_succ, List.getElem_cons_zero, List.setIfInBounds_toArray, List.set_cons_zero, List.set_cons_succ]
    refine wpAnyH_take (i := 10) (v := undef) rfl (by kernel_rfl) (by kernel_rfl) (by kernel_rfl) (fun _ _ _ h => h) (Or.inr ⟨by kernel_rfl, rfl⟩) (by assumption) ?_
    try simp only [Act.put, List.getElem_toArray, List.getElem_cons_succ, List.getElem_cons_zero, List.setIfInBounds_toArray, List.set_cons_zero, List.set_cons_succ]
    refine wpAnyH_take (i := 11) (v := undef) rfl (by kernel_rfl) (by kernel_rfl) (by kernel_rfl) (fun _ _ _ h => h) (Or.inr ⟨by kernel_rfl, rfl⟩) (by assumption) ?_
    try simp only [Act.put, List.getElem_toArray, List.getElem_cons_succ, List.getElem_cons_zero, List.setIfInBounds_toArray, List.set_cons_zero, List.set_cons_succ]
    refine wpAnyH_take (i := 12) (v := undef) rfl (by kernel_rfl) (by kernel_rfl) (by kernel_rfl) (fun _ _ _ h => h) (Or.inr ⟨by kernel_rfl, rfl⟩) (by assumption) ?_
    try simp only [Act.put, List.getElem_toArray, List.getElem_cons_succ, List.getElem_cons_zero, List.setIfInBounds_toArray, List.set_cons_zero, List.set_cons_succ]
    refine wpAnyH_take (i := 13) (v := undef) rfl (by kernel_rfl) (by kernel_rfl) (by kernel_rfl) (fun _ _ _ h => h) (Or.inr ⟨by kernel_rfl, rfl⟩) (by assumption) ?_
    try simp only [Act.put, List.getElem_toArray, List.getElem_cons_succ, List.getElem_cons_zero, List.setIfInBounds_toArray, List.set_cons_zero, List.set_cons_succ]
    refine wpAnyH_take (i := 14) (v := undef) rfl (by kernel_rfl) (by kernel_rfl) (by kernel_rfl) (fun _ _ _ h => h) (Or.inr ⟨by kernel_rfl, rfl⟩) (by assumption) ?_
    try simp only [Act.put, List.getElem_toArray, List.getElem_cons_succ, List.getElem_cons_zero, List.setIfInBounds_toArray, List.set_cons_zero, List.set_cons_succ]
    refine wpAnyH_take (i := 15) (v := undef) rfl (by kernel_rfl) (by kernel_rfl) (by kernel_rfl) (fun _ _ _ h => h) (Or.inr ⟨by kernel_rfl, rfl⟩) (by assumption) ?_
    try simp only [Act.put, List.getElem_toArray, List.getElem_cons_succ, List.getElem_cons_zero, List.setIfInBounds_toArray, List.set_cons_zero, List.set_cons_succ]
    refine wpAnyH_take (i := 16) (v := undef) rfl (by kernel_rfl) (by kernel_rfl) (by kernel_rfl) (fun _ _ _ h => h) (Or.inr ⟨by kernel_rfl, rfl⟩) (by assumption) ?_
    try simp only [Act.put, List.getElem_toArray, List.getElem_cons_succ, List.getElem_cons_zero, List.setIfInBounds_toArray, List.set_cons_zero, List.set_cons_succ]
    refine wpAnyH_take (i := 17) (v := undef) rfl (by kernel_rfl) (by kernel_rfl) (by kernel_rfl) (fun _ _ _ h => h) (Or.inr ⟨by kernel_rfl, rfl⟩) (by assumption) ?_
    try simp only [Act.put, List.getElem_toArray, List.getElem_cons_succ, List.getElem_cons_zero, List.setIfInBounds_toArray, List.set_cons_zero, List.set_cons_succ]
    refine wpAnyH_take (i := 18) (v := undef) rfl (by kernel_rfl) (by kernel_rfl) (by kernel_rfl) (fun _ _ _ h => h) (Or.inr ⟨by kernel_rfl, rfl⟩) (by assumption) ?_
    try simp only [Act.put, List.getElem_toArray, List.getElem_cons_succ, List.getElem_cons_zero, List.setIfInBounds_toArray, List.set_cons_zero, List.set_cons_succ]
    refine wpAnyH_take (i := 19) (v := ?v19) rfl (by kernel_rfl) (by kernel_rfl) (by kernel_rfl) (fun _ _ _ h => h) (Or.inl ⟨by kernel_rfl, ?hy19⟩) (by assumption) ?_
    case hy19 => (intro w hSw; (try dsimp only at hSw); go_simp; try with_reducible rfl)
    try simp only [Act.put, List.getElem_toArray, List.getElem_cons_succ, List.getElem_cons_zero, List.setIfInBounds_toArray, List.set_cons_zero, List.set_cons_succ]
    refine wpAnyH_take (i := 20) (v := ?v20) rfl (by kernel_rfl) (by kernel_rfl) (by kernel_rfl) (fun _ _ _ h => h) (Or.inl ⟨by kernel_rfl, ?hy20⟩) (by assumption) ?_
    case hy20 => (intro w hSw; (try dsimp only at hSw); go_simp; try with_reducible rfl)
    try simp only [Act.put, List.getElem_toArray, List.getElem_cons_succ, List.getElem_cons_zero, List.setIfInBounds_toArray, List.set_cons_zero, List.set_cons_succ]
    refine wpAnyH_take (i := 21) (v := undef) rfl (by kernel_rfl) (by kernel_rfl) (by kernel_rfl) (fun _ _ _ h => h) (Or.inr ⟨by kernel_rfl, rfl⟩) (by assumption) ?_
    try simp only [Act.put, List.getElem_toArray, List.getElem_cons_succ, List.getElem_cons_zero, List.setIfInBounds_toArray, List.set_cons_zero, List.set_cons_succ]
    refine wpAnyH_take (i := 22) (v := undef) rfl (by kernel_rfl) (by kernel_rfl) (by kernel_rfl) (fun _ _ _ h => h) (Or.inr ⟨by kernel_rfl, rfl⟩) (by assumption) ?_
    try simp only [Act.put, List.getElem_toArray, List.getElem_cons_succ, List.getElem_cons_zero, List.setIfInBounds_toArray, List.set_cons_zero, List.set_cons_succ]
    refine wpAnyH_take (i := 23) (v := undef) rfl (by kernel_rfl) (by kernel_rfl) (by kernel_rfl) (fun _ _ _ h => h) (Or.inr ⟨by kernel_rfl, rfl⟩) (by assumption) ?_
    try simp only [Act.put, List.getElem_toArray, List.getElem_cons_succ, List.getElem_cons_zero, List.setIfInBounds_toArray, List.set_cons_zero, List.set_cons_succ]
    refine wpAnyH_take (i := 24) (v := undef) rfl (by kernel_rfl) (by kernel_rfl) (by kernel_rfl) (fun _ _ _ h => h) (Or.inr ⟨by kernel_rfl, rfl⟩) (by assumption) ?_
    try simp only [Act.put, List.getElem_toArray, List.getElem_cons_succ, List.getElem_cons_zero, List.setIfInBounds_toArray, List.set_cons_zero, List.set_cons_succ]
    refine wpAnyH_take (i := 25) (v := undef) rfl (by kernel_rfl) (by kernel_rfl) (by kernel_rfl) (fun _ _ _ h => h) (Or.inr ⟨by kernel_rfl, rfl⟩) (by assumption) ?_
    try simp only [Act.put, List.getElem_toArray, List.getElem_cons_succ, List.getElem_cons_zero, List.setIfInBounds_toArray, List.set_cons_zero, List.set_cons_succ]
    refine wpAnyH_take (i := 26) (v := undef) rfl (by kernel_rfl) (by kernel_rfl) (by kernel_rfl) (fun _ _ _ h => h) (Or.inr ⟨by kernel_rfl, rfl⟩) (by assumption) ?_
    try simp only [Act.put, List.getElem_toArray, List.getElem_cons_succ, List.getElem_cons_zero, List.setIfInBounds_toArray, List.set_cons_zero, List.set_cons_succ]
    refine wpAnyH_take (i := 27) (v := undef) rfl (by kernel_rfl) (by kernel_rfl) (by kernel_rfl) (fun _ _ _ h => h) (Or.inr ⟨by kernel_rfl, rfl⟩) (by assumption) ?_
    try simp only [Act.put, List.getElem_toArray, List.getElem_cons_succ, List.getElem_cons_zero, List.setIfInBounds_toArray, List.set_cons_zero, List.set_cons_succ]
    refine wpAnyH_take (i := 28) (v := ?v28) rfl (by kernel_rfl) (by kernel_rfl) (by kernel_rfl) (fun _ _ _ h => h) (Or.inl ⟨by kernel_rfl, ?hy28⟩) (by assumption) ?_
    case hy28 => (intro w hSw; (try dsimp only at hSw); go_simp; try with_reducible rfl)
    try simp only [Act.put, List.getElem_toArray, List.getElem_cons_succ, List.getElem_cons_zero, List.setIfInBounds_toArray, List.set_cons_zero, List.set_cons_succ]
    refine wpAnyH_done (by kernel_rfl) ?_ _
    rw [← hL1] at F2
    clear hS0
    have s4 := fun q => ptStore_run (c := q) (F2.get 1 rfl)
    have F9 := F2.put 1 (ptL T3.zero).toArray rfl
    go_wp2
    exact bodyPost_ret (results_pt_tmp Tryz.results19 rfl rfl (F9.get 1 rfl)) rfl ⟨rfl, F9.bel⟩
end Go.Proofs.YtpimliebiapnfaaGreatDoor