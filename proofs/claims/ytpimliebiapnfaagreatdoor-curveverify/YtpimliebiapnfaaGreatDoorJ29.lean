/- Texts of this proof, joined: CVer. -/
import Derived.Test.YtpimliebiapnfaaGreatDoorJ14
import Derived.Test.YtpimliebiapnfaaGreatDoorJ2
import Derived.Test.YtpimliebiapnfaaGreatDoorJ28
/- counts, partsOf. -/
namespace Go.Proofs.YtpimliebiapnfaaGreatDoor
set_option linter.unusedVariables false
set_option linter.unusedSimpArgs false
open Go.RowKit N
attribute [local go_sem ↓] N.loadAt_nat N.storeAt_nat N.build_nat N.build_nat' loadAt_pt storeAt_pt build_pt0 build_pt0' build_pt'
attribute [local go_sem] N.st1 N.st2a N.st2b N.st1d N.st2ad N.st2bd N.natBuild_run ptst1 ptst1d ptBuild0_run build_pt ptBuild_run
attribute [local go_sem ↓] bin_nat bin_pt
theorem nBelow {W : World} {c mp mn A : Nat} (C : Cv W c mp mn) (hA : A < N.Lim) : Calls Tryz.prog 81 #[boxM mn, .agg (N.natL A).toArray] W fun e w' => e = .returned (.bool (decide (A < nN))) ∧ Below W.heap.size W w' :=
  below_in mn nN A W C.n nN_lim hA
theorem btl_pos {a : Nat} (h : a ≠ 0) : 0 < N.btl a := by
  rcases Nat.eq_zero_or_pos (N.btl a) with e | e
  · have := N.btl_lt a
    rw [e] at this
    simp at this
    omega
  · exact e
set_option maxRecDepth 100000 in
set_option maxHeartbeats 2000000 in
theorem counts_0 {c mp mn : Nat}  (W : World) (C : Cv W c mp mn)  :
    Calls Tryz.prog 75 #[boxM c, .agg (N.natL 0).toArray] W fun e w' => e = .returned (.bool false) ∧ Below W.heap.size W w' := by
  obtain ⟨V, hV, F⟩ : ∃ V, (W.alloc (Obj.cells (N.natL 0).toArray 38 (0, 0))) = V ∧ Fm W [(W.heap.size, Obj.cells (N.natL 0).toArray 38 (0, 0))] V := ⟨_, rfl, Fm.box1 W _⟩
  obtain ⟨L, hL⟩ : ∃ L : List (Nat × Obj), [(W.heap.size, Obj.cells (N.natL 0).toArray 38 (0, 0))] = L := ⟨_, rfl⟩
  rw [hL] at F
  have HS : Hid (∀ w, Fm W L w → Fm W L w ∧ (N.natLoad (.pointer (some ⟨W.heap.size, 0, none⟩))).run Tryz.prog w = .ok (.agg (N.natL 0).toArray) w) := fun w h => ⟨h, N.natLoad_run (h.get 0 (by rw [← hL]; rfl))⟩
  have H1 : Hid (∀ w, Fm W L w → Calls Tryz.prog 93 #[.agg (N.natL 0).toArray] w fun e w' => e = .returned (.int .i64 0) ∧ Below w.heap.size w w') := fun w _ => N.bits_in 0 (by unfold N.Lim; decide) w
  go_enter Tryz.func75, Tryz.ntmps75
  go_upto_region 1 with fail
  clear hV hL
  refine wp_region_held_drew (S := fun w => Fm W L w ∧ (N.natLoad (.pointer (some ⟨W.heap.size, 0, none⟩))).run Tryz.prog w = .ok (.agg (N.natL 0).toArray) w) (by kernel_rfl) (HS.out _ F.drew) (fun hHeld => ?_)
  refine wpAnyH_take (i := 0) (v := ?vh1_0) rfl (by kernel_rfl) (by kernel_rfl) (by kernel_rfl) (fun _ _ _ h => h) (Or.inl ⟨by kernel_rfl, ?yh1_0⟩) (by assumption) ?_
  case yh1_0 => (intro w hSw; (try dsimp only at hSw); go_simp; try with_reducible rfl)
  try simp only [Act.put, List.getElem_toArray, List.getElem_cons_succ, List.getElem_cons_zero, List.setIfInBounds_toArray, List.set_cons_zero, List.set_cons_succ]
  refine wpAnyH_ready (rs := [1]) (by kernel_rfl) (by simp) ?_
  refine AllReadyH.cons rfl (fun K hK => ?_) AllReadyH.nil
  go_simp
  go_at_call 93
  with_reducible refine (H1.out _ (by repeat (first | assumption | apply Fm.drew | apply Fz.drew | apply Fq.drew | apply Fm.alloc))).mono ?_
  rintro e w2 ⟨rfl, hb2⟩
  have F2 := Fm.blk (by repeat (first | assumption | apply Fm.drew | apply Fz.drew | apply Fq.drew | apply Fm.alloc)) hb2
  have hs2 := HS.out _ F2
  refine hK.out _ _ hs2 (fun hHeld2 => ?_)
  clear hK K
  try simp only [Act.put, List.getElem_toArray, List.getElem_cons_succ, List.getElem_cons_zero, List.setIfInBounds_toArray, List.set_cons_zero, List.set_cons_succ]
  refine wpAnyH_take (i := 2) (v := ?vh1_2) rfl (by kernel_rfl) (by kernel_rfl) (by kernel_rfl) (fun _ _ _ h => h) (Or.inl ⟨by kernel_rfl, ?yh1_2⟩) (by assumption) ?_
  case yh1_2 => (intro w hSw; (try dsimp only at hSw); go_simp; try with_reducible rfl)
  refine wpAnyH_take (i := 3) (v := ?vh1_3) rfl (by kernel_rfl) (by kernel_rfl) (by kernel_rfl) (fun _ _ _ h => h) (Or.inl ⟨by kernel_rfl, ?yh1_3⟩) (by assumption) ?_
  case yh1_3 => (intro w hSw; (try dsimp only at hSw); go_simp; try with_reducible rfl)
  try simp only [Act.put, List.getElem_toArray, List.getElem_cons_succ, List.getElem_cons_zero, List.setIfInBounds_toArray, List.set_cons_zero, List.set_cons_succ]
  refine wpAnyH_take (i := 4) (v := undef) rfl (by kernel_rfl) (by kernel_rfl) (by kernel_rfl) (fun _ _ _ h => h) (Or.inr ⟨by kernel_rfl, rfl⟩) (by assumption) ?_
  refine wpAnyH_take (i := 5) (v := undef) rfl (by kernel_rfl) (by kernel_rfl) (by kernel_rfl) (fun _ _ _ h => h) (Or.inr ⟨by kernel_rfl, rfl⟩) (by assumption) ?_
  refine wpAnyH_take (i := 6) (v := undef) rfl (by kernel_rfl) (by kernel_rfl) (by kernel_rfl) (fun _ _ _ h => h) (Or.inr ⟨by kernel_rfl, rfl⟩) (by assumption) ?_
  refine wpAnyH_take (i := 7) (v := undef) rfl (by kernel_rfl) (by kernel_rfl) (by kernel_rfl) (fun _ _ _ h => h) (Or.inr ⟨by kernel_rfl, rfl⟩) (by assumption) ?_
  refine wpAnyH_take (i := 8) (v := undef) rfl (by kernel_rfl) (by kernel_rfl) (by kernel_rfl) (fun _ _ _ h => h) (Or.inr ⟨by kernel_rfl, rfl⟩) (by assumption) ?_
  refine wpAnyH_take (i := 9) (v := undef) rfl (by kernel_rfl) (by kernel_rfl) (by kernel_rfl) (fun _ _ _ h => h) (Or.inr ⟨by kernel_rfl, rfl⟩) (by assumption) ?_
  refine wpAnyH_take (i := 10) (v := undef) rfl (by kernel_rfl) (by kernel_rfl) (by kernel_rfl) (fun _ _ _ h => h) (Or.inr ⟨by kernel_rfl, rfl⟩) (by assumption) ?_
  try simp only [Act.put, List.getElem_toArray, List.getElem_cons_succ, List.getElem_cons_zero, List.setIfInBounds_toArray, List.set_cons_zero, List.set_cons_succ]
  refine wpAnyH_take (i := 11) (v := ?vh1_11) rfl (by kernel_rfl) (by kernel_rfl) (by kernel_rfl) (fun _ _ _ h => h) (Or.inl ⟨by kernel_rfl, ?yh1_11⟩) (by assumption) ?_
  case yh1_11 => (intro w hSw; (try dsimp only at hSw); go_simp; try with_reducible rfl)
  refine wpAnyH_take (i := 12) (v := ?vh1_12) rfl (by kernel_rfl) (by kernel_rfl) (by kernel_rfl) (fun _ _ _ h => h) (Or.inl ⟨by kernel_rfl, ?yh1_12⟩) (by assumption) ?_
  case yh1_12 => (intro w hSw; (try dsimp only at hSw); go_simp; try with_reducible rfl)
  try simp only [Act.put, List.getElem_toArray, List.getElem_cons_succ, List.getElem_cons_zero, List.setIfInBounds_toArray, List.set_cons_zero, List.set_cons_succ]
  refine wpAnyH_done (by kernel_rfl) ?_ _
  go_wp2
  go_ret
  exact ⟨rfl, F2.bel⟩
set_option maxRecDepth 100000 in
set_option maxHeartbeats 2000000 in
theorem counts_1 {c mp mn : Nat} (a : Nat) (W : World) (C : Cv W c mp mn) (ha : a < N.Lim) (h0 : a ≠ 0) :
    Calls Tryz.prog 75 #[boxM c, .agg (N.natL a).toArray] W fun e w' => e = .returned (.bool (decide (a < nN))) ∧ Below W.heap.size W w' := by
  have hq := btl_pos h0
  have HBI := Hid.mk (N.bits_in a ha)
  generalize N.btl a = q at hq HBI
  have HBE : Hid (∀ w, Cv w c mp mn → Calls Tryz.prog 81 #[boxM mn, .agg (N.natL a).toArray] w fun e w' => e = .returned (.bool (decide (a < nN))) ∧ Below w.heap.size w w') := fun w h => nBelow h ha
  generalize decide (a < nN) = D at HBE ⊢
  clear ha h0
  have hq1 : (0 : Int) < (q : Int) := by omega
  have hq2 : decide (0 < q) = true := by simpa using hq
  obtain ⟨V, hV, F⟩ : ∃ V, (W.alloc (Obj.cells (N.natL a).toArray 38 (0, 0))) = V ∧ Fm W [(W.heap.size, Obj.cells (N.natL a).toArray 38 (0, 0))] V := ⟨_, rfl, Fm.box1 W _⟩
  obtain ⟨L, hL⟩ : ∃ L : List (Nat × Obj), [(W.heap.size, Obj.cells (N.natL a).toArray 38 (0, 0))] = L := ⟨_, rfl⟩
  rw [hL] at F
  have HS : Hid (∀ w, Fm W L w → Fm W L w ∧ (N.natLoad (.pointer (some ⟨W.heap.size, 0, none⟩))).run Tryz.prog w = .ok (.agg (N.natL a).toArray) w ∧ w.cell? ⟨c, 6, none⟩ = some (fnM 81 mn)) := fun w h => ⟨h, N.natLoad_run (h.get 0 (by rw [← hL]; rfl)), (h.cv C).fn 6 rfl⟩
  have H1 : Hid (∀ w, Fm W L w → Calls Tryz.prog 93 #[.agg (N.natL a).toArray] w fun e w' => e = .returned (.int .i64 (q : Int)) ∧ Below w.heap.size w w') := fun w _ => HBI.out w
  have H2 : Hid (∀ w, Fm W L w → Calls Tryz.prog 81 #[boxM mn, .agg (N.natL a).toArray] w fun e w' => e = .returned (.bool D) ∧ Below w.heap.size w w') := fun w h => HBE.out w (h.cv C)
  go_enter Tryz.func75, Tryz.ntmps75
  go_upto_region 1 with fail
  clear hV hL HBI HBE
  have hS0 := HS.out _ F
  refine wp_region_held_drew (S := fun w => Fm W L w ∧ (N.natLoad (.pointer (some ⟨W.heap.size, 0, none⟩))).run Tryz.prog w = .ok (.agg (N.natL a).toArray) w ∧ w.cell? ⟨c, 6, none⟩ = some (fnM 81 mn)) (by kernel_rfl) (HS.out _ F.drew) (fun hHeld => ?_)
  refine wpAnyH_take (i := 0) (v := ?vh2_0) rfl (by kernel_rfl) (by kernel_rfl) (by kernel_rfl) (fun _ _ _ h => h) (Or.inl ⟨by kernel_rfl, ?yh2_0⟩) (by assumption) ?_
  case yh2_0 => (intro w hSw; (try dsimp only at hSw); go_simp; try with_reducible rfl)
  try simp only [Act.put, List.getElem_toArray, List.getElem_cons_succ, List.getElem_cons_zero, List.setIfInBounds_toArray, List.set_cons_zero, List.set_cons_succ]
  refine wpAnyH_ready (rs := [1]) (by kernel_rfl) (by simp) ?_
  refine AllReadyH.cons rfl (fun K hK => ?_) AllReadyH.nil
  go_simp
  go_at_call 93
  with_reducible refine (H1.out _ (by repeat (first | assumption | apply Fm.drew | apply Fz.drew | apply Fq.drew | apply Fm.alloc))).mono ?_
  rintro e w2 ⟨rfl, hb2⟩
  have F2 := Fm.blk (by repeat (first | assumption | apply Fm.drew | apply Fz.drew | apply Fq.drew | apply Fm.alloc)) hb2
  have hs2 := HS.out _ F2
  refine hK.out _ _ hs2 (fun hHeld2 => ?_)
  clear hK K
  try simp only [Act.put, List.getElem_toArray, List.getElem_cons_succ, List.getElem_cons_zero, List.setIfInBounds_toArray, List.set_cons_zero, List.set_cons_succ]
  refine wpAnyH_take (i := 2) (v := ?vh2_2) rfl (by kernel_rfl) (by kernel_rfl) (by kernel_rfl) (fun _ _ _ h => h) (Or.inl ⟨by kernel_rfl, ?yh2_2⟩) (by assumption) ?_
  case yh2_2 => (intro w hSw; (try dsimp only at hSw); go_simp; try with_reducible rfl)
  refine wpAnyH_take (i := 3) (v := ?vh2_3) rfl (by kernel_rfl) (by kernel_rfl) (by kernel_rfl) (fun _ _ _ h => h) (Or.inl ⟨by kernel_rfl, ?yh2_3⟩) (by assumption) ?_
  case yh2_3 => (intro w hSw; (try dsimp only at hSw); go_simp; try with_reducible rfl)
  refine wpAnyH_take (i := 4) (v := ?vh2_4) rfl (by kernel_rfl) (by kernel_rfl) (by kernel_rfl) (fun _ _ _ h => h) (Or.inl ⟨by kernel_rfl, ?yh2_4⟩) (by assumption) ?_
  case yh2_4 => (intro w hSw; (try dsimp only at hSw); go_simp; try with_reducible rfl)
  refine wpAnyH_take (i := 5) (v := ?vh2_5) rfl (by kernel_rfl) (by kernel_rfl) (by kernel_rfl) (fun _ _ _ h => h) (Or.inl ⟨by kernel_rfl, ?yh2_5⟩) (by assumption) ?_
  case yh2_5 => (intro w hSw; (try dsimp only at hSw); go_simp; try with_reducible rfl)
  refine wpAnyH_take (i := 6) (v := ?vh2_6) rfl (by kernel_rfl) (by kernel_rfl) (by kernel_rfl) (fun _ _ _ h => h) (Or.inl ⟨by kernel_rfl, ?yh2_6⟩) (by assumption) ?_
  case yh2_6 => (intro w hSw; (try dsimp only at hSw); go_simp; try with_reducible rfl)
  refine wpAnyH_take (i := 7) (v := ?vh2_7) rfl (by kernel_rfl) (by kernel_rfl) (by kernel_rfl) (fun _ _ _ h => h) (Or.inl ⟨by kernel_rfl, ?yh2_7⟩) (by assumption) ?_
  case yh2_7 => (intro w hSw; (try dsimp only at hSw); go_simp; try with_reducible rfl)
  refine wpAnyH_take (i := 8) (v := ?vh2_8) rfl (by kernel_rfl) (by kernel_rfl) (by kernel_rfl) (fun _ _ _ h => h) (Or.inl ⟨by kernel_rfl, ?yh2_8⟩) (by assumption) ?_
  case yh2_8 => (intro w hSw; (try dsimp only at hSw); go_simp; try with_reducible rfl)
  refine wpAnyH_take (i := 9) (v := ?vh2_9) rfl (by kernel_rfl) (by kernel_rfl) (by kernel_rfl) (fun _ _ _ h => h) (Or.inl ⟨by kernel_rfl, ?yh2_9⟩) (by assumption) ?_
  case yh2_9 => (intro w hSw; (try dsimp only at hSw); go_simp; try with_reducible rfl)
  try simp only [Act.put, List.getElem_toArray, List.getElem_cons_succ, List.getElem_cons_zero, List.setIfInBounds_toArray, List.set_cons_zero, List.set_cons_succ]
  refine wpAnyH_ready (rs := [10]) (by kernel_rfl) (by simp) ?_
  refine AllReadyH.cons rfl (fun K hK => ?_) AllReadyH.nil
  go_simp
  go_at_call 81
  with_reducible refine (H2.out _ (by repeat (first | assumption | apply Fm.drew | apply Fz.drew | apply Fq.drew | apply Fm.alloc))).mono ?_
  rintro e w3 ⟨rfl, hb3⟩
  have F3 := Fm.blk (by repeat (first | assumption | apply Fm.drew | apply Fz.drew | apply Fq.drew | apply Fm.alloc)) hb3
  have hs3 := HS.out _ F3
  refine hK.out _ _ hs3 (fun hHeld3 => ?_)
  clear hK K
  try simp only [Act.put, List.getElem_toArray, List.getElem_cons_succ, List.getElem_cons_zero, List.setIfInBounds_toArray, List.set_cons_zero, List.set_cons_succ]
  refine wpAnyH_take (i := 11) (v := ?vh2_11) rfl (by kernel_rfl) (by kernel_rfl) (by kernel_rfl) (fun _ _ _ h => h) (Or.inl ⟨by kernel_rfl, ?yh2_11⟩) (by assumption) ?_
  case yh2_11 => (intro w hSw; (try dsimp only at hSw); go_simp; try with_reducible rfl)
  refine wpAnyH_take (i := 12) (v := ?vh2_12) rfl (by kernel_rfl) (by kernel_rfl) (by kernel_rfl) (fun _ _ _ h => h) (Or.inl ⟨by kernel_rfl, ?yh2_12⟩) (by assumption) ?_
  case yh2_12 => (intro w hSw; (try dsimp only at hSw); go_simp; try with_reducible rfl)
  try simp only [Act.put, List.getElem_toArray, List.getElem_cons_succ, List.getElem_cons_zero, List.setIfInBounds_toArray, List.set_cons_zero, List.set_cons_succ]
  refine wpAnyH_done (by kernel_rfl) ?_ _
  go_wp2
  go_ret
  exact ⟨rfl, F3.bel⟩
def cntN (a : Nat) : Bool := decide (a ≠ 0) && decide (a < nN)
theorem counts_in {c mp mn : Nat} (a : Nat) (W : World) (C : Cv W c mp mn) (ha : a < N.Lim) : Calls Tryz.prog 75 #[boxM c, .agg (N.natL a).toArray] W fun e w' => e = .returned (.bool (cntN a)) ∧ Below W.heap.size W w' := by
  unfold cntN
  by_cases h : a = 0
  · subst h
    exact counts_0 W C
  · rw [show decide (a ≠ 0) = true by simpa using h, Bool.true_and]
    exact counts_1 a W C ha h
def Fzz (W : World) (b d : Nat) (w : World) : Prop := ∃ x y, Fm W [(b, .cells (N.natL x).toArray 38 (0, 0)), (d, .cells (N.natL y).toArray 38 (0, 0))] w
theorem Fzz.drew {W w : World} {b d : Nat} (h : Fzz W b d w) : Fzz W b d w.drew := h.elim fun x h => h.elim fun y h => ⟨x, y, h.drew⟩
theorem Fzz.blk {W w w' : World} {b d : Nat} (h : Fzz W b d w) (hb : Below w.heap.size w w') : Fzz W b d w' := h.elim fun x h => h.elim fun y h => ⟨x, y, h.blk hb⟩
theorem Fzz.bel {W w : World} {b d : Nat} (h : Fzz W b d w) : Below W.heap.size W w := h.elim fun x h => h.elim fun y h => h.bel
theorem Fzz.set1 {W w : World} {b d : Nat} (h : Fzz W b d w) (v : Nat) : Fzz W b d (w.setRow b (N.natL v).toArray) := h.elim fun x h => h.elim fun y h => ⟨v, y, h.put 0 (N.natL v).toArray rfl⟩
theorem Fzz.set2 {W w : World} {b d : Nat} (h : Fzz W b d w) (v : Nat) : Fzz W b d (w.setRow d (N.natL v).toArray) := h.elim fun x h => h.elim fun y h => ⟨x, v, h.put 1 (N.natL v).toArray rfl⟩
theorem Fzz.st1 {W w : World} {b d : Nat} (h : Fzz W b d w) (v : Nat) : (N.natStore (.pointer (some ⟨b, 0, none⟩)) (.agg (N.natL v).toArray)).run Tryz.prog w = .ok () (w.setRow b (N.natL v).toArray) := h.elim fun x h => h.elim fun y h => N.natStore_run (h.get 0 rfl)
theorem Fzz.st2 {W w : World} {b d : Nat} (h : Fzz W b d w) (v : Nat) : (N.natStore (.pointer (some ⟨d, 0, none⟩)) (.agg (N.natL v).toArray)).run Tryz.prog w = .ok () (w.setRow d (N.natL v).toArray) := h.elim fun x h => h.elim fun y h => N.natStore_run (h.get 1 rfl)
theorem Fzz.fin12 {W w : World} {b d : Nat} (h : Fzz W b d w) (u v : Nat) : Fm W [(b, .cells (N.natL u).toArray 38 (0, 0)), (d, .cells (N.natL v).toArray 38 (0, 0))] ((w.setRow b (N.natL u).toArray).setRow d (N.natL v).toArray) := h.elim fun x h => h.elim fun y h => (h.put 0 (N.natL u).toArray rfl).put 1 (N.natL v).toArray rfl
theorem Fzz.fin21 {W w : World} {b d : Nat} (h : Fzz W b d w) (u v : Nat) : Fm W [(b, .cells (N.natL u).toArray 38 (0, 0)), (d, .cells (N.natL v).toArray 38 (0, 0))] ((w.setRow d (N.natL v).toArray).setRow b (N.natL u).toArray) := h.elim fun x h => h.elim fun y h => (h.put 1 (N.natL v).toArray rfl).put 0 (N.natL u).toArray rfl
set_option maxRecDepth 100000 in
set_option maxHeartbeats 2000000 in
theorem parts_len {c mp mn : Nat} (s : ByteArray) (W : World) (C : Cv W c mp mn) (h : s.size ≠ 64) :
    Calls Tryz.prog 39 #[boxM c, .string s] W fun e w' => e = .returned (.tuple #[.agg (N.natL 0).toArray, .agg (N.natL 0).toArray, .bool false]) ∧ Below W.heap.size W w' := by
  have he2 : ((s.size : Int) != 64) = true := by simp; omega
  clear h
  have hz := N.zero26
  obtain ⟨V, hV, F⟩ : ∃ V, ((W.alloc (Obj.cells (N.natL 0).toArray 38 (0, 0))).alloc (Obj.cells (N.natL 0).toArray 38 (0, 0))) = V ∧ Fm W [(W.heap.size + 1, Obj.cells (N.natL 0).toArray 38 (0, 0)), (W.heap.size, Obj.cells (N.natL 0).toArray 38 (0, 0))] V := ⟨_, rfl, Fm.box2 W _ _⟩
  have s4 := fun q => N.natStore_run (N := q) (F.get 1 rfl)
  replace F := F.put 1 (N.natL 0).toArray rfl
  simp only [List.set_cons_succ, List.set_cons_zero] at F
  have s5 := fun q => N.natStore_run (N := q) (F.get 0 rfl)
  replace F := F.put 0 (N.natL 0).toArray rfl
  simp only [List.set_cons_succ, List.set_cons_zero] at F
  go_enter Tryz.func39, Tryz.ntmps39
  go_wp2
  exact bodyPost_ret (N.results_nat3 Tryz.results39 rfl rfl rfl (F.get 1 rfl) (F.get 0 rfl) (N.natL_len 0) (N.natL_len 0)) rfl ⟨rfl, F.bel⟩
set_option maxRecDepth 100000 in
set_option maxHeartbeats 2000000 in
theorem parts_f {c mp mn : Nat} (s : ByteArray) (W : World) (C : Cv W c mp mn) (h : s.size = 64) (h1 : cntN (hiN s) = false) :
    Calls Tryz.prog 39 #[boxM c, .string s] W fun e w' => e = .returned (.tuple #[.agg (N.natL (hiN s)).toArray, .agg (N.natL (loN s)).toArray, .bool false]) ∧ Below W.heap.size W w' := by
  have he2 : ((s.size : Int) != 64) = false := by simp; omega
  have hi1 : (32 : Int) ≤ (s.size : Int) := by omega
  have hi2 : (0 : Int) ≤ (s.size : Int) := by omega
  have HX := Hid.mk (numberOf_in (s.extract 0 32) (by rw [ByteArray.size_extract]; omega))
  have HY := Hid.mk (numberOf_in (s.extract 32 s.size) (by rw [ByteArray.size_extract]; omega))
  have hxl : hiN s < N.Lim := numB_32 _ (by rw [ByteArray.size_extract]; omega)
  have hyl : loN s < N.Lim := numB_32 _ (by rw [ByteArray.size_extract]; omega)
  rw [show N.numB (s.extract 0 32).data.toList = hiN s from rfl] at HX
  rw [show N.numB (s.extract 32 s.size).data.toList = loN s from rfl] at HY
  generalize hiN s = x at *
  generalize loN s = y at *
  clear h
  have HC1 : Hid (∀ w, Cv w c mp mn → Calls Tryz.prog 75 #[boxM c, .agg (N.natL x).toArray] w fun e w' => e = .returned (.bool false) ∧ Below w.heap.size w w') := fun w h => by have := counts_in x w h hxl; rwa [h1] at this
  have HC2 : Hid (∀ w, Cv w c mp mn → Calls Tryz.prog 75 #[boxM c, .agg (N.natL y).toArray] w fun e w' => e = .returned (.bool (cntN y)) ∧ Below w.heap.size w w') := fun w h => counts_in y w h hyl
  generalize cntN y = D at HC2 ⊢
  clear h1 hxl hyl
  have hz := N.zero26
  obtain ⟨sx, hsx⟩ : ∃ t, s.extract 0 32 = t := ⟨_, rfl⟩
  obtain ⟨sy, hsy⟩ : ∃ t, s.extract 32 s.size = t := ⟨_, rfl⟩
  rw [hsx] at HX
  rw [hsy] at HY
  obtain ⟨V, hV, F⟩ : ∃ V, ((W.alloc (Obj.cells (N.natL 0).toArray 38 (0, 0))).alloc (Obj.cells (N.natL 0).toArray 38 (0, 0))) = V ∧ Fm W [(W.heap.size + 1, Obj.cells (N.natL 0).toArray 38 (0, 0)), (W.heap.size, Obj.cells (N.natL 0).toArray 38 (0, 0))] V := ⟨_, rfl, Fm.box2 W _ _⟩
  have Z : Fzz W (W.heap.size + 1) W.heap.size V := ⟨_, _, F⟩
  clear F
  have HS : Hid (∀ w, Fzz W (W.heap.size + 1) W.heap.size w → Fzz W (W.heap.size + 1) W.heap.size w ∧ (∀ v, (N.natStore (.pointer (some ⟨W.heap.size + 1, 0, none⟩)) (.agg (N.natL v).toArray)).run Tryz.prog w = .ok () (w.setRow (W.heap.size + 1) (N.natL v).toArray)) ∧ (∀ v, (N.natStore (.pointer (some ⟨W.heap.size, 0, none⟩)) (.agg (N.natL v).toArray)).run Tryz.prog w = .ok () (w.setRow W.heap.size (N.natL v).toArray))) := fun w h => ⟨h, h.st1, h.st2⟩
  have H1 : Hid (∀ w, Fzz W (W.heap.size + 1) W.heap.size w → Calls Tryz.prog 30 #[.string sx] w fun e w' => e = .returned (.agg (N.natL x).toArray) ∧ Below w.heap.size w w') := fun w _ => HX.out w
  have H2 : Hid (∀ w, Fzz W (W.heap.size + 1) W.heap.size w → Calls Tryz.prog 30 #[.string sy] w fun e w' => e = .returned (.agg (N.natL y).toArray) ∧ Below w.heap.size w w') := fun w _ => HY.out w
  clear HX HY
  go_enter Tryz.func39, Tryz.ntmps39
  go_upto_region 3 with fail
  clear hV
  try simp only [Nat.add_assoc, Nat.reduceAdd]
  have hS0 := HS.out _ Z
  go_cut [] (fun wx => Fm W [(W.heap.size + 1, Obj.cells (N.natL y).toArray 38 (0, 0)), (W.heap.size, Obj.cells (N.natL x).toArray 38 (0, 0))] wx)
  case first =>
    go_region_held3 (fun w => Fzz W (W.heap.size + 1) W.heap.size w ∧ (∀ v, (N.natStore (.pointer (some ⟨W.heap.size + 1, 0, none⟩)) (.agg (N.natL v).toArray)).run Tryz.prog w = .ok () (w.setRow (W.heap.size + 1) (N.natL v).toArray)) ∧ (∀ v, (N.natStore (.pointer (some ⟨W.heap.size, 0, none⟩)) (.agg (N.natL v).toArray)).run Tryz.prog w = .ok () (w.setRow W.heap.size (N.natL v).toArray)))
      (first | assumption | (apply HS.out; repeat (first | assumption | apply Fzz.drew | apply Fzz.set1 | apply Fzz.set2)))
      (first
        | (go_at_call 30; with_reducible refine (H1.out _ (by repeat (first | assumption | apply Fzz.drew | apply Fzz.set1 | apply Fzz.set2))).mono ?_; rintro e w2 ⟨rfl, hb2⟩; have Z2 := Fzz.blk (by repeat (first | assumption | apply Fzz.drew | apply Fzz.set1 | apply Fzz.set2)) hb2; have hs2 := HS.out _ Z2)
        | (go_at_call 30; with_reducible refine (H2.out _ (by repeat (first | assumption | apply Fzz.drew | apply Fzz.set1 | apply Fzz.set2))).mono ?_; rintro e w3 ⟨rfl, hb3⟩; have Z3 := Fzz.blk (by repeat (first | assumption | apply Fzz.drew | apply Fzz.set1 | apply Fzz.set2)) hb3; have hs3 := HS.out _ Z3))
    all_goals go_wp2
    all_goals go_meet
    all_goals (first | exact Z3.fin12 y x | exact Z3.fin21 y x)
  case rest =>
    have F := hcut
    clear hS0 Z HS H1 H2 hcut
    go_upto_region 4 with fail
    obtain ⟨L, hL⟩ : ∃ L : List (Nat × Obj), [(W.heap.size + 1, Obj.cells (N.natL y).toArray 38 (0, 0)), (W.heap.size, Obj.cells (N.natL x).toArray 38 (0, 0))] = L := ⟨_, rfl⟩
    rw [hL] at F
    have HS : Hid (∀ w, Fm W L w → Fm W L w ∧ (N.natLoad (.pointer (some ⟨W.heap.size, 0, none⟩))).run Tryz.prog w = .ok (.agg (N.natL x).toArray) w ∧ (N.natLoad (.pointer (some ⟨W.heap.size + 1, 0, none⟩))).run Tryz.prog w = .ok (.agg (N.natL y).toArray) w ∧ (N.natStore (.pointer (some ⟨W.heap.size, 0, none⟩)) (.agg (N.natL x).toArray)).run Tryz.prog w = .ok () (w.setRow W.heap.size (N.natL x).toArray) ∧ (N.natStore (.pointer (some ⟨W.heap.size + 1, 0, none⟩)) (.agg (N.natL y).toArray)).run Tryz.prog w = .ok () (w.setRow (W.heap.size + 1) (N.natL y).toArray)) := fun w h => ⟨h, N.natLoad_run (h.get 1 (by rw [← hL]; rfl)), N.natLoad_run (h.get 0 (by rw [← hL]; rfl)), N.natStore_run (h.get 1 (by rw [← hL]; rfl)), N.natStore_run (h.get 0 (by rw [← hL]; rfl))⟩
    have HP1 : Hid (∀ w, Fm W L w → Fm W L (w.setRow W.heap.size (N.natL x).toArray)) := by rw [Hid, ← hL]; exact fun w h => h.put 1 (N.natL x).toArray rfl
    have HP2 : Hid (∀ w, Fm W L w → Fm W L (w.setRow (W.heap.size + 1) (N.natL y).toArray)) := by rw [Hid, ← hL]; exact fun w h => h.put 0 (N.natL y).toArray rfl
    have HFL : Hid (∀ w, Fm W L w → w.heap[W.heap.size]? = some (Obj.cells (N.natL x).toArray 38 (0, 0)) ∧ w.heap[W.heap.size + 1]? = some (Obj.cells (N.natL y).toArray 38 (0, 0))) := fun w h => ⟨h.get 1 (by rw [← hL]; rfl), h.get 0 (by rw [← hL]; rfl)⟩
    have H1 : Hid (∀ w, Fm W L w → Calls Tryz.prog 75 #[boxM c, .agg (N.natL x).toArray] w fun e w' => e = .returned (.bool false) ∧ Below w.heap.size w w') := fun w h => HC1.out w (h.cv C)
    have H2 : Hid (∀ w, Fm W L w → Calls Tryz.prog 75 #[boxM c, .agg (N.natL y).toArray] w fun e w' => e = .returned (.bool D) ∧ Below w.heap.size w w') := fun w h => HC2.out w (h.cv C)
    clear HC1 HC2 hL
    have hS0 := HS.out _ F
    refine wp_region_held_drew (S := fun w => Fm W L w ∧ (N.natLoad (.pointer (some ⟨W.heap.size, 0, none⟩))).run Tryz.prog w = .ok (.agg (N.natL x).toArray) w ∧ (N.natLoad (.pointer (some ⟨W.heap.size + 1, 0, none⟩))).run Tryz.prog w = .ok (.agg (N.natL y).toArray) w ∧ (N.natStore (.pointer (some ⟨W.heap.size, 0, none⟩)) (.agg (N.natL x).toArray)).run Tryz.prog w = .ok () (w.setRow W.heap.size (N.natL x).toArray) ∧ (N.natStore (.pointer (some ⟨W.heap.size + 1, 0, none⟩)) (.agg (N.natL y).toArray)).run Tryz.prog w = .ok () (w.setRow (W.heap.size + 1) (N.natL y).toArray)) (by kernel_rfl) (HS.out _ F.drew) (fun hHeld => ?_)
    refine wpAnyH_take (i := 0) (v := ?vh3_0) rfl (by kernel_rfl) (by kernel_rfl) (by kernel_rfl) (fun _ _ _ h => h) (Or.inl ⟨by kernel_rfl, ?yh3_0⟩) (by assumption) ?_
    case yh3_0 => (intro w hSw; (try dsimp only at hSw); go_simp; try with_reducible rfl)
    refine wpAnyH_take (i := 1) (v := ?vh3_1) rfl (by kernel_rfl) (by kernel_rfl) (by kernel_rfl) (fun _ _ _ h => h) (Or.inl ⟨by kernel_rfl, ?yh3_1⟩) (by assumption) ?_
    case yh3_1 => (intro w hSw; (try dsimp only at hSw); go_simp; try with_reducible rfl)
    refine wpAnyH_take (i := 2) (v := ?vh3_2) rfl (by kernel_rfl) (by kernel_rfl) (by kernel_rfl) (fun _ _ _ h => h) (Or.inl ⟨by kernel_rfl, ?yh3_2⟩) (by assumption) ?_
    case yh3_2 => (intro w hSw; (try dsimp only at hSw); go_simp; try with_reducible rfl)
    refine wpAnyH_take (i := 3) (v := ?vh3_3) rfl (by kernel_rfl) (by kernel_rfl) (by kernel_rfl) (fun _ _ _ h => h) (Or.inl ⟨by kernel_rfl, ?yh3_3⟩) (by assumption) ?_
    case yh3_3 => (intro w hSw; (try dsimp only at hSw); go_simp; try with_reducible rfl)
    try simp only [Act.put, List.getElem_toArray, List.getElem_cons_succ, List.getElem_cons_zero, List.setIfInBounds_toArray, List.set_cons_zero, List.set_cons_succ]
    refine wpAnyH_ready (rs := [4]) (by kernel_rfl) (by simp) ?_
    refine AllReadyH.cons rfl (fun K hK => ?_) AllReadyH.nil
    go_simp
    go_at_call 75
    with_reducible refine (H1.out _ (by repeat (first | assumption | apply Fm.drew | apply Fz.drew | apply Fq.drew | apply Fm.alloc))).mono ?_
    rintro e w2 ⟨rfl, hb2⟩
    have F2 := Fm.blk (by repeat (first | assumption | apply Fm.drew | apply Fz.drew | apply Fq.drew | apply Fm.alloc)) hb2
    have hs2 := HS.out _ F2
    refine hK.out _ _ hs2 (fun hHeld2 => ?_)
    clear hK K
    try simp only [Act.put, List.getElem_toArray, List.getElem_cons_succ, List.getElem_cons_zero, List.setIfInBounds_toArray, List.set_cons_zero, List.set_cons_succ]
    refine wpAnyH_take (i := 5) (v := ?vh3_5) rfl (by kernel_rfl) (by kernel_rfl) (by kernel_rfl) (fun _ _ _ h => h) (Or.inl ⟨by kernel_rfl, ?yh3_5⟩) (by assumption) ?_
    case yh3_5 => (intro w hSw; (try dsimp only at hSw); go_simp; try with_reducible rfl)
    try simp only [Act.put, List.getElem_toArray, List.getElem_cons_succ, List.getElem_cons_zero, List.setIfInBounds_toArray, List.set_cons_zero, List.set_cons_succ]
    refine wpAnyH_take (i := 6) (v := undef) rfl (by kernel_rfl) (by kernel_rfl) (by kernel_rfl) (fun _ _ _ h => h) (Or.inr ⟨by kernel_rfl, rfl⟩) (by assumption) ?_
    refine wpAnyH_take (i := 7) (v := undef) rfl (by kernel_rfl) (by kernel_rfl) (by kernel_rfl) (fun _ _ _ h => h) (Or.inr ⟨by kernel_rfl, rfl⟩) (by assumption) ?_
    refine wpAnyH_take (i := 8) (v := undef) rfl (by kernel_rfl) (by kernel_rfl) (by kernel_rfl) (fun _ _ _ h => h) (Or.inr ⟨by kernel_rfl, rfl⟩) (by assumption) ?_
    try simp only [Act.put, List.getElem_toArray, List.getElem_cons_succ, List.getElem_cons_zero, List.setIfInBounds_toArray, List.set_cons_zero, List.set_cons_succ]
    refine wpAnyH_take (i := 9) (v := ?vh3_9) rfl (by kernel_rfl) (by kernel_rfl) (by kernel_rfl) (fun _ _ _ h => h) (Or.inl ⟨by kernel_rfl, ?yh3_9⟩) (by assumption) ?_
    case yh3_9 => (intro w hSw; (try dsimp only at hSw); go_simp; try with_reducible rfl)
    try simp only [Act.put, List.getElem_toArray, List.getElem_cons_succ, List.getElem_cons_zero, List.setIfInBounds_toArray, List.set_cons_zero, List.set_cons_succ]
    refine wpAnyH_ready (rs := [10]) (by kernel_rfl) (by simp) ?_
    refine AllReadyH.cons rfl (fun K hK => ?_) AllReadyH.nil
    go_simp
    have F8 := HP1.out _ F2
    have hs8 := HS.out _ F8
    refine hK.out _ _ hs8 (fun hHeld8 => ?_)
    clear hK K
    try simp only [Act.put, List.getElem_toArray, List.getElem_cons_succ, List.getElem_cons_zero, List.setIfInBounds_toArray, List.set_cons_zero, List.set_cons_succ]
    refine wpAnyH_ready (rs := [11]) (by kernel_rfl) (by simp) ?_
    refine AllReadyH.cons rfl (fun K hK => ?_) AllReadyH.nil
    go_simp
    have F9 := HP2.out _ F8
    have hs9 := HS.out _ F9
    refine hK.out _ _ hs9 (fun hHeld9 => ?_)
    clear hK K
    try simp only [Act.put, List.getElem_toArray, List.getElem_cons_succ, List.getElem_cons_zero, List.setIfInBounds_toArray, List.set_cons_zero, List.set_cons_succ]
    refine wpAnyH_take (i := 12) (v := ?vh3_12) rfl (by kernel_rfl) (by kernel_rfl) (by kernel_rfl) (fun _ _ _ h => h) (Or.inl ⟨by kernel_rfl, ?yh3_12⟩) (by assumption) ?_
    case yh3_12 => (intro w hSw; (try dsimp only at hSw); go_simp; try with_reducible rfl)
    try simp only [Act.put, List.getElem_toArray, List.getElem_cons_succ, List.getElem_cons_zero, List.setIfInBounds_toArray, List.set_cons_zero, List.set_cons_succ]
    refine wpAnyH_done (by kernel_rfl) ?_ _
    obtain ⟨q1, q2⟩ := HFL.out _ F9
    go_wp2
    exact bodyPost_ret (N.results_nat3 Tryz.results39 rfl rfl rfl q1 q2 (N.natL_len x) (N.natL_len y)) rfl ⟨rfl, F9.bel⟩
set_option maxRecDepth 100000 in
set_option maxHeartbeats 2000000 in
theorem parts_t {c mp mn : Nat} (s : ByteArray) (W : World) (C : Cv W c mp mn) (h : s.size = 64) (h1 : cntN (hiN s) = true) :
    Calls Tryz.prog 39 #[boxM c, .string s] W fun e w' => e = .returned (.tuple #[.agg (N.natL (hiN s)).toArray, .agg (N.natL (loN s)).toArray, .bool (cntN (loN s))]) ∧ Below W.heap.size W w' := by
  have he2 : ((s.size : Int) != 64) = false := by simp; omega
  have hi1 : (32 : Int) ≤ (s.size : Int) := by omega
  have hi2 : (0 : Int) ≤ (s.size : Int) := by omega
  have HX := Hid.mk (numberOf_in (s.extract 0 32) (by rw [ByteArray.size_extract]; omega))
  have HY := Hid.mk (numberOf_in (s.extract 32 s.size) (by rw [ByteArray.size_extract]; omega))
  have hxl : hiN s < N.Lim := numB_32 _ (by rw [ByteArray.size_extract]; omega)
  have hyl : loN s < N.Lim := numB_32 _ (by rw [ByteArray.size_extract]; omega)
  rw [show N.numB (s.extract 0 32).data.toList = hiN s from rfl] at HX
  rw [show N.numB (s.extract 32 s.size).data.toList = loN s from rfl] at HY
  generalize hiN s = x at *
  generalize loN s = y at *
  clear h
  have HC1 : Hid (∀ w, Cv w c mp mn → Calls Tryz.prog 75 #[boxM c, .agg (N.natL x).toArray] w fun e w' => e = .returned (.bool true) ∧ Below w.heap.size w w') := fun w h => by have := counts_in x w h hxl; rwa [h1] at this
  have HC2 : Hid (∀ w, Cv w c mp mn → Calls Tryz.prog 75 #[boxM c, .agg (N.natL y).toArray] w fun e w' => e = .returned (.bool (cntN y)) ∧ Below w.heap.size w w') := fun w h => counts_in y w h hyl
  generalize cntN y = D at HC2 ⊢
  clear h1 hxl hyl
  have hz := N.zero26
  obtain ⟨sx, hsx⟩ : ∃ t, s.extract 0 32 = t := ⟨_, rfl⟩
  obtain ⟨sy, hsy⟩ : ∃ t, s.extract 32 s.size = t := ⟨_, rfl⟩
  rw [hsx] at HX
  rw [hsy] at HY
  obtain ⟨V, hV, F⟩ : ∃ V, ((W.alloc (Obj.cells (N.natL 0).toArray 38 (0, 0))).alloc (Obj.cells (N.natL 0).toArray 38 (0, 0))) = V ∧ Fm W [(W.heap.size + 1, Obj.cells (N.natL 0).toArray 38 (0, 0)), (W.heap.size, Obj.cells (N.natL 0).toArray 38 (0, 0))] V := ⟨_, rfl, Fm.box2 W _ _⟩
  have Z : Fzz W (W.heap.size + 1) W.heap.size V := ⟨_, _, F⟩
  clear F
  have HS : Hid (∀ w, Fzz W (W.heap.size + 1) W.heap.size w → Fzz W (W.heap.size + 1) W.heap.size w ∧ (∀ v, (N.natStore (.pointer (some ⟨W.heap.size + 1, 0, none⟩)) (.agg (N.natL v).toArray)).run Tryz.prog w = .ok () (w.setRow (W.heap.size + 1) (N.natL v).toArray)) ∧ (∀ v, (N.natStore (.pointer (some ⟨W.heap.size, 0, none⟩)) (.agg (N.natL v).toArray)).run Tryz.prog w = .ok () (w.setRow W.heap.size (N.natL v).toArray))) := fun w h => ⟨h, h.st1, h.st2⟩
  have H1 : Hid (∀ w, Fzz W (W.heap.size + 1) W.heap.size w → Calls Tryz.prog 30 #[.string sx] w fun e w' => e = .returned (.agg (N.natL x).toArray) ∧ Below w.heap.size w w') := fun w _ => HX.out w
  have H2 : Hid (∀ w, Fzz W (W.heap.size + 1) W.heap.size w → Calls Tryz.prog 30 #[.string sy] w fun e w' => e = .returned (.agg (N.natL y).toArray) ∧ Below w.heap.size w w') := fun w _ => HY.out w
  clear HX HY
  go_enter Tryz.func39, Tryz.ntmps39
  go_upto_region 3 with fail
  clear hV
  try simp only [Nat.add_assoc, Nat.reduceAdd]
  have hS0 := HS.out _ Z
  go_cut [] (fun wx => Fm W [(W.heap.size + 1, Obj.cells (N.natL y).toArray 38 (0, 0)), (W.heap.size, Obj.cells (N.natL x).toArray 38 (0, 0))] wx)
  case first =>
    go_region_held3 (fun w => Fzz W (W.heap.size + 1) W.heap.size w ∧ (∀ v, (N.natStore (.pointer (some ⟨W.heap.size + 1, 0, none⟩)) (.agg (N.natL v).toArray)).run Tryz.prog w = .ok () (w.setRow (W.heap.size + 1) (N.natL v).toArray)) ∧ (∀ v, (N.natStore (.pointer (some ⟨W.heap.size, 0, none⟩)) (.agg (N.natL v).toArray)).run Tryz.prog w = .ok () (w.setRow W.heap.size (N.natL v).toArray)))
      (first | assumption | (apply HS.out; repeat (first | assumption | apply Fzz.drew | apply Fzz.set1 | apply Fzz.set2)))
      (first
        | (go_at_call 30; with_reducible refine (H1.out _ (by repeat (first | assumption | apply Fzz.drew | apply Fzz.set1 | apply Fzz.set2))).mono ?_; rintro e w2 ⟨rfl, hb2⟩; have Z2 := Fzz.blk (by repeat (first | assumption | apply Fzz.drew | apply Fzz.set1 | apply Fzz.set2)) hb2; have hs2 := HS.out _ Z2)
        | (go_at_call 30; with_reducible refine (H2.out _ (by repeat (first | assumption | apply Fzz.drew | apply Fzz.set1 | apply Fzz.set2))).mono ?_; rintro e w3 ⟨rfl, hb3⟩; have Z3 := Fzz.blk (by repeat (first | assumption | apply Fzz.drew | apply Fzz.set1 | apply Fzz.set2)) hb3; have hs3 := HS.out _ Z3))
    all_goals go_wp2
    all_goals go_meet
    all_goals (first | exact Z3.fin12 y x | exact Z3.fin21 y x)
  case rest =>
    have F := hcut
    clear hS0 Z HS H1 H2 hcut
    go_upto_region 4 with fail
    obtain ⟨L, hL⟩ : ∃ L : List (Nat × Obj), [(W.heap.size + 1, Obj.cells (N.natL y).toArray 38 (0, 0)), (W.heap.size, Obj.cells (N.natL x).toArray 38 (0, 0))] = L := ⟨_, rfl⟩
    rw [hL] at F
    have HS : Hid (∀ w, Fm W L w → Fm W L w ∧ (N.natLoad (.pointer (some ⟨W.heap.size, 0, none⟩))).run Tryz.prog w = .ok (.agg (N.natL x).toArray) w ∧ (N.natLoad (.pointer (some ⟨W.heap.size + 1, 0, none⟩))).run Tryz.prog w = .ok (.agg (N.natL y).toArray) w ∧ (N.natStore (.pointer (some ⟨W.heap.size, 0, none⟩)) (.agg (N.natL x).toArray)).run Tryz.prog w = .ok () (w.setRow W.heap.size (N.natL x).toArray) ∧ (N.natStore (.pointer (some ⟨W.heap.size + 1, 0, none⟩)) (.agg (N.natL y).toArray)).run Tryz.prog w = .ok () (w.setRow (W.heap.size + 1) (N.natL y).toArray)) := fun w h => ⟨h, N.natLoad_run (h.get 1 (by rw [← hL]; rfl)), N.natLoad_run (h.get 0 (by rw [← hL]; rfl)), N.natStore_run (h.get 1 (by rw [← hL]; rfl)), N.natStore_run (h.get 0 (by rw [← hL]; rfl))⟩
    have HP1 : Hid (∀ w, Fm W L w → Fm W L (w.setRow W.heap.size (N.natL x).toArray)) := by rw [Hid, ← hL]; exact fun w h => h.put 1 (N.natL x).toArray rfl
    have HP2 : Hid (∀ w, Fm W L w → Fm W L (w.setRow (W.heap.size + 1) (N.natL y).toArray)) := by rw [Hid, ← hL]; exact fun w h => h.put 0 (N.natL y).toArray rfl
    have HFL : Hid (∀ w, Fm W L w → w.heap[W.heap.size]? = some (Obj.cells (N.natL x).toArray 38 (0, 0)) ∧ w.heap[W.heap.size + 1]? = some (Obj.cells (N.natL y).toArray 38 (0, 0))) := fun w h => ⟨h.get 1 (by rw [← hL]; rfl), h.get 0 (by rw [← hL]; rfl)⟩
    have H1 : Hid (∀ w, Fm W L w → Calls Tryz.prog 75 #[boxM c, .agg (N.natL x).toArray] w fun e w' => e = .returned (.bool true) ∧ Below w.heap.size w w') := fun w h => HC1.out w (h.cv C)
    have H2 : Hid (∀ w, Fm W L w → Calls Tryz.prog 75 #[boxM c, .agg (N.natL y).toArray] w fun e w' => e = .returned (.bool D) ∧ Below w.heap.size w w') := fun w h => HC2.out w (h.cv C)
    clear HC1 HC2 hL
    have hS0 := HS.out _ F
    refine wp_region_held_drew (S := fun w => Fm W L w ∧ (N.natLoad (.pointer (some ⟨W.heap.size, 0, none⟩))).run Tryz.prog w = .ok (.agg (N.natL x).toArray) w ∧ (N.natLoad (.pointer (some ⟨W.heap.size + 1, 0, none⟩))).run Tryz.prog w = .ok (.agg (N.natL y).toArray) w ∧ (N.natStore (.pointer (some ⟨W.heap.size, 0, none⟩)) (.agg (N.natL x).toArray)).run Tryz.prog w = .ok () (w.setRow W.heap.size (N.natL x).toArray) ∧ (N.natStore (.pointer (some ⟨W.heap.size + 1, 0, none⟩)) (.agg (N.natL y).toArray)).run Tryz.prog w = .ok () (w.setRow (W.heap.size + 1) (N.natL y).toArray)) (by kernel_rfl) (HS.out _ F.drew) (fun hHeld => ?_)
    refine wpAnyH_take (i := 0) (v := ?vh4_0) rfl (by kernel_rfl) (by kernel_rfl) (by kernel_rfl) (fun _ _ _ h => h) (Or.inl ⟨by kernel_rfl, ?yh4_0⟩) (by assumption) ?_
    case yh4_0 => (intro w hSw; (try dsimp only at hSw); go_simp; try with_reducible rfl)
    refine wpAnyH_take (i := 1) (v := ?vh4_1) rfl (by kernel_rfl) (by kernel_rfl) (by kernel_rfl) (fun _ _ _ h => h) (Or.inl ⟨by kernel_rfl, ?yh4_1⟩) (by assumption) ?_
    case yh4_1 => (intro w hSw; (try dsimp only at hSw); go_simp; try with_reducible rfl)
    refine wpAnyH_take (i := 2) (v := ?vh4_2) rfl (by kernel_rfl) (by kernel_rfl) (by kernel_rfl) (fun _ _ _ h => h) (Or.inl ⟨by kernel_rfl, ?yh4_2⟩) (by assumption) ?_
    case yh4_2 => (intro w hSw; (try dsimp only at hSw); go_simp; try with_reducible rfl)
    refine wpAnyH_take (i := 3) (v := ?vh4_3) rfl (by kernel_rfl) (by kernel_rfl) (by kernel_rfl) (fun _ _ _ h => h) (Or.inl ⟨by kernel_rfl, ?yh4_3⟩) (by assumption) ?_
    case yh4_3 => (intro w hSw; (try dsimp only at hSw); go_simp; try with_reducible rfl)
    try simp only [Act.put, List.getElem_toArray, List.getElem_cons_succ, List.getElem_cons_zero, List.setIfInBounds_toArray, List.set_cons_zero, List.set_cons_succ]
    refine wpAnyH_ready (rs := [4]) (by kernel_rfl) (by simp) ?_
    refine AllReadyH.cons rfl (fun K hK => ?_) AllReadyH.nil
    go_simp
    go_at_call 75
    with_reducible refine (H1.out _ (by repeat (first | assumption | apply Fm.drew | apply Fz.drew | apply Fq.drew | apply Fm.alloc))).mono ?_
    rintro e w2 ⟨rfl, hb2⟩
    have F2 := Fm.blk (by repeat (first | assumption | apply Fm.drew | apply Fz.drew | apply Fq.drew | apply Fm.alloc)) hb2
    have hs2 := HS.out _ F2
    refine hK.out _ _ hs2 (fun hHeld2 => ?_)
    clear hK K
    try simp only [Act.put, List.getElem_toArray, List.getElem_cons_succ, List.getElem_cons_zero, List.setIfInBounds_toArray, List.set_cons_zero, List.set_cons_succ]
    refine wpAnyH_take (i := 5) (v := ?vh4_5) rfl (by kernel_rfl) (by kernel_rfl) (by kernel_rfl) (fun _ _ _ h => h) (Or.inl ⟨by kernel_rfl, ?yh4_5⟩) (by assumption) ?_
    case yh4_5 => (intro w hSw; (try dsimp only at hSw); go_simp; try with_reducible rfl)
    try simp only [Act.put, List.getElem_toArray, List.getElem_cons_succ, List.getElem_cons_zero, List.setIfInBounds_toArray, List.set_cons_zero, List.set_cons_succ]
    refine wpAnyH_take (i := 6) (v := ?vh4_6) rfl (by kernel_rfl) (by kernel_rfl) (by kernel_rfl) (fun _ _ _ h => h) (Or.inl ⟨by kernel_rfl, ?yh4_6⟩) (by assumption) ?_
    case yh4_6 => (intro w hSw; (try dsimp only at hSw); go_simp; try with_reducible rfl)
    refine wpAnyH_take (i := 7) (v := ?vh4_7) rfl (by kernel_rfl) (by kernel_rfl) (by kernel_rfl) (fun _ _ _ h => h) (Or.inl ⟨by kernel_rfl, ?yh4_7⟩) (by assumption) ?_
    case yh4_7 => (intro w hSw; (try dsimp only at hSw); go_simp; try with_reducible rfl)
    try simp only [Act.put, List.getElem_toArray, List.getElem_cons_succ, List.getElem_cons_zero, List.setIfInBounds_toArray, List.set_cons_zero, List.set_cons_succ]
    refine wpAnyH_ready (rs := [8]) (by kernel_rfl) (by simp) ?_
    refine AllReadyH.cons rfl (fun K hK => ?_) AllReadyH.nil
    go_simp
    go_at_call 75
    with_reducible refine (H2.out _ (by repeat (first | assumption | apply Fm.drew | apply Fz.drew | apply Fq.drew | apply Fm.alloc))).mono ?_
    rintro e w3 ⟨rfl, hb3⟩
    have F3 := Fm.blk (by repeat (first | assumption | apply Fm.drew | apply Fz.drew | apply Fq.drew | apply Fm.alloc)) hb3
    have hs3 := HS.out _ F3
    refine hK.out _ _ hs3 (fun hHeld3 => ?_)
    clear hK K
    try simp only [Act.put, List.getElem_toArray, List.getElem_cons_succ, List.getElem_cons_zero, List.setIfInBounds_toArray, List.set_cons_zero, List.set_cons_succ]
    refine wpAnyH_take (i := 9) (v := ?vh4_9) rfl (by kernel_rfl) (by kernel_rfl) (by kernel_rfl) (fun _ _ _ h => h) (Or.inl ⟨by kernel_rfl, ?yh4_9⟩) (by assumption) ?_
    case yh4_9 => (intro w hSw; (try dsimp only at hSw); go_simp; try with_reducible rfl)
    try simp only [Act.put, List.getElem_toArray, List.getElem_cons_succ, List.getElem_cons_zero, List.setIfInBounds_toArray, List.set_cons_zero, List.set_cons_succ]
    refine wpAnyH_ready (rs := [10]) (by kernel_rfl) (by simp) ?_
    refine AllReadyH.cons rfl (fun K hK => ?_) AllReadyH.nil
    go_simp
    have F8 := HP1.out _ F3
    have hs8 := HS.out _ F8
    refine hK.out _ _ hs8 (fun hHeld8 => ?_)
    clear hK K
    try simp only [Act.put, List.getElem_toArray, List.getElem_cons_succ, List.getElem_cons_zero, List.setIfInBounds_toArray, List.set_cons_zero, List.set_cons_succ]
    refine wpAnyH_ready (rs := [11]) (by kernel_rfl) (by simp) ?_
    refine AllReadyH.cons rfl (fun K hK => ?_) AllReadyH.nil
    go_simp
    have F9 := HP2.out _ F8
    have hs9 := HS.out _ F9
    refine hK.out _ _ hs9 (fun hHeld9 => ?_)
    clear hK K
    try simp only [Act.put, List.getElem_toArray, List.getElem_cons_succ, List.getElem_cons_zero, List.setIfInBounds_toArray, List.set_cons_zero, List.set_cons_succ]
    refine wpAnyH_take (i := 12) (v := ?vh4_12) rfl (by kernel_rfl) (by kernel_rfl) (by kernel_rfl) (fun _ _ _ h => h) (Or.inl ⟨by kernel_rfl, ?yh4_12⟩) (by assumption) ?_
    case yh4_12 => (intro w hSw; (try dsimp only at hSw); go_simp; try with_reducible rfl)
    try simp only [Act.put, List.getElem_toArray, List.getElem_cons_succ, List.getElem_cons_zero, List.setIfInBounds_toArray, List.set_cons_zero, List.set_cons_succ]
    refine wpAnyH_done (by kernel_rfl) ?_ _
    obtain ⟨q1, q2⟩ := HFL.out _ F9
    go_wp2
    exact bodyPost_ret (N.results_nat3 Tryz.results39 rfl rfl rfl q1 q2 (N.natL_len x) (N.natL_len y)) rfl ⟨rfl, F9.bel⟩
theorem partsOf_in {c mp mn : Nat} (s : ByteArray) (W : World) (C : Cv W c mp mn) (h : s.size = 64) : Calls Tryz.prog 39 #[boxM c, .string s] W fun e w' => e = .returned (.tuple #[.agg (N.natL (hiN s)).toArray, .agg (N.natL (loN s)).toArray, .bool (cntN (hiN s) && cntN (loN s))]) ∧ Below W.heap.size W w' := by
  cases h1 : cntN (hiN s) with
  | false => exact parts_f s W C h h1
  | true =>
    rw [Bool.true_and]
    exact parts_t s W C h h1
end Go.Proofs.YtpimliebiapnfaaGreatDoor