/- Texts of this proof, joined: AhDh, AhDo, AhRr, LfL, LfP. -/
import Derived.Test.YtdlcldjlfhmlgaaGreatDoorJ36
import Derived.Test.YtdlcldjlfhmlgaaGreatDoorJ23
import Derived.Test.YtdlcldjlfhmlgaaGreatDoorJ25
import Derived.Test.YtdlcldjlfhmlgaaGreatDoorJ24
import Derived.Test.YtdlcldjlfhmlgaaGreatDoorJ26
set_option linter.unusedVariables false
set_option linter.unusedSimpArgs false
/- Layer 13: the document's RightPrefix, Holds. -/
namespace Go.Proofs.YtdlcldjlfhmlgaaGreatDoor.A
open Go.RowKit
def RpRel (V : World) (a : Ad) (n : Nat) (i : Value) (wr : World) : Prop := ∃ k : Nat, i = .int .i64 (k : Int) ∧ n ≤ k ∧ k ≤ a.wd ∧ (∀ j, n ≤ j → j < k → a.bt j = false) ∧ Kp V wr
set_option maxRecDepth 100000 in
set_option maxHeartbeats 4000000 in
theorem drp_1 (W : World) (v : Bool) (h l : Nat) (n : Int) (hr : ¬ Ad.right ⟨v, h, l⟩) :
  Calls Tryz.prog 79 #[pfV v h l n] W fun e w' => e = .returned (.bool false) ∧ Below W.heap.size W w' := by
 have H1 : Hid (∀ w, Calls Tryz.prog 78 #[adV v h l] w fun e w' => e = .returned (.bool false) ∧ Below w.heap.size w w') := fun w => by have := rright_in w v h l; rwa [decide_eq_false hr] at this
 clear hr
 obtain ⟨V, hV, F, HB⟩ : ∃ V, W.alloc (pfO v h l n) = V ∧ Kp V V ∧ Hid (Below W.heap.size W V) := ⟨_, rfl, Kp.refl _, by unfold Hid; go_grown⟩
 have HS : Hid (∀ w, Kp V w → Kp V w ∧ w.cell? ⟨W.heap.size, 0, none⟩ = some (.bool v) ∧ w.cell? ⟨W.heap.size, 1, none⟩ = some (.int .u64 (h : Int)) ∧ w.cell? ⟨W.heap.size, 2, none⟩ = some (.int .u64 (l : Int)) ∧ w.cell? ⟨W.heap.size, 3, none⟩ = some (.int .i64 n)) := fun w k => by
  have hc := pf_cells W v h l n
  rw [hV] at hc
  have hb : W.heap.size < V.heap.size := by rw [← hV]; simp
  exact ⟨k, k.cell hc.1 hb, k.cell hc.2.1 hb, k.cell hc.2.2.1 hb, k.cell hc.2.2.2 hb⟩
 have hV0 := (HS.out _ F).2
 go_enter Tryz.func79, Tryz.ntmps79
 go_wp2_with fail
 try rw [hV]
 clear hV
 refine (H1.out _).mono ?_
 rintro e w1 ⟨rfl, hb1⟩
 have F1 := F.blk hb1
 have hs1 := (HS.out _ F1).2
 clear hb1 hV0
 go_upto_region 2 with fail
 refine wp_region_held_drew (S := fun w => Kp V w ∧ w.cell? ⟨W.heap.size, 0, none⟩ = some (.bool v) ∧ w.cell? ⟨W.heap.size, 1, none⟩ = some (.int .u64 (h : Int)) ∧ w.cell? ⟨W.heap.size, 2, none⟩ = some (.int .u64 (l : Int)) ∧ w.cell? ⟨W.heap.size, 3, none⟩ = some (.int .i64 n)) (by kernel_rfl) (HS.out _ (Kp.drew F1)) (fun hHeld => ?_)
 refine wU (i := 0) (v := ?vh1_0) rfl ?yh1_0 (by assumption) ?_
 case yh1_0 => (intro w hSw; (try dsimp only at hSw); go_simp; try with_reducible rfl)
 refine wU (i := 1) (v := ?vh1_1) rfl ?yh1_1 (by assumption) ?_
 case yh1_1 => (intro w hSw; (try dsimp only at hSw); go_simp; try with_reducible rfl)
 refine wU (i := 2) (v := ?vh1_2) rfl ?yh1_2 (by assumption) ?_
 case yh1_2 => (intro w hSw; (try dsimp only at hSw); go_simp; try with_reducible rfl)
 try simp only [Act.put, List.getElem_toArray, List.getElem_cons_succ, List.getElem_cons_zero, List.setIfInBounds_toArray, List.set_cons_zero, List.set_cons_succ]
 refine wT (i := 3) (v := undef) rfl (Or.inr ⟨by kernel_rfl, rfl⟩) (by assumption) ?_
 refine wT (i := 4) (v := undef) rfl (Or.inr ⟨by kernel_rfl, rfl⟩) (by assumption) ?_
 refine wT (i := 5) (v := undef) rfl (Or.inr ⟨by kernel_rfl, rfl⟩) (by assumption) ?_
 try simp only [Act.put, List.getElem_toArray, List.getElem_cons_succ, List.getElem_cons_zero, List.setIfInBounds_toArray, List.set_cons_zero, List.set_cons_succ]
 refine wU (i := 6) (v := ?vh1_6) rfl ?yh1_6 (by assumption) ?_
 case yh1_6 => (intro w hSw; (try dsimp only at hSw); go_simp; try with_reducible rfl)
 refine wU (i := 7) (v := ?vh1_7) rfl ?yh1_7 (by assumption) ?_
 case yh1_7 => (intro w hSw; (try dsimp only at hSw); go_simp; try with_reducible rfl)
 try simp only [Act.put, List.getElem_toArray, List.getElem_cons_succ, List.getElem_cons_zero, List.setIfInBounds_toArray, List.set_cons_zero, List.set_cons_succ]
 refine wT (i := 8) (v := undef) rfl (Or.inr ⟨by kernel_rfl, rfl⟩) (by assumption) ?_
 refine wT (i := 9) (v := undef) rfl (Or.inr ⟨by kernel_rfl, rfl⟩) (by assumption) ?_
 refine wT (i := 10) (v := undef) rfl (Or.inr ⟨by kernel_rfl, rfl⟩) (by assumption) ?_
 refine wT (i := 11) (v := undef) rfl (Or.inr ⟨by kernel_rfl, rfl⟩) (by assumption) ?_
 refine wT (i := 12) (v := undef) rfl (Or.inr ⟨by kernel_rfl, rfl⟩) (by assumption) ?_
 refine wT (i := 13) (v := undef) rfl (Or.inr ⟨by kernel_rfl, rfl⟩) (by assumption) ?_
 try simp only [Act.put, List.getElem_toArray, List.getElem_cons_succ, List.getElem_cons_zero, List.setIfInBounds_toArray, List.set_cons_zero, List.set_cons_succ]
 refine wU (i := 14) (v := ?vh1_14) rfl ?yh1_14 (by assumption) ?_
 case yh1_14 => (intro w hSw; (try dsimp only at hSw); go_simp; try with_reducible rfl)
 try simp only [Act.put, List.getElem_toArray, List.getElem_cons_succ, List.getElem_cons_zero, List.setIfInBounds_toArray, List.set_cons_zero, List.set_cons_succ]
 refine wpAnyH_done (by kernel_rfl) ?_ _
 go_wp2
 go_ret
 exact ⟨rfl, (F1.bel HB.out).drew⟩
set_option maxRecDepth 100000 in
set_option maxHeartbeats 4000000 in
theorem drp_2 (W : World) (v : Bool) (h l : Nat) (n : Int) (hr : Ad.right ⟨v, h, l⟩) (hn : n < 0) :
  Calls Tryz.prog 79 #[pfV v h l n] W fun e w' => e = .returned (.bool false) ∧ Below W.heap.size W w' := by
 have H1 : Hid (∀ w, Calls Tryz.prog 78 #[adV v h l] w fun e w' => e = .returned (.bool true) ∧ Below w.heap.size w w') := fun w => by have := rright_in w v h l; rwa [decide_eq_true hr] at this
 clear hr
 have hd : decide (n < 0) = true := decide_eq_true hn
 obtain ⟨V, hV, F, HB⟩ : ∃ V, W.alloc (pfO v h l n) = V ∧ Kp V V ∧ Hid (Below W.heap.size W V) := ⟨_, rfl, Kp.refl _, by unfold Hid; go_grown⟩
 have HS : Hid (∀ w, Kp V w → Kp V w ∧ w.cell? ⟨W.heap.size, 0, none⟩ = some (.bool v) ∧ w.cell? ⟨W.heap.size, 1, none⟩ = some (.int .u64 (h : Int)) ∧ w.cell? ⟨W.heap.size, 2, none⟩ = some (.int .u64 (l : Int)) ∧ w.cell? ⟨W.heap.size, 3, none⟩ = some (.int .i64 n)) := fun w k => by
  have hc := pf_cells W v h l n
  rw [hV] at hc
  have hb : W.heap.size < V.heap.size := by rw [← hV]; simp
  exact ⟨k, k.cell hc.1 hb, k.cell hc.2.1 hb, k.cell hc.2.2.1 hb, k.cell hc.2.2.2 hb⟩
 have hV0 := (HS.out _ F).2
 go_enter Tryz.func79, Tryz.ntmps79
 go_wp2_with fail
 try rw [hV]
 clear hV
 refine (H1.out _).mono ?_
 rintro e w1 ⟨rfl, hb1⟩
 have F1 := F.blk hb1
 have hs1 := (HS.out _ F1).2
 clear hb1 hV0
 go_upto_region 2 with fail
 refine wp_region_held_drew (S := fun w => Kp V w ∧ w.cell? ⟨W.heap.size, 0, none⟩ = some (.bool v) ∧ w.cell? ⟨W.heap.size, 1, none⟩ = some (.int .u64 (h : Int)) ∧ w.cell? ⟨W.heap.size, 2, none⟩ = some (.int .u64 (l : Int)) ∧ w.cell? ⟨W.heap.size, 3, none⟩ = some (.int .i64 n)) (by kernel_rfl) (HS.out _ (Kp.drew F1)) (fun hHeld => ?_)
 refine wU (i := 0) (v := ?vh2_0) rfl ?yh2_0 (by assumption) ?_
 case yh2_0 => (intro w hSw; (try dsimp only at hSw); go_simp; try with_reducible rfl)
 refine wU (i := 1) (v := ?vh2_1) rfl ?yh2_1 (by assumption) ?_
 case yh2_1 => (intro w hSw; (try dsimp only at hSw); go_simp; try with_reducible rfl)
 refine wU (i := 2) (v := ?vh2_2) rfl ?yh2_2 (by assumption) ?_
 case yh2_2 => (intro w hSw; (try dsimp only at hSw); go_simp; try with_reducible rfl)
 refine wU (i := 3) (v := ?vh2_3) rfl ?yh2_3 (by assumption) ?_
 case yh2_3 => (intro w hSw; (try dsimp only at hSw); go_simp; try with_reducible rfl)
 refine wU (i := 4) (v := ?vh2_4) rfl ?yh2_4 (by assumption) ?_
 case yh2_4 => (intro w hSw; (try dsimp only at hSw); go_simp; try with_reducible rfl)
 refine wU (i := 5) (v := ?vh2_5) rfl ?yh2_5 (by assumption) ?_
 case yh2_5 => (intro w hSw; (try dsimp only at hSw); go_simp; try with_reducible rfl)
 refine wU (i := 6) (v := ?vh2_6) rfl ?yh2_6 (by assumption) ?_
 case yh2_6 => (intro w hSw; (try dsimp only at hSw); go_simp; try with_reducible rfl)
 refine wU (i := 7) (v := ?vh2_7) rfl ?yh2_7 (by assumption) ?_
 case yh2_7 => (intro w hSw; (try dsimp only at hSw); go_simp; try with_reducible rfl)
 try simp only [Act.put, List.getElem_toArray, List.getElem_cons_succ, List.getElem_cons_zero, List.setIfInBounds_toArray, List.set_cons_zero, List.set_cons_succ]
 refine wT (i := 8) (v := undef) rfl (Or.inr ⟨by kernel_rfl, rfl⟩) (by assumption) ?_
 refine wT (i := 9) (v := undef) rfl (Or.inr ⟨by kernel_rfl, rfl⟩) (by assumption) ?_
 refine wT (i := 10) (v := undef) rfl (Or.inr ⟨by kernel_rfl, rfl⟩) (by assumption) ?_
 refine wT (i := 11) (v := undef) rfl (Or.inr ⟨by kernel_rfl, rfl⟩) (by assumption) ?_
 refine wT (i := 12) (v := undef) rfl (Or.inr ⟨by kernel_rfl, rfl⟩) (by assumption) ?_
 refine wT (i := 13) (v := undef) rfl (Or.inr ⟨by kernel_rfl, rfl⟩) (by assumption) ?_
 try simp only [Act.put, List.getElem_toArray, List.getElem_cons_succ, List.getElem_cons_zero, List.setIfInBounds_toArray, List.set_cons_zero, List.set_cons_succ]
 refine wU (i := 14) (v := ?vh2_14) rfl ?yh2_14 (by assumption) ?_
 case yh2_14 => (intro w hSw; (try dsimp only at hSw); go_simp; try with_reducible rfl)
 try simp only [Act.put, List.getElem_toArray, List.getElem_cons_succ, List.getElem_cons_zero, List.setIfInBounds_toArray, List.set_cons_zero, List.set_cons_succ]
 refine wpAnyH_done (by kernel_rfl) ?_ _
 go_wp2
 go_ret
 exact ⟨rfl, (F1.bel HB.out).drew⟩
set_option maxRecDepth 100000 in
set_option maxHeartbeats 4000000 in
theorem drp_3 (W : World) (v : Bool) (h l : Nat) (n : Int) (hr : Ad.right ⟨v, h, l⟩) (hn : 0 ≤ n) (hw : (Ad.wd ⟨v, h, l⟩ : Int) < n) :
  Calls Tryz.prog 79 #[pfV v h l n] W fun e w' => e = .returned (.bool false) ∧ Below W.heap.size W w' := by
 have H1 : Hid (∀ w, Calls Tryz.prog 78 #[adV v h l] w fun e w' => e = .returned (.bool true) ∧ Below w.heap.size w w') := fun w => by have := rright_in w v h l; rwa [decide_eq_true hr] at this
 clear hr
 have hd : decide (n < 0) = false := decide_eq_false (by omega)
 have H2 := Hid.mk (fun w => rwidth_in w v h l)
 generalize Ad.wd ⟨v, h, l⟩ = X at hw H2
 have hd2 : decide ((X : Int) < n) = true := decide_eq_true hw
 obtain ⟨V, hV, F, HB⟩ : ∃ V, W.alloc (pfO v h l n) = V ∧ Kp V V ∧ Hid (Below W.heap.size W V) := ⟨_, rfl, Kp.refl _, by unfold Hid; go_grown⟩
 have HS : Hid (∀ w, Kp V w → Kp V w ∧ w.cell? ⟨W.heap.size, 0, none⟩ = some (.bool v) ∧ w.cell? ⟨W.heap.size, 1, none⟩ = some (.int .u64 (h : Int)) ∧ w.cell? ⟨W.heap.size, 2, none⟩ = some (.int .u64 (l : Int)) ∧ w.cell? ⟨W.heap.size, 3, none⟩ = some (.int .i64 n)) := fun w k => by
  have hc := pf_cells W v h l n
  rw [hV] at hc
  have hb : W.heap.size < V.heap.size := by rw [← hV]; simp
  exact ⟨k, k.cell hc.1 hb, k.cell hc.2.1 hb, k.cell hc.2.2.1 hb, k.cell hc.2.2.2 hb⟩
 have hV0 := (HS.out _ F).2
 go_enter Tryz.func79, Tryz.ntmps79
 go_wp2_with fail
 try rw [hV]
 clear hV
 refine (H1.out _).mono ?_
 rintro e w1 ⟨rfl, hb1⟩
 have F1 := F.blk hb1
 have hs1 := (HS.out _ F1).2
 clear hb1 hV0
 go_upto_region 2 with fail
 refine wp_region_held_drew (S := fun w => Kp V w ∧ w.cell? ⟨W.heap.size, 0, none⟩ = some (.bool v) ∧ w.cell? ⟨W.heap.size, 1, none⟩ = some (.int .u64 (h : Int)) ∧ w.cell? ⟨W.heap.size, 2, none⟩ = some (.int .u64 (l : Int)) ∧ w.cell? ⟨W.heap.size, 3, none⟩ = some (.int .i64 n)) (by kernel_rfl) (HS.out _ (Kp.drew F1)) (fun hHeld => ?_)
 refine wU (i := 0) (v := ?vh3_0) rfl ?yh3_0 (by assumption) ?_
 case yh3_0 => (intro w hSw; (try dsimp only at hSw); go_simp; try with_reducible rfl)
 refine wU (i := 1) (v := ?vh3_1) rfl ?yh3_1 (by assumption) ?_
 case yh3_1 => (intro w hSw; (try dsimp only at hSw); go_simp; try with_reducible rfl)
 refine wU (i := 2) (v := ?vh3_2) rfl ?yh3_2 (by assumption) ?_
 case yh3_2 => (intro w hSw; (try dsimp only at hSw); go_simp; try with_reducible rfl)
 refine wU (i := 3) (v := ?vh3_3) rfl ?yh3_3 (by assumption) ?_
 case yh3_3 => (intro w hSw; (try dsimp only at hSw); go_simp; try with_reducible rfl)
 refine wU (i := 4) (v := ?vh3_4) rfl ?yh3_4 (by assumption) ?_
 case yh3_4 => (intro w hSw; (try dsimp only at hSw); go_simp; try with_reducible rfl)
 refine wU (i := 5) (v := ?vh3_5) rfl ?yh3_5 (by assumption) ?_
 case yh3_5 => (intro w hSw; (try dsimp only at hSw); go_simp; try with_reducible rfl)
 refine wU (i := 6) (v := ?vh3_6) rfl ?yh3_6 (by assumption) ?_
 case yh3_6 => (intro w hSw; (try dsimp only at hSw); go_simp; try with_reducible rfl)
 refine wU (i := 7) (v := ?vh3_7) rfl ?yh3_7 (by assumption) ?_
 case yh3_7 => (intro w hSw; (try dsimp only at hSw); go_simp; try with_reducible rfl)
 refine wU (i := 8) (v := ?vh3_8) rfl ?yh3_8 (by assumption) ?_
 case yh3_8 => (intro w hSw; (try dsimp only at hSw); go_simp; try with_reducible rfl)
 refine wU (i := 9) (v := ?vh3_9) rfl ?yh3_9 (by assumption) ?_
 case yh3_9 => (intro w hSw; (try dsimp only at hSw); go_simp; try with_reducible rfl)
 refine wU (i := 10) (v := ?vh3_10) rfl ?yh3_10 (by assumption) ?_
 case yh3_10 => (intro w hSw; (try dsimp only at hSw); go_simp; try with_reducible rfl)
 refine wU (i := 11) (v := ?vh3_11) rfl ?yh3_11 (by assumption) ?_
 case yh3_11 => (intro w hSw; (try dsimp only at hSw); go_simp; try with_reducible rfl)
 try simp only [Act.put, List.getElem_toArray, List.getElem_cons_succ, List.getElem_cons_zero, List.setIfInBounds_toArray, List.set_cons_zero, List.set_cons_succ]
 refine wpAnyH_ready (rs := [12]) (by kernel_rfl) (by simp) ?_
 refine AllReadyH.cons rfl (fun K hK => ?_) AllReadyH.nil
 go_simp
 go_at_call 108
 with_reducible refine (H2.out _).mono ?_
 rintro e w3 ⟨rfl, hb3⟩
 have F3 := Kp.blk (V := V) (by repeat (first | assumption | apply Kp.drew)) hb3
 have hs3 := HS.out _ F3
 refine hK.out _ _ hs3 (fun hHeld3 => ?_)
 clear hK K
 try simp only [Act.put, List.getElem_toArray, List.getElem_cons_succ, List.getElem_cons_zero, List.setIfInBounds_toArray, List.set_cons_zero, List.set_cons_succ]
 refine wU (i := 13) (v := ?vh3_13) rfl ?yh3_13 (by assumption) ?_
 case yh3_13 => (intro w hSw; (try dsimp only at hSw); go_simp; try with_reducible rfl)
 refine wU (i := 14) (v := ?vh3_14) rfl ?yh3_14 (by assumption) ?_
 case yh3_14 => (intro w hSw; (try dsimp only at hSw); go_simp; try with_reducible rfl)
 try simp only [Act.put, List.getElem_toArray, List.getElem_cons_succ, List.getElem_cons_zero, List.setIfInBounds_toArray, List.set_cons_zero, List.set_cons_succ]
 refine wpAnyH_done (by kernel_rfl) ?_ _
 go_wp2
 go_ret
 exact ⟨rfl, F3.bel HB.out⟩
set_option maxRecDepth 100000 in
set_option maxHeartbeats 4000000 in
theorem drp_4 (W : World) (v : Bool) (h l : Nat) (n : Int) (m : Nat) (hm : n = m) (hh : h < 2 ^ 64) (hl : l < 2 ^ 64) (hr : Ad.right ⟨v, h, l⟩) (hw : m ≤ Ad.wd ⟨v, h, l⟩) :
  Calls Tryz.prog 79 #[pfV v h l n] W fun e w' => e = .returned (.bool (decide (Ad.fst ⟨v, h, l⟩ m = ⟨v, h, l⟩))) ∧ Below W.heap.size W w' := by
 subst hm
 have H1 : Hid (∀ w, Calls Tryz.prog 78 #[adV v h l] w fun e w' => e = .returned (.bool true) ∧ Below w.heap.size w w') := fun w => by have := rright_in w v h l; rwa [decide_eq_true hr] at this
 have H2 := Hid.mk (fun w => rwidth_in w v h l)
 obtain ⟨a, ha⟩ : ∃ a : Ad, (⟨v, h, l⟩ : Ad) = a := ⟨_, rfl⟩
 have haok : a.ok := by rw [← ha]; exact ⟨hh, hl⟩
 have H3 : Hid (∀ w (k : Nat), k < a.wd → Calls Tryz.prog 109 #[adV v h l, .int .i64 (k : Int)] w fun e w' => e = .returned (.int .u64 (((a.bt k).toNat : Nat) : Int)) ∧ Below w.heap.size w w') := fun w k hk => by
  have := bit_in w v h l k hh hl hr (by rw [ha]; exact hk)
  rwa [ha] at this
 rw [ha] at hr hw H2 ⊢
 have HFS := Hid.mk (fst_self haok hr hw)
 have hwd : a.wd ≤ 128 := by unfold Ad.wd; split <;> omega
 obtain ⟨RES, hRES⟩ : ∃ RES, decide (a.fst m = a) = RES := ⟨_, rfl⟩
 rw [hRES]
 have HT : Hid ((∀ k, m ≤ k → k < a.wd → a.bt k = false) → RES = true) := fun hk => by rw [← hRES]; exact decide_eq_true (HFS.out.2 hk)
 have HF : Hid (∀ k, m ≤ k → k < a.wd → a.bt k = true → RES = false) := fun k h1 h2 h3 => by
  rw [← hRES]
  exact decide_eq_false (fun e => by have := HFS.out.1 e k h1 h2; rw [h3] at this; cases this)
 clear hRES HFS
 obtain ⟨X, hX⟩ : ∃ X, a.wd = X := ⟨_, rfl⟩
 rw [hX] at H2 hw hwd
 have HX := Hid.mk hX
 have hd : decide ((m : Int) < 0) = false := decide_eq_false (by omega)
 have hd2 : decide ((X : Int) < (m : Int)) = false := decide_eq_false (by omega)
 have hd3 : decide (X < m) = false := decide_eq_false (by omega)
 clear hh hl hr ha haok hX
 obtain ⟨V, hV, F, HB⟩ : ∃ V, W.alloc (pfO v h l (m : Int)) = V ∧ Kp V V ∧ Hid (Below W.heap.size W V) := ⟨_, rfl, Kp.refl _, by unfold Hid; go_grown⟩
 have HS : Hid (∀ w, Kp V w → Kp V w ∧ w.cell? ⟨W.heap.size, 0, none⟩ = some (.bool v) ∧ w.cell? ⟨W.heap.size, 1, none⟩ = some (.int .u64 (h : Int)) ∧ w.cell? ⟨W.heap.size, 2, none⟩ = some (.int .u64 (l : Int)) ∧ w.cell? ⟨W.heap.size, 3, none⟩ = some (.int .i64 (m : Int))) := fun w k => by
  have hc := pf_cells W v h l (m : Int)
  rw [hV] at hc
  have hb : W.heap.size < V.heap.size := by rw [← hV]; simp
  exact ⟨k, k.cell hc.1 hb, k.cell hc.2.1 hb, k.cell hc.2.2.1 hb, k.cell hc.2.2.2 hb⟩
 have hV0 := (HS.out _ F).2
 go_enter Tryz.func79, Tryz.ntmps79
 go_wp2_with fail
 try rw [hV]
 clear hV
 refine (H1.out _).mono ?_
 rintro e w1 ⟨rfl, hb1⟩
 have F1 := F.blk hb1
 have hs1 := (HS.out _ F1).2
 clear hb1 hV0
 go_upto_region 2 with fail
 refine wp_region_held_drew (S := fun w => Kp V w ∧ w.cell? ⟨W.heap.size, 0, none⟩ = some (.bool v) ∧ w.cell? ⟨W.heap.size, 1, none⟩ = some (.int .u64 (h : Int)) ∧ w.cell? ⟨W.heap.size, 2, none⟩ = some (.int .u64 (l : Int)) ∧ w.cell? ⟨W.heap.size, 3, none⟩ = some (.int .i64 (m : Int))) (by kernel_rfl) (HS.out _ (Kp.drew F1)) (fun hHeld => ?_)
 refine wU (i := 0) (v := ?vh4_0) rfl ?yh4_0 (by assumption) ?_
 case yh4_0 => (intro w hSw; (try dsimp only at hSw); go_simp; try with_reducible rfl)
 refine wU (i := 1) (v := ?vh4_1) rfl ?yh4_1 (by assumption) ?_
 case yh4_1 => (intro w hSw; (try dsimp only at hSw); go_simp; try with_reducible rfl)
 refine wU (i := 2) (v := ?vh4_2) rfl ?yh4_2 (by assumption) ?_
 case yh4_2 => (intro w hSw; (try dsimp only at hSw); go_simp; try with_reducible rfl)
 refine wU (i := 3) (v := ?vh4_3) rfl ?yh4_3 (by assumption) ?_
 case yh4_3 => (intro w hSw; (try dsimp only at hSw); go_simp; try with_reducible rfl)
 refine wU (i := 4) (v := ?vh4_4) rfl ?yh4_4 (by assumption) ?_
 case yh4_4 => (intro w hSw; (try dsimp only at hSw); go_simp; try with_reducible rfl)
 refine wU (i := 5) (v := ?vh4_5) rfl ?yh4_5 (by assumption) ?_
 case yh4_5 => (intro w hSw; (try dsimp only at hSw); go_simp; try with_reducible rfl)
 refine wU (i := 6) (v := ?vh4_6) rfl ?yh4_6 (by assumption) ?_
 case yh4_6 => (intro w hSw; (try dsimp only at hSw); go_simp; try with_reducible rfl)
 refine wU (i := 7) (v := ?vh4_7) rfl ?yh4_7 (by assumption) ?_
 case yh4_7 => (intro w hSw; (try dsimp only at hSw); go_simp; try with_reducible rfl)
 refine wU (i := 8) (v := ?vh4_8) rfl ?yh4_8 (by assumption) ?_
 case yh4_8 => (intro w hSw; (try dsimp only at hSw); go_simp; try with_reducible rfl)
 refine wU (i := 9) (v := ?vh4_9) rfl ?yh4_9 (by assumption) ?_
 case yh4_9 => (intro w hSw; (try dsimp only at hSw); go_simp; try with_reducible rfl)
 refine wU (i := 10) (v := ?vh4_10) rfl ?yh4_10 (by assumption) ?_
 case yh4_10 => (intro w hSw; (try dsimp only at hSw); go_simp; try with_reducible rfl)
 refine wU (i := 11) (v := ?vh4_11) rfl ?yh4_11 (by assumption) ?_
 case yh4_11 => (intro w hSw; (try dsimp only at hSw); go_simp; try with_reducible rfl)
 try simp only [Act.put, List.getElem_toArray, List.getElem_cons_succ, List.getElem_cons_zero, List.setIfInBounds_toArray, List.set_cons_zero, List.set_cons_succ]
 refine wpAnyH_ready (rs := [12]) (by kernel_rfl) (by simp) ?_
 refine AllReadyH.cons rfl (fun K hK => ?_) AllReadyH.nil
 go_simp
 go_at_call 108
 with_reducible refine (H2.out _).mono ?_
 rintro e w3 ⟨rfl, hb3⟩
 have F3 := Kp.blk (V := V) (by repeat (first | assumption | apply Kp.drew)) hb3
 have hs3 := HS.out _ F3
 refine hK.out _ _ hs3 (fun hHeld3 => ?_)
 clear hK K
 try simp only [Act.put, List.getElem_toArray, List.getElem_cons_succ, List.getElem_cons_zero, List.setIfInBounds_toArray, List.set_cons_zero, List.set_cons_succ]
 refine wU (i := 13) (v := ?vh4_13) rfl ?yh4_13 (by assumption) ?_
 case yh4_13 => (intro w hSw; (try dsimp only at hSw); go_simp; try with_reducible rfl)
 refine wU (i := 14) (v := ?vh4_14) rfl ?yh4_14 (by assumption) ?_
 case yh4_14 => (intro w hSw; (try dsimp only at hSw); go_simp; try with_reducible rfl)
 try simp only [Act.put, List.getElem_toArray, List.getElem_cons_succ, List.getElem_cons_zero, List.setIfInBounds_toArray, List.set_cons_zero, List.set_cons_succ]
 refine wpAnyH_done (by kernel_rfl) ?_ _
 have hs3' := hs3.2
 go_wp2
 try simp only [hd3]
 go_loopw [4] (fun i wr => RpRel V a m i wr) (fun i _ => X + 1 - (intOf i).toNat)
 case atStart => exact ⟨m, rfl, Nat.le_refl _, by rw [HX.out]; exact hw, fun j h1 h2 => by omega, F3⟩
 case round =>
  obtain ⟨k, rfl, hk1, hk2, hk3, K⟩ := hrel
  rw [HX.out] at hk2
  have hsr := (HS.out _ K).2
  have HK3 := Hid.mk hk3
  clear hk3 hs3 hs3' hs1
  go_wp2_with fail
  refine (H2.out _).mono ?_
  rintro e w4 ⟨rfl, hb4⟩
  have K4 := K.blk hb4
  have hs4 := (HS.out _ K4).2
  clear hb4 hsr
  by_cases hlt : k < X
  ·have hki : (k : Int) < (X : Int) := by omega
   go_wp2_with fail
   refine (H3.out _ k (by rw [HX.out]; exact hlt)).mono ?_
   rintro e w5 ⟨rfl, hb5⟩
   have K5 := K4.blk hb5
   have hs5 := (HS.out _ K5).2
   clear hb5 hs4
   cases hbk : a.bt k with
   | true =>
    have HR := Hid.mk (HF.out k hk1 (by rw [HX.out]; exact hlt) hbk)
    clear hbk
    simp only [Bool.toNat_true]
    go_wp2
    go_ret
    exact ⟨by rw [HR.out]; rfl, K5.bel HB.out⟩
   | false =>
    have HN : Hid (RpRel V a m (.int .i64 ((k : Int) + 1)) w5) := ⟨k + 1, by go_num, by omega, by rw [HX.out]; omega, fun j h1 h2 => by
     rcases Nat.lt_or_eq_of_le (Nat.le_of_lt_succ h2) with h | rfl
     ·exact HK3.out j h1 h
     ·exact hbk, K5⟩
    clear hbk
    simp only [Bool.toNat_false]
    go_wp2
    exact ⟨HN.out, by simp [intOf]; omega⟩
  ·obtain rfl : k = X := by omega
   have HR := Hid.mk (HT.out (fun j h1 h2 => HK3.out j h1 (by rw [← HX.out]; exact h2)))
   go_wp2
   go_ret
   exact ⟨by rw [HR.out]; rfl, K4.bel HB.out⟩
theorem drp_in (W : World) (v : Bool) (h l : Nat) (n : Int) (hh : h < 2 ^ 64) (hl : l < 2 ^ 64) :
  Calls Tryz.prog 79 #[pfV v h l n] W fun e w' => e = .returned (.bool (decide (0 ≤ n ∧ okP ⟨v, h, l⟩ n.toNat))) ∧ Below W.heap.size W w' := by
 by_cases hr : Ad.right ⟨v, h, l⟩
 ·by_cases h0 : 0 ≤ n
  ·by_cases hw : (Ad.wd ⟨v, h, l⟩ : Int) < n
   ·rw [decide_eq_false (fun x => by have := x.2.2.1; omega)]
    exact drp_3 W v h l n hr h0 hw
   ·have := drp_4 W v h l n n.toNat (by omega) hh hl hr (by omega)
    have e : decide (0 ≤ n ∧ okP ⟨v, h, l⟩ n.toNat) = decide (Ad.fst ⟨v, h, l⟩ n.toNat = ⟨v, h, l⟩) := by
     rw [decide_eq_decide]
     exact ⟨fun x => x.2.2.2, fun x => ⟨h0, hr, by omega, x⟩⟩
    rw [e]
    exact this
  ·rw [decide_eq_false (fun x => h0 x.1)]
   exact drp_2 W v h l n hr (by omega)
 ·rw [decide_eq_false (fun x => hr x.2.1)]
  exact drp_1 W v h l n hr
end Go.Proofs.YtdlcldjlfhmlgaaGreatDoor.A
/- Layer 13: the document's Holds. -/
namespace Go.Proofs.YtdlcldjlfhmlgaaGreatDoor.A
open Go.RowKit
end Go.Proofs.YtdlcldjlfhmlgaaGreatDoor.A
/- Layer 13: the document's RightRules. -/
namespace Go.Proofs.YtdlcldjlfhmlgaaGreatDoor.A
open Go.RowKit
attribute [local go_sem ↓] bin_ad bin_pf
attribute [local go_sem] adEqV_run pfEqV_run
theorem take_mem {rs : List Rl} {m k : Nat} (hk : k < m) (hm : m ≤ rs.length) : (rs[k]'(by omega)) ∈ rs.take m := by
 rw [List.mem_iff_getElem]
 exact ⟨k, by simp; omega, by simp⟩
theorem mem_take {rs : List Rl} {m : Nat} {x : Rl} (hx : x ∈ rs.take m) (hm : m ≤ rs.length) : ∃ k, ∃ (h : k < rs.length), k < m ∧ rs[k] = x := by
 obtain ⟨k, hk, e⟩ := List.mem_iff_getElem.1 hx
 simp at hk e
 exact ⟨k, by omega, by omega, e⟩
def RlC (w : World) (g o : Nat) (r : Rl) : Prop := w.cell? ⟨g, o, none⟩ = some (.bool r.p.v6) ∧ w.cell? ⟨g, o + 1, none⟩ = some (.int .u64 (r.p.hi : Int)) ∧ w.cell? ⟨g, o + 2, none⟩ = some (.int .u64 (r.p.lo : Int)) ∧ w.cell? ⟨g, o + 3, none⟩ = some (.int .i64 r.n) ∧ w.cell? ⟨g, o + 4, none⟩ = some (.int .i64 r.act)
theorem RlsAt.at {w : World} {g off : Nat} {rs : List Rl} (h : RlsAt w (some ⟨g, off, none⟩) rs) (k : Nat) (hk : k < rs.length) : RlC w g (off + k * 5) rs[k] := by
 obtain ⟨g', off', e, hg', c⟩ := h k hk
 cases e
 exact c
def RrRel (W : World) (rs : List Rl) (i : Value) (wr : World) : Prop := ∃ m : Nat, i = .int .i64 (m : Int) ∧ m ≤ rs.length ∧ OkRs (rs.take m) ∧ Kp W wr
def RrIn (W : World) (rs : List Rl) (m : Nat) (r : Rl) (j : Value) (wr : World) : Prop := ∃ k : Nat, j = .int .i64 (k : Int) ∧ k ≤ m ∧ (∀ i (hi : i < rs.length), i < k → (rs[i]).apart r) ∧ Kp W wr
set_option maxRecDepth 100000 in
set_option maxHeartbeats 8000000 in
theorem rr_in (W : World) (q : Option Addr) (cap : Nat) (rs : List Rl) (hat : RlsAt W q rs) (hok : ∀ r ∈ rs, r.ok) (hcap : rs.length ≤ cap) (hcap2 : cap ≤ 9223372036854775807) :
  Calls Tryz.prog 37 #[.slice q rs.length cap] W fun e w' => ∃ b, e = .returned (.bool b) ∧ (b = true ↔ OkRs rs) ∧ Below W.heap.size W w' := by
 have HAT := Hid.mk hat
 have HOK := Hid.mk hok
 clear hat hok
 go_enter Tryz.func37, Tryz.ntmps37
 go_wp2
 go_loopw [3] (fun i wr => RrRel W rs i wr) (fun i _ => rs.length + 1 - (intOf i).toNat)
 case atStart => exact ⟨0, rfl, Nat.zero_le _, OkRs.nil, Kp.refl _⟩
 case round =>
  obtain ⟨m, rfl, hm, hokp, K⟩ := hrel
  have HOP := Hid.mk hokp
  clear hokp
  by_cases hlt : m < rs.length
  ·obtain ⟨g, off, rfl, hg, _⟩ := HAT.out m hlt
   have HC : Hid (∀ w, Kp W w → ∀ k (hk : k < rs.length), RlC w g (off + k * 5) rs[k]) := fun w kw k hk => (HAT.out.blk kw).at k hk
   have HSN := Hid.mk (take_snoc hlt)
   have HNO : Hid (¬ OkRs (rs.take (m + 1)) → ¬ OkRs rs) := fun h h' => h (okRs_take h' _)
   have hrok := HOK.out rs[m] (List.getElem_mem hlt)
   have HCM : Hid (∀ w, Kp W w → RlC w g (off + m * 5) rs[m]) := fun w kw => HC.out w kw m hlt
   generalize rs[m] = r at HSN hrok HCM
   obtain ⟨⟨v, h, l⟩, n, act⟩ := r
   obtain ⟨⟨hh, hl⟩, hn, hact⟩ := hrok
   simp only at hh hl hn hact
   have HRP := Hid.mk (fun w => drp_in w v h l n hh hl)
   have hcm := HCM.out _ K
   simp only [RlC] at hcm
   go_wp2_with fail
   refine (HRP.out _).mono ?_
   rintro e w1 ⟨rfl, hb1⟩
   have K1 := K.blk hb1
   have hc1 := HCM.out _ K1
   simp only [RlC] at hc1
   clear hcm hb1 K hh hl
   by_cases hp : 0 ≤ n ∧ okP ⟨v, h, l⟩ n.toNat
   ·rw [decide_eq_true hp]
    by_cases hac : act = 1 ∨ act = 2 ∨ act = 3
    ·have HG : Hid (Rl.good ⟨⟨v, h, l⟩, n, act⟩) := ⟨hp, hac⟩
     have hd1 : decide (act < 1) = false := decide_eq_false (by omega)
     have hd2 : decide (3 < act) = false := decide_eq_false (by omega)
     clear hp hac
     go_wp2
     go_loopw [5] (fun j wr => RrIn W rs m ⟨⟨v, h, l⟩, n, act⟩ j wr) (fun j _ => m + 1 - (intOf j).toNat)
     case atStart => exact ⟨0, rfl, Nat.zero_le _, fun i hi h => by omega, K1⟩
     case round =>
      obtain ⟨k, rfl, hk, hin, K2⟩ := hrel
      have HIN := Hid.mk hin
      clear hin hc1
      by_cases hkm : k < m
      ·have hki : (k : Int) < (m : Int) := by omega
       have hkl : k < rs.length := by omega
       have hkli : (k : Int) < (rs.length : Int) := by omega
       have hmli : (m : Int) < (rs.length : Int) := by omega
       have hc2 := HCM.out _ K2
       have hc3 := HC.out _ K2 k hkl
       have HTM := Hid.mk (take_mem hkm hm)
       have HINS : Hid ((rs[k]).apart ⟨⟨v, h, l⟩, n, act⟩ → ∀ i (hi : i < rs.length), i < k + 1 → (rs[i]).apart ⟨⟨v, h, l⟩, n, act⟩) := fun ha i hi hik => by
        rcases Nat.lt_or_eq_of_le (Nat.le_of_lt_succ hik) with h | rfl
        ·exact HIN.out i hi h
        ·exact ha
       generalize rs[k] = r' at hc3 HTM HINS
       obtain ⟨⟨v', h', l'⟩, n', act'⟩ := r'
       simp only [RlC] at hc2 hc3
       by_cases heq : (⟨v', h', l'⟩ : Ad) = ⟨v, h, l⟩ ∧ n' = n
       ·have hdq : decide ((⟨v', h', l'⟩ : Ad) = ⟨v, h, l⟩ ∧ n' = n) = true := decide_eq_true heq
        have HBAD : Hid (¬ OkRs rs) := HNO.out fun hx => by
         rw [HSN.out] at hx
         exact (okRs_snoc.1 hx).2.2 _ HTM.out heq
        go_wp2_with fail
        go_quiet (fail)
        go_wp2
        go_ret
        exact ⟨false, rfl, ⟨fun h => by simp at h, fun h => absurd h HBAD.out⟩, K2.blk (below_dn _ _)⟩
       ·have hdq : decide ((⟨v', h', l'⟩ : Ad) = ⟨v, h, l⟩ ∧ n' = n) = false := decide_eq_false heq
        have HNX : Hid (∀ w, Kp W w → RrIn W rs m ⟨⟨v, h, l⟩, n, act⟩ (.int .i64 ((k : Int) + 1)) w) := fun w kw => ⟨k + 1, by go_num, by omega, HINS.out heq, kw⟩
        have HNE : Hid (¬ ((v' = v ∧ h' = h ∧ l' = l) ∧ n' = n)) := fun hx => heq ⟨by rw [hx.1.1, hx.1.2.1, hx.1.2.2], hx.2⟩
        clear heq
        go_wp2_with fail
        go_quiet (fail)
        go_wp2
        exact ⟨HNX.out _ (K2.blk (below_dn _ _)), by simp [intOf]; omega⟩
      ·obtain rfl : k = m := by omega
       have HNX : Hid (RrRel W rs (.int .i64 ((k : Int) + 1)) wr) := ⟨k + 1, by go_num, by omega, by
        rw [HSN.out]
        refine okRs_snoc.2 ⟨HOP.out, HG.out, fun x hx => ?_⟩
        obtain ⟨i, hi, hik, rfl⟩ := mem_take hx hm
        exact HIN.out i hi hik, K2⟩
       go_wp2
       exact ⟨HNX.out, by simp [intOf]; omega⟩
    ·have HBAD : Hid (¬ OkRs rs) := HNO.out fun hx => by
      rw [HSN.out] at hx
      exact hac (okRs_snoc.1 hx).2.1.2
     by_cases h1 : act < 1
     ·have hd1 : decide (act < 1) = true := decide_eq_true h1
      go_wp2
      go_ret
      exact ⟨false, rfl, ⟨fun h => by simp at h, fun h => absurd h HBAD.out⟩, K1⟩
     ·have hd1 : decide (act < 1) = false := decide_eq_false h1
      have hd2 : decide (3 < act) = true := decide_eq_true (by omega)
      go_wp2
      go_ret
      exact ⟨false, rfl, ⟨fun h => by simp at h, fun h => absurd h HBAD.out⟩, K1⟩
   ·rw [decide_eq_false hp]
    have HBAD : Hid (¬ OkRs rs) := HNO.out fun hx => by
     rw [HSN.out] at hx
     exact hp (okRs_snoc.1 hx).2.1.1
    go_wp2
    go_ret
    exact ⟨false, rfl, ⟨fun h => by simp at h, fun h => absurd h HBAD.out⟩, K1⟩
  ·obtain rfl : m = rs.length := by omega
   have HALL : Hid (OkRs rs) := by have := HOP.out; rwa [List.take_length] at this
   go_wp2
   go_ret
   exact ⟨true, rfl, ⟨fun _ => HALL.out, fun _ => rfl⟩, K⟩
end Go.Proofs.YtdlcldjlfhmlgaaGreatDoor.A
/- Layer 15: the document's Check (guidepostref15). -/
namespace Go.Proofs.YtdlcldjlfhmlgaaGreatDoor
open Go.RowKit
theorem lin_ok {l : List Lc} (h : LIn l) : LOk l := fun z hz => ⟨(h z hz).1, fun r hr => ⟨((h z hz).2.1 r hr).1, ((h z hz).2.1 r hr).2.1⟩, (h z hz).2.2.1⟩
set_option maxRecDepth 100000 in
set_option maxHeartbeats 8000000 in
theorem rcheck_in (W : World) (k : Cq) (c : Cf) (hat : CfAt W k c) (hin : CfIn c) (hl : c.lc.length ≤ 9223372036854775806) : Calls Tryz.prog 18 #[cfV k c] W fun e w' => e = .returned (.string (prtN (chkR c))) ∧ Below W.heap.size W w' := by
 classical
 have H0 : Hid (∀ w, Below W.heap.size W w → Calls Tryz.prog 36 #[.slice k.q0 c.rt.length k.c0] w fun e w' => e = .returned (.bool (prtR c 0)) ∧ Below w.heap.size w w') := fun w hb => rsrv_in w k.q0 k.c0 c.rt (hat.blk hb).rt
 have H1 : Hid (∀ w, Below W.heap.size W w → Calls Tryz.prog 37 #[.slice k.q1 c.ru.length k.c1] w fun e w' => e = .returned (.bool (prtR c 1)) ∧ Below w.heap.size w w') := fun w hb => by
  refine (A.rr_in w k.q1 k.c1 c.ru (hat.blk hb).ru hin.ru hat.s1.1 hat.s1.2.1).mono ?_
  rintro e w' ⟨b, rfl, hbk, hb'⟩
  refine ⟨?_, hb'⟩
  have : b = prtR c 1 := by
   show b = decide (A.OkRs c.ru)
   rw [Bool.eq_iff_iff, hbk, decide_eq_true_iff]
  rw [this]
 have H2 : Hid (∀ w, Below W.heap.size W w → Calls Tryz.prog 10 #[.slice k.q2 c.lc.length k.c2] w fun e w' => e = .returned (.bool (prtR c 2)) ∧ Below w.heap.size w w') := fun w hb => by
  refine (rlocals_in w k.q2 k.c2 c.lc (hat.blk hb).lc (lin_ok hin.lc) hl).mono ?_
  rintro e w' ⟨rfl, hb'⟩
  exact ⟨by congr 1, hb'⟩
 have H3 : Hid (∀ w, Below W.heap.size W w → Calls Tryz.prog 38 #[.slice k.q3 c.up.length k.c3] w fun e w' => e = .returned (.bool (prtR c 3)) ∧ Below w.heap.size w w') := fun w hb => rups_in w k.q3 k.c3 c.up (hat.blk hb).up hin.up hat.s3
 have H4 : Hid (∀ w, Below W.heap.size W w → Calls Tryz.prog 39 #[.slice k.q4 c.an.length k.c4] w fun e w' => e = .returned (.bool (prtR c 4)) ∧ Below w.heap.size w w') := fun w hb => ranchors_in w k.q4 k.c4 c.an (hat.blk hb).an hin.an hat.s4
 have HNu : Hid (∀ n w, Calls Tryz.prog 40 #[.int .i64 n] w fun e w' => e = .returned (.bool (numR n)) ∧ w' = w) := fun n w => rnum_in w n
 have HWrong : Hid (∀ i, i < 6 → prtR c i = false → (∀ j, j < i → prtR c j = true) → chkR c = i) := fun i hi h1 h2 => chkR_at c i hi h1 h2
 have HRight : Hid ((∀ j, j < 6 → prtR c j = true) → chkR c = 6) := chkR_none c
 have hp5 : prtR c 5 = (numR c.n0 && numR c.n1 && numR c.n2 && numR c.n3) := rfl
 obtain ⟨N, hN⟩ : ∃ N, W.heap.size = N := ⟨_, rfl⟩
 have HNN := Hid.mk hN
 rw [hN] at H0 H1 H2 H3 H4
 obtain ⟨K, hK⟩ : ∃ K, chkR c = K := ⟨_, rfl⟩
 rw [hK] at HWrong HRight ⊢
 obtain ⟨p, hp⟩ : ∃ p, prtR c = p := ⟨_, rfl⟩
 rw [hp] at H0 H1 H2 H3 H4 HWrong HRight hp5
 obtain ⟨q0, c0, q1, c1, q2, c2, q3, c3, q4, c4⟩ := k
 simp only at H0 H1 H2 H3 H4
 simp only [cfV, cfC]
 obtain ⟨m0, hm0⟩ : ∃ m, numR c.n0 = m := ⟨_, rfl⟩
 obtain ⟨m1, hm1⟩ : ∃ m, numR c.n1 = m := ⟨_, rfl⟩
 obtain ⟨m2, hm2⟩ : ∃ m, numR c.n2 = m := ⟨_, rfl⟩
 obtain ⟨m3, hm3⟩ : ∃ m, numR c.n3 = m := ⟨_, rfl⟩
 have HN0 := Hid.mk (HNu.out c.n0)
 have HN1 := Hid.mk (HNu.out c.n1)
 have HN2 := Hid.mk (HNu.out c.n2)
 have HN3 := Hid.mk (HNu.out c.n3)
 rw [hm0] at HN0 hp5
 rw [hm1] at HN1 hp5
 rw [hm2] at HN2 hp5
 rw [hm3] at HN3 hp5
 have HP5 := Hid.mk hp5
 obtain ⟨l0, hl0⟩ : ∃ n, c.rt.length = n := ⟨_, rfl⟩
 obtain ⟨l1, hl1⟩ : ∃ n, c.ru.length = n := ⟨_, rfl⟩
 obtain ⟨l2, hl2⟩ : ∃ n, c.lc.length = n := ⟨_, rfl⟩
 obtain ⟨l3, hl3⟩ : ∃ n, c.up.length = n := ⟨_, rfl⟩
 obtain ⟨l4, hl4⟩ : ∃ n, c.an.length = n := ⟨_, rfl⟩
 rw [hl0] at H0 ⊢
 rw [hl1] at H1 ⊢
 rw [hl2] at H2 ⊢
 rw [hl3] at H3 ⊢
 rw [hl4] at H4 ⊢
 obtain ⟨n0, hn0⟩ : ∃ n, c.n0 = n := ⟨_, rfl⟩
 obtain ⟨n1, hn1⟩ : ∃ n, c.n1 = n := ⟨_, rfl⟩
 obtain ⟨n2, hn2⟩ : ∃ n, c.n2 = n := ⟨_, rfl⟩
 obtain ⟨n3, hn3⟩ : ∃ n, c.n3 = n := ⟨_, rfl⟩
 rw [hn0] at HN0 ⊢
 rw [hn1] at HN1 ⊢
 rw [hn2] at HN2 ⊢
 rw [hn3] at HN3 ⊢
 obtain ⟨V, hV⟩ : ∃ V, W.alloc (.cells #[.slice q0 l0 c0, .slice q1 l1 c1, .slice q2 l2 c2, .slice q3 l3 c3, .slice q4 l4 c4, .int .i64 n0, .int .i64 n1, .int .i64 n2, .int .i64 n3] 51) = V := ⟨_, rfl⟩
 have X0 : Bx W W.heap.size [.slice q0 l0 c0, .slice q1 l1 c1, .slice q2 l2 c2, .slice q3 l3 c3, .slice q4 l4 c4, .int .i64 n0, .int .i64 n1, .int .i64 n2, .int .i64 n3] 51 V := hV ▸ Bx.new W _ _
 have HV := Hid.mk hV
 rw [hN] at X0
 have HX : Hid (∀ w, Below V.heap.size V w → ∀ i v, [Value.slice q0 l0 c0, .slice q1 l1 c1, .slice q2 l2 c2, .slice q3 l3 c3, .slice q4 l4 c4, .int .i64 n0, .int .i64 n1, .int .i64 n2, .int .i64 n3][i]? = some v → w.cell? ⟨N, i, none⟩ = some v) := fun w hb i v hv => (X0.blk hb).cell i v hv
 have hNV : N ≤ V.heap.size := by rw [← hN]; exact X0.bel.size
 have HBel : Hid (∀ w, Below V.heap.size V w → Below N W w) := fun w hb => by
  have h1 := X0.bel
  rw [hN] at h1
  exact h1.trans (hb.mono hNV)
 rw [hN]
 clear hat hin hl hK hp hm0 hm1 hm2 hm3 HNu hp5 hl0 hl1 hl2 hl3 hl4 hn0 hn1 hn2 hn3 hV X0
 have x0 := HX.out V (Below.refl _ _) 0 _ rfl
 go_enter Tryz.func18, Tryz.ntmps18
 go_upto_region 1 with fail
 rw [HV.out]
 clear hN
 go_wp2_with fail
 refine (H0.out _ (HBel.out _ (Below.refl _ _))).mono ?_
 rintro e w1 ⟨rfl, hb1⟩
 have B1 := Hid.mk hb1
 have x1 := HX.out w1 hb1 1 _ rfl
 clear hb1 x0
 go_wp2_with fail
 refine (H1.out _ (HBel.out _ B1.out)).mono ?_
 rintro e w2 ⟨rfl, hb2⟩
 have B2 := Hid.mk (B1.out.trans (hb2.mono B1.out.size))
 have x2 := HX.out w2 B2.out 2 _ rfl
 clear hb2 x1
 go_wp2_with fail
 refine (H2.out _ (HBel.out _ B2.out)).mono ?_
 rintro e w3 ⟨rfl, hb3⟩
 have B3 := Hid.mk (B2.out.trans (hb3.mono B2.out.size))
 have x3 := HX.out w3 B3.out 3 _ rfl
 clear hb3 x2
 go_wp2_with fail
 refine (H3.out _ (HBel.out _ B3.out)).mono ?_
 rintro e w4 ⟨rfl, hb4⟩
 have B4 := Hid.mk (B3.out.trans (hb4.mono B3.out.size))
 have x4 := HX.out w4 B4.out 4 _ rfl
 clear hb4 x3
 go_wp2_with fail
 refine (H4.out _ (HBel.out _ B4.out)).mono ?_
 rintro e w5 ⟨rfl, hb5⟩
 have B5 := Hid.mk (B4.out.trans (hb5.mono B4.out.size))
 have HB5 := Hid.mk (HBel.out _ B5.out)
 have x5 := HX.out w5 B5.out 5 _ rfl
 have x6 := HX.out w5 B5.out 6 _ rfl
 have x7 := HX.out w5 B5.out 7 _ rfl
 have x8 := HX.out w5 B5.out 8 _ rfl
 clear hb5 x4
 cases g0 : p 0 with
 | false =>
  obtain rfl : K = 0 := HWrong.out 0 (by omega) g0 (fun j hj => by omega)
  clear g0
  go_wp2
  go_ret
  exact ⟨rfl, HB5.out⟩
 | true =>
 cases g1 : p 1 with
 | false =>
  obtain rfl : K = 1 := HWrong.out 1 (by omega) g1 (fun j hj => by
   match j, hj with
   | 0, _ => exact g0)
  clear g0 g1
  go_wp2
  go_ret
  exact ⟨rfl, HB5.out⟩
 | true =>
 cases g2 : p 2 with
 | false =>
  obtain rfl : K = 2 := HWrong.out 2 (by omega) g2 (fun j hj => by
   match j, hj with
   | 0, _ => exact g0
   | 1, _ => exact g1)
  clear g0 g1 g2
  go_wp2
  go_ret
  exact ⟨rfl, HB5.out⟩
 | true =>
 cases g3 : p 3 with
 | false =>
  obtain rfl : K = 3 := HWrong.out 3 (by omega) g3 (fun j hj => by
   match j, hj with
   | 0, _ => exact g0
   | 1, _ => exact g1
   | 2, _ => exact g2)
  clear g0 g1 g2 g3
  go_wp2
  go_ret
  exact ⟨rfl, HB5.out⟩
 | true =>
 cases g4 : p 4 with
 | false =>
  obtain rfl : K = 4 := HWrong.out 4 (by omega) g4 (fun j hj => by
   match j, hj with
   | 0, _ => exact g0
   | 1, _ => exact g1
   | 2, _ => exact g2
   | 3, _ => exact g3)
  clear g0 g1 g2 g3 g4
  go_wp2
  go_ret
  exact ⟨rfl, HB5.out⟩
 | true =>
 have HG : Hid (∀ j, j < 5 → p j = true) := fun j hj => by
  match j, hj with
  | 0, _ => exact g0
  | 1, _ => exact g1
  | 2, _ => exact g2
  | 3, _ => exact g3
  | 4, _ => exact g4
 have HBad : Hid ((m0 && m1 && m2 && m3) = false → K = 5) := fun h => HWrong.out 5 (by omega) (by rw [HP5.out]; exact h) (fun j hj => HG.out j hj)
 have HGood : Hid ((m0 && m1 && m2 && m3) = true → K = 6) := fun h => HRight.out fun j hj => by
  by_cases e : j < 5
  ·exact HG.out j e
  ·rw [show j = 5 by omega, HP5.out]; exact h
 clear g0 g1 g2 g3 g4 HWrong HRight HP5 HG
 cases m0 with
 | false =>
  obtain rfl : K = 5 := HBad.out (by simp)
  go_wp2_with fail
  refine (HN0.out _).mono ?_
  rintro e w6 ⟨rfl, rfl⟩
  go_wp2
  go_ret
  exact ⟨rfl, HB5.out⟩
 | true =>
 cases m1 with
 | false =>
  obtain rfl : K = 5 := HBad.out (by simp)
  go_wp2_with fail
  refine (HN0.out _).mono ?_
  rintro e w6 ⟨rfl, rfl⟩
  go_wp2_with fail
  refine (HN1.out _).mono ?_
  rintro e w7 ⟨rfl, rfl⟩
  go_wp2
  go_ret
  exact ⟨rfl, HB5.out⟩
 | true =>
 cases m2 with
 | false =>
  obtain rfl : K = 5 := HBad.out (by simp)
  go_wp2_with fail
  refine (HN0.out _).mono ?_
  rintro e w6 ⟨rfl, rfl⟩
  go_wp2_with fail
  refine (HN1.out _).mono ?_
  rintro e w7 ⟨rfl, rfl⟩
  go_wp2_with fail
  refine (HN2.out _).mono ?_
  rintro e w8 ⟨rfl, rfl⟩
  go_wp2
  go_ret
  exact ⟨rfl, HB5.out⟩
 | true =>
 cases m3 with
 | false =>
  obtain rfl : K = 5 := HBad.out (by simp)
  go_wp2_with fail
  refine (HN0.out _).mono ?_
  rintro e w6 ⟨rfl, rfl⟩
  go_wp2_with fail
  refine (HN1.out _).mono ?_
  rintro e w7 ⟨rfl, rfl⟩
  go_wp2_with fail
  refine (HN2.out _).mono ?_
  rintro e w8 ⟨rfl, rfl⟩
  go_wp2_with fail
  refine (HN3.out _).mono ?_
  rintro e w9 ⟨rfl, rfl⟩
  go_wp2
  go_ret
  exact ⟨rfl, HB5.out⟩
 | true =>
  obtain rfl : K = 6 := HGood.out (by simp)
  go_wp2_with fail
  refine (HN0.out _).mono ?_
  rintro e w6 ⟨rfl, rfl⟩
  go_wp2_with fail
  refine (HN1.out _).mono ?_
  rintro e w7 ⟨rfl, rfl⟩
  go_wp2_with fail
  refine (HN2.out _).mono ?_
  rintro e w8 ⟨rfl, rfl⟩
  go_wp2_with fail
  refine (HN3.out _).mono ?_
  rintro e w9 ⟨rfl, rfl⟩
  go_wp2
  go_ret
  exact ⟨rfl, HB5.out⟩
end Go.Proofs.YtdlcldjlfhmlgaaGreatDoor
/- Layer 15: ConfigChecks' walk. -/
namespace Go.Proofs.YtdlcldjlfhmlgaaGreatDoor
open Go.RowKit
theorem six_cases {K : Nat} (h : K ≤ 6) : K = 0 ∨ K = 1 ∨ K = 2 ∨ K = 3 ∨ K = 4 ∨ K = 5 ∨ K = 6 := by omega
def CBx (w : World) (N : Nat) (k : Cq) (c : Cf) : Prop := w.cell? ⟨N, 0, none⟩ = some (.slice k.q0 c.rt.length k.c0) ∧ w.cell? ⟨N, 1, none⟩ = some (.slice k.q1 c.ru.length k.c1) ∧ w.cell? ⟨N, 2, none⟩ = some (.slice k.q2 c.lc.length k.c2) ∧ w.cell? ⟨N, 3, none⟩ = some (.slice k.q3 c.up.length k.c3) ∧ w.cell? ⟨N, 4, none⟩ = some (.slice k.q4 c.an.length k.c4) ∧ w.cell? ⟨N, 5, none⟩ = some (.int .i64 c.n0) ∧ w.cell? ⟨N, 6, none⟩ = some (.int .i64 c.n1) ∧ w.cell? ⟨N, 7, none⟩ = some (.int .i64 c.n2) ∧ w.cell? ⟨N, 8, none⟩ = some (.int .i64 c.n3)
theorem cbx_of {w : World} {N : Nat} {k : Cq} {c : Cf} (h : w.heap[N]? = some (.cells (cfC k c) 51 (0, 0))) : CBx w N k c := by
 refine ⟨?_, ?_, ?_, ?_, ?_, ?_, ?_, ?_, ?_⟩ <;> (rw [So.cell_blk h]; rfl)
set_option maxRecDepth 100000 in
set_option maxHeartbeats 8000000 in
theorem checks_walk (W : World) (k : Cq) (c : Cf) (hat : CfAt W k c) (hin : CfIn c) : Calls Tryz.prog 4 #[cfV k c] W fun e w' => e = .returned (.bool true) ∧ Below W.heap.size W w' := by
 have hl : c.lc.length ≤ 9223372036854775806 := by have := hin.l2; omega
 have HE := Hid.mk examples15_in
 have HC : Hid (∀ w, Below W.heap.size W w → Calls Tryz.prog 17 #[cfV k c] w fun e w' => e = .returned (.tuple #[.string (prtN (chkR c)), .int .i64 (chkE c)]) ∧ Below w.heap.size w w') := fun w hb => check_in w k c (hat.blk hb) hin hl
 have HD : Hid (∀ w, Below W.heap.size W w → Calls Tryz.prog 18 #[cfV k c] w fun e w' => e = .returned (.string (prtN (chkR c))) ∧ Below w.heap.size w w') := fun w hb => rcheck_in w k c (hat.blk hb) hin hl
 obtain ⟨N, hN⟩ : ∃ N, W.heap.size = N := ⟨_, rfl⟩
 have HNN := Hid.mk hN
 rw [hN] at HC HD ⊢
 obtain ⟨V, hV⟩ : ∃ V, W.alloc (.cells (cfC k c) 51) = V := ⟨_, rfl⟩
 have hbV : Below N W V := by rw [← hN, ← hV]; exact (Below.refl _ _).alloc (Nat.le_refl _) _
 have hxV : V.heap[N]? = some (.cells (cfC k c) 51 (0, 0)) := by rw [← hV, ← hN]; exact heap_alloc_new W _
 have HK : Hid (∀ w, Below V.heap.size V w → Below N W w ∧ CBx w N k c) := fun w hb => ⟨hbV.trans (hb.mono (by rw [← hN]; exact hbV.size)), cbx_of ((hb.block N (Array.getElem?_eq_some_iff.1 hxV).1).trans hxV)⟩
 have HV := Hid.mk hV
 have HP : Hid (chkR c ≤ 6) := chkR_le c
 have HEe : Hid (chkE c = if chkR c = 6 then 0 else 12) := rfl
 obtain ⟨K, hK⟩ : ∃ K, chkR c = K := ⟨_, rfl⟩
 obtain ⟨E, hE⟩ : ∃ E, chkE c = E := ⟨_, rfl⟩
 rw [hK] at HC HD HP HEe
 rw [hE] at HC HEe
 obtain ⟨P, hP⟩ : ∃ P, prtN K = P := ⟨_, rfl⟩
 have HPe := Hid.mk hP
 rw [hP] at HC HD
 obtain ⟨q0, c0, q1, c1, q2, c2, q3, c3, q4, c4⟩ := k
 simp only [cfV, cfC] at HC HD HV ⊢
 simp only [CBx] at HK
 clear hat hin hl hV hbV hxV hK hE hP
 go_enter Tryz.func4, Tryz.ntmps4
 go_upto_region 1 with fail
 rw [HV.out]
 clear hN
 go_wp2_with fail
 refine (HE.out _).mono ?_
 rintro e w1 ⟨rfl, hb1⟩
 have HB1 := Hid.mk hb1
 obtain ⟨k1, x0, x1, x2, x3, x4, x5, x6, x7, x8⟩ := HK.out _ hb1
 have HC1 := Hid.mk (HC.out _ k1)
 clear hb1 k1
 go_wp2_with fail
 refine HC1.out.mono ?_
 rintro e w2 ⟨rfl, hb2⟩
 clear x0 x1 x2 x3 x4 x5 x6 x7 x8
 have HB2 := Hid.mk (HB1.out.trans (hb2.mono HB1.out.size))
 obtain ⟨k1, x0, x1, x2, x3, x4, x5, x6, x7, x8⟩ := HK.out _ HB2.out
 have HD1 := Hid.mk (HD.out _ k1)
 clear hb2 k1
 go_wp2_with fail
 refine HD1.out.mono ?_
 rintro e w3 ⟨rfl, hb3⟩
 have HB3 := Hid.mk (HK.out _ (HB2.out.trans (hb3.mono HB2.out.size))).1
 clear hb3 x0 x1 x2 x3 x4 x5 x6 x7 x8
 have hpe := HPe.out
 have hee := HEe.out
 rcases six_cases HP.out with rfl | rfl | rfl | rfl | rfl | rfl | rfl
 all_goals
  simp only [prtN] at hpe
  simp at hee
  subst hpe hee
  go_wp2
  go_ret
  exact ⟨rfl, HB3.out⟩
end Go.Proofs.YtdlcldjlfhmlgaaGreatDoor
