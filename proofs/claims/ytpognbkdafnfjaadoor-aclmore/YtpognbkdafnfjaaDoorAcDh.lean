/- Layer 13: the document's RightPrefix, Holds. -/
import Derived.Test.YtpognbkdafnfjaaDoorAcBt
import Derived.Test.YtpognbkdafnfjaaDoorAcHo
namespace Go.Proofs.YtpognbkdafnfjaaDoor
set_option linter.unusedVariables false
set_option linter.unusedSimpArgs false
open Go.RowKit

def RpRel (V : World) (a : Ad) (n : Nat) (i : Value) (wr : World) : Prop := ∃ k : Nat, i = .int .i64 (k : Int) ∧ n ≤ k ∧ k ≤ a.wd ∧ (∀ j, n ≤ j → j < k → a.bt j = false) ∧ Kp V wr
set_option maxRecDepth 100000 in
set_option maxHeartbeats 4000000 in
theorem drp_1 (W : World) (v : Bool) (h l : Nat) (n : Int) (hr : ¬ Ad.right ⟨v, h, l⟩) :
    Calls Tryd.prog 23 #[pfV v h l n] W fun e w' => e = .returned (.bool false) ∧ Below W.heap.size W w' := by
  have H1 : Hid (∀ w, Calls Tryd.prog 26 #[adV v h l] w fun e w' => e = .returned (.bool false) ∧ Below w.heap.size w w') := fun w => by have := rright_in w v h l; rwa [decide_eq_false hr] at this
  clear hr
  obtain ⟨V, hV, F, HB⟩ : ∃ V, W.alloc (pfO v h l n) = V ∧ Kp V V ∧ Hid (Below W.heap.size W V) := ⟨_, rfl, Kp.refl _, by unfold Hid; go_grown⟩
  have HS : Hid (∀ w, Kp V w → Kp V w ∧ w.cell? ⟨W.heap.size, 0, none⟩ = some (.bool v) ∧ w.cell? ⟨W.heap.size, 1, none⟩ = some (.int .u64 (h : Int)) ∧ w.cell? ⟨W.heap.size, 2, none⟩ = some (.int .u64 (l : Int)) ∧ w.cell? ⟨W.heap.size, 3, none⟩ = some (.int .i64 n)) := fun w k => by
    have hc := pf_cells W v h l n
    rw [hV] at hc
    have hb : W.heap.size < V.heap.size := by rw [← hV]; simp
    exact ⟨k, k.cell hc.1 hb, k.cell hc.2.1 hb, k.cell hc.2.2.1 hb, k.cell hc.2.2.2 hb⟩
  have hV0 := (HS.out _ F).2
  go_enter Tryd.func23, Tryd.ntmps23
  go_wp2_with fail
  try rw [hV]
  clear hV
  refine (H1.out _).mono ?_
  rintro e w1 ⟨rfl, hb1⟩
  have F1 := F.blk hb1
  have hs1 := (HS.out _ F1).2
  clear hb1 hV0
  go_upto_region 2 with fail
  refine wp_region_held_drew (S := fun w => Kp V w ∧ w.cell? ⟨W.heap.size, 0, none⟩ = some (.bool v) ∧ w.cell? ⟨W.heap.size, 1, none⟩ = some (.int .u64 (h : Int)) ∧ w.cell? ⟨W.heap.size, 2, none⟩ = some (.int .u64 (l : Int)) ∧ w.cell? ⟨W.heap.size, 3, none⟩ = some (.int .i64 n)) (by kernel_rfl) (HS.out _ (Kp.drew F1)) (fun hHeld => ?_)
  refine wpAnyH_take (i := 0) (v := ?vh1_0) rfl (by kernel_rfl) (by kernel_rfl) (by kernel_rfl) (fun _ _ _ h => h) (Or.inl ⟨by kernel_rfl, ?yh1_0⟩) (by assumption) ?_
  case yh1_0 => (intro w hSw; (try dsimp only at hSw); go_simp; try with_reducible rfl)
  refine wpAnyH_take (i := 1) (v := ?vh1_1) rfl (by kernel_rfl) (by kernel_rfl) (by kernel_rfl) (fun _ _ _ h => h) (Or.inl ⟨by kernel_rfl, ?yh1_1⟩) (by assumption) ?_
  case yh1_1 => (intro w hSw; (try dsimp only at hSw); go_simp; try with_reducible rfl)
  refine wpAnyH_take (i := 2) (v := ?vh1_2) rfl (by kernel_rfl) (by kernel_rfl) (by kernel_rfl) (fun _ _ _ h => h) (Or.inl ⟨by kernel_rfl, ?yh1_2⟩) (by assumption) ?_
  case yh1_2 => (intro w hSw; (try dsimp only at hSw); go_simp; try with_reducible rfl)
  try simp only [Act.put, List.getElem_toArray, List.getElem_cons_succ, List.getElem_cons_zero, List.setIfInBounds_toArray, List.set_cons_zero, List.set_cons_succ]
  refine wpAnyH_take (i := 3) (v := undef) rfl (by kernel_rfl) (by kernel_rfl) (by kernel_rfl) (fun _ _ _ h => h) (Or.inr ⟨by kernel_rfl, rfl⟩) (by assumption) ?_
  refine wpAnyH_take (i := 4) (v := undef) rfl (by kernel_rfl) (by kernel_rfl) (by kernel_rfl) (fun _ _ _ h => h) (Or.inr ⟨by kernel_rfl, rfl⟩) (by assumption) ?_
  refine wpAnyH_take (i := 5) (v := undef) rfl (by kernel_rfl) (by kernel_rfl) (by kernel_rfl) (fun _ _ _ h => h) (Or.inr ⟨by kernel_rfl, rfl⟩) (by assumption) ?_
  try simp only [Act.put, List.getElem_toArray, List.getElem_cons_succ, List.getElem_cons_zero, List.setIfInBounds_toArray, List.set_cons_zero, List.set_cons_succ]
  refine wpAnyH_take (i := 6) (v := ?vh1_6) rfl (by kernel_rfl) (by kernel_rfl) (by kernel_rfl) (fun _ _ _ h => h) (Or.inl ⟨by kernel_rfl, ?yh1_6⟩) (by assumption) ?_
  case yh1_6 => (intro w hSw; (try dsimp only at hSw); go_simp; try with_reducible rfl)
  refine wpAnyH_take (i := 7) (v := ?vh1_7) rfl (by kernel_rfl) (by kernel_rfl) (by kernel_rfl) (fun _ _ _ h => h) (Or.inl ⟨by kernel_rfl, ?yh1_7⟩) (by assumption) ?_
  case yh1_7 => (intro w hSw; (try dsimp only at hSw); go_simp; try with_reducible rfl)
  try simp only [Act.put, List.getElem_toArray, List.getElem_cons_succ, List.getElem_cons_zero, List.setIfInBounds_toArray, List.set_cons_zero, List.set_cons_succ]
  refine wpAnyH_take (i := 8) (v := undef) rfl (by kernel_rfl) (by kernel_rfl) (by kernel_rfl) (fun _ _ _ h => h) (Or.inr ⟨by kernel_rfl, rfl⟩) (by assumption) ?_
  refine wpAnyH_take (i := 9) (v := undef) rfl (by kernel_rfl) (by kernel_rfl) (by kernel_rfl) (fun _ _ _ h => h) (Or.inr ⟨by kernel_rfl, rfl⟩) (by assumption) ?_
  refine wpAnyH_take (i := 10) (v := undef) rfl (by kernel_rfl) (by kernel_rfl) (by kernel_rfl) (fun _ _ _ h => h) (Or.inr ⟨by kernel_rfl, rfl⟩) (by assumption) ?_
  refine wpAnyH_take (i := 11) (v := undef) rfl (by kernel_rfl) (by kernel_rfl) (by kernel_rfl) (fun _ _ _ h => h) (Or.inr ⟨by kernel_rfl, rfl⟩) (by assumption) ?_
  refine wpAnyH_take (i := 12) (v := undef) rfl (by kernel_rfl) (by kernel_rfl) (by kernel_rfl) (fun _ _ _ h => h) (Or.inr ⟨by kernel_rfl, rfl⟩) (by assumption) ?_
  refine wpAnyH_take (i := 13) (v := undef) rfl (by kernel_rfl) (by kernel_rfl) (by kernel_rfl) (fun _ _ _ h => h) (Or.inr ⟨by kernel_rfl, rfl⟩) (by assumption) ?_
  try simp only [Act.put, List.getElem_toArray, List.getElem_cons_succ, List.getElem_cons_zero, List.setIfInBounds_toArray, List.set_cons_zero, List.set_cons_succ]
  refine wpAnyH_take (i := 14) (v := ?vh1_14) rfl (by kernel_rfl) (by kernel_rfl) (by kernel_rfl) (fun _ _ _ h => h) (Or.inl ⟨by kernel_rfl, ?yh1_14⟩) (by assumption) ?_
  case yh1_14 => (intro w hSw; (try dsimp only at hSw); go_simp; try with_reducible rfl)
  try simp only [Act.put, List.getElem_toArray, List.getElem_cons_succ, List.getElem_cons_zero, List.setIfInBounds_toArray, List.set_cons_zero, List.set_cons_succ]
  refine wpAnyH_done (by kernel_rfl) ?_ _
  go_wp2
  go_ret
  exact ⟨rfl, (F1.bel HB.out).drew⟩
set_option maxRecDepth 100000 in
set_option maxHeartbeats 4000000 in
theorem drp_2 (W : World) (v : Bool) (h l : Nat) (n : Int) (hr : Ad.right ⟨v, h, l⟩) (hn : n < 0) :
    Calls Tryd.prog 23 #[pfV v h l n] W fun e w' => e = .returned (.bool false) ∧ Below W.heap.size W w' := by
  have H1 : Hid (∀ w, Calls Tryd.prog 26 #[adV v h l] w fun e w' => e = .returned (.bool true) ∧ Below w.heap.size w w') := fun w => by have := rright_in w v h l; rwa [decide_eq_true hr] at this
  clear hr
  have hd : decide (n < 0) = true := decide_eq_true hn
  obtain ⟨V, hV, F, HB⟩ : ∃ V, W.alloc (pfO v h l n) = V ∧ Kp V V ∧ Hid (Below W.heap.size W V) := ⟨_, rfl, Kp.refl _, by unfold Hid; go_grown⟩
  have HS : Hid (∀ w, Kp V w → Kp V w ∧ w.cell? ⟨W.heap.size, 0, none⟩ = some (.bool v) ∧ w.cell? ⟨W.heap.size, 1, none⟩ = some (.int .u64 (h : Int)) ∧ w.cell? ⟨W.heap.size, 2, none⟩ = some (.int .u64 (l : Int)) ∧ w.cell? ⟨W.heap.size, 3, none⟩ = some (.int .i64 n)) := fun w k => by
    have hc := pf_cells W v h l n
    rw [hV] at hc
    have hb : W.heap.size < V.heap.size := by rw [← hV]; simp
    exact ⟨k, k.cell hc.1 hb, k.cell hc.2.1 hb, k.cell hc.2.2.1 hb, k.cell hc.2.2.2 hb⟩
  have hV0 := (HS.out _ F).2
  go_enter Tryd.func23, Tryd.ntmps23
  go_wp2_with fail
  try rw [hV]
  clear hV
  refine (H1.out _).mono ?_
  rintro e w1 ⟨rfl, hb1⟩
  have F1 := F.blk hb1
  have hs1 := (HS.out _ F1).2
  clear hb1 hV0
  go_upto_region 2 with fail
  refine wp_region_held_drew (S := fun w => Kp V w ∧ w.cell? ⟨W.heap.size, 0, none⟩ = some (.bool v) ∧ w.cell? ⟨W.heap.size, 1, none⟩ = some (.int .u64 (h : Int)) ∧ w.cell? ⟨W.heap.size, 2, none⟩ = some (.int .u64 (l : Int)) ∧ w.cell? ⟨W.heap.size, 3, none⟩ = some (.int .i64 n)) (by kernel_rfl) (HS.out _ (Kp.drew F1)) (fun hHeld => ?_)
  refine wpAnyH_take (i := 0) (v := ?vh2_0) rfl (by kernel_rfl) (by kernel_rfl) (by kernel_rfl) (fun _ _ _ h => h) (Or.inl ⟨by kernel_rfl, ?yh2_0⟩) (by assumption) ?_
  case yh2_0 => (intro w hSw; (try dsimp only at hSw); go_simp; try with_reducible rfl)
  refine wpAnyH_take (i := 1) (v := ?vh2_1) rfl (by kernel_rfl) (by kernel_rfl) (by kernel_rfl) (fun _ _ _ h => h) (Or.inl ⟨by kernel_rfl, ?yh2_1⟩) (by assumption) ?_
  case yh2_1 => (intro w hSw; (try dsimp only at hSw); go_simp; try with_reducible rfl)
  refine wpAnyH_take (i := 2) (v := ?vh2_2) rfl (by kernel_rfl) (by kernel_rfl) (by kernel_rfl) (fun _ _ _ h => h) (Or.inl ⟨by kernel_rfl, ?yh2_2⟩) (by assumption) ?_
  case yh2_2 => (intro w hSw; (try dsimp only at hSw); go_simp; try with_reducible rfl)
  refine wpAnyH_take (i := 3) (v := ?vh2_3) rfl (by kernel_rfl) (by kernel_rfl) (by kernel_rfl) (fun _ _ _ h => h) (Or.inl ⟨by kernel_rfl, ?yh2_3⟩) (by assumption) ?_
  case yh2_3 => (intro w hSw; (try dsimp only at hSw); go_simp; try with_reducible rfl)
  refine wpAnyH_take (i := 4) (v := ?vh2_4) rfl (by kernel_rfl) (by kernel_rfl) (by kernel_rfl) (fun _ _ _ h => h) (Or.inl ⟨by kernel_rfl, ?yh2_4⟩) (by assumption) ?_
  case yh2_4 => (intro w hSw; (try dsimp only at hSw); go_simp; try with_reducible rfl)
  refine wpAnyH_take (i := 5) (v := ?vh2_5) rfl (by kernel_rfl) (by kernel_rfl) (by kernel_rfl) (fun _ _ _ h => h) (Or.inl ⟨by kernel_rfl, ?yh2_5⟩) (by assumption) ?_
  case yh2_5 => (intro w hSw; (try dsimp only at hSw); go_simp; try with_reducible rfl)
  refine wpAnyH_take (i := 6) (v := ?vh2_6) rfl (by kernel_rfl) (by kernel_rfl) (by kernel_rfl) (fun _ _ _ h => h) (Or.inl ⟨by kernel_rfl, ?yh2_6⟩) (by assumption) ?_
  case yh2_6 => (intro w hSw; (try dsimp only at hSw); go_simp; try with_reducible rfl)
  refine wpAnyH_take (i := 7) (v := ?vh2_7) rfl (by kernel_rfl) (by kernel_rfl) (by kernel_rfl) (fun _ _ _ h => h) (Or.inl ⟨by kernel_rfl, ?yh2_7⟩) (by assumption) ?_
  case yh2_7 => (intro w hSw; (try dsimp only at hSw); go_simp; try with_reducible rfl)
  try simp only [Act.put, List.getElem_toArray, List.getElem_cons_succ, List.getElem_cons_zero, List.setIfInBounds_toArray, List.set_cons_zero, List.set_cons_succ]
  refine wpAnyH_take (i := 8) (v := undef) rfl (by kernel_rfl) (by kernel_rfl) (by kernel_rfl) (fun _ _ _ h => h) (Or.inr ⟨by kernel_rfl, rfl⟩) (by assumption) ?_
  refine wpAnyH_take (i := 9) (v := undef) rfl (by kernel_rfl) (by kernel_rfl) (by kernel_rfl) (fun _ _ _ h => h) (Or.inr ⟨by kernel_rfl, rfl⟩) (by assumption) ?_
  refine wpAnyH_take (i := 10) (v := undef) rfl (by kernel_rfl) (by kernel_rfl) (by kernel_rfl) (fun _ _ _ h => h) (Or.inr ⟨by kernel_rfl, rfl⟩) (by assumption) ?_
  refine wpAnyH_take (i := 11) (v := undef) rfl (by kernel_rfl) (by kernel_rfl) (by kernel_rfl) (fun _ _ _ h => h) (Or.inr ⟨by kernel_rfl, rfl⟩) (by assumption) ?_
  refine wpAnyH_take (i := 12) (v := undef) rfl (by kernel_rfl) (by kernel_rfl) (by kernel_rfl) (fun _ _ _ h => h) (Or.inr ⟨by kernel_rfl, rfl⟩) (by assumption) ?_
  refine wpAnyH_take (i := 13) (v := undef) rfl (by kernel_rfl) (by kernel_rfl) (by kernel_rfl) (fun _ _ _ h => h) (Or.inr ⟨by kernel_rfl, rfl⟩) (by assumption) ?_
  try simp only [Act.put, List.getElem_toArray, List.getElem_cons_succ, List.getElem_cons_zero, List.setIfInBounds_toArray, List.set_cons_zero, List.set_cons_succ]
  refine wpAnyH_take (i := 14) (v := ?vh2_14) rfl (by kernel_rfl) (by kernel_rfl) (by kernel_rfl) (fun _ _ _ h => h) (Or.inl ⟨by kernel_rfl, ?yh2_14⟩) (by assumption) ?_
  case yh2_14 => (intro w hSw; (try dsimp only at hSw); go_simp; try with_reducible rfl)
  try simp only [Act.put, List.getElem_toArray, List.getElem_cons_succ, List.getElem_cons_zero, List.setIfInBounds_toArray, List.set_cons_zero, List.set_cons_succ]
  refine wpAnyH_done (by kernel_rfl) ?_ _
  go_wp2
  go_ret
  exact ⟨rfl, (F1.bel HB.out).drew⟩
set_option maxRecDepth 100000 in
set_option maxHeartbeats 4000000 in
theorem drp_3 (W : World) (v : Bool) (h l : Nat) (n : Int) (hr : Ad.right ⟨v, h, l⟩) (hn : 0 ≤ n) (hw : (Ad.wd ⟨v, h, l⟩ : Int) < n) :
    Calls Tryd.prog 23 #[pfV v h l n] W fun e w' => e = .returned (.bool false) ∧ Below W.heap.size W w' := by
  have H1 : Hid (∀ w, Calls Tryd.prog 26 #[adV v h l] w fun e w' => e = .returned (.bool true) ∧ Below w.heap.size w w') := fun w => by have := rright_in w v h l; rwa [decide_eq_true hr] at this
  clear hr
  have hd : decide (n < 0) = false := decide_eq_false (by omega)
  have H2 := Hid.mk (fun w => rwidth_in w v h l)
  generalize Ad.wd ⟨v, h, l⟩ = X at hw H2
  have hd2 : decide ((X : Int) < n) = true := decide_eq_true hw
  obtain ⟨V, hV, F, HB⟩ : ∃ V, W.alloc (pfO v h l n) = V ∧ Kp V V ∧ Hid (Below W.heap.size W V) := ⟨_, rfl, Kp.refl _, by unfold Hid; go_grown⟩
  have HS : Hid (∀ w, Kp V w → Kp V w ∧ w.cell? ⟨W.heap.size, 0, none⟩ = some (.bool v) ∧ w.cell? ⟨W.heap.size, 1, none⟩ = some (.int .u64 (h : Int)) ∧ w.cell? ⟨W.heap.size, 2, none⟩ = some (.int .u64 (l : Int)) ∧ w.cell? ⟨W.heap.size, 3, none⟩ = some (.int .i64 n)) := fun w k => by
    have hc := pf_cells W v h l n
    rw [hV] at hc
    have hb : W.heap.size < V.heap.size := by rw [← hV]; simp
    exact ⟨k, k.cell hc.1 hb, k.cell hc.2.1 hb, k.cell hc.2.2.1 hb, k.cell hc.2.2.2 hb⟩
  have hV0 := (HS.out _ F).2
  go_enter Tryd.func23, Tryd.ntmps23
  go_wp2_with fail
  try rw [hV]
  clear hV
  refine (H1.out _).mono ?_
  rintro e w1 ⟨rfl, hb1⟩
  have F1 := F.blk hb1
  have hs1 := (HS.out _ F1).2
  clear hb1 hV0
  go_upto_region 2 with fail
  refine wp_region_held_drew (S := fun w => Kp V w ∧ w.cell? ⟨W.heap.size, 0, none⟩ = some (.bool v) ∧ w.cell? ⟨W.heap.size, 1, none⟩ = some (.int .u64 (h : Int)) ∧ w.cell? ⟨W.heap.size, 2, none⟩ = some (.int .u64 (l : Int)) ∧ w.cell? ⟨W.heap.size, 3, none⟩ = some (.int .i64 n)) (by kernel_rfl) (HS.out _ (Kp.drew F1)) (fun hHeld => ?_)
  refine wpAnyH_take (i := 0) (v := ?vh3_0) rfl (by kernel_rfl) (by kernel_rfl) (by kernel_rfl) (fun _ _ _ h => h) (Or.inl ⟨by kernel_rfl, ?yh3_0⟩) (by assumption) ?_
  case yh3_0 => (intro w hSw; (try dsimp only at hSw); go_simp; try with_reducible rfl)
  refine wpAnyH_take (i := 1) (v := ?vh3_1) rfl (by kernel_rfl) (by kernel_rfl) (by kernel_rfl) (fun _ _ _ h => h) (Or.inl ⟨by kernel_rfl, ?yh3_1⟩) (by assumption) ?_
  case yh3_1 => (intro w hSw; (try dsimp only at hSw); go_simp; try with_reducible rfl)
  refine wpAnyH_take (i := 2) (v := ?vh3_2) rfl (by kernel_rfl) (by kernel_rfl) (by kernel_rfl) (fun _ _ _ h => h) (Or.inl ⟨by kernel_rfl, ?yh3_2⟩) (by assumption) ?_
  case yh3_2 => (intro w hSw; (try dsimp only at hSw); go_simp; try with_reducible rfl)
  refine wpAnyH_take (i := 3) (v := ?vh3_3) rfl (by kernel_rfl) (by kernel_rfl) (by kernel_rfl) (fun _ _ _ h => h) (Or.inl ⟨by kernel_rfl, ?yh3_3⟩) (by assumption) ?_
  case yh3_3 => (intro w hSw; (try dsimp only at hSw); go_simp; try with_reducible rfl)
  refine wpAnyH_take (i := 4) (v := ?vh3_4) rfl (by kernel_rfl) (by kernel_rfl) (by kernel_rfl) (fun _ _ _ h => h) (Or.inl ⟨by kernel_rfl, ?yh3_4⟩) (by assumption) ?_
  case yh3_4 => (intro w hSw; (try dsimp only at hSw); go_simp; try with_reducible rfl)
  refine wpAnyH_take (i := 5) (v := ?vh3_5) rfl (by kernel_rfl) (by kernel_rfl) (by kernel_rfl) (fun _ _ _ h => h) (Or.inl ⟨by kernel_rfl, ?yh3_5⟩) (by assumption) ?_
  case yh3_5 => (intro w hSw; (try dsimp only at hSw); go_simp; try with_reducible rfl)
  refine wpAnyH_take (i := 6) (v := ?vh3_6) rfl (by kernel_rfl) (by kernel_rfl) (by kernel_rfl) (fun _ _ _ h => h) (Or.inl ⟨by kernel_rfl, ?yh3_6⟩) (by assumption) ?_
  case yh3_6 => (intro w hSw; (try dsimp only at hSw); go_simp; try with_reducible rfl)
  refine wpAnyH_take (i := 7) (v := ?vh3_7) rfl (by kernel_rfl) (by kernel_rfl) (by kernel_rfl) (fun _ _ _ h => h) (Or.inl ⟨by kernel_rfl, ?yh3_7⟩) (by assumption) ?_
  case yh3_7 => (intro w hSw; (try dsimp only at hSw); go_simp; try with_reducible rfl)
  refine wpAnyH_take (i := 8) (v := ?vh3_8) rfl (by kernel_rfl) (by kernel_rfl) (by kernel_rfl) (fun _ _ _ h => h) (Or.inl ⟨by kernel_rfl, ?yh3_8⟩) (by assumption) ?_
  case yh3_8 => (intro w hSw; (try dsimp only at hSw); go_simp; try with_reducible rfl)
  refine wpAnyH_take (i := 9) (v := ?vh3_9) rfl (by kernel_rfl) (by kernel_rfl) (by kernel_rfl) (fun _ _ _ h => h) (Or.inl ⟨by kernel_rfl, ?yh3_9⟩) (by assumption) ?_
  case yh3_9 => (intro w hSw; (try dsimp only at hSw); go_simp; try with_reducible rfl)
  refine wpAnyH_take (i := 10) (v := ?vh3_10) rfl (by kernel_rfl) (by kernel_rfl) (by kernel_rfl) (fun _ _ _ h => h) (Or.inl ⟨by kernel_rfl, ?yh3_10⟩) (by assumption) ?_
  case yh3_10 => (intro w hSw; (try dsimp only at hSw); go_simp; try with_reducible rfl)
  refine wpAnyH_take (i := 11) (v := ?vh3_11) rfl (by kernel_rfl) (by kernel_rfl) (by kernel_rfl) (fun _ _ _ h => h) (Or.inl ⟨by kernel_rfl, ?yh3_11⟩) (by assumption) ?_
  case yh3_11 => (intro w hSw; (try dsimp only at hSw); go_simp; try with_reducible rfl)
  try simp only [Act.put, List.getElem_toArray, List.getElem_cons_succ, List.getElem_cons_zero, List.setIfInBounds_toArray, List.set_cons_zero, List.set_cons_succ]
  refine wpAnyH_ready (rs := [12]) (by kernel_rfl) (by simp) ?_
  refine AllReadyH.cons rfl (fun K hK => ?_) AllReadyH.nil
  go_simp
  go_at_call 34
  with_reducible refine (H2.out _).mono ?_
  rintro e w3 ⟨rfl, hb3⟩
  have F3 := Kp.blk (V := V) (by repeat (first | assumption | apply Kp.drew)) hb3
  have hs3 := HS.out _ F3
  refine hK.out _ _ hs3 (fun hHeld3 => ?_)
  clear hK K
  try simp only [Act.put, List.getElem_toArray, List.getElem_cons_succ, List.getElem_cons_zero, List.setIfInBounds_toArray, List.set_cons_zero, List.set_cons_succ]
  refine wpAnyH_take (i := 13) (v := ?vh3_13) rfl (by kernel_rfl) (by kernel_rfl) (by kernel_rfl) (fun _ _ _ h => h) (Or.inl ⟨by kernel_rfl, ?yh3_13⟩) (by assumption) ?_
  case yh3_13 => (intro w hSw; (try dsimp only at hSw); go_simp; try with_reducible rfl)
  refine wpAnyH_take (i := 14) (v := ?vh3_14) rfl (by kernel_rfl) (by kernel_rfl) (by kernel_rfl) (fun _ _ _ h => h) (Or.inl ⟨by kernel_rfl, ?yh3_14⟩) (by assumption) ?_
  case yh3_14 => (intro w hSw; (try dsimp only at hSw); go_simp; try with_reducible rfl)
  try simp only [Act.put, List.getElem_toArray, List.getElem_cons_succ, List.getElem_cons_zero, List.setIfInBounds_toArray, List.set_cons_zero, List.set_cons_succ]
  refine wpAnyH_done (by kernel_rfl) ?_ _
  go_wp2
  go_ret
  exact ⟨rfl, F3.bel HB.out⟩
set_option maxRecDepth 100000 in
set_option maxHeartbeats 4000000 in
theorem drp_4 (W : World) (v : Bool) (h l : Nat) (n : Int) (m : Nat) (hm : n = m) (hh : h < 2 ^ 64) (hl : l < 2 ^ 64) (hr : Ad.right ⟨v, h, l⟩) (hw : m ≤ Ad.wd ⟨v, h, l⟩) :
    Calls Tryd.prog 23 #[pfV v h l n] W fun e w' => e = .returned (.bool (decide (Ad.fst ⟨v, h, l⟩ m = ⟨v, h, l⟩))) ∧ Below W.heap.size W w' := by
  subst hm
  have H1 : Hid (∀ w, Calls Tryd.prog 26 #[adV v h l] w fun e w' => e = .returned (.bool true) ∧ Below w.heap.size w w') := fun w => by have := rright_in w v h l; rwa [decide_eq_true hr] at this
  have H2 := Hid.mk (fun w => rwidth_in w v h l)
  obtain ⟨a, ha⟩ : ∃ a : Ad, (⟨v, h, l⟩ : Ad) = a := ⟨_, rfl⟩
  have haok : a.ok := by rw [← ha]; exact ⟨hh, hl⟩
  have H3 : Hid (∀ w (k : Nat), k < a.wd → Calls Tryd.prog 27 #[adV v h l, .int .i64 (k : Int)] w fun e w' => e = .returned (.int .u64 (((a.bt k).toNat : Nat) : Int)) ∧ Below w.heap.size w w') := fun w k hk => by
    have := bit_in w v h l k hh hl hr (by rw [ha]; exact hk)
    rwa [ha] at this
  rw [ha] at hr hw H2 ⊢
  have HFS := Hid.mk (fst_self haok hr hw)
  have hwd : a.wd ≤ 128 := by unfold Ad.wd; split <;> omega
  obtain ⟨RES, hRES⟩ : ∃ RES, decide (a.fst m = a) = RES := ⟨_, rfl⟩
  rw [hRES]
  have HT : Hid ((∀ k, m ≤ k → k < a.wd → a.bt k = false) → RES = true) := fun hk => by rw [← hRES]; exact decide_eq_true (HFS.out.2 hk)
  have HF : Hid (∀ k, m ≤ k → k < a.wd → a.bt k = true → RES = false) := fun k h1 h2 h3 => by
    rw [← hRES]
    exact decide_eq_false (fun e => by have := HFS.out.1 e k h1 h2; rw [h3] at this; cases this)
  clear hRES HFS
  obtain ⟨X, hX⟩ : ∃ X, a.wd = X := ⟨_, rfl⟩
  rw [hX] at H2 hw hwd
  have HX := Hid.mk hX
  have hd : decide ((m : Int) < 0) = false := decide_eq_false (by omega)
  have hd2 : decide ((X : Int) < (m : Int)) = false := decide_eq_false (by omega)
  have hd3 : decide (X < m) = false := decide_eq_false (by omega)
  clear hh hl hr ha haok hX
  obtain ⟨V, hV, F, HB⟩ : ∃ V, W.alloc (pfO v h l (m : Int)) = V ∧ Kp V V ∧ Hid (Below W.heap.size W V) := ⟨_, rfl, Kp.refl _, by unfold Hid; go_grown⟩
  have HS : Hid (∀ w, Kp V w → Kp V w ∧ w.cell? ⟨W.heap.size, 0, none⟩ = some (.bool v) ∧ w.cell? ⟨W.heap.size, 1, none⟩ = some (.int .u64 (h : Int)) ∧ w.cell? ⟨W.heap.size, 2, none⟩ = some (.int .u64 (l : Int)) ∧ w.cell? ⟨W.heap.size, 3, none⟩ = some (.int .i64 (m : Int))) := fun w k => by
    have hc := pf_cells W v h l (m : Int)
    rw [hV] at hc
    have hb : W.heap.size < V.heap.size := by rw [← hV]; simp
    exact ⟨k, k.cell hc.1 hb, k.cell hc.2.1 hb, k.cell hc.2.2.1 hb, k.cell hc.2.2.2 hb⟩
  have hV0 := (HS.out _ F).2
  go_enter Tryd.func23, Tryd.ntmps23
  go_wp2_with fail
  try rw [hV]
  clear hV
  refine (H1.out _).mono ?_
  rintro e w1 ⟨rfl, hb1⟩
  have F1 := F.blk hb1
  have hs1 := (HS.out _ F1).2
  clear hb1 hV0
  go_upto_region 2 with fail
  refine wp_region_held_drew (S := fun w => Kp V w ∧ w.cell? ⟨W.heap.size, 0, none⟩ = some (.bool v) ∧ w.cell? ⟨W.heap.size, 1, none⟩ = some (.int .u64 (h : Int)) ∧ w.cell? ⟨W.heap.size, 2, none⟩ = some (.int .u64 (l : Int)) ∧ w.cell? ⟨W.heap.size, 3, none⟩ = some (.int .i64 (m : Int))) (by kernel_rfl) (HS.out _ (Kp.drew F1)) (fun hHeld => ?_)
  refine wpAnyH_take (i := 0) (v := ?vh4_0) rfl (by kernel_rfl) (by kernel_rfl) (by kernel_rfl) (fun _ _ _ h => h) (Or.inl ⟨by kernel_rfl, ?yh4_0⟩) (by assumption) ?_
  case yh4_0 => (intro w hSw; (try dsimp only at hSw); go_simp; try with_reducible rfl)
  refine wpAnyH_take (i := 1) (v := ?vh4_1) rfl (by kernel_rfl) (by kernel_rfl) (by kernel_rfl) (fun _ _ _ h => h) (Or.inl ⟨by kernel_rfl, ?yh4_1⟩) (by assumption) ?_
  case yh4_1 => (intro w hSw; (try dsimp only at hSw); go_simp; try with_reducible rfl)
  refine wpAnyH_take (i := 2) (v := ?vh4_2) rfl (by kernel_rfl) (by kernel_rfl) (by kernel_rfl) (fun _ _ _ h => h) (Or.inl ⟨by kernel_rfl, ?yh4_2⟩) (by assumption) ?_
  case yh4_2 => (intro w hSw; (try dsimp only at hSw); go_simp; try with_reducible rfl)
  refine wpAnyH_take (i := 3) (v := ?vh4_3) rfl (by kernel_rfl) (by kernel_rfl) (by kernel_rfl) (fun _ _ _ h => h) (Or.inl ⟨by kernel_rfl, ?yh4_3⟩) (by assumption) ?_
  case yh4_3 => (intro w hSw; (try dsimp only at hSw); go_simp; try with_reducible rfl)
  refine wpAnyH_take (i := 4) (v := ?vh4_4) rfl (by kernel_rfl) (by kernel_rfl) (by kernel_rfl) (fun _ _ _ h => h) (Or.inl ⟨by kernel_rfl, ?yh4_4⟩) (by assumption) ?_
  case yh4_4 => (intro w hSw; (try dsimp only at hSw); go_simp; try with_reducible rfl)
  refine wpAnyH_take (i := 5) (v := ?vh4_5) rfl (by kernel_rfl) (by kernel_rfl) (by kernel_rfl) (fun _ _ _ h => h) (Or.inl ⟨by kernel_rfl, ?yh4_5⟩) (by assumption) ?_
  case yh4_5 => (intro w hSw; (try dsimp only at hSw); go_simp; try with_reducible rfl)
  refine wpAnyH_take (i := 6) (v := ?vh4_6) rfl (by kernel_rfl) (by kernel_rfl) (by kernel_rfl) (fun _ _ _ h => h) (Or.inl ⟨by kernel_rfl, ?yh4_6⟩) (by assumption) ?_
  case yh4_6 => (intro w hSw; (try dsimp only at hSw); go_simp; try with_reducible rfl)
  refine wpAnyH_take (i := 7) (v := ?vh4_7) rfl (by kernel_rfl) (by kernel_rfl) (by kernel_rfl) (fun _ _ _ h => h) (Or.inl ⟨by kernel_rfl, ?yh4_7⟩) (by assumption) ?_
  case yh4_7 => (intro w hSw; (try dsimp only at hSw); go_simp; try with_reducible rfl)
  refine wpAnyH_take (i := 8) (v := ?vh4_8) rfl (by kernel_rfl) (by kernel_rfl) (by kernel_rfl) (fun _ _ _ h => h) (Or.inl ⟨by kernel_rfl, ?yh4_8⟩) (by assumption) ?_
  case yh4_8 => (intro w hSw; (try dsimp only at hSw); go_simp; try with_reducible rfl)
  refine wpAnyH_take (i := 9) (v := ?vh4_9) rfl (by kernel_rfl) (by kernel_rfl) (by kernel_rfl) (fun _ _ _ h => h) (Or.inl ⟨by kernel_rfl, ?yh4_9⟩) (by assumption) ?_
  case yh4_9 => (intro w hSw; (try dsimp only at hSw); go_simp; try with_reducible rfl)
  refine wpAnyH_take (i := 10) (v := ?vh4_10) rfl (by kernel_rfl) (by kernel_rfl) (by kernel_rfl) (fun _ _ _ h => h) (Or.inl ⟨by kernel_rfl, ?yh4_10⟩) (by assumption) ?_
  case yh4_10 => (intro w hSw; (try dsimp only at hSw); go_simp; try with_reducible rfl)
  refine wpAnyH_take (i := 11) (v := ?vh4_11) rfl (by kernel_rfl) (by kernel_rfl) (by kernel_rfl) (fun _ _ _ h => h) (Or.inl ⟨by kernel_rfl, ?yh4_11⟩) (by assumption) ?_
  case yh4_11 => (intro w hSw; (try dsimp only at hSw); go_simp; try with_reducible rfl)
  try simp only [Act.put, List.getElem_toArray, List.getElem_cons_succ, List.getElem_cons_zero, List.setIfInBounds_toArray, List.set_cons_zero, List.set_cons_succ]
  refine wpAnyH_ready (rs := [12]) (by kernel_rfl) (by simp) ?_
  refine AllReadyH.cons rfl (fun K hK => ?_) AllReadyH.nil
  go_simp
  go_at_call 34
  with_reducible refine (H2.out _).mono ?_
  rintro e w3 ⟨rfl, hb3⟩
  have F3 := Kp.blk (V := V) (by repeat (first | assumption | apply Kp.drew)) hb3
  have hs3 := HS.out _ F3
  refine hK.out _ _ hs3 (fun hHeld3 => ?_)
  clear hK K
  try simp only [Act.put, List.getElem_toArray, List.getElem_cons_succ, List.getElem_cons_zero, List.setIfInBounds_toArray, List.set_cons_zero, List.set_cons_succ]
  refine wpAnyH_take (i := 13) (v := ?vh4_13) rfl (by kernel_rfl) (by kernel_rfl) (by kernel_rfl) (fun _ _ _ h => h) (Or.inl ⟨by kernel_rfl, ?yh4_13⟩) (by assumption) ?_
  case yh4_13 => (intro w hSw; (try dsimp only at hSw); go_simp; try with_reducible rfl)
  refine wpAnyH_take (i := 14) (v := ?vh4_14) rfl (by kernel_rfl) (by kernel_rfl) (by kernel_rfl) (fun _ _ _ h => h) (Or.inl ⟨by kernel_rfl, ?yh4_14⟩) (by assumption) ?_
  case yh4_14 => (intro w hSw; (try dsimp only at hSw); go_simp; try with_reducible rfl)
  try simp only [Act.put, List.getElem_toArray, List.getElem_cons_succ, List.getElem_cons_zero, List.setIfInBounds_toArray, List.set_cons_zero, List.set_cons_succ]
  refine wpAnyH_done (by kernel_rfl) ?_ _
  have hs3' := hs3.2
  go_wp2
  try simp only [hd3]
  go_loopw [4] (fun i wr => RpRel V a m i wr) (fun i _ => X + 1 - (intOf i).toNat)
  case atStart => exact ⟨m, rfl, Nat.le_refl _, by rw [HX.out]; exact hw, fun j h1 h2 => by omega, F3⟩
  case round =>
    obtain ⟨k, rfl, hk1, hk2, hk3, K⟩ := hrel
    rw [HX.out] at hk2
    have hsr := (HS.out _ K).2
    have HK3 := Hid.mk hk3
    clear hk3 hs3 hs3' hs1
    go_wp2_with fail
    refine (H2.out _).mono ?_
    rintro e w4 ⟨rfl, hb4⟩
    have K4 := K.blk hb4
    have hs4 := (HS.out _ K4).2
    clear hb4 hsr
    by_cases hlt : k < X
    · have hki : (k : Int) < (X : Int) := by omega
      go_wp2_with fail
      refine (H3.out _ k (by rw [HX.out]; exact hlt)).mono ?_
      rintro e w5 ⟨rfl, hb5⟩
      have K5 := K4.blk hb5
      have hs5 := (HS.out _ K5).2
      clear hb5 hs4
      cases hbk : a.bt k with
      | true =>
        have HR := Hid.mk (HF.out k hk1 (by rw [HX.out]; exact hlt) hbk)
        clear hbk
        simp only [Bool.toNat_true]
        go_wp2
        go_ret
        exact ⟨by rw [HR.out]; rfl, K5.bel HB.out⟩
      | false =>
        have HN : Hid (RpRel V a m (.int .i64 ((k : Int) + 1)) w5) := ⟨k + 1, by go_num, by omega, by rw [HX.out]; omega, fun j h1 h2 => by
          rcases Nat.lt_or_eq_of_le (Nat.le_of_lt_succ h2) with h | rfl
          · exact HK3.out j h1 h
          · exact hbk, K5⟩
        clear hbk
        simp only [Bool.toNat_false]
        go_wp2
        exact ⟨HN.out, by simp [intOf]; omega⟩
    · obtain rfl : k = X := by omega
      have HR := Hid.mk (HT.out (fun j h1 h2 => HK3.out j h1 (by rw [← HX.out]; exact h2)))
      go_wp2
      go_ret
      exact ⟨by rw [HR.out]; rfl, K4.bel HB.out⟩

theorem drp_in (W : World) (v : Bool) (h l : Nat) (n : Int) (hh : h < 2 ^ 64) (hl : l < 2 ^ 64) :
    Calls Tryd.prog 23 #[pfV v h l n] W fun e w' => e = .returned (.bool (decide (0 ≤ n ∧ okP ⟨v, h, l⟩ n.toNat))) ∧ Below W.heap.size W w' := by
  by_cases hr : Ad.right ⟨v, h, l⟩
  · by_cases h0 : 0 ≤ n
    · by_cases hw : (Ad.wd ⟨v, h, l⟩ : Int) < n
      · rw [decide_eq_false (fun x => by have := x.2.2.1; omega)]
        exact drp_3 W v h l n hr h0 hw
      · have := drp_4 W v h l n n.toNat (by omega) hh hl hr (by omega)
        have e : decide (0 ≤ n ∧ okP ⟨v, h, l⟩ n.toNat) = decide (Ad.fst ⟨v, h, l⟩ n.toNat = ⟨v, h, l⟩) := by
          rw [decide_eq_decide]
          exact ⟨fun x => x.2.2.2, fun x => ⟨h0, hr, by omega, x⟩⟩
        rw [e]
        exact this
    · rw [decide_eq_false (fun x => h0 x.1)]
      exact drp_2 W v h l n hr (by omega)
  · rw [decide_eq_false (fun x => hr x.2.1)]
    exact drp_1 W v h l n hr
end Go.Proofs.YtpognbkdafnfjaaDoor
