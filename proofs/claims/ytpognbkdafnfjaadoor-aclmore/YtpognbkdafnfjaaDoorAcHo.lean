/- Layer 13: Holds. -/
import Derived.Test.YtpognbkdafnfjaaDoorAcRp
namespace Go.Proofs.YtpognbkdafnfjaaDoor
set_option linter.unusedVariables false
set_option linter.unusedSimpArgs false
open Go.RowKit
attribute [local go_sem ↓] bin_ad bin_pf
attribute [local go_sem] adEqV_run pfEqV_run

theorem ho_cells (W : World) (v : Bool) (h l : Nat) (n : Int) (u : Bool) (x y : Nat) : (((W.alloc (pfO v h l n)).alloc (adO u x y)).cell? ⟨W.heap.size, 0, none⟩ = some (.bool v) ∧ ((W.alloc (pfO v h l n)).alloc (adO u x y)).cell? ⟨W.heap.size, 1, none⟩ = some (.int .u64 h) ∧ ((W.alloc (pfO v h l n)).alloc (adO u x y)).cell? ⟨W.heap.size, 2, none⟩ = some (.int .u64 l) ∧ ((W.alloc (pfO v h l n)).alloc (adO u x y)).cell? ⟨W.heap.size, 3, none⟩ = some (.int .i64 n)) ∧ ((W.alloc (pfO v h l n)).alloc (adO u x y)).cell? ⟨W.heap.size + 1, 0, none⟩ = some (.bool u) ∧ ((W.alloc (pfO v h l n)).alloc (adO u x y)).cell? ⟨W.heap.size + 1, 1, none⟩ = some (.int .u64 x) ∧ ((W.alloc (pfO v h l n)).alloc (adO u x y)).cell? ⟨W.heap.size + 1, 2, none⟩ = some (.int .u64 y) := by
  have hk : Kp (W.alloc (pfO v h l n)) ((W.alloc (pfO v h l n)).alloc (adO u x y)) := Below.alloc (Below.refl _ _) (Nat.le_refl _) _
  have hc := pf_cells W v h l n
  have hb : W.heap.size < (W.alloc (pfO v h l n)).heap.size := by simp
  have hh := heap_alloc_last (W.alloc (pfO v h l n)) (adO u x y)
  rw [show (W.alloc (pfO v h l n)).heap.size = W.heap.size + 1 by simp] at hh
  exact ⟨⟨hk.cell hc.1 hb, hk.cell hc.2.1 hb, hk.cell hc.2.2.1 hb, hk.cell hc.2.2.2 hb⟩, cell_of_heap hh rfl, cell_of_heap hh rfl, cell_of_heap hh rfl⟩
set_option maxRecDepth 100000 in
set_option maxHeartbeats 4000000 in
theorem ho_1 (W : World) (v : Bool) (h l : Nat) (n : Int) (u : Bool) (x y : Nat) (hh : h < 2 ^ 64) (hl : l < 2 ^ 64) (hp : ¬ (0 ≤ n ∧ okP ⟨v, h, l⟩ n.toNat)) :
    Calls Tryd.prog 14 #[pfV v h l n, adV u x y] W fun e w' => e = .returned (.bool false) ∧ Below W.heap.size W w' := by
  have H1 : Hid (∀ w, Calls Tryd.prog 19 #[pfV v h l n] w fun e w' => e = .returned (.bool false) ∧ Below w.heap.size w w') := fun w => by have := rp_in w v h l n hh hl; rwa [decide_eq_false hp] at this
  clear hp hh hl
  obtain ⟨V, hV, F, HB⟩ : ∃ V, (W.alloc (pfO v h l n)).alloc (adO u x y) = V ∧ Kp V V ∧ Hid (Below W.heap.size W V) := ⟨_, rfl, Kp.refl _, by unfold Hid; go_grown⟩
  have HS : Hid (∀ w, Kp V w → Kp V w ∧ w.cell? ⟨W.heap.size, 0, none⟩ = some (.bool v) ∧ w.cell? ⟨W.heap.size, 1, none⟩ = some (.int .u64 (h : Int)) ∧ w.cell? ⟨W.heap.size, 2, none⟩ = some (.int .u64 (l : Int)) ∧ w.cell? ⟨W.heap.size, 3, none⟩ = some (.int .i64 n) ∧ w.cell? ⟨W.heap.size + 1, 0, none⟩ = some (.bool u) ∧ w.cell? ⟨W.heap.size + 1, 1, none⟩ = some (.int .u64 (x : Int)) ∧ w.cell? ⟨W.heap.size + 1, 2, none⟩ = some (.int .u64 (y : Int))) := fun w k => by
    have hc := ho_cells W v h l n u x y
    rw [hV] at hc
    have hb : W.heap.size + 1 < V.heap.size := by rw [← hV]; simp
    exact ⟨k, k.cell hc.1.1 (by omega), k.cell hc.1.2.1 (by omega), k.cell hc.1.2.2.1 (by omega), k.cell hc.1.2.2.2 (by omega), k.cell hc.2.1 hb, k.cell hc.2.2.1 hb, k.cell hc.2.2.2 hb⟩
  go_enter Tryd.func14, Tryd.ntmps14
  go_upto_region 1 with fail
  try rw [hV]
  clear hV
  refine wp_region_held_drew (S := fun w => Kp V w ∧ w.cell? ⟨W.heap.size, 0, none⟩ = some (.bool v) ∧ w.cell? ⟨W.heap.size, 1, none⟩ = some (.int .u64 (h : Int)) ∧ w.cell? ⟨W.heap.size, 2, none⟩ = some (.int .u64 (l : Int)) ∧ w.cell? ⟨W.heap.size, 3, none⟩ = some (.int .i64 n) ∧ w.cell? ⟨W.heap.size + 1, 0, none⟩ = some (.bool u) ∧ w.cell? ⟨W.heap.size + 1, 1, none⟩ = some (.int .u64 (x : Int)) ∧ w.cell? ⟨W.heap.size + 1, 2, none⟩ = some (.int .u64 (y : Int))) (by kernel_rfl) (HS.out _ (Kp.drew F)) (fun hHeld => ?_)
  refine wpAnyH_take (i := 0) (v := ?vh5_0) rfl (by kernel_rfl) (by kernel_rfl) (by kernel_rfl) (fun _ _ _ h => h) (Or.inl ⟨by kernel_rfl, ?yh5_0⟩) (by assumption) ?_
  case yh5_0 => (intro w hSw; (try dsimp only at hSw); go_simp; try with_reducible rfl)
  try simp only [Act.put, List.getElem_toArray, List.getElem_cons_succ, List.getElem_cons_zero, List.setIfInBounds_toArray, List.set_cons_zero, List.set_cons_succ]
  refine wpAnyH_ready (rs := [1]) (by kernel_rfl) (by simp) ?_
  refine AllReadyH.cons rfl (fun K hK => ?_) AllReadyH.nil
  go_simp
  go_at_call 19
  with_reducible refine (H1.out _).mono ?_
  rintro e w2 ⟨rfl, hb2⟩
  have F2 := Kp.blk (V := V) (by repeat (first | assumption | apply Kp.drew)) hb2
  have hs2 := HS.out _ F2
  refine hK.out _ _ hs2 (fun hHeld2 => ?_)
  clear hK K
  try simp only [Act.put, List.getElem_toArray, List.getElem_cons_succ, List.getElem_cons_zero, List.setIfInBounds_toArray, List.set_cons_zero, List.set_cons_succ]
  refine wpAnyH_take (i := 2) (v := ?vh5_2) rfl (by kernel_rfl) (by kernel_rfl) (by kernel_rfl) (fun _ _ _ h => h) (Or.inl ⟨by kernel_rfl, ?yh5_2⟩) (by assumption) ?_
  case yh5_2 => (intro w hSw; (try dsimp only at hSw); go_simp; try with_reducible rfl)
  try simp only [Act.put, List.getElem_toArray, List.getElem_cons_succ, List.getElem_cons_zero, List.setIfInBounds_toArray, List.set_cons_zero, List.set_cons_succ]
  refine wpAnyH_take (i := 3) (v := undef) rfl (by kernel_rfl) (by kernel_rfl) (by kernel_rfl) (fun _ _ _ h => h) (Or.inr ⟨by kernel_rfl, rfl⟩) (by assumption) ?_
  refine wpAnyH_take (i := 4) (v := undef) rfl (by kernel_rfl) (by kernel_rfl) (by kernel_rfl) (fun _ _ _ h => h) (Or.inr ⟨by kernel_rfl, rfl⟩) (by assumption) ?_
  try simp only [Act.put, List.getElem_toArray, List.getElem_cons_succ, List.getElem_cons_zero, List.setIfInBounds_toArray, List.set_cons_zero, List.set_cons_succ]
  refine wpAnyH_take (i := 5) (v := ?vh5_5) rfl (by kernel_rfl) (by kernel_rfl) (by kernel_rfl) (fun _ _ _ h => h) (Or.inl ⟨by kernel_rfl, ?yh5_5⟩) (by assumption) ?_
  case yh5_5 => (intro w hSw; (try dsimp only at hSw); go_simp; try with_reducible rfl)
  refine wpAnyH_take (i := 6) (v := ?vh5_6) rfl (by kernel_rfl) (by kernel_rfl) (by kernel_rfl) (fun _ _ _ h => h) (Or.inl ⟨by kernel_rfl, ?yh5_6⟩) (by assumption) ?_
  case yh5_6 => (intro w hSw; (try dsimp only at hSw); go_simp; try with_reducible rfl)
  try simp only [Act.put, List.getElem_toArray, List.getElem_cons_succ, List.getElem_cons_zero, List.setIfInBounds_toArray, List.set_cons_zero, List.set_cons_succ]
  refine wpAnyH_take (i := 7) (v := undef) rfl (by kernel_rfl) (by kernel_rfl) (by kernel_rfl) (fun _ _ _ h => h) (Or.inr ⟨by kernel_rfl, rfl⟩) (by assumption) ?_
  refine wpAnyH_take (i := 8) (v := undef) rfl (by kernel_rfl) (by kernel_rfl) (by kernel_rfl) (fun _ _ _ h => h) (Or.inr ⟨by kernel_rfl, rfl⟩) (by assumption) ?_
  refine wpAnyH_take (i := 9) (v := undef) rfl (by kernel_rfl) (by kernel_rfl) (by kernel_rfl) (fun _ _ _ h => h) (Or.inr ⟨by kernel_rfl, rfl⟩) (by assumption) ?_
  refine wpAnyH_take (i := 10) (v := undef) rfl (by kernel_rfl) (by kernel_rfl) (by kernel_rfl) (fun _ _ _ h => h) (Or.inr ⟨by kernel_rfl, rfl⟩) (by assumption) ?_
  refine wpAnyH_take (i := 11) (v := undef) rfl (by kernel_rfl) (by kernel_rfl) (by kernel_rfl) (fun _ _ _ h => h) (Or.inr ⟨by kernel_rfl, rfl⟩) (by assumption) ?_
  refine wpAnyH_take (i := 12) (v := undef) rfl (by kernel_rfl) (by kernel_rfl) (by kernel_rfl) (fun _ _ _ h => h) (Or.inr ⟨by kernel_rfl, rfl⟩) (by assumption) ?_
  try simp only [Act.put, List.getElem_toArray, List.getElem_cons_succ, List.getElem_cons_zero, List.setIfInBounds_toArray, List.set_cons_zero, List.set_cons_succ]
  refine wpAnyH_take (i := 13) (v := ?vh5_13) rfl (by kernel_rfl) (by kernel_rfl) (by kernel_rfl) (fun _ _ _ h => h) (Or.inl ⟨by kernel_rfl, ?yh5_13⟩) (by assumption) ?_
  case yh5_13 => (intro w hSw; (try dsimp only at hSw); go_simp; try with_reducible rfl)
  refine wpAnyH_take (i := 14) (v := ?vh5_14) rfl (by kernel_rfl) (by kernel_rfl) (by kernel_rfl) (fun _ _ _ h => h) (Or.inl ⟨by kernel_rfl, ?yh5_14⟩) (by assumption) ?_
  case yh5_14 => (intro w hSw; (try dsimp only at hSw); go_simp; try with_reducible rfl)
  try simp only [Act.put, List.getElem_toArray, List.getElem_cons_succ, List.getElem_cons_zero, List.setIfInBounds_toArray, List.set_cons_zero, List.set_cons_succ]
  refine wpAnyH_take (i := 15) (v := undef) rfl (by kernel_rfl) (by kernel_rfl) (by kernel_rfl) (fun _ _ _ h => h) (Or.inr ⟨by kernel_rfl, rfl⟩) (by assumption) ?_
  refine wpAnyH_take (i := 16) (v := undef) rfl (by kernel_rfl) (by kernel_rfl) (by kernel_rfl) (fun _ _ _ h => h) (Or.inr ⟨by kernel_rfl, rfl⟩) (by assumption) ?_
  refine wpAnyH_take (i := 17) (v := undef) rfl (by kernel_rfl) (by kernel_rfl) (by kernel_rfl) (fun _ _ _ h => h) (Or.inr ⟨by kernel_rfl, rfl⟩) (by assumption) ?_
  refine wpAnyH_take (i := 18) (v := undef) rfl (by kernel_rfl) (by kernel_rfl) (by kernel_rfl) (fun _ _ _ h => h) (Or.inr ⟨by kernel_rfl, rfl⟩) (by assumption) ?_
  refine wpAnyH_take (i := 19) (v := undef) rfl (by kernel_rfl) (by kernel_rfl) (by kernel_rfl) (fun _ _ _ h => h) (Or.inr ⟨by kernel_rfl, rfl⟩) (by assumption) ?_
  refine wpAnyH_take (i := 20) (v := undef) rfl (by kernel_rfl) (by kernel_rfl) (by kernel_rfl) (fun _ _ _ h => h) (Or.inr ⟨by kernel_rfl, rfl⟩) (by assumption) ?_
  refine wpAnyH_take (i := 21) (v := undef) rfl (by kernel_rfl) (by kernel_rfl) (by kernel_rfl) (fun _ _ _ h => h) (Or.inr ⟨by kernel_rfl, rfl⟩) (by assumption) ?_
  try simp only [Act.put, List.getElem_toArray, List.getElem_cons_succ, List.getElem_cons_zero, List.setIfInBounds_toArray, List.set_cons_zero, List.set_cons_succ]
  refine wpAnyH_take (i := 22) (v := ?vh5_22) rfl (by kernel_rfl) (by kernel_rfl) (by kernel_rfl) (fun _ _ _ h => h) (Or.inl ⟨by kernel_rfl, ?yh5_22⟩) (by assumption) ?_
  case yh5_22 => (intro w hSw; (try dsimp only at hSw); go_simp; try with_reducible rfl)
  refine wpAnyH_take (i := 23) (v := ?vh5_23) rfl (by kernel_rfl) (by kernel_rfl) (by kernel_rfl) (fun _ _ _ h => h) (Or.inl ⟨by kernel_rfl, ?yh5_23⟩) (by assumption) ?_
  case yh5_23 => (intro w hSw; (try dsimp only at hSw); go_simp; try with_reducible rfl)
  try simp only [Act.put, List.getElem_toArray, List.getElem_cons_succ, List.getElem_cons_zero, List.setIfInBounds_toArray, List.set_cons_zero, List.set_cons_succ]
  refine wpAnyH_done (by kernel_rfl) ?_ _
  go_wp2
  go_ret
  exact ⟨rfl, F2.bel HB.out⟩
set_option maxRecDepth 100000 in
set_option maxHeartbeats 4000000 in
theorem ho_2 (W : World) (v : Bool) (h l : Nat) (n : Int) (u : Bool) (x y : Nat) (hh : h < 2 ^ 64) (hl : l < 2 ^ 64) (hp : 0 ≤ n ∧ okP ⟨v, h, l⟩ n.toNat) (hr : ¬ Ad.right ⟨u, x, y⟩) :
    Calls Tryd.prog 14 #[pfV v h l n, adV u x y] W fun e w' => e = .returned (.bool false) ∧ Below W.heap.size W w' := by
  have H1 : Hid (∀ w, Calls Tryd.prog 19 #[pfV v h l n] w fun e w' => e = .returned (.bool true) ∧ Below w.heap.size w w') := fun w => by have := rp_in w v h l n hh hl; rwa [decide_eq_true hp] at this
  clear hp hh hl
  have H2 : Hid (∀ w, Calls Tryd.prog 17 #[adV u x y] w fun e w' => e = .returned (.bool false) ∧ Below w.heap.size w w') := fun w => by have := right_b w u x y; rwa [decide_eq_false hr] at this
  clear hr
  obtain ⟨V, hV, F, HB⟩ : ∃ V, (W.alloc (pfO v h l n)).alloc (adO u x y) = V ∧ Kp V V ∧ Hid (Below W.heap.size W V) := ⟨_, rfl, Kp.refl _, by unfold Hid; go_grown⟩
  have HS : Hid (∀ w, Kp V w → Kp V w ∧ w.cell? ⟨W.heap.size, 0, none⟩ = some (.bool v) ∧ w.cell? ⟨W.heap.size, 1, none⟩ = some (.int .u64 (h : Int)) ∧ w.cell? ⟨W.heap.size, 2, none⟩ = some (.int .u64 (l : Int)) ∧ w.cell? ⟨W.heap.size, 3, none⟩ = some (.int .i64 n) ∧ w.cell? ⟨W.heap.size + 1, 0, none⟩ = some (.bool u) ∧ w.cell? ⟨W.heap.size + 1, 1, none⟩ = some (.int .u64 (x : Int)) ∧ w.cell? ⟨W.heap.size + 1, 2, none⟩ = some (.int .u64 (y : Int))) := fun w k => by
    have hc := ho_cells W v h l n u x y
    rw [hV] at hc
    have hb : W.heap.size + 1 < V.heap.size := by rw [← hV]; simp
    exact ⟨k, k.cell hc.1.1 (by omega), k.cell hc.1.2.1 (by omega), k.cell hc.1.2.2.1 (by omega), k.cell hc.1.2.2.2 (by omega), k.cell hc.2.1 hb, k.cell hc.2.2.1 hb, k.cell hc.2.2.2 hb⟩
  go_enter Tryd.func14, Tryd.ntmps14
  go_upto_region 1 with fail
  try rw [hV]
  clear hV
  refine wp_region_held_drew (S := fun w => Kp V w ∧ w.cell? ⟨W.heap.size, 0, none⟩ = some (.bool v) ∧ w.cell? ⟨W.heap.size, 1, none⟩ = some (.int .u64 (h : Int)) ∧ w.cell? ⟨W.heap.size, 2, none⟩ = some (.int .u64 (l : Int)) ∧ w.cell? ⟨W.heap.size, 3, none⟩ = some (.int .i64 n) ∧ w.cell? ⟨W.heap.size + 1, 0, none⟩ = some (.bool u) ∧ w.cell? ⟨W.heap.size + 1, 1, none⟩ = some (.int .u64 (x : Int)) ∧ w.cell? ⟨W.heap.size + 1, 2, none⟩ = some (.int .u64 (y : Int))) (by kernel_rfl) (HS.out _ (Kp.drew F)) (fun hHeld => ?_)
  refine wpAnyH_take (i := 0) (v := ?vh6_0) rfl (by kernel_rfl) (by kernel_rfl) (by kernel_rfl) (fun _ _ _ h => h) (Or.inl ⟨by kernel_rfl, ?yh6_0⟩) (by assumption) ?_
  case yh6_0 => (intro w hSw; (try dsimp only at hSw); go_simp; try with_reducible rfl)
  try simp only [Act.put, List.getElem_toArray, List.getElem_cons_succ, List.getElem_cons_zero, List.setIfInBounds_toArray, List.set_cons_zero, List.set_cons_succ]
  refine wpAnyH_ready (rs := [1]) (by kernel_rfl) (by simp) ?_
  refine AllReadyH.cons rfl (fun K hK => ?_) AllReadyH.nil
  go_simp
  go_at_call 19
  with_reducible refine (H1.out _).mono ?_
  rintro e w2 ⟨rfl, hb2⟩
  have F2 := Kp.blk (V := V) (by repeat (first | assumption | apply Kp.drew)) hb2
  have hs2 := HS.out _ F2
  refine hK.out _ _ hs2 (fun hHeld2 => ?_)
  clear hK K
  try simp only [Act.put, List.getElem_toArray, List.getElem_cons_succ, List.getElem_cons_zero, List.setIfInBounds_toArray, List.set_cons_zero, List.set_cons_succ]
  refine wpAnyH_take (i := 2) (v := ?vh6_2) rfl (by kernel_rfl) (by kernel_rfl) (by kernel_rfl) (fun _ _ _ h => h) (Or.inl ⟨by kernel_rfl, ?yh6_2⟩) (by assumption) ?_
  case yh6_2 => (intro w hSw; (try dsimp only at hSw); go_simp; try with_reducible rfl)
  refine wpAnyH_take (i := 3) (v := ?vh6_3) rfl (by kernel_rfl) (by kernel_rfl) (by kernel_rfl) (fun _ _ _ h => h) (Or.inl ⟨by kernel_rfl, ?yh6_3⟩) (by assumption) ?_
  case yh6_3 => (intro w hSw; (try dsimp only at hSw); go_simp; try with_reducible rfl)
  try simp only [Act.put, List.getElem_toArray, List.getElem_cons_succ, List.getElem_cons_zero, List.setIfInBounds_toArray, List.set_cons_zero, List.set_cons_succ]
  refine wpAnyH_ready (rs := [4]) (by kernel_rfl) (by simp) ?_
  refine AllReadyH.cons rfl (fun K hK => ?_) AllReadyH.nil
  go_simp
  go_at_call 17
  with_reducible refine (H2.out _).mono ?_
  rintro e w3 ⟨rfl, hb3⟩
  have F3 := Kp.blk (V := V) (by repeat (first | assumption | apply Kp.drew)) hb3
  have hs3 := HS.out _ F3
  refine hK.out _ _ hs3 (fun hHeld3 => ?_)
  clear hK K
  try simp only [Act.put, List.getElem_toArray, List.getElem_cons_succ, List.getElem_cons_zero, List.setIfInBounds_toArray, List.set_cons_zero, List.set_cons_succ]
  refine wpAnyH_take (i := 5) (v := ?vh6_5) rfl (by kernel_rfl) (by kernel_rfl) (by kernel_rfl) (fun _ _ _ h => h) (Or.inl ⟨by kernel_rfl, ?yh6_5⟩) (by assumption) ?_
  case yh6_5 => (intro w hSw; (try dsimp only at hSw); go_simp; try with_reducible rfl)
  refine wpAnyH_take (i := 6) (v := ?vh6_6) rfl (by kernel_rfl) (by kernel_rfl) (by kernel_rfl) (fun _ _ _ h => h) (Or.inl ⟨by kernel_rfl, ?yh6_6⟩) (by assumption) ?_
  case yh6_6 => (intro w hSw; (try dsimp only at hSw); go_simp; try with_reducible rfl)
  try simp only [Act.put, List.getElem_toArray, List.getElem_cons_succ, List.getElem_cons_zero, List.setIfInBounds_toArray, List.set_cons_zero, List.set_cons_succ]
  refine wpAnyH_take (i := 7) (v := undef) rfl (by kernel_rfl) (by kernel_rfl) (by kernel_rfl) (fun _ _ _ h => h) (Or.inr ⟨by kernel_rfl, rfl⟩) (by assumption) ?_
  refine wpAnyH_take (i := 8) (v := undef) rfl (by kernel_rfl) (by kernel_rfl) (by kernel_rfl) (fun _ _ _ h => h) (Or.inr ⟨by kernel_rfl, rfl⟩) (by assumption) ?_
  refine wpAnyH_take (i := 9) (v := undef) rfl (by kernel_rfl) (by kernel_rfl) (by kernel_rfl) (fun _ _ _ h => h) (Or.inr ⟨by kernel_rfl, rfl⟩) (by assumption) ?_
  refine wpAnyH_take (i := 10) (v := undef) rfl (by kernel_rfl) (by kernel_rfl) (by kernel_rfl) (fun _ _ _ h => h) (Or.inr ⟨by kernel_rfl, rfl⟩) (by assumption) ?_
  refine wpAnyH_take (i := 11) (v := undef) rfl (by kernel_rfl) (by kernel_rfl) (by kernel_rfl) (fun _ _ _ h => h) (Or.inr ⟨by kernel_rfl, rfl⟩) (by assumption) ?_
  refine wpAnyH_take (i := 12) (v := undef) rfl (by kernel_rfl) (by kernel_rfl) (by kernel_rfl) (fun _ _ _ h => h) (Or.inr ⟨by kernel_rfl, rfl⟩) (by assumption) ?_
  try simp only [Act.put, List.getElem_toArray, List.getElem_cons_succ, List.getElem_cons_zero, List.setIfInBounds_toArray, List.set_cons_zero, List.set_cons_succ]
  refine wpAnyH_take (i := 13) (v := ?vh6_13) rfl (by kernel_rfl) (by kernel_rfl) (by kernel_rfl) (fun _ _ _ h => h) (Or.inl ⟨by kernel_rfl, ?yh6_13⟩) (by assumption) ?_
  case yh6_13 => (intro w hSw; (try dsimp only at hSw); go_simp; try with_reducible rfl)
  refine wpAnyH_take (i := 14) (v := ?vh6_14) rfl (by kernel_rfl) (by kernel_rfl) (by kernel_rfl) (fun _ _ _ h => h) (Or.inl ⟨by kernel_rfl, ?yh6_14⟩) (by assumption) ?_
  case yh6_14 => (intro w hSw; (try dsimp only at hSw); go_simp; try with_reducible rfl)
  try simp only [Act.put, List.getElem_toArray, List.getElem_cons_succ, List.getElem_cons_zero, List.setIfInBounds_toArray, List.set_cons_zero, List.set_cons_succ]
  refine wpAnyH_take (i := 15) (v := undef) rfl (by kernel_rfl) (by kernel_rfl) (by kernel_rfl) (fun _ _ _ h => h) (Or.inr ⟨by kernel_rfl, rfl⟩) (by assumption) ?_
  refine wpAnyH_take (i := 16) (v := undef) rfl (by kernel_rfl) (by kernel_rfl) (by kernel_rfl) (fun _ _ _ h => h) (Or.inr ⟨by kernel_rfl, rfl⟩) (by assumption) ?_
  refine wpAnyH_take (i := 17) (v := undef) rfl (by kernel_rfl) (by kernel_rfl) (by kernel_rfl) (fun _ _ _ h => h) (Or.inr ⟨by kernel_rfl, rfl⟩) (by assumption) ?_
  refine wpAnyH_take (i := 18) (v := undef) rfl (by kernel_rfl) (by kernel_rfl) (by kernel_rfl) (fun _ _ _ h => h) (Or.inr ⟨by kernel_rfl, rfl⟩) (by assumption) ?_
  refine wpAnyH_take (i := 19) (v := undef) rfl (by kernel_rfl) (by kernel_rfl) (by kernel_rfl) (fun _ _ _ h => h) (Or.inr ⟨by kernel_rfl, rfl⟩) (by assumption) ?_
  refine wpAnyH_take (i := 20) (v := undef) rfl (by kernel_rfl) (by kernel_rfl) (by kernel_rfl) (fun _ _ _ h => h) (Or.inr ⟨by kernel_rfl, rfl⟩) (by assumption) ?_
  refine wpAnyH_take (i := 21) (v := undef) rfl (by kernel_rfl) (by kernel_rfl) (by kernel_rfl) (fun _ _ _ h => h) (Or.inr ⟨by kernel_rfl, rfl⟩) (by assumption) ?_
  try simp only [Act.put, List.getElem_toArray, List.getElem_cons_succ, List.getElem_cons_zero, List.setIfInBounds_toArray, List.set_cons_zero, List.set_cons_succ]
  refine wpAnyH_take (i := 22) (v := ?vh6_22) rfl (by kernel_rfl) (by kernel_rfl) (by kernel_rfl) (fun _ _ _ h => h) (Or.inl ⟨by kernel_rfl, ?yh6_22⟩) (by assumption) ?_
  case yh6_22 => (intro w hSw; (try dsimp only at hSw); go_simp; try with_reducible rfl)
  refine wpAnyH_take (i := 23) (v := ?vh6_23) rfl (by kernel_rfl) (by kernel_rfl) (by kernel_rfl) (fun _ _ _ h => h) (Or.inl ⟨by kernel_rfl, ?yh6_23⟩) (by assumption) ?_
  case yh6_23 => (intro w hSw; (try dsimp only at hSw); go_simp; try with_reducible rfl)
  try simp only [Act.put, List.getElem_toArray, List.getElem_cons_succ, List.getElem_cons_zero, List.setIfInBounds_toArray, List.set_cons_zero, List.set_cons_succ]
  refine wpAnyH_done (by kernel_rfl) ?_ _
  go_wp2
  go_ret
  exact ⟨rfl, F3.bel HB.out⟩
set_option maxRecDepth 100000 in
set_option maxHeartbeats 4000000 in
theorem ho_3t (W : World) (h l : Nat) (n : Int) (x y : Nat) (hh : h < 2 ^ 64) (hl : l < 2 ^ 64) (hp : 0 ≤ n ∧ okP ⟨true, h, l⟩ n.toNat) (hr : Ad.right ⟨false, x, y⟩) :
    Calls Tryd.prog 14 #[pfV true h l n, adV false x y] W fun e w' => e = .returned (.bool false) ∧ Below W.heap.size W w' := by
  have H1 : Hid (∀ w, Calls Tryd.prog 19 #[pfV true h l n] w fun e w' => e = .returned (.bool true) ∧ Below w.heap.size w w') := fun w => by have := rp_in w true h l n hh hl; rwa [decide_eq_true hp] at this
  clear hp hh hl
  have H2 : Hid (∀ w, Calls Tryd.prog 17 #[adV false x y] w fun e w' => e = .returned (.bool true) ∧ Below w.heap.size w w') := fun w => by have := right_b w false x y; rwa [decide_eq_true hr] at this
  clear hr
  obtain ⟨V, hV, F, HB⟩ : ∃ V, (W.alloc (pfO true h l n)).alloc (adO false x y) = V ∧ Kp V V ∧ Hid (Below W.heap.size W V) := ⟨_, rfl, Kp.refl _, by unfold Hid; go_grown⟩
  have HS : Hid (∀ w, Kp V w → Kp V w ∧ w.cell? ⟨W.heap.size, 0, none⟩ = some (.bool true) ∧ w.cell? ⟨W.heap.size, 1, none⟩ = some (.int .u64 (h : Int)) ∧ w.cell? ⟨W.heap.size, 2, none⟩ = some (.int .u64 (l : Int)) ∧ w.cell? ⟨W.heap.size, 3, none⟩ = some (.int .i64 n) ∧ w.cell? ⟨W.heap.size + 1, 0, none⟩ = some (.bool false) ∧ w.cell? ⟨W.heap.size + 1, 1, none⟩ = some (.int .u64 (x : Int)) ∧ w.cell? ⟨W.heap.size + 1, 2, none⟩ = some (.int .u64 (y : Int))) := fun w k => by
    have hc := ho_cells W true h l n false x y
    rw [hV] at hc
    have hb : W.heap.size + 1 < V.heap.size := by rw [← hV]; simp
    exact ⟨k, k.cell hc.1.1 (by omega), k.cell hc.1.2.1 (by omega), k.cell hc.1.2.2.1 (by omega), k.cell hc.1.2.2.2 (by omega), k.cell hc.2.1 hb, k.cell hc.2.2.1 hb, k.cell hc.2.2.2 hb⟩
  go_enter Tryd.func14, Tryd.ntmps14
  go_upto_region 1 with fail
  try rw [hV]
  clear hV
  refine wp_region_held_drew (S := fun w => Kp V w ∧ w.cell? ⟨W.heap.size, 0, none⟩ = some (.bool true) ∧ w.cell? ⟨W.heap.size, 1, none⟩ = some (.int .u64 (h : Int)) ∧ w.cell? ⟨W.heap.size, 2, none⟩ = some (.int .u64 (l : Int)) ∧ w.cell? ⟨W.heap.size, 3, none⟩ = some (.int .i64 n) ∧ w.cell? ⟨W.heap.size + 1, 0, none⟩ = some (.bool false) ∧ w.cell? ⟨W.heap.size + 1, 1, none⟩ = some (.int .u64 (x : Int)) ∧ w.cell? ⟨W.heap.size + 1, 2, none⟩ = some (.int .u64 (y : Int))) (by kernel_rfl) (HS.out _ (Kp.drew F)) (fun hHeld => ?_)
  refine wpAnyH_take (i := 0) (v := ?vh7_0) rfl (by kernel_rfl) (by kernel_rfl) (by kernel_rfl) (fun _ _ _ h => h) (Or.inl ⟨by kernel_rfl, ?yh7_0⟩) (by assumption) ?_
  case yh7_0 => (intro w hSw; (try dsimp only at hSw); go_simp; try with_reducible rfl)
  try simp only [Act.put, List.getElem_toArray, List.getElem_cons_succ, List.getElem_cons_zero, List.setIfInBounds_toArray, List.set_cons_zero, List.set_cons_succ]
  refine wpAnyH_ready (rs := [1]) (by kernel_rfl) (by simp) ?_
  refine AllReadyH.cons rfl (fun K hK => ?_) AllReadyH.nil
  go_simp
  go_at_call 19
  with_reducible refine (H1.out _).mono ?_
  rintro e w2 ⟨rfl, hb2⟩
  have F2 := Kp.blk (V := V) (by repeat (first | assumption | apply Kp.drew)) hb2
  have hs2 := HS.out _ F2
  refine hK.out _ _ hs2 (fun hHeld2 => ?_)
  clear hK K
  try simp only [Act.put, List.getElem_toArray, List.getElem_cons_succ, List.getElem_cons_zero, List.setIfInBounds_toArray, List.set_cons_zero, List.set_cons_succ]
  refine wpAnyH_take (i := 2) (v := ?vh7_2) rfl (by kernel_rfl) (by kernel_rfl) (by kernel_rfl) (fun _ _ _ h => h) (Or.inl ⟨by kernel_rfl, ?yh7_2⟩) (by assumption) ?_
  case yh7_2 => (intro w hSw; (try dsimp only at hSw); go_simp; try with_reducible rfl)
  refine wpAnyH_take (i := 3) (v := ?vh7_3) rfl (by kernel_rfl) (by kernel_rfl) (by kernel_rfl) (fun _ _ _ h => h) (Or.inl ⟨by kernel_rfl, ?yh7_3⟩) (by assumption) ?_
  case yh7_3 => (intro w hSw; (try dsimp only at hSw); go_simp; try with_reducible rfl)
  try simp only [Act.put, List.getElem_toArray, List.getElem_cons_succ, List.getElem_cons_zero, List.setIfInBounds_toArray, List.set_cons_zero, List.set_cons_succ]
  refine wpAnyH_ready (rs := [4]) (by kernel_rfl) (by simp) ?_
  refine AllReadyH.cons rfl (fun K hK => ?_) AllReadyH.nil
  go_simp
  go_at_call 17
  with_reducible refine (H2.out _).mono ?_
  rintro e w3 ⟨rfl, hb3⟩
  have F3 := Kp.blk (V := V) (by repeat (first | assumption | apply Kp.drew)) hb3
  have hs3 := HS.out _ F3
  refine hK.out _ _ hs3 (fun hHeld3 => ?_)
  clear hK K
  try simp only [Act.put, List.getElem_toArray, List.getElem_cons_succ, List.getElem_cons_zero, List.setIfInBounds_toArray, List.set_cons_zero, List.set_cons_succ]
  refine wpAnyH_take (i := 5) (v := ?vh7_5) rfl (by kernel_rfl) (by kernel_rfl) (by kernel_rfl) (fun _ _ _ h => h) (Or.inl ⟨by kernel_rfl, ?yh7_5⟩) (by assumption) ?_
  case yh7_5 => (intro w hSw; (try dsimp only at hSw); go_simp; try with_reducible rfl)
  refine wpAnyH_take (i := 6) (v := ?vh7_6) rfl (by kernel_rfl) (by kernel_rfl) (by kernel_rfl) (fun _ _ _ h => h) (Or.inl ⟨by kernel_rfl, ?yh7_6⟩) (by assumption) ?_
  case yh7_6 => (intro w hSw; (try dsimp only at hSw); go_simp; try with_reducible rfl)
  refine wpAnyH_take (i := 7) (v := ?vh7_7) rfl (by kernel_rfl) (by kernel_rfl) (by kernel_rfl) (fun _ _ _ h => h) (Or.inl ⟨by kernel_rfl, ?yh7_7⟩) (by assumption) ?_
  case yh7_7 => (intro w hSw; (try dsimp only at hSw); go_simp; try with_reducible rfl)
  refine wpAnyH_take (i := 8) (v := ?vh7_8) rfl (by kernel_rfl) (by kernel_rfl) (by kernel_rfl) (fun _ _ _ h => h) (Or.inl ⟨by kernel_rfl, ?yh7_8⟩) (by assumption) ?_
  case yh7_8 => (intro w hSw; (try dsimp only at hSw); go_simp; try with_reducible rfl)
  refine wpAnyH_take (i := 9) (v := ?vh7_9) rfl (by kernel_rfl) (by kernel_rfl) (by kernel_rfl) (fun _ _ _ h => h) (Or.inl ⟨by kernel_rfl, ?yh7_9⟩) (by assumption) ?_
  case yh7_9 => (intro w hSw; (try dsimp only at hSw); go_simp; try with_reducible rfl)
  refine wpAnyH_take (i := 10) (v := ?vh7_10) rfl (by kernel_rfl) (by kernel_rfl) (by kernel_rfl) (fun _ _ _ h => h) (Or.inl ⟨by kernel_rfl, ?yh7_10⟩) (by assumption) ?_
  case yh7_10 => (intro w hSw; (try dsimp only at hSw); go_simp; try with_reducible rfl)
  refine wpAnyH_take (i := 11) (v := ?vh7_11) rfl (by kernel_rfl) (by kernel_rfl) (by kernel_rfl) (fun _ _ _ h => h) (Or.inl ⟨by kernel_rfl, ?yh7_11⟩) (by assumption) ?_
  case yh7_11 => (intro w hSw; (try dsimp only at hSw); go_simp; try with_reducible rfl)
  refine wpAnyH_take (i := 12) (v := ?vh7_12) rfl (by kernel_rfl) (by kernel_rfl) (by kernel_rfl) (fun _ _ _ h => h) (Or.inl ⟨by kernel_rfl, ?yh7_12⟩) (by assumption) ?_
  case yh7_12 => (intro w hSw; (try dsimp only at hSw); go_simp; try with_reducible rfl)
  refine wpAnyH_take (i := 13) (v := ?vh7_13) rfl (by kernel_rfl) (by kernel_rfl) (by kernel_rfl) (fun _ _ _ h => h) (Or.inl ⟨by kernel_rfl, ?yh7_13⟩) (by assumption) ?_
  case yh7_13 => (intro w hSw; (try dsimp only at hSw); go_simp; try with_reducible rfl)
  refine wpAnyH_take (i := 14) (v := ?vh7_14) rfl (by kernel_rfl) (by kernel_rfl) (by kernel_rfl) (fun _ _ _ h => h) (Or.inl ⟨by kernel_rfl, ?yh7_14⟩) (by assumption) ?_
  case yh7_14 => (intro w hSw; (try dsimp only at hSw); go_simp; try with_reducible rfl)
  try simp only [Act.put, List.getElem_toArray, List.getElem_cons_succ, List.getElem_cons_zero, List.setIfInBounds_toArray, List.set_cons_zero, List.set_cons_succ]
  refine wpAnyH_take (i := 15) (v := undef) rfl (by kernel_rfl) (by kernel_rfl) (by kernel_rfl) (fun _ _ _ h => h) (Or.inr ⟨by kernel_rfl, rfl⟩) (by assumption) ?_
  refine wpAnyH_take (i := 16) (v := undef) rfl (by kernel_rfl) (by kernel_rfl) (by kernel_rfl) (fun _ _ _ h => h) (Or.inr ⟨by kernel_rfl, rfl⟩) (by assumption) ?_
  refine wpAnyH_take (i := 17) (v := undef) rfl (by kernel_rfl) (by kernel_rfl) (by kernel_rfl) (fun _ _ _ h => h) (Or.inr ⟨by kernel_rfl, rfl⟩) (by assumption) ?_
  refine wpAnyH_take (i := 18) (v := undef) rfl (by kernel_rfl) (by kernel_rfl) (by kernel_rfl) (fun _ _ _ h => h) (Or.inr ⟨by kernel_rfl, rfl⟩) (by assumption) ?_
  refine wpAnyH_take (i := 19) (v := undef) rfl (by kernel_rfl) (by kernel_rfl) (by kernel_rfl) (fun _ _ _ h => h) (Or.inr ⟨by kernel_rfl, rfl⟩) (by assumption) ?_
  refine wpAnyH_take (i := 20) (v := undef) rfl (by kernel_rfl) (by kernel_rfl) (by kernel_rfl) (fun _ _ _ h => h) (Or.inr ⟨by kernel_rfl, rfl⟩) (by assumption) ?_
  refine wpAnyH_take (i := 21) (v := undef) rfl (by kernel_rfl) (by kernel_rfl) (by kernel_rfl) (fun _ _ _ h => h) (Or.inr ⟨by kernel_rfl, rfl⟩) (by assumption) ?_
  try simp only [Act.put, List.getElem_toArray, List.getElem_cons_succ, List.getElem_cons_zero, List.setIfInBounds_toArray, List.set_cons_zero, List.set_cons_succ]
  refine wpAnyH_take (i := 22) (v := ?vh7_22) rfl (by kernel_rfl) (by kernel_rfl) (by kernel_rfl) (fun _ _ _ h => h) (Or.inl ⟨by kernel_rfl, ?yh7_22⟩) (by assumption) ?_
  case yh7_22 => (intro w hSw; (try dsimp only at hSw); go_simp; try with_reducible rfl)
  refine wpAnyH_take (i := 23) (v := ?vh7_23) rfl (by kernel_rfl) (by kernel_rfl) (by kernel_rfl) (fun _ _ _ h => h) (Or.inl ⟨by kernel_rfl, ?yh7_23⟩) (by assumption) ?_
  case yh7_23 => (intro w hSw; (try dsimp only at hSw); go_simp; try with_reducible rfl)
  try simp only [Act.put, List.getElem_toArray, List.getElem_cons_succ, List.getElem_cons_zero, List.setIfInBounds_toArray, List.set_cons_zero, List.set_cons_succ]
  refine wpAnyH_done (by kernel_rfl) ?_ _
  go_wp2
  go_ret
  exact ⟨rfl, F3.bel HB.out⟩
set_option maxRecDepth 100000 in
set_option maxHeartbeats 4000000 in
theorem ho_3f (W : World) (h l : Nat) (n : Int) (x y : Nat) (hh : h < 2 ^ 64) (hl : l < 2 ^ 64) (hp : 0 ≤ n ∧ okP ⟨false, h, l⟩ n.toNat) (hr : Ad.right ⟨true, x, y⟩) :
    Calls Tryd.prog 14 #[pfV false h l n, adV true x y] W fun e w' => e = .returned (.bool false) ∧ Below W.heap.size W w' := by
  have H1 : Hid (∀ w, Calls Tryd.prog 19 #[pfV false h l n] w fun e w' => e = .returned (.bool true) ∧ Below w.heap.size w w') := fun w => by have := rp_in w false h l n hh hl; rwa [decide_eq_true hp] at this
  clear hp hh hl
  have H2 : Hid (∀ w, Calls Tryd.prog 17 #[adV true x y] w fun e w' => e = .returned (.bool true) ∧ Below w.heap.size w w') := fun w => by have := right_b w true x y; rwa [decide_eq_true hr] at this
  clear hr
  obtain ⟨V, hV, F, HB⟩ : ∃ V, (W.alloc (pfO false h l n)).alloc (adO true x y) = V ∧ Kp V V ∧ Hid (Below W.heap.size W V) := ⟨_, rfl, Kp.refl _, by unfold Hid; go_grown⟩
  have HS : Hid (∀ w, Kp V w → Kp V w ∧ w.cell? ⟨W.heap.size, 0, none⟩ = some (.bool false) ∧ w.cell? ⟨W.heap.size, 1, none⟩ = some (.int .u64 (h : Int)) ∧ w.cell? ⟨W.heap.size, 2, none⟩ = some (.int .u64 (l : Int)) ∧ w.cell? ⟨W.heap.size, 3, none⟩ = some (.int .i64 n) ∧ w.cell? ⟨W.heap.size + 1, 0, none⟩ = some (.bool true) ∧ w.cell? ⟨W.heap.size + 1, 1, none⟩ = some (.int .u64 (x : Int)) ∧ w.cell? ⟨W.heap.size + 1, 2, none⟩ = some (.int .u64 (y : Int))) := fun w k => by
    have hc := ho_cells W false h l n true x y
    rw [hV] at hc
    have hb : W.heap.size + 1 < V.heap.size := by rw [← hV]; simp
    exact ⟨k, k.cell hc.1.1 (by omega), k.cell hc.1.2.1 (by omega), k.cell hc.1.2.2.1 (by omega), k.cell hc.1.2.2.2 (by omega), k.cell hc.2.1 hb, k.cell hc.2.2.1 hb, k.cell hc.2.2.2 hb⟩
  go_enter Tryd.func14, Tryd.ntmps14
  go_upto_region 1 with fail
  try rw [hV]
  clear hV
  refine wp_region_held_drew (S := fun w => Kp V w ∧ w.cell? ⟨W.heap.size, 0, none⟩ = some (.bool false) ∧ w.cell? ⟨W.heap.size, 1, none⟩ = some (.int .u64 (h : Int)) ∧ w.cell? ⟨W.heap.size, 2, none⟩ = some (.int .u64 (l : Int)) ∧ w.cell? ⟨W.heap.size, 3, none⟩ = some (.int .i64 n) ∧ w.cell? ⟨W.heap.size + 1, 0, none⟩ = some (.bool true) ∧ w.cell? ⟨W.heap.size + 1, 1, none⟩ = some (.int .u64 (x : Int)) ∧ w.cell? ⟨W.heap.size + 1, 2, none⟩ = some (.int .u64 (y : Int))) (by kernel_rfl) (HS.out _ (Kp.drew F)) (fun hHeld => ?_)
  refine wpAnyH_take (i := 0) (v := ?vh8_0) rfl (by kernel_rfl) (by kernel_rfl) (by kernel_rfl) (fun _ _ _ h => h) (Or.inl ⟨by kernel_rfl, ?yh8_0⟩) (by assumption) ?_
  case yh8_0 => (intro w hSw; (try dsimp only at hSw); go_simp; try with_reducible rfl)
  try simp only [Act.put, List.getElem_toArray, List.getElem_cons_succ, List.getElem_cons_zero, List.setIfInBounds_toArray, List.set_cons_zero, List.set_cons_succ]
  refine wpAnyH_ready (rs := [1]) (by kernel_rfl) (by simp) ?_
  refine AllReadyH.cons rfl (fun K hK => ?_) AllReadyH.nil
  go_simp
  go_at_call 19
  with_reducible refine (H1.out _).mono ?_
  rintro e w2 ⟨rfl, hb2⟩
  have F2 := Kp.blk (V := V) (by repeat (first | assumption | apply Kp.drew)) hb2
  have hs2 := HS.out _ F2
  refine hK.out _ _ hs2 (fun hHeld2 => ?_)
  clear hK K
  try simp only [Act.put, List.getElem_toArray, List.getElem_cons_succ, List.getElem_cons_zero, List.setIfInBounds_toArray, List.set_cons_zero, List.set_cons_succ]
  refine wpAnyH_take (i := 2) (v := ?vh8_2) rfl (by kernel_rfl) (by kernel_rfl) (by kernel_rfl) (fun _ _ _ h => h) (Or.inl ⟨by kernel_rfl, ?yh8_2⟩) (by assumption) ?_
  case yh8_2 => (intro w hSw; (try dsimp only at hSw); go_simp; try with_reducible rfl)
  refine wpAnyH_take (i := 3) (v := ?vh8_3) rfl (by kernel_rfl) (by kernel_rfl) (by kernel_rfl) (fun _ _ _ h => h) (Or.inl ⟨by kernel_rfl, ?yh8_3⟩) (by assumption) ?_
  case yh8_3 => (intro w hSw; (try dsimp only at hSw); go_simp; try with_reducible rfl)
  try simp only [Act.put, List.getElem_toArray, List.getElem_cons_succ, List.getElem_cons_zero, List.setIfInBounds_toArray, List.set_cons_zero, List.set_cons_succ]
  refine wpAnyH_ready (rs := [4]) (by kernel_rfl) (by simp) ?_
  refine AllReadyH.cons rfl (fun K hK => ?_) AllReadyH.nil
  go_simp
  go_at_call 17
  with_reducible refine (H2.out _).mono ?_
  rintro e w3 ⟨rfl, hb3⟩
  have F3 := Kp.blk (V := V) (by repeat (first | assumption | apply Kp.drew)) hb3
  have hs3 := HS.out _ F3
  refine hK.out _ _ hs3 (fun hHeld3 => ?_)
  clear hK K
  try simp only [Act.put, List.getElem_toArray, List.getElem_cons_succ, List.getElem_cons_zero, List.setIfInBounds_toArray, List.set_cons_zero, List.set_cons_succ]
  refine wpAnyH_take (i := 5) (v := ?vh8_5) rfl (by kernel_rfl) (by kernel_rfl) (by kernel_rfl) (fun _ _ _ h => h) (Or.inl ⟨by kernel_rfl, ?yh8_5⟩) (by assumption) ?_
  case yh8_5 => (intro w hSw; (try dsimp only at hSw); go_simp; try with_reducible rfl)
  refine wpAnyH_take (i := 6) (v := ?vh8_6) rfl (by kernel_rfl) (by kernel_rfl) (by kernel_rfl) (fun _ _ _ h => h) (Or.inl ⟨by kernel_rfl, ?yh8_6⟩) (by assumption) ?_
  case yh8_6 => (intro w hSw; (try dsimp only at hSw); go_simp; try with_reducible rfl)
  refine wpAnyH_take (i := 7) (v := ?vh8_7) rfl (by kernel_rfl) (by kernel_rfl) (by kernel_rfl) (fun _ _ _ h => h) (Or.inl ⟨by kernel_rfl, ?yh8_7⟩) (by assumption) ?_
  case yh8_7 => (intro w hSw; (try dsimp only at hSw); go_simp; try with_reducible rfl)
  refine wpAnyH_take (i := 8) (v := ?vh8_8) rfl (by kernel_rfl) (by kernel_rfl) (by kernel_rfl) (fun _ _ _ h => h) (Or.inl ⟨by kernel_rfl, ?yh8_8⟩) (by assumption) ?_
  case yh8_8 => (intro w hSw; (try dsimp only at hSw); go_simp; try with_reducible rfl)
  refine wpAnyH_take (i := 9) (v := ?vh8_9) rfl (by kernel_rfl) (by kernel_rfl) (by kernel_rfl) (fun _ _ _ h => h) (Or.inl ⟨by kernel_rfl, ?yh8_9⟩) (by assumption) ?_
  case yh8_9 => (intro w hSw; (try dsimp only at hSw); go_simp; try with_reducible rfl)
  refine wpAnyH_take (i := 10) (v := ?vh8_10) rfl (by kernel_rfl) (by kernel_rfl) (by kernel_rfl) (fun _ _ _ h => h) (Or.inl ⟨by kernel_rfl, ?yh8_10⟩) (by assumption) ?_
  case yh8_10 => (intro w hSw; (try dsimp only at hSw); go_simp; try with_reducible rfl)
  refine wpAnyH_take (i := 11) (v := ?vh8_11) rfl (by kernel_rfl) (by kernel_rfl) (by kernel_rfl) (fun _ _ _ h => h) (Or.inl ⟨by kernel_rfl, ?yh8_11⟩) (by assumption) ?_
  case yh8_11 => (intro w hSw; (try dsimp only at hSw); go_simp; try with_reducible rfl)
  refine wpAnyH_take (i := 12) (v := ?vh8_12) rfl (by kernel_rfl) (by kernel_rfl) (by kernel_rfl) (fun _ _ _ h => h) (Or.inl ⟨by kernel_rfl, ?yh8_12⟩) (by assumption) ?_
  case yh8_12 => (intro w hSw; (try dsimp only at hSw); go_simp; try with_reducible rfl)
  refine wpAnyH_take (i := 13) (v := ?vh8_13) rfl (by kernel_rfl) (by kernel_rfl) (by kernel_rfl) (fun _ _ _ h => h) (Or.inl ⟨by kernel_rfl, ?yh8_13⟩) (by assumption) ?_
  case yh8_13 => (intro w hSw; (try dsimp only at hSw); go_simp; try with_reducible rfl)
  refine wpAnyH_take (i := 14) (v := ?vh8_14) rfl (by kernel_rfl) (by kernel_rfl) (by kernel_rfl) (fun _ _ _ h => h) (Or.inl ⟨by kernel_rfl, ?yh8_14⟩) (by assumption) ?_
  case yh8_14 => (intro w hSw; (try dsimp only at hSw); go_simp; try with_reducible rfl)
  try simp only [Act.put, List.getElem_toArray, List.getElem_cons_succ, List.getElem_cons_zero, List.setIfInBounds_toArray, List.set_cons_zero, List.set_cons_succ]
  refine wpAnyH_take (i := 15) (v := undef) rfl (by kernel_rfl) (by kernel_rfl) (by kernel_rfl) (fun _ _ _ h => h) (Or.inr ⟨by kernel_rfl, rfl⟩) (by assumption) ?_
  refine wpAnyH_take (i := 16) (v := undef) rfl (by kernel_rfl) (by kernel_rfl) (by kernel_rfl) (fun _ _ _ h => h) (Or.inr ⟨by kernel_rfl, rfl⟩) (by assumption) ?_
  refine wpAnyH_take (i := 17) (v := undef) rfl (by kernel_rfl) (by kernel_rfl) (by kernel_rfl) (fun _ _ _ h => h) (Or.inr ⟨by kernel_rfl, rfl⟩) (by assumption) ?_
  refine wpAnyH_take (i := 18) (v := undef) rfl (by kernel_rfl) (by kernel_rfl) (by kernel_rfl) (fun _ _ _ h => h) (Or.inr ⟨by kernel_rfl, rfl⟩) (by assumption) ?_
  refine wpAnyH_take (i := 19) (v := undef) rfl (by kernel_rfl) (by kernel_rfl) (by kernel_rfl) (fun _ _ _ h => h) (Or.inr ⟨by kernel_rfl, rfl⟩) (by assumption) ?_
  refine wpAnyH_take (i := 20) (v := undef) rfl (by kernel_rfl) (by kernel_rfl) (by kernel_rfl) (fun _ _ _ h => h) (Or.inr ⟨by kernel_rfl, rfl⟩) (by assumption) ?_
  refine wpAnyH_take (i := 21) (v := undef) rfl (by kernel_rfl) (by kernel_rfl) (by kernel_rfl) (fun _ _ _ h => h) (Or.inr ⟨by kernel_rfl, rfl⟩) (by assumption) ?_
  try simp only [Act.put, List.getElem_toArray, List.getElem_cons_succ, List.getElem_cons_zero, List.setIfInBounds_toArray, List.set_cons_zero, List.set_cons_succ]
  refine wpAnyH_take (i := 22) (v := ?vh8_22) rfl (by kernel_rfl) (by kernel_rfl) (by kernel_rfl) (fun _ _ _ h => h) (Or.inl ⟨by kernel_rfl, ?yh8_22⟩) (by assumption) ?_
  case yh8_22 => (intro w hSw; (try dsimp only at hSw); go_simp; try with_reducible rfl)
  refine wpAnyH_take (i := 23) (v := ?vh8_23) rfl (by kernel_rfl) (by kernel_rfl) (by kernel_rfl) (fun _ _ _ h => h) (Or.inl ⟨by kernel_rfl, ?yh8_23⟩) (by assumption) ?_
  case yh8_23 => (intro w hSw; (try dsimp only at hSw); go_simp; try with_reducible rfl)
  try simp only [Act.put, List.getElem_toArray, List.getElem_cons_succ, List.getElem_cons_zero, List.setIfInBounds_toArray, List.set_cons_zero, List.set_cons_succ]
  refine wpAnyH_done (by kernel_rfl) ?_ _
  go_wp2
  go_ret
  exact ⟨rfl, F3.bel HB.out⟩
set_option maxRecDepth 100000 in
set_option maxHeartbeats 4000000 in
theorem ho_4 (W : World) (v : Bool) (h l : Nat) (n : Int) (x y : Nat) (hh : h < 2 ^ 64) (hl : l < 2 ^ 64) (hx : x < 2 ^ 64) (hy : y < 2 ^ 64) (hp : 0 ≤ n ∧ okP ⟨v, h, l⟩ n.toNat) (hr : Ad.right ⟨v, x, y⟩) :
    Calls Tryd.prog 14 #[pfV v h l n, adV v x y] W fun e w' => e = .returned (.bool (decide (Ad.fst ⟨v, x, y⟩ n.toNat = ⟨v, h, l⟩))) ∧ Below W.heap.size W w' := by
  have H3 := Hid.mk (fun w => first_b w v x y n.toNat hx hy hp.2.2.1)
  obtain ⟨A, hA⟩ : ∃ A, (Ad.fst ⟨v, x, y⟩ n.toNat).hi = A := ⟨_, rfl⟩
  obtain ⟨B, hB⟩ : ∃ B, (Ad.fst ⟨v, x, y⟩ n.toNat).lo = B := ⟨_, rfl⟩
  have hAB : Ad.fst ⟨v, x, y⟩ n.toNat = ⟨v, A, B⟩ := by
    rw [← hA, ← hB]
    exact Ad.eta (Ad.fst_v6 _ _)
  rw [hA, hB] at H3
  rw [hAB]
  rw [show ((n.toNat : Nat) : Int) = n from Int.toNat_of_nonneg hp.1] at H3
  clear hAB hA hB hx hy
  have H1 : Hid (∀ w, Calls Tryd.prog 19 #[pfV v h l n] w fun e w' => e = .returned (.bool true) ∧ Below w.heap.size w w') := fun w => by have := rp_in w v h l n hh hl; rwa [decide_eq_true hp] at this
  clear hp hh hl
  have H2 : Hid (∀ w, Calls Tryd.prog 17 #[adV v x y] w fun e w' => e = .returned (.bool true) ∧ Below w.heap.size w w') := fun w => by have := right_b w v x y; rwa [decide_eq_true hr] at this
  clear hr
  obtain ⟨V, hV, F, HB⟩ : ∃ V, (W.alloc (pfO v h l n)).alloc (adO v x y) = V ∧ Kp V V ∧ Hid (Below W.heap.size W V) := ⟨_, rfl, Kp.refl _, by unfold Hid; go_grown⟩
  have HS : Hid (∀ w, Kp V w → Kp V w ∧ w.cell? ⟨W.heap.size, 0, none⟩ = some (.bool v) ∧ w.cell? ⟨W.heap.size, 1, none⟩ = some (.int .u64 (h : Int)) ∧ w.cell? ⟨W.heap.size, 2, none⟩ = some (.int .u64 (l : Int)) ∧ w.cell? ⟨W.heap.size, 3, none⟩ = some (.int .i64 n) ∧ w.cell? ⟨W.heap.size + 1, 0, none⟩ = some (.bool v) ∧ w.cell? ⟨W.heap.size + 1, 1, none⟩ = some (.int .u64 (x : Int)) ∧ w.cell? ⟨W.heap.size + 1, 2, none⟩ = some (.int .u64 (y : Int))) := fun w k => by
    have hc := ho_cells W v h l n v x y
    rw [hV] at hc
    have hb : W.heap.size + 1 < V.heap.size := by rw [← hV]; simp
    exact ⟨k, k.cell hc.1.1 (by omega), k.cell hc.1.2.1 (by omega), k.cell hc.1.2.2.1 (by omega), k.cell hc.1.2.2.2 (by omega), k.cell hc.2.1 hb, k.cell hc.2.2.1 hb, k.cell hc.2.2.2 hb⟩
  go_enter Tryd.func14, Tryd.ntmps14
  go_upto_region 1 with fail
  try rw [hV]
  clear hV
  refine wp_region_held_drew (S := fun w => Kp V w ∧ w.cell? ⟨W.heap.size, 0, none⟩ = some (.bool v) ∧ w.cell? ⟨W.heap.size, 1, none⟩ = some (.int .u64 (h : Int)) ∧ w.cell? ⟨W.heap.size, 2, none⟩ = some (.int .u64 (l : Int)) ∧ w.cell? ⟨W.heap.size, 3, none⟩ = some (.int .i64 n) ∧ w.cell? ⟨W.heap.size + 1, 0, none⟩ = some (.bool v) ∧ w.cell? ⟨W.heap.size + 1, 1, none⟩ = some (.int .u64 (x : Int)) ∧ w.cell? ⟨W.heap.size + 1, 2, none⟩ = some (.int .u64 (y : Int))) (by kernel_rfl) (HS.out _ (Kp.drew F)) (fun hHeld => ?_)
  refine wpAnyH_take (i := 0) (v := ?vh9_0) rfl (by kernel_rfl) (by kernel_rfl) (by kernel_rfl) (fun _ _ _ h => h) (Or.inl ⟨by kernel_rfl, ?yh9_0⟩) (by assumption) ?_
  case yh9_0 => (intro w hSw; (try dsimp only at hSw); go_simp; try with_reducible rfl)
  try simp only [Act.put, List.getElem_toArray, List.getElem_cons_succ, List.getElem_cons_zero, List.setIfInBounds_toArray, List.set_cons_zero, List.set_cons_succ]
  refine wpAnyH_ready (rs := [1]) (by kernel_rfl) (by simp) ?_
  refine AllReadyH.cons rfl (fun K hK => ?_) AllReadyH.nil
  go_simp
  go_at_call 19
  with_reducible refine (H1.out _).mono ?_
  rintro e w2 ⟨rfl, hb2⟩
  have F2 := Kp.blk (V := V) (by repeat (first | assumption | apply Kp.drew)) hb2
  have hs2 := HS.out _ F2
  refine hK.out _ _ hs2 (fun hHeld2 => ?_)
  clear hK K
  try simp only [Act.put, List.getElem_toArray, List.getElem_cons_succ, List.getElem_cons_zero, List.setIfInBounds_toArray, List.set_cons_zero, List.set_cons_succ]
  refine wpAnyH_take (i := 2) (v := ?vh9_2) rfl (by kernel_rfl) (by kernel_rfl) (by kernel_rfl) (fun _ _ _ h => h) (Or.inl ⟨by kernel_rfl, ?yh9_2⟩) (by assumption) ?_
  case yh9_2 => (intro w hSw; (try dsimp only at hSw); go_simp; try with_reducible rfl)
  refine wpAnyH_take (i := 3) (v := ?vh9_3) rfl (by kernel_rfl) (by kernel_rfl) (by kernel_rfl) (fun _ _ _ h => h) (Or.inl ⟨by kernel_rfl, ?yh9_3⟩) (by assumption) ?_
  case yh9_3 => (intro w hSw; (try dsimp only at hSw); go_simp; try with_reducible rfl)
  try simp only [Act.put, List.getElem_toArray, List.getElem_cons_succ, List.getElem_cons_zero, List.setIfInBounds_toArray, List.set_cons_zero, List.set_cons_succ]
  refine wpAnyH_ready (rs := [4]) (by kernel_rfl) (by simp) ?_
  refine AllReadyH.cons rfl (fun K hK => ?_) AllReadyH.nil
  go_simp
  go_at_call 17
  with_reducible refine (H2.out _).mono ?_
  rintro e w3 ⟨rfl, hb3⟩
  have F3 := Kp.blk (V := V) (by repeat (first | assumption | apply Kp.drew)) hb3
  have hs3 := HS.out _ F3
  refine hK.out _ _ hs3 (fun hHeld3 => ?_)
  clear hK K
  try simp only [Act.put, List.getElem_toArray, List.getElem_cons_succ, List.getElem_cons_zero, List.setIfInBounds_toArray, List.set_cons_zero, List.set_cons_succ]
  refine wpAnyH_take (i := 5) (v := ?vh9_5) rfl (by kernel_rfl) (by kernel_rfl) (by kernel_rfl) (fun _ _ _ h => h) (Or.inl ⟨by kernel_rfl, ?yh9_5⟩) (by assumption) ?_
  case yh9_5 => (intro w hSw; (try dsimp only at hSw); go_simp; try with_reducible rfl)
  refine wpAnyH_take (i := 6) (v := ?vh9_6) rfl (by kernel_rfl) (by kernel_rfl) (by kernel_rfl) (fun _ _ _ h => h) (Or.inl ⟨by kernel_rfl, ?yh9_6⟩) (by assumption) ?_
  case yh9_6 => (intro w hSw; (try dsimp only at hSw); go_simp; try with_reducible rfl)
  refine wpAnyH_take (i := 7) (v := ?vh9_7) rfl (by kernel_rfl) (by kernel_rfl) (by kernel_rfl) (fun _ _ _ h => h) (Or.inl ⟨by kernel_rfl, ?yh9_7⟩) (by assumption) ?_
  case yh9_7 => (intro w hSw; (try dsimp only at hSw); go_simp; try with_reducible rfl)
  refine wpAnyH_take (i := 8) (v := ?vh9_8) rfl (by kernel_rfl) (by kernel_rfl) (by kernel_rfl) (fun _ _ _ h => h) (Or.inl ⟨by kernel_rfl, ?yh9_8⟩) (by assumption) ?_
  case yh9_8 => (intro w hSw; (try dsimp only at hSw); go_simp; try with_reducible rfl)
  refine wpAnyH_take (i := 9) (v := ?vh9_9) rfl (by kernel_rfl) (by kernel_rfl) (by kernel_rfl) (fun _ _ _ h => h) (Or.inl ⟨by kernel_rfl, ?yh9_9⟩) (by assumption) ?_
  case yh9_9 => (intro w hSw; (try dsimp only at hSw); go_simp; try with_reducible rfl)
  refine wpAnyH_take (i := 10) (v := ?vh9_10) rfl (by kernel_rfl) (by kernel_rfl) (by kernel_rfl) (fun _ _ _ h => h) (Or.inl ⟨by kernel_rfl, ?yh9_10⟩) (by assumption) ?_
  case yh9_10 => (intro w hSw; (try dsimp only at hSw); go_simp; try with_reducible rfl)
  refine wpAnyH_take (i := 11) (v := ?vh9_11) rfl (by kernel_rfl) (by kernel_rfl) (by kernel_rfl) (fun _ _ _ h => h) (Or.inl ⟨by kernel_rfl, ?yh9_11⟩) (by assumption) ?_
  case yh9_11 => (intro w hSw; (try dsimp only at hSw); go_simp; try with_reducible rfl)
  refine wpAnyH_take (i := 12) (v := ?vh9_12) rfl (by kernel_rfl) (by kernel_rfl) (by kernel_rfl) (fun _ _ _ h => h) (Or.inl ⟨by kernel_rfl, ?yh9_12⟩) (by assumption) ?_
  case yh9_12 => (intro w hSw; (try dsimp only at hSw); go_simp; try with_reducible rfl)
  refine wpAnyH_take (i := 13) (v := ?vh9_13) rfl (by kernel_rfl) (by kernel_rfl) (by kernel_rfl) (fun _ _ _ h => h) (Or.inl ⟨by kernel_rfl, ?yh9_13⟩) (by assumption) ?_
  case yh9_13 => (intro w hSw; (try dsimp only at hSw); go_simp; try with_reducible rfl)
  refine wpAnyH_take (i := 14) (v := ?vh9_14) rfl (by kernel_rfl) (by kernel_rfl) (by kernel_rfl) (fun _ _ _ h => h) (Or.inl ⟨by kernel_rfl, ?yh9_14⟩) (by assumption) ?_
  case yh9_14 => (intro w hSw; (try dsimp only at hSw); go_simp; try with_reducible rfl)
  refine wpAnyH_take (i := 15) (v := ?vh9_15) rfl (by kernel_rfl) (by kernel_rfl) (by kernel_rfl) (fun _ _ _ h => h) (Or.inl ⟨by kernel_rfl, ?yh9_15⟩) (by assumption) ?_
  case yh9_15 => (intro w hSw; (try dsimp only at hSw); go_simp; try with_reducible rfl)
  refine wpAnyH_take (i := 16) (v := ?vh9_16) rfl (by kernel_rfl) (by kernel_rfl) (by kernel_rfl) (fun _ _ _ h => h) (Or.inl ⟨by kernel_rfl, ?yh9_16⟩) (by assumption) ?_
  case yh9_16 => (intro w hSw; (try dsimp only at hSw); go_simp; try with_reducible rfl)
  refine wpAnyH_take (i := 17) (v := ?vh9_17) rfl (by kernel_rfl) (by kernel_rfl) (by kernel_rfl) (fun _ _ _ h => h) (Or.inl ⟨by kernel_rfl, ?yh9_17⟩) (by assumption) ?_
  case yh9_17 => (intro w hSw; (try dsimp only at hSw); go_simp; try with_reducible rfl)
  refine wpAnyH_take (i := 19) (v := ?vh9_19) rfl (by kernel_rfl) (by kernel_rfl) (by kernel_rfl) (fun _ _ _ h => h) (Or.inl ⟨by kernel_rfl, ?yh9_19⟩) (by assumption) ?_
  case yh9_19 => (intro w hSw; (try dsimp only at hSw); go_simp; try with_reducible rfl)
  refine wpAnyH_take (i := 20) (v := ?vh9_20) rfl (by kernel_rfl) (by kernel_rfl) (by kernel_rfl) (fun _ _ _ h => h) (Or.inl ⟨by kernel_rfl, ?yh9_20⟩) (by assumption) ?_
  case yh9_20 => (intro w hSw; (try dsimp only at hSw); go_simp; try with_reducible rfl)
  try simp only [Act.put, List.getElem_toArray, List.getElem_cons_succ, List.getElem_cons_zero, List.setIfInBounds_toArray, List.set_cons_zero, List.set_cons_succ]
  refine wpAnyH_ready (rs := [18]) (by kernel_rfl) (by simp) ?_
  refine AllReadyH.cons rfl (fun K hK => ?_) AllReadyH.nil
  go_simp
  go_at_call 25
  with_reducible refine (H3.out _).mono ?_
  rintro e w4 ⟨rfl, hb4⟩
  have F4 := Kp.blk (V := V) (by repeat (first | assumption | apply Kp.drew)) hb4
  have hs4 := HS.out _ F4
  refine hK.out _ _ hs4 (fun hHeld4 => ?_)
  clear hK K
  try simp only [Act.put, List.getElem_toArray, List.getElem_cons_succ, List.getElem_cons_zero, List.setIfInBounds_toArray, List.set_cons_zero, List.set_cons_succ]
  refine wpAnyH_take (i := 21) (v := ?vh9_21) rfl (by kernel_rfl) (by kernel_rfl) (by kernel_rfl) (fun _ _ _ h => h) (Or.inl ⟨by kernel_rfl, ?yh9_21⟩) (by assumption) ?_
  case yh9_21 => (intro w hSw; (try dsimp only at hSw); go_simp; try with_reducible rfl)
  refine wpAnyH_take (i := 22) (v := ?vh9_22) rfl (by kernel_rfl) (by kernel_rfl) (by kernel_rfl) (fun _ _ _ h => h) (Or.inl ⟨by kernel_rfl, ?yh9_22⟩) (by assumption) ?_
  case yh9_22 => (intro w hSw; (try dsimp only at hSw); go_simp; try with_reducible rfl)
  refine wpAnyH_take (i := 23) (v := ?vh9_23) rfl (by kernel_rfl) (by kernel_rfl) (by kernel_rfl) (fun _ _ _ h => h) (Or.inl ⟨by kernel_rfl, ?yh9_23⟩) (by assumption) ?_
  case yh9_23 => (intro w hSw; (try dsimp only at hSw); go_simp; try with_reducible rfl)
  try simp only [Act.put, List.getElem_toArray, List.getElem_cons_succ, List.getElem_cons_zero, List.setIfInBounds_toArray, List.set_cons_zero, List.set_cons_succ]
  refine wpAnyH_done (by kernel_rfl) ?_ _
  go_wp2
  go_ret
  exact ⟨by rw [dec_ad]; rfl, F4.bel HB.out⟩

theorem holds_in (W : World) (v : Bool) (h l : Nat) (n : Int) (u : Bool) (x y : Nat) (hh : h < 2 ^ 64) (hl : l < 2 ^ 64) (hx : x < 2 ^ 64) (hy : y < 2 ^ 64) :
    Calls Tryd.prog 14 #[pfV v h l n, adV u x y] W fun e w' => e = .returned (.bool (decide (0 ≤ n ∧ holds ⟨v, h, l⟩ n.toNat ⟨u, x, y⟩))) ∧ Below W.heap.size W w' := by
  by_cases hp : 0 ≤ n ∧ okP ⟨v, h, l⟩ n.toNat
  · by_cases hr : Ad.right ⟨u, x, y⟩
    · by_cases e : v = u
      · subst e
        have := ho_4 W v h l n x y hh hl hx hy hp hr
        have e : decide (0 ≤ n ∧ holds ⟨v, h, l⟩ n.toNat ⟨v, x, y⟩) = decide (Ad.fst ⟨v, x, y⟩ n.toNat = ⟨v, h, l⟩) := by
          rw [decide_eq_decide]
          exact ⟨fun z => z.2.2.2.2, fun z => ⟨hp.1, hp.2, hr, rfl, z⟩⟩
        rw [e]
        exact this
      · rw [decide_eq_false (fun z => e z.2.2.2.1)]
        cases v <;> cases u
        · exact absurd rfl e
        · exact ho_3f W h l n x y hh hl hp hr
        · exact ho_3t W h l n x y hh hl hp hr
        · exact absurd rfl e
    · rw [decide_eq_false (fun z => hr z.2.2.1)]
      exact ho_2 W v h l n u x y hh hl hp hr
  · rw [decide_eq_false (fun z => hp ⟨z.1, z.2.1⟩)]
    exact ho_1 W v h l n u x y hh hl hp
end Go.Proofs.YtpognbkdafnfjaaDoor
