/- Layer 13: the document's Holds. -/
import Derived.Test.YtpognbkdafnfjaaDoorAcDh
namespace Go.Proofs.YtpognbkdafnfjaaDoor
set_option linter.unusedVariables false
set_option linter.unusedSimpArgs false
open Go.RowKit

def DhRel (V : World) (p a : Ad) (n : Nat) (i : Value) (wr : World) : Prop := ∃ k : Nat, i = .int .i64 (k : Int) ∧ k ≤ n ∧ (∀ j, j < k → p.bt j = a.bt j) ∧ Kp V wr
set_option maxRecDepth 100000 in
set_option maxHeartbeats 4000000 in
theorem dho_1 (W : World) (v u : Bool) (h l x y : Nat) (n : Int) (hh : h < 2 ^ 64) (hl : l < 2 ^ 64) (hp : ¬ (0 ≤ n ∧ okP ⟨v, h, l⟩ n.toNat)) :
    Calls Tryd.prog 13 #[pfV v h l n, adV u x y] W fun e w' => e = .returned (.bool false) ∧ Below W.heap.size W w' := by
  have H1 : Hid (∀ w, Calls Tryd.prog 23 #[pfV v h l n] w fun e w' => e = .returned (.bool false) ∧ Below w.heap.size w w') := fun w => by have := drp_in w v h l n hh hl; rwa [decide_eq_false hp] at this
  have H2 := Hid.mk (fun w => rright_in w u x y)
  clear hp hh hl
  generalize decide (Ad.right ⟨u, x, y⟩) = R at H2
  obtain ⟨V, hV, F, HB⟩ : ∃ V, (W.alloc (pfO v h l n)).alloc (adO u x y) = V ∧ Kp V V ∧ Hid (Below W.heap.size W V) := ⟨_, rfl, Kp.refl _, by unfold Hid; go_grown⟩
  have HS : Hid (∀ w, Kp V w → Kp V w ∧ w.cell? ⟨W.heap.size, 0, none⟩ = some (.bool v) ∧ w.cell? ⟨W.heap.size, 1, none⟩ = some (.int .u64 (h : Int)) ∧ w.cell? ⟨W.heap.size, 2, none⟩ = some (.int .u64 (l : Int)) ∧ w.cell? ⟨W.heap.size, 3, none⟩ = some (.int .i64 n) ∧ w.cell? ⟨W.heap.size + 1, 0, none⟩ = some (.bool u) ∧ w.cell? ⟨W.heap.size + 1, 1, none⟩ = some (.int .u64 (x : Int)) ∧ w.cell? ⟨W.heap.size + 1, 2, none⟩ = some (.int .u64 (y : Int))) := fun w k => by
    have hc := ho_cells W v h l n u x y
    rw [hV] at hc
    have hb : W.heap.size + 1 < V.heap.size := by rw [← hV]; simp
    have hb0 : W.heap.size < V.heap.size := by omega
    exact ⟨k, k.cell hc.1.1 hb0, k.cell hc.1.2.1 hb0, k.cell hc.1.2.2.1 hb0, k.cell hc.1.2.2.2 hb0, k.cell hc.2.1 hb, k.cell hc.2.2.1 hb, k.cell hc.2.2.2 hb⟩
  have hV0 := (HS.out _ F).2
  go_enter Tryd.func13, Tryd.ntmps13
  go_wp2_with fail
  try rw [hV]
  clear hV
  refine (H1.out _).mono ?_
  rintro e w1 ⟨rfl, hb1⟩
  have F1 := F.blk hb1
  have hs1 := (HS.out _ F1).2
  clear hb1 hV0
  go_wp2_with fail
  refine (H2.out _).mono ?_
  rintro e w2 ⟨rfl, hb2⟩
  have F2 := F1.blk hb2
  have hs2 := (HS.out _ F2).2
  clear hb2 hs1
  go_wp2
  go_ret
  exact ⟨rfl, F2.bel HB.out⟩
set_option maxRecDepth 100000 in
set_option maxHeartbeats 4000000 in
theorem dho_2 (W : World) (v u : Bool) (h l x y : Nat) (n : Int) (hh : h < 2 ^ 64) (hl : l < 2 ^ 64) (hp : 0 ≤ n ∧ okP ⟨v, h, l⟩ n.toNat) (hr : ¬ Ad.right ⟨u, x, y⟩) :
    Calls Tryd.prog 13 #[pfV v h l n, adV u x y] W fun e w' => e = .returned (.bool false) ∧ Below W.heap.size W w' := by
  have H1 : Hid (∀ w, Calls Tryd.prog 23 #[pfV v h l n] w fun e w' => e = .returned (.bool true) ∧ Below w.heap.size w w') := fun w => by have := drp_in w v h l n hh hl; rwa [decide_eq_true hp] at this
  have H2 : Hid (∀ w, Calls Tryd.prog 26 #[adV u x y] w fun e w' => e = .returned (.bool false) ∧ Below w.heap.size w w') := fun w => by have := rright_in w u x y; rwa [decide_eq_false hr] at this
  clear hp hh hl hr
  obtain ⟨V, hV, F, HB⟩ : ∃ V, (W.alloc (pfO v h l n)).alloc (adO u x y) = V ∧ Kp V V ∧ Hid (Below W.heap.size W V) := ⟨_, rfl, Kp.refl _, by unfold Hid; go_grown⟩
  have HS : Hid (∀ w, Kp V w → Kp V w ∧ w.cell? ⟨W.heap.size, 0, none⟩ = some (.bool v) ∧ w.cell? ⟨W.heap.size, 1, none⟩ = some (.int .u64 (h : Int)) ∧ w.cell? ⟨W.heap.size, 2, none⟩ = some (.int .u64 (l : Int)) ∧ w.cell? ⟨W.heap.size, 3, none⟩ = some (.int .i64 n) ∧ w.cell? ⟨W.heap.size + 1, 0, none⟩ = some (.bool u) ∧ w.cell? ⟨W.heap.size + 1, 1, none⟩ = some (.int .u64 (x : Int)) ∧ w.cell? ⟨W.heap.size + 1, 2, none⟩ = some (.int .u64 (y : Int))) := fun w k => by
    have hc := ho_cells W v h l n u x y
    rw [hV] at hc
    have hb : W.heap.size + 1 < V.heap.size := by rw [← hV]; simp
    have hb0 : W.heap.size < V.heap.size := by omega
    exact ⟨k, k.cell hc.1.1 hb0, k.cell hc.1.2.1 hb0, k.cell hc.1.2.2.1 hb0, k.cell hc.1.2.2.2 hb0, k.cell hc.2.1 hb, k.cell hc.2.2.1 hb, k.cell hc.2.2.2 hb⟩
  have hV0 := (HS.out _ F).2
  go_enter Tryd.func13, Tryd.ntmps13
  go_wp2_with fail
  try rw [hV]
  clear hV
  refine (H1.out _).mono ?_
  rintro e w1 ⟨rfl, hb1⟩
  have F1 := F.blk hb1
  have hs1 := (HS.out _ F1).2
  clear hb1 hV0
  go_wp2_with fail
  refine (H2.out _).mono ?_
  rintro e w2 ⟨rfl, hb2⟩
  have F2 := F1.blk hb2
  have hs2 := (HS.out _ F2).2
  clear hb2 hs1
  go_wp2
  go_ret
  exact ⟨rfl, F2.bel HB.out⟩
set_option maxRecDepth 100000 in
set_option maxHeartbeats 4000000 in
theorem dho_3t (W : World)  (h l x y : Nat) (n : Int) (hh : h < 2 ^ 64) (hl : l < 2 ^ 64) (hp : 0 ≤ n ∧ okP ⟨true, h, l⟩ n.toNat) (hr : Ad.right ⟨false, x, y⟩) :
    Calls Tryd.prog 13 #[pfV true h l n, adV false x y] W fun e w' => e = .returned (.bool false) ∧ Below W.heap.size W w' := by
  have H1 : Hid (∀ w, Calls Tryd.prog 23 #[pfV true h l n] w fun e w' => e = .returned (.bool true) ∧ Below w.heap.size w w') := fun w => by have := drp_in w true h l n hh hl; rwa [decide_eq_true hp] at this
  have H2 : Hid (∀ w, Calls Tryd.prog 26 #[adV false x y] w fun e w' => e = .returned (.bool true) ∧ Below w.heap.size w w') := fun w => by have := rright_in w false x y; rwa [decide_eq_true hr] at this
  clear hp hh hl hr
  obtain ⟨V, hV, F, HB⟩ : ∃ V, (W.alloc (pfO true h l n)).alloc (adO false x y) = V ∧ Kp V V ∧ Hid (Below W.heap.size W V) := ⟨_, rfl, Kp.refl _, by unfold Hid; go_grown⟩
  have HS : Hid (∀ w, Kp V w → Kp V w ∧ w.cell? ⟨W.heap.size, 0, none⟩ = some (.bool true) ∧ w.cell? ⟨W.heap.size, 1, none⟩ = some (.int .u64 (h : Int)) ∧ w.cell? ⟨W.heap.size, 2, none⟩ = some (.int .u64 (l : Int)) ∧ w.cell? ⟨W.heap.size, 3, none⟩ = some (.int .i64 n) ∧ w.cell? ⟨W.heap.size + 1, 0, none⟩ = some (.bool false) ∧ w.cell? ⟨W.heap.size + 1, 1, none⟩ = some (.int .u64 (x : Int)) ∧ w.cell? ⟨W.heap.size + 1, 2, none⟩ = some (.int .u64 (y : Int))) := fun w k => by
    have hc := ho_cells W true h l n false x y
    rw [hV] at hc
    have hb : W.heap.size + 1 < V.heap.size := by rw [← hV]; simp
    have hb0 : W.heap.size < V.heap.size := by omega
    exact ⟨k, k.cell hc.1.1 hb0, k.cell hc.1.2.1 hb0, k.cell hc.1.2.2.1 hb0, k.cell hc.1.2.2.2 hb0, k.cell hc.2.1 hb, k.cell hc.2.2.1 hb, k.cell hc.2.2.2 hb⟩
  have hV0 := (HS.out _ F).2
  go_enter Tryd.func13, Tryd.ntmps13
  go_wp2_with fail
  try rw [hV]
  clear hV
  refine (H1.out _).mono ?_
  rintro e w1 ⟨rfl, hb1⟩
  have F1 := F.blk hb1
  have hs1 := (HS.out _ F1).2
  clear hb1 hV0
  go_wp2_with fail
  refine (H2.out _).mono ?_
  rintro e w2 ⟨rfl, hb2⟩
  have F2 := F1.blk hb2
  have hs2 := (HS.out _ F2).2
  clear hb2 hs1
  go_wp2
  go_ret
  exact ⟨rfl, F2.bel HB.out⟩
set_option maxRecDepth 100000 in
set_option maxHeartbeats 4000000 in
theorem dho_3f (W : World)  (h l x y : Nat) (n : Int) (hh : h < 2 ^ 64) (hl : l < 2 ^ 64) (hp : 0 ≤ n ∧ okP ⟨false, h, l⟩ n.toNat) (hr : Ad.right ⟨true, x, y⟩) :
    Calls Tryd.prog 13 #[pfV false h l n, adV true x y] W fun e w' => e = .returned (.bool false) ∧ Below W.heap.size W w' := by
  have H1 : Hid (∀ w, Calls Tryd.prog 23 #[pfV false h l n] w fun e w' => e = .returned (.bool true) ∧ Below w.heap.size w w') := fun w => by have := drp_in w false h l n hh hl; rwa [decide_eq_true hp] at this
  have H2 : Hid (∀ w, Calls Tryd.prog 26 #[adV true x y] w fun e w' => e = .returned (.bool true) ∧ Below w.heap.size w w') := fun w => by have := rright_in w true x y; rwa [decide_eq_true hr] at this
  clear hp hh hl hr
  obtain ⟨V, hV, F, HB⟩ : ∃ V, (W.alloc (pfO false h l n)).alloc (adO true x y) = V ∧ Kp V V ∧ Hid (Below W.heap.size W V) := ⟨_, rfl, Kp.refl _, by unfold Hid; go_grown⟩
  have HS : Hid (∀ w, Kp V w → Kp V w ∧ w.cell? ⟨W.heap.size, 0, none⟩ = some (.bool false) ∧ w.cell? ⟨W.heap.size, 1, none⟩ = some (.int .u64 (h : Int)) ∧ w.cell? ⟨W.heap.size, 2, none⟩ = some (.int .u64 (l : Int)) ∧ w.cell? ⟨W.heap.size, 3, none⟩ = some (.int .i64 n) ∧ w.cell? ⟨W.heap.size + 1, 0, none⟩ = some (.bool true) ∧ w.cell? ⟨W.heap.size + 1, 1, none⟩ = some (.int .u64 (x : Int)) ∧ w.cell? ⟨W.heap.size + 1, 2, none⟩ = some (.int .u64 (y : Int))) := fun w k => by
    have hc := ho_cells W false h l n true x y
    rw [hV] at hc
    have hb : W.heap.size + 1 < V.heap.size := by rw [← hV]; simp
    have hb0 : W.heap.size < V.heap.size := by omega
    exact ⟨k, k.cell hc.1.1 hb0, k.cell hc.1.2.1 hb0, k.cell hc.1.2.2.1 hb0, k.cell hc.1.2.2.2 hb0, k.cell hc.2.1 hb, k.cell hc.2.2.1 hb, k.cell hc.2.2.2 hb⟩
  have hV0 := (HS.out _ F).2
  go_enter Tryd.func13, Tryd.ntmps13
  go_wp2_with fail
  try rw [hV]
  clear hV
  refine (H1.out _).mono ?_
  rintro e w1 ⟨rfl, hb1⟩
  have F1 := F.blk hb1
  have hs1 := (HS.out _ F1).2
  clear hb1 hV0
  go_wp2_with fail
  refine (H2.out _).mono ?_
  rintro e w2 ⟨rfl, hb2⟩
  have F2 := F1.blk hb2
  have hs2 := (HS.out _ F2).2
  clear hb2 hs1
  go_wp2
  go_ret
  exact ⟨rfl, F2.bel HB.out⟩
set_option maxRecDepth 100000 in
set_option maxHeartbeats 4000000 in
theorem dho_4t (W : World)  (h l x y : Nat) (m : Nat) (hh : h < 2 ^ 64) (hl : l < 2 ^ 64) (hx : x < 2 ^ 64) (hy : y < 2 ^ 64) (hp : okP ⟨true, h, l⟩ m) (hr : Ad.right ⟨true, x, y⟩) :
    Calls Tryd.prog 13 #[pfV true h l (m : Int), adV true x y] W fun e w' => e = .returned (.bool (decide (holds ⟨true, h, l⟩ m ⟨true, x, y⟩))) ∧ Below W.heap.size W w' := by
  have H1 : Hid (∀ w, Calls Tryd.prog 23 #[pfV true h l (m : Int)] w fun e w' => e = .returned (.bool true) ∧ Below w.heap.size w w') := fun w => by have := drp_in w true h l (m : Int) hh hl; rwa [decide_eq_true ⟨by omega, by simpa using hp⟩] at this
  have H2 : Hid (∀ w, Calls Tryd.prog 26 #[adV true x y] w fun e w' => e = .returned (.bool true) ∧ Below w.heap.size w w') := fun w => by have := rright_in w true x y; rwa [decide_eq_true hr] at this
  obtain ⟨p, hpp⟩ : ∃ p : Ad, (⟨true, h, l⟩ : Ad) = p := ⟨_, rfl⟩
  obtain ⟨a, haa⟩ : ∃ a : Ad, (⟨true, x, y⟩ : Ad) = a := ⟨_, rfl⟩
  have hpv : p.v6 = a.v6 := by rw [← hpp, ← haa]
  have hpo : p.ok := by rw [← hpp]; exact ⟨hh, hl⟩
  have hao : a.ok := by rw [← haa]; exact ⟨hx, hy⟩
  have hwv := wd_v6 hpv
  have HP : Hid (∀ w (k : Nat), k < p.wd → Calls Tryd.prog 27 #[adV true h l, .int .i64 (k : Int)] w fun e w' => e = .returned (.int .u64 (((p.bt k).toNat : Nat) : Int)) ∧ Below w.heap.size w w') := fun w k hk => by
    have := bit_in w true h l k hh hl hp.1 (by rw [hpp]; exact hk)
    rwa [hpp] at this
  have HA : Hid (∀ w (k : Nat), k < p.wd → Calls Tryd.prog 27 #[adV true x y, .int .i64 (k : Int)] w fun e w' => e = .returned (.int .u64 (((a.bt k).toNat : Nat) : Int)) ∧ Below w.heap.size w w') := fun w k hk => by
    have := bit_in w true x y k hx hy hr (by rw [haa, ← hwv]; exact hk)
    rwa [haa] at this
  rw [hpp] at hp ⊢
  rw [haa] at hr ⊢
  have hnw : m ≤ p.wd := hp.2.1
  have hw128 : p.wd ≤ 128 := by unfold Ad.wd; split <;> omega
  have HNW := Hid.mk hnw
  have hm128 : m ≤ 128 := by omega
  have HFB := Hid.mk (fst_bits hpo hao hp.1 hr hpv hnw)
  obtain ⟨RES, hRES⟩ : ∃ RES, decide (holds p m a) = RES := ⟨_, rfl⟩
  rw [hRES]
  have HT : Hid ((∀ k, k < m → p.bt k = a.bt k) → RES = true) := fun hk => by
    rw [← hRES]
    exact decide_eq_true ⟨hp, hr, hpv, by rw [← HFB.out.2 hk]; exact hp.2.2⟩
  have HF : Hid (∀ k, k < m → p.bt k ≠ a.bt k → RES = false) := fun k h1 h2 => by
    rw [← hRES]
    exact decide_eq_false (fun e => h2 (HFB.out.1 (by rw [e.2.2.2]; exact hp.2.2) k h1))
  clear hRES HFB hpv hpo hao hwv hp hr hpp haa hh hl hx hy hnw hw128
  obtain ⟨V, hV, F, HB⟩ : ∃ V, (W.alloc (pfO true h l (m : Int))).alloc (adO true x y) = V ∧ Kp V V ∧ Hid (Below W.heap.size W V) := ⟨_, rfl, Kp.refl _, by unfold Hid; go_grown⟩
  have HS : Hid (∀ w, Kp V w → Kp V w ∧ w.cell? ⟨W.heap.size, 0, none⟩ = some (.bool true) ∧ w.cell? ⟨W.heap.size, 1, none⟩ = some (.int .u64 (h : Int)) ∧ w.cell? ⟨W.heap.size, 2, none⟩ = some (.int .u64 (l : Int)) ∧ w.cell? ⟨W.heap.size, 3, none⟩ = some (.int .i64 (m : Int)) ∧ w.cell? ⟨W.heap.size + 1, 0, none⟩ = some (.bool true) ∧ w.cell? ⟨W.heap.size + 1, 1, none⟩ = some (.int .u64 (x : Int)) ∧ w.cell? ⟨W.heap.size + 1, 2, none⟩ = some (.int .u64 (y : Int))) := fun w k => by
    have hc := ho_cells W true h l (m : Int) true x y
    rw [hV] at hc
    have hb : W.heap.size + 1 < V.heap.size := by rw [← hV]; simp
    have hb0 : W.heap.size < V.heap.size := by omega
    exact ⟨k, k.cell hc.1.1 hb0, k.cell hc.1.2.1 hb0, k.cell hc.1.2.2.1 hb0, k.cell hc.1.2.2.2 hb0, k.cell hc.2.1 hb, k.cell hc.2.2.1 hb, k.cell hc.2.2.2 hb⟩
  have hV0 := (HS.out _ F).2
  go_enter Tryd.func13, Tryd.ntmps13
  go_wp2_with fail
  try rw [hV]
  clear hV
  refine (H1.out _).mono ?_
  rintro e w1 ⟨rfl, hb1⟩
  have F1 := F.blk hb1
  have hs1 := (HS.out _ F1).2
  clear hb1 hV0
  go_wp2_with fail
  refine (H2.out _).mono ?_
  rintro e w2 ⟨rfl, hb2⟩
  have F2 := F1.blk hb2
  have hs2 := (HS.out _ F2).2
  clear hb2 hs1
  go_wp2
  go_loopw [7] (fun i wr => DhRel V p a m i wr) (fun i _ => m + 1 - (intOf i).toNat)
  case atStart => exact ⟨0, rfl, Nat.zero_le _, fun j h => by omega, F2⟩
  case round =>
    obtain ⟨k, rfl, hk1, hk2, K⟩ := hrel
    have hsr := (HS.out _ K).2
    have HK2 := Hid.mk hk2
    clear hk2 hs2
    by_cases hlt : k < m
    · have hki : (k : Int) < (m : Int) := by omega
      have HPk := Hid.mk (fun w => HP.out w k (by have := HNW.out; omega))
      have HAk := Hid.mk (fun w => HA.out w k (by have := HNW.out; omega))
      obtain ⟨bp, hbp⟩ : ∃ b, p.bt k = b := ⟨_, rfl⟩
      obtain ⟨ba, hba⟩ : ∃ b, a.bt k = b := ⟨_, rfl⟩
      rw [hbp] at HPk
      rw [hba] at HAk
      have HBP := Hid.mk hbp
      have HBA := Hid.mk hba
      clear hbp hba
      go_wp2_with fail
      clear hsr
      have hS0 := HS.out _ K
      go_region_held3 (fun w => Kp V w ∧ w.cell? ⟨W.heap.size, 0, none⟩ = some (.bool true) ∧ w.cell? ⟨W.heap.size, 1, none⟩ = some (.int .u64 (h : Int)) ∧ w.cell? ⟨W.heap.size, 2, none⟩ = some (.int .u64 (l : Int)) ∧ w.cell? ⟨W.heap.size, 3, none⟩ = some (.int .i64 (m : Int)) ∧ w.cell? ⟨W.heap.size + 1, 0, none⟩ = some (.bool true) ∧ w.cell? ⟨W.heap.size + 1, 1, none⟩ = some (.int .u64 (x : Int)) ∧ w.cell? ⟨W.heap.size + 1, 2, none⟩ = some (.int .u64 (y : Int)))
        (first | assumption | (apply HS.out; repeat (first | assumption | apply Kp.drew)))
        ((go_at_call 27; (first | with_reducible refine (HPk.out _).mono ?_ | with_reducible refine (HAk.out _).mono ?_); rintro e w3 ⟨rfl, hb3⟩; have K3 := Kp.blk (V := V) (by repeat (first | assumption | apply Kp.drew)) hb3; have hs3 := HS.out _ K3; clear hb3))
      by_cases he : bp = ba
      · subst he
        have HN : Hid (∀ w, Kp V w → DhRel V p a m (.int .i64 ((k : Int) + 1)) w) := fun w kw => ⟨k + 1, by go_num, by omega, fun j hj => by
          rcases Nat.lt_or_eq_of_le (Nat.le_of_lt_succ hj) with h | rfl
          · exact HK2.out j h
          · exact HBP.out.trans HBA.out.symm, kw⟩
        go_wp2
        exact ⟨HN.out _ (by assumption), by simp [intOf]; omega⟩
      · have hne : ¬ ((bp.toNat : Nat) : Int) = ((ba.toNat : Nat) : Int) := by revert he; cases bp <;> cases ba <;> simp
        have hne' : ¬ bp.toNat = ba.toNat := by omega
        have HR := Hid.mk (HF.out k hlt (by rw [HBP.out, HBA.out]; exact he))
        go_wp2
        go_ret
        exact ⟨by rw [HR.out]; rfl, Kp.bel (V := V) (by assumption) HB.out⟩
    · obtain rfl : k = m := by omega
      have HR := Hid.mk (HT.out HK2.out)
      go_wp2
      go_ret
      exact ⟨by rw [HR.out]; rfl, K.bel HB.out⟩
set_option maxRecDepth 100000 in
set_option maxHeartbeats 4000000 in
theorem dho_4f (W : World)  (h l x y : Nat) (m : Nat) (hh : h < 2 ^ 64) (hl : l < 2 ^ 64) (hx : x < 2 ^ 64) (hy : y < 2 ^ 64) (hp : okP ⟨false, h, l⟩ m) (hr : Ad.right ⟨false, x, y⟩) :
    Calls Tryd.prog 13 #[pfV false h l (m : Int), adV false x y] W fun e w' => e = .returned (.bool (decide (holds ⟨false, h, l⟩ m ⟨false, x, y⟩))) ∧ Below W.heap.size W w' := by
  have H1 : Hid (∀ w, Calls Tryd.prog 23 #[pfV false h l (m : Int)] w fun e w' => e = .returned (.bool true) ∧ Below w.heap.size w w') := fun w => by have := drp_in w false h l (m : Int) hh hl; rwa [decide_eq_true ⟨by omega, by simpa using hp⟩] at this
  have H2 : Hid (∀ w, Calls Tryd.prog 26 #[adV false x y] w fun e w' => e = .returned (.bool true) ∧ Below w.heap.size w w') := fun w => by have := rright_in w false x y; rwa [decide_eq_true hr] at this
  obtain ⟨p, hpp⟩ : ∃ p : Ad, (⟨false, h, l⟩ : Ad) = p := ⟨_, rfl⟩
  obtain ⟨a, haa⟩ : ∃ a : Ad, (⟨false, x, y⟩ : Ad) = a := ⟨_, rfl⟩
  have hpv : p.v6 = a.v6 := by rw [← hpp, ← haa]
  have hpo : p.ok := by rw [← hpp]; exact ⟨hh, hl⟩
  have hao : a.ok := by rw [← haa]; exact ⟨hx, hy⟩
  have hwv := wd_v6 hpv
  have HP : Hid (∀ w (k : Nat), k < p.wd → Calls Tryd.prog 27 #[adV false h l, .int .i64 (k : Int)] w fun e w' => e = .returned (.int .u64 (((p.bt k).toNat : Nat) : Int)) ∧ Below w.heap.size w w') := fun w k hk => by
    have := bit_in w false h l k hh hl hp.1 (by rw [hpp]; exact hk)
    rwa [hpp] at this
  have HA : Hid (∀ w (k : Nat), k < p.wd → Calls Tryd.prog 27 #[adV false x y, .int .i64 (k : Int)] w fun e w' => e = .returned (.int .u64 (((a.bt k).toNat : Nat) : Int)) ∧ Below w.heap.size w w') := fun w k hk => by
    have := bit_in w false x y k hx hy hr (by rw [haa, ← hwv]; exact hk)
    rwa [haa] at this
  rw [hpp] at hp ⊢
  rw [haa] at hr ⊢
  have hnw : m ≤ p.wd := hp.2.1
  have hw128 : p.wd ≤ 128 := by unfold Ad.wd; split <;> omega
  have HNW := Hid.mk hnw
  have hm128 : m ≤ 128 := by omega
  have HFB := Hid.mk (fst_bits hpo hao hp.1 hr hpv hnw)
  obtain ⟨RES, hRES⟩ : ∃ RES, decide (holds p m a) = RES := ⟨_, rfl⟩
  rw [hRES]
  have HT : Hid ((∀ k, k < m → p.bt k = a.bt k) → RES = true) := fun hk => by
    rw [← hRES]
    exact decide_eq_true ⟨hp, hr, hpv, by rw [← HFB.out.2 hk]; exact hp.2.2⟩
  have HF : Hid (∀ k, k < m → p.bt k ≠ a.bt k → RES = false) := fun k h1 h2 => by
    rw [← hRES]
    exact decide_eq_false (fun e => h2 (HFB.out.1 (by rw [e.2.2.2]; exact hp.2.2) k h1))
  clear hRES HFB hpv hpo hao hwv hp hr hpp haa hh hl hx hy hnw hw128
  obtain ⟨V, hV, F, HB⟩ : ∃ V, (W.alloc (pfO false h l (m : Int))).alloc (adO false x y) = V ∧ Kp V V ∧ Hid (Below W.heap.size W V) := ⟨_, rfl, Kp.refl _, by unfold Hid; go_grown⟩
  have HS : Hid (∀ w, Kp V w → Kp V w ∧ w.cell? ⟨W.heap.size, 0, none⟩ = some (.bool false) ∧ w.cell? ⟨W.heap.size, 1, none⟩ = some (.int .u64 (h : Int)) ∧ w.cell? ⟨W.heap.size, 2, none⟩ = some (.int .u64 (l : Int)) ∧ w.cell? ⟨W.heap.size, 3, none⟩ = some (.int .i64 (m : Int)) ∧ w.cell? ⟨W.heap.size + 1, 0, none⟩ = some (.bool false) ∧ w.cell? ⟨W.heap.size + 1, 1, none⟩ = some (.int .u64 (x : Int)) ∧ w.cell? ⟨W.heap.size + 1, 2, none⟩ = some (.int .u64 (y : Int))) := fun w k => by
    have hc := ho_cells W false h l (m : Int) false x y
    rw [hV] at hc
    have hb : W.heap.size + 1 < V.heap.size := by rw [← hV]; simp
    have hb0 : W.heap.size < V.heap.size := by omega
    exact ⟨k, k.cell hc.1.1 hb0, k.cell hc.1.2.1 hb0, k.cell hc.1.2.2.1 hb0, k.cell hc.1.2.2.2 hb0, k.cell hc.2.1 hb, k.cell hc.2.2.1 hb, k.cell hc.2.2.2 hb⟩
  have hV0 := (HS.out _ F).2
  go_enter Tryd.func13, Tryd.ntmps13
  go_wp2_with fail
  try rw [hV]
  clear hV
  refine (H1.out _).mono ?_
  rintro e w1 ⟨rfl, hb1⟩
  have F1 := F.blk hb1
  have hs1 := (HS.out _ F1).2
  clear hb1 hV0
  go_wp2_with fail
  refine (H2.out _).mono ?_
  rintro e w2 ⟨rfl, hb2⟩
  have F2 := F1.blk hb2
  have hs2 := (HS.out _ F2).2
  clear hb2 hs1
  go_wp2
  go_loopw [7] (fun i wr => DhRel V p a m i wr) (fun i _ => m + 1 - (intOf i).toNat)
  case atStart => exact ⟨0, rfl, Nat.zero_le _, fun j h => by omega, F2⟩
  case round =>
    obtain ⟨k, rfl, hk1, hk2, K⟩ := hrel
    have hsr := (HS.out _ K).2
    have HK2 := Hid.mk hk2
    clear hk2 hs2
    by_cases hlt : k < m
    · have hki : (k : Int) < (m : Int) := by omega
      have HPk := Hid.mk (fun w => HP.out w k (by have := HNW.out; omega))
      have HAk := Hid.mk (fun w => HA.out w k (by have := HNW.out; omega))
      obtain ⟨bp, hbp⟩ : ∃ b, p.bt k = b := ⟨_, rfl⟩
      obtain ⟨ba, hba⟩ : ∃ b, a.bt k = b := ⟨_, rfl⟩
      rw [hbp] at HPk
      rw [hba] at HAk
      have HBP := Hid.mk hbp
      have HBA := Hid.mk hba
      clear hbp hba
      go_wp2_with fail
      clear hsr
      have hS0 := HS.out _ K
      go_region_held3 (fun w => Kp V w ∧ w.cell? ⟨W.heap.size, 0, none⟩ = some (.bool false) ∧ w.cell? ⟨W.heap.size, 1, none⟩ = some (.int .u64 (h : Int)) ∧ w.cell? ⟨W.heap.size, 2, none⟩ = some (.int .u64 (l : Int)) ∧ w.cell? ⟨W.heap.size, 3, none⟩ = some (.int .i64 (m : Int)) ∧ w.cell? ⟨W.heap.size + 1, 0, none⟩ = some (.bool false) ∧ w.cell? ⟨W.heap.size + 1, 1, none⟩ = some (.int .u64 (x : Int)) ∧ w.cell? ⟨W.heap.size + 1, 2, none⟩ = some (.int .u64 (y : Int)))
        (first | assumption | (apply HS.out; repeat (first | assumption | apply Kp.drew)))
        ((go_at_call 27; (first | with_reducible refine (HPk.out _).mono ?_ | with_reducible refine (HAk.out _).mono ?_); rintro e w3 ⟨rfl, hb3⟩; have K3 := Kp.blk (V := V) (by repeat (first | assumption | apply Kp.drew)) hb3; have hs3 := HS.out _ K3; clear hb3))
      by_cases he : bp = ba
      · subst he
        have HN : Hid (∀ w, Kp V w → DhRel V p a m (.int .i64 ((k : Int) + 1)) w) := fun w kw => ⟨k + 1, by go_num, by omega, fun j hj => by
          rcases Nat.lt_or_eq_of_le (Nat.le_of_lt_succ hj) with h | rfl
          · exact HK2.out j h
          · exact HBP.out.trans HBA.out.symm, kw⟩
        go_wp2
        exact ⟨HN.out _ (by assumption), by simp [intOf]; omega⟩
      · have hne : ¬ ((bp.toNat : Nat) : Int) = ((ba.toNat : Nat) : Int) := by revert he; cases bp <;> cases ba <;> simp
        have hne' : ¬ bp.toNat = ba.toNat := by omega
        have HR := Hid.mk (HF.out k hlt (by rw [HBP.out, HBA.out]; exact he))
        go_wp2
        go_ret
        exact ⟨by rw [HR.out]; rfl, Kp.bel (V := V) (by assumption) HB.out⟩
    · obtain rfl : k = m := by omega
      have HR := Hid.mk (HT.out HK2.out)
      go_wp2
      go_ret
      exact ⟨by rw [HR.out]; rfl, K.bel HB.out⟩

theorem dho_in (W : World) (v : Bool) (h l : Nat) (n : Int) (u : Bool) (x y : Nat) (hh : h < 2 ^ 64) (hl : l < 2 ^ 64) (hx : x < 2 ^ 64) (hy : y < 2 ^ 64) :
    Calls Tryd.prog 13 #[pfV v h l n, adV u x y] W fun e w' => e = .returned (.bool (decide (0 ≤ n ∧ holds ⟨v, h, l⟩ n.toNat ⟨u, x, y⟩))) ∧ Below W.heap.size W w' := by
  by_cases hp : 0 ≤ n ∧ okP ⟨v, h, l⟩ n.toNat
  · by_cases hr : Ad.right ⟨u, x, y⟩
    · by_cases hv : v = u
      · subst hv
        have e : decide (0 ≤ n ∧ holds ⟨v, h, l⟩ n.toNat ⟨v, x, y⟩) = decide (holds ⟨v, h, l⟩ n.toNat ⟨v, x, y⟩) := by
          rw [decide_eq_decide]
          exact ⟨fun z => z.2, fun z => ⟨hp.1, z⟩⟩
        rw [e]
        have hn : ((n.toNat : Nat) : Int) = n := Int.toNat_of_nonneg hp.1
        cases v with
        | true => have := dho_4t W h l x y n.toNat hh hl hx hy hp.2 hr; rwa [hn] at this
        | false => have := dho_4f W h l x y n.toNat hh hl hx hy hp.2 hr; rwa [hn] at this
      · rw [decide_eq_false (fun z => hv z.2.2.2.1)]
        cases v <;> cases u
        · exact absurd rfl hv
        · exact dho_3f W h l x y n hh hl hp hr
        · exact dho_3t W h l x y n hh hl hp hr
        · exact absurd rfl hv
    · rw [decide_eq_false (fun z => hr z.2.2.1)]
      exact dho_2 W v u h l x y n hh hl hp hr
  · rw [decide_eq_false (fun z => hp ⟨z.1, z.2.1⟩)]
    exact dho_1 W v u h l x y n hh hl hp
end Go.Proofs.YtpognbkdafnfjaaDoor
