/- The chapter's examples. -/
import Derived.Test.YthjhemodmdficaaDoorNHas
namespace Go.Proofs.YthjhemodmdficaaDoor
set_option linter.unusedVariables false
open Go.RowKit
attribute [local go_sem ↓] loadAt_nat storeAt_nat build_nat build_nat'
attribute [local go_sem] st1 st2a st2b natBuild_run
set_option maxRecDepth 100000 in
set_option maxHeartbeats 2000000 in
theorem examples_in (W : World) : Calls Tryd.prog 9 #[] W fun e w' => e = .returned (.bool true) ∧ Below W.heap.size W w' := by
  have hz := zero26
  have G : Has W [] := trivial
  have B : Below W.heap.size W W := Below.refl _ _
  have S7 := Hid.mk (small_in 7 (by omega))
  have S2 := Hid.mk (small_in 2 (by omega))
  have S3 := Hid.mk (small_in 3 (by omega))
  have S200 := Hid.mk (small_in 200 (by omega))
  have S13 := Hid.mk (small_in 13 (by omega))
  have S4 := Hid.mk (small_in 4 (by omega))
  have S258 := Hid.mk (small_in 258 (by omega))
  have HO : Hid (∀ W, Calls Tryd.prog 10 #[.string ⟨#[0, 1, 0]⟩] W fun e w' => e = .returned (.tuple #[.agg (natL 256).toArray, .int .i64 0]) ∧ Below W.heap.size W w') := fun W => of_in ⟨#[0, 1, 0]⟩ (by decide) W
  have l0 : ∀ k, k < 4294967296 → k < Lim := fun k h => lim_big 1 k (by omega) (by omega)
  have HD : Hid (∀ W, Calls Tryd.prog 28 #[.agg (natL 7).toArray, .agg (natL 2).toArray] W fun e w' => e = .returned (.tuple #[.agg (natL 3).toArray, .agg (natL 1).toArray, .int .i64 0]) ∧ Below W.heap.size W w') := div_in 7 2 (l0 _ (by omega)) (l0 _ (by omega)) (by omega)
  have HP : Hid (∀ W, Calls Tryd.prog 30 #[.agg (natL 3).toArray, .agg (natL 200).toArray, .agg (natL 13).toArray] W fun e w' => e = .returned (.tuple #[.agg (natL 9).toArray, .int .i64 0]) ∧ Below W.heap.size W w') := by
    have h := pow_in 3 200 13 (l0 _ (by omega)) (l0 _ (by omega)) (l0 _ (by omega))
    rw [show powR 3 200 13 = .returned (.tuple #[.agg (natL 9).toArray, .int .i64 0]) by rw [powR, if_pos (by decide +kernel), show 3 ^ 200 % 13 = 9 by decide +kernel]] at h
    exact h
  have HI : Hid (∀ W, Calls Tryd.prog 31 #[.agg (natL 3).toArray, .agg (natL 7).toArray] W fun e w' => e = .returned (.tuple #[.agg (natL 5).toArray, .int .i64 0]) ∧ Below W.heap.size W w') := fun W => by
    refine (inv_in 3 7 (l0 _ (by omega)) (l0 _ (by omega)) W).mono ?_
    rintro e w' ⟨I, v, h1, h2, h3, rfl, hb⟩
    have h4 : InvIs 3 7 5 0 := Or.inl ⟨rfl, by omega, rfl⟩
    obtain ⟨rfl, rfl⟩ := inv_one (h1 (by decide +kernel)) h4
    exact ⟨rfl, hb⟩
  have HJ : Hid (∀ W, Calls Tryd.prog 31 #[.agg (natL 2).toArray, .agg (natL 4).toArray] W fun e w' => e = .returned (.tuple #[.agg (natL 0).toArray, .int .i64 13]) ∧ Below W.heap.size W w') := fun W => by
    refine (inv_in 2 4 (l0 _ (by omega)) (l0 _ (by omega)) W).mono ?_
    rintro e w' ⟨I, v, h1, h2, h3, rfl, hb⟩
    have h4 : InvIs 2 4 0 13 := Or.inr ⟨rfl, rfl, by decide⟩
    obtain ⟨rfl, rfl⟩ := inv_one (h1 (by decide +kernel)) h4
    exact ⟨rfl, hb⟩
  have HW : Hid (∀ W, Calls Tryd.prog 15 #[.agg (natL 258).toArray, .int .i64 4] W fun e w' => e = .returned (.tuple #[.string ⟨#[0, 0, 1, 2]⟩, .int .i64 0]) ∧ Below W.heap.size W w') := wide_in 258 4 (l0 _ (by omega)) (by omega) (by decide +kernel)
  have Y256 : Hid (∀ W, Calls Tryd.prog 35 #[.agg (natL 256).toArray] W fun e w' => e = .returned (.string ⟨#[1, 0]⟩) ∧ Below W.heap.size W w') := by
    have h := bytes_in 256 (l0 _ (by omega))
    rw [show bys 256 (nbl 256) = [1, 0] by decide +kernel] at h
    exact h
  have Y3 : Hid (∀ W, Calls Tryd.prog 35 #[.agg (natL 3).toArray] W fun e w' => e = .returned (.string ⟨#[3]⟩) ∧ Below W.heap.size W w') := by
    have h := bytes_in 3 (l0 _ (by omega))
    rw [show bys 3 (nbl 3) = [3] by decide +kernel] at h
    exact h
  have Y1 : Hid (∀ W, Calls Tryd.prog 35 #[.agg (natL 1).toArray] W fun e w' => e = .returned (.string ⟨#[1]⟩) ∧ Below W.heap.size W w') := by
    have h := bytes_in 1 (l0 _ (by omega))
    rw [show bys 1 (nbl 1) = [1] by decide +kernel] at h
    exact h
  have Y9 : Hid (∀ W, Calls Tryd.prog 35 #[.agg (natL 9).toArray] W fun e w' => e = .returned (.string ⟨#[9]⟩) ∧ Below W.heap.size W w') := by
    have h := bytes_in 9 (l0 _ (by omega))
    rw [show bys 9 (nbl 9) = [9] by decide +kernel] at h
    exact h
  have Y5 : Hid (∀ W, Calls Tryd.prog 35 #[.agg (natL 5).toArray] W fun e w' => e = .returned (.string ⟨#[5]⟩) ∧ Below W.heap.size W w') := by
    have h := bytes_in 5 (l0 _ (by omega))
    rw [show bys 5 (nbl 5) = [5] by decide +kernel] at h
    exact h
  have T256 : Hid (∀ W, Calls Tryd.prog 18 #[.agg (natL 256).toArray] W fun e w' => e = .returned (.int .i64 9) ∧ Below W.heap.size W w') := by
    have h := bits_in 256 (l0 _ (by omega))
    rw [show btl 256 = 9 by decide +kernel] at h
    exact h
  clear l0
  go_enter Tryd.func9, Tryd.ntmps9
  go_wp2_with fail
  refine (HO.out _).mono ?_
  rintro e u1 ⟨rfl, hb⟩
  replace G := G.blk hb
  replace B := bthen B hb
  clear hb
  go_upto_region 2 with fail
  replace G := G.new1 (256)
  replace B := below_new1 (256) B
  generalize u1.alloc (.cells (natL (256)).toArray 27) = v1 at G B ⊢
  generalize u1.heap.size = b_a at G ⊢
  go_wp2_with fail
  refine (S7.out _).mono ?_
  rintro e u2 ⟨rfl, hb⟩
  replace G := G.blk hb
  replace B := bthen B hb
  clear hb
  go_wp2_with fail
  refine (S2.out _).mono ?_
  rintro e u3 ⟨rfl, hb⟩
  replace G := G.blk hb
  replace B := bthen B hb
  clear hb
  go_wp2_with fail
  refine (HD.out _).mono ?_
  rintro e u4 ⟨rfl, hb⟩
  replace G := G.blk hb
  replace B := bthen B hb
  clear hb
  go_upto_region 3 with fail
  replace G := G.new2 (3) (1)
  replace B := below_new2 (3) (1) B
  generalize (u4.alloc (.cells (natL (3)).toArray 27)).alloc (.cells (natL (1)).toArray 27) = v4 at G B ⊢
  generalize u4.heap.size = b_q at G ⊢
  obtain ⟨b_r, h_r⟩ : ∃ x, b_q + 1 = x := ⟨_, rfl⟩
  rw [h_r] at G ⊢
  clear h_r
  go_wp2_with fail
  refine (S3.out _).mono ?_
  rintro e u5 ⟨rfl, hb⟩
  replace G := G.blk hb
  replace B := bthen B hb
  clear hb
  go_wp2_with fail
  refine (S200.out _).mono ?_
  rintro e u6 ⟨rfl, hb⟩
  replace G := G.blk hb
  replace B := bthen B hb
  clear hb
  go_wp2_with fail
  refine (S13.out _).mono ?_
  rintro e u7 ⟨rfl, hb⟩
  replace G := G.blk hb
  replace B := bthen B hb
  clear hb
  go_wp2_with fail
  refine (HP.out _).mono ?_
  rintro e u8 ⟨rfl, hb⟩
  replace G := G.blk hb
  replace B := bthen B hb
  clear hb
  go_upto_region 4 with fail
  replace G := G.new1 (9)
  replace B := below_new1 (9) B
  generalize u8.alloc (.cells (natL (9)).toArray 27) = v8 at G B ⊢
  generalize u8.heap.size = b_p at G ⊢
  go_wp2_with fail
  refine (S3.out _).mono ?_
  rintro e u9 ⟨rfl, hb⟩
  replace G := G.blk hb
  replace B := bthen B hb
  clear hb
  go_wp2_with fail
  refine (S7.out _).mono ?_
  rintro e u10 ⟨rfl, hb⟩
  replace G := G.blk hb
  replace B := bthen B hb
  clear hb
  go_wp2_with fail
  refine (HI.out _).mono ?_
  rintro e u11 ⟨rfl, hb⟩
  replace G := G.blk hb
  replace B := bthen B hb
  clear hb
  go_upto_region 5 with fail
  replace G := G.new1 (5)
  replace B := below_new1 (5) B
  generalize u11.alloc (.cells (natL (5)).toArray 27) = v11 at G B ⊢
  generalize u11.heap.size = b_i at G ⊢
  go_wp2_with fail
  refine (S2.out _).mono ?_
  rintro e u12 ⟨rfl, hb⟩
  replace G := G.blk hb
  replace B := bthen B hb
  clear hb
  go_wp2_with fail
  refine (S4.out _).mono ?_
  rintro e u13 ⟨rfl, hb⟩
  replace G := G.blk hb
  replace B := bthen B hb
  clear hb
  go_wp2_with fail
  refine (HJ.out _).mono ?_
  rintro e u14 ⟨rfl, hb⟩
  replace G := G.blk hb
  replace B := bthen B hb
  clear hb
  go_upto_region 6 with fail
  replace G := G.new1 (0)
  replace B := below_new1 (0) B
  generalize u14.alloc (.cells (natL (0)).toArray 27) = v14 at G B ⊢
  generalize u14.heap.size = b_j at G ⊢
  go_wp2_with fail
  refine (S258.out _).mono ?_
  rintro e u15 ⟨rfl, hb⟩
  replace G := G.blk hb
  replace B := bthen B hb
  clear hb
  go_wp2_with fail
  refine (HW.out _).mono ?_
  rintro e u16 ⟨rfl, hb⟩
  replace G := G.blk hb
  replace B := bthen B hb
  clear hb
  have l_a := natLoad_run (G.get 5 rfl)
  go_wp2_with fail
  refine (Y256.out _).mono ?_
  rintro e u17 ⟨rfl, hb⟩
  replace G := G.blk hb
  replace B := bthen B hb
  clear hb
  clear l_a
  have l_a := natLoad_run (G.get 5 rfl)
  go_wp2_with fail
  refine (T256.out _).mono ?_
  rintro e u18 ⟨rfl, hb⟩
  replace G := G.blk hb
  replace B := bthen B hb
  clear hb
  clear l_a
  have l_q := natLoad_run (G.get 3 rfl)
  go_wp2_with fail
  refine (Y3.out _).mono ?_
  rintro e u19 ⟨rfl, hb⟩
  replace G := G.blk hb
  replace B := bthen B hb
  clear hb
  clear l_q
  have l_r := natLoad_run (G.get 4 rfl)
  go_wp2_with fail
  refine (Y1.out _).mono ?_
  rintro e u20 ⟨rfl, hb⟩
  replace G := G.blk hb
  replace B := bthen B hb
  clear hb
  clear l_r
  have l_p := natLoad_run (G.get 2 rfl)
  go_wp2_with fail
  refine (Y9.out _).mono ?_
  rintro e u21 ⟨rfl, hb⟩
  replace G := G.blk hb
  replace B := bthen B hb
  clear hb
  clear l_p
  have l_i := natLoad_run (G.get 1 rfl)
  go_wp2_with fail
  refine (Y5.out _).mono ?_
  rintro e u22 ⟨rfl, hb⟩
  replace G := G.blk hb
  replace B := bthen B hb
  clear hb
  clear l_i
  go_wp2
  go_ret
  exact ⟨rfl, B⟩
end Go.Proofs.YthjhemodmdficaaDoor
