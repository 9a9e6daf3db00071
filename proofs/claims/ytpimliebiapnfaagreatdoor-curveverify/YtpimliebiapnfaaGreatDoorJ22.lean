/- Texts of this proof, joined: CRf, CRon, CRrd, CTops. -/
import Derived.Test.YtpimliebiapnfaaGreatDoorJ13
import Derived.Test.YtpimliebiapnfaaGreatDoorJ21
import Derived.Test.YtpimliebiapnfaaGreatDoorJ14
import Derived.Test.YtpimliebiapnfaaGreatDoorJ17
/- The document's field. -/
namespace Go.Proofs.YtpimliebiapnfaaGreatDoor
set_option linter.unusedVariables false
set_option linter.unusedSimpArgs false
open Go.RowKit N
attribute [local go_sem ↓] N.loadAt_nat N.storeAt_nat N.build_nat N.build_nat' loadAt_pt storeAt_pt build_pt0 build_pt0' build_pt'
attribute [local go_sem] N.st1 N.st2a N.st2b N.st1d N.st2ad N.st2bd N.natBuild_run ptst1 ptst1d ptBuild0_run build_pt ptBuild_run
attribute [local go_sem ↓] bin_nat bin_pt
theorem mny_p {A : Nat} (h : A < pP) : N.mny A ≤ 8 := N.mny_small A 8 (Nat.lt_of_lt_of_le h (by decide))
theorem mny_P : N.mny pP ≤ 8 := N.mny_small pP 8 (by decide)
set_option maxRecDepth 100000 in
set_option maxHeartbeats 2000000 in
theorem rmod_in (W : World) (vp va : Value) (P A : Nat) (hP : RN W vp P) (hA : RN W va A) (mA : N.mny A ≤ 90000) (mP : N.mny P ≤ 90000) (hP0 : P ≠ 0) : Calls Tryz.prog 38 #[.agg #[vp], va] W fun e w' => ∃ v, e = .returned v ∧ RN w' v (A % P) ∧ Below W.heap.size W w' := by
  have F := Fm.box1 W (Obj.cells #[vp] 54 (0, 0))
  obtain ⟨V, hV⟩ : ∃ V, W.alloc (Obj.cells #[vp] 54 (0, 0)) = V := ⟨_, rfl⟩
  rw [hV] at F
  have HD := Hid.mk (N.rdiv_in V va vp A P (RN.blk F.bel hA) (RN.blk F.bel hP) mA mP hP0)
  have c0 : V.cell? ⟨W.heap.size, 0, none⟩ = some vp := (N.cells_at (L := [vp]) (F.get 0 rfl) rfl).1
  clear hA hP
  go_enter Tryz.func38, Tryz.ntmps38
  go_wp2_with fail
  refine HD.out.mono ?_
  rintro e u1 ⟨q, r, rfl, _, hr, hb⟩
  replace F := F.blk hb
  go_wp2
  go_ret
  exact ⟨r, rfl, hr, F.bel⟩
set_option maxRecDepth 100000 in
set_option maxHeartbeats 2000000 in
theorem rfMul (W : World) (vp va vb : Value) (A B : Nat) (hP : RN W vp pP) (hA : RN W va A) (hB : RN W vb B) (hAl : A < pP) (hBl : B < pP) : Calls Tryz.prog 37 #[.agg #[vp], va, vb] W fun e w' => ∃ v, e = .returned v ∧ RN w' v (mtimes A B) ∧ Below W.heap.size W w' := by
  obtain ⟨V, hV, F⟩ : ∃ V, W.alloc (Obj.cells #[vp] 54 (0, 0)) = V ∧ Fm W [(W.heap.size, Obj.cells #[vp] 54 (0, 0))] V := ⟨_, rfl, Fm.box1 W _⟩
  obtain ⟨L, hL⟩ : ∃ L : List (Nat × Obj), [(W.heap.size, Obj.cells #[vp] 54 (0, 0))] = L := ⟨_, rfl⟩
  rw [hL] at F
  have HS : Hid (∀ w, Fm W L w → Fm W L w ∧ w.cell? ⟨W.heap.size, 0, none⟩ = some vp) := fun w h => ⟨h, (N.cells_at (L := [vp]) (h.get 0 (by rw [← hL]; rfl)) rfl).1⟩
  clear hL
  have HP := Hid.mk hP
  have HA := Hid.mk hA
  have HB := Hid.mk hB
  have H1 : Hid (∀ w, RN w va A → RN w vb B → Calls Tryz.prog 73 #[va, vb] w fun e w' => ∃ v, e = .returned v ∧ RN w' v (A * B) ∧ Below w.heap.size w w') := fun w h k => N.rmul_in w va vb A B h k (Nat.le_trans (mny_p hAl) (by omega)) (Nat.le_trans (mny_p hBl) (by omega))
  have H2 : Hid (∀ w v, RN w vp pP → RN w v (A * B) → Calls Tryz.prog 38 #[.agg #[vp], v] w fun e w' => ∃ v, e = .returned v ∧ RN w' v (mtimes A B) ∧ Below w.heap.size w w') := fun w v h k => (rmod_in w vp v pP _ h k (Nat.le_trans (N.mny_mul A B 8 8 (mny_p hAl) (mny_p hBl)) (by omega)) (Nat.le_trans mny_P (by omega)) (by decide)).mono fun e w' ⟨v, h1, h2, h3⟩ => ⟨v, h1, by rw [← show (A * B) % pP = mtimes A B from rfl]; exact h2, h3⟩
  clear hP hA hB hAl hBl
  generalize mtimes A B = RR at H2 ⊢
  go_enter Tryz.func37, Tryz.ntmps37
  go_upto_region 1 with fail
  clear hV
  have hS0 := HS.out _ F
  go_region_held3 (fun w => Fm W L w ∧ w.cell? ⟨W.heap.size, 0, none⟩ = some vp)
    (first | assumption | (apply HS.out; repeat (first | assumption | apply Fm.drew | apply Fz.drew | apply Fq.drew | apply Fm.alloc)))
    (first
      | (go_at_call 73; with_reducible refine (H1.out _ (RN.blk (Fm.bel (by repeat (first | assumption | apply Fm.drew | apply Fz.drew | apply Fq.drew | apply Fm.alloc))) HA.out) (RN.blk (Fm.bel (by repeat (first | assumption | apply Fm.drew | apply Fz.drew | apply Fq.drew | apply Fm.alloc))) HB.out)).mono ?_; rintro e w2 ⟨v2, rfl, r2, hb2⟩; have F2 := Fm.blk (by repeat (first | assumption | apply Fm.drew | apply Fz.drew | apply Fq.drew | apply Fm.alloc)) hb2; have hs2 := HS.out _ F2)
      | (go_at_call 38; with_reducible refine (H2.out _ _ (RN.blk (Fm.bel (by repeat (first | assumption | apply Fm.drew | apply Fz.drew | apply Fq.drew | apply Fm.alloc))) HP.out) r2).mono ?_; rintro e w3 ⟨v3, rfl, r3, hb3⟩; have F3 := Fm.blk (by repeat (first | assumption | apply Fm.drew | apply Fz.drew | apply Fq.drew | apply Fm.alloc)) hb3; have hs3 := HS.out _ F3))
  go_wp2
  go_ret
  exact ⟨v3, rfl, r3, F3.bel⟩
set_option maxRecDepth 100000 in
set_option maxHeartbeats 2000000 in
theorem rfAdd (W : World) (vp va vb : Value) (A B : Nat) (hP : RN W vp pP) (hA : RN W va A) (hB : RN W vb B) (hAl : A < pP) (hBl : B < pP) : Calls Tryz.prog 56 #[.agg #[vp], va, vb] W fun e w' => ∃ v, e = .returned v ∧ RN w' v (mplus A B) ∧ Below W.heap.size W w' := by
  obtain ⟨V, hV, F⟩ : ∃ V, W.alloc (Obj.cells #[vp] 54 (0, 0)) = V ∧ Fm W [(W.heap.size, Obj.cells #[vp] 54 (0, 0))] V := ⟨_, rfl, Fm.box1 W _⟩
  obtain ⟨L, hL⟩ : ∃ L : List (Nat × Obj), [(W.heap.size, Obj.cells #[vp] 54 (0, 0))] = L := ⟨_, rfl⟩
  rw [hL] at F
  have HS : Hid (∀ w, Fm W L w → Fm W L w ∧ w.cell? ⟨W.heap.size, 0, none⟩ = some vp) := fun w h => ⟨h, (N.cells_at (L := [vp]) (h.get 0 (by rw [← hL]; rfl)) rfl).1⟩
  clear hL
  have HP := Hid.mk hP
  have HA := Hid.mk hA
  have HB := Hid.mk hB
  have H1 : Hid (∀ w, RN w va A → RN w vb B → Calls Tryz.prog 90 #[va, vb] w fun e w' => ∃ v, e = .returned v ∧ RN w' v (A + B) ∧ Below w.heap.size w w') := fun w h k => N.radd_in w va vb A B h k (Nat.le_trans (mny_p hAl) (by omega)) (Nat.le_trans (mny_p hBl) (by omega))
  have H2 : Hid (∀ w v, RN w vp pP → RN w v (A + B) → Calls Tryz.prog 38 #[.agg #[vp], v] w fun e w' => ∃ v, e = .returned v ∧ RN w' v (mplus A B) ∧ Below w.heap.size w w') := fun w v h k => (rmod_in w vp v pP _ h k (Nat.le_trans (N.mny_add A B 8 (mny_p hAl) (mny_p hBl)) (by omega)) (Nat.le_trans mny_P (by omega)) (by decide)).mono fun e w' ⟨v, h1, h2, h3⟩ => ⟨v, h1, by rw [← show (A + B) % pP = mplus A B from dadd_eq hAl hBl]; exact h2, h3⟩
  clear hP hA hB hAl hBl
  generalize mplus A B = RR at H2 ⊢
  go_enter Tryz.func56, Tryz.ntmps56
  go_upto_region 1 with fail
  clear hV
  have hS0 := HS.out _ F
  go_region_held3 (fun w => Fm W L w ∧ w.cell? ⟨W.heap.size, 0, none⟩ = some vp)
    (first | assumption | (apply HS.out; repeat (first | assumption | apply Fm.drew | apply Fz.drew | apply Fq.drew | apply Fm.alloc)))
    (first
      | (go_at_call 90; with_reducible refine (H1.out _ (RN.blk (Fm.bel (by repeat (first | assumption | apply Fm.drew | apply Fz.drew | apply Fq.drew | apply Fm.alloc))) HA.out) (RN.blk (Fm.bel (by repeat (first | assumption | apply Fm.drew | apply Fz.drew | apply Fq.drew | apply Fm.alloc))) HB.out)).mono ?_; rintro e w2 ⟨v2, rfl, r2, hb2⟩; have F2 := Fm.blk (by repeat (first | assumption | apply Fm.drew | apply Fz.drew | apply Fq.drew | apply Fm.alloc)) hb2; have hs2 := HS.out _ F2)
      | (go_at_call 38; with_reducible refine (H2.out _ _ (RN.blk (Fm.bel (by repeat (first | assumption | apply Fm.drew | apply Fz.drew | apply Fq.drew | apply Fm.alloc))) HP.out) r2).mono ?_; rintro e w3 ⟨v3, rfl, r3, hb3⟩; have F3 := Fm.blk (by repeat (first | assumption | apply Fm.drew | apply Fz.drew | apply Fq.drew | apply Fm.alloc)) hb3; have hs3 := HS.out _ F3))
  go_wp2
  go_ret
  exact ⟨v3, rfl, r3, F3.bel⟩
set_option maxRecDepth 100000 in
set_option maxHeartbeats 2000000 in
theorem rfSub (W : World) (vp va vb : Value) (A B : Nat) (hP : RN W vp pP) (hA : RN W va A) (hB : RN W vb B) (hAl : A < pP) (hBl : B < pP) : Calls Tryz.prog 55 #[.agg #[vp], va, vb] W fun e w' => ∃ v, e = .returned v ∧ RN w' v (mminus A B) ∧ Below W.heap.size W w' := by
  obtain ⟨V, hV, F⟩ : ∃ V, W.alloc (Obj.cells #[vp] 54 (0, 0)) = V ∧ Fm W [(W.heap.size, Obj.cells #[vp] 54 (0, 0))] V := ⟨_, rfl, Fm.box1 W _⟩
  obtain ⟨L, hL⟩ : ∃ L : List (Nat × Obj), [(W.heap.size, Obj.cells #[vp] 54 (0, 0))] = L := ⟨_, rfl⟩
  rw [hL] at F
  have HS : Hid (∀ w, Fm W L w → Fm W L w ∧ w.cell? ⟨W.heap.size, 0, none⟩ = some vp) := fun w h => ⟨h, (N.cells_at (L := [vp]) (h.get 0 (by rw [← hL]; rfl)) rfl).1⟩
  clear hL
  have HP := Hid.mk hP
  have HA := Hid.mk hA
  have HB := Hid.mk hB
  have m9 : N.mny (A + pP) ≤ 9 := N.mny_add A pP 8 (mny_p hAl) mny_P
  have H1 : Hid (∀ w, RN w va A → RN w vp pP → Calls Tryz.prog 90 #[va, vp] w fun e w' => ∃ v, e = .returned v ∧ RN w' v (A + pP) ∧ Below w.heap.size w w') := fun w h k => N.radd_in w va vp A pP h k (Nat.le_trans (mny_p hAl) (by omega)) (Nat.le_trans mny_P (by omega))
  have H2 : Hid (∀ w v, RN w v (A + pP) → RN w vb B → Calls Tryz.prog 89 #[v, vb] w fun e w' => ∃ v, e = .returned v ∧ RN w' v (A + pP - B) ∧ Below w.heap.size w w') := fun w v h k => (N.rsub_in w v vb _ B h k (Nat.le_trans m9 (by omega)) (by omega)).mono fun e w' ⟨v, h1, h2, _, h3⟩ => ⟨v, h1, h2, h3⟩
  have H3 : Hid (∀ w v, RN w vp pP → RN w v (A + pP - B) → Calls Tryz.prog 38 #[.agg #[vp], v] w fun e w' => ∃ v, e = .returned v ∧ RN w' v (mminus A B) ∧ Below w.heap.size w w') := fun w v h k => (rmod_in w vp v pP _ h k (Nat.le_trans (N.mny_mono _ _ (Nat.sub_le _ _)) (Nat.le_trans m9 (by omega))) (Nat.le_trans mny_P (by omega)) (by decide)).mono fun e w' ⟨v, h1, h2, h3⟩ => ⟨v, h1, by rw [← dsub_eq hAl hBl]; exact h2, h3⟩
  clear hP hA hB hAl hBl m9
  generalize mminus A B = RR at H3 ⊢
  generalize A + pP - B = R2 at H2 H3
  generalize A + pP = R1 at H1 H2
  go_enter Tryz.func55, Tryz.ntmps55
  go_upto_region 1 with fail
  clear hV
  have hS0 := HS.out _ F
  go_region_held3 (fun w => Fm W L w ∧ w.cell? ⟨W.heap.size, 0, none⟩ = some vp)
    (first | assumption | (apply HS.out; repeat (first | assumption | apply Fm.drew | apply Fz.drew | apply Fq.drew | apply Fm.alloc)))
    (first
      | (go_at_call 90; with_reducible refine (H1.out _ (RN.blk (Fm.bel (by repeat (first | assumption | apply Fm.drew | apply Fz.drew | apply Fq.drew | apply Fm.alloc))) HA.out) (RN.blk (Fm.bel (by repeat (first | assumption | apply Fm.drew | apply Fz.drew | apply Fq.drew | apply Fm.alloc))) HP.out)).mono ?_; rintro e w2 ⟨v2, rfl, r2, hb2⟩; have F2 := Fm.blk (by repeat (first | assumption | apply Fm.drew | apply Fz.drew | apply Fq.drew | apply Fm.alloc)) hb2; have hs2 := HS.out _ F2)
      | (go_at_call 89; with_reducible refine (H2.out _ _ r2 (RN.blk (Fm.bel (by repeat (first | assumption | apply Fm.drew | apply Fz.drew | apply Fq.drew | apply Fm.alloc))) HB.out)).mono ?_; rintro e w3 ⟨v3, rfl, r3, hb3⟩; have F3 := Fm.blk (by repeat (first | assumption | apply Fm.drew | apply Fz.drew | apply Fq.drew | apply Fm.alloc)) hb3; have hs3 := HS.out _ F3)
      | (go_at_call 38; with_reducible refine (H3.out _ _ (RN.blk (Fm.bel (by repeat (first | assumption | apply Fm.drew | apply Fz.drew | apply Fq.drew | apply Fm.alloc))) HP.out) r3).mono ?_; rintro e w4 ⟨v4, rfl, r4, hb4⟩; have F4 := Fm.blk (by repeat (first | assumption | apply Fm.drew | apply Fz.drew | apply Fq.drew | apply Fm.alloc)) hb4; have hs4 := HS.out _ F4))
  go_wp2
  go_ret
  exact ⟨v4, rfl, r4, F4.bel⟩
set_option maxRecDepth 100000 in
set_option maxHeartbeats 2000000 in
theorem rfInv (W : World) (vp va : Value) (A : Nat) (hP : RN W vp pP) (hA : RN W va A) (hAl : A < pP) (h0 : A ≠ 0) : Calls Tryz.prog 36 #[.agg #[vp], va] W fun e w' => ∃ v, e = .returned v ∧ RN w' v (ivN pP A) ∧ Below W.heap.size W w' := by
  have F := Fm.box1 W (Obj.cells #[vp] 54 (0, 0))
  obtain ⟨V, hV⟩ : ∃ V, W.alloc (Obj.cells #[vp] 54 (0, 0)) = V := ⟨_, rfl⟩
  rw [hV] at F
  have hiv := iv_spec pr_P h0 hAl
  have HD : Hid (Calls Tryz.prog 72 #[va, vp] V fun e w' => ∃ v c, e = .returned (.tuple #[v, .bool c]) ∧ RN w' v (ivN pP A) ∧ Below V.heap.size V w') := (N.rinv_in V va vp A pP (RN.blk F.bel hA) (RN.blk F.bel hP) (Nat.le_trans (mny_p hAl) (by omega)) (Nat.le_trans mny_P (by omega)) (by decide)).mono fun e w' ⟨v, I, c, h1, h2, h3, h4⟩ => by
    have hi : N.InvIs A pP (ivN pP A) 0 := Or.inl ⟨rfl, hiv.2, by rw [hiv.1]; decide⟩
    rcases h1 with ⟨_, h1⟩ | ⟨_, _, h1⟩
    · exact ⟨v, c, h2, by rw [← (N.inv_one h1 hi).2]; exact h3, h4⟩
    · exact absurd (N.inv_one h1 hi).1 (by decide)
  have c0 : V.cell? ⟨W.heap.size, 0, none⟩ = some vp := (N.cells_at (L := [vp]) (F.get 0 rfl) rfl).1
  clear hA hP hiv h0 hAl
  generalize ivN pP A = I at HD ⊢
  go_enter Tryz.func36, Tryz.ntmps36
  go_wp2_with fail
  refine HD.out.mono ?_
  rintro e u1 ⟨v, c, rfl, hr, hb⟩
  replace F := F.blk hb
  go_wp2
  go_ret
  exact ⟨v, rfl, hr, F.bel⟩
set_option maxRecDepth 100000 in
set_option maxHeartbeats 2000000 in
theorem rfSmall (W : World) (n : Nat) (hn : n < 18446744073709551616) : Calls Tryz.prog 57 #[.int .u64 (n : Int)] W fun e w' => ∃ v, e = .returned v ∧ RN w' v n ∧ Below W.heap.size W w' := by
  have H := Hid.mk (N.rsmall_in n hn)
  clear hn
  go_enter Tryz.func57, Tryz.ntmps57
  go_wp2_with fail
  refine (H.out _).mono ?_
  rintro e u1 ⟨v, rfl, hr, hb⟩
  go_wp2
  go_ret
  exact ⟨v, rfl, hr, hb⟩
theorem runE_of {h : ByteArray} {s : List UInt8} (hg : ∀ j, j < 2 * (h.data.toList.length / 2) → (G.cnt (h.data.toList[j]?.getD 0)).toNat < 16) (he : h.data.toList.length % 2 = 0) (hs : (List.range (h.data.toList.length / 2)).map (G.prs h.data.toList) = s) {e : Ending} (r : G.RunE h.data.toList e) : e = .returned (.tuple #[.string ⟨s.toArray⟩, .bool true]) := by
  rcases r with ⟨⟨j, hj, hj2⟩, _⟩ | ⟨_, h2, _⟩ | ⟨_, _, h3⟩
  · have := hg j hj
    omega
  · omega
  · rw [h3, hs]
set_option maxRecDepth 100000 in
set_option maxHeartbeats 2000000 in
theorem rhexed_in (W : World) (h : ByteArray) (s : List UInt8) (hh : h.size ≤ 1000) (hsl : s.length ≤ 32) (hg : ∀ j, j < 2 * (h.data.toList.length / 2) → (G.cnt (h.data.toList[j]?.getD 0)).toNat < 16) (he : h.data.toList.length % 2 = 0) (hs : (List.range (h.data.toList.length / 2)).map (G.prs h.data.toList) = s) : Calls Tryz.prog 58 #[.string h] W fun e w' => ∃ v, e = .returned v ∧ RN w' v (N.numB s) ∧ Below W.heap.size W w' := by
  have HU : Hid (∀ w, Calls Tryz.prog 28 #[.string h] w fun e w' => e = .returned (.tuple #[.string ⟨s.toArray⟩, .bool true]) ∧ Below w.heap.size w w') := fun w => (G.runhex_in h (by omega) w).mono fun e w' ⟨h1, h2⟩ => ⟨runE_of hg he hs h1, h2⟩
  have hlt : N.numB s < N.Lim := N.lim_big 8 _ (by omega) (Nat.lt_of_lt_of_le (N.numB_lt s) (Nat.le_trans (Nat.pow_le_pow_right (by omega) hsl) (by decide)))
  have HO : Hid (∀ w, Calls Tryz.prog 31 #[.string ⟨s.toArray⟩] w fun e w' => ∃ v x, e = .returned (.tuple #[v, .int .i64 x]) ∧ RN w' v (N.numB s) ∧ Below w.heap.size w w') := fun w => (N.rof_in ⟨s.toArray⟩ (by show s.toArray.size ≤ _; simp; omega) w).mono fun e w' ⟨v, x, h1, h2, _, h3⟩ => ⟨v, x, h1, (h2 hlt).2, h3⟩
  clear hg he hs hh hsl hlt
  generalize N.numB s = Q at HO ⊢
  generalize (⟨s.toArray⟩ : ByteArray) = t at HU HO
  have F := Fm.start W
  go_enter Tryz.func58, Tryz.ntmps58
  go_wp2_with fail
  refine (HU.out _).mono ?_
  rintro e u1 ⟨rfl, hb⟩
  replace F := F.blk hb
  clear hb
  go_wp2_with fail
  refine (HO.out _).mono ?_
  rintro e u2 ⟨v, x, rfl, hr, hb⟩
  replace F := F.blk hb
  go_wp2
  go_ret
  exact ⟨v, rfl, hr, F.bel⟩
theorem rhexP (W : World) : Calls Tryz.prog 58 #[.string hexP] W fun e w' => ∃ v, e = .returned v ∧ RN w' v pP ∧ Below W.heap.size W w' := by
  have := rhexed_in W hexP hexPb (by decide) (by decide) (by decide +kernel) (by decide +kernel) (by decide +kernel)
  rwa [hexP_n] at this
theorem rhexN (W : World) : Calls Tryz.prog 58 #[.string hexN] W fun e w' => ∃ v, e = .returned v ∧ RN w' v nN ∧ Below W.heap.size W w' := by
  have := rhexed_in W hexN hexNb (by decide) (by decide) (by decide +kernel) (by decide +kernel) (by decide +kernel)
  rwa [hexN_n] at this
theorem rhexB (W : World) : Calls Tryz.prog 58 #[.string hexB] W fun e w' => ∃ v, e = .returned v ∧ RN w' v bP ∧ Below W.heap.size W w' := by
  have := rhexed_in W hexB hexBb (by decide) (by decide) (by decide +kernel) (by decide +kernel) (by decide +kernel)
  rwa [hexB_n] at this
set_option maxRecDepth 100000 in
set_option maxHeartbeats 2000000 in
theorem rprime_in (W : World)   : Calls Tryz.prog 25 #[] W fun e w' => ∃ v, e = .returned v ∧ RN w' v pP ∧ Below W.heap.size W w' := by
  have H := Hid.mk rhexP
  generalize pP = p at H ⊢
  go_enter Tryz.func25, Tryz.ntmps25
  go_wp2_with fail
  refine (H.out _).mono ?_
  rintro e u1 ⟨v, rfl, hr, hb⟩
  go_wp2
  go_ret
  exact ⟨v, rfl, hr, hb⟩
end Go.Proofs.YtpimliebiapnfaaGreatDoor
/- The document's on. -/
namespace Go.Proofs.YtpimliebiapnfaaGreatDoor
set_option linter.unusedVariables false
set_option linter.unusedSimpArgs false
open Go.RowKit N
attribute [local go_sem ↓] N.loadAt_nat N.storeAt_nat N.build_nat N.build_nat' loadAt_pt storeAt_pt build_pt0 build_pt0' build_pt'
attribute [local go_sem] N.st1 N.st2a N.st2b N.st1d N.st2ad N.st2bd N.natBuild_run ptst1 ptst1d ptBuild0_run build_pt ptBuild_run
attribute [local go_sem ↓] bin_nat bin_pt
theorem below_dn {n : Nat} (W : World) (j : Nat) : Below n W (W.drewN j) := ⟨rfl, rfl, rfl, Nat.le_refl _, fun _ _ => rfl⟩
theorem rcmp_b (W : World) (v u : Value) (A B : Nat) (hA : RN W v A) (hB : RN W u B) : Calls Tryz.prog 34 #[v, u] W fun e w' => e = .returned (.int .i64 (N.cmpI A B)) ∧ Below W.heap.size W w' :=
  (N.rcmp_in W v u A B hA hB).mono fun e w' ⟨h1, n, h2⟩ => ⟨h1, by rw [h2]; exact below_dn W n⟩
theorem cmp_ge {A B : Nat} (h : ¬ A < B) : (0 : Int) ≤ N.cmpI A B := by
  exact Int.not_lt.1 fun q => h ((cmpI_iff A B).1 q)
theorem cmp_nge {A B : Nat} (h : A < B) : ¬ (0 : Int) ≤ N.cmpI A B := Int.not_le.2 ((cmpI_iff A B).2 h)
theorem RN.drew' {w : World} {v : Value} {n : Nat} (h : RN w v n) : RN w.drew v n := RN.blk (w' := w.drew) (Below.refl w.heap.size w).drew h
theorem cmp_eq0 {A B : Nat} : (N.cmpI A B == 0) = decide (A = B) := by
  rw [Bool.eq_iff_iff, beq_iff_eq, decide_eq_true_iff]
  unfold N.cmpI Lib.compareInt
  split
  · constructor <;> intro h <;> omega
  · split <;> constructor <;> intro h <;> omega
theorem mtimes_comm (a b : Nat) : mtimes a b = mtimes b a := by unfold mtimes; rw [Nat.mul_comm]
set_option maxRecDepth 100000 in
set_option maxHeartbeats 2000000 in
theorem ron_no1 (W : World) (vp vx vy : Value) (x y : Nat) (hP : RN W vp pP) (hX : RN W vx x) (hY : RN W vy y) (h1 : ¬ x < pP) : Calls Tryz.prog 53 #[.agg #[vp], vx, vy] W fun e w' => e = .returned (.bool false) ∧ Below W.heap.size W w' := by
  obtain ⟨V, hV, F⟩ : ∃ V, W.alloc (Obj.cells #[vp] 54 (0, 0)) = V ∧ Fm W [(W.heap.size, Obj.cells #[vp] 54 (0, 0))] V := ⟨_, rfl, Fm.box1 W _⟩
  have HP := Hid.mk hP
  have HX := Hid.mk hX
  have HY := Hid.mk hY
  have c0 : V.cell? ⟨W.heap.size, 0, none⟩ = some vp := (N.cells_at (L := [vp]) (F.get 0 rfl) rfl).1
  have HC := Hid.mk (rcmp_b V vx vp x pP (RN.blk F.bel hX) (RN.blk F.bel hP))
  have hc : decide ((0 : Int) ≤ N.cmpI x pP) = true := decide_eq_true (cmp_ge h1)
  generalize N.cmpI x pP = q at HC hc
  clear hP hX hY h1
  go_enter Tryz.func53, Tryz.ntmps53
  go_wp2_with fail
  refine HC.out.mono ?_
  rintro e u1 ⟨rfl, hb⟩
  replace F := F.blk hb
  go_wp2
  go_ret
  exact ⟨rfl, F.bel⟩
set_option maxRecDepth 100000 in
set_option maxHeartbeats 2000000 in
theorem ron_no2 (W : World) (vp vx vy : Value) (x y : Nat) (hP : RN W vp pP) (hX : RN W vx x) (hY : RN W vy y) (h1 : x < pP) (h2 : ¬ y < pP) : Calls Tryz.prog 53 #[.agg #[vp], vx, vy] W fun e w' => e = .returned (.bool false) ∧ Below W.heap.size W w' := by
  obtain ⟨V, hV, F⟩ : ∃ V, W.alloc (Obj.cells #[vp] 54 (0, 0)) = V ∧ Fm W [(W.heap.size, Obj.cells #[vp] 54 (0, 0))] V := ⟨_, rfl, Fm.box1 W _⟩
  have HP := Hid.mk hP
  have HX := Hid.mk hX
  have HY := Hid.mk hY
  have c0 : V.cell? ⟨W.heap.size, 0, none⟩ = some vp := (N.cells_at (L := [vp]) (F.get 0 rfl) rfl).1
  have HC1 := Hid.mk (rcmp_b V vx vp x pP (RN.blk F.bel hX) (RN.blk F.bel hP))
  have hc1 : decide ((0 : Int) ≤ N.cmpI x pP) = false := decide_eq_false (cmp_nge h1)
  generalize N.cmpI x pP = q1 at HC1 hc1
  have HC2 : Hid (∀ w, RN w vy y → RN w vp pP → Calls Tryz.prog 34 #[vy, vp] w fun e w' => e = .returned (.int .i64 (N.cmpI y pP)) ∧ Below w.heap.size w w') := fun w h k => rcmp_b w vy vp y pP h k
  have hc2 : decide ((0 : Int) ≤ N.cmpI y pP) = true := decide_eq_true (cmp_ge h2)
  generalize N.cmpI y pP = q2 at HC2 hc2
  clear hP hX hY h1 h2
  obtain ⟨pp, hpp⟩ : ∃ q, pP = q := ⟨_, rfl⟩
  rw [hpp] at HP HC2
  clear hpp
  go_enter Tryz.func53, Tryz.ntmps53
  go_wp2_with fail
  refine HC1.out.mono ?_
  rintro e u1 ⟨rfl, hb⟩
  replace F := F.blk hb
  clear hb c0
  have c0 : u1.cell? ⟨W.heap.size, 0, none⟩ = some vp := (N.cells_at (L := [vp]) (F.get 0 rfl) rfl).1
  go_wp2_with fail
  refine (HC2.out _ (RN.blk F.bel HY.out) (RN.blk F.bel HP.out)).mono ?_
  rintro e u2 ⟨rfl, hb⟩
  replace F := F.blk hb
  clear hb c0
  go_wp2
  go_ret
  exact ⟨rfl, F.bel⟩
set_option maxRecDepth 100000 in
set_option maxHeartbeats 2000000 in
theorem ron_yes (W : World) (vp vx vy : Value) (x y : Nat) (hP : RN W vp pP) (hX : RN W vx x) (hY : RN W vy y) (h1 : x < pP) (h2 : y < pP) : Calls Tryz.prog 53 #[.agg #[vp], vx, vy] W fun e w' => e = .returned (.bool (onN x y)) ∧ Below W.heap.size W w' := by
  obtain ⟨x2, E_x2⟩ : ∃ R, Hid (mtimes x x = R) := ⟨_, Hid.mk rfl⟩
  have b_x2 : x2 < pP := by rw [← E_x2.out]; exact mtimes_lt _ _
  obtain ⟨x3, E_x3⟩ : ∃ R, Hid (mtimes x2 x = R) := ⟨_, Hid.mk rfl⟩
  have b_x3 : x3 < pP := by rw [← E_x3.out]; exact mtimes_lt _ _
  obtain ⟨y2, E_y2⟩ : ∃ R, Hid (mtimes y y = R) := ⟨_, Hid.mk rfl⟩
  have b_y2 : y2 < pP := by rw [← E_y2.out]; exact mtimes_lt _ _
  obtain ⟨t3, E_t3⟩ : ∃ R, Hid (mtimes 3 x = R) := ⟨_, Hid.mk rfl⟩
  have b_t3 : t3 < pP := by rw [← E_t3.out]; exact mtimes_lt _ _
  obtain ⟨d1, E_d1⟩ : ∃ R, Hid (mminus x3 t3 = R) := ⟨_, Hid.mk rfl⟩
  have b_d1 : d1 < pP := by rw [← E_d1.out]; exact mminus_lt b_x3 b_t3
  obtain ⟨r, E_r⟩ : ∃ R, Hid (mplus d1 bP = R) := ⟨_, Hid.mk rfl⟩
  have b_r : r < pP := by rw [← E_r.out]; exact mplus_lt b_d1 (show bP < pP by decide)
  have hfin : onN x y = decide (y2 = r) := by unfold onN; rw [mtimes_comm x (mtimes x x), mtimes_comm x 3, E_x2.out, E_x3.out, E_y2.out, E_t3.out, E_d1.out, E_r.out]
  rw [hfin]
  clear hfin
  obtain ⟨V, hV, F⟩ : ∃ V, W.alloc (Obj.cells #[vp] 54 (0, 0)) = V ∧ Fm W [(W.heap.size, Obj.cells #[vp] 54 (0, 0))] V := ⟨_, rfl, Fm.box1 W _⟩
  have HP := Hid.mk hP
  have HX := Hid.mk hX
  have HY := Hid.mk hY
  have c0 : V.cell? ⟨W.heap.size, 0, none⟩ = some vp := (N.cells_at (L := [vp]) (F.get 0 rfl) rfl).1
  have HC1 := Hid.mk (rcmp_b V vx vp x pP (RN.blk F.bel hX) (RN.blk F.bel hP))
  have hc1 : decide ((0 : Int) ≤ N.cmpI x pP) = false := decide_eq_false (cmp_nge h1)
  generalize N.cmpI x pP = q1 at HC1 hc1
  have HC2 : Hid (∀ w, RN w vy y → RN w vp pP → Calls Tryz.prog 34 #[vy, vp] w fun e w' => e = .returned (.int .i64 (N.cmpI y pP)) ∧ Below w.heap.size w w') := fun w h k => rcmp_b w vy vp y pP h k
  have hc2 : decide ((0 : Int) ≤ N.cmpI y pP) = false := decide_eq_false (cmp_nge h2)
  generalize N.cmpI y pP = q2 at HC2 hc2
  have HHB := Hid.mk rhexB
  have HSm : Hid (∀ w, Calls Tryz.prog 57 #[.int .u64 3] w fun e w' => ∃ v, e = .returned v ∧ RN w' v 3 ∧ Below w.heap.size w w') := fun w => rfSmall w 3 (by omega)
  have HCE : Hid (∀ w v u, RN w v y2 → RN w u r → Calls Tryz.prog 34 #[v, u] w fun e w' => e = .returned (.int .i64 (N.cmpI y2 r)) ∧ Below w.heap.size w w') := fun w v u h k => rcmp_b w v u y2 r h k
  have hce : (N.cmpI y2 r == 0) = decide (y2 = r) := cmp_eq0
  generalize decide (y2 = r) = D at hce ⊢
  generalize N.cmpI y2 r = q3 at HCE hce
  have H1 : Hid (∀ w va vb, RN w vp pP → RN w va x → RN w vb x → Calls Tryz.prog 37 #[.agg #[vp], va, vb] w fun e w' => ∃ v, e = .returned v ∧ RN w' v x2 ∧ Below w.heap.size w w') := fun w va vb h k l => (rfMul w vp va vb x x h k l h1 h1).mono fun e w' ⟨v, q1, q2, q3⟩ => ⟨v, q1, by rw [← E_x2.out]; exact q2, q3⟩
  have H2 : Hid (∀ w va vb, RN w vp pP → RN w va x2 → RN w vb x → Calls Tryz.prog 37 #[.agg #[vp], va, vb] w fun e w' => ∃ v, e = .returned v ∧ RN w' v x3 ∧ Below w.heap.size w w') := fun w va vb h k l => (rfMul w vp va vb x2 x h k l b_x2 h1).mono fun e w' ⟨v, q1, q2, q3⟩ => ⟨v, q1, by rw [← E_x3.out]; exact q2, q3⟩
  have H4 : Hid (∀ w va vb, RN w vp pP → RN w va 3 → RN w vb x → Calls Tryz.prog 37 #[.agg #[vp], va, vb] w fun e w' => ∃ v, e = .returned v ∧ RN w' v t3 ∧ Below w.heap.size w w') := fun w va vb h k l => (rfMul w vp va vb 3 x h k l (show 3 < pP by decide) h1).mono fun e w' ⟨v, q1, q2, q3⟩ => ⟨v, q1, by rw [← E_t3.out]; exact q2, q3⟩
  have H5 : Hid (∀ w va vb, RN w vp pP → RN w va x3 → RN w vb t3 → Calls Tryz.prog 55 #[.agg #[vp], va, vb] w fun e w' => ∃ v, e = .returned v ∧ RN w' v d1 ∧ Below w.heap.size w w') := fun w va vb h k l => (rfSub w vp va vb x3 t3 h k l b_x3 b_t3).mono fun e w' ⟨v, q1, q2, q3⟩ => ⟨v, q1, by rw [← E_d1.out]; exact q2, q3⟩
  have H6 : Hid (∀ w va vb, RN w vp pP → RN w va d1 → RN w vb bP → Calls Tryz.prog 56 #[.agg #[vp], va, vb] w fun e w' => ∃ v, e = .returned v ∧ RN w' v r ∧ Below w.heap.size w w') := fun w va vb h k l => (rfAdd w vp va vb d1 bP h k l b_d1 (show bP < pP by decide)).mono fun e w' ⟨v, q1, q2, q3⟩ => ⟨v, q1, by rw [← E_r.out]; exact q2, q3⟩
  have H7 : Hid (∀ w va vb, RN w vp pP → RN w va y → RN w vb y → Calls Tryz.prog 37 #[.agg #[vp], va, vb] w fun e w' => ∃ v, e = .returned v ∧ RN w' v y2 ∧ Below w.heap.size w w') := fun w va vb h k l => (rfMul w vp va vb y y h k l h2 h2).mono fun e w' ⟨v, q1, q2, q3⟩ => ⟨v, q1, by rw [← E_y2.out]; exact q2, q3⟩
  generalize bP = bq at HHB H6
  clear hP hX hY h1 h2 b_x2 b_x3 b_y2 b_t3 b_d1 b_r E_x2 E_x3 E_y2 E_t3 E_d1 E_r
  obtain ⟨pp, hpp⟩ : ∃ q, pP = q := ⟨_, rfl⟩
  rw [hpp] at HP HC2 H1 H2 H4 H5 H6 H7
  clear hpp
  go_enter Tryz.func53, Tryz.ntmps53
  go_wp2_with fail
  refine HC1.out.mono ?_
  rintro e u1 ⟨rfl, hb⟩
  replace F := F.blk hb
  clear hb c0
  have c0 : u1.cell? ⟨W.heap.size, 0, none⟩ = some vp := (N.cells_at (L := [vp]) (F.get 0 rfl) rfl).1
  go_wp2_with fail
  refine (HC2.out _ (RN.blk F.bel HY.out) (RN.blk F.bel HP.out)).mono ?_
  rintro e u2 ⟨rfl, hb⟩
  replace F := F.blk hb
  clear hb c0
  go_wp2_with fail
  refine (HHB.out _).mono ?_
  rintro e u3 ⟨vb, rfl, rb, hb⟩
  replace F := F.blk hb
  clear hb
  go_upto_region 4 with fail
  obtain ⟨L, hL⟩ : ∃ L : List (Nat × Obj), [(W.heap.size, Obj.cells #[vp] 54 (0, 0))] = L := ⟨_, rfl⟩
  rw [hL] at F
  have HS : Hid (∀ w, Fm W L w → Fm W L w ∧ w.cell? ⟨W.heap.size, 0, none⟩ = some vp) := fun w h => ⟨h, (N.cells_at (L := [vp]) (h.get 0 (by rw [← hL]; rfl)) rfl).1⟩
  have hS0 := HS.out _ F
  clear hV
  have r1 := RN.drew' rb
  go_region_held3 (fun w => Fm W L w ∧ w.cell? ⟨W.heap.size, 0, none⟩ = some vp)
    (first | assumption | (apply HS.out; repeat (first | assumption | apply Fm.drew | apply Fz.drew | apply Fq.drew | apply Fm.alloc)))
    (first
      | (go_at_call 37; with_reducible refine (H1.out _ _ _ (RN.blk (Fm.bel (by repeat (first | assumption | apply Fm.drew | apply Fz.drew | apply Fq.drew | apply Fm.alloc))) HP.out) (RN.blk (Fm.bel (by repeat (first | assumption | apply Fm.drew | apply Fz.drew | apply Fq.drew | apply Fm.alloc))) HX.out) (RN.blk (Fm.bel (by repeat (first | assumption | apply Fm.drew | apply Fz.drew | apply Fq.drew | apply Fm.alloc))) HX.out)).mono ?_; rintro e w2 ⟨v2, rfl, r2, hb2⟩; have F2 := Fm.blk (by repeat (first | assumption | apply Fm.drew | apply Fz.drew | apply Fq.drew | apply Fm.alloc)) hb2; have hs2 := HS.out _ F2; have r1 := RN.blk hb2 r1)
      | (go_at_call 37; with_reducible refine (H2.out _ _ _ (RN.blk (Fm.bel (by repeat (first | assumption | apply Fm.drew | apply Fz.drew | apply Fq.drew | apply Fm.alloc))) HP.out) r2 (RN.blk (Fm.bel (by repeat (first | assumption | apply Fm.drew | apply Fz.drew | apply Fq.drew | apply Fm.alloc))) HX.out)).mono ?_; rintro e w3 ⟨v3, rfl, r3, hb3⟩; have F3 := Fm.blk (by repeat (first | assumption | apply Fm.drew | apply Fz.drew | apply Fq.drew | apply Fm.alloc)) hb3; have hs3 := HS.out _ F3; have r1 := RN.blk hb3 r1)
      | (go_at_call 57; with_reducible refine (HSm.out _).mono ?_; rintro e w4 ⟨v4, rfl, r4, hb4⟩; have F4 := Fm.blk (by repeat (first | assumption | apply Fm.drew | apply Fz.drew | apply Fq.drew | apply Fm.alloc)) hb4; have hs4 := HS.out _ F4; have r1 := RN.blk hb4 r1; have r3 := RN.blk hb4 r3)
      | (go_at_call 37; with_reducible refine (H4.out _ _ _ (RN.blk (Fm.bel (by repeat (first | assumption | apply Fm.drew | apply Fz.drew | apply Fq.drew | apply Fm.alloc))) HP.out) r4 (RN.blk (Fm.bel (by repeat (first | assumption | apply Fm.drew | apply Fz.drew | apply Fq.drew | apply Fm.alloc))) HX.out)).mono ?_; rintro e w5 ⟨v5, rfl, r5, hb5⟩; have F5 := Fm.blk (by repeat (first | assumption | apply Fm.drew | apply Fz.drew | apply Fq.drew | apply Fm.alloc)) hb5; have hs5 := HS.out _ F5; have r1 := RN.blk hb5 r1; have r3 := RN.blk hb5 r3)
      | (go_at_call 55; with_reducible refine (H5.out _ _ _ (RN.blk (Fm.bel (by repeat (first | assumption | apply Fm.drew | apply Fz.drew | apply Fq.drew | apply Fm.alloc))) HP.out) r3 r5).mono ?_; rintro e w6 ⟨v6, rfl, r6, hb6⟩; have F6 := Fm.blk (by repeat (first | assumption | apply Fm.drew | apply Fz.drew | apply Fq.drew | apply Fm.alloc)) hb6; have hs6 := HS.out _ F6; have r1 := RN.blk hb6 r1)
      | (go_at_call 56; with_reducible refine (H6.out _ _ _ (RN.blk (Fm.bel (by repeat (first | assumption | apply Fm.drew | apply Fz.drew | apply Fq.drew | apply Fm.alloc))) HP.out) r6 r1).mono ?_; rintro e w7 ⟨v7, rfl, r7, hb7⟩; have F7 := Fm.blk (by repeat (first | assumption | apply Fm.drew | apply Fz.drew | apply Fq.drew | apply Fm.alloc)) hb7; have hs7 := HS.out _ F7))
  rw [← hL] at F7
  clear hS0 HS
  have F := F7
  have c0 : w7.cell? ⟨W.heap.size, 0, none⟩ = some vp := (N.cells_at (L := [vp]) (F.get 0 rfl) rfl).1
  go_wp2_with fail
  refine (H7.out _ _ _ (RN.blk F.bel HP.out) (RN.blk F.bel HY.out) (RN.blk F.bel HY.out)).mono ?_
  rintro e u8 ⟨v8, rfl, r8, hb8⟩
  replace F := F.blk hb8
  replace r7 := RN.blk hb8 r7
  clear c0 hb8
  go_wp2_with fail
  refine (HCE.out _ _ _ r8 r7).mono ?_
  rintro e u9 ⟨rfl, hb9⟩
  replace F := F.blk hb9
  go_wp2
  go_ret
  exact ⟨by rw [← hce]; rfl, F.bel⟩
end Go.Proofs.YtpimliebiapnfaaGreatDoor
/- The document's read, tell, On, Base. -/
namespace Go.Proofs.YtpimliebiapnfaaGreatDoor
set_option linter.unusedVariables false
set_option linter.unusedSimpArgs false
open Go.RowKit N
attribute [local go_sem ↓] N.loadAt_nat N.storeAt_nat N.build_nat N.build_nat' loadAt_pt storeAt_pt build_pt0 build_pt0' build_pt'
attribute [local go_sem] N.st1 N.st2a N.st2b N.st1d N.st2ad N.st2bd N.natBuild_run ptst1 ptst1d ptBuild0_run build_pt ptBuild_run
attribute [local go_sem ↓] bin_nat bin_pt
def PtD (w : World) (vx vy : Value) (nb : Bool) (p : Ec) : Prop := match p.o with
  | none => nb = true
  | some q => nb = false ∧ RN w vx q.x.val ∧ RN w vy q.y.val
theorem PtD.blk {w w' : World} {vx vy : Value} {nb : Bool} {p : Ec} (hb : Below w.heap.size w w') (h : PtD w vx vy nb p) : PtD w' vx vy nb p := by
  unfold PtD at *
  cases ho : p.o with
  | none => rw [ho] at h; exact h
  | some q => rw [ho] at h; exact ⟨h.1, RN.blk hb h.2.1, RN.blk hb h.2.2⟩
theorem rof_ok (s : ByteArray) (hs : s.size ≤ 32) (W : World) : Calls Tryz.prog 31 #[.string s] W fun e w' => ∃ v x, e = .returned (.tuple #[v, .int .i64 x]) ∧ RN w' v (N.numB s.data.toList) ∧ Below W.heap.size W w' :=
  (N.rof_in s (by omega) W).mono fun e w' ⟨v, x, h1, h2, _, h3⟩ => ⟨v, x, h1, (h2 (numB_32 s hs)).2, h3⟩
def pdStore (a x : Value) : Sem Unit := Instr.storeAt 47 a x
theorem storeAt_pd (a x : Value) : Instr.storeAt 47 a x = pdStore a x := rfl
def pdLoad (a : Value) : Sem Value := Instr.loadAt 47 a
theorem loadAt_pd (a : Value) : Instr.loadAt 47 a = pdLoad a := rfl
theorem sizePd : (Tryz.prog.info? 47).map (·.size) = some 3 := by kernel_rfl
theorem pdStore_run {W : World} {b : Nat} {x y z x' y' z' : Value} (h : W.heap[b]? = some (.cells #[x, y, z] 47 (0, 0))) (h1 : x'.oneCell' = true) (h2 : y'.oneCell' = true) (h3 : z'.oneCell' = true) : (pdStore (.pointer (some ⟨b, 0, none⟩)) (.agg #[x', y', z'])).run Tryz.prog W = .ok () (W.setRow b #[x', y', z']) := by
  unfold pdStore
  simp only [Instr.storeAt, Instr.sureAddr, Sem.run_bind, Sem.run_pure, Result.andThen]
  exact run_storeVar_row W b _ _ _ _ h sizePd rfl (by simp [h1, h2, h3])
theorem pd_loadV {W : World} {b : Nat} {x y z : Value} (h : W.heap[b]? = some (.cells #[x, y, z] 47 (0, 0))) : (loadVar 47 ⟨b, 0, none⟩).run Tryz.prog W = .ok (.agg #[x, y, z]) W :=
  run_loadVar_row W b _ _ _ (0, 0) _ h Tryz.underlying47 rfl sizePd
theorem pdLoad_run {W : World} {b : Nat} {x y z : Value} (h : W.heap[b]? = some (.cells #[x, y, z] 47 (0, 0))) : (pdLoad (.pointer (some ⟨b, 0, none⟩))).run Tryz.prog W = .ok (.agg #[x, y, z]) W := by
  unfold pdLoad
  simp only [Instr.loadAt, Instr.sureAddr, Sem.run_bind, Sem.run_pure, Result.andThen]
  exact pd_loadV h
theorem results_pd_tmp {fn : Func} {p u : Tmp} (h : fn.results = #[.cell p 47, .tmp u]) {tmps : Array Value} {W : World} {b : Nat} {x y z v : Value} (hp : tmps.getD p undef = .pointer (some ⟨b, 0, none⟩)) (hv : tmps.getD u undef = v) (hb : W.heap[b]? = some (.cells #[x, y, z] 47 (0, 0))) : (results fn tmps).run Tryz.prog W = .ok (.tuple #[.agg #[x, y, z], v]) W := by
  have hp' : tmps[p]?.getD undef = .pointer (some ⟨b, 0, none⟩) := by simpa using hp
  have hv' : tmps[u]?.getD undef = v := by simpa using hv
  simp only [results, h]
  simp [hp', hv', asAddr, pd_loadV hb]
theorem results_pd {fn : Func} {p : Tmp} (h : fn.results = #[.cell p 47]) {tmps : Array Value} {W : World} {b : Nat} {x y z : Value} (hp : tmps.getD p undef = .pointer (some ⟨b, 0, none⟩)) (hb : W.heap[b]? = some (.cells #[x, y, z] 47 (0, 0))) : (results fn tmps).run Tryz.prog W = .ok (.agg #[x, y, z]) W := by
  have hp' : tmps[p]?.getD undef = .pointer (some ⟨b, 0, none⟩) := by simpa using hp
  simp only [results, h]
  simp [hp', asAddr, pd_loadV hb]
attribute [local go_sem ↓] storeAt_pd loadAt_pd
theorem rn_row {w : World} {v : Value} {n b : Nat} {L x : Array Value} (h : RN w v n) (hb : w.heap[b]? = some (.cells L 47 (0, 0))) : RN (w.setRow b x) v n := by
  obtain ⟨ds, ⟨h1, ⟨h2, h3⟩ | ⟨g', cap, cur, h2, h3, h4, h5, h6, h7, h8⟩⟩, hv, ht⟩ := h
  · exact ⟨ds, ⟨h1, .inl ⟨h2, h3⟩⟩, hv, ht⟩
  · have hg : g' ≠ b := fun e => by
      subst e
      have := h4.symm.trans hb
      simp at this
    exact ⟨ds, ⟨h1, .inr ⟨g', cap, cur, h2, h3, (setRow_other _ _ _ _ hg).trans h4, h5, h6, h7, h8⟩⟩, hv, ht⟩
theorem hi_no {s : ByteArray} (h : (ptOf s).2 = false) (h64 : s.size = 64) : ¬ hiN s < pP ∨ ¬ loN s < pP ∨ onN (hiN s) (loN s) = false := by
  unfold ptOf at h
  rw [if_neg (by omega), if_neg (not_not_intro h64)] at h
  by_cases hx : hiN s < pP
  · rw [if_pos hx] at h
    by_cases hy : loN s < pP
    · rw [if_pos hy] at h
      by_cases ho : onN (hiN s) (loN s) = true
      · rw [if_pos ho] at h; cases h
      · exact .inr (.inr (by simpa using ho))
    · exact .inr (.inl hy)
  · exact .inl hx
set_option maxRecDepth 100000 in
set_option maxHeartbeats 2000000 in
theorem read_0 (W : World)   : Calls Tryz.prog 22 #[.string ⟨#[]⟩] W fun e w' => e = .returned (.tuple #[.agg #[.slice none 0 0, .slice none 0 0, .bool true], .bool true]) ∧ Below W.heap.size W w' := by
  obtain ⟨V, hV, F⟩ : ∃ V, W.alloc (Obj.cells #[.slice none 0 0, .slice none 0 0, .bool false] 47 (0, 0)) = V ∧ Fm W [(W.heap.size, Obj.cells #[.slice none 0 0, .slice none 0 0, .bool false] 47 (0, 0))] V := ⟨_, rfl, Fm.box1 W _⟩
  have s2 := pdStore_run (x' := .slice none 0 0) (y' := .slice none 0 0) (z' := .bool true) (F.get 0 rfl) rfl rfl rfl
  have F4 := F.put 0 #[.slice none 0 0, .slice none 0 0, .bool true] rfl
  go_enter Tryz.func22, Tryz.ntmps22
  go_wp2
  exact bodyPost_ret (results_pd_tmp Tryz.results22 rfl rfl (F4.get 0 rfl)) rfl ⟨rfl, F4.bel⟩
set_option maxRecDepth 100000 in
set_option maxHeartbeats 2000000 in
theorem read_n (W : World) (s : ByteArray) (h : s.size ≠ 0) (h2 : s.size ≠ 64) : Calls Tryz.prog 22 #[.string s] W fun e w' => e = .returned (.tuple #[.agg #[.slice none 0 0, .slice none 0 0, .bool false], .bool false]) ∧ Below W.heap.size W w' := by
  have he : s.toList.isEmpty = false := by
    rw [Bool.eq_false_iff]
    intro e
    exact h (by rw [← size_list, ← ByteArray.toList_eq, List.isEmpty_iff.1 e]; rfl)
  have he2 : ((s.size : Int) != 64) = true := by simp; omega
  clear h h2
  obtain ⟨V, hV, F⟩ : ∃ V, W.alloc (Obj.cells #[.slice none 0 0, .slice none 0 0, .bool false] 47 (0, 0)) = V ∧ Fm W [(W.heap.size, Obj.cells #[.slice none 0 0, .slice none 0 0, .bool false] 47 (0, 0))] V := ⟨_, rfl, Fm.box1 W _⟩
  have s2 := pdStore_run (x' := .slice none 0 0) (y' := .slice none 0 0) (z' := .bool false) (F.get 0 rfl) rfl rfl rfl
  have F4 := F.put 0 #[.slice none 0 0, .slice none 0 0, .bool false] rfl
  go_enter Tryz.func22, Tryz.ntmps22
  go_wp2
  exact bodyPost_ret (results_pd_tmp Tryz.results22 rfl rfl (F4.get 0 rfl)) rfl ⟨rfl, F4.bel⟩
set_option maxRecDepth 100000 in
set_option maxHeartbeats 2000000 in
theorem read_64 (W : World) (s : ByteArray) (D : Bool) (h : s.size = 64) (hon : ∀ w vp vx vy, RN w vp pP → RN w vx (hiN s) → RN w vy (loN s) → Calls Tryz.prog 53 #[.agg #[vp], vx, vy] w fun e w' => e = .returned (.bool D) ∧ Below w.heap.size w w') : Calls Tryz.prog 22 #[.string s] W fun e w' => ∃ vx vy, e = .returned (.tuple #[.agg #[vx, vy, .bool false], .bool D]) ∧ RN w' vx (hiN s) ∧ RN w' vy (loN s) ∧ Below W.heap.size W w' := by
  have he : s.toList.isEmpty = false := by
    rw [Bool.eq_false_iff]
    intro e
    have : s.size = 0 := by rw [← size_list, ← ByteArray.toList_eq, List.isEmpty_iff.1 e]; rfl
    omega
  have he2 : ((s.size : Int) != 64) = false := by simp; omega
  have hi1 : (32 : Int) ≤ (s.size : Int) := by omega
  have hi2 : (0 : Int) ≤ (s.size : Int) := by omega
  have HX := Hid.mk (rof_ok (s.extract 0 32) (by rw [ByteArray.size_extract]; omega))
  have HY := Hid.mk (rof_ok (s.extract 32 s.size) (by rw [ByteArray.size_extract]; omega))
  rw [show N.numB (s.extract 0 32).data.toList = hiN s from rfl] at HX
  rw [show N.numB (s.extract 32 s.size).data.toList = loN s from rfl] at HY
  have HN := Hid.mk hon
  have HPr := Hid.mk rprime_in
  clear hon h
  generalize hiN s = x at *
  generalize loN s = y at *
  obtain ⟨pp, hpp⟩ : ∃ q, pP = q := ⟨_, rfl⟩
  rw [hpp] at HN HPr
  clear hpp
  obtain ⟨V, hV, F⟩ : ∃ V, W.alloc (Obj.cells #[.slice none 0 0, .slice none 0 0, .bool false] 47 (0, 0)) = V ∧ Fm W [(W.heap.size, Obj.cells #[.slice none 0 0, .slice none 0 0, .bool false] 47 (0, 0))] V := ⟨_, rfl, Fm.box1 W _⟩
  go_enter Tryz.func22, Tryz.ntmps22
  go_wp2_with fail
  refine (HX.out _).mono ?_
  rintro e u1 ⟨vx, e1, rfl, rx, hb⟩
  replace F := F.blk hb
  clear hb hV
  go_wp2_with fail
  refine (HY.out _).mono ?_
  rintro e u2 ⟨vy, e2, rfl, ry, hb⟩
  replace F := F.blk hb
  replace rx := RN.blk hb rx
  clear hb
  go_wp2_with fail
  refine (HPr.out _).mono ?_
  rintro e u3 ⟨vp, rfl, rp, hb⟩
  replace F := F.blk hb
  replace rx := RN.blk hb rx
  replace ry := RN.blk hb ry
  clear hb
  obtain ⟨p1, k1, rfl⟩ := rx.sl
  obtain ⟨p2, k2, rfl⟩ := ry.sl
  obtain ⟨p3, k3, rfl⟩ := rp.sl
  go_wp2_with fail
  refine (HN.out _ _ _ _ rp rx ry).mono ?_
  rintro e u4 ⟨rfl, hb⟩
  replace F := F.blk hb
  replace rx := RN.blk hb rx
  replace ry := RN.blk hb ry
  clear hb rp
  have s2 := pdStore_run (x' := .slice p1 (N.mny x) k1) (y' := .slice p2 (N.mny y) k2) (z' := .bool false) (F.get 0 rfl) rfl rfl rfl
  have F4 := F.put 0 #[.slice p1 (N.mny x) k1, .slice p2 (N.mny y) k2, .bool false] rfl
  go_wp2
  exact bodyPost_ret (results_pd_tmp Tryz.results22 rfl rfl (F4.get 0 rfl)) rfl ⟨_, _, rfl, rn_row rx (F.get 0 rfl), rn_row ry (F.get 0 rfl), F4.bel⟩
theorem hilo (p : Ec) {q : Pt} (h : p.o = some q) : (tellE p).size = 64 ∧ hiN (tellE p) = q.x.val ∧ loN (tellE p) = q.y.val ∧ onN q.x.val q.y.val = true := by
  obtain ⟨po, hon⟩ := p
  simp only at h
  subst h
  have z1 := bys_32 q.x.val
  have z2 := bys_32 q.y.val
  refine ⟨?_, ?_, ?_, ?_⟩
  · show ((⟨(N.bys q.x.val 32).toArray⟩ : ByteArray) ++ ⟨(N.bys q.y.val 32).toArray⟩).size = 64
    rw [app_size, z1, z2]
  · unfold hiN
    show N.numB (((⟨(N.bys q.x.val 32).toArray⟩ : ByteArray) ++ ⟨(N.bys q.y.val 32).toArray⟩).extract 0 32).data.toList = _
    rw [ext_l _ _ 32 z1]
    show N.numB (N.bys q.x.val 32) = _
    rw [N.numB_bys, Nat.mod_eq_of_lt (lt_p256 q.x.isLt)]
  · unfold loN
    show N.numB (((⟨(N.bys q.x.val 32).toArray⟩ : ByteArray) ++ ⟨(N.bys q.y.val 32).toArray⟩).extract 32 ((⟨(N.bys q.x.val 32).toArray⟩ : ByteArray) ++ ⟨(N.bys q.y.val 32).toArray⟩).size).data.toList = _
    rw [ext_r _ _ 32 z1]
    show N.numB (N.bys q.y.val 32) = _
    rw [N.numB_bys, Nat.mod_eq_of_lt (lt_p256 q.y.isLt)]
  · rw [onN_iff q.x.isLt q.y.isLt, fz_val, fz_val]
    exact hon
theorem read_yes (p : Ec) (W : World) : Calls Tryz.prog 22 #[.string (tellE p)] W fun e w' => ∃ vx vy nb, e = .returned (.tuple #[.agg #[vx, vy, .bool nb], .bool true]) ∧ vx.oneCell' = true ∧ vy.oneCell' = true ∧ PtD w' vx vy nb p ∧ Below W.heap.size W w' := by
  cases hp : p.o with
  | none =>
    have e : p = Ec.zero := Ec.ext2 hp
    subst e
    exact (read_0 W).mono fun e w' ⟨h1, h2⟩ => ⟨_, _, true, h1, rfl, rfl, rfl, h2⟩
  | some q =>
    obtain ⟨h1, h2, h3, h4⟩ := hilo p hp
    refine (read_64 W (tellE p) true h1 fun w vp vx vy k1 k2 k3 => ?_).mono fun e w' ⟨vx, vy, g1, g2, g3, g4⟩ => ?_
    · rw [h2] at k2
      rw [h3] at k3
      have := ron_yes w vp vx vy _ _ k1 k2 k3 q.x.isLt q.y.isLt
      rwa [h4] at this
    · rw [h2] at g2
      rw [h3] at g3
      obtain ⟨a1, a2, rfl⟩ := g2.sl
      obtain ⟨b1, b2, rfl⟩ := g3.sl
      refine ⟨_, _, false, g1, rfl, rfl, ?_, g4⟩
      unfold PtD
      rw [hp]
      exact ⟨rfl, g2, g3⟩
theorem read_no (s : ByteArray) (h : (ptOf s).2 = false) (W : World) : Calls Tryz.prog 22 #[.string s] W fun e w' => ∃ vx vy nb, e = .returned (.tuple #[.agg #[vx, vy, .bool nb], .bool false]) ∧ vx.oneCell' = true ∧ vy.oneCell' = true ∧ Below W.heap.size W w' := by
  have h0 : s.size ≠ 0 := fun e => by
    unfold ptOf at h
    rw [if_pos e] at h
    cases h
  by_cases h64 : s.size = 64
  · refine (read_64 W s false h64 fun w vp vx vy k1 k2 k3 => ?_).mono fun e w' ⟨vx, vy, g1, g2, g3, g4⟩ => ?_
    · rcases hi_no h h64 with hx | hy | ho
      · exact ron_no1 w vp vx vy _ _ k1 k2 k3 hx
      · by_cases hx : hiN s < pP
        · exact ron_no2 w vp vx vy _ _ k1 k2 k3 hx hy
        · exact ron_no1 w vp vx vy _ _ k1 k2 k3 hx
      · by_cases hx : hiN s < pP
        · by_cases hy : loN s < pP
          · have := ron_yes w vp vx vy _ _ k1 k2 k3 hx hy
            rwa [ho] at this
          · exact ron_no2 w vp vx vy _ _ k1 k2 k3 hx hy
        · exact ron_no1 w vp vx vy _ _ k1 k2 k3 hx
    · obtain ⟨a1, a2, rfl⟩ := g2.sl
      obtain ⟨b1, b2, rfl⟩ := g3.sl
      exact ⟨_, _, false, g1, rfl, rfl, g4⟩
  · exact (read_n W s h0 h64).mono fun e w' ⟨h1, h2⟩ => ⟨_, _, false, h1, rfl, rfl, h2⟩
end Go.Proofs.YtpimliebiapnfaaGreatDoor
/- On, Sum, Times, Base: in terms of the curve's points. -/
namespace Go.Proofs.YtpimliebiapnfaaGreatDoor
set_option linter.unusedVariables false
set_option linter.unusedSimpArgs false
open Go.RowKit N
attribute [local go_sem ↓] N.loadAt_nat N.storeAt_nat N.build_nat N.build_nat' loadAt_pt storeAt_pt build_pt0 build_pt0' build_pt'
attribute [local go_sem] N.st1 N.st2a N.st2b N.st1d N.st2ad N.st2bd N.natBuild_run ptst1 ptst1d ptBuild0_run build_pt ptBuild_run
attribute [local go_sem ↓] bin_nat bin_pt
set_option maxRecDepth 100000 in
set_option maxHeartbeats 2000000 in
theorem base_in  (W : World)  : Calls Tryz.prog 11 #[] W fun e w' => e = .returned (.string (tellE ecG)) ∧ Below W.heap.size W w' := by
  have HU := Hid.mk (G.unhex_yes hexG (by decide) hexGb hexG_u)
  rw [base_tell] at HU
  generalize tellE ecG = t at HU ⊢
  go_enter Tryz.func11, Tryz.ntmps11
  go_wp2_with fail
  refine (HU.out _).mono ?_
  rintro e u1 ⟨rfl, hb⟩
  go_wp2
  go_ret
  exact ⟨rfl, hb⟩
set_option maxRecDepth 100000 in
set_option maxHeartbeats 2000000 in
theorem on_yes (p : Ec) (W : World) (hp : p ≠ Ec.zero) : Calls Tryz.prog 10 #[.string (tellE p)] W fun e w' => e = .returned (.bool true) ∧ Below W.heap.size W w' := by
  obtain ⟨h1, h2, h3⟩ := ptOf_tell p
  have HN : Hid (∀ w, Calls Tryz.prog 26 #[.agg (ptL (ptOf (tellE p)).1).toArray] w fun e w' => e = .returned (.bool false) ∧ Below w.heap.size w w') := fun w => (nowhere_in _ h2.lm w).mono fun e w' ⟨he, hb⟩ => ⟨by rw [he]; exact congrArg (fun x => Ending.returned (.bool x)) (decide_eq_false fun e => hp (Ec.ext2 (by cases ho : p.o with | none => rfl | some q => (rw [ho, e] at h3; exact absurd fz_0 h3.1)))), hb⟩
  have HO : Hid (∀ (c mp mn : Nat) w, Cv w c mp mn → Calls Tryz.prog 19 #[boxM c, .string (tellE p)] w fun e w' => e = .returned (.tuple #[.agg (ptL (ptOf (tellE p)).1).toArray, .bool true]) ∧ Below w.heap.size w w') := fun c mp mn w h => by
    have := pointOf_in (tellE p) w h
    rwa [h1] at this
  generalize (ptOf (tellE p)).1 = a at HN HO
  generalize tellE p = s at HO ⊢
  clear h1 h2 h3 hp
  have HP := Hid.mk p256_in
  have hzp := zeroPt
  have F := Fm.start W
  go_enter Tryz.func10, Tryz.ntmps10
  go_wp2_with fail
  refine (HP.out _).mono ?_
  rintro e u0 ⟨c, mp, mn, rfl, C, hb⟩
  replace F := F.blk hb
  clear hb HP
  go_wp2_with fail
  refine (HO.out _ _ _ _ C).mono ?_
  rintro e u1 ⟨rfl, hb⟩
  replace F := F.blk hb
  clear hb
  go_upto_region 2 with fail
  replace F := F.new (Obj.cells (ptL a).toArray 40 (0, 0))
  generalize u1.alloc (Obj.cells (ptL a).toArray 40 (0, 0)) = v1 at F ⊢
  generalize u1.heap.size = b3 at F ⊢
  have l3 := ptLoad_run (F.get 0 rfl)
  go_wp2_with fail
  refine (HN.out _).mono ?_
  rintro e u2 ⟨rfl, hb⟩
  replace F := F.blk hb
  clear hb
  go_wp2
  go_ret
  exact ⟨rfl, F.bel⟩
set_option maxRecDepth 100000 in
set_option maxHeartbeats 2000000 in
theorem on_zero (p : Ec) (W : World) (hp : p = Ec.zero) : Calls Tryz.prog 10 #[.string (tellE p)] W fun e w' => e = .returned (.bool false) ∧ Below W.heap.size W w' := by
  obtain ⟨h1, h2, h3⟩ := ptOf_tell p
  have HN : Hid (∀ w, Calls Tryz.prog 26 #[.agg (ptL (ptOf (tellE p)).1).toArray] w fun e w' => e = .returned (.bool true) ∧ Below w.heap.size w w') := fun w => (nowhere_in _ h2.lm w).mono fun e w' ⟨he, hb⟩ => ⟨by rw [he]; exact congrArg (fun x => Ending.returned (.bool x)) (decide_eq_true ((rep_zero h2).1 (by rw [hp] at h3 ⊢; exact h3))), hb⟩
  have HO : Hid (∀ (c mp mn : Nat) w, Cv w c mp mn → Calls Tryz.prog 19 #[boxM c, .string (tellE p)] w fun e w' => e = .returned (.tuple #[.agg (ptL (ptOf (tellE p)).1).toArray, .bool true]) ∧ Below w.heap.size w w') := fun c mp mn w h => by
    have := pointOf_in (tellE p) w h
    rwa [h1] at this
  generalize (ptOf (tellE p)).1 = a at HN HO
  generalize tellE p = s at HO ⊢
  clear h1 h2 h3 hp
  have HP := Hid.mk p256_in
  have hzp := zeroPt
  have F := Fm.start W
  go_enter Tryz.func10, Tryz.ntmps10
  go_wp2_with fail
  refine (HP.out _).mono ?_
  rintro e u0 ⟨c, mp, mn, rfl, C, hb⟩
  replace F := F.blk hb
  clear hb HP
  go_wp2_with fail
  refine (HO.out _ _ _ _ C).mono ?_
  rintro e u1 ⟨rfl, hb⟩
  replace F := F.blk hb
  clear hb
  go_upto_region 2 with fail
  replace F := F.new (Obj.cells (ptL a).toArray 40 (0, 0))
  generalize u1.alloc (Obj.cells (ptL a).toArray 40 (0, 0)) = v1 at F ⊢
  generalize u1.heap.size = b3 at F ⊢
  have l3 := ptLoad_run (F.get 0 rfl)
  go_wp2_with fail
  refine (HN.out _).mono ?_
  rintro e u2 ⟨rfl, hb⟩
  replace F := F.blk hb
  clear hb
  go_wp2
  go_ret
  exact ⟨rfl, F.bel⟩
set_option maxRecDepth 100000 in
set_option maxHeartbeats 2000000 in
theorem sum_yes (p q : Ec) (W : World)  : Calls Tryz.prog 7 #[.string (tellE p), .string (tellE q)] W fun e w' => e = .returned (.tuple #[.string (tellE (p.add q)), .int .i64 0]) ∧ Below W.heap.size W w' := by
  obtain ⟨h1, h2, h3⟩ := ptOf_tell p
  obtain ⟨g1, g2, g3⟩ := ptOf_tell q
  have HA : Hid (∀ (c mp mn : Nat) w, Cv w c mp mn → Calls Tryz.prog 19 #[boxM c, .string (tellE p)] w fun e w' => e = .returned (.tuple #[.agg (ptL (ptOf (tellE p)).1).toArray, .bool true]) ∧ Below w.heap.size w w') := fun c mp mn w h => by
    have := pointOf_in (tellE p) w h
    rwa [h1] at this
  have HB : Hid (∀ (c mp mn : Nat) w, Cv w c mp mn → Calls Tryz.prog 19 #[boxM c, .string (tellE q)] w fun e w' => e = .returned (.tuple #[.agg (ptL (ptOf (tellE q)).1).toArray, .bool true]) ∧ Below w.heap.size w w') := fun c mp mn w h => by
    have := pointOf_in (tellE q) w h
    rwa [g1] at this
  generalize (ptOf (tellE p)).1 = a at HA h2 h3
  generalize (ptOf (tellE q)).1 = b at HB g2 g3
  have hok := T3.sum_ok h2 g2
  have hrp := T3.rep_sum h2 g2 h3 g3
  have HS : Hid (∀ (c mp mn : Nat) w, Cv w c mp mn → Calls Tryz.prog 21 #[boxM c, .agg (ptL a).toArray, .agg (ptL b).toArray] w fun e w' => e = .returned (.agg (ptL (a.sum b)).toArray) ∧ Below w.heap.size w w') := fun c mp mn w h => sum_in a b w h h2 g2
  have HT : Hid (∀ (c mp mn : Nat) w, Cv w c mp mn → Calls Tryz.prog 20 #[boxM c, .agg (ptL (a.sum b)).toArray] w fun e w' => e = .returned (.string (tellE (p.add q))) ∧ Below w.heap.size w w') := fun c mp mn w h => (bytesOf_in _ w h hok (T3.repEnd hok hrp)).mono fun e w' ⟨he, hb⟩ => ⟨by rw [he, tellT_eq hok hrp], hb⟩
  generalize tellE (p.add q) = t at HT ⊢
  generalize tellE p = sp at HA ⊢
  generalize tellE q = sq at HB ⊢
  generalize a.sum b = d at HS HT
  clear h1 h2 h3 g1 g2 g3 hok hrp
  have HP := Hid.mk p256_in
  have hzp := zeroPt
  have F := Fm.start W
  go_enter Tryz.func7, Tryz.ntmps7
  go_wp2_with fail
  refine (HP.out _).mono ?_
  rintro e u0 ⟨c, mp, mn, rfl, C, hb⟩
  replace F := F.blk hb
  clear hb HP
  go_wp2_with fail
  refine (HA.out _ _ _ _ C).mono ?_
  rintro e u1 ⟨rfl, hb⟩
  replace F := F.blk hb
  replace C := C.blk hb
  clear hb
  go_upto_region 3 with fail
  have hA := (Below.refl u1.heap.size u1).alloc (Nat.le_refl _) (Obj.cells (ptL a).toArray 40 (0, 0))
  replace C := C.blk hA
  replace F := F.new (Obj.cells (ptL a).toArray 40 (0, 0))
  clear hA
  generalize u1.alloc (Obj.cells (ptL a).toArray 40 (0, 0)) = v1 at F C ⊢
  generalize u1.heap.size = b7 at F ⊢
  go_wp2_with fail
  refine (HB.out _ _ _ _ C).mono ?_
  rintro e u2 ⟨rfl, hb⟩
  replace F := F.blk hb
  replace C := C.blk hb
  clear hb
  go_upto_region 4 with fail
  have hA := (Below.refl u2.heap.size u2).alloc (Nat.le_refl _) (Obj.cells (ptL b).toArray 40 (0, 0))
  replace C := C.blk hA
  replace F := F.new (Obj.cells (ptL b).toArray 40 (0, 0))
  clear hA
  generalize u2.alloc (Obj.cells (ptL b).toArray 40 (0, 0)) = v2 at F C ⊢
  generalize u2.heap.size = b9 at F ⊢
  have l7 := ptLoad_run (F.get 1 rfl)
  have l9 := ptLoad_run (F.get 0 rfl)
  go_wp2_with fail
  refine (HS.out _ _ _ _ C).mono ?_
  rintro e u3 ⟨rfl, hb⟩
  replace F := F.blk hb
  replace C := C.blk hb
  clear hb l7 l9
  go_wp2_with fail
  refine (HT.out _ _ _ _ C).mono ?_
  rintro e u4 ⟨rfl, hb⟩
  replace F := F.blk hb
  clear hb
  go_wp2
  go_ret2
  exact ⟨rfl, F.bel⟩
set_option maxRecDepth 100000 in
set_option maxHeartbeats 2000000 in
theorem sum_no (s t : ByteArray) (W : World) (h : (ptOf s).2 = false ∨ (ptOf t).2 = false) : Calls Tryz.prog 7 #[.string s, .string t] W fun e w' => e = .returned (.tuple #[.string ⟨#[]⟩, .int .i64 8]) ∧ Below W.heap.size W w' := by
  have HA : Hid (∀ (c mp mn : Nat) w, Cv w c mp mn → Calls Tryz.prog 19 #[boxM c, .string s] w fun e w' => e = .returned (.tuple #[.agg (ptL (ptOf s).1).toArray, .bool (ptOf s).2]) ∧ Below w.heap.size w w') := fun c mp mn w h => pointOf_in s w h
  have HB : Hid (∀ (c mp mn : Nat) w, Cv w c mp mn → Calls Tryz.prog 19 #[boxM c, .string t] w fun e w' => e = .returned (.tuple #[.agg (ptL (ptOf t).1).toArray, .bool (ptOf t).2]) ∧ Below w.heap.size w w') := fun c mp mn w h => pointOf_in t w h
  generalize (ptOf s).1 = a at HA
  generalize (ptOf t).1 = b at HB
  generalize (ptOf s).2 = x at HA h
  generalize (ptOf t).2 = y at HB h
  have HP := Hid.mk p256_in
  have hzp := zeroPt
  have F := Fm.start W
  go_enter Tryz.func7, Tryz.ntmps7
  go_wp2_with fail
  refine (HP.out _).mono ?_
  rintro e u0 ⟨c, mp, mn, rfl, C, hb⟩
  replace F := F.blk hb
  clear hb HP
  go_wp2_with fail
  refine (HA.out _ _ _ _ C).mono ?_
  rintro e u1 ⟨rfl, hb⟩
  replace F := F.blk hb
  replace C := C.blk hb
  clear hb
  go_upto_region 3 with fail
  have hA := (Below.refl u1.heap.size u1).alloc (Nat.le_refl _) (Obj.cells (ptL a).toArray 40 (0, 0))
  replace C := C.blk hA
  replace F := F.new (Obj.cells (ptL a).toArray 40 (0, 0))
  clear hA
  generalize u1.alloc (Obj.cells (ptL a).toArray 40 (0, 0)) = v1 at F C ⊢
  generalize u1.heap.size = b7 at F ⊢
  go_wp2_with fail
  refine (HB.out _ _ _ _ C).mono ?_
  rintro e u2 ⟨rfl, hb⟩
  replace F := F.blk hb
  replace C := C.blk hb
  clear hb
  go_upto_region 4 with fail
  have hA := (Below.refl u2.heap.size u2).alloc (Nat.le_refl _) (Obj.cells (ptL b).toArray 40 (0, 0))
  replace C := C.blk hA
  replace F := F.new (Obj.cells (ptL b).toArray 40 (0, 0))
  clear hA
  generalize u2.alloc (Obj.cells (ptL b).toArray 40 (0, 0)) = v2 at F C ⊢
  generalize u2.heap.size = b9 at F ⊢
  cases x with
  | false =>
    go_wp2
    go_ret2
    exact ⟨rfl, F.bel⟩
  | true =>
    cases y with
    | false =>
      go_wp2
      go_ret2
      exact ⟨rfl, F.bel⟩
    | true => simp at h
set_option maxRecDepth 100000 in
set_option maxHeartbeats 2000000 in
theorem times_len (k s : ByteArray) (W : World) (h : k.size ≠ 32) : Calls Tryz.prog 13 #[.string k, .string s] W fun e w' => e = .returned (.tuple #[.string ⟨#[]⟩, .int .i64 1]) ∧ Below W.heap.size W w' := by
  have hk : ((k.size : Int) != 32) = true := by simp; omega
  clear h
  go_enter Tryz.func13, Tryz.ntmps13
  go_wp2
  go_ret2
  exact ⟨rfl, Below.refl _ _⟩
end Go.Proofs.YtpimliebiapnfaaGreatDoor