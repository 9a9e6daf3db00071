/- Texts of this proof, joined: CRpl. -/
import Derived.Test.YtpimliebiapnfaaGreatDoorJ25
/- The document's plus. -/
namespace Go.Proofs.YtpimliebiapnfaaGreatDoor
set_option linter.unusedVariables false
set_option linter.unusedSimpArgs false
open Go.RowKit N
attribute [local go_sem ↓] N.loadAt_nat N.storeAt_nat N.build_nat N.build_nat' loadAt_pt storeAt_pt build_pt0 build_pt0' build_pt'
attribute [local go_sem] N.st1 N.st2a N.st2b N.st1d N.st2ad N.st2bd N.natBuild_run ptst1 ptst1d ptBuild0_run build_pt ptBuild_run
attribute [local go_sem ↓] bin_nat bin_pt
attribute [local go_sem ↓] storeAt_pd loadAt_pd
attribute [local go_sem ↓] storeAt_sd loadAt_sd
set_option maxRecDepth 100000 in
set_option maxHeartbeats 2000000 in
theorem rplus_0 (W : World) (vp ax ay : Value) (pz : Option Addr) (kz : Nat) (pb pd : Option Addr) (kb kd xb yb : Nat) (hxb : RN W (.slice pb (N.mny xb) kb) xb) (hyb : RN W (.slice pd (N.mny yb) kd) yb) : Calls Tryz.prog 66 #[.agg #[vp], .agg #[ax, ay, .slice pz 0 kz], .agg #[.slice pb (N.mny xb) kb, .slice pd (N.mny yb) kd, .bool false]] W fun e w' => ∃ p k p' k' p'' k'', e = .returned (.agg #[.slice p (N.mny xb) k, .slice p' (N.mny yb) k', .slice p'' (N.mny 1) k'']) ∧ RN w' (.slice p (N.mny xb) k) xb ∧ RN w' (.slice p' (N.mny yb) k') yb ∧ RN w' (.slice p'' (N.mny 1) k'') 1 ∧ Below W.heap.size W w' := by
  have HXB := Hid.mk hxb
  have HYB := Hid.mk hyb
  clear hxb hyb
  have HS1 : Hid (∀ w, Calls Tryz.prog 57 #[.int .u64 1] w fun e w' => ∃ p k, e = .returned (.slice p (N.mny 1) k) ∧ RN w' (.slice p (N.mny 1) k) 1 ∧ Below w.heap.size w w') := fun w => (rfSmall w 1 (by omega)).mono fun e w' ⟨v, q1, q2, q3⟩ => by
    obtain ⟨p, c, rfl⟩ := q2.sl
    exact ⟨p, c, q1, q2, q3⟩
  obtain ⟨V, hV, F⟩ : ∃ V, ((((W.alloc (Obj.cells #[vp] 54 (0, 0))).alloc (Obj.cells #[ax, ay, .slice pz 0 kz] 96 (0, 0))).alloc (Obj.cells #[.slice pb (N.mny xb) kb, .slice pd (N.mny yb) kd, .bool false] 47 (0, 0))).alloc (Obj.cells #[.slice none 0 0, .slice none 0 0, .slice none 0 0] 96 (0, 0))) = V ∧ Fm W [(W.heap.size + 3, Obj.cells #[.slice none 0 0, .slice none 0 0, .slice none 0 0] 96 (0, 0)), (W.heap.size + 2, Obj.cells #[.slice pb (N.mny xb) kb, .slice pd (N.mny yb) kd, .bool false] 47 (0, 0)), (W.heap.size + 1, Obj.cells #[ax, ay, .slice pz 0 kz] 96 (0, 0)), (W.heap.size, Obj.cells #[vp] 54 (0, 0))] V := ⟨_, rfl, Fm.box4 W _ _ _ _⟩
  obtain ⟨L, hL⟩ : ∃ L : List (Nat × Obj), [(W.heap.size + 2, Obj.cells #[.slice pb (N.mny xb) kb, .slice pd (N.mny yb) kd, .bool false] 47 (0, 0)), (W.heap.size + 1, Obj.cells #[ax, ay, .slice pz 0 kz] 96 (0, 0)), (W.heap.size, Obj.cells #[vp] 54 (0, 0))] = L := ⟨_, rfl⟩
  rw [hL] at F
  have HS : Hid (∀ w, Fs W (W.heap.size + 3) L w → Fs W (W.heap.size + 3) L w ∧ w.cell? ⟨W.heap.size, 0, none⟩ = some vp ∧ w.cell? ⟨W.heap.size + 1, 0, none⟩ = some ax ∧ w.cell? ⟨W.heap.size + 1, 1, none⟩ = some ay ∧ w.cell? ⟨W.heap.size + 1, 2, none⟩ = some (.slice pz 0 kz) ∧ w.cell? ⟨W.heap.size + 2, 0, none⟩ = some (.slice pb (N.mny xb) kb) ∧ w.cell? ⟨W.heap.size + 2, 1, none⟩ = some (.slice pd (N.mny yb) kd) ∧ (∀ p n c p' n' c' p'' n'' c'', (sdStore (.pointer (some ⟨W.heap.size + 3, 0, none⟩)) (.agg #[.slice p n c, .slice p' n' c', .slice p'' n'' c''])).run Tryz.prog w = .ok () (w.setRow (W.heap.size + 3) #[.slice p n c, .slice p' n' c', .slice p'' n'' c'']))) := fun w h => ⟨h, (N.cells_at (L := [vp]) (h.get 2 (by rw [← hL]; rfl)) rfl).1, (N.cells_at (L := [ax, ay, .slice pz 0 kz]) (h.get 1 (by rw [← hL]; rfl)) rfl).1, (N.cells_at (L := [ax, ay, .slice pz 0 kz]) (h.get 1 (by rw [← hL]; rfl)) rfl).1, (N.cells_at (L := [ax, ay, .slice pz 0 kz]) (h.get 1 (by rw [← hL]; rfl)) rfl).1, (N.cells_at (L := [.slice pb (N.mny xb) kb, .slice pd (N.mny yb) kd, .bool false]) (h.get 0 (by rw [← hL]; rfl)) rfl).1, (N.cells_at (L := [.slice pb (N.mny xb) kb, .slice pd (N.mny yb) kd, .bool false]) (h.get 0 (by rw [← hL]; rfl)) rfl).1, h.st⟩
  have Z : Fs W (W.heap.size + 3) L _ := ⟨_, _, _, F⟩
  obtain ⟨-, qf, qx, qy, qz, qbx, qby, qs⟩ := HS.out _ Z
  go_enter Tryz.func66, Tryz.ntmps66
  go_upto_region 1 with fail
  simp only [Nat.add_assoc, Nat.reduceAdd]
  clear hV
  go_upto_region 2 with fail
  clear F qf qx qy qz qbx qby qs
  have hS0 := HS.out _ Z
  go_region_held3 (fun w => Fs W (W.heap.size + 3) L w ∧ w.cell? ⟨W.heap.size, 0, none⟩ = some vp ∧ w.cell? ⟨W.heap.size + 1, 0, none⟩ = some ax ∧ w.cell? ⟨W.heap.size + 1, 1, none⟩ = some ay ∧ w.cell? ⟨W.heap.size + 1, 2, none⟩ = some (.slice pz 0 kz) ∧ w.cell? ⟨W.heap.size + 2, 0, none⟩ = some (.slice pb (N.mny xb) kb) ∧ w.cell? ⟨W.heap.size + 2, 1, none⟩ = some (.slice pd (N.mny yb) kd) ∧ (∀ p n c p' n' c' p'' n'' c'', (sdStore (.pointer (some ⟨W.heap.size + 3, 0, none⟩)) (.agg #[.slice p n c, .slice p' n' c', .slice p'' n'' c''])).run Tryz.prog w = .ok () (w.setRow (W.heap.size + 3) #[.slice p n c, .slice p' n' c', .slice p'' n'' c''])))
    (first | assumption | (apply HS.out; repeat (first | assumption | apply Fs.drew | apply Fs.set)))
    (first
      | (go_at_call 57; with_reducible refine (HS1.out _).mono ?_; rintro e w52 ⟨p52, k52, rfl, r52, hb52⟩; have F52 := Fs.blk (by repeat (first | assumption | apply Fs.drew)) hb52; have hs52 := HS.out _ F52))
  have F6 := F52.fin (.slice pb (N.mny xb) kb) (.slice pd (N.mny yb) kd) (.slice p52 (N.mny 1) k52)
  obtain ⟨LL, hLL⟩ := F52.at
  go_wp2
  exact bodyPost_ret (results_sd Tryz.results66 rfl (F6.get 0 rfl)) rfl ⟨_, _, _, _, _, _, rfl, rn_rows (RN.blk F52.bel HXB.out) hLL, rn_rows (RN.blk F52.bel HYB.out) hLL, rn_rows r52 hLL, F6.bel⟩
set_option maxRecDepth 100000 in
set_option maxHeartbeats 2000000 in
theorem rplus_n (W : World) (vp ax ay : Value) (pz : Option Addr) (kz : Nat) (pb pd : Option Addr) (kb kd xb yb : Nat) (xa ya za zz bz dh b2 b3 dr : Nat) (hP : RN W vp pP) (hxa : RN W ax xa) (hya : RN W ay ya) (hza : RN W (.slice pz (N.mny za) kz) za) (hxb : RN W (.slice pb (N.mny xb) kb) xb) (hyb : RN W (.slice pd (N.mny yb) kd) yb) (l1 : xa < pP) (l2 : ya < pP) (l3 : za < pP) (l4 : xb < pP) (l5 : yb < pP) (h0 : za ≠ 0) (e_zz : mtimes za za = zz) (e_bz : mtimes xb zz = bz) (e_dh : mminus bz xa = dh) (e_b2 : mtimes yb zz = b2) (e_b3 : mtimes b2 za = b3) (e_dr : mminus b3 ya = dr) (hz : dh = 0) (rz : dr ≠ 0) : Calls Tryz.prog 66 #[.agg #[vp], .agg #[ax, ay, .slice pz (N.mny za) kz], .agg #[.slice pb (N.mny xb) kb, .slice pd (N.mny yb) kd, .bool false]] W fun e w' => e = .returned (.agg #[.slice none 0 0, .slice none 0 0, .slice none 0 0]) ∧ Below W.heap.size W w' := by
  have E_zz := Hid.mk e_zz
  have b_zz : zz < pP := by rw [← e_zz]; exact mtimes_lt _ _
  have E_bz := Hid.mk e_bz
  have b_bz : bz < pP := by rw [← e_bz]; exact mtimes_lt _ _
  have E_dh := Hid.mk e_dh
  have b_dh : dh < pP := by rw [← e_dh]; exact mminus_lt b_bz l1
  have E_b2 := Hid.mk e_b2
  have b_b2 : b2 < pP := by rw [← e_b2]; exact mtimes_lt _ _
  have E_b3 := Hid.mk e_b3
  have b_b3 : b3 < pP := by rw [← e_b3]; exact mtimes_lt _ _
  have E_dr := Hid.mk e_dr
  have b_dr : dr < pP := by rw [← e_dr]; exact mminus_lt b_b3 l2
  have H3 : Hid (∀ w va vb, RN w vp pP → RN w va za → RN w vb za → Calls Tryz.prog 37 #[.agg #[vp], va, vb] w fun e w' => ∃ v, e = .returned v ∧ RN w' v zz ∧ Below w.heap.size w w') := fun w va vb h k l => (rfMul w vp va vb za za h k l l3 l3).mono fun e w' ⟨v, q1, q2, q3⟩ => ⟨v, q1, by rw [← E_zz.out]; exact q2, q3⟩
  have H4a : Hid (∀ w va vb, RN w vp pP → RN w va xb → RN w vb zz → Calls Tryz.prog 37 #[.agg #[vp], va, vb] w fun e w' => ∃ v, e = .returned v ∧ RN w' v bz ∧ Below w.heap.size w w') := fun w va vb h k l => (rfMul w vp va vb xb zz h k l l4 b_zz).mono fun e w' ⟨v, q1, q2, q3⟩ => ⟨v, q1, by rw [← E_bz.out]; exact q2, q3⟩
  have H4b : Hid (∀ w va vb, RN w vp pP → RN w va bz → RN w vb xa → Calls Tryz.prog 55 #[.agg #[vp], va, vb] w fun e w' => ∃ v, e = .returned v ∧ RN w' v dh ∧ Below w.heap.size w w') := fun w va vb h k l => (rfSub w vp va vb bz xa h k l b_bz l1).mono fun e w' ⟨v, q1, q2, q3⟩ => ⟨v, q1, by rw [← E_dh.out]; exact q2, q3⟩
  have H5a : Hid (∀ w va vb, RN w vp pP → RN w va yb → RN w vb zz → Calls Tryz.prog 37 #[.agg #[vp], va, vb] w fun e w' => ∃ v, e = .returned v ∧ RN w' v b2 ∧ Below w.heap.size w w') := fun w va vb h k l => (rfMul w vp va vb yb zz h k l l5 b_zz).mono fun e w' ⟨v, q1, q2, q3⟩ => ⟨v, q1, by rw [← E_b2.out]; exact q2, q3⟩
  have H5b : Hid (∀ w va vb, RN w vp pP → RN w va b2 → RN w vb za → Calls Tryz.prog 37 #[.agg #[vp], va, vb] w fun e w' => ∃ v, e = .returned v ∧ RN w' v b3 ∧ Below w.heap.size w w') := fun w va vb h k l => (rfMul w vp va vb b2 za h k l b_b2 l3).mono fun e w' ⟨v, q1, q2, q3⟩ => ⟨v, q1, by rw [← E_b3.out]; exact q2, q3⟩
  have H5c : Hid (∀ w va vb, RN w vp pP → RN w va b3 → RN w vb ya → Calls Tryz.prog 55 #[.agg #[vp], va, vb] w fun e w' => ∃ v, e = .returned v ∧ RN w' v dr ∧ Below w.heap.size w w') := fun w va vb h k l => (rfSub w vp va vb b3 ya h k l b_b3 l2).mono fun e w' ⟨v, q1, q2, q3⟩ => ⟨v, q1, by rw [← E_dr.out]; exact q2, q3⟩
  have hl0 := mny_0 h0
  have hl1 := mny_0 rz
  have hm0 : N.mny 0 = 0 := N.mny_zero
  have HP := Hid.mk hP
  have HXA := Hid.mk hxa
  have HYA := Hid.mk hya
  have HZA := Hid.mk hza
  have HXB := Hid.mk hxb
  have HYB := Hid.mk hyb
  clear hP hxa hya hza hxb hyb l1 l2 l3 l4 l5 h0 b_zz E_zz e_zz b_bz E_bz e_bz b_dh E_dh e_dh b_b2 E_b2 e_b2 b_b3 E_b3 e_b3 b_dr E_dr e_dr rz
  subst hz
  obtain ⟨pp, hpp⟩ : ∃ q, pP = q := ⟨_, rfl⟩
  rw [hpp] at HP H3 H4a H4b H5a H5b H5c
  clear hpp
  obtain ⟨V, hV, F⟩ : ∃ V, ((((W.alloc (Obj.cells #[vp] 54 (0, 0))).alloc (Obj.cells #[ax, ay, .slice pz (N.mny za) kz] 96 (0, 0))).alloc (Obj.cells #[.slice pb (N.mny xb) kb, .slice pd (N.mny yb) kd, .bool false] 47 (0, 0))).alloc (Obj.cells #[.slice none 0 0, .slice none 0 0, .slice none 0 0] 96 (0, 0))) = V ∧ Fm W [(W.heap.size + 3, Obj.cells #[.slice none 0 0, .slice none 0 0, .slice none 0 0] 96 (0, 0)), (W.heap.size + 2, Obj.cells #[.slice pb (N.mny xb) kb, .slice pd (N.mny yb) kd, .bool false] 47 (0, 0)), (W.heap.size + 1, Obj.cells #[ax, ay, .slice pz (N.mny za) kz] 96 (0, 0)), (W.heap.size, Obj.cells #[vp] 54 (0, 0))] V := ⟨_, rfl, Fm.box4 W _ _ _ _⟩
  obtain ⟨L, hL⟩ : ∃ L : List (Nat × Obj), [(W.heap.size + 2, Obj.cells #[.slice pb (N.mny xb) kb, .slice pd (N.mny yb) kd, .bool false] 47 (0, 0)), (W.heap.size + 1, Obj.cells #[ax, ay, .slice pz (N.mny za) kz] 96 (0, 0)), (W.heap.size, Obj.cells #[vp] 54 (0, 0))] = L := ⟨_, rfl⟩
  rw [hL] at F
  have HS : Hid (∀ w, Fs W (W.heap.size + 3) L w → Fs W (W.heap.size + 3) L w ∧ w.cell? ⟨W.heap.size, 0, none⟩ = some vp ∧ w.cell? ⟨W.heap.size + 1, 0, none⟩ = some ax ∧ w.cell? ⟨W.heap.size + 1, 1, none⟩ = some ay ∧ w.cell? ⟨W.heap.size + 1, 2, none⟩ = some (.slice pz (N.mny za) kz) ∧ w.cell? ⟨W.heap.size + 2, 0, none⟩ = some (.slice pb (N.mny xb) kb) ∧ w.cell? ⟨W.heap.size + 2, 1, none⟩ = some (.slice pd (N.mny yb) kd) ∧ (∀ p n c p' n' c' p'' n'' c'', (sdStore (.pointer (some ⟨W.heap.size + 3, 0, none⟩)) (.agg #[.slice p n c, .slice p' n' c', .slice p'' n'' c''])).run Tryz.prog w = .ok () (w.setRow (W.heap.size + 3) #[.slice p n c, .slice p' n' c', .slice p'' n'' c'']))) := fun w h => ⟨h, (N.cells_at (L := [vp]) (h.get 2 (by rw [← hL]; rfl)) rfl).1, (N.cells_at (L := [ax, ay, .slice pz (N.mny za) kz]) (h.get 1 (by rw [← hL]; rfl)) rfl).1, (N.cells_at (L := [ax, ay, .slice pz (N.mny za) kz]) (h.get 1 (by rw [← hL]; rfl)) rfl).1, (N.cells_at (L := [ax, ay, .slice pz (N.mny za) kz]) (h.get 1 (by rw [← hL]; rfl)) rfl).1, (N.cells_at (L := [.slice pb (N.mny xb) kb, .slice pd (N.mny yb) kd, .bool false]) (h.get 0 (by rw [← hL]; rfl)) rfl).1, (N.cells_at (L := [.slice pb (N.mny xb) kb, .slice pd (N.mny yb) kd, .bool false]) (h.get 0 (by rw [← hL]; rfl)) rfl).1, h.st⟩
  have Z : Fs W (W.heap.size + 3) L _ := ⟨_, _, _, F⟩
  obtain ⟨-, qf, qx, qy, qz, qbx, qby, qs⟩ := HS.out _ Z
  go_enter Tryz.func66, Tryz.ntmps66
  go_upto_region 1 with fail
  simp only [Nat.add_assoc, Nat.reduceAdd]
  clear hV F
  go_wp2_with fail
  refine (H3.out _ _ _ (RN.blk Z.bel HP.out) (RN.blk Z.bel HZA.out) (RN.blk Z.bel HZA.out)).mono ?_
  rintro e y1 ⟨v1, rfl, r1, hb⟩
  replace Z := Z.blk hb
  clear hb qf qx qy qz qbx qby qs
  go_upto_region 4 with fail
  have hS0 := HS.out _ Z
  replace r1 := RN.drew' r1
  go_region_held3 (fun w => Fs W (W.heap.size + 3) L w ∧ w.cell? ⟨W.heap.size, 0, none⟩ = some vp ∧ w.cell? ⟨W.heap.size + 1, 0, none⟩ = some ax ∧ w.cell? ⟨W.heap.size + 1, 1, none⟩ = some ay ∧ w.cell? ⟨W.heap.size + 1, 2, none⟩ = some (.slice pz (N.mny za) kz) ∧ w.cell? ⟨W.heap.size + 2, 0, none⟩ = some (.slice pb (N.mny xb) kb) ∧ w.cell? ⟨W.heap.size + 2, 1, none⟩ = some (.slice pd (N.mny yb) kd) ∧ (∀ p n c p' n' c' p'' n'' c'', (sdStore (.pointer (some ⟨W.heap.size + 3, 0, none⟩)) (.agg #[.slice p n c, .slice p' n' c', .slice p'' n'' c''])).run Tryz.prog w = .ok () (w.setRow (W.heap.size + 3) #[.slice p n c, .slice p' n' c', .slice p'' n'' c''])))
    (first | assumption | (apply HS.out; repeat (first | assumption | apply Fs.drew | apply Fs.set)))
    (first
      | (go_at_call 55; with_reducible refine (H4b.out _ _ _ (RN.blk (Fs.bel (by repeat (first | assumption | apply Fs.drew))) HP.out) r11 (RN.blk (Fs.bel (by repeat (first | assumption | apply Fs.drew))) HXA.out)).mono ?_; rintro e w12 ⟨v12, rfl, r12, hb12⟩; have F12 := Fs.blk (by repeat (first | assumption | apply Fs.drew)) hb12; have hs12 := HS.out _ F12; have r1 := RN.blk hb12 r1)
      | (go_at_call 37; with_reducible refine (H4a.out _ _ _ (RN.blk (Fs.bel (by repeat (first | assumption | apply Fs.drew))) HP.out) (RN.blk (Fs.bel (by repeat (first | assumption | apply Fs.drew))) HXB.out) r1).mono ?_; rintro e w11 ⟨v11, rfl, r11, hb11⟩; have F11 := Fs.blk (by repeat (first | assumption | apply Fs.drew)) hb11; have hs11 := HS.out _ F11; have r1 := RN.blk hb11 r1))
  have Z := F12
  have r2 := RN.drew' r1
  have r3 := RN.drew' r12
  clear hS0
  go_upto_region 5 with fail
  have hS0 := HS.out _ Z
  go_region_held3 (fun w => Fs W (W.heap.size + 3) L w ∧ w.cell? ⟨W.heap.size, 0, none⟩ = some vp ∧ w.cell? ⟨W.heap.size + 1, 0, none⟩ = some ax ∧ w.cell? ⟨W.heap.size + 1, 1, none⟩ = some ay ∧ w.cell? ⟨W.heap.size + 1, 2, none⟩ = some (.slice pz (N.mny za) kz) ∧ w.cell? ⟨W.heap.size + 2, 0, none⟩ = some (.slice pb (N.mny xb) kb) ∧ w.cell? ⟨W.heap.size + 2, 1, none⟩ = some (.slice pd (N.mny yb) kd) ∧ (∀ p n c p' n' c' p'' n'' c'', (sdStore (.pointer (some ⟨W.heap.size + 3, 0, none⟩)) (.agg #[.slice p n c, .slice p' n' c', .slice p'' n'' c''])).run Tryz.prog w = .ok () (w.setRow (W.heap.size + 3) #[.slice p n c, .slice p' n' c', .slice p'' n'' c''])))
    (first | assumption | (apply HS.out; repeat (first | assumption | apply Fs.drew | apply Fs.set)))
    (first
      | (go_at_call 55; with_reducible refine (H5c.out _ _ _ (RN.blk (Fs.bel (by repeat (first | assumption | apply Fs.drew))) HP.out) r22 (RN.blk (Fs.bel (by repeat (first | assumption | apply Fs.drew))) HYA.out)).mono ?_; rintro e w23 ⟨v23, rfl, r23, hb23⟩; have F23 := Fs.blk (by repeat (first | assumption | apply Fs.drew)) hb23; have hs23 := HS.out _ F23; have r3 := RN.blk hb23 r3)
      | (go_at_call 37; with_reducible refine (H5b.out _ _ _ (RN.blk (Fs.bel (by repeat (first | assumption | apply Fs.drew))) HP.out) r21 (RN.blk (Fs.bel (by repeat (first | assumption | apply Fs.drew))) HZA.out)).mono ?_; rintro e w22 ⟨v22, rfl, r22, hb22⟩; have F22 := Fs.blk (by repeat (first | assumption | apply Fs.drew)) hb22; have hs22 := HS.out _ F22; have r3 := RN.blk hb22 r3)
      | (go_at_call 37; with_reducible refine (H5a.out _ _ _ (RN.blk (Fs.bel (by repeat (first | assumption | apply Fs.drew))) HP.out) (RN.blk (Fs.bel (by repeat (first | assumption | apply Fs.drew))) HYB.out) r2).mono ?_; rintro e w21 ⟨v21, rfl, r21, hb21⟩; have F21 := Fs.blk (by repeat (first | assumption | apply Fs.drew)) hb21; have hs21 := HS.out _ F21; have r3 := RN.blk hb21 r3))
  have Z := F23
  obtain ⟨ph, kh, rfl⟩ := r3.sl
  obtain ⟨pr, kr, rfl⟩ := r23.sl
  clear hS0
  obtain ⟨-, qf, qx, qy, qz, qbx, qby, qs⟩ := HS.out _ Z
  have F6 := Z.fin (.slice none 0 0) (.slice none 0 0) (.slice none 0 0)
  go_wp2
  exact bodyPost_ret (results_sd Tryz.results66 rfl (F6.get 0 rfl)) rfl ⟨rfl, F6.bel⟩
set_option maxRecDepth 100000 in
set_option maxHeartbeats 2000000 in
theorem rplus_t (W : World) (vp ax ay : Value) (pz : Option Addr) (kz : Nat) (pb pd : Option Addr) (kb kd xb yb : Nat) (xa ya za zz bz dh b2 b3 dr : Nat) (hP : RN W vp pP) (hxa : RN W ax xa) (hya : RN W ay ya) (hza : RN W (.slice pz (N.mny za) kz) za) (hxb : RN W (.slice pb (N.mny xb) kb) xb) (hyb : RN W (.slice pd (N.mny yb) kd) yb) (l1 : xa < pP) (l2 : ya < pP) (l3 : za < pP) (l4 : xb < pP) (l5 : yb < pP) (h0 : za ≠ 0) (e_zz : mtimes za za = zz) (e_bz : mtimes xb zz = bz) (e_dh : mminus bz xa = dh) (e_b2 : mtimes yb zz = b2) (e_b3 : mtimes b2 za = b3) (e_dr : mminus b3 ya = dr) (hz : dh = 0) (rz : dr = 0) (tx ty tz : Nat) (HT : Hid (∀ w, Below W.heap.size W w → Calls Tryz.prog 65 #[.agg #[vp], .agg #[ax, ay, .slice pz (N.mny za) kz]] w fun e w' => ∃ p k p' k' p'' k'', e = .returned (.agg #[.slice p (N.mny tx) k, .slice p' (N.mny ty) k', .slice p'' (N.mny tz) k'']) ∧ RN w' (.slice p (N.mny tx) k) tx ∧ RN w' (.slice p' (N.mny ty) k') ty ∧ RN w' (.slice p'' (N.mny tz) k'') tz ∧ Below w.heap.size w w')) : Calls Tryz.prog 66 #[.agg #[vp], .agg #[ax, ay, .slice pz (N.mny za) kz], .agg #[.slice pb (N.mny xb) kb, .slice pd (N.mny yb) kd, .bool false]] W fun e w' => ∃ p k p' k' p'' k'', e = .returned (.agg #[.slice p (N.mny tx) k, .slice p' (N.mny ty) k', .slice p'' (N.mny tz) k'']) ∧ RN w' (.slice p (N.mny tx) k) tx ∧ RN w' (.slice p' (N.mny ty) k') ty ∧ RN w' (.slice p'' (N.mny tz) k'') tz ∧ Below W.heap.size W w' := by
  have E_zz := Hid.mk e_zz
  have b_zz : zz < pP := by rw [← e_zz]; exact mtimes_lt _ _
  have E_bz := Hid.mk e_bz
  have b_bz : bz < pP := by rw [← e_bz]; exact mtimes_lt _ _
  have E_dh := Hid.mk e_dh
  have b_dh : dh < pP := by rw [← e_dh]; exact mminus_lt b_bz l1
  have E_b2 := Hid.mk e_b2
  have b_b2 : b2 < pP := by rw [← e_b2]; exact mtimes_lt _ _
  have E_b3 := Hid.mk e_b3
  have b_b3 : b3 < pP := by rw [← e_b3]; exact mtimes_lt _ _
  have E_dr := Hid.mk e_dr
  have b_dr : dr < pP := by rw [← e_dr]; exact mminus_lt b_b3 l2
  have H3 : Hid (∀ w va vb, RN w vp pP → RN w va za → RN w vb za → Calls Tryz.prog 37 #[.agg #[vp], va, vb] w fun e w' => ∃ v, e = .returned v ∧ RN w' v zz ∧ Below w.heap.size w w') := fun w va vb h k l => (rfMul w vp va vb za za h k l l3 l3).mono fun e w' ⟨v, q1, q2, q3⟩ => ⟨v, q1, by rw [← E_zz.out]; exact q2, q3⟩
  have H4a : Hid (∀ w va vb, RN w vp pP → RN w va xb → RN w vb zz → Calls Tryz.prog 37 #[.agg #[vp], va, vb] w fun e w' => ∃ v, e = .returned v ∧ RN w' v bz ∧ Below w.heap.size w w') := fun w va vb h k l => (rfMul w vp va vb xb zz h k l l4 b_zz).mono fun e w' ⟨v, q1, q2, q3⟩ => ⟨v, q1, by rw [← E_bz.out]; exact q2, q3⟩
  have H4b : Hid (∀ w va vb, RN w vp pP → RN w va bz → RN w vb xa → Calls Tryz.prog 55 #[.agg #[vp], va, vb] w fun e w' => ∃ v, e = .returned v ∧ RN w' v dh ∧ Below w.heap.size w w') := fun w va vb h k l => (rfSub w vp va vb bz xa h k l b_bz l1).mono fun e w' ⟨v, q1, q2, q3⟩ => ⟨v, q1, by rw [← E_dh.out]; exact q2, q3⟩
  have H5a : Hid (∀ w va vb, RN w vp pP → RN w va yb → RN w vb zz → Calls Tryz.prog 37 #[.agg #[vp], va, vb] w fun e w' => ∃ v, e = .returned v ∧ RN w' v b2 ∧ Below w.heap.size w w') := fun w va vb h k l => (rfMul w vp va vb yb zz h k l l5 b_zz).mono fun e w' ⟨v, q1, q2, q3⟩ => ⟨v, q1, by rw [← E_b2.out]; exact q2, q3⟩
  have H5b : Hid (∀ w va vb, RN w vp pP → RN w va b2 → RN w vb za → Calls Tryz.prog 37 #[.agg #[vp], va, vb] w fun e w' => ∃ v, e = .returned v ∧ RN w' v b3 ∧ Below w.heap.size w w') := fun w va vb h k l => (rfMul w vp va vb b2 za h k l b_b2 l3).mono fun e w' ⟨v, q1, q2, q3⟩ => ⟨v, q1, by rw [← E_b3.out]; exact q2, q3⟩
  have H5c : Hid (∀ w va vb, RN w vp pP → RN w va b3 → RN w vb ya → Calls Tryz.prog 55 #[.agg #[vp], va, vb] w fun e w' => ∃ v, e = .returned v ∧ RN w' v dr ∧ Below w.heap.size w w') := fun w va vb h k l => (rfSub w vp va vb b3 ya h k l b_b3 l2).mono fun e w' ⟨v, q1, q2, q3⟩ => ⟨v, q1, by rw [← E_dr.out]; exact q2, q3⟩
  have hl0 := mny_0 h0
  have hm0 : N.mny 0 = 0 := N.mny_zero
  have HP := Hid.mk hP
  have HXA := Hid.mk hxa
  have HYA := Hid.mk hya
  have HZA := Hid.mk hza
  have HXB := Hid.mk hxb
  have HYB := Hid.mk hyb
  clear hP hxa hya hza hxb hyb l1 l2 l3 l4 l5 h0 b_zz E_zz e_zz b_bz E_bz e_bz b_dh E_dh e_dh b_b2 E_b2 e_b2 b_b3 E_b3 e_b3 b_dr E_dr e_dr
  subst hz rz
  obtain ⟨pp, hpp⟩ : ∃ q, pP = q := ⟨_, rfl⟩
  rw [hpp] at HP H3 H4a H4b H5a H5b H5c
  clear hpp
  obtain ⟨V, hV, F⟩ : ∃ V, ((((W.alloc (Obj.cells #[vp] 54 (0, 0))).alloc (Obj.cells #[ax, ay, .slice pz (N.mny za) kz] 96 (0, 0))).alloc (Obj.cells #[.slice pb (N.mny xb) kb, .slice pd (N.mny yb) kd, .bool false] 47 (0, 0))).alloc (Obj.cells #[.slice none 0 0, .slice none 0 0, .slice none 0 0] 96 (0, 0))) = V ∧ Fm W [(W.heap.size + 3, Obj.cells #[.slice none 0 0, .slice none 0 0, .slice none 0 0] 96 (0, 0)), (W.heap.size + 2, Obj.cells #[.slice pb (N.mny xb) kb, .slice pd (N.mny yb) kd, .bool false] 47 (0, 0)), (W.heap.size + 1, Obj.cells #[ax, ay, .slice pz (N.mny za) kz] 96 (0, 0)), (W.heap.size, Obj.cells #[vp] 54 (0, 0))] V := ⟨_, rfl, Fm.box4 W _ _ _ _⟩
  obtain ⟨L, hL⟩ : ∃ L : List (Nat × Obj), [(W.heap.size + 2, Obj.cells #[.slice pb (N.mny xb) kb, .slice pd (N.mny yb) kd, .bool false] 47 (0, 0)), (W.heap.size + 1, Obj.cells #[ax, ay, .slice pz (N.mny za) kz] 96 (0, 0)), (W.heap.size, Obj.cells #[vp] 54 (0, 0))] = L := ⟨_, rfl⟩
  rw [hL] at F
  have HS : Hid (∀ w, Fs W (W.heap.size + 3) L w → Fs W (W.heap.size + 3) L w ∧ w.cell? ⟨W.heap.size, 0, none⟩ = some vp ∧ w.cell? ⟨W.heap.size + 1, 0, none⟩ = some ax ∧ w.cell? ⟨W.heap.size + 1, 1, none⟩ = some ay ∧ w.cell? ⟨W.heap.size + 1, 2, none⟩ = some (.slice pz (N.mny za) kz) ∧ w.cell? ⟨W.heap.size + 2, 0, none⟩ = some (.slice pb (N.mny xb) kb) ∧ w.cell? ⟨W.heap.size + 2, 1, none⟩ = some (.slice pd (N.mny yb) kd) ∧ (∀ p n c p' n' c' p'' n'' c'', (sdStore (.pointer (some ⟨W.heap.size + 3, 0, none⟩)) (.agg #[.slice p n c, .slice p' n' c', .slice p'' n'' c''])).run Tryz.prog w = .ok () (w.setRow (W.heap.size + 3) #[.slice p n c, .slice p' n' c', .slice p'' n'' c'']))) := fun w h => ⟨h, (N.cells_at (L := [vp]) (h.get 2 (by rw [← hL]; rfl)) rfl).1, (N.cells_at (L := [ax, ay, .slice pz (N.mny za) kz]) (h.get 1 (by rw [← hL]; rfl)) rfl).1, (N.cells_at (L := [ax, ay, .slice pz (N.mny za) kz]) (h.get 1 (by rw [← hL]; rfl)) rfl).1, (N.cells_at (L := [ax, ay, .slice pz (N.mny za) kz]) (h.get 1 (by rw [← hL]; rfl)) rfl).1, (N.cells_at (L := [.slice pb (N.mny xb) kb, .slice pd (N.mny yb) kd, .bool false]) (h.get 0 (by rw [← hL]; rfl)) rfl).1, (N.cells_at (L := [.slice pb (N.mny xb) kb, .slice pd (N.mny yb) kd, .bool false]) (h.get 0 (by rw [← hL]; rfl)) rfl).1, h.st⟩
  have Z : Fs W (W.heap.size + 3) L _ := ⟨_, _, _, F⟩
  obtain ⟨-, qf, qx, qy, qz, qbx, qby, qs⟩ := HS.out _ Z
  go_enter Tryz.func66, Tryz.ntmps66
  go_upto_region 1 with fail
  simp only [Nat.add_assoc, Nat.reduceAdd]
  clear hV F
  go_wp2_with fail
  refine (H3.out _ _ _ (RN.blk Z.bel HP.out) (RN.blk Z.bel HZA.out) (RN.blk Z.bel HZA.out)).mono ?_
  rintro e y1 ⟨v1, rfl, r1, hb⟩
  replace Z := Z.blk hb
  clear hb qf qx qy qz qbx qby qs
  go_upto_region 4 with fail
  have hS0 := HS.out _ Z
  replace r1 := RN.drew' r1
  go_region_held3 (fun w => Fs W (W.heap.size + 3) L w ∧ w.cell? ⟨W.heap.size, 0, none⟩ = some vp ∧ w.cell? ⟨W.heap.size + 1, 0, none⟩ = some ax ∧ w.cell? ⟨W.heap.size + 1, 1, none⟩ = some ay ∧ w.cell? ⟨W.heap.size + 1, 2, none⟩ = some (.slice pz (N.mny za) kz) ∧ w.cell? ⟨W.heap.size + 2, 0, none⟩ = some (.slice pb (N.mny xb) kb) ∧ w.cell? ⟨W.heap.size + 2, 1, none⟩ = some (.slice pd (N.mny yb) kd) ∧ (∀ p n c p' n' c' p'' n'' c'', (sdStore (.pointer (some ⟨W.heap.size + 3, 0, none⟩)) (.agg #[.slice p n c, .slice p' n' c', .slice p'' n'' c''])).run Tryz.prog w = .ok () (w.setRow (W.heap.size + 3) #[.slice p n c, .slice p' n' c', .slice p'' n'' c''])))
    (first | assumption | (apply HS.out; repeat (first | assumption | apply Fs.drew | apply Fs.set)))
    (first
      | (go_at_call 55; with_reducible refine (H4b.out _ _ _ (RN.blk (Fs.bel (by repeat (first | assumption | apply Fs.drew))) HP.out) r11 (RN.blk (Fs.bel (by repeat (first | assumption | apply Fs.drew))) HXA.out)).mono ?_; rintro e w12 ⟨v12, rfl, r12, hb12⟩; have F12 := Fs.blk (by repeat (first | assumption | apply Fs.drew)) hb12; have hs12 := HS.out _ F12; have r1 := RN.blk hb12 r1)
      | (go_at_call 37; with_reducible refine (H4a.out _ _ _ (RN.blk (Fs.bel (by repeat (first | assumption | apply Fs.drew))) HP.out) (RN.blk (Fs.bel (by repeat (first | assumption | apply Fs.drew))) HXB.out) r1).mono ?_; rintro e w11 ⟨v11, rfl, r11, hb11⟩; have F11 := Fs.blk (by repeat (first | assumption | apply Fs.drew)) hb11; have hs11 := HS.out _ F11; have r1 := RN.blk hb11 r1))
  have Z := F12
  have r2 := RN.drew' r1
  have r3 := RN.drew' r12
  clear hS0
  go_upto_region 5 with fail
  have hS0 := HS.out _ Z
  go_region_held3 (fun w => Fs W (W.heap.size + 3) L w ∧ w.cell? ⟨W.heap.size, 0, none⟩ = some vp ∧ w.cell? ⟨W.heap.size + 1, 0, none⟩ = some ax ∧ w.cell? ⟨W.heap.size + 1, 1, none⟩ = some ay ∧ w.cell? ⟨W.heap.size + 1, 2, none⟩ = some (.slice pz (N.mny za) kz) ∧ w.cell? ⟨W.heap.size + 2, 0, none⟩ = some (.slice pb (N.mny xb) kb) ∧ w.cell? ⟨W.heap.size + 2, 1, none⟩ = some (.slice pd (N.mny yb) kd) ∧ (∀ p n c p' n' c' p'' n'' c'', (sdStore (.pointer (some ⟨W.heap.size + 3, 0, none⟩)) (.agg #[.slice p n c, .slice p' n' c', .slice p'' n'' c''])).run Tryz.prog w = .ok () (w.setRow (W.heap.size + 3) #[.slice p n c, .slice p' n' c', .slice p'' n'' c''])))
    (first | assumption | (apply HS.out; repeat (first | assumption | apply Fs.drew | apply Fs.set)))
    (first
      | (go_at_call 55; with_reducible refine (H5c.out _ _ _ (RN.blk (Fs.bel (by repeat (first | assumption | apply Fs.drew))) HP.out) r22 (RN.blk (Fs.bel (by repeat (first | assumption | apply Fs.drew))) HYA.out)).mono ?_; rintro e w23 ⟨v23, rfl, r23, hb23⟩; have F23 := Fs.blk (by repeat (first | assumption | apply Fs.drew)) hb23; have hs23 := HS.out _ F23; have r3 := RN.blk hb23 r3)
      | (go_at_call 37; with_reducible refine (H5b.out _ _ _ (RN.blk (Fs.bel (by repeat (first | assumption | apply Fs.drew))) HP.out) r21 (RN.blk (Fs.bel (by repeat (first | assumption | apply Fs.drew))) HZA.out)).mono ?_; rintro e w22 ⟨v22, rfl, r22, hb22⟩; have F22 := Fs.blk (by repeat (first | assumption | apply Fs.drew)) hb22; have hs22 := HS.out _ F22; have r3 := RN.blk hb22 r3)
      | (go_at_call 37; with_reducible refine (H5a.out _ _ _ (RN.blk (Fs.bel (by repeat (first | assumption | apply Fs.drew))) HP.out) (RN.blk (Fs.bel (by repeat (first | assumption | apply Fs.drew))) HYB.out) r2).mono ?_; rintro e w21 ⟨v21, rfl, r21, hb21⟩; have F21 := Fs.blk (by repeat (first | assumption | apply Fs.drew)) hb21; have hs21 := HS.out _ F21; have r3 := RN.blk hb21 r3))
  have Z := F23
  obtain ⟨ph, kh, rfl⟩ := r3.sl
  obtain ⟨pr, kr, rfl⟩ := r23.sl
  clear hS0
  have ld := sdLoad_run (Z.get 1 (by rw [← hL]; rfl))
  obtain ⟨-, qf, qx, qy, qz, qbx, qby, qs⟩ := HS.out _ Z
  go_wp2_with fail
  refine (HT.out _ Z.bel).mono ?_
  rintro e y9 ⟨p1, k1, p2, k2, p3, k3, rfl, g1, g2, g3, hb⟩
  replace Z := Z.blk hb
  clear hb qf qx qy qz qbx qby qs
  obtain ⟨-, qf, qx, qy, qz, qbx, qby, qs⟩ := HS.out _ Z
  have F6 := Z.fin (.slice p1 (N.mny tx) k1) (.slice p2 (N.mny ty) k2) (.slice p3 (N.mny tz) k3)
  obtain ⟨LL, hLL⟩ := Z.at
  go_wp2
  exact bodyPost_ret (results_sd Tryz.results66 rfl (F6.get 0 rfl)) rfl ⟨_, _, _, _, _, _, rfl, rn_rows g1 hLL, rn_rows g2 hLL, rn_rows g3 hLL, F6.bel⟩
set_option maxRecDepth 100000 in
set_option maxHeartbeats 2000000 in
theorem rplus_d (W : World) (vp ax ay : Value) (pz : Option Addr) (kz : Nat) (pb pd : Option Addr) (kb kd xb yb : Nat) (xa ya za zz bz dh b2 b3 dr hh u h3 rr x1 x2 X3 ux ru yh Y3 Z3 : Nat) (hP : RN W vp pP) (hxa : RN W ax xa) (hya : RN W ay ya) (hza : RN W (.slice pz (N.mny za) kz) za) (hxb : RN W (.slice pb (N.mny xb) kb) xb) (hyb : RN W (.slice pd (N.mny yb) kd) yb) (l1 : xa < pP) (l2 : ya < pP) (l3 : za < pP) (l4 : xb < pP) (l5 : yb < pP) (h0 : za ≠ 0) (e_zz : mtimes za za = zz) (e_bz : mtimes xb zz = bz) (e_dh : mminus bz xa = dh) (e_b2 : mtimes yb zz = b2) (e_b3 : mtimes b2 za = b3) (e_dr : mminus b3 ya = dr) (e_hh : mtimes dh dh = hh) (e_u : mtimes xa hh = u) (e_h3 : mtimes hh dh = h3) (e_rr : mtimes dr dr = rr) (e_x1 : mminus rr h3 = x1) (e_x2 : mplus u u = x2) (e_X3 : mminus x1 x2 = X3) (e_ux : mminus u X3 = ux) (e_ru : mtimes dr ux = ru) (e_yh : mtimes ya h3 = yh) (e_Y3 : mminus ru yh = Y3) (e_Z3 : mtimes za dh = Z3) (hz : dh ≠ 0) : Calls Tryz.prog 66 #[.agg #[vp], .agg #[ax, ay, .slice pz (N.mny za) kz], .agg #[.slice pb (N.mny xb) kb, .slice pd (N.mny yb) kd, .bool false]] W fun e w' => ∃ p k p' k' p'' k'', e = .returned (.agg #[.slice p (N.mny X3) k, .slice p' (N.mny Y3) k', .slice p'' (N.mny Z3) k'']) ∧ RN w' (.slice p (N.mny X3) k) X3 ∧ RN w' (.slice p' (N.mny Y3) k') Y3 ∧ RN w' (.slice p'' (N.mny Z3) k'') Z3 ∧ Below W.heap.size W w' := by
  have E_zz := Hid.mk e_zz
  have b_zz : zz < pP := by rw [← e_zz]; exact mtimes_lt _ _
  have E_bz := Hid.mk e_bz
  have b_bz : bz < pP := by rw [← e_bz]; exact mtimes_lt _ _
  have E_dh := Hid.mk e_dh
  have b_dh : dh < pP := by rw [← e_dh]; exact mminus_lt b_bz l1
  have E_b2 := Hid.mk e_b2
  have b_b2 : b2 < pP := by rw [← e_b2]; exact mtimes_lt _ _
  have E_b3 := Hid.mk e_b3
  have b_b3 : b3 < pP := by rw [← e_b3]; exact mtimes_lt _ _
  have E_dr := Hid.mk e_dr
  have b_dr : dr < pP := by rw [← e_dr]; exact mminus_lt b_b3 l2
  have E_hh := Hid.mk e_hh
  have b_hh : hh < pP := by rw [← e_hh]; exact mtimes_lt _ _
  have E_u := Hid.mk e_u
  have b_u : u < pP := by rw [← e_u]; exact mtimes_lt _ _
  have E_h3 := Hid.mk e_h3
  have b_h3 : h3 < pP := by rw [← e_h3]; exact mtimes_lt _ _
  have E_rr := Hid.mk e_rr
  have b_rr : rr < pP := by rw [← e_rr]; exact mtimes_lt _ _
  have E_x1 := Hid.mk e_x1
  have b_x1 : x1 < pP := by rw [← e_x1]; exact mminus_lt b_rr b_h3
  have E_x2 := Hid.mk e_x2
  have b_x2 : x2 < pP := by rw [← e_x2]; exact mplus_lt b_u b_u
  have E_X3 := Hid.mk e_X3
  have b_X3 : X3 < pP := by rw [← e_X3]; exact mminus_lt b_x1 b_x2
  have E_ux := Hid.mk e_ux
  have b_ux : ux < pP := by rw [← e_ux]; exact mminus_lt b_u b_X3
  have E_ru := Hid.mk e_ru
  have b_ru : ru < pP := by rw [← e_ru]; exact mtimes_lt _ _
  have E_yh := Hid.mk e_yh
  have b_yh : yh < pP := by rw [← e_yh]; exact mtimes_lt _ _
  have E_Y3 := Hid.mk e_Y3
  have b_Y3 : Y3 < pP := by rw [← e_Y3]; exact mminus_lt b_ru b_yh
  have E_Z3 := Hid.mk e_Z3
  have b_Z3 : Z3 < pP := by rw [← e_Z3]; exact mtimes_lt _ _
  have H3 : Hid (∀ w va vb, RN w vp pP → RN w va za → RN w vb za → Calls Tryz.prog 37 #[.agg #[vp], va, vb] w fun e w' => ∃ v, e = .returned v ∧ RN w' v zz ∧ Below w.heap.size w w') := fun w va vb h k l => (rfMul w vp va vb za za h k l l3 l3).mono fun e w' ⟨v, q1, q2, q3⟩ => ⟨v, q1, by rw [← E_zz.out]; exact q2, q3⟩
  have H4a : Hid (∀ w va vb, RN w vp pP → RN w va xb → RN w vb zz → Calls Tryz.prog 37 #[.agg #[vp], va, vb] w fun e w' => ∃ v, e = .returned v ∧ RN w' v bz ∧ Below w.heap.size w w') := fun w va vb h k l => (rfMul w vp va vb xb zz h k l l4 b_zz).mono fun e w' ⟨v, q1, q2, q3⟩ => ⟨v, q1, by rw [← E_bz.out]; exact q2, q3⟩
  have H4b : Hid (∀ w va vb, RN w vp pP → RN w va bz → RN w vb xa → Calls Tryz.prog 55 #[.agg #[vp], va, vb] w fun e w' => ∃ v, e = .returned v ∧ RN w' v dh ∧ Below w.heap.size w w') := fun w va vb h k l => (rfSub w vp va vb bz xa h k l b_bz l1).mono fun e w' ⟨v, q1, q2, q3⟩ => ⟨v, q1, by rw [← E_dh.out]; exact q2, q3⟩
  have H5a : Hid (∀ w va vb, RN w vp pP → RN w va yb → RN w vb zz → Calls Tryz.prog 37 #[.agg #[vp], va, vb] w fun e w' => ∃ v, e = .returned v ∧ RN w' v b2 ∧ Below w.heap.size w w') := fun w va vb h k l => (rfMul w vp va vb yb zz h k l l5 b_zz).mono fun e w' ⟨v, q1, q2, q3⟩ => ⟨v, q1, by rw [← E_b2.out]; exact q2, q3⟩
  have H5b : Hid (∀ w va vb, RN w vp pP → RN w va b2 → RN w vb za → Calls Tryz.prog 37 #[.agg #[vp], va, vb] w fun e w' => ∃ v, e = .returned v ∧ RN w' v b3 ∧ Below w.heap.size w w') := fun w va vb h k l => (rfMul w vp va vb b2 za h k l b_b2 l3).mono fun e w' ⟨v, q1, q2, q3⟩ => ⟨v, q1, by rw [← E_b3.out]; exact q2, q3⟩
  have H5c : Hid (∀ w va vb, RN w vp pP → RN w va b3 → RN w vb ya → Calls Tryz.prog 55 #[.agg #[vp], va, vb] w fun e w' => ∃ v, e = .returned v ∧ RN w' v dr ∧ Below w.heap.size w w') := fun w va vb h k l => (rfSub w vp va vb b3 ya h k l b_b3 l2).mono fun e w' ⟨v, q1, q2, q3⟩ => ⟨v, q1, by rw [← E_dr.out]; exact q2, q3⟩
  have H10 : Hid (∀ w va vb, RN w vp pP → RN w va dh → RN w vb dh → Calls Tryz.prog 37 #[.agg #[vp], va, vb] w fun e w' => ∃ v, e = .returned v ∧ RN w' v hh ∧ Below w.heap.size w w') := fun w va vb h k l => (rfMul w vp va vb dh dh h k l b_dh b_dh).mono fun e w' ⟨v, q1, q2, q3⟩ => ⟨v, q1, by rw [← E_hh.out]; exact q2, q3⟩
  have H11 : Hid (∀ w va vb, RN w vp pP → RN w va xa → RN w vb hh → Calls Tryz.prog 37 #[.agg #[vp], va, vb] w fun e w' => ∃ v, e = .returned v ∧ RN w' v u ∧ Below w.heap.size w w') := fun w va vb h k l => (rfMul w vp va vb xa hh h k l l1 b_hh).mono fun e w' ⟨v, q1, q2, q3⟩ => ⟨v, q1, by rw [← E_u.out]; exact q2, q3⟩
  have H12 : Hid (∀ w va vb, RN w vp pP → RN w va hh → RN w vb dh → Calls Tryz.prog 37 #[.agg #[vp], va, vb] w fun e w' => ∃ v, e = .returned v ∧ RN w' v h3 ∧ Below w.heap.size w w') := fun w va vb h k l => (rfMul w vp va vb hh dh h k l b_hh b_dh).mono fun e w' ⟨v, q1, q2, q3⟩ => ⟨v, q1, by rw [← E_h3.out]; exact q2, q3⟩
  have H13a : Hid (∀ w va vb, RN w vp pP → RN w va dr → RN w vb dr → Calls Tryz.prog 37 #[.agg #[vp], va, vb] w fun e w' => ∃ v, e = .returned v ∧ RN w' v rr ∧ Below w.heap.size w w') := fun w va vb h k l => (rfMul w vp va vb dr dr h k l b_dr b_dr).mono fun e w' ⟨v, q1, q2, q3⟩ => ⟨v, q1, by rw [← E_rr.out]; exact q2, q3⟩
  have H13b : Hid (∀ w va vb, RN w vp pP → RN w va rr → RN w vb h3 → Calls Tryz.prog 55 #[.agg #[vp], va, vb] w fun e w' => ∃ v, e = .returned v ∧ RN w' v x1 ∧ Below w.heap.size w w') := fun w va vb h k l => (rfSub w vp va vb rr h3 h k l b_rr b_h3).mono fun e w' ⟨v, q1, q2, q3⟩ => ⟨v, q1, by rw [← E_x1.out]; exact q2, q3⟩
  have H13c : Hid (∀ w va vb, RN w vp pP → RN w va u → RN w vb u → Calls Tryz.prog 56 #[.agg #[vp], va, vb] w fun e w' => ∃ v, e = .returned v ∧ RN w' v x2 ∧ Below w.heap.size w w') := fun w va vb h k l => (rfAdd w vp va vb u u h k l b_u b_u).mono fun e w' ⟨v, q1, q2, q3⟩ => ⟨v, q1, by rw [← E_x2.out]; exact q2, q3⟩
  have H13d : Hid (∀ w va vb, RN w vp pP → RN w va x1 → RN w vb x2 → Calls Tryz.prog 55 #[.agg #[vp], va, vb] w fun e w' => ∃ v, e = .returned v ∧ RN w' v X3 ∧ Below w.heap.size w w') := fun w va vb h k l => (rfSub w vp va vb x1 x2 h k l b_x1 b_x2).mono fun e w' ⟨v, q1, q2, q3⟩ => ⟨v, q1, by rw [← E_X3.out]; exact q2, q3⟩
  have H14a : Hid (∀ w va vb, RN w vp pP → RN w va u → RN w vb X3 → Calls Tryz.prog 55 #[.agg #[vp], va, vb] w fun e w' => ∃ v, e = .returned v ∧ RN w' v ux ∧ Below w.heap.size w w') := fun w va vb h k l => (rfSub w vp va vb u X3 h k l b_u b_X3).mono fun e w' ⟨v, q1, q2, q3⟩ => ⟨v, q1, by rw [← E_ux.out]; exact q2, q3⟩
  have H14b : Hid (∀ w va vb, RN w vp pP → RN w va dr → RN w vb ux → Calls Tryz.prog 37 #[.agg #[vp], va, vb] w fun e w' => ∃ v, e = .returned v ∧ RN w' v ru ∧ Below w.heap.size w w') := fun w va vb h k l => (rfMul w vp va vb dr ux h k l b_dr b_ux).mono fun e w' ⟨v, q1, q2, q3⟩ => ⟨v, q1, by rw [← E_ru.out]; exact q2, q3⟩
  have H14c : Hid (∀ w va vb, RN w vp pP → RN w va ya → RN w vb h3 → Calls Tryz.prog 37 #[.agg #[vp], va, vb] w fun e w' => ∃ v, e = .returned v ∧ RN w' v yh ∧ Below w.heap.size w w') := fun w va vb h k l => (rfMul w vp va vb ya h3 h k l l2 b_h3).mono fun e w' ⟨v, q1, q2, q3⟩ => ⟨v, q1, by rw [← E_yh.out]; exact q2, q3⟩
  have H14d : Hid (∀ w va vb, RN w vp pP → RN w va ru → RN w vb yh → Calls Tryz.prog 55 #[.agg #[vp], va, vb] w fun e w' => ∃ v, e = .returned v ∧ RN w' v Y3 ∧ Below w.heap.size w w') := fun w va vb h k l => (rfSub w vp va vb ru yh h k l b_ru b_yh).mono fun e w' ⟨v, q1, q2, q3⟩ => ⟨v, q1, by rw [← E_Y3.out]; exact q2, q3⟩
  have H15D : Hid (∀ w va vb, RN w vp pP → RN w va za → RN w vb dh → Calls Tryz.prog 37 #[.agg #[vp], va, vb] w fun e w' => ∃ v, e = .returned v ∧ RN w' v Z3 ∧ Below w.heap.size w w') := fun w va vb h k l => (rfMul w vp va vb za dh h k l l3 b_dh).mono fun e w' ⟨v, q1, q2, q3⟩ => ⟨v, q1, by rw [← E_Z3.out]; exact q2, q3⟩
  have H15 : Hid (∀ w va vb, RN w vp pP → RN w va za → RN w vb dh → Calls Tryz.prog 37 #[.agg #[vp], va, vb] w fun e w' => ∃ p k, e = .returned (.slice p (N.mny Z3) k) ∧ RN w' (.slice p (N.mny Z3) k) Z3 ∧ Below w.heap.size w w') := fun w va vb h k l => (H15D.out w va vb h k l).mono fun e w' ⟨v, q1, q2, q3⟩ => by
    obtain ⟨p, c, rfl⟩ := q2.sl
    exact ⟨p, c, q1, q2, q3⟩
  clear H15D
  have hl0 := mny_0 h0
  have hl1 := mny_0 hz
  have HP := Hid.mk hP
  have HXA := Hid.mk hxa
  have HYA := Hid.mk hya
  have HZA := Hid.mk hza
  have HXB := Hid.mk hxb
  have HYB := Hid.mk hyb
  clear hP hxa hya hza hxb hyb l1 l2 l3 l4 l5 h0 b_zz E_zz e_zz b_bz E_bz e_bz b_dh E_dh e_dh b_b2 E_b2 e_b2 b_b3 E_b3 e_b3 b_dr E_dr e_dr b_hh E_hh e_hh b_u E_u e_u b_h3 E_h3 e_h3 b_rr E_rr e_rr b_x1 E_x1 e_x1 b_x2 E_x2 e_x2 b_X3 E_X3 e_X3 b_ux E_ux e_ux b_ru E_ru e_ru b_yh E_yh e_yh b_Y3 E_Y3 e_Y3 b_Z3 E_Z3 e_Z3 hz
  obtain ⟨pp, hpp⟩ : ∃ q, pP = q := ⟨_, rfl⟩
  rw [hpp] at HP H3 H4a H4b H5a H5b H5c H10 H11 H12 H13a H13b H13c H13d H14a H14b H14c H14d H15
  clear hpp
  obtain ⟨V, hV, F⟩ : ∃ V, ((((W.alloc (Obj.cells #[vp] 54 (0, 0))).alloc (Obj.cells #[ax, ay, .slice pz (N.mny za) kz] 96 (0, 0))).alloc (Obj.cells #[.slice pb (N.mny xb) kb, .slice pd (N.mny yb) kd, .bool false] 47 (0, 0))).alloc (Obj.cells #[.slice none 0 0, .slice none 0 0, .slice none 0 0] 96 (0, 0))) = V ∧ Fm W [(W.heap.size + 3, Obj.cells #[.slice none 0 0, .slice none 0 0, .slice none 0 0] 96 (0, 0)), (W.heap.size + 2, Obj.cells #[.slice pb (N.mny xb) kb, .slice pd (N.mny yb) kd, .bool false] 47 (0, 0)), (W.heap.size + 1, Obj.cells #[ax, ay, .slice pz (N.mny za) kz] 96 (0, 0)), (W.heap.size, Obj.cells #[vp] 54 (0, 0))] V := ⟨_, rfl, Fm.box4 W _ _ _ _⟩
  obtain ⟨L, hL⟩ : ∃ L : List (Nat × Obj), [(W.heap.size + 2, Obj.cells #[.slice pb (N.mny xb) kb, .slice pd (N.mny yb) kd, .bool false] 47 (0, 0)), (W.heap.size + 1, Obj.cells #[ax, ay, .slice pz (N.mny za) kz] 96 (0, 0)), (W.heap.size, Obj.cells #[vp] 54 (0, 0))] = L := ⟨_, rfl⟩
  rw [hL] at F
  have HS : Hid (∀ w, Fs W (W.heap.size + 3) L w → Fs W (W.heap.size + 3) L w ∧ w.cell? ⟨W.heap.size, 0, none⟩ = some vp ∧ w.cell? ⟨W.heap.size + 1, 0, none⟩ = some ax ∧ w.cell? ⟨W.heap.size + 1, 1, none⟩ = some ay ∧ w.cell? ⟨W.heap.size + 1, 2, none⟩ = some (.slice pz (N.mny za) kz) ∧ w.cell? ⟨W.heap.size + 2, 0, none⟩ = some (.slice pb (N.mny xb) kb) ∧ w.cell? ⟨W.heap.size + 2, 1, none⟩ = some (.slice pd (N.mny yb) kd) ∧ (∀ p n c p' n' c' p'' n'' c'', (sdStore (.pointer (some ⟨W.heap.size + 3, 0, none⟩)) (.agg #[.slice p n c, .slice p' n' c', .slice p'' n'' c''])).run Tryz.prog w = .ok () (w.setRow (W.heap.size + 3) #[.slice p n c, .slice p' n' c', .slice p'' n'' c'']))) := fun w h => ⟨h, (N.cells_at (L := [vp]) (h.get 2 (by rw [← hL]; rfl)) rfl).1, (N.cells_at (L := [ax, ay, .slice pz (N.mny za) kz]) (h.get 1 (by rw [← hL]; rfl)) rfl).1, (N.cells_at (L := [ax, ay, .slice pz (N.mny za) kz]) (h.get 1 (by rw [← hL]; rfl)) rfl).1, (N.cells_at (L := [ax, ay, .slice pz (N.mny za) kz]) (h.get 1 (by rw [← hL]; rfl)) rfl).1, (N.cells_at (L := [.slice pb (N.mny xb) kb, .slice pd (N.mny yb) kd, .bool false]) (h.get 0 (by rw [← hL]; rfl)) rfl).1, (N.cells_at (L := [.slice pb (N.mny xb) kb, .slice pd (N.mny yb) kd, .bool false]) (h.get 0 (by rw [← hL]; rfl)) rfl).1, h.st⟩
  have Z : Fs W (W.heap.size + 3) L _ := ⟨_, _, _, F⟩
  obtain ⟨-, qf, qx, qy, qz, qbx, qby, qs⟩ := HS.out _ Z
  go_enter Tryz.func66, Tryz.ntmps66
  go_upto_region 1 with fail
  simp only [Nat.add_assoc, Nat.reduceAdd]
  clear hV F
  go_wp2_with fail
  refine (H3.out _ _ _ (RN.blk Z.bel HP.out) (RN.blk Z.bel HZA.out) (RN.blk Z.bel HZA.out)).mono ?_
  rintro e y1 ⟨v1, rfl, r1, hb⟩
  replace Z := Z.blk hb
  clear hb qf qx qy qz qbx qby qs
  go_upto_region 4 with fail
  have hS0 := HS.out _ Z
  replace r1 := RN.drew' r1
  go_region_held3 (fun w => Fs W (W.heap.size + 3) L w ∧ w.cell? ⟨W.heap.size, 0, none⟩ = some vp ∧ w.cell? ⟨W.heap.size + 1, 0, none⟩ = some ax ∧ w.cell? ⟨W.heap.size + 1, 1, none⟩ = some ay ∧ w.cell? ⟨W.heap.size + 1, 2, none⟩ = some (.slice pz (N.mny za) kz) ∧ w.cell? ⟨W.heap.size + 2, 0, none⟩ = some (.slice pb (N.mny xb) kb) ∧ w.cell? ⟨W.heap.size + 2, 1, none⟩ = some (.slice pd (N.mny yb) kd) ∧ (∀ p n c p' n' c' p'' n'' c'', (sdStore (.pointer (some ⟨W.heap.size + 3, 0, none⟩)) (.agg #[.slice p n c, .slice p' n' c', .slice p'' n'' c''])).run Tryz.prog w = .ok () (w.setRow (W.heap.size + 3) #[.slice p n c, .slice p' n' c', .slice p'' n'' c''])))
    (first | assumption | (apply HS.out; repeat (first | assumption | apply Fs.drew | apply Fs.set)))
    (first
      | (go_at_call 55; with_reducible refine (H4b.out _ _ _ (RN.blk (Fs.bel (by repeat (first | assumption | apply Fs.drew))) HP.out) r11 (RN.blk (Fs.bel (by repeat (first | assumption | apply Fs.drew))) HXA.out)).mono ?_; rintro e w12 ⟨v12, rfl, r12, hb12⟩; have F12 := Fs.blk (by repeat (first | assumption | apply Fs.drew)) hb12; have hs12 := HS.out _ F12; have r1 := RN.blk hb12 r1)
      | (go_at_call 37; with_reducible refine (H4a.out _ _ _ (RN.blk (Fs.bel (by repeat (first | assumption | apply Fs.drew))) HP.out) (RN.blk (Fs.bel (by repeat (first | assumption | apply Fs.drew))) HXB.out) r1).mono ?_; rintro e w11 ⟨v11, rfl, r11, hb11⟩; have F11 := Fs.blk (by repeat (first | assumption | apply Fs.drew)) hb11; have hs11 := HS.out _ F11; have r1 := RN.blk hb11 r1))
  have Z := F12
  have r2 := RN.drew' r1
  have r3 := RN.drew' r12
  clear hS0
  go_upto_region 5 with fail
  have hS0 := HS.out _ Z
  go_region_held3 (fun w => Fs W (W.heap.size + 3) L w ∧ w.cell? ⟨W.heap.size, 0, none⟩ = some vp ∧ w.cell? ⟨W.heap.size + 1, 0, none⟩ = some ax ∧ w.cell? ⟨W.heap.size + 1, 1, none⟩ = some ay ∧ w.cell? ⟨W.heap.size + 1, 2, none⟩ = some (.slice pz (N.mny za) kz) ∧ w.cell? ⟨W.heap.size + 2, 0, none⟩ = some (.slice pb (N.mny xb) kb) ∧ w.cell? ⟨W.heap.size + 2, 1, none⟩ = some (.slice pd (N.mny yb) kd) ∧ (∀ p n c p' n' c' p'' n'' c'', (sdStore (.pointer (some ⟨W.heap.size + 3, 0, none⟩)) (.agg #[.slice p n c, .slice p' n' c', .slice p'' n'' c''])).run Tryz.prog w = .ok () (w.setRow (W.heap.size + 3) #[.slice p n c, .slice p' n' c', .slice p'' n'' c''])))
    (first | assumption | (apply HS.out; repeat (first | assumption | apply Fs.drew | apply Fs.set)))
    (first
      | (go_at_call 55; with_reducible refine (H5c.out _ _ _ (RN.blk (Fs.bel (by repeat (first | assumption | apply Fs.drew))) HP.out) r22 (RN.blk (Fs.bel (by repeat (first | assumption | apply Fs.drew))) HYA.out)).mono ?_; rintro e w23 ⟨v23, rfl, r23, hb23⟩; have F23 := Fs.blk (by repeat (first | assumption | apply Fs.drew)) hb23; have hs23 := HS.out _ F23; have r3 := RN.blk hb23 r3)
      | (go_at_call 37; with_reducible refine (H5b.out _ _ _ (RN.blk (Fs.bel (by repeat (first | assumption | apply Fs.drew))) HP.out) r21 (RN.blk (Fs.bel (by repeat (first | assumption | apply Fs.drew))) HZA.out)).mono ?_; rintro e w22 ⟨v22, rfl, r22, hb22⟩; have F22 := Fs.blk (by repeat (first | assumption | apply Fs.drew)) hb22; have hs22 := HS.out _ F22; have r3 := RN.blk hb22 r3)
      | (go_at_call 37; with_reducible refine (H5a.out _ _ _ (RN.blk (Fs.bel (by repeat (first | assumption | apply Fs.drew))) HP.out) (RN.blk (Fs.bel (by repeat (first | assumption | apply Fs.drew))) HYB.out) r2).mono ?_; rintro e w21 ⟨v21, rfl, r21, hb21⟩; have F21 := Fs.blk (by repeat (first | assumption | apply Fs.drew)) hb21; have hs21 := HS.out _ F21; have r3 := RN.blk hb21 r3))
  have Z := F23
  obtain ⟨ph, kh, rfl⟩ := r3.sl
  obtain ⟨pr, kr, rfl⟩ := r23.sl
  clear hS0
  obtain ⟨-, qf, qx, qy, qz, qbx, qby, qs⟩ := HS.out _ Z
  go_wp2_with fail
  refine (H10.out _ _ _ (RN.blk Z.bel HP.out) r3 r3).mono ?_
  rintro e y31 ⟨v31, rfl, r31, hb⟩
  replace Z := Z.blk hb
  replace r3 := RN.blk hb r3
  replace r23 := RN.blk hb r23
  clear hb qf qx qy qz qbx qby qs
  obtain ⟨-, qf, qx, qy, qz, qbx, qby, qs⟩ := HS.out _ Z
  go_wp2_with fail
  refine (H11.out _ _ _ (RN.blk Z.bel HP.out) (RN.blk Z.bel HXA.out) r31).mono ?_
  rintro e y32 ⟨v32, rfl, r32, hb⟩
  replace Z := Z.blk hb
  replace r3 := RN.blk hb r3
  replace r23 := RN.blk hb r23
  replace r31 := RN.blk hb r31
  clear hb qf qx qy qz qbx qby qs
  obtain ⟨-, qf, qx, qy, qz, qbx, qby, qs⟩ := HS.out _ Z
  go_wp2_with fail
  refine (H12.out _ _ _ (RN.blk Z.bel HP.out) r31 r3).mono ?_
  rintro e y33 ⟨v33, rfl, r33, hb⟩
  replace Z := Z.blk hb
  replace r3 := RN.blk hb r3
  replace r23 := RN.blk hb r23
  replace r32 := RN.blk hb r32
  clear hb qf qx qy qz qbx qby qs
  have r4 := RN.drew' r3
  have r5 := RN.drew' r23
  have r6 := RN.drew' r32
  have r7 := RN.drew' r33
  go_upto_region 13 with fail
  have hS0 := HS.out _ Z
  go_region_held3 (fun w => Fs W (W.heap.size + 3) L w ∧ w.cell? ⟨W.heap.size, 0, none⟩ = some vp ∧ w.cell? ⟨W.heap.size + 1, 0, none⟩ = some ax ∧ w.cell? ⟨W.heap.size + 1, 1, none⟩ = some ay ∧ w.cell? ⟨W.heap.size + 1, 2, none⟩ = some (.slice pz (N.mny za) kz) ∧ w.cell? ⟨W.heap.size + 2, 0, none⟩ = some (.slice pb (N.mny xb) kb) ∧ w.cell? ⟨W.heap.size + 2, 1, none⟩ = some (.slice pd (N.mny yb) kd) ∧ (∀ p n c p' n' c' p'' n'' c'', (sdStore (.pointer (some ⟨W.heap.size + 3, 0, none⟩)) (.agg #[.slice p n c, .slice p' n' c', .slice p'' n'' c''])).run Tryz.prog w = .ok () (w.setRow (W.heap.size + 3) #[.slice p n c, .slice p' n' c', .slice p'' n'' c''])))
    (first | assumption | (apply HS.out; repeat (first | assumption | apply Fs.drew | apply Fs.set)))
    (first
      | (go_at_call 55; with_reducible refine (H13d.out _ _ _ (RN.blk (Fs.bel (by repeat (first | assumption | apply Fs.drew))) HP.out) r42 r43).mono ?_; rintro e w44 ⟨v44, rfl, r44, hb44⟩; have F44 := Fs.blk (by repeat (first | assumption | apply Fs.drew)) hb44; have hs44 := HS.out _ F44; have r4 := RN.blk hb44 r4; have r5 := RN.blk hb44 r5; have r6 := RN.blk hb44 r6; have r7 := RN.blk hb44 r7)
      | (go_at_call 56; with_reducible refine (H13c.out _ _ _ (RN.blk (Fs.bel (by repeat (first | assumption | apply Fs.drew))) HP.out) r6 r6).mono ?_; rintro e w43 ⟨v43, rfl, r43, hb43⟩; have F43 := Fs.blk (by repeat (first | assumption | apply Fs.drew)) hb43; have hs43 := HS.out _ F43; have r4 := RN.blk hb43 r4; have r5 := RN.blk hb43 r5; have r6 := RN.blk hb43 r6; have r7 := RN.blk hb43 r7; have r42 := RN.blk hb43 r42)
      | (go_at_call 55; with_reducible refine (H13b.out _ _ _ (RN.blk (Fs.bel (by repeat (first | assumption | apply Fs.drew))) HP.out) r41 r7).mono ?_; rintro e w42 ⟨v42, rfl, r42, hb42⟩; have F42 := Fs.blk (by repeat (first | assumption | apply Fs.drew)) hb42; have hs42 := HS.out _ F42; have r4 := RN.blk hb42 r4; have r5 := RN.blk hb42 r5; have r6 := RN.blk hb42 r6; have r7 := RN.blk hb42 r7)
      | (go_at_call 37; with_reducible refine (H13a.out _ _ _ (RN.blk (Fs.bel (by repeat (first | assumption | apply Fs.drew))) HP.out) r5 r5).mono ?_; rintro e w41 ⟨v41, rfl, r41, hb41⟩; have F41 := Fs.blk (by repeat (first | assumption | apply Fs.drew)) hb41; have hs41 := HS.out _ F41; have r4 := RN.blk hb41 r4; have r5 := RN.blk hb41 r5; have r6 := RN.blk hb41 r6; have r7 := RN.blk hb41 r7))
  have Z := F44
  obtain ⟨p44, k44, rfl⟩ := r44.sl
  have r14 := RN.drew' r4
  have r15 := RN.drew' r5
  have r16 := RN.drew' r6
  have r17 := RN.drew' r7
  have r18 := RN.drew' r44
  clear hS0
  go_upto_region 14 with fail
  have hS0 := HS.out _ Z
  go_region_held3 (fun w => Fs W (W.heap.size + 3) L w ∧ w.cell? ⟨W.heap.size, 0, none⟩ = some vp ∧ w.cell? ⟨W.heap.size + 1, 0, none⟩ = some ax ∧ w.cell? ⟨W.heap.size + 1, 1, none⟩ = some ay ∧ w.cell? ⟨W.heap.size + 1, 2, none⟩ = some (.slice pz (N.mny za) kz) ∧ w.cell? ⟨W.heap.size + 2, 0, none⟩ = some (.slice pb (N.mny xb) kb) ∧ w.cell? ⟨W.heap.size + 2, 1, none⟩ = some (.slice pd (N.mny yb) kd) ∧ (∀ p n c p' n' c' p'' n'' c'', (sdStore (.pointer (some ⟨W.heap.size + 3, 0, none⟩)) (.agg #[.slice p n c, .slice p' n' c', .slice p'' n'' c''])).run Tryz.prog w = .ok () (w.setRow (W.heap.size + 3) #[.slice p n c, .slice p' n' c', .slice p'' n'' c''])))
    (first | assumption | (apply HS.out; repeat (first | assumption | apply Fs.drew | apply Fs.set)))
    (first
      | (go_at_call 55; with_reducible refine (H14d.out _ _ _ (RN.blk (Fs.bel (by repeat (first | assumption | apply Fs.drew))) HP.out) r52 r53).mono ?_; rintro e w54 ⟨v54, rfl, r54, hb54⟩; have F54 := Fs.blk (by repeat (first | assumption | apply Fs.drew)) hb54; have hs54 := HS.out _ F54; have r14 := RN.blk hb54 r14; have r18 := RN.blk hb54 r18)
      | (go_at_call 37; with_reducible refine (H14c.out _ _ _ (RN.blk (Fs.bel (by repeat (first | assumption | apply Fs.drew))) HP.out) (RN.blk (Fs.bel (by repeat (first | assumption | apply Fs.drew))) HYA.out) r17).mono ?_; rintro e w53 ⟨v53, rfl, r53, hb53⟩; have F53 := Fs.blk (by repeat (first | assumption | apply Fs.drew)) hb53; have hs53 := HS.out _ F53; have r14 := RN.blk hb53 r14; have r18 := RN.blk hb53 r18; have r52 := RN.blk hb53 r52)
      | (go_at_call 37; with_reducible refine (H14b.out _ _ _ (RN.blk (Fs.bel (by repeat (first | assumption | apply Fs.drew))) HP.out) r15 r51).mono ?_; rintro e w52 ⟨v52, rfl, r52, hb52⟩; have F52 := Fs.blk (by repeat (first | assumption | apply Fs.drew)) hb52; have hs52 := HS.out _ F52; have r14 := RN.blk hb52 r14; have r17 := RN.blk hb52 r17; have r18 := RN.blk hb52 r18)
      | (go_at_call 55; with_reducible refine (H14a.out _ _ _ (RN.blk (Fs.bel (by repeat (first | assumption | apply Fs.drew))) HP.out) r16 r18).mono ?_; rintro e w51 ⟨v51, rfl, r51, hb51⟩; have F51 := Fs.blk (by repeat (first | assumption | apply Fs.drew)) hb51; have hs51 := HS.out _ F51; have r14 := RN.blk hb51 r14; have r15 := RN.blk hb51 r15; have r17 := RN.blk hb51 r17; have r18 := RN.blk hb51 r18))
  have Z := F54
  obtain ⟨p54, k54, rfl⟩ := r54.sl
  clear hS0
  obtain ⟨-, qf, qx, qy, qz, qbx, qby, qs⟩ := HS.out _ Z
  go_wp2_with fail
  refine (H15.out _ _ _ (RN.blk Z.bel HP.out) (RN.blk Z.bel HZA.out) r14).mono ?_
  rintro e y61 ⟨p61, k61, rfl, r61, hb⟩
  replace Z := Z.blk hb
  replace r18 := RN.blk hb r18
  replace r54 := RN.blk hb r54
  clear hb qf qx qy qz qbx qby qs
  obtain ⟨-, qf, qx, qy, qz, qbx, qby, qs⟩ := HS.out _ Z
  have F6 := Z.fin (.slice p44 (N.mny X3) k44) (.slice p54 (N.mny Y3) k54) (.slice p61 (N.mny Z3) k61)
  obtain ⟨LL, hLL⟩ := Z.at
  go_wp2
  exact bodyPost_ret (results_sd Tryz.results66 rfl (F6.get 0 rfl)) rfl ⟨_, _, _, _, _, _, rfl, rn_rows r18 hLL, rn_rows r54 hLL, rn_rows r61 hLL, F6.bel⟩
theorem rplus_in (W : World) (vp v : Value) (a : T3) (pb pd : Option Addr) (kb kd xb yb : Nat) (hP : RN W vp pP) (ha : a.Ok) (h : Sc W v a) (hxb : RN W (.slice pb (N.mny xb) kb) xb) (hyb : RN W (.slice pd (N.mny yb) kd) yb) (l4 : xb < pP) (l5 : yb < pP) : Calls Tryz.prog 66 #[.agg #[vp], v, .agg #[.slice pb (N.mny xb) kb, .slice pd (N.mny yb) kd, .bool false]] W fun e w' => ∃ v', e = .returned v' ∧ Sc w' v' (a.dplus xb yb) ∧ Below W.heap.size W w' := by
  have HT0 := fun w (hb : Below W.heap.size W w) => rtwice_in w vp v a (RN.blk hb hP) ha (Sc.blk hb h)
  obtain ⟨p, k, p', k', p'', k'', rfl, h1, h2, h3⟩ := h
  by_cases h0 : a.z = 0
  · have hm : N.mny a.z = 0 := by rw [h0]; exact N.mny_zero
    have hd : a.dplus xb yb = ⟨xb, yb, 1⟩ := by unfold T3.dplus; rw [if_pos h0]
    rw [hd]
    refine (show Calls Tryz.prog _ #[.agg #[vp], .agg #[.slice p (N.mny a.x) k, .slice p' (N.mny a.y) k', .slice p'' (N.mny a.z) k''], _] W _ from by
      rw [hm]
      exact rplus_0 W vp _ _ p'' k'' pb pd kb kd xb yb hxb hyb).mono ?_
    rintro e w' ⟨q, j, q', j', q'', j'', rfl, g1, g2, g3, hb⟩
    exact ⟨_, rfl, ⟨q, j, q', j', q'', j'', rfl, g1, g2, g3⟩, hb⟩
  · unfold T3.dplus
    rw [if_neg h0]
    simp only
    by_cases hz : mminus (mtimes xb (mtimes a.z a.z)) a.x = 0
    · rw [if_pos hz]
      by_cases rz : mminus (mtimes (mtimes yb (mtimes a.z a.z)) a.z) a.y = 0
      · rw [if_pos rz]
        refine (rplus_t W vp _ _ p'' k'' pb pd kb kd xb yb a.x a.y a.z _ _ _ _ _ _ hP h1 h2 h3 hxb hyb ha.1 ha.2.1 ha.2.2 l4 l5 h0 rfl rfl rfl rfl rfl rfl hz rz a.dtwice.x a.dtwice.y a.dtwice.z (Hid.mk fun w hb => (HT0 w hb).mono fun e w' ⟨v', e1, ⟨q, j, q', j', q'', j'', e2, g1, g2, g3⟩, hb'⟩ => ⟨q, j, q', j', q'', j'', by rw [e1, e2], g1, g2, g3, hb'⟩)).mono ?_
        rintro e w' ⟨q, j, q', j', q'', j'', rfl, g1, g2, g3, hb⟩
        exact ⟨_, rfl, ⟨q, j, q', j', q'', j'', rfl, g1, g2, g3⟩, hb⟩
      · rw [if_neg rz]
        refine (rplus_n W vp _ _ p'' k'' pb pd kb kd xb yb a.x a.y a.z _ _ _ _ _ _ hP h1 h2 h3 hxb hyb ha.1 ha.2.1 ha.2.2 l4 l5 h0 rfl rfl rfl rfl rfl rfl hz rz).mono ?_
        rintro e w' ⟨rfl, hb⟩
        have z0 : RN w' (.slice none 0 0) 0 := RN.zero w'
        refine ⟨_, rfl, ⟨none, 0, none, 0, none, 0, ?_, ?_, ?_, ?_⟩, hb⟩
        · simp only [T3.zero, N.mny_zero]
        all_goals simpa only [T3.zero, N.mny_zero] using z0
    · rw [if_neg hz]
      refine (rplus_d W vp _ _ p'' k'' pb pd kb kd xb yb a.x a.y a.z _ _ _ _ _ _ _ _ _ _ _ _ _ _ _ _ _ _ hP h1 h2 h3 hxb hyb ha.1 ha.2.1 ha.2.2 l4 l5 h0 rfl rfl rfl rfl rfl rfl rfl rfl rfl rfl rfl rfl rfl rfl rfl rfl rfl rfl hz).mono ?_
      rintro e w' ⟨q, j, q', j', q'', j'', rfl, g1, g2, g3, hb⟩
      exact ⟨_, rfl, ⟨q, j, q', j', q'', j'', rfl, g1, g2, g3⟩, hb⟩
end Go.Proofs.YtpimliebiapnfaaGreatDoor