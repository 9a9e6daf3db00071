/- Texts of this proof, joined: CVerP, CRord. -/
import Derived.Test.YtpimliebiapnfaaGreatDoorJ30
import Derived.Test.YtpimliebiapnfaaGreatDoorJ15
import Derived.Test.YtpimliebiapnfaaGreatDoorJ22
import Derived.Test.YtpimliebiapnfaaGreatDoorJ23
import Derived.Test.YtpimliebiapnfaaGreatDoorJ25
import Derived.Test.YtpimliebiapnfaaGreatDoorJ27
import Derived.Test.YtpimliebiapnfaaGreatDoorJ28
/- Verify. -/
namespace Go.Proofs.YtpimliebiapnfaaGreatDoor
set_option linter.unusedVariables false
set_option linter.unusedSimpArgs false
open Go.RowKit N
attribute [local go_sem ↓] N.loadAt_nat N.storeAt_nat N.build_nat N.build_nat' loadAt_pt storeAt_pt build_pt0 build_pt0' build_pt'
attribute [local go_sem] N.st1 N.st2a N.st2b N.st1d N.st2ad N.st2bd N.natBuild_run ptst1 ptst1d ptBuild0_run build_pt ptBuild_run
attribute [local go_sem ↓] bin_nat bin_pt
theorem alloc_sz (w : World) (o : Obj) : (w.alloc o).heap.size = w.heap.size + 1 := by simp
set_option maxRecDepth 100000 in
set_option maxHeartbeats 2000000 in
theorem ver_np (pb tx sg : ByteArray) (a : T3) (W : World) (HA : Hid (∀ (c mp mn : Nat) w, Cv w c mp mn → Calls Tryz.prog 19 #[boxM c, .string pb] w fun e w' => e = .returned (.tuple #[.agg (ptL a).toArray, .bool false]) ∧ Below w.heap.size w w')) : Calls Tryz.prog 16 #[.string pb, .string tx, .string sg] W fun e w' => e = .returned (.bool false) ∧ Below W.heap.size W w' := by
  have HP := Hid.mk p256_in
  have hzp := zeroPt
  have hz := N.zero26
  have F := Fm.start W
  go_enter Tryz.func16, Tryz.ntmps16
  go_wp2_with fail
  refine (HP.out _).mono ?_
  rintro e u0 ⟨c, mp, mn, rfl, C, hb⟩
  replace F := F.blk hb
  clear hb HP
  go_wp2_with fail
  refine (HA.out _ _ _ _ C).mono ?_
  rintro e u1 ⟨rfl, hb⟩
  replace F := F.blk hb
  replace C := C.blk hb
  clear hb
  go_upto_region 3 with fail
  have hA := (Below.refl u1.heap.size u1).alloc (Nat.le_refl _) (Obj.cells (ptL a).toArray 40 (0, 0))
  replace C := C.blk hA
  replace F := F.new (Obj.cells (ptL a).toArray 40 (0, 0))
  clear hA
  generalize u1.alloc (Obj.cells (ptL a).toArray 40 (0, 0)) = v1 at F C ⊢
  generalize u1.heap.size = b8 at F ⊢
  go_wp2
  go_ret
  exact ⟨rfl, F.bel⟩
set_option maxRecDepth 100000 in
set_option maxHeartbeats 2000000 in
theorem ver_nw (pb tx sg : ByteArray) (a : T3) (W : World) (HA : Hid (∀ (c mp mn : Nat) w, Cv w c mp mn → Calls Tryz.prog 19 #[boxM c, .string pb] w fun e w' => e = .returned (.tuple #[.agg (ptL a).toArray, .bool true]) ∧ Below w.heap.size w w')) (HN : Hid (∀ w, Calls Tryz.prog 26 #[.agg (ptL a).toArray] w fun e w' => e = .returned (.bool true) ∧ Below w.heap.size w w')) : Calls Tryz.prog 16 #[.string pb, .string tx, .string sg] W fun e w' => e = .returned (.bool false) ∧ Below W.heap.size W w' := by
  have HP := Hid.mk p256_in
  have hzp := zeroPt
  have hz := N.zero26
  have F := Fm.start W
  go_enter Tryz.func16, Tryz.ntmps16
  go_wp2_with fail
  refine (HP.out _).mono ?_
  rintro e u0 ⟨c, mp, mn, rfl, C, hb⟩
  replace F := F.blk hb
  clear hb HP
  go_wp2_with fail
  refine (HA.out _ _ _ _ C).mono ?_
  rintro e u1 ⟨rfl, hb⟩
  replace F := F.blk hb
  replace C := C.blk hb
  clear hb
  go_upto_region 3 with fail
  have hA := (Below.refl u1.heap.size u1).alloc (Nat.le_refl _) (Obj.cells (ptL a).toArray 40 (0, 0))
  replace C := C.blk hA
  replace F := F.new (Obj.cells (ptL a).toArray 40 (0, 0))
  clear hA
  generalize u1.alloc (Obj.cells (ptL a).toArray 40 (0, 0)) = v1 at F C ⊢
  generalize u1.heap.size = b8 at F ⊢
  have l8 := ptLoad_run (F.get 0 rfl)
  go_wp2_with fail
  refine (HN.out _).mono ?_
  rintro e u2 ⟨rfl, hb⟩
  replace F := F.blk hb
  replace C := C.blk hb
  clear hb l8
  go_wp2
  go_ret
  exact ⟨rfl, F.bel⟩
set_option maxRecDepth 100000 in
set_option maxHeartbeats 2000000 in
theorem ver_pf (pb tx sg : ByteArray) (a : T3) (x y : Nat) (W : World) (HA : Hid (∀ (c mp mn : Nat) w, Cv w c mp mn → Calls Tryz.prog 19 #[boxM c, .string pb] w fun e w' => e = .returned (.tuple #[.agg (ptL a).toArray, .bool true]) ∧ Below w.heap.size w w')) (HN : Hid (∀ w, Calls Tryz.prog 26 #[.agg (ptL a).toArray] w fun e w' => e = .returned (.bool false) ∧ Below w.heap.size w w')) (HPa : Hid (∀ (c mp mn : Nat) w, Cv w c mp mn → Calls Tryz.prog 39 #[boxM c, .string sg] w fun e w' => e = .returned (.tuple #[.agg (N.natL x).toArray, .agg (N.natL y).toArray, .bool false]) ∧ Below w.heap.size w w')) : Calls Tryz.prog 16 #[.string pb, .string tx, .string sg] W fun e w' => e = .returned (.bool false) ∧ Below W.heap.size W w' := by
  have HP := Hid.mk p256_in
  have hzp := zeroPt
  have hz := N.zero26
  have F := Fm.start W
  go_enter Tryz.func16, Tryz.ntmps16
  go_wp2_with fail
  refine (HP.out _).mono ?_
  rintro e u0 ⟨c, mp, mn, rfl, C, hb⟩
  replace F := F.blk hb
  clear hb HP
  go_wp2_with fail
  refine (HA.out _ _ _ _ C).mono ?_
  rintro e u1 ⟨rfl, hb⟩
  replace F := F.blk hb
  replace C := C.blk hb
  clear hb
  go_upto_region 3 with fail
  have hA := (Below.refl u1.heap.size u1).alloc (Nat.le_refl _) (Obj.cells (ptL a).toArray 40 (0, 0))
  replace C := C.blk hA
  replace F := F.new (Obj.cells (ptL a).toArray 40 (0, 0))
  clear hA
  generalize u1.alloc (Obj.cells (ptL a).toArray 40 (0, 0)) = v1 at F C ⊢
  generalize u1.heap.size = b8 at F ⊢
  have l8 := ptLoad_run (F.get 0 rfl)
  go_wp2_with fail
  refine (HN.out _).mono ?_
  rintro e u2 ⟨rfl, hb⟩
  replace F := F.blk hb
  replace C := C.blk hb
  clear hb l8
  go_wp2_with fail
  refine (HPa.out _ _ _ _ C).mono ?_
  rintro e u3 ⟨rfl, hb⟩
  replace F := F.blk hb
  replace C := C.blk hb
  clear hb
  go_upto_region 6 with fail
  have hA := (Below.refl u3.heap.size u3).alloc (Nat.le_refl _) (Obj.cells (N.natL x).toArray 38 (0, 0))
  replace C := C.blk hA
  replace F := F.new (Obj.cells (N.natL x).toArray 38 (0, 0))
  clear hA
  obtain ⟨b10, hb10⟩ : ∃ q, u3.heap.size = q := ⟨_, rfl⟩
  obtain ⟨v3, hv3⟩ : ∃ q, u3.alloc (Obj.cells (N.natL x).toArray 38 (0, 0)) = q := ⟨_, rfl⟩
  have hsz3 : b10 + 1 = v3.heap.size := by rw [← hv3, ← hb10, alloc_sz]
  rw [hv3] at F C ⊢
  rw [hb10] at F
  simp only [hb10, hsz3]
  clear hb10 hv3 hsz3
  have hA := (Below.refl v3.heap.size v3).alloc (Nat.le_refl _) (Obj.cells (N.natL y).toArray 38 (0, 0))
  replace C := C.blk hA
  replace F := F.new (Obj.cells (N.natL y).toArray 38 (0, 0))
  clear hA
  generalize v3.alloc (Obj.cells (N.natL y).toArray 38 (0, 0)) = v4 at F C ⊢
  generalize v3.heap.size = b11 at F ⊢
  obtain ⟨L, hL⟩ : ∃ L : List (Nat × Obj), [(b11, Obj.cells (N.natL y).toArray 38 (0, 0)), (b10, Obj.cells (N.natL x).toArray 38 (0, 0)), (b8, Obj.cells (ptL a).toArray 40 (0, 0))] = L := ⟨_, rfl⟩
  rw [hL] at F
  obtain ⟨K, hK⟩ : ∃ K : World → Prop, K = fun w => Fm W L w ∧ Cv w c mp mn := ⟨_, rfl⟩
  have HB : Hid (∀ w w', K w → Below w.heap.size w w' → K w') := by rw [Hid, hK]; exact fun w w' h hb => ⟨h.1.blk hb, h.2.blk hb⟩
  have HS : Hid (∀ w, K w → K w ∧ (ptLoad (.pointer (some ⟨b8, 0, none⟩))).run Tryz.prog w = .ok (.agg (ptL a).toArray) w ∧ (N.natLoad (.pointer (some ⟨b10, 0, none⟩))).run Tryz.prog w = .ok (.agg (N.natL x).toArray) w ∧ (N.natLoad (.pointer (some ⟨b11, 0, none⟩))).run Tryz.prog w = .ok (.agg (N.natL y).toArray) w) := by rw [Hid, hK]; exact fun w h => ⟨h, ptLoad_run (h.1.get 2 (by rw [← hL]; rfl)), N.natLoad_run (h.1.get 1 (by rw [← hL]; rfl)), N.natLoad_run (h.1.get 0 (by rw [← hL]; rfl))⟩
  have HE : Hid (∀ w, K w → Below W.heap.size W w ∧ Cv w c mp mn) := by rw [Hid, hK]; exact fun w h => ⟨h.1.bel, h.2⟩
  have k0 : K v4.drew := by
    rw [hK]
    have hd : Below v4.heap.size v4 v4.drew := (Below.refl v4.heap.size v4).drew
    exact ⟨F.drew, C.blk hd⟩
  clear hK F C hL
  refine wp_region_held_drew (S := fun w => K w ∧ (ptLoad (.pointer (some ⟨b8, 0, none⟩))).run Tryz.prog w = .ok (.agg (ptL a).toArray) w ∧ (N.natLoad (.pointer (some ⟨b10, 0, none⟩))).run Tryz.prog w = .ok (.agg (N.natL x).toArray) w ∧ (N.natLoad (.pointer (some ⟨b11, 0, none⟩))).run Tryz.prog w = .ok (.agg (N.natL y).toArray) w) (by kernel_rfl) (HS.out _ k0) (fun hHeld => ?_)
  refine wpAnyH_take (i := 0) (v := ?vh1_0) rfl (by kernel_rfl) (by kernel_rfl) (by kernel_rfl) (fun _ _ _ h => h) (Or.inl ⟨by kernel_rfl, ?yh1_0⟩) (by assumption) ?_
  case yh1_0 => (intro w hSw; (try dsimp only at hSw); go_simp; try with_reducible rfl)
  refine wpAnyH_take (i := 1) (v := ?vh1_1) rfl (by kernel_rfl) (by kernel_rfl) (by kernel_rfl) (fun _ _ _ h => h) (Or.inl ⟨by kernel_rfl, ?yh1_1⟩) (by assumption) ?_
  case yh1_1 => (intro w hSw; (try dsimp only at hSw); go_simp; try with_reducible rfl)
  try simp only [Act.put, List.getElem_toArray, List.getElem_cons_succ, List.getElem_cons_zero, List.setIfInBounds_toArray, List.set_cons_zero, List.set_cons_succ]
  refine wpAnyH_take (i := 2) (v := undef) rfl (by kernel_rfl) (by kernel_rfl) (by kernel_rfl) (fun _ _ _ h => h) (Or.inr ⟨by kernel_rfl, rfl⟩) (by assumption) ?_
  refine wpAnyH_take (i := 3) (v := undef) rfl (by kernel_rfl) (by kernel_rfl) (by kernel_rfl) (fun _ _ _ h => h) (Or.inr ⟨by kernel_rfl, rfl⟩) (by assumption) ?_
  refine wpAnyH_take (i := 4) (v := undef) rfl (by kernel_rfl) (by kernel_rfl) (by kernel_rfl) (fun _ _ _ h => h) (Or.inr ⟨by kernel_rfl, rfl⟩) (by assumption) ?_
  refine wpAnyH_take (i := 5) (v := undef) rfl (by kernel_rfl) (by kernel_rfl) (by kernel_rfl) (fun _ _ _ h => h) (Or.inr ⟨by kernel_rfl, rfl⟩) (by assumption) ?_
  refine wpAnyH_take (i := 6) (v := undef) rfl (by kernel_rfl) (by kernel_rfl) (by kernel_rfl) (fun _ _ _ h => h) (Or.inr ⟨by kernel_rfl, rfl⟩) (by assumption) ?_
  refine wpAnyH_take (i := 7) (v := undef) rfl (by kernel_rfl) (by kernel_rfl) (by kernel_rfl) (fun _ _ _ h => h) (Or.inr ⟨by kernel_rfl, rfl⟩) (by assumption) ?_
  refine wpAnyH_take (i := 8) (v := undef) rfl (by kernel_rfl) (by kernel_rfl) (by kernel_rfl) (fun _ _ _ h => h) (Or.inr ⟨by kernel_rfl, rfl⟩) (by assumption) ?_
  refine wpAnyH_take (i := 9) (v := undef) rfl (by kernel_rfl) (by kernel_rfl) (by kernel_rfl) (fun _ _ _ h => h) (Or.inr ⟨by kernel_rfl, rfl⟩) (by assumption) ?_
  try simp only [Act.put, List.getElem_toArray, List.getElem_cons_succ, List.getElem_cons_zero, List.setIfInBounds_toArray, List.set_cons_zero, List.set_cons_succ]
  refine wpAnyH_take (i := 10) (v := ?vh1_10) rfl (by kernel_rfl) (by kernel_rfl) (by kernel_rfl) (fun _ _ _ h => h) (Or.inl ⟨by kernel_rfl, ?yh1_10⟩) (by assumption) ?_
  case yh1_10 => (intro w hSw; (try dsimp only at hSw); go_simp; try with_reducible rfl)
  refine wpAnyH_take (i := 11) (v := ?vh1_11) rfl (by kernel_rfl) (by kernel_rfl) (by kernel_rfl) (fun _ _ _ h => h) (Or.inl ⟨by kernel_rfl, ?yh1_11⟩) (by assumption) ?_
  case yh1_11 => (intro w hSw; (try dsimp only at hSw); go_simp; try with_reducible rfl)
  try simp only [Act.put, List.getElem_toArray, List.getElem_cons_succ, List.getElem_cons_zero, List.setIfInBounds_toArray, List.set_cons_zero, List.set_cons_succ]
  refine wpAnyH_done (by kernel_rfl) ?_ _
  go_wp2
  go_ret
  exact ⟨rfl, (HE.out _ k0).1⟩
set_option maxRecDepth 100000 in
set_option maxHeartbeats 2000000 in
theorem ver_pt (pb tx sg : ByteArray) (a : T3) (x y : Nat) (dg : ByteArray) (ee : Nat) (D : Bool) (RK : World → Prop) (W : World) (HA : Hid (∀ (c mp mn : Nat) w, Cv w c mp mn → Calls Tryz.prog 19 #[boxM c, .string pb] w fun e w' => e = .returned (.tuple #[.agg (ptL a).toArray, .bool true]) ∧ Below w.heap.size w w')) (HN : Hid (∀ w, Calls Tryz.prog 26 #[.agg (ptL a).toArray] w fun e w' => e = .returned (.bool false) ∧ Below w.heap.size w w')) (HPa : Hid (∀ (c mp mn : Nat) w, Cv w c mp mn → Calls Tryz.prog 39 #[boxM c, .string sg] w fun e w' => e = .returned (.tuple #[.agg (N.natL x).toArray, .agg (N.natL y).toArray, .bool true]) ∧ Below w.heap.size w w')) (hRK : RK W) (HRK : Hid (∀ w w', RK w → Below w.heap.size w w' → RK w')) (HSu : Hid (∀ w, RK w → Calls Tryz.prog 41 #[.string tx] w fun e w' => e = .returned (.string dg) ∧ Below w.heap.size w w')) (HNo : Hid (∀ w, Calls Tryz.prog 30 #[.string dg] w fun e w' => e = .returned (.agg (N.natL ee).toArray) ∧ Below w.heap.size w w')) (HF : Hid (∀ (c mp mn : Nat) w, Cv w c mp mn → Calls Tryz.prog 40 #[boxM c, .agg (ptL a).toArray, .agg (N.natL ee).toArray, .agg (N.natL x).toArray, .agg (N.natL y).toArray] w fun e w' => e = .returned (.bool D) ∧ Below w.heap.size w w')) : Calls Tryz.prog 16 #[.string pb, .string tx, .string sg] W fun e w' => e = .returned (.bool D) ∧ Below W.heap.size W w' := by
  have HP := Hid.mk p256_in
  have hzp := zeroPt
  have hz := N.zero26
  have F := Fm.start W
  go_enter Tryz.func16, Tryz.ntmps16
  go_wp2_with fail
  refine (HP.out _).mono ?_
  rintro e u0 ⟨c, mp, mn, rfl, C, hb⟩
  replace F := F.blk hb
  clear hb HP
  go_wp2_with fail
  refine (HA.out _ _ _ _ C).mono ?_
  rintro e u1 ⟨rfl, hb⟩
  replace F := F.blk hb
  replace C := C.blk hb
  clear hb
  go_upto_region 3 with fail
  have hA := (Below.refl u1.heap.size u1).alloc (Nat.le_refl _) (Obj.cells (ptL a).toArray 40 (0, 0))
  replace C := C.blk hA
  replace F := F.new (Obj.cells (ptL a).toArray 40 (0, 0))
  clear hA
  generalize u1.alloc (Obj.cells (ptL a).toArray 40 (0, 0)) = v1 at F C ⊢
  generalize u1.heap.size = b8 at F ⊢
  have l8 := ptLoad_run (F.get 0 rfl)
  go_wp2_with fail
  refine (HN.out _).mono ?_
  rintro e u2 ⟨rfl, hb⟩
  replace F := F.blk hb
  replace C := C.blk hb
  clear hb l8
  go_wp2_with fail
  refine (HPa.out _ _ _ _ C).mono ?_
  rintro e u3 ⟨rfl, hb⟩
  replace F := F.blk hb
  replace C := C.blk hb
  clear hb
  go_upto_region 6 with fail
  have hA := (Below.refl u3.heap.size u3).alloc (Nat.le_refl _) (Obj.cells (N.natL x).toArray 38 (0, 0))
  replace C := C.blk hA
  replace F := F.new (Obj.cells (N.natL x).toArray 38 (0, 0))
  clear hA
  obtain ⟨b10, hb10⟩ : ∃ q, u3.heap.size = q := ⟨_, rfl⟩
  obtain ⟨v3, hv3⟩ : ∃ q, u3.alloc (Obj.cells (N.natL x).toArray 38 (0, 0)) = q := ⟨_, rfl⟩
  have hsz3 : b10 + 1 = v3.heap.size := by rw [← hv3, ← hb10, alloc_sz]
  rw [hv3] at F C ⊢
  rw [hb10] at F
  simp only [hb10, hsz3]
  clear hb10 hv3 hsz3
  have hA := (Below.refl v3.heap.size v3).alloc (Nat.le_refl _) (Obj.cells (N.natL y).toArray 38 (0, 0))
  replace C := C.blk hA
  replace F := F.new (Obj.cells (N.natL y).toArray 38 (0, 0))
  clear hA
  generalize v3.alloc (Obj.cells (N.natL y).toArray 38 (0, 0)) = v4 at F C ⊢
  generalize v3.heap.size = b11 at F ⊢
  obtain ⟨L, hL⟩ : ∃ L : List (Nat × Obj), [(b11, Obj.cells (N.natL y).toArray 38 (0, 0)), (b10, Obj.cells (N.natL x).toArray 38 (0, 0)), (b8, Obj.cells (ptL a).toArray 40 (0, 0))] = L := ⟨_, rfl⟩
  rw [hL] at F
  obtain ⟨K, hK⟩ : ∃ K : World → Prop, K = fun w => Fm W L w ∧ Cv w c mp mn ∧ RK w := ⟨_, rfl⟩
  have HB : Hid (∀ w w', K w → Below w.heap.size w w' → K w') := by rw [Hid, hK]; exact fun w w' h hb => ⟨h.1.blk hb, h.2.1.blk hb, HRK.out _ _ h.2.2 hb⟩
  have HS : Hid (∀ w, K w → K w ∧ (ptLoad (.pointer (some ⟨b8, 0, none⟩))).run Tryz.prog w = .ok (.agg (ptL a).toArray) w ∧ (N.natLoad (.pointer (some ⟨b10, 0, none⟩))).run Tryz.prog w = .ok (.agg (N.natL x).toArray) w ∧ (N.natLoad (.pointer (some ⟨b11, 0, none⟩))).run Tryz.prog w = .ok (.agg (N.natL y).toArray) w) := by rw [Hid, hK]; exact fun w h => ⟨h, ptLoad_run (h.1.get 2 (by rw [← hL]; rfl)), N.natLoad_run (h.1.get 1 (by rw [← hL]; rfl)), N.natLoad_run (h.1.get 0 (by rw [← hL]; rfl))⟩
  have HE : Hid (∀ w, K w → Below W.heap.size W w ∧ Cv w c mp mn ∧ RK w) := by rw [Hid, hK]; exact fun w h => ⟨h.1.bel, h.2.1, h.2.2⟩
  have k0 : K v4.drew := by
    rw [hK]
    have hd : Below v4.heap.size v4 v4.drew := (Below.refl v4.heap.size v4).drew
    exact ⟨F.drew, C.blk hd, HRK.out _ _ (HRK.out _ _ hRK F.bel) hd⟩
  clear hK F C hL
  refine wp_region_held_drew (S := fun w => K w ∧ (ptLoad (.pointer (some ⟨b8, 0, none⟩))).run Tryz.prog w = .ok (.agg (ptL a).toArray) w ∧ (N.natLoad (.pointer (some ⟨b10, 0, none⟩))).run Tryz.prog w = .ok (.agg (N.natL x).toArray) w ∧ (N.natLoad (.pointer (some ⟨b11, 0, none⟩))).run Tryz.prog w = .ok (.agg (N.natL y).toArray) w) (by kernel_rfl) (HS.out _ k0) (fun hHeld => ?_)
  refine wpAnyH_take (i := 0) (v := ?vh2_0) rfl (by kernel_rfl) (by kernel_rfl) (by kernel_rfl) (fun _ _ _ h => h) (Or.inl ⟨by kernel_rfl, ?yh2_0⟩) (by assumption) ?_
  case yh2_0 => (intro w hSw; (try dsimp only at hSw); go_simp; try with_reducible rfl)
  refine wpAnyH_take (i := 1) (v := ?vh2_1) rfl (by kernel_rfl) (by kernel_rfl) (by kernel_rfl) (fun _ _ _ h => h) (Or.inl ⟨by kernel_rfl, ?yh2_1⟩) (by assumption) ?_
  case yh2_1 => (intro w hSw; (try dsimp only at hSw); go_simp; try with_reducible rfl)
  try simp only [Act.put, List.getElem_toArray, List.getElem_cons_succ, List.getElem_cons_zero, List.setIfInBounds_toArray, List.set_cons_zero, List.set_cons_succ]
  refine wpAnyH_take (i := 2) (v := ?vh2_2) rfl (by kernel_rfl) (by kernel_rfl) (by kernel_rfl) (fun _ _ _ h => h) (Or.inl ⟨by kernel_rfl, ?yh2_2⟩) (by assumption) ?_
  case yh2_2 => (intro w hSw; (try dsimp only at hSw); go_simp; try with_reducible rfl)
  refine wpAnyH_take (i := 3) (v := ?vh2_3) rfl (by kernel_rfl) (by kernel_rfl) (by kernel_rfl) (fun _ _ _ h => h) (Or.inl ⟨by kernel_rfl, ?yh2_3⟩) (by assumption) ?_
  case yh2_3 => (intro w hSw; (try dsimp only at hSw); go_simp; try with_reducible rfl)
  refine wpAnyH_take (i := 4) (v := ?vh2_4) rfl (by kernel_rfl) (by kernel_rfl) (by kernel_rfl) (fun _ _ _ h => h) (Or.inl ⟨by kernel_rfl, ?yh2_4⟩) (by assumption) ?_
  case yh2_4 => (intro w hSw; (try dsimp only at hSw); go_simp; try with_reducible rfl)
  refine wpAnyH_take (i := 7) (v := ?vh2_7) rfl (by kernel_rfl) (by kernel_rfl) (by kernel_rfl) (fun _ _ _ h => h) (Or.inl ⟨by kernel_rfl, ?yh2_7⟩) (by assumption) ?_
  case yh2_7 => (intro w hSw; (try dsimp only at hSw); go_simp; try with_reducible rfl)
  refine wpAnyH_take (i := 8) (v := ?vh2_8) rfl (by kernel_rfl) (by kernel_rfl) (by kernel_rfl) (fun _ _ _ h => h) (Or.inl ⟨by kernel_rfl, ?yh2_8⟩) (by assumption) ?_
  case yh2_8 => (intro w hSw; (try dsimp only at hSw); go_simp; try with_reducible rfl)
  try simp only [Act.put, List.getElem_toArray, List.getElem_cons_succ, List.getElem_cons_zero, List.setIfInBounds_toArray, List.set_cons_zero, List.set_cons_succ]
  refine wpAnyH_ready (rs := [5]) (by kernel_rfl) (by simp) ?_
  refine AllReadyH.cons rfl (fun KK hKK => ?_) AllReadyH.nil
  go_simp
  go_at_call 41
  with_reducible refine (HSu.out _ (HE.out _ k0).2.2).mono ?_
  rintro e w1 ⟨rfl, hb1⟩
  have k1 := HB.out _ _ k0 hb1
  have hs1 := HS.out _ k1
  refine hKK.out _ _ hs1 (fun hHeld1 => ?_)
  clear hKK KK
  try simp only [Act.put, List.getElem_toArray, List.getElem_cons_succ, List.getElem_cons_zero, List.setIfInBounds_toArray, List.set_cons_zero, List.set_cons_succ]
  refine wpAnyH_ready (rs := [6]) (by kernel_rfl) (by simp) ?_
  refine AllReadyH.cons rfl (fun KK hKK => ?_) AllReadyH.nil
  go_simp
  go_at_call 30
  with_reducible refine (HNo.out _).mono ?_
  rintro e w2 ⟨rfl, hb2⟩
  have k2 := HB.out _ _ k1 hb2
  have hs2 := HS.out _ k2
  refine hKK.out _ _ hs2 (fun hHeld2 => ?_)
  clear hKK KK
  try simp only [Act.put, List.getElem_toArray, List.getElem_cons_succ, List.getElem_cons_zero, List.setIfInBounds_toArray, List.set_cons_zero, List.set_cons_succ]
  refine wpAnyH_ready (rs := [9]) (by kernel_rfl) (by simp) ?_
  refine AllReadyH.cons rfl (fun KK hKK => ?_) AllReadyH.nil
  go_simp
  go_at_call 40
  with_reducible refine (HF.out _ _ _ _ (HE.out _ k2).2.1).mono ?_
  rintro e w3 ⟨rfl, hb3⟩
  have k3 := HB.out _ _ k2 hb3
  have hs3 := HS.out _ k3
  refine hKK.out _ _ hs3 (fun hHeld3 => ?_)
  clear hKK KK
  try simp only [Act.put, List.getElem_toArray, List.getElem_cons_succ, List.getElem_cons_zero, List.setIfInBounds_toArray, List.set_cons_zero, List.set_cons_succ]
  refine wpAnyH_take (i := 10) (v := ?vh2_10) rfl (by kernel_rfl) (by kernel_rfl) (by kernel_rfl) (fun _ _ _ h => h) (Or.inl ⟨by kernel_rfl, ?yh2_10⟩) (by assumption) ?_
  case yh2_10 => (intro w hSw; (try dsimp only at hSw); go_simp; try with_reducible rfl)
  refine wpAnyH_take (i := 11) (v := ?vh2_11) rfl (by kernel_rfl) (by kernel_rfl) (by kernel_rfl) (fun _ _ _ h => h) (Or.inl ⟨by kernel_rfl, ?yh2_11⟩) (by assumption) ?_
  case yh2_11 => (intro w hSw; (try dsimp only at hSw); go_simp; try with_reducible rfl)
  try simp only [Act.put, List.getElem_toArray, List.getElem_cons_succ, List.getElem_cons_zero, List.setIfInBounds_toArray, List.set_cons_zero, List.set_cons_succ]
  refine wpAnyH_done (by kernel_rfl) ?_ _
  go_wp2
  go_ret
  exact ⟨rfl, (HE.out _ k3).1⟩
theorem bG_ok : (⟨bX, bY, 1⟩ : T3).Ok := T3.one_ok (by decide) (by decide)
noncomputable def vfE (q : Ec) (ee r s : Nat) : Bool := match ((Ec.mul (ee * ivN nN s % nN) ecG).add (Ec.mul (r * ivN nN s % nN) q)).o with
  | none => false
  | some t => decide (t.x.val % nN = r)
theorem fits_in {c mp mn : Nat} (key : T3) (q : Ec) (ee r s : Nat) (W : World) (C : Cv W c mp mn) (hk : key.Ok) (hq : Rep key.jp q.o) (he : ee < 2 ^ 256) (hr : r < nN) (hs : s < nN) (hs0 : s ≠ 0) : Calls Tryz.prog 40 #[boxM c, .agg (ptL key).toArray, .agg (N.natL ee).toArray, .agg (N.natL r).toArray, .agg (N.natL s).toArray] W fun e w' => e = .returned (.bool (vfE q ee r s)) ∧ Below W.heap.size W w' := by
  have hG : Rep (⟨bX, bY, 1⟩ : T3).jp ecG.o := rep_xy bX bY
  obtain ⟨iw, eiw⟩ : ∃ i, ivN nN s = i := ⟨_, rfl⟩
  have biw : iw < 2 ^ 256 := by rw [← eiw]; exact Nat.lt_trans (iv_spec pr_N hs0 hs).2 n256_lt
  have hn0 : 0 < nN := by decide
  have mod256 : ∀ A, A % nN < 2 ^ 256 := fun A => Nat.lt_trans (Nat.mod_lt A hn0) n256_lt
  unfold vfE
  rw [eiw]
  obtain ⟨u1, e1⟩ : ∃ u, ee * iw % nN = u := ⟨_, rfl⟩
  obtain ⟨u2, e2⟩ : ∃ u, r * iw % nN = u := ⟨_, rfl⟩
  have b1 : u1 < 2 ^ 256 := by rw [← e1]; exact mod256 _
  have b2 : u2 < 2 ^ 256 := by rw [← e2]; exact mod256 _
  have p8 : ∀ K, K < 2 ^ (8 * N.nbl K) := fun K => by
    have := N.nbl_lt K
    rwa [show (256 : Nat) = 2 ^ 8 from rfl, ← Nat.pow_mul] at this
  have r1 := T3.rep_times bG_ok hG (p8 u1)
  have r2 := T3.rep_times hk hq (p8 u2)
  have ok1 := T3.times_ok bG_ok (8 * N.nbl u1) u1
  have ok2 := T3.times_ok hk (8 * N.nbl u2) u2
  obtain ⟨m1, em1⟩ : ∃ m, (⟨bX, bY, 1⟩ : T3).times (8 * N.nbl u1) u1 = m := ⟨_, rfl⟩
  obtain ⟨m2, em2⟩ : ∃ m, key.times (8 * N.nbl u2) u2 = m := ⟨_, rfl⟩
  have T1 := fun w (h : Cv w c mp mn) => taken_in u1 _ w h bG_ok b1
  have T2 := fun w (h : Cv w c mp mn) => taken_in u2 key w h hk b2
  rw [em1] at r1 ok1
  rw [em2] at r2 ok2
  rw [em1] at T1
  rw [em2] at T2
  have r3 := T3.rep_sum ok1 ok2 r1 r2
  have ok3 : (m1.sum m2).Ok := T3.sum_ok ok1 ok2
  have S3 := fun w (h : Cv w c mp mn) => sum_in m1 m2 w h ok1 ok2
  rw [e1, e2]
  generalize (Ec.mul u1 ecG).add (Ec.mul u2 q) = M at r3 ⊢
  generalize m1.sum m2 = mt at r3 ok3 S3
  have H1 : Hid (∀ w, Cv w c mp mn → _) := fun w h => nInv h hs hs0
  rw [eiw] at H1
  have H3a := Hid.mk fun w (h : Cv w c mp mn) => nTimes h he biw
  have H3c := Hid.mk fun w (h : Cv w c mp mn) => nTimes h (Nat.lt_trans hr n256_lt) biw
  rw [e1] at H3a
  rw [e2] at H3c
  cases hM : M.o with
  | none =>
    rw [hM] at r3
    have hz := (rep_zero ok3).1 r3
    have H4 : Hid (∀ w, Calls Tryz.prog 26 #[.agg (ptL mt).toArray] w fun e w' => e = .returned (.bool true) ∧ Below w.heap.size w w') := fun w => by have := nowhere_in mt ok3.lm w; rwa [decide_eq_true hz] at this
    exact fits_0 key ee r s iw u1 u2 _ m1 m2 mt W C H1 H3a (Hid.mk T1) H3c (Hid.mk T2) (Hid.mk S3) H4 rfl
  | some t =>
    rw [hM] at r3
    have hz0 : mt.z ≠ 0 := fun e => r3.1 (by show fz mt.z = 0; rw [e, fz_0])
    have hz : mt ≠ T3.zero := fun e => hz0 (by rw [e]; rfl)
    have H4 : Hid (∀ w, Calls Tryz.prog 26 #[.agg (ptL mt).toArray] w fun e w' => e = .returned (.bool false) ∧ Below w.heap.size w w') := fun w => by have := nowhere_in mt ok3.lm w; rwa [decide_eq_false hz] at this
    have hi := (iv_spec pr_P hz0 ok3.2.2).1
    obtain ⟨t1, _⟩ := T3.told r3 hi
    have H4b := Hid.mk fun w (h : Cv w c mp mn) => plain_in mt w h ok3 hz0
    have hx : (mt.scl (ivN pP mt.z)).x = t.x.val := t1
    have H4c := Hid.mk fun w (h : Cv w c mp mn) => nRest h (lim_p (show t.x.val < pP from t.x.isLt))
    rw [← hx] at H4c
    have hlr : r < N.Lim := Nat.lt_trans hr nN_lim
    have hlx : (mt.scl (ivN pP mt.z)).x % nN < N.Lim := Nat.lt_trans (Nat.mod_lt _ hn0) nN_lim
    show Calls Tryz.prog _ _ W fun e w' => e = .returned (.bool (decide (t.x.val % nN = r))) ∧ Below W.heap.size W w'
    rw [← hx]
    exact fits_1 key ee r s iw u1 u2 _ m1 m2 mt _ _ _ W C H1 H3a (Hid.mk T1) H3c (Hid.mk T2) (Hid.mk S3) H4 rfl H4b H4c (Hid.mk fun w => eqNat w _ r hlx hlr)
noncomputable def verR (pb tx sg : ByteArray) : Bool := if (ptOf pb).2 = false then false else if (ptOf pb).1 = T3.zero then false else if sg.size ≠ 64 then false else if (cntN (hiN sg) && cntN (loN sg)) = false then false else (Classical.epsilon fun D => ∃ q : Ec, pb = tellE q ∧ D = vfE q (N.numB (G.sha2 tx.data.toList)) (hiN sg) (loN sg))
theorem verR_p (q : Ec) (tx sg : ByteArray) (hq : q ≠ Ec.zero) (h64 : sg.size = 64) (hc : (cntN (hiN sg) && cntN (loN sg)) = true) : verR (tellE q) tx sg = vfE q (N.numB (G.sha2 tx.data.toList)) (hiN sg) (loN sg) := by
  obtain ⟨h1, h2, h3⟩ := ptOf_tell q
  have hz : (ptOf (tellE q)).1 ≠ T3.zero := fun e => hq (Ec.ext2 (by
    cases ho : q.o with
    | none => rfl
    | some t =>
      rw [ho, e] at h3
      exact absurd fz_0 h3.1))
  unfold verR
  rw [if_neg (by rw [h1]; simp), if_neg hz, if_neg (by omega), if_neg (by rw [hc]; simp)]
  obtain ⟨q', e1, e2⟩ := Classical.epsilon_spec (p := fun D => ∃ q' : Ec, tellE q = tellE q' ∧ D = vfE q' (N.numB (G.sha2 tx.data.toList)) (hiN sg) (loN sg)) ⟨_, q, rfl, rfl⟩
  rw [e2, tellE_inj e1]
theorem sha2_num (l : List UInt8) : N.numB (G.sha2 l) < 2 ^ 256 := by
  have h1 := N.numB_lt (G.sha2 l)
  rw [G.sha2_len] at h1
  exact Nat.lt_of_lt_of_le h1 (by decide)
theorem verify_in (pb tx sg : ByteArray) (ht : tx.size ≤ 140737488355328) (W : World) (hG : G.Rk W) : Calls Tryz.prog 16 #[.string pb, .string tx, .string sg] W fun e w' => e = .returned (.bool (verR pb tx sg)) ∧ Below W.heap.size W w' := by
  have HA : Hid (∀ (c mp mn : Nat) w, Cv w c mp mn → Calls Tryz.prog 19 #[boxM c, .string pb] w fun e w' => e = .returned (.tuple #[.agg (ptL (ptOf pb).1).toArray, .bool (ptOf pb).2]) ∧ Below w.heap.size w w') := fun c mp mn w h => pointOf_in pb w h
  cases hp : (ptOf pb).2 with
  | false =>
    rw [hp] at HA
    rw [show verR pb tx sg = false by unfold verR; rw [if_pos hp]]
    exact ver_np pb tx sg _ W HA
  | true =>
    obtain ⟨q, hq⟩ := ptOf_ex hp
    have hok : (ptOf pb).1.Ok ∧ Rep (ptOf pb).1.jp q.o := by rw [hq]; exact (ptOf_tell q).2
    have HN : Hid (∀ w, Calls Tryz.prog 26 #[.agg (ptL (ptOf pb).1).toArray] w fun e w' => e = .returned (.bool (decide ((ptOf pb).1 = T3.zero))) ∧ Below w.heap.size w w') := fun w => nowhere_in _ hok.1.lm w
    rw [hp] at HA
    by_cases hz : (ptOf pb).1 = T3.zero
    · rw [decide_eq_true hz] at HN
      rw [show verR pb tx sg = false by unfold verR; rw [if_neg (by rw [hp]; simp), if_pos hz]]
      exact ver_nw pb tx sg _ W HA HN
    · rw [decide_eq_false hz] at HN
      have hqz : q ≠ Ec.zero := fun e => hz ((rep_zero hok.1).1 (by have := hok.2; rwa [e] at this))
      by_cases h64 : sg.size = 64
      · cases hc : (cntN (hiN sg) && cntN (loN sg)) with
        | false =>
          rw [show verR pb tx sg = false by unfold verR; rw [if_neg (by rw [hp]; simp), if_neg hz, if_neg (by omega), if_pos hc]]
          refine ver_pf pb tx sg _ (hiN sg) (loN sg) W HA HN fun c mp mn w h => ?_
          have := partsOf_in sg w h h64
          rwa [hc] at this
        | true =>
          have hv := verR_p q tx sg hqz h64 hc
          rw [← hq] at hv
          rw [hv]
          simp only [Bool.and_eq_true] at hc
          have c1 := hc.1
          have c2 := hc.2
          unfold cntN at c1 c2
          simp only [Bool.and_eq_true, decide_eq_true_eq] at c1 c2
          refine ver_pt pb tx sg _ (hiN sg) (loN sg) ⟨(G.sha2 tx.data.toList).toArray⟩ (N.numB (G.sha2 tx.data.toList)) _ G.Rk W HA HN (fun c mp mn w h => ?_) hG (fun w w' h hb => h.below hb) (fun w h => G.sum2_in tx ht w h) (fun w => ?_) (fun c mp mn w h => fits_in _ q _ _ _ w h hok.1 hok.2 (sha2_num _) c1.2 c2.2 c2.1)
          · have := partsOf_in sg w h h64
            rwa [show (cntN (hiN sg) && cntN (loN sg)) = true by rw [hc.1, hc.2]; rfl] at this
          · exact numberOf_in ⟨(G.sha2 tx.data.toList).toArray⟩ (by show (G.sha2 tx.data.toList).toArray.size ≤ 512; simp [G.sha2_len]) w
      · rw [show verR pb tx sg = false by unfold verR; rw [if_neg (by rw [hp]; simp), if_neg hz, if_pos h64]]
        exact ver_pf pb tx sg _ 0 0 W HA HN fun c mp mn w h => parts_len sg w h h64
end Go.Proofs.YtpimliebiapnfaaGreatDoor
/- The document's Order; what it reckons modulo n. -/
namespace Go.Proofs.YtpimliebiapnfaaGreatDoor
set_option linter.unusedVariables false
set_option linter.unusedSimpArgs false
open Go.RowKit N
attribute [local go_sem ↓] N.loadAt_nat N.storeAt_nat N.build_nat N.build_nat' loadAt_pt storeAt_pt build_pt0 build_pt0' build_pt'
attribute [local go_sem] N.st1 N.st2a N.st2b N.st1d N.st2ad N.st2bd N.natBuild_run ptst1 ptst1d ptBuild0_run build_pt ptBuild_run
attribute [local go_sem ↓] bin_nat bin_pt
theorem mny_256 {A : Nat} (h : A < 2 ^ 256) : N.mny A ≤ 8 := N.mny_small A 8 (Nat.lt_of_lt_of_le h (by decide))
theorem mny_N : N.mny nN ≤ 8 := N.mny_small nN 8 (by decide)
set_option maxRecDepth 100000 in
set_option maxHeartbeats 2000000 in
theorem rorder_in (W : World)   : Calls Tryz.prog 33 #[] W fun e w' => ∃ v, e = .returned v ∧ RN w' v nN ∧ Below W.heap.size W w' := by
  have H := Hid.mk rhexN
  generalize nN = p at H ⊢
  go_enter Tryz.func33, Tryz.ntmps33
  go_wp2_with fail
  refine (H.out _).mono ?_
  rintro e u1 ⟨v, rfl, hr, hb⟩
  go_wp2
  go_ret
  exact ⟨v, rfl, hr, hb⟩
set_option maxRecDepth 100000 in
set_option maxHeartbeats 2000000 in
theorem rnMul (W : World) (vp va vb : Value) (A B : Nat) (hP : RN W vp nN) (hA : RN W va A) (hB : RN W vb B) (hAl : A < 2 ^ 256) (hBl : B < 2 ^ 256) : Calls Tryz.prog 37 #[.agg #[vp], va, vb] W fun e w' => ∃ v, e = .returned v ∧ RN w' v (A * B % nN) ∧ Below W.heap.size W w' := by
  obtain ⟨V, hV, F⟩ : ∃ V, W.alloc (Obj.cells #[vp] 54 (0, 0)) = V ∧ Fm W [(W.heap.size, Obj.cells #[vp] 54 (0, 0))] V := ⟨_, rfl, Fm.box1 W _⟩
  obtain ⟨L, hL⟩ : ∃ L : List (Nat × Obj), [(W.heap.size, Obj.cells #[vp] 54 (0, 0))] = L := ⟨_, rfl⟩
  rw [hL] at F
  have HS : Hid (∀ w, Fm W L w → Fm W L w ∧ w.cell? ⟨W.heap.size, 0, none⟩ = some vp) := fun w h => ⟨h, (N.cells_at (L := [vp]) (h.get 0 (by rw [← hL]; rfl)) rfl).1⟩
  clear hL
  have HP := Hid.mk hP
  have HA := Hid.mk hA
  have HB := Hid.mk hB
  have H1 : Hid (∀ w, RN w va A → RN w vb B → Calls Tryz.prog 73 #[va, vb] w fun e w' => ∃ v, e = .returned v ∧ RN w' v (A * B) ∧ Below w.heap.size w w') := fun w h k => N.rmul_in w va vb A B h k (Nat.le_trans (mny_256 hAl) (by omega)) (Nat.le_trans (mny_256 hBl) (by omega))
  have H2 : Hid (∀ w v, RN w vp nN → RN w v (A * B) → Calls Tryz.prog 38 #[.agg #[vp], v] w fun e w' => ∃ v, e = .returned v ∧ RN w' v (A * B % nN) ∧ Below w.heap.size w w') := fun w v h k => rmod_in w vp v nN _ h k (Nat.le_trans (N.mny_mul A B 8 8 (mny_256 hAl) (mny_256 hBl)) (by omega)) (Nat.le_trans mny_N (by omega)) (by decide)
  clear hP hA hB hAl hBl
  generalize A * B % nN = RR at H2 ⊢
  go_enter Tryz.func37, Tryz.ntmps37
  go_upto_region 1 with fail
  clear hV
  have hS0 := HS.out _ F
  go_region_held3 (fun w => Fm W L w ∧ w.cell? ⟨W.heap.size, 0, none⟩ = some vp)
    (first | assumption | (apply HS.out; repeat (first | assumption | apply Fm.drew | apply Fz.drew | apply Fq.drew | apply Fm.alloc)))
    (first
      | (go_at_call 73; with_reducible refine (H1.out _ (RN.blk (Fm.bel (by repeat (first | assumption | apply Fm.drew | apply Fz.drew | apply Fq.drew | apply Fm.alloc))) HA.out) (RN.blk (Fm.bel (by repeat (first | assumption | apply Fm.drew | apply Fz.drew | apply Fq.drew | apply Fm.alloc))) HB.out)).mono ?_; rintro e w2 ⟨v2, rfl, r2, hb2⟩; have F2 := Fm.blk (by repeat (first | assumption | apply Fm.drew | apply Fz.drew | apply Fq.drew | apply Fm.alloc)) hb2; have hs2 := HS.out _ F2)
      | (go_at_call 38; with_reducible refine (H2.out _ _ (RN.blk (Fm.bel (by repeat (first | assumption | apply Fm.drew | apply Fz.drew | apply Fq.drew | apply Fm.alloc))) HP.out) r2).mono ?_; rintro e w3 ⟨v3, rfl, r3, hb3⟩; have F3 := Fm.blk (by repeat (first | assumption | apply Fm.drew | apply Fz.drew | apply Fq.drew | apply Fm.alloc)) hb3; have hs3 := HS.out _ F3))
  go_wp2
  go_ret
  exact ⟨v3, rfl, r3, F3.bel⟩
set_option maxRecDepth 100000 in
set_option maxHeartbeats 2000000 in
theorem rnInv (W : World) (vp va : Value) (A : Nat) (hP : RN W vp nN) (hA : RN W va A) (hAl : A < nN) (h0 : A ≠ 0) : Calls Tryz.prog 36 #[.agg #[vp], va] W fun e w' => ∃ v, e = .returned v ∧ RN w' v (ivN nN A) ∧ Below W.heap.size W w' := by
  have F := Fm.box1 W (Obj.cells #[vp] 54 (0, 0))
  obtain ⟨V, hV⟩ : ∃ V, W.alloc (Obj.cells #[vp] 54 (0, 0)) = V := ⟨_, rfl⟩
  rw [hV] at F
  have hiv := iv_spec pr_N h0 hAl
  have HD : Hid (Calls Tryz.prog 72 #[va, vp] V fun e w' => ∃ v c, e = .returned (.tuple #[v, .bool c]) ∧ RN w' v (ivN nN A) ∧ Below V.heap.size V w') := (N.rinv_in V va vp A nN (RN.blk F.bel hA) (RN.blk F.bel hP) (Nat.le_trans (mny_256 (Nat.lt_trans hAl n256_lt)) (by omega)) (Nat.le_trans mny_N (by omega)) (by decide)).mono fun e w' ⟨v, I, c, h1, h2, h3, h4⟩ => by
    have hi : N.InvIs A nN (ivN nN A) 0 := Or.inl ⟨rfl, hiv.2, by rw [hiv.1]; decide⟩
    rcases h1 with ⟨_, h1⟩ | ⟨_, _, h1⟩
    · exact ⟨v, c, h2, by rw [← (N.inv_one h1 hi).2]; exact h3, h4⟩
    · exact absurd (N.inv_one h1 hi).1 (by decide)
  have c0 : V.cell? ⟨W.heap.size, 0, none⟩ = some vp := (N.cells_at (L := [vp]) (F.get 0 rfl) rfl).1
  clear hA hP hiv h0 hAl
  generalize ivN nN A = I at HD ⊢
  go_enter Tryz.func36, Tryz.ntmps36
  go_wp2_with fail
  refine HD.out.mono ?_
  rintro e u1 ⟨v, c, rfl, hr, hb⟩
  replace F := F.blk hb
  go_wp2
  go_ret
  exact ⟨v, rfl, hr, F.bel⟩
end Go.Proofs.YtpimliebiapnfaaGreatDoor