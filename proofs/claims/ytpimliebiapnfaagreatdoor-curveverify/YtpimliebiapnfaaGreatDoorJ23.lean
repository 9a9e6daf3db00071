/- Texts of this proof, joined: CExa, CRtl, CRsumA. -/
import Derived.Test.YtpimliebiapnfaaGreatDoorJ22
/- The chapter's examples; wide, hexed. -/
namespace Go.Proofs.YtpimliebiapnfaaGreatDoor
set_option linter.unusedVariables false
set_option linter.unusedSimpArgs false
open Go.RowKit N
attribute [local go_sem ↓] N.loadAt_nat N.storeAt_nat N.build_nat N.build_nat' loadAt_pt storeAt_pt build_pt0 build_pt0' build_pt'
attribute [local go_sem] N.st1 N.st2a N.st2b N.st1d N.st2ad N.st2bd N.natBuild_run ptst1 ptst1d ptBuild0_run build_pt ptBuild_run
attribute [local go_sem ↓] bin_nat bin_pt
abbrev hex2 : ByteArray := ⟨#[55, 99, 102, 50, 55, 98, 49, 56, 56, 100, 48, 51, 52, 102, 55, 101, 56, 97, 53, 50, 51, 56, 48, 51, 48, 52, 98, 53, 49, 97, 99, 51, 99, 48, 56, 57, 54, 57, 101, 50, 55, 55, 102, 50, 49, 98, 51, 53, 97, 54, 48, 98, 52, 56, 102, 99, 52, 55, 54, 54, 57, 57, 55, 56, 48, 55, 55, 55, 53, 53, 49, 48, 100, 98, 56, 101, 100, 48, 52, 48, 50, 57, 51, 100, 57, 97, 99, 54, 57, 102, 55, 52, 51, 48, 100, 98, 98, 97, 55, 100, 97, 100, 101, 54, 51, 99, 101, 57, 56, 50, 50, 57, 57, 101, 48, 52, 98, 55, 57, 100, 50, 50, 55, 56, 55, 51, 100, 49]⟩
abbrev hex2b : List UInt8 := [124, 242, 123, 24, 141, 3, 79, 126, 138, 82, 56, 3, 4, 181, 26, 195, 192, 137, 105, 226, 119, 242, 27, 53, 166, 11, 72, 252, 71, 102, 153, 120, 7, 119, 85, 16, 219, 142, 208, 64, 41, 61, 154, 198, 159, 116, 48, 219, 186, 125, 173, 230, 60, 233, 130, 41, 158, 4, 183, 157, 34, 120, 115, 209]
theorem hex2_u : G.spl 4 hex2b = hex2.data.toList := by decide +kernel
def X2 : Nat := 56515219790691171413109057904011688695424810155802929973526481321309856242040
def Y2 : Nat := 3377031843712258259223711451491452598088675519751548567112458094635497583569
theorem x2_b : N.bys X2 32 ++ N.bys Y2 32 = hex2b := by decide +kernel
theorem rep_2g : Rep ((⟨bX, bY, 1⟩ : T3).sum ⟨bX, bY, 1⟩).jp (some ⟨fz X2, fz Y2⟩) := by
  unfold Rep
  decide +kernel
theorem two_g : tellE (ecG.add ecG) = ⟨hex2b.toArray⟩ := by
  have h1 : (⟨bX, bY, 1⟩ : T3).Ok := T3.one_ok (by decide) (by decide)
  have h2 : Rep (⟨bX, bY, 1⟩ : T3).jp ecG.o := rep_xy bX bY
  have h3 := T3.rep_sum h1 h1 h2 h2
  have h4 := rep_2g
  have ho : (ecG.add ecG).o = some ⟨fz X2, fz Y2⟩ := by
    cases e : (ecG.add ecG).o with
    | none =>
      rw [e] at h3
      exact absurd (show ((⟨bX, bY, 1⟩ : T3).sum ⟨bX, bY, 1⟩).jp.z = 0 by rw [show ((⟨bX, bY, 1⟩ : T3).sum ⟨bX, bY, 1⟩).jp = Jp.zero from h3]; rfl) h4.1
    | some q =>
      rw [e] at h3
      rw [(h3.eq h4 rfl).1 rfl]
  unfold tellE
  rw [ho]
  have v1 : (fz X2).val = X2 := Nat.mod_eq_of_lt (by decide)
  have v2 : (fz Y2).val = Y2 := Nat.mod_eq_of_lt (by decide)
  simp only [v1, v2]
  rw [← x2_b]
  apply ByteArray.ext
  rw [ByteArray.data_append]
  simp
theorem ecG_ne : ecG ≠ Ec.zero := fun h => by cases congrArg Ec.o h
theorem tell_zero : tellE Ec.zero = ⟨#[]⟩ := rfl
theorem ptOf_x : (ptOf ⟨#[120]⟩).2 = false := by
  unfold ptOf
  rw [if_neg (by decide), if_pos (by decide)]
set_option maxRecDepth 100000 in
set_option maxHeartbeats 2000000 in
theorem examples_in  (W : World)  : Calls Tryz.prog 6 #[] W fun e w' => e = .returned (.bool true) ∧ Below W.heap.size W w' := by
  have HB := Hid.mk base_in
  have HS := Hid.mk (sum_yes ecG ecG)
  rw [two_g] at HS
  have hsz : (tellE ecG).size = 64 := by rw [tellE_size]; rfl
  have HT := Hid.mk (fun w => times_len ⟨#[]⟩ (tellE ecG) w (by decide))
  have HX := Hid.mk (fun w => sum_no (tellE ecG) ⟨#[120]⟩ w (Or.inr ptOf_x))
  have HO := Hid.mk (fun w => on_yes ecG w ecG_ne)
  have HZ := Hid.mk (fun w => on_zero Ec.zero w rfl)
  rw [tell_zero] at HZ
  have HH := Hid.mk (G.hex_in ⟨hex2b.toArray⟩ (by decide))
  rw [show (⟨hex2b.toArray⟩ : ByteArray).data.toList = hex2b from rfl, hex2_u] at HH
  generalize tellE ecG = g at *
  have hg : (g.size : Int) = 64 := by omega
  have F := Fm.start W
  go_enter Tryz.func6, Tryz.ntmps6
  go_wp2_with fail
  refine (HB.out _).mono ?_
  rintro e u1 ⟨rfl, hb⟩
  replace F := F.blk hb
  clear hb
  generalize (⟨hex2b.toArray⟩ : ByteArray) = g2 at HS HH
  go_wp2_with fail
  refine (HS.out _).mono ?_
  rintro e u2 ⟨rfl, hb⟩
  replace F := F.blk hb
  clear hb
  go_wp2_with fail
  refine (HT.out _).mono ?_
  rintro e u3 ⟨rfl, hb⟩
  replace F := F.blk hb
  clear hb
  go_wp2_with fail
  refine (HX.out _).mono ?_
  rintro e u4 ⟨rfl, hb⟩
  replace F := F.blk hb
  clear hb
  go_wp2_with fail
  refine (HO.out _).mono ?_
  rintro e u5 ⟨rfl, hb⟩
  replace F := F.blk hb
  clear hb
  go_wp2_with fail
  refine (HZ.out _).mono ?_
  rintro e u6 ⟨rfl, hb⟩
  replace F := F.blk hb
  clear hb
  go_wp2_with fail
  refine (HH.out _).mono ?_
  rintro e u7 ⟨rfl, hb⟩
  replace F := F.blk hb
  clear hb
  go_wp2
  go_ret
  exact ⟨rfl, F.bel⟩
end Go.Proofs.YtpimliebiapnfaaGreatDoor
/- The document's tell, On, Base. -/
namespace Go.Proofs.YtpimliebiapnfaaGreatDoor
set_option linter.unusedVariables false
set_option linter.unusedSimpArgs false
open Go.RowKit N
attribute [local go_sem ↓] N.loadAt_nat N.storeAt_nat N.build_nat N.build_nat' loadAt_pt storeAt_pt build_pt0 build_pt0' build_pt'
attribute [local go_sem] N.st1 N.st2a N.st2b N.st1d N.st2ad N.st2bd N.natBuild_run ptst1 ptst1d ptBuild0_run build_pt ptBuild_run
attribute [local go_sem ↓] bin_nat bin_pt
attribute [local go_sem ↓] storeAt_pd loadAt_pd
set_option maxRecDepth 100000 in
set_option maxHeartbeats 2000000 in
theorem rbase_in (W : World)   : Calls Tryz.prog 12 #[] W fun e w' => e = .returned (.string (tellE ecG)) ∧ Below W.heap.size W w' := by
  have HU : Hid (∀ w, Calls Tryz.prog 28 #[.string hexG] w fun e w' => e = .returned (.tuple #[.string (tellE ecG), .bool true]) ∧ Below w.heap.size w w') := fun w => (G.runhex_in hexG (by decide) w).mono fun e w' ⟨h1, h2⟩ => ⟨by rw [← base_tell]; exact runE_of (by decide +kernel) (by decide +kernel) (by decide +kernel) h1, h2⟩
  generalize tellE ecG = t at HU ⊢
  go_enter Tryz.func12, Tryz.ntmps12
  go_wp2_with fail
  refine (HU.out _).mono ?_
  rintro e u1 ⟨rfl, hb⟩
  go_wp2
  go_ret
  exact ⟨rfl, hb⟩
end Go.Proofs.YtpimliebiapnfaaGreatDoor
/- The document's sum. -/
namespace Go.Proofs.YtpimliebiapnfaaGreatDoor
set_option linter.unusedVariables false
set_option linter.unusedSimpArgs false
open Go.RowKit N
attribute [local go_sem ↓] N.loadAt_nat N.storeAt_nat N.build_nat N.build_nat' loadAt_pt storeAt_pt build_pt0 build_pt0' build_pt'
attribute [local go_sem] N.st1 N.st2a N.st2b N.st1d N.st2ad N.st2bd N.natBuild_run ptst1 ptst1d ptBuild0_run build_pt ptBuild_run
attribute [local go_sem ↓] bin_nat bin_pt
attribute [local go_sem ↓] storeAt_pd loadAt_pd
set_option maxRecDepth 100000 in
set_option maxHeartbeats 2000000 in
theorem rsum_a0 (W : World) (vp ax ay bx by' : Value) (h1 : bx.oneCell' = true) (h2 : by'.oneCell' = true) : Calls Tryz.prog 24 #[.agg #[vp], .agg #[ax, ay, .bool true], .agg #[bx, by', .bool false]] W fun e w' => e = .returned (.agg #[bx, by', .bool false]) ∧ Below W.heap.size W w' := by
  obtain ⟨V, hV, F⟩ : ∃ V, ((((W.alloc (Obj.cells #[vp] 54 (0, 0))).alloc (Obj.cells #[ax, ay, .bool true] 47 (0, 0))).alloc (Obj.cells #[bx, by', .bool false] 47 (0, 0))).alloc (Obj.cells #[.slice none 0 0, .slice none 0 0, .bool false] 47 (0, 0))) = V ∧ Fm W [(W.heap.size + 3, Obj.cells #[.slice none 0 0, .slice none 0 0, .bool false] 47 (0, 0)), (W.heap.size + 2, Obj.cells #[bx, by', .bool false] 47 (0, 0)), (W.heap.size + 1, Obj.cells #[ax, ay, .bool true] 47 (0, 0)), (W.heap.size, Obj.cells #[vp] 54 (0, 0))] V := ⟨_, rfl, Fm.box4 W _ _ _ _⟩
  have c1 : V.cell? ⟨W.heap.size + 1, 2, none⟩ = some (.bool true) := (N.cells_at (L := [ax, ay, .bool true]) (F.get 2 rfl) rfl).1
  have c2 : V.cell? ⟨W.heap.size + 2, 2, none⟩ = some (.bool false) := (N.cells_at (L := [bx, by', .bool false]) (F.get 1 rfl) rfl).1
  have l1 := pdLoad_run (F.get 1 rfl)
  have s6 := pdStore_run (x' := bx) (y' := by') (z' := .bool false) (F.get 0 rfl) h1 h2 rfl
  have F4 := F.put 0 #[bx, by', .bool false] rfl
  go_enter Tryz.func24, Tryz.ntmps24
  go_upto_region 1 with fail
  simp only [Nat.add_assoc, Nat.reduceAdd]
  clear hV
  go_wp2
  exact bodyPost_ret (results_pd Tryz.results24 rfl (F4.get 0 rfl)) rfl ⟨rfl, F4.bel⟩
set_option maxRecDepth 100000 in
set_option maxHeartbeats 2000000 in
theorem rsum_a1 (W : World) (vp ax ay bx by' : Value) (h1 : bx.oneCell' = true) (h2 : by'.oneCell' = true) : Calls Tryz.prog 24 #[.agg #[vp], .agg #[ax, ay, .bool true], .agg #[bx, by', .bool true]] W fun e w' => e = .returned (.agg #[bx, by', .bool true]) ∧ Below W.heap.size W w' := by
  obtain ⟨V, hV, F⟩ : ∃ V, ((((W.alloc (Obj.cells #[vp] 54 (0, 0))).alloc (Obj.cells #[ax, ay, .bool true] 47 (0, 0))).alloc (Obj.cells #[bx, by', .bool true] 47 (0, 0))).alloc (Obj.cells #[.slice none 0 0, .slice none 0 0, .bool false] 47 (0, 0))) = V ∧ Fm W [(W.heap.size + 3, Obj.cells #[.slice none 0 0, .slice none 0 0, .bool false] 47 (0, 0)), (W.heap.size + 2, Obj.cells #[bx, by', .bool true] 47 (0, 0)), (W.heap.size + 1, Obj.cells #[ax, ay, .bool true] 47 (0, 0)), (W.heap.size, Obj.cells #[vp] 54 (0, 0))] V := ⟨_, rfl, Fm.box4 W _ _ _ _⟩
  have c1 : V.cell? ⟨W.heap.size + 1, 2, none⟩ = some (.bool true) := (N.cells_at (L := [ax, ay, .bool true]) (F.get 2 rfl) rfl).1
  have c2 : V.cell? ⟨W.heap.size + 2, 2, none⟩ = some (.bool true) := (N.cells_at (L := [bx, by', .bool true]) (F.get 1 rfl) rfl).1
  have l1 := pdLoad_run (F.get 1 rfl)
  have s6 := pdStore_run (x' := bx) (y' := by') (z' := .bool true) (F.get 0 rfl) h1 h2 rfl
  have F4 := F.put 0 #[bx, by', .bool true] rfl
  go_enter Tryz.func24, Tryz.ntmps24
  go_upto_region 1 with fail
  simp only [Nat.add_assoc, Nat.reduceAdd]
  clear hV
  go_wp2
  exact bodyPost_ret (results_pd Tryz.results24 rfl (F4.get 0 rfl)) rfl ⟨rfl, F4.bel⟩
set_option maxRecDepth 100000 in
set_option maxHeartbeats 2000000 in
theorem rsum_b (W : World) (vp ax ay bx by' : Value) (h1 : ax.oneCell' = true) (h2 : ay.oneCell' = true) : Calls Tryz.prog 24 #[.agg #[vp], .agg #[ax, ay, .bool false], .agg #[bx, by', .bool true]] W fun e w' => e = .returned (.agg #[ax, ay, .bool false]) ∧ Below W.heap.size W w' := by
  obtain ⟨V, hV, F⟩ : ∃ V, ((((W.alloc (Obj.cells #[vp] 54 (0, 0))).alloc (Obj.cells #[ax, ay, .bool false] 47 (0, 0))).alloc (Obj.cells #[bx, by', .bool true] 47 (0, 0))).alloc (Obj.cells #[.slice none 0 0, .slice none 0 0, .bool false] 47 (0, 0))) = V ∧ Fm W [(W.heap.size + 3, Obj.cells #[.slice none 0 0, .slice none 0 0, .bool false] 47 (0, 0)), (W.heap.size + 2, Obj.cells #[bx, by', .bool true] 47 (0, 0)), (W.heap.size + 1, Obj.cells #[ax, ay, .bool false] 47 (0, 0)), (W.heap.size, Obj.cells #[vp] 54 (0, 0))] V := ⟨_, rfl, Fm.box4 W _ _ _ _⟩
  have c1 : V.cell? ⟨W.heap.size + 1, 2, none⟩ = some (.bool false) := (N.cells_at (L := [ax, ay, .bool false]) (F.get 2 rfl) rfl).1
  have c2 : V.cell? ⟨W.heap.size + 2, 2, none⟩ = some (.bool true) := (N.cells_at (L := [bx, by', .bool true]) (F.get 1 rfl) rfl).1
  have l1 := pdLoad_run (F.get 2 rfl)
  have s6 := pdStore_run (x' := ax) (y' := ay) (z' := .bool false) (F.get 0 rfl) h1 h2 rfl
  have F4 := F.put 0 #[ax, ay, .bool false] rfl
  go_enter Tryz.func24, Tryz.ntmps24
  go_upto_region 1 with fail
  simp only [Nat.add_assoc, Nat.reduceAdd]
  clear hV
  go_wp2
  exact bodyPost_ret (results_pd Tryz.results24 rfl (F4.get 0 rfl)) rfl ⟨rfl, F4.bel⟩
end Go.Proofs.YtpimliebiapnfaaGreatDoor