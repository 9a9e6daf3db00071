/- Texts of this proof, joined: CTops, CExa, CRtl, CRsumA. -/
import Derived.Test.YtpimliebiapnfaaGreatDoorJ17
import Derived.Test.YtpimliebiapnfaaGreatDoorJ14
import Derived.Test.YtpimliebiapnfaaGreatDoorJ22
/- On, Sum, Times, Base: in terms of the curve's points. -/
namespace Go.Proofs.YtpimliebiapnfaaGreatDoor
set_option linter.unusedVariables false
set_option linter.unusedSimpArgs false
open Go.RowKit N
attribute [local go_sem ↓] N.loadAt_nat N.storeAt_nat N.build_nat N.build_nat' loadAt_pt storeAt_pt build_pt0 build_pt0' build_pt'
attribute [local go_sem] N.st1 N.st2a N.st2b N.st1d N.st2ad N.st2bd N.natBuild_run ptst1 ptst1d ptBuild0_run build_pt ptBuild_run
attribute [local go_sem ↓] bin_nat bin_pt
set_option maxRecDepth 100000 in
set_option maxHeartbeats 2000000 in
theorem base_in  (W : World)  : Calls Tryz.prog 11 #[] W fun e w' => e = .returned (.string (tellE ecG)) ∧ Below W.heap.size W w' := by
  have HU := Hid.mk (G.unhex_yes hexG (by decide) hexGb hexG_u)
  rw [base_tell] at HU
  generalize tellE ecG = t at HU ⊢
  go_enter Tryz.func11, Tryz.ntmps11
  go_wp2_with fail
  refine (HU.out _).mono ?_
  rintro e u1 ⟨rfl, hb⟩
  go_wp2
  go_ret
  exact ⟨rfl, hb⟩
set_option maxRecDepth 100000 in
set_option maxHeartbeats 2000000 in
theorem on_yes (p : Ec) (W : World) (hp : p ≠ Ec.zero) : Calls Tryz.prog 10 #[.string (tellE p)] W fun e w' => e = .returned (.bool true) ∧ Below W.heap.size W w' := by
  obtain ⟨h1, h2, h3⟩ := ptOf_tell p
  have HN : Hid (∀ w, Calls Tryz.prog 26 #[.agg (ptL (ptOf (tellE p)).1).toArray] w fun e w' => e = .returned (.bool false) ∧ Below w.heap.size w w') := fun w => (nowhere_in _ h2.lm w).mono fun e w' ⟨he, hb⟩ => ⟨by rw [he]; exact congrArg (fun x => Ending.returned (.bool x)) (decide_eq_false fun e => hp (Ec.ext2 (by cases ho : p.o with | none => rfl | some q => (rw [ho, e] at h3; exact absurd fz_0 h3.1)))), hb⟩
  have HO : Hid (∀ (c mp mn : Nat) w, Cv w c mp mn → Calls Tryz.prog 19 #[boxM c, .string (tellE p)] w fun e w' => e = .returned (.tuple #[.agg (ptL (ptOf (tellE p)).1).toArray, .bool true]) ∧ Below w.heap.size w w') := fun c mp mn w h => by
    have := pointOf_in (tellE p) w h
    rwa [h1] at this
  generalize (ptOf (tellE p)).1 = a at HN HO
  generalize tellE p = s at HO ⊢
  clear h1 h2 h3 hp
  have HP := Hid.mk p256_in
  have hzp := zeroPt
  have F := Fm.start W
  go_enter Tryz.func10, Tryz.ntmps10
  go_wp2_with fail
  refine (HP.out _).mono ?_
  rintro e u0 ⟨c, mp, mn, rfl, C, hb⟩
  replace F := F.blk hb
  clear hb HP
  go_wp2_with fail
  refine (HO.out _ _ _ _ C).mono ?_
  rintro e u1 ⟨rfl, hb⟩
  replace F := F.blk hb
  clear hb
  go_upto_region 2 with fail
  replace F := F.new (Obj.cells (ptL a).toArray 40 (0, 0))
  generalize u1.alloc (Obj.cells (ptL a).toArray 40 (0, 0)) = v1 at F ⊢
  generalize u1.heap.size = b3 at F ⊢
  have l3 := ptLoad_run (F.get 0 rfl)
  go_wp2_with fail
  refine (HN.out _).mono ?_
  rintro e u2 ⟨rfl, hb⟩
  replace F := F.blk hb
  clear hb
  go_wp2
  go_ret
  exact ⟨rfl, F.bel⟩
set_option maxRecDepth 100000 in
set_option maxHeartbeats 2000000 in
theorem on_zero (p : Ec) (W : World) (hp : p = Ec.zero) : Calls Tryz.prog 10 #[.string (tellE p)] W fun e w' => e = .returned (.bool false) ∧ Below W.heap.size W w' := by
  obtain ⟨h1, h2, h3⟩ := ptOf_tell p
  have HN : Hid (∀ w, Calls Tryz.prog 26 #[.agg (ptL (ptOf (tellE p)).1).toArray] w fun e w' => e = .returned (.bool true) ∧ Below w.heap.size w w') := fun w => (nowhere_in _ h2.lm w).mono fun e w' ⟨he, hb⟩ => ⟨by rw [he]; exact congrArg (fun x => Ending.returned (.bool x)) (decide_eq_true ((rep_zero h2).1 (by rw [hp] at h3 ⊢; exact h3))), hb⟩
  have HO : Hid (∀ (c mp mn : Nat) w, Cv w c mp mn → Calls Tryz.prog 19 #[boxM c, .string (tellE p)] w fun e w' => e = .returned (.tuple #[.agg (ptL (ptOf (tellE p)).1).toArray, .bool true]) ∧ Below w.heap.size w w') := fun c mp mn w h => by
    have := pointOf_in (tellE p) w h
    rwa [h1] at this
  generalize (ptOf (tellE p)).1 = a at HN HO
  generalize tellE p = s at HO ⊢
  clear h1 h2 h3 hp
  have HP := Hid.mk p256_in
  have hzp := zeroPt
  have F := Fm.start W
  go_enter Tryz.func10, Tryz.ntmps10
  go_wp2_with fail
  refine (HP.out _).mono ?_
  rintro e u0 ⟨c, mp, mn, rfl, C, hb⟩
  replace F := F.blk hb
  clear hb HP
  go_wp2_with fail
  refine (HO.out _ _ _ _ C).mono ?_
  rintro e u1 ⟨rfl, hb⟩
  replace F := F.blk hb
  clear hb
  go_upto_region 2 with fail
  replace F := F.new (Obj.cells (ptL a).toArray 40 (0, 0))
  generalize u1.alloc (Obj.cells (ptL a).toArray 40 (0, 0)) = v1 at F ⊢
  generalize u1.heap.size = b3 at F ⊢
  have l3 := ptLoad_run (F.get 0 rfl)
  go_wp2_with fail
  refine (HN.out _).mono ?_
  rintro e u2 ⟨rfl, hb⟩
  replace F := F.blk hb
  clear hb
  go_wp2
  go_ret
  exact ⟨rfl, F.bel⟩
set_option maxRecDepth 100000 in
set_option maxHeartbeats 2000000 in
theorem on_no (s : ByteArray) (W : World) (hs : (ptOf s).2 = false) : Calls Tryz.prog 10 #[.string s] W fun e w' => e = .returned (.bool false) ∧ Below W.heap.size W w' := by
  have HO : Hid (∀ (c mp mn : Nat) w, Cv w c mp mn → Calls Tryz.prog 19 #[boxM c, .string s] w fun e w' => e = .returned (.tuple #[.agg (ptL (ptOf s).1).toArray, .bool false]) ∧ Below w.heap.size w w') := fun c mp mn w h => by
    have := pointOf_in s w h
    rwa [hs] at this
  generalize (ptOf s).1 = a at HO
  clear hs
  have HP := Hid.mk p256_in
  have hzp := zeroPt
  have F := Fm.start W
  go_enter Tryz.func10, Tryz.ntmps10
  go_wp2_with fail
  refine (HP.out _).mono ?_
  rintro e u0 ⟨c, mp, mn, rfl, C, hb⟩
  replace F := F.blk hb
  clear hb HP
  go_wp2_with fail
  refine (HO.out _ _ _ _ C).mono ?_
  rintro e u1 ⟨rfl, hb⟩
  replace F := F.blk hb
  clear hb
  go_upto_region 2 with fail
  replace F := F.new (Obj.cells (ptL a).toArray 40 (0, 0))
  generalize u1.alloc (Obj.cells (ptL a).toArray 40 (0, 0)) = v1 at F ⊢
  generalize u1.heap.size = b3 at F ⊢
  go_wp2
  go_ret
  exact ⟨rfl, F.bel⟩
set_option maxRecDepth 100000 in
set_option maxHeartbeats 2000000 in
theorem sum_yes (p q : Ec) (W : World)  : Calls Tryz.prog 7 #[.string (tellE p), .string (tellE q)] W fun e w' => e = .returned (.tuple #[.string (tellE (p.add q)), .int .i64 0]) ∧ Below W.heap.size W w' := by
  obtain ⟨h1, h2, h3⟩ := ptOf_tell p
  obtain ⟨g1, g2, g3⟩ := ptOf_tell q
  have HA : Hid (∀ (c mp mn : Nat) w, Cv w c mp mn → Calls Tryz.prog 19 #[boxM c, .string (tellE p)] w fun e w' => e = .returned (.tuple #[.agg (ptL (ptOf (tellE p)).1).toArray, .bool true]) ∧ Below w.heap.size w w') := fun c mp mn w h => by
    have := pointOf_in (tellE p) w h
    rwa [h1] at this
  have HB : Hid (∀ (c mp mn : Nat) w, Cv w c mp mn → Calls Tryz.prog 19 #[boxM c, .string (tellE q)] w fun e w' => e = .returned (.tuple #[.agg (ptL (ptOf (tellE q)).1).toArray, .bool true]) ∧ Below w.heap.size w w') := fun c mp mn w h => by
    have := pointOf_in (tellE q) w h
    rwa [g1] at this
  generalize (ptOf (tellE p)).1 = a at HA h2 h3
  generalize (ptOf (tellE q)).1 = b at HB g2 g3
  have hok := T3.sum_ok h2 g2
  have hrp := T3.rep_sum h2 g2 h3 g3
  have HS : Hid (∀ (c mp mn : Nat) w, Cv w c mp mn → Calls Tryz.prog 21 #[boxM c, .agg (ptL a).toArray, .agg (ptL b).toArray] w fun e w' => e = .returned (.agg (ptL (a.sum b)).toArray) ∧ Below w.heap.size w w') := fun c mp mn w h => sum_in a b w h h2 g2
  have HT : Hid (∀ (c mp mn : Nat) w, Cv w c mp mn → Calls Tryz.prog 20 #[boxM c, .agg (ptL (a.sum b)).toArray] w fun e w' => e = .returned (.string (tellE (p.add q))) ∧ Below w.heap.size w w') := fun c mp mn w h => (bytesOf_in _ w h hok (T3.repEnd hok hrp)).mono fun e w' ⟨he, hb⟩ => ⟨by rw [he, tellT_eq hok hrp], hb⟩
  generalize tellE (p.add q) = t at HT ⊢
  generalize tellE p = sp at HA ⊢
  generalize tellE q = sq at HB ⊢
  generalize a.sum b = d at HS HT
  clear h1 h2 h3 g1 g2 g3 hok hrp
  have HP := Hid.mk p256_in
  have hzp := zeroPt
  have F := Fm.start W
  go_enter Tryz.func7, Tryz.ntmps7
  go_wp2_with fail
  refine (HP.out _).mono ?_
  rintro e u0 ⟨c, mp, mn, rfl, C, hb⟩
  replace F := F.blk hb
  clear hb HP
  go_wp2_with fail
  refine (HA.out _ _ _ _ C).mono ?_
  rintro e u1 ⟨rfl, hb⟩
  replace F := F.blk hb
  replace C := C.blk hb
  clear hb
  go_upto_region 3 with fail
  have hA := (Below.refl u1.heap.size u1).alloc (Nat.le_refl _) (Obj.cells (ptL a).toArray 40 (0, 0))
  replace C := C.blk hA
  replace F := F.new (Obj.cells (ptL a).toArray 40 (0, 0))
  clear hA
  generalize u1.alloc (Obj.cells (ptL a).toArray 40 (0, 0)) = v1 at F C ⊢
  generalize u1.heap.size = b7 at F ⊢
  go_wp2_with fail
  refine (HB.out _ _ _ _ C).mono ?_
  rintro e u2 ⟨rfl, hb⟩
  replace F := F.blk hb
  replace C := C.blk hb
  clear hb
  go_upto_region 4 with fail
  have hA := (Below.refl u2.heap.size u2).alloc (Nat.le_refl _) (Obj.cells (ptL b).toArray 40 (0, 0))
  replace C := C.blk hA
  replace F := F.new (Obj.cells (ptL b).toArray 40 (0, 0))
  clear hA
  generalize u2.alloc (Obj.cells (ptL b).toArray 40 (0, 0)) = v2 at F C ⊢
  generalize u2.heap.size = b9 at F ⊢
  have l7 := ptLoad_run (F.get 1 rfl)
  have l9 := ptLoad_run (F.get 0 rfl)
  go_wp2_with fail
  refine (HS.out _ _ _ _ C).mono ?_
  rintro e u3 ⟨rfl, hb⟩
  replace F := F.blk hb
  replace C := C.blk hb
  clear hb l7 l9
  go_wp2_with fail
  refine (HT.out _ _ _ _ C).mono ?_
  rintro e u4 ⟨rfl, hb⟩
  replace F := F.blk hb
  clear hb
  go_wp2
  go_ret2
  exact ⟨rfl, F.bel⟩
set_option maxRecDepth 100000 in
set_option maxHeartbeats 2000000 in
theorem sum_no (s t : ByteArray) (W : World) (h : (ptOf s).2 = false ∨ (ptOf t).2 = false) : Calls Tryz.prog 7 #[.string s, .string t] W fun e w' => e = .returned (.tuple #[.string ⟨#[]⟩, .int .i64 8]) ∧ Below W.heap.size W w' := by
  have HA : Hid (∀ (c mp mn : Nat) w, Cv w c mp mn → Calls Tryz.prog 19 #[boxM c, .string s] w fun e w' => e = .returned (.tuple #[.agg (ptL (ptOf s).1).toArray, .bool (ptOf s).2]) ∧ Below w.heap.size w w') := fun c mp mn w h => pointOf_in s w h
  have HB : Hid (∀ (c mp mn : Nat) w, Cv w c mp mn → Calls Tryz.prog 19 #[boxM c, .string t] w fun e w' => e = .returned (.tuple #[.agg (ptL (ptOf t).1).toArray, .bool (ptOf t).2]) ∧ Below w.heap.size w w') := fun c mp mn w h => pointOf_in t w h
  generalize (ptOf s).1 = a at HA
  generalize (ptOf t).1 = b at HB
  generalize (ptOf s).2 = x at HA h
  generalize (ptOf t).2 = y at HB h
  have HP := Hid.mk p256_in
  have hzp := zeroPt
  have F := Fm.start W
  go_enter Tryz.func7, Tryz.ntmps7
  go_wp2_with fail
  refine (HP.out _).mono ?_
  rintro e u0 ⟨c, mp, mn, rfl, C, hb⟩
  replace F := F.blk hb
  clear hb HP
  go_wp2_with fail
  refine (HA.out _ _ _ _ C).mono ?_
  rintro e u1 ⟨rfl, hb⟩
  replace F := F.blk hb
  replace C := C.blk hb
  clear hb
  go_upto_region 3 with fail
  have hA := (Below.refl u1.heap.size u1).alloc (Nat.le_refl _) (Obj.cells (ptL a).toArray 40 (0, 0))
  replace C := C.blk hA
  replace F := F.new (Obj.cells (ptL a).toArray 40 (0, 0))
  clear hA
  generalize u1.alloc (Obj.cells (ptL a).toArray 40 (0, 0)) = v1 at F C ⊢
  generalize u1.heap.size = b7 at F ⊢
  go_wp2_with fail
  refine (HB.out _ _ _ _ C).mono ?_
  rintro e u2 ⟨rfl, hb⟩
  replace F := F.blk hb
  replace C := C.blk hb
  clear hb
  go_upto_region 4 with fail
  have hA := (Below.refl u2.heap.size u2).alloc (Nat.le_refl _) (Obj.cells (ptL b).toArray 40 (0, 0))
  replace C := C.blk hA
  replace F := F.new (Obj.cells (ptL b).toArray 40 (0, 0))
  clear hA
  generalize u2.alloc (Obj.cells (ptL b).toArray 40 (0, 0)) = v2 at F C ⊢
  generalize u2.heap.size = b9 at F ⊢
  cases x with
  | false =>
    go_wp2
    go_ret2
    exact ⟨rfl, F.bel⟩
  | true =>
    cases y with
    | false =>
      go_wp2
      go_ret2
      exact ⟨rfl, F.bel⟩
    | true => simp at h
set_option maxRecDepth 100000 in
set_option maxHeartbeats 2000000 in
theorem times_len (k s : ByteArray) (W : World) (h : k.size ≠ 32) : Calls Tryz.prog 13 #[.string k, .string s] W fun e w' => e = .returned (.tuple #[.string ⟨#[]⟩, .int .i64 1]) ∧ Below W.heap.size W w' := by
  have hk : ((k.size : Int) != 32) = true := by simp; omega
  clear h
  go_enter Tryz.func13, Tryz.ntmps13
  go_wp2
  go_ret2
  exact ⟨rfl, Below.refl _ _⟩
set_option maxRecDepth 100000 in
set_option maxHeartbeats 2000000 in
theorem times_no (k s : ByteArray) (W : World) (h : k.size = 32) (hs : (ptOf s).2 = false) : Calls Tryz.prog 13 #[.string k, .string s] W fun e w' => e = .returned (.tuple #[.string ⟨#[]⟩, .int .i64 8]) ∧ Below W.heap.size W w' := by
  have hk : ((k.size : Int) != 32) = false := by simp; omega
  have HA : Hid (∀ (c mp mn : Nat) w, Cv w c mp mn → Calls Tryz.prog 19 #[boxM c, .string s] w fun e w' => e = .returned (.tuple #[.agg (ptL (ptOf s).1).toArray, .bool false]) ∧ Below w.heap.size w w') := fun c mp mn w h => by
    have := pointOf_in s w h
    rwa [hs] at this
  generalize (ptOf s).1 = a at HA
  clear h hs
  have HP := Hid.mk p256_in
  have hzp := zeroPt
  have F := Fm.start W
  go_enter Tryz.func13, Tryz.ntmps13
  go_wp2_with fail
  refine (HP.out _).mono ?_
  rintro e u0 ⟨c, mp, mn, rfl, C, hb⟩
  replace F := F.blk hb
  clear hb HP
  go_wp2_with fail
  refine (HA.out _ _ _ _ C).mono ?_
  rintro e u1 ⟨rfl, hb⟩
  replace F := F.blk hb
  replace C := C.blk hb
  clear hb
  go_upto_region 5 with fail
  have hA := (Below.refl u1.heap.size u1).alloc (Nat.le_refl _) (Obj.cells (ptL a).toArray 40 (0, 0))
  replace C := C.blk hA
  replace F := F.new (Obj.cells (ptL a).toArray 40 (0, 0))
  clear hA
  generalize u1.alloc (Obj.cells (ptL a).toArray 40 (0, 0)) = v1 at F C ⊢
  generalize u1.heap.size = b7 at F ⊢
  go_wp2
  go_ret2
  exact ⟨rfl, F.bel⟩
set_option maxRecDepth 100000 in
set_option maxHeartbeats 2000000 in
theorem times_yes (k : ByteArray) (p : Ec) (W : World) (h : k.size = 32) : Calls Tryz.prog 13 #[.string k, .string (tellE p)] W fun e w' => e = .returned (.tuple #[.string (tellE (Ec.mul (N.numB k.data.toList) p)), .int .i64 0]) ∧ Below W.heap.size W w' := by
  have hk : ((k.size : Int) != 32) = false := by simp; omega
  obtain ⟨h1, h2, h3⟩ := ptOf_tell p
  have HA : Hid (∀ (c mp mn : Nat) w, Cv w c mp mn → Calls Tryz.prog 19 #[boxM c, .string (tellE p)] w fun e w' => e = .returned (.tuple #[.agg (ptL (ptOf (tellE p)).1).toArray, .bool true]) ∧ Below w.heap.size w w') := fun c mp mn w h => by
    have := pointOf_in (tellE p) w h
    rwa [h1] at this
  generalize (ptOf (tellE p)).1 = a at HA h2 h3
  have HNo := Hid.mk (numberOf_in k (by omega))
  have hK : N.numB k.data.toList < 2 ^ 256 := by
    have h1 := N.numB_lt k.data.toList
    rw [size_list, h] at h1
    exact Nat.lt_of_lt_of_le h1 (by decide)
  generalize N.numB k.data.toList = K at HNo hK ⊢
  have hb8 : K < 2 ^ (8 * N.nbl K) := by
    have := N.nbl_lt K
    rwa [show (256 : Nat) = 2 ^ 8 from rfl, ← Nat.pow_mul] at this
  have hok := T3.times_ok h2 (8 * N.nbl K) K
  have hrp := T3.rep_times h2 h3 hb8
  have HS : Hid (∀ (c mp mn : Nat) w, Cv w c mp mn → Calls Tryz.prog 29 #[boxM c, .agg (N.natL K).toArray, .agg (ptL a).toArray] w fun e w' => e = .returned (.agg (ptL (a.times (8 * N.nbl K) K)).toArray) ∧ Below w.heap.size w w') := fun c mp mn w h => taken_in K a w h h2 hK
  have HT : Hid (∀ (c mp mn : Nat) w, Cv w c mp mn → Calls Tryz.prog 20 #[boxM c, .agg (ptL (a.times (8 * N.nbl K) K)).toArray] w fun e w' => e = .returned (.string (tellE (Ec.mul K p))) ∧ Below w.heap.size w w') := fun c mp mn w h => (bytesOf_in _ w h hok (T3.repEnd hok hrp)).mono fun e w' ⟨he, hb⟩ => ⟨by rw [he, tellT_eq hok hrp], hb⟩
  generalize tellE (Ec.mul K p) = t at HT ⊢
  generalize tellE p = sp at HA ⊢
  generalize a.times (8 * N.nbl K) K = d at HS HT
  clear h1 h2 h3 hok hrp hb8 hK h
  have HP := Hid.mk p256_in
  have hzp := zeroPt
  have F := Fm.start W
  go_enter Tryz.func13, Tryz.ntmps13
  go_wp2_with fail
  refine (HP.out _).mono ?_
  rintro e u0 ⟨c, mp, mn, rfl, C, hb⟩
  replace F := F.blk hb
  clear hb HP
  go_wp2_with fail
  refine (HA.out _ _ _ _ C).mono ?_
  rintro e u1 ⟨rfl, hb⟩
  replace F := F.blk hb
  replace C := C.blk hb
  clear hb
  go_upto_region 5 with fail
  have hA := (Below.refl u1.heap.size u1).alloc (Nat.le_refl _) (Obj.cells (ptL a).toArray 40 (0, 0))
  replace C := C.blk hA
  replace F := F.new (Obj.cells (ptL a).toArray 40 (0, 0))
  clear hA
  generalize u1.alloc (Obj.cells (ptL a).toArray 40 (0, 0)) = v1 at F C ⊢
  generalize u1.heap.size = b7 at F ⊢
  go_upto_region 7 with fail
  obtain ⟨L, hL⟩ : ∃ L : List (Nat × Obj), [(b7, Obj.cells (ptL a).toArray 40 (0, 0))] = L := ⟨_, rfl⟩
  rw [hL] at F
  have HS7 : Hid (∀ w, (Fm W L w ∧ Cv w c mp mn) → (Fm W L w ∧ Cv w c mp mn) ∧ (ptLoad (.pointer (some ⟨b7, 0, none⟩))).run Tryz.prog w = .ok (.agg (ptL a).toArray) w) := fun w h => ⟨h, ptLoad_run (h.1.get 0 (by rw [← hL]; rfl))⟩
  have FC : Fm W L v1 ∧ Cv v1 c mp mn := ⟨F, C⟩
  have HBK : Hid (∀ w w', (Fm W L w ∧ Cv w c mp mn) → Below w.heap.size w w' → Fm W L w' ∧ Cv w' c mp mn) := fun w w' h hb => ⟨h.1.blk hb, h.2.blk hb⟩
  have HDR : Hid (∀ w, (Fm W L w ∧ Cv w c mp mn) → Fm W L w.drew ∧ Cv w.drew c mp mn) := fun w h => ⟨h.1.drew, h.2.box, h.2.p, h.2.n⟩
  have FCd := HDR.out _ FC
  have hS0 := HS7.out _ FCd
  clear C F
  go_region_held3 (fun w => (Fm W L w ∧ Cv w c mp mn) ∧ (ptLoad (.pointer (some ⟨b7, 0, none⟩))).run Tryz.prog w = .ok (.agg (ptL a).toArray) w)
    (first | assumption | exact hS0)
    (first
      | (go_at_call 30; with_reducible refine (HNo.out _).mono ?_; rintro e w2 ⟨rfl, hb2⟩; have FC2 := HBK.out _ _ FCd hb2; have hs2 := HS7.out _ FC2)
      | (go_at_call 29; with_reducible refine (HS.out _ _ _ _ FC2.2).mono ?_; rintro e w3 ⟨rfl, hb3⟩; have FC3 := HBK.out _ _ FC2 hb3; have hs3 := HS7.out _ FC3)
      | (go_at_call 20; with_reducible refine (HT.out _ _ _ _ FC3.2).mono ?_; rintro e w4 ⟨rfl, hb4⟩; have FC4 := HBK.out _ _ FC3 hb4; have hs4 := HS7.out _ FC4))
  go_wp2
  go_ret2
  exact ⟨rfl, FC4.1.bel⟩
end Go.Proofs.YtpimliebiapnfaaGreatDoor

/- The chapter's examples; wide, hexed. -/
namespace Go.Proofs.YtpimliebiapnfaaGreatDoor
set_option linter.unusedVariables false
set_option linter.unusedSimpArgs false
open Go.RowKit N
attribute [local go_sem ↓] N.loadAt_nat N.storeAt_nat N.build_nat N.build_nat' loadAt_pt storeAt_pt build_pt0 build_pt0' build_pt'
attribute [local go_sem] N.st1 N.st2a N.st2b N.st1d N.st2ad N.st2bd N.natBuild_run ptst1 ptst1d ptBuild0_run build_pt ptBuild_run
attribute [local go_sem ↓] bin_nat bin_pt
abbrev hex2 : ByteArray := ⟨#[55, 99, 102, 50, 55, 98, 49, 56, 56, 100, 48, 51, 52, 102, 55, 101, 56, 97, 53, 50, 51, 56, 48, 51, 48, 52, 98, 53, 49, 97, 99, 51, 99, 48, 56, 57, 54, 57, 101, 50, 55, 55, 102, 50, 49, 98, 51, 53, 97, 54, 48, 98, 52, 56, 102, 99, 52, 55, 54, 54, 57, 57, 55, 56, 48, 55, 55, 55, 53, 53, 49, 48, 100, 98, 56, 101, 100, 48, 52, 48, 50, 57, 51, 100, 57, 97, 99, 54, 57, 102, 55, 52, 51, 48, 100, 98, 98, 97, 55, 100, 97, 100, 101, 54, 51, 99, 101, 57, 56, 50, 50, 57, 57, 101, 48, 52, 98, 55, 57, 100, 50, 50, 55, 56, 55, 51, 100, 49]⟩
abbrev hex2b : List UInt8 := [124, 242, 123, 24, 141, 3, 79, 126, 138, 82, 56, 3, 4, 181, 26, 195, 192, 137, 105, 226, 119, 242, 27, 53, 166, 11, 72, 252, 71, 102, 153, 120, 7, 119, 85, 16, 219, 142, 208, 64, 41, 61, 154, 198, 159, 116, 48, 219, 186, 125, 173, 230, 60, 233, 130, 41, 158, 4, 183, 157, 34, 120, 115, 209]
theorem hex2_u : G.spl 4 hex2b = hex2.data.toList := by decide +kernel
def X2 : Nat := 56515219790691171413109057904011688695424810155802929973526481321309856242040
def Y2 : Nat := 3377031843712258259223711451491452598088675519751548567112458094635497583569
theorem x2_b : N.bys X2 32 ++ N.bys Y2 32 = hex2b := by decide +kernel
/-- the sum of the base and itself. -/
theorem rep_2g : Rep ((⟨bX, bY, 1⟩ : T3).sum ⟨bX, bY, 1⟩).jp (some ⟨fz X2, fz Y2⟩) := by
  unfold Rep
  decide +kernel
theorem two_g : tellE (ecG.add ecG) = ⟨hex2b.toArray⟩ := by
  have h1 : (⟨bX, bY, 1⟩ : T3).Ok := T3.one_ok (by decide) (by decide)
  have h2 : Rep (⟨bX, bY, 1⟩ : T3).jp ecG.o := rep_xy bX bY
  have h3 := T3.rep_sum h1 h1 h2 h2
  have h4 := rep_2g
  have ho : (ecG.add ecG).o = some ⟨fz X2, fz Y2⟩ := by
    cases e : (ecG.add ecG).o with
    | none =>
      rw [e] at h3
      exact absurd (show ((⟨bX, bY, 1⟩ : T3).sum ⟨bX, bY, 1⟩).jp.z = 0 by rw [show ((⟨bX, bY, 1⟩ : T3).sum ⟨bX, bY, 1⟩).jp = Jp.zero from h3]; rfl) h4.1
    | some q =>
      rw [e] at h3
      rw [(h3.eq h4 rfl).1 rfl]
  unfold tellE
  rw [ho]
  have v1 : (fz X2).val = X2 := Nat.mod_eq_of_lt (by decide)
  have v2 : (fz Y2).val = Y2 := Nat.mod_eq_of_lt (by decide)
  simp only [v1, v2]
  rw [← x2_b]
  apply ByteArray.ext
  rw [ByteArray.data_append]
  simp
theorem ecG_ne : ecG ≠ Ec.zero := fun h => by cases congrArg Ec.o h
theorem tell_zero : tellE Ec.zero = ⟨#[]⟩ := rfl
theorem ptOf_x : (ptOf ⟨#[120]⟩).2 = false := by
  unfold ptOf
  rw [if_neg (by decide), if_pos (by decide)]
set_option maxRecDepth 100000 in
set_option maxHeartbeats 2000000 in
theorem examples_in  (W : World)  : Calls Tryz.prog 6 #[] W fun e w' => e = .returned (.bool true) ∧ Below W.heap.size W w' := by
  have HB := Hid.mk base_in
  have HS := Hid.mk (sum_yes ecG ecG)
  rw [two_g] at HS
  have hsz : (tellE ecG).size = 64 := by rw [tellE_size]; rfl
  have HT := Hid.mk (fun w => times_len ⟨#[]⟩ (tellE ecG) w (by decide))
  have HX := Hid.mk (fun w => sum_no (tellE ecG) ⟨#[120]⟩ w (Or.inr ptOf_x))
  have HO := Hid.mk (fun w => on_yes ecG w ecG_ne)
  have HZ := Hid.mk (fun w => on_zero Ec.zero w rfl)
  rw [tell_zero] at HZ
  have HH := Hid.mk (G.hex_in ⟨hex2b.toArray⟩ (by decide))
  rw [show (⟨hex2b.toArray⟩ : ByteArray).data.toList = hex2b from rfl, hex2_u] at HH
  generalize tellE ecG = g at *
  have hg : (g.size : Int) = 64 := by omega
  have F := Fm.start W
  go_enter Tryz.func6, Tryz.ntmps6
  go_wp2_with fail
  refine (HB.out _).mono ?_
  rintro e u1 ⟨rfl, hb⟩
  replace F := F.blk hb
  clear hb
  generalize (⟨hex2b.toArray⟩ : ByteArray) = g2 at HS HH
  go_wp2_with fail
  refine (HS.out _).mono ?_
  rintro e u2 ⟨rfl, hb⟩
  replace F := F.blk hb
  clear hb
  go_wp2_with fail
  refine (HT.out _).mono ?_
  rintro e u3 ⟨rfl, hb⟩
  replace F := F.blk hb
  clear hb
  go_wp2_with fail
  refine (HX.out _).mono ?_
  rintro e u4 ⟨rfl, hb⟩
  replace F := F.blk hb
  clear hb
  go_wp2_with fail
  refine (HO.out _).mono ?_
  rintro e u5 ⟨rfl, hb⟩
  replace F := F.blk hb
  clear hb
  go_wp2_with fail
  refine (HZ.out _).mono ?_
  rintro e u6 ⟨rfl, hb⟩
  replace F := F.blk hb
  clear hb
  go_wp2_with fail
  refine (HH.out _).mono ?_
  rintro e u7 ⟨rfl, hb⟩
  replace F := F.blk hb
  clear hb
  go_wp2
  go_ret
  exact ⟨rfl, F.bel⟩
end Go.Proofs.YtpimliebiapnfaaGreatDoor

/- The document's tell, On, Base. -/
namespace Go.Proofs.YtpimliebiapnfaaGreatDoor
set_option linter.unusedVariables false
set_option linter.unusedSimpArgs false
open Go.RowKit N
attribute [local go_sem ↓] N.loadAt_nat N.storeAt_nat N.build_nat N.build_nat' loadAt_pt storeAt_pt build_pt0 build_pt0' build_pt'
attribute [local go_sem] N.st1 N.st2a N.st2b N.st1d N.st2ad N.st2bd N.natBuild_run ptst1 ptst1d ptBuild0_run build_pt ptBuild_run
attribute [local go_sem ↓] bin_nat bin_pt
attribute [local go_sem ↓] storeAt_pd loadAt_pd
set_option maxRecDepth 100000 in
set_option maxHeartbeats 2000000 in
theorem rtell_0 (W : World) (vx vy : Value)  : Calls Tryz.prog 23 #[.agg #[vx, vy, .bool true]] W fun e w' => e = .returned (.string ⟨#[]⟩) ∧ Below W.heap.size W w' := by
  obtain ⟨V, hV, F⟩ : ∃ V, W.alloc (Obj.cells #[vx, vy, .bool true] 47 (0, 0)) = V ∧ Fm W [(W.heap.size, Obj.cells #[vx, vy, .bool true] 47 (0, 0))] V := ⟨_, rfl, Fm.box1 W _⟩
  have c2 : V.cell? ⟨W.heap.size, 2, none⟩ = some (.bool true) := (N.cells_at (L := [vx, vy, .bool true]) (F.get 0 rfl) rfl).1
  go_enter Tryz.func23, Tryz.ntmps23
  go_wp2
  go_ret
  exact ⟨rfl, F.bel⟩
set_option maxRecDepth 100000 in
set_option maxHeartbeats 2000000 in
theorem rtell_1 (W : World) (vx vy : Value) (x y : Nat) (hX : RN W vx x) (hY : RN W vy y) : Calls Tryz.prog 23 #[.agg #[vx, vy, .bool false]] W fun e w' => e = .returned (.string (⟨(N.bys x 32).toArray⟩ ++ ⟨(N.bys y 32).toArray⟩)) ∧ Below W.heap.size W w' := by
  have HX := Hid.mk hX
  have HY := Hid.mk hY
  have H1 : Hid (∀ w, RN w vx x → Calls Tryz.prog 54 #[vx, .int .i64 32] w fun e w' => e = .returned (.string ⟨(N.bys x 32).toArray⟩) ∧ Below w.heap.size w w') := fun w h => N.rwide_in w vx x 32 h (by omega)
  have H2 : Hid (∀ w, RN w vy y → Calls Tryz.prog 54 #[vy, .int .i64 32] w fun e w' => e = .returned (.string ⟨(N.bys y 32).toArray⟩) ∧ Below w.heap.size w w') := fun w h => N.rwide_in w vy y 32 h (by omega)
  have z1 := bys_32 x
  have z2 := bys_32 y
  generalize (⟨(N.bys x 32).toArray⟩ : ByteArray) = X at H1 z1 ⊢
  generalize (⟨(N.bys y 32).toArray⟩ : ByteArray) = Y at H2 z2 ⊢
  have z3 : ¬ (9223372036854775807 < X.size + Y.size) := by rw [z1, z2]; decide
  clear z1 z2 hX hY
  obtain ⟨V, hV, F⟩ : ∃ V, W.alloc (Obj.cells #[vx, vy, .bool false] 47 (0, 0)) = V ∧ Fm W [(W.heap.size, Obj.cells #[vx, vy, .bool false] 47 (0, 0))] V := ⟨_, rfl, Fm.box1 W _⟩
  have c2 : V.cell? ⟨W.heap.size, 2, none⟩ = some (.bool false) := (N.cells_at (L := [vx, vy, .bool false]) (F.get 0 rfl) rfl).1
  obtain ⟨L, hL⟩ : ∃ L : List (Nat × Obj), [(W.heap.size, Obj.cells #[vx, vy, .bool false] 47 (0, 0))] = L := ⟨_, rfl⟩
  rw [hL] at F
  have HS : Hid (∀ w, Fm W L w → Fm W L w ∧ w.cell? ⟨W.heap.size, 0, none⟩ = some vx ∧ w.cell? ⟨W.heap.size, 1, none⟩ = some vy) := fun w h => ⟨h, (N.cells_at (L := [vx, vy, .bool false]) (h.get 0 (by rw [← hL]; rfl)) rfl).1, (N.cells_at (L := [vx, vy, .bool false]) (h.get 0 (by rw [← hL]; rfl)) rfl).1⟩
  clear hL
  go_enter Tryz.func23, Tryz.ntmps23
  go_upto_region 3 with fail
  clear hV c2
  have hS0 := HS.out _ F
  go_region_held3 (fun w => Fm W L w ∧ w.cell? ⟨W.heap.size, 0, none⟩ = some vx ∧ w.cell? ⟨W.heap.size, 1, none⟩ = some vy)
    (first | assumption | (apply HS.out; repeat (first | assumption | apply Fm.drew | apply Fz.drew | apply Fq.drew | apply Fm.alloc)))
    (first
      | (go_at_call 54; with_reducible refine (H1.out _ (RN.blk (Fm.bel (by repeat (first | assumption | apply Fm.drew | apply Fz.drew | apply Fq.drew | apply Fm.alloc))) HX.out)).mono ?_; rintro e w2 ⟨rfl, hb2⟩; have F2 := Fm.blk (by repeat (first | assumption | apply Fm.drew | apply Fz.drew | apply Fq.drew | apply Fm.alloc)) hb2; have hs2 := HS.out _ F2)
      | (go_at_call 54; with_reducible refine (H2.out _ (RN.blk (Fm.bel (by repeat (first | assumption | apply Fm.drew | apply Fz.drew | apply Fq.drew | apply Fm.alloc))) HY.out)).mono ?_; rintro e w3 ⟨rfl, hb3⟩; have F3 := Fm.blk (by repeat (first | assumption | apply Fm.drew | apply Fz.drew | apply Fq.drew | apply Fm.alloc)) hb3; have hs3 := HS.out _ F3))
  go_wp2
  go_ret
  exact ⟨rfl, F3.bel⟩
theorem rtell_in (vx vy : Value) (nb : Bool) (p : Ec) (W : World) (h : PtD W vx vy nb p) : Calls Tryz.prog 23 #[.agg #[vx, vy, .bool nb]] W fun e w' => e = .returned (.string (tellE p)) ∧ Below W.heap.size W w' := by
  unfold PtD at h
  unfold tellE
  cases hp : p.o with
  | none =>
    rw [hp] at h
    rw [show nb = true from h]
    exact rtell_0 W vx vy
  | some q =>
    rw [hp] at h
    rw [h.1]
    exact rtell_1 W vx vy _ _ h.2.1 h.2.2
set_option maxRecDepth 100000 in
set_option maxHeartbeats 2000000 in
theorem ron_p (W : World) (p : Ec) (hp : p ≠ Ec.zero) : Calls Tryz.prog 9 #[.string (tellE p)] W fun e w' => e = .returned (.bool true) ∧ Below W.heap.size W w' := by
  have HR : Hid (∀ w, Calls Tryz.prog 22 #[.string (tellE p)] w fun e w' => ∃ vx vy nb, e = .returned (.tuple #[.agg #[vx, vy, .bool nb], .bool true]) ∧ vx.oneCell' = true ∧ vy.oneCell' = true ∧ Below w.heap.size w w') := fun w => (read_yes p w).mono fun e w' ⟨a, b, c, h1, h2, h3, _, h4⟩ => ⟨a, b, c, h1, h2, h3, h4⟩
  have hne : (tellE p).toList.isEmpty = false := by
    rw [Bool.eq_false_iff]
    intro e
    have h0 : (tellE p).size = 0 := by rw [← size_list, ← ByteArray.toList_eq, List.isEmpty_iff.1 e]; rfl
    rw [tellE_size] at h0
    split at h0
    · rename_i ho; exact hp (Ec.ext2 ho)
    · omega
  generalize tellE p = s at *
  clear hp
  have F := Fm.start W
  go_enter Tryz.func9, Tryz.ntmps9
  go_wp2_with fail
  refine (HR.out _).mono ?_
  rintro e u1 ⟨vx, vy, nb, rfl, o1, o2, hb⟩
  replace F := F.blk hb
  clear hb
  have s3 : (pdStore (.pointer (some ⟨u1.heap.size, 0, none⟩)) (.agg #[vx, vy, .bool nb])).run Tryz.prog (u1.alloc (Obj.cells #[.slice none 0 0, .slice none 0 0, .bool false] 47 (0, 0))) = _ := pdStore_run (N.heap_new _ _) o1 o2 rfl
  go_wp2
  go_ret
  exact ⟨by first | rfl | simp_all, N.below_row (F.alloc _).bel F.bel.size _⟩
set_option maxRecDepth 100000 in
set_option maxHeartbeats 2000000 in
theorem ron_z (W : World)   : Calls Tryz.prog 9 #[.string ⟨#[]⟩] W fun e w' => e = .returned (.bool false) ∧ Below W.heap.size W w' := by
  have HR : Hid (∀ w, Calls Tryz.prog 22 #[.string ⟨#[]⟩] w fun e w' => ∃ vx vy nb, e = .returned (.tuple #[.agg #[vx, vy, .bool nb], .bool true]) ∧ vx.oneCell' = true ∧ vy.oneCell' = true ∧ Below w.heap.size w w') := fun w => (read_yes Ec.zero w).mono fun e w' ⟨a, b, c, h1, h2, h3, _, h4⟩ => ⟨a, b, c, h1, h2, h3, h4⟩
  have F := Fm.start W
  go_enter Tryz.func9, Tryz.ntmps9
  go_wp2_with fail
  refine (HR.out _).mono ?_
  rintro e u1 ⟨vx, vy, nb, rfl, o1, o2, hb⟩
  replace F := F.blk hb
  clear hb
  have s3 : (pdStore (.pointer (some ⟨u1.heap.size, 0, none⟩)) (.agg #[vx, vy, .bool nb])).run Tryz.prog (u1.alloc (Obj.cells #[.slice none 0 0, .slice none 0 0, .bool false] 47 (0, 0))) = _ := pdStore_run (N.heap_new _ _) o1 o2 rfl
  go_wp2
  go_ret
  exact ⟨by first | rfl | simp_all, N.below_row (F.alloc _).bel F.bel.size _⟩
set_option maxRecDepth 100000 in
set_option maxHeartbeats 2000000 in
theorem ron_n (W : World) (s : ByteArray) (h : (ptOf s).2 = false) : Calls Tryz.prog 9 #[.string s] W fun e w' => e = .returned (.bool false) ∧ Below W.heap.size W w' := by
  have HR : Hid (∀ w, Calls Tryz.prog 22 #[.string s] w fun e w' => ∃ vx vy nb, e = .returned (.tuple #[.agg #[vx, vy, .bool nb], .bool false]) ∧ vx.oneCell' = true ∧ vy.oneCell' = true ∧ Below w.heap.size w w') := fun w => read_no s h w
  clear h
  have F := Fm.start W
  go_enter Tryz.func9, Tryz.ntmps9
  go_wp2_with fail
  refine (HR.out _).mono ?_
  rintro e u1 ⟨vx, vy, nb, rfl, o1, o2, hb⟩
  replace F := F.blk hb
  clear hb
  have s3 : (pdStore (.pointer (some ⟨u1.heap.size, 0, none⟩)) (.agg #[vx, vy, .bool nb])).run Tryz.prog (u1.alloc (Obj.cells #[.slice none 0 0, .slice none 0 0, .bool false] 47 (0, 0))) = _ := pdStore_run (N.heap_new _ _) o1 o2 rfl
  go_wp2
  go_ret
  exact ⟨by first | rfl | simp_all, N.below_row (F.alloc _).bel F.bel.size _⟩
set_option maxRecDepth 100000 in
set_option maxHeartbeats 2000000 in
theorem rbase_in (W : World)   : Calls Tryz.prog 12 #[] W fun e w' => e = .returned (.string (tellE ecG)) ∧ Below W.heap.size W w' := by
  have HU : Hid (∀ w, Calls Tryz.prog 28 #[.string hexG] w fun e w' => e = .returned (.tuple #[.string (tellE ecG), .bool true]) ∧ Below w.heap.size w w') := fun w => (G.runhex_in hexG (by decide) w).mono fun e w' ⟨h1, h2⟩ => ⟨by rw [← base_tell]; exact runE_of (by decide +kernel) (by decide +kernel) (by decide +kernel) h1, h2⟩
  generalize tellE ecG = t at HU ⊢
  go_enter Tryz.func12, Tryz.ntmps12
  go_wp2_with fail
  refine (HU.out _).mono ?_
  rintro e u1 ⟨rfl, hb⟩
  go_wp2
  go_ret
  exact ⟨rfl, hb⟩
end Go.Proofs.YtpimliebiapnfaaGreatDoor

/- The document's sum. -/
namespace Go.Proofs.YtpimliebiapnfaaGreatDoor
set_option linter.unusedVariables false
set_option linter.unusedSimpArgs false
open Go.RowKit N
attribute [local go_sem ↓] N.loadAt_nat N.storeAt_nat N.build_nat N.build_nat' loadAt_pt storeAt_pt build_pt0 build_pt0' build_pt'
attribute [local go_sem] N.st1 N.st2a N.st2b N.st1d N.st2ad N.st2bd N.natBuild_run ptst1 ptst1d ptBuild0_run build_pt ptBuild_run
attribute [local go_sem ↓] bin_nat bin_pt
attribute [local go_sem ↓] storeAt_pd loadAt_pd

set_option maxRecDepth 100000 in
set_option maxHeartbeats 2000000 in
theorem rsum_a0 (W : World) (vp ax ay bx by' : Value) (h1 : bx.oneCell' = true) (h2 : by'.oneCell' = true) : Calls Tryz.prog 24 #[.agg #[vp], .agg #[ax, ay, .bool true], .agg #[bx, by', .bool false]] W fun e w' => e = .returned (.agg #[bx, by', .bool false]) ∧ Below W.heap.size W w' := by
  obtain ⟨V, hV, F⟩ : ∃ V, ((((W.alloc (Obj.cells #[vp] 54 (0, 0))).alloc (Obj.cells #[ax, ay, .bool true] 47 (0, 0))).alloc (Obj.cells #[bx, by', .bool false] 47 (0, 0))).alloc (Obj.cells #[.slice none 0 0, .slice none 0 0, .bool false] 47 (0, 0))) = V ∧ Fm W [(W.heap.size + 3, Obj.cells #[.slice none 0 0, .slice none 0 0, .bool false] 47 (0, 0)), (W.heap.size + 2, Obj.cells #[bx, by', .bool false] 47 (0, 0)), (W.heap.size + 1, Obj.cells #[ax, ay, .bool true] 47 (0, 0)), (W.heap.size, Obj.cells #[vp] 54 (0, 0))] V := ⟨_, rfl, Fm.box4 W _ _ _ _⟩
  have c1 : V.cell? ⟨W.heap.size + 1, 2, none⟩ = some (.bool true) := (N.cells_at (L := [ax, ay, .bool true]) (F.get 2 rfl) rfl).1
  have c2 : V.cell? ⟨W.heap.size + 2, 2, none⟩ = some (.bool false) := (N.cells_at (L := [bx, by', .bool false]) (F.get 1 rfl) rfl).1
  have l1 := pdLoad_run (F.get 1 rfl)
  have s6 := pdStore_run (x' := bx) (y' := by') (z' := .bool false) (F.get 0 rfl) h1 h2 rfl
  have F4 := F.put 0 #[bx, by', .bool false] rfl
  go_enter Tryz.func24, Tryz.ntmps24
  go_upto_region 1 with fail
  simp only [Nat.add_assoc, Nat.reduceAdd]
  clear hV
  go_wp2
  exact bodyPost_ret (results_pd Tryz.results24 rfl (F4.get 0 rfl)) rfl ⟨rfl, F4.bel⟩
set_option maxRecDepth 100000 in
set_option maxHeartbeats 2000000 in
theorem rsum_a1 (W : World) (vp ax ay bx by' : Value) (h1 : bx.oneCell' = true) (h2 : by'.oneCell' = true) : Calls Tryz.prog 24 #[.agg #[vp], .agg #[ax, ay, .bool true], .agg #[bx, by', .bool true]] W fun e w' => e = .returned (.agg #[bx, by', .bool true]) ∧ Below W.heap.size W w' := by
  obtain ⟨V, hV, F⟩ : ∃ V, ((((W.alloc (Obj.cells #[vp] 54 (0, 0))).alloc (Obj.cells #[ax, ay, .bool true] 47 (0, 0))).alloc (Obj.cells #[bx, by', .bool true] 47 (0, 0))).alloc (Obj.cells #[.slice none 0 0, .slice none 0 0, .bool false] 47 (0, 0))) = V ∧ Fm W [(W.heap.size + 3, Obj.cells #[.slice none 0 0, .slice none 0 0, .bool false] 47 (0, 0)), (W.heap.size + 2, Obj.cells #[bx, by', .bool true] 47 (0, 0)), (W.heap.size + 1, Obj.cells #[ax, ay, .bool true] 47 (0, 0)), (W.heap.size, Obj.cells #[vp] 54 (0, 0))] V := ⟨_, rfl, Fm.box4 W _ _ _ _⟩
  have c1 : V.cell? ⟨W.heap.size + 1, 2, none⟩ = some (.bool true) := (N.cells_at (L := [ax, ay, .bool true]) (F.get 2 rfl) rfl).1
  have c2 : V.cell? ⟨W.heap.size + 2, 2, none⟩ = some (.bool true) := (N.cells_at (L := [bx, by', .bool true]) (F.get 1 rfl) rfl).1
  have l1 := pdLoad_run (F.get 1 rfl)
  have s6 := pdStore_run (x' := bx) (y' := by') (z' := .bool true) (F.get 0 rfl) h1 h2 rfl
  have F4 := F.put 0 #[bx, by', .bool true] rfl
  go_enter Tryz.func24, Tryz.ntmps24
  go_upto_region 1 with fail
  simp only [Nat.add_assoc, Nat.reduceAdd]
  clear hV
  go_wp2
  exact bodyPost_ret (results_pd Tryz.results24 rfl (F4.get 0 rfl)) rfl ⟨rfl, F4.bel⟩
set_option maxRecDepth 100000 in
set_option maxHeartbeats 2000000 in
theorem rsum_b (W : World) (vp ax ay bx by' : Value) (h1 : ax.oneCell' = true) (h2 : ay.oneCell' = true) : Calls Tryz.prog 24 #[.agg #[vp], .agg #[ax, ay, .bool false], .agg #[bx, by', .bool true]] W fun e w' => e = .returned (.agg #[ax, ay, .bool false]) ∧ Below W.heap.size W w' := by
  obtain ⟨V, hV, F⟩ : ∃ V, ((((W.alloc (Obj.cells #[vp] 54 (0, 0))).alloc (Obj.cells #[ax, ay, .bool false] 47 (0, 0))).alloc (Obj.cells #[bx, by', .bool true] 47 (0, 0))).alloc (Obj.cells #[.slice none 0 0, .slice none 0 0, .bool false] 47 (0, 0))) = V ∧ Fm W [(W.heap.size + 3, Obj.cells #[.slice none 0 0, .slice none 0 0, .bool false] 47 (0, 0)), (W.heap.size + 2, Obj.cells #[bx, by', .bool true] 47 (0, 0)), (W.heap.size + 1, Obj.cells #[ax, ay, .bool false] 47 (0, 0)), (W.heap.size, Obj.cells #[vp] 54 (0, 0))] V := ⟨_, rfl, Fm.box4 W _ _ _ _⟩
  have c1 : V.cell? ⟨W.heap.size + 1, 2, none⟩ = some (.bool false) := (N.cells_at (L := [ax, ay, .bool false]) (F.get 2 rfl) rfl).1
  have c2 : V.cell? ⟨W.heap.size + 2, 2, none⟩ = some (.bool true) := (N.cells_at (L := [bx, by', .bool true]) (F.get 1 rfl) rfl).1
  have l1 := pdLoad_run (F.get 2 rfl)
  have s6 := pdStore_run (x' := ax) (y' := ay) (z' := .bool false) (F.get 0 rfl) h1 h2 rfl
  have F4 := F.put 0 #[ax, ay, .bool false] rfl
  go_enter Tryz.func24, Tryz.ntmps24
  go_upto_region 1 with fail
  simp only [Nat.add_assoc, Nat.reduceAdd]
  clear hV
  go_wp2
  exact bodyPost_ret (results_pd Tryz.results24 rfl (F4.get 0 rfl)) rfl ⟨rfl, F4.bel⟩
end Go.Proofs.YtpimliebiapnfaaGreatDoor
