/- Texts of this proof, joined: LeDb, LeD, LeG, LeH. -/
import Derived.BigQuiet
import Derived.Deep.RegionHeld3
import Derived.Test.YtdlcldjlfhmlgaaGreatDoorJ30
import Derived.Test.YtdlcldjlfhmlgaaGreatDoorJ20
import Derived.Test.YtdlcldjlfhmlgaaGreatDoorJ13
import Derived.Test.YtdlcldjlfhmlgaaGreatDoorJ12
set_option linter.unusedVariables false
set_option linter.unusedSimpArgs false
/- The document's Lower of data (guidepostref02), of types that are no signatures. -/
namespace Go.Proofs.YtdlcldjlfhmlgaaGreatDoor
open Go.RowKit
set_option maxRecDepth 100000 in
set_option maxHeartbeats 4000000 in
theorem rofSoa_in (p m : ByteArray) (hp : IsName p) (hm : IsName m) (a b c d f : Nat) (ha : a < 4294967296) (hb : b < 4294967296) (hc : c < 4294967296) (hd : d < 4294967296) (hf : f < 4294967296) (W : World) :
  Calls Tryz.prog 134 #[.agg #[.string p, .string m, .int .i64 (a : Int), .int .i64 (b : Int), .int .i64 (c : Int), .int .i64 (d : Int), .int .i64 (f : Int)]] W fun e w' => e = .returned (.tuple #[.string (p ++ m ++ ⟨(bytesB a 4).toArray⟩ ++ ⟨(bytesB b 4).toArray⟩ ++ ⟨(bytesB c 4).toArray⟩ ++ ⟨(bytesB d 4).toArray⟩ ++ ⟨(bytesB f 4).toArray⟩), .bool true]) ∧ Below W.heap.size W w' := by
 have zp := name_size hp
 have zm := name_size hm
 have HP : Hid (∀ w, Calls Tryz.prog 28 #[.string p] w fun e w' => e = .returned (.bool true) ∧ Below w.heap.size w w') := fun w => by have := rright_in p (by unfold maxLen; omega) w; rwa [isN_yes hp] at this
 have HM : Hid (∀ w, Calls Tryz.prog 28 #[.string m] w fun e w' => e = .returned (.bool true) ∧ Below w.heap.size w w') := fun w => by have := rright_in m (by unfold maxLen; omega) w; rwa [isN_yes hm] at this
 have F1 := Hid.mk (rfits4_in a ha)
 have F2 := Hid.mk (rfits4_in b hb)
 have F3 := Hid.mk (rfits4_in c hc)
 have F4 := Hid.mk (rfits4_in d hd)
 have F5 := Hid.mk (rfits4_in f hf)
 have N1 := Hid.mk (rnum4_in a ha)
 have N2 := Hid.mk (rnum4_in b hb)
 have N3 := Hid.mk (rnum4_in c hc)
 have N4 := Hid.mk (rnum4_in d hd)
 have N5 := Hid.mk (rnum4_in f hf)
 clear hp hm
 have sz : ∀ n, (⟨(bytesB n 4).toArray⟩ : ByteArray).size = 4 := fun n => by rw [ba_size, bytesB_len]
 have s1 := sz a
 have s2 := sz b
 have s3 := sz c
 have s4 := sz d
 have s5 := sz f
 clear sz
 generalize (⟨(bytesB a 4).toArray⟩ : ByteArray) = z1 at N1 s1 ⊢
 generalize (⟨(bytesB b 4).toArray⟩ : ByteArray) = z2 at N2 s2 ⊢
 generalize (⟨(bytesB c 4).toArray⟩ : ByteArray) = z3 at N3 s3 ⊢
 generalize (⟨(bytesB d 4).toArray⟩ : ByteArray) = z4 at N4 s4 ⊢
 generalize (⟨(bytesB f 4).toArray⟩ : ByteArray) = z5 at N5 s5 ⊢
 have hmo : Tryz.prog.follows Departure.mixedOrders = true := by kernel_rfl
 obtain ⟨V, hV⟩ : ∃ V, W.alloc (.cells #[.string p, .string m, .int .i64 (a : Int), .int .i64 (b : Int), .int .i64 (c : Int), .int .i64 (d : Int), .int .i64 (f : Int)] 183) = V := ⟨_, rfl⟩
 have A0 : Below W.heap.size W V := hV ▸ (Below.refl _ _).alloc (Nat.le_refl _) _
 have Y0 : V.heap[W.heap.size]? = some (.cells #[.string p, .string m, .int .i64 (a : Int), .int .i64 (b : Int), .int .i64 (c : Int), .int .i64 (d : Int), .int .i64 (f : Int)] 183 (0, 0)) := hV ▸ heap_new _ _
 have HV := Hid.mk hV
 have HL : Hid (∀ (G : Prop) (A B : World), A.heap[W.heap.size]? = some (.cells #[.string p, .string m, .int .i64 (a : Int), .int .i64 (b : Int), .int .i64 (c : Int), .int .i64 (d : Int), .int .i64 (f : Int)] 183 (0, 0)) → Below W.heap.size W A → Below A.heap.size A B → (B.heap[W.heap.size]? = some (.cells #[.string p, .string m, .int .i64 (a : Int), .int .i64 (b : Int), .int .i64 (c : Int), .int .i64 (d : Int), .int .i64 (f : Int)] 183 (0, 0)) → Below W.heap.size W B → B.cell? ⟨W.heap.size, 0, none⟩ = some (.string p) → B.cell? ⟨W.heap.size, 1, none⟩ = some (.string m) → B.cell? ⟨W.heap.size, 2, none⟩ = some (.int .i64 (a : Int)) → B.cell? ⟨W.heap.size, 3, none⟩ = some (.int .i64 (b : Int)) → B.cell? ⟨W.heap.size, 4, none⟩ = some (.int .i64 (c : Int)) → B.cell? ⟨W.heap.size, 5, none⟩ = some (.int .i64 (d : Int)) → B.cell? ⟨W.heap.size, 6, none⟩ = some (.int .i64 (f : Int)) → G) → G) := by
  intro G A B hA hW hB hG
  have hB' := (hB.block _ (box_lt hA)).trans hA
  exact hG hB' (hW.trans (hB.mono hW.size)) (cells_at hB' rfl).1 (cells_at hB' rfl).1 (cells_at hB' rfl).1 (cells_at hB' rfl).1 (cells_at hB' rfl).1 (cells_at hB' rfl).1 (cells_at hB' rfl).1
 clear hV ha hb hc hd hf
 have c0 := (cells_at (v := .string p) (j := 0) Y0 rfl).1
 go_enter Tryz.func134, Tryz.ntmps134
 go_upto_region 1 with fail
 rw [HV.out]
 go_wp2_with fail
 refine (HP.out _).mono ?_
 rintro e w1 ⟨rfl, hb1⟩
 refine HL.out _ _ w1 Y0 A0 hb1 ?_
 intro Y1 A1 e0 e1 e2 e3 e4 e5 e6
 clear c0 Y0 A0 hb1 HP HV
 go_wp2_with fail
 refine (HM.out _).mono ?_
 rintro e w2 ⟨rfl, hb2⟩
 refine HL.out _ _ w2 Y1 A1 hb2 ?_
 intro Y2 A2 g0 g1 g2 g3 g4 g5 g6
 clear e0 e1 e2 e3 e4 e5 e6 Y1 A1 hb2 HM
 go_wp2_with fail
 refine (F1.out _).mono ?_
 rintro e w3 ⟨rfl, rfl⟩
 go_wp2_with fail
 refine (F2.out _).mono ?_
 rintro e w4 ⟨rfl, rfl⟩
 go_wp2_with fail
 refine (F3.out _).mono ?_
 rintro e w5 ⟨rfl, rfl⟩
 go_wp2_with fail
 refine (F4.out _).mono ?_
 rintro e w6 ⟨rfl, rfl⟩
 go_wp2_with fail
 refine (F5.out _).mono ?_
 rintro e w7 ⟨rfl, rfl⟩
 clear F1 F2 F3 F4 F5
 have HX : Hid (∀ w' : World, w'.heap[W.heap.size]? = some (.cells #[.string p, .string m, .int .i64 (a : Int), .int .i64 (b : Int), .int .i64 (c : Int), .int .i64 (d : Int), .int .i64 (f : Int)] 183 (0, 0)) → (fun w' : World => w'.cell? ⟨W.heap.size, 0, none⟩ = some (.string p) ∧ w'.cell? ⟨W.heap.size, 1, none⟩ = some (.string m) ∧ w'.cell? ⟨W.heap.size, 2, none⟩ = some (.int .i64 (a : Int)) ∧ w'.cell? ⟨W.heap.size, 3, none⟩ = some (.int .i64 (b : Int)) ∧ w'.cell? ⟨W.heap.size, 4, none⟩ = some (.int .i64 (c : Int)) ∧ w'.cell? ⟨W.heap.size, 5, none⟩ = some (.int .i64 (d : Int)) ∧ w'.cell? ⟨W.heap.size, 6, none⟩ = some (.int .i64 (f : Int))) w') := fun w' h => ⟨(cells_at h rfl).1, (cells_at h rfl).1, (cells_at h rfl).1, (cells_at h rfl).1, (cells_at h rfl).1, (cells_at h rfl).1, (cells_at h rfl).1⟩
 have X0 : w7.drew.heap[W.heap.size]? = some (.cells #[.string p, .string m, .int .i64 (a : Int), .int .i64 (b : Int), .int .i64 (c : Int), .int .i64 (d : Int), .int .i64 (f : Int)] 183 (0, 0)) := Y2
 have B0 : Below W.heap.size W w7.drew := A2.drew
 clear Y2 A2 g0 g1 g2 g3 g4 g5 g6
 have q1 : ¬ 9223372036854775807 < p.size + m.size := by omega
 have q2 : ¬ 9223372036854775807 < p.size + m.size + z1.size := by omega
 have q3 : ¬ 9223372036854775807 < p.size + m.size + z1.size + z2.size := by omega
 have q4 : ¬ 9223372036854775807 < p.size + m.size + z1.size + z2.size + z3.size := by omega
 have q5 : ¬ 9223372036854775807 < p.size + m.size + z1.size + z2.size + z3.size + z4.size := by omega
 have q6 : ¬ 9223372036854775807 < p.size + m.size + z1.size + z2.size + z3.size + z4.size + z5.size := by omega
 clear s1 s2 s3 s4 s5 zp zm
 go_upto_region 5 with fail
 refine wp_region_held_drew (S := (fun w' : World => w'.cell? ⟨W.heap.size, 0, none⟩ = some (.string p) ∧ w'.cell? ⟨W.heap.size, 1, none⟩ = some (.string m) ∧ w'.cell? ⟨W.heap.size, 2, none⟩ = some (.int .i64 (a : Int)) ∧ w'.cell? ⟨W.heap.size, 3, none⟩ = some (.int .i64 (b : Int)) ∧ w'.cell? ⟨W.heap.size, 4, none⟩ = some (.int .i64 (c : Int)) ∧ w'.cell? ⟨W.heap.size, 5, none⟩ = some (.int .i64 (d : Int)) ∧ w'.cell? ⟨W.heap.size, 6, none⟩ = some (.int .i64 (f : Int)))) (by kernel_rfl) (HX.out _ X0) (fun hHeld => ?_)
 refine wU (i := 0) (v := ?va_0) rfl ?ya_0 (by assumption) ?_
 case ya_0 => (intro w hSw; (try dsimp only at hSw); go_simp; try with_reducible rfl)
 refine wU (i := 1) (v := ?va_1) rfl ?ya_1 (by assumption) ?_
 case ya_1 => (intro w hSw; (try dsimp only at hSw); go_simp; try with_reducible rfl)
 refine wU (i := 2) (v := ?va_2) rfl ?ya_2 (by assumption) ?_
 case ya_2 => (intro w hSw; (try dsimp only at hSw); go_simp; try with_reducible rfl)
 refine wU (i := 3) (v := ?va_3) rfl ?ya_3 (by assumption) ?_
 case ya_3 => (intro w hSw; (try dsimp only at hSw); go_simp; try with_reducible rfl)
 refine wU (i := 4) (v := ?va_4) rfl ?ya_4 (by assumption) ?_
 case ya_4 => (intro w hSw; (try dsimp only at hSw); go_simp; try with_reducible rfl)
 refine wU (i := 5) (v := ?va_5) rfl ?ya_5 (by assumption) ?_
 case ya_5 => (intro w hSw; (try dsimp only at hSw); go_simp; try with_reducible rfl)
 refine wU (i := 6) (v := ?va_6) rfl ?ya_6 (by assumption) ?_
 case ya_6 => (intro w hSw; (try dsimp only at hSw); go_simp; try with_reducible rfl)
 refine wU (i := 9) (v := ?va_9) rfl ?ya_9 (by assumption) ?_
 case ya_9 => (intro w hSw; (try dsimp only at hSw); go_simp; try with_reducible rfl)
 refine wU (i := 10) (v := ?va_10) rfl ?ya_10 (by assumption) ?_
 case ya_10 => (intro w hSw; (try dsimp only at hSw); go_simp; try with_reducible rfl)
 refine wU (i := 13) (v := ?va_13) rfl ?ya_13 (by assumption) ?_
 case ya_13 => (intro w hSw; (try dsimp only at hSw); go_simp; try with_reducible rfl)
 refine wU (i := 14) (v := ?va_14) rfl ?ya_14 (by assumption) ?_
 case ya_14 => (intro w hSw; (try dsimp only at hSw); go_simp; try with_reducible rfl)
 refine wU (i := 17) (v := ?va_17) rfl ?ya_17 (by assumption) ?_
 case ya_17 => (intro w hSw; (try dsimp only at hSw); go_simp; try with_reducible rfl)
 refine wU (i := 18) (v := ?va_18) rfl ?ya_18 (by assumption) ?_
 case ya_18 => (intro w hSw; (try dsimp only at hSw); go_simp; try with_reducible rfl)
 refine wU (i := 21) (v := ?va_21) rfl ?ya_21 (by assumption) ?_
 case ya_21 => (intro w hSw; (try dsimp only at hSw); go_simp; try with_reducible rfl)
 refine wU (i := 22) (v := ?va_22) rfl ?ya_22 (by assumption) ?_
 case ya_22 => (intro w hSw; (try dsimp only at hSw); go_simp; try with_reducible rfl)
 try simp only [Act.put, List.getElem_toArray, List.getElem_cons_succ, List.getElem_cons_zero, List.setIfInBounds_toArray, List.set_cons_zero, List.set_cons_succ]
 refine wpAnyH_ready (rs := [7]) (by kernel_rfl) (by simp) ?_
 refine AllReadyH.cons rfl (fun K hK => ?_) AllReadyH.nil
 go_simp
 go_at_call 151
 refine (N1.out _).mono ?_
 rintro e x1 ⟨rfl, y1⟩
 refine HL.out _ _ x1 X0 B0 y1 ?_
 intro X1 B1 d0 d1 d2 d3 d4 d5 d6
 clear d0 d1 d2 d3 d4 d5 d6 y1 X0 B0
 refine hK.out _ _ (HX.out _ X1) (fun hHeld => ?_)
 clear hK K
 try simp only [Act.put, List.getElem_toArray, List.getElem_cons_succ, List.getElem_cons_zero, List.setIfInBounds_toArray, List.set_cons_zero, List.set_cons_succ]
 refine wU (i := 8) (v := ?vb0_8) rfl ?yb0_8 (by assumption) ?_
 case yb0_8 => (intro w hSw; (try dsimp only at hSw); go_simp; try with_reducible rfl)
 try simp only [Act.put, List.getElem_toArray, List.getElem_cons_succ, List.getElem_cons_zero, List.setIfInBounds_toArray, List.set_cons_zero, List.set_cons_succ]
 refine wpAnyH_ready (rs := [11]) (by kernel_rfl) (by simp) ?_
 refine AllReadyH.cons rfl (fun K hK => ?_) AllReadyH.nil
 go_simp
 go_at_call 151
 refine (N2.out _).mono ?_
 rintro e x2 ⟨rfl, y2⟩
 refine HL.out _ _ x2 X1 B1 y2 ?_
 intro X2 B2 d0 d1 d2 d3 d4 d5 d6
 clear d0 d1 d2 d3 d4 d5 d6 y2 X1 B1
 refine hK.out _ _ (HX.out _ X2) (fun hHeld => ?_)
 clear hK K
 try simp only [Act.put, List.getElem_toArray, List.getElem_cons_succ, List.getElem_cons_zero, List.setIfInBounds_toArray, List.set_cons_zero, List.set_cons_succ]
 refine wU (i := 12) (v := ?vb1_12) rfl ?yb1_12 (by assumption) ?_
 case yb1_12 => (intro w hSw; (try dsimp only at hSw); go_simp; try with_reducible rfl)
 try simp only [Act.put, List.getElem_toArray, List.getElem_cons_succ, List.getElem_cons_zero, List.setIfInBounds_toArray, List.set_cons_zero, List.set_cons_succ]
 refine wpAnyH_ready (rs := [15]) (by kernel_rfl) (by simp) ?_
 refine AllReadyH.cons rfl (fun K hK => ?_) AllReadyH.nil
 go_simp
 go_at_call 151
 refine (N3.out _).mono ?_
 rintro e x3 ⟨rfl, y3⟩
 refine HL.out _ _ x3 X2 B2 y3 ?_
 intro X3 B3 d0 d1 d2 d3 d4 d5 d6
 clear d0 d1 d2 d3 d4 d5 d6 y3 X2 B2
 refine hK.out _ _ (HX.out _ X3) (fun hHeld => ?_)
 clear hK K
 try simp only [Act.put, List.getElem_toArray, List.getElem_cons_succ, List.getElem_cons_zero, List.setIfInBounds_toArray, List.set_cons_zero, List.set_cons_succ]
 refine wU (i := 16) (v := ?vb2_16) rfl ?yb2_16 (by assumption) ?_
 case yb2_16 => (intro w hSw; (try dsimp only at hSw); go_simp; try with_reducible rfl)
 try simp only [Act.put, List.getElem_toArray, List.getElem_cons_succ, List.getElem_cons_zero, List.setIfInBounds_toArray, List.set_cons_zero, List.set_cons_succ]
 refine wpAnyH_ready (rs := [19]) (by kernel_rfl) (by simp) ?_
 refine AllReadyH.cons rfl (fun K hK => ?_) AllReadyH.nil
 go_simp
 go_at_call 151
 refine (N4.out _).mono ?_
 rintro e x4 ⟨rfl, y4⟩
 refine HL.out _ _ x4 X3 B3 y4 ?_
 intro X4 B4 d0 d1 d2 d3 d4 d5 d6
 clear d0 d1 d2 d3 d4 d5 d6 y4 X3 B3
 refine hK.out _ _ (HX.out _ X4) (fun hHeld => ?_)
 clear hK K
 try simp only [Act.put, List.getElem_toArray, List.getElem_cons_succ, List.getElem_cons_zero, List.setIfInBounds_toArray, List.set_cons_zero, List.set_cons_succ]
 refine wU (i := 20) (v := ?vb3_20) rfl ?yb3_20 (by assumption) ?_
 case yb3_20 => (intro w hSw; (try dsimp only at hSw); go_simp; try with_reducible rfl)
 try simp only [Act.put, List.getElem_toArray, List.getElem_cons_succ, List.getElem_cons_zero, List.setIfInBounds_toArray, List.set_cons_zero, List.set_cons_succ]
 refine wpAnyH_ready (rs := [23]) (by kernel_rfl) (by simp) ?_
 refine AllReadyH.cons rfl (fun K hK => ?_) AllReadyH.nil
 go_simp
 go_at_call 151
 refine (N5.out _).mono ?_
 rintro e x5 ⟨rfl, y5⟩
 refine HL.out _ _ x5 X4 B4 y5 ?_
 intro X5 B5 d0 d1 d2 d3 d4 d5 d6
 clear d0 d1 d2 d3 d4 d5 d6 y5 X4 B4
 refine hK.out _ _ (HX.out _ X5) (fun hHeld => ?_)
 clear hK K
 try simp only [Act.put, List.getElem_toArray, List.getElem_cons_succ, List.getElem_cons_zero, List.setIfInBounds_toArray, List.set_cons_zero, List.set_cons_succ]
 refine wU (i := 24) (v := ?vb4_24) rfl ?yb4_24 (by assumption) ?_
 case yb4_24 => (intro w hSw; (try dsimp only at hSw); go_simp; try with_reducible rfl)
 try simp only [Act.put, List.getElem_toArray, List.getElem_cons_succ, List.getElem_cons_zero, List.setIfInBounds_toArray, List.set_cons_zero, List.set_cons_succ]
 refine wU (i := 25) (v := ?vz_25) rfl ?yz_25 (by assumption) ?_
 case yz_25 => (intro w hSw; (try dsimp only at hSw); go_simp; try with_reducible rfl)
 refine wU (i := 26) (v := ?vz_26) rfl ?yz_26 (by assumption) ?_
 case yz_26 => (intro w hSw; (try dsimp only at hSw); go_simp; try with_reducible rfl)
 try simp only [Act.put, List.getElem_toArray, List.getElem_cons_succ, List.getElem_cons_zero, List.setIfInBounds_toArray, List.set_cons_zero, List.set_cons_succ]
 refine wpAnyH_done (by kernel_rfl) ?_ _
 go_wp2
 go_ret2
 exact ⟨rfl, B5⟩
end Go.Proofs.YtdlcldjlfhmlgaaGreatDoor
/- The document's Lower of data (guidepostref02), of types that are no signatures. -/
namespace Go.Proofs.YtdlcldjlfhmlgaaGreatDoor
open Go.RowKit
theorem low_names {k : Int} (hk : k = 2 ∨ k = 5 ∨ k = 39) {d : ByteArray} (h : dRt k d = true) : lowR k d = lowF d := by
 obtain ⟨hty, hsz⟩ : (0 ≤ k ∧ k ≤ 65535) ∧ d.size ≤ 2000 := by
  by_cases hh : (0 ≤ k ∧ k ≤ 65535) ∧ d.size ≤ 2000
  ·exact hh
  ·rw [dRt_no hh] at h; cases h
 have hf : formOf k = [.name] := by rcases hk with rfl | rfl | rfl <;> rfl
 have hn : IsName d := (dRt_one hf hty hsz).1 h
 have hs : splitR k d = some [d] := (split_iff k d [d]).2 ⟨hty, hsz, (cat_one d).symm, by rw [hf]; exact ⟨hn, trivial⟩⟩
 have hl : lowers k = true := by rcases hk with rfl | rfl | rfl <;> rfl
 unfold lowR lowF
 rw [hl, if_pos rfl, hs, hf, if_pos hn]
 show cat [lowA d] = _
 exact cat_one _
theorem low_other {k : Int} (h1 : nameds k = false) (h2 : k ≠ 46) (d : ByteArray) : lowR k d = d := by
 unfold lowR lowers
 rw [h1, if_neg (by simpa using h2)]
theorem low_mx {d t0 t1 : ByteArray} (h : splitR 15 d = some [t0, t1]) : IsName t1 ∧ 2 ≤ d.size ∧ d.extract 2 d.size = t1 ∧ d.extract 0 2 = t0 ∧ lowR 15 d = t0 ++ lowF t1 := by
 obtain ⟨_, _, e, g⟩ := (split_iff _ _ _).1 h
 rw [form15] at g
 have h0 : t0.size = 2 := g.1
 have h1 : IsName t1 := g.2.1
 have e' : d = t0 ++ t1 := by rw [e, cat, cat_one]
 refine ⟨h1, by rw [e', app_size]; omega, ?_, ?_, ?_⟩
 ·rw [e', ← h0, app_rest]
 ·rw [e', ← h0, app_first]
 ·unfold lowR lowF
  rw [show lowers 15 = true from rfl, if_pos rfl, h, if_pos h1]
  show cat [t0, lowA t1] = _
  rw [cat, cat_one]
theorem low_soa {d t0 t1 t2 t3 t4 t5 t6 : ByteArray} (h : splitR 6 d = some [t0, t1, t2, t3, t4, t5, t6]) : IsName t0 ∧ IsName t1 ∧ (numB t2.data.toList < 4294967296 ∧ numB t3.data.toList < 4294967296 ∧ numB t4.data.toList < 4294967296 ∧ numB t5.data.toList < 4294967296 ∧ numB t6.data.toList < 4294967296) ∧
  lowR 6 d = lowF t0 ++ lowF t1 ++ ⟨(bytesB (numB t2.data.toList) 4).toArray⟩ ++ ⟨(bytesB (numB t3.data.toList) 4).toArray⟩ ++ ⟨(bytesB (numB t4.data.toList) 4).toArray⟩ ++ ⟨(bytesB (numB t5.data.toList) 4).toArray⟩ ++ ⟨(bytesB (numB t6.data.toList) 4).toArray⟩ := by
 obtain ⟨_, _, e, g⟩ := (split_iff _ _ _).1 h
 rw [show formOf 6 = [.name, .name, .num 4, .num 4, .num 4, .num 4, .num 4] from rfl] at g
 obtain ⟨g0, g1, g2, g3, g4, g5, g6, _⟩ := g
 replace g0 : IsName t0 := g0
 replace g1 : IsName t1 := g1
 have key : ∀ t : ByteArray, t.size = 4 → numB t.data.toList < 4294967296 ∧ (⟨(bytesB (numB t.data.toList) 4).toArray⟩ : ByteArray) = t := fun t ht => by
  have hl : t.data.toList.length = 4 := by rw [size_list]; exact ht
  refine ⟨?_, ?_⟩
  ·have := numB_lt t.data.toList
   rw [hl] at this
   exact this
  ·have := bytesB_num t.data.toList (by omega)
   rw [hl] at this
   rw [this]
 refine ⟨g0, g1, ⟨(key _ g2).1, (key _ g3).1, (key _ g4).1, (key _ g5).1, (key _ g6).1⟩, ?_⟩
 rw [(key _ g2).2, (key _ g3).2, (key _ g4).2, (key _ g5).2, (key _ g6).2]
 unfold lowR lowF
 rw [show lowers 6 = true from rfl, if_pos rfl, h, if_pos g0, if_pos g1]
 show cat [lowA t0, lowA t1, t2, t3, t4, t5, t6] = _
 apply ba_ext
 rw [cat_list]
 simp only [app_list, List.flatMap_cons, List.flatMap_nil, List.append_nil, List.append_assoc]
set_option maxRecDepth 100000 in
set_option maxHeartbeats 4000000 in
theorem rdLower_in (k : Int) (hk46 : k ≠ 46) (d : ByteArray) (hd : d.size ≤ maxLen) (W : World) :
  Calls Tryz.prog 99 #[.int .i64 k, .string d] W fun e w' => e = .returned (.string (lowR k d)) ∧ Below W.heap.size W w' := by
 have HR := Hid.mk (rdRight_in k d hd)
 cases hr : dRt k d with
 | false =>
  rw [hr] at HR
  have hs : splitR k d = none := by
   unfold dRt at hr
   cases h : splitR k d with
   | none => rfl
   | some x => rw [h] at hr; cases hr
  rw [lowR_none k d hs]
  clear hs hr
  go_enter Tryz.func99, Tryz.ntmps99
  go_wp2_with fail
  refine (HR.out _).mono ?_
  rintro e w1 ⟨rfl, hb1⟩
  go_wp2
  go_ret
  exact ⟨rfl, hb1⟩
 | true =>
  rw [hr] at HR
  by_cases c2 : k = 2 ∨ k = 5 ∨ k = 39
  ·rw [low_names c2 hr]
   have HL := Hid.mk (rlower_in d hd)
   clear hr
   rcases c2 with rfl | rfl | rfl
   all_goals
    go_enter Tryz.func99, Tryz.ntmps99
    go_wp2_with fail
    refine (HR.out _).mono ?_
    rintro e w1 ⟨rfl, hb1⟩
    go_wp2_with fail
    refine (HL.out _).mono ?_
    rintro e w2 ⟨rfl, hb2⟩
    go_wp2
    go_ret
    exact ⟨rfl, bthen hb1 hb2⟩
  by_cases c6 : k = 6
  ·subst c6
   have HS := Hid.mk (refSoa_in d (by have := dRt_le hr; omega))
   obtain ⟨R, hR⟩ : ∃ R, lowR 6 d = R := ⟨_, rfl⟩
   rw [hR]
   have HRR := Hid.mk hR
   have HDR := Hid.mk hr
   clear hR hr
   go_enter Tryz.func99, Tryz.ntmps99
   go_wp2_with fail
   refine (HR.out _).mono ?_
   rintro e w1 ⟨rfl, hb1⟩
   go_wp2_with fail
   refine (HS.out _).mono ?_
   rintro e w2 ⟨hp, hb2⟩
   rcases hp with ⟨t0, t1, t2, t3, t4, t5, t6, hs1, rfl⟩ | ⟨hs1, rfl⟩
   ·obtain ⟨n0, n1, ⟨l2, l3, l4, l5, l6⟩, hlo⟩ := low_soa hs1
    have z0 := name_size n0
    have z1 := name_size n1
    have L0 := Hid.mk (rlower_in t0 (by unfold maxLen; omega))
    have L1 := Hid.mk (rlower_in t1 (by unfold maxLen; omega))
    have m0 : IsName (lowF t0) := by unfold lowF; rw [if_pos n0]; exact lowA_name n0
    have m1 : IsName (lowF t1) := by unfold lowF; rw [if_pos n1]; exact lowA_name n1
    have O := Hid.mk (rofSoa_in (lowF t0) (lowF t1) m0 m1 _ _ _ _ _ l2 l3 l4 l5 l6)
    rw [← hlo, HRR.out] at O
    have BW : Hid (Below W.heap.size W w2) := bthen hb1 hb2
    clear hs1 hlo m0 m1 n0 n1 HRR HDR hb1 hb2 HS HR z0 z1
    generalize lowF t0 = q0 at L0 O
    generalize lowF t1 = q1 at L1 O
    generalize numB t2.data.toList = m2 at l2 O ⊢
    generalize numB t3.data.toList = m3 at l3 O ⊢
    generalize numB t4.data.toList = m4 at l4 O ⊢
    generalize numB t5.data.toList = m5 at l5 O ⊢
    generalize numB t6.data.toList = m6 at l6 O ⊢
    obtain ⟨V, hV⟩ : ∃ V, w2.alloc (.cells #[.string t0, .string t1, .int .i64 (m2 : Int), .int .i64 (m3 : Int), .int .i64 (m4 : Int), .int .i64 (m5 : Int), .int .i64 (m6 : Int)] 183) = V := ⟨_, rfl⟩
    have BV : Hid (Below W.heap.size W V) := hV ▸ BW.out.alloc BW.out.size _
    have h0 : V.heap[w2.heap.size]? = some (.cells #[.string t0, .string t1, .int .i64 (m2 : Int), .int .i64 (m3 : Int), .int .i64 (m4 : Int), .int .i64 (m5 : Int), .int .i64 (m6 : Int)] 183 (0, 0)) := hV ▸ heap_new _ _
    have hWb := BW.out.size
    obtain ⟨B, hB⟩ : ∃ B, w2.heap.size = B := ⟨_, rfl⟩
    have HV := Hid.mk hV
    have HB := Hid.mk hB
    rw [hB] at h0 hWb
    clear hV hB
    obtain ⟨x0, y0⟩ := cells_at (j := 0) h0 rfl
    have H0 := Hid.mk h0
    go_upto_region 11 with fail
    rw [HV.out, HB.out]
    go_wp2_with fail
    refine (L0.out _).mono ?_
    rintro e w3 ⟨rfl, hb3⟩
    have h3 := (hb3.block _ (box_lt H0.out)).trans H0.out
    have B3 := Hid.mk (BV.out.trans (hb3.mono BV.out.size))
    obtain ⟨x3, y3⟩ := cells_at (j := 0) h3 rfl
    have h4 := cells_put (j := 0) h3 (.string q0)
    have B4 := Hid.mk (B3.out.setCell (p := ⟨B, 0, none⟩) hWb (.string q0))
    obtain ⟨x4, y4⟩ := cells_at (j := 1) h4 rfl
    have H4 := Hid.mk h4
    clear x0 y0 h0 H0 hb3 h3 h4 L0
    go_wp2_with fail
    refine (L1.out _).mono ?_
    rintro e w5 ⟨rfl, hb5⟩
    have h5 := (hb5.block _ (box_lt H4.out)).trans H4.out
    have B5 := Hid.mk (B4.out.trans (hb5.mono B4.out.size))
    obtain ⟨x5, y5⟩ := cells_at (j := 1) h5 rfl
    have h6 := cells_put (j := 1) h5 (.string q1)
    have B6 := Hid.mk (B5.out.setCell (p := ⟨B, 1, none⟩) hWb (.string q1))
    obtain ⟨u0, v0⟩ := cells_at (j := 0) h6 rfl
    obtain ⟨u1, v1⟩ := cells_at (j := 1) h6 rfl
    obtain ⟨u2, v2⟩ := cells_at (j := 2) h6 rfl
    obtain ⟨u3, v3⟩ := cells_at (j := 3) h6 rfl
    obtain ⟨u4, v4⟩ := cells_at (j := 4) h6 rfl
    obtain ⟨u5, v5⟩ := cells_at (j := 5) h6 rfl
    obtain ⟨u6, v6⟩ := cells_at (j := 6) h6 rfl
    clear x3 y3 x4 y4 H4 hb5 h5 h6 L1
    go_wp2_with fail
    refine (O.out _).mono ?_
    rintro e w7 ⟨rfl, hb7⟩
    have B7 := Hid.mk (B6.out.trans (hb7.mono B6.out.size))
    clear hb7 u0 v0 u1 v1 u2 v2 u3 v3 u4 v4 u5 v5 u6 v6 x5 y5
    go_wp2
    go_ret
    exact ⟨rfl, B7.out⟩
   ·have := HDR.out
    rw [dRt, hs1] at this
    cases this
  by_cases c15 : k = 15
  ·subst c15
   have hsp : ∃ t0 t1, splitR 15 d = some [t0, t1] := by
    unfold dRt at hr
    cases h : splitR 15 d with
    | none => rw [h] at hr; cases hr
    | some xs =>
     obtain ⟨_, _, _, g⟩ := (split_iff _ _ _).1 h
     rw [form15] at g
     match xs, g with
     | [t0, t1], _ => exact ⟨t0, t1, rfl⟩
   obtain ⟨t0, t1, hs⟩ := hsp
   obtain ⟨n1, hz, e1, e0, hlo⟩ := low_mx hs
   have z1 := name_size n1
   rw [hlo]
   have L1 := Hid.mk (rlower_in t1 (by unfold maxLen; omega))
   have zl : (lowF t1).size ≤ 255 := by unfold lowF; rw [if_pos n1, lowA_size]; omega
   have z0 : t0.size ≤ 2 := by rw [← e0, ByteArray.size_extract]; omega
   clear hr hs hlo n1
   generalize lowF t1 = q1 at L1 zl ⊢
   go_enter Tryz.func99, Tryz.ntmps99
   go_wp2_with fail
   refine (HR.out _).mono ?_
   rintro e w1 ⟨rfl, hb1⟩
   have q0 : ¬ 9223372036854775807 < t0.size + q1.size := by omega
   have q2 : (2 : Int) ≤ (d.size : Int) := by omega
   go_upto_region 16 with fail
   refine wp_region_held_drew (S := fun _ : World => True) (by kernel_rfl) trivial (fun hHeld => ?_)
   refine wU (i := 0) (v := ?va_0) rfl ?ya_0 (by assumption) ?_
   case ya_0 => (intro w hSw; (try dsimp only at hSw); go_simp; try with_reducible rfl)
   refine wU (i := 1) (v := ?va_1) rfl ?ya_1 (by assumption) ?_
   case ya_1 => (intro w hSw; (try dsimp only at hSw); go_simp; try with_reducible rfl)
   refine wU (i := 2) (v := ?va_2) rfl ?ya_2 (by assumption) ?_
   case ya_2 => (intro w hSw; (try dsimp only at hSw); go_simp; try with_reducible rfl)
   refine wU (i := 3) (v := ?va_3) rfl ?ya_3 (by assumption) ?_
   case ya_3 => (intro w hSw; (try dsimp only at hSw); go_simp; try with_reducible rfl)
   try simp only [Act.put, List.getElem_toArray, List.getElem_cons_succ, List.getElem_cons_zero, List.setIfInBounds_toArray, List.set_cons_zero, List.set_cons_succ]
   try rw [e1]
   try rw [e0]
   refine wpAnyH_ready (rs := [4]) (by kernel_rfl) (by simp) ?_
   refine AllReadyH.cons rfl (fun K hK => ?_) AllReadyH.nil
   go_simp
   try rw [e1]
   go_at_call 64
   refine (L1.out _).mono ?_
   rintro e w8 ⟨rfl, hb8⟩
   have B8 : Below W.heap.size W w8 := hb1.trans (((Below.refl _ _).drew.trans hb8).mono hb1.size)
   refine hK.out _ _ trivial (fun hHeld => ?_)
   clear hK K
   try simp only [Act.put, List.getElem_toArray, List.getElem_cons_succ, List.getElem_cons_zero, List.setIfInBounds_toArray, List.set_cons_zero, List.set_cons_succ]
   refine wU (i := 5) (v := ?vb_5) rfl ?yb_5 (by assumption) ?_
   case yb_5 => (intro w hSw; (try dsimp only at hSw); go_simp; try with_reducible rfl)
   refine wU (i := 6) (v := ?vb_6) rfl ?yb_6 (by assumption) ?_
   case yb_6 => (intro w hSw; (try dsimp only at hSw); go_simp; try with_reducible rfl)
   try simp only [Act.put, List.getElem_toArray, List.getElem_cons_succ, List.getElem_cons_zero, List.setIfInBounds_toArray, List.set_cons_zero, List.set_cons_succ]
   refine wpAnyH_done (by kernel_rfl) ?_ _
   go_wp2
   go_ret
   exact ⟨rfl, B8⟩
  ·have hn : nameds k = false := by
    unfold nameds
    simp only [Bool.or_eq_false_iff, beq_eq_false_iff_ne]
    omega
   rw [low_other hn hk46]
   have b2 : (k == 2) = false := by rw [beq_eq_false_iff_ne]; omega
   have b5 : (k == 5) = false := by rw [beq_eq_false_iff_ne]; omega
   have b39 : (k == 39) = false := by rw [beq_eq_false_iff_ne]; omega
   have b6 : (k == 6) = false := by rw [beq_eq_false_iff_ne]; exact c6
   have b15 : (k == 15) = false := by rw [beq_eq_false_iff_ne]; exact c15
   have b46 : (k == 46) = false := by rw [beq_eq_false_iff_ne]; exact hk46
   clear hn hr c2 c6 c15 hk46
   go_enter Tryz.func99, Tryz.ntmps99
   go_wp2_with fail
   refine (HR.out _).mono ?_
   rintro e w1 ⟨rfl, hb1⟩
   go_wp2
   go_ret
   exact ⟨rfl, hb1⟩
end Go.Proofs.YtdlcldjlfhmlgaaGreatDoor
/- Layer 14: the records that the document takes in a zone, as lists. -/
namespace Go.Proofs.YtdlcldjlfhmlgaaGreatDoor
open Go.RowKit
theorem dRt_ty {k : Int} {d : ByteArray} (h : dRt k d = true) : 0 ≤ k ∧ k ≤ 65535 := by
 unfold dRt splitR at h
 split at h
 ·rename_i h1; exact h1.1
 ·cases h
theorem sets_one (r : Rc) : setsR [r] = if (mks r.ty && rOk r) = true then [newS r] else [] := by
 unfold setsR
 rw [List.foldl_cons, List.foldl_nil, stepR]
 split <;> rfl
structure SG (s : St) : Prop where
 nm : OkN s.ls
 mks : mks s.ty = true
 ty : 0 ≤ s.ty ∧ s.ty ≤ 65535
 cl : 0 ≤ s.cl ∧ s.cl ≤ 65535
 tl : 0 ≤ s.tl ∧ s.tl ≤ 2147483647
 one : 1 ≤ s.ds.length
 dat : ∀ d ∈ s.ds, dRt s.ty d = true
theorem newS_sg {r : Rc} (h : (mks r.ty && rOk r) = true) : SG (newS r) := by
 simp only [Bool.and_eq_true] at h
 obtain ⟨h1, h2, h3, h4⟩ := rOk_parts h.2
 have ht := @ttl_range r
 refine ⟨(lb_ok h1).1, h.1, dRt_ty h4, by show 0 ≤ r.cl ∧ r.cl ≤ 65535; omega, ?_, by simp [newS], fun d hd => ?_⟩
 ·show 0 ≤ min 2147483647 (ttl r) ∧ min 2147483647 (ttl r) ≤ 2147483647
  omega
 ·obtain rfl : d = r.dat := by simpa [newS] using hd
  exact h4
theorem addD_sg {s : St} {r : Rc} (hs : SG s) (h : (mks r.ty && rOk r) = true) (hk : keyS s r = true) : SG (addD s r) := by
 simp only [Bool.and_eq_true] at h
 obtain ⟨h1, h2, h3, h4⟩ := rOk_parts h.2
 have ht := @ttl_range r
 have htl := hs.tl
 have hty := (keyS_iff.1 hk).2.1
 refine ⟨hs.nm, hs.mks, hs.ty, hs.cl, ?_, ?_, fun d hd => ?_⟩
 ·show 0 ≤ min s.tl (ttl r) ∧ min s.tl (ttl r) ≤ 2147483647
  omega
 ·have := hs.one
  unfold addD
  simp only
  split
  ·exact this
  ·simp
 ·unfold addD at hd
  simp only at hd
  split at hd
  ·exact hs.dat d hd
  ·rcases List.mem_append.1 hd with hd | hd
   ·exact hs.dat d hd
   ·obtain rfl := List.mem_singleton.1 hd
    show dRt s.ty r.dat = true
    rw [hty]; exact h4
theorem setsR_sg (l : List Rc) : ∀ s ∈ setsR l, SG s := by
 have key : ∀ (l : List Rc) (ss : List St), (∀ s ∈ ss, SG s) → ∀ s ∈ l.foldl stepR ss, SG s := by
  intro l
  induction l with
  | nil => intro ss h; exact h
  | cons r l ih =>
   intro ss h
   rw [List.foldl_cons]
   refine ih _ (fun s hs => ?_)
   unfold stepR at hs
   split at hs
   ·rename_i hc
    rcases addR_mem hs with h1 | rfl | ⟨s', h1, h2, rfl⟩
    ·exact h s h1
    ·exact newS_sg hc
    ·exact addD_sg (h s' h1) hc h2
   ·exact h s hs
 exact key l [] (by simp)
def InS (s : St) (r : Rc) : Prop := keyS s r = true ∧ lowR r.ty r.dat ∈ s.ds.map (lowR r.ty)
theorem addD_in (s : St) (r : Rc) (h : keyS s r = true) : InS (addD s r) r := by
 refine ⟨by rw [keyS_iff] at h ⊢; exact h, ?_⟩
 unfold addD
 simp only
 split
 ·rename_i h1; exact h1
 ·simp
theorem addD_keep {s : St} {r x : Rc} (h : InS s x) : InS (addD s r) x := by
 refine ⟨by have := h.1; rw [keyS_iff] at this ⊢; exact this, ?_⟩
 unfold addD
 simp only
 split
 ·exact h.2
 ·rw [List.map_append]; exact List.mem_append_left _ h.2
theorem addR_in (r : Rc) (hn : IsName r.nm) : ∀ ss : List St, ∃ s ∈ addR ss r, InS s r
 | [] => ⟨newS r, by simp [addR], by rw [keyS_iff]; exact ⟨rfl, rfl, rfl⟩, by simp [newS]⟩
 | s :: ss => by
  rw [addR]
  split
  ·rename_i hk; exact ⟨addD s r, by simp, addD_in s r hk⟩
  ·obtain ⟨t, h1, h2⟩ := addR_in r hn ss
   exact ⟨t, by simp [h1], h2⟩
theorem addR_keep {r x : Rc} : ∀ {ss : List St}, (∃ s ∈ ss, InS s x) → ∃ s ∈ addR ss r, InS s x
 | [], ⟨s, h, _⟩ => by simp at h
 | s :: ss, ⟨t, h, hx⟩ => by
  rw [addR]
  split
  ·rcases List.mem_cons.1 h with rfl | h
   ·exact ⟨addD t r, by simp, addD_keep hx⟩
   ·exact ⟨t, by simp [h], hx⟩
  ·rcases List.mem_cons.1 h with rfl | h
   ·exact ⟨t, by simp, hx⟩
   ·obtain ⟨u, h1, h2⟩ := addR_keep (r := r) ⟨t, h, hx⟩
    exact ⟨u, by simp [h1], h2⟩
theorem setsR_has {l : List Rc} {x : Rc} (hx : x ∈ l) (hc : (mks x.ty && rOk x) = true) : ∃ s ∈ setsR l, InS s x := by
 have keep : ∀ (l : List Rc) (ss : List St), (∃ s ∈ ss, InS s x) → ∃ s ∈ l.foldl stepR ss, InS s x := by
  intro l
  induction l with
  | nil => intro ss h; exact h
  | cons r l ih =>
   intro ss h
   rw [List.foldl_cons]
   refine ih _ ?_
   unfold stepR
   split
   ·exact addR_keep h
   ·exact h
 have key : ∀ (l : List Rc) (ss : List St), x ∈ l → ∃ s ∈ l.foldl stepR ss, InS s x := by
  intro l
  induction l with
  | nil => intro ss h; simp at h
  | cons r l ih =>
   intro ss h
   rw [List.foldl_cons]
   rcases List.mem_cons.1 h with rfl | h
   ·refine keep _ _ ?_
    unfold stepR
    rw [if_pos hc]
    simp only [Bool.and_eq_true] at hc
    exact addR_in x (rOk_parts hc.2).1 ss
   ·exact ih _ h
 exact key l [] hx
open Classical in
noncomputable def lostD (ss : List St) (x : Rc) : Bool := !((mks x.ty && rOk x) && decide (∃ s ∈ ss, InS s x))
theorem lostD_in {l : List Rc} {x : Rc} (hx : x ∈ l) : lostD (setsR l) x = !(mks x.ty && rOk x) := by
 classical
 unfold lostD
 cases h : mks x.ty && rOk x with
 | false => rfl
 | true => rw [decide_eq_true (setsR_has hx h)]; rfl
noncomputable def recD (z : Lc) (x : Rc) : Bool := x.cl == 1 && undF x.nm z.nm && !(lostD (setsR z.rs) x) && x.ty != 5 && x.ty != 39 && x.ty != 46 && x.ty != 41 && (z.kd != 5 || eqF x.nm z.nm)
noncomputable def headD (z : Lc) : Bool := isN z.nm && decide (1 ≤ z.kd) && decide (z.kd ≤ 5) && decide (z.rs.length ≤ 200) && (decide (z.rs.length = 0) || decide (2 < z.kd))
noncomputable def rightD (z : Lc) : Bool := headD z && z.rs.all (recD z)
theorem eqF_und {s t : ByteArray} (h : eqF s t = true) : undF s t = true := by
 by_cases hn : IsName s ∧ IsName t
 ·obtain ⟨⟨a, ha, rfl⟩, ⟨b, hb, rfl⟩⟩ := hn
  rw [eqF_nm ha hb] at h
  rw [undF_nm ha hb]
  exact eq_und h
 ·rw [eqF_no hn] at h; cases h
theorem recD_eq {z : Lc} {x : Rc} (hx : x ∈ z.rs) (hk : 2 < z.kd) (hk5 : z.kd ≤ 5) : recD z x = (rcR x && plcR x.nm z) := by
 unfold recD rcR plcR
 rw [lostD_in hx, sets_one, Bool.not_not]
 have e1 : ((if (mks x.ty && rOk x) = true then [newS x] else []).length == 1) = (mks x.ty && rOk x) := by
  cases mks x.ty && rOk x <;> rfl
 rw [e1]
 by_cases h5 : z.kd = 5
 ·rw [if_neg (by omega), if_pos h5]
  have hb : (z.kd != 5) = false := by rw [h5]; rfl
  rw [hb, Bool.false_or]
  cases he : eqF x.nm z.nm with
  | false => simp
  | true =>
   rw [eqF_und he]
   cases x.cl == 1 <;> cases (mks x.ty && rOk x) <;> cases x.ty != 5 <;> cases x.ty != 39 <;> cases x.ty != 46 <;> cases x.ty != 41 <;> rfl
 ·rw [if_pos (by omega)]
  have hb : (z.kd != 5) = true := by rw [bne_iff_ne]; exact h5
  rw [hb, Bool.true_or]
  cases undF x.nm z.nm <;> cases x.cl == 1 <;> cases (mks x.ty && rOk x) <;> cases x.ty != 5 <;> cases x.ty != 39 <;> cases x.ty != 46 <;> cases x.ty != 41 <;> rfl
theorem rightD_eq (z : Lc) : rightD z = rightR z := by
 unfold rightD rightR headD
 cases h0 : isN z.nm with
 | false => rfl
 | true =>
  by_cases h1 : 1 ≤ z.kd
  ·by_cases h2 : z.kd ≤ 5
   ·by_cases h3 : z.rs.length ≤ 200
    ·rw [decide_eq_true h1, decide_eq_true h2, decide_eq_true h3]
     simp only [Bool.true_and]
     by_cases h4 : 2 < z.kd
     ·rw [decide_eq_true h4, Bool.or_true, Bool.true_and]
      refine Bool.eq_iff_iff.2 ?_
      rw [List.all_eq_true, List.all_eq_true]
      exact ⟨fun h x hx => by rw [← recD_eq hx h4 h2]; exact h x hx, fun h x hx => by rw [recD_eq hx h4 h2]; exact h x hx⟩
     ·rw [decide_eq_false h4, Bool.or_false]
      cases hr : z.rs with
      | nil => rfl
      | cons x l =>
       have : plcR x.nm z = false := by unfold plcR; rw [if_neg (by omega), if_neg (by omega)]
       simp [this]
    ·rw [decide_eq_false h3]; simp
   ·rw [decide_eq_false h2]; simp
  ·rw [decide_eq_false h1]; simp
theorem zk_eq {a b : Lc} (ha : IsName a.nm) (hb : IsName b.nm) : eqF a.nm b.nm = true ↔ zk a = zk b := by
 obtain ⟨g1, g2⟩ := lb_ok ha
 obtain ⟨k1, k2⟩ := lb_ok hb
 have e : eqF a.nm b.nm = eqB (lb a.nm) (lb b.nm) := by
  conv => lhs; rw [g2, k2]
  exact eqF_nm g1 k1
 rw [e]
 unfold eqB zk
 rw [decide_eq_true_iff]
 constructor
 ·intro h; rw [h]
 ·intro h
  exact nm_inj g1.low k1.low (ba_ext h)
def okTo (l : List Lc) (i : Nat) : Prop := (∀ j (hj : j < l.length), j < i → rightR l[j] = true) ∧ ∀ j k (hj : j < l.length) (hk : k < l.length), j < k → k < i → eqF l[j].nm l[k].nm = false
theorem okTo_all {l : List Lc} (h : okTo l l.length) : okL l := by
 refine ⟨fun z hz => ?_, ?_⟩
 ·obtain ⟨j, hj, rfl⟩ := List.getElem_of_mem hz
  exact h.1 j hj hj
 ·rw [List.pairwise_iff_getElem]
  intro j k hj hk hjk e
  have := h.2 j k hj hk hjk hk
  rw [(zk_eq (zone_ty (h.1 j hj hj)).1 (zone_ty (h.1 k hk hk)).1).2 e] at this
  cases this
theorem not_right {l : List Lc} {i : Nat} (hi : i < l.length) (h : rightR l[i] = false) : ¬ okL l := fun hk => by
 rw [hk.1 _ (List.getElem_mem hi)] at h; cases h
theorem not_twice {l : List Lc} {j i : Nat} (hj : j < l.length) (hi : i < l.length) (hji : j < i) (h : eqF l[j].nm l[i].nm = true) : ¬ okL l := fun hk => by
 have h1 := zone_ty (hk.1 _ (List.getElem_mem hj))
 have h2 := zone_ty (hk.1 _ (List.getElem_mem hi))
 exact List.pairwise_iff_getElem.1 hk.2 j i hj hi hji ((zk_eq h1.1 h2.1).1 h)
theorem okTo_zero (l : List Lc) : okTo l 0 := ⟨fun j _ h => absurd h (Nat.not_lt_zero _), fun j k _ _ _ h => absurd h (Nat.not_lt_zero _)⟩
theorem okTo_succ {l : List Lc} {i : Nat} (h : okTo l i) (hi : i < l.length) (hr : rightR l[i] = true) (ht : ∀ j (hj : j < l.length), j < i → eqF l[j].nm l[i].nm = false) : okTo l (i + 1) := by
 refine ⟨fun j hj hji => ?_, fun j k hj hk hjk hki => ?_⟩
 ·rcases Nat.lt_succ_iff_lt_or_eq.1 hji with h1 | rfl
  ·exact h.1 j hj h1
  ·exact hr
 ·rcases Nat.lt_succ_iff_lt_or_eq.1 hki with h1 | rfl
  ·exact h.2 j k hj hk hjk h1
  ·exact ht j hj hjk
end Go.Proofs.YtdlcldjlfhmlgaaGreatDoor
/- Layer 8: the document's sets in memory, with signatures: what lies where; facts alone. -/
namespace Go.Proofs.YtdlcldjlfhmlgaaGreatDoor
open Go.RowKit
open So (El elC elC_len elC_app elC_cons elC_take elC_drop elC_at SRow)
abbrev Sg := St × List ByteArray
def Sg.tx (p : Sg) : Bool → List ByteArray
 | false => p.1.ds
 | true => p.2
def Sg.put (p : Sg) (f : Bool) (l : List ByteArray) : Sg := match f with
 | false => ({ p.1 with ds := l }, p.2)
 | true => (p.1, l)
def fld (e : El) : Bool → Value
 | false => e.dv
 | true => e.sv
def fput (e : El) (f : Bool) (v : Value) : El := match f with
 | false => { e with dv := v }
 | true => { e with sv := v }
theorem fld_put (e : El) (f : Bool) (v : Value) : fld (fput e f v) f = v := by cases f <;> rfl
theorem fld_other (e : El) {f g : Bool} (h : f ≠ g) (v : Value) : fld (fput e f v) g = fld e g := by cases f <;> cases g <;> first | rfl | exact absurd rfl h
theorem tx_put (p : Sg) (f : Bool) (l : List ByteArray) : (p.put f l).tx f = l := by cases f <;> rfl
theorem tx_other (p : Sg) {f g : Bool} (h : f ≠ g) (l : List ByteArray) : (p.put f l).tx g = p.tx g := by cases f <;> cases g <;> first | rfl | exact absurd rfl h
structure ElS (N : Nat) (w : World) (e : El) (p : Sg) : Prop where
 ls : e.ls = p.1.ls
 ty : e.ty = p.1.ty
 cl : e.cl = p.1.cl
 tl : e.tl = p.1.tl
 tx : ∀ f, w.ownsRow N 9 1 (fld e f) (p.tx f).length (strs (p.tx f))
theorem ElS.keep {N : Nat} {w w' : World} {e : El} {p : Sg} (h : ElS N w e p) (k : ∀ f b c t, (fld e f).ownBlock = some b → w.heap[b]? = some (.cells c 9 t) → w'.heap[b]? = w.heap[b]?) : ElS N w' e p :=
 ⟨h.ls, h.ty, h.cl, h.tl, fun f => own_same (h.tx f) (k f)⟩
structure RS (N : Nat) (w : World) (v : Value) (els : List El) (ps : List Sg) : Prop where
 row : w.ownsRow N 44 6 v els.length (elC els)
 rel : F2 (ElS N w) els ps
 dis : ∀ i j (hi : i < els.length) (hj : j < els.length) (f g : Bool) (b : Nat), (i ≠ j ∨ f ≠ g) → (fld els[i] f).ownBlock = some b → (fld els[j] g).ownBlock ≠ some b
theorem RS.blk {N : Nat} {w w' : World} {v : Value} {els : List El} {ps : List Sg} (h : RS N w v els ps) (hb : Below w.heap.size w w') : RS N w' v els ps where
 row := own_blk h.row hb
 rel := h.rel.mono fun e s hs => hs.keep fun f b c t _ hc => hb.block b (Array.getElem?_eq_some_iff.1 hc).1
 dis := h.dis
theorem RS.nil (N : Nat) (w : World) : RS N w nilS [] [] := ⟨World.ownsRow_nil .., trivial, fun i j hi => by simp at hi⟩
theorem RS.len {N : Nat} {w : World} {v : Value} {els : List El} {ps : List Sg} (h : RS N w v els ps) : els.length = ps.length := h.rel.len
theorem RS.form {N : Nat} {w : World} {v : Value} {els : List El} {ps : List Sg} (h : RS N w v els ps) : ∃ q cap, v = .slice q ps.length cap := by
 obtain ⟨q, cap, e⟩ := srow_any h.row
 exact ⟨q, cap, by rw [e, h.len]⟩
theorem RS.setT {N : Nat} {w : World} {g cap : Nat} {els : List El} {ps : List Sg} (h : RS N w (.slice (some ⟨g, 0, none⟩) els.length cap) els ps) (i : Nat) (hi : i < els.length) (hi' : i < ps.length) (t : Int) :
  RS N (w.setCell ⟨g, i * 6 + 3, none⟩ (.int .i64 t)) (.slice (some ⟨g, 0, none⟩) els.length cap) (els.set i { els[i] with tl := t }) (ps.set i ({ ps[i].1 with tl := t }, ps[i].2)) ∧ Below N w (w.setCell ⟨g, i * 6 + 3, none⟩ (.int .i64 t)) ∧ Kst w (w.setCell ⟨g, i * 6 + 3, none⟩ (.int .i64 t)) := by
 obtain ⟨hlt, hNg, c0, hg⟩ := own_lt h.row (b := g) rfl
 have hk : ∀ (b : Nat) (c : Array Value) (f : Nat × Nat), w.heap[b]? = some (.cells c 9 f) → (w.setCell ⟨g, i * 6 + 3, none⟩ (.int .i64 t)).heap[b]? = w.heap[b]? := fun b c f hc => Below.heap_setCell _ _ _ _ (fun e0 => by obtain rfl : b = g := e0; rw [hg] at hc; cases hc)
 refine ⟨⟨?_, ?_, ?_⟩, (Below.refl _ _).setCell (p := ⟨g, i * 6 + 3, none⟩) hNg _, (Kst.refl _).set hg (.inl rfl) _⟩
 ·have := srow_set h.row i 3 hi (by decide) (.int .i64 t) { els[i] with tl := t } rfl
  rwa [List.length_set]
 ·refine (h.rel.mono fun e s hs => hs.keep fun f b c t' _ hc => hk b c t' hc).set i ?_
  have hs := h.rel.at i hi hi'
  exact ⟨hs.ls, hs.ty, hs.cl, rfl, fun f => by
   have := own_same (hs.tx f) (fun b c t' _ hc => hk b c t' hc)
   cases f <;> exact this⟩
 ·intro a b ha hb f g' x hne h1
  have ha' : a < els.length := by simpa using ha
  have hb' : b < els.length := by simpa using hb
  have fe : ∀ j (hj : j < (els.set i { els[i] with tl := t }).length) (hj' : j < els.length) (f : Bool), fld ((els.set i { els[i] with tl := t })[j]) f = fld els[j] f := fun j hj hj' f => by
   rw [List.getElem_set]
   split
   ·rename_i e; subst e; cases f <;> rfl
   ·rfl
  rw [fe _ _ ha'] at h1
  rw [fe _ _ hb']
  exact h.dis a b ha' hb' f g' x hne h1
def fOff : Bool → Nat
 | false => 4
 | true => 5
theorem fOff_lt (f : Bool) : fOff f < 6 := by cases f <;> decide
theorem fput_c (e : El) (f : Bool) (v : Value) : (fput e f v).c = e.c.set (fOff f) v := by cases f <;> rfl
theorem fld_c (e : El) (f : Bool) : e.c[fOff f]? = some (fld e f) := by cases f <;> rfl
theorem RS.app {N : Nat} {w : World} {g cap : Nat} {els : List El} {ps : List Sg} (h : RS N w (.slice (some ⟨g, 0, none⟩) els.length cap) els ps) (hN : N ≤ w.heap.size) (i : Nat) (hi : i < els.length) (hi' : i < ps.length) (f : Bool) (hl : (ps[i].tx f).length ≤ 1000) (d : ByteArray) :
  ∃ v' w3, (bAppD #[fld els[i] f, .slice (some ⟨w.heap.size, 0, none⟩) 1 1]).run Tryz.prog (w.alloc (.cells #[.string d] 9)) = .ok v' w3 ∧ w3.cell? ⟨g, i * 6 + fOff f, none⟩ = some (fld els[i] f) ∧ w3.frozen? ⟨g, i * 6 + fOff f, none⟩ = false ∧ (∃ q c, v' = .slice q ((ps[i].tx f).length + 1) c) ∧
   Hid (RS N (w3.setCell ⟨g, i * 6 + fOff f, none⟩ v') (.slice (some ⟨g, 0, none⟩) els.length cap) (els.set i (fput els[i] f v')) (ps.set i (ps[i].put f (ps[i].tx f ++ [d]))) ∧ Below N w (w3.setCell ⟨g, i * 6 + fOff f, none⟩ v') ∧ Below N w w3 ∧ SRow w3 g els ∧ Kst w w3 ∧ Kst w (w3.setCell ⟨g, i * 6 + fOff f, none⟩ v')) := by
 obtain ⟨i0, hi0, hz0, hz1, hz2⟩ := info_parts' infoStr
 obtain ⟨U, hU⟩ : ∃ U, w.alloc (.cells #[.string d] 9) = U := ⟨_, rfl⟩
 have bU : Below w.heap.size w U := hU ▸ (Below.refl _ _).alloc (Nat.le_refl _) _
 have gU := h.blk bU
 have hsz : U.heap.size = w.heap.size + 1 := by rw [← hU]; simp
 have hnew : U.heap[w.heap.size]? = some (.cells #[.string d] 9 (0, 0)) := hU ▸ heap_alloc_new w _
 have hnews : ∀ (j : Nat) u, (strs [d])[j]? = some u → U.cell? ((⟨w.heap.size, 0, none⟩ : Addr).add j) = some u := fun j u hu => by
  rw [So.add_of, Nat.zero_add, So.cell_blk hnew, ← hu]
  simp [strs]
 have hs := gU.rel.at i hi hi'
 obtain ⟨hlt, hNg, c0, hg⟩ := own_lt gU.row (b := g) rfl
 obtain ⟨v', w3, hrun, hown, hgr, _, hat⟩ := run_append_own_at (P := Tryz.prog) U N 42 42 9 i0 _ 1 16 Tryz.underlying42 hi0 hz0 hz1 hz2 rfl (by decide) (fld els[i] f) (ps[i].tx f).length (strs (ps[i].tx f)) (hs.tx f) ⟨w.heap.size, 0, none⟩ 1 1 (strs [d]) rfl hnews (by simp [strs]; rfl) (by unfold maxLen; omega) (by omega) (by omega)
 obtain ⟨q', c', hv'⟩ := srow_any hown
 have hnb : (fld els[i] f).ownBlock ≠ some g := fun e0 => by
  obtain ⟨_, _, c, hc⟩ := own_lt (hs.tx f) e0
  rw [hg] at hc; simp at hc
 have hg3 : w3.heap[g]? = some (.cells c0 44 (0, 0)) := (grown_blk hgr (Array.getElem?_eq_some_iff.1 hg).1 hnb).trans hg
 have hrow3 : w3.ownsRow N 44 6 (.slice (some ⟨g, 0, none⟩) els.length cap) els.length (elC els) := own_same gU.row fun b c f hb hc => by
  obtain rfl : g = b := by simpa [Value.ownBlock] using hb
  rw [hg3, hg]
 obtain ⟨g', cap', hv, _, hr⟩ := srow_form hrow3 (by omega)
 cases hv
 have hcell : w3.cell? ⟨g, i * 6 + fOff f, none⟩ = some (fld els[i] f) := by rw [hr.cell i hi (fOff f) (fOff_lt f), fld_c]
 have b3 : Below N U w3 := (Below.refl _ _).grown hgr (by omega) (fun b hb' => (own_lt (hs.tx f) hb').2.1)
 have kw3 : Kst w w3 := (Kst.of_below bU).grown (hs.tx f) (.inr (.inr rfl)) hgr
 refine ⟨v', w3, by rw [hU]; exact hrun, hcell, by unfold World.frozen?; simp [hg3], ⟨q', c', hv'⟩, ?_⟩
 refine ⟨⟨?_, ?_, ?_⟩, ((bU.mono hN).trans b3).setCell (p := ⟨g, i * 6 + fOff f, none⟩) hNg _, (bU.mono hN).trans b3, hr, kw3, kw3.set hg3 (.inl rfl) _⟩
 ·have := srow_set hrow3 i (fOff f) hi (fOff_lt f) v' (fput els[i] f v') (fput_c _ _ _)
  rwa [List.length_set]
 ·have hoth : ∀ j (hj : j < els.length) (f' : Bool), (i ≠ j ∨ f ≠ f') → ∀ b c t, (fld els[j] f').ownBlock = some b → U.heap[b]? = some (.cells c 9 t) → (w3.setCell ⟨g, i * 6 + fOff f, none⟩ v').heap[b]? = U.heap[b]? := by
   intro j hj f' hne b c t hb hc
   rw [Below.heap_setCell _ _ _ _ (fun e0 => by obtain rfl : b = g := e0; rw [hg] at hc; cases hc)]
   exact grown_blk hgr (Array.getElem?_eq_some_iff.1 hc).1 (fun e0 => h.dis i j hi hj f f' b hne e0 hb)
  refine F2.of_at (by simp [gU.rel.len]) (fun j h1 h2 => ?_)
  have h1' : j < els.length := by simpa using h1
  have h2' : j < ps.length := by simpa using h2
  by_cases e : i = j
  ·subst e
   simp only [List.getElem_set_self]
   refine ⟨by cases f <;> exact hs.ls, by cases f <;> exact hs.ty, by cases f <;> exact hs.cl, by cases f <;> exact hs.tl, fun f' => ?_⟩
   by_cases hf : f = f'
   ·subst hf
    rw [fld_put, tx_put]
    have : strs (ps[i].tx f ++ [d]) = strs (ps[i].tx f) ++ strs [d] := by simp [strs]
    rw [this, List.length_append]
    exact own_same hown fun b c t _ hc => Below.heap_setCell _ _ _ _ (fun e0 => by obtain rfl : b = g := e0; rw [hg3] at hc; cases hc)
   ·rw [fld_other _ hf, tx_other _ hf]
    exact own_same (hs.tx f') (hoth i hi f' (.inr hf))
  ·simp only [List.getElem_set_ne e]
   exact (gU.rel.at j h1' h2').keep fun f' => hoth j h1' f' (.inl e)
 ·have hnew2 : v'.ownBlock = (fld els[i] f).ownBlock ∨ ∀ j (hj : j < els.length) (f' : Bool) b, (fld els[j] f').ownBlock = some b → v'.ownBlock ≠ some b := by
   rcases hat with e | e
   ·exact .inl e
   ·right
    intro j hj f' b hb e2
    rw [e] at e2
    have := (own_lt ((gU.rel.at j hj (by rw [← h.rel.len]; exact hj)).tx f') hb).1
    cases e2
    omega
  have hold : ∀ j (hj : j < els.length) (f' : Bool) b, (i ≠ j ∨ f ≠ f') → (fld els[j] f').ownBlock = some b → v'.ownBlock ≠ some b := fun j hj f' b hne hb => by
   rcases hnew2 with e | e
   ·rw [e]
    intro e2
    exact h.dis i j hi hj f f' b hne e2 hb
   ·exact e j hj f' b hb
  have fe : ∀ j (hj : j < (els.set i (fput els[i] f v')).length) (hj' : j < els.length) (f' : Bool), fld ((els.set i (fput els[i] f v'))[j]) f' = if i = j ∧ f = f' then v' else fld els[j] f' := fun j hj hj' f' => by
   rw [List.getElem_set]
   by_cases e : i = j
   ·subst e
    rw [if_pos rfl]
    by_cases hf : f = f'
    ·subst hf; rw [if_pos ⟨rfl, rfl⟩, fld_put]
    ·rw [if_neg (fun h => hf h.2), fld_other _ hf]
   ·rw [if_neg e, if_neg (fun h => e h.1)]
  intro a b ha hb f1 f2 x hne h1
  have ha' : a < els.length := by simpa using ha
  have hb' : b < els.length := by simpa using hb
  rw [fe _ _ ha'] at h1
  rw [fe _ _ hb']
  by_cases c1 : i = a ∧ f = f1
  ·rw [if_pos c1] at h1
   obtain ⟨rfl, rfl⟩ := c1
   have c2 : ¬ (i = b ∧ f = f2) := fun h => by rcases hne with h' | h' <;> simp_all
   rw [if_neg c2]
   intro h2
   exact hold b hb' f2 x hne h2 h1
  ·rw [if_neg c1] at h1
   by_cases c2 : i = b ∧ f = f2
   ·rw [if_pos c2]
    obtain ⟨rfl, rfl⟩ := c2
    exact hold a ha' f1 x (by rcases hne with h' | h'; exact .inl (Ne.symm h'); exact .inr (Ne.symm h')) h1
   ·rw [if_neg c2]
    exact h.dis a b ha' hb' f1 f2 x hne h1
theorem RS.snoc {N : Nat} {w : World} {v : Value} {els : List El} {ps : List Sg} (h : RS N w v els ps) (hN : N ≤ w.heap.size) (hl : els.length ≤ 1000) (e : El) (s : St) (hls : e.ls = s.ls) (hty : e.ty = s.ty) (hcl : e.cl = s.cl) (htl : e.tl = s.tl) (d : ByteArray) (b : Nat) (hNb : N ≤ b) (hb : w.heap[b]? = some (.cells #[.string d] 9 (0, 0))) (hfr : ∀ j (hj : j < els.length) f, (fld els[j] f).ownBlock ≠ some b) (hdv : e.dv = .slice (some ⟨b, 0, none⟩) 1 1) (hsv : e.sv = nilS) (hds : s.ds = [d]) :
  ∃ v' w3, (bAppS #[v, .slice (some ⟨w.heap.size, 0, none⟩) 1 1]).run Tryz.prog (w.alloc (.cells #[.string (nm e.ls), .int .i64 e.ty, .int .i64 e.cl, .int .i64 e.tl, e.dv, nilS] 44)) = .ok v' w3 ∧ Hid (RS N w3 v' (els ++ [e]) (ps ++ [(s, [])]) ∧ Below N w w3 ∧ Kst w w3) := by
 obtain ⟨i0, hi, hz0, hz1, hz2⟩ := info_parts' infoSt
 obtain ⟨U, hU⟩ : ∃ U, w.alloc (.cells #[.string (nm e.ls), .int .i64 e.ty, .int .i64 e.cl, .int .i64 e.tl, e.dv, nilS] 44) = U := ⟨_, rfl⟩
 have hec : e.c = [.string (nm e.ls), .int .i64 e.ty, .int .i64 e.cl, .int .i64 e.tl, e.dv, nilS] := by rw [El.c, hsv]
 have bU : Below w.heap.size w U := hU ▸ (Below.refl _ _).alloc (Nat.le_refl _) _
 have gU := h.blk bU
 have hsz : U.heap.size = w.heap.size + 1 := by rw [← hU]; simp
 have hnew : U.heap[w.heap.size]? = some (.cells #[.string (nm e.ls), .int .i64 e.ty, .int .i64 e.cl, .int .i64 e.tl, e.dv, nilS] 44 (0, 0)) := hU ▸ heap_alloc_new w _
 have hnews : ∀ (j : Nat) u, e.c[j]? = some u → U.cell? ((⟨w.heap.size, 0, none⟩ : Addr).add j) = some u := fun j u hu => by
  rw [So.add_of, Nat.zero_add, So.cell_blk hnew, ← hu, hec, List.getElem?_toArray]
 have hone : ∀ u ∈ e.c, u.oneCell' = true := by
  intro u hu
  rw [hec, hdv] at hu
  simp only [List.mem_cons, List.not_mem_nil, or_false] at hu
  rcases hu with rfl | rfl | rfl | rfl | rfl | rfl <;> rfl
 obtain ⟨v', w3, hrun, hown, hg, _, hat⟩ := run_append_own_at (P := Tryz.prog) U N 37 37 44 i0 _ 6 88 Tryz.underlying37 hi hz0 hz1 hz2 rfl (by decide) v els.length (elC els) gU.row ⟨w.heap.size, 0, none⟩ 1 1 e.c (by rw [El.len]) hnews hone (by unfold maxLen; omega) (by omega) (by omega)
 refine ⟨v', w3, by rw [hU]; exact hrun, ?_⟩
 have hother : ∀ (x : Nat) (c : Array Value) (f : Nat × Nat), U.heap[x]? = some (.cells c 9 f) → w3.heap[x]? = U.heap[x]? := by
  intro x c f hx
  refine grown_blk hg (Array.getElem?_eq_some_iff.1 hx).1 (fun e0 => ?_)
  obtain ⟨_, _, c', hc⟩ := own_lt gU.row e0
  rw [hx] at hc
  simp at hc
 have hbU : U.heap[b]? = some (.cells #[.string d] 9 (0, 0)) := (bU.block b (Array.getElem?_eq_some_iff.1 hb).1).trans hb
 refine ⟨⟨?_, ?_, ?_⟩, (bU.mono hN).trans ((Below.refl _ _).grown hg (by omega) (fun b hb' => (own_lt gU.row hb').2.1)), (Kst.of_below bU).grown gU.row (.inl rfl) hg⟩
 ·rw [So.elC_app, List.length_append]
  have e2 : elC [e] = e.c := by rw [So.elC_cons]; simp [elC]
  rw [e2]
  exact hown
 ·refine (gU.rel.mono fun e s hs => hs.keep fun f x c t _ hc => hother x c t hc).app ⟨⟨hls, hty, hcl, htl, fun f => ?_⟩, trivial⟩
  cases f with
  | false =>
   show w3.ownsRow N 9 1 e.dv s.ds.length (strs s.ds)
   rw [hdv, hds]
   refine ⟨rfl, .inr ⟨b, 1, #[.string d], rfl, hNb, (hother b _ _ hbU).trans hbU, Nat.le_refl _, by unfold maxLen; omega, rfl, rfl⟩⟩
  | true =>
   show w3.ownsRow N 9 1 e.sv 0 []
   rw [hsv]
   exact World.ownsRow_nil ..
 ·have fe : ∀ j (hj : j < (els ++ [e]).length) (f : Bool) x, (fld ((els ++ [e])[j]) f).ownBlock = some x → (∃ hj' : j < els.length, (fld els[j] f).ownBlock = some x) ∨ (j = els.length ∧ f = false ∧ x = b) := by
   intro j hj f x hx
   rcases Nat.lt_or_ge j els.length with h1 | h1
   ·left
    rw [List.getElem_append_left h1] at hx
    exact ⟨h1, hx⟩
   ·right
    have hj2 : j = els.length := by simp at hj; omega
    rw [List.getElem_append_right h1] at hx
    simp only [hj2, Nat.sub_self, List.getElem_cons_zero] at hx
    cases f with
    | false =>
     refine ⟨hj2, rfl, ?_⟩
     have : (fld e false) = e.dv := rfl
     rw [this, hdv] at hx
     simpa [Value.ownBlock] using hx.symm
    | true =>
     have : (fld e true) = e.sv := rfl
     rw [this, hsv] at hx
     simp [Value.ownBlock] at hx
  intro a c ha hc f1 f2 x hne h1 h2
  rcases fe a ha f1 x h1 with ⟨p1, p2⟩ | ⟨p1, p2, p3⟩
  ·rcases fe c hc f2 x h2 with ⟨r1, r2⟩ | ⟨r1, r2, r3⟩
   ·exact h.dis a c p1 r1 f1 f2 x hne p2 r2
   ·rw [r3] at p2; exact hfr a p1 f1 p2
  ·rcases fe c hc f2 x h2 with ⟨r1, r2⟩ | ⟨r1, r2, r3⟩
   ·rw [p3] at r2; exact hfr c r1 f2 r2
   ·rcases hne with h' | h'
    ·exact h' (by omega)
    ·exact h' (by rw [p2, r2])
end Go.Proofs.YtdlcldjlfhmlgaaGreatDoor
