/- Texts of this proof, joined: LeDb, LeD, LeG, LeE. -/
import Derived.BigQuiet
import Derived.Deep.RegionHeld3
import Derived.Test.YtdlcldjlfhmlgaaGreatDoorJ29
import Derived.Test.YtdlcldjlfhmlgaaGreatDoorJ20
import Derived.Test.YtdlcldjlfhmlgaaGreatDoorJ25
set_option linter.unusedVariables false
set_option linter.unusedSimpArgs false
/- The document's Lower of data (guidepostref02), of types that are no signatures. -/
namespace Go.Proofs.YtdlcldjlfhmlgaaGreatDoor
open Go.RowKit
set_option maxRecDepth 100000 in
set_option maxHeartbeats 4000000 in
theorem rofSoa_in (p m : ByteArray) (hp : IsName p) (hm : IsName m) (a b c d f : Nat) (ha : a < 4294967296) (hb : b < 4294967296) (hc : c < 4294967296) (hd : d < 4294967296) (hf : f < 4294967296) (W : World) :
  Calls Tryz.prog 134 #[.agg #[.string p, .string m, .int .i64 (a : Int), .int .i64 (b : Int), .int .i64 (c : Int), .int .i64 (d : Int), .int .i64 (f : Int)]] W fun e w' => e = .returned (.tuple #[.string (p ++ m ++ ⟨(bytesB a 4).toArray⟩ ++ ⟨(bytesB b 4).toArray⟩ ++ ⟨(bytesB c 4).toArray⟩ ++ ⟨(bytesB d 4).toArray⟩ ++ ⟨(bytesB f 4).toArray⟩), .bool true]) ∧ Below W.heap.size W w' := by
 have zp := name_size hp
 have zm := name_size hm
 have HP : Hid (∀ w, Calls Tryz.prog 28 #[.string p] w fun e w' => e = .returned (.bool true) ∧ Below w.heap.size w w') := fun w => by have := rright_in p (by unfold maxLen; omega) w; rwa [isN_yes hp] at this
 have HM : Hid (∀ w, Calls Tryz.prog 28 #[.string m] w fun e w' => e = .returned (.bool true) ∧ Below w.heap.size w w') := fun w => by have := rright_in m (by unfold maxLen; omega) w; rwa [isN_yes hm] at this
 have F1 := Hid.mk (rfits4_in a ha)
 have F2 := Hid.mk (rfits4_in b hb)
 have F3 := Hid.mk (rfits4_in c hc)
 have F4 := Hid.mk (rfits4_in d hd)
 have F5 := Hid.mk (rfits4_in f hf)
 have N1 := Hid.mk (rnum4_in a ha)
 have N2 := Hid.mk (rnum4_in b hb)
 have N3 := Hid.mk (rnum4_in c hc)
 have N4 := Hid.mk (rnum4_in d hd)
 have N5 := Hid.mk (rnum4_in f hf)
 clear hp hm
 have sz : ∀ n, (⟨(bytesB n 4).toArray⟩ : ByteArray).size = 4 := fun n => by rw [ba_size, bytesB_len]
 have s1 := sz a
 have s2 := sz b
 have s3 := sz c
 have s4 := sz d
 have s5 := sz f
 clear sz
 generalize (⟨(bytesB a 4).toArray⟩ : ByteArray) = z1 at N1 s1 ⊢
 generalize (⟨(bytesB b 4).toArray⟩ : ByteArray) = z2 at N2 s2 ⊢
 generalize (⟨(bytesB c 4).toArray⟩ : ByteArray) = z3 at N3 s3 ⊢
 generalize (⟨(bytesB d 4).toArray⟩ : ByteArray) = z4 at N4 s4 ⊢
 generalize (⟨(bytesB f 4).toArray⟩ : ByteArray) = z5 at N5 s5 ⊢
 have hmo : Tryz.prog.follows Departure.mixedOrders = true := by kernel_rfl
 obtain ⟨V, hV⟩ : ∃ V, W.alloc (.cells #[.string p, .string m, .int .i64 (a : Int), .int .i64 (b : Int), .int .i64 (c : Int), .int .i64 (d : Int), .int .i64 (f : Int)] 183) = V := ⟨_, rfl⟩
 have A0 : Below W.heap.size W V := hV ▸ (Below.refl _ _).alloc (Nat.le_refl _) _
 have Y0 : V.heap[W.heap.size]? = some (.cells #[.string p, .string m, .int .i64 (a : Int), .int .i64 (b : Int), .int .i64 (c : Int), .int .i64 (d : Int), .int .i64 (f : Int)] 183 (0, 0)) := hV ▸ heap_new _ _
 have HV := Hid.mk hV
 have HL : Hid (∀ (G : Prop) (A B : World), A.heap[W.heap.size]? = some (.cells #[.string p, .string m, .int .i64 (a : Int), .int .i64 (b : Int), .int .i64 (c : Int), .int .i64 (d : Int), .int .i64 (f : Int)] 183 (0, 0)) → Below W.heap.size W A → Below A.heap.size A B → (B.heap[W.heap.size]? = some (.cells #[.string p, .string m, .int .i64 (a : Int), .int .i64 (b : Int), .int .i64 (c : Int), .int .i64 (d : Int), .int .i64 (f : Int)] 183 (0, 0)) → Below W.heap.size W B → B.cell? ⟨W.heap.size, 0, none⟩ = some (.string p) → B.cell? ⟨W.heap.size, 1, none⟩ = some (.string m) → B.cell? ⟨W.heap.size, 2, none⟩ = some (.int .i64 (a : Int)) → B.cell? ⟨W.heap.size, 3, none⟩ = some (.int .i64 (b : Int)) → B.cell? ⟨W.heap.size, 4, none⟩ = some (.int .i64 (c : Int)) → B.cell? ⟨W.heap.size, 5, none⟩ = some (.int .i64 (d : Int)) → B.cell? ⟨W.heap.size, 6, none⟩ = some (.int .i64 (f : Int)) → G) → G) := by
  intro G A B hA hW hB hG
  have hB' := (hB.block _ (box_lt hA)).trans hA
  exact hG hB' (hW.trans (hB.mono hW.size)) (cells_at hB' rfl).1 (cells_at hB' rfl).1 (cells_at hB' rfl).1 (cells_at hB' rfl).1 (cells_at hB' rfl).1 (cells_at hB' rfl).1 (cells_at hB' rfl).1
 clear hV ha hb hc hd hf
 have c0 := (cells_at (v := .string p) (j := 0) Y0 rfl).1
 go_enter Tryz.func134, Tryz.ntmps134
 go_upto_region 1 with fail
 rw [HV.out]
 go_wp2_with fail
 refine (HP.out _).mono ?_
 rintro e w1 ⟨rfl, hb1⟩
 refine HL.out _ _ w1 Y0 A0 hb1 ?_
 intro Y1 A1 e0 e1 e2 e3 e4 e5 e6
 clear c0 Y0 A0 hb1 HP HV
 go_wp2_with fail
 refine (HM.out _).mono ?_
 rintro e w2 ⟨rfl, hb2⟩
 refine HL.out _ _ w2 Y1 A1 hb2 ?_
 intro Y2 A2 g0 g1 g2 g3 g4 g5 g6
 clear e0 e1 e2 e3 e4 e5 e6 Y1 A1 hb2 HM
 go_wp2_with fail
 refine (F1.out _).mono ?_
 rintro e w3 ⟨rfl, rfl⟩
 go_wp2_with fail
 refine (F2.out _).mono ?_
 rintro e w4 ⟨rfl, rfl⟩
 go_wp2_with fail
 refine (F3.out _).mono ?_
 rintro e w5 ⟨rfl, rfl⟩
 go_wp2_with fail
 refine (F4.out _).mono ?_
 rintro e w6 ⟨rfl, rfl⟩
 go_wp2_with fail
 refine (F5.out _).mono ?_
 rintro e w7 ⟨rfl, rfl⟩
 clear F1 F2 F3 F4 F5
 have HX : Hid (∀ w' : World, w'.heap[W.heap.size]? = some (.cells #[.string p, .string m, .int .i64 (a : Int), .int .i64 (b : Int), .int .i64 (c : Int), .int .i64 (d : Int), .int .i64 (f : Int)] 183 (0, 0)) → (fun w' : World => w'.cell? ⟨W.heap.size, 0, none⟩ = some (.string p) ∧ w'.cell? ⟨W.heap.size, 1, none⟩ = some (.string m) ∧ w'.cell? ⟨W.heap.size, 2, none⟩ = some (.int .i64 (a : Int)) ∧ w'.cell? ⟨W.heap.size, 3, none⟩ = some (.int .i64 (b : Int)) ∧ w'.cell? ⟨W.heap.size, 4, none⟩ = some (.int .i64 (c : Int)) ∧ w'.cell? ⟨W.heap.size, 5, none⟩ = some (.int .i64 (d : Int)) ∧ w'.cell? ⟨W.heap.size, 6, none⟩ = some (.int .i64 (f : Int))) w') := fun w' h => ⟨(cells_at h rfl).1, (cells_at h rfl).1, (cells_at h rfl).1, (cells_at h rfl).1, (cells_at h rfl).1, (cells_at h rfl).1, (cells_at h rfl).1⟩
 have X0 : w7.drew.heap[W.heap.size]? = some (.cells #[.string p, .string m, .int .i64 (a : Int), .int .i64 (b : Int), .int .i64 (c : Int), .int .i64 (d : Int), .int .i64 (f : Int)] 183 (0, 0)) := Y2
 have B0 : Below W.heap.size W w7.drew := A2.drew
 clear Y2 A2 g0 g1 g2 g3 g4 g5 g6
 have q1 : ¬ 9223372036854775807 < p.size + m.size := by omega
 have q2 : ¬ 9223372036854775807 < p.size + m.size + z1.size := by omega
 have q3 : ¬ 9223372036854775807 < p.size + m.size + z1.size + z2.size := by omega
 have q4 : ¬ 9223372036854775807 < p.size + m.size + z1.size + z2.size + z3.size := by omega
 have q5 : ¬ 9223372036854775807 < p.size + m.size + z1.size + z2.size + z3.size + z4.size := by omega
 have q6 : ¬ 9223372036854775807 < p.size + m.size + z1.size + z2.size + z3.size + z4.size + z5.size := by omega
 clear s1 s2 s3 s4 s5 zp zm
 go_upto_region 5 with fail
 refine wp_region_held_drew (S := (fun w' : World => w'.cell? ⟨W.heap.size, 0, none⟩ = some (.string p) ∧ w'.cell? ⟨W.heap.size, 1, none⟩ = some (.string m) ∧ w'.cell? ⟨W.heap.size, 2, none⟩ = some (.int .i64 (a : Int)) ∧ w'.cell? ⟨W.heap.size, 3, none⟩ = some (.int .i64 (b : Int)) ∧ w'.cell? ⟨W.heap.size, 4, none⟩ = some (.int .i64 (c : Int)) ∧ w'.cell? ⟨W.heap.size, 5, none⟩ = some (.int .i64 (d : Int)) ∧ w'.cell? ⟨W.heap.size, 6, none⟩ = some (.int .i64 (f : Int)))) (by kernel_rfl) (HX.out _ X0) (fun hHeld => ?_)
 refine wU (i := 0) (v := ?va_0) rfl ?ya_0 (by assumption) ?_
 case ya_0 => (intro w hSw; (try dsimp only at hSw); go_simp; try with_reducible rfl)
 refine wU (i := 1) (v := ?va_1) rfl ?ya_1 (by assumption) ?_
 case ya_1 => (intro w hSw; (try dsimp only at hSw); go_simp; try with_reducible rfl)
 refine wU (i := 2) (v := ?va_2) rfl ?ya_2 (by assumption) ?_
 case ya_2 => (intro w hSw; (try dsimp only at hSw); go_simp; try with_reducible rfl)
 refine wU (i := 3) (v := ?va_3) rfl ?ya_3 (by assumption) ?_
 case ya_3 => (intro w hSw; (try dsimp only at hSw); go_simp; try with_reducible rfl)
 refine wU (i := 4) (v := ?va_4) rfl ?ya_4 (by assumption) ?_
 case ya_4 => (intro w hSw; (try dsimp only at hSw); go_simp; try with_reducible rfl)
 refine wU (i := 5) (v := ?va_5) rfl ?ya_5 (by assumption) ?_
 case ya_5 => (intro w hSw; (try dsimp only at hSw); go_simp; try with_reducible rfl)
 refine wU (i := 6) (v := ?va_6) rfl ?ya_6 (by assumption) ?_
 case ya_6 => (intro w hSw; (try dsimp only at hSw); go_simp; try with_reducible rfl)
 refine wU (i := 9) (v := ?va_9) rfl ?ya_9 (by assumption) ?_
 case ya_9 => (intro w hSw; (try dsimp only at hSw); go_simp; try with_reducible rfl)
 refine wU (i := 10) (v := ?va_10) rfl ?ya_10 (by assumption) ?_
 case ya_10 => (intro w hSw; (try dsimp only at hSw); go_simp; try with_reducible rfl)
 refine wU (i := 13) (v := ?va_13) rfl ?ya_13 (by assumption) ?_
 case ya_13 => (intro w hSw; (try dsimp only at hSw); go_simp; try with_reducible rfl)
 refine wU (i := 14) (v := ?va_14) rfl ?ya_14 (by assumption) ?_
 case ya_14 => (intro w hSw; (try dsimp only at hSw); go_simp; try with_reducible rfl)
 refine wU (i := 17) (v := ?va_17) rfl ?ya_17 (by assumption) ?_
 case ya_17 => (intro w hSw; (try dsimp only at hSw); go_simp; try with_reducible rfl)
 refine wU (i := 18) (v := ?va_18) rfl ?ya_18 (by assumption) ?_
 case ya_18 => (intro w hSw; (try dsimp only at hSw); go_simp; try with_reducible rfl)
 refine wU (i := 21) (v := ?va_21) rfl ?ya_21 (by assumption) ?_
 case ya_21 => (intro w hSw; (try dsimp only at hSw); go_simp; try with_reducible rfl)
 refine wU (i := 22) (v := ?va_22) rfl ?ya_22 (by assumption) ?_
 case ya_22 => (intro w hSw; (try dsimp only at hSw); go_simp; try with_reducible rfl)
 try simp only [Act.put, List.getElem_toArray, List.getElem_cons_succ, List.getElem_cons_zero, List.setIfInBounds_toArray, List.set_cons_zero, List.set_cons_succ]
 refine wpAnyH_ready (rs := [7]) (by kernel_rfl) (by simp) ?_
 refine AllReadyH.cons rfl (fun K hK => ?_) AllReadyH.nil
 go_simp
 go_at_call 151
 refine (N1.out _).mono ?_
 rintro e x1 ⟨rfl, y1⟩
 refine HL.out _ _ x1 X0 B0 y1 ?_
 intro X1 B1 d0 d1 d2 d3 d4 d5 d6
 clear d0 d1 d2 d3 d4 d5 d6 y1 X0 B0
 refine hK.out _ _ (HX.out _ X1) (fun hHeld => ?_)
 clear hK K
 try simp only [Act.put, List.getElem_toArray, List.getElem_cons_succ, List.getElem_cons_zero, List.setIfInBounds_toArray, List.set_cons_zero, List.set_cons_succ]
 refine wU (i := 8) (v := ?vb0_8) rfl ?yb0_8 (by assumption) ?_
 case yb0_8 => (intro w hSw; (try dsimp only at hSw); go_simp; try with_reducible rfl)
 try simp only [Act.put, List.getElem_toArray, List.getElem_cons_succ, List.getElem_cons_zero, List.setIfInBounds_toArray, List.set_cons_zero, List.set_cons_succ]
 refine wpAnyH_ready (rs := [11]) (by kernel_rfl) (by simp) ?_
 refine AllReadyH.cons rfl (fun K hK => ?_) AllReadyH.nil
 go_simp
 go_at_call 151
 refine (N2.out _).mono ?_
 rintro e x2 ⟨rfl, y2⟩
 refine HL.out _ _ x2 X1 B1 y2 ?_
 intro X2 B2 d0 d1 d2 d3 d4 d5 d6
 clear d0 d1 d2 d3 d4 d5 d6 y2 X1 B1
 refine hK.out _ _ (HX.out _ X2) (fun hHeld => ?_)
 clear hK K
 try simp only [Act.put, List.getElem_toArray, List.getElem_cons_succ, List.getElem_cons_zero, List.setIfInBounds_toArray, List.set_cons_zero, List.set_cons_succ]
 refine wU (i := 12) (v := ?vb1_12) rfl ?yb1_12 (by assumption) ?_
 case yb1_12 => (intro w hSw; (try dsimp only at hSw); go_simp; try with_reducible rfl)
 try simp only [Act.put, List.getElem_toArray, List.getElem_cons_succ, List.getElem_cons_zero, List.setIfInBounds_toArray, List.set_cons_zero, List.set_cons_succ]
 refine wpAnyH_ready (rs := [15]) (by kernel_rfl) (by simp) ?_
 refine AllReadyH.cons rfl (fun K hK => ?_) AllReadyH.nil
 go_simp
 go_at_call 151
 refine (N3.out _).mono ?_
 rintro e x3 ⟨rfl, y3⟩
 refine HL.out _ _ x3 X2 B2 y3 ?_
 intro X3 B3 d0 d1 d2 d3 d4 d5 d6
 clear d0 d1 d2 d3 d4 d5 d6 y3 X2 B2
 refine hK.out _ _ (HX.out _ X3) (fun hHeld => ?_)
 clear hK K
 try simp only [Act.put, List.getElem_toArray, List.getElem_cons_succ, List.getElem_cons_zero, List.setIfInBounds_toArray, List.set_cons_zero, List.set_cons_succ]
 refine wU (i := 16) (v := ?vb2_16) rfl ?yb2_16 (by assumption) ?_
 case yb2_16 => (intro w hSw; (try dsimp only at hSw); go_simp; try with_reducible rfl)
 try simp only [Act.put, List.getElem_toArray, List.getElem_cons_succ, List.getElem_cons_zero, List.setIfInBounds_toArray, List.set_cons_zero, List.set_cons_succ]
 refine wpAnyH_ready (rs := [19]) (by kernel_rfl) (by simp) ?_
 refine AllReadyH.cons rfl (fun K hK => ?_) AllReadyH.nil
 go_simp
 go_at_call 151
 refine (N4.out _).mono ?_
 rintro e x4 ⟨rfl, y4⟩
 refine HL.out _ _ x4 X3 B3 y4 ?_
 intro X4 B4 d0 d1 d2 d3 d4 d5 d6
 clear d0 d1 d2 d3 d4 d5 d6 y4 X3 B3
 refine hK.out _ _ (HX.out _ X4) (fun hHeld => ?_)
 clear hK K
 try simp only [Act.put, List.getElem_toArray, List.getElem_cons_succ, List.getElem_cons_zero, List.setIfInBounds_toArray, List.set_cons_zero, List.set_cons_succ]
 refine wU (i := 20) (v := ?vb3_20) rfl ?yb3_20 (by assumption) ?_
 case yb3_20 => (intro w hSw; (try dsimp only at hSw); go_simp; try with_reducible rfl)
 try simp only [Act.put, List.getElem_toArray, List.getElem_cons_succ, List.getElem_cons_zero, List.setIfInBounds_toArray, List.set_cons_zero, List.set_cons_succ]
 refine wpAnyH_ready (rs := [23]) (by kernel_rfl) (by simp) ?_
 refine AllReadyH.cons rfl (fun K hK => ?_) AllReadyH.nil
 go_simp
 go_at_call 151
 refine (N5.out _).mono ?_
 rintro e x5 ⟨rfl, y5⟩
 refine HL.out _ _ x5 X4 B4 y5 ?_
 intro X5 B5 d0 d1 d2 d3 d4 d5 d6
 clear d0 d1 d2 d3 d4 d5 d6 y5 X4 B4
 refine hK.out _ _ (HX.out _ X5) (fun hHeld => ?_)
 clear hK K
 try simp only [Act.put, List.getElem_toArray, List.getElem_cons_succ, List.getElem_cons_zero, List.setIfInBounds_toArray, List.set_cons_zero, List.set_cons_succ]
 refine wU (i := 24) (v := ?vb4_24) rfl ?yb4_24 (by assumption) ?_
 case yb4_24 => (intro w hSw; (try dsimp only at hSw); go_simp; try with_reducible rfl)
 try simp only [Act.put, List.getElem_toArray, List.getElem_cons_succ, List.getElem_cons_zero, List.setIfInBounds_toArray, List.set_cons_zero, List.set_cons_succ]
 refine wU (i := 25) (v := ?vz_25) rfl ?yz_25 (by assumption) ?_
 case yz_25 => (intro w hSw; (try dsimp only at hSw); go_simp; try with_reducible rfl)
 refine wU (i := 26) (v := ?vz_26) rfl ?yz_26 (by assumption) ?_
 case yz_26 => (intro w hSw; (try dsimp only at hSw); go_simp; try with_reducible rfl)
 try simp only [Act.put, List.getElem_toArray, List.getElem_cons_succ, List.getElem_cons_zero, List.setIfInBounds_toArray, List.set_cons_zero, List.set_cons_succ]
 refine wpAnyH_done (by kernel_rfl) ?_ _
 go_wp2
 go_ret2
 exact ⟨rfl, B5⟩
end Go.Proofs.YtdlcldjlfhmlgaaGreatDoor
/- The document's Lower of data (guidepostref02), of types that are no signatures. -/
namespace Go.Proofs.YtdlcldjlfhmlgaaGreatDoor
open Go.RowKit
theorem low_names {k : Int} (hk : k = 2 ∨ k = 5 ∨ k = 39) {d : ByteArray} (h : dRt k d = true) : lowR k d = lowF d := by
 obtain ⟨hty, hsz⟩ : (0 ≤ k ∧ k ≤ 65535) ∧ d.size ≤ 2000 := by
  by_cases hh : (0 ≤ k ∧ k ≤ 65535) ∧ d.size ≤ 2000
  ·exact hh
  ·rw [dRt_no hh] at h; cases h
 have hf : formOf k = [.name] := by rcases hk with rfl | rfl | rfl <;> rfl
 have hn : IsName d := (dRt_one hf hty hsz).1 h
 have hs : splitR k d = some [d] := (split_iff k d [d]).2 ⟨hty, hsz, (cat_one d).symm, by rw [hf]; exact ⟨hn, trivial⟩⟩
 have hl : lowers k = true := by rcases hk with rfl | rfl | rfl <;> rfl
 unfold lowR lowF
 rw [hl, if_pos rfl, hs, hf, if_pos hn]
 show cat [lowA d] = _
 exact cat_one _
theorem low_other {k : Int} (h1 : nameds k = false) (h2 : k ≠ 46) (d : ByteArray) : lowR k d = d := by
 unfold lowR lowers
 rw [h1, if_neg (by simpa using h2)]
theorem low_mx {d t0 t1 : ByteArray} (h : splitR 15 d = some [t0, t1]) : IsName t1 ∧ 2 ≤ d.size ∧ d.extract 2 d.size = t1 ∧ d.extract 0 2 = t0 ∧ lowR 15 d = t0 ++ lowF t1 := by
 obtain ⟨_, _, e, g⟩ := (split_iff _ _ _).1 h
 rw [form15] at g
 have h0 : t0.size = 2 := g.1
 have h1 : IsName t1 := g.2.1
 have e' : d = t0 ++ t1 := by rw [e, cat, cat_one]
 refine ⟨h1, by rw [e', app_size]; omega, ?_, ?_, ?_⟩
 ·rw [e', ← h0, app_rest]
 ·rw [e', ← h0, app_first]
 ·unfold lowR lowF
  rw [show lowers 15 = true from rfl, if_pos rfl, h, if_pos h1]
  show cat [t0, lowA t1] = _
  rw [cat, cat_one]
theorem low_soa {d t0 t1 t2 t3 t4 t5 t6 : ByteArray} (h : splitR 6 d = some [t0, t1, t2, t3, t4, t5, t6]) : IsName t0 ∧ IsName t1 ∧ (numB t2.data.toList < 4294967296 ∧ numB t3.data.toList < 4294967296 ∧ numB t4.data.toList < 4294967296 ∧ numB t5.data.toList < 4294967296 ∧ numB t6.data.toList < 4294967296) ∧
  lowR 6 d = lowF t0 ++ lowF t1 ++ ⟨(bytesB (numB t2.data.toList) 4).toArray⟩ ++ ⟨(bytesB (numB t3.data.toList) 4).toArray⟩ ++ ⟨(bytesB (numB t4.data.toList) 4).toArray⟩ ++ ⟨(bytesB (numB t5.data.toList) 4).toArray⟩ ++ ⟨(bytesB (numB t6.data.toList) 4).toArray⟩ := by
 obtain ⟨_, _, e, g⟩ := (split_iff _ _ _).1 h
 rw [show formOf 6 = [.name, .name, .num 4, .num 4, .num 4, .num 4, .num 4] from rfl] at g
 obtain ⟨g0, g1, g2, g3, g4, g5, g6, _⟩ := g
 replace g0 : IsName t0 := g0
 replace g1 : IsName t1 := g1
 have key : ∀ t : ByteArray, t.size = 4 → numB t.data.toList < 4294967296 ∧ (⟨(bytesB (numB t.data.toList) 4).toArray⟩ : ByteArray) = t := fun t ht => by
  have hl : t.data.toList.length = 4 := by rw [size_list]; exact ht
  refine ⟨?_, ?_⟩
  ·have := numB_lt t.data.toList
   rw [hl] at this
   exact this
  ·have := bytesB_num t.data.toList (by omega)
   rw [hl] at this
   rw [this]
 refine ⟨g0, g1, ⟨(key _ g2).1, (key _ g3).1, (key _ g4).1, (key _ g5).1, (key _ g6).1⟩, ?_⟩
 rw [(key _ g2).2, (key _ g3).2, (key _ g4).2, (key _ g5).2, (key _ g6).2]
 unfold lowR lowF
 rw [show lowers 6 = true from rfl, if_pos rfl, h, if_pos g0, if_pos g1]
 show cat [lowA t0, lowA t1, t2, t3, t4, t5, t6] = _
 apply ba_ext
 rw [cat_list]
 simp only [app_list, List.flatMap_cons, List.flatMap_nil, List.append_nil, List.append_assoc]
set_option maxRecDepth 100000 in
set_option maxHeartbeats 4000000 in
theorem rdLower_in (k : Int) (hk46 : k ≠ 46) (d : ByteArray) (hd : d.size ≤ maxLen) (W : World) :
  Calls Tryz.prog 99 #[.int .i64 k, .string d] W fun e w' => e = .returned (.string (lowR k d)) ∧ Below W.heap.size W w' := by
 have HR := Hid.mk (rdRight_in k d hd)
 cases hr : dRt k d with
 | false =>
  rw [hr] at HR
  have hs : splitR k d = none := by
   unfold dRt at hr
   cases h : splitR k d with
   | none => rfl
   | some x => rw [h] at hr; cases hr
  rw [lowR_none k d hs]
  clear hs hr
  go_enter Tryz.func99, Tryz.ntmps99
  go_wp2_with fail
  refine (HR.out _).mono ?_
  rintro e w1 ⟨rfl, hb1⟩
  go_wp2
  go_ret
  exact ⟨rfl, hb1⟩
 | true =>
  rw [hr] at HR
  by_cases c2 : k = 2 ∨ k = 5 ∨ k = 39
  ·rw [low_names c2 hr]
   have HL := Hid.mk (rlower_in d hd)
   clear hr
   rcases c2 with rfl | rfl | rfl
   all_goals
    go_enter Tryz.func99, Tryz.ntmps99
    go_wp2_with fail
    refine (HR.out _).mono ?_
    rintro e w1 ⟨rfl, hb1⟩
    go_wp2_with fail
    refine (HL.out _).mono ?_
    rintro e w2 ⟨rfl, hb2⟩
    go_wp2
    go_ret
    exact ⟨rfl, bthen hb1 hb2⟩
  by_cases c6 : k = 6
  ·subst c6
   have HS := Hid.mk (refSoa_in d (by have := dRt_le hr; omega))
   obtain ⟨R, hR⟩ : ∃ R, lowR 6 d = R := ⟨_, rfl⟩
   rw [hR]
   have HRR := Hid.mk hR
   have HDR := Hid.mk hr
   clear hR hr
   go_enter Tryz.func99, Tryz.ntmps99
   go_wp2_with fail
   refine (HR.out _).mono ?_
   rintro e w1 ⟨rfl, hb1⟩
   go_wp2_with fail
   refine (HS.out _).mono ?_
   rintro e w2 ⟨hp, hb2⟩
   rcases hp with ⟨t0, t1, t2, t3, t4, t5, t6, hs1, rfl⟩ | ⟨hs1, rfl⟩
   ·obtain ⟨n0, n1, ⟨l2, l3, l4, l5, l6⟩, hlo⟩ := low_soa hs1
    have z0 := name_size n0
    have z1 := name_size n1
    have L0 := Hid.mk (rlower_in t0 (by unfold maxLen; omega))
    have L1 := Hid.mk (rlower_in t1 (by unfold maxLen; omega))
    have m0 : IsName (lowF t0) := by unfold lowF; rw [if_pos n0]; exact lowA_name n0
    have m1 : IsName (lowF t1) := by unfold lowF; rw [if_pos n1]; exact lowA_name n1
    have O := Hid.mk (rofSoa_in (lowF t0) (lowF t1) m0 m1 _ _ _ _ _ l2 l3 l4 l5 l6)
    rw [← hlo, HRR.out] at O
    have BW : Hid (Below W.heap.size W w2) := bthen hb1 hb2
    clear hs1 hlo m0 m1 n0 n1 HRR HDR hb1 hb2 HS HR z0 z1
    generalize lowF t0 = q0 at L0 O
    generalize lowF t1 = q1 at L1 O
    generalize numB t2.data.toList = m2 at l2 O ⊢
    generalize numB t3.data.toList = m3 at l3 O ⊢
    generalize numB t4.data.toList = m4 at l4 O ⊢
    generalize numB t5.data.toList = m5 at l5 O ⊢
    generalize numB t6.data.toList = m6 at l6 O ⊢
    obtain ⟨V, hV⟩ : ∃ V, w2.alloc (.cells #[.string t0, .string t1, .int .i64 (m2 : Int), .int .i64 (m3 : Int), .int .i64 (m4 : Int), .int .i64 (m5 : Int), .int .i64 (m6 : Int)] 183) = V := ⟨_, rfl⟩
    have BV : Hid (Below W.heap.size W V) := hV ▸ BW.out.alloc BW.out.size _
    have h0 : V.heap[w2.heap.size]? = some (.cells #[.string t0, .string t1, .int .i64 (m2 : Int), .int .i64 (m3 : Int), .int .i64 (m4 : Int), .int .i64 (m5 : Int), .int .i64 (m6 : Int)] 183 (0, 0)) := hV ▸ heap_new _ _
    have hWb := BW.out.size
    obtain ⟨B, hB⟩ : ∃ B, w2.heap.size = B := ⟨_, rfl⟩
    have HV := Hid.mk hV
    have HB := Hid.mk hB
    rw [hB] at h0 hWb
    clear hV hB
    obtain ⟨x0, y0⟩ := cells_at (j := 0) h0 rfl
    have H0 := Hid.mk h0
    go_upto_region 11 with fail
    rw [HV.out, HB.out]
    go_wp2_with fail
    refine (L0.out _).mono ?_
    rintro e w3 ⟨rfl, hb3⟩
    have h3 := (hb3.block _ (box_lt H0.out)).trans H0.out
    have B3 := Hid.mk (BV.out.trans (hb3.mono BV.out.size))
    obtain ⟨x3, y3⟩ := cells_at (j := 0) h3 rfl
    have h4 := cells_put (j := 0) h3 (.string q0)
    have B4 := Hid.mk (B3.out.setCell (p := ⟨B, 0, none⟩) hWb (.string q0))
    obtain ⟨x4, y4⟩ := cells_at (j := 1) h4 rfl
    have H4 := Hid.mk h4
    clear x0 y0 h0 H0 hb3 h3 h4 L0
    go_wp2_with fail
    refine (L1.out _).mono ?_
    rintro e w5 ⟨rfl, hb5⟩
    have h5 := (hb5.block _ (box_lt H4.out)).trans H4.out
    have B5 := Hid.mk (B4.out.trans (hb5.mono B4.out.size))
    obtain ⟨x5, y5⟩ := cells_at (j := 1) h5 rfl
    have h6 := cells_put (j := 1) h5 (.string q1)
    have B6 := Hid.mk (B5.out.setCell (p := ⟨B, 1, none⟩) hWb (.string q1))
    obtain ⟨u0, v0⟩ := cells_at (j := 0) h6 rfl
    obtain ⟨u1, v1⟩ := cells_at (j := 1) h6 rfl
    obtain ⟨u2, v2⟩ := cells_at (j := 2) h6 rfl
    obtain ⟨u3, v3⟩ := cells_at (j := 3) h6 rfl
    obtain ⟨u4, v4⟩ := cells_at (j := 4) h6 rfl
    obtain ⟨u5, v5⟩ := cells_at (j := 5) h6 rfl
    obtain ⟨u6, v6⟩ := cells_at (j := 6) h6 rfl
    clear x3 y3 x4 y4 H4 hb5 h5 h6 L1
    go_wp2_with fail
    refine (O.out _).mono ?_
    rintro e w7 ⟨rfl, hb7⟩
    have B7 := Hid.mk (B6.out.trans (hb7.mono B6.out.size))
    clear hb7 u0 v0 u1 v1 u2 v2 u3 v3 u4 v4 u5 v5 u6 v6 x5 y5
    go_wp2
    go_ret
    exact ⟨rfl, B7.out⟩
   ·have := HDR.out
    rw [dRt, hs1] at this
    cases this
  by_cases c15 : k = 15
  ·subst c15
   have hsp : ∃ t0 t1, splitR 15 d = some [t0, t1] := by
    unfold dRt at hr
    cases h : splitR 15 d with
    | none => rw [h] at hr; cases hr
    | some xs =>
     obtain ⟨_, _, _, g⟩ := (split_iff _ _ _).1 h
     rw [form15] at g
     match xs, g with
     | [t0, t1], _ => exact ⟨t0, t1, rfl⟩
   obtain ⟨t0, t1, hs⟩ := hsp
   obtain ⟨n1, hz, e1, e0, hlo⟩ := low_mx hs
   have z1 := name_size n1
   rw [hlo]
   have L1 := Hid.mk (rlower_in t1 (by unfold maxLen; omega))
   have zl : (lowF t1).size ≤ 255 := by unfold lowF; rw [if_pos n1, lowA_size]; omega
   have z0 : t0.size ≤ 2 := by rw [← e0, ByteArray.size_extract]; omega
   clear hr hs hlo n1
   generalize lowF t1 = q1 at L1 zl ⊢
   go_enter Tryz.func99, Tryz.ntmps99
   go_wp2_with fail
   refine (HR.out _).mono ?_
   rintro e w1 ⟨rfl, hb1⟩
   have q0 : ¬ 9223372036854775807 < t0.size + q1.size := by omega
   have q2 : (2 : Int) ≤ (d.size : Int) := by omega
   go_upto_region 16 with fail
   refine wp_region_held_drew (S := fun _ : World => True) (by kernel_rfl) trivial (fun hHeld => ?_)
   refine wU (i := 0) (v := ?va_0) rfl ?ya_0 (by assumption) ?_
   case ya_0 => (intro w hSw; (try dsimp only at hSw); go_simp; try with_reducible rfl)
   refine wU (i := 1) (v := ?va_1) rfl ?ya_1 (by assumption) ?_
   case ya_1 => (intro w hSw; (try dsimp only at hSw); go_simp; try with_reducible rfl)
   refine wU (i := 2) (v := ?va_2) rfl ?ya_2 (by assumption) ?_
   case ya_2 => (intro w hSw; (try dsimp only at hSw); go_simp; try with_reducible rfl)
   refine wU (i := 3) (v := ?va_3) rfl ?ya_3 (by assumption) ?_
   case ya_3 => (intro w hSw; (try dsimp only at hSw); go_simp; try with_reducible rfl)
   try simp only [Act.put, List.getElem_toArray, List.getElem_cons_succ, List.getElem_cons_zero, List.setIfInBounds_toArray, List.set_cons_zero, List.set_cons_succ]
   try rw [e1]
   try rw [e0]
   refine wpAnyH_ready (rs := [4]) (by kernel_rfl) (by simp) ?_
   refine AllReadyH.cons rfl (fun K hK => ?_) AllReadyH.nil
   go_simp
   try rw [e1]
   go_at_call 64
   refine (L1.out _).mono ?_
   rintro e w8 ⟨rfl, hb8⟩
   have B8 : Below W.heap.size W w8 := hb1.trans (((Below.refl _ _).drew.trans hb8).mono hb1.size)
   refine hK.out _ _ trivial (fun hHeld => ?_)
   clear hK K
   try simp only [Act.put, List.getElem_toArray, List.getElem_cons_succ, List.getElem_cons_zero, List.setIfInBounds_toArray, List.set_cons_zero, List.set_cons_succ]
   refine wU (i := 5) (v := ?vb_5) rfl ?yb_5 (by assumption) ?_
   case yb_5 => (intro w hSw; (try dsimp only at hSw); go_simp; try with_reducible rfl)
   refine wU (i := 6) (v := ?vb_6) rfl ?yb_6 (by assumption) ?_
   case yb_6 => (intro w hSw; (try dsimp only at hSw); go_simp; try with_reducible rfl)
   try simp only [Act.put, List.getElem_toArray, List.getElem_cons_succ, List.getElem_cons_zero, List.setIfInBounds_toArray, List.set_cons_zero, List.set_cons_succ]
   refine wpAnyH_done (by kernel_rfl) ?_ _
   go_wp2
   go_ret
   exact ⟨rfl, B8⟩
  ·have hn : nameds k = false := by
    unfold nameds
    simp only [Bool.or_eq_false_iff, beq_eq_false_iff_ne]
    omega
   rw [low_other hn hk46]
   have b2 : (k == 2) = false := by rw [beq_eq_false_iff_ne]; omega
   have b5 : (k == 5) = false := by rw [beq_eq_false_iff_ne]; omega
   have b39 : (k == 39) = false := by rw [beq_eq_false_iff_ne]; omega
   have b6 : (k == 6) = false := by rw [beq_eq_false_iff_ne]; exact c6
   have b15 : (k == 15) = false := by rw [beq_eq_false_iff_ne]; exact c15
   have b46 : (k == 46) = false := by rw [beq_eq_false_iff_ne]; exact hk46
   clear hn hr c2 c6 c15 hk46
   go_enter Tryz.func99, Tryz.ntmps99
   go_wp2_with fail
   refine (HR.out _).mono ?_
   rintro e w1 ⟨rfl, hb1⟩
   go_wp2
   go_ret
   exact ⟨rfl, hb1⟩
end Go.Proofs.YtdlcldjlfhmlgaaGreatDoor
/- Layer 14: the records that the document takes in a zone, as lists. -/
namespace Go.Proofs.YtdlcldjlfhmlgaaGreatDoor
open Go.RowKit
theorem dRt_ty {k : Int} {d : ByteArray} (h : dRt k d = true) : 0 ≤ k ∧ k ≤ 65535 := by
 unfold dRt splitR at h
 split at h
 ·rename_i h1; exact h1.1
 ·cases h
theorem sets_one (r : Rc) : setsR [r] = if (mks r.ty && rOk r) = true then [newS r] else [] := by
 unfold setsR
 rw [List.foldl_cons, List.foldl_nil, stepR]
 split <;> rfl
structure SG (s : St) : Prop where
 nm : OkN s.ls
 mks : mks s.ty = true
 ty : 0 ≤ s.ty ∧ s.ty ≤ 65535
 cl : 0 ≤ s.cl ∧ s.cl ≤ 65535
 tl : 0 ≤ s.tl ∧ s.tl ≤ 2147483647
 one : 1 ≤ s.ds.length
 dat : ∀ d ∈ s.ds, dRt s.ty d = true
theorem newS_sg {r : Rc} (h : (mks r.ty && rOk r) = true) : SG (newS r) := by
 simp only [Bool.and_eq_true] at h
 obtain ⟨h1, h2, h3, h4⟩ := rOk_parts h.2
 have ht := @ttl_range r
 refine ⟨(lb_ok h1).1, h.1, dRt_ty h4, by show 0 ≤ r.cl ∧ r.cl ≤ 65535; omega, ?_, by simp [newS], fun d hd => ?_⟩
 ·show 0 ≤ min 2147483647 (ttl r) ∧ min 2147483647 (ttl r) ≤ 2147483647
  omega
 ·obtain rfl : d = r.dat := by simpa [newS] using hd
  exact h4
theorem addD_sg {s : St} {r : Rc} (hs : SG s) (h : (mks r.ty && rOk r) = true) (hk : keyS s r = true) : SG (addD s r) := by
 simp only [Bool.and_eq_true] at h
 obtain ⟨h1, h2, h3, h4⟩ := rOk_parts h.2
 have ht := @ttl_range r
 have htl := hs.tl
 have hty := (keyS_iff.1 hk).2.1
 refine ⟨hs.nm, hs.mks, hs.ty, hs.cl, ?_, ?_, fun d hd => ?_⟩
 ·show 0 ≤ min s.tl (ttl r) ∧ min s.tl (ttl r) ≤ 2147483647
  omega
 ·have := hs.one
  unfold addD
  simp only
  split
  ·exact this
  ·simp
 ·unfold addD at hd
  simp only at hd
  split at hd
  ·exact hs.dat d hd
  ·rcases List.mem_append.1 hd with hd | hd
   ·exact hs.dat d hd
   ·obtain rfl := List.mem_singleton.1 hd
    show dRt s.ty r.dat = true
    rw [hty]; exact h4
theorem setsR_sg (l : List Rc) : ∀ s ∈ setsR l, SG s := by
 have key : ∀ (l : List Rc) (ss : List St), (∀ s ∈ ss, SG s) → ∀ s ∈ l.foldl stepR ss, SG s := by
  intro l
  induction l with
  | nil => intro ss h; exact h
  | cons r l ih =>
   intro ss h
   rw [List.foldl_cons]
   refine ih _ (fun s hs => ?_)
   unfold stepR at hs
   split at hs
   ·rename_i hc
    rcases addR_mem hs with h1 | rfl | ⟨s', h1, h2, rfl⟩
    ·exact h s h1
    ·exact newS_sg hc
    ·exact addD_sg (h s' h1) hc h2
   ·exact h s hs
 exact key l [] (by simp)
def InS (s : St) (r : Rc) : Prop := keyS s r = true ∧ lowR r.ty r.dat ∈ s.ds.map (lowR r.ty)
theorem addD_in (s : St) (r : Rc) (h : keyS s r = true) : InS (addD s r) r := by
 refine ⟨by rw [keyS_iff] at h ⊢; exact h, ?_⟩
 unfold addD
 simp only
 split
 ·rename_i h1; exact h1
 ·simp
theorem addD_keep {s : St} {r x : Rc} (h : InS s x) : InS (addD s r) x := by
 refine ⟨by have := h.1; rw [keyS_iff] at this ⊢; exact this, ?_⟩
 unfold addD
 simp only
 split
 ·exact h.2
 ·rw [List.map_append]; exact List.mem_append_left _ h.2
theorem addR_in (r : Rc) (hn : IsName r.nm) : ∀ ss : List St, ∃ s ∈ addR ss r, InS s r
 | [] => ⟨newS r, by simp [addR], by rw [keyS_iff]; exact ⟨rfl, rfl, rfl⟩, by simp [newS]⟩
 | s :: ss => by
  rw [addR]
  split
  ·rename_i hk; exact ⟨addD s r, by simp, addD_in s r hk⟩
  ·obtain ⟨t, h1, h2⟩ := addR_in r hn ss
   exact ⟨t, by simp [h1], h2⟩
theorem addR_keep {r x : Rc} : ∀ {ss : List St}, (∃ s ∈ ss, InS s x) → ∃ s ∈ addR ss r, InS s x
 | [], ⟨s, h, _⟩ => by simp at h
 | s :: ss, ⟨t, h, hx⟩ => by
  rw [addR]
  split
  ·rcases List.mem_cons.1 h with rfl | h
   ·exact ⟨addD t r, by simp, addD_keep hx⟩
   ·exact ⟨t, by simp [h], hx⟩
  ·rcases List.mem_cons.1 h with rfl | h
   ·exact ⟨t, by simp, hx⟩
   ·obtain ⟨u, h1, h2⟩ := addR_keep (r := r) ⟨t, h, hx⟩
    exact ⟨u, by simp [h1], h2⟩
theorem setsR_has {l : List Rc} {x : Rc} (hx : x ∈ l) (hc : (mks x.ty && rOk x) = true) : ∃ s ∈ setsR l, InS s x := by
 have keep : ∀ (l : List Rc) (ss : List St), (∃ s ∈ ss, InS s x) → ∃ s ∈ l.foldl stepR ss, InS s x := by
  intro l
  induction l with
  | nil => intro ss h; exact h
  | cons r l ih =>
   intro ss h
   rw [List.foldl_cons]
   refine ih _ ?_
   unfold stepR
   split
   ·exact addR_keep h
   ·exact h
 have key : ∀ (l : List Rc) (ss : List St), x ∈ l → ∃ s ∈ l.foldl stepR ss, InS s x := by
  intro l
  induction l with
  | nil => intro ss h; simp at h
  | cons r l ih =>
   intro ss h
   rw [List.foldl_cons]
   rcases List.mem_cons.1 h with rfl | h
   ·refine keep _ _ ?_
    unfold stepR
    rw [if_pos hc]
    simp only [Bool.and_eq_true] at hc
    exact addR_in x (rOk_parts hc.2).1 ss
   ·exact ih _ h
 exact key l [] hx
open Classical in
noncomputable def lostD (ss : List St) (x : Rc) : Bool := !((mks x.ty && rOk x) && decide (∃ s ∈ ss, InS s x))
theorem lostD_in {l : List Rc} {x : Rc} (hx : x ∈ l) : lostD (setsR l) x = !(mks x.ty && rOk x) := by
 classical
 unfold lostD
 cases h : mks x.ty && rOk x with
 | false => rfl
 | true => rw [decide_eq_true (setsR_has hx h)]; rfl
noncomputable def recD (z : Lc) (x : Rc) : Bool := x.cl == 1 && undF x.nm z.nm && !(lostD (setsR z.rs) x) && x.ty != 5 && x.ty != 39 && x.ty != 46 && x.ty != 41 && (z.kd != 5 || eqF x.nm z.nm)
noncomputable def headD (z : Lc) : Bool := isN z.nm && decide (1 ≤ z.kd) && decide (z.kd ≤ 5) && decide (z.rs.length ≤ 200) && (decide (z.rs.length = 0) || decide (2 < z.kd))
noncomputable def rightD (z : Lc) : Bool := headD z && z.rs.all (recD z)
theorem eqF_und {s t : ByteArray} (h : eqF s t = true) : undF s t = true := by
 by_cases hn : IsName s ∧ IsName t
 ·obtain ⟨⟨a, ha, rfl⟩, ⟨b, hb, rfl⟩⟩ := hn
  rw [eqF_nm ha hb] at h
  rw [undF_nm ha hb]
  exact eq_und h
 ·rw [eqF_no hn] at h; cases h
theorem recD_eq {z : Lc} {x : Rc} (hx : x ∈ z.rs) (hk : 2 < z.kd) (hk5 : z.kd ≤ 5) : recD z x = (rcR x && plcR x.nm z) := by
 unfold recD rcR plcR
 rw [lostD_in hx, sets_one, Bool.not_not]
 have e1 : ((if (mks x.ty && rOk x) = true then [newS x] else []).length == 1) = (mks x.ty && rOk x) := by
  cases mks x.ty && rOk x <;> rfl
 rw [e1]
 by_cases h5 : z.kd = 5
 ·rw [if_neg (by omega), if_pos h5]
  have hb : (z.kd != 5) = false := by rw [h5]; rfl
  rw [hb, Bool.false_or]
  cases he : eqF x.nm z.nm with
  | false => simp
  | true =>
   rw [eqF_und he]
   cases x.cl == 1 <;> cases (mks x.ty && rOk x) <;> cases x.ty != 5 <;> cases x.ty != 39 <;> cases x.ty != 46 <;> cases x.ty != 41 <;> rfl
 ·rw [if_pos (by omega)]
  have hb : (z.kd != 5) = true := by rw [bne_iff_ne]; exact h5
  rw [hb, Bool.true_or]
  cases undF x.nm z.nm <;> cases x.cl == 1 <;> cases (mks x.ty && rOk x) <;> cases x.ty != 5 <;> cases x.ty != 39 <;> cases x.ty != 46 <;> cases x.ty != 41 <;> rfl
theorem rightD_eq (z : Lc) : rightD z = rightR z := by
 unfold rightD rightR headD
 cases h0 : isN z.nm with
 | false => rfl
 | true =>
  by_cases h1 : 1 ≤ z.kd
  ·by_cases h2 : z.kd ≤ 5
   ·by_cases h3 : z.rs.length ≤ 200
    ·rw [decide_eq_true h1, decide_eq_true h2, decide_eq_true h3]
     simp only [Bool.true_and]
     by_cases h4 : 2 < z.kd
     ·rw [decide_eq_true h4, Bool.or_true, Bool.true_and]
      refine Bool.eq_iff_iff.2 ?_
      rw [List.all_eq_true, List.all_eq_true]
      exact ⟨fun h x hx => by rw [← recD_eq hx h4 h2]; exact h x hx, fun h x hx => by rw [recD_eq hx h4 h2]; exact h x hx⟩
     ·rw [decide_eq_false h4, Bool.or_false]
      cases hr : z.rs with
      | nil => rfl
      | cons x l =>
       have : plcR x.nm z = false := by unfold plcR; rw [if_neg (by omega), if_neg (by omega)]
       simp [this]
    ·rw [decide_eq_false h3]; simp
   ·rw [decide_eq_false h2]; simp
  ·rw [decide_eq_false h1]; simp
theorem zk_eq {a b : Lc} (ha : IsName a.nm) (hb : IsName b.nm) : eqF a.nm b.nm = true ↔ zk a = zk b := by
 obtain ⟨g1, g2⟩ := lb_ok ha
 obtain ⟨k1, k2⟩ := lb_ok hb
 have e : eqF a.nm b.nm = eqB (lb a.nm) (lb b.nm) := by
  conv => lhs; rw [g2, k2]
  exact eqF_nm g1 k1
 rw [e]
 unfold eqB zk
 rw [decide_eq_true_iff]
 constructor
 ·intro h; rw [h]
 ·intro h
  exact nm_inj g1.low k1.low (ba_ext h)
def okTo (l : List Lc) (i : Nat) : Prop := (∀ j (hj : j < l.length), j < i → rightR l[j] = true) ∧ ∀ j k (hj : j < l.length) (hk : k < l.length), j < k → k < i → eqF l[j].nm l[k].nm = false
theorem okTo_all {l : List Lc} (h : okTo l l.length) : okL l := by
 refine ⟨fun z hz => ?_, ?_⟩
 ·obtain ⟨j, hj, rfl⟩ := List.getElem_of_mem hz
  exact h.1 j hj hj
 ·rw [List.pairwise_iff_getElem]
  intro j k hj hk hjk e
  have := h.2 j k hj hk hjk hk
  rw [(zk_eq (zone_ty (h.1 j hj hj)).1 (zone_ty (h.1 k hk hk)).1).2 e] at this
  cases this
theorem not_right {l : List Lc} {i : Nat} (hi : i < l.length) (h : rightR l[i] = false) : ¬ okL l := fun hk => by
 rw [hk.1 _ (List.getElem_mem hi)] at h; cases h
theorem not_twice {l : List Lc} {j i : Nat} (hj : j < l.length) (hi : i < l.length) (hji : j < i) (h : eqF l[j].nm l[i].nm = true) : ¬ okL l := fun hk => by
 have h1 := zone_ty (hk.1 _ (List.getElem_mem hj))
 have h2 := zone_ty (hk.1 _ (List.getElem_mem hi))
 exact List.pairwise_iff_getElem.1 hk.2 j i hj hi hji ((zk_eq h1.1 h2.1).1 h)
theorem okTo_zero (l : List Lc) : okTo l 0 := ⟨fun j _ h => absurd h (Nat.not_lt_zero _), fun j k _ _ _ h => absurd h (Nat.not_lt_zero _)⟩
theorem okTo_succ {l : List Lc} {i : Nat} (h : okTo l i) (hi : i < l.length) (hr : rightR l[i] = true) (ht : ∀ j (hj : j < l.length), j < i → eqF l[j].nm l[i].nm = false) : okTo l (i + 1) := by
 refine ⟨fun j hj hji => ?_, fun j k hj hk hjk hki => ?_⟩
 ·rcases Nat.lt_succ_iff_lt_or_eq.1 hji with h1 | rfl
  ·exact h.1 j hj h1
  ·exact hr
 ·rcases Nat.lt_succ_iff_lt_or_eq.1 hki with h1 | rfl
  ·exact h.2 j k hj hk hjk h1
  ·exact ht j hj hjk
end Go.Proofs.YtdlcldjlfhmlgaaGreatDoor
/- The document's rightRecord, ttl, find, has (guidepostref08). -/
namespace Go.Proofs.YtdlcldjlfhmlgaaGreatDoor
open Go.RowKit
open So (El elC elC_len SRow)
theorem rin_in (n a b : Int) (w : World) : Calls Tryz.prog 98 #[.int .i64 n, .int .i64 a, .int .i64 b] w fun e w' => e = .returned (.bool (decide (a ≤ n) && decide (n ≤ b))) ∧ w' = w := by
 by_cases h : a ≤ n
 ·have d1 : decide (a ≤ n) = true := decide_eq_true h
  rw [d1, Bool.true_and]
  go_enter Tryz.func98, Tryz.ntmps98
  go_wp2
  go_ret
  exact ⟨rfl, rfl⟩
 ·have d1 : decide (a ≤ n) = false := decide_eq_false h
  rw [d1, Bool.false_and]
  go_enter Tryz.func98, Tryz.ntmps98
  go_wp2
  go_ret
  exact ⟨rfl, rfl⟩
theorem rttl_in (r : Rc) (h : 0 ≤ r.tl) (w : World) : Calls Tryz.prog 67 #[.int .i64 r.tl] w fun e w' => e = .returned (.int .i64 (ttl r)) ∧ w' = w := by
 by_cases hb : 2147483647 < r.tl
 ·have e0 : ttl r = 0 := by
   unfold ttl
   rw [if_neg (fun hh => by have := (ftB_iff.1 hh).2; omega)]
  rw [e0]
  go_enter Tryz.func67, Tryz.ntmps67
  go_wp2
  go_ret
  exact ⟨rfl, rfl⟩
 ·have e0 : ttl r = r.tl := by
   unfold ttl
   rw [if_pos (ftB_iff.2 ⟨h, by omega⟩)]
  rw [e0]
  go_enter Tryz.func67, Tryz.ntmps67
  go_wp2
  go_ret
  exact ⟨rfl, rfl⟩
theorem ft16 (n : Int) : (decide (0 ≤ n) && decide (n ≤ 65535)) = ftB n 16 := by
 unfold ftB
 congr 1
 exact decide_eq_decide.2 (by omega)
theorem ft32 (n : Int) : (decide (0 ≤ n) && decide (n ≤ 4294967295)) = ftB n 32 := by
 unfold ftB
 congr 1
 exact decide_eq_decide.2 (by omega)
set_option maxRecDepth 100000 in
set_option maxHeartbeats 2000000 in
theorem rrec_in (r : Rc) (h1 : r.nm.size ≤ maxLen) (h2 : r.dat.size ≤ maxLen) (W : World) : Calls Tryz.prog 65 #[.agg #[.string r.nm, .int .i64 r.ty, .int .i64 r.cl, .int .i64 r.tl, .string r.dat]] W fun e w' => e = .returned (.bool (rOk r)) ∧ Below W.heap.size W w' := by
 have HA := Hid.mk (rright_in r.nm h1)
 have HB := Hid.mk (rdRight_in r.ty r.dat h2)
 have HC := Hid.mk (rin_in r.cl 0 65535)
 have HD := Hid.mk (rin_in r.tl 0 4294967295)
 rw [ft16] at HC
 rw [ft32] at HD
 have X0 := Bx.new W (rcL r) 33
 have x0 := X0.cells5
 obtain ⟨R, hR⟩ : ∃ R, rOk r = R := ⟨_, rfl⟩
 have HR : Hid (R = (isN r.nm && ftB r.cl 16 && ftB r.tl 32 && dRt r.ty r.dat)) := hR.symm
 rw [hR]
 clear hR
 obtain ⟨V, hV⟩ : ∃ V, W.alloc (.cells #[.string r.nm, .int .i64 r.ty, .int .i64 r.cl, .int .i64 r.tl, .string r.dat] 33) = V := ⟨_, rfl⟩
 have X1 : Bx W W.heap.size (rcL r) 33 V := hV ▸ X0
 have x1 := X1.cells5
 have HV := Hid.mk hV
 clear hV X0 x0
 go_enter Tryz.func65, Tryz.ntmps65
 go_upto_region 1 with fail
 rw [HV.out]
 go_wp2_with fail
 refine (HA.out _).mono ?_
 rintro e w1 ⟨rfl, hb1⟩
 have X2 := X1.blk hb1
 have x2 := X2.cells5
 clear x1 X1 hb1
 go_wp2_with fail
 refine (HB.out _).mono ?_
 rintro e w2 ⟨rfl, hb2⟩
 have X3 := X2.blk hb2
 have x3 := X3.cells5
 clear x2 X2 hb2
 generalize isN r.nm = b1 at HR ⊢
 generalize dRt r.ty r.dat = b2 at HR ⊢
 cases b1 with
 | false =>
  obtain rfl : R = false := by rw [HR.out]; rfl
  go_wp2
  go_ret
  exact ⟨rfl, X3.bel⟩
 | true =>
  cases b2 with
  | false =>
   obtain rfl : R = false := by rw [HR.out]; simp
   go_wp2
   go_ret
   exact ⟨rfl, X3.bel⟩
  | true =>
   generalize ftB r.cl 16 = b3 at HR HC ⊢
   generalize ftB r.tl 32 = b4 at HR HD ⊢
   cases b3 with
   | false =>
    obtain rfl : R = false := by rw [HR.out]; simp
    go_wp2_with fail
    refine (HC.out _).mono ?_
    rintro e w3 ⟨rfl, rfl⟩
    go_wp2
    go_ret
    exact ⟨rfl, X3.bel⟩
   | true =>
    obtain rfl : R = b4 := by rw [HR.out]; simp
    go_wp2_with fail
    refine (HC.out _).mono ?_
    rintro e w3 ⟨rfl, rfl⟩
    go_wp2_with fail
    refine (HD.out _).mono ?_
    rintro e w4 ⟨rfl, rfl⟩
    go_wp2
    go_ret
    exact ⟨rfl, X3.bel⟩
open Classical in
noncomputable def keyP (ls : N3) (ty cl : Int) (p : Sg) : Bool := decide (lowN p.1.ls = lowN ls ∧ p.1.ty = ty ∧ p.1.cl = cl)
noncomputable def fndP (ps : List Sg) (ls : N3) (ty cl : Int) : Option Nat := ps.findIdx? (keyP ls ty cl)
def idxV : Option Nat → Value
 | some i => .int .i64 (i : Int)
 | none => .int .i64 (-1)
theorem findIdx_step {α : Type} {p : α → Bool} {l : List α} {i : Nat} (hi : i < l.length) (hn : ∀ j (hj : j < l.length), j < i → p l[j] = false) (h : p l[i] = true) : l.findIdx? p = some i := by
 rw [List.findIdx?_eq_some_iff_getElem]
 exact ⟨hi, h, fun j hj => by rw [hn j (by omega) hj]; simp⟩
theorem findIdx_none {α : Type} {p : α → Bool} {l : List α} (hn : ∀ j (hj : j < l.length), p l[j] = false) : l.findIdx? p = none := by
 rw [List.findIdx?_eq_none_iff]
 intro x hx
 obtain ⟨j, hj, rfl⟩ := List.getElem_of_mem hx
 exact hn j hj
theorem nm_low_eq {a b : N3} (ha : OkN a) (hb : OkN b) : ((nm (lowN a)).toList == (nm (lowN b)).toList) = decide (lowN a = lowN b) := by
 by_cases h : lowN a = lowN b
 ·rw [h, decide_eq_true rfl]; simp
 ·rw [decide_eq_false h]
  exact (ba_ne (fun e => h (nm_inj ha.low hb.low e))).1
set_option maxRecDepth 100000 in
set_option maxHeartbeats 4000000 in
theorem rfind_in {N : Nat} {W : World} {v : Value} {els : List El} {ps : List Sg} (h : RS N W v els ps) (hok : ∀ p ∈ ps, OkN p.1.ls) (ls : N3) (ho : OkN ls) (ty cl : Int) : Calls Tryz.prog 66 #[v, .string (nm ls), .int .i64 ty, .int .i64 cl] W fun e w' => e = .returned (idxV (fndP ps ls ty cl)) ∧ Below W.heap.size W w' := by
 obtain ⟨q, cap, rfl⟩ := h.form
 have HL : Hid (∀ w, Calls Tryz.prog 64 #[.string (nm ls)] w fun e w' => e = .returned (.string (nm (lowN ls))) ∧ Below w.heap.size w w') := fun w => U.rLower_yes ls ho w
 obtain ⟨n, hn⟩ : ∃ n, ps.length = n := ⟨_, rfl⟩
 have HC : Hid (∀ i, i < n → ∃ g, q = some ⟨g, 0, none⟩ ∧ ∃ (a : N3) (t c : Int), Hid (∃ hi : i < ps.length, a = ps[i].1.ls ∧ t = ps[i].1.ty ∧ c = ps[i].1.cl) ∧ Hid (OkN a) ∧ Hid (∀ w, Below W.heap.size W w → w.cell? ⟨g, i * 6, none⟩ = some (.string (nm a)) ∧ w.cell? ⟨g, i * 6 + 1, none⟩ = some (.int .i64 t) ∧ w.cell? ⟨g, i * 6 + 2, none⟩ = some (.int .i64 c))) := by
  intro i hi
  replace hi : i < ps.length := by omega
  have hi' : i < els.length := by rw [h.len]; exact hi
  obtain ⟨g, cap', e, _, hr⟩ := srow_form h.row (by omega)
  simp only [Value.slice.injEq] at e
  obtain ⟨rfl, _, rfl⟩ := e
  have hs := h.rel.at i hi' hi
  refine ⟨g, rfl, ps[i].1.ls, ps[i].1.ty, ps[i].1.cl, ⟨hi, rfl, rfl, rfl⟩, hok _ (List.getElem_mem hi), fun w hb => ?_⟩
  have hr2 := hr.same (hb.block g hr.lt)
  refine ⟨?_, ?_, ?_⟩
  ·have := hr2.cell i hi' 0 (by decide)
   rw [Nat.add_zero] at this
   rw [this, ← hs.ls]; rfl
  ·rw [hr2.cell i hi' 1 (by decide), ← hs.ty]; rfl
  ·rw [hr2.cell i hi' 2 (by decide), ← hs.cl]; rfl
 rw [hn]
 have hlen : n ≤ maxLen := by
  obtain ⟨_, h0 | ⟨g, c, cur, e, _, _, h1, h2, _⟩⟩ := h.row
  ·have h3 := h0.2; have := h.len; unfold maxLen; omega
  ·have := h.len; omega
 have hno : Hid (∀ i, i ≤ n → (∀ j (hj : j < ps.length), j < i → keyP ls ty cl ps[j] = false) → i = n → fndP ps ls ty cl = none) := fun i hi hj e => findIdx_none (fun j hj' => hj j hj' (by omega))
 have hyes : Hid (∀ i (hi : i < ps.length), (∀ j (hj : j < ps.length), j < i → keyP ls ty cl ps[j] = false) → keyP ls ty cl ps[i] = true → fndP ps ls ty cl = some i) := fun i hi hj e => findIdx_step hi hj e
 obtain ⟨R, hR⟩ : ∃ R, fndP ps ls ty cl = R := ⟨_, rfl⟩
 rw [hR] at hno hyes ⊢
 have HN := Hid.mk hn
 clear hR h hok hn
 go_enter Tryz.func66, Tryz.ntmps66
 go_wp2
 go_loopw [9] (fun iv wr => ∃ i : Nat, i ≤ n ∧ iv = .int .i64 (i : Int) ∧ Hid (∀ j (hj : j < ps.length), j < i → keyP ls ty cl ps[j] = false) ∧ Below W.heap.size W wr) (fun iv _ => n - (intOf iv).toNat)
 case atStart => exact ⟨0, Nat.zero_le _, rfl, fun j _ h => absurd h (Nat.not_lt_zero _), Below.refl _ _⟩
 case round =>
  obtain ⟨i, hi, rfl, HI, hbl⟩ := hrel
  by_cases hlt : i < n
  ·have hlz : (i : Int) < (n : Int) := by omega
   obtain ⟨g, rfl, a, t, c, HE, HO, HX⟩ := HC.out i hlt
   obtain ⟨x0, x1, x2⟩ := HX.out wr hbl
   have HLa : Hid (∀ w, Calls Tryz.prog 64 #[.string (nm a)] w fun e w' => e = .returned (.string (nm (lowN a))) ∧ Below w.heap.size w w') := fun w => U.rLower_yes a HO.out w
   have wi : IntKind.i64.wrap ((i : Int) + 1) = ((i + 1 : Nat) : Int) := by rw [IntKind.wrap_i64]; unfold maxLen at hlen; omega
   have heq := nm_low_eq HO.out ho
   have HK : Hid (∃ hi : i < ps.length, keyP ls ty cl ps[i] = decide (lowN a = lowN ls ∧ t = ty ∧ c = cl)) := by
    obtain ⟨h1, e1, e2, e3⟩ := HE.out
    refine ⟨h1, ?_⟩
    unfold keyP
    rw [e1, e2, e3]
   have HNext : Hid (¬ (lowN a = lowN ls ∧ t = ty ∧ c = cl) → ∀ j (hj : j < ps.length), j < i + 1 → keyP ls ty cl ps[j] = false) := by
    intro hne j hj hji
    rcases Nat.lt_succ_iff_lt_or_eq.1 hji with h1 | rfl
    ·exact HI.out j hj h1
    ·obtain ⟨h1, e⟩ := HK.out
     rw [e]; exact decide_eq_false hne
   clear HE HO
   go_wp2_with fail
   refine (HLa.out _).mono ?_
   rintro e w1 ⟨rfl, hb1⟩
   go_wp2_with fail
   refine (HL.out _).mono ?_
   rintro e w2 ⟨rfl, hb2⟩
   have hbl2 : Below W.heap.size W w2 := hbl.trans ((hb1.trans (hb2.mono hb1.size)).mono hbl.size)
   obtain ⟨z0, z1, z2⟩ := HX.out w2 hbl2
   clear x0 x1 x2 hb1 hb2 hbl
   by_cases h1 : lowN a = lowN ls
   ·rw [decide_eq_true h1] at heq
    by_cases h2 : t = ty
    ·have d2 : (t == ty) = true := by rw [beq_iff_eq]; exact h2
     by_cases h3 : c = cl
     ·have d3 : (c == cl) = true := by rw [beq_iff_eq]; exact h3
      have e0 : R = some i := by
       obtain ⟨h4, e⟩ := HK.out
       exact hyes.out i h4 HI.out (by rw [e]; exact decide_eq_true ⟨h1, h2, h3⟩)
      subst e0
      clear h1 h2 h3 HK HNext
      go_wp2
      go_ret
      exact ⟨rfl, hbl2⟩
     ·have d3 : (c == cl) = false := by rw [beq_eq_false_iff_ne]; exact h3
      have HNx := Hid.mk (HNext.out (fun h => h3 h.2.2))
      clear h1 h2 h3 HK HNext
      go_wp2
      go_roundw
      case rel => exact ⟨i + 1, by omega, by first | rfl | go_num, HNx, hbl2⟩
      case measure => simp [intOf]; omega
    ·have d2 : (t == ty) = false := by rw [beq_eq_false_iff_ne]; exact h2
     have HNx := Hid.mk (HNext.out (fun h => h2 h.2.1))
     clear h1 h2 HK HNext
     go_wp2
     go_roundw
     case rel => exact ⟨i + 1, by omega, by first | rfl | go_num, HNx, hbl2⟩
     case measure => simp [intOf]; omega
   ·rw [decide_eq_false h1] at heq
    have HNx := Hid.mk (HNext.out (fun h => h1 h.1))
    clear h1 HK HNext
    go_wp2
    go_roundw
    case rel => exact ⟨i + 1, by omega, by first | rfl | go_num, HNx, hbl2⟩
    case measure => simp [intOf]; omega
  ·have hlz : ¬ (i : Int) < (n : Int) := by omega
   have e0 := hno.out i hi HI.out (by omega)
   subst e0
   go_wp2
   go_ret
   exact ⟨rfl, hbl⟩
def TxAt (w : World) (q : Option Addr) (ds : List ByteArray) : Prop := ∀ j (hj : j < ds.length), ∃ b off, q = some ⟨b, off, none⟩ ∧ b < w.heap.size ∧ w.cell? ⟨b, off + j, none⟩ = some (.string ds[j])
theorem TxAt.blk {w w' : World} {q : Option Addr} {ds : List ByteArray} (h : TxAt w q ds) (hb : Below w.heap.size w w') : TxAt w' q ds := fun j hj => by
 obtain ⟨b, off, e, hlt, hc⟩ := h j hj
 exact ⟨b, off, e, Nat.lt_of_lt_of_le hlt hb.size, (hb.cell (p := ⟨b, off + j, none⟩) hlt).trans hc⟩
theorem TxAt.of_own {w : World} {N : Nat} {v : Value} {ds : List ByteArray} (h : w.ownsRow N 9 1 v ds.length (strs ds)) : ∃ q cap, v = .slice q ds.length cap ∧ TxAt w q ds ∧ ds.length ≤ maxLen := by
 obtain ⟨hl, ⟨rfl, h0⟩ | ⟨g, cap, cur, rfl, hg0, hg, hn, hm, hs, ht⟩⟩ := h
 ·have : ds = [] := by simpa [strs] using h0
  subst this
  exact ⟨none, 0, rfl, fun j hj => by simp at hj, by unfold maxLen; simp⟩
 ·refine ⟨_, _, rfl, fun j hj => ⟨g, 0, rfl, (Array.getElem?_eq_some_iff.1 hg).1, ?_⟩, by omega⟩
  rw [So.cell_blk hg, Nat.zero_add, ← Array.getElem?_toList]
  have : (cur.toList.take (ds.length * 1))[j]? = some (.string ds[j]) := by
   rw [ht]; simp [strs, hj]
  rw [Nat.mul_one, List.getElem?_take, if_pos hj] at this
  exact this
open Classical in
noncomputable def hasD (k : Int) (ds : List ByteArray) (d : ByteArray) : Bool := decide (lowR k d ∈ ds.map (lowR k))
set_option maxRecDepth 100000 in
set_option maxHeartbeats 4000000 in
open Classical in
theorem rhas_in (k : Int) (hk : k ≠ 46) (q : Option Addr) (cap : Nat) (ds : List ByteArray) (d : ByteArray) (hd : d.size ≤ maxLen) (hds : ∀ x ∈ ds, x.size ≤ maxLen) (hlen : ds.length ≤ maxLen) (W : World) (hat : TxAt W q ds) : Calls Tryz.prog 68 #[.int .i64 k, .slice q ds.length cap, .string d] W fun e w' => e = .returned (.bool (hasD k ds d)) ∧ Below W.heap.size W w' := by
 have HL := Hid.mk (rdLower_in k hk d hd)
 obtain ⟨n, hn⟩ : ∃ n, ds.length = n := ⟨_, rfl⟩
 have HX : Hid (∀ i, i < n → ∃ b off, q = some ⟨b, off, none⟩ ∧ ∃ x : ByteArray, Hid (∃ hi : i < ds.length, x = ds[i]) ∧ Hid (∀ w, Calls Tryz.prog 99 #[.int .i64 k, .string x] w fun e w' => e = .returned (.string (lowR k x)) ∧ Below w.heap.size w w') ∧ Hid (∀ w, Below W.heap.size W w → w.cell? ⟨b, off + i, none⟩ = some (.string x))) := by
  intro i hi
  replace hi : i < ds.length := by omega
  obtain ⟨b, off, e, hlt, hc⟩ := hat i hi
  exact ⟨b, off, e, ds[i], ⟨hi, rfl⟩, fun w => rdLower_in k hk _ (hds _ (List.getElem_mem hi)) w, fun w hb => (hb.cell (p := ⟨b, off + i, none⟩) hlt).trans hc⟩
 obtain ⟨L, hL⟩ : ∃ L, lowR k d = L := ⟨_, rfl⟩
 have hyes : Hid (∀ i (hi : i < ds.length), lowR k ds[i] = L → hasD k ds d = true) := fun i hi e => by
  unfold hasD
  rw [hL]
  exact decide_eq_true (by rw [← e]; exact List.mem_map_of_mem (List.getElem_mem hi))
 have hno : Hid ((∀ j (hj : j < ds.length), lowR k ds[j] ≠ L) → hasD k ds d = false) := fun h => by
  unfold hasD
  rw [hL]
  refine decide_eq_false (fun hm => ?_)
  obtain ⟨x, hx, e⟩ := List.mem_map.1 hm
  obtain ⟨j, hj, rfl⟩ := List.getElem_of_mem hx
  exact h j hj e
 rw [hL] at HL
 obtain ⟨R, hR⟩ : ∃ R, hasD k ds d = R := ⟨_, rfl⟩
 rw [hR] at hyes hno ⊢
 have HN := Hid.mk hn
 rw [hn] at hlen ⊢
 clear hn hat hds hR hL
 go_enter Tryz.func68, Tryz.ntmps68
 go_wp2_with fail
 refine (HL.out _).mono ?_
 rintro e w0 ⟨rfl, hb0⟩
 go_wp2
 go_loopw [7] (fun iv wr => ∃ i : Nat, i ≤ n ∧ iv = .int .i64 (i : Int) ∧ Hid (∀ j (hj : j < ds.length), j < i → lowR k ds[j] ≠ L) ∧ Below W.heap.size W wr) (fun iv _ => n - (intOf iv).toNat)
 case atStart => exact ⟨0, Nat.zero_le _, rfl, fun j _ h => absurd h (Nat.not_lt_zero _), hb0⟩
 case round =>
  obtain ⟨i, hi, rfl, HI, hbl⟩ := hrel
  clear hb0
  by_cases hlt : i < n
  ·have hlz : (i : Int) < (n : Int) := by omega
   obtain ⟨b, off, rfl, x, HE, HLx, HC⟩ := HX.out i hlt
   have x0 := HC.out wr hbl
   have wi : IntKind.i64.wrap ((i : Int) + 1) = ((i + 1 : Nat) : Int) := by rw [IntKind.wrap_i64]; unfold maxLen at hlen; omega
   obtain ⟨M, hM⟩ : ∃ M, lowR k x = M := ⟨_, rfl⟩
   rw [hM] at HLx
   have HM := Hid.mk hM
   clear hM
   by_cases h1 : M = L
   ·have e0 : R = true := by
     obtain ⟨h4, e⟩ := HE.out
     exact hyes.out i h4 (by rw [← e, HM.out, h1])
    subst e0
    subst h1
    have heq : (M.toList == M.toList) = true := by simp
    go_wp2_with fail
    refine (HLx.out _).mono ?_
    rintro e w1 ⟨rfl, hb1⟩
    have hbl2 : Below W.heap.size W w1 := hbl.trans (hb1.mono hbl.size)
    go_wp2
    go_ret
    exact ⟨rfl, hbl2⟩
   ·have heq := (ba_ne h1).1
    have HNx : Hid (∀ j (hj : j < ds.length), j < i + 1 → lowR k ds[j] ≠ L) := by
     intro j hj hji
     rcases Nat.lt_succ_iff_lt_or_eq.1 hji with h2 | rfl
     ·exact HI.out j hj h2
     ·obtain ⟨h4, e⟩ := HE.out
      rw [← e, HM.out]; exact h1
    clear h1
    go_wp2_with fail
    refine (HLx.out _).mono ?_
    rintro e w1 ⟨rfl, hb1⟩
    have hbl2 : Below W.heap.size W w1 := hbl.trans (hb1.mono hbl.size)
    clear hbl hb1
    go_wp2
    go_roundw
    case rel => exact ⟨i + 1, by omega, by first | rfl | go_num, HNx, hbl2⟩
    case measure => simp [intOf]; omega
  ·have hlz : ¬ (i : Int) < (n : Int) := by omega
   have e0 := hno.out (fun j hj => HI.out j hj (by rw [HN.out] at hj; omega))
   subst e0
   go_wp2
   go_ret
   exact ⟨rfl, hbl⟩
end Go.Proofs.YtdlcldjlfhmlgaaGreatDoor
