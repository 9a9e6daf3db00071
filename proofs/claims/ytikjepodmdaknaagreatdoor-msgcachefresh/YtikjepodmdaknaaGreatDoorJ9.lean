/- Texts of this proof, joined: DPartsD, DPartsE, DPartsF, DFacts, DSplitA, DSmallF. -/
import Derived.Test.YtikjepodmdaknaaGreatDoorJ8
import Derived.Test.YtikjepodmdaknaaGreatDoorJ7
import Derived.Test.YtikjepodmdaknaaGreatDoorJ2
set_option linter.unusedVariables false
set_option linter.unusedSimpArgs false
/- partsOf: the form of RRSIG. -/
namespace Go.Proofs.YtikjepodmdaknaaGreatDoor
open Go.RowKit
set_option maxRecDepth 100000 in
set_option maxHeartbeats 4000000 in
theorem raw_SIG (w : World) : Calls Tryz.prog 161 #[.int .i64 46] w fun e w' => RawPost [.type, .num 1, .num 1, .num 4, .num 4, .num 4, .num 2, .name, .hex] w e w' := by
 have hmf := mkf
 have hmo : Tryz.prog.follows Departure.mixedOrders = true := by kernel_rfl
 go_enter Tryz.func161, Tryz.ntmps161
 go_wp2_with fail
 refine (numberPart_in _ _).mono ?_
 rintro e w1 ⟨rfl, ho1, hb1⟩
 go_wp2_with fail
 refine (numberPart_in _ _).mono ?_
 rintro e w2 ⟨rfl, ho2, hb2⟩
 go_wp2_with fail
 refine (numberPart_in _ _).mono ?_
 rintro e w3 ⟨rfl, ho3, hb3⟩
 have T := three_of ho1 hb1 ho2 hb2 ho3 hb3
 clear ho1 ho2 ho3 hb1 hb2 hb3
 go_wp2
 obtain ⟨WB, hWB⟩ : ∃ WB, WB = (((w3.alloc (.cells (numP w.heap.size) 262)).alloc (.cells (numP w1.heap.size) 262)).alloc (.cells (numP w2.heap.size) 262)) := ⟨_, rfl⟩
 rw [← hWB] at T
 rw [← hWB]
 clear hWB
 have HL : Hid (∀ (G : Prop) (A B : World), Three w A w3.heap.size w.heap.size w1.heap.size w2.heap.size → Below A.heap.size A B → (Three w B w3.heap.size w.heap.size w1.heap.size w2.heap.size → B.cell? ⟨w3.heap.size, 0, none⟩ = some (fnV 206 #[boxV (w.heap.size)]) → B.cell? ⟨w3.heap.size, 1, none⟩ = some (fnV 208 #[]) → B.cell? ⟨w3.heap.size, 2, none⟩ = some (fnV 210 #[boxV (w.heap.size)]) → B.cell? ⟨w3.heap.size, 3, none⟩ = some (.bool false) → B.cell? ⟨w3.heap.size + 1, 0, none⟩ = some (fnV 206 #[boxV (w1.heap.size)]) → B.cell? ⟨w3.heap.size + 1, 1, none⟩ = some (fnV 208 #[]) → B.cell? ⟨w3.heap.size + 1, 2, none⟩ = some (fnV 210 #[boxV (w1.heap.size)]) → B.cell? ⟨w3.heap.size + 1, 3, none⟩ = some (.bool false) → B.cell? ⟨w3.heap.size + 1 + 1, 0, none⟩ = some (fnV 206 #[boxV (w2.heap.size)]) → B.cell? ⟨w3.heap.size + 1 + 1, 1, none⟩ = some (fnV 208 #[]) → B.cell? ⟨w3.heap.size + 1 + 1, 2, none⟩ = some (fnV 210 #[boxV (w2.heap.size)]) → B.cell? ⟨w3.heap.size + 1 + 1, 3, none⟩ = some (.bool false) → G) → G) := by
  intro G A B hT hB hG
  have hT' := hT.below hB
  exact hG hT' (cells4 hT'.p1).1 (cells4 hT'.p1).2.1 (cells4 hT'.p1).2.2.1 (cells4 hT'.p1).2.2.2 (cells4 hT'.p2).1 (cells4 hT'.p2).2.1 (cells4 hT'.p2).2.2.1 (cells4 hT'.p2).2.2.2 (cells4 hT'.p3).1 (cells4 hT'.p3).2.1 (cells4 hT'.p3).2.2.1 (cells4 hT'.p3).2.2.2
 obtain ⟨a10, a11, a12, a13⟩ := cells4 T.p1
 obtain ⟨a20, a21, a22, a23⟩ := cells4 T.p2
 obtain ⟨a30, a31, a32, a33⟩ := cells4 T.p3
 have T0 := T.drew
 go_region_held3 (fun w' => w'.cell? ⟨w3.heap.size, 0, none⟩ = some (fnV 206 #[boxV (w.heap.size)]) ∧ w'.cell? ⟨w3.heap.size, 1, none⟩ = some (fnV 208 #[]) ∧ w'.cell? ⟨w3.heap.size, 2, none⟩ = some (fnV 210 #[boxV (w.heap.size)]) ∧ w'.cell? ⟨w3.heap.size, 3, none⟩ = some (.bool false) ∧ w'.cell? ⟨w3.heap.size + 1, 0, none⟩ = some (fnV 206 #[boxV (w1.heap.size)]) ∧ w'.cell? ⟨w3.heap.size + 1, 1, none⟩ = some (fnV 208 #[]) ∧ w'.cell? ⟨w3.heap.size + 1, 2, none⟩ = some (fnV 210 #[boxV (w1.heap.size)]) ∧ w'.cell? ⟨w3.heap.size + 1, 3, none⟩ = some (.bool false) ∧ w'.cell? ⟨w3.heap.size + 1 + 1, 0, none⟩ = some (fnV 206 #[boxV (w2.heap.size)]) ∧ w'.cell? ⟨w3.heap.size + 1 + 1, 1, none⟩ = some (fnV 208 #[]) ∧ w'.cell? ⟨w3.heap.size + 1 + 1, 2, none⟩ = some (fnV 210 #[boxV (w2.heap.size)]) ∧ w'.cell? ⟨w3.heap.size + 1 + 1, 3, none⟩ = some (.bool false)) (first | ((repeat' apply And.intro) <;> assumption) | go_keep)
  (first | (go_at_call 185; refine (typePart_in _).mono ?_; rintro e x1 ⟨rfl, hx1⟩; refine HL.out _ _ x1 T0 hx1 ?_; intro T1 d10_1 d11_1 d12_1 d13_1 d20_1 d21_1 d22_1 d23_1 d30_1 d31_1 d32_1 d33_1) | (go_at_call 182; refine (namePart_in _).mono ?_; rintro e x2 ⟨rfl, hx2⟩; refine HL.out _ _ x2 T1 hx2 ?_; intro T2 d10_2 d11_2 d12_2 d13_2 d20_2 d21_2 d22_2 d23_2 d30_2 d31_2 d32_2 d33_2) | (go_at_call 184; refine (hexPart_in _).mono ?_; rintro e x3 ⟨rfl, hx3⟩; refine HL.out _ _ x3 T2 hx3 ?_; intro T3 d10_3 d11_3 d12_3 d13_3 d20_3 d21_3 d22_3 d23_3 d30_3 d31_3 d32_3 d33_3))
 have hs3 := T3.bl.size
 go_wp2
 go_ret
 refine ⟨x3.heap.size, [typePt, numPt w.heap.size, numPt w.heap.size, numPt w2.heap.size, numPt w2.heap.size, numPt w2.heap.size, numPt w1.heap.size, namePt, hexPt], rfl, hs3, ?_, ⟨rfl, T3.num1 _, T3.num1 _, T3.num4 _, T3.num4 _, T3.num4 _, T3.num2 _, rfl, rfl, trivial⟩, T3.bl.alloc hs3 _⟩
 simp only [List.flatMap_cons, List.flatMap_nil, partCells, namePt, numPt, typePt, hexPt, saltPt, hashPt, typesPt, List.cons_append, List.nil_append, List.append_nil]
 exact heap_new _ _
end Go.Proofs.YtikjepodmdaknaaGreatDoor
/- partsOf: the form of NSEC3. -/
namespace Go.Proofs.YtikjepodmdaknaaGreatDoor
open Go.RowKit
set_option maxRecDepth 100000 in
set_option maxHeartbeats 4000000 in
theorem raw_NSEC3 (w : World) : Calls Tryz.prog 161 #[.int .i64 50] w fun e w' => RawPost [.num 1, .num 1, .num 2, .salt, .hash, .types] w e w' := by
 have hmf := mkf
 have hmo : Tryz.prog.follows Departure.mixedOrders = true := by kernel_rfl
 go_enter Tryz.func161, Tryz.ntmps161
 go_wp2_with fail
 refine (numberPart_in _ _).mono ?_
 rintro e w1 ⟨rfl, ho1, hb1⟩
 go_wp2_with fail
 refine (numberPart_in _ _).mono ?_
 rintro e w2 ⟨rfl, ho2, hb2⟩
 go_wp2_with fail
 refine (numberPart_in _ _).mono ?_
 rintro e w3 ⟨rfl, ho3, hb3⟩
 have T := three_of ho1 hb1 ho2 hb2 ho3 hb3
 clear ho1 ho2 ho3 hb1 hb2 hb3
 go_wp2
 obtain ⟨WB, hWB⟩ : ∃ WB, WB = (((w3.alloc (.cells (numP w.heap.size) 262)).alloc (.cells (numP w1.heap.size) 262)).alloc (.cells (numP w2.heap.size) 262)) := ⟨_, rfl⟩
 rw [← hWB] at T
 rw [← hWB]
 clear hWB
 have HL : Hid (∀ (G : Prop) (A B : World), Three w A w3.heap.size w.heap.size w1.heap.size w2.heap.size → Below A.heap.size A B → (Three w B w3.heap.size w.heap.size w1.heap.size w2.heap.size → B.cell? ⟨w3.heap.size, 0, none⟩ = some (fnV 206 #[boxV (w.heap.size)]) → B.cell? ⟨w3.heap.size, 1, none⟩ = some (fnV 208 #[]) → B.cell? ⟨w3.heap.size, 2, none⟩ = some (fnV 210 #[boxV (w.heap.size)]) → B.cell? ⟨w3.heap.size, 3, none⟩ = some (.bool false) → B.cell? ⟨w3.heap.size + 1, 0, none⟩ = some (fnV 206 #[boxV (w1.heap.size)]) → B.cell? ⟨w3.heap.size + 1, 1, none⟩ = some (fnV 208 #[]) → B.cell? ⟨w3.heap.size + 1, 2, none⟩ = some (fnV 210 #[boxV (w1.heap.size)]) → B.cell? ⟨w3.heap.size + 1, 3, none⟩ = some (.bool false) → G) → G) := by
  intro G A B hT hB hG
  have hT' := hT.below hB
  exact hG hT' (cells4 hT'.p1).1 (cells4 hT'.p1).2.1 (cells4 hT'.p1).2.2.1 (cells4 hT'.p1).2.2.2 (cells4 hT'.p2).1 (cells4 hT'.p2).2.1 (cells4 hT'.p2).2.2.1 (cells4 hT'.p2).2.2.2
 obtain ⟨a10, a11, a12, a13⟩ := cells4 T.p1
 obtain ⟨a20, a21, a22, a23⟩ := cells4 T.p2
 have T0 := T.drew
 go_region_held3 (fun w' => w'.cell? ⟨w3.heap.size, 0, none⟩ = some (fnV 206 #[boxV (w.heap.size)]) ∧ w'.cell? ⟨w3.heap.size, 1, none⟩ = some (fnV 208 #[]) ∧ w'.cell? ⟨w3.heap.size, 2, none⟩ = some (fnV 210 #[boxV (w.heap.size)]) ∧ w'.cell? ⟨w3.heap.size, 3, none⟩ = some (.bool false) ∧ w'.cell? ⟨w3.heap.size + 1, 0, none⟩ = some (fnV 206 #[boxV (w1.heap.size)]) ∧ w'.cell? ⟨w3.heap.size + 1, 1, none⟩ = some (fnV 208 #[]) ∧ w'.cell? ⟨w3.heap.size + 1, 2, none⟩ = some (fnV 210 #[boxV (w1.heap.size)]) ∧ w'.cell? ⟨w3.heap.size + 1, 3, none⟩ = some (.bool false)) (first | ((repeat' apply And.intro) <;> assumption) | go_keep)
  (first | (go_at_call 187; refine (saltPart_in _).mono ?_; rintro e x1 ⟨rfl, hx1⟩; refine HL.out _ _ x1 T0 hx1 ?_; intro T1 d10_1 d11_1 d12_1 d13_1 d20_1 d21_1 d22_1 d23_1) | (go_at_call 188; refine (hashPart_in _).mono ?_; rintro e x2 ⟨rfl, hx2⟩; refine HL.out _ _ x2 T1 hx2 ?_; intro T2 d10_2 d11_2 d12_2 d13_2 d20_2 d21_2 d22_2 d23_2) | (go_at_call 186; refine (typesPart_in _).mono ?_; rintro e x3 ⟨rfl, hx3⟩; refine HL.out _ _ x3 T2 hx3 ?_; intro T3 d10_3 d11_3 d12_3 d13_3 d20_3 d21_3 d22_3 d23_3))
 have hs3 := T3.bl.size
 go_wp2
 go_ret
 refine ⟨x3.heap.size, [numPt w.heap.size, numPt w.heap.size, numPt w1.heap.size, saltPt, hashPt, typesPt], rfl, hs3, ?_, ⟨T3.num1 _, T3.num1 _, T3.num2 _, rfl, rfl, rfl, trivial⟩, T3.bl.alloc hs3 _⟩
 simp only [List.flatMap_cons, List.flatMap_nil, partCells, namePt, numPt, typePt, hexPt, saltPt, hashPt, typesPt, List.cons_append, List.nil_append, List.append_nil]
 exact heap_new _ _
end Go.Proofs.YtikjepodmdaknaaGreatDoor
/- partsOf: the forms of A, AAAA, NSEC, TXT and all others. -/
namespace Go.Proofs.YtikjepodmdaknaaGreatDoor
open Go.RowKit
theorem GrpB.alloc {W : World} {b c wd bs : Nat} {sp : UInt8} (h : GrpB W b c wd bs sp) (o : Obj) : GrpB (W.alloc o) b c wd bs sp :=
 ⟨(alloc_old _ _ _ (box_lt h.cnt)).trans h.cnt, (alloc_old _ _ _ (box_lt h.wid)).trans h.wid, (alloc_old _ _ _ (box_lt h.bas)).trans h.bas, (alloc_old _ _ _ (box_lt h.btw)).trans h.btw⟩
set_option maxRecDepth 100000 in
theorem groupsPartG_in (c wd bs : Nat) (sp : UInt8) (w : World) : Calls Tryz.prog 181 #[.int .i64 c, .int .i64 wd, .int .i64 bs, .string ⟨#[sp]⟩] w fun e w' =>
  e = .returned (.agg (grpP w.heap.size)) ∧ GrpB w' w.heap.size c wd bs sp ∧ Below w.heap.size w w' := by
 have hmf := mkf
 go_enter Tryz.func181, Tryz.ntmps181
 go_wp2
 refine bodyPost_ret (v := .agg (grpP w.heap.size)) (by simp [results, Tryz.results181, go_sem]) rfl ⟨rfl, ⟨?_, ?_, ?_, ?_⟩, ?_⟩
 ·rw [alloc_old _ _ _ (by simp <;> omega), alloc_old _ _ _ (by simp <;> omega), alloc_old _ _ _ (by simp <;> omega), alloc_old _ _ _ (by simp)]; exact heap_new _ _
 ·rw [alloc_old _ _ _ (by simp <;> omega), alloc_old _ _ _ (by simp <;> omega), alloc_old _ _ _ (by simp)]
  have := heap_new (w.alloc (.cells #[.int .i64 c] 3)) (.cells #[.int .i64 wd] 3)
  rwa [World.size_alloc] at this
 ·rw [alloc_old _ _ _ (by simp <;> omega), alloc_old _ _ _ (by simp)]
  have := heap_new ((w.alloc (.cells #[.int .i64 c] 3)).alloc (.cells #[.int .i64 wd] 3)) (.cells #[.int .i64 bs] 3)
  rwa [World.size_alloc, World.size_alloc] at this
 ·rw [alloc_old _ _ _ (by simp)]
  have := heap_new (((w.alloc (.cells #[.int .i64 c] 3)).alloc (.cells #[.int .i64 wd] 3)).alloc (.cells #[.int .i64 bs] 3)) (.cells #[.string ⟨#[sp]⟩] 9)
  rwa [World.size_alloc, World.size_alloc, World.size_alloc] at this
 ·exact (((((Below.refl _ _).alloc (Nat.le_refl _) _).alloc (by simp) _).alloc (by simp <;> omega) _).alloc (by simp <;> omega) _).alloc (by simp <;> omega) _
set_option maxRecDepth 100000 in
theorem raw_A (w : World) : Calls Tryz.prog 161 #[.int .i64 1] w fun e w' => RawPost [.grp 4 1 10 46] w e w' := by
 have hmf := mkf
 go_enter Tryz.func161, Tryz.ntmps161
 go_wp2_with fail
 refine (numberPart_in _ _).mono ?_
 rintro e w1 ⟨rfl, ho1, hb1⟩
 go_wp2_with fail
 refine (numberPart_in _ _).mono ?_
 rintro e w2 ⟨rfl, ho2, hb2⟩
 go_wp2_with fail
 refine (numberPart_in _ _).mono ?_
 rintro e w3 ⟨rfl, ho3, hb3⟩
 have HT := Hid.mk (three_of ho1 hb1 ho2 hb2 ho3 hb3)
 clear ho1 ho2 ho3 hb1 hb2 hb3
 have HG := Hid.mk (groupsPartG_in 4 1 10 46)
 go_wp2_with fail
 refine (HG.out _).mono ?_
 rintro e w4 ⟨rfl, hgb, hb4⟩
 have h4 := HT.out.below hb4
 have hs4 := h4.bl.size
 have hs3 := HT.out.bl.size
 simp only [World.size_alloc] at hgb hs3
 clear HT
 go_wp2
 go_ret
 exact ⟨w4.heap.size, [aPart _], rfl, hs4, heap_new _ _, ⟨⟨_, hs3, rfl, by decide, hgb.alloc _⟩, trivial⟩, h4.bl.alloc hs4 _⟩
set_option maxRecDepth 100000 in
theorem raw_AAAA (w : World) : Calls Tryz.prog 161 #[.int .i64 28] w fun e w' => RawPost [.grp 8 2 16 58] w e w' := by
 have hmf := mkf
 go_enter Tryz.func161, Tryz.ntmps161
 go_wp2_with fail
 refine (numberPart_in _ _).mono ?_
 rintro e w1 ⟨rfl, ho1, hb1⟩
 go_wp2_with fail
 refine (numberPart_in _ _).mono ?_
 rintro e w2 ⟨rfl, ho2, hb2⟩
 go_wp2_with fail
 refine (numberPart_in _ _).mono ?_
 rintro e w3 ⟨rfl, ho3, hb3⟩
 have HT := Hid.mk (three_of ho1 hb1 ho2 hb2 ho3 hb3)
 clear ho1 ho2 ho3 hb1 hb2 hb3
 have HG := Hid.mk (groupsPartG_in 8 2 16 58)
 go_wp2_with fail
 refine (HG.out _).mono ?_
 rintro e w4 ⟨rfl, hgb, hb4⟩
 have h4 := HT.out.below hb4
 have hs4 := h4.bl.size
 have hs3 := HT.out.bl.size
 simp only [World.size_alloc] at hgb hs3
 clear HT
 go_wp2
 go_ret
 exact ⟨w4.heap.size, [aPart _], rfl, hs4, heap_new _ _, ⟨⟨_, hs3, rfl, by decide, hgb.alloc _⟩, trivial⟩, h4.bl.alloc hs4 _⟩
set_option maxRecDepth 100000 in
theorem raw_NSEC (w : World) : Calls Tryz.prog 161 #[.int .i64 47] w fun e w' => RawPost [.name, .types] w e w' := by
 have hmf := mkf
 go_enter Tryz.func161, Tryz.ntmps161
 go_wp2_with fail
 refine (numberPart_in _ _).mono ?_
 rintro e w1 ⟨rfl, ho1, hb1⟩
 go_wp2_with fail
 refine (numberPart_in _ _).mono ?_
 rintro e w2 ⟨rfl, ho2, hb2⟩
 go_wp2_with fail
 refine (numberPart_in _ _).mono ?_
 rintro e w3 ⟨rfl, ho3, hb3⟩
 have HT := Hid.mk (three_of ho1 hb1 ho2 hb2 ho3 hb3)
 clear ho1 ho2 ho3 hb1 hb2 hb3
 go_wp2_with fail
 refine (namePart_in _).mono ?_
 rintro e w4 ⟨rfl, hb4⟩
 have h4 := HT.out.below hb4
 clear HT
 go_wp2_with fail
 refine (typesPart_in _).mono ?_
 rintro e w5 ⟨rfl, hb5⟩
 have h5 := h4.below hb5
 have hs5 := h5.bl.size
 clear h4
 go_wp2
 go_ret
 exact ⟨w5.heap.size, [namePt, typesPt], rfl, hs5, heap_new _ _, ⟨rfl, rfl, trivial⟩, h5.bl.alloc hs5 _⟩
theorem raw_TXT (w : World) : Calls Tryz.prog 161 #[.int .i64 16] w fun e w' => RawPost [.strs] w e w' := by
 refine (partsOf_T w).mono ?_
 rintro e w1 ⟨g, hg, rfl, hc, hb⟩
 exact ⟨g, [txtPart], rfl, hg, hc, ⟨rfl, trivial⟩, hb⟩
theorem raw_any (k : Int) (hk : tabled k = false) (w : World) : Calls Tryz.prog 161 #[.int .i64 k] w fun e w' => RawPost [.any] w e w' := by
 refine (partsOf_other k hk w).mono ?_
 rintro e w1 ⟨g, hg, rfl, hc, hb⟩
 exact ⟨g, [otherPart], rfl, hg, hc, ⟨rfl, trivial⟩, hb⟩
end Go.Proofs.YtikjepodmdaknaaGreatDoor
/- The forms of types, on bytes alone: data fall into pieces just if they are right pieces, put one behind the other. -/
namespace Go.Proofs.YtikjepodmdaknaaGreatDoor
open Go.RowKit
theorem ba_of (x : ByteArray) : (⟨x.data.toList.toArray⟩ : ByteArray) = x := by apply ba_ext; rfl
theorem app_list (x y : ByteArray) : (x ++ y).data.toList = x.data.toList ++ y.data.toList := by rw [ByteArray.data_append, Array.toList_append]
theorem app_size (x y : ByteArray) : (x ++ y).size = x.size + y.size := by rw [← size_list, app_list, List.length_append, size_list, size_list]
theorem app_first (x y : ByteArray) : (x ++ y).extract 0 x.size = x := by
 apply ba_ext
 rw [Lib.extract_data, app_list, List.drop_zero, Nat.sub_zero, ← size_list, List.take_left']
 rfl
theorem app_rest (x y : ByteArray) : (x ++ y).extract x.size (x ++ y).size = y := by
 apply ba_ext
 rw [Lib.extract_data, app_list, app_size, ← size_list x, List.drop_left' rfl]
 exact List.take_of_length_le (by rw [size_list, size_list]; omega)
theorem app_empty (x : ByteArray) : x ++ (⟨#[]⟩ : ByteArray) = x := by
 apply ba_ext
 rw [app_list]; simp
theorem empty_app (x : ByteArray) : (⟨#[]⟩ : ByteArray) ++ x = x := by
 apply ba_ext
 rw [app_list]; simp
theorem split_at (s : ByteArray) (m : Nat) (hm : m ≤ s.size) : s = s.extract 0 m ++ s.extract m s.size := by
 apply ba_ext
 rw [app_list, Lib.extract_data, Lib.extract_data, List.drop_zero, Nat.sub_zero]
 rw [show (s.data.toList.drop m).take (s.size - m) = s.data.toList.drop m from List.take_of_length_le (by rw [List.length_drop, size_list]; exact Nat.le_refl _)]
 exact (List.take_append_drop m _).symm
theorem cut_all (s : ByteArray) : s.extract 0 s.size = s := by simp
def cat : List ByteArray → ByteArray
 | [] => ⟨#[]⟩
 | x :: xs => x ++ cat xs
theorem cat_list : ∀ xs : List ByteArray, (cat xs).data.toList = xs.flatMap (·.data.toList)
 | [] => rfl
 | x :: xs => by rw [cat, app_list, cat_list xs, List.flatMap_cons]
theorem cat_one (x : ByteArray) : cat [x] = x := app_empty x
theorem join_nil : ∀ l : List (List UInt8), Lib.join l [] = l.flatten
 | [] => rfl
 | [x] => by rw [Lib.join_one]; simp
 | x :: y :: r => by
  have ih := join_nil (y :: r)
  simp only [Lib.join, List.intercalate] at ih ⊢
  rw [List.intersperse_cons_cons, List.flatten_cons, List.flatten_cons, ih]
  simp
theorem cat_join (xs : List ByteArray) : (⟨(Lib.join (xs.map (·.data.toList)) []).toArray⟩ : ByteArray) = cat xs := by
 apply ba_ext
 rw [cat_list, ba_toList, join_nil, List.flatMap_def]
theorem cnt_cons (b : UInt8) (r : List UInt8) : cntK ⟨(b :: r).toArray⟩ = if b.toNat ≤ r.length then some (1 + b.toNat) else none := by
 have h0 : 0 < (⟨(b :: r).toArray⟩ : ByteArray).size := by rw [ba_size]; simp
 have hb : (⟨(b :: r).toArray⟩ : ByteArray)[0] = b := by rw [← getElem_list _ _ h0]; rfl
 unfold cntK
 rw [dif_pos h0, hb, ba_size, List.length_cons]
 by_cases h : b.toNat ≤ r.length
 ·rw [if_pos h, if_pos (by omega)]
 ·rw [if_neg h, if_neg (by omega)]
theorem cnt_le {s : ByteArray} {m : Nat} (h : cntK s = some m) : 1 ≤ m ∧ m ≤ s.size ∧ m ≤ 256 := by
 unfold cntK at h
 split at h
 ·rename_i h0
  have hu := s[0].toNat_lt
  split at h
  ·cases h; omega
  ·cases h
 ·cases h
theorem list_cases (s : ByteArray) : s = ⟨#[]⟩ ∨ ∃ b r, s = ⟨(b :: r).toArray⟩ := by
 cases hl : s.data.toList with
 | nil => exact .inl (ba_ext hl)
 | cons b r => exact .inr ⟨b, r, ba_ext hl⟩
theorem cnt_pos {s : ByteArray} {m : Nat} (h : cntK s = some m) : ∃ b r, s = ⟨(b :: r).toArray⟩ ∧ b.toNat ≤ r.length ∧ m = 1 + b.toNat := by
 rcases list_cases s with rfl | ⟨b, r, rfl⟩
 ·cases h
 ·rw [cnt_cons] at h
  split at h
  ·rename_i hb
   cases h
   exact ⟨b, r, rfl, hb, rfl⟩
  ·cases h
theorem mk_app (a b : List UInt8) : (⟨a.toArray⟩ : ByteArray) ++ (⟨b.toArray⟩ : ByteArray) = ⟨(a ++ b).toArray⟩ := by apply ba_ext; rw [app_list]
theorem cnt_app {x : ByteArray} (h : cntK x = some x.size) (t : ByteArray) : cntK (x ++ t) = some x.size := by
 obtain ⟨b, r, rfl, hb, hm⟩ := cnt_pos h
 rw [← ba_of t, mk_app, List.cons_append, cnt_cons, if_pos (by simp; omega), hm]
theorem cnt_cut {s : ByteArray} {m : Nat} (h : cntK s = some m) : cntK (s.extract 0 m) = some (s.extract 0 m).size := by
 obtain ⟨b, r, rfl, hb, rfl⟩ := cnt_pos h
 have hx : (⟨(b :: r).toArray⟩ : ByteArray).extract 0 (1 + b.toNat) = ⟨(b :: r.take b.toNat).toArray⟩ := by
  apply ba_ext
  rw [Lib.extract_data, List.drop_zero, Nat.sub_zero, Nat.add_comm, ba_toList, ba_toList, List.take_succ_cons]
 rw [hx, cnt_cons, ba_size, List.length_cons, List.length_take, Nat.min_eq_left hb, if_pos (Nat.le_refl _), Nat.add_comm]
theorem nmGo_le : ∀ (n : Nat) (s : ByteArray) (m : Nat), nmGo n s = some m → 1 ≤ m ∧ m ≤ s.size
 | 0, s, m, h => by cases h
 | n + 1, s, m, h => by
  rw [nmGo] at h
  cases hc : cntK s with
  | none => rw [hc] at h; cases h
  | some j =>
   rw [hc] at h
   have hj := cnt_le hc
   simp only at h
   split at h
   ·cases h; omega
   ·rw [Option.map_eq_some_iff] at h
    obtain ⟨q, hq, rfl⟩ := h
    have := nmGo_le n _ q hq
    rw [ByteArray.size_extract] at this
    omega
theorem drop_cons (b : UInt8) (l t : List UInt8) (n : Nat) (h : n = l.length) : (⟨(b :: (l ++ t)).toArray⟩ : ByteArray).extract (1 + n) (⟨(b :: (l ++ t)).toArray⟩ : ByteArray).size = ⟨t.toArray⟩ := by
 subst h
 apply ba_ext
 rw [Lib.extract_data, ba_toList, ba_size, Nat.add_comm, List.drop_succ_cons, List.drop_left' rfl, ba_toList]
 exact List.take_of_length_le (by simp)
theorem nmGo_flat : ∀ (ls : List (List UInt8)) (t : List UInt8) (n : Nat), (∀ l ∈ ls, 1 ≤ l.length ∧ l.length ≤ 63) → ls.length < n → nmGo n ⟨(flat ls ++ 0 :: t).toArray⟩ = some ((flat ls).length + 1)
 | [], t, 0, _, h => by simp at h
 | [], t, n + 1, _, _ => by
  rw [nmGo, show flat [] ++ 0 :: t = 0 :: t from rfl, cnt_cons, if_pos (by simp)]
  rfl
 | l :: ls, t, 0, _, h => by simp at h
 | l :: ls, t, n + 1, hl, h => by
  have hl1 := hl l (by simp)
  have hu : (UInt8.ofNat l.length).toNat = l.length := by rw [UInt8.toNat_ofNat']; omega
  have ih := nmGo_flat ls t n (fun x hx => hl x (by simp [hx])) (by simp at h; omega)
  have e : flat (l :: ls) ++ 0 :: t = UInt8.ofNat l.length :: (l ++ (flat ls ++ 0 :: t)) := by simp [flat]
  rw [nmGo, e, cnt_cons, hu, if_pos (by simp)]
  simp only
  rw [if_neg (by omega), drop_cons _ l (flat ls ++ 0 :: t) l.length rfl, ih]
  simp [flat]; omega
theorem flat_long : ∀ (ls : List (List UInt8)), ls.length ≤ (flat ls).length
 | [] => by simp
 | l :: ls => by have := flat_long ls; simp [flat]; omega
theorem name_app {x : ByteArray} (h : IsName x) (t : ByteArray) : nameK (x ++ t) = some x.size := by
 have h' := h
 obtain ⟨ls, ho, rfl⟩ := h
 have e : nm ls ++ t = ⟨(flat ls ++ 0 :: t.data.toList).toArray⟩ := by
  apply ba_ext
  rw [app_list, nm_list, nmL]; simp
 have hg := nmGo_flat ls t.data.toList ((nm ls ++ t).size + 1) ho.lab (by have := flat_long ls; rw [app_size, nm_size]; omega)
 rw [← e] at hg
 unfold nameK
 rw [hg, ← nm_size]
 simp only
 rw [if_pos (by rw [app_first]; exact h')]
theorem nameK_ok {s : ByteArray} {m : Nat} (h : nameK s = some m) : m ≤ s.size ∧ IsName (s.extract 0 m) := by
 unfold nameK at h
 cases hg : nmGo (s.size + 1) s with
 | none => rw [hg] at h; cases h
 | some j =>
  rw [hg] at h
  simp only at h
  split at h
  ·cases h
   exact ⟨(nmGo_le _ _ _ hg).2, by assumption⟩
  ·cases h
def Good : PK → ByteArray → Prop
 | .num n, x => x.size = n
 | .grp c w _ _, x => x.size = c * w
 | .name, x => IsName x
 | .type, x => x.size = 2
 | .hex, x => 0 < x.size
 | .salt, x => cntK x = some x.size
 | .hash, x => cntK x = some x.size ∧ 1 < x.size
 | .types, x => (typesR x).isSome = true
 | .any, x => True
 | .strs, x => txtPf 0 x = some x.size
def delim : PK → Bool
 | .hex | .types | .any | .strs => false
 | _ => true
theorem take_ok {n m : Nat} {s : ByteArray} (h : takeK n s = some m) : m ≤ s.size ∧ (s.extract 0 m).size = n := by
 unfold takeK at h
 split at h
 ·cases h
  rw [ByteArray.size_extract]
  omega
 ·cases h
theorem take_app {n : Nat} {x : ByteArray} (h : x.size = n) (t : ByteArray) : takeK n (x ++ t) = some x.size := by
 unfold takeK
 rw [if_pos (by rw [app_size]; omega), h]
theorem pass_good (p : PK) (s : ByteArray) (m : Nat) (h : passK p s = some m) : m ≤ s.size ∧ Good p (s.extract 0 m) := by
 cases p with
 | num n => exact take_ok h
 | grp c w b sep => exact take_ok h
 | name => exact nameK_ok h
 | type => exact take_ok h
 | hex =>
  simp only [passK] at h
  split at h
  ·cases h
   rw [cut_all]
   exact ⟨Nat.le_refl _, by assumption⟩
  ·cases h
 | salt => exact ⟨(cnt_le h).2.1, cnt_cut h⟩
 | hash =>
  simp only [passK, hashK] at h
  cases hc : cntK s with
  | none => rw [hc] at h; cases h
  | some j =>
   rw [hc] at h
   simp only at h
   split at h
   ·cases h
    have := cnt_le hc
    refine ⟨this.2.1, cnt_cut hc, ?_⟩
    rw [ByteArray.size_extract]
    omega
   ·cases h
 | types =>
  simp only [passK] at h
  split at h
  ·cases h
   rw [cut_all]
   exact ⟨Nat.le_refl _, by assumption⟩
  ·cases h
 | any =>
  cases h
  exact ⟨Nat.le_refl _, trivial⟩
 | strs =>
  have h' : txtPf 0 s = some m := h
  have hm : m = s.size := by
   unfold txtPf at h'
   split at h'
   ·cases h'; rfl
   ·cases h'
  subst hm
  rw [cut_all]
  exact ⟨Nat.le_refl _, h'⟩
theorem good_app (p : PK) (hp : delim p = true) (x : ByteArray) (h : Good p x) (t : ByteArray) : passK p (x ++ t) = some x.size := by
 cases p with
 | num n => exact take_app h t
 | grp c w b sep => exact take_app h t
 | name => exact name_app h t
 | type => exact take_app h t
 | salt => exact cnt_app h t
 | hash =>
  simp only [passK, hashK]
  rw [cnt_app h.1 t]
  simp only
  rw [if_pos h.2]
 | hex => cases hp
 | types => cases hp
 | any => cases hp
 | strs => cases hp
theorem good_self (p : PK) (x : ByteArray) (h : Good p x) : passK p x = some x.size := by
 cases hp : delim p with
 | true =>
  have := good_app p hp x h ⟨#[]⟩
  rwa [app_empty] at this
 | false =>
  cases p with
  | hex => exact if_pos h
  | types => exact if_pos h
  | any => rfl
  | strs => exact h
  | num n => cases hp
  | grp c w b sep => cases hp
  | name => cases hp
  | type => cases hp
  | salt => cases hp
  | hash => cases hp
def AllGood : List PK → List ByteArray → Prop
 | [], [] => True
 | p :: ps, x :: xs => Good p x ∧ AllGood ps xs
 | _, _ => False
theorem AllGood.len : ∀ {F : List PK} {xs : List ByteArray}, AllGood F xs → xs.length = F.length
 | [], [], _ => rfl
 | p :: F, x :: xs, h => by have := AllGood.len h.2; simp [this]
 | [], _ :: _, h => h.elim
 | _ :: _, [], h => h.elim
noncomputable def cutF : List PK → ByteArray → Option (List ByteArray × ByteArray)
 | [], s => some ([], s)
 | p :: F, s => match passK p s with
  | none => none
  | some m => (cutF F (s.extract m s.size)).map fun r => (s.extract 0 m :: r.1, r.2)
theorem cutF_sound : ∀ (F : List PK) (s : ByteArray) (r : List ByteArray × ByteArray), cutF F s = some r → s = cat r.1 ++ r.2 ∧ AllGood F r.1
 | [], s, r, h => by cases h; exact ⟨(empty_app s).symm, trivial⟩
 | p :: F, s, r, h => by
  rw [cutF] at h
  cases hp : passK p s with
  | none => rw [hp] at h; cases h
  | some m =>
   rw [hp] at h
   simp only [Option.map_eq_some_iff] at h
   obtain ⟨q, hq, rfl⟩ := h
   obtain ⟨h1, h2⟩ := cutF_sound F _ q hq
   obtain ⟨hm, hg⟩ := pass_good p s m hp
   refine ⟨?_, hg, h2⟩
   conv => lhs; rw [split_at s m hm, h1]
   show s.extract 0 m ++ (cat q.1 ++ q.2) = (s.extract 0 m ++ cat q.1) ++ q.2
   rw [ByteArray.append_assoc]
def delims : List PK → Bool
 | [] => true
 | [_] => true
 | p :: F => delim p && delims F
theorem cutF_cat : ∀ (F : List PK) (xs : List ByteArray), delims F = true → AllGood F xs → cutF F (cat xs) = some (xs, ⟨#[]⟩)
 | [], [], _, _ => rfl
 | [], _ :: _, _, h => h.elim
 | _ :: _, [], _, h => h.elim
 | [p], x :: xs, _, h => by
  obtain ⟨h1, h2⟩ := h
  cases xs with
  | cons y ys => exact h2.elim
  | nil =>
   rw [cat_one, cutF, good_self p x h1]
   simp only [cutF, Option.map_some]
   rw [cut_all, end_cut]
 | p :: q :: F, x :: xs, hd, h => by
  obtain ⟨h1, h2⟩ := h
  rw [show delims (p :: q :: F) = (delim p && delims (q :: F)) from rfl, Bool.and_eq_true] at hd
  rw [cutF, cat, good_app p hd.1 x h1]
  simp only
  rw [app_first, app_rest, cutF_cat (q :: F) xs hd.2 h2]
  rfl
theorem cutP_eq : ∀ (F : List PK) (pf : Nat → ByteArray → Option Nat) (k : Nat) (s : ByteArray), (∀ j p, F[j]? = some p → pf (k + j) = passK p) → cutP pf F.length k s = cutF F s
 | [], pf, k, s, _ => rfl
 | p :: F, pf, k, s, h => by
  have h0 : pf k = passK p := h 0 p rfl
  rw [List.length_cons, cutP, cutF, h0]
  cases passK p s with
  | none => rfl
  | some m =>
   simp only
   rw [cutP_eq F pf (k + 1) _ (fun j q hj => by rw [show k + 1 + j = k + (j + 1) by omega]; exact h (j + 1) q hj)]
noncomputable def pfK (F : List PK) : Nat → ByteArray → Option Nat := fun j s => match F[j]? with
 | some p => passK p s
 | none => none
theorem form_delims (k : Int) : delims (formOf k) = true := by
 unfold formOf
 repeat' split
 all_goals rfl
theorem form_len (k : Int) : (formOf k).length ≤ 20 ∧ 1 ≤ (formOf k).length := by
 unfold formOf
 repeat' split
 all_goals simp
noncomputable def splitR (k : Int) (s : ByteArray) : Option (List ByteArray) := if (0 ≤ k ∧ k ≤ 65535) ∧ s.size ≤ 2000 then fin (pfK (formOf k)) (formOf k).length s else none
theorem fin_eq (F : List PK) (s : ByteArray) : fin (pfK F) F.length s = match cutF F s with
  | none => none
  | some r => if r.2.size = 0 then some r.1 else none := by
 unfold fin
 rw [cutP_eq F (pfK F) 0 s (fun j p hj => by funext x; rw [Nat.zero_add, pfK, hj])]
 cases cutF F s <;> rfl
theorem split_iff (k : Int) (s : ByteArray) (xs : List ByteArray) : splitR k s = some xs ↔ (0 ≤ k ∧ k ≤ 65535) ∧ s.size ≤ 2000 ∧ s = cat xs ∧ AllGood (formOf k) xs := by
 unfold splitR
 constructor
 ·intro h
  split at h
  ·rename_i hk
   rw [fin_eq] at h
   cases hc : cutF (formOf k) s with
   | none => rw [hc] at h; cases h
   | some r =>
    rw [hc] at h
    simp only at h
    split at h
    ·rename_i h0
     cases h
     obtain ⟨h1, h2⟩ := cutF_sound _ _ _ hc
     refine ⟨hk.1, hk.2, ?_, h2⟩
     rw [ba_empty _ h0, app_empty] at h1
     exact h1
    ·cases h
  ·cases h
 ·rintro ⟨hk, hs, rfl, hg⟩
  rw [if_pos ⟨hk, hs⟩, fin_eq, cutF_cat _ _ (form_delims k) hg]
  rfl
theorem split_none (k : Int) (s : ByteArray) (h : ¬ ((0 ≤ k ∧ k ≤ 65535) ∧ s.size ≤ 2000)) : splitR k s = none := if_neg h
end Go.Proofs.YtikjepodmdaknaaGreatDoor
/- split and Right, of every type. -/
namespace Go.Proofs.YtikjepodmdaknaaGreatDoor
open Go.RowKit
theorem raw_all (k : Int) (w : World) : Calls Tryz.prog 161 #[.int .i64 k] w fun e w' => RawPost (formOf k) w e w' := by
 unfold formOf
 split
 ·rename_i h; subst h; exact raw_A w
 ·split
  ·rename_i h; subst h; exact raw_AAAA w
  ·split
   ·rename_i h; exact raw_name k h w
   ·split
    ·rename_i h; subst h; exact raw_SOA w
    ·split
     ·rename_i h; subst h; exact raw_MX w
     ·split
      ·rename_i h; subst h; exact raw_TXT w
      ·split
       ·rename_i h
        rcases h with rfl | rfl
        ·exact raw_DS w
        ·exact raw_KEY w
       ·split
        ·rename_i h; subst h; exact raw_SIG w
        ·split
         ·rename_i h; subst h; exact raw_NSEC w
         ·split
          ·rename_i h; subst h; exact raw_NSEC3 w
          ·refine raw_any k ?_ w
           simp only [tabled, Bool.or_eq_false_iff, beq_eq_false_iff_ne]
           omega
theorem typesPass_in (W : World) (d : Nat) (s : ByteArray) (hs : s.size ≤ 2000) (h : Rd W d s) :
  Calls Tryz.prog 233 #[boxV d] W fun e w' => PassPost (if (typesR s).isSome then some s.size else none) s d W w' e := by
 have T := Hid.mk (all_in W d s (by unfold maxLen; omega) h)
 have hr1 := Hid.mk (h.set ⟨#[]⟩)
 have hk1 := Hid.mk (Kept.set d 0 W (.string ⟨#[]⟩))
 have HT := Hid.mk (fun w => typesOf_in w s hs)
 have hec := Hid.mk (end_cut s)
 cases hr : typesR s with
 | some l =>
  rw [hr] at HT
  go_enter Tryz.func233, Tryz.ntmps233
  go_wp2_with fail
  refine T.out.mono ?_
  rintro e w1 ⟨rfl, rfl⟩
  go_wp2_with fail
  refine (HT.out _).mono ?_
  rintro e w2 ⟨⟨v, rfl, _⟩, hb2⟩
  go_wp2
  refine bodyPost_end (results_none rfl _ _ _) rfl ⟨Nat.le_refl _, rfl, ?_, hk1.out.trans (Kept.of_below hb2)⟩
  rw [hec.out]; exact hr1.out.below hb2
 | none =>
  rw [hr] at HT
  go_enter Tryz.func233, Tryz.ntmps233
  go_wp2_with fail
  refine T.out.mono ?_
  rintro e w1 ⟨rfl, rfl⟩
  go_wp2_with fail
  refine (HT.out _).mono ?_
  rintro e w2 ⟨rfl, hb2⟩
  go_wp2
  exact ⟨rfl, rfl, hk1.out.trans (Kept.of_below hb2)⟩
theorem grpPassG_in (W : World) (b d c wd bs : Nat) (sp : UInt8) (hb : GrpB W b c wd bs sp) (hn : c * wd ≤ 100) (hc : c ≤ 100) (hw : wd ≤ 100) (s : ByteArray) (hs : s.size ≤ 2000) (h : Rd W d s) :
  Calls Tryz.prog 213 #[boxV d, boxV b, boxV (b + 1)] W fun e w' => PassPost (takeK (c * wd) s) s d W w' e := by
 have c0 := box_cell hb.cnt
 have c1 := box_cell hb.wid
 have hm : IntKind.i64.wrap ((c : Int) * (wd : Int)) = ((c * wd : Nat) : Int) := by rw [IntKind.wrap_i64, Int.natCast_mul]; omega
 have T := Hid.mk (take_post W d (c * wd) s hs hn h)
 have hmul : (c : Int) * (wd : Int) = ((c * wd : Nat) : Int) := by rw [Int.natCast_mul]
 cases hr : takeK (c * wd) s with
 | some m =>
  rw [hr] at T
  clear hr
  generalize c * wd = q at hm T hmul hn
  go_enter Tryz.func213, Tryz.ntmps213
  go_wp2_with fail
  refine T.out.mono ?_
  rintro e w1 ⟨hm, rfl, hr1, hk1⟩
  go_wp2
  exact bodyPost_end (results_none rfl _ _ _) rfl ⟨hm, rfl, hr1, hk1⟩
 | none =>
  rw [hr] at T
  clear hr
  generalize c * wd = q at hm T hmul hn
  go_enter Tryz.func213, Tryz.ntmps213
  go_wp2_with fail
  refine T.out.mono ?_
  rintro e w1 ⟨rfl, hk1⟩
  go_wp2
  exact ⟨rfl, rfl, hk1⟩
theorem GrpB.below {W W' : World} {b c wd bs : Nat} {sp : UInt8} (h : GrpB W b c wd bs sp) (k : Below W.heap.size W W') : GrpB W' b c wd bs sp :=
 ⟨(k.block _ (box_lt h.cnt)).trans h.cnt, (k.block _ (box_lt h.wid)).trans h.wid, (k.block _ (box_lt h.bas)).trans h.bas, (k.block _ (box_lt h.btw)).trans h.btw⟩
theorem pass_in (n₀ : Nat) (w' W' : World) (p : Part) (k : PK) (hp : PartIs n₀ w' p k) (hg : ∀ c w b s, k = .grp c w b s → c ≤ 100 ∧ w ≤ 100) (hb : Below w'.heap.size w' W') (d : Nat) (s : ByteArray) (hr : Rd W' d s) (hs : s.size ≤ 2000) :
  Calls Tryz.prog p.pass (#[boxV d] ++ p.passC) W' fun e w'' => PassPost (passK k s) s d W' w'' e := by
 cases k with
 | num n =>
  obtain ⟨b, _, rfl, hn, ho⟩ := hp
  exact numPass_in W' b d n hn ((hb.block _ (box_lt ho)).trans ho) s hs hr
 | grp c w b sp =>
  obtain ⟨x, _, rfl, hn, ho⟩ := hp
  obtain ⟨hc, hw⟩ := hg c w b sp rfl
  exact grpPassG_in W' x d c w b sp (ho.below hb) hn hc hw s hs hr
 | name => obtain rfl := hp; exact passName_in W' d s hs hr
 | type => obtain rfl := hp; exact typePass_in W' d s hs hr
 | hex => obtain rfl := hp; exact hexPass_in W' d s hs hr
 | salt => obtain rfl := hp; exact saltPass_in W' d s hs hr
 | hash => obtain rfl := hp; exact hashPass_in W' d s hs hr
 | types => obtain rfl := hp; exact typesPass_in W' d s hs hr
 | any => obtain rfl := hp; exact anyPass_in W' d s hs hr
 | strs => obtain rfl := hp; exact passStrings_in W' d s hs hr
theorem pass_enters (n₀ : Nat) (w' : World) (p : Part) (k : PK) (hp : PartIs n₀ w' p k) : Enters p.pass := by
 cases k with
 | num n => obtain ⟨b, _, rfl, _⟩ := hp; exact enters_by Tryz.func206 (by kernel_rfl) rfl
 | grp c w b sp => obtain ⟨x, _, rfl, _⟩ := hp; exact enters_by Tryz.func213 (by kernel_rfl) rfl
 | name => obtain rfl := hp; exact enters_by Tryz.func217 (by kernel_rfl) rfl
 | type => obtain rfl := hp; exact enters_by Tryz.func228 (by kernel_rfl) rfl
 | hex => obtain rfl := hp; exact enters_by Tryz.func223 (by kernel_rfl) rfl
 | salt => obtain rfl := hp; exact enters_by Tryz.func237 (by kernel_rfl) rfl
 | hash => obtain rfl := hp; exact enters_by Tryz.func242 (by kernel_rfl) rfl
 | types => obtain rfl := hp; exact enters_by Tryz.func233 (by kernel_rfl) rfl
 | any => obtain rfl := hp; exact enters_by Tryz.func247 (by kernel_rfl) rfl
 | strs => obtain rfl := hp; exact enters_by Tryz.func220 (by kernel_rfl) rfl
theorem form_grp (k : Int) : ∀ p ∈ formOf k, ∀ c w b s, p = PK.grp c w b s → c ≤ 100 ∧ w ≤ 100 := by
 unfold formOf
 repeat' split
 all_goals
  intro p hp c w b s e
  subst e
  simp at hp
  try omega
theorem parts_all (k : Int) (w : World) : Calls Tryz.prog 161 #[.int .i64 k] w fun e w' => PartsPost (formOf k).length (pfK (formOf k)) w e w' := by
 refine (raw_all k w).mono ?_
 rintro e w' ⟨g, ps, rfl, hg, hc, hp, hb⟩
 have hl := hp.len
 refine ⟨g, fun j => ps.getD j default, rfl, by rw [← hl]; exact parts_in hc, ?_, ?_, hb⟩
 ·intro j hj
  exact pass_enters _ _ _ _ (hp.at j _ (List.getElem?_eq_getElem hj))
 ·intro j hj W' d s' hb' _ hr hs
  have hpf : pfK (formOf k) j s' = passK (formOf k)[j] s' := by
   unfold pfK
   rw [List.getElem?_eq_getElem hj]
  rw [hpf]
  exact pass_in _ _ _ _ _ (hp.at j _ (List.getElem?_eq_getElem hj)) (form_grp k _ (List.getElem_mem hj)) hb' d s' hr hs
theorem split_all (k : Int) (s : ByteArray) (hm : s.size ≤ maxLen) (W : World) : Calls Tryz.prog 127 #[.int .i64 k, .string s] W fun e w' => SplitPost (splitR k s) W e w' := by
 by_cases h : (0 ≤ k ∧ k ≤ 65535) ∧ s.size ≤ 2000
 ·rw [splitR, if_pos h]
  exact split_in W (formOf k).length (form_len k).1 k h.1 s h.2 _ (parts_all k)
 ·rw [split_none k s h]
  refine split_long W k s hm ?_
  by_cases hk : 0 ≤ k ∧ k ≤ 65535
  ·exact .inr (by apply Decidable.byContradiction; intro hl; exact h ⟨hk, by omega⟩)
  ·exact .inl (by simp; omega)
theorem right_all (k : Int) (s : ByteArray) (hm : s.size ≤ maxLen) (W : World) : Calls Tryz.prog 156 #[.int .i64 k, .string s] W fun e w' => e = .returned (.bool (splitR k s).isSome) ∧ Below W.heap.size W w' :=
 right_of (split_all k s hm) W
end Go.Proofs.YtikjepodmdaknaaGreatDoor
/- Small letters in the names of data, on bytes alone. -/
namespace Go.Proofs.YtikjepodmdaknaaGreatDoor
open Go.RowKit
theorem lowB_lowB (c : UInt8) : lowB (lowB c) = lowB c := by
 have h := lowB_toNat c
 apply UInt8.toNat_inj.1
 rw [lowB_toNat, h]
 split
 ·rw [if_neg (by omega)]
 ·rfl
def lowA (x : ByteArray) : ByteArray := ⟨(x.data.toList.map lowB).toArray⟩
theorem lowA_size (x : ByteArray) : (lowA x).size = x.size := by rw [lowA, ba_size, List.length_map, size_list]
theorem lowA_lowA (x : ByteArray) : lowA (lowA x) = lowA x := by
 apply ba_ext
 simp [lowA, lowB_lowB]
theorem lowA_nm {ls : List (List UInt8)} (h : OkN ls) : lowA (nm ls) = nm (lowN ls) := nm_low h
theorem lowA_name {x : ByteArray} (h : IsName x) : IsName (lowA x) := by
 obtain ⟨ls, ho, rfl⟩ := h
 exact ⟨lowN ls, ho.low, lowA_nm ho⟩
def isNm : PK → Bool
 | .name => true
 | _ => false
def lowX (p : PK) (x : ByteArray) : ByteArray := if isNm p then lowA x else x
theorem lowX_size (p : PK) (x : ByteArray) : (lowX p x).size = x.size := by
 unfold lowX
 split
 ·exact lowA_size x
 ·rfl
theorem lowX_good (p : PK) (x : ByteArray) (h : Good p x) : Good p (lowX p x) := by
 cases p <;> first | exact h | exact lowA_name h
def lowXs : List PK → List ByteArray → List ByteArray
 | p :: F, x :: xs => lowX p x :: lowXs F xs
 | _, xs => xs
theorem lowXs_good : ∀ (F : List PK) (xs : List ByteArray), AllGood F xs → AllGood F (lowXs F xs)
 | [], [], _ => trivial
 | p :: F, x :: xs, h => ⟨lowX_good p x h.1, lowXs_good F xs h.2⟩
 | [], _ :: _, h => h.elim
 | _ :: _, [], h => h.elim
theorem lowXs_size : ∀ (F : List PK) (xs : List ByteArray), (cat (lowXs F xs)).size = (cat xs).size
 | [], _ => rfl
 | _ :: _, [] => rfl
 | p :: F, x :: xs => by rw [lowXs, cat, cat, app_size, app_size, lowX_size, lowXs_size F xs]
def nameds (k : Int) : Bool := k == 2 || k == 5 || k == 39 || k == 6 || k == 15
def lowers (k : Int) : Bool := nameds k || k == 46
noncomputable def lowR (k : Int) (s : ByteArray) : ByteArray := if lowers k then (match splitR k s with
 | none => s
 | some xs => cat (lowXs (formOf k) xs)) else s
theorem lowR_split (k : Int) (s : ByteArray) (xs : List ByteArray) (hl : lowers k = true) (h : splitR k s = some xs) : lowR k s = cat (lowXs (formOf k) xs) ∧ splitR k (lowR k s) = some (lowXs (formOf k) xs) := by
 have e : lowR k s = cat (lowXs (formOf k) xs) := by
  rw [lowR, if_pos hl, h]
 refine ⟨e, ?_⟩
 obtain ⟨hk, hs, rfl, hg⟩ := (split_iff k s xs).1 h
 rw [e]
 exact (split_iff k _ _).2 ⟨hk, by rw [lowXs_size]; exact hs, rfl, lowXs_good _ _ hg⟩
theorem lowR_none (k : Int) (s : ByteArray) (h : splitR k s = none) : lowR k s = s := by
 rw [lowR, h]
 split <;> rfl
end Go.Proofs.YtikjepodmdaknaaGreatDoor
