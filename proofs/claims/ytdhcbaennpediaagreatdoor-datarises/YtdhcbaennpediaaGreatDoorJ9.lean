/- Texts of this proof, joined: DPartsD, DPartsE, DPartsF, DSplitA, DSmallF, DLower. -/
import Derived.Test.YtdhcbaennpediaaGreatDoorJ8
import Derived.Test.YtdhcbaennpediaaGreatDoorJ7
import Derived.Test.YtdhcbaennpediaaGreatDoorJ2
/- partsOf: the form of RRSIG. -/
namespace Go.Proofs.YtdhcbaennpediaaGreatDoor
set_option linter.unusedVariables false
set_option linter.unusedSimpArgs false
open Go.RowKit

set_option maxRecDepth 100000 in
set_option maxHeartbeats 4000000 in
theorem raw_SIG (w : World) : Calls Tryz.prog 65 #[.int .i64 46] w fun e w' => RawPost [.type, .num 1, .num 1, .num 4, .num 4, .num 4, .num 2, .name, .hex] w e w' := by
  have hmf := mkf
  have hmo : Tryz.prog.follows Departure.mixedOrders = true := by kernel_rfl
  go_enter Tryz.func65, Tryz.ntmps65
  go_wp2_with fail
  refine (numberPart_in _ _).mono ?_
  rintro e w1 ⟨rfl, ho1, hb1⟩
  go_wp2_with fail
  refine (numberPart_in _ _).mono ?_
  rintro e w2 ⟨rfl, ho2, hb2⟩
  go_wp2_with fail
  refine (numberPart_in _ _).mono ?_
  rintro e w3 ⟨rfl, ho3, hb3⟩
  have T := three_of ho1 hb1 ho2 hb2 ho3 hb3
  clear ho1 ho2 ho3 hb1 hb2 hb3
  go_wp2
  obtain ⟨WB, hWB⟩ : ∃ WB, WB = (((w3.alloc (.cells (numP w.heap.size) 128)).alloc (.cells (numP w1.heap.size) 128)).alloc (.cells (numP w2.heap.size) 128)) := ⟨_, rfl⟩
  rw [← hWB] at T
  rw [← hWB]
  clear hWB
  have HL : Hid (∀ (G : Prop) (A B : World), Three w A w3.heap.size w.heap.size w1.heap.size w2.heap.size → Below A.heap.size A B → (Three w B w3.heap.size w.heap.size w1.heap.size w2.heap.size → B.cell? ⟨w3.heap.size, 0, none⟩ = some (fnV 99 #[boxV (w.heap.size)]) → B.cell? ⟨w3.heap.size, 1, none⟩ = some (fnV 100 #[]) → B.cell? ⟨w3.heap.size, 2, none⟩ = some (fnV 102 #[boxV (w.heap.size)]) → B.cell? ⟨w3.heap.size, 3, none⟩ = some (.bool false) → B.cell? ⟨w3.heap.size + 1, 0, none⟩ = some (fnV 99 #[boxV (w1.heap.size)]) → B.cell? ⟨w3.heap.size + 1, 1, none⟩ = some (fnV 100 #[]) → B.cell? ⟨w3.heap.size + 1, 2, none⟩ = some (fnV 102 #[boxV (w1.heap.size)]) → B.cell? ⟨w3.heap.size + 1, 3, none⟩ = some (.bool false) → B.cell? ⟨w3.heap.size + 1 + 1, 0, none⟩ = some (fnV 99 #[boxV (w2.heap.size)]) → B.cell? ⟨w3.heap.size + 1 + 1, 1, none⟩ = some (fnV 100 #[]) → B.cell? ⟨w3.heap.size + 1 + 1, 2, none⟩ = some (fnV 102 #[boxV (w2.heap.size)]) → B.cell? ⟨w3.heap.size + 1 + 1, 3, none⟩ = some (.bool false) → G) → G) := by
    intro G A B hT hB hG
    have hT' := hT.below hB
    exact hG hT' (cells4 hT'.p1).1 (cells4 hT'.p1).2.1 (cells4 hT'.p1).2.2.1 (cells4 hT'.p1).2.2.2 (cells4 hT'.p2).1 (cells4 hT'.p2).2.1 (cells4 hT'.p2).2.2.1 (cells4 hT'.p2).2.2.2 (cells4 hT'.p3).1 (cells4 hT'.p3).2.1 (cells4 hT'.p3).2.2.1 (cells4 hT'.p3).2.2.2
  obtain ⟨a10, a11, a12, a13⟩ := cells4 T.p1
  obtain ⟨a20, a21, a22, a23⟩ := cells4 T.p2
  obtain ⟨a30, a31, a32, a33⟩ := cells4 T.p3
  have T0 := T.drew
  go_region_held3 (fun w' => w'.cell? ⟨w3.heap.size, 0, none⟩ = some (fnV 99 #[boxV (w.heap.size)]) ∧ w'.cell? ⟨w3.heap.size, 1, none⟩ = some (fnV 100 #[]) ∧ w'.cell? ⟨w3.heap.size, 2, none⟩ = some (fnV 102 #[boxV (w.heap.size)]) ∧ w'.cell? ⟨w3.heap.size, 3, none⟩ = some (.bool false) ∧ w'.cell? ⟨w3.heap.size + 1, 0, none⟩ = some (fnV 99 #[boxV (w1.heap.size)]) ∧ w'.cell? ⟨w3.heap.size + 1, 1, none⟩ = some (fnV 100 #[]) ∧ w'.cell? ⟨w3.heap.size + 1, 2, none⟩ = some (fnV 102 #[boxV (w1.heap.size)]) ∧ w'.cell? ⟨w3.heap.size + 1, 3, none⟩ = some (.bool false) ∧ w'.cell? ⟨w3.heap.size + 1 + 1, 0, none⟩ = some (fnV 99 #[boxV (w2.heap.size)]) ∧ w'.cell? ⟨w3.heap.size + 1 + 1, 1, none⟩ = some (fnV 100 #[]) ∧ w'.cell? ⟨w3.heap.size + 1 + 1, 2, none⟩ = some (fnV 102 #[boxV (w2.heap.size)]) ∧ w'.cell? ⟨w3.heap.size + 1 + 1, 3, none⟩ = some (.bool false)) (first | ((repeat' apply And.intro) <;> assumption) | go_keep)
    (first | (go_at_call 86; refine (typePart_in _).mono ?_; rintro e x1 ⟨rfl, hx1⟩; refine HL.out _ _ x1 T0 hx1 ?_; intro T1 d10_1 d11_1 d12_1 d13_1 d20_1 d21_1 d22_1 d23_1 d30_1 d31_1 d32_1 d33_1) | (go_at_call 83; refine (namePart_in _).mono ?_; rintro e x2 ⟨rfl, hx2⟩; refine HL.out _ _ x2 T1 hx2 ?_; intro T2 d10_2 d11_2 d12_2 d13_2 d20_2 d21_2 d22_2 d23_2 d30_2 d31_2 d32_2 d33_2) | (go_at_call 85; refine (hexPart_in _).mono ?_; rintro e x3 ⟨rfl, hx3⟩; refine HL.out _ _ x3 T2 hx3 ?_; intro T3 d10_3 d11_3 d12_3 d13_3 d20_3 d21_3 d22_3 d23_3 d30_3 d31_3 d32_3 d33_3))
  have hs3 := T3.bl.size
  go_wp2
  go_ret
  refine ⟨x3.heap.size, [typePt, numPt w.heap.size, numPt w.heap.size, numPt w2.heap.size, numPt w2.heap.size, numPt w2.heap.size, numPt w1.heap.size, namePt, hexPt], rfl, hs3, ?_, ⟨rfl, T3.num1 _, T3.num1 _, T3.num4 _, T3.num4 _, T3.num4 _, T3.num2 _, rfl, rfl, trivial⟩, T3.bl.alloc hs3 _⟩
  simp only [List.flatMap_cons, List.flatMap_nil, partCells, namePt, numPt, typePt, hexPt, saltPt, hashPt, typesPt, List.cons_append, List.nil_append, List.append_nil]
  exact heap_new _ _

end Go.Proofs.YtdhcbaennpediaaGreatDoor

/- partsOf: the form of NSEC3. -/
namespace Go.Proofs.YtdhcbaennpediaaGreatDoor
set_option linter.unusedVariables false
set_option linter.unusedSimpArgs false
open Go.RowKit

set_option maxRecDepth 100000 in
set_option maxHeartbeats 4000000 in
theorem raw_NSEC3 (w : World) : Calls Tryz.prog 65 #[.int .i64 50] w fun e w' => RawPost [.num 1, .num 1, .num 2, .salt, .hash, .types] w e w' := by
  have hmf := mkf
  have hmo : Tryz.prog.follows Departure.mixedOrders = true := by kernel_rfl
  go_enter Tryz.func65, Tryz.ntmps65
  go_wp2_with fail
  refine (numberPart_in _ _).mono ?_
  rintro e w1 ⟨rfl, ho1, hb1⟩
  go_wp2_with fail
  refine (numberPart_in _ _).mono ?_
  rintro e w2 ⟨rfl, ho2, hb2⟩
  go_wp2_with fail
  refine (numberPart_in _ _).mono ?_
  rintro e w3 ⟨rfl, ho3, hb3⟩
  have T := three_of ho1 hb1 ho2 hb2 ho3 hb3
  clear ho1 ho2 ho3 hb1 hb2 hb3
  go_wp2
  obtain ⟨WB, hWB⟩ : ∃ WB, WB = (((w3.alloc (.cells (numP w.heap.size) 128)).alloc (.cells (numP w1.heap.size) 128)).alloc (.cells (numP w2.heap.size) 128)) := ⟨_, rfl⟩
  rw [← hWB] at T
  rw [← hWB]
  clear hWB
  have HL : Hid (∀ (G : Prop) (A B : World), Three w A w3.heap.size w.heap.size w1.heap.size w2.heap.size → Below A.heap.size A B → (Three w B w3.heap.size w.heap.size w1.heap.size w2.heap.size → B.cell? ⟨w3.heap.size, 0, none⟩ = some (fnV 99 #[boxV (w.heap.size)]) → B.cell? ⟨w3.heap.size, 1, none⟩ = some (fnV 100 #[]) → B.cell? ⟨w3.heap.size, 2, none⟩ = some (fnV 102 #[boxV (w.heap.size)]) → B.cell? ⟨w3.heap.size, 3, none⟩ = some (.bool false) → B.cell? ⟨w3.heap.size + 1, 0, none⟩ = some (fnV 99 #[boxV (w1.heap.size)]) → B.cell? ⟨w3.heap.size + 1, 1, none⟩ = some (fnV 100 #[]) → B.cell? ⟨w3.heap.size + 1, 2, none⟩ = some (fnV 102 #[boxV (w1.heap.size)]) → B.cell? ⟨w3.heap.size + 1, 3, none⟩ = some (.bool false) → G) → G) := by
    intro G A B hT hB hG
    have hT' := hT.below hB
    exact hG hT' (cells4 hT'.p1).1 (cells4 hT'.p1).2.1 (cells4 hT'.p1).2.2.1 (cells4 hT'.p1).2.2.2 (cells4 hT'.p2).1 (cells4 hT'.p2).2.1 (cells4 hT'.p2).2.2.1 (cells4 hT'.p2).2.2.2
  obtain ⟨a10, a11, a12, a13⟩ := cells4 T.p1
  obtain ⟨a20, a21, a22, a23⟩ := cells4 T.p2
  have T0 := T.drew
  go_region_held3 (fun w' => w'.cell? ⟨w3.heap.size, 0, none⟩ = some (fnV 99 #[boxV (w.heap.size)]) ∧ w'.cell? ⟨w3.heap.size, 1, none⟩ = some (fnV 100 #[]) ∧ w'.cell? ⟨w3.heap.size, 2, none⟩ = some (fnV 102 #[boxV (w.heap.size)]) ∧ w'.cell? ⟨w3.heap.size, 3, none⟩ = some (.bool false) ∧ w'.cell? ⟨w3.heap.size + 1, 0, none⟩ = some (fnV 99 #[boxV (w1.heap.size)]) ∧ w'.cell? ⟨w3.heap.size + 1, 1, none⟩ = some (fnV 100 #[]) ∧ w'.cell? ⟨w3.heap.size + 1, 2, none⟩ = some (fnV 102 #[boxV (w1.heap.size)]) ∧ w'.cell? ⟨w3.heap.size + 1, 3, none⟩ = some (.bool false)) (first | ((repeat' apply And.intro) <;> assumption) | go_keep)
    (first | (go_at_call 88; refine (saltPart_in _).mono ?_; rintro e x1 ⟨rfl, hx1⟩; refine HL.out _ _ x1 T0 hx1 ?_; intro T1 d10_1 d11_1 d12_1 d13_1 d20_1 d21_1 d22_1 d23_1) | (go_at_call 89; refine (hashPart_in _).mono ?_; rintro e x2 ⟨rfl, hx2⟩; refine HL.out _ _ x2 T1 hx2 ?_; intro T2 d10_2 d11_2 d12_2 d13_2 d20_2 d21_2 d22_2 d23_2) | (go_at_call 87; refine (typesPart_in _).mono ?_; rintro e x3 ⟨rfl, hx3⟩; refine HL.out _ _ x3 T2 hx3 ?_; intro T3 d10_3 d11_3 d12_3 d13_3 d20_3 d21_3 d22_3 d23_3))
  have hs3 := T3.bl.size
  go_wp2
  go_ret
  refine ⟨x3.heap.size, [numPt w.heap.size, numPt w.heap.size, numPt w1.heap.size, saltPt, hashPt, typesPt], rfl, hs3, ?_, ⟨T3.num1 _, T3.num1 _, T3.num2 _, rfl, rfl, rfl, trivial⟩, T3.bl.alloc hs3 _⟩
  simp only [List.flatMap_cons, List.flatMap_nil, partCells, namePt, numPt, typePt, hexPt, saltPt, hashPt, typesPt, List.cons_append, List.nil_append, List.append_nil]
  exact heap_new _ _

end Go.Proofs.YtdhcbaennpediaaGreatDoor

/- partsOf: the forms of A, AAAA, NSEC, TXT and all others. -/
namespace Go.Proofs.YtdhcbaennpediaaGreatDoor
set_option linter.unusedVariables false
open Go.RowKit

theorem GrpB.alloc {W : World} {b c wd bs : Nat} {sp : UInt8} (h : GrpB W b c wd bs sp) (o : Obj) : GrpB (W.alloc o) b c wd bs sp :=
  ⟨(alloc_old _ _ _ (box_lt h.cnt)).trans h.cnt, (alloc_old _ _ _ (box_lt h.wid)).trans h.wid, (alloc_old _ _ _ (box_lt h.bas)).trans h.bas, (alloc_old _ _ _ (box_lt h.btw)).trans h.btw⟩
set_option maxRecDepth 100000 in
theorem groupsPartG_in (c wd bs : Nat) (sp : UInt8) (w : World) : Calls Tryz.prog 82 #[.int .i64 c, .int .i64 wd, .int .i64 bs, .string ⟨#[sp]⟩] w fun e w' =>
    e = .returned (.agg (grpP w.heap.size)) ∧ GrpB w' w.heap.size c wd bs sp ∧ Below w.heap.size w w' := by
  have hmf := mkf
  go_enter Tryz.func82, Tryz.ntmps82
  go_wp2
  refine bodyPost_ret (v := .agg (grpP w.heap.size)) (by simp [results, Tryz.results82, go_sem]) rfl ⟨rfl, ⟨?_, ?_, ?_, ?_⟩, ?_⟩
  · rw [alloc_old _ _ _ (by simp <;> omega), alloc_old _ _ _ (by simp <;> omega), alloc_old _ _ _ (by simp <;> omega), alloc_old _ _ _ (by simp)]; exact heap_new _ _
  · rw [alloc_old _ _ _ (by simp <;> omega), alloc_old _ _ _ (by simp <;> omega), alloc_old _ _ _ (by simp)]
    have := heap_new (w.alloc (.cells #[.int .i64 c] 3)) (.cells #[.int .i64 wd] 3)
    rwa [World.size_alloc] at this
  · rw [alloc_old _ _ _ (by simp <;> omega), alloc_old _ _ _ (by simp)]
    have := heap_new ((w.alloc (.cells #[.int .i64 c] 3)).alloc (.cells #[.int .i64 wd] 3)) (.cells #[.int .i64 bs] 3)
    rwa [World.size_alloc, World.size_alloc] at this
  · rw [alloc_old _ _ _ (by simp)]
    have := heap_new (((w.alloc (.cells #[.int .i64 c] 3)).alloc (.cells #[.int .i64 wd] 3)).alloc (.cells #[.int .i64 bs] 3)) (.cells #[.string ⟨#[sp]⟩] 9)
    rwa [World.size_alloc, World.size_alloc, World.size_alloc] at this
  · exact (((((Below.refl _ _).alloc (Nat.le_refl _) _).alloc (by simp) _).alloc (by simp <;> omega) _).alloc (by simp <;> omega) _).alloc (by simp <;> omega) _

set_option maxRecDepth 100000 in
theorem raw_A (w : World) : Calls Tryz.prog 65 #[.int .i64 1] w fun e w' => RawPost [.grp 4 1 10 46] w e w' := by
  have hmf := mkf
  go_enter Tryz.func65, Tryz.ntmps65
  go_wp2_with fail
  refine (numberPart_in _ _).mono ?_
  rintro e w1 ⟨rfl, ho1, hb1⟩
  go_wp2_with fail
  refine (numberPart_in _ _).mono ?_
  rintro e w2 ⟨rfl, ho2, hb2⟩
  go_wp2_with fail
  refine (numberPart_in _ _).mono ?_
  rintro e w3 ⟨rfl, ho3, hb3⟩
  have HT := Hid.mk (three_of ho1 hb1 ho2 hb2 ho3 hb3)
  clear ho1 ho2 ho3 hb1 hb2 hb3
  have HG := Hid.mk (groupsPartG_in 4 1 10 46)
  go_wp2_with fail
  refine (HG.out _).mono ?_
  rintro e w4 ⟨rfl, hgb, hb4⟩
  have h4 := HT.out.below hb4
  have hs4 := h4.bl.size
  have hs3 := HT.out.bl.size
  simp only [World.size_alloc] at hgb hs3
  clear HT
  go_wp2
  go_ret
  exact ⟨w4.heap.size, [aPart _], rfl, hs4, heap_new _ _, ⟨⟨_, hs3, rfl, by decide, hgb.alloc _⟩, trivial⟩, h4.bl.alloc hs4 _⟩

set_option maxRecDepth 100000 in
theorem raw_AAAA (w : World) : Calls Tryz.prog 65 #[.int .i64 28] w fun e w' => RawPost [.grp 8 2 16 58] w e w' := by
  have hmf := mkf
  go_enter Tryz.func65, Tryz.ntmps65
  go_wp2_with fail
  refine (numberPart_in _ _).mono ?_
  rintro e w1 ⟨rfl, ho1, hb1⟩
  go_wp2_with fail
  refine (numberPart_in _ _).mono ?_
  rintro e w2 ⟨rfl, ho2, hb2⟩
  go_wp2_with fail
  refine (numberPart_in _ _).mono ?_
  rintro e w3 ⟨rfl, ho3, hb3⟩
  have HT := Hid.mk (three_of ho1 hb1 ho2 hb2 ho3 hb3)
  clear ho1 ho2 ho3 hb1 hb2 hb3
  have HG := Hid.mk (groupsPartG_in 8 2 16 58)
  go_wp2_with fail
  refine (HG.out _).mono ?_
  rintro e w4 ⟨rfl, hgb, hb4⟩
  have h4 := HT.out.below hb4
  have hs4 := h4.bl.size
  have hs3 := HT.out.bl.size
  simp only [World.size_alloc] at hgb hs3
  clear HT
  go_wp2
  go_ret
  exact ⟨w4.heap.size, [aPart _], rfl, hs4, heap_new _ _, ⟨⟨_, hs3, rfl, by decide, hgb.alloc _⟩, trivial⟩, h4.bl.alloc hs4 _⟩

set_option maxRecDepth 100000 in
theorem raw_NSEC (w : World) : Calls Tryz.prog 65 #[.int .i64 47] w fun e w' => RawPost [.name, .types] w e w' := by
  have hmf := mkf
  go_enter Tryz.func65, Tryz.ntmps65
  go_wp2_with fail
  refine (numberPart_in _ _).mono ?_
  rintro e w1 ⟨rfl, ho1, hb1⟩
  go_wp2_with fail
  refine (numberPart_in _ _).mono ?_
  rintro e w2 ⟨rfl, ho2, hb2⟩
  go_wp2_with fail
  refine (numberPart_in _ _).mono ?_
  rintro e w3 ⟨rfl, ho3, hb3⟩
  have HT := Hid.mk (three_of ho1 hb1 ho2 hb2 ho3 hb3)
  clear ho1 ho2 ho3 hb1 hb2 hb3
  go_wp2_with fail
  refine (namePart_in _).mono ?_
  rintro e w4 ⟨rfl, hb4⟩
  have h4 := HT.out.below hb4
  clear HT
  go_wp2_with fail
  refine (typesPart_in _).mono ?_
  rintro e w5 ⟨rfl, hb5⟩
  have h5 := h4.below hb5
  have hs5 := h5.bl.size
  clear h4
  go_wp2
  go_ret
  exact ⟨w5.heap.size, [namePt, typesPt], rfl, hs5, heap_new _ _, ⟨rfl, rfl, trivial⟩, h5.bl.alloc hs5 _⟩

theorem raw_TXT (w : World) : Calls Tryz.prog 65 #[.int .i64 16] w fun e w' => RawPost [.strs] w e w' := by
  refine (partsOf_T w).mono ?_
  rintro e w1 ⟨g, hg, rfl, hc, hb⟩
  exact ⟨g, [txtPart], rfl, hg, hc, ⟨rfl, trivial⟩, hb⟩
theorem raw_any (k : Int) (hk : tabled k = false) (w : World) : Calls Tryz.prog 65 #[.int .i64 k] w fun e w' => RawPost [.any] w e w' := by
  refine (partsOf_other k hk w).mono ?_
  rintro e w1 ⟨g, hg, rfl, hc, hb⟩
  exact ⟨g, [otherPart], rfl, hg, hc, ⟨rfl, trivial⟩, hb⟩
end Go.Proofs.YtdhcbaennpediaaGreatDoor

/- split and Right, of every type. -/
namespace Go.Proofs.YtdhcbaennpediaaGreatDoor
set_option linter.unusedVariables false
open Go.RowKit

theorem raw_all (k : Int) (w : World) : Calls Tryz.prog 65 #[.int .i64 k] w fun e w' => RawPost (formOf k) w e w' := by
  unfold formOf
  split
  · rename_i h; subst h; exact raw_A w
  · split
    · rename_i h; subst h; exact raw_AAAA w
    · split
      · rename_i h; exact raw_name k h w
      · split
        · rename_i h; subst h; exact raw_SOA w
        · split
          · rename_i h; subst h; exact raw_MX w
          · split
            · rename_i h; subst h; exact raw_TXT w
            · split
              · rename_i h
                rcases h with rfl | rfl
                · exact raw_DS w
                · exact raw_KEY w
              · split
                · rename_i h; subst h; exact raw_SIG w
                · split
                  · rename_i h; subst h; exact raw_NSEC w
                  · split
                    · rename_i h; subst h; exact raw_NSEC3 w
                    · refine raw_any k ?_ w
                      simp only [tabled, Bool.or_eq_false_iff, beq_eq_false_iff_ne]
                      omega

theorem typesPass_in (W : World) (d : Nat) (s : ByteArray) (hs : s.size ≤ 2000) (h : Rd W d s) :
    Calls Tryz.prog 125 #[boxV d] W fun e w' => PassPost (if (typesR s).isSome then some s.size else none) s d W w' e := by
  have T := Hid.mk (all_in W d s (by unfold maxLen; omega) h)
  have hr1 := Hid.mk (h.set ⟨#[]⟩)
  have hk1 := Hid.mk (Kept.set d 0 W (.string ⟨#[]⟩))
  have HT := Hid.mk (fun w => typesOf_in w s hs)
  have hec := Hid.mk (end_cut s)
  cases hr : typesR s with
  | some l =>
    rw [hr] at HT
    go_enter Tryz.func125, Tryz.ntmps125
    go_wp2_with fail
    refine T.out.mono ?_
    rintro e w1 ⟨rfl, rfl⟩
    go_wp2_with fail
    refine (HT.out _).mono ?_
    rintro e w2 ⟨⟨v, rfl, _⟩, hb2⟩
    go_wp2
    refine bodyPost_end (results_none rfl _ _ _) rfl ⟨Nat.le_refl _, rfl, ?_, hk1.out.trans (Kept.of_below hb2)⟩
    rw [hec.out]; exact hr1.out.below hb2
  | none =>
    rw [hr] at HT
    go_enter Tryz.func125, Tryz.ntmps125
    go_wp2_with fail
    refine T.out.mono ?_
    rintro e w1 ⟨rfl, rfl⟩
    go_wp2_with fail
    refine (HT.out _).mono ?_
    rintro e w2 ⟨rfl, hb2⟩
    go_wp2
    exact ⟨rfl, rfl, hk1.out.trans (Kept.of_below hb2)⟩

theorem grpPassG_in (W : World) (b d c wd bs : Nat) (sp : UInt8) (hb : GrpB W b c wd bs sp) (hn : c * wd ≤ 100) (hc : c ≤ 100) (hw : wd ≤ 100) (s : ByteArray) (hs : s.size ≤ 2000) (h : Rd W d s) :
    Calls Tryz.prog 105 #[boxV d, boxV b, boxV (b + 1)] W fun e w' => PassPost (takeK (c * wd) s) s d W w' e := by
  have c0 := box_cell hb.cnt
  have c1 := box_cell hb.wid
  have hm : IntKind.i64.wrap ((c : Int) * (wd : Int)) = ((c * wd : Nat) : Int) := by rw [IntKind.wrap_i64, Int.natCast_mul]; omega
  have T := Hid.mk (take_post W d (c * wd) s hs hn h)
  have hmul : (c : Int) * (wd : Int) = ((c * wd : Nat) : Int) := by rw [Int.natCast_mul]
  cases hr : takeK (c * wd) s with
  | some m =>
    rw [hr] at T
    clear hr
    generalize c * wd = q at hm T hmul hn
    go_enter Tryz.func105, Tryz.ntmps105
    go_wp2_with fail
    refine T.out.mono ?_
    rintro e w1 ⟨hm, rfl, hr1, hk1⟩
    go_wp2
    exact bodyPost_end (results_none rfl _ _ _) rfl ⟨hm, rfl, hr1, hk1⟩
  | none =>
    rw [hr] at T
    clear hr
    generalize c * wd = q at hm T hmul hn
    go_enter Tryz.func105, Tryz.ntmps105
    go_wp2_with fail
    refine T.out.mono ?_
    rintro e w1 ⟨rfl, hk1⟩
    go_wp2
    exact ⟨rfl, rfl, hk1⟩

theorem GrpB.below {W W' : World} {b c wd bs : Nat} {sp : UInt8} (h : GrpB W b c wd bs sp) (k : Below W.heap.size W W') : GrpB W' b c wd bs sp :=
  ⟨(k.block _ (box_lt h.cnt)).trans h.cnt, (k.block _ (box_lt h.wid)).trans h.wid, (k.block _ (box_lt h.bas)).trans h.bas, (k.block _ (box_lt h.btw)).trans h.btw⟩

/-- a part's pass. -/
theorem pass_in (n₀ : Nat) (w' W' : World) (p : Part) (k : PK) (hp : PartIs n₀ w' p k) (hg : ∀ c w b s, k = .grp c w b s → c ≤ 100 ∧ w ≤ 100) (hb : Below w'.heap.size w' W') (d : Nat) (s : ByteArray) (hr : Rd W' d s) (hs : s.size ≤ 2000) :
    Calls Tryz.prog p.pass (#[boxV d] ++ p.passC) W' fun e w'' => PassPost (passK k s) s d W' w'' e := by
  cases k with
  | num n =>
    obtain ⟨b, _, rfl, hn, ho⟩ := hp
    exact numPass_in W' b d n hn ((hb.block _ (box_lt ho)).trans ho) s hs hr
  | grp c w b sp =>
    obtain ⟨x, _, rfl, hn, ho⟩ := hp
    obtain ⟨hc, hw⟩ := hg c w b sp rfl
    exact grpPassG_in W' x d c w b sp (ho.below hb) hn hc hw s hs hr
  | name => obtain rfl := hp; exact passName_in W' d s hs hr
  | type => obtain rfl := hp; exact typePass_in W' d s hs hr
  | hex => obtain rfl := hp; exact hexPass_in W' d s hs hr
  | salt => obtain rfl := hp; exact saltPass_in W' d s hs hr
  | hash => obtain rfl := hp; exact hashPass_in W' d s hs hr
  | types => obtain rfl := hp; exact typesPass_in W' d s hs hr
  | any => obtain rfl := hp; exact anyPass_in W' d s hs hr
  | strs => obtain rfl := hp; exact passStrings_in W' d s hs hr
theorem pass_enters (n₀ : Nat) (w' : World) (p : Part) (k : PK) (hp : PartIs n₀ w' p k) : Enters p.pass := by
  cases k with
  | num n => obtain ⟨b, _, rfl, _⟩ := hp; exact enters_by Tryz.func99 (by kernel_rfl) rfl
  | grp c w b sp => obtain ⟨x, _, rfl, _⟩ := hp; exact enters_by Tryz.func105 (by kernel_rfl) rfl
  | name => obtain rfl := hp; exact enters_by Tryz.func109 (by kernel_rfl) rfl
  | type => obtain rfl := hp; exact enters_by Tryz.func120 (by kernel_rfl) rfl
  | hex => obtain rfl := hp; exact enters_by Tryz.func115 (by kernel_rfl) rfl
  | salt => obtain rfl := hp; exact enters_by Tryz.func128 (by kernel_rfl) rfl
  | hash => obtain rfl := hp; exact enters_by Tryz.func131 (by kernel_rfl) rfl
  | types => obtain rfl := hp; exact enters_by Tryz.func125 (by kernel_rfl) rfl
  | any => obtain rfl := hp; exact enters_by Tryz.func136 (by kernel_rfl) rfl
  | strs => obtain rfl := hp; exact enters_by Tryz.func112 (by kernel_rfl) rfl

theorem form_grp (k : Int) : ∀ p ∈ formOf k, ∀ c w b s, p = PK.grp c w b s → c ≤ 100 ∧ w ≤ 100 := by
  unfold formOf
  repeat' split
  all_goals
    intro p hp c w b s e
    subst e
    simp at hp
    try omega

theorem parts_all (k : Int) (w : World) : Calls Tryz.prog 65 #[.int .i64 k] w fun e w' => PartsPost (formOf k).length (pfK (formOf k)) w e w' := by
  refine (raw_all k w).mono ?_
  rintro e w' ⟨g, ps, rfl, hg, hc, hp, hb⟩
  have hl := hp.len
  refine ⟨g, fun j => ps.getD j default, rfl, by rw [← hl]; exact parts_in hc, ?_, ?_, hb⟩
  · intro j hj
    exact pass_enters _ _ _ _ (hp.at j _ (List.getElem?_eq_getElem hj))
  · intro j hj W' d s' hb' _ hr hs
    have hpf : pfK (formOf k) j s' = passK (formOf k)[j] s' := by
      unfold pfK
      rw [List.getElem?_eq_getElem hj]
    rw [hpf]
    exact pass_in _ _ _ _ _ (hp.at j _ (List.getElem?_eq_getElem hj)) (form_grp k _ (List.getElem_mem hj)) hb' d s' hr hs

/-- split, of every type and all data. -/
theorem split_all (k : Int) (s : ByteArray) (hm : s.size ≤ maxLen) (W : World) : Calls Tryz.prog 36 #[.int .i64 k, .string s] W fun e w' => SplitPost (splitR k s) W e w' := by
  by_cases h : (0 ≤ k ∧ k ≤ 65535) ∧ s.size ≤ 2000
  · rw [splitR, if_pos h]
    exact split_in W (formOf k).length (form_len k).1 k h.1 s h.2 _ (parts_all k)
  · rw [split_none k s h]
    refine split_long W k s hm ?_
    by_cases hk : 0 ≤ k ∧ k ≤ 65535
    · exact .inr (by apply Decidable.byContradiction; intro hl; exact h ⟨hk, by omega⟩)
    · exact .inl (by simp; omega)
theorem right_all (k : Int) (s : ByteArray) (hm : s.size ≤ maxLen) (W : World) : Calls Tryz.prog 35 #[.int .i64 k, .string s] W fun e w' => e = .returned (.bool (splitR k s).isSome) ∧ Below W.heap.size W w' :=
  right_of (split_all k s hm) W
end Go.Proofs.YtdhcbaennpediaaGreatDoor

/- Small letters in the names of data, on bytes alone. -/
namespace Go.Proofs.YtdhcbaennpediaaGreatDoor
set_option linter.unusedVariables false
open Go.RowKit

theorem lowB_lowB (c : UInt8) : lowB (lowB c) = lowB c := by
  have h := lowB_toNat c
  apply UInt8.toNat_inj.1
  rw [lowB_toNat, h]
  split
  · rw [if_neg (by omega)]
  · rfl
def lowA (x : ByteArray) : ByteArray := ⟨(x.data.toList.map lowB).toArray⟩
theorem lowA_size (x : ByteArray) : (lowA x).size = x.size := by rw [lowA, ba_size, List.length_map, size_list]
theorem lowA_lowA (x : ByteArray) : lowA (lowA x) = lowA x := by
  apply ba_ext
  simp [lowA, lowB_lowB]
theorem lowA_nm {ls : List (List UInt8)} (h : OkN ls) : lowA (nm ls) = nm (lowN ls) := nm_low h
theorem lowA_name {x : ByteArray} (h : IsName x) : IsName (lowA x) := by
  obtain ⟨ls, ho, rfl⟩ := h
  exact ⟨lowN ls, ho.low, lowA_nm ho⟩

def isNm : PK → Bool
  | .name => true
  | _ => false
def lowX (p : PK) (x : ByteArray) : ByteArray := if isNm p then lowA x else x
theorem lowX_size (p : PK) (x : ByteArray) : (lowX p x).size = x.size := by
  unfold lowX
  split
  · exact lowA_size x
  · rfl
theorem lowX_lowX (p : PK) (x : ByteArray) : lowX p (lowX p x) = lowX p x := by
  unfold lowX
  split
  · exact lowA_lowA x
  · rfl
theorem lowX_good (p : PK) (x : ByteArray) (h : Good p x) : Good p (lowX p x) := by
  cases p <;> first | exact h | exact lowA_name h

def lowXs : List PK → List ByteArray → List ByteArray
  | p :: F, x :: xs => lowX p x :: lowXs F xs
  | _, xs => xs
theorem lowXs_good : ∀ (F : List PK) (xs : List ByteArray), AllGood F xs → AllGood F (lowXs F xs)
  | [], [], _ => trivial
  | p :: F, x :: xs, h => ⟨lowX_good p x h.1, lowXs_good F xs h.2⟩
  | [], _ :: _, h => h.elim
  | _ :: _, [], h => h.elim
theorem lowXs_size : ∀ (F : List PK) (xs : List ByteArray), (cat (lowXs F xs)).size = (cat xs).size
  | [], _ => rfl
  | _ :: _, [] => rfl
  | p :: F, x :: xs => by rw [lowXs, cat, cat, app_size, app_size, lowX_size, lowXs_size F xs]
theorem lowXs_twice : ∀ (F : List PK) (xs : List ByteArray), lowXs F (lowXs F xs) = lowXs F xs
  | [], _ => rfl
  | _ :: _, [] => rfl
  | p :: F, x :: xs => by rw [lowXs, lowXs, lowX_lowX, lowXs_twice F xs]

/-- types whose names are of other owners of records. -/
def nameds (k : Int) : Bool := k == 2 || k == 5 || k == 39 || k == 6 || k == 15
def lowers (k : Int) : Bool := nameds k || k == 46
noncomputable def lowR (k : Int) (s : ByteArray) : ByteArray := if lowers k then (match splitR k s with
  | none => s
  | some xs => cat (lowXs (formOf k) xs)) else s
def nmsOf : List PK → List ByteArray → List ByteArray
  | p :: F, x :: xs => if isNm p then x :: nmsOf F xs else nmsOf F xs
  | _, _ => []
noncomputable def namesR (k : Int) (s : ByteArray) : List ByteArray := if nameds k then (match splitR k s with
  | none => []
  | some xs => nmsOf (formOf k) xs) else []
theorem nmsOf_low : ∀ (F : List PK) (xs : List ByteArray), (nmsOf F (lowXs F xs)).length = (nmsOf F xs).length
  | [], xs => by cases xs <;> rfl
  | _ :: _, [] => rfl
  | p :: F, x :: xs => by
    rw [lowXs, nmsOf, nmsOf]
    split
    · simp [nmsOf_low F xs]
    · exact nmsOf_low F xs

theorem lowR_split (k : Int) (s : ByteArray) (xs : List ByteArray) (hl : lowers k = true) (h : splitR k s = some xs) : lowR k s = cat (lowXs (formOf k) xs) ∧ splitR k (lowR k s) = some (lowXs (formOf k) xs) := by
  have e : lowR k s = cat (lowXs (formOf k) xs) := by
    rw [lowR, if_pos hl, h]
  refine ⟨e, ?_⟩
  obtain ⟨hk, hs, rfl, hg⟩ := (split_iff k s xs).1 h
  rw [e]
  exact (split_iff k _ _).2 ⟨hk, by rw [lowXs_size]; exact hs, rfl, lowXs_good _ _ hg⟩
theorem lowR_none (k : Int) (s : ByteArray) (h : splitR k s = none) : lowR k s = s := by
  rw [lowR, h]
  split <;> rfl
theorem lowR_size (k : Int) (s : ByteArray) : (lowR k s).size = s.size := by
  cases hl : lowers k with
  | false => rw [lowR, hl]; rfl
  | true =>
    cases h : splitR k s with
    | none => rw [lowR_none k s h]
    | some xs =>
      rw [(lowR_split k s xs hl h).1, lowXs_size]
      obtain ⟨_, _, rfl, _⟩ := (split_iff k s xs).1 h
      rfl
theorem lowR_twice (k : Int) (s : ByteArray) : lowR k (lowR k s) = lowR k s := by
  cases hl : lowers k with
  | false => rw [lowR, hl]; rfl
  | true =>
    cases h : splitR k s with
    | none => rw [lowR_none k s h, lowR_none k s h]
    | some xs =>
      obtain ⟨h1, h2⟩ := lowR_split k s xs hl h
      rw [(lowR_split k _ _ hl h2).1, lowXs_twice, h1]
theorem lowR_right (k : Int) (s : ByteArray) : (splitR k (lowR k s)).isSome = (splitR k s).isSome := by
  cases hl : lowers k with
  | false => rw [lowR, hl]; rfl
  | true =>
    cases h : splitR k s with
    | none => rw [lowR_none k s h, h]
    | some xs => rw [(lowR_split k s xs hl h).2]; rfl
theorem lowR_names (k : Int) (s : ByteArray) : (namesR k (lowR k s)).length = (namesR k s).length := by
  unfold namesR
  cases hn : nameds k with
  | false => rfl
  | true =>
    have hl : lowers k = true := by rw [lowers, hn]; rfl
    cases h : splitR k s with
    | none => rw [lowR_none k s h, h]
    | some xs =>
      rw [(lowR_split k s xs hl h).2]
      exact nmsOf_low _ _
end Go.Proofs.YtdhcbaennpediaaGreatDoor

/- Names and Lower, of every type. -/
namespace Go.Proofs.YtdhcbaennpediaaGreatDoor
set_option linter.unusedVariables false
open Go.RowKit

theorem row_store {W : World} {base n cap g j : Nat} {e : TypeId} {xs : List Value} (h : W.ownsRow base e 1 (.slice (some ⟨g, 0, none⟩) n cap) n xs) (hn : 0 < n) (u : Value) : (W.setCell ⟨g, j, none⟩ u).ownsRow base e 1 (.slice (some ⟨g, 0, none⟩) n cap) n (xs.set j u) := by
  obtain ⟨h1, h2⟩ := h
  refine ⟨by rw [List.length_set]; exact h1, ?_⟩
  rcases h2 with ⟨_, h0⟩ | ⟨g', cap', cur, hv, hb, hg, hc, hm, hz, ht⟩
  · omega
  · cases hv
    have hs : (W.setCell ⟨g, j, none⟩ u).heap[g]? = some (.cells (cur.setIfInBounds j u) e (0, 0)) := by
      simp only [World.setCell, Array.getElem?_modify, hg]
      rfl
    refine .inr ⟨g, cap, _, rfl, hb, hs, hc, hm, by simpa using hz, ?_⟩
    rw [← ht, Array.toList_setIfInBounds, List.take_set]
theorem row_frozen {W : World} {base n cap g j : Nat} {e : TypeId} {xs : List Value} (h : W.ownsRow base e 1 (.slice (some ⟨g, 0, none⟩) n cap) n xs) (hn : 0 < n) : W.frozen? ⟨g, j, none⟩ = false ∧ g < W.heap.size ∧ base ≤ g := by
  rcases h.2 with ⟨_, h0⟩ | ⟨g', cap', cur, hv, hb, hg, _⟩
  · omega
  · cases hv
    exact ⟨by simp [World.frozen?, hg], box_lt hg, hb⟩

theorem part_name {n₀ : Nat} {W : World} {p : Part} {k : PK} (h : PartIs n₀ W p k) : p.name = isNm k := by
  cases k with
  | num n => obtain ⟨b, _, rfl, _⟩ := h; rfl
  | grp c w b s => obtain ⟨x, _, rfl, _⟩ := h; rfl
  | name => obtain rfl := h; rfl
  | type => obtain rfl := h; rfl
  | hex => obtain rfl := h; rfl
  | salt => obtain rfl := h; rfl
  | hash => obtain rfl := h; rfl
  | types => obtain rfl := h; rfl
  | any => obtain rfl := h; rfl
  | strs => obtain rfl := h; rfl

/-- what partsOf hands back, for who looks which parts are names. -/
theorem named_all (k : Int) (w : World) : Calls Tryz.prog 65 #[.int .i64 k] w fun e w' => ∃ g P, e = .returned (.slice (some ⟨g, 0, none⟩) (formOf k).length (formOf k).length) ∧ w.heap.size ≤ g ∧ PartsIn w' g (formOf k).length P ∧
    (∀ j (h : j < (formOf k).length), (P j).name = isNm (formOf k)[j]) ∧ Below w.heap.size w w' := by
  refine (raw_all k w).mono ?_
  rintro e w' ⟨g, ps, rfl, hg, hc, hp, hb⟩
  have hl := hp.len
  exact ⟨g, fun j => ps.getD j default, rfl, hg, by rw [← hl]; exact parts_in hc, fun j hj => part_name (hp.at j _ (List.getElem?_eq_getElem hj)), hb⟩

theorem nms_snoc : ∀ (F : List PK) (ps : List ByteArray) (m : Nat) (h : m < F.length) (h' : m < ps.length), nmsOf (F.take (m + 1)) (ps.take (m + 1)) = nmsOf (F.take m) (ps.take m) ++ (if isNm F[m] then [ps[m]] else [])
  | [], ps, m, h, _ => by simp at h
  | p :: F, [], m, _, h' => by simp at h'
  | p :: F, x :: xs, 0, _, _ => by
    simp only [List.take_succ_cons, List.take_zero, nmsOf, List.getElem_cons_zero, List.nil_append]
  | p :: F, x :: xs, m + 1, h, h' => by
    have := nms_snoc F xs m (by simpa using h) (by simpa using h')
    simp only [List.take_succ_cons, nmsOf, List.getElem_cons_succ] at this ⊢
    rw [this]
    split
    · simp
    · rfl
theorem nms_len : ∀ (F : List PK) (ps : List ByteArray), (nmsOf F ps).length ≤ ps.length
  | [], ps => by cases ps <;> simp [nmsOf]
  | _ :: _, [] => by simp [nmsOf]
  | p :: F, x :: xs => by
    have := nms_len F xs
    rw [nmsOf]
    split
    · simp; omega
    · simp; omega

/-- what Names hands back. -/
def NmsPost (l : List ByteArray) (W : World) (e : Ending) (w' : World) : Prop := (∃ v, e = .returned v ∧ w'.ownsRow W.heap.size 9 1 v l.length (baV l)) ∧ Below W.heap.size W w'

end Go.Proofs.YtdhcbaennpediaaGreatDoor
