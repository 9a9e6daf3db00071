/- partsOf: the forms of A, AAAA, NSEC, TXT and all others. -/
import Derived.Test.YtkohkkakbcjgcabGreatDoorDPartsA
namespace Go.Proofs.YtkohkkakbcjgcabGreatDoor
set_option linter.unusedVariables false
open Go.RowKit

theorem GrpB.alloc {W : World} {b c wd bs : Nat} {sp : UInt8} (h : GrpB W b c wd bs sp) (o : Obj) : GrpB (W.alloc o) b c wd bs sp :=
  ⟨(alloc_old _ _ _ (box_lt h.cnt)).trans h.cnt, (alloc_old _ _ _ (box_lt h.wid)).trans h.wid, (alloc_old _ _ _ (box_lt h.bas)).trans h.bas, (alloc_old _ _ _ (box_lt h.btw)).trans h.btw⟩
set_option maxRecDepth 100000 in
theorem groupsPartG_in (c wd bs : Nat) (sp : UInt8) (w : World) : Calls Tryz.prog 64 #[.int .i64 c, .int .i64 wd, .int .i64 bs, .string ⟨#[sp]⟩] w fun e w' =>
    e = .returned (.agg (grpP w.heap.size)) ∧ GrpB w' w.heap.size c wd bs sp ∧ Below w.heap.size w w' := by
  have hmf := mkf
  go_enter Tryz.func64, Tryz.ntmps64
  go_wp2
  refine bodyPost_ret (v := .agg (grpP w.heap.size)) (by simp [results, Tryz.results64, go_sem]) rfl ⟨rfl, ⟨?_, ?_, ?_, ?_⟩, ?_⟩
  · rw [alloc_old _ _ _ (by simp <;> omega), alloc_old _ _ _ (by simp <;> omega), alloc_old _ _ _ (by simp <;> omega), alloc_old _ _ _ (by simp)]; exact heap_new _ _
  · rw [alloc_old _ _ _ (by simp <;> omega), alloc_old _ _ _ (by simp <;> omega), alloc_old _ _ _ (by simp)]
    have := heap_new (w.alloc (.cells #[.int .i64 c] 3)) (.cells #[.int .i64 wd] 3)
    rwa [World.size_alloc] at this
  · rw [alloc_old _ _ _ (by simp <;> omega), alloc_old _ _ _ (by simp)]
    have := heap_new ((w.alloc (.cells #[.int .i64 c] 3)).alloc (.cells #[.int .i64 wd] 3)) (.cells #[.int .i64 bs] 3)
    rwa [World.size_alloc, World.size_alloc] at this
  · rw [alloc_old _ _ _ (by simp)]
    have := heap_new (((w.alloc (.cells #[.int .i64 c] 3)).alloc (.cells #[.int .i64 wd] 3)).alloc (.cells #[.int .i64 bs] 3)) (.cells #[.string ⟨#[sp]⟩] 9)
    rwa [World.size_alloc, World.size_alloc, World.size_alloc] at this
  · exact (((((Below.refl _ _).alloc (Nat.le_refl _) _).alloc (by simp) _).alloc (by simp <;> omega) _).alloc (by simp <;> omega) _).alloc (by simp <;> omega) _

set_option maxRecDepth 100000 in
theorem raw_A (w : World) : Calls Tryz.prog 47 #[.int .i64 1] w fun e w' => RawPost [.grp 4 1 10 46] w e w' := by
  have hmf := mkf
  go_enter Tryz.func47, Tryz.ntmps47
  go_wp2_with fail
  refine (numberPart_in _ _).mono ?_
  rintro e w1 ⟨rfl, ho1, hb1⟩
  go_wp2_with fail
  refine (numberPart_in _ _).mono ?_
  rintro e w2 ⟨rfl, ho2, hb2⟩
  go_wp2_with fail
  refine (numberPart_in _ _).mono ?_
  rintro e w3 ⟨rfl, ho3, hb3⟩
  have HT := Hid.mk (three_of ho1 hb1 ho2 hb2 ho3 hb3)
  clear ho1 ho2 ho3 hb1 hb2 hb3
  have HG := Hid.mk (groupsPartG_in 4 1 10 46)
  go_wp2_with fail
  refine (HG.out _).mono ?_
  rintro e w4 ⟨rfl, hgb, hb4⟩
  have h4 := HT.out.below hb4
  have hs4 := h4.bl.size
  have hs3 := HT.out.bl.size
  simp only [World.size_alloc] at hgb hs3
  clear HT
  go_wp2
  go_ret
  exact ⟨w4.heap.size, [aPart _], rfl, hs4, heap_new _ _, ⟨⟨_, hs3, rfl, by decide, hgb.alloc _⟩, trivial⟩, h4.bl.alloc hs4 _⟩

set_option maxRecDepth 100000 in
theorem raw_AAAA (w : World) : Calls Tryz.prog 47 #[.int .i64 28] w fun e w' => RawPost [.grp 8 2 16 58] w e w' := by
  have hmf := mkf
  go_enter Tryz.func47, Tryz.ntmps47
  go_wp2_with fail
  refine (numberPart_in _ _).mono ?_
  rintro e w1 ⟨rfl, ho1, hb1⟩
  go_wp2_with fail
  refine (numberPart_in _ _).mono ?_
  rintro e w2 ⟨rfl, ho2, hb2⟩
  go_wp2_with fail
  refine (numberPart_in _ _).mono ?_
  rintro e w3 ⟨rfl, ho3, hb3⟩
  have HT := Hid.mk (three_of ho1 hb1 ho2 hb2 ho3 hb3)
  clear ho1 ho2 ho3 hb1 hb2 hb3
  have HG := Hid.mk (groupsPartG_in 8 2 16 58)
  go_wp2_with fail
  refine (HG.out _).mono ?_
  rintro e w4 ⟨rfl, hgb, hb4⟩
  have h4 := HT.out.below hb4
  have hs4 := h4.bl.size
  have hs3 := HT.out.bl.size
  simp only [World.size_alloc] at hgb hs3
  clear HT
  go_wp2
  go_ret
  exact ⟨w4.heap.size, [aPart _], rfl, hs4, heap_new _ _, ⟨⟨_, hs3, rfl, by decide, hgb.alloc _⟩, trivial⟩, h4.bl.alloc hs4 _⟩

set_option maxRecDepth 100000 in
theorem raw_NSEC (w : World) : Calls Tryz.prog 47 #[.int .i64 47] w fun e w' => RawPost [.name, .types] w e w' := by
  have hmf := mkf
  go_enter Tryz.func47, Tryz.ntmps47
  go_wp2_with fail
  refine (numberPart_in _ _).mono ?_
  rintro e w1 ⟨rfl, ho1, hb1⟩
  go_wp2_with fail
  refine (numberPart_in _ _).mono ?_
  rintro e w2 ⟨rfl, ho2, hb2⟩
  go_wp2_with fail
  refine (numberPart_in _ _).mono ?_
  rintro e w3 ⟨rfl, ho3, hb3⟩
  have HT := Hid.mk (three_of ho1 hb1 ho2 hb2 ho3 hb3)
  clear ho1 ho2 ho3 hb1 hb2 hb3
  go_wp2_with fail
  refine (namePart_in _).mono ?_
  rintro e w4 ⟨rfl, hb4⟩
  have h4 := HT.out.below hb4
  clear HT
  go_wp2_with fail
  refine (typesPart_in _).mono ?_
  rintro e w5 ⟨rfl, hb5⟩
  have h5 := h4.below hb5
  have hs5 := h5.bl.size
  clear h4
  go_wp2
  go_ret
  exact ⟨w5.heap.size, [namePt, typesPt], rfl, hs5, heap_new _ _, ⟨rfl, rfl, trivial⟩, h5.bl.alloc hs5 _⟩

theorem raw_TXT (w : World) : Calls Tryz.prog 47 #[.int .i64 16] w fun e w' => RawPost [.strs] w e w' := by
  refine (partsOf_T w).mono ?_
  rintro e w1 ⟨g, hg, rfl, hc, hb⟩
  exact ⟨g, [txtPart], rfl, hg, hc, ⟨rfl, trivial⟩, hb⟩
theorem raw_any (k : Int) (hk : tabled k = false) (w : World) : Calls Tryz.prog 47 #[.int .i64 k] w fun e w' => RawPost [.any] w e w' := by
  refine (partsOf_other k hk w).mono ?_
  rintro e w1 ⟨g, hg, rfl, hc, hb⟩
  exact ⟨g, [otherPart], rfl, hg, hc, ⟨rfl, trivial⟩, hb⟩
end Go.Proofs.YtkohkkakbcjgcabGreatDoor
