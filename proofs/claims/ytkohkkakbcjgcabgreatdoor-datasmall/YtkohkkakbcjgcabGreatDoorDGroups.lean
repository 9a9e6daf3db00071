/- The form of A: four numbers of a byte each. -/
import Derived.Test.YtkohkkakbcjgcabGreatDoorDAny
namespace Go.Proofs.YtkohkkakbcjgcabGreatDoor
set_option linter.unusedVariables false
open Go.RowKit

abbrev grpP (b : Nat) : Array Value := #[fnV 89 #[boxV b, boxV (b + 1)], fnV 90 #[boxV b, boxV (b + 1), boxV (b + 2), boxV (b + 3)], fnV 91 #[boxV (b + 3), boxV b, boxV (b + 2), boxV (b + 1)], .bool false]

/-- the four variables of groupsPart for A. -/
structure GrpBoxes (W : World) (b : Nat) : Prop where
  cnt : W.heap[b]? = some (.cells #[.int .i64 4] 3 (0, 0))
  wid : W.heap[b + 1]? = some (.cells #[.int .i64 1] 3 (0, 0))
  bas : W.heap[b + 2]? = some (.cells #[.int .i64 10] 3 (0, 0))
  btw : W.heap[b + 3]? = some (.cells #[.string ⟨#[46]⟩] 9 (0, 0))
theorem GrpBoxes.below {W W' : World} {b : Nat} (h : GrpBoxes W b) (k : Below W.heap.size W W') : GrpBoxes W' b :=
  ⟨(k.block _ (box_lt h.cnt)).trans h.cnt, (k.block _ (box_lt h.wid)).trans h.wid, (k.block _ (box_lt h.bas)).trans h.bas, (k.block _ (box_lt h.btw)).trans h.btw⟩

set_option maxRecDepth 100000 in
theorem groupsPart_in (w : World) : Calls Tryz.prog 64 #[.int .i64 4, .int .i64 1, .int .i64 10, .string ⟨#[46]⟩] w fun e w' =>
    e = .returned (.agg (grpP w.heap.size)) ∧ GrpBoxes w' w.heap.size ∧ Below w.heap.size w w' := by
  have hmf := mkf
  go_enter Tryz.func64, Tryz.ntmps64
  go_wp2
  refine bodyPost_ret (v := .agg (grpP w.heap.size)) (by simp [results, Tryz.results64, go_sem]) rfl ⟨rfl, ⟨?_, ?_, ?_, ?_⟩, ?_⟩
  · rw [alloc_old _ _ _ (by simp <;> omega), alloc_old _ _ _ (by simp <;> omega), alloc_old _ _ _ (by simp <;> omega), alloc_old _ _ _ (by simp)]; exact heap_new _ _
  · rw [alloc_old _ _ _ (by simp <;> omega), alloc_old _ _ _ (by simp <;> omega), alloc_old _ _ _ (by simp)]
    have := heap_new (w.alloc (.cells #[.int .i64 4] 3)) (.cells #[.int .i64 1] 3)
    rwa [World.size_alloc] at this
  · rw [alloc_old _ _ _ (by simp <;> omega), alloc_old _ _ _ (by simp)]
    have := heap_new ((w.alloc (.cells #[.int .i64 4] 3)).alloc (.cells #[.int .i64 1] 3)) (.cells #[.int .i64 10] 3)
    rwa [World.size_alloc, World.size_alloc] at this
  · rw [alloc_old _ _ _ (by simp)]
    have := heap_new (((w.alloc (.cells #[.int .i64 4] 3)).alloc (.cells #[.int .i64 1] 3)).alloc (.cells #[.int .i64 10] 3)) (.cells #[.string ⟨#[46]⟩] 9)
    rwa [World.size_alloc, World.size_alloc, World.size_alloc] at this
  · exact (((((Below.refl _ _).alloc (Nat.le_refl _) _).alloc (by simp) _).alloc (by simp <;> omega) _).alloc (by simp <;> omega) _).alloc (by simp <;> omega) _

set_option maxRecDepth 100000 in
theorem partsOf_A (w : World) : Calls Tryz.prog 47 #[.int .i64 1] w fun e w' => ∃ g b, w.heap.size ≤ g ∧ w.heap.size ≤ b ∧
    e = .returned (.slice (some ⟨g, 0, none⟩) 1 1) ∧ w'.heap[g]? = some (.cells (grpP b) 86 (0, 0)) ∧ GrpBoxes w' b ∧ Below w.heap.size w w' := by
  have hmf := mkf
  go_enter Tryz.func47, Tryz.ntmps47
  go_wp2_with fail
  refine (numberPart_in _ _).mono ?_
  rintro e w1 ⟨rfl, ho1, hb1⟩
  go_wp2_with fail
  refine (numberPart_in _ _).mono ?_
  rintro e w2 ⟨rfl, ho2, hb2⟩
  go_wp2_with fail
  refine (numberPart_in _ _).mono ?_
  rintro e w3 ⟨rfl, ho3, hb3⟩
  clear ho1 ho2 ho3
  go_wp2_with fail
  refine (groupsPart_in _).mono ?_
  rintro e w4 ⟨rfl, hgb, hb4⟩
  have k3 : Below w.heap.size w w3 := bth (bth hb1 hb2 hb1.size) hb3 (Nat.le_trans hb1.size hb2.size)
  have s3 := k3.size
  have k6 : Below w.heap.size w w4 := (((k3.alloc s3 _).alloc (by simp; omega) _).alloc (by simp; omega) _).trans (hb4.mono (by simp; omega))
  clear hb1 hb2 hb3 hb4
  have hgb0 : w.heap.size ≤ w3.heap.size + 1 + 1 + 1 := by omega
  simp only [World.size_alloc] at hgb
  go_wp2
  go_ret
  exact ⟨w4.heap.size, w3.heap.size + 1 + 1 + 1, k6.size, hgb0, rfl, heap_new _ _, hgb.below ((Below.refl _ _).alloc (Nat.le_refl _) _), k6.alloc k6.size _⟩

def aPf : Nat → ByteArray → Option Nat := fun _ s => if 4 ≤ s.size then some 4 else none

theorem grpPass_in (W : World) (b d : Nat) (hb : GrpBoxes W b) (s : ByteArray) (hs : s.size ≤ 2000) (h : Rd W d s) :
    Calls Tryz.prog 89 #[boxV d, boxV b, boxV (b + 1)] W fun e w' => PassPost (aPf 0 s) s d W w' e := by
  have c0 := box_cell hb.cnt
  have c1 := box_cell hb.wid
  unfold aPf
  by_cases h4 : 4 ≤ s.size
  · rw [if_pos h4]
    have T := Hid.mk (take_yes W d 4 s (by unfold maxLen; omega) h h4)
    have HR := Hid.mk (h.set (s.extract 4 s.size))
    go_enter Tryz.func89, Tryz.ntmps89
    go_wp2_with fail
    refine T.out.mono ?_
    rintro e w1 ⟨rfl, rfl⟩
    go_wp2
    exact bodyPost_end (results_none rfl _ _ _) rfl ⟨h4, rfl, HR.out, Kept.set _ _ _ _⟩
  · rw [if_neg h4]
    have T := Hid.mk (take_no W d 4 s (by unfold maxLen; omega) h (by omega) (by unfold maxLen; omega))
    go_enter Tryz.func89, Tryz.ntmps89
    go_wp2_with fail
    refine T.out.mono ?_
    rintro e w1 ⟨rfl, rfl⟩
    go_wp2
    exact ⟨rfl, rfl, Kept.refl _ _⟩

theorem tellNum_in (x : ByteArray) (hx : x.size ≤ 4) (w : World) (hp : Pow w) :
    Calls Tryz.prog 85 #[.string x, .int .i64 10] w fun e w' => e = .returned (.string ⟨(Lib.decDigits (numB x.data.toList)).toArray⟩) ∧ Below w.heap.size w w' := by
  have hlt : numB x.data.toList < 4294967296 := by
    refine Nat.lt_of_lt_of_le (numB_lt _) ?_
    rw [size_list]
    exact Nat.le_trans (Nat.pow_le_pow_right (by omega) hx) (by decide)
  have HN := Hid.mk (number_in x (by omega))
  generalize numB x.data.toList = n at hlt HN ⊢
  have HF : Hid (∀ w, Pow w → Calls Tryz.prog 132 #[.int .i64 (n : Int), .int .i64 10] w fun e w' => e = .returned (.string ⟨(Lib.decDigits n).toArray⟩) ∧ Below w.heap.size w w') := by
    intro w hp
    refine (Tryz.strconv_FormatInt_10 (n : Int) (by omega) (by omega) w hp).mono ?_
    rintro e w' ⟨rfl, k, os, rfl⟩
    exact ⟨by rw [Lib.itoa, if_neg (by omega)]; rfl, below_grown w k os⟩
  go_enter Tryz.func85, Tryz.ntmps85
  go_wp2_with fail
  refine (HN.out _).mono ?_
  rintro e w1 ⟨rfl, rfl⟩
  go_wp2_with fail
  refine (HF.out _ hp).mono ?_
  rintro e w2 ⟨rfl, hb⟩
  go_wp2
  go_ret
  exact ⟨rfl, hb⟩

end Go.Proofs.YtkohkkakbcjgcabGreatDoor
