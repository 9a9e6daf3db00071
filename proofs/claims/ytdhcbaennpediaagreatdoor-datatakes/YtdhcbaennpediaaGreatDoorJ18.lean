/- Texts of this proof, joined: DNsec3b, DTakesF, DNums, DTypeOf, DExam, DExamples. -/
import Derived.Test.YtdhcbaennpediaaGreatDoorJ17
import Derived.Test.YtdhcbaennpediaaGreatDoorJ8
import Derived.Test.YtdhcbaennpediaaGreatDoorJ9
import Derived.Test.YtdhcbaennpediaaGreatDoorJ15
import Derived.Test.YtdhcbaennpediaaGreatDoorJ16
import Derived.BigRegion
import Derived.Test.YtdhcbaennpediaaGreatDoorJ13
import Derived.Test.YtdhcbaennpediaaGreatDoorJ3
import Derived.Test.YtdhcbaennpediaaGreatDoorJ10
/- NSEC3, taken apart. -/
namespace Go.Proofs.YtdhcbaennpediaaGreatDoor
set_option linter.unusedVariables false
open Go.RowKit

set_option maxRecDepth 100000 in
set_option maxHeartbeats 4000000 in
theorem takeNsec3_in (d : ByteArray) (hm : d.size ≤ maxLen) (W : World) :
    Calls Tryz.prog 18 #[.string d] W fun e w' => (∃ v er, e = .returned (.tuple #[v, .int .i64 er]) ∧ TakeNsec3 d w' v er) ∧ Below W.heap.size W w' := by
  have HS := Hid.mk (split_all 50 d hm)
  have hmo : Tryz.prog.follows Departure.mixedOrders = true := by kernel_rfl
  cases hsp : splitR 50 d with
  | none =>
    rw [hsp] at HS
    have HSP := Hid.mk hsp
    clear hsp
    go_enter Tryz.func18, Tryz.ntmps18
    go_wp2_with fail
    refine (HS.out _).mono ?_
    rintro e w1 ⟨rfl, hb1⟩
    have hbx := (hb1.block _ (by simp)).trans (heap_new W (.cells #[.int .i64 0, .int .i64 0, .int .i64 0, .string ⟨#[]⟩, .string ⟨#[]⟩, .slice none 0 0] 56))
    obtain ⟨a0, f0⟩ := cells_at (v := .int .i64 0) (j := 0) hbx rfl
    obtain ⟨a1, f1⟩ := cells_at (v := .int .i64 0) (j := 1) hbx rfl
    obtain ⟨a2, f2⟩ := cells_at (v := .int .i64 0) (j := 2) hbx rfl
    obtain ⟨a3, f3⟩ := cells_at (v := .string ⟨#[]⟩) (j := 3) hbx rfl
    obtain ⟨a4, f4⟩ := cells_at (v := .string ⟨#[]⟩) (j := 4) hbx rfl
    obtain ⟨a5, f5⟩ := cells_at (v := .slice none 0 0) (j := 5) hbx rfl
    have HBX := Hid.mk hbx
    clear hbx
    go_wp2
    have hfin : (((((((w1.setCell ⟨W.heap.size, 0, none⟩ (.int .i64 0)).setCell ⟨W.heap.size, 1, none⟩ (.int .i64 0)).setCell ⟨W.heap.size, 2, none⟩ (.int .i64 0)).setCell ⟨W.heap.size, 3, none⟩ (.string ⟨#[]⟩)).setCell ⟨W.heap.size, 4, none⟩ (.string ⟨#[]⟩)).setCell ⟨W.heap.size, 5, none⟩ (.slice none 0 0))).heap[W.heap.size]? = some (.cells #[.int .i64 0, .int .i64 0, .int .i64 0, .string ⟨#[]⟩, .string ⟨#[]⟩, .slice none 0 0] 56 (0, 0)) := cells_put (j := 5) (cells_put (j := 4) (cells_put (j := 3) (cells_put (j := 2) (cells_put (j := 1) (cells_put (j := 0) (HBX.out) (.int .i64 0)) (.int .i64 0)) (.int .i64 0)) (.string ⟨#[]⟩)) (.string ⟨#[]⟩)) (.slice none 0 0)
    refine bodyPost_ret (v := .tuple #[.agg #[.int .i64 0, .int .i64 0, .int .i64 0, .string ⟨#[]⟩, .string ⟨#[]⟩, .slice none 0 0], .int .i64 6]) (by simp [results, Tryz.results18, go_sem, (cells_at (v := .int .i64 0) (j := 0) hfin rfl).1, (cells_at (v := .int .i64 0) (j := 1) hfin rfl).1, (cells_at (v := .int .i64 0) (j := 2) hfin rfl).1, (cells_at (v := .string ⟨#[]⟩) (j := 3) hfin rfl).1, (cells_at (v := .string ⟨#[]⟩) (j := 4) hfin rfl).1, (cells_at (v := .slice none 0 0) (j := 5) hfin rfl).1]) rfl ⟨⟨_, _, rfl, 0, 0, 0, [], [], .slice none 0 0, [], [], rfl, ⟨none, 0, rfl, fun j hj => by simp at hj⟩, by decide, by simp, rfl, (fun h => by cases h), .inr ⟨rfl, HSP.out, rfl⟩, fun h => by cases h⟩, ?_⟩
    exact (((((((((Below.refl _ _).alloc (Nat.le_refl _) _).trans (hb1.mono (by simp)))).setCell (p := ⟨W.heap.size, 0, none⟩) (Nat.le_refl _) _).setCell (p := ⟨W.heap.size, 1, none⟩) (Nat.le_refl _) _).setCell (p := ⟨W.heap.size, 2, none⟩) (Nat.le_refl _) _).setCell (p := ⟨W.heap.size, 3, none⟩) (Nat.le_refl _) _).setCell (p := ⟨W.heap.size, 4, none⟩) (Nat.le_refl _) _).setCell (p := ⟨W.heap.size, 5, none⟩) (Nat.le_refl _) _
  | some ps =>
    obtain ⟨p0, p1, p2, p3, p4, p5, hps⟩ : ∃ p0 p1 p2 p3 p4 p5, ps = [p0, p1, p2, p3, p4, p5] := by
      have hl := ((split_iff 50 d ps).1 hsp).2.2.2.len
      match ps, hl with
      | [p0, p1, p2, p3, p4, p5], _ => exact ⟨_, _, _, _, _, _, rfl⟩
    subst hps
    obtain ⟨hk, hs, hd, hg⟩ := (split_iff 50 d _).1 hsp
    have hg' : p0.size = 1 ∧ p1.size = 1 ∧ p2.size = 2 ∧ cntK p3 = some p3.size ∧ (cntK p4 = some p4.size ∧ 1 < p4.size) ∧ (typesR p5).isSome = true ∧ True := hg
    obtain ⟨g0, g1, g2, g3, ⟨g4, _⟩, g5, _⟩ := hg'
    obtain ⟨tl, htl⟩ := Option.isSome_iff_exists.1 g5
    obtain ⟨hrise, hp5⟩ := typesR_back htl
    obtain ⟨z3, r3, hr3, hx3, hc3⟩ := cnt_split g3
    obtain ⟨z4, r4, hr4, hx4, hc4⟩ := cnt_split g4
    have hcs : p0.size + p1.size + p2.size + p3.size + p4.size + p5.size ≤ 2000 := by
      rw [hd] at hs
      simp only [cat, app_size] at hs
      have : (⟨#[]⟩ : ByteArray).size = 0 := rfl
      omega
    have hrl : tl.length ≤ 1000000 := by
      rcases rise_len tl (-1) hrise with h | rfl
      · omega
      · simp
    have e0 : (⟨(bytesB (numB p0.data.toList) 1).toArray⟩ : ByteArray) = p0 := by
      apply ba_ext
      have := bytesB_num p0.data.toList (by rw [size_list]; omega)
      rw [size_list, g0] at this
      exact this
    have e1 : (⟨(bytesB (numB p1.data.toList) 1).toArray⟩ : ByteArray) = p1 := by
      apply ba_ext
      have := bytesB_num p1.data.toList (by rw [size_list]; omega)
      rw [size_list, g1] at this
      exact this
    have e2 : (⟨(bytesB (numB p2.data.toList) 2).toArray⟩ : ByteArray) = p2 := by
      apply ba_ext
      have := bytesB_num p2.data.toList (by rw [size_list]; omega)
      rw [size_list, g2] at this
      exact this
    have HTK : Hid (encR (tl.map fun n => ((n : Nat) : Int)) = some (encT tl) ∧ joinR 50 (some (pcs3 (numB p0.data.toList) (numB p1.data.toList) (numB p2.data.toList) r3 r4 (encT tl))) = some d ∧ typesR ⟨(encT tl).toArray⟩ = some tl) := by
      refine ⟨encR_rise hrise, ?_, by rw [← hp5]; exact htl⟩
      rw [pcs3, e0, e1, e2, ← hc3, ← hc4, ← hp5, joinR, ← hd, hsp]
      exact if_pos rfl
    have HBD : Hid (numB p0.data.toList < 256 ∧ numB p1.data.toList < 256 ∧ numB p2.data.toList < 65536) := by
      have l0 := numB_lt p0.data.toList
      have l1 := numB_lt p1.data.toList
      have l2 := numB_lt p2.data.toList
      rw [size_list, g0] at l0
      rw [size_list, g1] at l1
      rw [size_list, g2] at l2
      exact ⟨by simpa using l0, by simpa using l1, by simpa using l2⟩
    have HTY := Hid.mk (fun w => typesOf_in w p5 (by omega))
    rw [htl] at HTY
    rw [hsp] at HS
    have HN0 := Hid.mk (number_in p0 (by omega))
    have HN1 := Hid.mk (number_in p1 (by omega))
    have HN2 := Hid.mk (number_in p2 (by omega))
    generalize numB p0.data.toList = m0 at HN0 HTK HBD e0
    generalize numB p1.data.toList = m1 at HN1 HTK HBD e1
    generalize numB p2.data.toList = m2 at HN2 HTK HBD e2
    have hi3 : (1 : Int) ≤ (p3.size : Int) := by omega
    have hi4 : (1 : Int) ≤ (p4.size : Int) := by omega
    have hz3 : p3.size ≤ 2000 := by omega
    have hz4 : p4.size ≤ 2000 := by omega
    clear hsp hg g5 hp5 htl hd hs hrise e0 e1 e2 g0 g1 g2 g3 g4 hc3 hc4 z3 z4
    go_enter Tryz.func18, Tryz.ntmps18
    go_wp2_with fail
    refine (HS.out _).mono ?_
    rintro e w1 ⟨⟨v, rfl, hrow⟩, hb1⟩
    obtain ⟨q, c, hv⟩ := row_as hrow
    subst hv
    obtain ⟨g, hq, hgl, _⟩ := row_cell hrow 0 (by simp)
    subst hq
    obtain ⟨_, _, hgb⟩ := row_frozen (j := 0) hrow (by simp)
    simp only [World.size_alloc] at hgb
    have hgne : g ≠ W.heap.size := by omega
    have hoff : ∀ (X : World) (j i : Nat) (v : Value), (X.setCell ⟨W.heap.size, j, none⟩ v).cell? ⟨g, i, none⟩ = X.cell? ⟨g, i, none⟩ := fun X j i v => by simp only [World.cell?, Below.heap_setCell X ⟨W.heap.size, j, none⟩ v g hgne]
    have hdr : ∀ (X : World) (i : Nat), X.drew.cell? ⟨g, i, none⟩ = X.cell? ⟨g, i, none⟩ := fun _ _ => rfl
    have r00 : w1.cell? ⟨g, 0, none⟩ = some (.string p0) := row_at hrow 0 p0 rfl
    have r11 : w1.cell? ⟨g, 1, none⟩ = some (.string p1) := row_at hrow 1 p1 rfl
    have r22 : w1.cell? ⟨g, 2, none⟩ = some (.string p2) := row_at hrow 2 p2 rfl
    have r33 : w1.cell? ⟨g, 3, none⟩ = some (.string p3) := row_at hrow 3 p3 rfl
    have r44 : w1.cell? ⟨g, 4, none⟩ = some (.string p4) := row_at hrow 4 p4 rfl
    have r55 : w1.cell? ⟨g, 5, none⟩ = some (.string p5) := row_at hrow 5 p5 rfl
    have hbx := (hb1.block _ (by simp)).trans (heap_new W (.cells #[.int .i64 0, .int .i64 0, .int .i64 0, .string ⟨#[]⟩, .string ⟨#[]⟩, .slice none 0 0] 56))
    have HL : Hid (∀ (G : Prop) (v1 : Value) (x1 : World), x1.ownsRow w1.drew.heap.size 3 1 v1 tl.length (intsV tl) → Below w1.drew.heap.size w1.drew x1 →
        (∀ q1 c1, v1 = .slice q1 tl.length c1 → x1.cell? ⟨g, 0, none⟩ = some (.string p0) → x1.cell? ⟨g, 1, none⟩ = some (.string p1) → x1.cell? ⟨g, 2, none⟩ = some (.string p2) → x1.cell? ⟨g, 3, none⟩ = some (.string p3) → x1.cell? ⟨g, 4, none⟩ = some (.string p4) → x1.cell? ⟨g, 5, none⟩ = some (.string p5) → x1.heap[W.heap.size]? = some (.cells #[.int .i64 0, .int .i64 0, .int .i64 0, .string ⟨#[]⟩, .string ⟨#[]⟩, .slice none 0 0] 56 (0, 0)) → x1.cell? ⟨W.heap.size, 0, none⟩ = some (.int .i64 0) → x1.frozen? ⟨W.heap.size, 0, none⟩ = false → x1.cell? ⟨W.heap.size, 1, none⟩ = some (.int .i64 0) → x1.frozen? ⟨W.heap.size, 1, none⟩ = false → x1.cell? ⟨W.heap.size, 2, none⟩ = some (.int .i64 0) → x1.frozen? ⟨W.heap.size, 2, none⟩ = false → x1.cell? ⟨W.heap.size, 3, none⟩ = some (.string ⟨#[]⟩) → x1.frozen? ⟨W.heap.size, 3, none⟩ = false → x1.cell? ⟨W.heap.size, 4, none⟩ = some (.string ⟨#[]⟩) → x1.frozen? ⟨W.heap.size, 4, none⟩ = false → x1.cell? ⟨W.heap.size, 5, none⟩ = some (.slice none 0 0) → x1.frozen? ⟨W.heap.size, 5, none⟩ = false → Below w1.heap.size w1 x1 → G) → G) := by
      intro G v1 x1 hr hb hG
      obtain ⟨q1, c1, hv1⟩ := row_as hr
      have hb' : Below w1.heap.size w1 x1 := ⟨hb.os, hb.tape, hb.output, hb.size, hb.block⟩
      have hx1 := (hb'.block _ (box_lt hbx)).trans hbx
      exact hG q1 c1 hv1 ((hb'.cell (p := ⟨g, 0, none⟩) hgl).trans r00) ((hb'.cell (p := ⟨g, 1, none⟩) hgl).trans r11) ((hb'.cell (p := ⟨g, 2, none⟩) hgl).trans r22) ((hb'.cell (p := ⟨g, 3, none⟩) hgl).trans r33) ((hb'.cell (p := ⟨g, 4, none⟩) hgl).trans r44) ((hb'.cell (p := ⟨g, 5, none⟩) hgl).trans r55) hx1 (cells_at (v := .int .i64 0) (j := 0) hx1 rfl).1 (cells_at (v := .int .i64 0) (j := 0) hx1 rfl).2 (cells_at (v := .int .i64 0) (j := 1) hx1 rfl).1 (cells_at (v := .int .i64 0) (j := 1) hx1 rfl).2 (cells_at (v := .int .i64 0) (j := 2) hx1 rfl).1 (cells_at (v := .int .i64 0) (j := 2) hx1 rfl).2 (cells_at (v := .string ⟨#[]⟩) (j := 3) hx1 rfl).1 (cells_at (v := .string ⟨#[]⟩) (j := 3) hx1 rfl).2 (cells_at (v := .string ⟨#[]⟩) (j := 4) hx1 rfl).1 (cells_at (v := .string ⟨#[]⟩) (j := 4) hx1 rfl).2 (cells_at (v := .slice none 0 0) (j := 5) hx1 rfl).1 (cells_at (v := .slice none 0 0) (j := 5) hx1 rfl).2 hb'
    have mk0 : True := trivial
    clear hrow hbx
    go_wp2
    go_region_held3 (fun w' => w'.cell? ⟨g, 0, none⟩ = some (.string p0) ∧ w'.cell? ⟨g, 1, none⟩ = some (.string p1) ∧ w'.cell? ⟨g, 2, none⟩ = some (.string p2) ∧ w'.cell? ⟨g, 3, none⟩ = some (.string p3) ∧ w'.cell? ⟨g, 4, none⟩ = some (.string p4) ∧ w'.cell? ⟨g, 5, none⟩ = some (.string p5)) (first | ((repeat' apply And.intro) <;> (first | (simp only [hoff, hdr]; with_reducible assumption) | with_reducible assumption)) | go_keep)
      (first
        | (have hck := mk3; clear hck; go_at_call 41; refine (HTY.out _).mono ?_; rintro e x1 ⟨⟨v1, rfl, hrow1⟩, y1⟩; refine HL.out _ v1 x1 hrow1 y1 ?_; intro q1 c1 hv1 s0 s1 s2 s3 s4 s5 hx1 b0 f0 b1 f1 b2 f2 b3 f3 b4 f4 b5 f5 hbb; subst hv1)
        | (have hck := mk2; clear hck; go_at_call 37; refine (HN2.out _).mono ?_; rintro e y3 ⟨rfl, rfl⟩; have mk3 : True := trivial)
        | (have hck := mk1; clear hck; go_at_call 37; refine (HN1.out _).mono ?_; rintro e y2 ⟨rfl, rfl⟩; have mk2 : True := trivial)
        | (have hck := mk0; clear hck; go_at_call 37; refine (HN0.out _).mono ?_; rintro e y1 ⟨rfl, rfl⟩; have mk1 : True := trivial))
    go_wp2
    have hfin : (((((((x1.setCell ⟨W.heap.size, 0, none⟩ (.int .i64 ((m0 : Nat) : Int))).setCell ⟨W.heap.size, 1, none⟩ (.int .i64 ((m1 : Nat) : Int))).setCell ⟨W.heap.size, 2, none⟩ (.int .i64 ((m2 : Nat) : Int))).setCell ⟨W.heap.size, 3, none⟩ (.string ⟨r3.toArray⟩)).setCell ⟨W.heap.size, 4, none⟩ (.string ⟨r4.toArray⟩)).setCell ⟨W.heap.size, 5, none⟩ (.slice q1 tl.length c1))).heap[W.heap.size]? = some (.cells #[.int .i64 ((m0 : Nat) : Int), .int .i64 ((m1 : Nat) : Int), .int .i64 ((m2 : Nat) : Int), .string ⟨r3.toArray⟩, .string ⟨r4.toArray⟩, .slice q1 tl.length c1] 56 (0, 0)) := cells_put (j := 5) (cells_put (j := 4) (cells_put (j := 3) (cells_put (j := 2) (cells_put (j := 1) (cells_put (j := 0) (hx1) (.int .i64 ((m0 : Nat) : Int))) (.int .i64 ((m1 : Nat) : Int))) (.int .i64 ((m2 : Nat) : Int))) (.string ⟨r3.toArray⟩)) (.string ⟨r4.toArray⟩)) (.slice q1 tl.length c1)
    have hW1 : W.heap.size < w1.heap.size := by have := hb1.size; simp at this; omega
    have hin : IntsAt (((((((x1.setCell ⟨W.heap.size, 0, none⟩ (.int .i64 ((m0 : Nat) : Int))).setCell ⟨W.heap.size, 1, none⟩ (.int .i64 ((m1 : Nat) : Int))).setCell ⟨W.heap.size, 2, none⟩ (.int .i64 ((m2 : Nat) : Int))).setCell ⟨W.heap.size, 3, none⟩ (.string ⟨r3.toArray⟩)).setCell ⟨W.heap.size, 4, none⟩ (.string ⟨r4.toArray⟩)).setCell ⟨W.heap.size, 5, none⟩ (.slice q1 tl.length c1))) (.slice q1 tl.length c1) (tl.map fun n => ((n : Nat) : Int)) := by
      have h1 := hrow1
      replace h1 := ownsRow_setCell_below h1 (a := ⟨W.heap.size, 0, none⟩) hW1 (.int .i64 ((m0 : Nat) : Int))
      replace h1 := ownsRow_setCell_below h1 (a := ⟨W.heap.size, 1, none⟩) hW1 (.int .i64 ((m1 : Nat) : Int))
      replace h1 := ownsRow_setCell_below h1 (a := ⟨W.heap.size, 2, none⟩) hW1 (.int .i64 ((m2 : Nat) : Int))
      replace h1 := ownsRow_setCell_below h1 (a := ⟨W.heap.size, 3, none⟩) hW1 (.string ⟨r3.toArray⟩)
      replace h1 := ownsRow_setCell_below h1 (a := ⟨W.heap.size, 4, none⟩) hW1 (.string ⟨r4.toArray⟩)
      replace h1 := ownsRow_setCell_below h1 (a := ⟨W.heap.size, 5, none⟩) hW1 (.slice q1 tl.length c1)
      exact ints_of_row (W := ((((((x1.setCell ⟨W.heap.size, 0, none⟩ (.int .i64 ((m0 : Nat) : Int))).setCell ⟨W.heap.size, 1, none⟩ (.int .i64 ((m1 : Nat) : Int))).setCell ⟨W.heap.size, 2, none⟩ (.int .i64 ((m2 : Nat) : Int))).setCell ⟨W.heap.size, 3, none⟩ (.string ⟨r3.toArray⟩)).setCell ⟨W.heap.size, 4, none⟩ (.string ⟨r4.toArray⟩)).setCell ⟨W.heap.size, 5, none⟩ (.slice q1 tl.length c1))) h1
    refine bodyPost_ret (v := .tuple #[.agg #[.int .i64 ((m0 : Nat) : Int), .int .i64 ((m1 : Nat) : Int), .int .i64 ((m2 : Nat) : Int), .string ⟨r3.toArray⟩, .string ⟨r4.toArray⟩, .slice q1 tl.length c1], .int .i64 0]) (by simp [results, Tryz.results18, go_sem, (cells_at (v := .int .i64 ((m0 : Nat) : Int)) (j := 0) hfin rfl).1, (cells_at (v := .int .i64 ((m1 : Nat) : Int)) (j := 1) hfin rfl).1, (cells_at (v := .int .i64 ((m2 : Nat) : Int)) (j := 2) hfin rfl).1, (cells_at (v := .string ⟨r3.toArray⟩) (j := 3) hfin rfl).1, (cells_at (v := .string ⟨r4.toArray⟩) (j := 4) hfin rfl).1, (cells_at (v := .slice q1 tl.length c1) (j := 5) hfin rfl).1]) rfl ⟨⟨_, _, rfl, m0, m1, m2, r3, r4, .slice q1 tl.length c1, _, _, rfl, hin, ⟨HBD.out.1, HBD.out.2.1, HBD.out.2.2, hr3, hr4⟩, by simpa using hrl, HTK.out.1, fun _ => HTK.out.2.1, .inl rfl, fun _ => ⟨_, rfl, HTK.out.2.2⟩⟩, ?_⟩
    have hW2 : Below W.heap.size W x1 := (((Below.refl _ _).alloc (Nat.le_refl _) _).trans (hb1.mono (by simp))).trans (hbb.mono (by omega))
    exact ((((((hW2).setCell (p := ⟨W.heap.size, 0, none⟩) (Nat.le_refl _) _).setCell (p := ⟨W.heap.size, 1, none⟩) (Nat.le_refl _) _).setCell (p := ⟨W.heap.size, 2, none⟩) (Nat.le_refl _) _).setCell (p := ⟨W.heap.size, 3, none⟩) (Nat.le_refl _) _).setCell (p := ⟨W.heap.size, 4, none⟩) (Nat.le_refl _) _).setCell (p := ⟨W.heap.size, 5, none⟩) (Nat.le_refl _) _
end Go.Proofs.YtdhcbaennpediaaGreatDoor

/- What the program and the document's own functions take apart is the same. -/
namespace Go.Proofs.YtdhcbaennpediaaGreatDoor
set_option linter.unusedVariables false
open Go.RowKit

theorem join_split {k : Int} {ps : List ByteArray} {d : ByteArray} (h : joinR k (some ps) = some d) : splitR k d = some ps := by
  rw [joinR] at h
  split at h
  · rename_i hs
    rw [← Option.some.inj h]
    exact hs
  · cases h
theorem num_b1 (n : Nat) (h : n < 256) : numB (⟨(bytesB n 1).toArray⟩ : ByteArray).data.toList = n := by
  rw [bytesB1]
  simp [numB]
  omega
theorem num_b2 (n : Nat) (h : n < 65536) : numB (⟨(bytesB n 2).toArray⟩ : ByteArray).data.toList = n := by
  rw [bytesB2]
  simp [numB]
  omega
theorem num_b4 (n : Nat) (h : n < 4294967296) : numB (⟨(bytesB n 4).toArray⟩ : ByteArray).data.toList = n := by
  rw [bytesB4]
  simp [numB]
  omega
/-- the error that belongs to an answer. -/
def erOf (ok : Bool) : Int := if ok then 0 else 6

theorem sameKey {d : ByteArray} {v : Value} {er : Int} {e : Ending} (ht : TakeKey d v er) (hr : RefKeyPost d e) : ∃ ok, e = .returned (.tuple #[v, .bool ok]) ∧ er = erOf ok := by
  obtain ⟨n0, n1, n2, s3, rfl, hb, hj, hz⟩ := ht
  rcases hr with ⟨t0, t1, t2, t3, hsp, rfl⟩ | ⟨hsp, rfl⟩
  · have he : er = 0 := by
      rcases hz with h | ⟨_, h, _⟩
      · exact h
      · rw [hsp] at h; cases h
    have hs := join_split (hj he)
    rw [hsp] at hs
    simp only [Option.some.injEq, List.cons.injEq, and_true] at hs
    obtain ⟨q0, q1, q2, q3⟩ := hs
    refine ⟨true, ?_, he⟩
    subst q0 q1 q2 q3
    rw [num_b2 n0 (by omega), num_b1 n1 (by omega), num_b1 n2 (by omega)]
  · refine ⟨false, ?_, ?_⟩
    all_goals
      rcases hz with h | ⟨h1, _, h2⟩
      · have := join_split (hj h)
        rw [hsp] at this
        cases this
    · rw [h2]
    · exact h1

theorem sameDs {d : ByteArray} {v : Value} {er : Int} {e : Ending} (ht : TakeDs d v er) (hr : RefDsPost d e) : ∃ ok, e = .returned (.tuple #[v, .bool ok]) ∧ er = erOf ok := by
  obtain ⟨n0, n1, n2, s3, rfl, hb, hj, hz⟩ := ht
  rcases hr with ⟨t0, t1, t2, t3, hsp, rfl⟩ | ⟨hsp, rfl⟩
  · have he : er = 0 := by
      rcases hz with h | ⟨_, h, _⟩
      · exact h
      · rw [hsp] at h; cases h
    have hs := join_split (hj he)
    rw [hsp] at hs
    simp only [Option.some.injEq, List.cons.injEq, and_true] at hs
    obtain ⟨q0, q1, q2, q3⟩ := hs
    refine ⟨true, ?_, he⟩
    subst q0 q1 q2 q3
    rw [num_b2 n0 (by omega), num_b1 n1 (by omega), num_b1 n2 (by omega)]
  · refine ⟨false, ?_, ?_⟩
    all_goals
      rcases hz with h | ⟨h1, _, h2⟩
      · have := join_split (hj h)
        rw [hsp] at this
        cases this
    · rw [h2]
    · exact h1

theorem sameSoa {d : ByteArray} {v : Value} {er : Int} {e : Ending} (ht : TakeSoa d v er) (hr : RefSoaPost d e) : ∃ ok, e = .returned (.tuple #[v, .bool ok]) ∧ er = erOf ok := by
  obtain ⟨n2, n3, n4, n5, n6, s0, s1, rfl, hb, hj, hz⟩ := ht
  rcases hr with ⟨t0, t1, t2, t3, t4, t5, t6, hsp, rfl⟩ | ⟨hsp, rfl⟩
  · have he : er = 0 := by
      rcases hz with h | ⟨_, h, _⟩
      · exact h
      · rw [hsp] at h; cases h
    have hs := join_split (hj he)
    rw [hsp] at hs
    simp only [Option.some.injEq, List.cons.injEq, and_true] at hs
    obtain ⟨q0, q1, q2, q3, q4, q5, q6⟩ := hs
    refine ⟨true, ?_, he⟩
    subst q0 q1 q2 q3 q4 q5 q6
    rw [num_b4 n2 (by omega), num_b4 n3 (by omega), num_b4 n4 (by omega), num_b4 n5 (by omega), num_b4 n6 (by omega)]
  · refine ⟨false, ?_, ?_⟩
    all_goals
      rcases hz with h | ⟨h1, _, h2⟩
      · have := join_split (hj h)
        rw [hsp] at this
        cases this
    · rw [h2]
    · exact h1

theorem sameSig {d : ByteArray} {v : Value} {er : Int} {e : Ending} (ht : TakeSig d v er) (hr : RefSigPost d e) : ∃ ok, e = .returned (.tuple #[v, .bool ok]) ∧ er = erOf ok := by
  obtain ⟨n0, n1, n2, n3, n4, n5, n6, s7, s8, rfl, hb, hj, hz⟩ := ht
  rcases hr with ⟨t0, t1, t2, t3, t4, t5, t6, t7, t8, hsp, rfl⟩ | ⟨hsp, rfl⟩
  · have he : er = 0 := by
      rcases hz with h | ⟨_, h, _⟩
      · exact h
      · rw [hsp] at h; cases h
    have hs := join_split (hj he)
    rw [hsp] at hs
    simp only [Option.some.injEq, List.cons.injEq, and_true] at hs
    obtain ⟨q0, q1, q2, q3, q4, q5, q6, q7, q8⟩ := hs
    refine ⟨true, ?_, he⟩
    subst q0 q1 q2 q3 q4 q5 q6 q7 q8
    rw [num_b2 n0 (by omega), num_b1 n1 (by omega), num_b1 n2 (by omega), num_b4 n3 (by omega), num_b4 n4 (by omega), num_b4 n5 (by omega), num_b2 n6 (by omega)]
  · refine ⟨false, ?_, ?_⟩
    all_goals
      rcases hz with h | ⟨h1, _, h2⟩
      · have := join_split (hj h)
        rw [hsp] at this
        cases this
    · rw [h2]
    · exact h1

theorem sameNsec {d : ByteArray} {v : Value} {er : Int} {e : Ending} {w w' : World} (ht : TakeNsec d w v er) (hb : Below w.heap.size w w') (hr : RefNsecPost d e w') : ∃ nx vj vu l ok, v = .agg #[.string nx, vj] ∧ IntsAt w' vj l ∧ e = .returned (.tuple #[.agg #[.string nx, vu], .bool ok]) ∧ IntsAt w' vu l ∧ er = erOf ok ∧ l.length ≤ 1000000 := by
  obtain ⟨nx, v', l', bs, rfl, hi, _, hl, _, hj, hz, hty⟩ := ht
  have hi' := hi.below hb
  rcases hr with ⟨t0, t1, vu, l, hsp, htl, rfl, hiu⟩ | ⟨hsp, rfl⟩
  · have he : er = 0 := by
      rcases hz with h | ⟨_, h, _⟩
      · exact h
      · rw [hsp] at h; cases h
    have hs := join_split (hj he)
    rw [hsp] at hs
    simp only [Option.some.injEq, List.cons.injEq, and_true] at hs
    obtain ⟨rfl, rfl⟩ := hs
    obtain ⟨tl, rfl, h2⟩ := hty he
    rw [htl] at h2
    cases h2
    exact ⟨t0, v', vu, _, true, rfl, hi', rfl, hiu, he, hl⟩
  · rcases hz with h | ⟨h1, _, h2⟩
    · have := join_split (hj h)
      rw [hsp] at this
      cases this
    · rw [h2]
      refine ⟨⟨#[]⟩, .slice none 0 0, .slice none 0 0, [], false, rfl, ⟨none, 0, rfl, fun j hj => by simp at hj⟩, rfl, ⟨none, 0, rfl, fun j hj => by simp at hj⟩, h1, by simp⟩
theorem sameNsec3 {d : ByteArray} {v : Value} {er : Int} {e : Ending} {w w' : World} (ht : TakeNsec3 d w v er) (hb : Below w.heap.size w w') (hr : RefNsec3Post d e w') : ∃ (n0 n1 n2 : Nat) (sa nx : ByteArray) (vj vu : Value) (l : List Int) (ok : Bool), v = .agg #[.int .i64 ((n0 : Nat) : Int), .int .i64 ((n1 : Nat) : Int), .int .i64 ((n2 : Nat) : Int), .string sa, .string nx, vj] ∧ IntsAt w' vj l ∧ e = .returned (.tuple #[.agg #[.int .i64 ((n0 : Nat) : Int), .int .i64 ((n1 : Nat) : Int), .int .i64 ((n2 : Nat) : Int), .string sa, .string nx, vu], .bool ok]) ∧ IntsAt w' vu l ∧ er = erOf ok ∧ l.length ≤ 1000000 := by
  obtain ⟨n0, n1, n2, sa, nx, v', l', bs, rfl, hi, hbd, hl, _, hj, hz, hty⟩ := ht
  have hi' := hi.below hb
  rcases hr with ⟨t0, t1, t2, sa', nx', t5, vu, l, na, nn, hsp, htl, rfl, hiu⟩ | ⟨hsp, rfl⟩
  · have he : er = 0 := by
      rcases hz with h | ⟨_, h, _⟩
      · exact h
      · rw [hsp] at h; cases h
    have hs := join_split (hj he)
    rw [hsp] at hs
    simp only [pcs3, Option.some.injEq, List.cons.injEq, and_true] at hs
    obtain ⟨q0, q1, q2, q3, q4, q5⟩ := hs
    subst q0 q1 q2 q5
    have e3 : sa' = ⟨sa.toArray⟩ := by
      apply ba_ext
      have := congrArg (fun x : ByteArray => x.data.toList) q3
      simp only [cntd, List.cons.injEq] at this
      exact this.2
    have e4 : nx' = ⟨nx.toArray⟩ := by
      apply ba_ext
      have := congrArg (fun x : ByteArray => x.data.toList) q4
      simp only [cntd, List.cons.injEq] at this
      exact this.2
    obtain ⟨tl, rfl, h2⟩ := hty he
    rw [htl] at h2
    cases h2
    refine ⟨n0, n1, n2, ⟨sa.toArray⟩, ⟨nx.toArray⟩, v', vu, _, true, rfl, hi', ?_, hiu, he, hl⟩
    rw [e3, e4, num_b1 n0 (by omega), num_b1 n1 (by omega), num_b2 n2 (by omega)]
  · rcases hz with h | ⟨h1, _, h2⟩
    · have := join_split (hj h)
      rw [hsp] at this
      cases this
    · rw [h2]
      exact ⟨0, 0, 0, ⟨#[]⟩, ⟨#[]⟩, .slice none 0 0, .slice none 0 0, [], false, rfl, ⟨none, 0, rfl, fun j hj => by simp at hj⟩, rfl, ⟨none, 0, rfl, fun j hj => by simp at hj⟩, h1, by simp⟩
end Go.Proofs.YtdhcbaennpediaaGreatDoor

/- numbers: are two lists of numbers the same? -/
namespace Go.Proofs.YtdhcbaennpediaaGreatDoor
set_option linter.unusedVariables false
open Go.RowKit

set_option maxRecDepth 100000 in
set_option maxHeartbeats 2000000 in
theorem numbers_in (W : World) (va vb : Value) (a b : List Int) (ha : IntsAt W va a) (hb : IntsAt W vb b) (hla : a.length ≤ 1000000) (hlb : b.length ≤ 1000000) :
    Calls Tryz.prog 20 #[va, vb] W fun e w' => e = .returned (.bool (decide (a = b))) ∧ Below W.heap.size W w' := by
  obtain ⟨qa, ca, rfl, hca⟩ := ha
  obtain ⟨qb, cb, rfl, hcb⟩ := hb
  have hmo : Tryz.prog.follows Departure.mixedOrders = true := by kernel_rfl
  obtain ⟨D, hDe⟩ : ∃ D, decide (a = b) = D := ⟨_, rfl⟩
  rw [hDe]
  have HDE := Hid.mk hDe
  clear hDe
  by_cases hn : a.length = b.length
  · have HCA := Hid.mk hca
    have HCB := Hid.mk hcb
    have HN := Hid.mk hn
    have hnb : ((a.length : Int) != (b.length : Int)) = false := by rw [hn]; simp
    clear hca hcb hn
    go_enter Tryz.func20, Tryz.ntmps20
    go_wp2
    go_loopw [5] (fun iv wr => ∃ m : Nat, m ≤ a.length ∧ iv = .int .i64 m ∧ Hid (a.take m = b.take m) ∧ Below W.heap.size W wr) (fun iv _ => a.length - (intOf iv).toNat)
    case atStart => exact ⟨0, Nat.zero_le _, rfl, rfl, Below.refl _ _⟩
    case round =>
      obtain ⟨m, hm, rfl, HE, hbl⟩ := hrel
      by_cases hlt : m < a.length
      · have hltb : m < b.length := by have := HN.out; omega
        obtain ⟨ga, hqa, hga, hxa⟩ := HCA.out m hlt
        obtain ⟨gb, hqb, hgb, hxb⟩ := HCB.out m hltb
        subst hqa hqb
        have cA := (hbl.cell (p := ⟨ga, m, none⟩) hga).trans hxa
        have cB := (hbl.cell (p := ⟨gb, m, none⟩) hgb).trans hxb
        have hi0 : (0 : Int) ≤ (m : Int) := by omega
        have hi1 : (m : Int) < (a.length : Int) := by omega
        have hi2 : (m : Int) < (b.length : Int) := by omega
        have HTA : Hid (a.take (m + 1) = a.take m ++ [a[m]]) := List.take_succ_eq_append_getElem hlt
        have HTB : Hid (b.take (m + 1) = b.take m ++ [b[m]]) := List.take_succ_eq_append_getElem hltb
        have HNE : Hid (a[m] ≠ b[m] → a ≠ b) := by
          intro h e
          subst e
          exact h rfl
        clear hxa hxb
        generalize a[m] = x at cA HTA HNE
        generalize b[m] = y at cB HTB HNE
        by_cases hxy : x = y
        · subst hxy
          have hs2 : (x != x) = false := by simp
          have HNX : Hid (a.take (m + 1) = b.take (m + 1)) := by rw [Hid, HTA.out, HTB.out, HE.out]
          go_wp2
          go_region
          go_wp2
          exact ⟨⟨m + 1, by omega, by go_num, HNX, hbl.drew⟩, by simp [intOf]; omega⟩
        · have hs2 : (x != y) = true := by simpa using hxy
          have HD : Hid (D = false) := by rw [Hid, ← HDE.out, decide_eq_false_iff_not]; exact HNE.out hxy
          clear hxy
          go_wp2
          go_region
          go_wp2
          go_ret
          exact ⟨by rw [HD.out]; rfl, hbl.drew⟩
      · obtain rfl : m = a.length := by omega
        have hab : a = b := by
          have := HE.out
          rw [List.take_length] at this
          rw [HN.out, List.take_length] at this
          exact this
        have HD : Hid (D = true) := by rw [Hid, ← HDE.out, decide_eq_true_iff]; exact hab
        clear hab
        go_wp2
        go_ret
        exact ⟨by rw [HD.out]; rfl, hbl⟩
  · have HD : Hid (D = false) := by rw [Hid, ← HDE.out, decide_eq_false_iff_not]; exact fun e => hn (by rw [e])
    have hnb : ((a.length : Int) != (b.length : Int)) = true := by rw [bne_iff_ne]; omega
    clear hn
    go_enter Tryz.func20, Tryz.ntmps20
    go_wp2
    go_ret
    exact ⟨by rw [HD.out]; rfl, Below.refl _ _⟩
end Go.Proofs.YtdhcbaennpediaaGreatDoor

/- TypeOf of a text that is TYPE and a number. -/
namespace Go.Proofs.YtdhcbaennpediaaGreatDoor
set_option linter.unusedVariables false
open Go.RowKit Go.Sort

theorem below_bytesW (w : World) (t : ByteArray) : Below w.heap.size w (Lib.bytesWorld w 5 t) :=
  ⟨rfl, rfl, rfl, by rw [Lib.bytesWorld_size]; omega, fun k hk => Lib.bytesWorld_at_old w 5 t k hk⟩

/-- what TypeOf makes of TYPE and digits that are the number k. -/
def numT (k : Nat) (text : List UInt8) : Nat × Nat := if typeT k = text then (k, 0) else (0, 7)

set_option maxRecDepth 100000 in
set_option maxHeartbeats 2000000 in
theorem numbered_in (text ds : List UInt8) (k : Nat) (hk : k ≤ 65535) (htx : text = [84, 89, 80, 69] ++ ds) (hat : Lib.atoiAll ds = .ok (k : Int)) (hl : text.length ≤ 1000) (w : World) (hT : Types w) (hP : Pow w) :
    Calls Tryz.prog 61 #[.string ⟨text.toArray⟩] w fun e w' => e = .returned (.tuple #[.int .i64 ((numT k text).1 : Nat), .int .i64 ((numT k text).2 : Nat)]) ∧ Below w.heap.size w w' := by
  have h1 : Lib.trimPrefix text [84, 89, 80, 69] = ds := by rw [htx]; simp [Lib.trimPrefix, Lib.hasPrefix]
  have h2 : Lib.hasPrefix text [84, 89, 80, 69] = true := by rw [htx]; simp [Lib.hasPrefix]
  have hC := Tryz.strings_CutPrefix ⟨text.toArray⟩ ⟨#[84, 89, 80, 69]⟩
  have hC' : ∀ w, Calls Tryz.prog 76 #[.string ⟨text.toArray⟩, .string ⟨#[84, 89, 80, 69]⟩] w fun e w' => e = .returned (.tuple #[.string ⟨ds.toArray⟩, .bool true]) ∧ w' = w := by
    intro w
    have := hC w
    simp only at this
    rw [h1, h2] at this
    exact this
  have HC := Hid.mk hC'
  have hA : ∀ w, Calls Tryz.prog 77 #[.string ⟨ds.toArray⟩] w fun e w' => e = .returned (.tuple #[.int .i64 (k : Int), .nilIface]) ∧ Below w.heap.size w w' := by
    intro w
    refine (Tryz.strconv_Atoi_ok ⟨ds.toArray⟩ (by rw [ba_size]; rw [htx, List.length_append] at hl; omega) k hat w).mono ?_
    rintro e w' ⟨rfl, h | ⟨t, h⟩⟩
    · rw [h]; exact ⟨rfl, Below.refl _ _⟩
    · rw [h]; exact ⟨rfl, below_bytesW w t⟩
  have HA := Hid.mk hA
  have HTT := Hid.mk (fun w hT hP => typeText_in k hk w hT hP)
  clear hC hC' hA h1 h2 htx hat hl
  unfold numT
  generalize typeT k = tt at HTT ⊢
  by_cases he : tt = text
  · rw [if_pos he]
    subst he
    have hne : ((⟨tt.toArray⟩ : ByteArray).toList != (⟨tt.toArray⟩ : ByteArray).toList) = false := by simp
    go_enter Tryz.func61, Tryz.ntmps61
    go_wp2_with fail
    refine (HC.out _).mono ?_
    rintro e w1 ⟨rfl, rfl⟩
    go_wp2_with fail
    refine (HA.out _).mono ?_
    rintro e w2 ⟨rfl, hb2⟩
    go_wp2_with fail
    refine (HTT.out _ (hT.below hb2) (hP.below hb2)).mono ?_
    rintro e w3 ⟨rfl, hb3⟩
    go_wp2
    go_ret2
    exact ⟨rfl, hb2.trans (hb3.mono hb2.size)⟩
  · rw [if_neg he]
    have hne : ((⟨tt.toArray⟩ : ByteArray).toList != (⟨text.toArray⟩ : ByteArray).toList) = true := by
      rw [bne_iff_ne, ByteArray.toList_eq, ByteArray.toList_eq]; exact he
    have hn2 : (tt == text) = false := by rw [beq_eq_false_iff_ne]; exact he
    go_enter Tryz.func61, Tryz.ntmps61
    go_wp2_with fail
    refine (HC.out _).mono ?_
    rintro e w1 ⟨rfl, rfl⟩
    go_wp2_with fail
    refine (HA.out _).mono ?_
    rintro e w2 ⟨rfl, hb2⟩
    go_wp2_with fail
    refine (HTT.out _ (hT.below hb2) (hP.below hb2)).mono ?_
    rintro e w3 ⟨rfl, hb3⟩
    go_wp2
    go_ret2
    exact ⟨rfl, hb2.trans (hb3.mono hb2.size)⟩

set_option maxRecDepth 100000 in
set_option maxHeartbeats 2000000 in
theorem typeOf_num (text ds : List UInt8) (k : Nat) (hk : k ≤ 65535) (htx : text = [84, 89, 80, 69] ++ ds) (hno : tab.all (fun r => r.2 != text) = true) (hat : Lib.atoiAll ds = .ok (k : Int)) (hl : text.length ≤ 1000) (w : World) (hT : Types w) (hP : Pow w) :
    Calls Tryz.prog 34 #[.string ⟨text.toArray⟩] w fun e w' => e = .returned (.tuple #[.int .i64 ((numT k text).1 : Nat), .int .i64 ((numT k text).2 : Nat)]) ∧ Below w.heap.size w w' := by
  have HN := Hid.mk (fun w hT hP => numbered_in text ds k hk htx hat hl w hT hP)
  clear hk htx hat hl
  generalize numT k text = r at HN ⊢
  obtain ⟨r1, r2⟩ := r
  have HL := Hid.mk (types_var hT)
  have HNO := Hid.mk hno
  clear hno
  go_enter Tryz.func34, Tryz.ntmps34
  go_upto_region 1 with fail
  refine wp_region_lit ?_
  refine wpList_run (v := .agg tabCells.toArray) rfl ?_ ?_
  · simp only [execOp, Act.eval]
    rw [Sem.run_bind, HL.out]; rfl
  go_wp2
  go_loopw [7] (fun i wr => ∃ m : Nat, m ≤ 15 ∧ i = .int .i64 m ∧ Below w.heap.size w wr) (fun i _ => 15 - (intOf i).toNat)
  case atStart => exact ⟨0, by omega, rfl, Below.refl _ _⟩
  case round =>
    obtain ⟨m, hm, rfl, hbl⟩ := hrel
    have hsz := hbl.size
    by_cases hlt : m < 15
    · obtain ⟨kd, tx, htab, hown, hix⟩ := tab_at m hlt
      have hne : tx ≠ text := by
        have h1 := List.all_eq_true.1 HNO.out _ (List.mem_of_getElem? htab)
        simpa using h1
      have hb1 : (tx == text) = false := by rw [beq_eq_false_iff_ne]; exact hne
      have hb2 : ((⟨tx.toArray⟩ : ByteArray).toList == (⟨text.toArray⟩ : ByteArray).toList) = false := by
        rw [beq_eq_false_iff_ne, ByteArray.toList_eq, ByteArray.toList_eq]; exact hne
      clear htab hown hne
      go_wp2
      go_roundw
      case rel => exact ⟨m + 1, by omega, by go_num, hbl.alloc hsz _⟩
      case measure => simp [intOf]; omega
    · go_wp2_with fail
      refine (HN.out _ (hT.below hbl) (hP.below hbl)).mono ?_
      rintro e w2 ⟨rfl, hb2⟩
      go_wp2
      go_ret2
      exact ⟨rfl, hbl.trans (hb2.mono hsz)⟩
end Go.Proofs.YtdhcbaennpediaaGreatDoor

/- The chapter's examples, one by one. -/
namespace Go.Proofs.YtdhcbaennpediaaGreatDoor
set_option linter.unusedVariables false
open Go.RowKit

theorem word_all (s : List UInt8) (h : Lib.cut s [32] = (s, [], false)) : wordB ⟨s.toArray⟩ = ⟨s.toArray⟩ ∧ restB ⟨s.toArray⟩ = ⟨#[]⟩ := by
  unfold wordB restB
  simp only [h]
  exact ⟨trivial, trivial⟩

theorem dd0 : Lib.decDigits 0 = [48] := by rw [Lib.decDigits]; rfl
theorem dd1 : Lib.decDigits 1 = [49] := by rw [Lib.decDigits]; rfl
theorem dd2 : Lib.decDigits 2 = [50] := by rw [Lib.decDigits]; rfl
theorem dd7 : Lib.decDigits 7 = [55] := by rw [Lib.decDigits]; rfl
theorem dd19 : Lib.decDigits 19 = [49, 57] := by
  rw [Lib.decDigits, dif_neg (by omega), show 19 / 10 = 1 from rfl, dd1]; rfl
theorem dd192 : Lib.decDigits 192 = [49, 57, 50] := by
  rw [Lib.decDigits, dif_neg (by omega), show 192 / 10 = 19 from rfl, dd19]; rfl
theorem dd70 : Lib.decDigits 70 = [55, 48] := by
  rw [Lib.decDigits, dif_neg (by omega), show 70 / 10 = 7 from rfl, dd7]; rfl
theorem aT_ex : aT ⟨#[192, 0, 2, 1]⟩ = [49, 57, 50, 46, 48, 46, 50, 46, 49] := by
  have h : grpW (⟨#[192, 0, 2, 1]⟩ : ByteArray).data.toList = [⟨#[49, 57, 50]⟩, ⟨#[48]⟩, ⟨#[50]⟩, ⟨#[49]⟩] := by
    show [(⟨(Lib.decDigits 192).toArray⟩ : ByteArray), ⟨(Lib.decDigits 0).toArray⟩, ⟨(Lib.decDigits 2).toArray⟩, ⟨(Lib.decDigits 1).toArray⟩] = _
    rw [dd0, dd1, dd2, dd192]
  rw [aT, h]
  rfl

theorem ex_A1 (W : World) (hG : Glob W) : Calls Tryz.prog 32 #[.int .i64 1, .string ⟨#[49, 57, 50, 46, 48, 46, 50, 46, 49]⟩] W fun e w' => e = .returned (.tuple #[.string ⟨#[192, 0, 2, 1]⟩, .int .i64 0]) ∧ Below W.heap.size W w' := by
  have hw := word_all [49, 57, 50, 46, 48, 46, 50, 46, 49] (by rfl)
  have h := readA_in ⟨#[49, 57, 50, 46, 48, 46, 50, 46, 49]⟩ (by decide) [⟨#[49, 57, 50]⟩, ⟨#[48]⟩, ⟨#[50]⟩, ⟨#[49]⟩] [192, 0, 2, 1] rfl rfl (by
      intro j h1 h2
      match j, h1 with
      | 0, _ => exact ⟨Nat.le_of_ble_eq_true rfl, Nat.le_of_ble_eq_true rfl, by rfl⟩
      | 1, _ => exact ⟨Nat.le_of_ble_eq_true rfl, Nat.le_of_ble_eq_true rfl, by rfl⟩
      | 2, _ => exact ⟨Nat.le_of_ble_eq_true rfl, Nat.le_of_ble_eq_true rfl, by rfl⟩
      | 3, _ => exact ⟨Nat.le_of_ble_eq_true rfl, Nat.le_of_ble_eq_true rfl, by rfl⟩) (by rw [hw.1]; decide) (by rw [hw.2]; decide) (by rw [hw.1]; kernel_rfl) W hG
  have hv : (⟨([192, 0, 2, 1].map UInt8.ofNat).toArray⟩ : ByteArray) = ⟨#[192, 0, 2, 1]⟩ := rfl
  rw [hv, aT_ex] at h
  rw [if_pos rfl] at h
  exact h

theorem ex_A2 (W : World) (hG : Glob W) : Calls Tryz.prog 32 #[.int .i64 1, .string ⟨#[49, 57, 50, 46, 48, 46, 50, 46, 48, 49]⟩] W fun e w' => e = .returned (.tuple #[.string ⟨#[]⟩, .int .i64 7]) ∧ Below W.heap.size W w' := by
  have hw := word_all [49, 57, 50, 46, 48, 46, 50, 46, 48, 49] (by rfl)
  have h := readA_in ⟨#[49, 57, 50, 46, 48, 46, 50, 46, 48, 49]⟩ (by decide) [⟨#[49, 57, 50]⟩, ⟨#[48]⟩, ⟨#[50]⟩, ⟨#[48, 49]⟩] [192, 0, 2, 1] rfl rfl (by
      intro j h1 h2
      match j, h1 with
      | 0, _ => exact ⟨Nat.le_of_ble_eq_true rfl, Nat.le_of_ble_eq_true rfl, by rfl⟩
      | 1, _ => exact ⟨Nat.le_of_ble_eq_true rfl, Nat.le_of_ble_eq_true rfl, by rfl⟩
      | 2, _ => exact ⟨Nat.le_of_ble_eq_true rfl, Nat.le_of_ble_eq_true rfl, by rfl⟩
      | 3, _ => exact ⟨Nat.le_of_ble_eq_true rfl, Nat.le_of_ble_eq_true rfl, by rfl⟩) (by rw [hw.1]; decide) (by rw [hw.2]; decide) (by rw [hw.1]; kernel_rfl) W hG
  have hv : (⟨([192, 0, 2, 1].map UInt8.ofNat).toArray⟩ : ByteArray) = ⟨#[192, 0, 2, 1]⟩ := rfl
  rw [hv, aT_ex] at h
  rw [if_neg (by intro e; have := congrArg ByteArray.size e; revert this; decide)] at h
  exact h

theorem ex_T70 (W : World) (hG : Glob W) : Calls Tryz.prog 33 #[.int .i64 70, .string ⟨#[1]⟩] W fun e w' => e = .returned (.tuple #[.string ⟨#[92, 35, 32, 49, 32, 48, 49]⟩, .int .i64 0]) ∧ Below W.heap.size W w' := by
  have h := text_of (by omega) (told_other 70 (by omega) rfl ⟨#[1]⟩ (by decide) W hG.pow)
  have ha : anyT ⟨#[1]⟩ = [92, 35, 32, 49, 32, 48, 49] := by
    have : (⟨#[1]⟩ : ByteArray).size = 1 := rfl
    simp [anyT, this, Lib.decDigits, hexL, hexB, dig]
  rw [ha] at h
  exact h

theorem ex_Txt (W : World) (hG : Glob W) : Calls Tryz.prog 32 #[.int .i64 16, .string ⟨#[34, 97, 92, 34, 98, 34, 32, 34, 34]⟩] W fun e w' => e = .returned (.tuple #[.string ⟨#[3, 97, 34, 98, 0]⟩, .int .i64 0]) ∧ Below W.heap.size W w' := by
  have hm : RsM [32, 34, 34] [0] := RsM.cons [34] [] [] [] rfl (by decide) RsM.nil
  have ht : txtT ⟨(cntd [97, 34, 98] ++ [0]).toArray⟩ = [34, 97, 92, 34, 98, 34, 32, 34, 34] := by kernel_rfl
  have h := readT_in [97, 92, 34, 98, 34, 32, 34, 34] [97, 34, 98] [32, 34, 34] [0] (by decide) rfl (by decide) hm (by kernel_rfl) (by rw [ht]; decide) (by rw [ht]; decide) W hG
  rw [ht, if_pos rfl] at h
  exact h

theorem ex_Of70 (W : World) (hG : Glob W) : Calls Tryz.prog 34 #[.string ⟨#[84, 89, 80, 69, 55, 48]⟩] W fun e w' => e = .returned (.tuple #[.int .i64 70, .int .i64 0]) ∧ Below W.heap.size W w' := by
  have h := typeOf_num [84, 89, 80, 69, 55, 48] [55, 48] 70 (by omega) rfl (by decide) (by rfl) (by decide) W hG.types hG.pow
  have hn : numT 70 [84, 89, 80, 69, 55, 48] = (70, 0) := by
    unfold numT
    have : typeT 70 = [84, 89, 80, 69, 55, 48] := by
      have ho : own? ((70 : Nat) : Int) = none := by rfl
      rw [typeT, ho]
      simp only [dd70]
      rfl
    rw [this]; rfl
  rw [hn] at h
  exact h
theorem ex_Of1 (W : World) (hG : Glob W) : Calls Tryz.prog 34 #[.string ⟨#[84, 89, 80, 69, 49]⟩] W fun e w' => e = .returned (.tuple #[.int .i64 0, .int .i64 7]) ∧ Below W.heap.size W w' := by
  have h := typeOf_num [84, 89, 80, 69, 49] [49] 1 (by omega) rfl (by decide) (by rfl) (by decide) W hG.types hG.pow
  have hn : numT 1 [84, 89, 80, 69, 49] = (0, 7) := by
    unfold numT
    have : typeT 1 = [65] := by
      have ho : own? ((1 : Nat) : Int) = some [65] := by rfl
      rw [typeT, ho]
    rw [this]; rfl
  rw [hn] at h
  exact h

theorem ex_R1 (W : World) : Calls Tryz.prog 35 #[.int .i64 1, .string ⟨#[97, 98, 99]⟩] W fun e w' => e = .returned (.bool false) ∧ Below W.heap.size W w' :=
  right_of (R := none) (split_A_no ⟨#[97, 98, 99]⟩ (by decide) (by decide)) W
theorem ex_R2 (W : World) : Calls Tryz.prog 35 #[.int .i64 70000, .string ⟨#[]⟩] W fun e w' => e = .returned (.bool false) ∧ Below W.heap.size W w' :=
  right_of (R := none) (fun W => split_long W 70000 ⟨#[]⟩ (by decide) (.inl (by decide))) W
end Go.Proofs.YtdhcbaennpediaaGreatDoor

/- examples() holds. -/
namespace Go.Proofs.YtdhcbaennpediaaGreatDoor
set_option linter.unusedVariables false
open Go.RowKit

set_option maxRecDepth 100000 in
set_option maxHeartbeats 2000000 in
theorem examples_in (W : World) (hG : Glob W) : Calls Tryz.prog 7 #[] W fun e w' => e = .returned (.bool true) ∧ Below W.heap.size W w' := by
  go_enter Tryz.func7, Tryz.ntmps7
  go_wp2_with fail
  refine (ex_A1 W hG).mono ?_
  rintro e w1 ⟨rfl, hb1⟩
  have hG1 := hG.below hb1
  go_wp2_with fail
  refine (ex_A2 w1 hG1).mono ?_
  rintro e w2 ⟨rfl, hb2⟩
  have hG2 := hG1.below hb2
  have k2 : Below W.heap.size W w2 := bth hb1 hb2 hb1.size
  go_wp2_with fail
  refine (ex_T70 w2 hG2).mono ?_
  rintro e w3 ⟨rfl, hb3⟩
  have hG3 := hG2.below hb3
  have k3 : Below W.heap.size W w3 := bth k2 hb3 k2.size
  go_wp2_with fail
  refine (ex_Txt w3 hG3).mono ?_
  rintro e w4 ⟨rfl, hb4⟩
  have hG4 := hG3.below hb4
  have k4 : Below W.heap.size W w4 := bth k3 hb4 k3.size
  go_wp2_with fail
  refine (ex_Of70 w4 hG4).mono ?_
  rintro e w5 ⟨rfl, hb5⟩
  have hG5 := hG4.below hb5
  have k5 : Below W.heap.size W w5 := bth k4 hb5 k4.size
  go_wp2_with fail
  refine (ex_Of1 w5 hG5).mono ?_
  rintro e w6 ⟨rfl, hb6⟩
  have k6 : Below W.heap.size W w6 := bth k5 hb6 k5.size
  go_wp2_with fail
  refine (ex_R1 w6).mono ?_
  rintro e w7 ⟨rfl, hb7⟩
  have k7 : Below W.heap.size W w7 := bth k6 hb7 k6.size
  go_wp2_with fail
  refine (ex_R2 w7).mono ?_
  rintro e w8 ⟨rfl, hb8⟩
  have k8 : Below W.heap.size W w8 := bth k7 hb8 k7.size
  go_wp2
  go_ret
  exact ⟨rfl, k8⟩
end Go.Proofs.YtdhcbaennpediaaGreatDoor
