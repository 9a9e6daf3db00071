/- Texts of this proof, joined: DSig, DNsec3. -/
import Derived.Deep.RegionHeld3
import Derived.Test.YtdhcbaennpediaaGreatDoorJ13
import Derived.Test.YtdhcbaennpediaaGreatDoorJ5
import Derived.Test.YtdhcbaennpediaaGreatDoorJ14
import Derived.Test.YtdhcbaennpediaaGreatDoorJ16
/- RRSIG: taken apart, and put together. -/
namespace Go.Proofs.YtdhcbaennpediaaGreatDoor
set_option linter.unusedVariables false
open Go.RowKit

theorem heap_drewS (X : World) : X.drew.heap = X.heap := rfl

set_option maxRecDepth 100000 in
set_option maxHeartbeats 4000000 in
theorem putSig_in (n0 n1 n2 n3 n4 n5 n6 : Nat) (s7 s8 : ByteArray) (h0 : n0 < 65536) (h1 : n1 < 256) (h2 : n2 < 256) (h3 : n3 < 4294967296) (h4 : n4 < 4294967296) (h5 : n5 < 4294967296) (h6 : n6 < 65536) (h7 : s7.size ≤ 2000) (h8 : s8.size ≤ 2000) (W : World) (xb : Nat) (hx : W.heap[xb]? = some (.cells #[.int .i64 ((n0 : Nat) : Int), .int .i64 ((n1 : Nat) : Int), .int .i64 ((n2 : Nat) : Int), .int .i64 ((n3 : Nat) : Int), .int .i64 ((n4 : Nat) : Int), .int .i64 ((n5 : Nat) : Int), .int .i64 ((n6 : Nat) : Int), .string s7, .string s8] 31 (0, 0))) :
    Calls Tryz.prog 50 #[boxV xb] W fun e w' => PutPost (some [⟨(bytesB n0 2).toArray⟩, ⟨(bytesB n1 1).toArray⟩, ⟨(bytesB n2 1).toArray⟩, ⟨(bytesB n3 4).toArray⟩, ⟨(bytesB n4 4).toArray⟩, ⟨(bytesB n5 4).toArray⟩, ⟨(bytesB n6 2).toArray⟩, s7, s8]) W e w' := by
  have hmo : Tryz.prog.follows Departure.mixedOrders = true := by kernel_rfl
  have HL : Hid (∀ (G : Prop) (A B : World), A.heap[xb]? = some (.cells #[.int .i64 ((n0 : Nat) : Int), .int .i64 ((n1 : Nat) : Int), .int .i64 ((n2 : Nat) : Int), .int .i64 ((n3 : Nat) : Int), .int .i64 ((n4 : Nat) : Int), .int .i64 ((n5 : Nat) : Int), .int .i64 ((n6 : Nat) : Int), .string s7, .string s8] 31 (0, 0)) → Below W.heap.size W A → Below A.heap.size A B → (B.heap[xb]? = some (.cells #[.int .i64 ((n0 : Nat) : Int), .int .i64 ((n1 : Nat) : Int), .int .i64 ((n2 : Nat) : Int), .int .i64 ((n3 : Nat) : Int), .int .i64 ((n4 : Nat) : Int), .int .i64 ((n5 : Nat) : Int), .int .i64 ((n6 : Nat) : Int), .string s7, .string s8] 31 (0, 0)) → Below W.heap.size W B → B.cell? ⟨xb, 0, none⟩ = some (.int .i64 ((n0 : Nat) : Int)) → B.cell? ⟨xb, 1, none⟩ = some (.int .i64 ((n1 : Nat) : Int)) → B.cell? ⟨xb, 2, none⟩ = some (.int .i64 ((n2 : Nat) : Int)) → B.cell? ⟨xb, 3, none⟩ = some (.int .i64 ((n3 : Nat) : Int)) → B.cell? ⟨xb, 4, none⟩ = some (.int .i64 ((n4 : Nat) : Int)) → B.cell? ⟨xb, 5, none⟩ = some (.int .i64 ((n5 : Nat) : Int)) → B.cell? ⟨xb, 6, none⟩ = some (.int .i64 ((n6 : Nat) : Int)) → B.cell? ⟨xb, 7, none⟩ = some (.string s7) → B.cell? ⟨xb, 8, none⟩ = some (.string s8) → G) → G) := by
    intro G A B hA hW hB hG
    have hB' := (hB.block xb (box_lt hA)).trans hA
    exact hG hB' (bth hW hB hW.size) (cells_at hB' rfl).1 (cells_at hB' rfl).1 (cells_at hB' rfl).1 (cells_at hB' rfl).1 (cells_at hB' rfl).1 (cells_at hB' rfl).1 (cells_at hB' rfl).1 (cells_at hB' rfl).1 (cells_at hB' rfl).1
  have c0 := (cells_at (v := .int .i64 ((n0 : Nat) : Int)) (j := 0) hx rfl).1
  have c1 := (cells_at (v := .int .i64 ((n1 : Nat) : Int)) (j := 1) hx rfl).1
  have c2 := (cells_at (v := .int .i64 ((n2 : Nat) : Int)) (j := 2) hx rfl).1
  have c3 := (cells_at (v := .int .i64 ((n3 : Nat) : Int)) (j := 3) hx rfl).1
  have c4 := (cells_at (v := .int .i64 ((n4 : Nat) : Int)) (j := 4) hx rfl).1
  have c5 := (cells_at (v := .int .i64 ((n5 : Nat) : Int)) (j := 5) hx rfl).1
  have c6 := (cells_at (v := .int .i64 ((n6 : Nat) : Int)) (j := 6) hx rfl).1
  have c7 := (cells_at (v := .string s7) (j := 7) hx rfl).1
  have c8 := (cells_at (v := .string s8) (j := 8) hx rfl).1
  have HB0 := Hid.mk (bytes2_yes n0 h0)
  generalize (⟨(bytesB n0 2).toArray⟩ : ByteArray) = q0 at HB0 ⊢
  have HB1 := Hid.mk (bytes1_yes n1 h1)
  generalize (⟨(bytesB n1 1).toArray⟩ : ByteArray) = q1 at HB1 ⊢
  have HB2 := Hid.mk (bytes1_yes n2 h2)
  generalize (⟨(bytesB n2 1).toArray⟩ : ByteArray) = q2 at HB2 ⊢
  have HB3 := Hid.mk (bytes4_yes n3 h3)
  generalize (⟨(bytesB n3 4).toArray⟩ : ByteArray) = q3 at HB3 ⊢
  have HB4 := Hid.mk (bytes4_yes n4 h4)
  generalize (⟨(bytesB n4 4).toArray⟩ : ByteArray) = q4 at HB4 ⊢
  have HB5 := Hid.mk (bytes4_yes n5 h5)
  generalize (⟨(bytesB n5 4).toArray⟩ : ByteArray) = q5 at HB5 ⊢
  have HB6 := Hid.mk (bytes2_yes n6 h6)
  generalize (⟨(bytesB n6 2).toArray⟩ : ByteArray) = q6 at HB6 ⊢
  have X0 : W.drew.heap[xb]? = some (.cells #[.int .i64 ((n0 : Nat) : Int), .int .i64 ((n1 : Nat) : Int), .int .i64 ((n2 : Nat) : Int), .int .i64 ((n3 : Nat) : Int), .int .i64 ((n4 : Nat) : Int), .int .i64 ((n5 : Nat) : Int), .int .i64 ((n6 : Nat) : Int), .string s7, .string s8] 31 (0, 0)) := hx
  have B0 : Below W.heap.size W W.drew := (Below.refl _ _).drew
  clear hx
  go_enter Tryz.func50, Tryz.ntmps50
  go_wp2
  go_region_held3 (fun w' => w'.cell? ⟨xb, 0, none⟩ = some (.int .i64 ((n0 : Nat) : Int)) ∧ w'.cell? ⟨xb, 1, none⟩ = some (.int .i64 ((n1 : Nat) : Int)) ∧ w'.cell? ⟨xb, 2, none⟩ = some (.int .i64 ((n2 : Nat) : Int)) ∧ w'.cell? ⟨xb, 3, none⟩ = some (.int .i64 ((n3 : Nat) : Int)) ∧ w'.cell? ⟨xb, 4, none⟩ = some (.int .i64 ((n4 : Nat) : Int)) ∧ w'.cell? ⟨xb, 5, none⟩ = some (.int .i64 ((n5 : Nat) : Int)) ∧ w'.cell? ⟨xb, 6, none⟩ = some (.int .i64 ((n6 : Nat) : Int)) ∧ w'.cell? ⟨xb, 7, none⟩ = some (.string s7) ∧ w'.cell? ⟨xb, 8, none⟩ = some (.string s8)) (first | ((repeat' apply And.intro) <;> assumption) | go_keep)
    (first | (have hck := X6; clear hck; go_at_call 46; refine (HB6.out _).mono ?_; rintro e x7 ⟨rfl, y7⟩; refine HL.out _ _ x7 X6 B6 y7 ?_; intro X7 B7 d0_7 d1_7 d2_7 d3_7 d4_7 d5_7 d6_7 d7_7 d8_7) | (have hck := X5; clear hck; go_at_call 46; refine (HB5.out _).mono ?_; rintro e x6 ⟨rfl, y6⟩; refine HL.out _ _ x6 X5 B5 y6 ?_; intro X6 B6 d0_6 d1_6 d2_6 d3_6 d4_6 d5_6 d6_6 d7_6 d8_6) | (have hck := X4; clear hck; go_at_call 46; refine (HB4.out _).mono ?_; rintro e x5 ⟨rfl, y5⟩; refine HL.out _ _ x5 X4 B4 y5 ?_; intro X5 B5 d0_5 d1_5 d2_5 d3_5 d4_5 d5_5 d6_5 d7_5 d8_5) | (have hck := X3; clear hck; go_at_call 46; refine (HB3.out _).mono ?_; rintro e x4 ⟨rfl, y4⟩; refine HL.out _ _ x4 X3 B3 y4 ?_; intro X4 B4 d0_4 d1_4 d2_4 d3_4 d4_4 d5_4 d6_4 d7_4 d8_4) | (have hck := X2; clear hck; go_at_call 46; refine (HB2.out _).mono ?_; rintro e x3 ⟨rfl, y3⟩; refine HL.out _ _ x3 X2 B2 y3 ?_; intro X3 B3 d0_3 d1_3 d2_3 d3_3 d4_3 d5_3 d6_3 d7_3 d8_3) | (have hck := X1; clear hck; go_at_call 46; refine (HB1.out _).mono ?_; rintro e x2 ⟨rfl, y2⟩; refine HL.out _ _ x2 X1 B1 y2 ?_; intro X2 B2 d0_2 d1_2 d2_2 d3_2 d4_2 d5_2 d6_2 d7_2 d8_2) | (have hck := X0; clear hck; go_at_call 46; refine (HB0.out _).mono ?_; rintro e x1 ⟨rfl, y1⟩; refine HL.out _ _ x1 X0 B0 y1 ?_; intro X1 B1 d0_1 d1_1 d2_1 d3_1 d4_1 d5_1 d6_1 d7_1 d8_1))
  have hsm := B7.size
  go_wp2
  go_ret
  exact ⟨⟨_, rfl, row_down (row_lit x7 [q0, q1, q2, q3, q4, q5, q6, s7, s8] (by unfold maxLen; simp) (by simp)) hsm⟩, B7.alloc hsm _⟩

set_option maxRecDepth 100000 in
theorem ofSig_in (n0 n1 n2 n3 n4 n5 n6 : Nat) (s7 s8 : ByteArray) (h0 : n0 < 65536) (h1 : n1 < 256) (h2 : n2 < 256) (h3 : n3 < 4294967296) (h4 : n4 < 4294967296) (h5 : n5 < 4294967296) (h6 : n6 < 65536) (h7 : s7.size ≤ 2000) (h8 : s8.size ≤ 2000) (W : World) :
    Calls Tryz.prog 23 #[.agg #[.int .i64 ((n0 : Nat) : Int), .int .i64 ((n1 : Nat) : Int), .int .i64 ((n2 : Nat) : Int), .int .i64 ((n3 : Nat) : Int), .int .i64 ((n4 : Nat) : Int), .int .i64 ((n5 : Nat) : Int), .int .i64 ((n6 : Nat) : Int), .string s7, .string s8]] W fun e w' => e = .returned (.tuple #[.string (strOf (joinR 46 (some [⟨(bytesB n0 2).toArray⟩, ⟨(bytesB n1 1).toArray⟩, ⟨(bytesB n2 1).toArray⟩, ⟨(bytesB n3 4).toArray⟩, ⟨(bytesB n4 4).toArray⟩, ⟨(bytesB n5 4).toArray⟩, ⟨(bytesB n6 2).toArray⟩, s7, s8]))), .int .i64 (errOf (joinR 46 (some [⟨(bytesB n0 2).toArray⟩, ⟨(bytesB n1 1).toArray⟩, ⟨(bytesB n2 1).toArray⟩, ⟨(bytesB n3 4).toArray⟩, ⟨(bytesB n4 4).toArray⟩, ⟨(bytesB n5 4).toArray⟩, ⟨(bytesB n6 2).toArray⟩, s7, s8])))]) ∧ Below W.heap.size W w' := by
  have hmf := mkf
  have hbw : Below W.heap.size W (W.alloc (.cells #[.int .i64 ((n0 : Nat) : Int), .int .i64 ((n1 : Nat) : Int), .int .i64 ((n2 : Nat) : Int), .int .i64 ((n3 : Nat) : Int), .int .i64 ((n4 : Nat) : Int), .int .i64 ((n5 : Nat) : Int), .int .i64 ((n6 : Nat) : Int), .string s7, .string s8] 31)) := (Below.refl _ _).alloc (Nat.le_refl _) _
  have HJ := Hid.mk (joined_in (W.alloc (.cells #[.int .i64 ((n0 : Nat) : Int), .int .i64 ((n1 : Nat) : Int), .int .i64 ((n2 : Nat) : Int), .int .i64 ((n3 : Nat) : Int), .int .i64 ((n4 : Nat) : Int), .int .i64 ((n5 : Nat) : Int), .int .i64 ((n6 : Nat) : Int), .string s7, .string s8] 31)) 46 50 #[boxV W.heap.size] (enters_by Tryz.func50 (by kernel_rfl) rfl) (some [⟨(bytesB n0 2).toArray⟩, ⟨(bytesB n1 1).toArray⟩, ⟨(bytesB n2 1).toArray⟩, ⟨(bytesB n3 4).toArray⟩, ⟨(bytesB n4 4).toArray⟩, ⟨(bytesB n5 4).toArray⟩, ⟨(bytesB n6 2).toArray⟩, s7, s8]) (fun ps e => by
      cases e
      refine ⟨by simp, ?_⟩
      simp only [cat, app_size, ba_size, bytesB_len, List.length_nil]
      have : (⟨#[]⟩ : ByteArray).size = 0 := rfl
      omega) (fun W' hb => putSig_in n0 n1 n2 n3 n4 n5 n6 s7 s8 h0 h1 h2 h3 h4 h5 h6 h7 h8 W' W.heap.size ((hb.block _ (by simp)).trans (heap_new _ _))))
  generalize joinR 46 (some [⟨(bytesB n0 2).toArray⟩, ⟨(bytesB n1 1).toArray⟩, ⟨(bytesB n2 1).toArray⟩, ⟨(bytesB n3 4).toArray⟩, ⟨(bytesB n4 4).toArray⟩, ⟨(bytesB n5 4).toArray⟩, ⟨(bytesB n6 2).toArray⟩, s7, s8]) = J at HJ ⊢
  go_enter Tryz.func23, Tryz.ntmps23
  go_wp2_with fail
  refine HJ.out.mono ?_
  rintro e w1 ⟨rfl, hb1⟩
  go_wp2
  go_ret2
  exact ⟨rfl, bth hbw hb1 hbw.size⟩

def TakeSig (d : ByteArray) (v : Value) (er : Int) : Prop := ∃ (n0 n1 n2 n3 n4 n5 n6 : Nat) (s7 s8 : ByteArray), v = .agg #[.int .i64 ((n0 : Nat) : Int), .int .i64 ((n1 : Nat) : Int), .int .i64 ((n2 : Nat) : Int), .int .i64 ((n3 : Nat) : Int), .int .i64 ((n4 : Nat) : Int), .int .i64 ((n5 : Nat) : Int), .int .i64 ((n6 : Nat) : Int), .string s7, .string s8] ∧ (n0 < 65536 ∧ n1 < 256 ∧ n2 < 256 ∧ n3 < 4294967296 ∧ n4 < 4294967296 ∧ n5 < 4294967296 ∧ n6 < 65536 ∧ s7.size ≤ 2000 ∧ s8.size ≤ 2000) ∧ (er = 0 → joinR 46 (some [⟨(bytesB n0 2).toArray⟩, ⟨(bytesB n1 1).toArray⟩, ⟨(bytesB n2 1).toArray⟩, ⟨(bytesB n3 4).toArray⟩, ⟨(bytesB n4 4).toArray⟩, ⟨(bytesB n5 4).toArray⟩, ⟨(bytesB n6 2).toArray⟩, s7, s8]) = some d) ∧ (er = 0 ∨ (er = 6 ∧ splitR 46 d = none ∧ v = .agg #[.int .i64 0, .int .i64 0, .int .i64 0, .int .i64 0, .int .i64 0, .int .i64 0, .int .i64 0, .string ⟨#[]⟩, .string ⟨#[]⟩]))
theorem takeSig_ok (d p0 p1 p2 p3 p4 p5 p6 p7 p8 : ByteArray) (h : splitR 46 d = some [p0, p1, p2, p3, p4, p5, p6, p7, p8]) : TakeSig d (.agg #[.int .i64 ((numB p0.data.toList : Nat) : Int), .int .i64 ((numB p1.data.toList : Nat) : Int), .int .i64 ((numB p2.data.toList : Nat) : Int), .int .i64 ((numB p3.data.toList : Nat) : Int), .int .i64 ((numB p4.data.toList : Nat) : Int), .int .i64 ((numB p5.data.toList : Nat) : Int), .int .i64 ((numB p6.data.toList : Nat) : Int), .string p7, .string p8]) 0 ∧ (p0.size ≤ 7 ∧ p1.size ≤ 7 ∧ p2.size ≤ 7 ∧ p3.size ≤ 7 ∧ p4.size ≤ 7 ∧ p5.size ≤ 7 ∧ p6.size ≤ 7 ∧ p7.size ≤ 2000 ∧ p8.size ≤ 2000) := by
  obtain ⟨hk, hs, hd, hg⟩ := (split_iff 46 d _).1 h
  have hg' : p0.size = 2 ∧ p1.size = 1 ∧ p2.size = 1 ∧ p3.size = 4 ∧ p4.size = 4 ∧ p5.size = 4 ∧ p6.size = 2 ∧ IsName p7 ∧ 0 < p8.size ∧ True := hg
  have hcs : p0.size + p1.size + p2.size + p3.size + p4.size + p5.size + p6.size + p7.size + p8.size ≤ 2000 := by
    rw [hd] at hs
    simp only [cat, app_size] at hs
    have : (⟨#[]⟩ : ByteArray).size = 0 := rfl
    omega
  have e0 : (⟨(bytesB (numB p0.data.toList) 2).toArray⟩ : ByteArray) = p0 := by
    apply ba_ext
    have := bytesB_num p0.data.toList (by rw [size_list]; omega)
    rw [size_list, show p0.size = 2 by omega] at this
    exact this
  have e1 : (⟨(bytesB (numB p1.data.toList) 1).toArray⟩ : ByteArray) = p1 := by
    apply ba_ext
    have := bytesB_num p1.data.toList (by rw [size_list]; omega)
    rw [size_list, show p1.size = 1 by omega] at this
    exact this
  have e2 : (⟨(bytesB (numB p2.data.toList) 1).toArray⟩ : ByteArray) = p2 := by
    apply ba_ext
    have := bytesB_num p2.data.toList (by rw [size_list]; omega)
    rw [size_list, show p2.size = 1 by omega] at this
    exact this
  have e3 : (⟨(bytesB (numB p3.data.toList) 4).toArray⟩ : ByteArray) = p3 := by
    apply ba_ext
    have := bytesB_num p3.data.toList (by rw [size_list]; omega)
    rw [size_list, show p3.size = 4 by omega] at this
    exact this
  have e4 : (⟨(bytesB (numB p4.data.toList) 4).toArray⟩ : ByteArray) = p4 := by
    apply ba_ext
    have := bytesB_num p4.data.toList (by rw [size_list]; omega)
    rw [size_list, show p4.size = 4 by omega] at this
    exact this
  have e5 : (⟨(bytesB (numB p5.data.toList) 4).toArray⟩ : ByteArray) = p5 := by
    apply ba_ext
    have := bytesB_num p5.data.toList (by rw [size_list]; omega)
    rw [size_list, show p5.size = 4 by omega] at this
    exact this
  have e6 : (⟨(bytesB (numB p6.data.toList) 2).toArray⟩ : ByteArray) = p6 := by
    apply ba_ext
    have := bytesB_num p6.data.toList (by rw [size_list]; omega)
    rw [size_list, show p6.size = 2 by omega] at this
    exact this
  have l0 : numB p0.data.toList < 65536 := by
    have := numB_lt p0.data.toList
    rw [size_list, show p0.size = 2 by omega] at this
    simpa using this
  have l1 : numB p1.data.toList < 256 := by
    have := numB_lt p1.data.toList
    rw [size_list, show p1.size = 1 by omega] at this
    simpa using this
  have l2 : numB p2.data.toList < 256 := by
    have := numB_lt p2.data.toList
    rw [size_list, show p2.size = 1 by omega] at this
    simpa using this
  have l3 : numB p3.data.toList < 4294967296 := by
    have := numB_lt p3.data.toList
    rw [size_list, show p3.size = 4 by omega] at this
    simpa using this
  have l4 : numB p4.data.toList < 4294967296 := by
    have := numB_lt p4.data.toList
    rw [size_list, show p4.size = 4 by omega] at this
    simpa using this
  have l5 : numB p5.data.toList < 4294967296 := by
    have := numB_lt p5.data.toList
    rw [size_list, show p5.size = 4 by omega] at this
    simpa using this
  have l6 : numB p6.data.toList < 65536 := by
    have := numB_lt p6.data.toList
    rw [size_list, show p6.size = 2 by omega] at this
    simpa using this
  refine ⟨⟨numB p0.data.toList, numB p1.data.toList, numB p2.data.toList, numB p3.data.toList, numB p4.data.toList, numB p5.data.toList, numB p6.data.toList, p7, p8, rfl, ⟨l0, l1, l2, l3, l4, l5, l6, by omega, by omega⟩, fun _ => ?_, .inl rfl⟩, by omega, by omega, by omega, by omega, by omega, by omega, by omega, by omega, by omega⟩
  rw [e0, e1, e2, e3, e4, e5, e6, joinR, ← hd, h]
  exact if_pos rfl
set_option maxRecDepth 100000 in
set_option maxHeartbeats 4000000 in
theorem takeSig_in (d : ByteArray) (hm : d.size ≤ maxLen) (W : World) :
    Calls Tryz.prog 10 #[.string d] W fun e w' => (∃ v er, e = .returned (.tuple #[v, .int .i64 er]) ∧ TakeSig d v er) ∧ Below W.heap.size W w' := by
  have HS := Hid.mk (split_all 46 d hm)
  have hmo : Tryz.prog.follows Departure.mixedOrders = true := by kernel_rfl
  have HN := Hid.mk number_in
  cases hsp : splitR 46 d with
  | none =>
    rw [hsp] at HS
    have HSP := Hid.mk hsp
    clear hsp
    go_enter Tryz.func10, Tryz.ntmps10
    go_wp2_with fail
    refine (HS.out _).mono ?_
    rintro e w1 ⟨rfl, hb1⟩
    have hbx := (hb1.block _ (by simp)).trans (heap_new W (.cells #[.int .i64 0, .int .i64 0, .int .i64 0, .int .i64 0, .int .i64 0, .int .i64 0, .int .i64 0, .string ⟨#[]⟩, .string ⟨#[]⟩] 31))
    obtain ⟨a0, f0⟩ := cells_at (v := .int .i64 0) (j := 0) hbx rfl
    obtain ⟨a1, f1⟩ := cells_at (v := .int .i64 0) (j := 1) hbx rfl
    obtain ⟨a2, f2⟩ := cells_at (v := .int .i64 0) (j := 2) hbx rfl
    obtain ⟨a3, f3⟩ := cells_at (v := .int .i64 0) (j := 3) hbx rfl
    obtain ⟨a4, f4⟩ := cells_at (v := .int .i64 0) (j := 4) hbx rfl
    obtain ⟨a5, f5⟩ := cells_at (v := .int .i64 0) (j := 5) hbx rfl
    obtain ⟨a6, f6⟩ := cells_at (v := .int .i64 0) (j := 6) hbx rfl
    obtain ⟨a7, f7⟩ := cells_at (v := .string ⟨#[]⟩) (j := 7) hbx rfl
    obtain ⟨a8, f8⟩ := cells_at (v := .string ⟨#[]⟩) (j := 8) hbx rfl
    have HBX := Hid.mk hbx
    clear hbx
    go_wp2
    have st0 : (w1.setCell ⟨W.heap.size, 0, none⟩ (.int .i64 0)).heap[W.heap.size]? = some (.cells #[.int .i64 0, .int .i64 0, .int .i64 0, .int .i64 0, .int .i64 0, .int .i64 0, .int .i64 0, .string ⟨#[]⟩, .string ⟨#[]⟩] 31 (0, 0)) := cells_put (j := 0) HBX.out (.int .i64 0)
    have st1 : ((w1.setCell ⟨W.heap.size, 0, none⟩ (.int .i64 0)).setCell ⟨W.heap.size, 1, none⟩ (.int .i64 0)).heap[W.heap.size]? = some (.cells #[.int .i64 0, .int .i64 0, .int .i64 0, .int .i64 0, .int .i64 0, .int .i64 0, .int .i64 0, .string ⟨#[]⟩, .string ⟨#[]⟩] 31 (0, 0)) := cells_put (j := 1) st0 (.int .i64 0)
    have st2 : (((w1.setCell ⟨W.heap.size, 0, none⟩ (.int .i64 0)).setCell ⟨W.heap.size, 1, none⟩ (.int .i64 0)).setCell ⟨W.heap.size, 2, none⟩ (.int .i64 0)).heap[W.heap.size]? = some (.cells #[.int .i64 0, .int .i64 0, .int .i64 0, .int .i64 0, .int .i64 0, .int .i64 0, .int .i64 0, .string ⟨#[]⟩, .string ⟨#[]⟩] 31 (0, 0)) := cells_put (j := 2) st1 (.int .i64 0)
    have st3 : ((((w1.setCell ⟨W.heap.size, 0, none⟩ (.int .i64 0)).setCell ⟨W.heap.size, 1, none⟩ (.int .i64 0)).setCell ⟨W.heap.size, 2, none⟩ (.int .i64 0)).setCell ⟨W.heap.size, 3, none⟩ (.int .i64 0)).heap[W.heap.size]? = some (.cells #[.int .i64 0, .int .i64 0, .int .i64 0, .int .i64 0, .int .i64 0, .int .i64 0, .int .i64 0, .string ⟨#[]⟩, .string ⟨#[]⟩] 31 (0, 0)) := cells_put (j := 3) st2 (.int .i64 0)
    have st4 : (((((w1.setCell ⟨W.heap.size, 0, none⟩ (.int .i64 0)).setCell ⟨W.heap.size, 1, none⟩ (.int .i64 0)).setCell ⟨W.heap.size, 2, none⟩ (.int .i64 0)).setCell ⟨W.heap.size, 3, none⟩ (.int .i64 0)).setCell ⟨W.heap.size, 4, none⟩ (.int .i64 0)).heap[W.heap.size]? = some (.cells #[.int .i64 0, .int .i64 0, .int .i64 0, .int .i64 0, .int .i64 0, .int .i64 0, .int .i64 0, .string ⟨#[]⟩, .string ⟨#[]⟩] 31 (0, 0)) := cells_put (j := 4) st3 (.int .i64 0)
    have st5 : ((((((w1.setCell ⟨W.heap.size, 0, none⟩ (.int .i64 0)).setCell ⟨W.heap.size, 1, none⟩ (.int .i64 0)).setCell ⟨W.heap.size, 2, none⟩ (.int .i64 0)).setCell ⟨W.heap.size, 3, none⟩ (.int .i64 0)).setCell ⟨W.heap.size, 4, none⟩ (.int .i64 0)).setCell ⟨W.heap.size, 5, none⟩ (.int .i64 0)).heap[W.heap.size]? = some (.cells #[.int .i64 0, .int .i64 0, .int .i64 0, .int .i64 0, .int .i64 0, .int .i64 0, .int .i64 0, .string ⟨#[]⟩, .string ⟨#[]⟩] 31 (0, 0)) := cells_put (j := 5) st4 (.int .i64 0)
    have st6 : (((((((w1.setCell ⟨W.heap.size, 0, none⟩ (.int .i64 0)).setCell ⟨W.heap.size, 1, none⟩ (.int .i64 0)).setCell ⟨W.heap.size, 2, none⟩ (.int .i64 0)).setCell ⟨W.heap.size, 3, none⟩ (.int .i64 0)).setCell ⟨W.heap.size, 4, none⟩ (.int .i64 0)).setCell ⟨W.heap.size, 5, none⟩ (.int .i64 0)).setCell ⟨W.heap.size, 6, none⟩ (.int .i64 0)).heap[W.heap.size]? = some (.cells #[.int .i64 0, .int .i64 0, .int .i64 0, .int .i64 0, .int .i64 0, .int .i64 0, .int .i64 0, .string ⟨#[]⟩, .string ⟨#[]⟩] 31 (0, 0)) := cells_put (j := 6) st5 (.int .i64 0)
    have st7 : ((((((((w1.setCell ⟨W.heap.size, 0, none⟩ (.int .i64 0)).setCell ⟨W.heap.size, 1, none⟩ (.int .i64 0)).setCell ⟨W.heap.size, 2, none⟩ (.int .i64 0)).setCell ⟨W.heap.size, 3, none⟩ (.int .i64 0)).setCell ⟨W.heap.size, 4, none⟩ (.int .i64 0)).setCell ⟨W.heap.size, 5, none⟩ (.int .i64 0)).setCell ⟨W.heap.size, 6, none⟩ (.int .i64 0)).setCell ⟨W.heap.size, 7, none⟩ (.string ⟨#[]⟩)).heap[W.heap.size]? = some (.cells #[.int .i64 0, .int .i64 0, .int .i64 0, .int .i64 0, .int .i64 0, .int .i64 0, .int .i64 0, .string ⟨#[]⟩, .string ⟨#[]⟩] 31 (0, 0)) := cells_put (j := 7) st6 (.string ⟨#[]⟩)
    have st8 : (((((((((w1.setCell ⟨W.heap.size, 0, none⟩ (.int .i64 0)).setCell ⟨W.heap.size, 1, none⟩ (.int .i64 0)).setCell ⟨W.heap.size, 2, none⟩ (.int .i64 0)).setCell ⟨W.heap.size, 3, none⟩ (.int .i64 0)).setCell ⟨W.heap.size, 4, none⟩ (.int .i64 0)).setCell ⟨W.heap.size, 5, none⟩ (.int .i64 0)).setCell ⟨W.heap.size, 6, none⟩ (.int .i64 0)).setCell ⟨W.heap.size, 7, none⟩ (.string ⟨#[]⟩)).setCell ⟨W.heap.size, 8, none⟩ (.string ⟨#[]⟩)).heap[W.heap.size]? = some (.cells #[.int .i64 0, .int .i64 0, .int .i64 0, .int .i64 0, .int .i64 0, .int .i64 0, .int .i64 0, .string ⟨#[]⟩, .string ⟨#[]⟩] 31 (0, 0)) := cells_put (j := 8) st7 (.string ⟨#[]⟩)
    have hfin : ((((((((((w1.setCell ⟨W.heap.size, 0, none⟩ (.int .i64 0)).setCell ⟨W.heap.size, 1, none⟩ (.int .i64 0)).setCell ⟨W.heap.size, 2, none⟩ (.int .i64 0)).setCell ⟨W.heap.size, 3, none⟩ (.int .i64 0)).setCell ⟨W.heap.size, 4, none⟩ (.int .i64 0)).setCell ⟨W.heap.size, 5, none⟩ (.int .i64 0)).setCell ⟨W.heap.size, 6, none⟩ (.int .i64 0)).setCell ⟨W.heap.size, 7, none⟩ (.string ⟨#[]⟩)).setCell ⟨W.heap.size, 8, none⟩ (.string ⟨#[]⟩))).heap[W.heap.size]? = some (.cells #[.int .i64 0, .int .i64 0, .int .i64 0, .int .i64 0, .int .i64 0, .int .i64 0, .int .i64 0, .string ⟨#[]⟩, .string ⟨#[]⟩] 31 (0, 0)) := st8
    refine bodyPost_ret (v := .tuple #[.agg #[.int .i64 0, .int .i64 0, .int .i64 0, .int .i64 0, .int .i64 0, .int .i64 0, .int .i64 0, .string ⟨#[]⟩, .string ⟨#[]⟩], .int .i64 6]) (by simp [results, Tryz.results10, go_sem, (cells_at (v := .int .i64 0) (j := 0) hfin rfl).1, (cells_at (v := .int .i64 0) (j := 1) hfin rfl).1, (cells_at (v := .int .i64 0) (j := 2) hfin rfl).1, (cells_at (v := .int .i64 0) (j := 3) hfin rfl).1, (cells_at (v := .int .i64 0) (j := 4) hfin rfl).1, (cells_at (v := .int .i64 0) (j := 5) hfin rfl).1, (cells_at (v := .int .i64 0) (j := 6) hfin rfl).1, (cells_at (v := .string ⟨#[]⟩) (j := 7) hfin rfl).1, (cells_at (v := .string ⟨#[]⟩) (j := 8) hfin rfl).1]) rfl ⟨⟨_, _, rfl, 0, 0, 0, 0, 0, 0, 0, ⟨#[]⟩, ⟨#[]⟩, rfl, ⟨by decide, by decide, by decide, by decide, by decide, by decide, by decide, by decide, by decide⟩, (fun h => by cases h), .inr ⟨rfl, HSP.out, rfl⟩⟩, ?_⟩
    exact ((((((((((((Below.refl _ _).alloc (Nat.le_refl _) _).trans (hb1.mono (by simp)))).setCell (p := ⟨W.heap.size, 0, none⟩) (Nat.le_refl _) _).setCell (p := ⟨W.heap.size, 1, none⟩) (Nat.le_refl _) _).setCell (p := ⟨W.heap.size, 2, none⟩) (Nat.le_refl _) _).setCell (p := ⟨W.heap.size, 3, none⟩) (Nat.le_refl _) _).setCell (p := ⟨W.heap.size, 4, none⟩) (Nat.le_refl _) _).setCell (p := ⟨W.heap.size, 5, none⟩) (Nat.le_refl _) _).setCell (p := ⟨W.heap.size, 6, none⟩) (Nat.le_refl _) _).setCell (p := ⟨W.heap.size, 7, none⟩) (Nat.le_refl _) _).setCell (p := ⟨W.heap.size, 8, none⟩) (Nat.le_refl _) _
  | some ps =>
    obtain ⟨p0, p1, p2, p3, p4, p5, p6, p7, p8, hps⟩ : ∃ p0 p1 p2 p3 p4 p5 p6 p7 p8, ps = [p0, p1, p2, p3, p4, p5, p6, p7, p8] := by
      have hl := ((split_iff 46 d ps).1 hsp).2.2.2.len
      match ps, hl with
      | [p0, p1, p2, p3, p4, p5, p6, p7, p8], _ => exact ⟨_, _, _, _, _, _, _, _, _, rfl⟩
    subst hps
    obtain ⟨hT, z0, z1, z2, z3, z4, z5, z6, z7, z8⟩ := takeSig_ok d p0 p1 p2 p3 p4 p5 p6 p7 p8 hsp
    rw [hsp] at HS
    clear hsp
    have HN0 := Hid.mk (number_in p0 z0)
    generalize numB p0.data.toList = m0 at HN0 hT
    have HN1 := Hid.mk (number_in p1 z1)
    generalize numB p1.data.toList = m1 at HN1 hT
    have HN2 := Hid.mk (number_in p2 z2)
    generalize numB p2.data.toList = m2 at HN2 hT
    have HN3 := Hid.mk (number_in p3 z3)
    generalize numB p3.data.toList = m3 at HN3 hT
    have HN4 := Hid.mk (number_in p4 z4)
    generalize numB p4.data.toList = m4 at HN4 hT
    have HN5 := Hid.mk (number_in p5 z5)
    generalize numB p5.data.toList = m5 at HN5 hT
    have HN6 := Hid.mk (number_in p6 z6)
    generalize numB p6.data.toList = m6 at HN6 hT
    have HT := Hid.mk hT
    clear hT
    go_enter Tryz.func10, Tryz.ntmps10
    go_wp2_with fail
    refine (HS.out _).mono ?_
    rintro e w1 ⟨⟨v, rfl, hrow⟩, hb1⟩
    obtain ⟨q, c, hv⟩ := row_as hrow
    subst hv
    obtain ⟨g, hq, _, _⟩ := row_cell hrow 0 (by simp)
    subst hq
    obtain ⟨_, _, hgb⟩ := row_frozen (j := 0) hrow (by simp)
    simp only [World.size_alloc] at hgb
    have hgne : g ≠ W.heap.size := by omega
    have hoff : ∀ (X : World) (j i : Nat) (v : Value), (X.setCell ⟨W.heap.size, j, none⟩ v).cell? ⟨g, i, none⟩ = X.cell? ⟨g, i, none⟩ := fun X j i v => by simp only [World.cell?, Below.heap_setCell X ⟨W.heap.size, j, none⟩ v g hgne]
    have hdr : ∀ (X : World) (i : Nat), X.drew.cell? ⟨g, i, none⟩ = X.cell? ⟨g, i, none⟩ := fun _ _ => rfl
    have r0 : w1.cell? ⟨g, 0, none⟩ = some (.string p0) := row_at hrow 0 p0 rfl
    have r1 : w1.cell? ⟨g, 1, none⟩ = some (.string p1) := row_at hrow 1 p1 rfl
    have r2 : w1.cell? ⟨g, 2, none⟩ = some (.string p2) := row_at hrow 2 p2 rfl
    have r3 : w1.cell? ⟨g, 3, none⟩ = some (.string p3) := row_at hrow 3 p3 rfl
    have r4 : w1.cell? ⟨g, 4, none⟩ = some (.string p4) := row_at hrow 4 p4 rfl
    have r5 : w1.cell? ⟨g, 5, none⟩ = some (.string p5) := row_at hrow 5 p5 rfl
    have r6 : w1.cell? ⟨g, 6, none⟩ = some (.string p6) := row_at hrow 6 p6 rfl
    have r7 : w1.cell? ⟨g, 7, none⟩ = some (.string p7) := row_at hrow 7 p7 rfl
    have r8 : w1.cell? ⟨g, 8, none⟩ = some (.string p8) := row_at hrow 8 p8 rfl
    have hbx := (hb1.block _ (by simp)).trans (heap_new W (.cells #[.int .i64 0, .int .i64 0, .int .i64 0, .int .i64 0, .int .i64 0, .int .i64 0, .int .i64 0, .string ⟨#[]⟩, .string ⟨#[]⟩] 31))
    obtain ⟨a0, f0⟩ := cells_at (v := .int .i64 0) (j := 0) hbx rfl
    obtain ⟨a1, f1⟩ := cells_at (v := .int .i64 0) (j := 1) hbx rfl
    obtain ⟨a2, f2⟩ := cells_at (v := .int .i64 0) (j := 2) hbx rfl
    obtain ⟨a3, f3⟩ := cells_at (v := .int .i64 0) (j := 3) hbx rfl
    obtain ⟨a4, f4⟩ := cells_at (v := .int .i64 0) (j := 4) hbx rfl
    obtain ⟨a5, f5⟩ := cells_at (v := .int .i64 0) (j := 5) hbx rfl
    obtain ⟨a6, f6⟩ := cells_at (v := .int .i64 0) (j := 6) hbx rfl
    obtain ⟨a7, f7⟩ := cells_at (v := .string ⟨#[]⟩) (j := 7) hbx rfl
    obtain ⟨a8, f8⟩ := cells_at (v := .string ⟨#[]⟩) (j := 8) hbx rfl
    have HBX := Hid.mk hbx
    have mk0 : True := trivial
    clear hbx hrow
    go_wp2
    go_region_held3 (fun w' => w'.cell? ⟨g, 0, none⟩ = some (.string p0) ∧ w'.cell? ⟨g, 1, none⟩ = some (.string p1) ∧ w'.cell? ⟨g, 2, none⟩ = some (.string p2) ∧ w'.cell? ⟨g, 3, none⟩ = some (.string p3) ∧ w'.cell? ⟨g, 4, none⟩ = some (.string p4) ∧ w'.cell? ⟨g, 5, none⟩ = some (.string p5) ∧ w'.cell? ⟨g, 6, none⟩ = some (.string p6) ∧ w'.cell? ⟨g, 7, none⟩ = some (.string p7) ∧ w'.cell? ⟨g, 8, none⟩ = some (.string p8)) (first | ((repeat' apply And.intro) <;> (first | (simp only [hoff, hdr]; with_reducible assumption) | with_reducible assumption)) | go_keep)
      (first | (have hck := mk6; clear hck; go_at_call 37; refine (HN6.out _).mono ?_; rintro e x7 ⟨rfl, rfl⟩; have mk7 : True := trivial) | (have hck := mk5; clear hck; go_at_call 37; refine (HN5.out _).mono ?_; rintro e x6 ⟨rfl, rfl⟩; have mk6 : True := trivial) | (have hck := mk4; clear hck; go_at_call 37; refine (HN4.out _).mono ?_; rintro e x5 ⟨rfl, rfl⟩; have mk5 : True := trivial) | (have hck := mk3; clear hck; go_at_call 37; refine (HN3.out _).mono ?_; rintro e x4 ⟨rfl, rfl⟩; have mk4 : True := trivial) | (have hck := mk2; clear hck; go_at_call 37; refine (HN2.out _).mono ?_; rintro e x3 ⟨rfl, rfl⟩; have mk3 : True := trivial) | (have hck := mk1; clear hck; go_at_call 37; refine (HN1.out _).mono ?_; rintro e x2 ⟨rfl, rfl⟩; have mk2 : True := trivial) | (have hck := mk0; clear hck; go_at_call 37; refine (HN0.out _).mono ?_; rintro e x1 ⟨rfl, rfl⟩; have mk1 : True := trivial))
    go_wp2
    have st0 : (w1.setCell ⟨W.heap.size, 0, none⟩ (.int .i64 ((m0 : Nat) : Int))).heap[W.heap.size]? = some (.cells #[.int .i64 ((m0 : Nat) : Int), .int .i64 0, .int .i64 0, .int .i64 0, .int .i64 0, .int .i64 0, .int .i64 0, .string ⟨#[]⟩, .string ⟨#[]⟩] 31 (0, 0)) := cells_put (j := 0) HBX.out (.int .i64 ((m0 : Nat) : Int))
    have st1 : ((w1.setCell ⟨W.heap.size, 0, none⟩ (.int .i64 ((m0 : Nat) : Int))).setCell ⟨W.heap.size, 1, none⟩ (.int .i64 ((m1 : Nat) : Int))).heap[W.heap.size]? = some (.cells #[.int .i64 ((m0 : Nat) : Int), .int .i64 ((m1 : Nat) : Int), .int .i64 0, .int .i64 0, .int .i64 0, .int .i64 0, .int .i64 0, .string ⟨#[]⟩, .string ⟨#[]⟩] 31 (0, 0)) := cells_put (j := 1) st0 (.int .i64 ((m1 : Nat) : Int))
    have st2 : (((w1.setCell ⟨W.heap.size, 0, none⟩ (.int .i64 ((m0 : Nat) : Int))).setCell ⟨W.heap.size, 1, none⟩ (.int .i64 ((m1 : Nat) : Int))).setCell ⟨W.heap.size, 2, none⟩ (.int .i64 ((m2 : Nat) : Int))).heap[W.heap.size]? = some (.cells #[.int .i64 ((m0 : Nat) : Int), .int .i64 ((m1 : Nat) : Int), .int .i64 ((m2 : Nat) : Int), .int .i64 0, .int .i64 0, .int .i64 0, .int .i64 0, .string ⟨#[]⟩, .string ⟨#[]⟩] 31 (0, 0)) := cells_put (j := 2) st1 (.int .i64 ((m2 : Nat) : Int))
    have st3 : ((((w1.setCell ⟨W.heap.size, 0, none⟩ (.int .i64 ((m0 : Nat) : Int))).setCell ⟨W.heap.size, 1, none⟩ (.int .i64 ((m1 : Nat) : Int))).setCell ⟨W.heap.size, 2, none⟩ (.int .i64 ((m2 : Nat) : Int))).setCell ⟨W.heap.size, 3, none⟩ (.int .i64 ((m3 : Nat) : Int))).heap[W.heap.size]? = some (.cells #[.int .i64 ((m0 : Nat) : Int), .int .i64 ((m1 : Nat) : Int), .int .i64 ((m2 : Nat) : Int), .int .i64 ((m3 : Nat) : Int), .int .i64 0, .int .i64 0, .int .i64 0, .string ⟨#[]⟩, .string ⟨#[]⟩] 31 (0, 0)) := cells_put (j := 3) st2 (.int .i64 ((m3 : Nat) : Int))
    have st4 : (((((w1.setCell ⟨W.heap.size, 0, none⟩ (.int .i64 ((m0 : Nat) : Int))).setCell ⟨W.heap.size, 1, none⟩ (.int .i64 ((m1 : Nat) : Int))).setCell ⟨W.heap.size, 2, none⟩ (.int .i64 ((m2 : Nat) : Int))).setCell ⟨W.heap.size, 3, none⟩ (.int .i64 ((m3 : Nat) : Int))).setCell ⟨W.heap.size, 4, none⟩ (.int .i64 ((m4 : Nat) : Int))).heap[W.heap.size]? = some (.cells #[.int .i64 ((m0 : Nat) : Int), .int .i64 ((m1 : Nat) : Int), .int .i64 ((m2 : Nat) : Int), .int .i64 ((m3 : Nat) : Int), .int .i64 ((m4 : Nat) : Int), .int .i64 0, .int .i64 0, .string ⟨#[]⟩, .string ⟨#[]⟩] 31 (0, 0)) := cells_put (j := 4) st3 (.int .i64 ((m4 : Nat) : Int))
    have st5 : ((((((w1.setCell ⟨W.heap.size, 0, none⟩ (.int .i64 ((m0 : Nat) : Int))).setCell ⟨W.heap.size, 1, none⟩ (.int .i64 ((m1 : Nat) : Int))).setCell ⟨W.heap.size, 2, none⟩ (.int .i64 ((m2 : Nat) : Int))).setCell ⟨W.heap.size, 3, none⟩ (.int .i64 ((m3 : Nat) : Int))).setCell ⟨W.heap.size, 4, none⟩ (.int .i64 ((m4 : Nat) : Int))).setCell ⟨W.heap.size, 5, none⟩ (.int .i64 ((m5 : Nat) : Int))).heap[W.heap.size]? = some (.cells #[.int .i64 ((m0 : Nat) : Int), .int .i64 ((m1 : Nat) : Int), .int .i64 ((m2 : Nat) : Int), .int .i64 ((m3 : Nat) : Int), .int .i64 ((m4 : Nat) : Int), .int .i64 ((m5 : Nat) : Int), .int .i64 0, .string ⟨#[]⟩, .string ⟨#[]⟩] 31 (0, 0)) := cells_put (j := 5) st4 (.int .i64 ((m5 : Nat) : Int))
    have st6 : (((((((w1.setCell ⟨W.heap.size, 0, none⟩ (.int .i64 ((m0 : Nat) : Int))).setCell ⟨W.heap.size, 1, none⟩ (.int .i64 ((m1 : Nat) : Int))).setCell ⟨W.heap.size, 2, none⟩ (.int .i64 ((m2 : Nat) : Int))).setCell ⟨W.heap.size, 3, none⟩ (.int .i64 ((m3 : Nat) : Int))).setCell ⟨W.heap.size, 4, none⟩ (.int .i64 ((m4 : Nat) : Int))).setCell ⟨W.heap.size, 5, none⟩ (.int .i64 ((m5 : Nat) : Int))).setCell ⟨W.heap.size, 6, none⟩ (.int .i64 ((m6 : Nat) : Int))).heap[W.heap.size]? = some (.cells #[.int .i64 ((m0 : Nat) : Int), .int .i64 ((m1 : Nat) : Int), .int .i64 ((m2 : Nat) : Int), .int .i64 ((m3 : Nat) : Int), .int .i64 ((m4 : Nat) : Int), .int .i64 ((m5 : Nat) : Int), .int .i64 ((m6 : Nat) : Int), .string ⟨#[]⟩, .string ⟨#[]⟩] 31 (0, 0)) := cells_put (j := 6) st5 (.int .i64 ((m6 : Nat) : Int))
    have st7 : ((((((((w1.setCell ⟨W.heap.size, 0, none⟩ (.int .i64 ((m0 : Nat) : Int))).setCell ⟨W.heap.size, 1, none⟩ (.int .i64 ((m1 : Nat) : Int))).setCell ⟨W.heap.size, 2, none⟩ (.int .i64 ((m2 : Nat) : Int))).setCell ⟨W.heap.size, 3, none⟩ (.int .i64 ((m3 : Nat) : Int))).setCell ⟨W.heap.size, 4, none⟩ (.int .i64 ((m4 : Nat) : Int))).setCell ⟨W.heap.size, 5, none⟩ (.int .i64 ((m5 : Nat) : Int))).setCell ⟨W.heap.size, 6, none⟩ (.int .i64 ((m6 : Nat) : Int))).setCell ⟨W.heap.size, 7, none⟩ (.string p7)).heap[W.heap.size]? = some (.cells #[.int .i64 ((m0 : Nat) : Int), .int .i64 ((m1 : Nat) : Int), .int .i64 ((m2 : Nat) : Int), .int .i64 ((m3 : Nat) : Int), .int .i64 ((m4 : Nat) : Int), .int .i64 ((m5 : Nat) : Int), .int .i64 ((m6 : Nat) : Int), .string p7, .string ⟨#[]⟩] 31 (0, 0)) := cells_put (j := 7) st6 (.string p7)
    have st8 : (((((((((w1.setCell ⟨W.heap.size, 0, none⟩ (.int .i64 ((m0 : Nat) : Int))).setCell ⟨W.heap.size, 1, none⟩ (.int .i64 ((m1 : Nat) : Int))).setCell ⟨W.heap.size, 2, none⟩ (.int .i64 ((m2 : Nat) : Int))).setCell ⟨W.heap.size, 3, none⟩ (.int .i64 ((m3 : Nat) : Int))).setCell ⟨W.heap.size, 4, none⟩ (.int .i64 ((m4 : Nat) : Int))).setCell ⟨W.heap.size, 5, none⟩ (.int .i64 ((m5 : Nat) : Int))).setCell ⟨W.heap.size, 6, none⟩ (.int .i64 ((m6 : Nat) : Int))).setCell ⟨W.heap.size, 7, none⟩ (.string p7)).setCell ⟨W.heap.size, 8, none⟩ (.string p8)).heap[W.heap.size]? = some (.cells #[.int .i64 ((m0 : Nat) : Int), .int .i64 ((m1 : Nat) : Int), .int .i64 ((m2 : Nat) : Int), .int .i64 ((m3 : Nat) : Int), .int .i64 ((m4 : Nat) : Int), .int .i64 ((m5 : Nat) : Int), .int .i64 ((m6 : Nat) : Int), .string p7, .string p8] 31 (0, 0)) := cells_put (j := 8) st7 (.string p8)
    have hfin : ((((((((((w1.setCell ⟨W.heap.size, 0, none⟩ (.int .i64 ((m0 : Nat) : Int))).setCell ⟨W.heap.size, 1, none⟩ (.int .i64 ((m1 : Nat) : Int))).setCell ⟨W.heap.size, 2, none⟩ (.int .i64 ((m2 : Nat) : Int))).setCell ⟨W.heap.size, 3, none⟩ (.int .i64 ((m3 : Nat) : Int))).setCell ⟨W.heap.size, 4, none⟩ (.int .i64 ((m4 : Nat) : Int))).setCell ⟨W.heap.size, 5, none⟩ (.int .i64 ((m5 : Nat) : Int))).setCell ⟨W.heap.size, 6, none⟩ (.int .i64 ((m6 : Nat) : Int))).setCell ⟨W.heap.size, 7, none⟩ (.string p7)).setCell ⟨W.heap.size, 8, none⟩ (.string p8))).drew.heap[W.heap.size]? = some (.cells #[.int .i64 ((m0 : Nat) : Int), .int .i64 ((m1 : Nat) : Int), .int .i64 ((m2 : Nat) : Int), .int .i64 ((m3 : Nat) : Int), .int .i64 ((m4 : Nat) : Int), .int .i64 ((m5 : Nat) : Int), .int .i64 ((m6 : Nat) : Int), .string p7, .string p8] 31 (0, 0)) := by rw [heap_drewS]; exact st8
    refine bodyPost_ret (v := .tuple #[.agg #[.int .i64 ((m0 : Nat) : Int), .int .i64 ((m1 : Nat) : Int), .int .i64 ((m2 : Nat) : Int), .int .i64 ((m3 : Nat) : Int), .int .i64 ((m4 : Nat) : Int), .int .i64 ((m5 : Nat) : Int), .int .i64 ((m6 : Nat) : Int), .string p7, .string p8], .int .i64 0]) (by simp [results, Tryz.results10, go_sem, (cells_at (v := .int .i64 ((m0 : Nat) : Int)) (j := 0) hfin rfl).1, (cells_at (v := .int .i64 ((m1 : Nat) : Int)) (j := 1) hfin rfl).1, (cells_at (v := .int .i64 ((m2 : Nat) : Int)) (j := 2) hfin rfl).1, (cells_at (v := .int .i64 ((m3 : Nat) : Int)) (j := 3) hfin rfl).1, (cells_at (v := .int .i64 ((m4 : Nat) : Int)) (j := 4) hfin rfl).1, (cells_at (v := .int .i64 ((m5 : Nat) : Int)) (j := 5) hfin rfl).1, (cells_at (v := .int .i64 ((m6 : Nat) : Int)) (j := 6) hfin rfl).1, (cells_at (v := .string p7) (j := 7) hfin rfl).1, (cells_at (v := .string p8) (j := 8) hfin rfl).1]) rfl ⟨⟨_, _, rfl, HT.out⟩, ?_⟩
    exact (((((((((((((Below.refl _ _).alloc (Nat.le_refl _) _).trans (hb1.mono (by simp)))).setCell (p := ⟨W.heap.size, 0, none⟩) (Nat.le_refl _) _).setCell (p := ⟨W.heap.size, 1, none⟩) (Nat.le_refl _) _).setCell (p := ⟨W.heap.size, 2, none⟩) (Nat.le_refl _) _).setCell (p := ⟨W.heap.size, 3, none⟩) (Nat.le_refl _) _).setCell (p := ⟨W.heap.size, 4, none⟩) (Nat.le_refl _) _).setCell (p := ⟨W.heap.size, 5, none⟩) (Nat.le_refl _) _).setCell (p := ⟨W.heap.size, 6, none⟩) (Nat.le_refl _) _).setCell (p := ⟨W.heap.size, 7, none⟩) (Nat.le_refl _) _).setCell (p := ⟨W.heap.size, 8, none⟩) (Nat.le_refl _) _).drew

end Go.Proofs.YtdhcbaennpediaaGreatDoor

/- NSEC3: taken apart, and put together. -/
namespace Go.Proofs.YtdhcbaennpediaaGreatDoor
set_option linter.unusedVariables false
open Go.RowKit

/-- the pieces of NSEC3. -/
abbrev pcs3 (n0 n1 n2 : Nat) (sa nx : List UInt8) (bs : List UInt8) : List ByteArray := [⟨(bytesB n0 1).toArray⟩, ⟨(bytesB n1 1).toArray⟩, ⟨(bytesB n2 2).toArray⟩, ⟨(cntd sa).toArray⟩, ⟨(cntd nx).toArray⟩, ⟨bs.toArray⟩]

set_option maxRecDepth 100000 in
set_option maxHeartbeats 4000000 in
theorem putNsec3_in (n0 n1 n2 : Nat) (h0 : n0 < 256) (h1 : n1 < 256) (h2 : n2 < 65536) (sa nx : List UInt8) (hsa : sa.length ≤ 255) (hnx : nx.length ≤ 255) (v : Value) (l : List Int) (bs : List UInt8) (hl : l.length ≤ 1000000) (he : encR l = some bs) (W : World) (hv : IntsAt W v l) (xb : Nat)
    (hx : W.heap[xb]? = some (.cells #[.int .i64 ((n0 : Nat) : Int), .int .i64 ((n1 : Nat) : Int), .int .i64 ((n2 : Nat) : Int), .string ⟨sa.toArray⟩, .string ⟨nx.toArray⟩, v] 56 (0, 0))) :
    Calls Tryz.prog 56 #[boxV xb] W fun e w' => PutPost (some (pcs3 n0 n1 n2 sa nx bs)) W e w' := by
  have hmo : Tryz.prog.follows Departure.mixedOrders = true := by kernel_rfl
  have HB : Hid (∀ W', Below W.heap.size W W' → Calls Tryz.prog 55 #[v] W' fun e w' => e = .returned (.string ⟨bs.toArray⟩) ∧ Below W'.heap.size W' w') := fun W' hb => by
    have := bytesOfTypes_in W' v l hl (hv.below hb)
    rw [he] at this
    exact this
  obtain ⟨q, c, hvq, _⟩ := hv
  subst hvq
  have HB0 := Hid.mk (bytes1_yes n0 h0)
  have HB1 := Hid.mk (bytes1_yes n1 h1)
  have HB2 := Hid.mk (bytes2_yes n2 h2)
  have HC3 := Hid.mk (countedF_in sa hsa)
  have HC4 := Hid.mk (countedF_in nx hnx)
  unfold pcs3
  generalize (⟨(bytesB n0 1).toArray⟩ : ByteArray) = q0 at HB0 ⊢
  generalize (⟨(bytesB n1 1).toArray⟩ : ByteArray) = q1 at HB1 ⊢
  generalize (⟨(bytesB n2 2).toArray⟩ : ByteArray) = q2 at HB2 ⊢
  generalize (⟨(cntd sa).toArray⟩ : ByteArray) = q3 at HC3 ⊢
  generalize (⟨(cntd nx).toArray⟩ : ByteArray) = q4 at HC4 ⊢
  generalize (⟨bs.toArray⟩ : ByteArray) = b at HB ⊢
  generalize (⟨sa.toArray⟩ : ByteArray) = s3 at HC3 hx
  generalize (⟨nx.toArray⟩ : ByteArray) = s4 at HC4 hx
  have c0 := (cells_at (v := .int .i64 ((n0 : Nat) : Int)) (j := 0) hx rfl).1
  have c1 := (cells_at (v := .int .i64 ((n1 : Nat) : Int)) (j := 1) hx rfl).1
  have c2 := (cells_at (v := .int .i64 ((n2 : Nat) : Int)) (j := 2) hx rfl).1
  have c3 := (cells_at (v := .string s3) (j := 3) hx rfl).1
  have c4 := (cells_at (v := .string s4) (j := 4) hx rfl).1
  have c5 := (cells_at (v := .slice q l.length c) (j := 5) hx rfl).1
  have HL : Hid (∀ (G : Prop) (A B : World), A.heap[xb]? = some (.cells #[.int .i64 ((n0 : Nat) : Int), .int .i64 ((n1 : Nat) : Int), .int .i64 ((n2 : Nat) : Int), .string s3, .string s4, .slice q l.length c] 56 (0, 0)) → Below W.heap.size W A → Below A.heap.size A B →
      (B.heap[xb]? = some (.cells #[.int .i64 ((n0 : Nat) : Int), .int .i64 ((n1 : Nat) : Int), .int .i64 ((n2 : Nat) : Int), .string s3, .string s4, .slice q l.length c] 56 (0, 0)) → Below W.heap.size W B → B.cell? ⟨xb, 0, none⟩ = some (.int .i64 ((n0 : Nat) : Int)) → B.cell? ⟨xb, 1, none⟩ = some (.int .i64 ((n1 : Nat) : Int)) → B.cell? ⟨xb, 2, none⟩ = some (.int .i64 ((n2 : Nat) : Int)) → B.cell? ⟨xb, 3, none⟩ = some (.string s3) → B.cell? ⟨xb, 4, none⟩ = some (.string s4) → B.cell? ⟨xb, 5, none⟩ = some (.slice q l.length c) → G) → G) := by
    intro G A B hA hW hB hG
    have hB' := (hB.block xb (box_lt hA)).trans hA
    exact hG hB' (bth hW hB hW.size) (cells_at hB' rfl).1 (cells_at hB' rfl).1 (cells_at hB' rfl).1 (cells_at hB' rfl).1 (cells_at hB' rfl).1 (cells_at hB' rfl).1
  have X0 : W.drew.heap[xb]? = some (.cells #[.int .i64 ((n0 : Nat) : Int), .int .i64 ((n1 : Nat) : Int), .int .i64 ((n2 : Nat) : Int), .string s3, .string s4, .slice q l.length c] 56 (0, 0)) := hx
  have B0 : Below W.heap.size W W.drew := (Below.refl _ _).drew
  clear hx
  go_enter Tryz.func56, Tryz.ntmps56
  go_wp2
  go_region_held3 (fun w' => w'.cell? ⟨xb, 0, none⟩ = some (.int .i64 ((n0 : Nat) : Int)) ∧ w'.cell? ⟨xb, 1, none⟩ = some (.int .i64 ((n1 : Nat) : Int)) ∧ w'.cell? ⟨xb, 2, none⟩ = some (.int .i64 ((n2 : Nat) : Int)) ∧ w'.cell? ⟨xb, 3, none⟩ = some (.string s3) ∧ w'.cell? ⟨xb, 4, none⟩ = some (.string s4) ∧ w'.cell? ⟨xb, 5, none⟩ = some (.slice q l.length c)) (first | ((repeat' apply And.intro) <;> assumption) | go_keep)
    (first
      | (have hck := X5; clear hck; go_at_call 55; refine (HB.out _ B5).mono ?_; rintro e x6 ⟨rfl, y6⟩; refine HL.out _ _ x6 X5 B5 y6 ?_; intro X6 B6 d06 d16 d26 d36 d46 d56)
      | (have hck := X4; clear hck; go_at_call 57; refine (HC4.out _).mono ?_; rintro e x5 ⟨rfl, y5⟩; refine HL.out _ _ x5 X4 B4 y5 ?_; intro X5 B5 d05 d15 d25 d35 d45 d55)
      | (have hck := X3; clear hck; go_at_call 57; refine (HC3.out _).mono ?_; rintro e x4 ⟨rfl, y4⟩; refine HL.out _ _ x4 X3 B3 y4 ?_; intro X4 B4 d04 d14 d24 d34 d44 d54)
      | (have hck := X2; clear hck; go_at_call 46; refine (HB2.out _).mono ?_; rintro e x3 ⟨rfl, y3⟩; refine HL.out _ _ x3 X2 B2 y3 ?_; intro X3 B3 d03 d13 d23 d33 d43 d53)
      | (have hck := X1; clear hck; go_at_call 46; refine (HB1.out _).mono ?_; rintro e x2 ⟨rfl, y2⟩; refine HL.out _ _ x2 X1 B1 y2 ?_; intro X2 B2 d02 d12 d22 d32 d42 d52)
      | (have hck := X0; clear hck; go_at_call 46; refine (HB0.out _).mono ?_; rintro e x1 ⟨rfl, y1⟩; refine HL.out _ _ x1 X0 B0 y1 ?_; intro X1 B1 d01 d11 d21 d31 d41 d51))
  have hsm := B6.size
  go_wp2
  go_ret
  exact ⟨⟨_, rfl, row_down (row_lit x6 [q0, q1, q2, q3, q4, b] (by unfold maxLen; simp) (by simp)) hsm⟩, B6.alloc hsm _⟩

set_option maxRecDepth 100000 in
theorem ofNsec3_in (n0 n1 n2 : Nat) (h0 : n0 < 256) (h1 : n1 < 256) (h2 : n2 < 65536) (sa nx : List UInt8) (hsa : sa.length ≤ 255) (hnx : nx.length ≤ 255) (v : Value) (l : List Int) (bs : List UInt8) (hl : l.length ≤ 1000000) (he : encR l = some bs) (W : World) (hv : IntsAt W v l) :
    Calls Tryz.prog 30 #[.agg #[.int .i64 ((n0 : Nat) : Int), .int .i64 ((n1 : Nat) : Int), .int .i64 ((n2 : Nat) : Int), .string ⟨sa.toArray⟩, .string ⟨nx.toArray⟩, v]] W fun e w' => e = .returned (.tuple #[.string (strOf (joinR 50 (some (pcs3 n0 n1 n2 sa nx bs)))), .int .i64 (errOf (joinR 50 (some (pcs3 n0 n1 n2 sa nx bs))))]) ∧ Below W.heap.size W w' := by
  have hmf := mkf
  have hbl := encR_len he
  have hbw : Below W.heap.size W (W.alloc (.cells #[.int .i64 ((n0 : Nat) : Int), .int .i64 ((n1 : Nat) : Int), .int .i64 ((n2 : Nat) : Int), .string ⟨sa.toArray⟩, .string ⟨nx.toArray⟩, v] 56)) := (Below.refl _ _).alloc (Nat.le_refl _) _
  have HJ := Hid.mk (joined_in (W.alloc (.cells #[.int .i64 ((n0 : Nat) : Int), .int .i64 ((n1 : Nat) : Int), .int .i64 ((n2 : Nat) : Int), .string ⟨sa.toArray⟩, .string ⟨nx.toArray⟩, v] 56)) 50 56 #[boxV W.heap.size] (enters_by Tryz.func56 (by kernel_rfl) rfl) (some (pcs3 n0 n1 n2 sa nx bs)) (fun ps e => by
      cases e
      refine ⟨by simp, ?_⟩
      simp only [cat, app_size, ba_size, bytesB_len, cntd, List.length_cons, List.length_nil]
      omega) (fun W' hb => putNsec3_in n0 n1 n2 h0 h1 h2 sa nx hsa hnx v l bs hl he W' ((hv.below hbw).below hb) W.heap.size ((hb.block _ (by simp)).trans (heap_new _ _))))
  generalize joinR 50 (some (pcs3 n0 n1 n2 sa nx bs)) = J at HJ ⊢
  obtain ⟨q, c, hvq, _⟩ := hv
  subst hvq
  go_enter Tryz.func30, Tryz.ntmps30
  go_wp2_with fail
  refine HJ.out.mono ?_
  rintro e w1 ⟨rfl, hb1⟩
  go_wp2
  go_ret2
  exact ⟨rfl, bth hbw hb1 hbw.size⟩

def TakeNsec3 (d : ByteArray) (W : World) (v : Value) (er : Int) : Prop := ∃ (n0 n1 n2 : Nat) (sa nx : List UInt8) (v' : Value) (l : List Int) (bs : List UInt8), v = .agg #[.int .i64 ((n0 : Nat) : Int), .int .i64 ((n1 : Nat) : Int), .int .i64 ((n2 : Nat) : Int), .string ⟨sa.toArray⟩, .string ⟨nx.toArray⟩, v'] ∧ IntsAt W v' l ∧ (n0 < 256 ∧ n1 < 256 ∧ n2 < 65536 ∧ sa.length ≤ 255 ∧ nx.length ≤ 255) ∧ l.length ≤ 1000000 ∧ encR l = some bs ∧
  (er = 0 → joinR 50 (some (pcs3 n0 n1 n2 sa nx bs)) = some d) ∧ (er = 0 ∨ (er = 6 ∧ splitR 50 d = none ∧ v = .agg #[.int .i64 0, .int .i64 0, .int .i64 0, .string ⟨#[]⟩, .string ⟨#[]⟩, .slice none 0 0])) ∧ (er = 0 → ∃ tl : List Nat, l = tl.map (fun n => ((n : Nat) : Int)) ∧ typesR ⟨bs.toArray⟩ = some tl)
theorem cnt_split {p : ByteArray} (h : cntK p = some p.size) : 1 ≤ p.size ∧ ∃ r : List UInt8, r.length ≤ 255 ∧ p.extract 1 p.size = ⟨r.toArray⟩ ∧ p = ⟨(cntd r).toArray⟩ := by
  obtain ⟨b, r, rfl, hb, hm⟩ := cnt_pos h
  have hu := b.toNat_lt
  rw [ba_size, List.length_cons] at hm
  have hr : r.length = b.toNat := by omega
  refine ⟨by rw [ba_size]; simp, r, by omega, ?_, ?_⟩
  · apply ba_ext
    rw [Lib.extract_data, ba_toList, ba_size, ba_toList, List.drop_succ_cons, List.drop_zero]
    exact List.take_of_length_le (by simp)
  · rw [cntd, hr, UInt8.ofNat_toNat]
end Go.Proofs.YtdhcbaennpediaaGreatDoor
