/- Texts of this proof, joined: DSoa. -/
import Derived.Deep.RegionHeld3
import Derived.Test.YtdhcbaennpediaaGreatDoorJ13
import Derived.Test.YtdhcbaennpediaaGreatDoorJ5
import Derived.Test.YtdhcbaennpediaaGreatDoorJ14
import Derived.Test.YtdhcbaennpediaaGreatDoorJ15
/- SOA: taken apart, and put together. -/
namespace Go.Proofs.YtdhcbaennpediaaGreatDoor
set_option linter.unusedVariables false
open Go.RowKit

theorem heap_drew (X : World) : X.drew.heap = X.heap := rfl

set_option maxRecDepth 100000 in
set_option maxHeartbeats 4000000 in
theorem putSoa_in (n2 n3 n4 n5 n6 : Nat) (s0 s1 : ByteArray) (h0 : s0.size ≤ 2000) (h1 : s1.size ≤ 2000) (h2 : n2 < 4294967296) (h3 : n3 < 4294967296) (h4 : n4 < 4294967296) (h5 : n5 < 4294967296) (h6 : n6 < 4294967296) (W : World) (xb : Nat) (hx : W.heap[xb]? = some (.cells #[.string s0, .string s1, .int .i64 ((n2 : Nat) : Int), .int .i64 ((n3 : Nat) : Int), .int .i64 ((n4 : Nat) : Int), .int .i64 ((n5 : Nat) : Int), .int .i64 ((n6 : Nat) : Int)] 24 (0, 0))) :
    Calls Tryz.prog 45 #[boxV xb] W fun e w' => PutPost (some [s0, s1, ⟨(bytesB n2 4).toArray⟩, ⟨(bytesB n3 4).toArray⟩, ⟨(bytesB n4 4).toArray⟩, ⟨(bytesB n5 4).toArray⟩, ⟨(bytesB n6 4).toArray⟩]) W e w' := by
  have hmo : Tryz.prog.follows Departure.mixedOrders = true := by kernel_rfl
  have HL : Hid (∀ (G : Prop) (A B : World), A.heap[xb]? = some (.cells #[.string s0, .string s1, .int .i64 ((n2 : Nat) : Int), .int .i64 ((n3 : Nat) : Int), .int .i64 ((n4 : Nat) : Int), .int .i64 ((n5 : Nat) : Int), .int .i64 ((n6 : Nat) : Int)] 24 (0, 0)) → Below W.heap.size W A → Below A.heap.size A B → (B.heap[xb]? = some (.cells #[.string s0, .string s1, .int .i64 ((n2 : Nat) : Int), .int .i64 ((n3 : Nat) : Int), .int .i64 ((n4 : Nat) : Int), .int .i64 ((n5 : Nat) : Int), .int .i64 ((n6 : Nat) : Int)] 24 (0, 0)) → Below W.heap.size W B → B.cell? ⟨xb, 0, none⟩ = some (.string s0) → B.cell? ⟨xb, 1, none⟩ = some (.string s1) → B.cell? ⟨xb, 2, none⟩ = some (.int .i64 ((n2 : Nat) : Int)) → B.cell? ⟨xb, 3, none⟩ = some (.int .i64 ((n3 : Nat) : Int)) → B.cell? ⟨xb, 4, none⟩ = some (.int .i64 ((n4 : Nat) : Int)) → B.cell? ⟨xb, 5, none⟩ = some (.int .i64 ((n5 : Nat) : Int)) → B.cell? ⟨xb, 6, none⟩ = some (.int .i64 ((n6 : Nat) : Int)) → G) → G) := by
    intro G A B hA hW hB hG
    have hB' := (hB.block xb (box_lt hA)).trans hA
    exact hG hB' (bth hW hB hW.size) (cells_at hB' rfl).1 (cells_at hB' rfl).1 (cells_at hB' rfl).1 (cells_at hB' rfl).1 (cells_at hB' rfl).1 (cells_at hB' rfl).1 (cells_at hB' rfl).1
  have c0 := (cells_at (v := .string s0) (j := 0) hx rfl).1
  have c1 := (cells_at (v := .string s1) (j := 1) hx rfl).1
  have c2 := (cells_at (v := .int .i64 ((n2 : Nat) : Int)) (j := 2) hx rfl).1
  have c3 := (cells_at (v := .int .i64 ((n3 : Nat) : Int)) (j := 3) hx rfl).1
  have c4 := (cells_at (v := .int .i64 ((n4 : Nat) : Int)) (j := 4) hx rfl).1
  have c5 := (cells_at (v := .int .i64 ((n5 : Nat) : Int)) (j := 5) hx rfl).1
  have c6 := (cells_at (v := .int .i64 ((n6 : Nat) : Int)) (j := 6) hx rfl).1
  have HB2 := Hid.mk (bytes4_yes n2 h2)
  generalize (⟨(bytesB n2 4).toArray⟩ : ByteArray) = q2 at HB2 ⊢
  have HB3 := Hid.mk (bytes4_yes n3 h3)
  generalize (⟨(bytesB n3 4).toArray⟩ : ByteArray) = q3 at HB3 ⊢
  have HB4 := Hid.mk (bytes4_yes n4 h4)
  generalize (⟨(bytesB n4 4).toArray⟩ : ByteArray) = q4 at HB4 ⊢
  have HB5 := Hid.mk (bytes4_yes n5 h5)
  generalize (⟨(bytesB n5 4).toArray⟩ : ByteArray) = q5 at HB5 ⊢
  have HB6 := Hid.mk (bytes4_yes n6 h6)
  generalize (⟨(bytesB n6 4).toArray⟩ : ByteArray) = q6 at HB6 ⊢
  have X0 : W.drew.heap[xb]? = some (.cells #[.string s0, .string s1, .int .i64 ((n2 : Nat) : Int), .int .i64 ((n3 : Nat) : Int), .int .i64 ((n4 : Nat) : Int), .int .i64 ((n5 : Nat) : Int), .int .i64 ((n6 : Nat) : Int)] 24 (0, 0)) := hx
  have B0 : Below W.heap.size W W.drew := (Below.refl _ _).drew
  clear hx
  go_enter Tryz.func45, Tryz.ntmps45
  go_wp2
  go_region_held3 (fun w' => w'.cell? ⟨xb, 0, none⟩ = some (.string s0) ∧ w'.cell? ⟨xb, 1, none⟩ = some (.string s1) ∧ w'.cell? ⟨xb, 2, none⟩ = some (.int .i64 ((n2 : Nat) : Int)) ∧ w'.cell? ⟨xb, 3, none⟩ = some (.int .i64 ((n3 : Nat) : Int)) ∧ w'.cell? ⟨xb, 4, none⟩ = some (.int .i64 ((n4 : Nat) : Int)) ∧ w'.cell? ⟨xb, 5, none⟩ = some (.int .i64 ((n5 : Nat) : Int)) ∧ w'.cell? ⟨xb, 6, none⟩ = some (.int .i64 ((n6 : Nat) : Int))) (first | ((repeat' apply And.intro) <;> assumption) | go_keep)
    (first | (have hck := X4; clear hck; go_at_call 46; refine (HB6.out _).mono ?_; rintro e x5 ⟨rfl, y5⟩; refine HL.out _ _ x5 X4 B4 y5 ?_; intro X5 B5 d0_5 d1_5 d2_5 d3_5 d4_5 d5_5 d6_5) | (have hck := X3; clear hck; go_at_call 46; refine (HB5.out _).mono ?_; rintro e x4 ⟨rfl, y4⟩; refine HL.out _ _ x4 X3 B3 y4 ?_; intro X4 B4 d0_4 d1_4 d2_4 d3_4 d4_4 d5_4 d6_4) | (have hck := X2; clear hck; go_at_call 46; refine (HB4.out _).mono ?_; rintro e x3 ⟨rfl, y3⟩; refine HL.out _ _ x3 X2 B2 y3 ?_; intro X3 B3 d0_3 d1_3 d2_3 d3_3 d4_3 d5_3 d6_3) | (have hck := X1; clear hck; go_at_call 46; refine (HB3.out _).mono ?_; rintro e x2 ⟨rfl, y2⟩; refine HL.out _ _ x2 X1 B1 y2 ?_; intro X2 B2 d0_2 d1_2 d2_2 d3_2 d4_2 d5_2 d6_2) | (have hck := X0; clear hck; go_at_call 46; refine (HB2.out _).mono ?_; rintro e x1 ⟨rfl, y1⟩; refine HL.out _ _ x1 X0 B0 y1 ?_; intro X1 B1 d0_1 d1_1 d2_1 d3_1 d4_1 d5_1 d6_1))
  have hsm := B5.size
  go_wp2
  go_ret
  exact ⟨⟨_, rfl, row_down (row_lit x5 [s0, s1, q2, q3, q4, q5, q6] (by unfold maxLen; simp) (by simp)) hsm⟩, B5.alloc hsm _⟩

set_option maxRecDepth 100000 in
theorem ofSoa_in (n2 n3 n4 n5 n6 : Nat) (s0 s1 : ByteArray) (h0 : s0.size ≤ 2000) (h1 : s1.size ≤ 2000) (h2 : n2 < 4294967296) (h3 : n3 < 4294967296) (h4 : n4 < 4294967296) (h5 : n5 < 4294967296) (h6 : n6 < 4294967296) (W : World) :
    Calls Tryz.prog 21 #[.agg #[.string s0, .string s1, .int .i64 ((n2 : Nat) : Int), .int .i64 ((n3 : Nat) : Int), .int .i64 ((n4 : Nat) : Int), .int .i64 ((n5 : Nat) : Int), .int .i64 ((n6 : Nat) : Int)]] W fun e w' => e = .returned (.tuple #[.string (strOf (joinR 6 (some [s0, s1, ⟨(bytesB n2 4).toArray⟩, ⟨(bytesB n3 4).toArray⟩, ⟨(bytesB n4 4).toArray⟩, ⟨(bytesB n5 4).toArray⟩, ⟨(bytesB n6 4).toArray⟩]))), .int .i64 (errOf (joinR 6 (some [s0, s1, ⟨(bytesB n2 4).toArray⟩, ⟨(bytesB n3 4).toArray⟩, ⟨(bytesB n4 4).toArray⟩, ⟨(bytesB n5 4).toArray⟩, ⟨(bytesB n6 4).toArray⟩])))]) ∧ Below W.heap.size W w' := by
  have hmf := mkf
  have hbw : Below W.heap.size W (W.alloc (.cells #[.string s0, .string s1, .int .i64 ((n2 : Nat) : Int), .int .i64 ((n3 : Nat) : Int), .int .i64 ((n4 : Nat) : Int), .int .i64 ((n5 : Nat) : Int), .int .i64 ((n6 : Nat) : Int)] 24)) := (Below.refl _ _).alloc (Nat.le_refl _) _
  have HJ := Hid.mk (joined_in (W.alloc (.cells #[.string s0, .string s1, .int .i64 ((n2 : Nat) : Int), .int .i64 ((n3 : Nat) : Int), .int .i64 ((n4 : Nat) : Int), .int .i64 ((n5 : Nat) : Int), .int .i64 ((n6 : Nat) : Int)] 24)) 6 45 #[boxV W.heap.size] (enters_by Tryz.func45 (by kernel_rfl) rfl) (some [s0, s1, ⟨(bytesB n2 4).toArray⟩, ⟨(bytesB n3 4).toArray⟩, ⟨(bytesB n4 4).toArray⟩, ⟨(bytesB n5 4).toArray⟩, ⟨(bytesB n6 4).toArray⟩]) (fun ps e => by
      cases e
      refine ⟨by simp, ?_⟩
      simp only [cat, app_size, ba_size, bytesB_len, List.length_nil]
      have : (⟨#[]⟩ : ByteArray).size = 0 := rfl
      omega) (fun W' hb => putSoa_in n2 n3 n4 n5 n6 s0 s1 h0 h1 h2 h3 h4 h5 h6 W' W.heap.size ((hb.block _ (by simp)).trans (heap_new _ _))))
  generalize joinR 6 (some [s0, s1, ⟨(bytesB n2 4).toArray⟩, ⟨(bytesB n3 4).toArray⟩, ⟨(bytesB n4 4).toArray⟩, ⟨(bytesB n5 4).toArray⟩, ⟨(bytesB n6 4).toArray⟩]) = J at HJ ⊢
  go_enter Tryz.func21, Tryz.ntmps21
  go_wp2_with fail
  refine HJ.out.mono ?_
  rintro e w1 ⟨rfl, hb1⟩
  go_wp2
  go_ret2
  exact ⟨rfl, bth hbw hb1 hbw.size⟩

def TakeSoa (d : ByteArray) (v : Value) (er : Int) : Prop := ∃ (n2 n3 n4 n5 n6 : Nat) (s0 s1 : ByteArray), v = .agg #[.string s0, .string s1, .int .i64 ((n2 : Nat) : Int), .int .i64 ((n3 : Nat) : Int), .int .i64 ((n4 : Nat) : Int), .int .i64 ((n5 : Nat) : Int), .int .i64 ((n6 : Nat) : Int)] ∧ (s0.size ≤ 2000 ∧ s1.size ≤ 2000 ∧ n2 < 4294967296 ∧ n3 < 4294967296 ∧ n4 < 4294967296 ∧ n5 < 4294967296 ∧ n6 < 4294967296) ∧ (er = 0 → joinR 6 (some [s0, s1, ⟨(bytesB n2 4).toArray⟩, ⟨(bytesB n3 4).toArray⟩, ⟨(bytesB n4 4).toArray⟩, ⟨(bytesB n5 4).toArray⟩, ⟨(bytesB n6 4).toArray⟩]) = some d) ∧ (er = 0 ∨ (er = 6 ∧ splitR 6 d = none ∧ v = .agg #[.string ⟨#[]⟩, .string ⟨#[]⟩, .int .i64 0, .int .i64 0, .int .i64 0, .int .i64 0, .int .i64 0]))
theorem takeSoa_ok (d p0 p1 p2 p3 p4 p5 p6 : ByteArray) (h : splitR 6 d = some [p0, p1, p2, p3, p4, p5, p6]) : TakeSoa d (.agg #[.string p0, .string p1, .int .i64 ((numB p2.data.toList : Nat) : Int), .int .i64 ((numB p3.data.toList : Nat) : Int), .int .i64 ((numB p4.data.toList : Nat) : Int), .int .i64 ((numB p5.data.toList : Nat) : Int), .int .i64 ((numB p6.data.toList : Nat) : Int)]) 0 ∧ (p0.size ≤ 2000 ∧ p1.size ≤ 2000 ∧ p2.size ≤ 7 ∧ p3.size ≤ 7 ∧ p4.size ≤ 7 ∧ p5.size ≤ 7 ∧ p6.size ≤ 7) := by
  obtain ⟨hk, hs, hd, hg⟩ := (split_iff 6 d _).1 h
  have hg' : IsName p0 ∧ IsName p1 ∧ p2.size = 4 ∧ p3.size = 4 ∧ p4.size = 4 ∧ p5.size = 4 ∧ p6.size = 4 ∧ True := hg
  have hcs : p0.size + p1.size + p2.size + p3.size + p4.size + p5.size + p6.size ≤ 2000 := by
    rw [hd] at hs
    simp only [cat, app_size] at hs
    have : (⟨#[]⟩ : ByteArray).size = 0 := rfl
    omega
  have e2 : (⟨(bytesB (numB p2.data.toList) 4).toArray⟩ : ByteArray) = p2 := by
    apply ba_ext
    have := bytesB_num p2.data.toList (by rw [size_list]; omega)
    rw [size_list, show p2.size = 4 by omega] at this
    exact this
  have e3 : (⟨(bytesB (numB p3.data.toList) 4).toArray⟩ : ByteArray) = p3 := by
    apply ba_ext
    have := bytesB_num p3.data.toList (by rw [size_list]; omega)
    rw [size_list, show p3.size = 4 by omega] at this
    exact this
  have e4 : (⟨(bytesB (numB p4.data.toList) 4).toArray⟩ : ByteArray) = p4 := by
    apply ba_ext
    have := bytesB_num p4.data.toList (by rw [size_list]; omega)
    rw [size_list, show p4.size = 4 by omega] at this
    exact this
  have e5 : (⟨(bytesB (numB p5.data.toList) 4).toArray⟩ : ByteArray) = p5 := by
    apply ba_ext
    have := bytesB_num p5.data.toList (by rw [size_list]; omega)
    rw [size_list, show p5.size = 4 by omega] at this
    exact this
  have e6 : (⟨(bytesB (numB p6.data.toList) 4).toArray⟩ : ByteArray) = p6 := by
    apply ba_ext
    have := bytesB_num p6.data.toList (by rw [size_list]; omega)
    rw [size_list, show p6.size = 4 by omega] at this
    exact this
  have l2 : numB p2.data.toList < 4294967296 := by
    have := numB_lt p2.data.toList
    rw [size_list, show p2.size = 4 by omega] at this
    simpa using this
  have l3 : numB p3.data.toList < 4294967296 := by
    have := numB_lt p3.data.toList
    rw [size_list, show p3.size = 4 by omega] at this
    simpa using this
  have l4 : numB p4.data.toList < 4294967296 := by
    have := numB_lt p4.data.toList
    rw [size_list, show p4.size = 4 by omega] at this
    simpa using this
  have l5 : numB p5.data.toList < 4294967296 := by
    have := numB_lt p5.data.toList
    rw [size_list, show p5.size = 4 by omega] at this
    simpa using this
  have l6 : numB p6.data.toList < 4294967296 := by
    have := numB_lt p6.data.toList
    rw [size_list, show p6.size = 4 by omega] at this
    simpa using this
  refine ⟨⟨numB p2.data.toList, numB p3.data.toList, numB p4.data.toList, numB p5.data.toList, numB p6.data.toList, p0, p1, rfl, ⟨by omega, by omega, l2, l3, l4, l5, l6⟩, fun _ => ?_, .inl rfl⟩, by omega, by omega, by omega, by omega, by omega, by omega, by omega⟩
  rw [e2, e3, e4, e5, e6, joinR, ← hd, h]
  exact if_pos rfl
set_option maxRecDepth 100000 in
set_option maxHeartbeats 4000000 in
theorem takeSoa_in (d : ByteArray) (hm : d.size ≤ maxLen) (W : World) :
    Calls Tryz.prog 8 #[.string d] W fun e w' => (∃ v er, e = .returned (.tuple #[v, .int .i64 er]) ∧ TakeSoa d v er) ∧ Below W.heap.size W w' := by
  have HS := Hid.mk (split_all 6 d hm)
  have hmo : Tryz.prog.follows Departure.mixedOrders = true := by kernel_rfl
  have HN := Hid.mk number_in
  cases hsp : splitR 6 d with
  | none =>
    rw [hsp] at HS
    have HSP := Hid.mk hsp
    clear hsp
    go_enter Tryz.func8, Tryz.ntmps8
    go_wp2_with fail
    refine (HS.out _).mono ?_
    rintro e w1 ⟨rfl, hb1⟩
    have hbx := (hb1.block _ (by simp)).trans (heap_new W (.cells #[.string ⟨#[]⟩, .string ⟨#[]⟩, .int .i64 0, .int .i64 0, .int .i64 0, .int .i64 0, .int .i64 0] 24))
    obtain ⟨a0, f0⟩ := cells_at (v := .string ⟨#[]⟩) (j := 0) hbx rfl
    obtain ⟨a1, f1⟩ := cells_at (v := .string ⟨#[]⟩) (j := 1) hbx rfl
    obtain ⟨a2, f2⟩ := cells_at (v := .int .i64 0) (j := 2) hbx rfl
    obtain ⟨a3, f3⟩ := cells_at (v := .int .i64 0) (j := 3) hbx rfl
    obtain ⟨a4, f4⟩ := cells_at (v := .int .i64 0) (j := 4) hbx rfl
    obtain ⟨a5, f5⟩ := cells_at (v := .int .i64 0) (j := 5) hbx rfl
    obtain ⟨a6, f6⟩ := cells_at (v := .int .i64 0) (j := 6) hbx rfl
    have HBX := Hid.mk hbx
    clear hbx
    go_wp2
    have st0 : (w1.setCell ⟨W.heap.size, 0, none⟩ (.string ⟨#[]⟩)).heap[W.heap.size]? = some (.cells #[.string ⟨#[]⟩, .string ⟨#[]⟩, .int .i64 0, .int .i64 0, .int .i64 0, .int .i64 0, .int .i64 0] 24 (0, 0)) := cells_put (j := 0) HBX.out (.string ⟨#[]⟩)
    have st1 : ((w1.setCell ⟨W.heap.size, 0, none⟩ (.string ⟨#[]⟩)).setCell ⟨W.heap.size, 1, none⟩ (.string ⟨#[]⟩)).heap[W.heap.size]? = some (.cells #[.string ⟨#[]⟩, .string ⟨#[]⟩, .int .i64 0, .int .i64 0, .int .i64 0, .int .i64 0, .int .i64 0] 24 (0, 0)) := cells_put (j := 1) st0 (.string ⟨#[]⟩)
    have st2 : (((w1.setCell ⟨W.heap.size, 0, none⟩ (.string ⟨#[]⟩)).setCell ⟨W.heap.size, 1, none⟩ (.string ⟨#[]⟩)).setCell ⟨W.heap.size, 2, none⟩ (.int .i64 0)).heap[W.heap.size]? = some (.cells #[.string ⟨#[]⟩, .string ⟨#[]⟩, .int .i64 0, .int .i64 0, .int .i64 0, .int .i64 0, .int .i64 0] 24 (0, 0)) := cells_put (j := 2) st1 (.int .i64 0)
    have st3 : ((((w1.setCell ⟨W.heap.size, 0, none⟩ (.string ⟨#[]⟩)).setCell ⟨W.heap.size, 1, none⟩ (.string ⟨#[]⟩)).setCell ⟨W.heap.size, 2, none⟩ (.int .i64 0)).setCell ⟨W.heap.size, 3, none⟩ (.int .i64 0)).heap[W.heap.size]? = some (.cells #[.string ⟨#[]⟩, .string ⟨#[]⟩, .int .i64 0, .int .i64 0, .int .i64 0, .int .i64 0, .int .i64 0] 24 (0, 0)) := cells_put (j := 3) st2 (.int .i64 0)
    have st4 : (((((w1.setCell ⟨W.heap.size, 0, none⟩ (.string ⟨#[]⟩)).setCell ⟨W.heap.size, 1, none⟩ (.string ⟨#[]⟩)).setCell ⟨W.heap.size, 2, none⟩ (.int .i64 0)).setCell ⟨W.heap.size, 3, none⟩ (.int .i64 0)).setCell ⟨W.heap.size, 4, none⟩ (.int .i64 0)).heap[W.heap.size]? = some (.cells #[.string ⟨#[]⟩, .string ⟨#[]⟩, .int .i64 0, .int .i64 0, .int .i64 0, .int .i64 0, .int .i64 0] 24 (0, 0)) := cells_put (j := 4) st3 (.int .i64 0)
    have st5 : ((((((w1.setCell ⟨W.heap.size, 0, none⟩ (.string ⟨#[]⟩)).setCell ⟨W.heap.size, 1, none⟩ (.string ⟨#[]⟩)).setCell ⟨W.heap.size, 2, none⟩ (.int .i64 0)).setCell ⟨W.heap.size, 3, none⟩ (.int .i64 0)).setCell ⟨W.heap.size, 4, none⟩ (.int .i64 0)).setCell ⟨W.heap.size, 5, none⟩ (.int .i64 0)).heap[W.heap.size]? = some (.cells #[.string ⟨#[]⟩, .string ⟨#[]⟩, .int .i64 0, .int .i64 0, .int .i64 0, .int .i64 0, .int .i64 0] 24 (0, 0)) := cells_put (j := 5) st4 (.int .i64 0)
    have st6 : (((((((w1.setCell ⟨W.heap.size, 0, none⟩ (.string ⟨#[]⟩)).setCell ⟨W.heap.size, 1, none⟩ (.string ⟨#[]⟩)).setCell ⟨W.heap.size, 2, none⟩ (.int .i64 0)).setCell ⟨W.heap.size, 3, none⟩ (.int .i64 0)).setCell ⟨W.heap.size, 4, none⟩ (.int .i64 0)).setCell ⟨W.heap.size, 5, none⟩ (.int .i64 0)).setCell ⟨W.heap.size, 6, none⟩ (.int .i64 0)).heap[W.heap.size]? = some (.cells #[.string ⟨#[]⟩, .string ⟨#[]⟩, .int .i64 0, .int .i64 0, .int .i64 0, .int .i64 0, .int .i64 0] 24 (0, 0)) := cells_put (j := 6) st5 (.int .i64 0)
    have hfin : ((((((((w1.setCell ⟨W.heap.size, 0, none⟩ (.string ⟨#[]⟩)).setCell ⟨W.heap.size, 1, none⟩ (.string ⟨#[]⟩)).setCell ⟨W.heap.size, 2, none⟩ (.int .i64 0)).setCell ⟨W.heap.size, 3, none⟩ (.int .i64 0)).setCell ⟨W.heap.size, 4, none⟩ (.int .i64 0)).setCell ⟨W.heap.size, 5, none⟩ (.int .i64 0)).setCell ⟨W.heap.size, 6, none⟩ (.int .i64 0))).heap[W.heap.size]? = some (.cells #[.string ⟨#[]⟩, .string ⟨#[]⟩, .int .i64 0, .int .i64 0, .int .i64 0, .int .i64 0, .int .i64 0] 24 (0, 0)) := st6
    refine bodyPost_ret (v := .tuple #[.agg #[.string ⟨#[]⟩, .string ⟨#[]⟩, .int .i64 0, .int .i64 0, .int .i64 0, .int .i64 0, .int .i64 0], .int .i64 6]) (by simp [results, Tryz.results8, go_sem, (cells_at (v := .string ⟨#[]⟩) (j := 0) hfin rfl).1, (cells_at (v := .string ⟨#[]⟩) (j := 1) hfin rfl).1, (cells_at (v := .int .i64 0) (j := 2) hfin rfl).1, (cells_at (v := .int .i64 0) (j := 3) hfin rfl).1, (cells_at (v := .int .i64 0) (j := 4) hfin rfl).1, (cells_at (v := .int .i64 0) (j := 5) hfin rfl).1, (cells_at (v := .int .i64 0) (j := 6) hfin rfl).1]) rfl ⟨⟨_, _, rfl, 0, 0, 0, 0, 0, ⟨#[]⟩, ⟨#[]⟩, rfl, ⟨by decide, by decide, by decide, by decide, by decide, by decide, by decide⟩, (fun h => by cases h), .inr ⟨rfl, HSP.out, rfl⟩⟩, ?_⟩
    exact ((((((((((Below.refl _ _).alloc (Nat.le_refl _) _).trans (hb1.mono (by simp)))).setCell (p := ⟨W.heap.size, 0, none⟩) (Nat.le_refl _) _).setCell (p := ⟨W.heap.size, 1, none⟩) (Nat.le_refl _) _).setCell (p := ⟨W.heap.size, 2, none⟩) (Nat.le_refl _) _).setCell (p := ⟨W.heap.size, 3, none⟩) (Nat.le_refl _) _).setCell (p := ⟨W.heap.size, 4, none⟩) (Nat.le_refl _) _).setCell (p := ⟨W.heap.size, 5, none⟩) (Nat.le_refl _) _).setCell (p := ⟨W.heap.size, 6, none⟩) (Nat.le_refl _) _
  | some ps =>
    obtain ⟨p0, p1, p2, p3, p4, p5, p6, hps⟩ : ∃ p0 p1 p2 p3 p4 p5 p6, ps = [p0, p1, p2, p3, p4, p5, p6] := by
      have hl := ((split_iff 6 d ps).1 hsp).2.2.2.len
      match ps, hl with
      | [p0, p1, p2, p3, p4, p5, p6], _ => exact ⟨_, _, _, _, _, _, _, rfl⟩
    subst hps
    obtain ⟨hT, z0, z1, z2, z3, z4, z5, z6⟩ := takeSoa_ok d p0 p1 p2 p3 p4 p5 p6 hsp
    rw [hsp] at HS
    clear hsp
    have HN2 := Hid.mk (number_in p2 z2)
    generalize numB p2.data.toList = m2 at HN2 hT
    have HN3 := Hid.mk (number_in p3 z3)
    generalize numB p3.data.toList = m3 at HN3 hT
    have HN4 := Hid.mk (number_in p4 z4)
    generalize numB p4.data.toList = m4 at HN4 hT
    have HN5 := Hid.mk (number_in p5 z5)
    generalize numB p5.data.toList = m5 at HN5 hT
    have HN6 := Hid.mk (number_in p6 z6)
    generalize numB p6.data.toList = m6 at HN6 hT
    have HT := Hid.mk hT
    clear hT
    go_enter Tryz.func8, Tryz.ntmps8
    go_wp2_with fail
    refine (HS.out _).mono ?_
    rintro e w1 ⟨⟨v, rfl, hrow⟩, hb1⟩
    obtain ⟨q, c, hv⟩ := row_as hrow
    subst hv
    obtain ⟨g, hq, _, _⟩ := row_cell hrow 0 (by simp)
    subst hq
    obtain ⟨_, _, hgb⟩ := row_frozen (j := 0) hrow (by simp)
    simp only [World.size_alloc] at hgb
    have hgne : g ≠ W.heap.size := by omega
    have hoff : ∀ (X : World) (j i : Nat) (v : Value), (X.setCell ⟨W.heap.size, j, none⟩ v).cell? ⟨g, i, none⟩ = X.cell? ⟨g, i, none⟩ := fun X j i v => by simp only [World.cell?, Below.heap_setCell X ⟨W.heap.size, j, none⟩ v g hgne]
    have hdr : ∀ (X : World) (i : Nat), X.drew.cell? ⟨g, i, none⟩ = X.cell? ⟨g, i, none⟩ := fun _ _ => rfl
    have r0 : w1.cell? ⟨g, 0, none⟩ = some (.string p0) := row_at hrow 0 p0 rfl
    have r1 : w1.cell? ⟨g, 1, none⟩ = some (.string p1) := row_at hrow 1 p1 rfl
    have r2 : w1.cell? ⟨g, 2, none⟩ = some (.string p2) := row_at hrow 2 p2 rfl
    have r3 : w1.cell? ⟨g, 3, none⟩ = some (.string p3) := row_at hrow 3 p3 rfl
    have r4 : w1.cell? ⟨g, 4, none⟩ = some (.string p4) := row_at hrow 4 p4 rfl
    have r5 : w1.cell? ⟨g, 5, none⟩ = some (.string p5) := row_at hrow 5 p5 rfl
    have r6 : w1.cell? ⟨g, 6, none⟩ = some (.string p6) := row_at hrow 6 p6 rfl
    have hbx := (hb1.block _ (by simp)).trans (heap_new W (.cells #[.string ⟨#[]⟩, .string ⟨#[]⟩, .int .i64 0, .int .i64 0, .int .i64 0, .int .i64 0, .int .i64 0] 24))
    obtain ⟨a0, f0⟩ := cells_at (v := .string ⟨#[]⟩) (j := 0) hbx rfl
    obtain ⟨a1, f1⟩ := cells_at (v := .string ⟨#[]⟩) (j := 1) hbx rfl
    obtain ⟨a2, f2⟩ := cells_at (v := .int .i64 0) (j := 2) hbx rfl
    obtain ⟨a3, f3⟩ := cells_at (v := .int .i64 0) (j := 3) hbx rfl
    obtain ⟨a4, f4⟩ := cells_at (v := .int .i64 0) (j := 4) hbx rfl
    obtain ⟨a5, f5⟩ := cells_at (v := .int .i64 0) (j := 5) hbx rfl
    obtain ⟨a6, f6⟩ := cells_at (v := .int .i64 0) (j := 6) hbx rfl
    have HBX := Hid.mk hbx
    have mk0 : True := trivial
    clear hbx hrow
    go_wp2
    go_region_held3 (fun w' => w'.cell? ⟨g, 0, none⟩ = some (.string p0) ∧ w'.cell? ⟨g, 1, none⟩ = some (.string p1) ∧ w'.cell? ⟨g, 2, none⟩ = some (.string p2) ∧ w'.cell? ⟨g, 3, none⟩ = some (.string p3) ∧ w'.cell? ⟨g, 4, none⟩ = some (.string p4) ∧ w'.cell? ⟨g, 5, none⟩ = some (.string p5) ∧ w'.cell? ⟨g, 6, none⟩ = some (.string p6)) (first | ((repeat' apply And.intro) <;> (first | (simp only [hoff, hdr]; with_reducible assumption) | with_reducible assumption)) | go_keep)
      (first | (have hck := mk4; clear hck; go_at_call 37; refine (HN6.out _).mono ?_; rintro e x5 ⟨rfl, rfl⟩; have mk5 : True := trivial) | (have hck := mk3; clear hck; go_at_call 37; refine (HN5.out _).mono ?_; rintro e x4 ⟨rfl, rfl⟩; have mk4 : True := trivial) | (have hck := mk2; clear hck; go_at_call 37; refine (HN4.out _).mono ?_; rintro e x3 ⟨rfl, rfl⟩; have mk3 : True := trivial) | (have hck := mk1; clear hck; go_at_call 37; refine (HN3.out _).mono ?_; rintro e x2 ⟨rfl, rfl⟩; have mk2 : True := trivial) | (have hck := mk0; clear hck; go_at_call 37; refine (HN2.out _).mono ?_; rintro e x1 ⟨rfl, rfl⟩; have mk1 : True := trivial))
    go_wp2
    have st0 : (w1.setCell ⟨W.heap.size, 0, none⟩ (.string p0)).heap[W.heap.size]? = some (.cells #[.string p0, .string ⟨#[]⟩, .int .i64 0, .int .i64 0, .int .i64 0, .int .i64 0, .int .i64 0] 24 (0, 0)) := cells_put (j := 0) HBX.out (.string p0)
    have st1 : ((w1.setCell ⟨W.heap.size, 0, none⟩ (.string p0)).setCell ⟨W.heap.size, 1, none⟩ (.string p1)).heap[W.heap.size]? = some (.cells #[.string p0, .string p1, .int .i64 0, .int .i64 0, .int .i64 0, .int .i64 0, .int .i64 0] 24 (0, 0)) := cells_put (j := 1) st0 (.string p1)
    have st2 : (((w1.setCell ⟨W.heap.size, 0, none⟩ (.string p0)).setCell ⟨W.heap.size, 1, none⟩ (.string p1)).setCell ⟨W.heap.size, 2, none⟩ (.int .i64 ((m2 : Nat) : Int))).heap[W.heap.size]? = some (.cells #[.string p0, .string p1, .int .i64 ((m2 : Nat) : Int), .int .i64 0, .int .i64 0, .int .i64 0, .int .i64 0] 24 (0, 0)) := cells_put (j := 2) st1 (.int .i64 ((m2 : Nat) : Int))
    have st3 : ((((w1.setCell ⟨W.heap.size, 0, none⟩ (.string p0)).setCell ⟨W.heap.size, 1, none⟩ (.string p1)).setCell ⟨W.heap.size, 2, none⟩ (.int .i64 ((m2 : Nat) : Int))).setCell ⟨W.heap.size, 3, none⟩ (.int .i64 ((m3 : Nat) : Int))).heap[W.heap.size]? = some (.cells #[.string p0, .string p1, .int .i64 ((m2 : Nat) : Int), .int .i64 ((m3 : Nat) : Int), .int .i64 0, .int .i64 0, .int .i64 0] 24 (0, 0)) := cells_put (j := 3) st2 (.int .i64 ((m3 : Nat) : Int))
    have st4 : (((((w1.setCell ⟨W.heap.size, 0, none⟩ (.string p0)).setCell ⟨W.heap.size, 1, none⟩ (.string p1)).setCell ⟨W.heap.size, 2, none⟩ (.int .i64 ((m2 : Nat) : Int))).setCell ⟨W.heap.size, 3, none⟩ (.int .i64 ((m3 : Nat) : Int))).setCell ⟨W.heap.size, 4, none⟩ (.int .i64 ((m4 : Nat) : Int))).heap[W.heap.size]? = some (.cells #[.string p0, .string p1, .int .i64 ((m2 : Nat) : Int), .int .i64 ((m3 : Nat) : Int), .int .i64 ((m4 : Nat) : Int), .int .i64 0, .int .i64 0] 24 (0, 0)) := cells_put (j := 4) st3 (.int .i64 ((m4 : Nat) : Int))
    have st5 : ((((((w1.setCell ⟨W.heap.size, 0, none⟩ (.string p0)).setCell ⟨W.heap.size, 1, none⟩ (.string p1)).setCell ⟨W.heap.size, 2, none⟩ (.int .i64 ((m2 : Nat) : Int))).setCell ⟨W.heap.size, 3, none⟩ (.int .i64 ((m3 : Nat) : Int))).setCell ⟨W.heap.size, 4, none⟩ (.int .i64 ((m4 : Nat) : Int))).setCell ⟨W.heap.size, 5, none⟩ (.int .i64 ((m5 : Nat) : Int))).heap[W.heap.size]? = some (.cells #[.string p0, .string p1, .int .i64 ((m2 : Nat) : Int), .int .i64 ((m3 : Nat) : Int), .int .i64 ((m4 : Nat) : Int), .int .i64 ((m5 : Nat) : Int), .int .i64 0] 24 (0, 0)) := cells_put (j := 5) st4 (.int .i64 ((m5 : Nat) : Int))
    have st6 : (((((((w1.setCell ⟨W.heap.size, 0, none⟩ (.string p0)).setCell ⟨W.heap.size, 1, none⟩ (.string p1)).setCell ⟨W.heap.size, 2, none⟩ (.int .i64 ((m2 : Nat) : Int))).setCell ⟨W.heap.size, 3, none⟩ (.int .i64 ((m3 : Nat) : Int))).setCell ⟨W.heap.size, 4, none⟩ (.int .i64 ((m4 : Nat) : Int))).setCell ⟨W.heap.size, 5, none⟩ (.int .i64 ((m5 : Nat) : Int))).setCell ⟨W.heap.size, 6, none⟩ (.int .i64 ((m6 : Nat) : Int))).heap[W.heap.size]? = some (.cells #[.string p0, .string p1, .int .i64 ((m2 : Nat) : Int), .int .i64 ((m3 : Nat) : Int), .int .i64 ((m4 : Nat) : Int), .int .i64 ((m5 : Nat) : Int), .int .i64 ((m6 : Nat) : Int)] 24 (0, 0)) := cells_put (j := 6) st5 (.int .i64 ((m6 : Nat) : Int))
    have hfin : ((((((((w1.setCell ⟨W.heap.size, 0, none⟩ (.string p0)).setCell ⟨W.heap.size, 1, none⟩ (.string p1)).setCell ⟨W.heap.size, 2, none⟩ (.int .i64 ((m2 : Nat) : Int))).setCell ⟨W.heap.size, 3, none⟩ (.int .i64 ((m3 : Nat) : Int))).setCell ⟨W.heap.size, 4, none⟩ (.int .i64 ((m4 : Nat) : Int))).setCell ⟨W.heap.size, 5, none⟩ (.int .i64 ((m5 : Nat) : Int))).setCell ⟨W.heap.size, 6, none⟩ (.int .i64 ((m6 : Nat) : Int)))).drew.heap[W.heap.size]? = some (.cells #[.string p0, .string p1, .int .i64 ((m2 : Nat) : Int), .int .i64 ((m3 : Nat) : Int), .int .i64 ((m4 : Nat) : Int), .int .i64 ((m5 : Nat) : Int), .int .i64 ((m6 : Nat) : Int)] 24 (0, 0)) := by rw [heap_drew]; exact st6
    refine bodyPost_ret (v := .tuple #[.agg #[.string p0, .string p1, .int .i64 ((m2 : Nat) : Int), .int .i64 ((m3 : Nat) : Int), .int .i64 ((m4 : Nat) : Int), .int .i64 ((m5 : Nat) : Int), .int .i64 ((m6 : Nat) : Int)], .int .i64 0]) (by simp [results, Tryz.results8, go_sem, (cells_at (v := .string p0) (j := 0) hfin rfl).1, (cells_at (v := .string p1) (j := 1) hfin rfl).1, (cells_at (v := .int .i64 ((m2 : Nat) : Int)) (j := 2) hfin rfl).1, (cells_at (v := .int .i64 ((m3 : Nat) : Int)) (j := 3) hfin rfl).1, (cells_at (v := .int .i64 ((m4 : Nat) : Int)) (j := 4) hfin rfl).1, (cells_at (v := .int .i64 ((m5 : Nat) : Int)) (j := 5) hfin rfl).1, (cells_at (v := .int .i64 ((m6 : Nat) : Int)) (j := 6) hfin rfl).1]) rfl ⟨⟨_, _, rfl, HT.out⟩, ?_⟩
    exact (((((((((((Below.refl _ _).alloc (Nat.le_refl _) _).trans (hb1.mono (by simp)))).setCell (p := ⟨W.heap.size, 0, none⟩) (Nat.le_refl _) _).setCell (p := ⟨W.heap.size, 1, none⟩) (Nat.le_refl _) _).setCell (p := ⟨W.heap.size, 2, none⟩) (Nat.le_refl _) _).setCell (p := ⟨W.heap.size, 3, none⟩) (Nat.le_refl _) _).setCell (p := ⟨W.heap.size, 4, none⟩) (Nat.le_refl _) _).setCell (p := ⟨W.heap.size, 5, none⟩) (Nat.le_refl _) _).setCell (p := ⟨W.heap.size, 6, none⟩) (Nat.le_refl _) _).drew

end Go.Proofs.YtdhcbaennpediaaGreatDoor
