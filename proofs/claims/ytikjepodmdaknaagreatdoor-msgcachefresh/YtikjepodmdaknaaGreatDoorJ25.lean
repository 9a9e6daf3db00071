/- Texts of this proof, joined: DSoa, McF, McRow, McFind. -/
import Derived.Deep.RegionHeld3
import Derived.Test.YtikjepodmdaknaaGreatDoorJ12
import Derived.Test.YtikjepodmdaknaaGreatDoorJ10
import Derived.Test.YtikjepodmdaknaaGreatDoorJ24
import Derived.WalkKit
import Derived.WalkSpells
import Derived.WalkLawsBesides
import Derived.Maps.OwnSet
import Derived.Test.YtikjepodmdaknaaGreatDoorRows
import Derived.Test.YtikjepodmdaknaaGreatDoorJ14
import Derived.Defers
import Derived.Recover
import Derived.Laws.Pointers
import Derived.Below
set_option linter.unusedVariables false
set_option linter.unusedSimpArgs false
/- SOA: taken apart, and put together. -/
namespace Go.Proofs.YtikjepodmdaknaaGreatDoor
open Go.RowKit
theorem heap_drew (X : World) : X.drew.heap = X.heap := rfl
set_option maxRecDepth 100000 in
set_option maxHeartbeats 4000000 in
theorem putSoa_in (n2 n3 n4 n5 n6 : Nat) (s0 s1 : ByteArray) (h0 : s0.size ≤ 2000) (h1 : s1.size ≤ 2000) (h2 : n2 < 4294967296) (h3 : n3 < 4294967296) (h4 : n4 < 4294967296) (h5 : n5 < 4294967296) (h6 : n6 < 4294967296) (W : World) (xb : Nat) (hx : W.heap[xb]? = some (.cells #[.string s0, .string s1, .int .i64 ((n2 : Nat) : Int), .int .i64 ((n3 : Nat) : Int), .int .i64 ((n4 : Nat) : Int), .int .i64 ((n5 : Nat) : Int), .int .i64 ((n6 : Nat) : Int)] 86 (0, 0))) :
  Calls Tryz.prog 85 #[boxV xb] W fun e w' => PutPost (some [s0, s1, ⟨(bytesB n2 4).toArray⟩, ⟨(bytesB n3 4).toArray⟩, ⟨(bytesB n4 4).toArray⟩, ⟨(bytesB n5 4).toArray⟩, ⟨(bytesB n6 4).toArray⟩]) W e w' := by
 have hmo : Tryz.prog.follows Departure.mixedOrders = true := by kernel_rfl
 have HL : Hid (∀ (G : Prop) (A B : World), A.heap[xb]? = some (.cells #[.string s0, .string s1, .int .i64 ((n2 : Nat) : Int), .int .i64 ((n3 : Nat) : Int), .int .i64 ((n4 : Nat) : Int), .int .i64 ((n5 : Nat) : Int), .int .i64 ((n6 : Nat) : Int)] 86 (0, 0)) → Below W.heap.size W A → Below A.heap.size A B → (B.heap[xb]? = some (.cells #[.string s0, .string s1, .int .i64 ((n2 : Nat) : Int), .int .i64 ((n3 : Nat) : Int), .int .i64 ((n4 : Nat) : Int), .int .i64 ((n5 : Nat) : Int), .int .i64 ((n6 : Nat) : Int)] 86 (0, 0)) → Below W.heap.size W B → B.cell? ⟨xb, 0, none⟩ = some (.string s0) → B.cell? ⟨xb, 1, none⟩ = some (.string s1) → B.cell? ⟨xb, 2, none⟩ = some (.int .i64 ((n2 : Nat) : Int)) → B.cell? ⟨xb, 3, none⟩ = some (.int .i64 ((n3 : Nat) : Int)) → B.cell? ⟨xb, 4, none⟩ = some (.int .i64 ((n4 : Nat) : Int)) → B.cell? ⟨xb, 5, none⟩ = some (.int .i64 ((n5 : Nat) : Int)) → B.cell? ⟨xb, 6, none⟩ = some (.int .i64 ((n6 : Nat) : Int)) → G) → G) := by
  intro G A B hA hW hB hG
  have hB' := (hB.block xb (box_lt hA)).trans hA
  exact hG hB' (bth hW hB hW.size) (cells_at hB' rfl).1 (cells_at hB' rfl).1 (cells_at hB' rfl).1 (cells_at hB' rfl).1 (cells_at hB' rfl).1 (cells_at hB' rfl).1 (cells_at hB' rfl).1
 have c0 := (cells_at (v := .string s0) (j := 0) hx rfl).1
 have c1 := (cells_at (v := .string s1) (j := 1) hx rfl).1
 have c2 := (cells_at (v := .int .i64 ((n2 : Nat) : Int)) (j := 2) hx rfl).1
 have c3 := (cells_at (v := .int .i64 ((n3 : Nat) : Int)) (j := 3) hx rfl).1
 have c4 := (cells_at (v := .int .i64 ((n4 : Nat) : Int)) (j := 4) hx rfl).1
 have c5 := (cells_at (v := .int .i64 ((n5 : Nat) : Int)) (j := 5) hx rfl).1
 have c6 := (cells_at (v := .int .i64 ((n6 : Nat) : Int)) (j := 6) hx rfl).1
 have HB2 := Hid.mk (bytes4_yes n2 h2)
 generalize (⟨(bytesB n2 4).toArray⟩ : ByteArray) = q2 at HB2 ⊢
 have HB3 := Hid.mk (bytes4_yes n3 h3)
 generalize (⟨(bytesB n3 4).toArray⟩ : ByteArray) = q3 at HB3 ⊢
 have HB4 := Hid.mk (bytes4_yes n4 h4)
 generalize (⟨(bytesB n4 4).toArray⟩ : ByteArray) = q4 at HB4 ⊢
 have HB5 := Hid.mk (bytes4_yes n5 h5)
 generalize (⟨(bytesB n5 4).toArray⟩ : ByteArray) = q5 at HB5 ⊢
 have HB6 := Hid.mk (bytes4_yes n6 h6)
 generalize (⟨(bytesB n6 4).toArray⟩ : ByteArray) = q6 at HB6 ⊢
 have X0 : W.drew.heap[xb]? = some (.cells #[.string s0, .string s1, .int .i64 ((n2 : Nat) : Int), .int .i64 ((n3 : Nat) : Int), .int .i64 ((n4 : Nat) : Int), .int .i64 ((n5 : Nat) : Int), .int .i64 ((n6 : Nat) : Int)] 86 (0, 0)) := hx
 have B0 : Below W.heap.size W W.drew := (Below.refl _ _).drew
 clear hx
 go_enter Tryz.func85, Tryz.ntmps85
 go_wp2
 go_region_held3 (fun w' => w'.cell? ⟨xb, 0, none⟩ = some (.string s0) ∧ w'.cell? ⟨xb, 1, none⟩ = some (.string s1) ∧ w'.cell? ⟨xb, 2, none⟩ = some (.int .i64 ((n2 : Nat) : Int)) ∧ w'.cell? ⟨xb, 3, none⟩ = some (.int .i64 ((n3 : Nat) : Int)) ∧ w'.cell? ⟨xb, 4, none⟩ = some (.int .i64 ((n4 : Nat) : Int)) ∧ w'.cell? ⟨xb, 5, none⟩ = some (.int .i64 ((n5 : Nat) : Int)) ∧ w'.cell? ⟨xb, 6, none⟩ = some (.int .i64 ((n6 : Nat) : Int))) (first | ((repeat' apply And.intro) <;> assumption) | go_keep)
  (first | (have hck := X4; clear hck; go_at_call 86; refine (HB6.out _).mono ?_; rintro e x5 ⟨rfl, y5⟩; refine HL.out _ _ x5 X4 B4 y5 ?_; intro X5 B5 d0_5 d1_5 d2_5 d3_5 d4_5 d5_5 d6_5) | (have hck := X3; clear hck; go_at_call 86; refine (HB5.out _).mono ?_; rintro e x4 ⟨rfl, y4⟩; refine HL.out _ _ x4 X3 B3 y4 ?_; intro X4 B4 d0_4 d1_4 d2_4 d3_4 d4_4 d5_4 d6_4) | (have hck := X2; clear hck; go_at_call 86; refine (HB4.out _).mono ?_; rintro e x3 ⟨rfl, y3⟩; refine HL.out _ _ x3 X2 B2 y3 ?_; intro X3 B3 d0_3 d1_3 d2_3 d3_3 d4_3 d5_3 d6_3) | (have hck := X1; clear hck; go_at_call 86; refine (HB3.out _).mono ?_; rintro e x2 ⟨rfl, y2⟩; refine HL.out _ _ x2 X1 B1 y2 ?_; intro X2 B2 d0_2 d1_2 d2_2 d3_2 d4_2 d5_2 d6_2) | (have hck := X0; clear hck; go_at_call 86; refine (HB2.out _).mono ?_; rintro e x1 ⟨rfl, y1⟩; refine HL.out _ _ x1 X0 B0 y1 ?_; intro X1 B1 d0_1 d1_1 d2_1 d3_1 d4_1 d5_1 d6_1))
 have hsm := B5.size
 go_wp2
 go_ret
 exact ⟨⟨_, rfl, row_down (row_lit x5 [s0, s1, q2, q3, q4, q5, q6] (by unfold maxLen; simp) (by simp)) hsm⟩, B5.alloc hsm _⟩
set_option maxRecDepth 100000 in
theorem ofSoa_in (n2 n3 n4 n5 n6 : Nat) (s0 s1 : ByteArray) (h0 : s0.size ≤ 2000) (h1 : s1.size ≤ 2000) (h2 : n2 < 4294967296) (h3 : n3 < 4294967296) (h4 : n4 < 4294967296) (h5 : n5 < 4294967296) (h6 : n6 < 4294967296) (W : World) :
  Calls Tryz.prog 35 #[.agg #[.string s0, .string s1, .int .i64 ((n2 : Nat) : Int), .int .i64 ((n3 : Nat) : Int), .int .i64 ((n4 : Nat) : Int), .int .i64 ((n5 : Nat) : Int), .int .i64 ((n6 : Nat) : Int)]] W fun e w' => e = .returned (.tuple #[.string (strOf (joinR 6 (some [s0, s1, ⟨(bytesB n2 4).toArray⟩, ⟨(bytesB n3 4).toArray⟩, ⟨(bytesB n4 4).toArray⟩, ⟨(bytesB n5 4).toArray⟩, ⟨(bytesB n6 4).toArray⟩]))), .int .i64 (errOf (joinR 6 (some [s0, s1, ⟨(bytesB n2 4).toArray⟩, ⟨(bytesB n3 4).toArray⟩, ⟨(bytesB n4 4).toArray⟩, ⟨(bytesB n5 4).toArray⟩, ⟨(bytesB n6 4).toArray⟩])))]) ∧ Below W.heap.size W w' := by
 have hmf := mkf
 have hbw : Below W.heap.size W (W.alloc (.cells #[.string s0, .string s1, .int .i64 ((n2 : Nat) : Int), .int .i64 ((n3 : Nat) : Int), .int .i64 ((n4 : Nat) : Int), .int .i64 ((n5 : Nat) : Int), .int .i64 ((n6 : Nat) : Int)] 86)) := (Below.refl _ _).alloc (Nat.le_refl _) _
 have HJ := Hid.mk (joined_in (W.alloc (.cells #[.string s0, .string s1, .int .i64 ((n2 : Nat) : Int), .int .i64 ((n3 : Nat) : Int), .int .i64 ((n4 : Nat) : Int), .int .i64 ((n5 : Nat) : Int), .int .i64 ((n6 : Nat) : Int)] 86)) 6 85 #[boxV W.heap.size] (enters_by Tryz.func85 (by kernel_rfl) rfl) (some [s0, s1, ⟨(bytesB n2 4).toArray⟩, ⟨(bytesB n3 4).toArray⟩, ⟨(bytesB n4 4).toArray⟩, ⟨(bytesB n5 4).toArray⟩, ⟨(bytesB n6 4).toArray⟩]) (fun ps e => by
   cases e
   refine ⟨by simp, ?_⟩
   simp only [cat, app_size, ba_size, bytesB_len, List.length_nil]
   have : (⟨#[]⟩ : ByteArray).size = 0 := rfl
   omega) (fun W' hb => putSoa_in n2 n3 n4 n5 n6 s0 s1 h0 h1 h2 h3 h4 h5 h6 W' W.heap.size ((hb.block _ (by simp)).trans (heap_new _ _))))
 generalize joinR 6 (some [s0, s1, ⟨(bytesB n2 4).toArray⟩, ⟨(bytesB n3 4).toArray⟩, ⟨(bytesB n4 4).toArray⟩, ⟨(bytesB n5 4).toArray⟩, ⟨(bytesB n6 4).toArray⟩]) = J at HJ ⊢
 go_enter Tryz.func35, Tryz.ntmps35
 go_wp2_with fail
 refine HJ.out.mono ?_
 rintro e w1 ⟨rfl, hb1⟩
 go_wp2
 go_ret2
 exact ⟨rfl, bth hbw hb1 hbw.size⟩
def TakeSoa (d : ByteArray) (v : Value) (er : Int) : Prop := ∃ (n2 n3 n4 n5 n6 : Nat) (s0 s1 : ByteArray), v = .agg #[.string s0, .string s1, .int .i64 ((n2 : Nat) : Int), .int .i64 ((n3 : Nat) : Int), .int .i64 ((n4 : Nat) : Int), .int .i64 ((n5 : Nat) : Int), .int .i64 ((n6 : Nat) : Int)] ∧ (s0.size ≤ 2000 ∧ s1.size ≤ 2000 ∧ n2 < 4294967296 ∧ n3 < 4294967296 ∧ n4 < 4294967296 ∧ n5 < 4294967296 ∧ n6 < 4294967296) ∧ (er = 0 → joinR 6 (some [s0, s1, ⟨(bytesB n2 4).toArray⟩, ⟨(bytesB n3 4).toArray⟩, ⟨(bytesB n4 4).toArray⟩, ⟨(bytesB n5 4).toArray⟩, ⟨(bytesB n6 4).toArray⟩]) = some d) ∧ (er = 0 ∨ (er = 6 ∧ splitR 6 d = none ∧ v = .agg #[.string ⟨#[]⟩, .string ⟨#[]⟩, .int .i64 0, .int .i64 0, .int .i64 0, .int .i64 0, .int .i64 0]))
theorem takeSoa_ok (d p0 p1 p2 p3 p4 p5 p6 : ByteArray) (h : splitR 6 d = some [p0, p1, p2, p3, p4, p5, p6]) : TakeSoa d (.agg #[.string p0, .string p1, .int .i64 ((numB p2.data.toList : Nat) : Int), .int .i64 ((numB p3.data.toList : Nat) : Int), .int .i64 ((numB p4.data.toList : Nat) : Int), .int .i64 ((numB p5.data.toList : Nat) : Int), .int .i64 ((numB p6.data.toList : Nat) : Int)]) 0 ∧ (p0.size ≤ 2000 ∧ p1.size ≤ 2000 ∧ p2.size ≤ 7 ∧ p3.size ≤ 7 ∧ p4.size ≤ 7 ∧ p5.size ≤ 7 ∧ p6.size ≤ 7) := by
 obtain ⟨hk, hs, hd, hg⟩ := (split_iff 6 d _).1 h
 have hg' : IsName p0 ∧ IsName p1 ∧ p2.size = 4 ∧ p3.size = 4 ∧ p4.size = 4 ∧ p5.size = 4 ∧ p6.size = 4 ∧ True := hg
 have hcs : p0.size + p1.size + p2.size + p3.size + p4.size + p5.size + p6.size ≤ 2000 := by
  rw [hd] at hs
  simp only [cat, app_size] at hs
  have : (⟨#[]⟩ : ByteArray).size = 0 := rfl
  omega
 have e2 : (⟨(bytesB (numB p2.data.toList) 4).toArray⟩ : ByteArray) = p2 := by
  apply ba_ext
  have := bytesB_num p2.data.toList (by rw [size_list]; omega)
  rw [size_list, show p2.size = 4 by omega] at this
  exact this
 have e3 : (⟨(bytesB (numB p3.data.toList) 4).toArray⟩ : ByteArray) = p3 := by
  apply ba_ext
  have := bytesB_num p3.data.toList (by rw [size_list]; omega)
  rw [size_list, show p3.size = 4 by omega] at this
  exact this
 have e4 : (⟨(bytesB (numB p4.data.toList) 4).toArray⟩ : ByteArray) = p4 := by
  apply ba_ext
  have := bytesB_num p4.data.toList (by rw [size_list]; omega)
  rw [size_list, show p4.size = 4 by omega] at this
  exact this
 have e5 : (⟨(bytesB (numB p5.data.toList) 4).toArray⟩ : ByteArray) = p5 := by
  apply ba_ext
  have := bytesB_num p5.data.toList (by rw [size_list]; omega)
  rw [size_list, show p5.size = 4 by omega] at this
  exact this
 have e6 : (⟨(bytesB (numB p6.data.toList) 4).toArray⟩ : ByteArray) = p6 := by
  apply ba_ext
  have := bytesB_num p6.data.toList (by rw [size_list]; omega)
  rw [size_list, show p6.size = 4 by omega] at this
  exact this
 have l2 : numB p2.data.toList < 4294967296 := by
  have := numB_lt p2.data.toList
  rw [size_list, show p2.size = 4 by omega] at this
  simpa using this
 have l3 : numB p3.data.toList < 4294967296 := by
  have := numB_lt p3.data.toList
  rw [size_list, show p3.size = 4 by omega] at this
  simpa using this
 have l4 : numB p4.data.toList < 4294967296 := by
  have := numB_lt p4.data.toList
  rw [size_list, show p4.size = 4 by omega] at this
  simpa using this
 have l5 : numB p5.data.toList < 4294967296 := by
  have := numB_lt p5.data.toList
  rw [size_list, show p5.size = 4 by omega] at this
  simpa using this
 have l6 : numB p6.data.toList < 4294967296 := by
  have := numB_lt p6.data.toList
  rw [size_list, show p6.size = 4 by omega] at this
  simpa using this
 refine ⟨⟨numB p2.data.toList, numB p3.data.toList, numB p4.data.toList, numB p5.data.toList, numB p6.data.toList, p0, p1, rfl, ⟨by omega, by omega, l2, l3, l4, l5, l6⟩, fun _ => ?_, .inl rfl⟩, by omega, by omega, by omega, by omega, by omega, by omega, by omega⟩
 rw [e2, e3, e4, e5, e6, joinR, ← hd, h]
 exact if_pos rfl
set_option maxRecDepth 100000 in
set_option maxHeartbeats 4000000 in
theorem takeSoa_in (d : ByteArray) (hm : d.size ≤ maxLen) (W : World) :
  Calls Tryz.prog 150 #[.string d] W fun e w' => (∃ v er, e = .returned (.tuple #[v, .int .i64 er]) ∧ TakeSoa d v er) ∧ Below W.heap.size W w' := by
 have HS := Hid.mk (split_all 6 d hm)
 have hmo : Tryz.prog.follows Departure.mixedOrders = true := by kernel_rfl
 have HN := Hid.mk number_in
 cases hsp : splitR 6 d with
 | none =>
  rw [hsp] at HS
  have HSP := Hid.mk hsp
  clear hsp
  go_enter Tryz.func150, Tryz.ntmps150
  go_wp2_with fail
  refine (HS.out _).mono ?_
  rintro e w1 ⟨rfl, hb1⟩
  have hbx := (hb1.block _ (by simp)).trans (heap_new W (.cells #[.string ⟨#[]⟩, .string ⟨#[]⟩, .int .i64 0, .int .i64 0, .int .i64 0, .int .i64 0, .int .i64 0] 86))
  obtain ⟨a0, f0⟩ := cells_at (v := .string ⟨#[]⟩) (j := 0) hbx rfl
  obtain ⟨a1, f1⟩ := cells_at (v := .string ⟨#[]⟩) (j := 1) hbx rfl
  obtain ⟨a2, f2⟩ := cells_at (v := .int .i64 0) (j := 2) hbx rfl
  obtain ⟨a3, f3⟩ := cells_at (v := .int .i64 0) (j := 3) hbx rfl
  obtain ⟨a4, f4⟩ := cells_at (v := .int .i64 0) (j := 4) hbx rfl
  obtain ⟨a5, f5⟩ := cells_at (v := .int .i64 0) (j := 5) hbx rfl
  obtain ⟨a6, f6⟩ := cells_at (v := .int .i64 0) (j := 6) hbx rfl
  have HBX := Hid.mk hbx
  clear hbx
  go_wp2
  have st0 : (w1.setCell ⟨W.heap.size, 0, none⟩ (.string ⟨#[]⟩)).heap[W.heap.size]? = some (.cells #[.string ⟨#[]⟩, .string ⟨#[]⟩, .int .i64 0, .int .i64 0, .int .i64 0, .int .i64 0, .int .i64 0] 86 (0, 0)) := cells_put (j := 0) HBX.out (.string ⟨#[]⟩)
  have st1 : ((w1.setCell ⟨W.heap.size, 0, none⟩ (.string ⟨#[]⟩)).setCell ⟨W.heap.size, 1, none⟩ (.string ⟨#[]⟩)).heap[W.heap.size]? = some (.cells #[.string ⟨#[]⟩, .string ⟨#[]⟩, .int .i64 0, .int .i64 0, .int .i64 0, .int .i64 0, .int .i64 0] 86 (0, 0)) := cells_put (j := 1) st0 (.string ⟨#[]⟩)
  have st2 : (((w1.setCell ⟨W.heap.size, 0, none⟩ (.string ⟨#[]⟩)).setCell ⟨W.heap.size, 1, none⟩ (.string ⟨#[]⟩)).setCell ⟨W.heap.size, 2, none⟩ (.int .i64 0)).heap[W.heap.size]? = some (.cells #[.string ⟨#[]⟩, .string ⟨#[]⟩, .int .i64 0, .int .i64 0, .int .i64 0, .int .i64 0, .int .i64 0] 86 (0, 0)) := cells_put (j := 2) st1 (.int .i64 0)
  have st3 : ((((w1.setCell ⟨W.heap.size, 0, none⟩ (.string ⟨#[]⟩)).setCell ⟨W.heap.size, 1, none⟩ (.string ⟨#[]⟩)).setCell ⟨W.heap.size, 2, none⟩ (.int .i64 0)).setCell ⟨W.heap.size, 3, none⟩ (.int .i64 0)).heap[W.heap.size]? = some (.cells #[.string ⟨#[]⟩, .string ⟨#[]⟩, .int .i64 0, .int .i64 0, .int .i64 0, .int .i64 0, .int .i64 0] 86 (0, 0)) := cells_put (j := 3) st2 (.int .i64 0)
  have st4 : (((((w1.setCell ⟨W.heap.size, 0, none⟩ (.string ⟨#[]⟩)).setCell ⟨W.heap.size, 1, none⟩ (.string ⟨#[]⟩)).setCell ⟨W.heap.size, 2, none⟩ (.int .i64 0)).setCell ⟨W.heap.size, 3, none⟩ (.int .i64 0)).setCell ⟨W.heap.size, 4, none⟩ (.int .i64 0)).heap[W.heap.size]? = some (.cells #[.string ⟨#[]⟩, .string ⟨#[]⟩, .int .i64 0, .int .i64 0, .int .i64 0, .int .i64 0, .int .i64 0] 86 (0, 0)) := cells_put (j := 4) st3 (.int .i64 0)
  have st5 : ((((((w1.setCell ⟨W.heap.size, 0, none⟩ (.string ⟨#[]⟩)).setCell ⟨W.heap.size, 1, none⟩ (.string ⟨#[]⟩)).setCell ⟨W.heap.size, 2, none⟩ (.int .i64 0)).setCell ⟨W.heap.size, 3, none⟩ (.int .i64 0)).setCell ⟨W.heap.size, 4, none⟩ (.int .i64 0)).setCell ⟨W.heap.size, 5, none⟩ (.int .i64 0)).heap[W.heap.size]? = some (.cells #[.string ⟨#[]⟩, .string ⟨#[]⟩, .int .i64 0, .int .i64 0, .int .i64 0, .int .i64 0, .int .i64 0] 86 (0, 0)) := cells_put (j := 5) st4 (.int .i64 0)
  have st6 : (((((((w1.setCell ⟨W.heap.size, 0, none⟩ (.string ⟨#[]⟩)).setCell ⟨W.heap.size, 1, none⟩ (.string ⟨#[]⟩)).setCell ⟨W.heap.size, 2, none⟩ (.int .i64 0)).setCell ⟨W.heap.size, 3, none⟩ (.int .i64 0)).setCell ⟨W.heap.size, 4, none⟩ (.int .i64 0)).setCell ⟨W.heap.size, 5, none⟩ (.int .i64 0)).setCell ⟨W.heap.size, 6, none⟩ (.int .i64 0)).heap[W.heap.size]? = some (.cells #[.string ⟨#[]⟩, .string ⟨#[]⟩, .int .i64 0, .int .i64 0, .int .i64 0, .int .i64 0, .int .i64 0] 86 (0, 0)) := cells_put (j := 6) st5 (.int .i64 0)
  have hfin : ((((((((w1.setCell ⟨W.heap.size, 0, none⟩ (.string ⟨#[]⟩)).setCell ⟨W.heap.size, 1, none⟩ (.string ⟨#[]⟩)).setCell ⟨W.heap.size, 2, none⟩ (.int .i64 0)).setCell ⟨W.heap.size, 3, none⟩ (.int .i64 0)).setCell ⟨W.heap.size, 4, none⟩ (.int .i64 0)).setCell ⟨W.heap.size, 5, none⟩ (.int .i64 0)).setCell ⟨W.heap.size, 6, none⟩ (.int .i64 0))).heap[W.heap.size]? = some (.cells #[.string ⟨#[]⟩, .string ⟨#[]⟩, .int .i64 0, .int .i64 0, .int .i64 0, .int .i64 0, .int .i64 0] 86 (0, 0)) := st6
  refine bodyPost_ret (v := .tuple #[.agg #[.string ⟨#[]⟩, .string ⟨#[]⟩, .int .i64 0, .int .i64 0, .int .i64 0, .int .i64 0, .int .i64 0], .int .i64 6]) (by simp [results, Tryz.results150, go_sem, (cells_at (v := .string ⟨#[]⟩) (j := 0) hfin rfl).1, (cells_at (v := .string ⟨#[]⟩) (j := 1) hfin rfl).1, (cells_at (v := .int .i64 0) (j := 2) hfin rfl).1, (cells_at (v := .int .i64 0) (j := 3) hfin rfl).1, (cells_at (v := .int .i64 0) (j := 4) hfin rfl).1, (cells_at (v := .int .i64 0) (j := 5) hfin rfl).1, (cells_at (v := .int .i64 0) (j := 6) hfin rfl).1]) rfl ⟨⟨_, _, rfl, 0, 0, 0, 0, 0, ⟨#[]⟩, ⟨#[]⟩, rfl, ⟨by decide, by decide, by decide, by decide, by decide, by decide, by decide⟩, (fun h => by cases h), .inr ⟨rfl, HSP.out, rfl⟩⟩, ?_⟩
  exact ((((((((((Below.refl _ _).alloc (Nat.le_refl _) _).trans (hb1.mono (by simp)))).setCell (p := ⟨W.heap.size, 0, none⟩) (Nat.le_refl _) _).setCell (p := ⟨W.heap.size, 1, none⟩) (Nat.le_refl _) _).setCell (p := ⟨W.heap.size, 2, none⟩) (Nat.le_refl _) _).setCell (p := ⟨W.heap.size, 3, none⟩) (Nat.le_refl _) _).setCell (p := ⟨W.heap.size, 4, none⟩) (Nat.le_refl _) _).setCell (p := ⟨W.heap.size, 5, none⟩) (Nat.le_refl _) _).setCell (p := ⟨W.heap.size, 6, none⟩) (Nat.le_refl _) _
 | some ps =>
  obtain ⟨p0, p1, p2, p3, p4, p5, p6, hps⟩ : ∃ p0 p1 p2 p3 p4 p5 p6, ps = [p0, p1, p2, p3, p4, p5, p6] := by
   have hl := ((split_iff 6 d ps).1 hsp).2.2.2.len
   match ps, hl with
   | [p0, p1, p2, p3, p4, p5, p6], _ => exact ⟨_, _, _, _, _, _, _, rfl⟩
  subst hps
  obtain ⟨hT, z0, z1, z2, z3, z4, z5, z6⟩ := takeSoa_ok d p0 p1 p2 p3 p4 p5 p6 hsp
  rw [hsp] at HS
  clear hsp
  have HN2 := Hid.mk (number_in p2 z2)
  generalize numB p2.data.toList = m2 at HN2 hT
  have HN3 := Hid.mk (number_in p3 z3)
  generalize numB p3.data.toList = m3 at HN3 hT
  have HN4 := Hid.mk (number_in p4 z4)
  generalize numB p4.data.toList = m4 at HN4 hT
  have HN5 := Hid.mk (number_in p5 z5)
  generalize numB p5.data.toList = m5 at HN5 hT
  have HN6 := Hid.mk (number_in p6 z6)
  generalize numB p6.data.toList = m6 at HN6 hT
  have HT := Hid.mk hT
  clear hT
  go_enter Tryz.func150, Tryz.ntmps150
  go_wp2_with fail
  refine (HS.out _).mono ?_
  rintro e w1 ⟨⟨v, rfl, hrow⟩, hb1⟩
  obtain ⟨q, c, hv⟩ := row_as hrow
  subst hv
  obtain ⟨g, hq, _, _⟩ := row_cell hrow 0 (by simp)
  subst hq
  obtain ⟨_, _, hgb⟩ := row_frozen (j := 0) hrow (by simp)
  simp only [World.size_alloc] at hgb
  have hgne : g ≠ W.heap.size := by omega
  have hoff : ∀ (X : World) (j i : Nat) (v : Value), (X.setCell ⟨W.heap.size, j, none⟩ v).cell? ⟨g, i, none⟩ = X.cell? ⟨g, i, none⟩ := fun X j i v => by simp only [World.cell?, Below.heap_setCell X ⟨W.heap.size, j, none⟩ v g hgne]
  have hdr : ∀ (X : World) (i : Nat), X.drew.cell? ⟨g, i, none⟩ = X.cell? ⟨g, i, none⟩ := fun _ _ => rfl
  have r0 : w1.cell? ⟨g, 0, none⟩ = some (.string p0) := row_at hrow 0 p0 rfl
  have r1 : w1.cell? ⟨g, 1, none⟩ = some (.string p1) := row_at hrow 1 p1 rfl
  have r2 : w1.cell? ⟨g, 2, none⟩ = some (.string p2) := row_at hrow 2 p2 rfl
  have r3 : w1.cell? ⟨g, 3, none⟩ = some (.string p3) := row_at hrow 3 p3 rfl
  have r4 : w1.cell? ⟨g, 4, none⟩ = some (.string p4) := row_at hrow 4 p4 rfl
  have r5 : w1.cell? ⟨g, 5, none⟩ = some (.string p5) := row_at hrow 5 p5 rfl
  have r6 : w1.cell? ⟨g, 6, none⟩ = some (.string p6) := row_at hrow 6 p6 rfl
  have hbx := (hb1.block _ (by simp)).trans (heap_new W (.cells #[.string ⟨#[]⟩, .string ⟨#[]⟩, .int .i64 0, .int .i64 0, .int .i64 0, .int .i64 0, .int .i64 0] 86))
  obtain ⟨a0, f0⟩ := cells_at (v := .string ⟨#[]⟩) (j := 0) hbx rfl
  obtain ⟨a1, f1⟩ := cells_at (v := .string ⟨#[]⟩) (j := 1) hbx rfl
  obtain ⟨a2, f2⟩ := cells_at (v := .int .i64 0) (j := 2) hbx rfl
  obtain ⟨a3, f3⟩ := cells_at (v := .int .i64 0) (j := 3) hbx rfl
  obtain ⟨a4, f4⟩ := cells_at (v := .int .i64 0) (j := 4) hbx rfl
  obtain ⟨a5, f5⟩ := cells_at (v := .int .i64 0) (j := 5) hbx rfl
  obtain ⟨a6, f6⟩ := cells_at (v := .int .i64 0) (j := 6) hbx rfl
  have HBX := Hid.mk hbx
  have mk0 : True := trivial
  clear hbx hrow
  go_wp2
  go_region_held3 (fun w' => w'.cell? ⟨g, 0, none⟩ = some (.string p0) ∧ w'.cell? ⟨g, 1, none⟩ = some (.string p1) ∧ w'.cell? ⟨g, 2, none⟩ = some (.string p2) ∧ w'.cell? ⟨g, 3, none⟩ = some (.string p3) ∧ w'.cell? ⟨g, 4, none⟩ = some (.string p4) ∧ w'.cell? ⟨g, 5, none⟩ = some (.string p5) ∧ w'.cell? ⟨g, 6, none⟩ = some (.string p6)) (first | ((repeat' apply And.intro) <;> (first | (simp only [hoff, hdr]; with_reducible assumption) | with_reducible assumption)) | go_keep)
   (first | (have hck := mk4; clear hck; go_at_call 179; refine (HN6.out _).mono ?_; rintro e x5 ⟨rfl, rfl⟩; have mk5 : True := trivial) | (have hck := mk3; clear hck; go_at_call 179; refine (HN5.out _).mono ?_; rintro e x4 ⟨rfl, rfl⟩; have mk4 : True := trivial) | (have hck := mk2; clear hck; go_at_call 179; refine (HN4.out _).mono ?_; rintro e x3 ⟨rfl, rfl⟩; have mk3 : True := trivial) | (have hck := mk1; clear hck; go_at_call 179; refine (HN3.out _).mono ?_; rintro e x2 ⟨rfl, rfl⟩; have mk2 : True := trivial) | (have hck := mk0; clear hck; go_at_call 179; refine (HN2.out _).mono ?_; rintro e x1 ⟨rfl, rfl⟩; have mk1 : True := trivial))
  go_wp2
  have st0 : (w1.setCell ⟨W.heap.size, 0, none⟩ (.string p0)).heap[W.heap.size]? = some (.cells #[.string p0, .string ⟨#[]⟩, .int .i64 0, .int .i64 0, .int .i64 0, .int .i64 0, .int .i64 0] 86 (0, 0)) := cells_put (j := 0) HBX.out (.string p0)
  have st1 : ((w1.setCell ⟨W.heap.size, 0, none⟩ (.string p0)).setCell ⟨W.heap.size, 1, none⟩ (.string p1)).heap[W.heap.size]? = some (.cells #[.string p0, .string p1, .int .i64 0, .int .i64 0, .int .i64 0, .int .i64 0, .int .i64 0] 86 (0, 0)) := cells_put (j := 1) st0 (.string p1)
  have st2 : (((w1.setCell ⟨W.heap.size, 0, none⟩ (.string p0)).setCell ⟨W.heap.size, 1, none⟩ (.string p1)).setCell ⟨W.heap.size, 2, none⟩ (.int .i64 ((m2 : Nat) : Int))).heap[W.heap.size]? = some (.cells #[.string p0, .string p1, .int .i64 ((m2 : Nat) : Int), .int .i64 0, .int .i64 0, .int .i64 0, .int .i64 0] 86 (0, 0)) := cells_put (j := 2) st1 (.int .i64 ((m2 : Nat) : Int))
  have st3 : ((((w1.setCell ⟨W.heap.size, 0, none⟩ (.string p0)).setCell ⟨W.heap.size, 1, none⟩ (.string p1)).setCell ⟨W.heap.size, 2, none⟩ (.int .i64 ((m2 : Nat) : Int))).setCell ⟨W.heap.size, 3, none⟩ (.int .i64 ((m3 : Nat) : Int))).heap[W.heap.size]? = some (.cells #[.string p0, .string p1, .int .i64 ((m2 : Nat) : Int), .int .i64 ((m3 : Nat) : Int), .int .i64 0, .int .i64 0, .int .i64 0] 86 (0, 0)) := cells_put (j := 3) st2 (.int .i64 ((m3 : Nat) : Int))
  have st4 : (((((w1.setCell ⟨W.heap.size, 0, none⟩ (.string p0)).setCell ⟨W.heap.size, 1, none⟩ (.string p1)).setCell ⟨W.heap.size, 2, none⟩ (.int .i64 ((m2 : Nat) : Int))).setCell ⟨W.heap.size, 3, none⟩ (.int .i64 ((m3 : Nat) : Int))).setCell ⟨W.heap.size, 4, none⟩ (.int .i64 ((m4 : Nat) : Int))).heap[W.heap.size]? = some (.cells #[.string p0, .string p1, .int .i64 ((m2 : Nat) : Int), .int .i64 ((m3 : Nat) : Int), .int .i64 ((m4 : Nat) : Int), .int .i64 0, .int .i64 0] 86 (0, 0)) := cells_put (j := 4) st3 (.int .i64 ((m4 : Nat) : Int))
  have st5 : ((((((w1.setCell ⟨W.heap.size, 0, none⟩ (.string p0)).setCell ⟨W.heap.size, 1, none⟩ (.string p1)).setCell ⟨W.heap.size, 2, none⟩ (.int .i64 ((m2 : Nat) : Int))).setCell ⟨W.heap.size, 3, none⟩ (.int .i64 ((m3 : Nat) : Int))).setCell ⟨W.heap.size, 4, none⟩ (.int .i64 ((m4 : Nat) : Int))).setCell ⟨W.heap.size, 5, none⟩ (.int .i64 ((m5 : Nat) : Int))).heap[W.heap.size]? = some (.cells #[.string p0, .string p1, .int .i64 ((m2 : Nat) : Int), .int .i64 ((m3 : Nat) : Int), .int .i64 ((m4 : Nat) : Int), .int .i64 ((m5 : Nat) : Int), .int .i64 0] 86 (0, 0)) := cells_put (j := 5) st4 (.int .i64 ((m5 : Nat) : Int))
  have st6 : (((((((w1.setCell ⟨W.heap.size, 0, none⟩ (.string p0)).setCell ⟨W.heap.size, 1, none⟩ (.string p1)).setCell ⟨W.heap.size, 2, none⟩ (.int .i64 ((m2 : Nat) : Int))).setCell ⟨W.heap.size, 3, none⟩ (.int .i64 ((m3 : Nat) : Int))).setCell ⟨W.heap.size, 4, none⟩ (.int .i64 ((m4 : Nat) : Int))).setCell ⟨W.heap.size, 5, none⟩ (.int .i64 ((m5 : Nat) : Int))).setCell ⟨W.heap.size, 6, none⟩ (.int .i64 ((m6 : Nat) : Int))).heap[W.heap.size]? = some (.cells #[.string p0, .string p1, .int .i64 ((m2 : Nat) : Int), .int .i64 ((m3 : Nat) : Int), .int .i64 ((m4 : Nat) : Int), .int .i64 ((m5 : Nat) : Int), .int .i64 ((m6 : Nat) : Int)] 86 (0, 0)) := cells_put (j := 6) st5 (.int .i64 ((m6 : Nat) : Int))
  have hfin : ((((((((w1.setCell ⟨W.heap.size, 0, none⟩ (.string p0)).setCell ⟨W.heap.size, 1, none⟩ (.string p1)).setCell ⟨W.heap.size, 2, none⟩ (.int .i64 ((m2 : Nat) : Int))).setCell ⟨W.heap.size, 3, none⟩ (.int .i64 ((m3 : Nat) : Int))).setCell ⟨W.heap.size, 4, none⟩ (.int .i64 ((m4 : Nat) : Int))).setCell ⟨W.heap.size, 5, none⟩ (.int .i64 ((m5 : Nat) : Int))).setCell ⟨W.heap.size, 6, none⟩ (.int .i64 ((m6 : Nat) : Int)))).drew.heap[W.heap.size]? = some (.cells #[.string p0, .string p1, .int .i64 ((m2 : Nat) : Int), .int .i64 ((m3 : Nat) : Int), .int .i64 ((m4 : Nat) : Int), .int .i64 ((m5 : Nat) : Int), .int .i64 ((m6 : Nat) : Int)] 86 (0, 0)) := by rw [heap_drew]; exact st6
  refine bodyPost_ret (v := .tuple #[.agg #[.string p0, .string p1, .int .i64 ((m2 : Nat) : Int), .int .i64 ((m3 : Nat) : Int), .int .i64 ((m4 : Nat) : Int), .int .i64 ((m5 : Nat) : Int), .int .i64 ((m6 : Nat) : Int)], .int .i64 0]) (by simp [results, Tryz.results150, go_sem, (cells_at (v := .string p0) (j := 0) hfin rfl).1, (cells_at (v := .string p1) (j := 1) hfin rfl).1, (cells_at (v := .int .i64 ((m2 : Nat) : Int)) (j := 2) hfin rfl).1, (cells_at (v := .int .i64 ((m3 : Nat) : Int)) (j := 3) hfin rfl).1, (cells_at (v := .int .i64 ((m4 : Nat) : Int)) (j := 4) hfin rfl).1, (cells_at (v := .int .i64 ((m5 : Nat) : Int)) (j := 5) hfin rfl).1, (cells_at (v := .int .i64 ((m6 : Nat) : Int)) (j := 6) hfin rfl).1]) rfl ⟨⟨_, _, rfl, HT.out⟩, ?_⟩
  exact (((((((((((Below.refl _ _).alloc (Nat.le_refl _) _).trans (hb1.mono (by simp)))).setCell (p := ⟨W.heap.size, 0, none⟩) (Nat.le_refl _) _).setCell (p := ⟨W.heap.size, 1, none⟩) (Nat.le_refl _) _).setCell (p := ⟨W.heap.size, 2, none⟩) (Nat.le_refl _) _).setCell (p := ⟨W.heap.size, 3, none⟩) (Nat.le_refl _) _).setCell (p := ⟨W.heap.size, 4, none⟩) (Nat.le_refl _) _).setCell (p := ⟨W.heap.size, 5, none⟩) (Nat.le_refl _) _).setCell (p := ⟨W.heap.size, 6, none⟩) (Nat.le_refl _) _).drew
end Go.Proofs.YtikjepodmdaknaaGreatDoor
/- Layer 17: what is kept of answers, as lists. Facts alone. -/
namespace Go.Proofs.YtikjepodmdaknaaGreatDoor.Mc
open Go.RowKit
open Go.Proofs.YtikjepodmdaknaaGreatDoor.Rc (Ky AL Ev foundA getA toldE timB over getR without putR tim_iff found_is over_lt SvI EvI getR_mem mem_without setOk_tl told_ok setOk_nm)
structure Lk where
 k : Ky
 ve : Int
structure Kn where
 rc : Int
 se : Int
 un : Int
 a : List Lk
 b : List Lk
abbrev KL := List (Ky × Kn)
noncomputable def fndA (now : Int) : AL → List Ky → List Lk → Int → AL × Option (List Lk × Int)
 | A, [], ls, t => (A, some (ls, t))
 | A, k :: ks, ls, t => match foundA A k now with
  | none => (getA A k now, none)
  | some x => fndA now (getA A k now) ks (ls ++ [⟨k, x.ve⟩]) (min t (toldE x now).s.tl)
def tellS (x : Ev) (now un : Int) : Sv := { (toldE x now).s with tl := min (toldE x now).s.tl (un - now) }
noncomputable def folA (now un : Int) : AL → List Lk → List Sv → AL × Option (List Sv)
 | A, [], ss => (A, some ss)
 | A, l :: ls, ss => match foundA A (Rc.keyS l.k.1 l.k.2) now with
  | none => (getA A (Rc.keyS l.k.1 l.k.2) now, none)
  | some x => if x.ve = l.ve then folA now un (getA A (Rc.keyS l.k.1 l.k.2) now) ls (ss ++ [tellS x now un]) else (getA A (Rc.keyS l.k.1 l.k.2) now, none)
def denB (l : List Sv) (kind : Int) : Bool := match l.getLast? with
 | none => true
 | some s => !decide (kind = 255) && !decide (s.ty = kind)
noncomputable def minD (d : ByteArray) : Option Int := match splitR 6 d with
 | some [_, _, _, _, _, _, p] => some ((numB p.data.toList : Nat) : Int)
 | _ => none
noncomputable def minM (l : List Sv) : Int := match l.find? (fun s => decide (s.ty = 6)) with
 | none => 5
 | some s => match s.ds with
  | [] => 5
  | d :: _ => (minD d).getD 5
structure Qn where
 nm : ByteArray
 ty : Int
 cl : Int
structure An where
 rc : Int
 se : Int
 a : List Sv
 b : List Sv
 un : Int
noncomputable def keysOf (l : List Sv) : List Ky := l.map fun s => Rc.keyS s.nm s.ty
def endN (now t un : Int) : Int := if un = 0 then now + t else min (now + t) un
noncomputable def lrnA (A : AL) (kind : Int) (x : An) (now : Int) : AL × Option Kn :=
 match fndA now A (keysOf x.a) [] 604800 with
 | (A1, none) => (A1, none)
 | (A1, some (ls, t1)) => match fndA now A1 (keysOf x.b) [] t1 with
  | (A2, none) => (A2, none)
  | (A2, some (ms, t2)) => (A2, some ⟨x.rc, x.se, endN now (if denB x.a kind then min t2 (minM x.b) else t2) x.un, ls, ms⟩)
noncomputable def qOk (q : Qn) : Bool := decide (q.cl = 1) && decide (0 ≤ q.ty ∧ q.ty ≤ 65535) && isN q.nm
def aOk (x : An) : Bool := (decide (x.rc = 0) || decide (x.rc = 3)) && decide (0 ≤ x.se) && decide (x.se ≤ 3) && decide (x.a.length ≤ 20) && decide (x.b.length ≤ 20)
noncomputable def pOk (q : Qn) (x : An) (now : Int) : Bool := qOk q && aOk x && timB now
noncomputable def putA (m : Nat) (A : AL) (L : KL) (q : Qn) (x : An) (now : Int) : AL × KL × Bool :=
 match lrnA A q.ty x now with
 | (A1, none) => (A1, without L (Rc.keyS q.nm q.ty), false)
 | (A1, some y) => if y.un ≤ now then (A1, without L (Rc.keyS q.nm q.ty), false) else (A1, putR m L (Rc.keyS q.nm q.ty) y, true)
noncomputable def telA (A : AL) (y : Kn) (now : Int) : AL × Option An :=
 if y.un ≤ now then (A, none) else match folA now y.un A y.a [] with
 | (A1, none) => (A1, none)
 | (A1, some ss) => match folA now y.un A1 y.b [] with
  | (A2, none) => (A2, none)
  | (A2, some ts) => (A2, some ⟨y.rc, y.se, ss, ts, y.un⟩)
noncomputable def gotA (A : AL) (L : KL) (q : Qn) (now : Int) : AL × KL × Option An :=
 if timB now = true then match getR L (Rc.keyS q.nm q.ty) with
 | none => (A, L, none)
 | some y => match telA A y now with
  | (A1, none) => (A1, without L (Rc.keyS q.nm q.ty), none)
  | (A1, some x) => (A1, (Rc.keyS q.nm q.ty, y) :: without L (Rc.keyS q.nm q.ty), some x)
 else (A, L, none)
theorem fndA_len {now : Int} : ∀ {ks : List Ky} {A A' : AL} {ls ls' : List Lk} {t t' : Int}, fndA now A ks ls t = (A', some (ls', t')) → ls'.length = ls.length + ks.length
 | [], A, A', ls, ls', t, t', h => by
  unfold fndA at h
  cases h
  simp
 | k :: ks, A, A', ls, ls', t, t', h => by
  unfold fndA at h
  split at h
  ·cases h
  ·have := fndA_len h
   simp at this ⊢
   omega
theorem join_split {k : Int} {ps : List ByteArray} {d : ByteArray} (h : joinR k (some ps) = some d) : splitR k d = some ps := by
 rw [joinR] at h
 split at h
 ·rename_i hs
  rw [← Option.some.inj h]
  exact hs
 ·cases h
theorem num_b4 (n : Nat) (h : n < 4294967296) : numB (⟨(bytesB n 4).toArray⟩ : ByteArray).data.toList = n := by
 rw [bytesB4]
 simp [numB]
 omega
theorem take_min {d : ByteArray} {v : Value} {er : Int} (h : TakeSoa d v er) : ∃ (s0 s1 : ByteArray) (n2 n3 n4 n5 n6 : Int), v = .agg #[.string s0, .string s1, .int .i64 n2, .int .i64 n3, .int .i64 n4, .int .i64 n5, .int .i64 n6] ∧ (0 ≤ n6 ∧ n6 < 4294967296) ∧ ((er = 0 ∧ minD d = some n6) ∨ (er = 6 ∧ minD d = none)) := by
 obtain ⟨n2, n3, n4, n5, n6, s0, s1, hv, ⟨_, _, _, _, _, _, h6⟩, hj, her⟩ := h
 refine ⟨s0, s1, n2, n3, n4, n5, n6, hv, by omega, ?_⟩
 rcases her with rfl | ⟨rfl, hs, _⟩
 ·refine .inl ⟨rfl, ?_⟩
  have := join_split (hj rfl)
  unfold minD
  rw [this]
  show some ((numB (⟨(bytesB n6 4).toArray⟩ : ByteArray).data.toList : Nat) : Int) = _
  rw [num_b4 n6 h6]
 ·refine .inr ⟨rfl, ?_⟩
  unfold minD
  rw [hs]
theorem minD_ge {d : ByteArray} {m : Int} (h : minD d = some m) : 0 ≤ m := by
 unfold minD at h
 split at h
 ·cases h
  omega
 ·cases h
theorem minM_ge (l : List Sv) : 0 ≤ minM l := by
 unfold minM
 split
 ·omega
 ·split
  ·omega
  ·rename_i d _ _
   cases h : minD d with
   | none => show (0 : Int) ≤ 5; omega
   | some m => exact minD_ge h
def rz : ByteArray := ⟨#[0]⟩
def soaP (m : Nat) : List ByteArray := [rz, rz, ⟨(bytesB 0 4).toArray⟩, ⟨(bytesB 0 4).toArray⟩, ⟨(bytesB 0 4).toArray⟩, ⟨(bytesB 0 4).toArray⟩, ⟨(bytesB m 4).toArray⟩]
noncomputable def soaD (m : Nat) : ByteArray := strOf (joinR 6 (some (soaP m)))
theorem rz_nm : rz = Go.Proofs.YtikjepodmdaknaaGreatDoor.nm [] := rfl
theorem rz_ok : OkN ([] : List (List UInt8)) := ⟨by decide, by decide⟩
theorem rz_is : IsName rz := ⟨[], rz_ok, rfl⟩
theorem soaP_ok (m : Nat) : splitR 6 (cat (soaP m)) = some (soaP m) := by
 have h4 : ∀ n, (⟨(bytesB n 4).toArray⟩ : ByteArray).size = 4 := fun n => by rw [ba_size, bytesB_len]
 refine (split_iff 6 _ _).2 ⟨by omega, ?_, rfl, ?_⟩
 ·unfold soaP
  simp only [cat, app_size, h4]
  have : rz.size = 1 := rfl
  have h0 : (⟨#[]⟩ : ByteArray).size = 0 := rfl
  omega
 ·have : formOf 6 = [.name, .name, .num 4, .num 4, .num 4, .num 4, .num 4] := rfl
  rw [this]
  exact ⟨rz_is, rz_is, h4 0, h4 0, h4 0, h4 0, h4 m, trivial⟩
theorem soa_join (m : Nat) : joinR 6 (some (soaP m)) = some (cat (soaP m)) := by
 rw [joinR]
 exact if_pos (soaP_ok m)
theorem soaD_eq (m : Nat) : soaD m = cat (soaP m) := by unfold soaD; rw [soa_join]; rfl
theorem soaD_min (m : Nat) (h : m < 4294967296) : minD (soaD m) = some (m : Int) := by
 rw [soaD_eq]
 unfold minD
 rw [soaP_ok]
 show some ((numB (⟨(bytesB m 4).toArray⟩ : ByteArray).data.toList : Nat) : Int) = _
 rw [num_b4 m h]
theorem soaD_rt (m : Nat) : dRt 6 (soaD m) = true := by
 unfold dRt
 rw [soaD_eq, soaP_ok]
 rfl
theorem soaD_size (m : Nat) : (soaD m).size ≤ 2000 := by
 have := soaP_ok m
 rw [← soaD_eq] at this
 exact ((split_iff _ _ _).1 this).2.1
noncomputable def soaS (m : Nat) (t : Int) : Sv := ⟨rz, 6, 1, t, [soaD m], []⟩
theorem soaS_ok (m : Nat) {t : Int} (h0 : 0 ≤ t) (h1 : t < 2147483648) : setOk (soaS m t) = true := by
 have hb : setOk (soaS m 10) = true := by
  unfold setOk headOk datOk sigOk soaS lowsS
  simp only [isN_yes rz_is, List.all_cons, List.all_nil, soaD_rt]
  rfl
 exact setOk_tl hb h0 h1
theorem soaS_in (m : Nat) {t : Int} (h0 : 0 ≤ t) (h1 : t < 2147483648) : SvI (soaS m t) := by
 refine ⟨⟨?_, ?_, ?_⟩, ?_, ?_, ?_⟩
 ·show (1 : Nat) ≤ maxLen
  decide
 ·intro d hd
  obtain rfl : d = soaD m := by simpa [soaS] using hd
  have := soaD_size m
  unfold maxLen
  omega
 ·intro d hd
  cases hd
 ·show I64 6
  unfold I64; omega
 ·show I64 1
  unfold I64; omega
 ·show I64 t
  unfold I64; omega
def kz : Ky := (rz, 6)
theorem key_z : Rc.keyS rz 6 = kz := by
 unfold Rc.keyS
 rw [rz_nm, lowF_nm rz_ok]
 rfl
end Go.Proofs.YtikjepodmdaknaaGreatDoor.Mc
/- Layer 17's table: a place put into the row, taken out of it. -/
namespace Go.Proofs.YtikjepodmdaknaaGreatDoor.Mc
open Go.RowKit
open Go.Proofs.YtikjepodmdaknaaGreatDoor.Rc (pt nilP Ky kV k0)
structure Vl where
 rc : Int
 se : Int
 un : Int
 q1 : Option Addr
 n1 : Nat
 c1 : Nat
 q2 : Option Addr
 n2 : Nat
 c2 : Nat
abbrev vC (v : Vl) : List Value := [.int .i64 v.rc, .int .i64 v.se, .slice none 0 0, .slice none 0 0, .int .i64 v.un, .slice v.q1 v.n1 v.c1, .slice v.q2 v.n2 v.c2]
abbrev vV (v : Vl) : Value := .agg (vC v).toArray
abbrev v0 : Value := .agg #[.int .i64 0, .int .i64 0, .slice none 0 0, .slice none 0 0, .int .i64 0, .slice none 0 0, .slice none 0 0]
set_option maxRecDepth 100000 in
set_option maxHeartbeats 1000000 in
theorem push_in (w : World) (T E F p : Nat) (c : Int) (x y z : Value)
  (hT1 : w.cell? ⟨T, 1, none⟩ = some (pt E)) (hT2 : w.cell? ⟨T, 2, none⟩ = some (.int .i64 c))
  (hE3 : w.cell? ⟨E, 10, none⟩ = some (pt F)) (hF2 : w.cell? ⟨F, 9, none⟩ = some x)
  (hp2 : w.cell? ⟨p, 9, none⟩ = some y) (hp3 : w.cell? ⟨p, 10, none⟩ = some z)
  (fT : w.frozen? ⟨T, 2, none⟩ = false) (fE : w.frozen? ⟨E, 10, none⟩ = false) (fF : w.frozen? ⟨F, 9, none⟩ = false) (fp2 : w.frozen? ⟨p, 9, none⟩ = false) (fp3 : w.frozen? ⟨p, 10, none⟩ = false)
  (hpE : ¬ p = E) (hpF : ¬ p = F) (hpT : ¬ p = T) (hTE : ¬ T = E) (hTF : ¬ T = F) (hc : c < 1000000) (hc0 : 0 ≤ c) :
  Calls Tryz.prog 153 #[.pointer (some ⟨T, 1, none⟩), pt p] w fun e w' => e = .returned (.tuple #[]) ∧
   w' = ((((((w.setCell ⟨p, 9, none⟩ (pt E)).setCell ⟨p, 10, none⟩ (pt F)).setCell ⟨E, 10, none⟩ (pt p)).setCell ⟨F, 9, none⟩ (pt p)).setCell ⟨T, 2, none⟩ (.int .i64 (c + 1))).drew).drew := by
 have hEp : ¬ E = p := fun e => hpE e.symm
 have hFp : ¬ F = p := fun e => hpF e.symm
 have hTp : ¬ T = p := fun e => hpT e.symm
 have hET : ¬ E = T := fun e => hTE e.symm
 have hFT : ¬ F = T := fun e => hTF e.symm
 go_enter Tryz.func153, Tryz.ntmps153
 go_wp2
 go_region
 go_wp2
 go_region
 go_wp2
 go_end0
 exact ⟨rfl, rfl⟩
set_option maxRecDepth 100000 in
set_option maxHeartbeats 1000000 in
theorem take_in (w : World) (T N O p : Nat) (c : Int) (x y : Value)
  (hT2 : w.cell? ⟨T, 2, none⟩ = some (.int .i64 c))
  (hp2 : w.cell? ⟨p, 9, none⟩ = some (pt N)) (hp3 : w.cell? ⟨p, 10, none⟩ = some (pt O))
  (hN3 : w.cell? ⟨N, 10, none⟩ = some x) (hO2 : w.cell? ⟨O, 9, none⟩ = some y)
  (fT : w.frozen? ⟨T, 2, none⟩ = false) (fN : w.frozen? ⟨N, 10, none⟩ = false) (fO : w.frozen? ⟨O, 9, none⟩ = false) (fp2 : w.frozen? ⟨p, 9, none⟩ = false) (fp3 : w.frozen? ⟨p, 10, none⟩ = false)
  (hpN : ¬ p = N) (hpO : ¬ p = O) (hpT : ¬ p = T) (hTN : ¬ T = N) (hTO : ¬ T = O) (hc : c < 1000000) (hc0 : 1 ≤ c) :
  Calls Tryz.prog 152 #[.pointer (some ⟨T, 1, none⟩), pt p] w fun e w' => e = .returned (.tuple #[]) ∧
   w' = (((((w.setCell ⟨N, 10, none⟩ (pt O)).setCell ⟨O, 9, none⟩ (pt N)).setCell ⟨p, 9, none⟩ nilP).setCell ⟨p, 10, none⟩ nilP).setCell ⟨T, 2, none⟩ (.int .i64 (c - 1))).drew := by
 have hNp : ¬ N = p := fun e => hpN e.symm
 have hOp : ¬ O = p := fun e => hpO e.symm
 have hTp : ¬ T = p := fun e => hpT e.symm
 have hNT : ¬ N = T := fun e => hTN e.symm
 have hOT : ¬ O = T := fun e => hTO e.symm
 go_enter Tryz.func152, Tryz.ntmps152
 go_wp2
 go_region
 go_wp2
 go_end0
 exact ⟨rfl, rfl⟩
theorem last_in (w : World) (T E O : Nat) (hT1 : w.cell? ⟨T, 1, none⟩ = some (pt E)) (hE2 : w.cell? ⟨E, 9, none⟩ = some (pt O)) :
  Calls Tryz.prog 113 #[.pointer (some ⟨T, 1, none⟩)] w fun e w' => e = .returned (pt O) ∧ w' = w := by
 go_enter Tryz.func113, Tryz.ntmps113
 go_wp2
 go_ret
 exact ⟨rfl, rfl⟩
theorem len_in (w : World) (T : Nat) (c : Int) (hT2 : w.cell? ⟨T, 2, none⟩ = some (.int .i64 c)) :
  Calls Tryz.prog 79 #[pt T] w fun e w' => e = .returned (.int .i64 c) ∧ w' = w := by
 go_enter Tryz.func79, Tryz.ntmps79
 go_wp2
 go_ret
 exact ⟨rfl, rfl⟩
theorem sizeRow : (Tryz.prog.info? 183).map (·.size) = some 2 := by kernel_rfl
theorem results_row {fn : Func} {p : Tmp} (h : fn.results = #[.cell p 183]) {tmps : Array Value} {W : World} {b : Nat} {x y : Value} (hp : tmps.getD p undef = .pointer (some ⟨b, 0, none⟩)) (hb : W.heap[b]? = some (.cells #[x, y] 183 (0, 0))) : (results fn tmps).run Tryz.prog W = .ok (.agg #[x, y]) W := by
 have hp' : tmps[p]?.getD undef = .pointer (some ⟨b, 0, none⟩) := by simpa using hp
 have hl : (loadVar 183 ⟨b, 0, none⟩).run Tryz.prog W = .ok (.agg #[x, y]) W := run_loadVar_row W b _ _ _ (0, 0) _ hb Tryz.underlying183 rfl sizeRow
 simp only [results, h]
 simp [hp', asAddr, hl]
theorem emptyRow_in (w : World) :
  Calls Tryz.prog 103 #[] w fun e w' => e = .returned (.agg #[pt (w.heap.size + 1), .int .i64 0]) ∧
   w' = (w.alloc (.cells #[pt (w.heap.size + 1), .int .i64 0] 183)).alloc (.cells #[.string ⟨#[]⟩, .int .i64 0, .int .i64 0, .int .i64 0, .slice none 0 0, .slice none 0 0, .int .i64 0, .slice none 0 0, .slice none 0 0, pt (w.heap.size + 1), pt (w.heap.size + 1)] 197) := by
 go_enter Tryz.func103, Tryz.ntmps103
 go_wp2
 refine bodyPost_ret (results_row Tryz.results103 rfl ?_) rfl ⟨rfl, rfl⟩
 rw [Below.heap_alloc _ _ _ (by simp)]
 show (w.heap.push _)[w.heap.size]? = _
 simp
theorem new_no (w : World) (m : Int) (h : m < 1 ∨ 100000 < m) :
  Calls Tryz.prog 61 #[.int .i64 m] w fun e w' => e = .returned (.tuple #[nilP, .int .i64 1]) ∧ w' = w := by
 by_cases h1 : m < 1
 ·go_enter Tryz.func61, Tryz.ntmps61
  go_wp2
  go_ret2
  exact ⟨rfl, rfl⟩
 ·have h2 : 100000 < m := by omega
  go_enter Tryz.func61, Tryz.ntmps61
  go_wp2
  go_ret2
  exact ⟨rfl, rfl⟩
theorem new_in (w : World) (m : Int) (h1 : ¬ m < 1) (h2 : ¬ 100000 < m) :
  Calls Tryz.prog 61 #[.int .i64 m] w fun e w' => e = .returned (.tuple #[pt (w.heap.size + 3), .int .i64 0]) ∧
   w' = ((((w.alloc (.cells #[pt (w.heap.size + 1), .int .i64 0] 183)).alloc (.cells #[.string ⟨#[]⟩, .int .i64 0, .int .i64 0, .int .i64 0, .slice none 0 0, .slice none 0 0, .int .i64 0, .slice none 0 0, .slice none 0 0, pt (w.heap.size + 1), pt (w.heap.size + 1)] 197)).alloc (.map #[] 0)).alloc
    (.cells #[.int .i64 m, pt (w.heap.size + 1), .int .i64 0, .map (some (w.heap.size + 2))] 187)) := by
 have hmm := @run_makeMap Tryz.prog
 go_enter Tryz.func61, Tryz.ntmps61
 go_wp2_with fail
 refine (emptyRow_in _).mono ?_
 rintro e w1 ⟨rfl, rfl⟩
 go_wp2
 go_ret2
 exact ⟨rfl, rfl⟩
end Go.Proofs.YtikjepodmdaknaaGreatDoor.Mc
/- Layer 17's table: a key is looked up. -/
namespace Go.Proofs.YtikjepodmdaknaaGreatDoor.Mc
open Go.RowKit
open Go.Proofs.YtikjepodmdaknaaGreatDoor.Rc (pt nilP Ky kV k0)
theorem catch_idle (p q : Value) (w : World) :
  CallsD Tryz.prog 151 #[p, q] .returning w fun e u' w' => e = .returned (.tuple #[]) ∧ u' = .returning ∧ w' = w := by
 refine callsD_of_wpS Tryz.func151 rfl fun c₀ cs hu => ?_
 apply wpS_seq
 apply wpS_region
 simp [wpOpsS, go_sem, recoverD, hu, Tryz.ntmps151, Exit.thenS]
 refine wpS_cond (t := false) (by simp [Act.eval, Array.replicate]) ?_
 simp only [Bool.false_eq_true, if_false]
 refine wpS_of_wp (wp_skip ?_)
 cases c₀
 simp_all [bodyPostS, results, Tryz.results151]
theorem find_in (w : World) (T M : Nat) (k : Ky) (a : Option Addr) (hT3 : w.cell? ⟨T, 3, none⟩ = some (.map (some M))) (hTl : T < w.heap.size)
  (hL : ∀ o0 o1 o2 : Obj, (Instr.lookup 185 (.map (some M)) (kV k) false).run Tryz.prog (((w.alloc o0).alloc o1).alloc o2).drew = .ok (.pointer a) (((w.alloc o0).alloc o1).alloc o2).drew) :
  Calls Tryz.prog 109 #[pt T, kV k] w fun e w' => e = .returned (.tuple #[.pointer a, .bool true]) ∧ w' = (((w.alloc (.cells #[.string k.1, .int .i64 k.2] 121)).alloc (.cells #[.pointer a] 181)).alloc (.cells #[.bool true] 4)).drew := by
 have hmf : ∀ (fn : Fn) (first cap : Array Value) (w : World), (Instr.makeFunc fn first cap).run Tryz.prog w = .ok (.func fn first cap) w := fun _ _ _ _ => rfl
 have hc3 : ∀ o0 o1 o2 : Obj, (((w.alloc o0).alloc o1).alloc o2).cell? ⟨T, 3, none⟩ = some (.map (some M)) := fun o0 o1 o2 => (((((Below.refl _ _).alloc (Nat.le_refl _) _).alloc (by simp) _).alloc (by simp; omega) _).cell (p := ⟨T, 3, none⟩) hTl).trans hT3
 have hc3' := hc3 (.cells #[.string k.1, .int .i64 k.2] 121) (.cells #[.pointer none] 181) (.cells #[.bool false] 4)
 clear hc3
 go_enter_defers Tryz.func109, Tryz.ntmps109
 go_wp2
 go_region
 go_wp2
 refine leaves_cons (f := 151) (args := #[.pointer (some ⟨w.heap.size + 1, 0, none⟩), .pointer (some ⟨w.heap.size + 1 + 1, 0, none⟩)]) (by simp) (by simp [go_sem]) ?_
 refine (catch_idle _ _ _).mono ?_
 rintro e u' w'' ⟨rfl, rfl, rfl⟩
 simp [Leaves, settle, results, Tryz.results109, go_sem]
end Go.Proofs.YtikjepodmdaknaaGreatDoor.Mc
