/- Texts of this proof, joined: DKey, DNsec, DRefNsec. -/
import Derived.Deep.RegionHeld3
import Derived.Test.YtdhcbaennpediaaGreatDoorJ13
import Derived.Test.YtdhcbaennpediaaGreatDoorJ5
import Derived.Test.YtdhcbaennpediaaGreatDoorJ8
/- DNSKEY: taken apart, and put together. -/
namespace Go.Proofs.YtdhcbaennpediaaGreatDoor
set_option linter.unusedVariables false
open Go.RowKit

theorem row_lit (W : World) (ps : List ByteArray) (h : ps.length ≤ maxLen) (h0 : 0 < ps.length) : (W.alloc (.cells (baV ps).toArray 9)).ownsRow W.heap.size 9 1 (.slice (some ⟨W.heap.size, 0, none⟩) ps.length ps.length) ps.length (baV ps) := by
  refine ⟨by simp [baV], .inr ⟨W.heap.size, ps.length, (baV ps).toArray, rfl, Nat.le_refl _, heap_new _ _, Nat.le_refl _, h, by simp [baV], ?_⟩⟩
  rw [Nat.mul_one, List.toList_toArray, List.take_of_length_le (by simp [baV])]

set_option maxRecDepth 100000 in
set_option maxHeartbeats 4000000 in
theorem putKey_in (n0 n1 n2 : Nat) (s3 : ByteArray) (h0 : n0 < 65536) (h1 : n1 < 256) (h2 : n2 < 256) (h3 : s3.size ≤ 2000) (W : World) (xb : Nat) (hx : W.heap[xb]? = some (.cells #[.int .i64 ((n0 : Nat) : Int), .int .i64 ((n1 : Nat) : Int), .int .i64 ((n2 : Nat) : Int), .string s3] 37 (0, 0))) :
    Calls Tryz.prog 52 #[boxV xb] W fun e w' => PutPost (some [⟨(bytesB n0 2).toArray⟩, ⟨(bytesB n1 1).toArray⟩, ⟨(bytesB n2 1).toArray⟩, s3]) W e w' := by
  have hmo : Tryz.prog.follows Departure.mixedOrders = true := by kernel_rfl
  have HL : Hid (∀ (G : Prop) (A B : World), A.heap[xb]? = some (.cells #[.int .i64 ((n0 : Nat) : Int), .int .i64 ((n1 : Nat) : Int), .int .i64 ((n2 : Nat) : Int), .string s3] 37 (0, 0)) → Below W.heap.size W A → Below A.heap.size A B → (B.heap[xb]? = some (.cells #[.int .i64 ((n0 : Nat) : Int), .int .i64 ((n1 : Nat) : Int), .int .i64 ((n2 : Nat) : Int), .string s3] 37 (0, 0)) → Below W.heap.size W B → B.cell? ⟨xb, 0, none⟩ = some (.int .i64 ((n0 : Nat) : Int)) → B.cell? ⟨xb, 1, none⟩ = some (.int .i64 ((n1 : Nat) : Int)) → B.cell? ⟨xb, 2, none⟩ = some (.int .i64 ((n2 : Nat) : Int)) → B.cell? ⟨xb, 3, none⟩ = some (.string s3) → G) → G) := by
    intro G A B hA hW hB hG
    have hB' := (hB.block xb (box_lt hA)).trans hA
    exact hG hB' (bth hW hB hW.size) (cells_at hB' rfl).1 (cells_at hB' rfl).1 (cells_at hB' rfl).1 (cells_at hB' rfl).1
  have c0 := (cells_at (v := .int .i64 ((n0 : Nat) : Int)) (j := 0) hx rfl).1
  have c1 := (cells_at (v := .int .i64 ((n1 : Nat) : Int)) (j := 1) hx rfl).1
  have c2 := (cells_at (v := .int .i64 ((n2 : Nat) : Int)) (j := 2) hx rfl).1
  have c3 := (cells_at (v := .string s3) (j := 3) hx rfl).1
  have HB0 := Hid.mk (bytes2_yes n0 h0)
  generalize (⟨(bytesB n0 2).toArray⟩ : ByteArray) = q0 at HB0 ⊢
  have HB1 := Hid.mk (bytes1_yes n1 h1)
  generalize (⟨(bytesB n1 1).toArray⟩ : ByteArray) = q1 at HB1 ⊢
  have HB2 := Hid.mk (bytes1_yes n2 h2)
  generalize (⟨(bytesB n2 1).toArray⟩ : ByteArray) = q2 at HB2 ⊢
  have X0 : W.drew.heap[xb]? = some (.cells #[.int .i64 ((n0 : Nat) : Int), .int .i64 ((n1 : Nat) : Int), .int .i64 ((n2 : Nat) : Int), .string s3] 37 (0, 0)) := hx
  have B0 : Below W.heap.size W W.drew := (Below.refl _ _).drew
  clear hx
  go_enter Tryz.func52, Tryz.ntmps52
  go_wp2
  go_region_held3 (fun w' => w'.cell? ⟨xb, 0, none⟩ = some (.int .i64 ((n0 : Nat) : Int)) ∧ w'.cell? ⟨xb, 1, none⟩ = some (.int .i64 ((n1 : Nat) : Int)) ∧ w'.cell? ⟨xb, 2, none⟩ = some (.int .i64 ((n2 : Nat) : Int)) ∧ w'.cell? ⟨xb, 3, none⟩ = some (.string s3)) (first | ((repeat' apply And.intro) <;> assumption) | go_keep)
    (first | (have hck := X2; clear hck; go_at_call 46; refine (HB2.out _).mono ?_; rintro e x3 ⟨rfl, y3⟩; refine HL.out _ _ x3 X2 B2 y3 ?_; intro X3 B3 d0_3 d1_3 d2_3 d3_3) | (have hck := X1; clear hck; go_at_call 46; refine (HB1.out _).mono ?_; rintro e x2 ⟨rfl, y2⟩; refine HL.out _ _ x2 X1 B1 y2 ?_; intro X2 B2 d0_2 d1_2 d2_2 d3_2) | (have hck := X0; clear hck; go_at_call 46; refine (HB0.out _).mono ?_; rintro e x1 ⟨rfl, y1⟩; refine HL.out _ _ x1 X0 B0 y1 ?_; intro X1 B1 d0_1 d1_1 d2_1 d3_1))
  have hsm := B3.size
  go_wp2
  go_ret
  exact ⟨⟨_, rfl, row_down (row_lit x3 [q0, q1, q2, s3] (by unfold maxLen; simp) (by simp)) hsm⟩, B3.alloc hsm _⟩

set_option maxRecDepth 100000 in
theorem ofKey_in (n0 n1 n2 : Nat) (s3 : ByteArray) (h0 : n0 < 65536) (h1 : n1 < 256) (h2 : n2 < 256) (h3 : s3.size ≤ 2000) (W : World) :
    Calls Tryz.prog 25 #[.agg #[.int .i64 ((n0 : Nat) : Int), .int .i64 ((n1 : Nat) : Int), .int .i64 ((n2 : Nat) : Int), .string s3]] W fun e w' => e = .returned (.tuple #[.string (strOf (joinR 48 (some [⟨(bytesB n0 2).toArray⟩, ⟨(bytesB n1 1).toArray⟩, ⟨(bytesB n2 1).toArray⟩, s3]))), .int .i64 (errOf (joinR 48 (some [⟨(bytesB n0 2).toArray⟩, ⟨(bytesB n1 1).toArray⟩, ⟨(bytesB n2 1).toArray⟩, s3])))]) ∧ Below W.heap.size W w' := by
  have hmf := mkf
  have hbw : Below W.heap.size W (W.alloc (.cells #[.int .i64 ((n0 : Nat) : Int), .int .i64 ((n1 : Nat) : Int), .int .i64 ((n2 : Nat) : Int), .string s3] 37)) := (Below.refl _ _).alloc (Nat.le_refl _) _
  have HJ := Hid.mk (joined_in (W.alloc (.cells #[.int .i64 ((n0 : Nat) : Int), .int .i64 ((n1 : Nat) : Int), .int .i64 ((n2 : Nat) : Int), .string s3] 37)) 48 52 #[boxV W.heap.size] (enters_by Tryz.func52 (by kernel_rfl) rfl) (some [⟨(bytesB n0 2).toArray⟩, ⟨(bytesB n1 1).toArray⟩, ⟨(bytesB n2 1).toArray⟩, s3]) (fun ps e => by
      cases e
      refine ⟨by simp, ?_⟩
      simp only [cat, app_size, ba_size, bytesB_len, List.length_nil]
      have : (⟨#[]⟩ : ByteArray).size = 0 := rfl
      omega) (fun W' hb => putKey_in n0 n1 n2 s3 h0 h1 h2 h3 W' W.heap.size ((hb.block _ (by simp)).trans (heap_new _ _))))
  generalize joinR 48 (some [⟨(bytesB n0 2).toArray⟩, ⟨(bytesB n1 1).toArray⟩, ⟨(bytesB n2 1).toArray⟩, s3]) = J at HJ ⊢
  go_enter Tryz.func25, Tryz.ntmps25
  go_wp2_with fail
  refine HJ.out.mono ?_
  rintro e w1 ⟨rfl, hb1⟩
  go_wp2
  go_ret2
  exact ⟨rfl, bth hbw hb1 hbw.size⟩

def TakeKey (d : ByteArray) (v : Value) (er : Int) : Prop := ∃ (n0 n1 n2 : Nat) (s3 : ByteArray), v = .agg #[.int .i64 ((n0 : Nat) : Int), .int .i64 ((n1 : Nat) : Int), .int .i64 ((n2 : Nat) : Int), .string s3] ∧ (n0 < 65536 ∧ n1 < 256 ∧ n2 < 256 ∧ s3.size ≤ 2000) ∧ (er = 0 → joinR 48 (some [⟨(bytesB n0 2).toArray⟩, ⟨(bytesB n1 1).toArray⟩, ⟨(bytesB n2 1).toArray⟩, s3]) = some d) ∧ (er = 0 ∨ (er = 6 ∧ splitR 48 d = none ∧ v = .agg #[.int .i64 0, .int .i64 0, .int .i64 0, .string ⟨#[]⟩]))
theorem takeKey_ok (d p0 p1 p2 p3 : ByteArray) (h : splitR 48 d = some [p0, p1, p2, p3]) : TakeKey d (.agg #[.int .i64 ((numB p0.data.toList : Nat) : Int), .int .i64 ((numB p1.data.toList : Nat) : Int), .int .i64 ((numB p2.data.toList : Nat) : Int), .string p3]) 0 ∧ (p0.size ≤ 7 ∧ p1.size ≤ 7 ∧ p2.size ≤ 7 ∧ p3.size ≤ 2000) := by
  obtain ⟨hk, hs, hd, hg⟩ := (split_iff 48 d _).1 h
  have hg' : p0.size = 2 ∧ p1.size = 1 ∧ p2.size = 1 ∧ 0 < p3.size ∧ True := hg
  have hcs : p0.size + p1.size + p2.size + p3.size ≤ 2000 := by
    rw [hd] at hs
    simp only [cat, app_size] at hs
    have : (⟨#[]⟩ : ByteArray).size = 0 := rfl
    omega
  have e0 : (⟨(bytesB (numB p0.data.toList) 2).toArray⟩ : ByteArray) = p0 := by
    apply ba_ext
    have := bytesB_num p0.data.toList (by rw [size_list]; omega)
    rw [size_list, show p0.size = 2 by omega] at this
    exact this
  have e1 : (⟨(bytesB (numB p1.data.toList) 1).toArray⟩ : ByteArray) = p1 := by
    apply ba_ext
    have := bytesB_num p1.data.toList (by rw [size_list]; omega)
    rw [size_list, show p1.size = 1 by omega] at this
    exact this
  have e2 : (⟨(bytesB (numB p2.data.toList) 1).toArray⟩ : ByteArray) = p2 := by
    apply ba_ext
    have := bytesB_num p2.data.toList (by rw [size_list]; omega)
    rw [size_list, show p2.size = 1 by omega] at this
    exact this
  have l0 : numB p0.data.toList < 65536 := by
    have := numB_lt p0.data.toList
    rw [size_list, show p0.size = 2 by omega] at this
    simpa using this
  have l1 : numB p1.data.toList < 256 := by
    have := numB_lt p1.data.toList
    rw [size_list, show p1.size = 1 by omega] at this
    simpa using this
  have l2 : numB p2.data.toList < 256 := by
    have := numB_lt p2.data.toList
    rw [size_list, show p2.size = 1 by omega] at this
    simpa using this
  refine ⟨⟨numB p0.data.toList, numB p1.data.toList, numB p2.data.toList, p3, rfl, ⟨l0, l1, l2, by omega⟩, fun _ => ?_, .inl rfl⟩, by omega, by omega, by omega, by omega⟩
  rw [e0, e1, e2, joinR, ← hd, h]
  exact if_pos rfl
set_option maxRecDepth 100000 in
set_option maxHeartbeats 4000000 in
theorem takeKey_in (d : ByteArray) (hm : d.size ≤ maxLen) (W : World) :
    Calls Tryz.prog 12 #[.string d] W fun e w' => (∃ v er, e = .returned (.tuple #[v, .int .i64 er]) ∧ TakeKey d v er) ∧ Below W.heap.size W w' := by
  have HS := Hid.mk (split_all 48 d hm)
  have hmo : Tryz.prog.follows Departure.mixedOrders = true := by kernel_rfl
  have HN := Hid.mk number_in
  cases hsp : splitR 48 d with
  | none =>
    rw [hsp] at HS
    have HSP := Hid.mk hsp
    clear hsp
    go_enter Tryz.func12, Tryz.ntmps12
    go_wp2_with fail
    refine (HS.out _).mono ?_
    rintro e w1 ⟨rfl, hb1⟩
    have hbx := (hb1.block _ (by simp)).trans (heap_new W (.cells #[.int .i64 0, .int .i64 0, .int .i64 0, .string ⟨#[]⟩] 37))
    obtain ⟨a0, f0⟩ := cells_at (v := .int .i64 0) (j := 0) hbx rfl
    obtain ⟨a1, f1⟩ := cells_at (v := .int .i64 0) (j := 1) hbx rfl
    obtain ⟨a2, f2⟩ := cells_at (v := .int .i64 0) (j := 2) hbx rfl
    obtain ⟨a3, f3⟩ := cells_at (v := .string ⟨#[]⟩) (j := 3) hbx rfl
    have HBX := Hid.mk hbx
    clear hbx
    go_wp2
    have hfin : (((((w1.setCell ⟨W.heap.size, 0, none⟩ (.int .i64 0)).setCell ⟨W.heap.size, 1, none⟩ (.int .i64 0)).setCell ⟨W.heap.size, 2, none⟩ (.int .i64 0)).setCell ⟨W.heap.size, 3, none⟩ (.string ⟨#[]⟩))).heap[W.heap.size]? = some (.cells #[.int .i64 0, .int .i64 0, .int .i64 0, .string ⟨#[]⟩] 37 (0, 0)) := cells_put (j := 3) (cells_put (j := 2) (cells_put (j := 1) (cells_put (j := 0) (HBX.out) (.int .i64 0)) (.int .i64 0)) (.int .i64 0)) (.string ⟨#[]⟩)
    refine bodyPost_ret (v := .tuple #[.agg #[.int .i64 0, .int .i64 0, .int .i64 0, .string ⟨#[]⟩], .int .i64 6]) (by simp [results, Tryz.results12, go_sem, (cells_at (v := .int .i64 0) (j := 0) hfin rfl).1, (cells_at (v := .int .i64 0) (j := 1) hfin rfl).1, (cells_at (v := .int .i64 0) (j := 2) hfin rfl).1, (cells_at (v := .string ⟨#[]⟩) (j := 3) hfin rfl).1]) rfl ⟨⟨_, _, rfl, 0, 0, 0, ⟨#[]⟩, rfl, ⟨by decide, by decide, by decide, by decide⟩, (fun h => by cases h), .inr ⟨rfl, HSP.out, rfl⟩⟩, ?_⟩
    exact (((((((Below.refl _ _).alloc (Nat.le_refl _) _).trans (hb1.mono (by simp)))).setCell (p := ⟨W.heap.size, 0, none⟩) (Nat.le_refl _) _).setCell (p := ⟨W.heap.size, 1, none⟩) (Nat.le_refl _) _).setCell (p := ⟨W.heap.size, 2, none⟩) (Nat.le_refl _) _).setCell (p := ⟨W.heap.size, 3, none⟩) (Nat.le_refl _) _
  | some ps =>
    obtain ⟨p0, p1, p2, p3, hps⟩ : ∃ p0 p1 p2 p3, ps = [p0, p1, p2, p3] := by
      have hl := ((split_iff 48 d ps).1 hsp).2.2.2.len
      match ps, hl with
      | [p0, p1, p2, p3], _ => exact ⟨_, _, _, _, rfl⟩
    subst hps
    obtain ⟨hT, z0, z1, z2, z3⟩ := takeKey_ok d p0 p1 p2 p3 hsp
    rw [hsp] at HS
    clear hsp
    have HN0 := Hid.mk (number_in p0 z0)
    generalize numB p0.data.toList = m0 at HN0 hT
    have HN1 := Hid.mk (number_in p1 z1)
    generalize numB p1.data.toList = m1 at HN1 hT
    have HN2 := Hid.mk (number_in p2 z2)
    generalize numB p2.data.toList = m2 at HN2 hT
    have HT := Hid.mk hT
    clear hT
    go_enter Tryz.func12, Tryz.ntmps12
    go_wp2_with fail
    refine (HS.out _).mono ?_
    rintro e w1 ⟨⟨v, rfl, hrow⟩, hb1⟩
    obtain ⟨q, c, hv⟩ := row_as hrow
    subst hv
    obtain ⟨g, hq, _, _⟩ := row_cell hrow 0 (by simp)
    subst hq
    obtain ⟨_, _, hgb⟩ := row_frozen (j := 0) hrow (by simp)
    simp only [World.size_alloc] at hgb
    have hgne : g ≠ W.heap.size := by omega
    have hgne2 : W.heap.size ≠ g := by omega
    have r0 : w1.cell? ⟨g, 0, none⟩ = some (.string p0) := row_at hrow 0 p0 rfl
    have r1 : w1.cell? ⟨g, 1, none⟩ = some (.string p1) := row_at hrow 1 p1 rfl
    have r2 : w1.cell? ⟨g, 2, none⟩ = some (.string p2) := row_at hrow 2 p2 rfl
    have r3 : w1.cell? ⟨g, 3, none⟩ = some (.string p3) := row_at hrow 3 p3 rfl
    have hbx := (hb1.block _ (by simp)).trans (heap_new W (.cells #[.int .i64 0, .int .i64 0, .int .i64 0, .string ⟨#[]⟩] 37))
    obtain ⟨a0, f0⟩ := cells_at (v := .int .i64 0) (j := 0) hbx rfl
    obtain ⟨a1, f1⟩ := cells_at (v := .int .i64 0) (j := 1) hbx rfl
    obtain ⟨a2, f2⟩ := cells_at (v := .int .i64 0) (j := 2) hbx rfl
    obtain ⟨a3, f3⟩ := cells_at (v := .string ⟨#[]⟩) (j := 3) hbx rfl
    have HBX := Hid.mk hbx
    have mk0 : True := trivial
    clear hbx hrow
    go_wp2
    go_region_held3 (fun w' => w'.cell? ⟨g, 0, none⟩ = some (.string p0) ∧ w'.cell? ⟨g, 1, none⟩ = some (.string p1) ∧ w'.cell? ⟨g, 2, none⟩ = some (.string p2) ∧ w'.cell? ⟨g, 3, none⟩ = some (.string p3)) (first | ((repeat' apply And.intro) <;> assumption) | go_keep)
      (first | (have hck := mk2; clear hck; go_at_call 37; refine (HN2.out _).mono ?_; rintro e x3 ⟨rfl, rfl⟩; have mk3 : True := trivial) | (have hck := mk1; clear hck; go_at_call 37; refine (HN1.out _).mono ?_; rintro e x2 ⟨rfl, rfl⟩; have mk2 : True := trivial) | (have hck := mk0; clear hck; go_at_call 37; refine (HN0.out _).mono ?_; rintro e x1 ⟨rfl, rfl⟩; have mk1 : True := trivial))
    go_wp2
    have hfin : (((((w1.setCell ⟨W.heap.size, 0, none⟩ (.int .i64 ((m0 : Nat) : Int))).setCell ⟨W.heap.size, 1, none⟩ (.int .i64 ((m1 : Nat) : Int))).setCell ⟨W.heap.size, 2, none⟩ (.int .i64 ((m2 : Nat) : Int))).setCell ⟨W.heap.size, 3, none⟩ (.string p3))).drew.heap[W.heap.size]? = some (.cells #[.int .i64 ((m0 : Nat) : Int), .int .i64 ((m1 : Nat) : Int), .int .i64 ((m2 : Nat) : Int), .string p3] 37 (0, 0)) := cells_put (j := 3) (cells_put (j := 2) (cells_put (j := 1) (cells_put (j := 0) (HBX.out) (.int .i64 ((m0 : Nat) : Int))) (.int .i64 ((m1 : Nat) : Int))) (.int .i64 ((m2 : Nat) : Int))) (.string p3)
    refine bodyPost_ret (v := .tuple #[.agg #[.int .i64 ((m0 : Nat) : Int), .int .i64 ((m1 : Nat) : Int), .int .i64 ((m2 : Nat) : Int), .string p3], .int .i64 0]) (by simp [results, Tryz.results12, go_sem, (cells_at (v := .int .i64 ((m0 : Nat) : Int)) (j := 0) hfin rfl).1, (cells_at (v := .int .i64 ((m1 : Nat) : Int)) (j := 1) hfin rfl).1, (cells_at (v := .int .i64 ((m2 : Nat) : Int)) (j := 2) hfin rfl).1, (cells_at (v := .string p3) (j := 3) hfin rfl).1]) rfl ⟨⟨_, _, rfl, HT.out⟩, ?_⟩
    exact ((((((((Below.refl _ _).alloc (Nat.le_refl _) _).trans (hb1.mono (by simp)))).setCell (p := ⟨W.heap.size, 0, none⟩) (Nat.le_refl _) _).setCell (p := ⟨W.heap.size, 1, none⟩) (Nat.le_refl _) _).setCell (p := ⟨W.heap.size, 2, none⟩) (Nat.le_refl _) _).setCell (p := ⟨W.heap.size, 3, none⟩) (Nat.le_refl _) _).drew

end Go.Proofs.YtdhcbaennpediaaGreatDoor

/- NSEC: taken apart, and put together. -/
namespace Go.Proofs.YtdhcbaennpediaaGreatDoor
set_option linter.unusedVariables false
open Go.RowKit

theorem IntsAt.below {W W' : World} {v : Value} {l : List Int} (h : IntsAt W v l) (hb : Below W.heap.size W W') : IntsAt W' v l := by
  obtain ⟨q, c, hv, hc⟩ := h
  refine ⟨q, c, hv, fun j hj => ?_⟩
  obtain ⟨g, hq, hg, hx⟩ := hc j hj
  exact ⟨g, hq, Nat.lt_of_lt_of_le hg hb.size, (hb.cell (p := ⟨g, j, none⟩) hg).trans hx⟩
theorem ints_of_row {W : World} {n₀ : Nat} {v : Value} {l : List Nat} (h : W.ownsRow n₀ 3 1 v l.length (intsV l)) : IntsAt W v (l.map fun n => ((n : Nat) : Int)) := by
  obtain ⟨q, c, rfl⟩ := row_as h
  refine ⟨q, c, by simp, fun j hj => ?_⟩
  rw [List.length_map] at hj
  rcases h.2 with ⟨_, h0⟩ | ⟨g, cap, cur, hv, _, hg, _, _, _, ht⟩
  · omega
  · cases hv
    refine ⟨g, rfl, box_lt hg, ?_⟩
    have := Lib.cells_of_row (w := W) hg l.length j (.int .i64 ((l[j] : Nat) : Int)) (by rw [Nat.mul_one] at ht; rw [ht]; simp [intsV, hj])
    rw [add_at] at this
    simpa using this
theorem encGo_ok : ∀ (l : List Int) (ws ws' : List Win) (last : Int), OkW (-1) ws → (∀ x ∈ tysW ws, (x : Int) ≤ last) → encGo ws last l = some ws' → OkW (-1) ws'
  | [], ws, ws', last, h, _, e => by cases e; exact h
  | k :: r, ws, ws', last, h, hl, e => by
    rw [encGo] at e
    split at e
    · rename_i hk
      obtain ⟨a1, a2⟩ := addT_ok ws k.toNat (by omega) h (fun x hx => by have := hl x hx; omega)
      refine encGo_ok r _ ws' k a1 (fun x hx => ?_) e
      rw [a2, List.mem_append] at hx
      rcases hx with hx | hx
      · have := hl x hx; omega
      · simp only [List.mem_singleton] at hx; omega
    · cases e
theorem encR_len {l : List Int} {bs : List UInt8} (h : encR l = some bs) : bs.length ≤ 8704 := by
  rw [encR, Option.map_eq_some_iff] at h
  obtain ⟨ws, hw, rfl⟩ := h
  have := encW_len ws (-1) (encGo_ok l [] ws (-1) trivial (by simp [tysW]) hw) (by omega) (by omega)
  omega

set_option maxRecDepth 100000 in
set_option maxHeartbeats 4000000 in
theorem putNsec_in (nx : ByteArray) (v : Value) (l : List Int) (bs : List UInt8) (hl : l.length ≤ 1000000) (he : encR l = some bs) (W : World) (hv : IntsAt W v l) (xb : Nat) (hx : W.heap[xb]? = some (.cells #[.string nx, v] 50 (0, 0))) :
    Calls Tryz.prog 54 #[boxV xb] W fun e w' => PutPost (some [nx, ⟨bs.toArray⟩]) W e w' := by
  have hmo : Tryz.prog.follows Departure.mixedOrders = true := by kernel_rfl
  have HB : Hid (∀ W', Below W.heap.size W W' → Calls Tryz.prog 55 #[v] W' fun e w' => e = .returned (.string ⟨bs.toArray⟩) ∧ Below W'.heap.size W' w') := fun W' hb => by
    have := bytesOfTypes_in W' v l hl (hv.below hb)
    rw [he] at this
    exact this
  obtain ⟨q, c, hvq, _⟩ := hv
  subst hvq
  have c0 := (cells_at (v := .string nx) (j := 0) hx rfl).1
  have c1 := (cells_at (v := .slice q l.length c) (j := 1) hx rfl).1
  have HL : Hid (∀ (G : Prop) (A B : World), A.heap[xb]? = some (.cells #[.string nx, .slice q l.length c] 50 (0, 0)) → Below W.heap.size W A → Below A.heap.size A B → (Below W.heap.size W B → B.cell? ⟨xb, 0, none⟩ = some (.string nx) → B.cell? ⟨xb, 1, none⟩ = some (.slice q l.length c) → G) → G) := by
    intro G A B hA hW hB hG
    have hB' := (hB.block xb (box_lt hA)).trans hA
    exact hG (bth hW hB hW.size) (cells_at hB' rfl).1 (cells_at hB' rfl).1
  have X0 : W.drew.heap[xb]? = some (.cells #[.string nx, .slice q l.length c] 50 (0, 0)) := hx
  have B0 : Below W.heap.size W W.drew := (Below.refl _ _).drew
  generalize (⟨bs.toArray⟩ : ByteArray) = b at HB ⊢
  clear hx
  go_enter Tryz.func54, Tryz.ntmps54
  go_wp2
  go_region_held3 (fun w' => w'.cell? ⟨xb, 0, none⟩ = some (.string nx) ∧ w'.cell? ⟨xb, 1, none⟩ = some (.slice q l.length c)) (first | ((repeat' apply And.intro) <;> assumption) | go_keep)
    (first | (go_at_call 55; refine (HB.out _ B0).mono ?_; rintro e x1 ⟨rfl, y1⟩; refine HL.out _ _ x1 X0 B0 y1 ?_; intro B1 d0 d1))
  have hsm := B1.size
  go_wp2
  go_ret
  exact ⟨⟨_, rfl, row_down (row_lit x1 [nx, b] (by unfold maxLen; simp) (by simp)) hsm⟩, B1.alloc hsm _⟩

set_option maxRecDepth 100000 in
theorem ofNsec_in (nx : ByteArray) (v : Value) (l : List Int) (bs : List UInt8) (hn : nx.size ≤ 2000) (hl : l.length ≤ 1000000) (he : encR l = some bs) (W : World) (hv : IntsAt W v l) :
    Calls Tryz.prog 29 #[.agg #[.string nx, v]] W fun e w' => e = .returned (.tuple #[.string (strOf (joinR 47 (some [nx, ⟨bs.toArray⟩]))), .int .i64 (errOf (joinR 47 (some [nx, ⟨bs.toArray⟩])))]) ∧ Below W.heap.size W w' := by
  have hmf := mkf
  have hbl := encR_len he
  have hbw : Below W.heap.size W (W.alloc (.cells #[.string nx, v] 50)) := (Below.refl _ _).alloc (Nat.le_refl _) _
  have HJ := Hid.mk (joined_in (W.alloc (.cells #[.string nx, v] 50)) 47 54 #[boxV W.heap.size] (enters_by Tryz.func54 (by kernel_rfl) rfl) (some [nx, ⟨bs.toArray⟩]) (fun ps e => by
      cases e
      refine ⟨by simp, ?_⟩
      simp only [cat, app_size, ba_size, List.length_nil]
      omega) (fun W' hb => putNsec_in nx v l bs hl he W' ((hv.below hbw).below hb) W.heap.size ((hb.block _ (by simp)).trans (heap_new _ _))))
  generalize joinR 47 (some [nx, ⟨bs.toArray⟩]) = J at HJ ⊢
  obtain ⟨q, c, hvq, _⟩ := hv
  subst hvq
  go_enter Tryz.func29, Tryz.ntmps29
  go_wp2_with fail
  refine HJ.out.mono ?_
  rintro e w1 ⟨rfl, hb1⟩
  go_wp2
  go_ret2
  exact ⟨rfl, bth hbw hb1 hbw.size⟩

def TakeNsec (d : ByteArray) (W : World) (v : Value) (er : Int) : Prop := ∃ (nx : ByteArray) (v' : Value) (l : List Int) (bs : List UInt8), v = .agg #[.string nx, v'] ∧ IntsAt W v' l ∧ nx.size ≤ 2000 ∧ l.length ≤ 1000000 ∧ encR l = some bs ∧ (er = 0 → joinR 47 (some [nx, ⟨bs.toArray⟩]) = some d) ∧ (er = 0 ∨ (er = 6 ∧ splitR 47 d = none ∧ v = .agg #[.string ⟨#[]⟩, .slice none 0 0])) ∧ (er = 0 → ∃ tl : List Nat, l = tl.map (fun n => ((n : Nat) : Int)) ∧ typesR ⟨bs.toArray⟩ = some tl)
theorem rise_len : ∀ (l : List Nat) (last : Int), Rise last l → (l.length : Int) ≤ 65535 - last ∨ l = []
  | [], _, _ => .inr rfl
  | k :: r, last, ⟨h1, h2, h3⟩ => by
    left
    rcases rise_len r k h3 with h | rfl
    · simp; omega
    · simp; omega

set_option maxRecDepth 100000 in
set_option maxHeartbeats 4000000 in
theorem takeNsec_in (d : ByteArray) (hm : d.size ≤ maxLen) (W : World) :
    Calls Tryz.prog 16 #[.string d] W fun e w' => (∃ v er, e = .returned (.tuple #[v, .int .i64 er]) ∧ TakeNsec d w' v er) ∧ Below W.heap.size W w' := by
  have HS := Hid.mk (split_all 47 d hm)
  have hmo : Tryz.prog.follows Departure.mixedOrders = true := by kernel_rfl
  cases hsp : splitR 47 d with
  | none =>
    rw [hsp] at HS
    have HSP := Hid.mk hsp
    clear hsp
    go_enter Tryz.func16, Tryz.ntmps16
    go_wp2_with fail
    refine (HS.out _).mono ?_
    rintro e w1 ⟨rfl, hb1⟩
    have hbx := (hb1.block _ (by simp)).trans (heap_new W (.cells #[.string ⟨#[]⟩, .slice none 0 0] 50))
    obtain ⟨a0, f0⟩ := cells_at (v := .string ⟨#[]⟩) (j := 0) hbx rfl
    obtain ⟨a1, f1⟩ := cells_at (v := .slice none 0 0) (j := 1) hbx rfl
    have HBX := Hid.mk hbx
    clear hbx
    go_wp2
    have hfin : ((w1.setCell ⟨W.heap.size, 0, none⟩ (.string ⟨#[]⟩)).setCell ⟨W.heap.size, 1, none⟩ (.slice none 0 0)).heap[W.heap.size]? = some (.cells #[.string ⟨#[]⟩, .slice none 0 0] 50 (0, 0)) := cells_put (j := 1) (cells_put (j := 0) HBX.out (.string ⟨#[]⟩)) (.slice none 0 0)
    refine bodyPost_ret (v := .tuple #[.agg #[.string ⟨#[]⟩, .slice none 0 0], .int .i64 6]) (by simp [results, Tryz.results16, go_sem, (cells_at (v := .string ⟨#[]⟩) (j := 0) hfin rfl).1, (cells_at (v := .slice none 0 0) (j := 1) hfin rfl).1]) rfl ⟨⟨_, _, rfl, ⟨#[]⟩, .slice none 0 0, [], [], rfl, ⟨none, 0, rfl, fun j hj => by simp at hj⟩, by decide, by simp, rfl, (fun h => by cases h), .inr ⟨rfl, HSP.out, rfl⟩, fun h => by cases h⟩, ?_⟩
    exact ((((Below.refl _ _).alloc (Nat.le_refl _) _).trans (hb1.mono (by simp))).setCell (p := ⟨W.heap.size, 0, none⟩) (Nat.le_refl _) _).setCell (p := ⟨W.heap.size, 1, none⟩) (Nat.le_refl _) _
  | some ps =>
    obtain ⟨p0, p1, hps⟩ : ∃ p0 p1, ps = [p0, p1] := by
      have hl := ((split_iff 47 d ps).1 hsp).2.2.2.len
      match ps, hl with
      | [p0, p1], _ => exact ⟨_, _, rfl⟩
    subst hps
    obtain ⟨hk, hs, hd, hg⟩ := (split_iff 47 d _).1 hsp
    have hg' : IsName p0 ∧ (typesR p1).isSome = true ∧ True := hg
    obtain ⟨tl, htl⟩ := Option.isSome_iff_exists.1 hg'.2.1
    obtain ⟨hrise, hp1⟩ := typesR_back htl
    have hcs : p0.size + p1.size ≤ 2000 := by
      rw [hd] at hs
      simp only [cat, app_size] at hs
      have : (⟨#[]⟩ : ByteArray).size = 0 := rfl
      omega
    have hrl : tl.length ≤ 1000000 := by
      rcases rise_len tl (-1) hrise with h | rfl
      · omega
      · simp
    have HTK : Hid (encR (tl.map fun n => ((n : Nat) : Int)) = some (encT tl) ∧ joinR 47 (some [p0, ⟨(encT tl).toArray⟩]) = some d ∧ typesR ⟨(encT tl).toArray⟩ = some tl) := by
      refine ⟨encR_rise hrise, ?_, by rw [← hp1]; exact htl⟩
      rw [← hp1, joinR, ← hd, hsp]
      exact if_pos rfl
    have HTY := Hid.mk (fun w => typesOf_in w p1 (by omega))
    rw [htl] at HTY
    rw [hsp] at HS
    clear hsp hg hg' hp1 htl hd hs hrise
    go_enter Tryz.func16, Tryz.ntmps16
    go_wp2_with fail
    refine (HS.out _).mono ?_
    rintro e w1 ⟨⟨v, rfl, hrow⟩, hb1⟩
    obtain ⟨q, c, hv⟩ := row_as hrow
    subst hv
    obtain ⟨g, hq, hgl, _⟩ := row_cell hrow 0 (by simp)
    subst hq
    obtain ⟨_, _, hgb⟩ := row_frozen (j := 0) hrow (by simp)
    simp only [World.size_alloc] at hgb
    have hgne : g ≠ W.heap.size := by omega
    have hgne2 : W.heap.size ≠ g := by omega
    have r0 : w1.cell? ⟨g, 0, none⟩ = some (.string p0) := row_at hrow 0 p0 rfl
    have r1 : w1.cell? ⟨g, 1, none⟩ = some (.string p1) := row_at hrow 1 p1 rfl
    have hbx := (hb1.block _ (by simp)).trans (heap_new W (.cells #[.string ⟨#[]⟩, .slice none 0 0] 50))
    have HL : Hid (∀ (G : Prop) (v1 : Value) (x1 : World), x1.ownsRow w1.drew.heap.size 3 1 v1 tl.length (intsV tl) → Below w1.drew.heap.size w1.drew x1 →
        (∀ q1 c1, v1 = .slice q1 tl.length c1 → x1.cell? ⟨g, 0, none⟩ = some (.string p0) → x1.cell? ⟨g, 1, none⟩ = some (.string p1) → x1.heap[W.heap.size]? = some (.cells #[.string ⟨#[]⟩, .slice none 0 0] 50 (0, 0)) →
          x1.cell? ⟨W.heap.size, 0, none⟩ = some (.string ⟨#[]⟩) → x1.frozen? ⟨W.heap.size, 0, none⟩ = false → x1.cell? ⟨W.heap.size, 1, none⟩ = some (.slice none 0 0) → x1.frozen? ⟨W.heap.size, 1, none⟩ = false → Below w1.heap.size w1 x1 → G) → G) := by
      intro G v1 x1 hr hb hG
      obtain ⟨q1, c1, hv1⟩ := row_as hr
      have hb' : Below w1.heap.size w1 x1 := ⟨hb.os, hb.tape, hb.output, hb.size, hb.block⟩
      have hx1 := (hb'.block _ (box_lt hbx)).trans hbx
      obtain ⟨e0, e1⟩ := cells_at (v := .string ⟨#[]⟩) (j := 0) hx1 rfl
      obtain ⟨e2, e3⟩ := cells_at (v := .slice none 0 0) (j := 1) hx1 rfl
      exact hG q1 c1 hv1 ((hb'.cell (p := ⟨g, 0, none⟩) hgl).trans r0) ((hb'.cell (p := ⟨g, 1, none⟩) hgl).trans r1) hx1 e0 e1 e2 e3 hb'
    clear hrow hbx
    go_wp2
    go_region_held3 (fun w' => w'.cell? ⟨g, 0, none⟩ = some (.string p0) ∧ w'.cell? ⟨g, 1, none⟩ = some (.string p1)) (first | ((repeat' apply And.intro) <;> assumption) | go_keep)
      (first | (go_at_call 41; refine (HTY.out _).mono ?_; rintro e x1 ⟨⟨v1, rfl, hrow1⟩, y1⟩; refine HL.out _ v1 x1 hrow1 y1 ?_; intro q1 c1 hv1 s0 s1 hx1 b0 g0 b1 g1 hbb; subst hv1))
    go_wp2
    have hfin : ((x1.setCell ⟨W.heap.size, 0, none⟩ (.string p0)).setCell ⟨W.heap.size, 1, none⟩ (.slice q1 tl.length c1)).heap[W.heap.size]? = some (.cells #[.string p0, .slice q1 tl.length c1] 50 (0, 0)) := cells_put (j := 1) (cells_put (j := 0) hx1 (.string p0)) (.slice q1 tl.length c1)
    have hW1 : W.heap.size < w1.heap.size := by have := hb1.size; simp at this; omega
    have hin : IntsAt ((x1.setCell ⟨W.heap.size, 0, none⟩ (.string p0)).setCell ⟨W.heap.size, 1, none⟩ (.slice q1 tl.length c1)) (.slice q1 tl.length c1) (tl.map fun n => ((n : Nat) : Int)) := by
      have h1 := ownsRow_setCell_below (ownsRow_setCell_below hrow1 (a := ⟨W.heap.size, 0, none⟩) hW1 (.string p0)) (a := ⟨W.heap.size, 1, none⟩) hW1 (.slice q1 tl.length c1)
      exact ints_of_row (W := ((x1.setCell ⟨W.heap.size, 0, none⟩ (.string p0)).setCell ⟨W.heap.size, 1, none⟩ (.slice q1 tl.length c1))) h1
    refine bodyPost_ret (v := .tuple #[.agg #[.string p0, .slice q1 tl.length c1], .int .i64 0]) (by simp [results, Tryz.results16, go_sem, (cells_at (v := .string p0) (j := 0) hfin rfl).1, (cells_at (v := .slice q1 tl.length c1) (j := 1) hfin rfl).1]) rfl ⟨⟨_, _, rfl, p0, .slice q1 tl.length c1, _, _, rfl, hin, by omega, by simpa using hrl, HTK.out.1, fun _ => HTK.out.2.1, .inl rfl, fun _ => ⟨_, rfl, HTK.out.2.2⟩⟩, ?_⟩
    have hW2 : Below W.heap.size W x1 := (((Below.refl _ _).alloc (Nat.le_refl _) _).trans (hb1.mono (by simp))).trans (hbb.mono (by omega))
    exact (hW2.setCell (p := ⟨W.heap.size, 0, none⟩) (Nat.le_refl _) _).setCell (p := ⟨W.heap.size, 1, none⟩) (Nat.le_refl _) _
end Go.Proofs.YtdhcbaennpediaaGreatDoor

/- NSEC, as the document's own function takes it apart. -/
namespace Go.Proofs.YtdhcbaennpediaaGreatDoor
set_option linter.unusedVariables false
open Go.RowKit

theorem stp_types_end {s r' : ByteArray} {b b' : Bool} (h : Stp .types s b s r' b') (hb : b' = false) : r'.size = 0 := by
  cases hp : passK .types s with
  | none => rw [h.none hp] at hb; cases hb
  | some m =>
    cases b with
    | true => rw [h.keep rfl] at hb; cases hb
    | false =>
      have hm : m = s.size := by
        simp only [passK] at hp
        split at hp
        · cases hp; rfl
        · cases hp
      rw [(h.some m hp rfl).2.1, hm, end_cut]; rfl

def RefNsecPost (d : ByteArray) (e : Ending) (w' : World) : Prop := (∃ t0 t1 v l, splitR 47 d = some [t0, t1] ∧ typesR t1 = some l ∧ e = .returned (.tuple #[.agg #[.string t0, v], .bool true]) ∧ IntsAt w' v (l.map fun n => ((n : Nat) : Int))) ∨ (splitR 47 d = none ∧ e = .returned (.tuple #[.agg #[.string ⟨#[]⟩, .slice none 0 0], .bool false]))

set_option maxRecDepth 100000 in
set_option maxHeartbeats 8000000 in
theorem refNsec_in (d : ByteArray) (hd : d.size ≤ 140737488355328) (W : World) :
    Calls Tryz.prog 17 #[.string d] W fun e w' => RefNsecPost d e w' ∧ Below W.heap.size W w' := by
  have hmo : Tryz.prog.follows Departure.mixedOrders = true := by kernel_rfl
  have Q := Hid.mk (S0.first W 50 #[.string ⟨#[]⟩, .slice none 0 0] d)
  obtain ⟨r0, hr0⟩ : ∃ r0, r0 = d := ⟨_, rfl⟩
  have hz0 : r0.size ≤ 140737488355328 := by rw [hr0]; exact hd
  rw [show S0 W ((W.alloc (.cells #[.string ⟨#[]⟩, .slice none 0 0] 50)).alloc (.cells #[.string d, .bool false] 90)) W.heap.size (W.heap.size + 1) d false 50 #[.string ⟨#[]⟩, .slice none 0 0] = S0 W ((W.alloc (.cells #[.string ⟨#[]⟩, .slice none 0 0] 50)).alloc (.cells #[.string d, .bool false] 90)) W.heap.size (W.heap.size + 1) r0 false 50 #[.string ⟨#[]⟩, .slice none 0 0] by rw [hr0]] at Q
  have HR0 := Hid.mk hr0
  clear hr0
  go_enter Tryz.func17, Tryz.ntmps17
  go_wp2_with fail
  refine (rName_in _ (W.heap.size + 1) r0 false hz0 Q.out.rr).mono ?_
  rintro e w1 ⟨t0, r1, b1, rfl, hr, hk, hs0, hz⟩
  have hz1 : r1.size ≤ 140737488355328 := by omega
  replace Q := Hid.mk (Q.out.call hr hk)
  have P0 := Hid.mk hs0
  have hW1 := Q.out.bel.size
  clear hr hk hs0 hz hz0
  replace Q := Hid.mk (Q.out.new #[.string t0, .slice none 0 0])
  go_wp2_with fail
  refine (rTypes_in _ (W.heap.size + 1) r1 b1 hz1 Q.out.s.rr).mono ?_
  rintro e w2 ⟨v, r2, b2, l, rfl, hr, hk, hrow, hsT, htl⟩
  obtain ⟨q, c, hv⟩ := row_as hrow
  subst hv
  replace Q := Hid.mk (Q.out.call hr hk)
  have PT := Hid.mk hsT
  have HTL := Hid.mk htl
  clear hr hk hsT htl
  obtain ⟨gT, fT⟩ := cells_at (v := .slice none 0 0) (j := 1) Q.out.x rfl
  replace Q : Hid (S1 W (w2.setCell ⟨w1.heap.size, 1, none⟩ (.slice q l.length c)) W.heap.size (W.heap.size + 1) w1.heap.size r2 b2 50 #[.string ⟨#[]⟩, .slice none 0 0] #[.string t0, .slice q l.length c]) := Q.out.put 1 (.slice q l.length c)
  have hsa : (w1.alloc (.cells #[.string t0, .slice none 0 0] 50)).heap.size = w1.heap.size + 1 := by simp
  rw [hsa] at hrow
  have hWlt : W.heap.size < w1.heap.size + 1 := by omega
  have rwx := ownsRow_setCell_below hrow (a := ⟨w1.heap.size, 1, none⟩) (Nat.lt_succ_self _) (.slice q l.length c)
  have RWX := Hid.mk rwx
  clear rwx hrow hsa
  have HC : Hid (Chn (formOf 47) r0 false [t0, r1] r2 b2) := (Chn.cons P0.out (Chn.cons PT.out Chn.nil))
  have HSP := Hid.mk (HC.out.split (by omega))
  rw [HR0.out] at HSP
  have HZ : Hid (b2 = false → r2.size = 0) := fun hb => stp_types_end PT.out hb
  clear HC P0 PT
  obtain ⟨u0, v0⟩ := Q.out.s.rr.c0
  obtain ⟨u1, v1⟩ := Q.out.s.rr.c1
  obtain ⟨x0, y0⟩ := cells_at (v := .string t0) (j := 0) Q.out.x rfl
  obtain ⟨x1, y1⟩ := cells_at (v := .slice q l.length c) (j := 1) Q.out.x rfl
  obtain ⟨a0, c0⟩ := cells_at (v := .string ⟨#[]⟩) (j := 0) Q.out.s.res rfl
  obtain ⟨a1, c1⟩ := cells_at (v := .slice none 0 0) (j := 1) Q.out.s.res rfl
  rcases HSP.out with ⟨e1, e2, e3, e4⟩ | ⟨e1, e4⟩
  · have HE := Hid.mk e4
    subst e1
    have HT2 := Hid.mk (HTL.out rfl)
    clear e4 HSP HTL
    go_wp2
    have st0 : ((w2.setCell ⟨w1.heap.size, 1, none⟩ (.slice q l.length c)).setCell ⟨W.heap.size, 0, none⟩ (.string t0)).heap[W.heap.size]? = some (.cells #[.string t0, .slice none 0 0] 50 (0, 0)) := cells_put (j := 0) Q.out.s.res (.string t0)
    have rw0 := ownsRow_setCell_below RWX.out (a := ⟨W.heap.size, 0, none⟩) hWlt (.string t0)
    have st1 : (((w2.setCell ⟨w1.heap.size, 1, none⟩ (.slice q l.length c)).setCell ⟨W.heap.size, 0, none⟩ (.string t0)).setCell ⟨W.heap.size, 1, none⟩ (.slice q l.length c)).heap[W.heap.size]? = some (.cells #[.string t0, .slice q l.length c] 50 (0, 0)) := cells_put (j := 1) st0 (.slice q l.length c)
    have rw1 := ownsRow_setCell_below rw0 (a := ⟨W.heap.size, 1, none⟩) hWlt (.slice q l.length c)
    have hfin := st1
    refine bodyPost_ret (v := .tuple #[.agg #[.string t0, .slice q l.length c], .bool true]) (by simp [results, Tryz.results17, go_sem, (cells_at (v := .string t0) (j := 0) hfin rfl).1, (cells_at (v := .slice q l.length c) (j := 1) hfin rfl).1]) rfl ⟨.inl ⟨t0, r1, _, l, HE.out, HT2.out, rfl, ints_of_row rw1⟩, ((Q.out.s.bel).setCell (p := ⟨W.heap.size, 0, none⟩) (Nat.le_refl _) _).setCell (p := ⟨W.heap.size, 1, none⟩) (Nat.le_refl _) _⟩
  · have HE := Hid.mk e4
    clear e4 HSP HTL
    cases b2 with
    | true =>
      clear e1 HZ
      go_wp2
      have st0 : ((w2.setCell ⟨w1.heap.size, 1, none⟩ (.slice q l.length c)).setCell ⟨W.heap.size, 0, none⟩ (.string ⟨#[]⟩)).heap[W.heap.size]? = some (.cells #[.string ⟨#[]⟩, .slice none 0 0] 50 (0, 0)) := cells_put (j := 0) Q.out.s.res (.string ⟨#[]⟩)
      have st1 : (((w2.setCell ⟨w1.heap.size, 1, none⟩ (.slice q l.length c)).setCell ⟨W.heap.size, 0, none⟩ (.string ⟨#[]⟩)).setCell ⟨W.heap.size, 1, none⟩ (.slice none 0 0)).heap[W.heap.size]? = some (.cells #[.string ⟨#[]⟩, .slice none 0 0] 50 (0, 0)) := cells_put (j := 1) st0 (.slice none 0 0)
      have hfin := st1
      refine bodyPost_ret (v := .tuple #[.agg #[.string ⟨#[]⟩, .slice none 0 0], .bool false]) (by simp [results, Tryz.results17, go_sem, (cells_at (v := .string ⟨#[]⟩) (j := 0) hfin rfl).1, (cells_at (v := .slice none 0 0) (j := 1) hfin rfl).1]) rfl ⟨.inr ⟨HE.out, rfl⟩, ((Q.out.s.bel).setCell (p := ⟨W.heap.size, 0, none⟩) (Nat.le_refl _) _).setCell (p := ⟨W.heap.size, 1, none⟩) (Nat.le_refl _) _⟩
    | false =>
      have e3 : 2000 < d.size := by
        have := HZ.out rfl
        rcases e1 with h | h | h
        · cases h
        · omega
        · exact h
      clear e1 HZ
      go_wp2
      have st0 : ((w2.setCell ⟨w1.heap.size, 1, none⟩ (.slice q l.length c)).setCell ⟨W.heap.size, 0, none⟩ (.string ⟨#[]⟩)).heap[W.heap.size]? = some (.cells #[.string ⟨#[]⟩, .slice none 0 0] 50 (0, 0)) := cells_put (j := 0) Q.out.s.res (.string ⟨#[]⟩)
      have st1 : (((w2.setCell ⟨w1.heap.size, 1, none⟩ (.slice q l.length c)).setCell ⟨W.heap.size, 0, none⟩ (.string ⟨#[]⟩)).setCell ⟨W.heap.size, 1, none⟩ (.slice none 0 0)).heap[W.heap.size]? = some (.cells #[.string ⟨#[]⟩, .slice none 0 0] 50 (0, 0)) := cells_put (j := 1) st0 (.slice none 0 0)
      have hfin := st1
      refine bodyPost_ret (v := .tuple #[.agg #[.string ⟨#[]⟩, .slice none 0 0], .bool false]) (by simp [results, Tryz.results17, go_sem, (cells_at (v := .string ⟨#[]⟩) (j := 0) hfin rfl).1, (cells_at (v := .slice none 0 0) (j := 1) hfin rfl).1]) rfl ⟨.inr ⟨HE.out, rfl⟩, ((Q.out.s.bel).setCell (p := ⟨W.heap.size, 0, none⟩) (Nat.le_refl _) _).setCell (p := ⟨W.heap.size, 1, none⟩) (Nat.le_refl _) _⟩
end Go.Proofs.YtdhcbaennpediaaGreatDoor
