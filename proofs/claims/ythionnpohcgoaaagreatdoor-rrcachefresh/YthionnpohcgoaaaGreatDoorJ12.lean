/- Texts of this proof, joined: DJoin, DBytes, DKey, DSig, RsA, RcOpen. -/
import Derived.BigRegion
import Derived.Test.YthionnpohcgoaaaGreatDoorJ9
import Derived.Test.YthionnpohcgoaaaGreatDoorJ6
import Derived.Deep.RegionHeld3
import Derived.Test.YthionnpohcgoaaaGreatDoorJ10
import Derived.Test.YthionnpohcgoaaaGreatDoorJ11
import Derived.OpenShut
import Derived.WalkKit
import Derived.ProofKit
import Derived.Lib.SmallJoins
import Derived.Deep.SlicePairs
import Derived.Deep.DeepHandedRow
set_option linter.unusedVariables false
set_option linter.unusedSimpArgs false
/- joined: data of pieces that are put down; slices.Equal. -/
namespace Go.Proofs.YthionnpohcgoaaaGreatDoor
open Go.RowKit
def TextsAt (W : World) (v : Value) (l : List ByteArray) : Prop := ∃ q c, v = .slice q l.length c ∧ ∀ j (h : j < l.length), ∃ g, q = some ⟨g, 0, none⟩ ∧ g < W.heap.size ∧ W.cell? ⟨g, j, none⟩ = some (.string l[j])
theorem texts_of_row {W : World} {n₀ : Nat} {e : TypeId} {v : Value} {l : List ByteArray} (h : W.ownsRow n₀ e 1 v l.length (baV l)) : TextsAt W v l := by
 obtain ⟨q, c, rfl⟩ := row_as h
 exact ⟨q, c, rfl, fun j hj => row_cell h j hj⟩
theorem ba_ne {x y : ByteArray} (h : x ≠ y) : (x.toList == y.toList) = false ∧ (x.toList != y.toList) = true := by
 have hn : ¬ x.toList = y.toList := fun e => h (ba_ext (by rw [← ByteArray.toList_eq, ← ByteArray.toList_eq]; exact e))
 exact ⟨by simpa using hn, by simpa using hn⟩
set_option maxRecDepth 100000 in
set_option maxHeartbeats 2000000 in
theorem equal_in (W : World) (va vb : Value) (a b : List ByteArray) (ha : TextsAt W va a) (hb : TextsAt W vb b) (hla : a.length ≤ 1000) (hlb : b.length ≤ 1000) :
  Calls Tryz.prog 50 #[va, vb] W fun e w' => e = .returned (.bool (decide (a = b))) ∧ Below W.heap.size W w' := by
 obtain ⟨qa, ca, rfl, hca⟩ := ha
 obtain ⟨qb, cb, rfl, hcb⟩ := hb
 have hmo : Tryz.prog.follows Departure.mixedOrders = true := by kernel_rfl
 obtain ⟨D, hDe⟩ : ∃ D, decide (a = b) = D := ⟨_, rfl⟩
 rw [hDe]
 have HDE := Hid.mk hDe
 clear hDe
 by_cases hn : a.length = b.length
 ·have HCA := Hid.mk hca
  have HCB := Hid.mk hcb
  have HN := Hid.mk hn
  have hnb : ((a.length : Int) != (b.length : Int)) = false := by rw [hn]; simp
  clear hca hcb hn
  go_enter Tryz.func50, Tryz.ntmps50
  go_wp2
  go_loopw [13] (fun iv wr => ∃ m : Nat, m ≤ a.length ∧ iv = .int .i64 m ∧ Hid (a.take m = b.take m) ∧ Below W.heap.size W wr) (fun iv _ => a.length - (intOf iv).toNat)
  case atStart => exact ⟨0, Nat.zero_le _, rfl, rfl, Below.refl _ _⟩
  case round =>
   obtain ⟨m, hm, rfl, HE, hbl⟩ := hrel
   by_cases hlt : m < a.length
   ·have hltb : m < b.length := by have := HN.out; omega
    obtain ⟨ga, hqa, hga, hxa⟩ := HCA.out m hlt
    obtain ⟨gb, hqb, hgb, hxb⟩ := HCB.out m hltb
    subst hqa hqb
    have cA := (hbl.cell (p := ⟨ga, m, none⟩) hga).trans hxa
    have cB := (hbl.cell (p := ⟨gb, m, none⟩) hgb).trans hxb
    have hi0 : (0 : Int) ≤ (m : Int) := by omega
    have hi1 : (m : Int) < (a.length : Int) := by omega
    have hi2 : (m : Int) < (b.length : Int) := by omega
    have HTA : Hid (a.take (m + 1) = a.take m ++ [a[m]]) := List.take_succ_eq_append_getElem hlt
    have HTB : Hid (b.take (m + 1) = b.take m ++ [b[m]]) := List.take_succ_eq_append_getElem hltb
    have HNE : Hid (a[m] ≠ b[m] → a ≠ b) := by
     intro h e
     subst e
     exact h rfl
    clear hxa hxb
    generalize a[m] = x at cA HTA HNE
    generalize b[m] = y at cB HTB HNE
    by_cases hxy : x = y
    ·subst hxy
     have hs1 : (x.toList == x.toList) = true := by simp
     have hs2 : (x.toList != x.toList) = false := by simp
     have HNX : Hid (a.take (m + 1) = b.take (m + 1)) := by rw [Hid, HTA.out, HTB.out, HE.out]
     go_wp2
     go_region
     go_wp2
     exact ⟨⟨m + 1, by omega, by go_num, HNX, hbl.drew⟩, by simp [intOf]; omega⟩
    ·obtain ⟨hs1, hs2⟩ := ba_ne hxy
     have HD : Hid (D = false) := by rw [Hid, ← HDE.out, decide_eq_false_iff_not]; exact HNE.out hxy
     clear hxy
     go_wp2
     go_region
     go_wp2
     go_ret
     exact ⟨by rw [HD.out]; rfl, hbl.drew⟩
   ·obtain rfl : m = a.length := by omega
    have hab : a = b := by
     have := HE.out
     rw [List.take_length] at this
     rw [HN.out, List.take_length] at this
     exact this
    have HD : Hid (D = true) := by rw [Hid, ← HDE.out, decide_eq_true_iff]; exact hab
    clear hab
    go_wp2
    go_ret
    exact ⟨by rw [HD.out]; rfl, hbl⟩
 ·have HD : Hid (D = false) := by rw [Hid, ← HDE.out, decide_eq_false_iff_not]; exact fun e => hn (by rw [e])
  have hnb : ((a.length : Int) != (b.length : Int)) = true := by rw [bne_iff_ne]; omega
  clear hn
  go_enter Tryz.func50, Tryz.ntmps50
  go_wp2
  go_ret
  exact ⟨by rw [HD.out]; rfl, Below.refl _ _⟩
noncomputable def joinR (k : Int) (R : Option (List ByteArray)) : Option ByteArray := match R with
 | none => none
 | some ps => if splitR k (cat ps) = some ps then some (cat ps) else none
end Go.Proofs.YthionnpohcgoaaaGreatDoor
/- bytesOf: a number as one, two or four bytes. -/
namespace Go.Proofs.YthionnpohcgoaaaGreatDoor
open Go.RowKit
def bytesB (n w : Nat) : List UInt8 := (List.range w).map fun i => UInt8.ofNat (n / 256 ^ (w - 1 - i))
theorem byte_back (q : Nat) (b : UInt8) (h : q % 256 = b.toNat) : UInt8.ofNat q = b := by
 apply UInt8.toNat_inj.1
 rw [UInt8.toNat_ofNat']
 exact h
theorem bytesB1 (n : Nat) : bytesB n 1 = [UInt8.ofNat n] := by simp [bytesB, List.range_succ]
theorem bytesB2 (n : Nat) : bytesB n 2 = [UInt8.ofNat (n / 256), UInt8.ofNat n] := by simp [bytesB, List.range_succ]
theorem bytesB4 (n : Nat) : bytesB n 4 = [UInt8.ofNat (n / 16777216), UInt8.ofNat (n / 65536), UInt8.ofNat (n / 256), UInt8.ofNat n] := by simp [bytesB, List.range_succ]
theorem bytesB_num (l : List UInt8) (h : l.length = 1 ∨ l.length = 2 ∨ l.length = 4) : bytesB (numB l) l.length = l := by
 rcases h with h | h | h
 ·match l, h with
  | [a], _ =>
   have ha := a.toNat_lt
   rw [show [a].length = 1 from rfl, bytesB1, byte_back (numB [a]) a (by simp only [numB, List.foldl]; omega)]
 ·match l, h with
  | [a, b], _ =>
   have ha := a.toNat_lt
   have hb := b.toNat_lt
   rw [show [a, b].length = 2 from rfl, bytesB2, byte_back (numB [a, b] / 256) a (by simp only [numB, List.foldl]; omega), byte_back (numB [a, b]) b (by simp only [numB, List.foldl]; omega)]
 ·match l, h with
  | [a, b, c, d], _ =>
   have ha := a.toNat_lt
   have hb := b.toNat_lt
   have hc := c.toNat_lt
   have hd := d.toNat_lt
   rw [show [a, b, c, d].length = 4 from rfl, bytesB4, byte_back (numB [a, b, c, d] / 16777216) a (by simp only [numB, List.foldl]; omega), byte_back (numB [a, b, c, d] / 65536) b (by simp only [numB, List.foldl]; omega), byte_back (numB [a, b, c, d] / 256) c (by simp only [numB, List.foldl]; omega), byte_back (numB [a, b, c, d]) d (by simp only [numB, List.foldl]; omega)]
theorem cells_put {W : World} {b j : Nat} {cs : Array Value} {t : TypeId} (h : W.heap[b]? = some (.cells cs t (0, 0))) (u : Value) : (W.setCell ⟨b, j, none⟩ u).heap[b]? = some (.cells (cs.setIfInBounds j u) t (0, 0)) := by
 simp only [World.setCell, Array.getElem?_modify, h]
 rfl
theorem cells_at {W : World} {b j : Nat} {cs : Array Value} {t : TypeId} {v : Value} (h : W.heap[b]? = some (.cells cs t (0, 0))) (hj : cs[j]? = some v) : W.cell? ⟨b, j, none⟩ = some v ∧ W.frozen? ⟨b, j, none⟩ = false := by
 simp [World.cell?, World.frozen?, h, hj]
end Go.Proofs.YthionnpohcgoaaaGreatDoor
/- DNSKEY: taken apart, and put together. -/
namespace Go.Proofs.YthionnpohcgoaaaGreatDoor
open Go.RowKit
end Go.Proofs.YthionnpohcgoaaaGreatDoor
/- RRSIG: taken apart, and put together. -/
namespace Go.Proofs.YthionnpohcgoaaaGreatDoor
open Go.RowKit
theorem heap_drewS (X : World) : X.drew.heap = X.heap := rfl
def TakeSig (d : ByteArray) (v : Value) (er : Int) : Prop := ∃ (n0 n1 n2 n3 n4 n5 n6 : Nat) (s7 s8 : ByteArray), v = .agg #[.int .i64 ((n0 : Nat) : Int), .int .i64 ((n1 : Nat) : Int), .int .i64 ((n2 : Nat) : Int), .int .i64 ((n3 : Nat) : Int), .int .i64 ((n4 : Nat) : Int), .int .i64 ((n5 : Nat) : Int), .int .i64 ((n6 : Nat) : Int), .string s7, .string s8] ∧ (n0 < 65536 ∧ n1 < 256 ∧ n2 < 256 ∧ n3 < 4294967296 ∧ n4 < 4294967296 ∧ n5 < 4294967296 ∧ n6 < 65536 ∧ s7.size ≤ 2000 ∧ s8.size ≤ 2000) ∧ (er = 0 → joinR 46 (some [⟨(bytesB n0 2).toArray⟩, ⟨(bytesB n1 1).toArray⟩, ⟨(bytesB n2 1).toArray⟩, ⟨(bytesB n3 4).toArray⟩, ⟨(bytesB n4 4).toArray⟩, ⟨(bytesB n5 4).toArray⟩, ⟨(bytesB n6 2).toArray⟩, s7, s8]) = some d) ∧ (er = 0 ∨ (er = 6 ∧ splitR 46 d = none ∧ v = .agg #[.int .i64 0, .int .i64 0, .int .i64 0, .int .i64 0, .int .i64 0, .int .i64 0, .int .i64 0, .string ⟨#[]⟩, .string ⟨#[]⟩]))
theorem takeSig_ok (d p0 p1 p2 p3 p4 p5 p6 p7 p8 : ByteArray) (h : splitR 46 d = some [p0, p1, p2, p3, p4, p5, p6, p7, p8]) : TakeSig d (.agg #[.int .i64 ((numB p0.data.toList : Nat) : Int), .int .i64 ((numB p1.data.toList : Nat) : Int), .int .i64 ((numB p2.data.toList : Nat) : Int), .int .i64 ((numB p3.data.toList : Nat) : Int), .int .i64 ((numB p4.data.toList : Nat) : Int), .int .i64 ((numB p5.data.toList : Nat) : Int), .int .i64 ((numB p6.data.toList : Nat) : Int), .string p7, .string p8]) 0 ∧ (p0.size ≤ 7 ∧ p1.size ≤ 7 ∧ p2.size ≤ 7 ∧ p3.size ≤ 7 ∧ p4.size ≤ 7 ∧ p5.size ≤ 7 ∧ p6.size ≤ 7 ∧ p7.size ≤ 2000 ∧ p8.size ≤ 2000) := by
 obtain ⟨hk, hs, hd, hg⟩ := (split_iff 46 d _).1 h
 have hg' : p0.size = 2 ∧ p1.size = 1 ∧ p2.size = 1 ∧ p3.size = 4 ∧ p4.size = 4 ∧ p5.size = 4 ∧ p6.size = 2 ∧ IsName p7 ∧ 0 < p8.size ∧ True := hg
 have hcs : p0.size + p1.size + p2.size + p3.size + p4.size + p5.size + p6.size + p7.size + p8.size ≤ 2000 := by
  rw [hd] at hs
  simp only [cat, app_size] at hs
  have : (⟨#[]⟩ : ByteArray).size = 0 := rfl
  omega
 have e0 : (⟨(bytesB (numB p0.data.toList) 2).toArray⟩ : ByteArray) = p0 := by
  apply ba_ext
  have := bytesB_num p0.data.toList (by rw [size_list]; omega)
  rw [size_list, show p0.size = 2 by omega] at this
  exact this
 have e1 : (⟨(bytesB (numB p1.data.toList) 1).toArray⟩ : ByteArray) = p1 := by
  apply ba_ext
  have := bytesB_num p1.data.toList (by rw [size_list]; omega)
  rw [size_list, show p1.size = 1 by omega] at this
  exact this
 have e2 : (⟨(bytesB (numB p2.data.toList) 1).toArray⟩ : ByteArray) = p2 := by
  apply ba_ext
  have := bytesB_num p2.data.toList (by rw [size_list]; omega)
  rw [size_list, show p2.size = 1 by omega] at this
  exact this
 have e3 : (⟨(bytesB (numB p3.data.toList) 4).toArray⟩ : ByteArray) = p3 := by
  apply ba_ext
  have := bytesB_num p3.data.toList (by rw [size_list]; omega)
  rw [size_list, show p3.size = 4 by omega] at this
  exact this
 have e4 : (⟨(bytesB (numB p4.data.toList) 4).toArray⟩ : ByteArray) = p4 := by
  apply ba_ext
  have := bytesB_num p4.data.toList (by rw [size_list]; omega)
  rw [size_list, show p4.size = 4 by omega] at this
  exact this
 have e5 : (⟨(bytesB (numB p5.data.toList) 4).toArray⟩ : ByteArray) = p5 := by
  apply ba_ext
  have := bytesB_num p5.data.toList (by rw [size_list]; omega)
  rw [size_list, show p5.size = 4 by omega] at this
  exact this
 have e6 : (⟨(bytesB (numB p6.data.toList) 2).toArray⟩ : ByteArray) = p6 := by
  apply ba_ext
  have := bytesB_num p6.data.toList (by rw [size_list]; omega)
  rw [size_list, show p6.size = 2 by omega] at this
  exact this
 have l0 : numB p0.data.toList < 65536 := by
  have := numB_lt p0.data.toList
  rw [size_list, show p0.size = 2 by omega] at this
  simpa using this
 have l1 : numB p1.data.toList < 256 := by
  have := numB_lt p1.data.toList
  rw [size_list, show p1.size = 1 by omega] at this
  simpa using this
 have l2 : numB p2.data.toList < 256 := by
  have := numB_lt p2.data.toList
  rw [size_list, show p2.size = 1 by omega] at this
  simpa using this
 have l3 : numB p3.data.toList < 4294967296 := by
  have := numB_lt p3.data.toList
  rw [size_list, show p3.size = 4 by omega] at this
  simpa using this
 have l4 : numB p4.data.toList < 4294967296 := by
  have := numB_lt p4.data.toList
  rw [size_list, show p4.size = 4 by omega] at this
  simpa using this
 have l5 : numB p5.data.toList < 4294967296 := by
  have := numB_lt p5.data.toList
  rw [size_list, show p5.size = 4 by omega] at this
  simpa using this
 have l6 : numB p6.data.toList < 65536 := by
  have := numB_lt p6.data.toList
  rw [size_list, show p6.size = 2 by omega] at this
  simpa using this
 refine ⟨⟨numB p0.data.toList, numB p1.data.toList, numB p2.data.toList, numB p3.data.toList, numB p4.data.toList, numB p5.data.toList, numB p6.data.toList, p7, p8, rfl, ⟨l0, l1, l2, l3, l4, l5, l6, by omega, by omega⟩, fun _ => ?_, .inl rfl⟩, by omega, by omega, by omega, by omega, by omega, by omega, by omega, by omega, by omega⟩
 rw [e0, e1, e2, e3, e4, e5, e6, joinR, ← hd, h]
 exact if_pos rfl
set_option maxRecDepth 100000 in
set_option maxHeartbeats 4000000 in
theorem takeSig_in (d : ByteArray) (hm : d.size ≤ maxLen) (W : World) :
  Calls Tryz.prog 103 #[.string d] W fun e w' => (∃ v er, e = .returned (.tuple #[v, .int .i64 er]) ∧ TakeSig d v er) ∧ Below W.heap.size W w' := by
 have HS := Hid.mk (split_all 46 d hm)
 have hmo : Tryz.prog.follows Departure.mixedOrders = true := by kernel_rfl
 have HN := Hid.mk number_in
 cases hsp : splitR 46 d with
 | none =>
  rw [hsp] at HS
  have HSP := Hid.mk hsp
  clear hsp
  go_enter Tryz.func103, Tryz.ntmps103
  go_wp2_with fail
  refine (HS.out _).mono ?_
  rintro e w1 ⟨rfl, hb1⟩
  have hbx := (hb1.block _ (by simp)).trans (heap_new W (.cells #[.int .i64 0, .int .i64 0, .int .i64 0, .int .i64 0, .int .i64 0, .int .i64 0, .int .i64 0, .string ⟨#[]⟩, .string ⟨#[]⟩] 109))
  obtain ⟨a0, f0⟩ := cells_at (v := .int .i64 0) (j := 0) hbx rfl
  obtain ⟨a1, f1⟩ := cells_at (v := .int .i64 0) (j := 1) hbx rfl
  obtain ⟨a2, f2⟩ := cells_at (v := .int .i64 0) (j := 2) hbx rfl
  obtain ⟨a3, f3⟩ := cells_at (v := .int .i64 0) (j := 3) hbx rfl
  obtain ⟨a4, f4⟩ := cells_at (v := .int .i64 0) (j := 4) hbx rfl
  obtain ⟨a5, f5⟩ := cells_at (v := .int .i64 0) (j := 5) hbx rfl
  obtain ⟨a6, f6⟩ := cells_at (v := .int .i64 0) (j := 6) hbx rfl
  obtain ⟨a7, f7⟩ := cells_at (v := .string ⟨#[]⟩) (j := 7) hbx rfl
  obtain ⟨a8, f8⟩ := cells_at (v := .string ⟨#[]⟩) (j := 8) hbx rfl
  have HBX := Hid.mk hbx
  clear hbx
  go_wp2
  have st0 : (w1.setCell ⟨W.heap.size, 0, none⟩ (.int .i64 0)).heap[W.heap.size]? = some (.cells #[.int .i64 0, .int .i64 0, .int .i64 0, .int .i64 0, .int .i64 0, .int .i64 0, .int .i64 0, .string ⟨#[]⟩, .string ⟨#[]⟩] 109 (0, 0)) := cells_put (j := 0) HBX.out (.int .i64 0)
  have st1 : ((w1.setCell ⟨W.heap.size, 0, none⟩ (.int .i64 0)).setCell ⟨W.heap.size, 1, none⟩ (.int .i64 0)).heap[W.heap.size]? = some (.cells #[.int .i64 0, .int .i64 0, .int .i64 0, .int .i64 0, .int .i64 0, .int .i64 0, .int .i64 0, .string ⟨#[]⟩, .string ⟨#[]⟩] 109 (0, 0)) := cells_put (j := 1) st0 (.int .i64 0)
  have st2 : (((w1.setCell ⟨W.heap.size, 0, none⟩ (.int .i64 0)).setCell ⟨W.heap.size, 1, none⟩ (.int .i64 0)).setCell ⟨W.heap.size, 2, none⟩ (.int .i64 0)).heap[W.heap.size]? = some (.cells #[.int .i64 0, .int .i64 0, .int .i64 0, .int .i64 0, .int .i64 0, .int .i64 0, .int .i64 0, .string ⟨#[]⟩, .string ⟨#[]⟩] 109 (0, 0)) := cells_put (j := 2) st1 (.int .i64 0)
  have st3 : ((((w1.setCell ⟨W.heap.size, 0, none⟩ (.int .i64 0)).setCell ⟨W.heap.size, 1, none⟩ (.int .i64 0)).setCell ⟨W.heap.size, 2, none⟩ (.int .i64 0)).setCell ⟨W.heap.size, 3, none⟩ (.int .i64 0)).heap[W.heap.size]? = some (.cells #[.int .i64 0, .int .i64 0, .int .i64 0, .int .i64 0, .int .i64 0, .int .i64 0, .int .i64 0, .string ⟨#[]⟩, .string ⟨#[]⟩] 109 (0, 0)) := cells_put (j := 3) st2 (.int .i64 0)
  have st4 : (((((w1.setCell ⟨W.heap.size, 0, none⟩ (.int .i64 0)).setCell ⟨W.heap.size, 1, none⟩ (.int .i64 0)).setCell ⟨W.heap.size, 2, none⟩ (.int .i64 0)).setCell ⟨W.heap.size, 3, none⟩ (.int .i64 0)).setCell ⟨W.heap.size, 4, none⟩ (.int .i64 0)).heap[W.heap.size]? = some (.cells #[.int .i64 0, .int .i64 0, .int .i64 0, .int .i64 0, .int .i64 0, .int .i64 0, .int .i64 0, .string ⟨#[]⟩, .string ⟨#[]⟩] 109 (0, 0)) := cells_put (j := 4) st3 (.int .i64 0)
  have st5 : ((((((w1.setCell ⟨W.heap.size, 0, none⟩ (.int .i64 0)).setCell ⟨W.heap.size, 1, none⟩ (.int .i64 0)).setCell ⟨W.heap.size, 2, none⟩ (.int .i64 0)).setCell ⟨W.heap.size, 3, none⟩ (.int .i64 0)).setCell ⟨W.heap.size, 4, none⟩ (.int .i64 0)).setCell ⟨W.heap.size, 5, none⟩ (.int .i64 0)).heap[W.heap.size]? = some (.cells #[.int .i64 0, .int .i64 0, .int .i64 0, .int .i64 0, .int .i64 0, .int .i64 0, .int .i64 0, .string ⟨#[]⟩, .string ⟨#[]⟩] 109 (0, 0)) := cells_put (j := 5) st4 (.int .i64 0)
  have st6 : (((((((w1.setCell ⟨W.heap.size, 0, none⟩ (.int .i64 0)).setCell ⟨W.heap.size, 1, none⟩ (.int .i64 0)).setCell ⟨W.heap.size, 2, none⟩ (.int .i64 0)).setCell ⟨W.heap.size, 3, none⟩ (.int .i64 0)).setCell ⟨W.heap.size, 4, none⟩ (.int .i64 0)).setCell ⟨W.heap.size, 5, none⟩ (.int .i64 0)).setCell ⟨W.heap.size, 6, none⟩ (.int .i64 0)).heap[W.heap.size]? = some (.cells #[.int .i64 0, .int .i64 0, .int .i64 0, .int .i64 0, .int .i64 0, .int .i64 0, .int .i64 0, .string ⟨#[]⟩, .string ⟨#[]⟩] 109 (0, 0)) := cells_put (j := 6) st5 (.int .i64 0)
  have st7 : ((((((((w1.setCell ⟨W.heap.size, 0, none⟩ (.int .i64 0)).setCell ⟨W.heap.size, 1, none⟩ (.int .i64 0)).setCell ⟨W.heap.size, 2, none⟩ (.int .i64 0)).setCell ⟨W.heap.size, 3, none⟩ (.int .i64 0)).setCell ⟨W.heap.size, 4, none⟩ (.int .i64 0)).setCell ⟨W.heap.size, 5, none⟩ (.int .i64 0)).setCell ⟨W.heap.size, 6, none⟩ (.int .i64 0)).setCell ⟨W.heap.size, 7, none⟩ (.string ⟨#[]⟩)).heap[W.heap.size]? = some (.cells #[.int .i64 0, .int .i64 0, .int .i64 0, .int .i64 0, .int .i64 0, .int .i64 0, .int .i64 0, .string ⟨#[]⟩, .string ⟨#[]⟩] 109 (0, 0)) := cells_put (j := 7) st6 (.string ⟨#[]⟩)
  have st8 : (((((((((w1.setCell ⟨W.heap.size, 0, none⟩ (.int .i64 0)).setCell ⟨W.heap.size, 1, none⟩ (.int .i64 0)).setCell ⟨W.heap.size, 2, none⟩ (.int .i64 0)).setCell ⟨W.heap.size, 3, none⟩ (.int .i64 0)).setCell ⟨W.heap.size, 4, none⟩ (.int .i64 0)).setCell ⟨W.heap.size, 5, none⟩ (.int .i64 0)).setCell ⟨W.heap.size, 6, none⟩ (.int .i64 0)).setCell ⟨W.heap.size, 7, none⟩ (.string ⟨#[]⟩)).setCell ⟨W.heap.size, 8, none⟩ (.string ⟨#[]⟩)).heap[W.heap.size]? = some (.cells #[.int .i64 0, .int .i64 0, .int .i64 0, .int .i64 0, .int .i64 0, .int .i64 0, .int .i64 0, .string ⟨#[]⟩, .string ⟨#[]⟩] 109 (0, 0)) := cells_put (j := 8) st7 (.string ⟨#[]⟩)
  have hfin : ((((((((((w1.setCell ⟨W.heap.size, 0, none⟩ (.int .i64 0)).setCell ⟨W.heap.size, 1, none⟩ (.int .i64 0)).setCell ⟨W.heap.size, 2, none⟩ (.int .i64 0)).setCell ⟨W.heap.size, 3, none⟩ (.int .i64 0)).setCell ⟨W.heap.size, 4, none⟩ (.int .i64 0)).setCell ⟨W.heap.size, 5, none⟩ (.int .i64 0)).setCell ⟨W.heap.size, 6, none⟩ (.int .i64 0)).setCell ⟨W.heap.size, 7, none⟩ (.string ⟨#[]⟩)).setCell ⟨W.heap.size, 8, none⟩ (.string ⟨#[]⟩))).heap[W.heap.size]? = some (.cells #[.int .i64 0, .int .i64 0, .int .i64 0, .int .i64 0, .int .i64 0, .int .i64 0, .int .i64 0, .string ⟨#[]⟩, .string ⟨#[]⟩] 109 (0, 0)) := st8
  refine bodyPost_ret (v := .tuple #[.agg #[.int .i64 0, .int .i64 0, .int .i64 0, .int .i64 0, .int .i64 0, .int .i64 0, .int .i64 0, .string ⟨#[]⟩, .string ⟨#[]⟩], .int .i64 6]) (by simp [results, Tryz.results103, go_sem, (cells_at (v := .int .i64 0) (j := 0) hfin rfl).1, (cells_at (v := .int .i64 0) (j := 1) hfin rfl).1, (cells_at (v := .int .i64 0) (j := 2) hfin rfl).1, (cells_at (v := .int .i64 0) (j := 3) hfin rfl).1, (cells_at (v := .int .i64 0) (j := 4) hfin rfl).1, (cells_at (v := .int .i64 0) (j := 5) hfin rfl).1, (cells_at (v := .int .i64 0) (j := 6) hfin rfl).1, (cells_at (v := .string ⟨#[]⟩) (j := 7) hfin rfl).1, (cells_at (v := .string ⟨#[]⟩) (j := 8) hfin rfl).1]) rfl ⟨⟨_, _, rfl, 0, 0, 0, 0, 0, 0, 0, ⟨#[]⟩, ⟨#[]⟩, rfl, ⟨by decide, by decide, by decide, by decide, by decide, by decide, by decide, by decide, by decide⟩, (fun h => by cases h), .inr ⟨rfl, HSP.out, rfl⟩⟩, ?_⟩
  exact ((((((((((((Below.refl _ _).alloc (Nat.le_refl _) _).trans (hb1.mono (by simp)))).setCell (p := ⟨W.heap.size, 0, none⟩) (Nat.le_refl _) _).setCell (p := ⟨W.heap.size, 1, none⟩) (Nat.le_refl _) _).setCell (p := ⟨W.heap.size, 2, none⟩) (Nat.le_refl _) _).setCell (p := ⟨W.heap.size, 3, none⟩) (Nat.le_refl _) _).setCell (p := ⟨W.heap.size, 4, none⟩) (Nat.le_refl _) _).setCell (p := ⟨W.heap.size, 5, none⟩) (Nat.le_refl _) _).setCell (p := ⟨W.heap.size, 6, none⟩) (Nat.le_refl _) _).setCell (p := ⟨W.heap.size, 7, none⟩) (Nat.le_refl _) _).setCell (p := ⟨W.heap.size, 8, none⟩) (Nat.le_refl _) _
 | some ps =>
  obtain ⟨p0, p1, p2, p3, p4, p5, p6, p7, p8, hps⟩ : ∃ p0 p1 p2 p3 p4 p5 p6 p7 p8, ps = [p0, p1, p2, p3, p4, p5, p6, p7, p8] := by
   have hl := ((split_iff 46 d ps).1 hsp).2.2.2.len
   match ps, hl with
   | [p0, p1, p2, p3, p4, p5, p6, p7, p8], _ => exact ⟨_, _, _, _, _, _, _, _, _, rfl⟩
  subst hps
  obtain ⟨hT, z0, z1, z2, z3, z4, z5, z6, z7, z8⟩ := takeSig_ok d p0 p1 p2 p3 p4 p5 p6 p7 p8 hsp
  rw [hsp] at HS
  clear hsp
  have HN0 := Hid.mk (number_in p0 z0)
  generalize numB p0.data.toList = m0 at HN0 hT
  have HN1 := Hid.mk (number_in p1 z1)
  generalize numB p1.data.toList = m1 at HN1 hT
  have HN2 := Hid.mk (number_in p2 z2)
  generalize numB p2.data.toList = m2 at HN2 hT
  have HN3 := Hid.mk (number_in p3 z3)
  generalize numB p3.data.toList = m3 at HN3 hT
  have HN4 := Hid.mk (number_in p4 z4)
  generalize numB p4.data.toList = m4 at HN4 hT
  have HN5 := Hid.mk (number_in p5 z5)
  generalize numB p5.data.toList = m5 at HN5 hT
  have HN6 := Hid.mk (number_in p6 z6)
  generalize numB p6.data.toList = m6 at HN6 hT
  have HT := Hid.mk hT
  clear hT
  go_enter Tryz.func103, Tryz.ntmps103
  go_wp2_with fail
  refine (HS.out _).mono ?_
  rintro e w1 ⟨⟨v, rfl, hrow⟩, hb1⟩
  obtain ⟨q, c, hv⟩ := row_as hrow
  subst hv
  obtain ⟨g, hq, _, _⟩ := row_cell hrow 0 (by simp)
  subst hq
  obtain ⟨_, _, hgb⟩ := row_frozen (j := 0) hrow (by simp)
  simp only [World.size_alloc] at hgb
  have hgne : g ≠ W.heap.size := by omega
  have hoff : ∀ (X : World) (j i : Nat) (v : Value), (X.setCell ⟨W.heap.size, j, none⟩ v).cell? ⟨g, i, none⟩ = X.cell? ⟨g, i, none⟩ := fun X j i v => by simp only [World.cell?, Below.heap_setCell X ⟨W.heap.size, j, none⟩ v g hgne]
  have hdr : ∀ (X : World) (i : Nat), X.drew.cell? ⟨g, i, none⟩ = X.cell? ⟨g, i, none⟩ := fun _ _ => rfl
  have r0 : w1.cell? ⟨g, 0, none⟩ = some (.string p0) := row_at hrow 0 p0 rfl
  have r1 : w1.cell? ⟨g, 1, none⟩ = some (.string p1) := row_at hrow 1 p1 rfl
  have r2 : w1.cell? ⟨g, 2, none⟩ = some (.string p2) := row_at hrow 2 p2 rfl
  have r3 : w1.cell? ⟨g, 3, none⟩ = some (.string p3) := row_at hrow 3 p3 rfl
  have r4 : w1.cell? ⟨g, 4, none⟩ = some (.string p4) := row_at hrow 4 p4 rfl
  have r5 : w1.cell? ⟨g, 5, none⟩ = some (.string p5) := row_at hrow 5 p5 rfl
  have r6 : w1.cell? ⟨g, 6, none⟩ = some (.string p6) := row_at hrow 6 p6 rfl
  have r7 : w1.cell? ⟨g, 7, none⟩ = some (.string p7) := row_at hrow 7 p7 rfl
  have r8 : w1.cell? ⟨g, 8, none⟩ = some (.string p8) := row_at hrow 8 p8 rfl
  have hbx := (hb1.block _ (by simp)).trans (heap_new W (.cells #[.int .i64 0, .int .i64 0, .int .i64 0, .int .i64 0, .int .i64 0, .int .i64 0, .int .i64 0, .string ⟨#[]⟩, .string ⟨#[]⟩] 109))
  obtain ⟨a0, f0⟩ := cells_at (v := .int .i64 0) (j := 0) hbx rfl
  obtain ⟨a1, f1⟩ := cells_at (v := .int .i64 0) (j := 1) hbx rfl
  obtain ⟨a2, f2⟩ := cells_at (v := .int .i64 0) (j := 2) hbx rfl
  obtain ⟨a3, f3⟩ := cells_at (v := .int .i64 0) (j := 3) hbx rfl
  obtain ⟨a4, f4⟩ := cells_at (v := .int .i64 0) (j := 4) hbx rfl
  obtain ⟨a5, f5⟩ := cells_at (v := .int .i64 0) (j := 5) hbx rfl
  obtain ⟨a6, f6⟩ := cells_at (v := .int .i64 0) (j := 6) hbx rfl
  obtain ⟨a7, f7⟩ := cells_at (v := .string ⟨#[]⟩) (j := 7) hbx rfl
  obtain ⟨a8, f8⟩ := cells_at (v := .string ⟨#[]⟩) (j := 8) hbx rfl
  have HBX := Hid.mk hbx
  have mk0 : True := trivial
  clear hbx hrow
  go_wp2
  go_region_held3 (fun w' => w'.cell? ⟨g, 0, none⟩ = some (.string p0) ∧ w'.cell? ⟨g, 1, none⟩ = some (.string p1) ∧ w'.cell? ⟨g, 2, none⟩ = some (.string p2) ∧ w'.cell? ⟨g, 3, none⟩ = some (.string p3) ∧ w'.cell? ⟨g, 4, none⟩ = some (.string p4) ∧ w'.cell? ⟨g, 5, none⟩ = some (.string p5) ∧ w'.cell? ⟨g, 6, none⟩ = some (.string p6) ∧ w'.cell? ⟨g, 7, none⟩ = some (.string p7) ∧ w'.cell? ⟨g, 8, none⟩ = some (.string p8)) (first | ((repeat' apply And.intro) <;> (first | (simp only [hoff, hdr]; with_reducible assumption) | with_reducible assumption)) | go_keep)
   (first | (have hck := mk6; clear hck; go_at_call 117; refine (HN6.out _).mono ?_; rintro e x7 ⟨rfl, rfl⟩; have mk7 : True := trivial) | (have hck := mk5; clear hck; go_at_call 117; refine (HN5.out _).mono ?_; rintro e x6 ⟨rfl, rfl⟩; have mk6 : True := trivial) | (have hck := mk4; clear hck; go_at_call 117; refine (HN4.out _).mono ?_; rintro e x5 ⟨rfl, rfl⟩; have mk5 : True := trivial) | (have hck := mk3; clear hck; go_at_call 117; refine (HN3.out _).mono ?_; rintro e x4 ⟨rfl, rfl⟩; have mk4 : True := trivial) | (have hck := mk2; clear hck; go_at_call 117; refine (HN2.out _).mono ?_; rintro e x3 ⟨rfl, rfl⟩; have mk3 : True := trivial) | (have hck := mk1; clear hck; go_at_call 117; refine (HN1.out _).mono ?_; rintro e x2 ⟨rfl, rfl⟩; have mk2 : True := trivial) | (have hck := mk0; clear hck; go_at_call 117; refine (HN0.out _).mono ?_; rintro e x1 ⟨rfl, rfl⟩; have mk1 : True := trivial))
  go_wp2
  have st0 : (w1.setCell ⟨W.heap.size, 0, none⟩ (.int .i64 ((m0 : Nat) : Int))).heap[W.heap.size]? = some (.cells #[.int .i64 ((m0 : Nat) : Int), .int .i64 0, .int .i64 0, .int .i64 0, .int .i64 0, .int .i64 0, .int .i64 0, .string ⟨#[]⟩, .string ⟨#[]⟩] 109 (0, 0)) := cells_put (j := 0) HBX.out (.int .i64 ((m0 : Nat) : Int))
  have st1 : ((w1.setCell ⟨W.heap.size, 0, none⟩ (.int .i64 ((m0 : Nat) : Int))).setCell ⟨W.heap.size, 1, none⟩ (.int .i64 ((m1 : Nat) : Int))).heap[W.heap.size]? = some (.cells #[.int .i64 ((m0 : Nat) : Int), .int .i64 ((m1 : Nat) : Int), .int .i64 0, .int .i64 0, .int .i64 0, .int .i64 0, .int .i64 0, .string ⟨#[]⟩, .string ⟨#[]⟩] 109 (0, 0)) := cells_put (j := 1) st0 (.int .i64 ((m1 : Nat) : Int))
  have st2 : (((w1.setCell ⟨W.heap.size, 0, none⟩ (.int .i64 ((m0 : Nat) : Int))).setCell ⟨W.heap.size, 1, none⟩ (.int .i64 ((m1 : Nat) : Int))).setCell ⟨W.heap.size, 2, none⟩ (.int .i64 ((m2 : Nat) : Int))).heap[W.heap.size]? = some (.cells #[.int .i64 ((m0 : Nat) : Int), .int .i64 ((m1 : Nat) : Int), .int .i64 ((m2 : Nat) : Int), .int .i64 0, .int .i64 0, .int .i64 0, .int .i64 0, .string ⟨#[]⟩, .string ⟨#[]⟩] 109 (0, 0)) := cells_put (j := 2) st1 (.int .i64 ((m2 : Nat) : Int))
  have st3 : ((((w1.setCell ⟨W.heap.size, 0, none⟩ (.int .i64 ((m0 : Nat) : Int))).setCell ⟨W.heap.size, 1, none⟩ (.int .i64 ((m1 : Nat) : Int))).setCell ⟨W.heap.size, 2, none⟩ (.int .i64 ((m2 : Nat) : Int))).setCell ⟨W.heap.size, 3, none⟩ (.int .i64 ((m3 : Nat) : Int))).heap[W.heap.size]? = some (.cells #[.int .i64 ((m0 : Nat) : Int), .int .i64 ((m1 : Nat) : Int), .int .i64 ((m2 : Nat) : Int), .int .i64 ((m3 : Nat) : Int), .int .i64 0, .int .i64 0, .int .i64 0, .string ⟨#[]⟩, .string ⟨#[]⟩] 109 (0, 0)) := cells_put (j := 3) st2 (.int .i64 ((m3 : Nat) : Int))
  have st4 : (((((w1.setCell ⟨W.heap.size, 0, none⟩ (.int .i64 ((m0 : Nat) : Int))).setCell ⟨W.heap.size, 1, none⟩ (.int .i64 ((m1 : Nat) : Int))).setCell ⟨W.heap.size, 2, none⟩ (.int .i64 ((m2 : Nat) : Int))).setCell ⟨W.heap.size, 3, none⟩ (.int .i64 ((m3 : Nat) : Int))).setCell ⟨W.heap.size, 4, none⟩ (.int .i64 ((m4 : Nat) : Int))).heap[W.heap.size]? = some (.cells #[.int .i64 ((m0 : Nat) : Int), .int .i64 ((m1 : Nat) : Int), .int .i64 ((m2 : Nat) : Int), .int .i64 ((m3 : Nat) : Int), .int .i64 ((m4 : Nat) : Int), .int .i64 0, .int .i64 0, .string ⟨#[]⟩, .string ⟨#[]⟩] 109 (0, 0)) := cells_put (j := 4) st3 (.int .i64 ((m4 : Nat) : Int))
  have st5 : ((((((w1.setCell ⟨W.heap.size, 0, none⟩ (.int .i64 ((m0 : Nat) : Int))).setCell ⟨W.heap.size, 1, none⟩ (.int .i64 ((m1 : Nat) : Int))).setCell ⟨W.heap.size, 2, none⟩ (.int .i64 ((m2 : Nat) : Int))).setCell ⟨W.heap.size, 3, none⟩ (.int .i64 ((m3 : Nat) : Int))).setCell ⟨W.heap.size, 4, none⟩ (.int .i64 ((m4 : Nat) : Int))).setCell ⟨W.heap.size, 5, none⟩ (.int .i64 ((m5 : Nat) : Int))).heap[W.heap.size]? = some (.cells #[.int .i64 ((m0 : Nat) : Int), .int .i64 ((m1 : Nat) : Int), .int .i64 ((m2 : Nat) : Int), .int .i64 ((m3 : Nat) : Int), .int .i64 ((m4 : Nat) : Int), .int .i64 ((m5 : Nat) : Int), .int .i64 0, .string ⟨#[]⟩, .string ⟨#[]⟩] 109 (0, 0)) := cells_put (j := 5) st4 (.int .i64 ((m5 : Nat) : Int))
  have st6 : (((((((w1.setCell ⟨W.heap.size, 0, none⟩ (.int .i64 ((m0 : Nat) : Int))).setCell ⟨W.heap.size, 1, none⟩ (.int .i64 ((m1 : Nat) : Int))).setCell ⟨W.heap.size, 2, none⟩ (.int .i64 ((m2 : Nat) : Int))).setCell ⟨W.heap.size, 3, none⟩ (.int .i64 ((m3 : Nat) : Int))).setCell ⟨W.heap.size, 4, none⟩ (.int .i64 ((m4 : Nat) : Int))).setCell ⟨W.heap.size, 5, none⟩ (.int .i64 ((m5 : Nat) : Int))).setCell ⟨W.heap.size, 6, none⟩ (.int .i64 ((m6 : Nat) : Int))).heap[W.heap.size]? = some (.cells #[.int .i64 ((m0 : Nat) : Int), .int .i64 ((m1 : Nat) : Int), .int .i64 ((m2 : Nat) : Int), .int .i64 ((m3 : Nat) : Int), .int .i64 ((m4 : Nat) : Int), .int .i64 ((m5 : Nat) : Int), .int .i64 ((m6 : Nat) : Int), .string ⟨#[]⟩, .string ⟨#[]⟩] 109 (0, 0)) := cells_put (j := 6) st5 (.int .i64 ((m6 : Nat) : Int))
  have st7 : ((((((((w1.setCell ⟨W.heap.size, 0, none⟩ (.int .i64 ((m0 : Nat) : Int))).setCell ⟨W.heap.size, 1, none⟩ (.int .i64 ((m1 : Nat) : Int))).setCell ⟨W.heap.size, 2, none⟩ (.int .i64 ((m2 : Nat) : Int))).setCell ⟨W.heap.size, 3, none⟩ (.int .i64 ((m3 : Nat) : Int))).setCell ⟨W.heap.size, 4, none⟩ (.int .i64 ((m4 : Nat) : Int))).setCell ⟨W.heap.size, 5, none⟩ (.int .i64 ((m5 : Nat) : Int))).setCell ⟨W.heap.size, 6, none⟩ (.int .i64 ((m6 : Nat) : Int))).setCell ⟨W.heap.size, 7, none⟩ (.string p7)).heap[W.heap.size]? = some (.cells #[.int .i64 ((m0 : Nat) : Int), .int .i64 ((m1 : Nat) : Int), .int .i64 ((m2 : Nat) : Int), .int .i64 ((m3 : Nat) : Int), .int .i64 ((m4 : Nat) : Int), .int .i64 ((m5 : Nat) : Int), .int .i64 ((m6 : Nat) : Int), .string p7, .string ⟨#[]⟩] 109 (0, 0)) := cells_put (j := 7) st6 (.string p7)
  have st8 : (((((((((w1.setCell ⟨W.heap.size, 0, none⟩ (.int .i64 ((m0 : Nat) : Int))).setCell ⟨W.heap.size, 1, none⟩ (.int .i64 ((m1 : Nat) : Int))).setCell ⟨W.heap.size, 2, none⟩ (.int .i64 ((m2 : Nat) : Int))).setCell ⟨W.heap.size, 3, none⟩ (.int .i64 ((m3 : Nat) : Int))).setCell ⟨W.heap.size, 4, none⟩ (.int .i64 ((m4 : Nat) : Int))).setCell ⟨W.heap.size, 5, none⟩ (.int .i64 ((m5 : Nat) : Int))).setCell ⟨W.heap.size, 6, none⟩ (.int .i64 ((m6 : Nat) : Int))).setCell ⟨W.heap.size, 7, none⟩ (.string p7)).setCell ⟨W.heap.size, 8, none⟩ (.string p8)).heap[W.heap.size]? = some (.cells #[.int .i64 ((m0 : Nat) : Int), .int .i64 ((m1 : Nat) : Int), .int .i64 ((m2 : Nat) : Int), .int .i64 ((m3 : Nat) : Int), .int .i64 ((m4 : Nat) : Int), .int .i64 ((m5 : Nat) : Int), .int .i64 ((m6 : Nat) : Int), .string p7, .string p8] 109 (0, 0)) := cells_put (j := 8) st7 (.string p8)
  have hfin : ((((((((((w1.setCell ⟨W.heap.size, 0, none⟩ (.int .i64 ((m0 : Nat) : Int))).setCell ⟨W.heap.size, 1, none⟩ (.int .i64 ((m1 : Nat) : Int))).setCell ⟨W.heap.size, 2, none⟩ (.int .i64 ((m2 : Nat) : Int))).setCell ⟨W.heap.size, 3, none⟩ (.int .i64 ((m3 : Nat) : Int))).setCell ⟨W.heap.size, 4, none⟩ (.int .i64 ((m4 : Nat) : Int))).setCell ⟨W.heap.size, 5, none⟩ (.int .i64 ((m5 : Nat) : Int))).setCell ⟨W.heap.size, 6, none⟩ (.int .i64 ((m6 : Nat) : Int))).setCell ⟨W.heap.size, 7, none⟩ (.string p7)).setCell ⟨W.heap.size, 8, none⟩ (.string p8))).drew.heap[W.heap.size]? = some (.cells #[.int .i64 ((m0 : Nat) : Int), .int .i64 ((m1 : Nat) : Int), .int .i64 ((m2 : Nat) : Int), .int .i64 ((m3 : Nat) : Int), .int .i64 ((m4 : Nat) : Int), .int .i64 ((m5 : Nat) : Int), .int .i64 ((m6 : Nat) : Int), .string p7, .string p8] 109 (0, 0)) := by rw [heap_drewS]; exact st8
  refine bodyPost_ret (v := .tuple #[.agg #[.int .i64 ((m0 : Nat) : Int), .int .i64 ((m1 : Nat) : Int), .int .i64 ((m2 : Nat) : Int), .int .i64 ((m3 : Nat) : Int), .int .i64 ((m4 : Nat) : Int), .int .i64 ((m5 : Nat) : Int), .int .i64 ((m6 : Nat) : Int), .string p7, .string p8], .int .i64 0]) (by simp [results, Tryz.results103, go_sem, (cells_at (v := .int .i64 ((m0 : Nat) : Int)) (j := 0) hfin rfl).1, (cells_at (v := .int .i64 ((m1 : Nat) : Int)) (j := 1) hfin rfl).1, (cells_at (v := .int .i64 ((m2 : Nat) : Int)) (j := 2) hfin rfl).1, (cells_at (v := .int .i64 ((m3 : Nat) : Int)) (j := 3) hfin rfl).1, (cells_at (v := .int .i64 ((m4 : Nat) : Int)) (j := 4) hfin rfl).1, (cells_at (v := .int .i64 ((m5 : Nat) : Int)) (j := 5) hfin rfl).1, (cells_at (v := .int .i64 ((m6 : Nat) : Int)) (j := 6) hfin rfl).1, (cells_at (v := .string p7) (j := 7) hfin rfl).1, (cells_at (v := .string p8) (j := 8) hfin rfl).1]) rfl ⟨⟨_, _, rfl, HT.out⟩, ?_⟩
  exact (((((((((((((Below.refl _ _).alloc (Nat.le_refl _) _).trans (hb1.mono (by simp)))).setCell (p := ⟨W.heap.size, 0, none⟩) (Nat.le_refl _) _).setCell (p := ⟨W.heap.size, 1, none⟩) (Nat.le_refl _) _).setCell (p := ⟨W.heap.size, 2, none⟩) (Nat.le_refl _) _).setCell (p := ⟨W.heap.size, 3, none⟩) (Nat.le_refl _) _).setCell (p := ⟨W.heap.size, 4, none⟩) (Nat.le_refl _) _).setCell (p := ⟨W.heap.size, 5, none⟩) (Nat.le_refl _) _).setCell (p := ⟨W.heap.size, 6, none⟩) (Nat.le_refl _) _).setCell (p := ⟨W.heap.size, 7, none⟩) (Nat.le_refl _) _).setCell (p := ⟨W.heap.size, 8, none⟩) (Nat.le_refl _) _).drew
end Go.Proofs.YthionnpohcgoaaaGreatDoor
/- Layer 8: the head of a set, and its signatures, are right or not. -/
namespace Go.Proofs.YthionnpohcgoaaaGreatDoor
open Go.RowKit
abbrev svC (s : Sv) (qd : Option Addr) (cd : Nat) (qg : Option Addr) (cg : Nat) : List Value := [.string s.nm, .int .i64 s.ty, .int .i64 s.cl, .int .i64 s.tl, .slice qd s.ds.length cd, .slice qg s.sg.length cg]
structure SvAt (w : World) (s : Sv) (qd : Option Addr) (cd : Nat) (qg : Option Addr) (cg : Nat) : Prop where
 ds : TxAt w qd s.ds
 sg : TxAt w qg s.sg
 cd : s.ds.length ≤ cd ∧ cd ≤ maxLen
 cg : s.sg.length ≤ cg ∧ cg ≤ maxLen
theorem SvAt.blk {w w' : World} {s : Sv} {qd : Option Addr} {cd : Nat} {qg : Option Addr} {cg : Nat} (h : SvAt w s qd cd qg cg) (hb : Below w.heap.size w w') : SvAt w' s qd cd qg cg := ⟨h.ds.blk hb, h.sg.blk hb, h.cd, h.cg⟩
structure SvIn (s : Sv) : Prop where
 nm : s.nm.size ≤ maxLen
 ds : ∀ d ∈ s.ds, d.size ≤ maxLen
 sg : ∀ d ∈ s.sg, d.size ≤ maxLen
theorem Bx.cells6 {W w : World} {b : Nat} {x0 x1 x2 x3 x4 x5 : Value} {t : TypeId} (h : Bx W b [x0, x1, x2, x3, x4, x5] t w) : w.cell? ⟨b, 0, none⟩ = some x0 ∧ w.cell? ⟨b, 1, none⟩ = some x1 ∧ w.cell? ⟨b, 2, none⟩ = some x2 ∧ w.cell? ⟨b, 3, none⟩ = some x3 ∧ w.cell? ⟨b, 4, none⟩ = some x4 ∧ w.cell? ⟨b, 5, none⟩ = some x5 := ⟨h.cell 0 _ rfl, h.cell 1 _ rfl, h.cell 2 _ rfl, h.cell 3 _ rfl, h.cell 4 _ rfl, h.cell 5 _ rfl⟩
set_option maxRecDepth 100000 in
set_option maxHeartbeats 1000000 in
theorem rhead_in (s : Sv) (h1 : s.nm.size ≤ maxLen) (qd : Option Addr) (cd : Nat) (qg : Option Addr) (cg : Nat) (W : World) : Calls Tryz.prog 72 #[.agg (svC s qd cd qg cg).toArray] W fun e w' => e = .returned (.bool (headOk s)) ∧ Below W.heap.size W w' := by
 have HN := Hid.mk (nright_in s.nm h1)
 have HM := Hid.mk (makes_in s.ty)
 have HA := Hid.mk (fits_in s.cl 16 (by omega))
 have HB := Hid.mk (fits_in s.tl 31 (by omega))
 have hT : headOk s = (isN s.nm && mks s.ty && ftB s.cl 16 && ftB s.tl 31) := rfl
 rw [hT]
 clear hT h1
 generalize isN s.nm = b0 at HN ⊢
 generalize mks s.ty = b1 at HM ⊢
 generalize ftB s.cl 16 = b2 at HA ⊢
 generalize ftB s.tl 31 = b3 at HB ⊢
 have X0 := Bx.new W (svC s qd cd qg cg) 34
 simp only [svC] at X0 ⊢
 generalize s.nm = x0 at HN X0 ⊢
 generalize s.ty = x1 at HM X0 ⊢
 generalize s.cl = x2 at HA X0 ⊢
 generalize s.tl = x3 at HB X0 ⊢
 go_enter Tryz.func72, Tryz.ntmps72
 have c0 := X0.cells6
 go_wp2_with fail
 clear c0
 refine (HN.out _).mono ?_
 rintro e w1 ⟨rfl, hb1⟩
 have X1 := X0.blk hb1
 have c1 := X1.cells6
 clear hb1 X0
 cases b0 with
 | false =>
  go_wp2
  go_ret
  exact ⟨rfl, X1.bel⟩
 | true =>
  go_wp2_with fail
  refine (HM.out _).mono ?_
  rintro e w2 ⟨rfl, rfl⟩
  cases b1 with
  | false =>
   go_wp2
   go_ret
   exact ⟨rfl, X1.bel⟩
  | true =>
   go_wp2_with fail
   refine (HA.out _).mono ?_
   rintro e w2 ⟨rfl, rfl⟩
   cases b2 with
   | false =>
    go_wp2
    go_ret
    exact ⟨rfl, X1.bel⟩
   | true =>
    go_wp2_with fail
    refine (HB.out _).mono ?_
    rintro e w2 ⟨rfl, rfl⟩
    go_wp2
    go_ret
    exact ⟨by cases b3 <;> rfl, X1.bel⟩
theorem num_b2r (n : Nat) (h : n < 65536) : numB (⟨(bytesB n 2).toArray⟩ : ByteArray).data.toList = n := by
 rw [bytesB2]
 simp [numB]
 omega
theorem takeSig_cov {d : ByteArray} {v : Value} {er : Int} (h : TakeSig d v er) : ∃ (n0 n1 n2 n3 n4 n5 n6 : Nat) (s7 s8 : ByteArray), v = .agg #[.int .i64 ((n0 : Nat) : Int), .int .i64 ((n1 : Nat) : Int), .int .i64 ((n2 : Nat) : Int), .int .i64 ((n3 : Nat) : Int), .int .i64 ((n4 : Nat) : Int), .int .i64 ((n5 : Nat) : Int), .int .i64 ((n6 : Nat) : Int), .string s7, .string s8] ∧ ((er = 0 ∧ ∀ k, covOk k d = decide ((n0 : Int) = k)) ∨ (er = 6 ∧ ∀ k, covOk k d = false)) := by
 obtain ⟨n0, n1, n2, n3, n4, n5, n6, s7, s8, hv, hr, hj, he⟩ := h
 refine ⟨n0, n1, n2, n3, n4, n5, n6, s7, s8, hv, ?_⟩
 rcases he with he | ⟨he, hs, _⟩
 ·refine .inl ⟨he, fun k => ?_⟩
  have := hj he
  unfold joinR at this
  simp only at this
  split at this
  ·rename_i hsp
   have hd := Option.some.inj this
   rw [hd] at hsp
   unfold covOk
   rw [hsp]
   simp only
   rw [num_b2r n0 hr.1]
  ·cases this
 ·refine .inr ⟨he, fun k => ?_⟩
  unfold covOk
  rw [hs]
end Go.Proofs.YthionnpohcgoaaaGreatDoor
/- Layer 16: sets and deeds as they come in. -/
namespace Go.Proofs.YthionnpohcgoaaaGreatDoor.Rc
open Go.RowKit
theorem add_off (b o j : Nat) : (⟨b, o, none⟩ : Addr).add j = ⟨b, o + j, none⟩ := So.add_of b o j
theorem cellB {w : World} {p : Addr} {v : Value} (h : w.cell? p = some v) : p.block < w.heap.size := cell_block h
theorem list_of {α : Type} {R : Nat → α → Prop} : ∀ k : Nat, (∀ i, i < k → ∃ x, R i x) → ∃ l : List α, l.length = k ∧ ∀ j (h : j < l.length), R j l[j]
 | 0, _ => ⟨[], rfl, fun j h => by simp at h⟩
 | k + 1, h => by
  obtain ⟨l, hl, hr⟩ := list_of k fun i hi => h i (by omega)
  obtain ⟨x, hx⟩ := h k (by omega)
  refine ⟨l ++ [x], by simp [hl], fun j hj => ?_⟩
  rw [List.getElem_append]
  split
  ·exact hr j (by assumption)
  ·have : j = k := by simp at hj; omega
   subst this
   simpa [hl] using hx
theorem c_str : Tryz.prog.cellsOf 9 = 1 := by kernel_rfl
theorem c_set : Tryz.prog.cellsOf 34 = 6 := by kernel_rfl
theorem c_deed : Tryz.prog.cellsOf 36 = 11 := by kernel_rfl
def ShC (n cap : Nat) (q : Option Addr) : Prop := n ≤ cap ∧ cap ≤ maxLen ∧ (q = none → cap = 0)
structure Dd where
 kd : Int
 s : Sv
 rk : Int
 se : Int
 ve : Int
 nw : Int
structure SvI (s : Sv) : Prop where
 sv : SvIn s
 ty : I64 s.ty
 cl : I64 s.cl
 tl : I64 s.tl
structure DdI (d : Dd) : Prop where
 s : SvI d.s
 kd : I64 d.kd
 rk : I64 d.rk
 se : I64 d.se
 ve : I64 d.ve
 nw : I64 d.nw
abbrev ddC (d : Dd) (qd : Option Addr) (cd : Nat) (qg : Option Addr) (cg : Nat) : List Value := .int .i64 d.kd :: (svC d.s qd cd qg cg ++ [.int .i64 d.rk, .int .i64 d.se, .int .i64 d.ve, .int .i64 d.nw])
def DdsAt (W : World) (q : Option Addr) (l : List Dd) : Prop := ∀ j (hj : j < l.length), ∃ b off qd cd qg cg, q = some ⟨b, off, none⟩ ∧ b < W.heap.size ∧ (∀ k, k < 11 → W.cell? ⟨b, off + j * 11 + k, none⟩ = (ddC l[j] qd cd qg cg)[k]?) ∧ SvAt W l[j].s qd cd qg cg
section
variable {H : Type} {enc : TypeId × Value → H} {W : World}
theorem slice_form {t e : TypeId} {fuel : Nat} {v : Value} {x : DataW H × List MemPlace} (hu : Tryz.prog.underlying t = some (.slice e)) (hf : DataW.trod enc Tryz.prog W 0 (fun _ => true) true fuel t [v] = some x) : ∃ a len cap, v = .slice a len cap := by
 rcases Go.Deep.open_slice hu hf with ⟨hcs, hx⟩ | ⟨a, len', cap', m, n, D, Pl, hcs, _⟩
 ·simp at hcs; exact ⟨_, _, _, hcs⟩
 ·simp at hcs; exact ⟨_, _, _, hcs⟩
open Go.ChangeShapes Go.WideShapes in
set_option maxRecDepth 100000 in
theorem open_txs {a0 : Option Addr} {len cap fuel : Nat} {x : DataW H × List MemPlace} (hf : DataW.trod enc Tryz.prog W 0 (fun _ => true) true fuel 32 [.slice a0 len cap] = some x) :
  ∃ ds : List ByteArray, ds.length = len ∧ TxAt W a0 ds ∧ (∀ d ∈ ds, d.size ≤ maxLen) ∧ ShC len cap a0 := by
 rcases Go.Deep.open_slice Tryz.underlying32 hf with ⟨hcs, hx⟩ | ⟨a, len', cap', m, n, D, Pl, hcs, _, hl, hm, hmm, hx, hall⟩
 ·simp at hcs
  obtain ⟨rfl, rfl, rfl⟩ := hcs
  exact ⟨[], rfl, fun j hj => by simp at hj, fun r hr => by simp at hr, by omega, by unfold maxLen; omega, fun _ => rfl⟩
 ·simp at hcs
  obtain ⟨rfl, rfl, rfl⟩ := hcs
  simp only [if_true] at hmm
  subst hmm
  rw [c_str] at hall
  obtain ⟨b, off, spot⟩ := a
  have key : ∀ i, i < len → ∃ r : ByteArray, (spot = none ∧ b < W.heap.size ∧ W.cell? ⟨b, off + i, none⟩ = some (.string r)) ∧ r.size ≤ maxLen := fun i hi => by
   obtain ⟨cs', h1, h2⟩ := hall i (by omega)
   obtain ⟨_, hlen, hcell⟩ := World.cells?_some h1
   have hspot : spot = none := by
    obtain ⟨cs0, h10, _⟩ := hall 0 (by omega)
    obtain ⟨_, hl0, hc0⟩ := World.cells?_some h10
    have h00 := hc0 0 (by omega)
    rw [List.getElem?_eq_getElem (by omega)] at h00
    simpa [Addr.add] using World.cell?_spot h00
   subst hspot
   match cs', hlen with
   | [v0], _ =>
    obtain ⟨s0, q0, _, w0⟩ := DataW.trod_string (t := 9) Tryz.underlying9 h2
    simp at q0
    have h0 := hcell 0 (by omega)
    rw [Go.Deep.add_add, add_off, Nat.mul_one, Nat.add_zero] at h0
    rw [q0] at h0
    exact ⟨s0, ⟨rfl, cellB h0, h0⟩, w0⟩
  obtain ⟨ls, hlen, hr⟩ := list_of len key
  refine ⟨ls, hlen, fun j hj => ?_, fun d hd => ?_, hl, hm, fun h => by cases h⟩
  ·obtain ⟨⟨hs, hb, h⟩, _⟩ := hr j hj
   subst hs
   exact ⟨b, off, rfl, hb, h⟩
  ·obtain ⟨j, hj, rfl⟩ := List.getElem_of_mem hd
   exact (hr j hj).2
set_option maxRecDepth 100000 in
theorem trod_set {fuel : Nat} {cs : List Value} {x : DataW H × List MemPlace} (h : DataW.trod enc Tryz.prog W 0 (fun _ => true) true fuel 34 cs = some x) : ∃ s : Sv, SvI s ∧ ∃ qd cd qg cg, cs = svC s qd cd qg cg ∧ SvAt W s qd cd qg cg ∧ (qd = none → cd = 0) ∧ (qg = none → cg = 0) := by
 obtain ⟨xs, k2, _, hx2, hlc, hlen, hf⟩ := DataW.trod_struct Tryz.underlying34 h
 rw [c_set] at hlc
 match cs, hlc with
 | [v0, v1, v2, v3, v4, v5], _ =>
  match xs, hlen with
  | [z0, z1, z2, z3, z4, z5], _ =>
   have t0 : DataW.trod enc Tryz.prog W 0 (fun _ => true) true k2 9 [v0] = some z0 := hf 0 _ rfl
   have t1 : DataW.trod enc Tryz.prog W 0 (fun _ => true) true k2 3 [v1] = some z1 := hf 1 _ rfl
   have t2 : DataW.trod enc Tryz.prog W 0 (fun _ => true) true k2 3 [v2] = some z2 := hf 2 _ rfl
   have t3 : DataW.trod enc Tryz.prog W 0 (fun _ => true) true k2 3 [v3] = some z3 := hf 3 _ rfl
   have t4 : DataW.trod enc Tryz.prog W 0 (fun _ => true) true k2 32 [v4] = some z4 := hf 4 _ rfl
   have t5 : DataW.trod enc Tryz.prog W 0 (fun _ => true) true k2 32 [v5] = some z5 := hf 5 _ rfl
   obtain ⟨s0, q0, _, w0⟩ := DataW.trod_string (t := 9) Tryz.underlying9 t0
   obtain ⟨s1, q1, _, w1⟩ := DataW.trod_int (t := 3) (k := .i64) Tryz.underlying3 t1
   obtain ⟨s2, q2, _, w2⟩ := DataW.trod_int (t := 3) (k := .i64) Tryz.underlying3 t2
   obtain ⟨s3, q3, _, w3⟩ := DataW.trod_int (t := 3) (k := .i64) Tryz.underlying3 t3
   obtain ⟨a4, l4, c4, rfl⟩ := slice_form Tryz.underlying32 t4
   obtain ⟨a5, l5, c5, rfl⟩ := slice_form Tryz.underlying32 t5
   obtain ⟨ds, hl4, hat4, hin4, h41, h42, h43⟩ := open_txs t4
   obtain ⟨sg, hl5, hat5, hin5, h51, h52, h53⟩ := open_txs t5
   simp at q0 q1 q2 q3
   subst hl4 hl5
   exact ⟨⟨s0, s1, s2, s3, ds, sg⟩, ⟨⟨w0, hin4, hin5⟩, Go.bounds_i64 w1, Go.bounds_i64 w2, Go.bounds_i64 w3⟩, a4, c4, a5, c5, by rw [q0, q1, q2, q3], ⟨hat4, hat5, ⟨h41, h42⟩, ⟨h51, h52⟩⟩, h43, h53⟩
set_option maxRecDepth 100000 in
theorem trod_deed {fuel : Nat} {cs : List Value} {x : DataW H × List MemPlace} (h : DataW.trod enc Tryz.prog W 0 (fun _ => true) true fuel 36 cs = some x) : ∃ d : Dd, DdI d ∧ ∃ qd cd qg cg, cs = ddC d qd cd qg cg ∧ SvAt W d.s qd cd qg cg := by
 obtain ⟨xs, k2, _, hx2, hlc, hlen, hf⟩ := DataW.trod_struct Tryz.underlying36 h
 rw [c_deed] at hlc
 match cs, hlc with
 | [v0, v1, v2, v3, v4, v5, v6, v7, v8, v9, v10], _ =>
  match xs, hlen with
  | [z0, z1, z2, z3, z4, z5], _ =>
   have t0 : DataW.trod enc Tryz.prog W 0 (fun _ => true) true k2 3 [v0] = some z0 := hf 0 _ rfl
   have t1 : DataW.trod enc Tryz.prog W 0 (fun _ => true) true k2 34 [v1, v2, v3, v4, v5, v6] = some z1 := hf 1 _ rfl
   have t2 : DataW.trod enc Tryz.prog W 0 (fun _ => true) true k2 3 [v7] = some z2 := hf 2 _ rfl
   have t3 : DataW.trod enc Tryz.prog W 0 (fun _ => true) true k2 3 [v8] = some z3 := hf 3 _ rfl
   have t4 : DataW.trod enc Tryz.prog W 0 (fun _ => true) true k2 3 [v9] = some z4 := hf 4 _ rfl
   have t5 : DataW.trod enc Tryz.prog W 0 (fun _ => true) true k2 3 [v10] = some z5 := hf 5 _ rfl
   obtain ⟨s0, q0, _, w0⟩ := DataW.trod_int (t := 3) (k := .i64) Tryz.underlying3 t0
   obtain ⟨s, hs, qd, cd, qg, cg, q1, hat, _, _⟩ := trod_set t1
   obtain ⟨s2, q2, _, w2⟩ := DataW.trod_int (t := 3) (k := .i64) Tryz.underlying3 t2
   obtain ⟨s3, q3, _, w3⟩ := DataW.trod_int (t := 3) (k := .i64) Tryz.underlying3 t3
   obtain ⟨s4, q4, _, w4⟩ := DataW.trod_int (t := 3) (k := .i64) Tryz.underlying3 t4
   obtain ⟨s5, q5, _, w5⟩ := DataW.trod_int (t := 3) (k := .i64) Tryz.underlying3 t5
   simp at q0 q2 q3 q4 q5
   exact ⟨⟨s0, s, s2, s3, s4, s5⟩, ⟨hs, Go.bounds_i64 w0, Go.bounds_i64 w2, Go.bounds_i64 w3, Go.bounds_i64 w4, Go.bounds_i64 w5⟩, qd, cd, qg, cg, by rw [show [v0, v1, v2, v3, v4, v5, v6, v7, v8, v9, v10] = v0 :: ([v1, v2, v3, v4, v5, v6] ++ [v7, v8, v9, v10]) from rfl, q1, q0, q2, q3, q4, q5], hat⟩
open Go.ChangeShapes Go.WideShapes in
set_option maxRecDepth 100000 in
theorem open_dds {a0 : Option Addr} {len cap fuel : Nat} {x : DataW H × List MemPlace} (hf : DataW.trod enc Tryz.prog W 0 (fun _ => true) true fuel 22 [.slice a0 len cap] = some x) :
  ∃ l : List Dd, l.length = len ∧ DdsAt W a0 l ∧ (∀ d ∈ l, DdI d) ∧ ShC len cap a0 := by
 rcases Go.Deep.open_slice Tryz.underlying22 hf with ⟨hcs, hx⟩ | ⟨a, len', cap', m, n, D, Pl, hcs, _, hl, hm, hmm, hx, hall⟩
 ·simp at hcs
  obtain ⟨rfl, rfl, rfl⟩ := hcs
  exact ⟨[], rfl, fun j hj => by simp at hj, fun r hr => by simp at hr, by omega, by unfold maxLen; omega, fun _ => rfl⟩
 ·simp at hcs
  obtain ⟨rfl, rfl, rfl⟩ := hcs
  simp only [if_true] at hmm
  subst hmm
  rw [c_deed] at hall
  obtain ⟨b, off, spot⟩ := a
  have key : ∀ i, i < len → ∃ r : Dd, (spot = none ∧ b < W.heap.size ∧ ∃ qd cd qg cg, (∀ k, k < 11 → W.cell? ⟨b, off + i * 11 + k, none⟩ = (ddC r qd cd qg cg)[k]?) ∧ SvAt W r.s qd cd qg cg) ∧ DdI r := fun i hi => by
   obtain ⟨cs', h1, h2⟩ := hall i (by omega)
   obtain ⟨_, hlen, hcell⟩ := World.cells?_some h1
   have hspot : spot = none := by
    obtain ⟨cs0, h10, _⟩ := hall 0 (by omega)
    obtain ⟨_, hl0, hc0⟩ := World.cells?_some h10
    have h00 := hc0 0 (by omega)
    rw [List.getElem?_eq_getElem (by omega)] at h00
    simpa [Addr.add] using World.cell?_spot h00
   subst hspot
   obtain ⟨r, hr, qd, cd, qg, cg, rfl, hat⟩ := trod_deed h2
   have hk : ∀ k, k < 11 → W.cell? ⟨b, off + i * 11 + k, none⟩ = (ddC r qd cd qg cg)[k]? := fun k hk => by
    have := hcell k hk
    rw [Go.Deep.add_add, add_off, ← Nat.add_assoc] at this
    exact this
   exact ⟨r, ⟨rfl, cellB ((hk 0 (by omega)).trans (show (ddC r qd cd qg cg)[0]? = some _ from rfl)), qd, cd, qg, cg, hk, hat⟩, hr⟩
  obtain ⟨ls, hlen, hr⟩ := list_of len key
  refine ⟨ls, hlen, fun j hj => ?_, fun d hd => ?_, hl, hm, fun h => by cases h⟩
  ·obtain ⟨⟨hs, hb, qd, cd, qg, cg, h, hat⟩, _⟩ := hr j hj
   subst hs
   exact ⟨b, off, qd, cd, qg, cg, rfl, hb, h, hat⟩
  ·obtain ⟨j, hj, rfl⟩ := List.getElem_of_mem hd
   exact (hr j hj).2
end
end Go.Proofs.YthionnpohcgoaaaGreatDoor.Rc
