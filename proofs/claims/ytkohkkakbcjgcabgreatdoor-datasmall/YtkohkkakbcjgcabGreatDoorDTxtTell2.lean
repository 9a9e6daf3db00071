/- Strings of TXT, how they are told. -/
import Derived.Test.YtkohkkakbcjgcabGreatDoorDTxtTell
namespace Go.Proofs.YtkohkkakbcjgcabGreatDoor
set_option linter.unusedVariables false
open Go.RowKit

def strLs (l : List UInt8) : List UInt8 := l.flatMap strL
theorem strLs_snoc (l : List UInt8) (b : UInt8) : strLs (l ++ [b]) = strLs l ++ strL b := by simp [strLs]
theorem strLs_len (l : List UInt8) : (strLs l).length ≤ 4 * l.length := by
  induction l with
  | nil => simp [strLs]
  | cons b l ih =>
    have := (strL_len b).1
    simp only [strLs, List.flatMap_cons, List.length_append, List.length_cons] at *
    omega
/-- a string between its signs. -/
def strT (l : List UInt8) : List UInt8 := 34 :: strLs l ++ [34]

theorem row_one (W : World) (v : Value) : (W.alloc (.cells #[v] 5)).ownsRow W.heap.size 5 1 (.slice (some ⟨W.heap.size, 0, none⟩) 1 1) 1 [v] :=
  ⟨rfl, .inr ⟨W.heap.size, 1, #[v], rfl, Nat.le_refl _, heap_new _ _, Nat.le_refl _, by unfold maxLen; omega, rfl, rfl⟩⟩

theorem row_back {w : World} {base : Nat} {v : Value} {n : Nat} {l : List UInt8} {xs : List Value} (h : w.ownsRow base 5 1 v n xs) (hn : n = l.length) (hx : xs = Lib.byteCells l) : (convert 100 9 v).run Tryz.prog w = .ok (.string ⟨l.toArray⟩) w := by
  subst hn
  subst hx
  rcases h.2 with ⟨rfl, h0⟩ | ⟨g', cap', cur, rfl, _, hg, _, _, _, ht⟩
  · obtain rfl : l = [] := List.length_eq_zero_iff.1 h0
    kernel_rfl
  · exact run_convert_bytes_back (P := Tryz.prog) w 100 9 5 ⟨g', 0, none⟩ cap' l Tryz.underlying100 Tryz.underlying5 Tryz.underlying9 (fun j hj => Lib.cells_of_row (w := w) hg l.length j _ (by rw [Nat.mul_one] at ht; rw [ht]; simp [Lib.byteCells, hj]))

set_option maxRecDepth 100000 in
set_option maxHeartbeats 1000000 in
theorem tellString_in (s : ByteArray) (hs : s.size ≤ 255) (w : World) :
    Calls Tryz.prog 138 #[.string s] w fun e w' => e = .returned (.string ⟨(strT s.data.toList).toArray⟩) ∧ Below w.heap.size w w' := by
  obtain ⟨i0, hi, hz0, hz1, hz2⟩ := info_parts info5
  go_enter Tryz.func138, Tryz.ntmps138
  go_wp2
  go_loopw [3, 8] (fun v i wr => ∃ k : Nat, k ≤ s.size ∧ i = .int .i64 k ∧ wr.ownsRow w.heap.size 5 1 v (34 :: strLs (s.data.toList.take k)).length (Lib.byteCells (34 :: strLs (s.data.toList.take k))) ∧ w.heap.size ≤ wr.heap.size ∧ Below w.heap.size w wr) (fun _ i _ => s.size - (intOf i).toNat)
  case atStart => exact ⟨0, Nat.zero_le _, rfl, row_one w _, by simp, (Below.refl _ _).alloc (Nat.le_refl _) _⟩
  case round =>
    obtain ⟨k, hk, rfl, hrow, hsz, hbl⟩ := hrel
    have hL := strLs_len (s.data.toList.take k)
    rw [List.length_take, size_list] at hL
    by_cases hlt : k < s.size
    · have hnx : 34 :: strLs (s.data.toList.take (k + 1)) = (34 :: strLs (s.data.toList.take k)) ++ strL s[k] := by
        rw [List.take_succ_eq_append_getElem (by rw [size_list]; exact hlt), strLs_snoc]; rfl
      have HNX := Hid.mk hnx
      have hTl : (34 :: strLs (s.data.toList.take k)).length ≤ 2000 := by simp; omega
      clear hnx hL
      generalize (34 :: strLs (s.data.toList.take k)) = T at hrow HNX hTl
      obtain ⟨q, cap, rfl⟩ := row_slice' hrow
      have HA := Hid.mk (strTold_in w.heap.size wr _ T s[k] (by omega) hrow hsz)
      go_wp2_with fail
      refine HA.out.mono ?_
      rintro e w1 ⟨⟨v1, rfl, hown1⟩, hb1⟩
      have hrelN : ∃ j : Nat, j ≤ s.size ∧ Value.int .i64 ((k : Int) + 1) = .int .i64 j ∧ w1.ownsRow w.heap.size 5 1 v1 (34 :: strLs (s.data.toList.take j)).length (Lib.byteCells (34 :: strLs (s.data.toList.take j))) ∧ w.heap.size ≤ w1.heap.size ∧ Below w.heap.size w w1 :=
        ⟨k + 1, by omega, by go_num, by rw [HNX.out]; exact hown1, Nat.le_trans hsz hb1.size, hbl.trans hb1⟩
      go_wp2
      exact ⟨hrelN, by simp [intOf]; omega⟩
    · have hall : s.data.toList.take k = s.data.toList := List.take_of_length_le (by rw [size_list]; omega)
      rw [hall] at hrow hL
      have hTl : (34 :: strLs s.data.toList).length ≤ 2000 := by simp; omega
      have HT : Hid (strT s.data.toList = (34 :: strLs s.data.toList) ++ [34]) := rfl
      clear hall hL
      generalize (34 :: strLs s.data.toList) = T at hrow hTl HT
      obtain ⟨q, cap, rfl⟩ := row_slice' hrow
      go_wp2_with (at_builtin; refine wpList_append_own _ rfl _ _ 100 rfl w.heap.size 5 i0 (.int .u8 0) 1 1 Tryz.underlying100 hi hz0 hz1 hz2 rfl (by decide) _ _ _ rfl (hrow.alloc _) ⟨wr.heap.size, 0, none⟩ 1 1 [.int .u8 34] rfl rfl (cell_one_new _ _ _) (by simp [Value.oneCell']) (by unfold maxLen; omega) (by omega) (by simp; omega) ?_; intro v1 w1 hown1 hgrow1 _; have hcv := row_back (l := T ++ [34]) hown1 (by simp) (by rw [byteCells_snoc]; rfl))
      have hb1 : Below w.heap.size wr w1 := ((Below.refl _ _).alloc hsz _).grown hgrow1 (by simp; omega) (own_base hrow)
      go_ret
      exact ⟨by rw [HT.out]; rfl, hbl.trans hb1⟩
end Go.Proofs.YtkohkkakbcjgcabGreatDoor
