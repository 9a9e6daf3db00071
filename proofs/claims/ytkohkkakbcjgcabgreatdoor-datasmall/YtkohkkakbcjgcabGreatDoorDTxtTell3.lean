/- TXT: how it is told, whole. -/
import Derived.Test.YtkohkkakbcjgcabGreatDoorDTxtTell2
namespace Go.Proofs.YtkohkkakbcjgcabGreatDoor
set_option linter.unusedVariables false
open Go.RowKit

/-- the strings of a piece. -/
def spl : Nat → ByteArray → List ByteArray
  | 0, _ => []
  | n + 1, s => if h : 0 < s.size then s.extract 1 (1 + s[0].toNat) :: spl n (s.extract (1 + s[0].toNat) s.size) else []
theorem spl_end (n : Nat) (s : ByteArray) (h : s.size = 0) : spl (n + 1) s = [] := by rw [spl, dif_neg (by omega)]
theorem spl_go (n : Nat) (s : ByteArray) (h : 0 < s.size) : spl (n + 1) s = s.extract 1 (1 + s[0].toNat) :: spl n (s.extract (1 + s[0].toNat) s.size) := by rw [spl, dif_pos h]

def strB (s : ByteArray) : ByteArray := ⟨(strT s.data.toList).toArray⟩
/-- how a piece of TXT is told. -/
def txtT (s : ByteArray) : List UInt8 := Lib.join (((spl (s.size + 1) s).map strB).map (·.data.toList)) [32]

theorem strB_size (s : ByteArray) (h : s.size ≤ 255) : (strB s).size ≤ 1100 := by
  have := strLs_len s.data.toList
  rw [size_list] at this
  rw [strB, ba_size, strT]
  simp
  omega

set_option maxRecDepth 100000 in
set_option maxHeartbeats 1000000 in
theorem tellStrings_in (s : ByteArray) (hs : s.size ≤ 2000) (hok : moreOk (s.size + 1) s = true) (W : World) :
    Calls Tryz.prog 97 #[.string s] W fun e w' => e = .returned (.string ⟨(txtT s).toArray⟩) ∧ Below W.heap.size W w' := by
  obtain ⟨i0, hi, hz0, hz1, hz2⟩ := info_parts info9
  obtain ⟨A, hA⟩ : ∃ A, (spl (s.size + 1) s).map strB = A := ⟨_, rfl⟩
  have hT : txtT s = Lib.join (A.map (·.data.toList)) [32] := by rw [txtT, hA]
  rw [hT]
  have HA := Hid.mk hA
  have HOK := Hid.mk hok
  clear hok hA hT
  go_enter Tryz.func97, Tryz.ntmps97
  go_wp2
  go_loopw [4] (fun v wr => ∃ (ws : List ByteArray) (x : ByteArray) (n : Nat), Rd wr W.heap.size x ∧ x.size < n ∧ ws.length + x.size ≤ 2000 ∧ wr.ownsRow (W.heap.size + 1) 9 1 v ws.length (baV ws) ∧ Hid (∀ y ∈ ws, y.size ≤ 1100) ∧ Hid (moreOk n x = true) ∧ Hid (ws ++ (spl n x).map strB = A) ∧ W.heap.size + 1 ≤ wr.heap.size ∧ Below W.heap.size W wr) (fun _ wr => rdLen wr W.heap.size)
  case atStart => exact ⟨[], s, s.size + 1, heap_new _ _, by omega, by simpa using hs, World.ownsRow_nil .., Hid.mk (fun y hy => absurd hy (by simp)), HOK, HA, by simp, (Below.refl _ _).alloc (Nat.le_refl _) _⟩
  case round =>
    obtain ⟨ws, x, n, hrd, hxn, hwx, hrow, HY, HM, HS, hsz, hbl⟩ := hrel
    obtain ⟨n, rfl⟩ : ∃ m, n = m + 1 := ⟨n - 1, by omega⟩
    have HLn := Hid.mk hrd.len
    have hcl := hrd.cell
    obtain ⟨q, cap, rfl⟩ := row_as hrow
    by_cases hx0 : 0 < x.size
    · obtain ⟨hn1, hn2⟩ := ne_text x hx0
      have hxf : 1 + x[0].toNat ≤ x.size := by
        by_cases hxf : 1 + x[0].toNat ≤ x.size
        · exact hxf
        · have := HM.out
          rw [more_no n x hx0 (by omega)] at this
          cases this
      have hb8 := x[0].toNat_lt
      have HC := Hid.mk (counted_yes wr W.heap.size x (by unfold maxLen; omega) hrd hx0 hxf)
      have hez : (x.extract (1 + x[0].toNat) x.size).size < x.size := by rw [ByteArray.size_extract]; omega
      have hyz : (x.extract 1 (1 + x[0].toNat)).size ≤ 255 := by rw [ByteArray.size_extract]; omega
      have hr1 := hrd.set (x.extract (1 + x[0].toNat) x.size)
      have hk1 := Kept.set W.heap.size 0 wr (.string (x.extract (1 + x[0].toNat) x.size))
      have HM1 : Hid (moreOk n (x.extract (1 + x[0].toNat) x.size) = true) := by
        rw [Hid, ← more_go n x hx0 hxf]; exact HM.out
      have HS1 : Hid (ws ++ (x.extract 1 (1 + x[0].toNat) :: spl n (x.extract (1 + x[0].toNat) x.size)).map strB = A) := by
        rw [Hid, ← spl_go n x hx0]; exact HS.out
      clear hxf HM HS
      generalize x.extract (1 + x[0].toNat) x.size = x1 at HC hez hr1 hk1 HM1 HS1
      generalize x.extract 1 (1 + x[0].toNat) = y at HC hyz HS1
      have HT := Hid.mk (tellString_in y hyz)
      have hst : strB y = ⟨(strT y.data.toList).toArray⟩ := rfl
      have HYZ := Hid.mk (strB_size y hyz)
      have HS2 : Hid (ws ++ (strB y :: (spl n x1).map strB) = A) := HS1
      rw [← hst] at HT
      clear HS1
      generalize strB y = sy at HT HYZ hst HS2
      clear hst
      go_wp2_with fail
      refine HC.out.mono ?_
      rintro e w1 ⟨rfl, rfl⟩
      go_wp2_with fail
      refine (HT.out _).mono ?_
      rintro e w2 ⟨rfl, hb2⟩
      have hrd2 := hr1.below hb2
      have hrow2 := row_bel (row_kept' hrow hk1 (by omega)) hb2
      have hsz2 : W.heap.size + 1 ≤ w2.heap.size := Nat.le_trans (Nat.le_trans hsz hk1.size) hb2.size
      have hbl1 : Below W.heap.size W _ := hbl.trans (hk1.below (Nat.le_refl _) (by omega))
      have hbl2 : Below W.heap.size W w2 := hbl1.trans (hb2.mono (Nat.le_trans (by omega) hk1.size))
      clear hrow
      go_wp2_with (at_builtin; refine wpList_append_own _ rfl _ _ 61 rfl (W.heap.size + 1) 9 i0 (.string ⟨#[]⟩) 1 16 Tryz.underlying61 hi hz0 hz1 hz2 rfl (by decide) _ _ _ rfl (hrow2.alloc _) ⟨w2.heap.size, 0, none⟩ 1 1 [.string sy] rfl rfl (cell_one_new _ _ _) (by simp [Value.oneCell']) (by unfold maxLen; omega) (by omega) (by simp; omega) ?_; intro v1 w3 hown3 hgrow3 _)
      have hb3 : Below (W.heap.size + 1) w2 w3 := ((Below.refl _ w2).alloc hsz2 _).grown hgrow3 (by simp; omega) (rowBaseB hrow2)
      have hrd3 := hrd2.belowTo hb3 (by omega)
      have HLT : Hid (rdLen w3 W.heap.size < rdLen wr W.heap.size) := by
        rw [Hid, HLn.out, hrd3.len]; exact hez
      have hrelN : ∃ (ws : List ByteArray) (x : ByteArray) (n : Nat), Rd w3 W.heap.size x ∧ x.size < n ∧ ws.length + x.size ≤ 2000 ∧ w3.ownsRow (W.heap.size + 1) 9 1 v1 ws.length (baV ws) ∧ Hid (∀ y ∈ ws, y.size ≤ 1100) ∧ Hid (moreOk n x = true) ∧ Hid (ws ++ (spl n x).map strB = A) ∧ W.heap.size + 1 ≤ w3.heap.size ∧ Below W.heap.size W w3 := by
        refine ⟨ws ++ [sy], x1, n, hrd3, by omega, by simp; omega, ?_, Hid.mk (fun z hz => ?_), HM1, ?_, Nat.le_trans hsz2 hb3.size, hbl2.trans (hb3.mono (by omega))⟩
        · rw [List.length_append, baV, List.map_append]; exact hown3
        · rcases List.mem_append.1 hz with h | h
          · exact HY.out z h
          · rw [List.mem_singleton.1 h]; exact HYZ.out
        · rw [Hid, List.append_assoc]; exact HS2.out
      go_wp2
      go_roundw
      case rel => exact hrelN
      case measure => exact HLT.out
    · have hxe := ba_empty x (by omega)
      subst hxe
      have hwA : ws = A := by
        have := HS.out
        rw [spl_end n _ rfl] at this
        simpa using this
      subst hwA
      have hjl := join_len [32] ws 1100 HY.out
      have hwl : ws.length * (1100 + [(32 : UInt8)].length) ≤ 140737488355328 := by
        refine Nat.le_trans (Nat.mul_le_mul_right _ (show ws.length ≤ 2000 by omega)) (by decide)
      have HJ := Hid.mk (join_row ⟨#[32]⟩ hrow (by omega) (Nat.le_trans hjl hwl))
      clear hjl hwl hrow
      go_wp2_with fail
      refine HJ.out.mono ?_
      rintro e w3 ⟨rfl, hb3⟩
      go_wp2
      go_ret
      exact ⟨rfl, hbl.trans (hb3.mono (by omega))⟩
end Go.Proofs.YtkohkkakbcjgcabGreatDoor
