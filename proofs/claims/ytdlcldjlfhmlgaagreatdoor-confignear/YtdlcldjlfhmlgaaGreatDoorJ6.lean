/- Texts of this proof, joined: DReads, DGrpRead, DStr, DConv, DTxtRead, DTxtPass. -/
import Derived.Test.YtdlcldjlfhmlgaaGreatDoorJ5
import Derived.Lib.FrozenHead
set_option linter.unusedVariables false
set_option linter.unusedSimpArgs false
/- understood, with sound around its work; Read. -/
namespace Go.Proofs.YtdlcldjlfhmlgaaGreatDoor
open Go.RowKit
end Go.Proofs.YtdlcldjlfhmlgaaGreatDoor
/- Read; and the form of A, how it is read where it goes well. -/
namespace Go.Proofs.YtdlcldjlfhmlgaaGreatDoor
open Go.RowKit
end Go.Proofs.YtdlcldjlfhmlgaaGreatDoor
/- Strings of TXT: readString and readMarked, where no byte is told by its number. -/
namespace Go.Proofs.YtdlcldjlfhmlgaaGreatDoor
open Go.RowKit
def strLen : Option Value → Nat
 | some (.string s) => s.size
 | _ => 0
def rdLen (W : World) (d : Nat) : Nat := strLen (W.cell? ⟨d, 0, none⟩)
theorem Rd.len {W : World} {d : Nat} {s : ByteArray} (h : Rd W d s) : rdLen W d = s.size := by
 rw [rdLen, h.cell]; rfl
end Go.Proofs.YtdlcldjlfhmlgaaGreatDoor
/- Bytes made of a text ('[]byte(s)'), appended to: such a row bears its mark behind its last cell. -/
namespace Go.Proofs.YtdlcldjlfhmlgaaGreatDoor
open Go.RowKit
end Go.Proofs.YtdlcldjlfhmlgaaGreatDoor
/- TXT: how its strings are read, where they are told well. -/
namespace Go.Proofs.YtdlcldjlfhmlgaaGreatDoor
open Go.RowKit
end Go.Proofs.YtdlcldjlfhmlgaaGreatDoor
/- TXT: how data go past it. -/
namespace Go.Proofs.YtdlcldjlfhmlgaaGreatDoor
open Go.RowKit
def moreOk : Nat → ByteArray → Bool
 | 0, _ => false
 | n + 1, s => if h : 0 < s.size then (if 1 + s[0].toNat ≤ s.size then moreOk n (s.extract (1 + s[0].toNat) s.size) else false) else true
theorem more_end (n : Nat) (s : ByteArray) (h : s.size = 0) : moreOk (n + 1) s = true := by
 rw [moreOk, dif_neg (by omega)]
theorem more_no (n : Nat) (s : ByteArray) (h : 0 < s.size) (hf : s.size < 1 + s[0].toNat) : moreOk (n + 1) s = false := by
 rw [moreOk, dif_pos h, if_neg (by omega)]
theorem more_go (n : Nat) (s : ByteArray) (h : 0 < s.size) (hf : 1 + s[0].toNat ≤ s.size) : moreOk (n + 1) s = moreOk n (s.extract (1 + s[0].toNat) s.size) := by
 rw [moreOk, dif_pos h, if_pos hf]
def txtPf : Nat → ByteArray → Option Nat := fun _ s => if 0 < s.size ∧ moreOk (s.size + 1) s = true then some s.size else none
theorem ba_empty (s : ByteArray) (h : s.size = 0) : s = ⟨#[]⟩ := by
 apply ba_ext
 have : s.data.toList.length = 0 := by rw [size_list]; exact h
 rw [List.length_eq_zero_iff.1 this]
theorem end_cut (s : ByteArray) : s.extract s.size s.size = ⟨#[]⟩ := ba_empty _ (by rw [ByteArray.size_extract]; omega)
theorem ne_text (s : ByteArray) (h : 0 < s.size) : (s.toList == []) = false ∧ (!s.toList.isEmpty) = true := by
 rw [ByteArray.toList_eq]
 have : s.data.toList ≠ [] := fun e => by
  have : s.data.toList.length = 0 := by rw [e]; rfl
  rw [size_list] at this; omega
 cases hl : s.data.toList with
 | nil => exact absurd hl this
 | cons a l => exact ⟨rfl, rfl⟩
set_option maxHeartbeats 1000000 in
theorem passStrings_in (W : World) (d : Nat) (s : ByteArray) (hs : s.size ≤ 2000) (h : Rd W d s) :
  Calls Tryz.prog 191 #[boxV d] W fun e w' => PassPost (txtPf 0 s) s d W w' e := by
 by_cases h0 : 0 < s.size
 ·by_cases hf : 1 + s[0].toNat ≤ s.size
  ·have HC := Hid.mk (counted_yes W d s (by unfold maxLen; omega) h h0 hf)
   obtain ⟨R, hR⟩ : ∃ R, moreOk s.size (s.extract (1 + s[0].toNat) s.size) = R := ⟨_, rfl⟩
   have hpf : txtPf 0 s = if R = true then some s.size else none := by
    unfold txtPf
    rw [more_go _ _ h0 hf, hR]
    by_cases hr : R = true <;> simp [h0, hr]
   have HPF := Hid.mk hpf
   have HR := Hid.mk hR
   have hez : (s.extract (1 + s[0].toNat) s.size).size < s.size := by rw [ByteArray.size_extract]; omega
   have hr1 := h.set (s.extract (1 + s[0].toNat) s.size)
   have hk1 := Kept.set d 0 W (.string (s.extract (1 + s[0].toNat) s.size))
   clear hpf hR
   generalize s.extract (1 + s[0].toNat) s.size = s1 at HC HR hez hr1 hk1
   go_enter Tryz.func191, Tryz.ntmps191
   go_wp2_with fail
   refine HC.out.mono ?_
   rintro e w1 ⟨rfl, rfl⟩
   go_wp2
   go_loopw [] (fun wr => ∃ (x : ByteArray) (n : Nat), Rd wr d x ∧ x.size < n ∧ x.size ≤ 2000 ∧ Hid (moreOk n x = R) ∧ Kept d W wr) (fun wr => rdLen wr d)
   case atStart => exact ⟨s1, s.size, hr1, hez, by omega, HR, hk1⟩
   case round =>
    obtain ⟨x, n, hrd, hxn, hx2, HX, hkp⟩ := hrel
    obtain ⟨n, rfl⟩ : ∃ m, n = m + 1 := ⟨n - 1, by omega⟩
    have HLn := Hid.mk hrd.len
    have hcl := hrd.cell
    by_cases hx0 : 0 < x.size
    ·obtain ⟨hn1, hn2⟩ := ne_text x hx0
     by_cases hxf : 1 + x[0].toNat ≤ x.size
     ·have HC2 := Hid.mk (counted_yes wr d x (by unfold maxLen; omega) hrd hx0 hxf)
      have hez2 : (x.extract (1 + x[0].toNat) x.size).size < x.size := by rw [ByteArray.size_extract]; omega
      have hr2 := hrd.set (x.extract (1 + x[0].toNat) x.size)
      have hk2 := Kept.set d 0 wr (.string (x.extract (1 + x[0].toNat) x.size))
      have HX2 : Hid (moreOk n (x.extract (1 + x[0].toNat) x.size) = R) := by
       rw [Hid, ← more_go n x hx0 hxf]; exact HX.out
      generalize x.extract (1 + x[0].toNat) x.size = x1 at HC2 hez2 hr2 hk2 HX2
      clear hxf
      go_wp2_with fail
      refine HC2.out.mono ?_
      rintro e w2 ⟨rfl, rfl⟩
      have HLT : Hid (rdLen (wr.setCell ⟨d, 0, none⟩ (.string x1)) d < rdLen wr d) := by
       rw [Hid, HLn.out, hr2.len]; exact hez2
      have hrelN : ∃ (x : ByteArray) (n : Nat), Rd (wr.setCell ⟨d, 0, none⟩ (.string x1)) d x ∧ x.size < n ∧ x.size ≤ 2000 ∧ Hid (moreOk n x = R) ∧ Kept d W (wr.setCell ⟨d, 0, none⟩ (.string x1)) :=
       ⟨x1, n, hr2, by omega, by omega, HX2, hkp.trans hk2⟩
      go_wp2
      exact ⟨hrelN, HLT.out⟩
     ·have HC2 := Hid.mk (counted_no wr d x (by unfold maxLen; omega) hrd hx0 (by omega))
      have hRf : R = false := by rw [← HX.out, more_no n x hx0 (by omega)]
      go_wp2_with fail
      refine HC2.out.mono ?_
      rintro e w2 ⟨rfl, hk2⟩
      go_wp2
      rw [HPF.out, hRf]
      exact ⟨rfl, rfl, hkp.trans hk2⟩
    ·have hxe := ba_empty x (by omega)
     subst hxe
     have hRt : R = true := by rw [← HX.out, more_end n _ rfl]
     go_wp2
     refine bodyPost_end (results_none rfl _ _ _) rfl ?_
     rw [HPF.out, hRt, if_pos rfl]
     exact ⟨Nat.le_refl _, rfl, by rw [end_cut]; exact hrd, hkp⟩
  ·have HC := Hid.mk (counted_no W d s (by unfold maxLen; omega) h h0 (by omega))
   have hpf : txtPf 0 s = none := by
    unfold txtPf
    rw [more_no _ _ h0 (by omega)]
    simp
   rw [hpf]
   go_enter Tryz.func191, Tryz.ntmps191
   go_wp2_with fail
   refine HC.out.mono ?_
   rintro e w1 ⟨rfl, hk⟩
   go_wp2
   exact ⟨rfl, rfl, hk⟩
 ·have hpf : txtPf 0 s = none := by
   unfold txtPf
   rw [if_neg (fun e => h0 e.1)]
  rw [hpf]
  have HC := Hid.mk (counted_no0 W d s h (by omega))
  go_enter Tryz.func191, Tryz.ntmps191
  go_wp2_with fail
  refine HC.out.mono ?_
  rintro e w1 ⟨rfl, rfl⟩
  go_wp2
  exact ⟨rfl, rfl, Kept.refl _ _⟩
end Go.Proofs.YtdlcldjlfhmlgaaGreatDoor
