/- The chapter's examples, one by one. -/
import Derived.Test.YtkohkkakbcjgcabGreatDoorDTxtForm
import Derived.Test.YtkohkkakbcjgcabGreatDoorDTypeOf
namespace Go.Proofs.YtkohkkakbcjgcabGreatDoor
set_option linter.unusedVariables false
open Go.RowKit

theorem word_all (s : List UInt8) (h : Lib.cut s [32] = (s, [], false)) : wordB ⟨s.toArray⟩ = ⟨s.toArray⟩ ∧ restB ⟨s.toArray⟩ = ⟨#[]⟩ := by
  unfold wordB restB
  simp only [h]
  exact ⟨trivial, trivial⟩

theorem dd0 : Lib.decDigits 0 = [48] := by rw [Lib.decDigits]; rfl
theorem dd1 : Lib.decDigits 1 = [49] := by rw [Lib.decDigits]; rfl
theorem dd2 : Lib.decDigits 2 = [50] := by rw [Lib.decDigits]; rfl
theorem dd7 : Lib.decDigits 7 = [55] := by rw [Lib.decDigits]; rfl
theorem dd19 : Lib.decDigits 19 = [49, 57] := by
  rw [Lib.decDigits, dif_neg (by omega), show 19 / 10 = 1 from rfl, dd1]; rfl
theorem dd192 : Lib.decDigits 192 = [49, 57, 50] := by
  rw [Lib.decDigits, dif_neg (by omega), show 192 / 10 = 19 from rfl, dd19]; rfl
theorem dd70 : Lib.decDigits 70 = [55, 48] := by
  rw [Lib.decDigits, dif_neg (by omega), show 70 / 10 = 7 from rfl, dd7]; rfl
theorem aT_ex : aT ⟨#[192, 0, 2, 1]⟩ = [49, 57, 50, 46, 48, 46, 50, 46, 49] := by
  have h : grpW (⟨#[192, 0, 2, 1]⟩ : ByteArray).data.toList = [⟨#[49, 57, 50]⟩, ⟨#[48]⟩, ⟨#[50]⟩, ⟨#[49]⟩] := by
    show [(⟨(Lib.decDigits 192).toArray⟩ : ByteArray), ⟨(Lib.decDigits 0).toArray⟩, ⟨(Lib.decDigits 2).toArray⟩, ⟨(Lib.decDigits 1).toArray⟩] = _
    rw [dd0, dd1, dd2, dd192]
  rw [aT, h]
  rfl

theorem ex_A1 (W : World) (hG : Glob W) : Calls Tryz.prog 10 #[.int .i64 1, .string ⟨#[49, 57, 50, 46, 48, 46, 50, 46, 49]⟩] W fun e w' => e = .returned (.tuple #[.string ⟨#[192, 0, 2, 1]⟩, .int .i64 0]) ∧ Below W.heap.size W w' := by
  have hw := word_all [49, 57, 50, 46, 48, 46, 50, 46, 49] (by rfl)
  have h := readA_in ⟨#[49, 57, 50, 46, 48, 46, 50, 46, 49]⟩ (by decide) [⟨#[49, 57, 50]⟩, ⟨#[48]⟩, ⟨#[50]⟩, ⟨#[49]⟩] [192, 0, 2, 1] rfl rfl (by
      intro j h1 h2
      match j, h1 with
      | 0, _ => exact ⟨Nat.le_of_ble_eq_true rfl, Nat.le_of_ble_eq_true rfl, by rfl⟩
      | 1, _ => exact ⟨Nat.le_of_ble_eq_true rfl, Nat.le_of_ble_eq_true rfl, by rfl⟩
      | 2, _ => exact ⟨Nat.le_of_ble_eq_true rfl, Nat.le_of_ble_eq_true rfl, by rfl⟩
      | 3, _ => exact ⟨Nat.le_of_ble_eq_true rfl, Nat.le_of_ble_eq_true rfl, by rfl⟩) (by rw [hw.1]; decide) (by rw [hw.2]; decide) (by rw [hw.1]; kernel_rfl) W hG
  have hv : (⟨([192, 0, 2, 1].map UInt8.ofNat).toArray⟩ : ByteArray) = ⟨#[192, 0, 2, 1]⟩ := rfl
  rw [hv, aT_ex] at h
  rw [if_pos rfl] at h
  exact h

theorem ex_A2 (W : World) (hG : Glob W) : Calls Tryz.prog 10 #[.int .i64 1, .string ⟨#[49, 57, 50, 46, 48, 46, 50, 46, 48, 49]⟩] W fun e w' => e = .returned (.tuple #[.string ⟨#[]⟩, .int .i64 7]) ∧ Below W.heap.size W w' := by
  have hw := word_all [49, 57, 50, 46, 48, 46, 50, 46, 48, 49] (by rfl)
  have h := readA_in ⟨#[49, 57, 50, 46, 48, 46, 50, 46, 48, 49]⟩ (by decide) [⟨#[49, 57, 50]⟩, ⟨#[48]⟩, ⟨#[50]⟩, ⟨#[48, 49]⟩] [192, 0, 2, 1] rfl rfl (by
      intro j h1 h2
      match j, h1 with
      | 0, _ => exact ⟨Nat.le_of_ble_eq_true rfl, Nat.le_of_ble_eq_true rfl, by rfl⟩
      | 1, _ => exact ⟨Nat.le_of_ble_eq_true rfl, Nat.le_of_ble_eq_true rfl, by rfl⟩
      | 2, _ => exact ⟨Nat.le_of_ble_eq_true rfl, Nat.le_of_ble_eq_true rfl, by rfl⟩
      | 3, _ => exact ⟨Nat.le_of_ble_eq_true rfl, Nat.le_of_ble_eq_true rfl, by rfl⟩) (by rw [hw.1]; decide) (by rw [hw.2]; decide) (by rw [hw.1]; kernel_rfl) W hG
  have hv : (⟨([192, 0, 2, 1].map UInt8.ofNat).toArray⟩ : ByteArray) = ⟨#[192, 0, 2, 1]⟩ := rfl
  rw [hv, aT_ex] at h
  rw [if_neg (by intro e; have := congrArg ByteArray.size e; revert this; decide)] at h
  exact h

theorem ex_T70 (W : World) (hG : Glob W) : Calls Tryz.prog 9 #[.int .i64 70, .string ⟨#[1]⟩] W fun e w' => e = .returned (.tuple #[.string ⟨#[92, 35, 32, 49, 32, 48, 49]⟩, .int .i64 0]) ∧ Below W.heap.size W w' := by
  have h := text_of (by omega) (told_other 70 (by omega) rfl ⟨#[1]⟩ (by decide) W hG.pow)
  have ha : anyT ⟨#[1]⟩ = [92, 35, 32, 49, 32, 48, 49] := by
    have : (⟨#[1]⟩ : ByteArray).size = 1 := rfl
    simp [anyT, this, Lib.decDigits, hexL, hexB, dig]
  rw [ha] at h
  exact h

theorem ex_Txt (W : World) (hG : Glob W) : Calls Tryz.prog 10 #[.int .i64 16, .string ⟨#[34, 97, 92, 34, 98, 34, 32, 34, 34]⟩] W fun e w' => e = .returned (.tuple #[.string ⟨#[3, 97, 34, 98, 0]⟩, .int .i64 0]) ∧ Below W.heap.size W w' := by
  have hm : RsM [32, 34, 34] [0] := RsM.cons [34] [] [] [] rfl (by decide) RsM.nil
  have ht : txtT ⟨(cntd [97, 34, 98] ++ [0]).toArray⟩ = [34, 97, 92, 34, 98, 34, 32, 34, 34] := by kernel_rfl
  have h := readT_in [97, 92, 34, 98, 34, 32, 34, 34] [97, 34, 98] [32, 34, 34] [0] (by decide) rfl (by decide) hm (by kernel_rfl) (by rw [ht]; decide) (by rw [ht]; decide) W hG
  rw [ht, if_pos rfl] at h
  exact h

theorem ex_Of70 (W : World) (hG : Glob W) : Calls Tryz.prog 29 #[.string ⟨#[84, 89, 80, 69, 55, 48]⟩] W fun e w' => e = .returned (.tuple #[.int .i64 70, .int .i64 0]) ∧ Below W.heap.size W w' := by
  have h := typeOf_num [84, 89, 80, 69, 55, 48] [55, 48] 70 (by omega) rfl (by decide) (by rfl) (by decide) W hG.types hG.pow
  have hn : numT 70 [84, 89, 80, 69, 55, 48] = (70, 0) := by
    unfold numT
    have : typeT 70 = [84, 89, 80, 69, 55, 48] := by
      have ho : own? ((70 : Nat) : Int) = none := by rfl
      rw [typeT, ho]
      simp only [dd70]
      rfl
    rw [this]; rfl
  rw [hn] at h
  exact h
theorem ex_Of1 (W : World) (hG : Glob W) : Calls Tryz.prog 29 #[.string ⟨#[84, 89, 80, 69, 49]⟩] W fun e w' => e = .returned (.tuple #[.int .i64 0, .int .i64 7]) ∧ Below W.heap.size W w' := by
  have h := typeOf_num [84, 89, 80, 69, 49] [49] 1 (by omega) rfl (by decide) (by rfl) (by decide) W hG.types hG.pow
  have hn : numT 1 [84, 89, 80, 69, 49] = (0, 7) := by
    unfold numT
    have : typeT 1 = [65] := by
      have ho : own? ((1 : Nat) : Int) = some [65] := by rfl
      rw [typeT, ho]
    rw [this]; rfl
  rw [hn] at h
  exact h

theorem ex_R1 (W : World) : Calls Tryz.prog 11 #[.int .i64 1, .string ⟨#[97, 98, 99]⟩] W fun e w' => e = .returned (.bool false) ∧ Below W.heap.size W w' :=
  right_of (R := none) (split_A_no ⟨#[97, 98, 99]⟩ (by decide) (by decide)) W
theorem ex_R2 (W : World) : Calls Tryz.prog 11 #[.int .i64 70000, .string ⟨#[]⟩] W fun e w' => e = .returned (.bool false) ∧ Below W.heap.size W w' :=
  right_of (R := none) (fun W => split_long W 70000 ⟨#[]⟩ (by decide) (.inl (by decide))) W
end Go.Proofs.YtkohkkakbcjgcabGreatDoor
