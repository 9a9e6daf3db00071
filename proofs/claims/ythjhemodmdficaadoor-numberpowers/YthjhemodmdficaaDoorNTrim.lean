/- strings.TrimLeft of noughts. -/
import Derived.Test.YthjhemodmdficaaDoorNBytes
namespace Go.Proofs.YthjhemodmdficaaDoor
set_option linter.unusedVariables false
open Go.RowKit
theorem ba_ne {x y : ByteArray} (h : x ≠ y) : (x.toList == y.toList) = false ∧ (x.toList != y.toList) = true := by
  have hn : ¬ x.toList = y.toList := fun e => h (ba_ext (by rw [← ByteArray.toList_eq, ← ByteArray.toList_eq]; exact e))
  exact ⟨by simpa using hn, by simpa using hn⟩
/-- bytes without noughts ahead. -/
def strip : List UInt8 → List UInt8
  | [] => []
  | c :: l => if c.toNat = 0 then strip l else c :: l
def strLen : Value → Nat
  | .string u => u.size
  | _ => 0
theorem index_get (s : ByteArray) (k : Nat) (x : UInt8) (h : k < s.size) (hx : s.data.toList[k]?.getD 0 = x) (W : World) : (Instr.index 9 (.string s) (.int .i64 (k : Int))).run Tryd.prog W = .ok (.int .u8 (x.toNat : Int)) W := by
  rw [run_index_string _ _ _ _ _ Tryd.underlying9]
  have e : s.data.toList[k]?.getD 0 = s[k] := by rw [List.getElem?_eq_getElem (by rw [size_list]; exact h)]; rfl
  rw [← hx, e]
  simp [h]
theorem strip_cons (l : List UInt8) (h : 0 < l.length) (h0 : (l[0]?.getD 0).toNat = 0) : strip l = strip (l.drop 1) := by
  cases l with
  | nil => simp at h
  | cons c l => rw [strip, if_pos (by simpa using h0)]; rfl
theorem strip_stop (l : List UInt8) (h : 0 < l.length) (h0 : (l[0]?.getD 0).toNat ≠ 0) : strip l = l := by
  cases l with
  | nil => simp at h
  | cons c l => rw [strip, if_neg (by simpa using h0)]
theorem ext_one (s : ByteArray) : (s.extract 1 s.size).data.toList = s.data.toList.drop 1 := by
  rw [ByteArray.data_extract, Array.toList_extract, List.extract_eq_take_drop]
  apply List.take_of_length_le
  rw [List.length_drop, size_list]
  exact Nat.le_refl _
set_option maxRecDepth 100000 in
theorem trimByte_in (s : ByteArray) (hs : s.size ≤ 140737488355328) (W : World) : Calls Tryd.prog 54 #[.string s, .int .u8 0] W fun e w' => e = .returned (.string ⟨(strip s.data.toList).toArray⟩) ∧ w' = W := by
  obtain ⟨R, hR⟩ : ∃ R, strip s.data.toList = R := ⟨_, rfl⟩
  have HR := Hid.mk hR
  rw [hR]
  clear hR
  go_enter Tryd.func54, Tryd.ntmps54
  go_wp2_with fail
  go_loopw [0] (fun v wr => ∃ u : ByteArray, v = .string u ∧ u.size ≤ 140737488355328 ∧ Hid (strip u.data.toList = R) ∧ wr = W) (fun v _ => strLen v)
  case atStart => exact ⟨s, rfl, hs, HR, rfl⟩
  case round =>
    obtain ⟨u, rfl, hu, HU, rfl⟩ := hrel
    obtain ⟨n, hn⟩ : ∃ n, u.size = n := ⟨_, rfl⟩
    have HN : Hid (u.data.toList.length = n) := by rw [Hid, size_list]; exact hn
    by_cases h0 : 0 < n
    · have hix := index_get u 0 _ (by omega) rfl
      have hni : (0 : Int) < (n : Int) := by omega
      by_cases hz : (u.data.toList[0]?.getD 0).toNat = 0
      · have HNX : Hid (strip (u.extract 1 u.size).data.toList = R) := by rw [Hid, ext_one, ← strip_cons _ (by rw [HN.out]; exact h0) hz]; exact HU.out
        have hsz : (u.extract 1 u.size).size = n - 1 := by rw [← size_list, ext_one, List.length_drop, HN.out]
        rw [hn] at HNX hsz
        have hix0 : ∀ W : World, (Instr.index 9 (.string u) (.int .i64 0)).run Tryd.prog W = .ok (.int .u8 0) W := fun W => by have := hix W; rwa [hz] at this
        have h1n : (1 : Int) ≤ (n : Int) := by omega
        have h1n2 : 1 ≤ n := by omega
        clear hix
        go_wp2
        go_roundw
        case rel => exact ⟨_, rfl, by rw [hsz]; omega, HNX, trivial⟩
        case measure => simp only [strLen]; rw [hsz, hn]; omega
      · have HST : Hid (u.data.toList = R) := by rw [Hid, ← HU.out]; exact (strip_stop _ (by rw [HN.out]; exact h0) hz).symm
        have hix0 : ∀ W : World, (Instr.index 9 (.string u) (.int .i64 0)).run Tryd.prog W = .ok (.int .u8 ((u.data.toList[0]?.getD 0).toNat : Int)) W := hix
        have hne : (((u.data.toList[0]?.getD 0).toNat : Int) == 0) = false := by rw [beq_eq_false_iff_ne]; omega
        generalize u.data.toList[0]?.getD 0 = c at hix0 hne
        clear hix
        go_wp2
        go_ret
        exact ⟨by rw [← HST.out]; exact congrArg (fun z => Ending.returned (.string z)) (ba_ext rfl), rfl⟩
    · have hn0 : n = 0 := by omega
      subst hn0
      have HST : Hid (u.data.toList = R) := by
        have e : u.data.toList = [] := List.eq_nil_of_length_eq_zero HN.out
        rw [Hid, ← HU.out, e]
        rfl
      go_wp2
      go_ret
      exact ⟨by rw [← HST.out]; exact congrArg (fun z => Ending.returned (.string z)) (ba_ext rfl), rfl⟩
set_option maxRecDepth 100000 in
theorem trim_in (s : ByteArray) (hs : s.size ≤ 140737488355328) (W : World) : Calls Tryd.prog 36 #[.string s, .string ⟨#[0]⟩] W fun e w' => e = .returned (.string ⟨(strip s.data.toList).toArray⟩) ∧ w' = W := by
  have HT := Hid.mk (trimByte_in s hs)
  have hc1 : ((⟨#[0]⟩ : ByteArray) == ⟨#[]⟩) = false := by decide
  have hc2 : (⟨#[0]⟩ : ByteArray).size = 1 := rfl
  have hix : ∀ W : World, (Instr.index 9 (.string ⟨#[0]⟩) (.int .i64 0)).run Tryd.prog W = .ok (.int .u8 0) W := fun W => index_get ⟨#[0]⟩ 0 0 (by show 0 < 1; omega) rfl W
  by_cases h0 : s = ⟨#[]⟩
  · subst h0
    go_enter Tryd.func36, Tryd.ntmps36
    go_wp2
    go_ret
    exact ⟨rfl, rfl⟩
  · obtain ⟨hb1, hb2⟩ := ba_ne h0
    have hb3 : (s.toList == []) = false := by rw [ByteArray.toList_eq] at hb1; rw [ByteArray.toList_eq]; rw [ByteArray.toList_eq] at hb1; exact hb1
    go_enter Tryd.func36, Tryd.ntmps36
    go_wp2_with fail
    refine (HT.out _).mono ?_
    rintro e w1 ⟨rfl, rfl⟩
    go_wp2
    go_ret
    exact ⟨rfl, rfl⟩
end Go.Proofs.YthjhemodmdficaaDoor
