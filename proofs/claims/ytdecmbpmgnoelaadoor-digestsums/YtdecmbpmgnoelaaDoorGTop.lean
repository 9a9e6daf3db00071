/- Hex, Base32, Unhex, Unbase32; the examples. -/
import Derived.Test.YtdecmbpmgnoelaaDoorGUns
namespace Go.Proofs.YtdecmbpmgnoelaaDoor
set_option linter.unusedVariables false
open Go.RowKit
theorem hex_in (s : ByteArray) (hs : s.size ≤ 1048576) (W : World) : Calls Tryd.prog 15 #[.string s] W fun e w' => e = .returned (.string ⟨(spl 4 s.data.toList).toArray⟩) ∧ Below W.heap.size W w' := by
  have H := Hid.mk (spelt_in s hs 4 (.inl rfl))
  go_enter Tryd.func15, Tryd.ntmps15
  go_wp2_with fail
  refine (H.out _).mono ?_
  rintro e w1 ⟨rfl, hb⟩
  go_wp2
  go_ret
  exact ⟨rfl, hb⟩
theorem b32_in (s : ByteArray) (hs : s.size ≤ 1048576) (W : World) : Calls Tryd.prog 17 #[.string s] W fun e w' => e = .returned (.string ⟨(spl 5 s.data.toList).toArray⟩) ∧ Below W.heap.size W w' := by
  have H := Hid.mk (spelt_in s hs 5 (.inr rfl))
  go_enter Tryd.func17, Tryd.ntmps17
  go_wp2_with fail
  refine (H.out _).mono ?_
  rintro e w1 ⟨rfl, hb⟩
  go_wp2
  go_ret
  exact ⟨rfl, hb⟩
theorem unhex_yes (t : ByteArray) (ht : t.size ≤ 8388613) (s : List UInt8) (h : uns 4 t.data.toList = some s) (W : World) : Calls Tryd.prog 11 #[.string t] W fun e w' => e = .returned (.tuple #[.string ⟨s.toArray⟩, .int .i64 0]) ∧ Below W.heap.size W w' := by
  have H := Hid.mk (unspelt_4 t ht)
  rw [unsE, h] at H
  clear h
  go_enter Tryd.func11, Tryd.ntmps11
  go_wp2_with fail
  refine (H.out _).mono ?_
  rintro e w1 ⟨rfl, hb⟩
  go_wp2
  go_ret2
  exact ⟨rfl, hb⟩
theorem unb32_yes (t : ByteArray) (ht : t.size ≤ 8388613) (s : List UInt8) (h : uns 5 t.data.toList = some s) (W : World) : Calls Tryd.prog 13 #[.string t] W fun e w' => e = .returned (.tuple #[.string ⟨s.toArray⟩, .int .i64 0]) ∧ Below W.heap.size W w' := by
  have H := Hid.mk (unspelt_5 t ht)
  rw [unsE, h] at H
  clear h
  go_enter Tryd.func13, Tryd.ntmps13
  go_wp2_with fail
  refine (H.out _).mono ?_
  rintro e w1 ⟨rfl, hb⟩
  go_wp2
  go_ret2
  exact ⟨rfl, hb⟩
theorem unb32_no (t : ByteArray) (ht : t.size ≤ 8388613) (h : uns 5 t.data.toList = none) (W : World) : Calls Tryd.prog 13 #[.string t] W fun e w' => e = .returned (.tuple #[.string ⟨#[]⟩, .int .i64 7]) ∧ Below W.heap.size W w' := by
  have H := Hid.mk (unspelt_5 t ht)
  rw [unsE, h] at H
  clear h
  go_enter Tryd.func13, Tryd.ntmps13
  go_wp2_with fail
  refine (H.out _).mono ?_
  rintro e w1 ⟨rfl, hb⟩
  go_wp2
  go_ret2
  exact ⟨rfl, hb⟩
theorem ex_vs : uns 5 [86, 83] = some [255] := by decide +kernel
theorem ex_vt : uns 5 [118, 116] = none := by decide +kernel
theorem ex_ff : uns 4 [102, 70] = some [255] := by decide +kernel
theorem ex_h1 : spl 4 (sha1 [97, 98, 99]) = [97, 57, 57, 57, 51, 101, 51, 54, 52, 55, 48, 54, 56, 49, 54, 97, 98, 97, 51, 101, 50, 53, 55, 49, 55, 56, 53, 48, 99, 50, 54, 99, 57, 99, 100, 48, 100, 56, 57, 100] := by rw [sha1_abc]; decide +kernel
theorem ex_b : spl 5 [255] = [118, 115] := by decide +kernel
end Go.Proofs.YtdecmbpmgnoelaaDoor
