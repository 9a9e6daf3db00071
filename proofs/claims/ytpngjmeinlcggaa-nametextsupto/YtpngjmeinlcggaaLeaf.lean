/- The small functions: lowByte, rightLabel, limited, plain, digit, isNaN, cmp.Compare, HasPrefix and TrimPrefix. -/
import Derived.WalkKit
import Derived.WalkSpells
import Derived.WalkLawsBesides
import Derived.Test.YtpngjmeinlcggaaRows
import Derived.Test.YtpngjmeinlcggaaPlain
namespace Go.Proofs.Ytpngjmeinlcggaa
set_option linter.unusedVariables false
open Go.RowKit

def lowB (c : UInt8) : UInt8 := if 65 ≤ c.toNat ∧ c.toNat ≤ 90 then UInt8.ofNat (c.toNat + 32) else c
theorem lowB_toNat (c : UInt8) : (lowB c).toNat = if 65 ≤ c.toNat ∧ c.toNat ≤ 90 then c.toNat + 32 else c.toNat := by
  unfold lowB
  split
  · rename_i h; simp; omega
  · rfl

theorem ret_int {k : IntKind} {a b : Int} (h : a = b) : Ending.returned (.int k a) = .returned (.int k b) := by rw [h]

theorem lowByte_in (c : UInt8) (w : World) :
    Calls Try.prog 63 #[.int .u8 (c.toNat : Int)] w fun e w' => e = .returned (.int .u8 ((lowB c).toNat : Int)) ∧ w' = w := by
  have hc := c.toNat_lt
  have hl := lowB_toNat c
  by_cases h1 : 65 ≤ c.toNat
  · by_cases h2 : c.toNat ≤ 90
    · rw [if_pos ⟨h1, h2⟩] at hl
      rw [hl]; clear hl
      go_enter Try.func63, Try.ntmps63
      go_wp2
      go_ret
      exact ⟨ret_int (by simp), rfl⟩
    · rw [if_neg (by omega)] at hl
      rw [hl]; clear hl
      go_enter Try.func63, Try.ntmps63
      go_wp2
      go_ret
      exact ⟨rfl, rfl⟩
  · rw [if_neg (by omega)] at hl
    rw [hl]; clear hl
    go_enter Try.func63, Try.ntmps63
    go_wp2
    go_ret
    exact ⟨rfl, rfl⟩

theorem rightLabel_yes (s : ByteArray) (w : World) (h1 : 1 ≤ s.size) (h2 : s.size ≤ 63) :
    Calls Try.prog 60 #[.string s] w fun e w' => e = .returned (.bool true) ∧ w' = w := by
  go_enter Try.func60, Try.ntmps60
  go_wp2
  go_ret
  exact ⟨by simp; omega, rfl⟩

theorem rightLabel_no (s : ByteArray) (w : World) (hm : s.size ≤ maxLen) (h : s.size < 1 ∨ 63 < s.size) :
    Calls Try.prog 60 #[.string s] w fun e w' => e = .returned (.bool false) ∧ w' = w := by
  unfold maxLen at hm
  rcases h with h | h
  · go_enter Try.func60, Try.ntmps60
    go_wp2
    go_ret
    exact ⟨rfl, rfl⟩
  · have h1 : 1 ≤ s.size := by omega
    go_enter Try.func60, Try.ntmps60
    go_wp2
    go_ret
    exact ⟨by simp; omega, rfl⟩

theorem limited_ok (s : ByteArray) (w : World) (h : s.size ≤ 255) :
    Calls Try.prog 59 #[.string s] w fun e w' => e = .returned (.tuple #[.string s, .int .i64 0]) ∧ w' = w := by
  go_enter Try.func59, Try.ntmps59
  go_wp2
  go_ret2
  exact ⟨rfl, rfl⟩

theorem limited_long (s : ByteArray) (w : World) (hm : s.size ≤ 2 * maxLen) (h : 255 < s.size) :
    Calls Try.prog 59 #[.string s] w fun e w' => e = .returned (.tuple #[.string ⟨#[]⟩, .int .i64 3]) ∧ w' = w := by
  unfold maxLen at hm
  go_enter Try.func59, Try.ntmps59
  go_wp2
  go_ret2
  exact ⟨rfl, rfl⟩

def plainB (c : UInt8) : Bool := decide (33 ≤ c.toNat ∧ c.toNat ≤ 126)
def digitB (c : UInt8) : Bool := decide (48 ≤ c.toNat ∧ c.toNat ≤ 57)

theorem plain_in (c : UInt8) (w : World) :
    Calls Try.prog 67 #[.int .u8 (c.toNat : Int)] w fun e w' => e = .returned (.bool (plainB c)) ∧ w' = w := by
  have hc := c.toNat_lt
  by_cases h1 : 33 ≤ c.toNat
  · by_cases h2 : c.toNat ≤ 126
    · have hp : plainB c = true := by simp [plainB, h1, h2]
      rw [hp]; clear hp
      go_enter Try.func67, Try.ntmps67
      go_wp2
      go_ret
      exact ⟨by simp; omega, rfl⟩
    · have hp : plainB c = false := by simp [plainB]; omega
      rw [hp]; clear hp
      go_enter Try.func67, Try.ntmps67
      go_wp2
      go_ret
      exact ⟨by simp; omega, rfl⟩
  · have hp : plainB c = false := by simp [plainB]; omega
    rw [hp]; clear hp
    go_enter Try.func67, Try.ntmps67
    go_wp2
    go_ret
    exact ⟨rfl, rfl⟩

theorem digit_in (c : UInt8) (w : World) :
    Calls Try.prog 72 #[.int .u8 (c.toNat : Int)] w fun e w' => e = .returned (.bool (digitB c)) ∧ w' = w := by
  have hc := c.toNat_lt
  by_cases h1 : 48 ≤ c.toNat
  · by_cases h2 : c.toNat ≤ 57
    · have hp : digitB c = true := by simp [digitB, h1, h2]
      rw [hp]; clear hp
      go_enter Try.func72, Try.ntmps72
      go_wp2
      go_ret
      exact ⟨by simp; omega, rfl⟩
    · have hp : digitB c = false := by simp [digitB]; omega
      rw [hp]; clear hp
      go_enter Try.func72, Try.ntmps72
      go_wp2
      go_ret
      exact ⟨by simp; omega, rfl⟩
  · have hp : digitB c = false := by simp [digitB]; omega
    rw [hp]; clear hp
    go_enter Try.func72, Try.ntmps72
    go_wp2
    go_ret
    exact ⟨rfl, rfl⟩

theorem isNaNInt_in (x : Int) (w : World) : Calls Try.prog 68 #[.int .i64 x] w fun e w' => e = .returned (.bool false) ∧ w' = w := by
  go_enter Try.func68, Try.ntmps68
  go_wp2
  go_ret
  exact ⟨by simp, rfl⟩
theorem isNaNStr_in (x : ByteArray) (w : World) : Calls Try.prog 69 #[.string x] w fun e w' => e = .returned (.bool false) ∧ w' = w := by
  go_enter Try.func69, Try.ntmps69
  go_wp2
  go_ret
  exact ⟨by simp, rfl⟩

def cmpI (a b : Int) : Int := if a < b then -1 else if b < a then 1 else 0
theorem cmpInt_in (a b : Int) (w : World) :
    Calls Try.prog 56 #[.int .i64 a, .int .i64 b] w fun e w' => e = .returned (.int .i64 (cmpI a b)) ∧ w' = w := by
  by_cases h1 : a < b
  · have hp : cmpI a b = -1 := by simp [cmpI, h1]
    rw [hp]; clear hp
    go_enter Try.func56, Try.ntmps56
    go_wp2_with (go_at_call 68; refine (isNaNInt_in _ _).mono ?_; rintro e w' ⟨rfl, rfl⟩)
    go_ret
    exact ⟨rfl, rfl⟩
  · by_cases h2 : b < a
    · have hp : cmpI a b = 1 := by simp [cmpI, h1, h2]
      rw [hp]; clear hp
      go_enter Try.func56, Try.ntmps56
      go_wp2_with (go_at_call 68; refine (isNaNInt_in _ _).mono ?_; rintro e w' ⟨rfl, rfl⟩)
      go_ret
      exact ⟨rfl, rfl⟩
    · have hp : cmpI a b = 0 := by simp [cmpI, h1, h2]
      rw [hp]; clear hp
      go_enter Try.func56, Try.ntmps56
      go_wp2_with (go_at_call 68; refine (isNaNInt_in _ _).mono ?_; rintro e w' ⟨rfl, rfl⟩)
      go_ret
      exact ⟨rfl, rfl⟩

end Go.Proofs.Ytpngjmeinlcggaa
