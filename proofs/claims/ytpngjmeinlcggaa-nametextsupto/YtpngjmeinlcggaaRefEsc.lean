/- The document's own digit and escape (guidepostref01). -/
import Derived.Test.YtpngjmeinlcggaaTold
namespace Go.Proofs.Ytpngjmeinlcggaa
set_option linter.unusedVariables false
open Go.RowKit

theorem rdigit_in (c : UInt8) (w : World) :
    Calls Try.prog 66 #[.int .u8 (c.toNat : Int)] w fun e w' => e = .returned (.bool (digitB c)) ∧ w' = w := by
  have hc := c.toNat_lt
  by_cases h1 : 48 ≤ c.toNat
  · by_cases h2 : c.toNat ≤ 57
    · have hp : digitB c = true := by simp [digitB, h1, h2]
      rw [hp]; clear hp
      go_enter Try.func66, Try.ntmps66
      go_wp2
      go_ret
      exact ⟨by simp; omega, rfl⟩
    · have hp : digitB c = false := by simp [digitB]; omega
      rw [hp]; clear hp
      go_enter Try.func66, Try.ntmps66
      go_wp2
      go_ret
      exact ⟨by simp; omega, rfl⟩
  · have hp : digitB c = false := by simp [digitB]; omega
    rw [hp]; clear hp
    go_enter Try.func66, Try.ntmps66
    go_wp2
    go_ret
    exact ⟨rfl, rfl⟩

theorem esc_end (s : ByteArray) (h2 : s.size < 2) (w : World) :
    Calls Try.prog 47 #[.string s] w fun e w' => e = .returned (.tuple #[.int .u8 0, .int .i64 0]) ∧ w' = w := by
  go_enter Try.func47, Try.ntmps47
  go_wp2
  go_ret2
  exact ⟨rfl, rfl⟩
theorem esc_esc (s : ByteArray) (hm : s.size ≤ maxLen) (h : 1 < s.size) (hd : digitB s[1] = false) (w : World) :
    Calls Try.prog 47 #[.string s] w fun e w' => e = .returned (.tuple #[.int .u8 (s[1].toNat : Int), .int .i64 2]) ∧ w' = w := by
  unfold maxLen at hm
  go_enter Try.func47, Try.ntmps47
  go_wp2_with fail
  refine (rdigit_in s[1] _).mono ?_
  rintro e w' ⟨rfl, rfl⟩
  go_wp2
  go_ret2
  exact ⟨rfl, rfl⟩
theorem esc_short (s : ByteArray) (h0 : 1 < s.size) (h1 : digitB s[1] = true) (h : s.size < 4) (w : World) :
    Calls Try.prog 47 #[.string s] w fun e w' => e = .returned (.tuple #[.int .u8 0, .int .i64 0]) ∧ w' = w := by
  go_enter Try.func47, Try.ntmps47
  go_wp2_with fail
  refine (rdigit_in s[1] _).mono ?_
  rintro e w' ⟨rfl, rfl⟩
  go_wp2
  go_ret2
  exact ⟨rfl, rfl⟩
theorem esc_no2 (s : ByteArray) (hm : s.size ≤ maxLen) (h : 3 < s.size) (h1 : digitB s[1] = true) (h2 : digitB s[2] = false) (w : World) :
    Calls Try.prog 47 #[.string s] w fun e w' => e = .returned (.tuple #[.int .u8 0, .int .i64 0]) ∧ w' = w := by
  unfold maxLen at hm
  have hd2 : decide ((s.size : Int) < 2) = false := by simp; omega
  have hd4 : decide ((s.size : Int) < 4) = false := by simp; omega
  go_enter Try.func47, Try.ntmps47
  go_wp2_with fail
  refine (rdigit_in s[1] _).mono ?_
  rintro e w' ⟨rfl, rfl⟩
  go_wp2_with fail
  refine (rdigit_in s[2] _).mono ?_
  rintro e w' ⟨rfl, rfl⟩
  go_wp2
  go_ret2
  exact ⟨rfl, rfl⟩
theorem esc_no3 (s : ByteArray) (hm : s.size ≤ maxLen) (h : 3 < s.size) (h1 : digitB s[1] = true) (h2 : digitB s[2] = true) (h3 : digitB s[3] = false) (w : World) :
    Calls Try.prog 47 #[.string s] w fun e w' => e = .returned (.tuple #[.int .u8 0, .int .i64 0]) ∧ w' = w := by
  unfold maxLen at hm
  have hd2 : decide ((s.size : Int) < 2) = false := by simp; omega
  have hd4 : decide ((s.size : Int) < 4) = false := by simp; omega
  go_enter Try.func47, Try.ntmps47
  go_wp2_with fail
  refine (rdigit_in s[1] _).mono ?_
  rintro e w' ⟨rfl, rfl⟩
  go_wp2_with fail
  refine (rdigit_in s[2] _).mono ?_
  rintro e w' ⟨rfl, rfl⟩
  go_wp2_with fail
  refine (rdigit_in s[3] _).mono ?_
  rintro e w' ⟨rfl, rfl⟩
  go_wp2
  go_ret2
  exact ⟨rfl, rfl⟩

set_option maxHeartbeats 1000000 in
theorem esc_go (s : ByteArray) (hm : s.size ≤ maxLen) (h : 3 < s.size) (h1 : digitB s[1] = true) (h2 : digitB s[2] = true) (h3 : digitB s[3] = true) (w : World) :
    Calls Try.prog 47 #[.string s] w fun e w' => e = .returned (if num3 s[1] s[2] s[3] ≤ 255 then .tuple #[.int .u8 (num3 s[1] s[2] s[3] : Nat), .int .i64 4] else .tuple #[.int .u8 0, .int .i64 0]) ∧ ∃ n, w' = w.drewN n := by
  unfold maxLen at hm
  have hd2 : decide ((s.size : Int) < 2) = false := by simp; omega
  have hd4 : decide ((s.size : Int) < 4) = false := by simp; omega
  have b1 := digit_bd h1
  have b2 := digit_bd h2
  have b3 := digit_bd h3
  obtain ⟨x, hx⟩ : ∃ x : Nat, x = s[1].toNat - 48 := ⟨_, rfl⟩
  obtain ⟨y, hy⟩ : ∃ y : Nat, y = s[2].toNat - 48 := ⟨_, rfl⟩
  obtain ⟨z, hz⟩ : ∃ z : Nat, z = s[3].toNat - 48 := ⟨_, rfl⟩
  have hn : num3 s[1] s[2] s[3] = x * 100 + y * 10 + z := by rw [hx, hy, hz]; rfl
  have x9 : x ≤ 9 := by omega
  have y9 : y ≤ 9 := by omega
  have z9 : z ≤ 9 := by omega
  have e1 : IntKind.u8.wrap ((s[1].toNat : Int) - 48) = (x : Int) := by rw [IntKind.wrap_u8]; omega
  have e2 : IntKind.u8.wrap ((s[2].toNat : Int) - 48) = (y : Int) := by rw [IntKind.wrap_u8]; omega
  have e3 : IntKind.u8.wrap ((s[3].toNat : Int) - 48) = (z : Int) := by rw [IntKind.wrap_u8]; omega
  have f1 : IntKind.i64.wrap (x : Int) = (x : Int) := by rw [IntKind.wrap_i64]; omega
  have f2 : IntKind.i64.wrap (y : Int) = (y : Int) := by rw [IntKind.wrap_i64]; omega
  have f3 : IntKind.i64.wrap (z : Int) = (z : Int) := by rw [IntKind.wrap_i64]; omega
  have g1 : IntKind.i64.wrap ((x : Int) * 100) = (x : Int) * 100 := by rw [IntKind.wrap_i64]; omega
  have g2 : IntKind.i64.wrap ((y : Int) * 10) = (y : Int) * 10 := by rw [IntKind.wrap_i64]; omega
  have g3 : IntKind.i64.wrap ((x : Int) * 100 + (y : Int) * 10) = (x : Int) * 100 + (y : Int) * 10 := by rw [IntKind.wrap_i64]; omega
  have g4 : IntKind.i64.wrap ((x : Int) * 100 + (y : Int) * 10 + (z : Int)) = (x : Int) * 100 + (y : Int) * 10 + (z : Int) := by rw [IntKind.wrap_i64]; omega
  have l1 : 1 < s.size := by omega
  have l2 : 2 < s.size := by omega
  have j1 : ∀ W : World, (Instr.index 9 (.string s) (.int .i64 1)).run Try.prog W = .ok (.int .u8 (s[1].toNat : Int)) W := fun W => index_const s 1 (by omega) W
  have j2 : ∀ W : World, (Instr.index 9 (.string s) (.int .i64 2)).run Try.prog W = .ok (.int .u8 (s[2].toNat : Int)) W := fun W => index_const s 2 (by omega) W
  have j3 : ∀ W : World, (Instr.index 9 (.string s) (.int .i64 3)).run Try.prog W = .ok (.int .u8 (s[3].toNat : Int)) W := fun W => index_const s 3 (by omega) W
  rw [hn]
  clear hx hy hz hn b1 b2 b3
  by_cases hle : x * 100 + y * 10 + z ≤ 255
  · rw [if_pos hle]
    go_enter Try.func47, Try.ntmps47
    go_wp2_with fail
    refine (rdigit_in s[1] _).mono ?_
    rintro e w' ⟨rfl, rfl⟩
    go_wp2_with fail
    refine (rdigit_in s[2] _).mono ?_
    rintro e w' ⟨rfl, rfl⟩
    go_wp2_with fail
    refine (rdigit_in s[3] _).mono ?_
    rintro e w' ⟨rfl, rfl⟩
    go_wp2
    go_quiet (fail)
    go_wp2
    go_ret2
    exact ⟨by rw [show ((x * 100 + y * 10 + z : Nat) : Int) = (x : Int) * 100 + (y : Int) * 10 + (z : Int) by omega]; rfl, _, rfl⟩
  · rw [if_neg hle]
    go_enter Try.func47, Try.ntmps47
    go_wp2_with fail
    refine (rdigit_in s[1] _).mono ?_
    rintro e w' ⟨rfl, rfl⟩
    go_wp2_with fail
    refine (rdigit_in s[2] _).mono ?_
    rintro e w' ⟨rfl, rfl⟩
    go_wp2_with fail
    refine (rdigit_in s[3] _).mono ?_
    rintro e w' ⟨rfl, rfl⟩
    go_wp2
    go_quiet (fail)
    go_wp2
    go_ret2
    exact ⟨rfl, _, rfl⟩

theorem esc_in (s : ByteArray) (hm : s.size ≤ maxLen) (h : 0 < s.size) (hb : s[0].toNat = 92) (w : World) :
    Calls Try.prog 47 #[.string s] w fun e w' => e = .returned (.tuple #[.int .u8 ((tb s.data.toList).1.toNat : Int), .int .i64 ((tb s.data.toList).2 : Nat)]) ∧ ∃ n, w' = w.drewN n := by
  have triv : ∀ (e : Ending) (w' : World) (v : Value), (e = .returned v ∧ w' = w) → (e = .returned v ∧ ∃ n, w' = w.drewN n) := fun e w' v hh => ⟨hh.1, 0, hh.2⟩
  cases hl : s.data.toList with
  | nil => rw [← size_list, hl] at h; simp at h
  | cons c t =>
    have hsz : s.size = t.length + 1 := by rw [← size_list, hl]; rfl
    have h0 : s[0] = c := get_of_list hl 0 h (by simp)
    rw [h0] at hb
    cases t with
    | nil =>
      have e : tb [c] = (0, 0) := by simp [tb, hb]
      rw [e]
      exact (esc_end s (by rw [hsz]; simp) w).mono fun e w' hh => triv e w' _ hh
    | cons d t =>
      have h1s : 1 < s.size := by rw [hsz]; simp
      have h1 : s[1] = d := get_of_list hl 1 h1s (by simp)
      by_cases hd : digitB d = true
      · have hd1 : digitB s[1] = true := by rw [h1]; exact hd
        cases t with
        | nil =>
          rw [show tb [c, d] = (0, 0) by simp [tb, hb, hd]]
          exact (esc_short s h1s hd1 (by rw [hsz]; simp) w).mono fun e w' hh => triv e w' _ hh
        | cons e t =>
          cases t with
          | nil =>
            rw [show tb [c, d, e] = (0, 0) by simp [tb, hb, hd]]
            exact (esc_short s h1s hd1 (by rw [hsz]; simp) w).mono fun e w' hh => triv e w' _ hh
          | cons f t =>
            have h3s : 3 < s.size := by rw [hsz]; simp
            have h2 : s[2] = e := get_of_list hl 2 (by omega) (by simp)
            have h3 : s[3] = f := get_of_list hl 3 h3s (by simp)
            by_cases he : digitB e = true
            · by_cases hf : digitB f = true
              · have := esc_go s hm h3s hd1 (by rw [h2]; exact he) (by rw [h3]; exact hf) w
                by_cases hn : num3 d e f ≤ 255
                · rw [show tb (c :: d :: e :: f :: t) = (UInt8.ofNat (num3 d e f), 4) by simp [tb, hb, hd, he, hf, hn]]
                  rw [h1, h2, h3, if_pos hn] at this
                  have e8 : (UInt8.ofNat (num3 d e f)).toNat = num3 d e f := by simp; omega
                  rw [e8]
                  exact this
                · rw [show tb (c :: d :: e :: f :: t) = (0, 0) by simp [tb, hb, hd, he, hf, hn]]
                  rw [h1, h2, h3, if_neg hn] at this
                  exact this
              · rw [show tb (c :: d :: e :: f :: t) = (0, 0) by simp [tb, hb, hd, he, hf]]
                exact (esc_no3 s hm h3s hd1 (by rw [h2]; exact he) (by rw [h3]; simpa using hf) w).mono fun e w' hh => triv e w' _ hh
            · rw [show tb (c :: d :: e :: f :: t) = (0, 0) by simp [tb, hb, hd, he]]
              exact (esc_no2 s hm h3s hd1 (by rw [h2]; simpa using he) w).mono fun e w' hh => triv e w' _ hh
      · have hd' : digitB d = false := by simpa using hd
        rw [show tb (c :: d :: t) = (d, 2) by simp [tb, hb, hd']]
        have := esc_esc s hm h1s (by rw [h1]; exact hd') w
        rw [h1] at this
        exact this.mono fun e w' hh => triv e w' _ hh

end Go.Proofs.Ytpngjmeinlcggaa
