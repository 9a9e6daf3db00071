/- toldByte, numberedByte, TrimPrefix: one byte of a text. -/
import Derived.Deep.QuietTactic
import Derived.BigQuiet
import Derived.Test.YtpngjmeinlcggaaLeaf
namespace Go.Proofs.Ytpngjmeinlcggaa
set_option linter.unusedVariables false
open Go.RowKit

theorem told_plain (s : ByteArray) (h : 0 < s.size) (hb : s[0].toNat ≠ 92) (hp : plainB s[0] = true) (w : World) :
    Calls Try.prog 70 #[.string s] w fun e w' => e = .returned (.tuple #[.int .u8 (s[0].toNat : Int), .int .i64 1]) ∧ w' = w := by
  have hbb : ((s[0].toNat : Int) != 92) = true := by rw [bne_iff_ne]; omega
  clear hb
  go_enter Try.func70, Try.ntmps70
  go_wp2_with fail
  refine (plain_in s[0] _).mono ?_
  rintro e w' ⟨rfl, rfl⟩
  go_wp2
  go_ret2
  exact ⟨rfl, rfl⟩
theorem told_strange (s : ByteArray) (h : 0 < s.size) (hb : s[0].toNat ≠ 92) (hp : plainB s[0] = false) (w : World) :
    Calls Try.prog 70 #[.string s] w fun e w' => e = .returned (.tuple #[.int .u8 0, .int .i64 0]) ∧ w' = w := by
  have hbb : ((s[0].toNat : Int) != 92) = true := by rw [bne_iff_ne]; omega
  clear hb
  go_enter Try.func70, Try.ntmps70
  go_wp2_with fail
  refine (plain_in s[0] _).mono ?_
  rintro e w' ⟨rfl, rfl⟩
  go_wp2
  go_ret2
  exact ⟨rfl, rfl⟩
theorem told_end (s : ByteArray) (h : 0 < s.size) (hb : s[0].toNat = 92) (h2 : s.size < 2) (w : World) :
    Calls Try.prog 70 #[.string s] w fun e w' => e = .returned (.tuple #[.int .u8 0, .int .i64 0]) ∧ w' = w := by
  have hbb : ((s[0].toNat : Int) != 92) = false := by rw [hb]; rfl
  clear hb
  go_enter Try.func70, Try.ntmps70
  go_wp2
  go_ret2
  exact ⟨rfl, rfl⟩
theorem told_esc (s : ByteArray) (hm : s.size ≤ maxLen) (h : 1 < s.size) (hb : s[0].toNat = 92) (hd : digitB s[1] = false) (w : World) :
    Calls Try.prog 70 #[.string s] w fun e w' => e = .returned (.tuple #[.int .u8 (s[1].toNat : Int), .int .i64 2]) ∧ w' = w := by
  unfold maxLen at hm
  have hbb : ((s[0].toNat : Int) != 92) = false := by rw [hb]; rfl
  clear hb
  go_enter Try.func70, Try.ntmps70
  go_wp2_with fail
  refine (digit_in s[1] _).mono ?_
  rintro e w' ⟨rfl, rfl⟩
  go_wp2
  go_ret2
  exact ⟨rfl, rfl⟩

/-- the number that three digits tell. -/
def num3 (a b c : UInt8) : Nat := (a.toNat - 48) * 100 + (b.toNat - 48) * 10 + (c.toNat - 48)

theorem num_short (s : ByteArray) (hm : s.size ≤ maxLen) (h : s.size < 4) (w : World) :
    Calls Try.prog 73 #[.string s] w fun e w' => e = .returned (.tuple #[.int .u8 0, .int .i64 0]) ∧ w' = w := by
  unfold maxLen at hm
  go_enter Try.func73, Try.ntmps73
  go_wp2
  go_ret2
  exact ⟨rfl, rfl⟩
theorem num_no2 (s : ByteArray) (hm : s.size ≤ maxLen) (h : 3 < s.size) (h2 : digitB s[2] = false) (w : World) :
    Calls Try.prog 73 #[.string s] w fun e w' => e = .returned (.tuple #[.int .u8 0, .int .i64 0]) ∧ w' = w := by
  unfold maxLen at hm
  have hd4 : decide ((s.size : Int) < 4) = false := by simp; omega
  go_enter Try.func73, Try.ntmps73
  go_wp2_with fail
  refine (digit_in s[2] _).mono ?_
  rintro e w' ⟨rfl, rfl⟩
  go_wp2
  go_ret2
  exact ⟨rfl, rfl⟩
theorem num_no3 (s : ByteArray) (hm : s.size ≤ maxLen) (h : 3 < s.size) (h2 : digitB s[2] = true) (h3 : digitB s[3] = false) (w : World) :
    Calls Try.prog 73 #[.string s] w fun e w' => e = .returned (.tuple #[.int .u8 0, .int .i64 0]) ∧ w' = w := by
  unfold maxLen at hm
  have hd4 : decide ((s.size : Int) < 4) = false := by simp; omega
  go_enter Try.func73, Try.ntmps73
  go_wp2_with fail
  refine (digit_in s[2] _).mono ?_
  rintro e w' ⟨rfl, rfl⟩
  go_wp2_with fail
  refine (digit_in s[3] _).mono ?_
  rintro e w' ⟨rfl, rfl⟩
  go_wp2
  go_ret2
  exact ⟨rfl, rfl⟩

theorem digit_bd {c : UInt8} (h : digitB c = true) : 48 ≤ c.toNat ∧ c.toNat ≤ 57 := by simpa [digitB] using h

theorem index_const (s : ByteArray) (k : Nat) (h : k < s.size) (W : World) : (Instr.index 9 (.string s) (.int .i64 (k : Int))).run Try.prog W = .ok (.int .u8 (s[k].toNat : Int)) W := by
  rw [run_index_string _ _ _ _ _ Try.underlying9]
  simp [h]

set_option maxHeartbeats 1000000 in
theorem num_go (s : ByteArray) (hm : s.size ≤ maxLen) (h : 3 < s.size) (h1 : digitB s[1] = true) (h2 : digitB s[2] = true) (h3 : digitB s[3] = true) (w : World) :
    Calls Try.prog 73 #[.string s] w fun e w' => e = .returned (if num3 s[1] s[2] s[3] ≤ 255 then .tuple #[.int .u8 (num3 s[1] s[2] s[3] : Nat), .int .i64 4] else .tuple #[.int .u8 0, .int .i64 0]) ∧ ∃ n, w' = w.drewN n := by
  unfold maxLen at hm
  have hd4 : decide ((s.size : Int) < 4) = false := by simp; omega
  have b1 := digit_bd h1
  have b2 := digit_bd h2
  have b3 := digit_bd h3
  obtain ⟨x, hx⟩ : ∃ x : Nat, x = s[1].toNat - 48 := ⟨_, rfl⟩
  obtain ⟨y, hy⟩ : ∃ y : Nat, y = s[2].toNat - 48 := ⟨_, rfl⟩
  obtain ⟨z, hz⟩ : ∃ z : Nat, z = s[3].toNat - 48 := ⟨_, rfl⟩
  have hn : num3 s[1] s[2] s[3] = x * 100 + y * 10 + z := by rw [hx, hy, hz]; rfl
  have x9 : x ≤ 9 := by omega
  have y9 : y ≤ 9 := by omega
  have z9 : z ≤ 9 := by omega
  have e1 : IntKind.u8.wrap ((s[1].toNat : Int) - 48) = (x : Int) := by rw [IntKind.wrap_u8]; omega
  have e2 : IntKind.u8.wrap ((s[2].toNat : Int) - 48) = (y : Int) := by rw [IntKind.wrap_u8]; omega
  have e3 : IntKind.u8.wrap ((s[3].toNat : Int) - 48) = (z : Int) := by rw [IntKind.wrap_u8]; omega
  have f1 : IntKind.i64.wrap (x : Int) = (x : Int) := by rw [IntKind.wrap_i64]; omega
  have f2 : IntKind.i64.wrap (y : Int) = (y : Int) := by rw [IntKind.wrap_i64]; omega
  have f3 : IntKind.i64.wrap (z : Int) = (z : Int) := by rw [IntKind.wrap_i64]; omega
  have g1 : IntKind.i64.wrap ((x : Int) * 100) = (x : Int) * 100 := by rw [IntKind.wrap_i64]; omega
  have g2 : IntKind.i64.wrap ((y : Int) * 10) = (y : Int) * 10 := by rw [IntKind.wrap_i64]; omega
  have g3 : IntKind.i64.wrap ((x : Int) * 100 + (y : Int) * 10) = (x : Int) * 100 + (y : Int) * 10 := by rw [IntKind.wrap_i64]; omega
  have g4 : IntKind.i64.wrap ((x : Int) * 100 + (y : Int) * 10 + (z : Int)) = (x : Int) * 100 + (y : Int) * 10 + (z : Int) := by rw [IntKind.wrap_i64]; omega
  have l1 : 1 < s.size := by omega
  have l2 : 2 < s.size := by omega
  have j1 : ∀ W : World, (Instr.index 9 (.string s) (.int .i64 1)).run Try.prog W = .ok (.int .u8 (s[1].toNat : Int)) W := fun W => index_const s 1 (by omega) W
  have j2 : ∀ W : World, (Instr.index 9 (.string s) (.int .i64 2)).run Try.prog W = .ok (.int .u8 (s[2].toNat : Int)) W := fun W => index_const s 2 (by omega) W
  have j3 : ∀ W : World, (Instr.index 9 (.string s) (.int .i64 3)).run Try.prog W = .ok (.int .u8 (s[3].toNat : Int)) W := fun W => index_const s 3 (by omega) W
  rw [hn]
  clear hx hy hz hn b1 b2 b3
  by_cases hle : x * 100 + y * 10 + z ≤ 255
  · rw [if_pos hle]
    go_enter Try.func73, Try.ntmps73
    go_wp2_with fail
    refine (digit_in s[2] _).mono ?_
    rintro e w' ⟨rfl, rfl⟩
    go_wp2_with fail
    refine (digit_in s[3] _).mono ?_
    rintro e w' ⟨rfl, rfl⟩
    go_wp2
    go_quiet (fail)
    go_wp2
    go_ret2
    exact ⟨by rw [show ((x * 100 + y * 10 + z : Nat) : Int) = (x : Int) * 100 + (y : Int) * 10 + (z : Int) by omega]; rfl, _, rfl⟩
  · rw [if_neg hle]
    go_enter Try.func73, Try.ntmps73
    go_wp2_with fail
    refine (digit_in s[2] _).mono ?_
    rintro e w' ⟨rfl, rfl⟩
    go_wp2_with fail
    refine (digit_in s[3] _).mono ?_
    rintro e w' ⟨rfl, rfl⟩
    go_wp2
    go_quiet (fail)
    go_wp2
    go_ret2
    exact ⟨rfl, _, rfl⟩

/-! ### TrimPrefix of a dot -/
theorem hasPrefix_dot (s : ByteArray) (hm : s.size ≤ maxLen) (w : World) :
    Calls Try.prog 75 #[.string s, .string ⟨#[46]⟩] w fun e w' => e = .returned (.bool (s.data.toList.head? == some 46)) ∧ w' = w := by
  unfold maxLen at hm
  by_cases h : 1 ≤ s.size
  · go_enter Try.func75, Try.ntmps75
    go_wp2
    go_ret
    refine ⟨?_, rfl⟩
    show Ending.returned (.bool ((s.extract 0 1).toList == [46])) = _
    congr 2
    rw [ByteArray.toList_eq, Lib.extract_data]
    have : 0 < s.data.toList.length := by rw [size_list]; omega
    cases hl : s.data.toList with
    | nil => rw [hl] at this; simp at this
    | cons c t => simp
  · have hn : (s.data.toList.head? == some 46) = false := by
      have : s.data.toList = [] := List.eq_nil_of_length_eq_zero (by rw [size_list]; omega)
      rw [this]; rfl
    rw [hn]
    go_enter Try.func75, Try.ntmps75
    go_wp2
    go_ret
    exact ⟨rfl, rfl⟩
theorem liteTrim_yes (s : ByteArray) (hm : s.size ≤ maxLen) (h : s.data.toList.head? = some 46) (w : World) :
    Calls Try.prog 74 #[.string s, .string ⟨#[46]⟩] w fun e w' => e = .returned (.string (s.extract 1 s.size)) ∧ w' = w := by
  have hb : (s.data.toList.head? == some 46) = true := by rw [h]; rfl
  have h1 : 1 ≤ s.size := by
    rw [← size_list]
    cases hl : s.data.toList with
    | nil => rw [hl] at h; simp at h
    | cons c t => simp
  clear h
  unfold maxLen at hm
  go_enter Try.func74, Try.ntmps74
  go_wp2_with fail
  refine (hasPrefix_dot s (by unfold maxLen; exact hm) _).mono ?_
  rintro e w' ⟨rfl, rfl⟩
  go_wp2
  go_ret
  exact ⟨rfl, rfl⟩
theorem liteTrim_no (s : ByteArray) (hm : s.size ≤ maxLen) (h : s.data.toList.head? ≠ some 46) (w : World) :
    Calls Try.prog 74 #[.string s, .string ⟨#[46]⟩] w fun e w' => e = .returned (.string s) ∧ w' = w := by
  have hb : (s.data.toList.head? == some 46) = false := by rw [beq_eq_false_iff_ne]; exact h
  clear h
  go_enter Try.func74, Try.ntmps74
  go_wp2_with fail
  refine (hasPrefix_dot s hm _).mono ?_
  rintro e w' ⟨rfl, rfl⟩
  go_wp2
  go_ret
  exact ⟨rfl, rfl⟩

/-- a text without the dot that it begins with. -/
def trimD (l : List UInt8) : List UInt8 := if l.head? = some 46 then l.drop 1 else l
theorem trim_in (s : ByteArray) (hm : s.size ≤ maxLen) (w : World) :
    Calls Try.prog 71 #[.string s, .string ⟨#[46]⟩] w fun e w' => e = .returned (.string ⟨(trimD s.data.toList).toArray⟩) ∧ w' = w := by
  by_cases h : s.data.toList.head? = some 46
  · have he : (⟨(trimD s.data.toList).toArray⟩ : ByteArray) = s.extract 1 s.size := by
      apply ba_ext
      rw [ba_toList, trimD, if_pos h, Lib.extract_data]
      exact (List.take_of_length_le (by rw [List.length_drop, size_list]; exact Nat.le_refl _)).symm
    rw [he]
    go_enter Try.func71, Try.ntmps71
    go_wp2_with fail
    refine (liteTrim_yes s hm h _).mono ?_
    rintro e w' ⟨rfl, rfl⟩
    go_wp2
    go_ret
    exact ⟨rfl, rfl⟩
  · have he : (⟨(trimD s.data.toList).toArray⟩ : ByteArray) = s := by
      apply ba_ext
      rw [ba_toList, trimD, if_neg h]
    rw [he]
    go_enter Try.func71, Try.ntmps71
    go_wp2_with fail
    refine (liteTrim_no s hm h _).mono ?_
    rintro e w' ⟨rfl, rfl⟩
    go_wp2
    go_ret
    exact ⟨rfl, rfl⟩

/-! ### toldByte, all its ways -/
/-- the byte that the beginning of a text tells, and how much of the text that takes (0: it tells none). -/
def tb : List UInt8 → UInt8 × Nat
  | [] => (0, 0)
  | c :: t => if c.toNat ≠ 92 then (if plainB c = true then (c, 1) else (0, 0)) else
    match t with
    | [] => (0, 0)
    | d :: t => if digitB d = false then (d, 2) else
      match t with
      | e :: f :: _ => if digitB e = true ∧ digitB f = true ∧ num3 d e f ≤ 255 then (UInt8.ofNat (num3 d e f), 4) else (0, 0)
      | _ => (0, 0)

theorem get_of_list {s : ByteArray} {l : List UInt8} (h : s.data.toList = l) (k : Nat) (hk : k < s.size) (hl : k < l.length) : s[k] = l[k] := by
  subst h; rfl

theorem told_num (s : ByteArray) (hm : s.size ≤ maxLen) (h : 1 < s.size) (hb : s[0].toNat = 92) (hd : digitB s[1] = true) (r : Value) (w : World)
    (hr : ∀ w, Calls Try.prog 73 #[.string s] w fun e w' => e = .returned r ∧ ∃ n, w' = w.drewN n) (v0 v1 : Value) (hrv : r = .tuple #[v0, v1]) :
    Calls Try.prog 70 #[.string s] w fun e w' => e = .returned r ∧ ∃ n, w' = w.drewN n := by
  subst hrv
  have HR : Hid _ := hr
  clear hr
  unfold maxLen at hm
  have hbb : ((s[0].toNat : Int) != 92) = false := by rw [hb]; rfl
  clear hb
  go_enter Try.func70, Try.ntmps70
  go_wp2_with fail
  refine (digit_in s[1] _).mono ?_
  rintro e w' ⟨rfl, rfl⟩
  go_wp2_with fail
  refine (HR.out _).mono ?_
  rintro e w1 ⟨rfl, n, rfl⟩
  go_wp2
  go_ret2
  exact ⟨rfl, n, rfl⟩

theorem told_in (s : ByteArray) (hm : s.size ≤ maxLen) (h : 0 < s.size) (w : World) :
    Calls Try.prog 70 #[.string s] w fun e w' => e = .returned (.tuple #[.int .u8 ((tb s.data.toList).1.toNat : Int), .int .i64 ((tb s.data.toList).2 : Nat)]) ∧ ∃ n, w' = w.drewN n := by
  have triv : ∀ (e : Ending) (w' : World) (v : Value), (e = .returned v ∧ w' = w) → (e = .returned v ∧ ∃ n, w' = w.drewN n) := fun e w' v hh => ⟨hh.1, 0, hh.2⟩
  cases hl : s.data.toList with
  | nil => rw [← size_list, hl] at h; simp at h
  | cons c t =>
    have hsz : s.size = t.length + 1 := by rw [← size_list, hl]; rfl
    have h0 : s[0] = c := get_of_list hl 0 h (by simp)
    by_cases hb : c.toNat = 92
    · cases t with
      | nil =>
        have e : tb [c] = (0, 0) := by simp [tb, hb]
        rw [e]
        exact (told_end s h (by rw [h0]; exact hb) (by rw [hsz]; simp) w).mono fun e w' hh => triv e w' _ hh
      | cons d t =>
        have h1s : 1 < s.size := by rw [hsz]; simp
        have h1 : s[1] = d := get_of_list hl 1 h1s (by simp)
        by_cases hd : digitB d = true
        · have hnum : ∀ r : UInt8 × Nat, tb (c :: d :: t) = r → (∀ w, Calls Try.prog 73 #[.string s] w fun e w' => e = .returned (.tuple #[.int .u8 (r.1.toNat : Int), .int .i64 (r.2 : Nat)]) ∧ ∃ n, w' = w.drewN n) →
              Calls Try.prog 70 #[.string s] w fun e w' => e = .returned (.tuple #[.int .u8 ((tb (c :: d :: t)).1.toNat : Int), .int .i64 ((tb (c :: d :: t)).2 : Nat)]) ∧ ∃ n, w' = w.drewN n := by
            intro r hr hc
            rw [hr]
            exact told_num s hm h1s (by rw [h0]; exact hb) (by rw [h1]; exact hd) _ w hc _ _ rfl
          have up : ∀ (v : Value), (∀ w, Calls Try.prog 73 #[.string s] w fun e w' => e = .returned v ∧ w' = w) → ∀ w, Calls Try.prog 73 #[.string s] w fun e w' => e = .returned v ∧ ∃ n, w' = w.drewN n :=
            fun v hv w => (hv w).mono fun e w' hh => ⟨hh.1, 0, hh.2⟩
          cases t with
          | nil => exact hnum (0, 0) (by simp [tb, hb, hd]) (up _ (num_short s hm (by rw [hsz]; simp)))
          | cons e t =>
            cases t with
            | nil => exact hnum (0, 0) (by simp [tb, hb, hd]) (up _ (num_short s hm (by rw [hsz]; simp)))
            | cons f t =>
              have h3s : 3 < s.size := by rw [hsz]; simp
              have h2 : s[2] = e := get_of_list hl 2 (by omega) (by simp)
              have h3 : s[3] = f := get_of_list hl 3 h3s (by simp)
              by_cases he : digitB e = true
              · by_cases hf : digitB f = true
                · by_cases hn : num3 d e f ≤ 255
                  · refine hnum (UInt8.ofNat (num3 d e f), 4) (by simp [tb, hb, hd, he, hf, hn]) (fun w => ?_)
                    have := num_go s hm h3s (by rw [h1]; exact hd) (by rw [h2]; exact he) (by rw [h3]; exact hf) w
                    rw [h1, h2, h3, if_pos hn] at this
                    have e8 : (UInt8.ofNat (num3 d e f)).toNat = num3 d e f := by simp; omega
                    rw [e8]
                    exact this
                  · refine hnum (0, 0) (by simp [tb, hb, hd, he, hf, hn]) (fun w => ?_)
                    have := num_go s hm h3s (by rw [h1]; exact hd) (by rw [h2]; exact he) (by rw [h3]; exact hf) w
                    rw [h1, h2, h3, if_neg hn] at this
                    exact this
                · exact hnum (0, 0) (by simp [tb, hb, hd, he, hf]) (up _ (num_no3 s hm h3s (by rw [h2]; exact he) (by rw [h3]; simpa using hf)))
              · exact hnum (0, 0) (by simp [tb, hb, hd, he]) (up _ (num_no2 s hm h3s (by rw [h2]; simpa using he)))
        · have hd' : digitB d = false := by simpa using hd
          have e : tb (c :: d :: t) = (d, 2) := by simp [tb, hb, hd']
          rw [e]
          have := told_esc s hm h1s (by rw [h0]; exact hb) (by rw [h1]; exact hd') w
          rw [h1] at this
          exact this.mono fun e w' hh => triv e w' _ hh
    · by_cases hp : plainB c = true
      · have e : tb (c :: t) = (c, 1) := by simp [tb, hb, hp]
        rw [e]
        have := told_plain s h (by rw [h0]; exact hb) (by rw [h0]; exact hp) w
        rw [h0] at this
        exact this.mono fun e w' hh => triv e w' _ hh
      · have hp' : plainB c = false := by simpa using hp
        have e : tb (c :: t) = (0, 0) := by simp [tb, hb, hp']
        rw [e]
        have := told_strange s h (by rw [h0]; exact hb) (by rw [h0]; exact hp') w
        exact this.mono fun e w' hh => triv e w' _ hh

end Go.Proofs.Ytpngjmeinlcggaa
