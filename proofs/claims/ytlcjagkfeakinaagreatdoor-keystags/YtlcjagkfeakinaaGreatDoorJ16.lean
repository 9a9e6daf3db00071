/- Texts of this proof, joined: Told, Draft, Cut, Toks. -/
import Derived.Deep.QuietTactic
import Derived.BigQuiet
import Derived.Test.YtlcjagkfeakinaaGreatDoorJ3
import Derived.Lib.AppendStr
import Derived.Maps.AppendAt
import Derived.RangeFuncBox
import Derived.Test.YtlcjagkfeakinaaGreatDoorJ15
import Derived.RangeFuncNested
import Derived.RangeFuncBound
import Derived.RangeFuncCalls
import Derived.RangeFuncLeaves
/- toldByte, numberedByte, TrimPrefix: one byte of a text. -/
namespace Go.Proofs.YtlcjagkfeakinaaGreatDoor
set_option linter.unusedVariables false
open Go.RowKit

theorem told_plain (s : ByteArray) (h : 0 < s.size) (hb : s[0].toNat ≠ 92) (hp : plainB s[0] = true) (w : World) :
    Calls Tryz.prog 268 #[.string s] w fun e w' => e = .returned (.tuple #[.int .u8 (s[0].toNat : Int), .int .i64 1]) ∧ w' = w := by
  have hbb : ((s[0].toNat : Int) != 92) = true := by rw [bne_iff_ne]; omega
  clear hb
  go_enter Tryz.func268, Tryz.ntmps268
  go_wp2_with fail
  refine (plain_in s[0] _).mono ?_
  rintro e w' ⟨rfl, rfl⟩
  go_wp2
  go_ret2
  exact ⟨rfl, rfl⟩
theorem told_strange (s : ByteArray) (h : 0 < s.size) (hb : s[0].toNat ≠ 92) (hp : plainB s[0] = false) (w : World) :
    Calls Tryz.prog 268 #[.string s] w fun e w' => e = .returned (.tuple #[.int .u8 0, .int .i64 0]) ∧ w' = w := by
  have hbb : ((s[0].toNat : Int) != 92) = true := by rw [bne_iff_ne]; omega
  clear hb
  go_enter Tryz.func268, Tryz.ntmps268
  go_wp2_with fail
  refine (plain_in s[0] _).mono ?_
  rintro e w' ⟨rfl, rfl⟩
  go_wp2
  go_ret2
  exact ⟨rfl, rfl⟩
theorem told_end (s : ByteArray) (h : 0 < s.size) (hb : s[0].toNat = 92) (h2 : s.size < 2) (w : World) :
    Calls Tryz.prog 268 #[.string s] w fun e w' => e = .returned (.tuple #[.int .u8 0, .int .i64 0]) ∧ w' = w := by
  have hbb : ((s[0].toNat : Int) != 92) = false := by rw [hb]; rfl
  clear hb
  go_enter Tryz.func268, Tryz.ntmps268
  go_wp2
  go_ret2
  exact ⟨rfl, rfl⟩
theorem told_esc (s : ByteArray) (hm : s.size ≤ maxLen) (h : 1 < s.size) (hb : s[0].toNat = 92) (hd : digitB s[1] = false) (w : World) :
    Calls Tryz.prog 268 #[.string s] w fun e w' => e = .returned (.tuple #[.int .u8 (s[1].toNat : Int), .int .i64 2]) ∧ w' = w := by
  unfold maxLen at hm
  have hbb : ((s[0].toNat : Int) != 92) = false := by rw [hb]; rfl
  clear hb
  go_enter Tryz.func268, Tryz.ntmps268
  go_wp2_with fail
  refine (digit_in s[1] _).mono ?_
  rintro e w' ⟨rfl, rfl⟩
  go_wp2
  go_ret2
  exact ⟨rfl, rfl⟩

/-- the number that three digits tell. -/
def num3 (a b c : UInt8) : Nat := (a.toNat - 48) * 100 + (b.toNat - 48) * 10 + (c.toNat - 48)

theorem num_short (s : ByteArray) (hm : s.size ≤ maxLen) (h : s.size < 4) (w : World) :
    Calls Tryz.prog 276 #[.string s] w fun e w' => e = .returned (.tuple #[.int .u8 0, .int .i64 0]) ∧ w' = w := by
  unfold maxLen at hm
  go_enter Tryz.func276, Tryz.ntmps276
  go_wp2
  go_ret2
  exact ⟨rfl, rfl⟩
theorem num_no2 (s : ByteArray) (hm : s.size ≤ maxLen) (h : 3 < s.size) (h2 : digitB s[2] = false) (w : World) :
    Calls Tryz.prog 276 #[.string s] w fun e w' => e = .returned (.tuple #[.int .u8 0, .int .i64 0]) ∧ w' = w := by
  unfold maxLen at hm
  have hd4 : decide ((s.size : Int) < 4) = false := by simp; omega
  go_enter Tryz.func276, Tryz.ntmps276
  go_wp2_with fail
  refine (digit_in s[2] _).mono ?_
  rintro e w' ⟨rfl, rfl⟩
  go_wp2
  go_ret2
  exact ⟨rfl, rfl⟩
theorem num_no3 (s : ByteArray) (hm : s.size ≤ maxLen) (h : 3 < s.size) (h2 : digitB s[2] = true) (h3 : digitB s[3] = false) (w : World) :
    Calls Tryz.prog 276 #[.string s] w fun e w' => e = .returned (.tuple #[.int .u8 0, .int .i64 0]) ∧ w' = w := by
  unfold maxLen at hm
  have hd4 : decide ((s.size : Int) < 4) = false := by simp; omega
  go_enter Tryz.func276, Tryz.ntmps276
  go_wp2_with fail
  refine (digit_in s[2] _).mono ?_
  rintro e w' ⟨rfl, rfl⟩
  go_wp2_with fail
  refine (digit_in s[3] _).mono ?_
  rintro e w' ⟨rfl, rfl⟩
  go_wp2
  go_ret2
  exact ⟨rfl, rfl⟩

theorem digit_bd {c : UInt8} (h : digitB c = true) : 48 ≤ c.toNat ∧ c.toNat ≤ 57 := by simpa [digitB] using h

theorem index_const (s : ByteArray) (k : Nat) (h : k < s.size) (W : World) : (Instr.index 9 (.string s) (.int .i64 (k : Int))).run Tryz.prog W = .ok (.int .u8 (s[k].toNat : Int)) W := by
  rw [run_index_string _ _ _ _ _ Tryz.underlying9]
  simp [h]

set_option maxHeartbeats 1000000 in
theorem num_go (s : ByteArray) (hm : s.size ≤ maxLen) (h : 3 < s.size) (h1 : digitB s[1] = true) (h2 : digitB s[2] = true) (h3 : digitB s[3] = true) (w : World) :
    Calls Tryz.prog 276 #[.string s] w fun e w' => e = .returned (if num3 s[1] s[2] s[3] ≤ 255 then .tuple #[.int .u8 (num3 s[1] s[2] s[3] : Nat), .int .i64 4] else .tuple #[.int .u8 0, .int .i64 0]) ∧ ∃ n, w' = w.drewN n := by
  unfold maxLen at hm
  have hd4 : decide ((s.size : Int) < 4) = false := by simp; omega
  have b1 := digit_bd h1
  have b2 := digit_bd h2
  have b3 := digit_bd h3
  obtain ⟨x, hx⟩ : ∃ x : Nat, x = s[1].toNat - 48 := ⟨_, rfl⟩
  obtain ⟨y, hy⟩ : ∃ y : Nat, y = s[2].toNat - 48 := ⟨_, rfl⟩
  obtain ⟨z, hz⟩ : ∃ z : Nat, z = s[3].toNat - 48 := ⟨_, rfl⟩
  have hn : num3 s[1] s[2] s[3] = x * 100 + y * 10 + z := by rw [hx, hy, hz]; rfl
  have x9 : x ≤ 9 := by omega
  have y9 : y ≤ 9 := by omega
  have z9 : z ≤ 9 := by omega
  have e1 : IntKind.u8.wrap ((s[1].toNat : Int) - 48) = (x : Int) := by rw [IntKind.wrap_u8]; omega
  have e2 : IntKind.u8.wrap ((s[2].toNat : Int) - 48) = (y : Int) := by rw [IntKind.wrap_u8]; omega
  have e3 : IntKind.u8.wrap ((s[3].toNat : Int) - 48) = (z : Int) := by rw [IntKind.wrap_u8]; omega
  have f1 : IntKind.i64.wrap (x : Int) = (x : Int) := by rw [IntKind.wrap_i64]; omega
  have f2 : IntKind.i64.wrap (y : Int) = (y : Int) := by rw [IntKind.wrap_i64]; omega
  have f3 : IntKind.i64.wrap (z : Int) = (z : Int) := by rw [IntKind.wrap_i64]; omega
  have g1 : IntKind.i64.wrap ((x : Int) * 100) = (x : Int) * 100 := by rw [IntKind.wrap_i64]; omega
  have g2 : IntKind.i64.wrap ((y : Int) * 10) = (y : Int) * 10 := by rw [IntKind.wrap_i64]; omega
  have g3 : IntKind.i64.wrap ((x : Int) * 100 + (y : Int) * 10) = (x : Int) * 100 + (y : Int) * 10 := by rw [IntKind.wrap_i64]; omega
  have g4 : IntKind.i64.wrap ((x : Int) * 100 + (y : Int) * 10 + (z : Int)) = (x : Int) * 100 + (y : Int) * 10 + (z : Int) := by rw [IntKind.wrap_i64]; omega
  have l1 : 1 < s.size := by omega
  have l2 : 2 < s.size := by omega
  have j1 : ∀ W : World, (Instr.index 9 (.string s) (.int .i64 1)).run Tryz.prog W = .ok (.int .u8 (s[1].toNat : Int)) W := fun W => index_const s 1 (by omega) W
  have j2 : ∀ W : World, (Instr.index 9 (.string s) (.int .i64 2)).run Tryz.prog W = .ok (.int .u8 (s[2].toNat : Int)) W := fun W => index_const s 2 (by omega) W
  have j3 : ∀ W : World, (Instr.index 9 (.string s) (.int .i64 3)).run Tryz.prog W = .ok (.int .u8 (s[3].toNat : Int)) W := fun W => index_const s 3 (by omega) W
  rw [hn]
  clear hx hy hz hn b1 b2 b3
  by_cases hle : x * 100 + y * 10 + z ≤ 255
  · rw [if_pos hle]
    go_enter Tryz.func276, Tryz.ntmps276
    go_wp2_with fail
    refine (digit_in s[2] _).mono ?_
    rintro e w' ⟨rfl, rfl⟩
    go_wp2_with fail
    refine (digit_in s[3] _).mono ?_
    rintro e w' ⟨rfl, rfl⟩
    go_wp2
    go_quiet (fail)
    go_wp2
    go_ret2
    exact ⟨by rw [show ((x * 100 + y * 10 + z : Nat) : Int) = (x : Int) * 100 + (y : Int) * 10 + (z : Int) by omega]; rfl, _, rfl⟩
  · rw [if_neg hle]
    go_enter Tryz.func276, Tryz.ntmps276
    go_wp2_with fail
    refine (digit_in s[2] _).mono ?_
    rintro e w' ⟨rfl, rfl⟩
    go_wp2_with fail
    refine (digit_in s[3] _).mono ?_
    rintro e w' ⟨rfl, rfl⟩
    go_wp2
    go_quiet (fail)
    go_wp2
    go_ret2
    exact ⟨rfl, _, rfl⟩

/-! ### TrimPrefix of a dot -/
theorem hasPrefix_dot (s : ByteArray) (hm : s.size ≤ maxLen) (w : World) :
    Calls Tryz.prog 136 #[.string s, .string ⟨#[46]⟩] w fun e w' => e = .returned (.bool (s.data.toList.head? == some 46)) ∧ w' = w := by
  unfold maxLen at hm
  by_cases h : 1 ≤ s.size
  · go_enter Tryz.func136, Tryz.ntmps136
    go_wp2
    go_ret
    refine ⟨?_, rfl⟩
    show Ending.returned (.bool ((s.extract 0 1).toList == [46])) = _
    congr 2
    rw [ByteArray.toList_eq, Lib.extract_data]
    have : 0 < s.data.toList.length := by rw [size_list]; omega
    cases hl : s.data.toList with
    | nil => rw [hl] at this; simp at this
    | cons c t => simp
  · have hn : (s.data.toList.head? == some 46) = false := by
      have : s.data.toList = [] := List.eq_nil_of_length_eq_zero (by rw [size_list]; omega)
      rw [this]; rfl
    rw [hn]
    go_enter Tryz.func136, Tryz.ntmps136
    go_wp2
    go_ret
    exact ⟨rfl, rfl⟩
theorem liteTrim_yes (s : ByteArray) (hm : s.size ≤ maxLen) (h : s.data.toList.head? = some 46) (w : World) :
    Calls Tryz.prog 277 #[.string s, .string ⟨#[46]⟩] w fun e w' => e = .returned (.string (s.extract 1 s.size)) ∧ w' = w := by
  have hb : (s.data.toList.head? == some 46) = true := by rw [h]; rfl
  have h1 : 1 ≤ s.size := by
    rw [← size_list]
    cases hl : s.data.toList with
    | nil => rw [hl] at h; simp at h
    | cons c t => simp
  clear h
  unfold maxLen at hm
  go_enter Tryz.func277, Tryz.ntmps277
  go_wp2_with fail
  refine (hasPrefix_dot s (by unfold maxLen; exact hm) _).mono ?_
  rintro e w' ⟨rfl, rfl⟩
  go_wp2
  go_ret
  exact ⟨rfl, rfl⟩
theorem liteTrim_no (s : ByteArray) (hm : s.size ≤ maxLen) (h : s.data.toList.head? ≠ some 46) (w : World) :
    Calls Tryz.prog 277 #[.string s, .string ⟨#[46]⟩] w fun e w' => e = .returned (.string s) ∧ w' = w := by
  have hb : (s.data.toList.head? == some 46) = false := by rw [beq_eq_false_iff_ne]; exact h
  clear h
  go_enter Tryz.func277, Tryz.ntmps277
  go_wp2_with fail
  refine (hasPrefix_dot s hm _).mono ?_
  rintro e w' ⟨rfl, rfl⟩
  go_wp2
  go_ret
  exact ⟨rfl, rfl⟩

/-- a text without the dot that it begins with. -/
def trimD (l : List UInt8) : List UInt8 := if l.head? = some 46 then l.drop 1 else l
theorem trim_in (s : ByteArray) (hm : s.size ≤ maxLen) (w : World) :
    Calls Tryz.prog 269 #[.string s, .string ⟨#[46]⟩] w fun e w' => e = .returned (.string ⟨(trimD s.data.toList).toArray⟩) ∧ w' = w := by
  by_cases h : s.data.toList.head? = some 46
  · have he : (⟨(trimD s.data.toList).toArray⟩ : ByteArray) = s.extract 1 s.size := by
      apply ba_ext
      rw [ba_toList, trimD, if_pos h, Lib.extract_data]
      exact (List.take_of_length_le (by rw [List.length_drop, size_list]; exact Nat.le_refl _)).symm
    rw [he]
    go_enter Tryz.func269, Tryz.ntmps269
    go_wp2_with fail
    refine (liteTrim_yes s hm h _).mono ?_
    rintro e w' ⟨rfl, rfl⟩
    go_wp2
    go_ret
    exact ⟨rfl, rfl⟩
  · have he : (⟨(trimD s.data.toList).toArray⟩ : ByteArray) = s := by
      apply ba_ext
      rw [ba_toList, trimD, if_neg h]
    rw [he]
    go_enter Tryz.func269, Tryz.ntmps269
    go_wp2_with fail
    refine (liteTrim_no s hm h _).mono ?_
    rintro e w' ⟨rfl, rfl⟩
    go_wp2
    go_ret
    exact ⟨rfl, rfl⟩

/-! ### toldByte, all its ways -/
/-- the byte that the beginning of a text tells, and how much of the text that takes (0: it tells none). -/
def tb : List UInt8 → UInt8 × Nat
  | [] => (0, 0)
  | c :: t => if c.toNat ≠ 92 then (if plainB c = true then (c, 1) else (0, 0)) else
    match t with
    | [] => (0, 0)
    | d :: t => if digitB d = false then (d, 2) else
      match t with
      | e :: f :: _ => if digitB e = true ∧ digitB f = true ∧ num3 d e f ≤ 255 then (UInt8.ofNat (num3 d e f), 4) else (0, 0)
      | _ => (0, 0)

theorem get_of_list {s : ByteArray} {l : List UInt8} (h : s.data.toList = l) (k : Nat) (hk : k < s.size) (hl : k < l.length) : s[k] = l[k] := by
  subst h; rfl

theorem told_num (s : ByteArray) (hm : s.size ≤ maxLen) (h : 1 < s.size) (hb : s[0].toNat = 92) (hd : digitB s[1] = true) (r : Value) (w : World)
    (hr : ∀ w, Calls Tryz.prog 276 #[.string s] w fun e w' => e = .returned r ∧ ∃ n, w' = w.drewN n) (v0 v1 : Value) (hrv : r = .tuple #[v0, v1]) :
    Calls Tryz.prog 268 #[.string s] w fun e w' => e = .returned r ∧ ∃ n, w' = w.drewN n := by
  subst hrv
  have HR : Hid _ := hr
  clear hr
  unfold maxLen at hm
  have hbb : ((s[0].toNat : Int) != 92) = false := by rw [hb]; rfl
  clear hb
  go_enter Tryz.func268, Tryz.ntmps268
  go_wp2_with fail
  refine (digit_in s[1] _).mono ?_
  rintro e w' ⟨rfl, rfl⟩
  go_wp2_with fail
  refine (HR.out _).mono ?_
  rintro e w1 ⟨rfl, n, rfl⟩
  go_wp2
  go_ret2
  exact ⟨rfl, n, rfl⟩

theorem told_in (s : ByteArray) (hm : s.size ≤ maxLen) (h : 0 < s.size) (w : World) :
    Calls Tryz.prog 268 #[.string s] w fun e w' => e = .returned (.tuple #[.int .u8 ((tb s.data.toList).1.toNat : Int), .int .i64 ((tb s.data.toList).2 : Nat)]) ∧ ∃ n, w' = w.drewN n := by
  have triv : ∀ (e : Ending) (w' : World) (v : Value), (e = .returned v ∧ w' = w) → (e = .returned v ∧ ∃ n, w' = w.drewN n) := fun e w' v hh => ⟨hh.1, 0, hh.2⟩
  cases hl : s.data.toList with
  | nil => rw [← size_list, hl] at h; simp at h
  | cons c t =>
    have hsz : s.size = t.length + 1 := by rw [← size_list, hl]; rfl
    have h0 : s[0] = c := get_of_list hl 0 h (by simp)
    by_cases hb : c.toNat = 92
    · cases t with
      | nil =>
        have e : tb [c] = (0, 0) := by simp [tb, hb]
        rw [e]
        exact (told_end s h (by rw [h0]; exact hb) (by rw [hsz]; simp) w).mono fun e w' hh => triv e w' _ hh
      | cons d t =>
        have h1s : 1 < s.size := by rw [hsz]; simp
        have h1 : s[1] = d := get_of_list hl 1 h1s (by simp)
        by_cases hd : digitB d = true
        · have hnum : ∀ r : UInt8 × Nat, tb (c :: d :: t) = r → (∀ w, Calls Tryz.prog 276 #[.string s] w fun e w' => e = .returned (.tuple #[.int .u8 (r.1.toNat : Int), .int .i64 (r.2 : Nat)]) ∧ ∃ n, w' = w.drewN n) →
              Calls Tryz.prog 268 #[.string s] w fun e w' => e = .returned (.tuple #[.int .u8 ((tb (c :: d :: t)).1.toNat : Int), .int .i64 ((tb (c :: d :: t)).2 : Nat)]) ∧ ∃ n, w' = w.drewN n := by
            intro r hr hc
            rw [hr]
            exact told_num s hm h1s (by rw [h0]; exact hb) (by rw [h1]; exact hd) _ w hc _ _ rfl
          have up : ∀ (v : Value), (∀ w, Calls Tryz.prog 276 #[.string s] w fun e w' => e = .returned v ∧ w' = w) → ∀ w, Calls Tryz.prog 276 #[.string s] w fun e w' => e = .returned v ∧ ∃ n, w' = w.drewN n :=
            fun v hv w => (hv w).mono fun e w' hh => ⟨hh.1, 0, hh.2⟩
          cases t with
          | nil => exact hnum (0, 0) (by simp [tb, hb, hd]) (up _ (num_short s hm (by rw [hsz]; simp)))
          | cons e t =>
            cases t with
            | nil => exact hnum (0, 0) (by simp [tb, hb, hd]) (up _ (num_short s hm (by rw [hsz]; simp)))
            | cons f t =>
              have h3s : 3 < s.size := by rw [hsz]; simp
              have h2 : s[2] = e := get_of_list hl 2 (by omega) (by simp)
              have h3 : s[3] = f := get_of_list hl 3 h3s (by simp)
              by_cases he : digitB e = true
              · by_cases hf : digitB f = true
                · by_cases hn : num3 d e f ≤ 255
                  · refine hnum (UInt8.ofNat (num3 d e f), 4) (by simp [tb, hb, hd, he, hf, hn]) (fun w => ?_)
                    have := num_go s hm h3s (by rw [h1]; exact hd) (by rw [h2]; exact he) (by rw [h3]; exact hf) w
                    rw [h1, h2, h3, if_pos hn] at this
                    have e8 : (UInt8.ofNat (num3 d e f)).toNat = num3 d e f := by simp; omega
                    rw [e8]
                    exact this
                  · refine hnum (0, 0) (by simp [tb, hb, hd, he, hf, hn]) (fun w => ?_)
                    have := num_go s hm h3s (by rw [h1]; exact hd) (by rw [h2]; exact he) (by rw [h3]; exact hf) w
                    rw [h1, h2, h3, if_neg hn] at this
                    exact this
                · exact hnum (0, 0) (by simp [tb, hb, hd, he, hf]) (up _ (num_no3 s hm h3s (by rw [h2]; exact he) (by rw [h3]; simpa using hf)))
              · exact hnum (0, 0) (by simp [tb, hb, hd, he]) (up _ (num_no2 s hm h3s (by rw [h2]; simpa using he)))
        · have hd' : digitB d = false := by simpa using hd
          have e : tb (c :: d :: t) = (d, 2) := by simp [tb, hb, hd']
          rw [e]
          have := told_esc s hm h1s (by rw [h0]; exact hb) (by rw [h1]; exact hd') w
          rw [h1] at this
          exact this.mono fun e w' hh => triv e w' _ hh
    · by_cases hp : plainB c = true
      · have e : tb (c :: t) = (c, 1) := by simp [tb, hb, hp]
        rw [e]
        have := told_plain s h (by rw [h0]; exact hb) (by rw [h0]; exact hp) w
        rw [h0] at this
        exact this.mono fun e w' hh => triv e w' _ hh
      · have hp' : plainB c = false := by simpa using hp
        have e : tb (c :: t) = (0, 0) := by simp [tb, hb, hp']
        rw [e]
        have := told_strange s h (by rw [h0]; exact hb) (by rw [h0]; exact hp') w
        exact this.mono fun e w' hh => triv e w' _ hh

end Go.Proofs.YtlcjagkfeakinaaGreatDoor

/- The draft of a name: newDraft, add, name. -/
namespace Go.Proofs.YtlcjagkfeakinaaGreatDoor
set_option linter.unusedVariables false
open Go.RowKit

/-- block d holds a draft: its bytes l, in a row from n₀ on, and whether a label was bad. -/
def Draft (W : World) (n₀ d : Nat) (l : List UInt8) (bad : Bool) : Prop :=
  n₀ ≤ d ∧ ∃ g cap, W.heap[d]? = some (.cells #[.slice (some ⟨g, 0, none⟩) l.length cap, .bool bad] 248 (0, 0)) ∧ W.ownsRow n₀ 5 1 (.slice (some ⟨g, 0, none⟩) l.length cap) l.length (Lib.byteCells l)

/-- what was there is there, but for block d and rows of bytes. -/
structure FrameD (d : Nat) (W W' : World) : Prop where
  os : W'.os = W.os
  tape : W'.tape = W.tape
  output : W'.output = W.output
  size : W.heap.size ≤ W'.heap.size
  same : ∀ b o, W.heap[b]? = some o → b ≠ d → (∀ cs fr, o ≠ .cells cs 5 fr) → W'.heap[b]? = some o

theorem FrameD.refl (d : Nat) (W : World) : FrameD d W W := ⟨rfl, rfl, rfl, Nat.le_refl _, fun _ _ h _ _ => h⟩
theorem FrameD.trans {d : Nat} {A B C : World} (h : FrameD d A B) (k : FrameD d B C) : FrameD d A C :=
  ⟨k.os.trans h.os, k.tape.trans h.tape, k.output.trans h.output, Nat.le_trans h.size k.size, fun b o hb hd ho => k.same b o (h.same b o hb hd ho) hd ho⟩
theorem FrameD.set (d i : Nat) (W : World) (v : Value) : FrameD d W (W.setCell ⟨d, i, none⟩ v) :=
  ⟨rfl, rfl, rfl, by simp, fun b o hb hd _ => (Below.heap_setCell W ⟨d, i, none⟩ v b hd).trans hb⟩
theorem FrameD.alloc (d : Nat) (W : World) (o : Obj) : FrameD d W (W.alloc o) :=
  ⟨rfl, rfl, rfl, by simp, fun b o' hb _ _ => (Below.heap_alloc W o b (Array.getElem?_eq_some_iff.1 hb).1).trans hb⟩
theorem FrameD.grown {d : Nat} {W W' : World} {n₀ : Nat} {v : Value} {n : Nat} {xs : List Value} (h : W.grownBy W' v.ownBlock) (hr : W.ownsRow n₀ 5 1 v n xs) : FrameD d W W' := by
  refine ⟨h.os, h.tape, h.output, h.size, fun b o hb hd ho => ?_⟩
  refine (h.block b (Array.getElem?_eq_some_iff.1 hb).1 fun e => ?_).trans hb
  rcases hr.2 with ⟨rfl, _⟩ | ⟨g, cap, cur, rfl, _, hg, _⟩
  · simp [Value.ownBlock] at e
  · obtain rfl : b = g := by simpa [Value.ownBlock] using e
    rw [hg] at hb
    cases hb
    exact ho _ _ rfl
theorem FrameD.others {d : Nat} {W W' : World} (h : FrameD d W W') {cs : Array Value} {t : TypeId} (hd : W.heap[d]? = some (.cells cs t (0, 0))) : KeepsOthers W W' :=
  ⟨h.size, fun k o hk ho => h.same k o hk (fun e => by subst e; rw [hk] at hd; cases hd; simp [Obj.isCells] at ho) (fun cs fr e => by subst e; simp [Obj.isCells] at ho)⟩
theorem FrameD.boxed {d : Nat} {W W' : World} (h : FrameD d W W') {b : Nat} {t : TypeId} {v : Value} (hb : Boxed W b t v) (hd : b ≠ d) (ht : t ≠ 5) : Boxed W' b t v :=
  h.same b _ hb hd (fun cs fr e => by cases e; exact ht rfl)

theorem byteCells_snoc (l : List UInt8) (m : List UInt8) : Lib.byteCells (l ++ m) = Lib.byteCells l ++ Lib.byteCells m := by simp [Lib.byteCells]

theorem newDraft_in (w : World) :
    Calls Tryz.prog 230 #[] w fun e w' => e = .returned (.pointer (some ⟨w.heap.size + 1, 0, none⟩)) ∧ Draft w' w.heap.size (w.heap.size + 1) [] false ∧ Below w.heap.size w w' ∧ w'.heap.size = w.heap.size + 2 := by
  obtain ⟨i0, hi, hz0, hz1, hz2⟩ := info_parts info5
  obtain ⟨M, hM⟩ : ∃ M, M = madeCells (Value.int .u8 0).cells ((255 : Int).toNat * i0.size) := ⟨_, rfl⟩
  have hMs : M.size = 255 := by rw [hM, size_madeCells, hz1]; rfl
  have hmk : ∀ W : World, (Instr.makeSlice 55 (.int .i64 0) (.int .i64 255)).run Tryz.prog W = .ok (.slice (some ⟨W.heap.size, 0, none⟩) 0 255) (W.alloc (.cells M 5)) := fun W => by
    have h := run_make (P := Tryz.prog) W 55 5 i0 (.int .u8 0) Tryz.underlying55 hi hz0 .i64 .i64 0 255 (by omega) (by omega) (by rw [hz2]; omega) (by omega)
    rw [← hM] at h
    simpa using h
  clear hM
  go_enter Tryz.func230, Tryz.ntmps230
  go_wp2
  go_ret
  refine ⟨rfl, ⟨by omega, w.heap.size, 255, ?_, ?_⟩, ((Below.refl _ _).alloc (Nat.le_refl _) _).alloc (by simp) _, by simp⟩
  · have := World.alloc_heap_new (w.alloc (.cells M 5)) (.cells #[.slice (some ⟨w.heap.size, 0, none⟩) 0 255, .bool false] 248)
    rw [World.size_alloc] at this
    exact this
  · refine ⟨rfl, .inr ⟨w.heap.size, 255, M, rfl, Nat.le_refl _, ?_, by simp, by unfold maxLen; omega, by omega, rfl⟩⟩
    exact (Below.heap_alloc _ _ _ (by simp)).trans (World.alloc_heap_new w _)

/-- what add makes of a draft. -/
def addL (l : List UInt8) (bad : Bool) (s : List UInt8) : List UInt8 := if 1 ≤ s.length ∧ s.length ≤ 63 ∧ bad = false ∧ l.length < 255 then l ++ (UInt8.ofNat s.length :: s) else l
def addBad (bad : Bool) (s : List UInt8) : Bool := bad || decide (¬ (1 ≤ s.length ∧ s.length ≤ 63))

theorem draft_cells {W : World} {d g n cap : Nat} {bad : Bool} (h : W.heap[d]? = some (.cells #[.slice (some ⟨g, 0, none⟩) n cap, .bool bad] 248 (0, 0))) :
    W.cell? ⟨d, 0, none⟩ = some (.slice (some ⟨g, 0, none⟩) n cap) ∧ W.cell? ⟨d, 1, none⟩ = some (.bool bad) ∧ W.frozen? ⟨d, 0, none⟩ = false ∧ W.frozen? ⟨d, 1, none⟩ = false := by
  refine ⟨by simp [World.cell?, h], by simp [World.cell?, h], frozen_of_row _ _ _ _ _ h, frozen_of_row _ _ _ _ _ h⟩

theorem draft_same {l : List UInt8} {bad : Bool} {s : List UInt8} (h : ¬ (1 ≤ s.length ∧ s.length ≤ 63 ∧ bad = false ∧ l.length < 255)) : addL l bad s = l := if_neg h

theorem row_set {W : World} {n₀ n d i : Nat} {v : Value} {xs : List Value} {cs : Array Value} (h : W.ownsRow n₀ 5 1 v n xs) (hd : W.heap[d]? = some (.cells cs 248 (0, 0))) (u : Value) : (W.setCell ⟨d, i, none⟩ u).ownsRow n₀ 5 1 v n xs := by
  refine ⟨h.1, ?_⟩
  rcases h.2 with h' | ⟨g, cap, cur, hv, hb, hg, hr⟩
  · exact .inl h'
  · refine .inr ⟨g, cap, cur, hv, hb, (Below.heap_setCell W ⟨d, i, none⟩ u g fun e => ?_).trans hg, hr⟩
    subst e
    rw [hg] at hd
    cases hd

theorem row_form {W : World} {n₀ n : Nat} {v : Value} {xs : List Value} (h : W.ownsRow n₀ 5 1 v n xs) (hn : 0 < n) : ∃ g cap, v = .slice (some ⟨g, 0, none⟩) n cap := by
  rcases h.2 with ⟨_, h'⟩ | ⟨g, cap, cur, hv, _⟩
  · omega
  · exact ⟨g, cap, hv⟩
theorem own_base {W : World} {n₀ n : Nat} {v : Value} {xs : List Value} (h : W.ownsRow n₀ 5 1 v n xs) : ∀ k, v.ownBlock = some k → n₀ ≤ k := by
  intro k e
  rcases h.2 with ⟨rfl, _⟩ | ⟨g, cap, cur, rfl, hb, _⟩
  · simp [Value.ownBlock] at e
  · obtain rfl : g = k := by simpa [Value.ownBlock] using e
    exact hb
theorem draft_not5 {cs : Array Value} : ∀ (cs' : Array Value) (fr : Nat × Nat), Obj.cells cs 248 (0, 0) ≠ .cells cs' 5 fr := by
  intro cs' fr e; cases e
theorem draft_not5' {cs : Array Value} {i : Nat} {v : Value} : ∀ (cs' : Array Value) (fr : Nat × Nat), Obj.cells (cs.setIfInBounds i v) 248 (0, 0) ≠ .cells cs' 5 fr := by
  intro cs' fr e; cases e

theorem row_alloc {W : World} {n₀ n : Nat} {v : Value} {xs : List Value} (h : W.ownsRow n₀ 5 1 v n xs) (o : Obj) : (W.alloc o).ownsRow n₀ 5 1 v n xs := h.alloc o

set_option maxHeartbeats 400000 in
/-- a bad label. -/
theorem add_bad (W : World) (n₀ d : Nat) (l : List UInt8) (bad : Bool) (s : ByteArray) (hm : s.size ≤ maxLen) (hd : Draft W n₀ d l bad) (h : s.size < 1 ∨ 63 < s.size) :
    Calls Tryz.prog 232 #[.pointer (some ⟨d, 0, none⟩), .string s] W fun e w' => e = .returned (.tuple #[]) ∧ Draft w' n₀ d l true ∧ FrameD d W w' ∧ Below n₀ W w' := by
  obtain ⟨hn, g, cap, hh, hrow⟩ := hd
  obtain ⟨hc0, hc1, hf0, hf1⟩ := draft_cells hh
  go_enter Tryz.func232, Tryz.ntmps232
  go_wp2_with (go_at_call 253; refine (rightLabel_no s _ hm h).mono ?_; rintro e w' ⟨rfl, rfl⟩)
  refine bodyPost_ret (results_none rfl _ _ _) rfl ⟨rfl, ⟨hn, g, cap, ?_, row_set hrow hh _⟩, FrameD.set _ _ _ _, (Below.refl _ _).setCell (p := ⟨d, 1, none⟩) hn _⟩
  exact heap_setCell_same _ _ _ _ _ _ hh

set_option maxRecDepth 100000 in
set_option maxHeartbeats 400000 in
/-- a right label, and nothing is to be done. -/
theorem add_skip (W : World) (n₀ d : Nat) (l : List UInt8) (bad : Bool) (s : ByteArray) (hd : Draft W n₀ d l bad) (hl : l.length ≤ 400) (h1 : 1 ≤ s.size) (h2 : s.size ≤ 63) (h : bad = true ∨ 255 ≤ l.length) :
    Calls Tryz.prog 232 #[.pointer (some ⟨d, 0, none⟩), .string s] W fun e w' => e = .returned (.tuple #[]) ∧ w' = W := by
  obtain ⟨hn, g, cap, hh, hrow⟩ := hd
  obtain ⟨hc0, hc1, hf0, hf1⟩ := draft_cells hh
  clear hrow hh
  cases bad with
  | true =>
    go_enter Tryz.func232, Tryz.ntmps232
    go_wp2_with (go_at_call 253; refine (rightLabel_yes s _ h1 h2).mono ?_; rintro e w' ⟨rfl, rfl⟩)
    exact bodyPost_ret (results_none rfl _ _ _) rfl ⟨rfl, rfl⟩
  | false =>
    have h' : 255 ≤ l.length := by simpa using h
    have hb : decide ((255 : Int) ≤ (l.length : Int)) = true := by simp; omega
    clear h h'
    go_enter Tryz.func232, Tryz.ntmps232
    go_wp2_with (go_at_call 253; refine (rightLabel_yes s _ h1 h2).mono ?_; rintro e w' ⟨rfl, rfl⟩)
    exact bodyPost_ret (results_none rfl _ _ _) rfl ⟨rfl, rfl⟩

set_option maxRecDepth 100000 in
set_option maxHeartbeats 1000000 in
/-- a right label, which is added. -/
theorem add_go (W : World) (n₀ d : Nat) (l : List UInt8) (s : ByteArray) (hd : Draft W n₀ d l false) (hl : l.length < 255) (h1 : 1 ≤ s.size) (h2 : s.size ≤ 63) (hn₀ : n₀ ≤ W.heap.size) :
    Calls Tryz.prog 232 #[.pointer (some ⟨d, 0, none⟩), .string s] W fun e w' => e = .returned (.tuple #[]) ∧ Draft w' n₀ d (l ++ (UInt8.ofNat s.size :: s.data.toList)) false ∧ FrameD d W w' ∧ Below n₀ W w' := by
  obtain ⟨i0, hi, hz0, hz1, hz2⟩ := info_parts info5
  obtain ⟨hn, g, cap, hh, hrow⟩ := hd
  obtain ⟨hc0, hc1, hf0, hf1⟩ := draft_cells hh
  have hb : decide ((255 : Int) ≤ (l.length : Int)) = false := by simp; omega
  go_enter Tryz.func232, Tryz.ntmps232
  have tok : True := trivial
  go_wp2_with (first
    | (go_at_call 253; refine (rightLabel_yes s _ h1 h2).mono ?_; rintro e w' ⟨rfl, hww⟩; rw [hww])
    | (at_builtin; have _t := tok; refine wpList_append_own _ rfl _ _ 55 rfl n₀ 5 i0 (.int .u8 0) 1 1 Tryz.underlying55 hi hz0 hz1 hz2 rfl (by decide) _ _ _ rfl (row_alloc hrow _) ⟨W.heap.size, 0, none⟩ 1 1 [.int .u8 (s.size : Int)] rfl rfl (cell_one_new _ _ _) (by simp [Value.oneCell']) (by unfold maxLen; omega) (by omega) (by simp; omega) ?_; intro v1 w1 hown1 hgrow1 _; obtain ⟨g1, cap1, rfl⟩ := row_form hown1 (by omega); have hf1 := (FrameD.alloc (d + 1) W _).trans (FrameD.grown (d := d + 1) hgrow1 (row_alloc hrow _)); have hh1 := hf1.same d _ hh (by omega) draft_not5; obtain ⟨hp0, hp1, hp2, hp3⟩ := draft_cells hh1; have hfa := (FrameD.alloc d W _).trans (FrameD.grown (d := d) hgrow1 (row_alloc hrow _)); have hba := ((Below.refl n₀ W).alloc hn₀ _).grown hgrow1 (by simp; omega) (own_base hrow); clear tok)
    | (at_builtin; refine Lib.wpList_append_own_string _ rfl _ _ 55 9 rfl n₀ 5 i0 Tryz.underlying55 Tryz.underlying9 hi hz0 hz1 hz2 _ _ _ rfl (row_set hown1 hh1 _) s rfl (by unfold maxLen; omega) (by omega) (by have := hba.size; simp; omega) ?_; intro v2 w2 hown2 hgrow2 _; obtain ⟨g2, cap2, rfl⟩ := row_form hown2 (by omega); have hh2 := (FrameD.grown (d := d + 1) hgrow2 (row_set hown1 hh1 _)).same d _ (heap_setCell_same _ _ _ _ _ _ hh1) (by omega) draft_not5'; obtain ⟨hq0, hq1, hq2, hq3⟩ := draft_cells hh2))
  go_end0
  have hlen : (l ++ (UInt8.ofNat s.size :: s.data.toList)).length = l.length + 1 + s.size := by
    rw [List.length_append, List.length_cons, size_list]; omega
  have h8 : (UInt8.ofNat s.size).toNat = s.size := by simp; omega
  have hcs : Lib.byteCells (l ++ (UInt8.ofNat s.size :: s.data.toList)) = Lib.byteCells l ++ [.int .u8 (s.size : Int)] ++ Lib.strCells s := by
    rw [Lib.strCells_eq]; simp [Lib.byteCells, h8]
  refine ⟨rfl, ⟨hn, g2, cap2, ?_, ?_⟩, ?_, ?_⟩
  · rw [hlen]; exact heap_setCell_same _ _ _ _ _ _ hh2
  · rw [hlen, hcs]; exact row_set hown2 hh2 _
  · exact ((hfa.trans (FrameD.set d 0 w1 _)).trans (FrameD.grown hgrow2 (row_set hown1 hh1 _))).trans (FrameD.set d 0 w2 _)
  · exact ((hba.setCell (p := ⟨d, 0, none⟩) hn _).grown hgrow2 (by have := hba.size; simp; omega) (own_base hown1)).setCell (p := ⟨d, 0, none⟩) hn _

/-- add, whatever the label is. -/
theorem add_in (W : World) (n₀ d : Nat) (l : List UInt8) (bad : Bool) (s : ByteArray) (hm : s.size ≤ maxLen) (hd : Draft W n₀ d l bad) (hl : l.length ≤ 400) (hn₀ : n₀ ≤ W.heap.size) :
    Calls Tryz.prog 232 #[.pointer (some ⟨d, 0, none⟩), .string s] W fun e w' => e = .returned (.tuple #[]) ∧ Draft w' n₀ d (addL l bad s.data.toList) (addBad bad s.data.toList) ∧ FrameD d W w' ∧ Below n₀ W w' := by
  by_cases h1 : 1 ≤ s.size ∧ s.size ≤ 63
  · have hb : addBad bad s.data.toList = bad := by simp only [addBad, size_list]; simp [h1]
    rw [hb]
    by_cases h2 : bad = true ∨ 255 ≤ l.length
    · have ha : addL l bad s.data.toList = l := if_neg (by
        rintro ⟨_, _, h3, h4⟩
        rcases h2 with h2 | h2
        · rw [h2] at h3; cases h3
        · omega)
      rw [ha]
      refine (add_skip W n₀ d l bad s hd hl h1.1 h1.2 h2).mono ?_
      rintro e w' ⟨he, rfl⟩
      exact ⟨he, hd, FrameD.refl _ _, Below.refl _ _⟩
    · have hbf : bad = false := by cases bad; rfl; simp at h2
      subst hbf
      have ha : addL l false s.data.toList = l ++ (UInt8.ofNat s.size :: s.data.toList) := by
        unfold addL; rw [size_list, if_pos ⟨h1.1, h1.2, rfl, by omega⟩]
      rw [ha]
      exact add_go W n₀ d l s hd (by omega) h1.1 h1.2 hn₀
  · have hb : addBad bad s.data.toList = true := by
      simp only [addBad, size_list, Bool.or_eq_true, decide_eq_true_iff]; exact .inr h1
    have ha : addL l bad s.data.toList = l := if_neg (by rw [size_list]; exact fun h => h1 ⟨h.1, h.2.1⟩)
    rw [hb, ha]
    exact add_bad W n₀ d l bad s hm hd (by omega)

theorem name_bad (W : World) (n₀ d : Nat) (l : List UInt8) (hd : Draft W n₀ d l true) :
    Calls Tryz.prog 233 #[.pointer (some ⟨d, 0, none⟩)] W fun e w' => e = .returned (.tuple #[.string ⟨#[]⟩, .int .i64 2]) ∧ w' = W := by
  obtain ⟨hn, g, cap, hh, hrow⟩ := hd
  obtain ⟨hc0, hc1, hf0, hf1⟩ := draft_cells hh
  clear hrow hh
  go_enter Tryz.func233, Tryz.ntmps233
  go_wp2
  go_ret2
  exact ⟨rfl, rfl⟩

theorem name_ok (W : World) (n₀ d : Nat) (l : List UInt8) (hl : l.length ≤ 400) (hd : Draft W n₀ d l false) :
    Calls Tryz.prog 233 #[.pointer (some ⟨d, 0, none⟩)] W fun e w' => e = .returned (if l.length + 1 ≤ 255 then .tuple #[.string ⟨(l ++ [0]).toArray⟩, .int .i64 0] else .tuple #[.string ⟨#[]⟩, .int .i64 3]) ∧ w' = W := by
  obtain ⟨hn, g, cap, hh, hrow⟩ := hd
  obtain ⟨hc0, hc1, hf0, hf1⟩ := draft_cells hh
  have hcv : (convert 55 9 (.slice (some ⟨g, 0, none⟩) l.length cap)).run Tryz.prog W = .ok (.string ⟨l.toArray⟩) W := by
    refine run_convert_bytes_back (P := Tryz.prog) W 55 9 5 ⟨g, 0, none⟩ cap l Tryz.underlying55 Tryz.underlying5 Tryz.underlying9 (fun j hj => ?_)
    rcases hrow.2 with ⟨h', _⟩ | ⟨g', cap', cur, hv, _, hg, _, _, _, ht⟩
    · cases h'
    · cases hv
      exact Lib.cells_of_row hg l.length j _ (by rw [Nat.mul_one] at ht; rw [ht]; simp [Lib.byteCells, hj])
  obtain ⟨t, ht⟩ : ∃ t : ByteArray, (⟨l.toArray⟩ : ByteArray) = t := ⟨_, rfl⟩
  have htz : t.size = l.length := by rw [← ht]; rfl
  have hts : t.size ≤ 400 := by omega
  have hcat : t ++ (⟨#[0]⟩ : ByteArray) = ⟨(l ++ [0]).toArray⟩ := by
    apply ba_ext
    rw [ByteArray.data_append, Array.toList_append, ← ht]
  have hcz : (⟨(l ++ [0]).toArray⟩ : ByteArray).size = l.length + 1 := by rw [ba_size]; simp
  rw [ht] at hcv
  have HC := Hid.mk' hcat
  clear hrow hh ht htz hcat
  by_cases h : l.length + 1 ≤ 255
  · rw [if_pos h]
    have hle : (⟨(l ++ [0]).toArray⟩ : ByteArray).size ≤ 255 := by rw [hcz]; exact h
    clear hcz
    go_enter Tryz.func233, Tryz.ntmps233
    go_wp2_with fail
    rw [HC.out]
    refine (limited_ok _ _ hle).mono ?_
    rintro e w' ⟨rfl, rfl⟩
    go_wp2
    go_ret2
    exact ⟨rfl, rfl⟩
  · rw [if_neg h]
    have hle : 255 < (⟨(l ++ [0]).toArray⟩ : ByteArray).size := by rw [hcz]; omega
    have hle2 : (⟨(l ++ [0]).toArray⟩ : ByteArray).size ≤ 2 * maxLen := by rw [hcz]; unfold maxLen; omega
    clear hcz
    go_enter Tryz.func233, Tryz.ntmps233
    go_wp2_with fail
    rw [HC.out]
    refine (limited_long _ _ hle2 hle).mono ?_
    rintro e w' ⟨rfl, rfl⟩
    go_wp2
    go_ret2
    exact ⟨rfl, rfl⟩

end Go.Proofs.YtlcjagkfeakinaaGreatDoor

/- cutLabel: the first label that a text tells, and the text behind its dot. -/
namespace Go.Proofs.YtlcjagkfeakinaaGreatDoor
set_option linter.unusedVariables false
set_option maxRecDepth 100000
open Go.RowKit

/-- what is told behind acc, and the text that is left. -/
def cutF : Nat → List UInt8 → List UInt8 → Option (List UInt8 × List UInt8)
  | 0, _, _ => none
  | n + 1, acc, l => match l with
    | [] => some (acc, [])
    | c :: t => if c.toNat = 46 then some (acc, c :: t) else
      if (tb (c :: t)).2 = 0 then none else cutF n (if acc.length ≤ 63 then acc ++ [(tb (c :: t)).1] else acc) ((c :: t).drop (tb (c :: t)).2)

/-- the first label of a text, the text behind its dot; none: the text is of no right form there. -/
def cutB (l : List UInt8) : Option (List UInt8 × List UInt8) := match l with
  | [] => none
  | c :: t => if c.toNat = 46 then none else (cutF ((c :: t).length + 1) [] (c :: t)).map fun r => (r.1, trimD r.2)

def cutV : Option (List UInt8 × List UInt8) → Value
  | some r => .tuple #[.string ⟨r.1.toArray⟩, .string ⟨r.2.toArray⟩, .bool true]
  | none => .tuple #[.string ⟨#[]⟩, .string ⟨#[]⟩, .bool false]

theorem tb_size (l : List UInt8) : (tb l).2 ≤ l.length := by
  unfold tb
  split
  · simp
  · split
    · split <;> simp
    · split
      · simp
      · split
        · simp
        · split
          · split <;> simp
          · simp

theorem extract_drop (s : ByteArray) (k : Nat) : (s.extract k s.size).data.toList = s.data.toList.drop k := by
  rw [Lib.extract_data]
  exact List.take_of_length_le (by rw [List.length_drop, size_list]; exact Nat.le_refl _)

theorem row_slice {W : World} {n₀ n : Nat} {v : Value} {xs : List Value} (h : W.ownsRow n₀ 5 1 v n xs) : ∃ q cap, v = .slice q n cap := by
  rcases h.2 with ⟨rfl, rfl⟩ | ⟨g, cap, cur, hv, _⟩
  · exact ⟨none, 0, rfl⟩
  · exact ⟨_, _, hv⟩

theorem get_drop (s : ByteArray) (k : Nat) (h : k < s.size) : s.data.toList.drop k = s[k] :: s.data.toList.drop (k + 1) := by
  rw [List.drop_eq_getElem_cons (by rw [size_list]; exact h)]; rfl

set_option maxHeartbeats 1000000 in
theorem cutLabel_in (s : ByteArray) (hm : s.size ≤ maxLen) (h : 0 < s.size) (w : World) :
    Calls Tryz.prog 252 #[.string s] w fun e w' => e = .returned (cutV (cutB s.data.toList)) ∧ Below w.heap.size w w' := by
  obtain ⟨i0, hi, hz0, hz1, hz2⟩ := info_parts info5
  have hmm := hm
  have HM := Hid.mk hmm
  clear hmm
  unfold maxLen at hm
  obtain ⟨R, hR⟩ : ∃ R, cutF (s.data.toList.length + 1) [] s.data.toList = R := ⟨_, rfl⟩
  have HR := Hid.mk hR
  clear hR
  go_enter Tryz.func252, Tryz.ntmps252
  go_wp2
  go_loopw [5, 6] (fun v i wr => ∃ (k n : Nat) (acc : List UInt8), i = .int .i64 k ∧ k ≤ s.size ∧ wr.ownsRow w.heap.size 5 1 v acc.length (Lib.byteCells acc) ∧ acc.length ≤ 64 ∧ (k = 0 ↔ acc = []) ∧ s.size - k < n ∧ Hid (cutF n acc (s.data.toList.drop k) = R) ∧ Hid (0 < k → ∀ c, s.data.toList.head? = some c → c.toNat ≠ 46) ∧ Below w.heap.size w wr) (fun _ i _ => s.size - (intOf i).toNat)
  case atStart =>
    exact ⟨0, s.size + 1, [], rfl, Nat.zero_le _, World.ownsRow_nil .., by simp, by simp, by omega, by rw [List.drop_zero]; exact HR, fun h => absurd h (by omega), Below.refl _ _⟩
  case round =>
    obtain ⟨k, n, acc, rfl, hk, hrow, hacc, hk0, hfu, hF, HH, hbl⟩ := hrel
    have HK0 := Hid.mk hk0
    clear hk0
    obtain ⟨q, cap, rfl⟩ := row_slice hrow
    obtain ⟨n, rfl⟩ : ∃ m, n = m + 1 := ⟨n - 1, by omega⟩
    by_cases hlt : k < s.size
    · by_cases hdot : s[k].toNat = 46
      · have hdb : ((s[k].toNat : Int) != 46) = false := by rw [hdot]; rfl
        have hRv : Hid (R = some (acc, s.data.toList.drop k)) := by
          have := hF.out
          rw [get_drop s k hlt, cutF, if_pos hdot] at this
          rw [get_drop s k hlt]; exact this.symm
        have hd0 : Hid (k = 0 → s.data.toList.head? = some s[k]) := by
          intro e; subst e
          have := get_drop s 0 hlt
          rw [List.drop_zero] at this
          rw [this]; rfl
        by_cases hk00 : k = 0
        · subst hk00
          have hfin : Hid (cutB s.data.toList = none) := by
            have := hd0.out rfl
            cases hl : s.data.toList with
            | nil => rfl
            | cons c t =>
              rw [hl] at this
              simp at this
              show (if c.toNat = 46 then none else _) = none
              rw [if_pos (by rw [this]; exact hdot)]
          clear hF hRv hdot hd0 HH
          go_wp2
          go_ret3
          exact ⟨by rw [hfin.out]; rfl, hbl⟩
        · have hk0b : (((k : Nat) : Int) == 0) = false := by simp; omega
          have hne : acc ≠ [] := fun e => hk00 (HK0.out.2 e)
          have hfin : Hid (cutB s.data.toList = some (acc, trimD (s.data.toList.drop k))) := by
            cases hl : s.data.toList with
            | nil => rw [← size_list, hl] at h; simp at h
            | cons c t =>
              show (if c.toNat = 46 then none else (cutF ((c :: t).length + 1) [] (c :: t)).map fun r => (r.1, trimD r.2)) = _
              rw [if_neg (HH.out (by omega) c (by rw [hl]; rfl)), ← hl, HR.out, hRv.out]
              rfl
          obtain ⟨g, hq⟩ : ∃ g, q = some ⟨g, 0, none⟩ := by
            obtain ⟨g, cap', hv⟩ := row_form hrow (List.length_pos_iff.2 hne)
            cases hv
            exact ⟨g, rfl⟩
          subst hq
          have hcv : ∀ m, (convert 55 9 (.slice (some ⟨g, 0, none⟩) acc.length cap)).run Tryz.prog (wr.drewN m) = .ok (.string ⟨acc.toArray⟩) (wr.drewN m) := fun m => by
            refine run_convert_bytes_back (P := Tryz.prog) (wr.drewN m) 55 9 5 ⟨g, 0, none⟩ cap acc Tryz.underlying55 Tryz.underlying5 Tryz.underlying9 (fun j hj => ?_)
            rcases hrow.2 with ⟨h', _⟩ | ⟨g', cap', cur, hv, _, hg, _, _, _, ht⟩
            · cases h'
            · cases hv
              exact Lib.cells_of_row (w := wr.drewN m) hg acc.length j _ (by rw [Nat.mul_one] at ht; rw [ht]; simp [Lib.byteCells, hj])
          have hlen : (s.extract k s.size).size ≤ maxLen := by rw [ByteArray.size_extract]; unfold maxLen; omega
          have hT := trim_in (s.extract k s.size) hlen
          rw [extract_drop] at hT
          have HT := Hid.mk hT
          clear hT hF hRv HH hne hrow hlen
          go_wp2
          go_quiet ((go_at_call 269; exact Calls.quiet_of_same (HT.out _)))
          go_wp2
          go_ret3
          exact ⟨by rw [hfin.out]; rfl, below_drewN hbl _⟩
      · have hdb : ((s[k].toNat : Int) != 46) = true := by rw [bne_iff_ne]; omega
        have hd := get_drop s k hlt
        have hlen : (s.extract k s.size).size ≤ maxLen := by rw [ByteArray.size_extract]; unfold maxLen; omega
        have hpos : 0 < (s.extract k s.size).size := by rw [ByteArray.size_extract]; omega
        have htb := tb_size (s.data.toList.drop k)
        have hfs : cutF (n + 1) acc (s.data.toList.drop k) = if (tb (s.data.toList.drop k)).2 = 0 then none else cutF n (if acc.length ≤ 63 then acc ++ [(tb (s.data.toList.drop k)).1] else acc) ((s.data.toList.drop k).drop (tb (s.data.toList.drop k)).2) := by
          rw [hd, cutF, if_neg hdot]
        have HFS := Hid.mk (hfs.symm.trans hF.out)
        have HD0 : Hid (k = 0 → ∀ c, s.data.toList.head? = some c → c.toNat ≠ 46) := by
          intro e c hc
          subst e
          rw [List.drop_zero] at hd
          rw [hd] at hc
          simp at hc
          subst hc; exact hdot
        clear hfs hd hF hdot
        have hE := told_in (s.extract k s.size) hlen hpos
        rw [extract_drop] at hE
        have HE := Hid.mk hE
        rw [List.length_drop, size_list] at htb
        clear hE hlen hpos
        have hdd : ∀ m, (s.data.toList.drop k).drop m = s.data.toList.drop (k + m) := fun m => by rw [List.drop_drop]
        have HDD := Hid.mk hdd
        clear hdd
        generalize hr : tb (s.data.toList.drop k) = r at HFS HE htb
        obtain ⟨rb, rs⟩ := r
        clear hr
        dsimp only at HFS HE htb
        have HHn : Hid (0 < k + rs → ∀ c, s.data.toList.head? = some c → c.toNat ≠ 46) := by
          intro _ c hc
          by_cases e : 0 < k
          · exact HH.out e c hc
          · obtain rfl : k = 0 := by omega
            exact HD0.out rfl c hc
        by_cases hz : rs = 0
        · have hRn : Hid (R = none) := by have := HFS.out; rw [if_pos hz] at this; exact this.symm
          have hfin : Hid (cutB s.data.toList = none) := by
            cases hl : s.data.toList with
            | nil => rfl
            | cons c t =>
              show (if c.toNat = 46 then none else (cutF ((c :: t).length + 1) [] (c :: t)).map fun r => (r.1, trimD r.2)) = none
              rw [← hl, HR.out, hRn.out]
              simp
          clear HFS
          subst hz
          go_wp2_with fail
          refine (HE.out _).mono ?_
          rintro e w1 ⟨rfl, m, rfl⟩
          go_wp2
          go_ret3
          exact ⟨by rw [hfin.out]; rfl, below_drewN hbl m⟩
        · have hzb : (((rs : Nat) : Int) == 0) = false := by simp; omega
          have hks : k + rs ≤ s.size := by omega
          have hrs : 0 < rs := by omega
          by_cases ha : acc.length ≤ 63
          · have HN : Hid (cutF n (acc ++ [rb]) (s.data.toList.drop (k + rs)) = R) := by
              have := HFS.out
              rw [if_neg hz, if_pos ha, HDD.out] at this; exact this
            have hal : (acc ++ [rb]).length = acc.length + 1 := by simp
            have HAL := Hid.mk hal
            clear HFS hal hz
            go_wp2_with fail
            refine (HE.out _).mono ?_
            rintro e w1 ⟨rfl, m, rfl⟩
            have hrow' : (wr.drewN m).ownsRow w.heap.size 5 1 (.slice q acc.length cap) acc.length (Lib.byteCells acc) := hrow
            have hbl' := below_drewN hbl m
            have hsz' := hbl.size
            go_wp2_with (at_builtin; refine wpList_append_own _ rfl _ _ 55 rfl w.heap.size 5 i0 (.int .u8 0) 1 1 Tryz.underlying55 hi hz0 hz1 hz2 rfl (by decide) _ _ _ rfl (row_alloc hrow' _) ⟨wr.heap.size, 0, none⟩ 1 1 [.int .u8 (rb.toNat : Int)] rfl rfl (cell_one_new _ _ _) (by simp [Value.oneCell']) (by unfold maxLen; omega) (by omega) (by simp; omega) ?_; intro v1 w1 hown1 hgrow1 _)
            go_roundw
            case rel =>
              exact ⟨k + rs, n, acc ++ [rb], by go_num, hks, by rw [HAL.out, byteCells_snoc]; exact hown1, by rw [HAL.out]; omega, by constructor; (intro e; omega); (intro e; simp at e), by omega, HN, HHn, (hbl'.alloc hbl'.size _).grown hgrow1 (by simp; omega) (own_base hrow')⟩
            case measure => simp [intOf]; omega
          · have HN : Hid (cutF n acc (s.data.toList.drop (k + rs)) = R) := by
              have := HFS.out
              rw [if_neg hz, if_neg ha, HDD.out] at this; exact this
            clear HFS hz
            go_wp2_with fail
            refine (HE.out _).mono ?_
            rintro e w1 ⟨rfl, m, rfl⟩
            have hrow' : (wr.drewN m).ownsRow w.heap.size 5 1 (.slice q acc.length cap) acc.length (Lib.byteCells acc) := hrow
            have hbl' := below_drewN hbl m
            go_wp2
            go_roundw
            case rel =>
              exact ⟨k + rs, n, acc, by go_num, hks, hrow', hacc, by constructor; (intro e; omega); (intro e; rw [e] at ha; simp at ha), by omega, HN, HHn, hbl'⟩
            case measure => simp [intOf]; omega
    · have hk00 : ¬ k = 0 := by omega
      have hRv : Hid (R = some (acc, s.data.toList.drop k)) := by
        have := hF.out
        rw [List.drop_of_length_le (by rw [size_list]; omega)] at this ⊢
        exact this.symm
      have hk0b : (((k : Nat) : Int) == 0) = false := by simp; omega
      have hne : acc ≠ [] := fun e => hk00 (HK0.out.2 e)
      have hfin : Hid (cutB s.data.toList = some (acc, trimD (s.data.toList.drop k))) := by
        cases hl : s.data.toList with
        | nil => rw [← size_list, hl] at h; simp at h
        | cons c t =>
          show (if c.toNat = 46 then none else (cutF ((c :: t).length + 1) [] (c :: t)).map fun r => (r.1, trimD r.2)) = _
          rw [if_neg (HH.out (by omega) c (by rw [hl]; rfl)), ← hl, HR.out, hRv.out]
          rfl
      obtain ⟨g, hq⟩ : ∃ g, q = some ⟨g, 0, none⟩ := by
        obtain ⟨g, cap', hv⟩ := row_form hrow (List.length_pos_iff.2 hne)
        cases hv
        exact ⟨g, rfl⟩
      subst hq
      have hcv : ∀ m, (convert 55 9 (.slice (some ⟨g, 0, none⟩) acc.length cap)).run Tryz.prog (wr.drewN m) = .ok (.string ⟨acc.toArray⟩) (wr.drewN m) := fun m => by
        refine run_convert_bytes_back (P := Tryz.prog) (wr.drewN m) 55 9 5 ⟨g, 0, none⟩ cap acc Tryz.underlying55 Tryz.underlying5 Tryz.underlying9 (fun j hj => ?_)
        rcases hrow.2 with ⟨h', _⟩ | ⟨g', cap', cur, hv, _, hg, _, _, _, ht⟩
        · cases h'
        · cases hv
          exact Lib.cells_of_row (w := wr.drewN m) hg acc.length j _ (by rw [Nat.mul_one] at ht; rw [ht]; simp [Lib.byteCells, hj])
      have hlen : (s.extract k s.size).size ≤ maxLen := by rw [ByteArray.size_extract]; unfold maxLen; omega
      have hT := trim_in (s.extract k s.size) hlen
      rw [extract_drop] at hT
      have HT := Hid.mk hT
      clear hT hF hRv HH hne hrow hlen
      go_wp2
      go_quiet ((go_at_call 269; exact Calls.quiet_of_same (HT.out _)))
      go_wp2
      go_ret3
      exact ⟨by rw [hfin.out]; rfl, below_drewN hbl _⟩
end Go.Proofs.YtlcjagkfeakinaaGreatDoor

/- eachTold and what it hands back: the labels that a text tells, one behind the other. -/
namespace Go.Proofs.YtlcjagkfeakinaaGreatDoor
set_option linter.unusedVariables false
set_option maxRecDepth 100000
open Go.RowKit Go.Shelf
attribute [local go_sem] Oper.semAt_some

theorem tb_pos {l : List UInt8} (h : (tb l).2 ≠ 0) : 1 ≤ (tb l).2 := by omega

theorem cutF_len : ∀ (n : Nat) (acc l : List UInt8) (r : List UInt8 × List UInt8), cutF n acc l = some r → acc.length ≤ 64 → r.2.length ≤ l.length ∧ r.1.length ≤ 64 ∧ acc.length ≤ r.1.length
  | 0, acc, l, r, h, _ => by simp [cutF] at h
  | n + 1, acc, [], r, h, ha => by simp [cutF] at h; subst h; exact ⟨Nat.le_refl _, ha, Nat.le_refl _⟩
  | n + 1, acc, c :: t, r, h, ha => by
    rw [cutF] at h
    split at h
    · simp at h; subst h; exact ⟨Nat.le_refl _, ha, Nat.le_refl _⟩
    · split at h
      · simp at h
      · have hl : (if acc.length ≤ 63 then acc ++ [(tb (c :: t)).1] else acc).length ≤ 64 ∧ acc.length ≤ (if acc.length ≤ 63 then acc ++ [(tb (c :: t)).1] else acc).length := by
          split <;> simp <;> omega
        have := cutF_len n _ _ r h hl.1
        rw [List.length_drop] at this
        exact ⟨by omega, this.2.1, by omega⟩

theorem trimD_len (l : List UInt8) : (trimD l).length ≤ l.length := by unfold trimD; split <;> simp

theorem cutB_len {l : List UInt8} {r : List UInt8 × List UInt8} (h : cutB l = some r) : r.2.length < l.length ∧ r.1.length ≤ 64 ∧ 1 ≤ r.1.length := by
  cases l with
  | nil => simp [cutB] at h
  | cons c t =>
    rw [cutB] at h
    split at h
    · simp at h
    · rename_i hc
      rw [List.length_cons, cutF, if_neg hc] at h
      split at h
      · simp at h
      · rename_i hz
        simp only [Option.map_eq_some_iff] at h
        obtain ⟨q, hq, rfl⟩ := h
        have := cutF_len _ _ _ q hq (by simp)
        have h1 := trimD_len q.2
        rw [List.length_drop] at this
        have h2 : ([] : List UInt8).length ≤ 63 := by simp
        rw [if_pos h2] at this
        simp at this ⊢
        omega

/-- the labels that a text tells, or none, if it is not of the right form. -/
def toks : Nat → List UInt8 → Option (List (List UInt8))
  | 0, _ => none
  | n + 1, l => match l with
    | [] => some []
    | c :: t => match cutB (c :: t) with
      | none => none
      | some r => (toks n r.2).map fun ls => r.1 :: ls

/-- what a round is handed: a label, and whether the text was of the right form. -/
abbrev Tok := { x : ByteArray × Bool // x.1.size ≤ 64 }
abbrev tokEnc (x : Tok) : Array Value := #[.string x.1.1, .bool x.1.2]
def tokL (p : List Tok) : List (List UInt8) := p.map fun x => x.1.1.data.toList
theorem tokL_snoc (p : List Tok) (x : Tok) : tokL (p ++ [x]) = tokL p ++ [x.1.1.data.toList] := by simp [tokL]

theorem eachTold_in (s : ByteArray) (w : World) :
    Calls Tryz.prog 231 #[.string s] w fun e w' => e = .returned (.func (.func 251) #[] #[.pointer (some ⟨w.heap.size, 0, none⟩)]) ∧ w' = w.alloc (.cells #[.string s] 9) := by
  go_enter Tryz.func231, Tryz.ntmps231
  go_wp2
  go_ret
  exact ⟨rfl, rfl⟩

theorem grown_below {W W' : World} (h : Below W.heap.size W W') : W.grownBy W' none :=
  ⟨h.os, h.tape, h.output, h.size, fun k hk _ => h.block k hk⟩

theorem toks_step {n : Nat} {s : ByteArray} (h : 0 < s.size) : toks (n + 1) s.data.toList = match cutB s.data.toList with
      | none => none
      | some r => (toks n r.2).map fun ls => r.1 :: ls := by
  cases hl : s.data.toList with
  | nil => rw [← size_list, hl] at h; simp at h
  | cons c t => rfl

/-- all that came was of the right form. -/
def AllT (p : List Tok) : Prop := ∀ x ∈ p, x.1.2 = true

set_option maxRecDepth 100000 in
set_option maxHeartbeats 1000000 in
theorem told1_in (F : Fence) (n : Nat) (hdep : F = Fence.wide) (hn : 2 ≤ n) (l Bn : Nat) (s : ByteArray) (hs : s.size ≤ maxLen) (J Jx : List Tok → World → Prop) (N : Nat)
    (hJ : AbidesFrom N J)
    (hY : ∀ pre x W, J pre W → pre.length < s.size → YieldAt F (n - 1) Tryz.prog l (tokEnc x) W fun e W' =>
      (e = .returned (.bool true) ∧ J (pre ++ [x]) W' ∧ True) ∨ (e = .returned (.bool false) ∧ Jx (pre ++ [x]) W'))
    (W : World) (hBn : W.cell? ⟨Bn, 0, none⟩ = some (.string s)) (h0 : J [] W) :
    CallsIn F n Tryz.prog 251 #[.func (.yield l) #[] #[], .pointer (some ⟨Bn, 0, none⟩)] W fun e W' => (∃ v, e = .returned v) ∧
      ((∃ ys : List Tok, (AllT ys → toks (s.size + 1) s.data.toList = some (tokL ys)) ∧ J ys W') ∨
       (∃ pre : List Tok, (∀ x, pre.getLast? = some x → x.1.2 = false → toks (s.size + 1) s.data.toList = none) ∧ Jx pre W')) := by
  subst hdep
  have hmax := hs
  unfold maxLen at hs
  obtain ⟨R, hR⟩ : ∃ R, toks (s.size + 1) s.data.toList = R := ⟨_, rfl⟩
  rw [hR]
  refine callsIn_of_wp Tryz.func251 rfl trivial ?_ rfl
  simp only [Tryz.ntmps251, List.size_toArray, List.length_cons, List.length_nil, Nat.reduceAdd, Nat.reduceSub, Array.replicate_succ, Array.replicate_zero, List.push_toArray, List.append_toArray, List.nil_append, List.cons_append]
  gi_wp2
  gi_loopw [3] (fun v wr => ∃ (r : ByteArray) (pre : List Tok) (m : Nat), v = .string r ∧ pre.length + r.size ≤ s.size ∧ r.size < m ∧ AllT pre ∧ Hid ((toks m r.data.toList).map (fun ls => tokL pre ++ ls) = R) ∧ J pre wr)
    (fun v _ => (match v with | .string r => r.size | _ => 0))
  case atStart =>
    refine ⟨s, [], s.size + 1, rfl, by simp, by omega, by simp [AllT], ?_, h0⟩
    show _ = R
    rw [hR]; simp [tokL]
  case round =>
    obtain ⟨r, pre, m, rfl, hlen, hm, hat, hT, hJs⟩ := hrel
    clear hBn h0 hR
    obtain ⟨m, rfl⟩ : ∃ m', m = m' + 1 := ⟨m - 1, by omega⟩
    by_cases hlt : 0 < r.size
    · have hne : r.toList.isEmpty = false := by
        rw [ByteArray.toList_eq]
        cases hl : r.data.toList with
        | nil => rw [← size_list, hl] at hlt; simp at hlt
        | cons c t => rfl
      have hcut := cutLabel_in r (by unfold maxLen; omega) hlt
      cases hc : cutB r.data.toList with
      | none =>
        have hRn : Hid (R = none) := by
          have := hT.out
          rw [toks_step hlt, hc] at this
          exact this.symm
        rw [hc] at hcut
        have HC := Hid.mk hcut
        clear hcut hc hT
        gi_wp2_with fail
        refine ⟨trivial, fun _ => (by omega), ?_⟩
        refine (callsIn_wide.2 (HC.out _)).mono ?_
        rintro e w1 ⟨rfl, hb1⟩
        have hJ1 := hJ _ _ _ none hJs (grown_below hb1) (fun r e => by cases e)
        obtain ⟨fn, tmps, assign, body, hy, hR⟩ := hY pre ⟨(⟨#[]⟩, false), by decide⟩ w1 hJ1 (by omega)
        dsimp only [tokEnc] at hy
        dsimp only [cutV]
        gi_wp2
        refine ⟨fun _ => (by omega), ?_⟩
        refine hR.mono ?_
        rintro e W3 (⟨rfl, hJ3, -⟩ | ⟨rfl, hJx3⟩)
        · gi_wp2
          refine bodyPost_ret (results_none rfl _ _ _) rfl ?_
          refine ⟨⟨_, rfl⟩, .inl ⟨_, fun h => ?_, hJ3⟩⟩
          have := h ⟨(⟨#[]⟩, false), by decide⟩ (by simp)
          cases this
        · gi_wp2
          refine bodyPost_ret (results_none rfl _ _ _) rfl ?_
          exact ⟨⟨_, rfl⟩, .inr ⟨_, fun _ _ _ => hRn.out, hJx3⟩⟩
      | some q =>
        have hq := cutB_len hc
        rw [size_list] at hq
        have hRn : Hid ((toks m q.2).map (fun ls => (tokL pre ++ [q.1]) ++ ls) = R) := by
          have := hT.out
          rw [toks_step hlt, hc] at this
          rw [← this]
          show _ = Option.map _ (Option.map _ (toks m q.2))
          rw [Option.map_map]
          congr 1
          funext ls; simp
        rw [hc] at hcut
        have HC := Hid.mk hcut
        obtain ⟨q1, q2⟩ := q
        dsimp only at hq hRn
        have HQ := Hid.mk hq
        clear hcut hc hT
        gi_wp2_with fail
        refine ⟨trivial, fun _ => (by omega), ?_⟩
        refine (callsIn_wide.2 (HC.out _)).mono ?_
        rintro e w1 ⟨rfl, hb1⟩
        have hJ1 := hJ _ _ _ none hJs (grown_below hb1) (fun r e => by cases e)
        obtain ⟨fn, tmps, assign, body, hy, hR⟩ := hY pre ⟨(⟨q1.toArray⟩, true), hq.2.1⟩ w1 hJ1 (by omega)
        dsimp only [tokEnc] at hy
        dsimp only [cutV]
        gi_wp2
        refine ⟨fun _ => (by omega), ?_⟩
        refine hR.mono ?_
        rintro e W3 (⟨rfl, hJ3, -⟩ | ⟨rfl, hJx3⟩)
        · gi_wp2
          go_roundw
          case rel =>
            refine ⟨⟨q2.toArray⟩, _, m, rfl, ?_, ?_, ?_, ?_, hJ3⟩
            · have hz2 : (ByteArray.mk q2.toArray).size = q2.length := rfl
              rw [List.length_append, List.length_singleton]; omega
            · rw [ba_size]; omega
            · intro x hx
              rcases List.mem_append.1 hx with h' | h'
              · exact hat x h'
              · simp at h'; subst h'; rfl
            · show Option.map _ _ = R
              rw [tokL_snoc]; exact hRn.out
          case measure => show (ByteArray.mk q2.toArray).size < r.size; rw [ba_size]; omega
        · gi_wp2
          refine bodyPost_ret (results_none rfl _ _ _) rfl ?_
          refine ⟨⟨_, rfl⟩, .inr ⟨_, fun x hx hf => ?_, hJx3⟩⟩
          simp at hx
          subst hx
          cases hf
    · have hr0 : r.data.toList = [] := List.eq_nil_of_length_eq_zero (by rw [size_list]; omega)
      have hne : r.toList.isEmpty = true := by rw [ByteArray.toList_eq, hr0]; rfl
      have hRv : R = some (tokL pre) := by
        have := hT.out
        rw [hr0] at this
        simpa [toks] using this.symm
      have HRV := Hid.mk hRv
      clear hT hRv hr0 hlt
      gi_wp2
      go_end0
      exact ⟨⟨_, rfl⟩, .inl ⟨pre, fun _ => HRV.out, hJs⟩⟩

theorem eachTold_stops (n : Nat) (hn : 2 ≤ n) (Bn : Nat) (s : ByteArray) (hs : s.size ≤ maxLen) (w : World) (hBw : Bn < w.heap.size) (hBn : w.cell? ⟨Bn, 0, none⟩ = some (.string s)) :
    SeqStopsK Fence.wide n Tryz.prog 251 #[.pointer (some ⟨Bn, 0, none⟩)] tokEnc (fun _ _ => True) (fun ys => AllT ys → toks (s.size + 1) s.data.toList = some (tokL ys)) (fun pre => ∀ x, pre.getLast? = some x → x.1.2 = false → toks (s.size + 1) s.data.toList = none) s.size w :=
  fun l J Jx W hW hJ _ hY h0 => told1_in Fence.wide n rfl hn l Bn s hs J Jx _ hJ hY W ((hW.cell (p := ⟨Bn, 0, none⟩) hBw).trans hBn) h0

end Go.Proofs.YtlcjagkfeakinaaGreatDoor
