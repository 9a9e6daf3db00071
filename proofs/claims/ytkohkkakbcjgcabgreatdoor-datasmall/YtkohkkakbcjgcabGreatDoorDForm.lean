/- The kinds of parts, and how data go past each: numbers, names, types, hex, salts, hashes. -/
import Derived.Test.YtkohkkakbcjgcabGreatDoorDTxtPass
namespace Go.Proofs.YtkohkkakbcjgcabGreatDoor
set_option linter.unusedVariables false
open Go.RowKit

/-- a kind of part. -/
inductive PK where
  | num (n : Nat)
  | grp (c w b : Nat) (sep : UInt8)
  | name
  | type
  | hex
  | salt
  | hash
  | types
  | any
  | strs

/-- a type's form. -/
def formOf (k : Int) : List PK :=
  if k = 1 then [.grp 4 1 10 46] else if k = 28 then [.grp 8 2 16 58] else if k = 2 ∨ k = 5 ∨ k = 39 then [.name]
  else if k = 6 then [.name, .name, .num 4, .num 4, .num 4, .num 4, .num 4] else if k = 15 then [.num 2, .name] else if k = 16 then [.strs]
  else if k = 43 ∨ k = 48 then [.num 2, .num 1, .num 1, .hex] else if k = 46 then [.type, .num 1, .num 1, .num 4, .num 4, .num 4, .num 2, .name, .hex]
  else if k = 47 then [.name, .types] else if k = 50 then [.num 1, .num 1, .num 2, .salt, .hash, .types] else [.any]

/-- so many bytes. -/
def takeK (n : Nat) (s : ByteArray) : Option Nat := if n ≤ s.size then some n else none
/-- bytes behind their number. -/
def cntK (s : ByteArray) : Option Nat := if h : 0 < s.size then (if 1 + s[0].toNat ≤ s.size then some (1 + s[0].toNat) else none) else none
def hashK (s : ByteArray) : Option Nat := match cntK s with
  | some m => if 1 < m then some m else none
  | none => none
/-- labels up to one of no bytes. -/
def nmGo : Nat → ByteArray → Option Nat
  | 0, _ => none
  | n + 1, s => match cntK s with
    | none => none
    | some m => if m = 1 then some 1 else (nmGo n (s.extract m s.size)).map (· + m)
open Classical in
noncomputable def nameK (s : ByteArray) : Option Nat := match nmGo (s.size + 1) s with
  | none => none
  | some m => if IsName (s.extract 0 m) then some m else none

/-- the types that the bits of a window tell, up to the n-th. -/
def bitAt (bits : List UInt8) (n : Nat) : Bool := (bits.getD (n / 8) 0).toNat / 2 ^ (7 - n % 8) % 2 == 1
def bitsL (w : Nat) (bits : List UInt8) (n : Nat) : List Nat := ((List.range n).filter fun i => bitAt bits i).map fun i => w * 256 + i
def lastOk (bits : List UInt8) : Bool := match bits.getLast? with
  | some b => b != 0
  | none => false
/-- a list of types that bytes put down. -/
def tyGo : Nat → Int → ByteArray → Option (List Nat)
  | 0, _, _ => none
  | n + 1, last, s => if h : 0 < s.size then (match cntK (s.extract 1 s.size) with
      | none => none
      | some m => if last < (s[0].toNat : Int) ∧ m ≤ 33 ∧ lastOk (s.extract 2 (m + 1)).data.toList = true then
          (tyGo n s[0].toNat (s.extract (m + 1) s.size)).map fun r => bitsL s[0].toNat (s.extract 2 (m + 1)).data.toList (8 * (m - 1)) ++ r else none)
    else some []
def typesR (s : ByteArray) : Option (List Nat) := tyGo (s.size + 1) (-1) s

noncomputable def passK : PK → ByteArray → Option Nat
  | .num n, s => takeK n s
  | .grp c w _ _, s => takeK (c * w) s
  | .name, s => nameK s
  | .type, s => takeK 2 s
  | .hex, s => if 0 < s.size then some s.size else none
  | .salt, s => cntK s
  | .hash, s => hashK s
  | .types, s => if (typesR s).isSome then some s.size else none
  | .any, s => some s.size
  | .strs, s => txtPf 0 s

/-! ### the walks -/
theorem take_post (W : World) (d n : Nat) (s : ByteArray) (hs : s.size ≤ 2000) (hn : n ≤ 100) (h : Rd W d s) :
    Calls Tryz.prog 56 #[boxV d, .int .i64 n] W fun e w' => match takeK n s with
      | some m => m ≤ s.size ∧ e = .returned (.string (s.extract 0 n)) ∧ Rd w' d (s.extract m s.size) ∧ Kept d W w'
      | none => e = .panicked mustV ∧ Kept d W w' := by
  unfold takeK
  by_cases hl : n ≤ s.size
  · rw [if_pos hl]
    refine (take_yes W d n s (by unfold maxLen; omega) h hl).mono ?_
    rintro e w' ⟨rfl, rfl⟩
    exact ⟨hl, rfl, h.set _, Kept.set _ _ _ _⟩
  · rw [if_neg hl]
    refine (take_no W d n s (by unfold maxLen; omega) h (by omega) (by unfold maxLen; omega)).mono ?_
    rintro e w' ⟨rfl, rfl⟩
    exact ⟨rfl, Kept.refl _ _⟩

theorem counted_post (W : World) (d : Nat) (s : ByteArray) (hs : s.size ≤ 2000) (h : Rd W d s) :
    Calls Tryz.prog 57 #[boxV d] W fun e w' => match cntK s with
      | some m => 1 ≤ m ∧ m ≤ s.size ∧ m ≤ 256 ∧ e = .returned (.string (s.extract 1 m)) ∧ Rd w' d (s.extract m s.size) ∧ Kept d W w'
      | none => e = .panicked mustV ∧ Kept d W w' := by
  unfold cntK
  by_cases h0 : 0 < s.size
  · rw [dif_pos h0]
    have hu := s[0].toNat_lt
    by_cases hf : 1 + s[0].toNat ≤ s.size
    · rw [if_pos hf]
      refine (counted_yes W d s (by unfold maxLen; omega) h h0 hf).mono ?_
      rintro e w' ⟨rfl, rfl⟩
      exact ⟨by omega, hf, by omega, rfl, h.set _, Kept.set _ _ _ _⟩
    · rw [if_neg hf]
      refine (counted_no W d s (by unfold maxLen; omega) h h0 (by omega)).mono ?_
      rintro e w' ⟨rfl, hk⟩
      exact ⟨rfl, hk⟩
  · rw [dif_neg h0]
    refine (counted_no0 W d s h (by omega)).mono ?_
    rintro e w' ⟨rfl, rfl⟩
    exact ⟨rfl, Kept.refl _ _⟩

theorem numPass_in (W : World) (b d n : Nat) (hn : n ≤ 100) (hb : W.heap[b]? = some (.cells #[.int .i64 n] 3 (0, 0))) (s : ByteArray) (hs : s.size ≤ 2000) (h : Rd W d s) :
    Calls Tryz.prog 83 #[boxV d, boxV b] W fun e w' => PassPost (takeK n s) s d W w' e := by
  have c0 := box_cell hb
  have T := Hid.mk (take_post W d n s hs hn h)
  cases hr : takeK n s with
  | some m =>
    rw [hr] at T
    go_enter Tryz.func83, Tryz.ntmps83
    go_wp2_with fail
    refine T.out.mono ?_
    rintro e w1 ⟨hm, rfl, hr1, hk1⟩
    go_wp2
    exact bodyPost_end (results_none rfl _ _ _) rfl ⟨hm, rfl, hr1, hk1⟩
  | none =>
    rw [hr] at T
    go_enter Tryz.func83, Tryz.ntmps83
    go_wp2_with fail
    refine T.out.mono ?_
    rintro e w1 ⟨rfl, hk1⟩
    go_wp2
    exact ⟨rfl, rfl, hk1⟩

theorem typePass_in (W : World) (d : Nat) (s : ByteArray) (hs : s.size ≤ 2000) (h : Rd W d s) :
    Calls Tryz.prog 104 #[boxV d] W fun e w' => PassPost (takeK 2 s) s d W w' e := by
  have T := Hid.mk (take_post W d 2 s hs (by omega) h)
  cases hr : takeK 2 s with
  | some m =>
    rw [hr] at T
    go_enter Tryz.func104, Tryz.ntmps104
    go_wp2_with fail
    refine T.out.mono ?_
    rintro e w1 ⟨hm, rfl, hr1, hk1⟩
    go_wp2
    exact bodyPost_end (results_none rfl _ _ _) rfl ⟨hm, rfl, hr1, hk1⟩
  | none =>
    rw [hr] at T
    go_enter Tryz.func104, Tryz.ntmps104
    go_wp2_with fail
    refine T.out.mono ?_
    rintro e w1 ⟨rfl, hk1⟩
    go_wp2
    exact ⟨rfl, rfl, hk1⟩

theorem saltPass_in (W : World) (d : Nat) (s : ByteArray) (hs : s.size ≤ 2000) (h : Rd W d s) :
    Calls Tryz.prog 112 #[boxV d] W fun e w' => PassPost (cntK s) s d W w' e := by
  have T := Hid.mk (counted_post W d s hs h)
  cases hr : cntK s with
  | some m =>
    rw [hr] at T
    go_enter Tryz.func112, Tryz.ntmps112
    go_wp2_with fail
    refine T.out.mono ?_
    rintro e w1 ⟨hm1, hm, hm3, rfl, hr1, hk1⟩
    go_wp2
    exact bodyPost_end (results_none rfl _ _ _) rfl ⟨hm, rfl, hr1, hk1⟩
  | none =>
    rw [hr] at T
    go_enter Tryz.func112, Tryz.ntmps112
    go_wp2_with fail
    refine T.out.mono ?_
    rintro e w1 ⟨rfl, hk1⟩
    go_wp2
    exact ⟨rfl, rfl, hk1⟩

theorem cut_ne (s : ByteArray) (m : Nat) (hm : m ≤ s.size) (h1 : 1 < m) : 0 < (s.extract 1 m).size := by rw [ByteArray.size_extract]; omega
theorem cut_e (s : ByteArray) (m : Nat) (h1 : m ≤ 1) : s.extract 1 m = ⟨#[]⟩ := ba_empty _ (by rw [ByteArray.size_extract]; omega)
theorem ne_bne (s : ByteArray) (h : 0 < s.size) : (s.toList != []) = true := by
  have := (ne_text s h).1
  simp only [bne, this, Bool.not_false]

theorem hashPass_in (W : World) (d : Nat) (s : ByteArray) (hs : s.size ≤ 2000) (h : Rd W d s) :
    Calls Tryz.prog 115 #[boxV d] W fun e w' => PassPost (hashK s) s d W w' e := by
  have T := Hid.mk (counted_post W d s hs h)
  unfold hashK
  cases hr : cntK s with
  | some m =>
    rw [hr] at T
    by_cases h1 : 1 < m
    · simp only [if_pos h1]
      go_enter Tryz.func115, Tryz.ntmps115
      go_wp2_with fail
      refine T.out.mono ?_
      rintro e w1 ⟨hm1, hm, hm3, rfl, hr1, hk1⟩
      have hp := cut_ne s m hm h1
      obtain ⟨hn1, hn2⟩ := ne_text _ hp
      have hn3 := ne_bne _ hp
      go_wp2_with fail
      refine (must_yes _).mono ?_
      rintro e w2 ⟨rfl, rfl⟩
      go_wp2
      exact bodyPost_end (results_none rfl _ _ _) rfl ⟨hm, rfl, hr1, hk1⟩
    · simp only [if_neg h1]
      have he := Hid.mk (cut_e s m (by omega))
      go_enter Tryz.func115, Tryz.ntmps115
      go_wp2_with fail
      refine T.out.mono ?_
      rintro e w1 ⟨hm1, hm, hm3, rfl, hr1, hk1⟩
      rw [he.out]
      go_wp2_with fail
      refine (must_no _).mono ?_
      rintro e w2 ⟨rfl, rfl⟩
      go_wp2
      exact ⟨rfl, rfl, hk1⟩
  | none =>
    rw [hr] at T
    go_enter Tryz.func115, Tryz.ntmps115
    go_wp2_with fail
    refine T.out.mono ?_
    rintro e w1 ⟨rfl, hk1⟩
    go_wp2
    exact ⟨rfl, rfl, hk1⟩

theorem hexPass_in (W : World) (d : Nat) (s : ByteArray) (hs : s.size ≤ 2000) (h : Rd W d s) :
    Calls Tryz.prog 99 #[boxV d] W fun e w' => PassPost (if 0 < s.size then some s.size else none) s d W w' e := by
  have T := Hid.mk (all_in W d s (by unfold maxLen; omega) h)
  have hr1 := Hid.mk (h.set ⟨#[]⟩)
  by_cases h0 : 0 < s.size
  · rw [if_pos h0]
    obtain ⟨hn1, hn2⟩ := ne_text s h0
    have hn3 := ne_bne s h0
    have hec := Hid.mk (end_cut s)
    go_enter Tryz.func99, Tryz.ntmps99
    go_wp2_with fail
    refine T.out.mono ?_
    rintro e w1 ⟨rfl, rfl⟩
    go_wp2_with fail
    refine (must_yes _).mono ?_
    rintro e w2 ⟨rfl, rfl⟩
    go_wp2
    refine bodyPost_end (results_none rfl _ _ _) rfl ⟨Nat.le_refl _, rfl, ?_, Kept.set _ _ _ _⟩
    rw [hec.out]; exact hr1.out
  · rw [if_neg h0]
    obtain rfl := ba_empty s (by omega)
    go_enter Tryz.func99, Tryz.ntmps99
    go_wp2_with fail
    refine T.out.mono ?_
    rintro e w1 ⟨rfl, rfl⟩
    go_wp2_with fail
    refine (must_no _).mono ?_
    rintro e w2 ⟨rfl, rfl⟩
    go_wp2
    exact ⟨rfl, rfl, Kept.set _ _ _ _⟩
end Go.Proofs.YtkohkkakbcjgcabGreatDoor
