/- Texts of this proof, joined: DGrpRead, DStr, DConv, DTxtRead, DTxtPass, DForm. -/
import Derived.Test.YtimnnogaiglceaaGreatDoorJ5
import Derived.Lib.FrozenHead
/- Read; and the form of A, how it is read where it goes well. -/
namespace Go.Proofs.YtimnnogaiglceaaGreatDoor
set_option linter.unusedVariables false
open Go.RowKit
theorem GrpBoxes.kept {W W' : World} {b d : Nat} (h : GrpBoxes W b) (k : Kept d W W') (hd : d < b) : GrpBoxes W' b :=
  ⟨(k.same _ (box_lt h.cnt) (by omega)).trans h.cnt, (k.same _ (box_lt h.wid) (by omega)).trans h.wid, (k.same _ (box_lt h.bas) (by omega)).trans h.bas, (k.same _ (box_lt h.btw) (by omega)).trans h.btw⟩
end Go.Proofs.YtimnnogaiglceaaGreatDoor
/- Strings of TXT: readString and readMarked, where no byte is told by its number. -/
namespace Go.Proofs.YtimnnogaiglceaaGreatDoor
set_option linter.unusedVariables false
open Go.RowKit
def strLen : Option Value → Nat
  | some (.string s) => s.size
  | _ => 0
def rdLen (W : World) (d : Nat) : Nat := strLen (W.cell? ⟨d, 0, none⟩)
theorem Rd.len {W : World} {d : Nat} {s : ByteArray} (h : Rd W d s) : rdLen W d = s.size := by
  rw [rdLen, h.cell]; rfl
end Go.Proofs.YtimnnogaiglceaaGreatDoor
/- Bytes made of a text ('[]byte(s)'), appended to: such a row bears its mark behind its last cell. -/
namespace Go.Proofs.YtimnnogaiglceaaGreatDoor
set_option linter.unusedVariables false
open Go.RowKit
def OwnsC (w : World) (base : Nat) (v : Value) (xs : List UInt8) : Prop :=
  ∃ g cap cur fz, v = .slice (some ⟨g, 0, none⟩) xs.length cap ∧ base ≤ g ∧ w.heap[g]? = some (.cells cur 5 fz) ∧ (fz.2 = 0 ∨ cap ≤ fz.1) ∧ xs.length ≤ cap ∧ cap ≤ maxLen ∧ cur.size = cap ∧ cur.toList.take xs.length = Lib.byteCells xs
theorem OwnsC.lt {w : World} {base : Nat} {v : Value} {xs : List UInt8} (h : OwnsC w base v xs) : ∀ k, v.ownBlock = some k → base ≤ k := by
  obtain ⟨g, cap, cur, fz, rfl, hb, _⟩ := h
  intro k hk
  simp [Value.ownBlock] at hk
  omega
theorem OwnsC.kept {w w' : World} {base b : Nat} {v : Value} {xs : List UInt8} (h : OwnsC w base v xs) (k : Kept b w w') (hb : b < base) : OwnsC w' base v xs := by
  obtain ⟨g, cap, cur, fz, hv, hbg, hg, r⟩ := h
  exact ⟨g, cap, cur, fz, hv, hbg, (k.same g (Array.getElem?_eq_some_iff.1 hg).1 (by omega)).trans hg, r⟩
theorem OwnsC.conv (w : World) (s : ByteArray) (hs : s.size ≤ maxLen) : OwnsC (Lib.bytesWorld w 5 s) w.heap.size (.slice (some ⟨w.heap.size, 0, none⟩) s.size (grownCap w s.size 0 5)) s.data.toList := by
  have hge := grownCap_ge w s.size 0 5
  have hz : (Lib.bytesCells w 5 s).size = grownCap w s.size 0 5 := by simp [Lib.bytesCells]; omega
  refine ⟨w.heap.size, grownCap w s.size 0 5, _, _, by rw [size_list], Nat.le_refl _, Lib.bytesWorld_at_new w 5 s, .inr (by rw [hz]; exact Nat.le_refl _), by rw [size_list]; exact hge, grownCap_le_maxLen w s.size 0 5 hs, hz, ?_⟩
  simp only [Lib.bytesCells, Array.toList_append, Array.toList_map, Lib.byteCells]
  rw [List.take_append_of_le_length (by simp)]
  exact List.take_of_length_le (by simp)
end Go.Proofs.YtimnnogaiglceaaGreatDoor
/- TXT: how its strings are read, where they are told well. -/
namespace Go.Proofs.YtimnnogaiglceaaGreatDoor
set_option linter.unusedVariables false
open Go.RowKit
end Go.Proofs.YtimnnogaiglceaaGreatDoor
/- TXT: how data go past it. -/
namespace Go.Proofs.YtimnnogaiglceaaGreatDoor
set_option linter.unusedVariables false
open Go.RowKit
def moreOk : Nat → ByteArray → Bool
  | 0, _ => false
  | n + 1, s => if h : 0 < s.size then (if 1 + s[0].toNat ≤ s.size then moreOk n (s.extract (1 + s[0].toNat) s.size) else false) else true
theorem more_end (n : Nat) (s : ByteArray) (h : s.size = 0) : moreOk (n + 1) s = true := by
  rw [moreOk, dif_neg (by omega)]
theorem more_no (n : Nat) (s : ByteArray) (h : 0 < s.size) (hf : s.size < 1 + s[0].toNat) : moreOk (n + 1) s = false := by
  rw [moreOk, dif_pos h, if_neg (by omega)]
theorem more_go (n : Nat) (s : ByteArray) (h : 0 < s.size) (hf : 1 + s[0].toNat ≤ s.size) : moreOk (n + 1) s = moreOk n (s.extract (1 + s[0].toNat) s.size) := by
  rw [moreOk, dif_pos h, if_pos hf]
def txtPf : Nat → ByteArray → Option Nat := fun _ s => if 0 < s.size ∧ moreOk (s.size + 1) s = true then some s.size else none
theorem ba_empty (s : ByteArray) (h : s.size = 0) : s = ⟨#[]⟩ := by
  apply ba_ext
  have : s.data.toList.length = 0 := by rw [size_list]; exact h
  rw [List.length_eq_zero_iff.1 this]
theorem end_cut (s : ByteArray) : s.extract s.size s.size = ⟨#[]⟩ := ba_empty _ (by rw [ByteArray.size_extract]; omega)
theorem ne_text (s : ByteArray) (h : 0 < s.size) : (s.toList == []) = false ∧ (!s.toList.isEmpty) = true := by
  rw [ByteArray.toList_eq]
  have : s.data.toList ≠ [] := fun e => by
    have : s.data.toList.length = 0 := by rw [e]; rfl
    rw [size_list] at this; omega
  cases hl : s.data.toList with
  | nil => exact absurd hl this
  | cons a l => exact ⟨rfl, rfl⟩
set_option maxHeartbeats 1000000 in
theorem passStrings_in (W : World) (d : Nat) (s : ByteArray) (hs : s.size ≤ 2000) (h : Rd W d s) :
    Calls Tryz.prog 148 #[boxV d] W fun e w' => PassPost (txtPf 0 s) s d W w' e := by
  by_cases h0 : 0 < s.size
  · by_cases hf : 1 + s[0].toNat ≤ s.size
    · have HC := Hid.mk (counted_yes W d s (by unfold maxLen; omega) h h0 hf)
      obtain ⟨R, hR⟩ : ∃ R, moreOk s.size (s.extract (1 + s[0].toNat) s.size) = R := ⟨_, rfl⟩
      have hpf : txtPf 0 s = if R = true then some s.size else none := by
        unfold txtPf
        rw [more_go _ _ h0 hf, hR]
        by_cases hr : R = true <;> simp [h0, hr]
      have HPF := Hid.mk hpf
      have HR := Hid.mk hR
      have hez : (s.extract (1 + s[0].toNat) s.size).size < s.size := by rw [ByteArray.size_extract]; omega
      have hr1 := h.set (s.extract (1 + s[0].toNat) s.size)
      have hk1 := Kept.set d 0 W (.string (s.extract (1 + s[0].toNat) s.size))
      clear hpf hR
      generalize s.extract (1 + s[0].toNat) s.size = s1 at HC HR hez hr1 hk1
      go_enter Tryz.func148, Tryz.ntmps148
      go_wp2_with fail
      refine HC.out.mono ?_
      rintro e w1 ⟨rfl, rfl⟩
      go_wp2
      go_loopw [] (fun wr => ∃ (x : ByteArray) (n : Nat), Rd wr d x ∧ x.size < n ∧ x.size ≤ 2000 ∧ Hid (moreOk n x = R) ∧ Kept d W wr) (fun wr => rdLen wr d)
      case atStart => exact ⟨s1, s.size, hr1, hez, by omega, HR, hk1⟩
      case round =>
        obtain ⟨x, n, hrd, hxn, hx2, HX, hkp⟩ := hrel
        obtain ⟨n, rfl⟩ : ∃ m, n = m + 1 := ⟨n - 1, by omega⟩
        have HLn := Hid.mk hrd.len
        have hcl := hrd.cell
        by_cases hx0 : 0 < x.size
        · obtain ⟨hn1, hn2⟩ := ne_text x hx0
          by_cases hxf : 1 + x[0].toNat ≤ x.size
          · have HC2 := Hid.mk (counted_yes wr d x (by unfold maxLen; omega) hrd hx0 hxf)
            have hez2 : (x.extract (1 + x[0].toNat) x.size).size < x.size := by rw [ByteArray.size_extract]; omega
            have hr2 := hrd.set (x.extract (1 + x[0].toNat) x.size)
            have hk2 := Kept.set d 0 wr (.string (x.extract (1 + x[0].toNat) x.size))
            have HX2 : Hid (moreOk n (x.extract (1 + x[0].toNat) x.size) = R) := by
              rw [Hid, ← more_go n x hx0 hxf]; exact HX.out
            generalize x.extract (1 + x[0].toNat) x.size = x1 at HC2 hez2 hr2 hk2 HX2
            clear hxf
            go_wp2_with fail
            refine HC2.out.mono ?_
            rintro e w2 ⟨rfl, rfl⟩
            have HLT : Hid (rdLen (wr.setCell ⟨d, 0, none⟩ (.string x1)) d < rdLen wr d) := by
              rw [Hid, HLn.out, hr2.len]; exact hez2
            have hrelN : ∃ (x : ByteArray) (n : Nat), Rd (wr.setCell ⟨d, 0, none⟩ (.string x1)) d x ∧ x.size < n ∧ x.size ≤ 2000 ∧ Hid (moreOk n x = R) ∧ Kept d W (wr.setCell ⟨d, 0, none⟩ (.string x1)) :=
              ⟨x1, n, hr2, by omega, by omega, HX2, hkp.trans hk2⟩
            go_wp2
            exact ⟨hrelN, HLT.out⟩
          · have HC2 := Hid.mk (counted_no wr d x (by unfold maxLen; omega) hrd hx0 (by omega))
            have hRf : R = false := by rw [← HX.out, more_no n x hx0 (by omega)]
            go_wp2_with fail
            refine HC2.out.mono ?_
            rintro e w2 ⟨rfl, hk2⟩
            go_wp2
            rw [HPF.out, hRf]
            exact ⟨rfl, rfl, hkp.trans hk2⟩
        · have hxe := ba_empty x (by omega)
          subst hxe
          have hRt : R = true := by rw [← HX.out, more_end n _ rfl]
          go_wp2
          refine bodyPost_end (results_none rfl _ _ _) rfl ?_
          rw [HPF.out, hRt, if_pos rfl]
          exact ⟨Nat.le_refl _, rfl, by rw [end_cut]; exact hrd, hkp⟩
    · have HC := Hid.mk (counted_no W d s (by unfold maxLen; omega) h h0 (by omega))
      have hpf : txtPf 0 s = none := by
        unfold txtPf
        rw [more_no _ _ h0 (by omega)]
        simp
      rw [hpf]
      go_enter Tryz.func148, Tryz.ntmps148
      go_wp2_with fail
      refine HC.out.mono ?_
      rintro e w1 ⟨rfl, hk⟩
      go_wp2
      exact ⟨rfl, rfl, hk⟩
  · have hpf : txtPf 0 s = none := by
      unfold txtPf
      rw [if_neg (fun e => h0 e.1)]
    rw [hpf]
    have HC := Hid.mk (counted_no0 W d s h (by omega))
    go_enter Tryz.func148, Tryz.ntmps148
    go_wp2_with fail
    refine HC.out.mono ?_
    rintro e w1 ⟨rfl, rfl⟩
    go_wp2
    exact ⟨rfl, rfl, Kept.refl _ _⟩
end Go.Proofs.YtimnnogaiglceaaGreatDoor
/- The kinds of parts, and how data go past each: numbers, names, types, hex, salts, hashes. -/
namespace Go.Proofs.YtimnnogaiglceaaGreatDoor
set_option linter.unusedVariables false
open Go.RowKit
inductive PK where
  | num (n : Nat)
  | grp (c w b : Nat) (sep : UInt8)
  | name
  | type
  | hex
  | salt
  | hash
  | types
  | any
  | strs
def formOf (k : Int) : List PK :=
  if k = 1 then [.grp 4 1 10 46] else if k = 28 then [.grp 8 2 16 58] else if k = 2 ∨ k = 5 ∨ k = 39 then [.name]
  else if k = 6 then [.name, .name, .num 4, .num 4, .num 4, .num 4, .num 4] else if k = 15 then [.num 2, .name] else if k = 16 then [.strs]
  else if k = 43 ∨ k = 48 then [.num 2, .num 1, .num 1, .hex] else if k = 46 then [.type, .num 1, .num 1, .num 4, .num 4, .num 4, .num 2, .name, .hex]
  else if k = 47 then [.name, .types] else if k = 50 then [.num 1, .num 1, .num 2, .salt, .hash, .types] else [.any]
def takeK (n : Nat) (s : ByteArray) : Option Nat := if n ≤ s.size then some n else none
def cntK (s : ByteArray) : Option Nat := if h : 0 < s.size then (if 1 + s[0].toNat ≤ s.size then some (1 + s[0].toNat) else none) else none
def hashK (s : ByteArray) : Option Nat := match cntK s with
  | some m => if 1 < m then some m else none
  | none => none
def nmGo : Nat → ByteArray → Option Nat
  | 0, _ => none
  | n + 1, s => match cntK s with
    | none => none
    | some m => if m = 1 then some 1 else (nmGo n (s.extract m s.size)).map (· + m)
open Classical in
noncomputable def nameK (s : ByteArray) : Option Nat := match nmGo (s.size + 1) s with
  | none => none
  | some m => if IsName (s.extract 0 m) then some m else none
def bitAt (bits : List UInt8) (n : Nat) : Bool := (bits.getD (n / 8) 0).toNat / 2 ^ (7 - n % 8) % 2 == 1
def bitsL (w : Nat) (bits : List UInt8) (n : Nat) : List Nat := ((List.range n).filter fun i => bitAt bits i).map fun i => w * 256 + i
def lastOk (bits : List UInt8) : Bool := match bits.getLast? with
  | some b => b != 0
  | none => false
def tyGo : Nat → Int → ByteArray → Option (List Nat)
  | 0, _, _ => none
  | n + 1, last, s => if h : 0 < s.size then (match cntK (s.extract 1 s.size) with
      | none => none
      | some m => if last < (s[0].toNat : Int) ∧ m ≤ 33 ∧ lastOk (s.extract 2 (m + 1)).data.toList = true then
          (tyGo n s[0].toNat (s.extract (m + 1) s.size)).map fun r => bitsL s[0].toNat (s.extract 2 (m + 1)).data.toList (8 * (m - 1)) ++ r else none)
    else some []
def typesR (s : ByteArray) : Option (List Nat) := tyGo (s.size + 1) (-1) s
noncomputable def passK : PK → ByteArray → Option Nat
  | .num n, s => takeK n s
  | .grp c w _ _, s => takeK (c * w) s
  | .name, s => nameK s
  | .type, s => takeK 2 s
  | .hex, s => if 0 < s.size then some s.size else none
  | .salt, s => cntK s
  | .hash, s => hashK s
  | .types, s => if (typesR s).isSome then some s.size else none
  | .any, s => some s.size
  | .strs, s => txtPf 0 s
/-! ### the walks -/
theorem take_post (W : World) (d n : Nat) (s : ByteArray) (hs : s.size ≤ 2000) (hn : n ≤ 100) (h : Rd W d s) :
    Calls Tryz.prog 135 #[boxV d, .int .i64 n] W fun e w' => match takeK n s with
      | some m => m ≤ s.size ∧ e = .returned (.string (s.extract 0 n)) ∧ Rd w' d (s.extract m s.size) ∧ Kept d W w'
      | none => e = .panicked mustV ∧ Kept d W w' := by
  unfold takeK
  by_cases hl : n ≤ s.size
  · rw [if_pos hl]
    refine (take_yes W d n s (by unfold maxLen; omega) h hl).mono ?_
    rintro e w' ⟨rfl, rfl⟩
    exact ⟨hl, rfl, h.set _, Kept.set _ _ _ _⟩
  · rw [if_neg hl]
    refine (take_no W d n s (by unfold maxLen; omega) h (by omega) (by unfold maxLen; omega)).mono ?_
    rintro e w' ⟨rfl, rfl⟩
    exact ⟨rfl, Kept.refl _ _⟩
theorem counted_post (W : World) (d : Nat) (s : ByteArray) (hs : s.size ≤ 2000) (h : Rd W d s) :
    Calls Tryz.prog 167 #[boxV d] W fun e w' => match cntK s with
      | some m => 1 ≤ m ∧ m ≤ s.size ∧ m ≤ 256 ∧ e = .returned (.string (s.extract 1 m)) ∧ Rd w' d (s.extract m s.size) ∧ Kept d W w'
      | none => e = .panicked mustV ∧ Kept d W w' := by
  unfold cntK
  by_cases h0 : 0 < s.size
  · rw [dif_pos h0]
    have hu := s[0].toNat_lt
    by_cases hf : 1 + s[0].toNat ≤ s.size
    · rw [if_pos hf]
      refine (counted_yes W d s (by unfold maxLen; omega) h h0 hf).mono ?_
      rintro e w' ⟨rfl, rfl⟩
      exact ⟨by omega, hf, by omega, rfl, h.set _, Kept.set _ _ _ _⟩
    · rw [if_neg hf]
      refine (counted_no W d s (by unfold maxLen; omega) h h0 (by omega)).mono ?_
      rintro e w' ⟨rfl, hk⟩
      exact ⟨rfl, hk⟩
  · rw [dif_neg h0]
    refine (counted_no0 W d s h (by omega)).mono ?_
    rintro e w' ⟨rfl, rfl⟩
    exact ⟨rfl, Kept.refl _ _⟩
theorem numPass_in (W : World) (b d n : Nat) (hn : n ≤ 100) (hb : W.heap[b]? = some (.cells #[.int .i64 n] 3 (0, 0))) (s : ByteArray) (hs : s.size ≤ 2000) (h : Rd W d s) :
    Calls Tryz.prog 134 #[boxV d, boxV b] W fun e w' => PassPost (takeK n s) s d W w' e := by
  have c0 := box_cell hb
  have T := Hid.mk (take_post W d n s hs hn h)
  cases hr : takeK n s with
  | some m =>
    rw [hr] at T
    go_enter Tryz.func134, Tryz.ntmps134
    go_wp2_with fail
    refine T.out.mono ?_
    rintro e w1 ⟨hm, rfl, hr1, hk1⟩
    go_wp2
    exact bodyPost_end (results_none rfl _ _ _) rfl ⟨hm, rfl, hr1, hk1⟩
  | none =>
    rw [hr] at T
    go_enter Tryz.func134, Tryz.ntmps134
    go_wp2_with fail
    refine T.out.mono ?_
    rintro e w1 ⟨rfl, hk1⟩
    go_wp2
    exact ⟨rfl, rfl, hk1⟩
theorem typePass_in (W : World) (d : Nat) (s : ByteArray) (hs : s.size ≤ 2000) (h : Rd W d s) :
    Calls Tryz.prog 156 #[boxV d] W fun e w' => PassPost (takeK 2 s) s d W w' e := by
  have T := Hid.mk (take_post W d 2 s hs (by omega) h)
  cases hr : takeK 2 s with
  | some m =>
    rw [hr] at T
    go_enter Tryz.func156, Tryz.ntmps156
    go_wp2_with fail
    refine T.out.mono ?_
    rintro e w1 ⟨hm, rfl, hr1, hk1⟩
    go_wp2
    exact bodyPost_end (results_none rfl _ _ _) rfl ⟨hm, rfl, hr1, hk1⟩
  | none =>
    rw [hr] at T
    go_enter Tryz.func156, Tryz.ntmps156
    go_wp2_with fail
    refine T.out.mono ?_
    rintro e w1 ⟨rfl, hk1⟩
    go_wp2
    exact ⟨rfl, rfl, hk1⟩
theorem saltPass_in (W : World) (d : Nat) (s : ByteArray) (hs : s.size ≤ 2000) (h : Rd W d s) :
    Calls Tryz.prog 166 #[boxV d] W fun e w' => PassPost (cntK s) s d W w' e := by
  have T := Hid.mk (counted_post W d s hs h)
  cases hr : cntK s with
  | some m =>
    rw [hr] at T
    go_enter Tryz.func166, Tryz.ntmps166
    go_wp2_with fail
    refine T.out.mono ?_
    rintro e w1 ⟨hm1, hm, hm3, rfl, hr1, hk1⟩
    go_wp2
    exact bodyPost_end (results_none rfl _ _ _) rfl ⟨hm, rfl, hr1, hk1⟩
  | none =>
    rw [hr] at T
    go_enter Tryz.func166, Tryz.ntmps166
    go_wp2_with fail
    refine T.out.mono ?_
    rintro e w1 ⟨rfl, hk1⟩
    go_wp2
    exact ⟨rfl, rfl, hk1⟩
theorem cut_ne (s : ByteArray) (m : Nat) (hm : m ≤ s.size) (h1 : 1 < m) : 0 < (s.extract 1 m).size := by rw [ByteArray.size_extract]; omega
theorem cut_e (s : ByteArray) (m : Nat) (h1 : m ≤ 1) : s.extract 1 m = ⟨#[]⟩ := ba_empty _ (by rw [ByteArray.size_extract]; omega)
theorem ne_bne (s : ByteArray) (h : 0 < s.size) : (s.toList != []) = true := by
  have := (ne_text s h).1
  simp only [bne, this, Bool.not_false]
theorem hashPass_in (W : World) (d : Nat) (s : ByteArray) (hs : s.size ≤ 2000) (h : Rd W d s) :
    Calls Tryz.prog 171 #[boxV d] W fun e w' => PassPost (hashK s) s d W w' e := by
  have T := Hid.mk (counted_post W d s hs h)
  unfold hashK
  cases hr : cntK s with
  | some m =>
    rw [hr] at T
    by_cases h1 : 1 < m
    · simp only [if_pos h1]
      go_enter Tryz.func171, Tryz.ntmps171
      go_wp2_with fail
      refine T.out.mono ?_
      rintro e w1 ⟨hm1, hm, hm3, rfl, hr1, hk1⟩
      have hp := cut_ne s m hm h1
      obtain ⟨hn1, hn2⟩ := ne_text _ hp
      have hn3 := ne_bne _ hp
      go_wp2_with fail
      refine (must_yes _).mono ?_
      rintro e w2 ⟨rfl, rfl⟩
      go_wp2
      exact bodyPost_end (results_none rfl _ _ _) rfl ⟨hm, rfl, hr1, hk1⟩
    · simp only [if_neg h1]
      have he := Hid.mk (cut_e s m (by omega))
      go_enter Tryz.func171, Tryz.ntmps171
      go_wp2_with fail
      refine T.out.mono ?_
      rintro e w1 ⟨hm1, hm, hm3, rfl, hr1, hk1⟩
      rw [he.out]
      go_wp2_with fail
      refine (must_no _).mono ?_
      rintro e w2 ⟨rfl, rfl⟩
      go_wp2
      exact ⟨rfl, rfl, hk1⟩
  | none =>
    rw [hr] at T
    go_enter Tryz.func171, Tryz.ntmps171
    go_wp2_with fail
    refine T.out.mono ?_
    rintro e w1 ⟨rfl, hk1⟩
    go_wp2
    exact ⟨rfl, rfl, hk1⟩
theorem hexPass_in (W : World) (d : Nat) (s : ByteArray) (hs : s.size ≤ 2000) (h : Rd W d s) :
    Calls Tryz.prog 151 #[boxV d] W fun e w' => PassPost (if 0 < s.size then some s.size else none) s d W w' e := by
  have T := Hid.mk (all_in W d s (by unfold maxLen; omega) h)
  have hr1 := Hid.mk (h.set ⟨#[]⟩)
  by_cases h0 : 0 < s.size
  · rw [if_pos h0]
    obtain ⟨hn1, hn2⟩ := ne_text s h0
    have hn3 := ne_bne s h0
    have hec := Hid.mk (end_cut s)
    go_enter Tryz.func151, Tryz.ntmps151
    go_wp2_with fail
    refine T.out.mono ?_
    rintro e w1 ⟨rfl, rfl⟩
    go_wp2_with fail
    refine (must_yes _).mono ?_
    rintro e w2 ⟨rfl, rfl⟩
    go_wp2
    refine bodyPost_end (results_none rfl _ _ _) rfl ⟨Nat.le_refl _, rfl, ?_, Kept.set _ _ _ _⟩
    rw [hec.out]; exact hr1.out
  · rw [if_neg h0]
    obtain rfl := ba_empty s (by omega)
    go_enter Tryz.func151, Tryz.ntmps151
    go_wp2_with fail
    refine T.out.mono ?_
    rintro e w1 ⟨rfl, rfl⟩
    go_wp2_with fail
    refine (must_no _).mono ?_
    rintro e w2 ⟨rfl, rfl⟩
    go_wp2
    exact ⟨rfl, rfl, Kept.set _ _ _ _⟩
end Go.Proofs.YtimnnogaiglceaaGreatDoor