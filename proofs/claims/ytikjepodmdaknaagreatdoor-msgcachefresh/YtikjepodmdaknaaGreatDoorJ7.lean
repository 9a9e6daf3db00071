/- Texts of this proof, joined: DTxtPass, DForm, DNmRel, DTyOf, DTxtTell, DTxtTell2. -/
import Derived.Test.YtikjepodmdaknaaGreatDoorJ6
set_option linter.unusedVariables false
set_option linter.unusedSimpArgs false
/- TXT: how data go past it. -/
namespace Go.Proofs.YtikjepodmdaknaaGreatDoor
open Go.RowKit
def moreOk : Nat → ByteArray → Bool
 | 0, _ => false
 | n + 1, s => if h : 0 < s.size then (if 1 + s[0].toNat ≤ s.size then moreOk n (s.extract (1 + s[0].toNat) s.size) else false) else true
theorem more_end (n : Nat) (s : ByteArray) (h : s.size = 0) : moreOk (n + 1) s = true := by
 rw [moreOk, dif_neg (by omega)]
theorem more_no (n : Nat) (s : ByteArray) (h : 0 < s.size) (hf : s.size < 1 + s[0].toNat) : moreOk (n + 1) s = false := by
 rw [moreOk, dif_pos h, if_neg (by omega)]
theorem more_go (n : Nat) (s : ByteArray) (h : 0 < s.size) (hf : 1 + s[0].toNat ≤ s.size) : moreOk (n + 1) s = moreOk n (s.extract (1 + s[0].toNat) s.size) := by
 rw [moreOk, dif_pos h, if_pos hf]
def txtPf : Nat → ByteArray → Option Nat := fun _ s => if 0 < s.size ∧ moreOk (s.size + 1) s = true then some s.size else none
theorem ba_empty (s : ByteArray) (h : s.size = 0) : s = ⟨#[]⟩ := by
 apply ba_ext
 have : s.data.toList.length = 0 := by rw [size_list]; exact h
 rw [List.length_eq_zero_iff.1 this]
theorem end_cut (s : ByteArray) : s.extract s.size s.size = ⟨#[]⟩ := ba_empty _ (by rw [ByteArray.size_extract]; omega)
theorem ne_text (s : ByteArray) (h : 0 < s.size) : (s.toList == []) = false ∧ (!s.toList.isEmpty) = true := by
 rw [ByteArray.toList_eq]
 have : s.data.toList ≠ [] := fun e => by
  have : s.data.toList.length = 0 := by rw [e]; rfl
  rw [size_list] at this; omega
 cases hl : s.data.toList with
 | nil => exact absurd hl this
 | cons a l => exact ⟨rfl, rfl⟩
set_option maxHeartbeats 1000000 in
theorem passStrings_in (W : World) (d : Nat) (s : ByteArray) (hs : s.size ≤ 2000) (h : Rd W d s) :
  Calls Tryz.prog 220 #[boxV d] W fun e w' => PassPost (txtPf 0 s) s d W w' e := by
 by_cases h0 : 0 < s.size
 ·by_cases hf : 1 + s[0].toNat ≤ s.size
  ·have HC := Hid.mk (counted_yes W d s (by unfold maxLen; omega) h h0 hf)
   obtain ⟨R, hR⟩ : ∃ R, moreOk s.size (s.extract (1 + s[0].toNat) s.size) = R := ⟨_, rfl⟩
   have hpf : txtPf 0 s = if R = true then some s.size else none := by
    unfold txtPf
    rw [more_go _ _ h0 hf, hR]
    by_cases hr : R = true <;> simp [h0, hr]
   have HPF := Hid.mk hpf
   have HR := Hid.mk hR
   have hez : (s.extract (1 + s[0].toNat) s.size).size < s.size := by rw [ByteArray.size_extract]; omega
   have hr1 := h.set (s.extract (1 + s[0].toNat) s.size)
   have hk1 := Kept.set d 0 W (.string (s.extract (1 + s[0].toNat) s.size))
   clear hpf hR
   generalize s.extract (1 + s[0].toNat) s.size = s1 at HC HR hez hr1 hk1
   go_enter Tryz.func220, Tryz.ntmps220
   go_wp2_with fail
   refine HC.out.mono ?_
   rintro e w1 ⟨rfl, rfl⟩
   go_wp2
   go_loopw [] (fun wr => ∃ (x : ByteArray) (n : Nat), Rd wr d x ∧ x.size < n ∧ x.size ≤ 2000 ∧ Hid (moreOk n x = R) ∧ Kept d W wr) (fun wr => rdLen wr d)
   case atStart => exact ⟨s1, s.size, hr1, hez, by omega, HR, hk1⟩
   case round =>
    obtain ⟨x, n, hrd, hxn, hx2, HX, hkp⟩ := hrel
    obtain ⟨n, rfl⟩ : ∃ m, n = m + 1 := ⟨n - 1, by omega⟩
    have HLn := Hid.mk hrd.len
    have hcl := hrd.cell
    by_cases hx0 : 0 < x.size
    ·obtain ⟨hn1, hn2⟩ := ne_text x hx0
     by_cases hxf : 1 + x[0].toNat ≤ x.size
     ·have HC2 := Hid.mk (counted_yes wr d x (by unfold maxLen; omega) hrd hx0 hxf)
      have hez2 : (x.extract (1 + x[0].toNat) x.size).size < x.size := by rw [ByteArray.size_extract]; omega
      have hr2 := hrd.set (x.extract (1 + x[0].toNat) x.size)
      have hk2 := Kept.set d 0 wr (.string (x.extract (1 + x[0].toNat) x.size))
      have HX2 : Hid (moreOk n (x.extract (1 + x[0].toNat) x.size) = R) := by
       rw [Hid, ← more_go n x hx0 hxf]; exact HX.out
      generalize x.extract (1 + x[0].toNat) x.size = x1 at HC2 hez2 hr2 hk2 HX2
      clear hxf
      go_wp2_with fail
      refine HC2.out.mono ?_
      rintro e w2 ⟨rfl, rfl⟩
      have HLT : Hid (rdLen (wr.setCell ⟨d, 0, none⟩ (.string x1)) d < rdLen wr d) := by
       rw [Hid, HLn.out, hr2.len]; exact hez2
      have hrelN : ∃ (x : ByteArray) (n : Nat), Rd (wr.setCell ⟨d, 0, none⟩ (.string x1)) d x ∧ x.size < n ∧ x.size ≤ 2000 ∧ Hid (moreOk n x = R) ∧ Kept d W (wr.setCell ⟨d, 0, none⟩ (.string x1)) :=
       ⟨x1, n, hr2, by omega, by omega, HX2, hkp.trans hk2⟩
      go_wp2
      exact ⟨hrelN, HLT.out⟩
     ·have HC2 := Hid.mk (counted_no wr d x (by unfold maxLen; omega) hrd hx0 (by omega))
      have hRf : R = false := by rw [← HX.out, more_no n x hx0 (by omega)]
      go_wp2_with fail
      refine HC2.out.mono ?_
      rintro e w2 ⟨rfl, hk2⟩
      go_wp2
      rw [HPF.out, hRf]
      exact ⟨rfl, rfl, hkp.trans hk2⟩
    ·have hxe := ba_empty x (by omega)
     subst hxe
     have hRt : R = true := by rw [← HX.out, more_end n _ rfl]
     go_wp2
     refine bodyPost_end (results_none rfl _ _ _) rfl ?_
     rw [HPF.out, hRt, if_pos rfl]
     exact ⟨Nat.le_refl _, rfl, by rw [end_cut]; exact hrd, hkp⟩
  ·have HC := Hid.mk (counted_no W d s (by unfold maxLen; omega) h h0 (by omega))
   have hpf : txtPf 0 s = none := by
    unfold txtPf
    rw [more_no _ _ h0 (by omega)]
    simp
   rw [hpf]
   go_enter Tryz.func220, Tryz.ntmps220
   go_wp2_with fail
   refine HC.out.mono ?_
   rintro e w1 ⟨rfl, hk⟩
   go_wp2
   exact ⟨rfl, rfl, hk⟩
 ·have hpf : txtPf 0 s = none := by
   unfold txtPf
   rw [if_neg (fun e => h0 e.1)]
  rw [hpf]
  have HC := Hid.mk (counted_no0 W d s h (by omega))
  go_enter Tryz.func220, Tryz.ntmps220
  go_wp2_with fail
  refine HC.out.mono ?_
  rintro e w1 ⟨rfl, rfl⟩
  go_wp2
  exact ⟨rfl, rfl, Kept.refl _ _⟩
end Go.Proofs.YtikjepodmdaknaaGreatDoor
/- The kinds of parts, and how data go past each: numbers, names, types, hex, salts, hashes. -/
namespace Go.Proofs.YtikjepodmdaknaaGreatDoor
open Go.RowKit
inductive PK where
 | num (n : Nat)
 | grp (c w b : Nat) (sep : UInt8)
 | name
 | type
 | hex
 | salt
 | hash
 | types
 | any
 | strs
def formOf (k : Int) : List PK :=
 if k = 1 then [.grp 4 1 10 46] else if k = 28 then [.grp 8 2 16 58] else if k = 2 ∨ k = 5 ∨ k = 39 then [.name]
 else if k = 6 then [.name, .name, .num 4, .num 4, .num 4, .num 4, .num 4] else if k = 15 then [.num 2, .name] else if k = 16 then [.strs]
 else if k = 43 ∨ k = 48 then [.num 2, .num 1, .num 1, .hex] else if k = 46 then [.type, .num 1, .num 1, .num 4, .num 4, .num 4, .num 2, .name, .hex]
 else if k = 47 then [.name, .types] else if k = 50 then [.num 1, .num 1, .num 2, .salt, .hash, .types] else [.any]
def takeK (n : Nat) (s : ByteArray) : Option Nat := if n ≤ s.size then some n else none
def cntK (s : ByteArray) : Option Nat := if h : 0 < s.size then (if 1 + s[0].toNat ≤ s.size then some (1 + s[0].toNat) else none) else none
def hashK (s : ByteArray) : Option Nat := match cntK s with
 | some m => if 1 < m then some m else none
 | none => none
def nmGo : Nat → ByteArray → Option Nat
 | 0, _ => none
 | n + 1, s => match cntK s with
  | none => none
  | some m => if m = 1 then some 1 else (nmGo n (s.extract m s.size)).map (· + m)
open Classical in
noncomputable def nameK (s : ByteArray) : Option Nat := match nmGo (s.size + 1) s with
 | none => none
 | some m => if IsName (s.extract 0 m) then some m else none
def bitAt (bits : List UInt8) (n : Nat) : Bool := (bits.getD (n / 8) 0).toNat / 2 ^ (7 - n % 8) % 2 == 1
def bitsL (w : Nat) (bits : List UInt8) (n : Nat) : List Nat := ((List.range n).filter fun i => bitAt bits i).map fun i => w * 256 + i
def lastOk (bits : List UInt8) : Bool := match bits.getLast? with
 | some b => b != 0
 | none => false
def tyGo : Nat → Int → ByteArray → Option (List Nat)
 | 0, _, _ => none
 | n + 1, last, s => if h : 0 < s.size then (match cntK (s.extract 1 s.size) with
   | none => none
   | some m => if last < (s[0].toNat : Int) ∧ m ≤ 33 ∧ lastOk (s.extract 2 (m + 1)).data.toList = true then
     (tyGo n s[0].toNat (s.extract (m + 1) s.size)).map fun r => bitsL s[0].toNat (s.extract 2 (m + 1)).data.toList (8 * (m - 1)) ++ r else none)
  else some []
def typesR (s : ByteArray) : Option (List Nat) := tyGo (s.size + 1) (-1) s
noncomputable def passK : PK → ByteArray → Option Nat
 | .num n, s => takeK n s
 | .grp c w _ _, s => takeK (c * w) s
 | .name, s => nameK s
 | .type, s => takeK 2 s
 | .hex, s => if 0 < s.size then some s.size else none
 | .salt, s => cntK s
 | .hash, s => hashK s
 | .types, s => if (typesR s).isSome then some s.size else none
 | .any, s => some s.size
 | .strs, s => txtPf 0 s
theorem take_post (W : World) (d n : Nat) (s : ByteArray) (hs : s.size ≤ 2000) (hn : n ≤ 100) (h : Rd W d s) :
  Calls Tryz.prog 207 #[boxV d, .int .i64 n] W fun e w' => match takeK n s with
   | some m => m ≤ s.size ∧ e = .returned (.string (s.extract 0 n)) ∧ Rd w' d (s.extract m s.size) ∧ Kept d W w'
   | none => e = .panicked mustV ∧ Kept d W w' := by
 unfold takeK
 by_cases hl : n ≤ s.size
 ·rw [if_pos hl]
  refine (take_yes W d n s (by unfold maxLen; omega) h hl).mono ?_
  rintro e w' ⟨rfl, rfl⟩
  exact ⟨hl, rfl, h.set _, Kept.set _ _ _ _⟩
 ·rw [if_neg hl]
  refine (take_no W d n s (by unfold maxLen; omega) h (by omega) (by unfold maxLen; omega)).mono ?_
  rintro e w' ⟨rfl, rfl⟩
  exact ⟨rfl, Kept.refl _ _⟩
theorem counted_post (W : World) (d : Nat) (s : ByteArray) (hs : s.size ≤ 2000) (h : Rd W d s) :
  Calls Tryz.prog 238 #[boxV d] W fun e w' => match cntK s with
   | some m => 1 ≤ m ∧ m ≤ s.size ∧ m ≤ 256 ∧ e = .returned (.string (s.extract 1 m)) ∧ Rd w' d (s.extract m s.size) ∧ Kept d W w'
   | none => e = .panicked mustV ∧ Kept d W w' := by
 unfold cntK
 by_cases h0 : 0 < s.size
 ·rw [dif_pos h0]
  have hu := s[0].toNat_lt
  by_cases hf : 1 + s[0].toNat ≤ s.size
  ·rw [if_pos hf]
   refine (counted_yes W d s (by unfold maxLen; omega) h h0 hf).mono ?_
   rintro e w' ⟨rfl, rfl⟩
   exact ⟨by omega, hf, by omega, rfl, h.set _, Kept.set _ _ _ _⟩
  ·rw [if_neg hf]
   refine (counted_no W d s (by unfold maxLen; omega) h h0 (by omega)).mono ?_
   rintro e w' ⟨rfl, hk⟩
   exact ⟨rfl, hk⟩
 ·rw [dif_neg h0]
  refine (counted_no0 W d s h (by omega)).mono ?_
  rintro e w' ⟨rfl, rfl⟩
  exact ⟨rfl, Kept.refl _ _⟩
theorem numPass_in (W : World) (b d n : Nat) (hn : n ≤ 100) (hb : W.heap[b]? = some (.cells #[.int .i64 n] 3 (0, 0))) (s : ByteArray) (hs : s.size ≤ 2000) (h : Rd W d s) :
  Calls Tryz.prog 206 #[boxV d, boxV b] W fun e w' => PassPost (takeK n s) s d W w' e := by
 have c0 := box_cell hb
 have T := Hid.mk (take_post W d n s hs hn h)
 cases hr : takeK n s with
 | some m =>
  rw [hr] at T
  go_enter Tryz.func206, Tryz.ntmps206
  go_wp2_with fail
  refine T.out.mono ?_
  rintro e w1 ⟨hm, rfl, hr1, hk1⟩
  go_wp2
  exact bodyPost_end (results_none rfl _ _ _) rfl ⟨hm, rfl, hr1, hk1⟩
 | none =>
  rw [hr] at T
  go_enter Tryz.func206, Tryz.ntmps206
  go_wp2_with fail
  refine T.out.mono ?_
  rintro e w1 ⟨rfl, hk1⟩
  go_wp2
  exact ⟨rfl, rfl, hk1⟩
theorem typePass_in (W : World) (d : Nat) (s : ByteArray) (hs : s.size ≤ 2000) (h : Rd W d s) :
  Calls Tryz.prog 228 #[boxV d] W fun e w' => PassPost (takeK 2 s) s d W w' e := by
 have T := Hid.mk (take_post W d 2 s hs (by omega) h)
 cases hr : takeK 2 s with
 | some m =>
  rw [hr] at T
  go_enter Tryz.func228, Tryz.ntmps228
  go_wp2_with fail
  refine T.out.mono ?_
  rintro e w1 ⟨hm, rfl, hr1, hk1⟩
  go_wp2
  exact bodyPost_end (results_none rfl _ _ _) rfl ⟨hm, rfl, hr1, hk1⟩
 | none =>
  rw [hr] at T
  go_enter Tryz.func228, Tryz.ntmps228
  go_wp2_with fail
  refine T.out.mono ?_
  rintro e w1 ⟨rfl, hk1⟩
  go_wp2
  exact ⟨rfl, rfl, hk1⟩
theorem saltPass_in (W : World) (d : Nat) (s : ByteArray) (hs : s.size ≤ 2000) (h : Rd W d s) :
  Calls Tryz.prog 237 #[boxV d] W fun e w' => PassPost (cntK s) s d W w' e := by
 have T := Hid.mk (counted_post W d s hs h)
 cases hr : cntK s with
 | some m =>
  rw [hr] at T
  go_enter Tryz.func237, Tryz.ntmps237
  go_wp2_with fail
  refine T.out.mono ?_
  rintro e w1 ⟨hm1, hm, hm3, rfl, hr1, hk1⟩
  go_wp2
  exact bodyPost_end (results_none rfl _ _ _) rfl ⟨hm, rfl, hr1, hk1⟩
 | none =>
  rw [hr] at T
  go_enter Tryz.func237, Tryz.ntmps237
  go_wp2_with fail
  refine T.out.mono ?_
  rintro e w1 ⟨rfl, hk1⟩
  go_wp2
  exact ⟨rfl, rfl, hk1⟩
theorem cut_ne (s : ByteArray) (m : Nat) (hm : m ≤ s.size) (h1 : 1 < m) : 0 < (s.extract 1 m).size := by rw [ByteArray.size_extract]; omega
theorem cut_e (s : ByteArray) (m : Nat) (h1 : m ≤ 1) : s.extract 1 m = ⟨#[]⟩ := ba_empty _ (by rw [ByteArray.size_extract]; omega)
theorem ne_bne (s : ByteArray) (h : 0 < s.size) : (s.toList != []) = true := by
 have := (ne_text s h).1
 simp only [bne, this, Bool.not_false]
theorem hashPass_in (W : World) (d : Nat) (s : ByteArray) (hs : s.size ≤ 2000) (h : Rd W d s) :
  Calls Tryz.prog 242 #[boxV d] W fun e w' => PassPost (hashK s) s d W w' e := by
 have T := Hid.mk (counted_post W d s hs h)
 unfold hashK
 cases hr : cntK s with
 | some m =>
  rw [hr] at T
  by_cases h1 : 1 < m
  ·simp only [if_pos h1]
   go_enter Tryz.func242, Tryz.ntmps242
   go_wp2_with fail
   refine T.out.mono ?_
   rintro e w1 ⟨hm1, hm, hm3, rfl, hr1, hk1⟩
   have hp := cut_ne s m hm h1
   obtain ⟨hn1, hn2⟩ := ne_text _ hp
   have hn3 := ne_bne _ hp
   go_wp2_with fail
   refine (must_yes _).mono ?_
   rintro e w2 ⟨rfl, rfl⟩
   go_wp2
   exact bodyPost_end (results_none rfl _ _ _) rfl ⟨hm, rfl, hr1, hk1⟩
  ·simp only [if_neg h1]
   have he := Hid.mk (cut_e s m (by omega))
   go_enter Tryz.func242, Tryz.ntmps242
   go_wp2_with fail
   refine T.out.mono ?_
   rintro e w1 ⟨hm1, hm, hm3, rfl, hr1, hk1⟩
   rw [he.out]
   go_wp2_with fail
   refine (must_no _).mono ?_
   rintro e w2 ⟨rfl, rfl⟩
   go_wp2
   exact ⟨rfl, rfl, hk1⟩
 | none =>
  rw [hr] at T
  go_enter Tryz.func242, Tryz.ntmps242
  go_wp2_with fail
  refine T.out.mono ?_
  rintro e w1 ⟨rfl, hk1⟩
  go_wp2
  exact ⟨rfl, rfl, hk1⟩
theorem hexPass_in (W : World) (d : Nat) (s : ByteArray) (hs : s.size ≤ 2000) (h : Rd W d s) :
  Calls Tryz.prog 223 #[boxV d] W fun e w' => PassPost (if 0 < s.size then some s.size else none) s d W w' e := by
 have T := Hid.mk (all_in W d s (by unfold maxLen; omega) h)
 have hr1 := Hid.mk (h.set ⟨#[]⟩)
 by_cases h0 : 0 < s.size
 ·rw [if_pos h0]
  obtain ⟨hn1, hn2⟩ := ne_text s h0
  have hn3 := ne_bne s h0
  have hec := Hid.mk (end_cut s)
  go_enter Tryz.func223, Tryz.ntmps223
  go_wp2_with fail
  refine T.out.mono ?_
  rintro e w1 ⟨rfl, rfl⟩
  go_wp2_with fail
  refine (must_yes _).mono ?_
  rintro e w2 ⟨rfl, rfl⟩
  go_wp2
  refine bodyPost_end (results_none rfl _ _ _) rfl ⟨Nat.le_refl _, rfl, ?_, Kept.set _ _ _ _⟩
  rw [hec.out]; exact hr1.out
 ·rw [if_neg h0]
  obtain rfl := ba_empty s (by omega)
  go_enter Tryz.func223, Tryz.ntmps223
  go_wp2_with fail
  refine T.out.mono ?_
  rintro e w1 ⟨rfl, rfl⟩
  go_wp2_with fail
  refine (must_no _).mono ?_
  rintro e w2 ⟨rfl, rfl⟩
  go_wp2
  exact ⟨rfl, rfl, Kept.set _ _ _ _⟩
end Go.Proofs.YtikjepodmdaknaaGreatDoor
/- How data go past a name. -/
namespace Go.Proofs.YtikjepodmdaknaaGreatDoor
open Go.RowKit
def NmRel (R : Option Nat) (s x lab : ByteArray) : Prop :=
 x.size ≤ s.size ∧ x = s.extract (s.size - x.size) s.size ∧ ∃ n, x.size < n ∧ R = if lab.size = 0 then some (s.size - x.size) else (nmGo n x).map (· + (s.size - x.size))
theorem cntK_le {s : ByteArray} {m : Nat} (h : cntK s = some m) : 1 ≤ m ∧ m ≤ s.size := by
 unfold cntK at h
 split at h
 ·split at h
  ·cases h; omega
  ·cases h
 ·cases h
theorem nmRel_at {R : Option Nat} {s x lab : ByteArray} {m : Nat} (h : cntK x = some m) (hx : x.size ≤ s.size) (he : x = s.extract (s.size - x.size) s.size) (n : Nat) (hn : x.size < n) (hR : R = (nmGo n x).map (· + (s.size - x.size))) :
  NmRel R s (x.extract m x.size) (x.extract 1 m) := by
 obtain ⟨h1, hm⟩ := cntK_le h
 obtain ⟨n, rfl⟩ : ∃ j, n = j + 1 := ⟨n - 1, by omega⟩
 have hz : (x.extract m x.size).size = x.size - m := by rw [ByteArray.size_extract]; omega
 have hl : (x.extract 1 m).size = m - 1 := by rw [ByteArray.size_extract]; omega
 refine ⟨by omega, ?_, n, by omega, ?_⟩
 ·rw [hz]
  conv => lhs; rw [he]
  rw [ByteArray.size_extract, ByteArray.extract_extract]
  congr 1 <;> omega
 ·rw [hR, nmGo, h, hl, hz]
  simp only
  by_cases e : m = 1
  ·rw [if_pos e, if_pos (by omega), Option.map_some]; congr 1; omega
  ·rw [if_neg e, if_neg (by omega), Option.map_map]
   congr 1
   funext j
   simp only [Function.comp]
   omega
theorem nmRel_first {s : ByteArray} {m : Nat} (h : cntK s = some m) : NmRel (nmGo (s.size + 1) s) s (s.extract m s.size) (s.extract 1 m) := by
 refine nmRel_at (lab := s) h (Nat.le_refl _) ?_ (s.size + 1) (by omega) ?_
 ·simp
 ·simp
theorem nmRel_step {R : Option Nat} {s x lab : ByteArray} {m : Nat} (h : NmRel R s x lab) (hl : lab.size ≠ 0) (hc : cntK x = some m) : NmRel R s (x.extract m x.size) (x.extract 1 m) := by
 obtain ⟨h1, h2, n, hn, hR⟩ := h
 rw [if_neg hl] at hR
 exact nmRel_at (lab := lab) hc h1 h2 n hn hR
theorem nmRel_none {R : Option Nat} {s x lab : ByteArray} (h : NmRel R s x lab) (hl : lab.size ≠ 0) (hc : cntK x = none) : R = none := by
 obtain ⟨h1, h2, n, hn, hR⟩ := h
 obtain ⟨n, rfl⟩ : ∃ j, n = j + 1 := ⟨n - 1, by omega⟩
 rw [if_neg hl, nmGo, hc] at hR
 exact hR
theorem nmRel_end {R : Option Nat} {s x lab : ByteArray} (h : NmRel R s x lab) (hl : lab.size = 0) : R = some (s.size - x.size) ∧ x.size ≤ s.size ∧ x = s.extract (s.size - x.size) s.size := by
 obtain ⟨h1, h2, n, hn, hR⟩ := h
 rw [if_pos hl] at hR
 exact ⟨hR, h1, h2⟩
theorem nmGo_none {s : ByteArray} (h : cntK s = none) : nameK s = none := by
 unfold nameK
 rw [nmGo, h]
theorem nameK_none {s : ByteArray} (h : nmGo (s.size + 1) s = none) : nameK s = none := by
 unfold nameK
 rw [h]
theorem nameK_yes {s : ByteArray} {m : Nat} (h : nmGo (s.size + 1) s = some m) (hn : IsName (s.extract 0 m)) : nameK s = some m := by
 unfold nameK
 rw [h]
 exact if_pos hn
theorem nameK_no {s : ByteArray} {m : Nat} (h : nmGo (s.size + 1) s = some m) (hn : ¬ IsName (s.extract 0 m)) : nameK s = none := by
 unfold nameK
 rw [h]
 exact if_neg hn
theorem right_is (s : ByteArray) (h : IsName s) (w : World) : Calls Tryz.prog 105 #[.string s] w fun e w' => e = .returned (.bool true) ∧ Below w.heap.size w w' := by
 obtain ⟨ls, ho, rfl⟩ := h
 exact right_yes ls ho w
set_option maxHeartbeats 1000000 in
theorem passName_in (W : World) (d : Nat) (s : ByteArray) (hs : s.size ≤ 2000) (h : Rd W d s) :
  Calls Tryz.prog 217 #[boxV d] W fun e w' => PassPost (nameK s) s d W w' e := by
 have hc := h.cell
 have HC := Hid.mk (counted_post W d s hs h)
 cases hcn : cntK s with
 | none =>
  rw [hcn] at HC
  have HN := Hid.mk (nmGo_none hcn)
  clear hcn
  go_enter Tryz.func217, Tryz.ntmps217
  go_wp2_with fail
  refine HC.out.mono ?_
  rintro e w1 ⟨rfl, hk1⟩
  go_wp2
  rw [HN.out]
  exact ⟨rfl, rfl, hk1⟩
 | some m =>
  rw [hcn] at HC
  have HN := Hid.mk (nmRel_first hcn)
  clear hcn
  go_enter Tryz.func217, Tryz.ntmps217
  go_wp2_with fail
  refine HC.out.mono ?_
  rintro e w1 ⟨h1, hm, h256, rfl, hr1, hk1⟩
  go_wp2
  go_loopw [3] (fun lv wr => ∃ (x lab : ByteArray), lv = .string lab ∧ Rd wr d x ∧ x.size ≤ 2000 ∧ Kept d W wr ∧ Hid (NmRel (nmGo (s.size + 1) s) s x lab)) (fun _ wr => rdLen wr d)
  case atStart => exact ⟨_, _, rfl, hr1, by rw [ByteArray.size_extract]; omega, hk1, HN⟩
  case round =>
   obtain ⟨x, lab, rfl, hrd, hx, hkp, HX⟩ := hrel
   have HLn := Hid.mk hrd.len
   by_cases hl0 : 0 < lab.size
   ·obtain ⟨hn1, hn2⟩ := ne_text lab hl0
    have hn3 := ne_bne lab hl0
    have HC2 := Hid.mk (counted_post wr d x hx hrd)
    cases hcx : cntK x with
    | none =>
     rw [hcx] at HC2
     have HE := Hid.mk (nameK_none (nmRel_none HX.out (by omega) hcx))
     clear hcx
     go_wp2_with fail
     refine HC2.out.mono ?_
     rintro e w2 ⟨rfl, hk2⟩
     go_wp2
     rw [HE.out]
     exact ⟨rfl, rfl, hkp.trans hk2⟩
    | some j =>
     rw [hcx] at HC2
     have HS := Hid.mk (nmRel_step HX.out (by omega) hcx)
     clear hcx
     go_wp2_with fail
     refine HC2.out.mono ?_
     rintro e w2 ⟨hj1, hj, hj3, rfl, hr2, hk2⟩
     have hez : (x.extract j x.size).size = x.size - j := by rw [ByteArray.size_extract]; omega
     have HLT : Hid (rdLen w2 d < rdLen wr d) := by
      rw [Hid, HLn.out, hr2.len, hez]; omega
     have hrelN : ∃ (x' lab' : ByteArray), Value.string (x.extract 1 j) = .string lab' ∧ Rd w2 d x' ∧ x'.size ≤ 2000 ∧ Kept d W w2 ∧ Hid (NmRel (nmGo (s.size + 1) s) s x' lab') :=
      ⟨_, _, rfl, hr2, by omega, hkp.trans hk2, HS⟩
     go_wp2
     exact ⟨hrelN, HLT.out⟩
   ·obtain rfl := ba_empty lab (by omega)
    obtain ⟨hR, hxs, hxe⟩ := nmRel_end HX.out rfl
    have HR := Hid.mk hR
    have HXE := Hid.mk hxe
    have hcl := hrd.cell
    have hw1 : IntKind.i64.wrap ((s.size : Int) - (x.size : Int)) = ((s.size - x.size : Nat) : Int) := by rw [IntKind.wrap_i64]; omega
    have hzx : (s.extract 0 (s.size - x.size)).size ≤ maxLen := by rw [ByteArray.size_extract]; unfold maxLen; omega
    clear hR hxe
    by_cases hnm : IsName (s.extract 0 (s.size - x.size))
    ·have HRt := Hid.mk (right_is _ hnm)
     have HNK := Hid.mk (nameK_yes HR.out hnm)
     clear hnm
     go_wp2_with fail
     refine (HRt.out _).mono ?_
     rintro e w3 ⟨rfl, hb3⟩
     go_wp2_with fail
     refine (must_yes _).mono ?_
     rintro e w4 ⟨rfl, rfl⟩
     go_wp2
     refine bodyPost_end (results_none rfl _ _ _) rfl ?_
     rw [HNK.out]
     exact ⟨by omega, rfl, by rw [← HXE.out]; exact hrd.below hb3, hkp.trans (Kept.of_below hb3)⟩
    ·have HRt := Hid.mk (right_no _ hnm hzx)
     have HNK := Hid.mk (nameK_no HR.out hnm)
     clear hnm
     go_wp2_with fail
     refine (HRt.out _).mono ?_
     rintro e w3 ⟨rfl, hb3⟩
     go_wp2_with fail
     refine (must_no _).mono ?_
     rintro e w4 ⟨rfl, rfl⟩
     go_wp2
     rw [HNK.out]
     exact ⟨rfl, rfl, hkp.trans (Kept.of_below hb3)⟩
end Go.Proofs.YtikjepodmdaknaaGreatDoor
/- typesOf: the list of types that bytes put down. -/
namespace Go.Proofs.YtikjepodmdaknaaGreatDoor
open Go.RowKit
theorem info3 : (Tryz.prog.info? 3).map (fun i => (i.zero, i.size, i.bytes)) = some (some (.int .i64 0), 1, 8) := by kernel_rfl
def intsV (l : List Nat) : List Value := l.map fun n => .int .i64 ((n : Nat) : Int)
def TyRel (R : Option (List Nat)) (last : Int) (l : List Nat) (x : ByteArray) : Prop := ∃ n, x.size < n ∧ R = (tyGo n last x).map (l ++ ·)
theorem tyRel_first (s : ByteArray) : TyRel (typesR s) (-1) [] s := by
 refine ⟨s.size + 1, by omega, ?_⟩
 unfold typesR
 cases tyGo (s.size + 1) (-1) s <;> rfl
theorem tyRel_end {R : Option (List Nat)} {last : Int} {l : List Nat} {x : ByteArray} (h : TyRel R last l x) (h0 : x.size = 0) : R = some l := by
 obtain ⟨n, hn, hR⟩ := h
 obtain ⟨n, rfl⟩ : ∃ j, n = j + 1 := ⟨n - 1, by omega⟩
 rw [tyGo, dif_neg (by omega)] at hR
 simpa using hR
theorem tyRel_none {R : Option (List Nat)} {last : Int} {l : List Nat} {x : ByteArray} (h : TyRel R last l x) (h0 : 0 < x.size) (hc : cntK (x.extract 1 x.size) = none) : R = none := by
 obtain ⟨n, hn, hR⟩ := h
 obtain ⟨n, rfl⟩ : ∃ j, n = j + 1 := ⟨n - 1, by omega⟩
 rw [tyGo, dif_pos h0, hc] at hR
 exact hR
theorem tyRel_bad {R : Option (List Nat)} {last : Int} {l : List Nat} {x : ByteArray} {m : Nat} (h : TyRel R last l x) (h0 : 0 < x.size) (hc : cntK (x.extract 1 x.size) = some m) (hb : ¬ (last < (x[0].toNat : Int) ∧ m ≤ 33 ∧ lastOk (x.extract 2 (m + 1)).data.toList = true)) : R = none := by
 obtain ⟨n, hn, hR⟩ := h
 obtain ⟨n, rfl⟩ : ∃ j, n = j + 1 := ⟨n - 1, by omega⟩
 rw [tyGo, dif_pos h0, hc] at hR
 simp only [if_neg hb] at hR
 exact hR
theorem tyRel_step {R : Option (List Nat)} {last : Int} {l : List Nat} {x : ByteArray} {m : Nat} (h : TyRel R last l x) (h0 : 0 < x.size) (hc : cntK (x.extract 1 x.size) = some m) (hb : last < (x[0].toNat : Int) ∧ m ≤ 33 ∧ lastOk (x.extract 2 (m + 1)).data.toList = true) :
  TyRel R (x[0].toNat : Int) (l ++ bitsL x[0].toNat (x.extract 2 (m + 1)).data.toList (8 * (m - 1))) (x.extract (m + 1) x.size) := by
 obtain ⟨n, hn, hR⟩ := h
 obtain ⟨n, rfl⟩ : ∃ j, n = j + 1 := ⟨n - 1, by omega⟩
 rw [tyGo, dif_pos h0, hc] at hR
 simp only [if_pos hb, Option.map_map] at hR
 refine ⟨n, by rw [ByteArray.size_extract]; omega, ?_⟩
 rw [hR]
 congr 1
 funext r
 simp
theorem bitsL_zero (w : Nat) (b : List UInt8) : bitsL w b 0 = [] := rfl
theorem bitsL_succ (w : Nat) (b : List UInt8) (n : Nat) : bitsL w b (n + 1) = bitsL w b n ++ (if bitAt b n then [w * 256 + n] else []) := by
 unfold bitsL
 rw [List.range_succ, List.filter_append, List.map_append]
 congr 1
 cases h : bitAt b n <;> simp [h]
theorem bitsL_len (w : Nat) (b : List UInt8) (n : Nat) : (bitsL w b n).length ≤ n := by
 unfold bitsL
 rw [List.length_map]
 refine Nat.le_trans (List.length_filter_le _ _) ?_
 simp
theorem last_at (b : ByteArray) (h : 0 < b.size) : lastOk b.data.toList = (b[b.size - 1] != 0) := by
 have e : b.data.toList.getLast? = some b[b.size - 1] := by
  rw [List.getLast?_eq_getElem?, size_list, List.getElem?_eq_getElem (by rw [size_list]; omega)]
  rfl
 rw [lastOk, e]
theorem bit_at (b : ByteArray) (n : Nat) (h : n / 8 < b.size) : bitAt b.data.toList n = (b[n / 8].toNat / 2 ^ (7 - n % 8) % 2 == 1) := by
 have e : b.data.toList.getD (n / 8) 0 = b[n / 8] := by
  rw [List.getD_eq_getElem?_getD, List.getElem?_eq_getElem (by rw [size_list]; exact h)]
  rfl
 rw [bitAt, e]
theorem and1_u8 (a : Nat) (ha : a < 256) : Go.bits BinOp.and IntKind.u8 (a : Int) 1 = ((a % 2 : Nat) : Int) := by
 have h1 : (BitVec.ofInt 8 (a : Int)).toNat = a := by
  rw [BitVec.ofInt_natCast, BitVec.toNat_ofNat]; exact Nat.mod_eq_of_lt (by omega)
 show IntKind.u8.wrap ((BitVec.ofInt 8 (a : Int) &&& BitVec.ofInt 8 (1 : Int)).toNat : Int) = _
 rw [BitVec.toNat_and, h1, show (BitVec.ofInt 8 (1 : Int)).toNat = 1 from rfl, Nat.and_one_is_mod, IntKind.wrap_u8]
 omega
theorem bit_walk (b : ByteArray) (n : Nat) (h : n / 8 < b.size) : (Go.bits BinOp.and IntKind.u8 ((b[n / 8].toNat : Int) / 2 ^ (7 - n % 8)) 1 == 1) = bitAt b.data.toList n := by
 have hu := b[n / 8].toNat_lt
 have e : ((b[n / 8].toNat : Int) / 2 ^ (7 - n % 8)) = ((b[n / 8].toNat / 2 ^ (7 - n % 8) : Nat) : Int) := by push_cast; rfl
 have hq : b[n / 8].toNat / 2 ^ (7 - n % 8) < 256 := Nat.lt_of_le_of_lt (Nat.div_le_self _ _) (by omega)
 rw [bit_at b n h, e, and1_u8 _ hq, Bool.eq_iff_iff, beq_iff_eq, beq_iff_eq]
 omega
def TyPost (R : Option (List Nat)) (W : World) (e : Ending) (w' : World) : Prop := (match R with
 | some l => ∃ v, e = .returned v ∧ w'.ownsRow W.heap.size 3 1 v l.length (intsV l)
 | none => e = .panicked mustV) ∧ Below W.heap.size W w'
theorem cut_two (x : ByteArray) (m : Nat) (hm : m ≤ x.size - 1) (h0 : 0 < x.size) : (x.extract 1 x.size).extract 1 m = x.extract 2 (m + 1) ∧ (x.extract 1 x.size).extract m (x.extract 1 x.size).size = x.extract (m + 1) x.size := by
 constructor
 ·rw [ByteArray.extract_extract]
  congr 1
  omega
 ·rw [ByteArray.size_extract, ByteArray.extract_extract]
  congr 1 <;> omega
set_option maxRecDepth 100000 in
set_option maxHeartbeats 4000000 in
theorem typesOf_in (W : World) (s : ByteArray) (hs : s.size ≤ 2000) :
  Calls Tryz.prog 234 #[.string s] W fun e w' => TyPost (typesR s) W e w' := by
 obtain ⟨i0, hi, hz0, hz1, hz2⟩ := info_parts info3
 have HF := Hid.mk (tyRel_first s)
 obtain ⟨R, hR⟩ : ∃ R, typesR s = R := ⟨_, rfl⟩
 rw [hR] at HF ⊢
 clear hR
 go_enter Tryz.func234, Tryz.ntmps234
 go_wp2
 go_loopw [4, 5] (fun lv tv wr => ∃ (l : List Nat) (last : Int) (x : ByteArray), tv = .int .i64 last ∧ -1 ≤ last ∧ last ≤ 255 ∧ wr.ownsRow (W.heap.size + 1) 3 1 lv l.length (intsV l) ∧ l.length + 8 * x.size ≤ 16000 ∧ Rd wr W.heap.size x ∧ x.size ≤ 2000 ∧ Hid (TyRel R last l x) ∧ Below W.heap.size W wr ∧ W.heap.size + 1 ≤ wr.heap.size) (fun _ _ wr => rdLen wr W.heap.size)
 case atStart => exact ⟨[], -1, s, rfl, by omega, by omega, World.ownsRow_nil .., by simp; omega, heap_new _ _, hs, HF, (Below.refl _ _).alloc (Nat.le_refl _) _, by simp⟩
 case round =>
  obtain ⟨l, last, x, rfl, hl1, hl2, hrow, hll, hrd, hx, HX, hbl, hsz⟩ := hrel
  have HLn := Hid.mk hrd.len
  have hcl := hrd.cell
  by_cases h0 : 0 < x.size
  ·obtain ⟨hn1, hn2⟩ := ne_text x h0
   have hn3 := ne_bne x h0
   have T1 := Hid.mk (take_yes wr W.heap.size 1 x (by unfold maxLen; omega) hrd (by omega))
   have HN := Hid.mk (number_one x h0)
   have hr1 := hrd.set (x.extract 1 x.size)
   have hk1 := Kept.set W.heap.size 0 wr (.string (x.extract 1 x.size))
   have hxz : (x.extract 1 x.size).size = x.size - 1 := by rw [ByteArray.size_extract]; omega
   have HC := Hid.mk (counted_post _ W.heap.size (x.extract 1 x.size) (by omega) hr1)
   have hb0 := x[0].toNat_lt
   cases hcn : cntK (x.extract 1 x.size) with
   | none =>
    rw [hcn] at HC
    have HRn := Hid.mk (tyRel_none HX.out h0 hcn)
    clear hcn
    go_wp2_with fail
    refine T1.out.mono ?_
    rintro e w1 ⟨rfl, rfl⟩
    go_wp2_with fail
    refine (HN.out _).mono ?_
    rintro e w2 ⟨rfl, rfl⟩
    go_wp2_with fail
    refine HC.out.mono ?_
    rintro e w3 ⟨rfl, hk3⟩
    go_wp2
    rw [HRn.out]
    refine ⟨rfl, rfl, hbl.trans ((hk1.trans hk3).below (Nat.le_refl _) (by omega))⟩
   | some m =>
    rw [hcn] at HC
    obtain ⟨hm1, hm⟩ := cntK_le hcn
    rw [hxz] at hm
    have he12 := cut_two x m hm h0
    have HC2 : Hid (Calls Tryz.prog 238 #[boxV W.heap.size] (wr.setCell ⟨W.heap.size, 0, none⟩ (.string (x.extract 1 x.size))) fun e w' => e = .returned (.string (x.extract 2 (m + 1))) ∧ Rd w' W.heap.size (x.extract (m + 1) x.size) ∧ Kept W.heap.size wr w') := by
     refine HC.out.mono ?_
     rintro e w' ⟨_, _, _, he, hr, hk⟩
     rw [he12.1] at he
     rw [he12.2] at hr
     exact ⟨he, hr, hk1.trans hk⟩
    have hbz : (x.extract 2 (m + 1)).size = m - 1 := by rw [ByteArray.size_extract]; omega
    have hxr : (x.extract (m + 1) x.size).size = x.size - (m + 1) := by rw [ByteArray.size_extract]; omega
    have HST := Hid.mk (tyRel_step HX.out h0 hcn)
    have HBD := Hid.mk (tyRel_bad HX.out h0 hcn)
    clear HC hr1 hk1 he12 hcn hxz
    generalize x.extract 2 (m + 1) = bits at HC2 hbz HST HBD
    generalize x.extract (m + 1) x.size = rest at HC2 hxr HST
    generalize x.extract 1 x.size = x1 at T1 HC2
    generalize x[0].toNat = wn at HN HST HBD hb0
    go_wp2_with fail
    refine T1.out.mono ?_
    rintro e w1 ⟨rfl, rfl⟩
    go_wp2_with fail
    refine (HN.out _).mono ?_
    rintro e w2 ⟨rfl, rfl⟩
    go_wp2_with fail
    refine HC2.out.mono ?_
    rintro e w3 ⟨rfl, hr3, hk3⟩
    have hbl3 : Below W.heap.size W w3 := hbl.trans (hk3.below (Nat.le_refl _) (by omega))
    have hsz3 : W.heap.size + 1 ≤ w3.heap.size := Nat.le_trans hsz hk3.size
    have hrow3 := row_kept' hrow hk3 (by omega)
    have HLN3 : Hid (rdLen w3 W.heap.size = rest.size) := hr3.len
    clear T1 HN HC2 hrow hrd hbl hk3 hcl
    have HBZ := Hid.mk hbz
    have HXR := Hid.mk hxr
    have hbb : bits.size ≤ 2000 := by omega
    have hrb : rest.size ≤ 2000 := by omega
    clear hbz hxr
    by_cases c1 : last < (wn : Int)
    ·by_cases c2 : 0 < bits.size
     ·obtain ⟨hm1b, hm2b⟩ := ne_text bits c2
      have hm3b := ne_bne bits c2
      have hwb : IntKind.i64.wrap ((bits.size : Int) - 1) = ((bits.size - 1 : Nat) : Int) := by rw [IntKind.wrap_i64]; omega
      have hib : bits.size - 1 < bits.size := by omega
      by_cases c3 : bits.size ≤ 32
      ·have hla := last_at bits c2
       by_cases c4 : bits[bits.size - 1].toNat = 0
       ·have hne : ((bits[bits.size - 1].toNat : Int) != 0) = false := by rw [c4]; rfl
        have HRN : Hid (R = none) := by
         refine HBD.out ?_
         rintro ⟨_, _, h3⟩
         rw [hla, bne_iff_ne] at h3
         exact h3 (UInt8.toNat_inj.1 c4)
        clear HST HBD hla c4
        go_wp2_with fail
        refine (must_no _).mono ?_
        rintro e w4 ⟨rfl, rfl⟩
        go_wp2
        rw [HRN.out]
        exact ⟨rfl, rfl, hbl3⟩
       ·have hne : ((bits[bits.size - 1].toNat : Int) != 0) = true := by rw [bne_iff_ne]; omega
        have hcond : last < (wn : Int) ∧ m ≤ 33 ∧ lastOk bits.data.toList = true := by
         refine ⟨c1, by have := HBZ.out; omega, ?_⟩
         rw [hla, bne_iff_ne]
         intro e
         rw [e] at c4
         exact c4 rfl
        have HST2 := Hid.mk (HST.out hcond)
        have hw8 : IntKind.i64.wrap (8 * (bits.size : Int)) = ((8 * bits.size : Nat) : Int) := by rw [IntKind.wrap_i64]; omega
        clear HST HBD hla hcond c4
        go_wp2_with fail
        refine (must_yes _).mono ?_
        rintro e w4 ⟨rfl, rfl⟩
        go_wp2
        go_loopw [4, 47] (fun lv iv wr2 => ∃ n : Nat, n ≤ 8 * bits.size ∧ iv = .int .i64 n ∧ wr2.ownsRow (W.heap.size + 1) 3 1 lv (l ++ bitsL wn bits.data.toList n).length (intsV (l ++ bitsL wn bits.data.toList n)) ∧ Below (W.heap.size + 1) w4 wr2 ∧ W.heap.size + 1 ≤ wr2.heap.size) (fun _ iv _ => 8 * bits.size - (intOf iv).toNat)
        case atStart => exact ⟨0, by omega, rfl, by rw [bitsL_zero, List.append_nil]; exact hrow3, Below.refl _ _, hsz3⟩
        case round =>
         obtain ⟨n, hn, rfl, hrw, hbl4, hsz4⟩ := hrel
         by_cases hlt : n < 8 * bits.size
         ·have hidx : n / 8 < bits.size := by omega
          have hbw := bit_walk bits n hidx
          have hor := or_low wn n (by omega) (by omega)
          have hlb := bitsL_len wn bits.data.toList n
          have hLL : (l ++ bitsL wn bits.data.toList n).length ≤ 17000 := by rw [List.length_append]; omega
          have HNX := Hid.mk (bitsL_succ wn bits.data.toList n)
          cases hbt : bitAt bits.data.toList n with
          | true =>
           rw [hbt] at hbw HNX
           have HNL : Hid (l ++ bitsL wn bits.data.toList (n + 1) = (l ++ bitsL wn bits.data.toList n) ++ [wn * 256 + n]) := by
            rw [Hid, HNX.out, List.append_assoc]; rfl
           clear hbt HNX hlb
           generalize l ++ bitsL wn bits.data.toList n = L at hrw hLL HNL
           go_wp2_with (at_builtin; refine wpList_append_own _ rfl _ _ 220 rfl (W.heap.size + 1) 3 i0 (.int .i64 0) 1 8 Tryz.underlying220 hi hz0 hz1 hz2 rfl (by decide) _ _ _ rfl (hrw.alloc _) ⟨wr.heap.size, 0, none⟩ 1 1 [.int .i64 ((wn * 256 + n : Nat) : Int)] rfl rfl (cell_one_new _ _ _) (by simp [Value.oneCell']) (by unfold maxLen; omega) (by omega) (by simp; omega) ?_; intro v1 w5 hown5 hgrow5 _)
           have hb5 : Below (W.heap.size + 1) w4 w5 := (hbl4.alloc hsz4 _).grown hgrow5 (by simp; omega) (rowBaseB hrw)
           have hs5 : W.heap.size + 1 ≤ w5.heap.size := Nat.le_trans hsz3 hb5.size
           go_roundw
           case rel =>
            refine ⟨n + 1, by omega, by go_num, ?_, hb5, hs5⟩
            rw [HNL.out, List.length_append, intsV, List.map_append]; exact hown5
           case measure => simp [intOf]; omega
          | false =>
           rw [hbt] at hbw HNX
           have HNL : Hid (l ++ bitsL wn bits.data.toList (n + 1) = l ++ bitsL wn bits.data.toList n) := by
            rw [Hid, HNX.out]; simp
           clear hbt HNX hlb
           generalize l ++ bitsL wn bits.data.toList n = L at hrw hLL HNL
           go_wp2
           exact ⟨⟨n + 1, by omega, by go_num, by rw [HNL.out]; exact hrw, hbl4, hsz4⟩, by simp [intOf]; omega⟩
         ·obtain rfl : n = 8 * bits.size := by omega
          have hlb := bitsL_len wn bits.data.toList (8 * bits.size)
          have hr5 : Rd wr W.heap.size rest := (hbl4.block _ (by omega)).trans hr3
          have HL5 := Hid.mk hr5.len
          have hbl5 : Below W.heap.size W wr := hbl3.trans (hbl4.mono (by omega))
          have hlen5 : (l ++ bitsL wn bits.data.toList (8 * bits.size)).length + 8 * rest.size ≤ 16000 := by
           have := HBZ.out
           have := HXR.out
           rw [List.length_append]; omega
          have HT5 : Hid (TyRel R (wn : Int) (l ++ bitsL wn bits.data.toList (8 * bits.size)) rest) := by
           rw [Hid, HBZ.out]; exact HST2.out
          have HM5 : Hid (rest.size < x.size) := by have := HXR.out; rw [Hid]; omega
          clear hlb HST2 hr3 hrow3 hne hwb hw8 HBZ HXR
          generalize l ++ bitsL wn bits.data.toList (8 * bits.size) = L at hrw hlen5 HT5
          go_wp2
          refine ⟨⟨L, wn, rest, rfl, by omega, by omega, hrw, hlen5, hr5, hrb, HT5, hbl5, hsz4⟩, ?_⟩
          rw [HL5.out, HLn.out]; exact HM5.out
      ·have HRN : Hid (R = none) := HBD.out (fun h => by have := HBZ.out; omega)
       clear HST HBD
       go_wp2_with fail
       refine (must_no _).mono ?_
       rintro e w4 ⟨rfl, rfl⟩
       go_wp2
       rw [HRN.out]
       exact ⟨rfl, rfl, hbl3⟩
     ·obtain rfl := ba_empty bits (by omega)
      have HRN : Hid (R = none) := HBD.out (fun h => by have := h.2.2; cases this)
      clear HST HBD
      go_wp2_with fail
      refine (must_no _).mono ?_
      rintro e w4 ⟨rfl, rfl⟩
      go_wp2
      rw [HRN.out]
      exact ⟨rfl, rfl, hbl3⟩
    ·have HRN : Hid (R = none) := HBD.out (fun h => c1 h.1)
     clear HST HBD
     go_wp2_with fail
     refine (must_no _).mono ?_
     rintro e w4 ⟨rfl, rfl⟩
     go_wp2
     rw [HRN.out]
     exact ⟨rfl, rfl, hbl3⟩
  ·obtain rfl := ba_empty x (by omega)
   have HRE := Hid.mk (tyRel_end HX.out rfl)
   obtain ⟨q, c, hv⟩ := row_as hrow
   subst hv
   go_wp2
   go_ret
   rw [HRE.out]
   exact ⟨⟨_, rfl, row_down hrow (by omega)⟩, hbl⟩
end Go.Proofs.YtikjepodmdaknaaGreatDoor
/- A string of TXT, how it is told. -/
namespace Go.Proofs.YtikjepodmdaknaaGreatDoor
open Go.RowKit
end Go.Proofs.YtikjepodmdaknaaGreatDoor
/- Strings of TXT, how they are told. -/
namespace Go.Proofs.YtikjepodmdaknaaGreatDoor
open Go.RowKit
end Go.Proofs.YtikjepodmdaknaaGreatDoor
