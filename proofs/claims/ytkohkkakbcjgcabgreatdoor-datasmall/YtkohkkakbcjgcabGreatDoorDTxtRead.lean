/- TXT: how its strings are read, where they are told well. -/
import Derived.Test.YtkohkkakbcjgcabGreatDoorDConv
namespace Go.Proofs.YtkohkkakbcjgcabGreatDoor
set_option linter.unusedVariables false
open Go.RowKit

theorem bytes_below (w : World) (t : ByteArray) : Below w.heap.size w (Lib.bytesWorld w 5 t) :=
  ⟨rfl, rfl, rfl, by rw [Lib.bytesWorld_size]; omega, fun k hk => Lib.bytesWorld_at_old w 5 t k hk⟩
/-- a text behind the byte that is its number of bytes. -/
def cntd (s : List UInt8) : List UInt8 := UInt8.ofNat s.length :: s

theorem countedF_in (s : List UInt8) (hs : s.length ≤ 255) (w : World) :
    Calls Tryz.prog 45 #[.string ⟨s.toArray⟩] w fun e w' => e = .returned (.string ⟨(cntd s).toArray⟩) ∧ Below w.heap.size w w' := by
  have hz : (⟨s.toArray⟩ : ByteArray).size = s.length := ba_size ..
  have HB := Hid.mk (bytesOf1_in s.length (by omega))
  have hadd : (⟨#[UInt8.ofNat s.length]⟩ : ByteArray) ++ ⟨s.toArray⟩ = ⟨(cntd s).toArray⟩ := by
    apply ba_ext
    simp [cntd]
  have hsz1 : (⟨#[UInt8.ofNat s.length]⟩ : ByteArray).size = 1 := rfl
  have HA := Hid.mk hadd
  clear hadd
  go_enter Tryz.func45, Tryz.ntmps45
  go_wp2_with fail
  refine (HB.out _).mono ?_
  rintro e w1 ⟨rfl, hb1⟩
  go_wp2
  go_ret
  exact ⟨by rw [← HA.out]; rfl, hb1⟩

/-- so many strings more are told, with a blank ahead of each; the bytes of them all. -/
inductive RsM : List UInt8 → List UInt8 → Prop
  | nil : RsM [] []
  | cons (l s t p : List UInt8) (h : rsGo (l.length + 1) [] l = some (s, t)) (hs : s.length ≤ 255) (m : RsM t p) : RsM (32 :: 34 :: l) (cntd s ++ p)

theorem rs_len : ∀ (n : Nat) (acc l : List UInt8) (r : List UInt8 × List UInt8), rsGo n acc l = some r → r.1.length + r.2.length < acc.length + l.length := by
  intro n
  induction n with
  | zero => intro acc l r h; cases h
  | succ n ih =>
    intro acc l r h
    cases l with
    | nil => cases h
    | cons c t =>
      by_cases h34 : c = 34
      · subst h34
        rw [rs_34] at h
        cases h
        simp
      · by_cases h92 : c = 92
        · subst h92
          cases t with
          | nil => cases h
          | cons e t =>
            rw [rs_92] at h
            split at h
            · have := ih _ _ _ h
              simp at this ⊢
              omega
            · cases h
        · rw [rs_else n acc t c h34 h92] at h
          have := ih _ _ _ h
          simp at this ⊢
          omega
theorem rsM_len {l p : List UInt8} (h : RsM l p) : p.length ≤ l.length := by
  induction h with
  | nil => simp
  | cons l s t p h hs m ih =>
    have := rs_len _ _ _ _ h
    simp [cntd] at this ⊢
    omega

set_option maxRecDepth 100000 in
set_option maxHeartbeats 1000000 in
theorem readStrings_in (W : World) (d : Nat) (l s t p : List UInt8) (hl : l.length ≤ 1000) (h : Rd W d ⟨(34 :: l).toArray⟩) (h1 : rsGo (l.length + 1) [] l = some (s, t)) (hs : s.length ≤ 255) (hm : RsM t p) :
    Calls Tryz.prog 98 #[boxV d] W fun e w' => e = .returned (.string ⟨(cntd s ++ p).toArray⟩) ∧ Rd w' d ⟨#[]⟩ ∧ Kept d W w' := by
  obtain ⟨i0, hi, hz0, hz1, hz2⟩ := info_parts info5
  have HR := Hid.mk (readString_in W d l hl h (s, t) h1)
  have hst := rs_len _ _ _ _ h1
  simp only [List.length_nil, Nat.zero_add] at hst
  have HC := Hid.mk (countedF_in s hs)
  have hcs : (⟨(cntd s).toArray⟩ : ByteArray).size = s.length + 1 := by rw [ba_size]; simp [cntd]
  have HM := Hid.mk hm
  have hcv := fun W : World => Lib.run_convert_string_bytes (P := Tryz.prog) W 9 100 5 ⟨(cntd s).toArray⟩ Tryz.underlying9 Tryz.underlying100 Tryz.underlying5
  clear hm h1
  go_enter Tryz.func98, Tryz.ntmps98
  go_wp2_with fail
  refine HR.out.mono ?_
  rintro e w1 ⟨rfl, hr1, hk1⟩
  go_wp2_with fail
  refine (HC.out _).mono ?_
  rintro e w2 ⟨rfl, hb2⟩
  have hconv := OwnsC.conv w2 ⟨(cntd s).toArray⟩ (by rw [hcs]; unfold maxLen; omega)
  have hbw := bytes_below w2 ⟨(cntd s).toArray⟩
  have hrw := (hr1.below hb2).below hbw
  have hkw : Kept d W (Lib.bytesWorld w2 5 ⟨(cntd s).toArray⟩) := (hk1.trans (Kept.of_below hb2)).trans (Kept.of_below hbw)
  have hdn := (hr1.below hb2).lt
  have hWn := (hk1.trans (Kept.of_below (d := d) hb2)).size
  go_wp2
  clear hcv HR HC
  go_loopw [3] (fun v wr => ∃ (xs tt pp : List UInt8), xs.length + tt.length ≤ 2000 ∧ tt.length ≤ 1000 ∧ Rd wr d ⟨tt.toArray⟩ ∧ OwnsC wr w2.heap.size v xs ∧ Hid (RsM tt pp) ∧ Hid (xs ++ pp = cntd s ++ p) ∧ w2.heap.size ≤ wr.heap.size ∧ Kept d W wr) (fun _ wr => rdLen wr d)
  case atStart => exact ⟨cntd s, t, p, by simp [cntd]; omega, by omega, hrw, hconv, HM, rfl, hbw.size, hkw⟩
  case round =>
    obtain ⟨xs, tt, pp, hxt, htt, hrd, hrow, HM2, HX, hsz, hkp⟩ := hrel
    have HLn := Hid.mk hrd.len
    cases HM2.out with
    | nil =>
      have hcl := hrd.cell
      have hbk := hrow.back
      go_wp2
      go_ret
      refine ⟨?_, hrd, hkp⟩
      have := HX.out
      simp at this
      rw [← this]
      rfl
    | cons l2 s2 t2 p2 h2 hs2 m2 =>
      have hst2 := rs_len _ _ _ _ h2
      simp only [List.length_nil, Nat.zero_add] at hst2
      simp only [List.length_cons] at hxt htt
      have HT := Hid.mk (take1_in wr d 32 (34 :: l2) (by simp; omega) hrd)
      have HC2 := Hid.mk (countedF_in s2 hs2)
      have hcs2 : (⟨(cntd s2).toArray⟩ : ByteArray).size = s2.length + 1 := by rw [ba_size]; simp [cntd]
      have HR2 : Hid (∀ w3, Rd w3 d ⟨(34 :: l2).toArray⟩ → Calls Tryz.prog 139 #[boxV d] w3 fun e w' => e = .returned (.string ⟨s2.toArray⟩) ∧ Rd w' d ⟨t2.toArray⟩ ∧ Kept d w3 w') := fun w3 h3 => readString_in w3 d l2 (by omega) h3 (s2, t2) h2
      have HMT := Hid.mk m2
      have hcl := hrd.cell
      have HROW : Hid (∀ w3, Kept d wr w3 → OwnsC w3 w2.heap.size _ xs) := fun w3 hk3 => hrow.kept hk3 hdn
      obtain ⟨g, cap, cur, fz, rfl, _⟩ := hrow
      have hne : ((⟨(32 :: 34 :: l2).toArray⟩ : ByteArray).toList == []) = false := by
        rw [beq_eq_false_iff_ne, ByteArray.toList_eq]; simp
      have hne2 : (!(⟨(32 :: 34 :: l2).toArray⟩ : ByteArray).toList.isEmpty) = true := by
        rw [ByteArray.toList_eq]; rfl
      clear h2 m2
      go_wp2_with fail
      refine HT.out.mono ?_
      rintro e w3 ⟨rfl, hr3, hk3⟩
      go_wp2_with fail
      refine (must_yes _).mono ?_
      rintro e w4 ⟨rfl, rfl⟩
      go_wp2_with fail
      refine (HR2.out _ hr3).mono ?_
      rintro e w5 ⟨rfl, hr5, hk5⟩
      go_wp2_with fail
      refine (HC2.out _).mono ?_
      rintro e w6 ⟨rfl, hb6⟩
      have hk6 : Kept d wr w6 := (hk3.trans hk5).trans (Kept.of_below hb6)
      have hrow6 := HROW.out w6 hk6
      have hsz6 : w2.heap.size ≤ w6.heap.size := Nat.le_trans hsz hk6.size
      clear HROW
      go_wp2_with (at_builtin; refine wpList_append_C _ rfl _ _ rfl i0 hi hz0 hz1 hz2 w2.heap.size _ xs rfl hrow6 ⟨(cntd s2).toArray⟩ rfl (by rw [hcs2]; omega) hsz6 ?_; intro v1 w7 hown7 hgrow7)
      have hb7 : Below w2.heap.size w6 w7 := (Below.refl _ _).grown hgrow7 hsz6 hrow6.lt
      have hrd7 := (hr5.below hb6).belowTo hb7 hdn
      have HLT : Hid (rdLen w7 d < rdLen wr d) := by
        rw [Hid, HLn.out, hrd7.len, ba_size, ba_size]; simp; omega
      have hrelN : ∃ (xs tt pp : List UInt8), xs.length + tt.length ≤ 2000 ∧ tt.length ≤ 1000 ∧ Rd w7 d ⟨tt.toArray⟩ ∧ OwnsC w7 w2.heap.size v1 xs ∧ Hid (RsM tt pp) ∧ Hid (xs ++ pp = cntd s ++ p) ∧ w2.heap.size ≤ w7.heap.size ∧ Kept d W w7 :=
        ⟨xs ++ cntd s2, t2, p2, by simp [cntd]; omega, by omega, hrd7, hown7, HMT, by rw [Hid, List.append_assoc]; exact HX.out, Nat.le_trans hsz6 hb7.size, (hkp.trans hk6).belowTo hb7 hWn⟩
      go_wp2
      go_roundw
      case rel => exact hrelN
      case measure => exact HLT.out
end Go.Proofs.YtkohkkakbcjgcabGreatDoor
