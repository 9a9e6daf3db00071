/- Texts of this proof, joined: DExA, DTxtForm, DExam, DExamples, DTypesW. -/
import Derived.Test.YtndlplebodcmjaaGreatDoorJ6
import Derived.Test.YtndlplebodcmjaaGreatDoorJ7
import Derived.Test.YtndlplebodcmjaaGreatDoorJ5
/- The chapter's two readings of A. -/
namespace Go.Proofs.YtndlplebodcmjaaGreatDoor
set_option linter.unusedVariables false
open Go.RowKit

def dmOf (t : ByteArray) : Nat → ByteArray → Prop := fun k s => k = 0 → s = t
def rfOf (t x : ByteArray) : Nat → ByteArray → Option (ByteArray × ByteArray) := fun _ _ => some (x, restB t)

theorem jn_one (x : ByteArray) : jn [x] = x := by
  apply ba_ext
  show Lib.join [x.data.toList] [] = x.data.toList
  exact Lib.join_one _ _

theorem readA_in (t : ByteArray) (ht : t.size ≤ 1000) (gs : List ByteArray) (ns : List Nat) (hlen : gs.length = ns.length) (h4 : ns.length = 4)
    (hok : ∀ j (h1 : j < gs.length) (h2 : j < ns.length), gs[j].size ≤ 1000 ∧ ns[j] < 256 ∧ Lib.parseIntB 64 gs[j].data.toList = .ok (ns[j] : Int))
    (hws : (wordB t).size ≤ 1000) (hrs : (restB t).size ≤ 1000) (hgs : Lib.splitB ⟨#[46]⟩ 0 (min 5 ((wordB t).size + 1) - 1) (wordB t) = gs) (W : World) (hG : Glob W) :
    Calls Tryz.prog 9 #[.int .i64 1, .string t] W fun e w' => e = .returned (if (⟨(aT ⟨(ns.map UInt8.ofNat).toArray⟩).toArray⟩ : ByteArray) = t then .tuple #[.string ⟨(ns.map UInt8.ofNat).toArray⟩, .int .i64 0] else .tuple #[.string ⟨#[]⟩, .int .i64 7]) ∧ Below W.heap.size W w' := by
  obtain ⟨x, hx⟩ : ∃ x : ByteArray, (⟨(ns.map UInt8.ofNat).toArray⟩ : ByteArray) = x := ⟨_, rfl⟩
  have hxz : x.size = 4 := by rw [← hx, ba_size, List.length_map, h4]
  have hU := understood_in W 1 (by omega) 1 t (by omega) (dmOf t) (fun _ => rfl) (rfOf t x) hG (fun k s q hq hs => by
      cases hq
      exact ⟨by show x.size ≤ _; omega, by show (restB t).size ≤ _; omega⟩) (fun k s q _ _ h => absurd h (by omega)) (fun w hGw => by
      refine (partsOf_A w).mono ?_
      rintro e w1 ⟨g, b, hg, hgb, rfl, hc, hbx, hb⟩
      refine ⟨g, fun _ => aPart b, rfl, hg, one_part hc, fun _ _ => enters_by Tryz.func69 (by kernel_rfl) rfl, ?_, hb⟩
      intro k hk W' d s' hkp hd hGK hr hs' hdm
      obtain rfl : k = 0 := by omega
      obtain rfl := hdm rfl
      have := grpRead_ok W' b d (by omega) (hbx.kept hkp (by omega)) s' hr ht hGK gs ns hlen (by omega) hok hws hgs
      rw [hx] at this
      exact this)
  have hrp : readP (rfOf t x) 1 0 t = some [x] := rfl
  rw [hrp] at hU
  have h := read_of (t := ⟨(aT x).toArray⟩) (by omega) hU (fun w hb => by
    rw [jn_one]
    exact told_A x hxz w (hG.below hb).pow)
  rw [jn_one] at h
  rw [hx]
  exact h
end Go.Proofs.YtndlplebodcmjaaGreatDoor

/- The form of TXT: split, told, read. -/
namespace Go.Proofs.YtndlplebodcmjaaGreatDoor
set_option linter.unusedVariables false
open Go.RowKit

abbrev txtP : Array Value := #[fnV 74 #[], fnV 75 #[], fnV 76 #[], .bool false]
theorem stringsPart_in (w : World) : Calls Tryz.prog 38 #[] w fun e w' => e = .returned (.agg txtP) ∧ Below w.heap.size w w' := by
  have hmf := mkf
  go_enter Tryz.func38, Tryz.ntmps38
  go_wp2
  exact bodyPost_ret (v := .agg txtP) (by simp [results, Tryz.results38, go_sem]) rfl ⟨rfl, by first | exact (Below.refl _ _).alloc (Nat.le_refl _) _ | exact Below.refl _ _⟩

set_option maxRecDepth 100000 in
theorem partsOf_T (w : World) : Calls Tryz.prog 26 #[.int .i64 16] w fun e w' => ∃ g, w.heap.size ≤ g ∧
    e = .returned (.slice (some ⟨g, 0, none⟩) 1 1) ∧ w'.heap[g]? = some (.cells txtP 58 (0, 0)) ∧ Below w.heap.size w w' := by
  have hmf := mkf
  go_enter Tryz.func26, Tryz.ntmps26
  go_wp2_with fail
  refine (numberPart_in _ _).mono ?_
  rintro e w1 ⟨rfl, ho1, hb1⟩
  go_wp2_with fail
  refine (numberPart_in _ _).mono ?_
  rintro e w2 ⟨rfl, ho2, hb2⟩
  go_wp2_with fail
  refine (numberPart_in _ _).mono ?_
  rintro e w3 ⟨rfl, ho3, hb3⟩
  clear ho1 ho2 ho3
  go_wp2_with fail
  refine (stringsPart_in _).mono ?_
  rintro e w4 ⟨rfl, hb4⟩
  have k3 : Below w.heap.size w w3 := bth (bth hb1 hb2 hb1.size) hb3 (Nat.le_trans hb1.size hb2.size)
  have s3 := k3.size
  have k6 : Below w.heap.size w w4 := (((k3.alloc s3 _).alloc (by simp; omega) _).alloc (by simp; omega) _).trans (hb4.mono (by simp; omega))
  clear hb1 hb2 hb3 hb4
  go_wp2
  go_ret
  exact ⟨w4.heap.size, k6.size, rfl, heap_new _ _, k6.alloc k6.size _⟩

def txtPart : Part := ⟨74, #[], 75, #[], 76, #[], false⟩
def txtForm : Form := { n := 1, pf := txtPf, tf := fun _ x => ⟨(txtT x).toArray⟩, ok := fun _ x => x.size ≤ 2000 ∧ moreOk (x.size + 1) x = true }

theorem form_T (w : World) : Calls Tryz.prog 26 #[.int .i64 16] w fun e w' => FormPost txtForm w e w' := by
  refine (partsOf_T w).mono ?_
  rintro e w1 ⟨g, hg, rfl, hc, hb⟩
  refine ⟨g, fun _ => txtPart, rfl, one_part hc, fun _ _ => enters_by Tryz.func74 (by kernel_rfl) rfl, ?_, hb, fun _ _ => enters_by Tryz.func75 (by kernel_rfl) rfl, ?_⟩
  · intro k _ W' d s' hb' _ hr hs
    exact passStrings_in W' d s' hs hr
  · intro k _ W' x hb' hx
    exact tellStrings_in x hx.1 hx.2 W'

theorem partsT (w : World) : Calls Tryz.prog 26 #[.int .i64 16] w fun e w' => PartsPost 1 txtPf w e w' := by
  refine (partsOf_T w).mono ?_
  rintro e w1 ⟨g, hg, rfl, hc, hb⟩
  refine ⟨g, fun _ => txtPart, rfl, one_part hc, fun _ _ => enters_by Tryz.func74 (by kernel_rfl) rfl, ?_, hb⟩
  intro k _ W' d s' hb' _ hr hs
  exact passStrings_in W' d s' hs hr

theorem fin_T (s : ByteArray) (h0 : 0 < s.size) (h : moreOk (s.size + 1) s = true) : fin txtPf 1 s = some [s] := by
  have e1 : s.extract 0 s.size = s := by simp
  simp [fin, cutP, txtPf, h0, h, e1]
theorem fin_T_no (s : ByteArray) (h : ¬ (0 < s.size ∧ moreOk (s.size + 1) s = true)) : fin txtPf 1 s = none := by
  have : txtPf 0 s = none := if_neg h
  simp only [fin, cutP, this]

theorem split_T (s : ByteArray) (hs : s.size ≤ 2000) (h0 : 0 < s.size) (h : moreOk (s.size + 1) s = true) (W : World) : Calls Tryz.prog 20 #[.int .i64 16, .string s] W fun e w' => SplitPost (some [s]) W e w' := by
  have := split_in W 1 (by omega) 16 (by omega) s hs txtPf (fun w => (partsT w).mono fun e w' h => h)
  rwa [fin_T s h0 h] at this
theorem split_T_no (s : ByteArray) (hs : s.size ≤ 2000) (h : ¬ (0 < s.size ∧ moreOk (s.size + 1) s = true)) (W : World) : Calls Tryz.prog 20 #[.int .i64 16, .string s] W fun e w' => SplitPost none W e w' := by
  have := split_in W 1 (by omega) 16 (by omega) s hs txtPf (fun w => (partsT w).mono fun e w' h => h)
  rwa [fin_T_no s h] at this

theorem told_T (s : ByteArray) (hs : s.size ≤ 2000) (h0 : 0 < s.size) (hm : moreOk (s.size + 1) s = true) (hl : (txtT s).length ≤ 100000) (hpos : (txtT s).length ≠ 0) (W : World) :
    Calls Tryz.prog 19 #[.int .i64 16, .string s] W fun e w' => e = .returned (.tuple #[.string ⟨(txtT s).toArray⟩, .bool true]) ∧ Below W.heap.size W w' := by
  have h := told_in txtForm (by decide) 16 s [s] rfl (fun j hj => by
      have : j = 0 := by simpa using hj
      subst this; exact ⟨hs, hm⟩) (fun j hj => by
      have : j = 0 := by simpa using hj
      subst this
      show (⟨(txtT s).toArray⟩ : ByteArray).size ≤ 100000
      rw [ba_size]; omega) W (split_T s hs h0 hm) (fun w hb => form_T w)
  have hw : words txtForm 0 [s] = [⟨(txtT s).toArray⟩] := by
    have : ¬ (⟨(txtT s).toArray⟩ : ByteArray).size = 0 := by rw [ba_size]; exact hpos
    simp only [words]
    exact if_neg this
  rw [hw] at h
  have hj : Lib.join ([(⟨(txtT s).toArray⟩ : ByteArray)].map (·.data.toList)) [32] = txtT s := Lib.join_one _ _
  rw [hj] at h
  exact h

/-- strings that are told well are read. -/
theorem readT_in (l s t p : List UInt8) (hl : l.length ≤ 900) (h1 : rsGo (l.length + 1) [] l = some (s, t)) (hs : s.length ≤ 255) (hm : RsM t p) (hok : moreOk ((⟨(cntd s ++ p).toArray⟩ : ByteArray).size + 1) ⟨(cntd s ++ p).toArray⟩ = true)
    (htl : (txtT ⟨(cntd s ++ p).toArray⟩).length ≤ 100000) (htp : (txtT ⟨(cntd s ++ p).toArray⟩).length ≠ 0) (W : World) (hG : Glob W) :
    Calls Tryz.prog 9 #[.int .i64 16, .string ⟨(34 :: l).toArray⟩] W fun e w' => e = .returned (if (⟨(txtT ⟨(cntd s ++ p).toArray⟩).toArray⟩ : ByteArray) = ⟨(34 :: l).toArray⟩ then .tuple #[.string ⟨(cntd s ++ p).toArray⟩, .int .i64 0] else .tuple #[.string ⟨#[]⟩, .int .i64 7]) ∧ Below W.heap.size W w' := by
  have hsl := rs_len _ _ _ _ h1
  simp only [List.length_nil, Nat.zero_add] at hsl
  have hpl := rsM_len hm
  have hz : (⟨(cntd s ++ p).toArray⟩ : ByteArray).size = s.length + 1 + p.length := by rw [ba_size]; simp [cntd]; omega
  obtain ⟨x, hx⟩ : ∃ x : ByteArray, (⟨(cntd s ++ p).toArray⟩ : ByteArray) = x := ⟨_, rfl⟩
  rw [hx] at hz hok htl htp ⊢
  have hU := understood_in W 1 (by omega) 16 ⟨(34 :: l).toArray⟩ (by rw [ba_size]; simp; omega) (dmOf ⟨(34 :: l).toArray⟩) (fun _ => rfl) (fun _ _ => some (x, ⟨#[]⟩)) hG (fun k s q hq hs => by
      cases hq
      exact ⟨by show x.size ≤ _; omega, by show (⟨#[]⟩ : ByteArray).size ≤ _; exact Nat.zero_le _⟩) (fun k s q _ _ h => absurd h (by omega)) (fun w hGw => by
      refine (partsOf_T w).mono ?_
      rintro e w1 ⟨g, hg, rfl, hc, hb⟩
      refine ⟨g, fun _ => txtPart, rfl, hg, one_part hc, fun _ _ => enters_by Tryz.func76 (by kernel_rfl) rfl, ?_, hb⟩
      intro k hk W' d s' hkp hd hGK hr hs' hdm
      obtain rfl : k = 0 := by omega
      obtain rfl := hdm rfl
      have := readStrings_in W' d l s t p (by omega) hr h1 hs hm
      rw [hx] at this
      exact this)
  have hrp : readP (fun _ _ => some (x, ⟨#[]⟩)) 1 0 (⟨(34 :: l).toArray⟩ : ByteArray) = some [x] := rfl
  rw [hrp] at hU
  have h := read_of (t := ⟨(txtT x).toArray⟩) (by omega) hU (fun w hb => by
    rw [jn_one]
    exact told_T x (by omega) (by omega) hok htl htp w)
  rw [jn_one] at h
  exact h
end Go.Proofs.YtndlplebodcmjaaGreatDoor

/- The chapter's examples, one by one. -/
namespace Go.Proofs.YtndlplebodcmjaaGreatDoor
set_option linter.unusedVariables false
open Go.RowKit

theorem word_all (s : List UInt8) (h : Lib.cut s [32] = (s, [], false)) : wordB ⟨s.toArray⟩ = ⟨s.toArray⟩ ∧ restB ⟨s.toArray⟩ = ⟨#[]⟩ := by
  unfold wordB restB
  simp only [h]
  exact ⟨trivial, trivial⟩

theorem dd0 : Lib.decDigits 0 = [48] := by rw [Lib.decDigits]; rfl
theorem dd1 : Lib.decDigits 1 = [49] := by rw [Lib.decDigits]; rfl
theorem dd2 : Lib.decDigits 2 = [50] := by rw [Lib.decDigits]; rfl
theorem dd7 : Lib.decDigits 7 = [55] := by rw [Lib.decDigits]; rfl
theorem dd19 : Lib.decDigits 19 = [49, 57] := by
  rw [Lib.decDigits, dif_neg (by omega), show 19 / 10 = 1 from rfl, dd1]; rfl
theorem dd192 : Lib.decDigits 192 = [49, 57, 50] := by
  rw [Lib.decDigits, dif_neg (by omega), show 192 / 10 = 19 from rfl, dd19]; rfl
theorem dd70 : Lib.decDigits 70 = [55, 48] := by
  rw [Lib.decDigits, dif_neg (by omega), show 70 / 10 = 7 from rfl, dd7]; rfl
theorem aT_ex : aT ⟨#[192, 0, 2, 1]⟩ = [49, 57, 50, 46, 48, 46, 50, 46, 49] := by
  have h : grpW (⟨#[192, 0, 2, 1]⟩ : ByteArray).data.toList = [⟨#[49, 57, 50]⟩, ⟨#[48]⟩, ⟨#[50]⟩, ⟨#[49]⟩] := by
    show [(⟨(Lib.decDigits 192).toArray⟩ : ByteArray), ⟨(Lib.decDigits 0).toArray⟩, ⟨(Lib.decDigits 2).toArray⟩, ⟨(Lib.decDigits 1).toArray⟩] = _
    rw [dd0, dd1, dd2, dd192]
  rw [aT, h]
  rfl

theorem ex_A1 (W : World) (hG : Glob W) : Calls Tryz.prog 9 #[.int .i64 1, .string ⟨#[49, 57, 50, 46, 48, 46, 50, 46, 49]⟩] W fun e w' => e = .returned (.tuple #[.string ⟨#[192, 0, 2, 1]⟩, .int .i64 0]) ∧ Below W.heap.size W w' := by
  have hw := word_all [49, 57, 50, 46, 48, 46, 50, 46, 49] (by rfl)
  have h := readA_in ⟨#[49, 57, 50, 46, 48, 46, 50, 46, 49]⟩ (by decide) [⟨#[49, 57, 50]⟩, ⟨#[48]⟩, ⟨#[50]⟩, ⟨#[49]⟩] [192, 0, 2, 1] rfl rfl (by
      intro j h1 h2
      match j, h1 with
      | 0, _ => exact ⟨Nat.le_of_ble_eq_true rfl, Nat.le_of_ble_eq_true rfl, by rfl⟩
      | 1, _ => exact ⟨Nat.le_of_ble_eq_true rfl, Nat.le_of_ble_eq_true rfl, by rfl⟩
      | 2, _ => exact ⟨Nat.le_of_ble_eq_true rfl, Nat.le_of_ble_eq_true rfl, by rfl⟩
      | 3, _ => exact ⟨Nat.le_of_ble_eq_true rfl, Nat.le_of_ble_eq_true rfl, by rfl⟩) (by rw [hw.1]; decide) (by rw [hw.2]; decide) (by rw [hw.1]; kernel_rfl) W hG
  have hv : (⟨([192, 0, 2, 1].map UInt8.ofNat).toArray⟩ : ByteArray) = ⟨#[192, 0, 2, 1]⟩ := rfl
  rw [hv, aT_ex] at h
  rw [if_pos rfl] at h
  exact h

theorem ex_A2 (W : World) (hG : Glob W) : Calls Tryz.prog 9 #[.int .i64 1, .string ⟨#[49, 57, 50, 46, 48, 46, 50, 46, 48, 49]⟩] W fun e w' => e = .returned (.tuple #[.string ⟨#[]⟩, .int .i64 7]) ∧ Below W.heap.size W w' := by
  have hw := word_all [49, 57, 50, 46, 48, 46, 50, 46, 48, 49] (by rfl)
  have h := readA_in ⟨#[49, 57, 50, 46, 48, 46, 50, 46, 48, 49]⟩ (by decide) [⟨#[49, 57, 50]⟩, ⟨#[48]⟩, ⟨#[50]⟩, ⟨#[48, 49]⟩] [192, 0, 2, 1] rfl rfl (by
      intro j h1 h2
      match j, h1 with
      | 0, _ => exact ⟨Nat.le_of_ble_eq_true rfl, Nat.le_of_ble_eq_true rfl, by rfl⟩
      | 1, _ => exact ⟨Nat.le_of_ble_eq_true rfl, Nat.le_of_ble_eq_true rfl, by rfl⟩
      | 2, _ => exact ⟨Nat.le_of_ble_eq_true rfl, Nat.le_of_ble_eq_true rfl, by rfl⟩
      | 3, _ => exact ⟨Nat.le_of_ble_eq_true rfl, Nat.le_of_ble_eq_true rfl, by rfl⟩) (by rw [hw.1]; decide) (by rw [hw.2]; decide) (by rw [hw.1]; kernel_rfl) W hG
  have hv : (⟨([192, 0, 2, 1].map UInt8.ofNat).toArray⟩ : ByteArray) = ⟨#[192, 0, 2, 1]⟩ := rfl
  rw [hv, aT_ex] at h
  rw [if_neg (by intro e; have := congrArg ByteArray.size e; revert this; decide)] at h
  exact h

theorem ex_T70 (W : World) (hG : Glob W) : Calls Tryz.prog 10 #[.int .i64 70, .string ⟨#[1]⟩] W fun e w' => e = .returned (.tuple #[.string ⟨#[92, 35, 32, 49, 32, 48, 49]⟩, .int .i64 0]) ∧ Below W.heap.size W w' := by
  have h := text_of (by omega) (told_other 70 (by omega) rfl ⟨#[1]⟩ (by decide) W hG.pow)
  have ha : anyT ⟨#[1]⟩ = [92, 35, 32, 49, 32, 48, 49] := by
    have : (⟨#[1]⟩ : ByteArray).size = 1 := rfl
    simp [anyT, this, Lib.decDigits, hexL, hexB, dig]
  rw [ha] at h
  exact h

theorem ex_Txt (W : World) (hG : Glob W) : Calls Tryz.prog 9 #[.int .i64 16, .string ⟨#[34, 97, 92, 34, 98, 34, 32, 34, 34]⟩] W fun e w' => e = .returned (.tuple #[.string ⟨#[3, 97, 34, 98, 0]⟩, .int .i64 0]) ∧ Below W.heap.size W w' := by
  have hm : RsM [32, 34, 34] [0] := RsM.cons [34] [] [] [] rfl (by decide) RsM.nil
  have ht : txtT ⟨(cntd [97, 34, 98] ++ [0]).toArray⟩ = [34, 97, 92, 34, 98, 34, 32, 34, 34] := by kernel_rfl
  have h := readT_in [97, 92, 34, 98, 34, 32, 34, 34] [97, 34, 98] [32, 34, 34] [0] (by decide) rfl (by decide) hm (by kernel_rfl) (by rw [ht]; decide) (by rw [ht]; decide) W hG
  rw [ht, if_pos rfl] at h
  exact h

theorem ex_Of70 (W : World) (hG : Glob W) : Calls Tryz.prog 7 #[.string ⟨#[84, 89, 80, 69, 55, 48]⟩] W fun e w' => e = .returned (.tuple #[.int .i64 70, .int .i64 0]) ∧ Below W.heap.size W w' := by
  have h := typeOf_num [84, 89, 80, 69, 55, 48] [55, 48] 70 (by omega) rfl (by decide) (by rfl) (by decide) W hG.types hG.pow
  have hn : numT 70 [84, 89, 80, 69, 55, 48] = (70, 0) := by
    unfold numT
    have : typeT 70 = [84, 89, 80, 69, 55, 48] := by
      have ho : own? ((70 : Nat) : Int) = none := by rfl
      rw [typeT, ho]
      simp only [dd70]
      rfl
    rw [this]; rfl
  rw [hn] at h
  exact h
theorem ex_Of1 (W : World) (hG : Glob W) : Calls Tryz.prog 7 #[.string ⟨#[84, 89, 80, 69, 49]⟩] W fun e w' => e = .returned (.tuple #[.int .i64 0, .int .i64 7]) ∧ Below W.heap.size W w' := by
  have h := typeOf_num [84, 89, 80, 69, 49] [49] 1 (by omega) rfl (by decide) (by rfl) (by decide) W hG.types hG.pow
  have hn : numT 1 [84, 89, 80, 69, 49] = (0, 7) := by
    unfold numT
    have : typeT 1 = [65] := by
      have ho : own? ((1 : Nat) : Int) = some [65] := by rfl
      rw [typeT, ho]
    rw [this]; rfl
  rw [hn] at h
  exact h

theorem ex_R1 (W : World) : Calls Tryz.prog 11 #[.int .i64 1, .string ⟨#[97, 98, 99]⟩] W fun e w' => e = .returned (.bool false) ∧ Below W.heap.size W w' :=
  right_of (R := none) (split_A_no ⟨#[97, 98, 99]⟩ (by decide) (by decide)) W
theorem ex_R2 (W : World) : Calls Tryz.prog 11 #[.int .i64 70000, .string ⟨#[]⟩] W fun e w' => e = .returned (.bool false) ∧ Below W.heap.size W w' :=
  right_of (R := none) (fun W => split_long W 70000 ⟨#[]⟩ (by decide) (.inl (by decide))) W
end Go.Proofs.YtndlplebodcmjaaGreatDoor

/- examples() holds. -/
namespace Go.Proofs.YtndlplebodcmjaaGreatDoor
set_option linter.unusedVariables false
open Go.RowKit

set_option maxRecDepth 100000 in
set_option maxHeartbeats 2000000 in
theorem examples_in (W : World) (hG : Glob W) : Calls Tryz.prog 4 #[] W fun e w' => e = .returned (.bool true) ∧ Below W.heap.size W w' := by
  go_enter Tryz.func4, Tryz.ntmps4
  go_wp2_with fail
  refine (ex_A1 W hG).mono ?_
  rintro e w1 ⟨rfl, hb1⟩
  have hG1 := hG.below hb1
  go_wp2_with fail
  refine (ex_A2 w1 hG1).mono ?_
  rintro e w2 ⟨rfl, hb2⟩
  have hG2 := hG1.below hb2
  have k2 : Below W.heap.size W w2 := bth hb1 hb2 hb1.size
  go_wp2_with fail
  refine (ex_T70 w2 hG2).mono ?_
  rintro e w3 ⟨rfl, hb3⟩
  have hG3 := hG2.below hb3
  have k3 : Below W.heap.size W w3 := bth k2 hb3 k2.size
  go_wp2_with fail
  refine (ex_Txt w3 hG3).mono ?_
  rintro e w4 ⟨rfl, hb4⟩
  have hG4 := hG3.below hb4
  have k4 : Below W.heap.size W w4 := bth k3 hb4 k3.size
  go_wp2_with fail
  refine (ex_Of70 w4 hG4).mono ?_
  rintro e w5 ⟨rfl, hb5⟩
  have hG5 := hG4.below hb5
  have k5 : Below W.heap.size W w5 := bth k4 hb5 k4.size
  go_wp2_with fail
  refine (ex_Of1 w5 hG5).mono ?_
  rintro e w6 ⟨rfl, hb6⟩
  have k6 : Below W.heap.size W w6 := bth k5 hb6 k5.size
  go_wp2_with fail
  refine (ex_R1 w6).mono ?_
  rintro e w7 ⟨rfl, hb7⟩
  have k7 : Below W.heap.size W w7 := bth k6 hb7 k6.size
  go_wp2_with fail
  refine (ex_R2 w7).mono ?_
  rintro e w8 ⟨rfl, hb8⟩
  have k8 : Below W.heap.size W w8 := bth k7 hb8 k7.size
  go_wp2
  go_ret
  exact ⟨rfl, k8⟩
end Go.Proofs.YtndlplebodcmjaaGreatDoor

/- DataTypes, the walk. -/
namespace Go.Proofs.YtndlplebodcmjaaGreatDoor
set_option linter.unusedVariables false
open Go.RowKit Go.Sort

set_option maxRecDepth 100000 in
set_option maxHeartbeats 8000000 in
theorem types_walk (k : Int) (hk : Lit.wf (.int .i64 k) = true) (text : ByteArray) (hs : text.size ≤ 140737488355328) (W : World) (hG : Glob2 W) :
    Calls Tryz.prog 3 #[.int .i64 k, .string text] W fun e w' => e = .returned (.bool true) ∧ Below W.heap.size W w' := by
  have H1 := Hid.mk (typeText_all k)
  have H2 := Hid.mk (rText_in k)
  have H3 := Hid.mk (typeOf_all text hs)
  have H4 := Hid.mk (rTypeOf_in text hs)
  clear hk hs
  go_enter Tryz.func3, Tryz.ntmps3
  go_wp2_with fail
  refine (examples_in W hG.g).mono ?_
  rintro e w1 ⟨rfl, k1⟩
  have g1 := hG.g.below k1
  have v1 := hG.e.below k1
  go_wp2_with fail
  refine (H1.out _ g1.types g1.pow).mono ?_
  rintro e w2 ⟨p1, y2⟩
  have g2 := g1.below y2
  have v2 := v1.below y2
  have k2 := bth k1 y2 k1.size
  have P1 := Hid.mk p1
  have hsame : ∀ (e' : Ending), RTextPost k e' → ∃ (s : ByteArray) (ok : Bool) (x : Int), e = .returned (.tuple #[.string s, .int .i64 x]) ∧ e' = .returned (.tuple #[.string s, .bool ok]) ∧ ((ok = true ∧ x = 0) ∨ (ok = false ∧ x = 1)) := fun e' h' => by
    rcases p1 with ⟨n, hn, _, rfl⟩ | ⟨hn, rfl⟩ <;> rcases h' with ⟨m, hm, hm2, rfl⟩ | ⟨hm, rfl⟩
    · have : n = m := by omega
      subst this
      exact ⟨_, true, _, rfl, rfl, .inl ⟨rfl, rfl⟩⟩
    · exact absurd (by omega) hm
    · exact absurd (by omega) hn
    · exact ⟨_, false, _, rfl, rfl, .inr ⟨rfl, rfl⟩⟩
  have hform : ∃ (s : ByteArray) (x : Int), e = .returned (.tuple #[.string s, .int .i64 x]) := by
    rcases p1 with ⟨n, hn, _, rfl⟩ | ⟨hn, rfl⟩
    · exact ⟨_, _, rfl⟩
    · exact ⟨_, _, rfl⟩
  have HS := Hid.mk hsame
  obtain ⟨s1, x1, he1⟩ := hform
  subst he1
  clear p1 P1 hsame y2 k1 g1 v1 H1
  go_wp2_with fail
  refine (H2.out _).mono ?_
  rintro e w3 ⟨p2, y3⟩
  obtain ⟨s, ok, x, h1, h2, hok⟩ := HS.out e p2
  subst h2
  obtain ⟨rfl, rfl⟩ : s1 = s ∧ x1 = x := by
    have h3 := congrArg (fun e : Ending => match e with | .returned (.tuple a) => a.toList | _ => []) h1
    simp only [List.cons.injEq, Value.string.injEq, Value.int.injEq, true_and, and_true] at h3
    exact h3
  have HOK := Hid.mk hok
  clear hok
  have g3 := g2.below y3
  have v3 := v2.below y3
  have k3 := bth k2 y3 k2.size
  clear h1 p2 HS y3 k2 g2 v2 H2
  go_wp2_with fail
  refine (H3.out _ g3.types g3.pow v3).mono ?_
  rintro e w4 ⟨p3, y4⟩
  have k4 := bth k3 y4 k3.size
  have hsame : ∀ (e' : Ending), RTypeOfPost text e' → ∃ (n : Nat) (fine : Bool) (x : Int), e = .returned (.tuple #[.int .i64 ((n : Nat) : Int), .int .i64 x]) ∧ e' = .returned (.tuple #[.int .i64 ((n : Nat) : Int), .bool fine]) ∧ ((fine = true ∧ x = 0) ∨ (fine = false ∧ x = 7)) := fun e' h' => by
    rcases p3 with ⟨n, hn, rfl⟩ | ⟨hn, rfl⟩ <;> rcases h' with ⟨m, hm, rfl⟩ | ⟨hm, rfl⟩
    · have := isT_inj hn hm
      subst this
      exact ⟨_, true, _, rfl, rfl, .inl ⟨rfl, rfl⟩⟩
    · exact absurd hn (hm n)
    · exact absurd hm (hn m)
    · exact ⟨0, false, _, rfl, rfl, .inr ⟨rfl, rfl⟩⟩
  have hform : ∃ (y x : Int), e = .returned (.tuple #[.int .i64 y, .int .i64 x]) := by
    rcases p3 with ⟨n, hn, rfl⟩ | ⟨hn, rfl⟩
    · exact ⟨_, _, rfl⟩
    · exact ⟨_, _, rfl⟩
  have HS := Hid.mk hsame
  obtain ⟨n1, x2, he1⟩ := hform
  subst he1
  clear p3 hsame y4 k3 g3 v3 H3
  go_wp2_with fail
  refine (H4.out _).mono ?_
  rintro e w5 ⟨p4, rfl⟩
  obtain ⟨n, fine, x', h1, h2, hfi⟩ := HS.out e p4
  subst h2
  obtain ⟨rfl, rfl⟩ : n1 = ((n : Nat) : Int) ∧ x2 = x' := by
    have h3 := congrArg (fun e : Ending => match e with | .returned (.tuple a) => a.toList | _ => []) h1
    simp only [List.cons.injEq, Value.int.injEq, true_and, and_true] at h3
    exact h3
  clear h1 p4 HS H4 hG
  have hss : (s1.toList == s1.toList) = true := by simp
  rcases HOK.out with ⟨rfl, rfl⟩ | ⟨rfl, rfl⟩ <;> rcases hfi with ⟨rfl, rfl⟩ | ⟨rfl, rfl⟩
  all_goals
    clear HOK
    go_wp2
    go_ret
    exact ⟨rfl, k4⟩
end Go.Proofs.YtndlplebodcmjaaGreatDoor
