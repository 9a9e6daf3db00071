/- The form of TXT: split, told, read. -/
import Derived.Test.YtkohkkakbcjgcabGreatDoorDTxtTell3
import Derived.Test.YtkohkkakbcjgcabGreatDoorDExA
namespace Go.Proofs.YtkohkkakbcjgcabGreatDoor
set_option linter.unusedVariables false
open Go.RowKit

abbrev txtP : Array Value := #[fnV 96 #[], fnV 97 #[], fnV 98 #[], .bool false]
theorem stringsPart_in (w : World) : Calls Tryz.prog 66 #[] w fun e w' => e = .returned (.agg txtP) ∧ Below w.heap.size w w' := by
  have hmf := mkf
  go_enter Tryz.func66, Tryz.ntmps66
  go_wp2
  exact bodyPost_ret (v := .agg txtP) (by simp [results, Tryz.results66, go_sem]) rfl ⟨rfl, by first | exact (Below.refl _ _).alloc (Nat.le_refl _) _ | exact Below.refl _ _⟩

set_option maxRecDepth 100000 in
theorem partsOf_T (w : World) : Calls Tryz.prog 47 #[.int .i64 16] w fun e w' => ∃ g, w.heap.size ≤ g ∧
    e = .returned (.slice (some ⟨g, 0, none⟩) 1 1) ∧ w'.heap[g]? = some (.cells txtP 86 (0, 0)) ∧ Below w.heap.size w w' := by
  have hmf := mkf
  go_enter Tryz.func47, Tryz.ntmps47
  go_wp2_with fail
  refine (numberPart_in _ _).mono ?_
  rintro e w1 ⟨rfl, ho1, hb1⟩
  go_wp2_with fail
  refine (numberPart_in _ _).mono ?_
  rintro e w2 ⟨rfl, ho2, hb2⟩
  go_wp2_with fail
  refine (numberPart_in _ _).mono ?_
  rintro e w3 ⟨rfl, ho3, hb3⟩
  clear ho1 ho2 ho3
  go_wp2_with fail
  refine (stringsPart_in _).mono ?_
  rintro e w4 ⟨rfl, hb4⟩
  have k3 : Below w.heap.size w w3 := bth (bth hb1 hb2 hb1.size) hb3 (Nat.le_trans hb1.size hb2.size)
  have s3 := k3.size
  have k6 : Below w.heap.size w w4 := (((k3.alloc s3 _).alloc (by simp; omega) _).alloc (by simp; omega) _).trans (hb4.mono (by simp; omega))
  clear hb1 hb2 hb3 hb4
  go_wp2
  go_ret
  exact ⟨w4.heap.size, k6.size, rfl, heap_new _ _, k6.alloc k6.size _⟩

def txtPart : Part := ⟨96, #[], 97, #[], 98, #[], false⟩
def txtForm : Form := { n := 1, pf := txtPf, tf := fun _ x => ⟨(txtT x).toArray⟩, ok := fun _ x => x.size ≤ 2000 ∧ moreOk (x.size + 1) x = true }

theorem form_T (w : World) : Calls Tryz.prog 47 #[.int .i64 16] w fun e w' => FormPost txtForm w e w' := by
  refine (partsOf_T w).mono ?_
  rintro e w1 ⟨g, hg, rfl, hc, hb⟩
  refine ⟨g, fun _ => txtPart, rfl, one_part hc, fun _ _ => enters_by Tryz.func96 (by kernel_rfl) rfl, ?_, hb, fun _ _ => enters_by Tryz.func97 (by kernel_rfl) rfl, ?_⟩
  · intro k _ W' d s' hb' _ hr hs
    exact passStrings_in W' d s' hs hr
  · intro k _ W' x hb' hx
    exact tellStrings_in x hx.1 hx.2 W'

theorem partsT (w : World) : Calls Tryz.prog 47 #[.int .i64 16] w fun e w' => PartsPost 1 txtPf w e w' := by
  refine (partsOf_T w).mono ?_
  rintro e w1 ⟨g, hg, rfl, hc, hb⟩
  refine ⟨g, fun _ => txtPart, rfl, one_part hc, fun _ _ => enters_by Tryz.func96 (by kernel_rfl) rfl, ?_, hb⟩
  intro k _ W' d s' hb' _ hr hs
  exact passStrings_in W' d s' hs hr

theorem fin_T (s : ByteArray) (h0 : 0 < s.size) (h : moreOk (s.size + 1) s = true) : fin txtPf 1 s = some [s] := by
  have e1 : s.extract 0 s.size = s := by simp
  simp [fin, cutP, txtPf, h0, h, e1]
theorem fin_T_no (s : ByteArray) (h : ¬ (0 < s.size ∧ moreOk (s.size + 1) s = true)) : fin txtPf 1 s = none := by
  have : txtPf 0 s = none := if_neg h
  simp only [fin, cutP, this]

theorem split_T (s : ByteArray) (hs : s.size ≤ 2000) (h0 : 0 < s.size) (h : moreOk (s.size + 1) s = true) (W : World) : Calls Tryz.prog 33 #[.int .i64 16, .string s] W fun e w' => SplitPost (some [s]) W e w' := by
  have := split_in W 1 (by omega) 16 (by omega) s hs txtPf (fun w => (partsT w).mono fun e w' h => h)
  rwa [fin_T s h0 h] at this
theorem split_T_no (s : ByteArray) (hs : s.size ≤ 2000) (h : ¬ (0 < s.size ∧ moreOk (s.size + 1) s = true)) (W : World) : Calls Tryz.prog 33 #[.int .i64 16, .string s] W fun e w' => SplitPost none W e w' := by
  have := split_in W 1 (by omega) 16 (by omega) s hs txtPf (fun w => (partsT w).mono fun e w' h => h)
  rwa [fin_T_no s h] at this

theorem told_T (s : ByteArray) (hs : s.size ≤ 2000) (h0 : 0 < s.size) (hm : moreOk (s.size + 1) s = true) (hl : (txtT s).length ≤ 100000) (hpos : (txtT s).length ≠ 0) (W : World) :
    Calls Tryz.prog 31 #[.int .i64 16, .string s] W fun e w' => e = .returned (.tuple #[.string ⟨(txtT s).toArray⟩, .bool true]) ∧ Below W.heap.size W w' := by
  have h := told_in txtForm (by decide) 16 s [s] rfl (fun j hj => by
      have : j = 0 := by simpa using hj
      subst this; exact ⟨hs, hm⟩) (fun j hj => by
      have : j = 0 := by simpa using hj
      subst this
      show (⟨(txtT s).toArray⟩ : ByteArray).size ≤ 100000
      rw [ba_size]; omega) W (split_T s hs h0 hm) (fun w hb => form_T w)
  have hw : words txtForm 0 [s] = [⟨(txtT s).toArray⟩] := by
    have : ¬ (⟨(txtT s).toArray⟩ : ByteArray).size = 0 := by rw [ba_size]; exact hpos
    simp only [words]
    exact if_neg this
  rw [hw] at h
  have hj : Lib.join ([(⟨(txtT s).toArray⟩ : ByteArray)].map (·.data.toList)) [32] = txtT s := Lib.join_one _ _
  rw [hj] at h
  exact h

/-- strings that are told well are read. -/
theorem readT_in (l s t p : List UInt8) (hl : l.length ≤ 900) (h1 : rsGo (l.length + 1) [] l = some (s, t)) (hs : s.length ≤ 255) (hm : RsM t p) (hok : moreOk ((⟨(cntd s ++ p).toArray⟩ : ByteArray).size + 1) ⟨(cntd s ++ p).toArray⟩ = true)
    (htl : (txtT ⟨(cntd s ++ p).toArray⟩).length ≤ 100000) (htp : (txtT ⟨(cntd s ++ p).toArray⟩).length ≠ 0) (W : World) (hG : Glob W) :
    Calls Tryz.prog 10 #[.int .i64 16, .string ⟨(34 :: l).toArray⟩] W fun e w' => e = .returned (if (⟨(txtT ⟨(cntd s ++ p).toArray⟩).toArray⟩ : ByteArray) = ⟨(34 :: l).toArray⟩ then .tuple #[.string ⟨(cntd s ++ p).toArray⟩, .int .i64 0] else .tuple #[.string ⟨#[]⟩, .int .i64 7]) ∧ Below W.heap.size W w' := by
  have hsl := rs_len _ _ _ _ h1
  simp only [List.length_nil, Nat.zero_add] at hsl
  have hpl := rsM_len hm
  have hz : (⟨(cntd s ++ p).toArray⟩ : ByteArray).size = s.length + 1 + p.length := by rw [ba_size]; simp [cntd]; omega
  obtain ⟨x, hx⟩ : ∃ x : ByteArray, (⟨(cntd s ++ p).toArray⟩ : ByteArray) = x := ⟨_, rfl⟩
  rw [hx] at hz hok htl htp ⊢
  have hU := understood_in W 1 (by omega) 16 ⟨(34 :: l).toArray⟩ (by rw [ba_size]; simp; omega) (dmOf ⟨(34 :: l).toArray⟩) (fun _ => rfl) (fun _ _ => some (x, ⟨#[]⟩)) hG (fun k s q hq hs => by
      cases hq
      exact ⟨by show x.size ≤ _; omega, by show (⟨#[]⟩ : ByteArray).size ≤ _; exact Nat.zero_le _⟩) (fun k s q _ _ h => absurd h (by omega)) (fun w hGw => by
      refine (partsOf_T w).mono ?_
      rintro e w1 ⟨g, hg, rfl, hc, hb⟩
      refine ⟨g, fun _ => txtPart, rfl, hg, one_part hc, fun _ _ => enters_by Tryz.func98 (by kernel_rfl) rfl, ?_, hb⟩
      intro k hk W' d s' hkp hd hGK hr hs' hdm
      obtain rfl : k = 0 := by omega
      obtain rfl := hdm rfl
      have := readStrings_in W' d l s t p (by omega) hr h1 hs hm
      rw [hx] at this
      exact this)
  have hrp : readP (fun _ _ => some (x, ⟨#[]⟩)) 1 0 (⟨(34 :: l).toArray⟩ : ByteArray) = some [x] := rfl
  rw [hrp] at hU
  have h := read_of (t := ⟨(txtT x).toArray⟩) (by omega) hU (fun w hb => by
    rw [jn_one]
    exact told_T x (by omega) (by omega) hok htl htp w)
  rw [jn_one] at h
  exact h
end Go.Proofs.YtkohkkakbcjgcabGreatDoor
