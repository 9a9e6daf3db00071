/- Types that are none of the table: their text. -/
import Derived.Test.YtkohkkakbcjgcabGreatDoorDTold
import Derived.Test.YtkohkkakbcjgcabGreatDoorDHex
import Derived.Test.YtkohkkakbcjgcabGreatDoorDTypes
namespace Go.Proofs.YtkohkkakbcjgcabGreatDoor
set_option linter.unusedVariables false
open Go.RowKit

theorem ba_app (a b : List UInt8) : (⟨a.toArray⟩ : ByteArray) ++ (⟨b.toArray⟩ : ByteArray) = ⟨(a ++ b).toArray⟩ := by
  apply ba_ext
  rw [ByteArray.data_append, Array.toList_append]

/-- how bytes of no known form are told. -/
def anyT (x : ByteArray) : List UInt8 := [92, 35, 32] ++ Lib.decDigits x.size ++ (if x.size = 0 then [] else [32] ++ hexL x.data.toList)

set_option maxRecDepth 100000 in
set_option maxHeartbeats 1000000 in
theorem anyTell_in (x : ByteArray) (hx : x.size ≤ 2000) (w : World) (hp : Pow w) :
    Calls Tryz.prog 121 #[.string x] w fun e w' => e = .returned (.string ⟨(anyT x).toArray⟩) ∧ Below w.heap.size w w' := by
  have hdl := dec_len 4 x.size (by omega)
  have HI := Hid.mk (itoa_in x.size (by omega) w hp)
  have HH := Hid.mk (hex_in x hx)
  have hhl := hexL_len x.data.toList
  rw [size_list] at hhl
  unfold anyT
  generalize Lib.decDigits x.size = ds at HI hdl ⊢
  generalize hexL x.data.toList = hs at HH hhl ⊢
  obtain ⟨u, hu⟩ : ∃ u : ByteArray, (⟨ds.toArray⟩ : ByteArray) = u := ⟨_, rfl⟩
  obtain ⟨t, ht⟩ : ∃ t : ByteArray, (⟨hs.toArray⟩ : ByteArray) = t := ⟨_, rfl⟩
  have huz : u.size ≤ 5 := by rw [← hu, ba_size]; exact hdl
  have htz : t.size ≤ 4000 := by rw [← ht, ba_size]; omega
  rw [hu] at HI
  rw [ht] at HH
  by_cases h0 : x.size = 0
  · rw [if_pos h0]
    have HR : Hid ((⟨#[92, 35, 32]⟩ : ByteArray) ++ u = ⟨([92, 35, 32] ++ ds ++ []).toArray⟩) := by
      rw [Hid, ← hu, List.append_nil]; exact ba_app [92, 35, 32] ds
    obtain rfl : x = ⟨#[]⟩ := ByteArray.ext (Array.eq_empty_of_size_eq_zero h0)
    clear hu ht
    go_enter Tryz.func121, Tryz.ntmps121
    go_wp2_with fail
    refine HI.out.mono ?_
    rintro e w1 ⟨rfl, hb1⟩
    go_wp2
    go_ret
    exact ⟨congrArg (fun b => Ending.returned (.string b)) HR.out, hb1⟩
  · rw [if_neg h0]
    have HR : Hid ((⟨#[92, 35, 32]⟩ : ByteArray) ++ u ++ ((⟨#[32]⟩ : ByteArray) ++ t) = ⟨([92, 35, 32] ++ ds ++ ([32] ++ hs)).toArray⟩) := by
      rw [Hid, ← hu, ← ht]
      have e1 := ba_app [92, 35, 32] ds
      have e2 := ba_app [32] hs
      have e3 := ba_app ([92, 35, 32] ++ ds) ([32] ++ hs)
      rw [← e3, ← e1, ← e2]
    have hne2 : (x.toList == []) = false := by
      rw [beq_eq_false_iff_ne, ByteArray.toList_eq]
      intro e; apply h0; rw [← size_list, e]; rfl
    have hne : (!x.toList.isEmpty) = true := by
      rw [ByteArray.toList_eq]
      cases hl : x.data.toList with
      | nil => exfalso; apply h0; rw [← size_list, hl]; rfl
      | cons a l => rfl
    clear hu ht
    go_enter Tryz.func121, Tryz.ntmps121
    go_wp2_with fail
    refine HI.out.mono ?_
    rintro e w1 ⟨rfl, hb1⟩
    go_wp2_with fail
    refine (HH.out _).mono ?_
    rintro e w2 ⟨rfl, hb2⟩
    go_wp2
    go_ret
    exact ⟨congrArg (fun b => Ending.returned (.string b)) HR.out, bth hb1 hb2 hb1.size⟩

def otherForm : Form := { n := 1, pf := otherPf, tf := fun _ x => ⟨(anyT x).toArray⟩, ok := fun _ x => x.size ≤ 2000 }

theorem form_other (k : Int) (hk : tabled k = false) (w : World) (hp : Pow w) : Calls Tryz.prog 47 #[.int .i64 k] w fun e w' => FormPost otherForm w e w' := by
  refine (partsOf_other k hk w).mono ?_
  rintro e w1 ⟨g, hg, rfl, hc, hb⟩
  refine ⟨g, fun _ => otherPart, rfl, one_part hc, fun _ _ => enters_by Tryz.func120 (by kernel_rfl) rfl, ?_, hb, fun _ _ => enters_by Tryz.func121 (by kernel_rfl) rfl, ?_⟩
  · intro k _ W' d s' _ _ hr hs
    exact anyPass_in W' d s' hs hr
  · intro k _ W' x hb' hx
    exact anyTell_in x hx W' ((hp.below hb).below hb')

theorem anyT_len (x : ByteArray) (hx : x.size ≤ 2000) : (anyT x).length ≤ 5000 := by
  have h1 := dec_len 4 x.size (by omega)
  have h2 := hexL_len x.data.toList
  rw [size_list] at h2
  unfold anyT
  split <;> simp <;> omega

theorem told_other (k : Int) (hk : 0 ≤ k ∧ k ≤ 65535) (ht : tabled k = false) (s : ByteArray) (hs : s.size ≤ 2000) (W : World) (hp : Pow W) :
    Calls Tryz.prog 31 #[.int .i64 k, .string s] W fun e w' => e = .returned (.tuple #[.string ⟨(anyT s).toArray⟩, .bool true]) ∧ Below W.heap.size W w' := by
  have hl := anyT_len s hs
  have h := told_in otherForm (by decide) k s [s] rfl (fun j hj => by
      have : j = 0 := by simpa using hj
      subst this; exact hs) (fun j hj => by
      have : j = 0 := by simpa using hj
      subst this
      show (⟨(anyT s).toArray⟩ : ByteArray).size ≤ 100000
      rw [ba_size]; omega) W (split_other k hk ht s hs) (fun w hb => form_other k ht w (hp.below hb))
  have hw : words otherForm 0 [s] = [⟨(anyT s).toArray⟩] := by
    have : ¬ (⟨(anyT s).toArray⟩ : ByteArray).size = 0 := by rw [ba_size]; simp [anyT]
    simp only [words]
    exact if_neg this
  rw [hw] at h
  have hj : Lib.join ([(⟨(anyT s).toArray⟩ : ByteArray)].map (·.data.toList)) [32] = anyT s := Lib.join_one _ _
  rw [hj] at h
  exact h

/-! ### Text -/
theorem text_of {k : Int} {s t : ByteArray} (hk : 0 ≤ k ∧ k ≤ 65535) {W : World} (h : Calls Tryz.prog 31 #[.int .i64 k, .string s] W fun e w' => e = .returned (.tuple #[.string t, .bool true]) ∧ Below W.heap.size W w') :
    Calls Tryz.prog 9 #[.int .i64 k, .string s] W fun e w' => e = .returned (.tuple #[.string t, .int .i64 0]) ∧ Below W.heap.size W w' := by
  have H := Hid.mk h
  have HK := Hid.mk hk
  clear h hk
  go_enter Tryz.func9, Tryz.ntmps9
  go_wp2_with fail
  refine (isType_yes HK.out _).mono ?_
  rintro e w1 ⟨rfl, rfl⟩
  go_wp2_with fail
  refine H.out.mono ?_
  rintro e w2 ⟨rfl, hb⟩
  go_wp2
  go_ret2
  exact ⟨rfl, hb⟩
end Go.Proofs.YtkohkkakbcjgcabGreatDoor
