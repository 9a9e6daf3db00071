/- Texts of this proof, joined: DAny, DGroups, DGrpTell, DGlob, DLaid, DWorld. -/
import Derived.Test.YtndlplebodcmjaaGreatDoorJ3
import Derived.Deep.RegionHeld3
import Derived.OpenShut
import Derived.Lib.LaidTab
import Derived.Deep.DeepHandedRow
import Derived.Test.YtndlplebodcmjaaGreatDoorTie
import Derived.Test.YtndlplebodcmjaaGreatDoorCards
import Derived.WalkKit
import Derived.ProofKit
/- Types that are none of the table: their text. -/
namespace Go.Proofs.YtndlplebodcmjaaGreatDoor
set_option linter.unusedVariables false
open Go.RowKit

theorem ba_app (a b : List UInt8) : (⟨a.toArray⟩ : ByteArray) ++ (⟨b.toArray⟩ : ByteArray) = ⟨(a ++ b).toArray⟩ := by
  apply ba_ext
  rw [ByteArray.data_append, Array.toList_append]

/-- how bytes of no known form are told. -/
def anyT (x : ByteArray) : List UInt8 := [92, 35, 32] ++ Lib.decDigits x.size ++ (if x.size = 0 then [] else [32] ++ hexL x.data.toList)

set_option maxRecDepth 100000 in
set_option maxHeartbeats 1000000 in
theorem anyTell_in (x : ByteArray) (hx : x.size ≤ 2000) (w : World) (hp : Pow w) :
    Calls Tryz.prog 104 #[.string x] w fun e w' => e = .returned (.string ⟨(anyT x).toArray⟩) ∧ Below w.heap.size w w' := by
  have hdl := dec_len 4 x.size (by omega)
  have HI := Hid.mk (itoa_in x.size (by omega) w hp)
  have HH := Hid.mk (hex_in x hx)
  have hhl := hexL_len x.data.toList
  rw [size_list] at hhl
  unfold anyT
  generalize Lib.decDigits x.size = ds at HI hdl ⊢
  generalize hexL x.data.toList = hs at HH hhl ⊢
  obtain ⟨u, hu⟩ : ∃ u : ByteArray, (⟨ds.toArray⟩ : ByteArray) = u := ⟨_, rfl⟩
  obtain ⟨t, ht⟩ : ∃ t : ByteArray, (⟨hs.toArray⟩ : ByteArray) = t := ⟨_, rfl⟩
  have huz : u.size ≤ 5 := by rw [← hu, ba_size]; exact hdl
  have htz : t.size ≤ 4000 := by rw [← ht, ba_size]; omega
  rw [hu] at HI
  rw [ht] at HH
  by_cases h0 : x.size = 0
  · rw [if_pos h0]
    have HR : Hid ((⟨#[92, 35, 32]⟩ : ByteArray) ++ u = ⟨([92, 35, 32] ++ ds ++ []).toArray⟩) := by
      rw [Hid, ← hu, List.append_nil]; exact ba_app [92, 35, 32] ds
    obtain rfl : x = ⟨#[]⟩ := ByteArray.ext (Array.eq_empty_of_size_eq_zero h0)
    clear hu ht
    go_enter Tryz.func104, Tryz.ntmps104
    go_wp2_with fail
    refine HI.out.mono ?_
    rintro e w1 ⟨rfl, hb1⟩
    go_wp2
    go_ret
    exact ⟨congrArg (fun b => Ending.returned (.string b)) HR.out, hb1⟩
  · rw [if_neg h0]
    have HR : Hid ((⟨#[92, 35, 32]⟩ : ByteArray) ++ u ++ ((⟨#[32]⟩ : ByteArray) ++ t) = ⟨([92, 35, 32] ++ ds ++ ([32] ++ hs)).toArray⟩) := by
      rw [Hid, ← hu, ← ht]
      have e1 := ba_app [92, 35, 32] ds
      have e2 := ba_app [32] hs
      have e3 := ba_app ([92, 35, 32] ++ ds) ([32] ++ hs)
      rw [← e3, ← e1, ← e2]
    have hne2 : (x.toList == []) = false := by
      rw [beq_eq_false_iff_ne, ByteArray.toList_eq]
      intro e; apply h0; rw [← size_list, e]; rfl
    have hne : (!x.toList.isEmpty) = true := by
      rw [ByteArray.toList_eq]
      cases hl : x.data.toList with
      | nil => exfalso; apply h0; rw [← size_list, hl]; rfl
      | cons a l => rfl
    clear hu ht
    go_enter Tryz.func104, Tryz.ntmps104
    go_wp2_with fail
    refine HI.out.mono ?_
    rintro e w1 ⟨rfl, hb1⟩
    go_wp2_with fail
    refine (HH.out _).mono ?_
    rintro e w2 ⟨rfl, hb2⟩
    go_wp2
    go_ret
    exact ⟨congrArg (fun b => Ending.returned (.string b)) HR.out, bth hb1 hb2 hb1.size⟩

def otherForm : Form := { n := 1, pf := otherPf, tf := fun _ x => ⟨(anyT x).toArray⟩, ok := fun _ x => x.size ≤ 2000 }

theorem form_other (k : Int) (hk : tabled k = false) (w : World) (hp : Pow w) : Calls Tryz.prog 26 #[.int .i64 k] w fun e w' => FormPost otherForm w e w' := by
  refine (partsOf_other k hk w).mono ?_
  rintro e w1 ⟨g, hg, rfl, hc, hb⟩
  refine ⟨g, fun _ => otherPart, rfl, one_part hc, fun _ _ => enters_by Tryz.func103 (by kernel_rfl) rfl, ?_, hb, fun _ _ => enters_by Tryz.func104 (by kernel_rfl) rfl, ?_⟩
  · intro k _ W' d s' _ _ hr hs
    exact anyPass_in W' d s' hs hr
  · intro k _ W' x hb' hx
    exact anyTell_in x hx W' ((hp.below hb).below hb')

theorem anyT_len (x : ByteArray) (hx : x.size ≤ 2000) : (anyT x).length ≤ 5000 := by
  have h1 := dec_len 4 x.size (by omega)
  have h2 := hexL_len x.data.toList
  rw [size_list] at h2
  unfold anyT
  split <;> simp <;> omega

theorem told_other (k : Int) (hk : 0 ≤ k ∧ k ≤ 65535) (ht : tabled k = false) (s : ByteArray) (hs : s.size ≤ 2000) (W : World) (hp : Pow W) :
    Calls Tryz.prog 19 #[.int .i64 k, .string s] W fun e w' => e = .returned (.tuple #[.string ⟨(anyT s).toArray⟩, .bool true]) ∧ Below W.heap.size W w' := by
  have hl := anyT_len s hs
  have h := told_in otherForm (by decide) k s [s] rfl (fun j hj => by
      have : j = 0 := by simpa using hj
      subst this; exact hs) (fun j hj => by
      have : j = 0 := by simpa using hj
      subst this
      show (⟨(anyT s).toArray⟩ : ByteArray).size ≤ 100000
      rw [ba_size]; omega) W (split_other k hk ht s hs) (fun w hb => form_other k ht w (hp.below hb))
  have hw : words otherForm 0 [s] = [⟨(anyT s).toArray⟩] := by
    have : ¬ (⟨(anyT s).toArray⟩ : ByteArray).size = 0 := by rw [ba_size]; simp [anyT]
    simp only [words]
    exact if_neg this
  rw [hw] at h
  have hj : Lib.join ([(⟨(anyT s).toArray⟩ : ByteArray)].map (·.data.toList)) [32] = anyT s := Lib.join_one _ _
  rw [hj] at h
  exact h

/-! ### Text -/
theorem text_of {k : Int} {s t : ByteArray} (hk : 0 ≤ k ∧ k ≤ 65535) {W : World} (h : Calls Tryz.prog 19 #[.int .i64 k, .string s] W fun e w' => e = .returned (.tuple #[.string t, .bool true]) ∧ Below W.heap.size W w') :
    Calls Tryz.prog 10 #[.int .i64 k, .string s] W fun e w' => e = .returned (.tuple #[.string t, .int .i64 0]) ∧ Below W.heap.size W w' := by
  have H := Hid.mk h
  have HK := Hid.mk hk
  clear h hk
  go_enter Tryz.func10, Tryz.ntmps10
  go_wp2_with fail
  refine (isType_yes HK.out _).mono ?_
  rintro e w1 ⟨rfl, rfl⟩
  go_wp2_with fail
  refine H.out.mono ?_
  rintro e w2 ⟨rfl, hb⟩
  go_wp2
  go_ret2
  exact ⟨rfl, hb⟩
end Go.Proofs.YtndlplebodcmjaaGreatDoor

/- The form of A: four numbers of a byte each. -/
namespace Go.Proofs.YtndlplebodcmjaaGreatDoor
set_option linter.unusedVariables false
open Go.RowKit

abbrev grpP (b : Nat) : Array Value := #[fnV 67 #[boxV b, boxV (b + 1)], fnV 68 #[boxV b, boxV (b + 1), boxV (b + 2), boxV (b + 3)], fnV 69 #[boxV (b + 3), boxV b, boxV (b + 2), boxV (b + 1)], .bool false]

/-- the four variables of groupsPart for A. -/
structure GrpBoxes (W : World) (b : Nat) : Prop where
  cnt : W.heap[b]? = some (.cells #[.int .i64 4] 3 (0, 0))
  wid : W.heap[b + 1]? = some (.cells #[.int .i64 1] 3 (0, 0))
  bas : W.heap[b + 2]? = some (.cells #[.int .i64 10] 3 (0, 0))
  btw : W.heap[b + 3]? = some (.cells #[.string ⟨#[46]⟩] 9 (0, 0))
theorem GrpBoxes.below {W W' : World} {b : Nat} (h : GrpBoxes W b) (k : Below W.heap.size W W') : GrpBoxes W' b :=
  ⟨(k.block _ (box_lt h.cnt)).trans h.cnt, (k.block _ (box_lt h.wid)).trans h.wid, (k.block _ (box_lt h.bas)).trans h.bas, (k.block _ (box_lt h.btw)).trans h.btw⟩

set_option maxRecDepth 100000 in
theorem groupsPart_in (w : World) : Calls Tryz.prog 36 #[.int .i64 4, .int .i64 1, .int .i64 10, .string ⟨#[46]⟩] w fun e w' =>
    e = .returned (.agg (grpP w.heap.size)) ∧ GrpBoxes w' w.heap.size ∧ Below w.heap.size w w' := by
  have hmf := mkf
  go_enter Tryz.func36, Tryz.ntmps36
  go_wp2
  refine bodyPost_ret (v := .agg (grpP w.heap.size)) (by simp [results, Tryz.results36, go_sem]) rfl ⟨rfl, ⟨?_, ?_, ?_, ?_⟩, ?_⟩
  · rw [alloc_old _ _ _ (by simp <;> omega), alloc_old _ _ _ (by simp <;> omega), alloc_old _ _ _ (by simp <;> omega), alloc_old _ _ _ (by simp)]; exact heap_new _ _
  · rw [alloc_old _ _ _ (by simp <;> omega), alloc_old _ _ _ (by simp <;> omega), alloc_old _ _ _ (by simp)]
    have := heap_new (w.alloc (.cells #[.int .i64 4] 3)) (.cells #[.int .i64 1] 3)
    rwa [World.size_alloc] at this
  · rw [alloc_old _ _ _ (by simp <;> omega), alloc_old _ _ _ (by simp)]
    have := heap_new ((w.alloc (.cells #[.int .i64 4] 3)).alloc (.cells #[.int .i64 1] 3)) (.cells #[.int .i64 10] 3)
    rwa [World.size_alloc, World.size_alloc] at this
  · rw [alloc_old _ _ _ (by simp)]
    have := heap_new (((w.alloc (.cells #[.int .i64 4] 3)).alloc (.cells #[.int .i64 1] 3)).alloc (.cells #[.int .i64 10] 3)) (.cells #[.string ⟨#[46]⟩] 9)
    rwa [World.size_alloc, World.size_alloc, World.size_alloc] at this
  · exact (((((Below.refl _ _).alloc (Nat.le_refl _) _).alloc (by simp) _).alloc (by simp <;> omega) _).alloc (by simp <;> omega) _).alloc (by simp <;> omega) _

set_option maxRecDepth 100000 in
theorem partsOf_A (w : World) : Calls Tryz.prog 26 #[.int .i64 1] w fun e w' => ∃ g b, w.heap.size ≤ g ∧ w.heap.size ≤ b ∧
    e = .returned (.slice (some ⟨g, 0, none⟩) 1 1) ∧ w'.heap[g]? = some (.cells (grpP b) 58 (0, 0)) ∧ GrpBoxes w' b ∧ Below w.heap.size w w' := by
  have hmf := mkf
  go_enter Tryz.func26, Tryz.ntmps26
  go_wp2_with fail
  refine (numberPart_in _ _).mono ?_
  rintro e w1 ⟨rfl, ho1, hb1⟩
  go_wp2_with fail
  refine (numberPart_in _ _).mono ?_
  rintro e w2 ⟨rfl, ho2, hb2⟩
  go_wp2_with fail
  refine (numberPart_in _ _).mono ?_
  rintro e w3 ⟨rfl, ho3, hb3⟩
  clear ho1 ho2 ho3
  go_wp2_with fail
  refine (groupsPart_in _).mono ?_
  rintro e w4 ⟨rfl, hgb, hb4⟩
  have k3 : Below w.heap.size w w3 := bth (bth hb1 hb2 hb1.size) hb3 (Nat.le_trans hb1.size hb2.size)
  have s3 := k3.size
  have k6 : Below w.heap.size w w4 := (((k3.alloc s3 _).alloc (by simp; omega) _).alloc (by simp; omega) _).trans (hb4.mono (by simp; omega))
  clear hb1 hb2 hb3 hb4
  have hgb0 : w.heap.size ≤ w3.heap.size + 1 + 1 + 1 := by omega
  simp only [World.size_alloc] at hgb
  go_wp2
  go_ret
  exact ⟨w4.heap.size, w3.heap.size + 1 + 1 + 1, k6.size, hgb0, rfl, heap_new _ _, hgb.below ((Below.refl _ _).alloc (Nat.le_refl _) _), k6.alloc k6.size _⟩

def aPf : Nat → ByteArray → Option Nat := fun _ s => if 4 ≤ s.size then some 4 else none

theorem grpPass_in (W : World) (b d : Nat) (hb : GrpBoxes W b) (s : ByteArray) (hs : s.size ≤ 2000) (h : Rd W d s) :
    Calls Tryz.prog 67 #[boxV d, boxV b, boxV (b + 1)] W fun e w' => PassPost (aPf 0 s) s d W w' e := by
  have c0 := box_cell hb.cnt
  have c1 := box_cell hb.wid
  unfold aPf
  by_cases h4 : 4 ≤ s.size
  · rw [if_pos h4]
    have T := Hid.mk (take_yes W d 4 s (by unfold maxLen; omega) h h4)
    have HR := Hid.mk (h.set (s.extract 4 s.size))
    go_enter Tryz.func67, Tryz.ntmps67
    go_wp2_with fail
    refine T.out.mono ?_
    rintro e w1 ⟨rfl, rfl⟩
    go_wp2
    exact bodyPost_end (results_none rfl _ _ _) rfl ⟨h4, rfl, HR.out, Kept.set _ _ _ _⟩
  · rw [if_neg h4]
    have T := Hid.mk (take_no W d 4 s (by unfold maxLen; omega) h (by omega) (by unfold maxLen; omega))
    go_enter Tryz.func67, Tryz.ntmps67
    go_wp2_with fail
    refine T.out.mono ?_
    rintro e w1 ⟨rfl, rfl⟩
    go_wp2
    exact ⟨rfl, rfl, Kept.refl _ _⟩

theorem tellNum_in (x : ByteArray) (hx : x.size ≤ 4) (w : World) (hp : Pow w) :
    Calls Tryz.prog 63 #[.string x, .int .i64 10] w fun e w' => e = .returned (.string ⟨(Lib.decDigits (numB x.data.toList)).toArray⟩) ∧ Below w.heap.size w w' := by
  have hlt : numB x.data.toList < 4294967296 := by
    refine Nat.lt_of_lt_of_le (numB_lt _) ?_
    rw [size_list]
    exact Nat.le_trans (Nat.pow_le_pow_right (by omega) hx) (by decide)
  have HN := Hid.mk (number_in x (by omega))
  generalize numB x.data.toList = n at hlt HN ⊢
  have HF : Hid (∀ w, Pow w → Calls Tryz.prog 116 #[.int .i64 (n : Int), .int .i64 10] w fun e w' => e = .returned (.string ⟨(Lib.decDigits n).toArray⟩) ∧ Below w.heap.size w w') := by
    intro w hp
    refine (Tryz.strconv_FormatInt_10 (n : Int) (by omega) (by omega) w hp).mono ?_
    rintro e w' ⟨rfl, k, os, rfl⟩
    exact ⟨by rw [Lib.itoa, if_neg (by omega)]; rfl, below_grown w k os⟩
  go_enter Tryz.func63, Tryz.ntmps63
  go_wp2_with fail
  refine (HN.out _).mono ?_
  rintro e w1 ⟨rfl, rfl⟩
  go_wp2_with fail
  refine (HF.out _ hp).mono ?_
  rintro e w2 ⟨rfl, hb⟩
  go_wp2
  go_ret
  exact ⟨rfl, hb⟩

end Go.Proofs.YtndlplebodcmjaaGreatDoor

/- The form of A: how it is told. -/
namespace Go.Proofs.YtndlplebodcmjaaGreatDoor
set_option linter.unusedVariables false
open Go.RowKit

/-- the numbers of a piece, a byte each. -/
def grpW (l : List UInt8) : List ByteArray := l.map fun b => ⟨(Lib.decDigits b.toNat).toArray⟩

theorem cut_one (x : ByteArray) (m : Nat) (h : m < x.size) : ((x.extract m x.size).extract 0 1).data.toList = [x[m]] ∧ (x.extract m x.size).extract 1 (x.extract m x.size).size = x.extract (m + 1) x.size := by
  have hz : (x.extract m x.size).size = x.size - m := by rw [ByteArray.size_extract]; omega
  constructor
  · rw [ByteArray.extract_extract]
    have e : min (m + 1) x.size = m + 1 := by omega
    rw [Nat.add_zero, e, Lib.extract_data]
    have := List.drop_eq_getElem_cons (l := x.data.toList) (i := m) (by rw [size_list]; exact h)
    rw [this]; simp; rfl
  · rw [hz, ByteArray.extract_extract]; congr 1; omega

set_option maxRecDepth 100000 in
set_option maxHeartbeats 4000000 in
theorem grpTell_in (W : World) (b : Nat) (hb : GrpBoxes W b) (x : ByteArray) (hx : x.size = 4) (hp : Pow W) :
    Calls Tryz.prog 68 #[.string x, boxV b, boxV (b + 1), boxV (b + 2), boxV (b + 3)] W fun e w' => e = .returned (.string ⟨(Lib.join ((grpW x.data.toList).map (·.data.toList)) [46]).toArray⟩) ∧ Below W.heap.size W w' := by
  have hal : ∀ o, Below W.heap.size W (W.alloc o) := fun o => (Below.refl _ _).alloc (Nat.le_refl _) o
  have c0 : ∀ o, (W.alloc o).cell? ⟨b, 0, none⟩ = some (.int .i64 4) := fun o => box_cell (hb.below (hal o)).cnt
  obtain ⟨i0, hi, hz0, hz1, hz2⟩ := info_parts info9
  have hmo : Tryz.prog.follows Departure.mixedOrders = true := by kernel_rfl
  go_enter Tryz.func68, Tryz.ntmps68
  go_wp2
  go_loopw [8, 13] (fun gv i wr => ∃ m : Nat, m ≤ 4 ∧ i = .int .i64 m ∧ wr.ownsRow (W.heap.size + 1) 9 1 gv (grpW (x.data.toList.take m)).length (baV (grpW (x.data.toList.take m))) ∧ Rd wr W.heap.size (x.extract m x.size) ∧ Below W.heap.size W wr ∧ W.heap.size + 1 ≤ wr.heap.size) (fun _ i _ => 4 - (intOf i).toNat)
  case atStart =>
    refine ⟨0, by omega, rfl, World.ownsRow_nil .., ?_, hal _, by simp⟩
    have : x.extract 0 x.size = x := by simp
    rw [this]; exact heap_new _ _
  case round =>
    obtain ⟨m, hm, rfl, hrow, hrd, hbl, hsz⟩ := hrel
    by_cases hlt : m < 4
    · have hmx : m < x.size := by omega
      obtain ⟨hone, hrest⟩ := cut_one x m hmx
      have hb' : GrpBoxes wr b := hb.below hbl
      have d1 := box_cell hb'.wid
      have d2 := box_cell hb'.bas
      have hp' := hp.below hbl
      have hbW := box_lt hb.btw
      obtain ⟨one, hO⟩ : ∃ o, (x.extract m x.size).extract 0 1 = o := ⟨_, rfl⟩
      rw [hO] at hone
      have ho1 : one.size = 1 := by rw [← size_list, hone]; rfl
      have HTk : Hid (Calls Tryz.prog 61 #[boxV W.heap.size, .int .i64 1] wr.drew fun e w1 => e = .returned (.string one) ∧ Kept W.heap.size wr w1 ∧ Rd w1 W.heap.size (x.extract (m + 1) x.size)) := by
        have hz : (x.extract m x.size).size = x.size - m := by rw [ByteArray.size_extract]; omega
        have := take_yes wr.drew W.heap.size 1 (x.extract m x.size) (by rw [hz]; unfold maxLen; omega) hrd (by rw [hz]; omega)
        rw [hrest, hO] at this
        refine this.mono ?_
        rintro e w1 ⟨he, hw⟩
        subst hw
        exact ⟨he, ⟨rfl, rfl, rfl, (Kept.set W.heap.size 0 wr _).size, (Kept.set W.heap.size 0 wr _).same⟩, hrd.set _⟩
      have HTn : Hid (∀ w1, Pow w1 → Calls Tryz.prog 63 #[.string one, .int .i64 10] w1 fun e w2 => e = .returned (.string ⟨(Lib.decDigits x[m].toNat).toArray⟩) ∧ Below w1.heap.size w1 w2) := by
        intro w1 h1
        have := tellNum_in one (by omega) w1 h1
        rw [hone, show numB [x[m]] = x[m].toNat by simp [numB]] at this
        exact this
      have HL1 : Hid (∀ (G : Prop) (w1 : World), Kept W.heap.size wr w1 → Rd w1 W.heap.size (x.extract (m + 1) x.size) → (w1.cell? ⟨b + 1, 0, none⟩ = some (.int .i64 1) → w1.cell? ⟨b + 2, 0, none⟩ = some (.int .i64 10) → Pow w1 → G) → G) := by
        intro G w1 hk hr hG
        have hbl1 : Below W.heap.size W w1 := hbl.trans (hk.below (Nat.le_refl _) (by omega))
        have hb1 := hb.below hbl1
        exact hG (box_cell hb1.wid) (box_cell hb1.bas) (hp.below hbl1)
      have HL2 : Hid (∀ (G : Prop) (w1 w2 : World), Kept W.heap.size wr w1 → Rd w1 W.heap.size (x.extract (m + 1) x.size) → Below w1.heap.size w1 w2 → (w2.cell? ⟨b + 1, 0, none⟩ = some (.int .i64 1) → w2.cell? ⟨b + 2, 0, none⟩ = some (.int .i64 10) → w2.ownsRow (W.heap.size + 1) 9 1 u8 (grpW (x.data.toList.take m)).length (baV (grpW (x.data.toList.take m))) → Rd w2 W.heap.size (x.extract (m + 1) x.size) → Below W.heap.size W w2 → W.heap.size + 1 ≤ w2.heap.size → (∀ o, (w2.alloc o).cell? ⟨b + 1, 0, none⟩ = some (.int .i64 1)) → (∀ o, (w2.alloc o).cell? ⟨b + 2, 0, none⟩ = some (.int .i64 10)) → G) → G) := by
        intro G w1 w2 hk hr hb2 hG
        have hbl1 : Below W.heap.size W w1 := hbl.trans (hk.below (Nat.le_refl _) (by omega))
        have hs1 := Nat.le_trans hsz hk.size
        have hbl2 : Below W.heap.size W w2 := hbl1.trans (hb2.mono (by omega))
        have hb1 := hb.below hbl2
        have hrw1 := row_kept' hrow hk (by omega)
        have ha : ∀ o, GrpBoxes (w2.alloc o) b := fun o => hb1.below ((Below.refl _ _).alloc (Nat.le_refl _) o)
        exact hG (box_cell hb1.wid) (box_cell hb1.bas) (row_bel hrw1 hb2) (hr.below hb2) hbl2 (Nat.le_trans hs1 hb2.size) (fun o => box_cell (ha o).wid) (fun o => box_cell (ha o).bas)
      have HL3 : Hid (∀ (G : Prop) (n : Nat) (xs : List Value) (w2 w3 : World) (o : Obj), w2.ownsRow (W.heap.size + 1) 9 1 u8 n xs → Rd w2 W.heap.size (x.extract (m + 1) x.size) → Below W.heap.size W w2 → W.heap.size + 1 ≤ w2.heap.size → (w2.alloc o).grownBy w3 u8.ownBlock → (w3.cell? ⟨b + 1, 0, none⟩ = some (.int .i64 1) → w3.cell? ⟨b + 2, 0, none⟩ = some (.int .i64 10) → Rd w3 W.heap.size (x.extract (m + 1) x.size) → Below W.heap.size W w3 → W.heap.size + 1 ≤ w3.heap.size → G) → G) := by
        intro G n xs w2 w3 o hr hrd2 hbl2 hs2 hg hG
        have h3 : Below (W.heap.size + 1) w2 w3 := ((Below.refl _ w2).alloc hs2 o).grown hg (by simp; omega) (rowBaseB hr)
        have hbl3 : Below W.heap.size W w3 := hbl2.trans (h3.mono (by omega))
        have hb3 := hb.below hbl3
        exact hG (box_cell hb3.wid) (box_cell hb3.bas) ((h3.block _ (by omega)).trans hrd2) hbl3 (Nat.le_trans hs2 h3.size)
      have hgl : grpW (x.data.toList.take (m + 1)) = grpW (x.data.toList.take m) ++ [⟨(Lib.decDigits x[m].toNat).toArray⟩] := by
        rw [List.take_succ_eq_append_getElem (by rw [size_list]; exact hmx), grpW, List.map_append]; rfl
      have HGL := Hid.mk hgl
      have hgn : (grpW (x.data.toList.take m)).length ≤ 4 := by rw [grpW, List.length_map, List.length_take]; omega
      obtain ⟨tx, htx⟩ : ∃ t : ByteArray, (⟨(Lib.decDigits x[m].toNat).toArray⟩ : ByteArray) = t := ⟨_, rfl⟩
      rw [htx] at HTn HGL
      clear hgl hone hrest hO htx hb' hp'
      generalize grpW (x.data.toList.take m) = ws at hrow HL2 HGL hgn
      go_wp2
      go_region_held3 (fun w' => w'.cell? ⟨b + 1, 0, none⟩ = some (.int .i64 1) ∧ w'.cell? ⟨b + 2, 0, none⟩ = some (.int .i64 10)) (first | (constructor <;> assumption) | go_keep)
        (first
          | (go_at_call 61; refine HTk.out.mono ?_; rintro e w1 ⟨rfl, hk1, hr1⟩; refine HL1.out _ w1 hk1 hr1 ?_; intro e1 e2 hpw1)
          | (go_at_call 63; refine (HTn.out _ hpw1).mono ?_; rintro e w2 ⟨rfl, hb2⟩; refine HL2.out _ w1 w2 hk1 hr1 hb2 ?_; intro f1 f2 hrw2 hrd2 hbl2 hsz2 f3 f4)
          | (refine step_append_own rfl (.tmp 15) (.tmp 21) 40 rfl (W.heap.size + 1) 9 i0 (.string ⟨#[]⟩) 1 16 Tryz.underlying40 hi hz0 hz1 hz2 rfl (by decide) _ _ _ rfl (hrw2.alloc _) ⟨w2.heap.size, 0, none⟩ 1 1 [.string tx] rfl rfl (cell_one_new _ _ _) (by simp [Value.oneCell']) (by unfold maxLen; omega) (by omega) (by simp; omega) ?_; intro v1 w3 hown3 hgrow3; refine HL3.out _ _ _ w2 w3 _ hrw2 hrd2 hbl2 hsz2 hgrow3 ?_; intro g1 g2 hrd3 hbl3 hsz3))
      go_wp2
      have hrelN : ∃ j : Nat, j ≤ 4 ∧ Value.int .i64 ((m : Int) + 1) = .int .i64 j ∧ w3.ownsRow (W.heap.size + 1) 9 1 v1 (grpW (x.data.toList.take j)).length (baV (grpW (x.data.toList.take j))) ∧ Rd w3 W.heap.size (x.extract j x.size) ∧ Below W.heap.size W w3 ∧ W.heap.size + 1 ≤ w3.heap.size := by
        refine ⟨m + 1, by omega, by go_num, ?_, hrd3, hbl3, hsz3⟩
        rw [HGL.out, List.length_append, baV, List.map_append]; exact hown3
      exact ⟨hrelN, by simp [intOf]; omega⟩
    · obtain rfl : m = 4 := by omega
      have hall : x.data.toList.take 4 = x.data.toList := List.take_of_length_le (by rw [size_list]; omega)
      rw [hall] at hrow
      have hgn : (grpW x.data.toList).length = 4 := by rw [grpW, List.length_map, size_list, hx]
      have hjl := join_len [46] (grpW x.data.toList) 5 (fun y hy => by
        obtain ⟨c, _, rfl⟩ := List.mem_map.1 hy
        rw [ba_size]
        exact dec_len 4 c.toNat (by have := c.toNat_lt; omega))
      have HJ := Hid.mk (join_row ⟨#[46]⟩ hrow (by omega) (by
        refine Nat.le_trans hjl ?_
        rw [hgn]; decide))
      have d3 := box_cell (hb.below hbl).btw
      obtain ⟨qw, cw, hqw⟩ := row_as hrow
      subst hqw
      have hsW : W.heap.size ≤ wr.heap.size := by omega
      clear hall hjl hrow hgn
      go_wp2_with fail
      refine HJ.out.mono ?_
      rintro e w3 ⟨rfl, hb3⟩
      go_wp2
      go_ret
      exact ⟨rfl, hbl.trans (hb3.mono hsW)⟩

def aPart (b : Nat) : Part := ⟨67, #[boxV b, boxV (b + 1)], 68, #[boxV b, boxV (b + 1), boxV (b + 2), boxV (b + 3)], 69, #[boxV (b + 3), boxV b, boxV (b + 2), boxV (b + 1)], false⟩
/-- how four bytes are told. -/
def aT (x : ByteArray) : List UInt8 := Lib.join ((grpW x.data.toList).map (·.data.toList)) [46]
def aForm : Form := { n := 1, pf := aPf, tf := fun _ x => ⟨(aT x).toArray⟩, ok := fun _ x => x.size = 4 }

theorem form_A (w : World) (hp : Pow w) : Calls Tryz.prog 26 #[.int .i64 1] w fun e w' => FormPost aForm w e w' := by
  refine (partsOf_A w).mono ?_
  rintro e w1 ⟨g, b, hg, hgb, rfl, hc, hbx, hb⟩
  refine ⟨g, fun _ => aPart b, rfl, one_part hc, fun _ _ => enters_by Tryz.func67 (by kernel_rfl) rfl, ?_, hb, fun _ _ => enters_by Tryz.func68 (by kernel_rfl) rfl, ?_⟩
  · intro k _ W' d s' hb' _ hr hs
    exact grpPass_in W' b d (hbx.below hb') s' hs hr
  · intro k _ W' x hb' hx
    exact grpTell_in W' b (hbx.below hb') x hx ((hp.below hb).below hb')

theorem fin_A (s : ByteArray) (h : s.size = 4) : fin aPf 1 s = some [s] := by
  have e1 : s.extract 0 4 = s := by rw [← h]; simp
  simp [fin, cutP, aPf, h, e1]
theorem fin_A_no (s : ByteArray) (h : s.size ≠ 4) : fin aPf 1 s = none := by
  by_cases h4 : 4 ≤ s.size
  · have e2 : ¬ (s.size - 4 = 0) := by omega
    simp [fin, cutP, aPf, h4, e2]
  · simp [fin, cutP, aPf, h4]

theorem partsA (w : World) : Calls Tryz.prog 26 #[.int .i64 1] w fun e w' => PartsPost 1 aPf w e w' := by
  refine (partsOf_A w).mono ?_
  rintro e w1 ⟨g, b, hg, hgb, rfl, hc, hbx, hb⟩
  refine ⟨g, fun _ => aPart b, rfl, one_part hc, fun _ _ => enters_by Tryz.func67 (by kernel_rfl) rfl, ?_, hb⟩
  intro k _ W' d s' hb' _ hr hs
  exact grpPass_in W' b d (hbx.below hb') s' hs hr

theorem split_A (s : ByteArray) (hs : s.size = 4) (W : World) : Calls Tryz.prog 20 #[.int .i64 1, .string s] W fun e w' => SplitPost (some [s]) W e w' := by
  have := split_in W 1 (by omega) 1 (by omega) s (by omega) aPf (fun w => (partsA w).mono fun e w' h => h)
  rwa [fin_A s hs] at this
theorem split_A_no (s : ByteArray) (hs : s.size ≠ 4) (hl : s.size ≤ 2000) (W : World) : Calls Tryz.prog 20 #[.int .i64 1, .string s] W fun e w' => SplitPost none W e w' := by
  have := split_in W 1 (by omega) 1 (by omega) s hl aPf (fun w => (partsA w).mono fun e w' h => h)
  rwa [fin_A_no s hs] at this

theorem told_A (s : ByteArray) (hs : s.size = 4) (W : World) (hp : Pow W) :
    Calls Tryz.prog 19 #[.int .i64 1, .string s] W fun e w' => e = .returned (.tuple #[.string ⟨(aT s).toArray⟩, .bool true]) ∧ Below W.heap.size W w' := by
  have hgn : (grpW s.data.toList).length = 4 := by rw [grpW, List.length_map, size_list, hs]
  have hl : (aT s).length ≤ 24 := by
    have := join_len [46] (grpW s.data.toList) 5 (fun y hy => by
      obtain ⟨c, _, rfl⟩ := List.mem_map.1 hy
      rw [ba_size]
      exact dec_len 4 c.toNat (by have := c.toNat_lt; omega))
    rw [hgn] at this
    exact this
  have hpos : (aT s).length ≠ 0 := by
    intro h0
    have h1 : aT s = [] := List.length_eq_zero_iff.1 h0
    have h2 : ∀ l : List UInt8, l.length = 4 → (Lib.join ((grpW l).map (·.data.toList)) [46]) ≠ [] := by
      intro l hl
      match l, hl with
      | [a, b, c, d], _ =>
        simp only [grpW, List.map_cons, List.map_nil, Lib.join, List.intercalate]
        rw [List.intersperse_cons_cons]
        simp
    exact h2 s.data.toList (by rw [size_list]; exact hs) h1
  have h := told_in aForm (by decide) 1 s [s] rfl (fun j hj => by
      have : j = 0 := by simpa using hj
      subst this; exact hs) (fun j hj => by
      have : j = 0 := by simpa using hj
      subst this
      show (⟨(aT s).toArray⟩ : ByteArray).size ≤ 100000
      rw [ba_size]; omega) W (split_A s hs) (fun w hb => form_A w (hp.below hb))
  have hw : words aForm 0 [s] = [⟨(aT s).toArray⟩] := by
    have : ¬ (⟨(aT s).toArray⟩ : ByteArray).size = 0 := by rw [ba_size]; exact hpos
    simp only [words]
    exact if_neg this
  rw [hw] at h
  have hj : Lib.join ([(⟨(aT s).toArray⟩ : ByteArray)].map (·.data.toList)) [32] = aT s := Lib.join_one _ _
  rw [hj] at h
  exact h
end Go.Proofs.YtndlplebodcmjaaGreatDoor

/- What lies there all the time; the reader's word; understood. -/
namespace Go.Proofs.YtndlplebodcmjaaGreatDoor
set_option linter.unusedVariables false
open Go.RowKit

/-- the variables of packages that the calls read. -/
structure Glob (W : World) : Prop where
  pow : Pow W
  types : Types W
  maxl : ∃ m, W.cell? ⟨4, 0, none⟩ = some (.int .i64 m)
theorem Glob.below {W W' : World} (h : Glob W) (hb : Below W.heap.size W W') : Glob W' := by
  obtain ⟨m, hm⟩ := h.maxl
  exact ⟨h.pow.below hb, h.types.below hb, m, (hb.cell (p := ⟨4, 0, none⟩) (cell_block hm)).trans hm⟩

/-- what stands ahead of the next blank, and what behind it. -/
def wordB (s : ByteArray) : ByteArray := ⟨(Lib.cut s.data.toList [32]).1.toArray⟩
def restB (s : ByteArray) : ByteArray := ⟨(Lib.cut s.data.toList [32]).2.1.toArray⟩

theorem word_in (W : World) (d : Nat) (s : ByteArray) (hs : s.size ≤ 1000000) (h : Rd W d s) (hG : Glob W) :
    Calls Tryz.prog 66 #[boxV d] W fun e w' => e = .returned (.string (wordB s)) ∧ Rd w' d (restB s) ∧ Kept d W w' := by
  obtain ⟨m, hm⟩ := hG.maxl
  have hc := h.cell
  have HC := Hid.mk (Tryz.strings_Cut s ⟨#[32]⟩ m W (by omega) hm)
  go_enter Tryz.func66, Tryz.ntmps66
  go_wp2_with fail
  refine HC.out.mono ?_
  rintro e w1 ⟨rfl, n, rfl⟩
  have hc1 : (W.drewN n).cell? ⟨d, 0, none⟩ = some (.string s) := hc
  have hf1 : (W.drewN n).frozen? ⟨d, 0, none⟩ = false := h.frozen
  have hf := h.frozen
  go_wp2
  go_ret
  refine ⟨rfl, ?_, ?_⟩
  · exact Rd.set (W := W.drewN n) h _
  · exact ⟨rfl, rfl, rfl, (Kept.set d 0 W _).size, (Kept.set d 0 W _).same⟩

/-- what lies there stays so long as block d alone is written. -/
def GlobK (d : Nat) (W : World) : Prop := ∀ W', Kept d W W' → Glob W'
theorem GlobK.here {d : Nat} {W : World} (h : GlobK d W) : Glob W := h W (Kept.refl _ _)

/-- what a part's read does. -/
def ReadPost (r : Option (ByteArray × ByteArray)) (d : Nat) (W w' : World) (e : Ending) : Prop := match r with
  | some q => e = .returned (.string q.1) ∧ Rd w' d q.2 ∧ Kept d W w'
  | none => e = .panicked mustV ∧ Kept d W w'

/-- what partsOf hands back for who reads. -/
def ReadsPost (n : Nat) (dm : Nat → ByteArray → Prop) (rf : Nat → ByteArray → Option (ByteArray × ByteArray)) (w : World) (e : Ending) (w' : World) : Prop :=
  ∃ g P, e = .returned (.slice (some ⟨g, 0, none⟩) n n) ∧ w.heap.size ≤ g ∧ PartsIn w' g n P ∧ (∀ k, k < n → Enters (P k).read) ∧
    (∀ k, k < n → ∀ (W' : World) (d : Nat) (s' : ByteArray), Kept d w' W' → d < w.heap.size → GlobK d W' → Rd W' d s' → s'.size ≤ 1000000 → dm k s' →
      Calls Tryz.prog (P k).read (#[boxV d] ++ (P k).readC) W' fun e w'' => ReadPost (rf k s') d W' w'' e) ∧ Below w.heap.size w w'

/-- the pieces that n parts read off a text, from the k-th on. -/
def readP (rf : Nat → ByteArray → Option (ByteArray × ByteArray)) : Nat → Nat → ByteArray → Option (List ByteArray)
  | 0, _, _ => some []
  | n + 1, k, s => match rf k s with
    | none => none
    | some q => (readP rf n (k + 1) q.2).map fun r => q.1 :: r
end Go.Proofs.YtndlplebodcmjaaGreatDoor

/- What the row lists lies there: from the list to the cells. -/
namespace Go.Proofs.YtndlplebodcmjaaGreatDoor
set_option linter.unusedVariables false
open Go.RowKit

theorem laid_at {P : Program} {w : World} {n : String} {d : DataW Unit} : ∀ {l : List (String × DataW Unit)} {ps : List MemPlace}, DataW.LaidVars P w l ps → (n, d) ∈ l →
    ∃ g t cs fuel p, P.globalNamed n = some g ∧ (P.globals[g]?).map (·.type) = some t ∧ w.var? P n = some cs ∧ DataW.trod (fun _ => ()) P w 0 (fun _ => true) false fuel t cs.toList = some (d, p)
  | [], _, _, h => by cases h
  | (n', d') :: r, ps, ⟨g, t, cs, fuel, p, q, h1, h2, h3, h4, h5, _⟩, h => by
    rcases List.mem_cons.1 h with e | h
    · cases e
      exact ⟨g, t, cs, fuel, p, h1, h2, h3, h4⟩
    · exact laid_at h5 h

def shp (d : Option TypeDesc) : List (Nat × Nat) := match d with
  | some (.struct fs) => fs.toList.map (fun f => (f.type, f.offset))
  | _ => []
theorem shp_of {d : Option TypeDesc} {a : Nat × Nat} {l : List (Nat × Nat)} (h : shp d = a :: l) : ∃ fs : Array Field, d = some (.struct fs) ∧ fs.toList.map (fun f => (f.type, f.offset)) = a :: l := by
  unfold shp at h
  split at h
  · rename_i fs
    exact ⟨fs, rfl, h⟩
  · cases h

theorem rows_all : ∀ (l : List (Int × List UInt8)) (cs : List Value), cs.length = l.length * 2 → (∀ j e, l[j]? = some e → (cs.drop (j * 2)).take 2 = [.int .i64 e.1, .string ⟨e.2.toArray⟩]) → cs = l.flatMap (fun e => [.int .i64 e.1, .string ⟨e.2.toArray⟩])
  | [], cs, hl, _ => by simpa using hl
  | e :: l, cs, hl, h => by
    match cs, hl, h with
    | [], hl, _ => simp at hl
    | [a], hl, _ => simp at hl; omega
    | a :: b :: cs, hl, h =>
      have h0 := h 0 e rfl
      simp at h0
      have hr := rows_all l cs (by simp at hl; omega) (fun j e' he => by
        have := h (j + 1) e' (by simpa using he)
        rwa [show (j + 1) * 2 = j * 2 + 2 by omega, List.drop_succ_cons, List.drop_succ_cons] at this)
      rw [List.flatMap_cons, ← hr, h0.1, h0.2]
      rfl

abbrev tyRow : Nat := 35
abbrev tyTab : Nat := 36
theorem und_tab : Tryz.prog.underlying tyTab = some (.array 15 tyRow) := by kernel_rfl
theorem und_row : shp (Tryz.prog.underlying tyRow) = [(3, 0), (9, 1)] := by kernel_rfl
theorem cells_row : Tryz.prog.cellsOf tyRow = 2 := by kernel_rfl
theorem cells_tab : Tryz.prog.cellsOf tyTab = 30 := by kernel_rfl
theorem cells_i : Tryz.prog.cellsOf 3 = 1 := by kernel_rfl
theorem cells_s : Tryz.prog.cellsOf 9 = 1 := by kernel_rfl

theorem two_of {l : List Value} (h : l.length = 2) : ∃ a b, l = [a, b] := by
  match l, h with
  | [a, b], _ => exact ⟨a, b, rfl⟩

theorem row_read {w : World} {m : Nat} {row : List Value} {k : Int} {l : List UInt8} {x : DataW Unit × List MemPlace} (hx : x.1 = .agg [.lit (.int .i64 k), .lit (.string l)])
    (h : DataW.trod (fun _ => ()) Tryz.prog w 0 (fun _ => true) false m tyRow row = some x) : row = [.int .i64 k, .string ⟨l.toArray⟩] := by
  obtain ⟨fs, hfs, hm⟩ := shp_of und_row
  obtain ⟨xs, n, _, rfl, hlen, hxl, hf⟩ := DataW.trod_struct hfs h
  have hfl : fs.toList.length = 2 := by have := congrArg List.length hm; simpa using this
  match hfe : fs.toList, hfl with
  | [f0, f1], _ =>
    rw [hfe] at hm
    simp only [List.map_cons, List.map_nil, List.cons.injEq, Prod.mk.injEq, and_true] at hm
    obtain ⟨⟨h00, h01⟩, ⟨h10, h11⟩⟩ := hm
    have g0 := hf 0 f0 (by rw [← Array.getElem?_toList, hfe]; rfl)
    have g1 := hf 1 f1 (by rw [← Array.getElem?_toList, hfe]; rfl)
    rw [h00, h01, cells_i] at g0
    rw [h10, h11, cells_s] at g1
    have hx2 : xs.length = 2 := by rw [hxl, ← Array.length_toList, hfe]; rfl
    match xs, hx2 with
    | [y0, y1], _ =>
      simp only [List.map_cons, List.map_nil, DataW.agg.injEq, List.cons.injEq, and_true] at hx
      obtain ⟨n0, e0, rfl, _⟩ := DataW.trod_int Tryz.underlying3 g0
      obtain ⟨s1, e1, rfl, _⟩ := DataW.trod_string Tryz.underlying9 g1
      simp only [DataW.lit.injEq, Lit.int.injEq, Lit.string.injEq, true_and] at hx
      rw [cells_row] at hlen
      obtain ⟨a, b, rfl⟩ := two_of hlen
      simp at e0 e1
      rw [e0, e1, hx.1, ← hx.2]

theorem types_of {W : World} {ps : List MemPlace} {l : List (String × DataW Unit)} (h : DataW.LaidVars Tryz.prog W l ps) (hm : ("guidepost/data.typeTexts", (Rows.laid_guidepost_data_typeTexts : DataW Unit)) ∈ l) : Types W := by
  obtain ⟨g, t, cs, fuel, p, hg, ht, hv, hd⟩ := laid_at h hm
  have hg0 : Tryz.prog.globalNamed "guidepost/data.typeTexts" = some 0 := by kernel_rfl
  obtain rfl := Option.some.inj (hg0.symm.trans hg)
  have ht0 : (Tryz.prog.globals[0]?).map (·.type) = some tyTab := by kernel_rfl
  obtain rfl := Option.some.inj (ht0.symm.trans ht)
  obtain ⟨xs, m, _, hx, hlen, hxl, hf⟩ := DataW.trod_array und_tab hd
  have hda : (Rows.laid_guidepost_data_typeTexts : DataW Unit) = .agg (tab.map fun e => .agg [.lit (.int .i64 e.1), .lit (.string e.2)]) := rfl
  have hxs : xs.map (·.1) = tab.map fun e => (.agg [.lit (.int .i64 e.1), .lit (.string e.2)] : DataW Unit) := by
    have := congrArg Prod.fst hx
    rw [hda] at this
    simpa using this.symm
  have hall := rows_all tab cs.toList (by rw [hlen, cells_tab]; rfl) (fun j e he => by
    have hj : j < 15 := by have := (List.getElem?_eq_some_iff.1 he).1; exact this
    have h1 := hf j hj
    rw [cells_row] at h1
    have h2 : (xs.map (·.1))[j]? = some (.agg [.lit (.int .i64 e.1), .lit (.string e.2)]) := by rw [hxs, List.getElem?_map, he]; rfl
    rw [List.getElem?_map, Option.map_eq_some_iff] at h2
    obtain ⟨y, hy, hy1⟩ := h2
    rw [hy] at h1
    exact row_read hy1 h1)
  have htc : tab.flatMap (fun e => [Value.int .i64 e.1, Value.string ⟨e.2.toArray⟩]) = tabCells := rfl
  rw [htc] at hall
  intro i v hi
  have := World.var?_cell hg0 hv i
  rw [this, ← Array.getElem?_toList, hall]
  exact hi

theorem pow_of {W : World} {ps : List MemPlace} {l : List (String × DataW Unit)} (h : DataW.LaidVars Tryz.prog W l ps) (hm : ("internal/strconv.uint64pow10", (Rows.laid_internal_strconv_uint64pow10 : DataW Unit)) ∈ l) : Pow W := by
  obtain ⟨g, t, cs, fuel, p, hg, ht, hv, hd⟩ := laid_at h hm
  have hg0 : Tryz.prog.globalNamed "internal/strconv.uint64pow10" = some 1 := by kernel_rfl
  obtain rfl := Option.some.inj (hg0.symm.trans hg)
  have ht0 : (Tryz.prog.globals[1]?).map (·.type) = some 96 := by kernel_rfl
  obtain rfl := Option.some.inj (ht0.symm.trans ht)
  have hda : (Rows.laid_internal_strconv_uint64pow10 : DataW Unit) = Lib.tabData .u64 Lib.pow10Tab := by kernel_rfl
  rw [hda] at hd
  have hu : Tryz.prog.underlying 96 = some (.array 20 74) := by kernel_rfl
  have hu2 : Tryz.prog.underlying 74 = some (.int .u64) := by kernel_rfl
  have hc1 : Tryz.prog.cellsOf 74 = 1 := by kernel_rfl
  have hc2 : Tryz.prog.cellsOf 96 = 20 := by kernel_rfl
  have := Lib.cells_of_tab hu hu2 hc1 hc2 hd
  unfold Pow Lib.TabIs
  rw [hv, ← this]

theorem glob_of {W : World} {l : List (String × DataW Unit)} (h : laidMet Tryz.prog l W) (hs : W.ShapedOpen Tryz.prog) (h1 : ("guidepost/data.typeTexts", (Rows.laid_guidepost_data_typeTexts : DataW Unit)) ∈ l) (h2 : ("internal/strconv.uint64pow10", (Rows.laid_internal_strconv_uint64pow10 : DataW Unit)) ∈ l) : Glob W := by
  obtain ⟨ps, hv, _⟩ := h
  exact ⟨pow_of hv h2, types_of hv h1, Tryz.laysM145.s1_3 W hs⟩
end Go.Proofs.YtndlplebodcmjaaGreatDoor

/- A world for the witnesses: the variables of packages hold what their texts lay. -/
namespace Go.Proofs.YtndlplebodcmjaaGreatDoor
set_option linter.unusedVariables false
open Go.RowKit

def lit1 : DataW Unit → List Value
  | .lit (.int k n) => [.int k n]
  | .lit (.string s) => [.string ⟨s.toArray⟩]
  | _ => []
def flat2 : DataW Unit → Array Value
  | .agg l => (l.flatMap fun x => match x with
    | .agg l2 => l2.flatMap lit1
    | x => lit1 x).toArray
  | _ => #[]
def errS : DataW Unit → ByteArray
  | .iface _ (.ptr (.agg [.lit (.string s)])) => ⟨s.toArray⟩
  | _ => ⟨#[]⟩

/-- A WORLD FOR THE WITNESS: the settled one, the variables of packages holding what their texts lay. -/
noncomputable def laidWorld (os : Os) : World :=
  let N := (World.settled Tryz.prog os).heap.size
  let w0 := World.holding Tryz.prog os ⟨#[.cells #[.string (errS Rows.laid_strconv_ErrSyntax)] 122, .cells #[.string (errS Rows.laid_strconv_ErrRange)] 122], #[], []⟩
  let put (h : Array Obj) (g : Nat) (cs : Array Value) : Array Obj := h.modify g fun
    | .cells _ t frozen => .cells cs t frozen
    | o => o
  let h0 := put w0.heap 0 (flat2 Rows.laid_guidepost_data_typeTexts)
  let h2 := put h0 1 (flat2 Rows.laid_internal_strconv_uint64pow10)
  let h3 := put h2 2 #[.iface 120 (.pointer (some ⟨N, 0, none⟩))]
  let h4 := put h3 3 #[.iface 120 (.pointer (some ⟨N + 1, 0, none⟩))]
  let h5 := put h4 5 (flat2 Rows.laid_math_bits_deBruijn32tab)
  let h6 := put h5 6 (flat2 Rows.laid_math_bits_deBruijn64tab)
  let h7 := put h6 7 (flat2 Rows.laid_unicode_utf8_first)
  let h8 := put h7 8 (flat2 Rows.laid_unicode_utf8_acceptRanges)
  { w0 with heap := h8 }

end Go.Proofs.YtndlplebodcmjaaGreatDoor
