/- Texts of this proof, joined: DTxtTell3, DExA, DTxtForm, DPartsA, DPartsB, DPartsC. -/
import Derived.Test.YtdhcbaennpediaaGreatDoorJ7
import Derived.Test.YtdhcbaennpediaaGreatDoorJ5
import Derived.Deep.RegionHeld3
import Derived.Test.YtdhcbaennpediaaGreatDoorJ6
/- TXT: how it is told, whole. -/
namespace Go.Proofs.YtdhcbaennpediaaGreatDoor
set_option linter.unusedVariables false
open Go.RowKit

/-- the strings of a piece. -/
def spl : Nat → ByteArray → List ByteArray
  | 0, _ => []
  | n + 1, s => if h : 0 < s.size then s.extract 1 (1 + s[0].toNat) :: spl n (s.extract (1 + s[0].toNat) s.size) else []
theorem spl_end (n : Nat) (s : ByteArray) (h : s.size = 0) : spl (n + 1) s = [] := by rw [spl, dif_neg (by omega)]
theorem spl_go (n : Nat) (s : ByteArray) (h : 0 < s.size) : spl (n + 1) s = s.extract 1 (1 + s[0].toNat) :: spl n (s.extract (1 + s[0].toNat) s.size) := by rw [spl, dif_pos h]

def strB (s : ByteArray) : ByteArray := ⟨(strT s.data.toList).toArray⟩
/-- how a piece of TXT is told. -/
def txtT (s : ByteArray) : List UInt8 := Lib.join (((spl (s.size + 1) s).map strB).map (·.data.toList)) [32]

theorem strB_size (s : ByteArray) (h : s.size ≤ 255) : (strB s).size ≤ 1100 := by
  have := strLs_len s.data.toList
  rw [size_list] at this
  rw [strB, ba_size, strT]
  simp
  omega

set_option maxRecDepth 100000 in
set_option maxHeartbeats 1000000 in
theorem tellStrings_in (s : ByteArray) (hs : s.size ≤ 2000) (hok : moreOk (s.size + 1) s = true) (W : World) :
    Calls Tryz.prog 113 #[.string s] W fun e w' => e = .returned (.string ⟨(txtT s).toArray⟩) ∧ Below W.heap.size W w' := by
  obtain ⟨i0, hi, hz0, hz1, hz2⟩ := info_parts info9
  obtain ⟨A, hA⟩ : ∃ A, (spl (s.size + 1) s).map strB = A := ⟨_, rfl⟩
  have hT : txtT s = Lib.join (A.map (·.data.toList)) [32] := by rw [txtT, hA]
  rw [hT]
  have HA := Hid.mk hA
  have HOK := Hid.mk hok
  clear hok hA hT
  go_enter Tryz.func113, Tryz.ntmps113
  go_wp2
  go_loopw [4] (fun v wr => ∃ (ws : List ByteArray) (x : ByteArray) (n : Nat), Rd wr W.heap.size x ∧ x.size < n ∧ ws.length + x.size ≤ 2000 ∧ wr.ownsRow (W.heap.size + 1) 9 1 v ws.length (baV ws) ∧ Hid (∀ y ∈ ws, y.size ≤ 1100) ∧ Hid (moreOk n x = true) ∧ Hid (ws ++ (spl n x).map strB = A) ∧ W.heap.size + 1 ≤ wr.heap.size ∧ Below W.heap.size W wr) (fun _ wr => rdLen wr W.heap.size)
  case atStart => exact ⟨[], s, s.size + 1, heap_new _ _, by omega, by simpa using hs, World.ownsRow_nil .., Hid.mk (fun y hy => absurd hy (by simp)), HOK, HA, by simp, (Below.refl _ _).alloc (Nat.le_refl _) _⟩
  case round =>
    obtain ⟨ws, x, n, hrd, hxn, hwx, hrow, HY, HM, HS, hsz, hbl⟩ := hrel
    obtain ⟨n, rfl⟩ : ∃ m, n = m + 1 := ⟨n - 1, by omega⟩
    have HLn := Hid.mk hrd.len
    have hcl := hrd.cell
    obtain ⟨q, cap, rfl⟩ := row_as hrow
    by_cases hx0 : 0 < x.size
    · obtain ⟨hn1, hn2⟩ := ne_text x hx0
      have hxf : 1 + x[0].toNat ≤ x.size := by
        by_cases hxf : 1 + x[0].toNat ≤ x.size
        · exact hxf
        · have := HM.out
          rw [more_no n x hx0 (by omega)] at this
          cases this
      have hb8 := x[0].toNat_lt
      have HC := Hid.mk (counted_yes wr W.heap.size x (by unfold maxLen; omega) hrd hx0 hxf)
      have hez : (x.extract (1 + x[0].toNat) x.size).size < x.size := by rw [ByteArray.size_extract]; omega
      have hyz : (x.extract 1 (1 + x[0].toNat)).size ≤ 255 := by rw [ByteArray.size_extract]; omega
      have hr1 := hrd.set (x.extract (1 + x[0].toNat) x.size)
      have hk1 := Kept.set W.heap.size 0 wr (.string (x.extract (1 + x[0].toNat) x.size))
      have HM1 : Hid (moreOk n (x.extract (1 + x[0].toNat) x.size) = true) := by
        rw [Hid, ← more_go n x hx0 hxf]; exact HM.out
      have HS1 : Hid (ws ++ (x.extract 1 (1 + x[0].toNat) :: spl n (x.extract (1 + x[0].toNat) x.size)).map strB = A) := by
        rw [Hid, ← spl_go n x hx0]; exact HS.out
      clear hxf HM HS
      generalize x.extract (1 + x[0].toNat) x.size = x1 at HC hez hr1 hk1 HM1 HS1
      generalize x.extract 1 (1 + x[0].toNat) = y at HC hyz HS1
      have HT := Hid.mk (tellString_in y hyz)
      have hst : strB y = ⟨(strT y.data.toList).toArray⟩ := rfl
      have HYZ := Hid.mk (strB_size y hyz)
      have HS2 : Hid (ws ++ (strB y :: (spl n x1).map strB) = A) := HS1
      rw [← hst] at HT
      clear HS1
      generalize strB y = sy at HT HYZ hst HS2
      clear hst
      go_wp2_with fail
      refine HC.out.mono ?_
      rintro e w1 ⟨rfl, rfl⟩
      go_wp2_with fail
      refine (HT.out _).mono ?_
      rintro e w2 ⟨rfl, hb2⟩
      have hrd2 := hr1.below hb2
      have hrow2 := row_bel (row_kept' hrow hk1 (by omega)) hb2
      have hsz2 : W.heap.size + 1 ≤ w2.heap.size := Nat.le_trans (Nat.le_trans hsz hk1.size) hb2.size
      have hbl1 : Below W.heap.size W _ := hbl.trans (hk1.below (Nat.le_refl _) (by omega))
      have hbl2 : Below W.heap.size W w2 := hbl1.trans (hb2.mono (Nat.le_trans (by omega) hk1.size))
      clear hrow
      go_wp2_with (at_builtin; refine wpList_append_own _ rfl _ _ 84 rfl (W.heap.size + 1) 9 i0 (.string ⟨#[]⟩) 1 16 Tryz.underlying84 hi hz0 hz1 hz2 rfl (by decide) _ _ _ rfl (hrow2.alloc _) ⟨w2.heap.size, 0, none⟩ 1 1 [.string sy] rfl rfl (cell_one_new _ _ _) (by simp [Value.oneCell']) (by unfold maxLen; omega) (by omega) (by simp; omega) ?_; intro v1 w3 hown3 hgrow3 _)
      have hb3 : Below (W.heap.size + 1) w2 w3 := ((Below.refl _ w2).alloc hsz2 _).grown hgrow3 (by simp; omega) (rowBaseB hrow2)
      have hrd3 := hrd2.belowTo hb3 (by omega)
      have HLT : Hid (rdLen w3 W.heap.size < rdLen wr W.heap.size) := by
        rw [Hid, HLn.out, hrd3.len]; exact hez
      have hrelN : ∃ (ws : List ByteArray) (x : ByteArray) (n : Nat), Rd w3 W.heap.size x ∧ x.size < n ∧ ws.length + x.size ≤ 2000 ∧ w3.ownsRow (W.heap.size + 1) 9 1 v1 ws.length (baV ws) ∧ Hid (∀ y ∈ ws, y.size ≤ 1100) ∧ Hid (moreOk n x = true) ∧ Hid (ws ++ (spl n x).map strB = A) ∧ W.heap.size + 1 ≤ w3.heap.size ∧ Below W.heap.size W w3 := by
        refine ⟨ws ++ [sy], x1, n, hrd3, by omega, by simp; omega, ?_, Hid.mk (fun z hz => ?_), HM1, ?_, Nat.le_trans hsz2 hb3.size, hbl2.trans (hb3.mono (by omega))⟩
        · rw [List.length_append, baV, List.map_append]; exact hown3
        · rcases List.mem_append.1 hz with h | h
          · exact HY.out z h
          · rw [List.mem_singleton.1 h]; exact HYZ.out
        · rw [Hid, List.append_assoc]; exact HS2.out
      go_wp2
      go_roundw
      case rel => exact hrelN
      case measure => exact HLT.out
    · have hxe := ba_empty x (by omega)
      subst hxe
      have hwA : ws = A := by
        have := HS.out
        rw [spl_end n _ rfl] at this
        simpa using this
      subst hwA
      have hjl := join_len [32] ws 1100 HY.out
      have hwl : ws.length * (1100 + [(32 : UInt8)].length) ≤ 140737488355328 := by
        refine Nat.le_trans (Nat.mul_le_mul_right _ (show ws.length ≤ 2000 by omega)) (by decide)
      have HJ := Hid.mk (join_row ⟨#[32]⟩ hrow (by omega) (Nat.le_trans hjl hwl))
      clear hjl hwl hrow
      go_wp2_with fail
      refine HJ.out.mono ?_
      rintro e w3 ⟨rfl, hb3⟩
      go_wp2
      go_ret
      exact ⟨rfl, hbl.trans (hb3.mono (by omega))⟩
end Go.Proofs.YtdhcbaennpediaaGreatDoor

/- The chapter's two readings of A. -/
namespace Go.Proofs.YtdhcbaennpediaaGreatDoor
set_option linter.unusedVariables false
open Go.RowKit

def dmOf (t : ByteArray) : Nat → ByteArray → Prop := fun k s => k = 0 → s = t
def rfOf (t x : ByteArray) : Nat → ByteArray → Option (ByteArray × ByteArray) := fun _ _ => some (x, restB t)

theorem jn_one (x : ByteArray) : jn [x] = x := by
  apply ba_ext
  show Lib.join [x.data.toList] [] = x.data.toList
  exact Lib.join_one _ _

theorem readA_in (t : ByteArray) (ht : t.size ≤ 1000) (gs : List ByteArray) (ns : List Nat) (hlen : gs.length = ns.length) (h4 : ns.length = 4)
    (hok : ∀ j (h1 : j < gs.length) (h2 : j < ns.length), gs[j].size ≤ 1000 ∧ ns[j] < 256 ∧ Lib.parseIntB 64 gs[j].data.toList = .ok (ns[j] : Int))
    (hws : (wordB t).size ≤ 1000) (hrs : (restB t).size ≤ 1000) (hgs : Lib.splitB ⟨#[46]⟩ 0 (min 5 ((wordB t).size + 1) - 1) (wordB t) = gs) (W : World) (hG : Glob W) :
    Calls Tryz.prog 32 #[.int .i64 1, .string t] W fun e w' => e = .returned (if (⟨(aT ⟨(ns.map UInt8.ofNat).toArray⟩).toArray⟩ : ByteArray) = t then .tuple #[.string ⟨(ns.map UInt8.ofNat).toArray⟩, .int .i64 0] else .tuple #[.string ⟨#[]⟩, .int .i64 7]) ∧ Below W.heap.size W w' := by
  obtain ⟨x, hx⟩ : ∃ x : ByteArray, (⟨(ns.map UInt8.ofNat).toArray⟩ : ByteArray) = x := ⟨_, rfl⟩
  have hxz : x.size = 4 := by rw [← hx, ba_size, List.length_map, h4]
  have hU := understood_in W 1 (by omega) 1 t (by omega) (dmOf t) (fun _ => rfl) (rfOf t x) hG (fun k s q hq hs => by
      cases hq
      exact ⟨by show x.size ≤ _; omega, by show (restB t).size ≤ _; omega⟩) (fun k s q _ _ h => absurd h (by omega)) (fun w hGw => by
      refine (partsOf_A w).mono ?_
      rintro e w1 ⟨g, b, hg, hgb, rfl, hc, hbx, hb⟩
      refine ⟨g, fun _ => aPart b, rfl, hg, one_part hc, fun _ _ => enters_by Tryz.func107 (by kernel_rfl) rfl, ?_, hb⟩
      intro k hk W' d s' hkp hd hGK hr hs' hdm
      obtain rfl : k = 0 := by omega
      obtain rfl := hdm rfl
      have := grpRead_ok W' b d (by omega) (hbx.kept hkp (by omega)) s' hr ht hGK gs ns hlen (by omega) hok hws hgs
      rw [hx] at this
      exact this)
  have hrp : readP (rfOf t x) 1 0 t = some [x] := rfl
  rw [hrp] at hU
  have h := read_of (t := ⟨(aT x).toArray⟩) (by omega) hU (fun w hb => by
    rw [jn_one]
    exact told_A x hxz w (hG.below hb).pow)
  rw [jn_one] at h
  rw [hx]
  exact h
end Go.Proofs.YtdhcbaennpediaaGreatDoor

/- The form of TXT: split, told, read. -/
namespace Go.Proofs.YtdhcbaennpediaaGreatDoor
set_option linter.unusedVariables false
open Go.RowKit

abbrev txtP : Array Value := #[fnV 112 #[], fnV 113 #[], fnV 114 #[], .bool false]
theorem stringsPart_in (w : World) : Calls Tryz.prog 84 #[] w fun e w' => e = .returned (.agg txtP) ∧ Below w.heap.size w w' := by
  have hmf := mkf
  go_enter Tryz.func84, Tryz.ntmps84
  go_wp2
  exact bodyPost_ret (v := .agg txtP) (by simp [results, Tryz.results84, go_sem]) rfl ⟨rfl, by first | exact (Below.refl _ _).alloc (Nat.le_refl _) _ | exact Below.refl _ _⟩

set_option maxRecDepth 100000 in
theorem partsOf_T (w : World) : Calls Tryz.prog 65 #[.int .i64 16] w fun e w' => ∃ g, w.heap.size ≤ g ∧
    e = .returned (.slice (some ⟨g, 0, none⟩) 1 1) ∧ w'.heap[g]? = some (.cells txtP 128 (0, 0)) ∧ Below w.heap.size w w' := by
  have hmf := mkf
  go_enter Tryz.func65, Tryz.ntmps65
  go_wp2_with fail
  refine (numberPart_in _ _).mono ?_
  rintro e w1 ⟨rfl, ho1, hb1⟩
  go_wp2_with fail
  refine (numberPart_in _ _).mono ?_
  rintro e w2 ⟨rfl, ho2, hb2⟩
  go_wp2_with fail
  refine (numberPart_in _ _).mono ?_
  rintro e w3 ⟨rfl, ho3, hb3⟩
  clear ho1 ho2 ho3
  go_wp2_with fail
  refine (stringsPart_in _).mono ?_
  rintro e w4 ⟨rfl, hb4⟩
  have k3 : Below w.heap.size w w3 := bth (bth hb1 hb2 hb1.size) hb3 (Nat.le_trans hb1.size hb2.size)
  have s3 := k3.size
  have k6 : Below w.heap.size w w4 := (((k3.alloc s3 _).alloc (by simp; omega) _).alloc (by simp; omega) _).trans (hb4.mono (by simp; omega))
  clear hb1 hb2 hb3 hb4
  go_wp2
  go_ret
  exact ⟨w4.heap.size, k6.size, rfl, heap_new _ _, k6.alloc k6.size _⟩

def txtPart : Part := ⟨112, #[], 113, #[], 114, #[], false⟩
def txtForm : Form := { n := 1, pf := txtPf, tf := fun _ x => ⟨(txtT x).toArray⟩, ok := fun _ x => x.size ≤ 2000 ∧ moreOk (x.size + 1) x = true }

theorem form_T (w : World) : Calls Tryz.prog 65 #[.int .i64 16] w fun e w' => FormPost txtForm w e w' := by
  refine (partsOf_T w).mono ?_
  rintro e w1 ⟨g, hg, rfl, hc, hb⟩
  refine ⟨g, fun _ => txtPart, rfl, one_part hc, fun _ _ => enters_by Tryz.func112 (by kernel_rfl) rfl, ?_, hb, fun _ _ => enters_by Tryz.func113 (by kernel_rfl) rfl, ?_⟩
  · intro k _ W' d s' hb' _ hr hs
    exact passStrings_in W' d s' hs hr
  · intro k _ W' x hb' hx
    exact tellStrings_in x hx.1 hx.2 W'

theorem partsT (w : World) : Calls Tryz.prog 65 #[.int .i64 16] w fun e w' => PartsPost 1 txtPf w e w' := by
  refine (partsOf_T w).mono ?_
  rintro e w1 ⟨g, hg, rfl, hc, hb⟩
  refine ⟨g, fun _ => txtPart, rfl, one_part hc, fun _ _ => enters_by Tryz.func112 (by kernel_rfl) rfl, ?_, hb⟩
  intro k _ W' d s' hb' _ hr hs
  exact passStrings_in W' d s' hs hr

theorem fin_T (s : ByteArray) (h0 : 0 < s.size) (h : moreOk (s.size + 1) s = true) : fin txtPf 1 s = some [s] := by
  have e1 : s.extract 0 s.size = s := by simp
  simp [fin, cutP, txtPf, h0, h, e1]
theorem fin_T_no (s : ByteArray) (h : ¬ (0 < s.size ∧ moreOk (s.size + 1) s = true)) : fin txtPf 1 s = none := by
  have : txtPf 0 s = none := if_neg h
  simp only [fin, cutP, this]

theorem split_T (s : ByteArray) (hs : s.size ≤ 2000) (h0 : 0 < s.size) (h : moreOk (s.size + 1) s = true) (W : World) : Calls Tryz.prog 36 #[.int .i64 16, .string s] W fun e w' => SplitPost (some [s]) W e w' := by
  have := split_in W 1 (by omega) 16 (by omega) s hs txtPf (fun w => (partsT w).mono fun e w' h => h)
  rwa [fin_T s h0 h] at this
theorem split_T_no (s : ByteArray) (hs : s.size ≤ 2000) (h : ¬ (0 < s.size ∧ moreOk (s.size + 1) s = true)) (W : World) : Calls Tryz.prog 36 #[.int .i64 16, .string s] W fun e w' => SplitPost none W e w' := by
  have := split_in W 1 (by omega) 16 (by omega) s hs txtPf (fun w => (partsT w).mono fun e w' h => h)
  rwa [fin_T_no s h] at this

theorem told_T (s : ByteArray) (hs : s.size ≤ 2000) (h0 : 0 < s.size) (hm : moreOk (s.size + 1) s = true) (hl : (txtT s).length ≤ 100000) (hpos : (txtT s).length ≠ 0) (W : World) :
    Calls Tryz.prog 60 #[.int .i64 16, .string s] W fun e w' => e = .returned (.tuple #[.string ⟨(txtT s).toArray⟩, .bool true]) ∧ Below W.heap.size W w' := by
  have h := told_in txtForm (by decide) 16 s [s] rfl (fun j hj => by
      have : j = 0 := by simpa using hj
      subst this; exact ⟨hs, hm⟩) (fun j hj => by
      have : j = 0 := by simpa using hj
      subst this
      show (⟨(txtT s).toArray⟩ : ByteArray).size ≤ 100000
      rw [ba_size]; omega) W (split_T s hs h0 hm) (fun w hb => form_T w)
  have hw : words txtForm 0 [s] = [⟨(txtT s).toArray⟩] := by
    have : ¬ (⟨(txtT s).toArray⟩ : ByteArray).size = 0 := by rw [ba_size]; exact hpos
    simp only [words]
    exact if_neg this
  rw [hw] at h
  have hj : Lib.join ([(⟨(txtT s).toArray⟩ : ByteArray)].map (·.data.toList)) [32] = txtT s := Lib.join_one _ _
  rw [hj] at h
  exact h

/-- strings that are told well are read. -/
theorem readT_in (l s t p : List UInt8) (hl : l.length ≤ 900) (h1 : rsGo (l.length + 1) [] l = some (s, t)) (hs : s.length ≤ 255) (hm : RsM t p) (hok : moreOk ((⟨(cntd s ++ p).toArray⟩ : ByteArray).size + 1) ⟨(cntd s ++ p).toArray⟩ = true)
    (htl : (txtT ⟨(cntd s ++ p).toArray⟩).length ≤ 100000) (htp : (txtT ⟨(cntd s ++ p).toArray⟩).length ≠ 0) (W : World) (hG : Glob W) :
    Calls Tryz.prog 32 #[.int .i64 16, .string ⟨(34 :: l).toArray⟩] W fun e w' => e = .returned (if (⟨(txtT ⟨(cntd s ++ p).toArray⟩).toArray⟩ : ByteArray) = ⟨(34 :: l).toArray⟩ then .tuple #[.string ⟨(cntd s ++ p).toArray⟩, .int .i64 0] else .tuple #[.string ⟨#[]⟩, .int .i64 7]) ∧ Below W.heap.size W w' := by
  have hsl := rs_len _ _ _ _ h1
  simp only [List.length_nil, Nat.zero_add] at hsl
  have hpl := rsM_len hm
  have hz : (⟨(cntd s ++ p).toArray⟩ : ByteArray).size = s.length + 1 + p.length := by rw [ba_size]; simp [cntd]; omega
  obtain ⟨x, hx⟩ : ∃ x : ByteArray, (⟨(cntd s ++ p).toArray⟩ : ByteArray) = x := ⟨_, rfl⟩
  rw [hx] at hz hok htl htp ⊢
  have hU := understood_in W 1 (by omega) 16 ⟨(34 :: l).toArray⟩ (by rw [ba_size]; simp; omega) (dmOf ⟨(34 :: l).toArray⟩) (fun _ => rfl) (fun _ _ => some (x, ⟨#[]⟩)) hG (fun k s q hq hs => by
      cases hq
      exact ⟨by show x.size ≤ _; omega, by show (⟨#[]⟩ : ByteArray).size ≤ _; exact Nat.zero_le _⟩) (fun k s q _ _ h => absurd h (by omega)) (fun w hGw => by
      refine (partsOf_T w).mono ?_
      rintro e w1 ⟨g, hg, rfl, hc, hb⟩
      refine ⟨g, fun _ => txtPart, rfl, hg, one_part hc, fun _ _ => enters_by Tryz.func114 (by kernel_rfl) rfl, ?_, hb⟩
      intro k hk W' d s' hkp hd hGK hr hs' hdm
      obtain rfl : k = 0 := by omega
      obtain rfl := hdm rfl
      have := readStrings_in W' d l s t p (by omega) hr h1 hs hm
      rw [hx] at this
      exact this)
  have hrp : readP (fun _ _ => some (x, ⟨#[]⟩)) 1 0 (⟨(34 :: l).toArray⟩ : ByteArray) = some [x] := rfl
  rw [hrp] at hU
  have h := read_of (t := ⟨(txtT x).toArray⟩) (by omega) hU (fun w hb => by
    rw [jn_one]
    exact told_T x (by omega) (by omega) hok htl htp w)
  rw [jn_one] at h
  exact h
end Go.Proofs.YtdhcbaennpediaaGreatDoor

/- partsOf: the form of every type. -/
namespace Go.Proofs.YtdhcbaennpediaaGreatDoor
set_option linter.unusedVariables false
set_option linter.unusedSimpArgs false
open Go.RowKit

instance : Inhabited Part := ⟨⟨0, #[], 0, #[], 0, #[], false⟩⟩
def partCells (p : Part) : List Value := [fnV p.pass p.passC, fnV p.tell p.tellC, fnV p.read p.readC, .bool p.name]

/-- the four variables of groupsPart. -/
structure GrpB (W : World) (b c wd bs : Nat) (sp : UInt8) : Prop where
  cnt : W.heap[b]? = some (.cells #[.int .i64 c] 3 (0, 0))
  wid : W.heap[b + 1]? = some (.cells #[.int .i64 wd] 3 (0, 0))
  bas : W.heap[b + 2]? = some (.cells #[.int .i64 bs] 3 (0, 0))
  btw : W.heap[b + 3]? = some (.cells #[.string ⟨#[sp]⟩] 9 (0, 0))

def numPt (b : Nat) : Part := ⟨99, #[boxV b], 100, #[], 102, #[boxV b], false⟩
def namePt : Part := ⟨109, #[], 110, #[], 111, #[], true⟩
def typePt : Part := ⟨120, #[], 121, #[], 123, #[], false⟩
def hexPt : Part := ⟨115, #[], 117, #[], 118, #[], false⟩
def saltPt : Part := ⟨128, #[], 129, #[], 130, #[], false⟩
def hashPt : Part := ⟨131, #[], 132, #[], 134, #[], false⟩
def typesPt : Part := ⟨125, #[], 126, #[], 127, #[], false⟩

/-- a part is of this kind; what it captured lies at n₀ or behind. -/
def PartIs (n₀ : Nat) (W : World) (p : Part) : PK → Prop
  | .num n => ∃ b, n₀ ≤ b ∧ p = numPt b ∧ n ≤ 100 ∧ W.heap[b]? = some (.cells #[.int .i64 n] 3 (0, 0))
  | .grp c w b s => ∃ x, n₀ ≤ x ∧ p = aPart x ∧ c * w ≤ 100 ∧ GrpB W x c w b s
  | .name => p = namePt
  | .type => p = typePt
  | .hex => p = hexPt
  | .salt => p = saltPt
  | .hash => p = hashPt
  | .types => p = typesPt
  | .any => p = otherPart
  | .strs => p = txtPart
def ArePts (n₀ : Nat) (W : World) : List Part → List PK → Prop
  | [], [] => True
  | p :: ps, k :: F => PartIs n₀ W p k ∧ ArePts n₀ W ps F
  | _, _ => False
theorem ArePts.len {n₀ : Nat} {W : World} : ∀ {ps : List Part} {F : List PK}, ArePts n₀ W ps F → ps.length = F.length
  | [], [], _ => rfl
  | p :: ps, k :: F, h => by have := ArePts.len h.2; simp [this]
  | [], _ :: _, h => h.elim
  | _ :: _, [], h => h.elim
theorem ArePts.at {n₀ : Nat} {W : World} : ∀ {ps : List Part} {F : List PK}, ArePts n₀ W ps F → ∀ (j : Nat) (k : PK), F[j]? = some k → PartIs n₀ W (ps.getD j default) k
  | [], [], _, j, k, h => by simp at h
  | p :: ps, q :: F, h, 0, k, hk => by simp at hk; subst hk; exact h.1
  | p :: ps, q :: F, h, j + 1, k, hk => by
    have := ArePts.at h.2 j k (by simpa using hk)
    simpa using this
  | [], _ :: _, h, _, _, _ => h.elim
  | _ :: _, [], h, _, _, _ => h.elim

theorem flat_at : ∀ (ps : List Part) (k j : Nat), k < ps.length → j < 4 → (ps.flatMap partCells)[k * 4 + j]? = (partCells (ps.getD k default))[j]?
  | [], k, j, h, _ => by simp at h
  | p :: ps, 0, j, _, hj => by
    rw [List.flatMap_cons, List.getElem?_append_left (by simp [partCells]; omega)]
    simp
  | p :: ps, k + 1, j, h, hj => by
    rw [List.flatMap_cons, List.getElem?_append_right (by simp [partCells]; omega)]
    have := flat_at ps k j (by simpa using h) hj
    rw [show (k + 1) * 4 + j - (partCells p).length = k * 4 + j by simp [partCells]; omega, this]
    simp
theorem parts_in {W : World} {g : Nat} {ps : List Part} (h : W.heap[g]? = some (.cells (ps.flatMap partCells).toArray 128 (0, 0))) : PartsIn W g ps.length (fun k => ps.getD k default) := by
  have key : ∀ k j, k < ps.length → j < 4 → W.cell? ⟨g, k * 4 + j, none⟩ = (partCells (ps.getD k default))[j]? := by
    intro k j hk hj
    rw [← flat_at ps k j hk hj]
    simp [World.cell?, h]
  refine ⟨fun _ => box_lt h, fun k hk => ?_, fun k hk => ?_, fun k hk => ?_, fun k hk => ?_⟩
  · exact key k 0 hk (by omega)
  · exact key k 1 hk (by omega)
  · exact key k 2 hk (by omega)
  · exact key k 3 hk (by omega)

/-- what partsOf hands back. -/
def RawPost (F : List PK) (w : World) (e : Ending) (w' : World) : Prop :=
  ∃ g ps, e = .returned (.slice (some ⟨g, 0, none⟩) F.length F.length) ∧ w.heap.size ≤ g ∧ w'.heap[g]? = some (.cells (ps.flatMap partCells).toArray 128 (0, 0)) ∧ ArePts w.heap.size w' ps F ∧ Below w.heap.size w w'

abbrev namePa : Array Value := #[fnV 109 #[], fnV 110 #[], fnV 111 #[], .bool true]
abbrev typePa : Array Value := #[fnV 120 #[], fnV 121 #[], fnV 123 #[], .bool false]
abbrev hexPa : Array Value := #[fnV 115 #[], fnV 117 #[], fnV 118 #[], .bool false]
abbrev saltPa : Array Value := #[fnV 128 #[], fnV 129 #[], fnV 130 #[], .bool false]
abbrev hashPa : Array Value := #[fnV 131 #[], fnV 132 #[], fnV 134 #[], .bool false]
abbrev typesPa : Array Value := #[fnV 125 #[], fnV 126 #[], fnV 127 #[], .bool false]
theorem namePart_in (w : World) : Calls Tryz.prog 83 #[] w fun e w' => e = .returned (.agg namePa) ∧ Below w.heap.size w w' := by
  have hmf := mkf
  go_enter Tryz.func83, Tryz.ntmps83
  go_wp2
  exact bodyPost_ret (v := .agg namePa) (by simp [results, Tryz.results83, go_sem]) rfl ⟨rfl, by first | exact (Below.refl _ _).alloc (Nat.le_refl _) _ | exact Below.refl _ _⟩
theorem typePart_in (w : World) : Calls Tryz.prog 86 #[] w fun e w' => e = .returned (.agg typePa) ∧ Below w.heap.size w w' := by
  have hmf := mkf
  go_enter Tryz.func86, Tryz.ntmps86
  go_wp2
  exact bodyPost_ret (v := .agg typePa) (by simp [results, Tryz.results86, go_sem]) rfl ⟨rfl, by first | exact (Below.refl _ _).alloc (Nat.le_refl _) _ | exact Below.refl _ _⟩
theorem hexPart_in (w : World) : Calls Tryz.prog 85 #[] w fun e w' => e = .returned (.agg hexPa) ∧ Below w.heap.size w w' := by
  have hmf := mkf
  go_enter Tryz.func85, Tryz.ntmps85
  go_wp2
  exact bodyPost_ret (v := .agg hexPa) (by simp [results, Tryz.results85, go_sem]) rfl ⟨rfl, by first | exact (Below.refl _ _).alloc (Nat.le_refl _) _ | exact Below.refl _ _⟩
theorem saltPart_in (w : World) : Calls Tryz.prog 88 #[] w fun e w' => e = .returned (.agg saltPa) ∧ Below w.heap.size w w' := by
  have hmf := mkf
  go_enter Tryz.func88, Tryz.ntmps88
  go_wp2
  exact bodyPost_ret (v := .agg saltPa) (by simp [results, Tryz.results88, go_sem]) rfl ⟨rfl, by first | exact (Below.refl _ _).alloc (Nat.le_refl _) _ | exact Below.refl _ _⟩
theorem hashPart_in (w : World) : Calls Tryz.prog 89 #[] w fun e w' => e = .returned (.agg hashPa) ∧ Below w.heap.size w w' := by
  have hmf := mkf
  go_enter Tryz.func89, Tryz.ntmps89
  go_wp2
  exact bodyPost_ret (v := .agg hashPa) (by simp [results, Tryz.results89, go_sem]) rfl ⟨rfl, by first | exact (Below.refl _ _).alloc (Nat.le_refl _) _ | exact Below.refl _ _⟩
theorem typesPart_in (w : World) : Calls Tryz.prog 87 #[] w fun e w' => e = .returned (.agg typesPa) ∧ Below w.heap.size w w' := by
  have hmf := mkf
  go_enter Tryz.func87, Tryz.ntmps87
  go_wp2
  exact bodyPost_ret (v := .agg typesPa) (by simp [results, Tryz.results87, go_sem]) rfl ⟨rfl, by first | exact (Below.refl _ _).alloc (Nat.le_refl _) _ | exact Below.refl _ _⟩

/-- the variables of partsOf behind its first row: the three parts of numbers. -/
structure Three (w W : World) (n : Nat) (b1 b2 b3 : Nat) : Prop where
  l1 : w.heap.size ≤ b1
  l2 : w.heap.size ≤ b2
  l3 : w.heap.size ≤ b3
  o1 : W.heap[b1]? = some (.cells #[.int .i64 1] 3 (0, 0))
  o2 : W.heap[b2]? = some (.cells #[.int .i64 2] 3 (0, 0))
  o3 : W.heap[b3]? = some (.cells #[.int .i64 4] 3 (0, 0))
  p1 : W.heap[n]? = some (.cells (numP b1) 128 (0, 0))
  p2 : W.heap[n + 1]? = some (.cells (numP b2) 128 (0, 0))
  p3 : W.heap[n + 1 + 1]? = some (.cells (numP b3) 128 (0, 0))
  bl : Below w.heap.size w W
theorem Three.below {w W W' : World} {n b1 b2 b3 : Nat} (h : Three w W n b1 b2 b3) (hb : Below W.heap.size W W') : Three w W' n b1 b2 b3 :=
  ⟨h.l1, h.l2, h.l3, (hb.block _ (box_lt h.o1)).trans h.o1, (hb.block _ (box_lt h.o2)).trans h.o2, (hb.block _ (box_lt h.o3)).trans h.o3, (hb.block _ (box_lt h.p1)).trans h.p1, (hb.block _ (box_lt h.p2)).trans h.p2, (hb.block _ (box_lt h.p3)).trans h.p3, h.bl.trans (hb.mono h.bl.size)⟩
theorem cells4 {W : World} {g b : Nat} (h : W.heap[g]? = some (.cells (numP b) 128 (0, 0))) : W.cell? ⟨g, 0, none⟩ = some (fnV 99 #[boxV b]) ∧ W.cell? ⟨g, 1, none⟩ = some (fnV 100 #[]) ∧ W.cell? ⟨g, 2, none⟩ = some (fnV 102 #[boxV b]) ∧ W.cell? ⟨g, 3, none⟩ = some (.bool false) := by
  simp [World.cell?, h]
theorem three_of {w w1 w2 w3 : World} (h1 : w1.heap[w.heap.size]? = some (.cells #[.int .i64 1] 3 (0, 0))) (hb1 : Below w.heap.size w w1) (h2 : w2.heap[w1.heap.size]? = some (.cells #[.int .i64 2] 3 (0, 0))) (hb2 : Below w1.heap.size w1 w2)
    (h3 : w3.heap[w2.heap.size]? = some (.cells #[.int .i64 4] 3 (0, 0))) (hb3 : Below w2.heap.size w2 w3) :
    Three w (((w3.alloc (.cells (numP w.heap.size) 128)).alloc (.cells (numP w1.heap.size) 128)).alloc (.cells (numP w2.heap.size) 128)) w3.heap.size w.heap.size w1.heap.size w2.heap.size := by
  have q3 : Below w3.heap.size w3 (((w3.alloc (.cells (numP w.heap.size) 128)).alloc (.cells (numP w1.heap.size) 128)).alloc (.cells (numP w2.heap.size) 128)) := (((Below.refl _ _).alloc (Nat.le_refl _) _).alloc (by simp) _).alloc (by simp; omega) _
  have k3 : Below w.heap.size w w3 := bth (bth hb1 hb2 hb1.size) hb3 (Nat.le_trans hb1.size hb2.size)
  have e1 := (hb3.block _ (Nat.lt_of_lt_of_le (box_lt h1) hb2.size)).trans ((hb2.block _ (box_lt h1)).trans h1)
  have e2 := (hb3.block _ (box_lt h2)).trans h2
  refine ⟨Nat.le_refl _, hb1.size, Nat.le_trans hb1.size hb2.size, (q3.block _ (box_lt e1)).trans e1, (q3.block _ (box_lt e2)).trans e2, (q3.block _ (box_lt h3)).trans h3, ?_, ?_, ?_, k3.trans (q3.mono k3.size)⟩
  · rw [alloc_old _ _ _ (by simp; omega), alloc_old _ _ _ (by simp)]; exact heap_new _ _
  · rw [alloc_old _ _ _ (by simp)]
    have := heap_new (w3.alloc (.cells (numP w.heap.size) 128)) (.cells (numP w1.heap.size) 128)
    rwa [World.size_alloc] at this
  · have := heap_new ((w3.alloc (.cells (numP w.heap.size) 128)).alloc (.cells (numP w1.heap.size) 128)) (.cells (numP w2.heap.size) 128)
    rwa [World.size_alloc, World.size_alloc] at this

set_option maxRecDepth 100000 in
theorem raw_name (k : Int) (hk : k = 2 ∨ k = 5 ∨ k = 39) (w : World) : Calls Tryz.prog 65 #[.int .i64 k] w fun e w' => RawPost [.name] w e w' := by
  have hmf := mkf
  rcases hk with rfl | rfl | rfl
  all_goals
    go_enter Tryz.func65, Tryz.ntmps65
    go_wp2_with fail
    refine (numberPart_in _ _).mono ?_
    rintro e w1 ⟨rfl, ho1, hb1⟩
    go_wp2_with fail
    refine (numberPart_in _ _).mono ?_
    rintro e w2 ⟨rfl, ho2, hb2⟩
    go_wp2_with fail
    refine (numberPart_in _ _).mono ?_
    rintro e w3 ⟨rfl, ho3, hb3⟩
    have HT := Hid.mk (three_of ho1 hb1 ho2 hb2 ho3 hb3)
    clear ho1 ho2 ho3 hb1 hb2 hb3
    go_wp2_with fail
    refine (namePart_in _).mono ?_
    rintro e w4 ⟨rfl, hb4⟩
    have h4 := HT.out.below hb4
    have hs4 := h4.bl.size
    go_wp2
    go_ret
    exact ⟨w4.heap.size, [namePt], rfl, hs4, heap_new _ _, ⟨rfl, trivial⟩, h4.bl.alloc hs4 _⟩

theorem Three.drew {w W : World} {n b1 b2 b3 : Nat} (h : Three w W n b1 b2 b3) : Three w W.drew n b1 b2 b3 := ⟨h.l1, h.l2, h.l3, h.o1, h.o2, h.o3, h.p1, h.p2, h.p3, h.bl.drew⟩
theorem Three.num1 {w W : World} {n b1 b2 b3 : Nat} (h : Three w W n b1 b2 b3) (o : Obj) : PartIs w.heap.size (W.alloc o) (numPt b1) (.num 1) := ⟨b1, h.l1, rfl, by omega, (alloc_old _ _ _ (box_lt h.o1)).trans h.o1⟩
theorem Three.num2 {w W : World} {n b1 b2 b3 : Nat} (h : Three w W n b1 b2 b3) (o : Obj) : PartIs w.heap.size (W.alloc o) (numPt b2) (.num 2) := ⟨b2, h.l2, rfl, by omega, (alloc_old _ _ _ (box_lt h.o2)).trans h.o2⟩
theorem Three.num4 {w W : World} {n b1 b2 b3 : Nat} (h : Three w W n b1 b2 b3) (o : Obj) : PartIs w.heap.size (W.alloc o) (numPt b3) (.num 4) := ⟨b3, h.l3, rfl, by omega, (alloc_old _ _ _ (box_lt h.o3)).trans h.o3⟩

set_option maxRecDepth 100000 in
set_option maxHeartbeats 4000000 in
theorem raw_MX (w : World) : Calls Tryz.prog 65 #[.int .i64 15] w fun e w' => RawPost [.num 2, .name] w e w' := by
  have hmf := mkf
  have hmo : Tryz.prog.follows Departure.mixedOrders = true := by kernel_rfl
  go_enter Tryz.func65, Tryz.ntmps65
  go_wp2_with fail
  refine (numberPart_in _ _).mono ?_
  rintro e w1 ⟨rfl, ho1, hb1⟩
  go_wp2_with fail
  refine (numberPart_in _ _).mono ?_
  rintro e w2 ⟨rfl, ho2, hb2⟩
  go_wp2_with fail
  refine (numberPart_in _ _).mono ?_
  rintro e w3 ⟨rfl, ho3, hb3⟩
  have T := three_of ho1 hb1 ho2 hb2 ho3 hb3
  clear ho1 ho2 ho3 hb1 hb2 hb3
  go_wp2
  obtain ⟨WB, hWB⟩ : ∃ WB, WB = (((w3.alloc (.cells (numP w.heap.size) 128)).alloc (.cells (numP w1.heap.size) 128)).alloc (.cells (numP w2.heap.size) 128)) := ⟨_, rfl⟩
  rw [← hWB] at T
  rw [← hWB]
  clear hWB
  have HL : Hid (∀ (G : Prop) (A B : World), Three w A w3.heap.size w.heap.size w1.heap.size w2.heap.size → Below A.heap.size A B → (Three w B w3.heap.size w.heap.size w1.heap.size w2.heap.size → B.cell? ⟨w3.heap.size + 1, 0, none⟩ = some (fnV 99 #[boxV (w1.heap.size)]) → B.cell? ⟨w3.heap.size + 1, 1, none⟩ = some (fnV 100 #[]) → B.cell? ⟨w3.heap.size + 1, 2, none⟩ = some (fnV 102 #[boxV (w1.heap.size)]) → B.cell? ⟨w3.heap.size + 1, 3, none⟩ = some (.bool false) → G) → G) := by
    intro G A B hT hB hG
    have hT' := hT.below hB
    exact hG hT' (cells4 hT'.p2).1 (cells4 hT'.p2).2.1 (cells4 hT'.p2).2.2.1 (cells4 hT'.p2).2.2.2
  obtain ⟨a20, a21, a22, a23⟩ := cells4 T.p2
  have T0 := T.drew
  go_region_held3 (fun w' => w'.cell? ⟨w3.heap.size + 1, 0, none⟩ = some (fnV 99 #[boxV (w1.heap.size)]) ∧ w'.cell? ⟨w3.heap.size + 1, 1, none⟩ = some (fnV 100 #[]) ∧ w'.cell? ⟨w3.heap.size + 1, 2, none⟩ = some (fnV 102 #[boxV (w1.heap.size)]) ∧ w'.cell? ⟨w3.heap.size + 1, 3, none⟩ = some (.bool false)) (first | ((repeat' apply And.intro) <;> assumption) | go_keep)
    (first | (go_at_call 83; refine (namePart_in _).mono ?_; rintro e x1 ⟨rfl, hx1⟩; refine HL.out _ _ x1 T0 hx1 ?_; intro T1 d20_1 d21_1 d22_1 d23_1))
  have hs1 := T1.bl.size
  go_wp2
  go_ret
  refine ⟨x1.heap.size, [numPt w1.heap.size, namePt], rfl, hs1, ?_, ⟨T1.num2 _, rfl, trivial⟩, T1.bl.alloc hs1 _⟩
  simp only [List.flatMap_cons, List.flatMap_nil, partCells, namePt, numPt, typePt, hexPt, saltPt, hashPt, typesPt, List.cons_append, List.nil_append, List.append_nil]
  exact heap_new _ _

end Go.Proofs.YtdhcbaennpediaaGreatDoor

/- partsOf: the form of SOA. -/
namespace Go.Proofs.YtdhcbaennpediaaGreatDoor
set_option linter.unusedVariables false
set_option linter.unusedSimpArgs false
open Go.RowKit

set_option maxRecDepth 100000 in
set_option maxHeartbeats 4000000 in
theorem raw_SOA (w : World) : Calls Tryz.prog 65 #[.int .i64 6] w fun e w' => RawPost [.name, .name, .num 4, .num 4, .num 4, .num 4, .num 4] w e w' := by
  have hmf := mkf
  have hmo : Tryz.prog.follows Departure.mixedOrders = true := by kernel_rfl
  go_enter Tryz.func65, Tryz.ntmps65
  go_wp2_with fail
  refine (numberPart_in _ _).mono ?_
  rintro e w1 ⟨rfl, ho1, hb1⟩
  go_wp2_with fail
  refine (numberPart_in _ _).mono ?_
  rintro e w2 ⟨rfl, ho2, hb2⟩
  go_wp2_with fail
  refine (numberPart_in _ _).mono ?_
  rintro e w3 ⟨rfl, ho3, hb3⟩
  have T := three_of ho1 hb1 ho2 hb2 ho3 hb3
  clear ho1 ho2 ho3 hb1 hb2 hb3
  go_wp2
  obtain ⟨WB, hWB⟩ : ∃ WB, WB = (((w3.alloc (.cells (numP w.heap.size) 128)).alloc (.cells (numP w1.heap.size) 128)).alloc (.cells (numP w2.heap.size) 128)) := ⟨_, rfl⟩
  rw [← hWB] at T
  rw [← hWB]
  clear hWB
  have HL : Hid (∀ (G : Prop) (A B : World), Three w A w3.heap.size w.heap.size w1.heap.size w2.heap.size → Below A.heap.size A B → (Three w B w3.heap.size w.heap.size w1.heap.size w2.heap.size → B.cell? ⟨w3.heap.size + 1 + 1, 0, none⟩ = some (fnV 99 #[boxV (w2.heap.size)]) → B.cell? ⟨w3.heap.size + 1 + 1, 1, none⟩ = some (fnV 100 #[]) → B.cell? ⟨w3.heap.size + 1 + 1, 2, none⟩ = some (fnV 102 #[boxV (w2.heap.size)]) → B.cell? ⟨w3.heap.size + 1 + 1, 3, none⟩ = some (.bool false) → G) → G) := by
    intro G A B hT hB hG
    have hT' := hT.below hB
    exact hG hT' (cells4 hT'.p3).1 (cells4 hT'.p3).2.1 (cells4 hT'.p3).2.2.1 (cells4 hT'.p3).2.2.2
  obtain ⟨a30, a31, a32, a33⟩ := cells4 T.p3
  have T0 := T.drew
  go_region_held3 (fun w' => w'.cell? ⟨w3.heap.size + 1 + 1, 0, none⟩ = some (fnV 99 #[boxV (w2.heap.size)]) ∧ w'.cell? ⟨w3.heap.size + 1 + 1, 1, none⟩ = some (fnV 100 #[]) ∧ w'.cell? ⟨w3.heap.size + 1 + 1, 2, none⟩ = some (fnV 102 #[boxV (w2.heap.size)]) ∧ w'.cell? ⟨w3.heap.size + 1 + 1, 3, none⟩ = some (.bool false)) (first | ((repeat' apply And.intro) <;> assumption) | go_keep)
    (first | (go_at_call 83; refine (namePart_in _).mono ?_; rintro e x2 ⟨rfl, hx2⟩; refine HL.out _ _ x2 T1 hx2 ?_; intro T2 d30_2 d31_2 d32_2 d33_2) | (go_at_call 83; refine (namePart_in _).mono ?_; rintro e x1 ⟨rfl, hx1⟩; refine HL.out _ _ x1 T0 hx1 ?_; intro T1 d30_1 d31_1 d32_1 d33_1))
  have hs2 := T2.bl.size
  go_wp2
  go_ret
  refine ⟨x2.heap.size, [namePt, namePt, numPt w2.heap.size, numPt w2.heap.size, numPt w2.heap.size, numPt w2.heap.size, numPt w2.heap.size], rfl, hs2, ?_, ⟨rfl, rfl, T2.num4 _, T2.num4 _, T2.num4 _, T2.num4 _, T2.num4 _, trivial⟩, T2.bl.alloc hs2 _⟩
  simp only [List.flatMap_cons, List.flatMap_nil, partCells, namePt, numPt, typePt, hexPt, saltPt, hashPt, typesPt, List.cons_append, List.nil_append, List.append_nil]
  exact heap_new _ _

end Go.Proofs.YtdhcbaennpediaaGreatDoor

/- partsOf: the forms of DS and DNSKEY. -/
namespace Go.Proofs.YtdhcbaennpediaaGreatDoor
set_option linter.unusedVariables false
set_option linter.unusedSimpArgs false
open Go.RowKit

set_option maxRecDepth 100000 in
set_option maxHeartbeats 4000000 in
theorem raw_DS (w : World) : Calls Tryz.prog 65 #[.int .i64 43] w fun e w' => RawPost [.num 2, .num 1, .num 1, .hex] w e w' := by
  have hmf := mkf
  have hmo : Tryz.prog.follows Departure.mixedOrders = true := by kernel_rfl
  go_enter Tryz.func65, Tryz.ntmps65
  go_wp2_with fail
  refine (numberPart_in _ _).mono ?_
  rintro e w1 ⟨rfl, ho1, hb1⟩
  go_wp2_with fail
  refine (numberPart_in _ _).mono ?_
  rintro e w2 ⟨rfl, ho2, hb2⟩
  go_wp2_with fail
  refine (numberPart_in _ _).mono ?_
  rintro e w3 ⟨rfl, ho3, hb3⟩
  have T := three_of ho1 hb1 ho2 hb2 ho3 hb3
  clear ho1 ho2 ho3 hb1 hb2 hb3
  go_wp2
  obtain ⟨WB, hWB⟩ : ∃ WB, WB = (((w3.alloc (.cells (numP w.heap.size) 128)).alloc (.cells (numP w1.heap.size) 128)).alloc (.cells (numP w2.heap.size) 128)) := ⟨_, rfl⟩
  rw [← hWB] at T
  rw [← hWB]
  clear hWB
  have HL : Hid (∀ (G : Prop) (A B : World), Three w A w3.heap.size w.heap.size w1.heap.size w2.heap.size → Below A.heap.size A B → (Three w B w3.heap.size w.heap.size w1.heap.size w2.heap.size → B.cell? ⟨w3.heap.size, 0, none⟩ = some (fnV 99 #[boxV (w.heap.size)]) → B.cell? ⟨w3.heap.size, 1, none⟩ = some (fnV 100 #[]) → B.cell? ⟨w3.heap.size, 2, none⟩ = some (fnV 102 #[boxV (w.heap.size)]) → B.cell? ⟨w3.heap.size, 3, none⟩ = some (.bool false) → B.cell? ⟨w3.heap.size + 1, 0, none⟩ = some (fnV 99 #[boxV (w1.heap.size)]) → B.cell? ⟨w3.heap.size + 1, 1, none⟩ = some (fnV 100 #[]) → B.cell? ⟨w3.heap.size + 1, 2, none⟩ = some (fnV 102 #[boxV (w1.heap.size)]) → B.cell? ⟨w3.heap.size + 1, 3, none⟩ = some (.bool false) → G) → G) := by
    intro G A B hT hB hG
    have hT' := hT.below hB
    exact hG hT' (cells4 hT'.p1).1 (cells4 hT'.p1).2.1 (cells4 hT'.p1).2.2.1 (cells4 hT'.p1).2.2.2 (cells4 hT'.p2).1 (cells4 hT'.p2).2.1 (cells4 hT'.p2).2.2.1 (cells4 hT'.p2).2.2.2
  obtain ⟨a10, a11, a12, a13⟩ := cells4 T.p1
  obtain ⟨a20, a21, a22, a23⟩ := cells4 T.p2
  have T0 := T.drew
  go_region_held3 (fun w' => w'.cell? ⟨w3.heap.size, 0, none⟩ = some (fnV 99 #[boxV (w.heap.size)]) ∧ w'.cell? ⟨w3.heap.size, 1, none⟩ = some (fnV 100 #[]) ∧ w'.cell? ⟨w3.heap.size, 2, none⟩ = some (fnV 102 #[boxV (w.heap.size)]) ∧ w'.cell? ⟨w3.heap.size, 3, none⟩ = some (.bool false) ∧ w'.cell? ⟨w3.heap.size + 1, 0, none⟩ = some (fnV 99 #[boxV (w1.heap.size)]) ∧ w'.cell? ⟨w3.heap.size + 1, 1, none⟩ = some (fnV 100 #[]) ∧ w'.cell? ⟨w3.heap.size + 1, 2, none⟩ = some (fnV 102 #[boxV (w1.heap.size)]) ∧ w'.cell? ⟨w3.heap.size + 1, 3, none⟩ = some (.bool false)) (first | ((repeat' apply And.intro) <;> assumption) | go_keep)
    (first | (go_at_call 85; refine (hexPart_in _).mono ?_; rintro e x1 ⟨rfl, hx1⟩; refine HL.out _ _ x1 T0 hx1 ?_; intro T1 d10_1 d11_1 d12_1 d13_1 d20_1 d21_1 d22_1 d23_1))
  have hs1 := T1.bl.size
  go_wp2
  go_ret
  refine ⟨x1.heap.size, [numPt w1.heap.size, numPt w.heap.size, numPt w.heap.size, hexPt], rfl, hs1, ?_, ⟨T1.num2 _, T1.num1 _, T1.num1 _, rfl, trivial⟩, T1.bl.alloc hs1 _⟩
  simp only [List.flatMap_cons, List.flatMap_nil, partCells, namePt, numPt, typePt, hexPt, saltPt, hashPt, typesPt, List.cons_append, List.nil_append, List.append_nil]
  exact heap_new _ _

set_option maxRecDepth 100000 in
set_option maxHeartbeats 4000000 in
theorem raw_KEY (w : World) : Calls Tryz.prog 65 #[.int .i64 48] w fun e w' => RawPost [.num 2, .num 1, .num 1, .hex] w e w' := by
  have hmf := mkf
  have hmo : Tryz.prog.follows Departure.mixedOrders = true := by kernel_rfl
  go_enter Tryz.func65, Tryz.ntmps65
  go_wp2_with fail
  refine (numberPart_in _ _).mono ?_
  rintro e w1 ⟨rfl, ho1, hb1⟩
  go_wp2_with fail
  refine (numberPart_in _ _).mono ?_
  rintro e w2 ⟨rfl, ho2, hb2⟩
  go_wp2_with fail
  refine (numberPart_in _ _).mono ?_
  rintro e w3 ⟨rfl, ho3, hb3⟩
  have T := three_of ho1 hb1 ho2 hb2 ho3 hb3
  clear ho1 ho2 ho3 hb1 hb2 hb3
  go_wp2
  obtain ⟨WB, hWB⟩ : ∃ WB, WB = (((w3.alloc (.cells (numP w.heap.size) 128)).alloc (.cells (numP w1.heap.size) 128)).alloc (.cells (numP w2.heap.size) 128)) := ⟨_, rfl⟩
  rw [← hWB] at T
  rw [← hWB]
  clear hWB
  have HL : Hid (∀ (G : Prop) (A B : World), Three w A w3.heap.size w.heap.size w1.heap.size w2.heap.size → Below A.heap.size A B → (Three w B w3.heap.size w.heap.size w1.heap.size w2.heap.size → B.cell? ⟨w3.heap.size, 0, none⟩ = some (fnV 99 #[boxV (w.heap.size)]) → B.cell? ⟨w3.heap.size, 1, none⟩ = some (fnV 100 #[]) → B.cell? ⟨w3.heap.size, 2, none⟩ = some (fnV 102 #[boxV (w.heap.size)]) → B.cell? ⟨w3.heap.size, 3, none⟩ = some (.bool false) → B.cell? ⟨w3.heap.size + 1, 0, none⟩ = some (fnV 99 #[boxV (w1.heap.size)]) → B.cell? ⟨w3.heap.size + 1, 1, none⟩ = some (fnV 100 #[]) → B.cell? ⟨w3.heap.size + 1, 2, none⟩ = some (fnV 102 #[boxV (w1.heap.size)]) → B.cell? ⟨w3.heap.size + 1, 3, none⟩ = some (.bool false) → G) → G) := by
    intro G A B hT hB hG
    have hT' := hT.below hB
    exact hG hT' (cells4 hT'.p1).1 (cells4 hT'.p1).2.1 (cells4 hT'.p1).2.2.1 (cells4 hT'.p1).2.2.2 (cells4 hT'.p2).1 (cells4 hT'.p2).2.1 (cells4 hT'.p2).2.2.1 (cells4 hT'.p2).2.2.2
  obtain ⟨a10, a11, a12, a13⟩ := cells4 T.p1
  obtain ⟨a20, a21, a22, a23⟩ := cells4 T.p2
  have T0 := T.drew
  go_region_held3 (fun w' => w'.cell? ⟨w3.heap.size, 0, none⟩ = some (fnV 99 #[boxV (w.heap.size)]) ∧ w'.cell? ⟨w3.heap.size, 1, none⟩ = some (fnV 100 #[]) ∧ w'.cell? ⟨w3.heap.size, 2, none⟩ = some (fnV 102 #[boxV (w.heap.size)]) ∧ w'.cell? ⟨w3.heap.size, 3, none⟩ = some (.bool false) ∧ w'.cell? ⟨w3.heap.size + 1, 0, none⟩ = some (fnV 99 #[boxV (w1.heap.size)]) ∧ w'.cell? ⟨w3.heap.size + 1, 1, none⟩ = some (fnV 100 #[]) ∧ w'.cell? ⟨w3.heap.size + 1, 2, none⟩ = some (fnV 102 #[boxV (w1.heap.size)]) ∧ w'.cell? ⟨w3.heap.size + 1, 3, none⟩ = some (.bool false)) (first | ((repeat' apply And.intro) <;> assumption) | go_keep)
    (first | (go_at_call 85; refine (hexPart_in _).mono ?_; rintro e x1 ⟨rfl, hx1⟩; refine HL.out _ _ x1 T0 hx1 ?_; intro T1 d10_1 d11_1 d12_1 d13_1 d20_1 d21_1 d22_1 d23_1))
  have hs1 := T1.bl.size
  go_wp2
  go_ret
  refine ⟨x1.heap.size, [numPt w1.heap.size, numPt w.heap.size, numPt w.heap.size, hexPt], rfl, hs1, ?_, ⟨T1.num2 _, T1.num1 _, T1.num1 _, rfl, trivial⟩, T1.bl.alloc hs1 _⟩
  simp only [List.flatMap_cons, List.flatMap_nil, partCells, namePt, numPt, typePt, hexPt, saltPt, hashPt, typesPt, List.cons_append, List.nil_append, List.append_nil]
  exact heap_new _ _

end Go.Proofs.YtdhcbaennpediaaGreatDoor
