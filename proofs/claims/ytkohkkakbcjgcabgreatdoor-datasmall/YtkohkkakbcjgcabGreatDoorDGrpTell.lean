/- The form of A: how it is told. -/
import Derived.Deep.RegionHeld3
import Derived.Test.YtkohkkakbcjgcabGreatDoorDGroups
namespace Go.Proofs.YtkohkkakbcjgcabGreatDoor
set_option linter.unusedVariables false
open Go.RowKit

/-- the numbers of a piece, a byte each. -/
def grpW (l : List UInt8) : List ByteArray := l.map fun b => ⟨(Lib.decDigits b.toNat).toArray⟩

theorem cut_one (x : ByteArray) (m : Nat) (h : m < x.size) : ((x.extract m x.size).extract 0 1).data.toList = [x[m]] ∧ (x.extract m x.size).extract 1 (x.extract m x.size).size = x.extract (m + 1) x.size := by
  have hz : (x.extract m x.size).size = x.size - m := by rw [ByteArray.size_extract]; omega
  constructor
  · rw [ByteArray.extract_extract]
    have e : min (m + 1) x.size = m + 1 := by omega
    rw [Nat.add_zero, e, Lib.extract_data]
    have := List.drop_eq_getElem_cons (l := x.data.toList) (i := m) (by rw [size_list]; exact h)
    rw [this]; simp; rfl
  · rw [hz, ByteArray.extract_extract]; congr 1; omega

set_option maxRecDepth 100000 in
set_option maxHeartbeats 4000000 in
theorem grpTell_in (W : World) (b : Nat) (hb : GrpBoxes W b) (x : ByteArray) (hx : x.size = 4) (hp : Pow W) :
    Calls Tryz.prog 90 #[.string x, boxV b, boxV (b + 1), boxV (b + 2), boxV (b + 3)] W fun e w' => e = .returned (.string ⟨(Lib.join ((grpW x.data.toList).map (·.data.toList)) [46]).toArray⟩) ∧ Below W.heap.size W w' := by
  have hal : ∀ o, Below W.heap.size W (W.alloc o) := fun o => (Below.refl _ _).alloc (Nat.le_refl _) o
  have c0 : ∀ o, (W.alloc o).cell? ⟨b, 0, none⟩ = some (.int .i64 4) := fun o => box_cell (hb.below (hal o)).cnt
  obtain ⟨i0, hi, hz0, hz1, hz2⟩ := info_parts info9
  have hmo : Tryz.prog.follows Departure.mixedOrders = true := by kernel_rfl
  go_enter Tryz.func90, Tryz.ntmps90
  go_wp2
  go_loopw [8, 13] (fun gv i wr => ∃ m : Nat, m ≤ 4 ∧ i = .int .i64 m ∧ wr.ownsRow (W.heap.size + 1) 9 1 gv (grpW (x.data.toList.take m)).length (baV (grpW (x.data.toList.take m))) ∧ Rd wr W.heap.size (x.extract m x.size) ∧ Below W.heap.size W wr ∧ W.heap.size + 1 ≤ wr.heap.size) (fun _ i _ => 4 - (intOf i).toNat)
  case atStart =>
    refine ⟨0, by omega, rfl, World.ownsRow_nil .., ?_, hal _, by simp⟩
    have : x.extract 0 x.size = x := by simp
    rw [this]; exact heap_new _ _
  case round =>
    obtain ⟨m, hm, rfl, hrow, hrd, hbl, hsz⟩ := hrel
    by_cases hlt : m < 4
    · have hmx : m < x.size := by omega
      obtain ⟨hone, hrest⟩ := cut_one x m hmx
      have hb' : GrpBoxes wr b := hb.below hbl
      have d1 := box_cell hb'.wid
      have d2 := box_cell hb'.bas
      have hp' := hp.below hbl
      have hbW := box_lt hb.btw
      obtain ⟨one, hO⟩ : ∃ o, (x.extract m x.size).extract 0 1 = o := ⟨_, rfl⟩
      rw [hO] at hone
      have ho1 : one.size = 1 := by rw [← size_list, hone]; rfl
      have HTk : Hid (Calls Tryz.prog 56 #[boxV W.heap.size, .int .i64 1] wr.drew fun e w1 => e = .returned (.string one) ∧ Kept W.heap.size wr w1 ∧ Rd w1 W.heap.size (x.extract (m + 1) x.size)) := by
        have hz : (x.extract m x.size).size = x.size - m := by rw [ByteArray.size_extract]; omega
        have := take_yes wr.drew W.heap.size 1 (x.extract m x.size) (by rw [hz]; unfold maxLen; omega) hrd (by rw [hz]; omega)
        rw [hrest, hO] at this
        refine this.mono ?_
        rintro e w1 ⟨he, hw⟩
        subst hw
        exact ⟨he, ⟨rfl, rfl, rfl, (Kept.set W.heap.size 0 wr _).size, (Kept.set W.heap.size 0 wr _).same⟩, hrd.set _⟩
      have HTn : Hid (∀ w1, Pow w1 → Calls Tryz.prog 85 #[.string one, .int .i64 10] w1 fun e w2 => e = .returned (.string ⟨(Lib.decDigits x[m].toNat).toArray⟩) ∧ Below w1.heap.size w1 w2) := by
        intro w1 h1
        have := tellNum_in one (by omega) w1 h1
        rw [hone, show numB [x[m]] = x[m].toNat by simp [numB]] at this
        exact this
      have HL1 : Hid (∀ (G : Prop) (w1 : World), Kept W.heap.size wr w1 → Rd w1 W.heap.size (x.extract (m + 1) x.size) → (w1.cell? ⟨b + 1, 0, none⟩ = some (.int .i64 1) → w1.cell? ⟨b + 2, 0, none⟩ = some (.int .i64 10) → Pow w1 → G) → G) := by
        intro G w1 hk hr hG
        have hbl1 : Below W.heap.size W w1 := hbl.trans (hk.below (Nat.le_refl _) (by omega))
        have hb1 := hb.below hbl1
        exact hG (box_cell hb1.wid) (box_cell hb1.bas) (hp.below hbl1)
      have HL2 : Hid (∀ (G : Prop) (w1 w2 : World), Kept W.heap.size wr w1 → Rd w1 W.heap.size (x.extract (m + 1) x.size) → Below w1.heap.size w1 w2 → (w2.cell? ⟨b + 1, 0, none⟩ = some (.int .i64 1) → w2.cell? ⟨b + 2, 0, none⟩ = some (.int .i64 10) → w2.ownsRow (W.heap.size + 1) 9 1 u8 (grpW (x.data.toList.take m)).length (baV (grpW (x.data.toList.take m))) → Rd w2 W.heap.size (x.extract (m + 1) x.size) → Below W.heap.size W w2 → W.heap.size + 1 ≤ w2.heap.size → (∀ o, (w2.alloc o).cell? ⟨b + 1, 0, none⟩ = some (.int .i64 1)) → (∀ o, (w2.alloc o).cell? ⟨b + 2, 0, none⟩ = some (.int .i64 10)) → G) → G) := by
        intro G w1 w2 hk hr hb2 hG
        have hbl1 : Below W.heap.size W w1 := hbl.trans (hk.below (Nat.le_refl _) (by omega))
        have hs1 := Nat.le_trans hsz hk.size
        have hbl2 : Below W.heap.size W w2 := hbl1.trans (hb2.mono (by omega))
        have hb1 := hb.below hbl2
        have hrw1 := row_kept' hrow hk (by omega)
        have ha : ∀ o, GrpBoxes (w2.alloc o) b := fun o => hb1.below ((Below.refl _ _).alloc (Nat.le_refl _) o)
        exact hG (box_cell hb1.wid) (box_cell hb1.bas) (row_bel hrw1 hb2) (hr.below hb2) hbl2 (Nat.le_trans hs1 hb2.size) (fun o => box_cell (ha o).wid) (fun o => box_cell (ha o).bas)
      have HL3 : Hid (∀ (G : Prop) (n : Nat) (xs : List Value) (w2 w3 : World) (o : Obj), w2.ownsRow (W.heap.size + 1) 9 1 u8 n xs → Rd w2 W.heap.size (x.extract (m + 1) x.size) → Below W.heap.size W w2 → W.heap.size + 1 ≤ w2.heap.size → (w2.alloc o).grownBy w3 u8.ownBlock → (w3.cell? ⟨b + 1, 0, none⟩ = some (.int .i64 1) → w3.cell? ⟨b + 2, 0, none⟩ = some (.int .i64 10) → Rd w3 W.heap.size (x.extract (m + 1) x.size) → Below W.heap.size W w3 → W.heap.size + 1 ≤ w3.heap.size → G) → G) := by
        intro G n xs w2 w3 o hr hrd2 hbl2 hs2 hg hG
        have h3 : Below (W.heap.size + 1) w2 w3 := ((Below.refl _ w2).alloc hs2 o).grown hg (by simp; omega) (rowBaseB hr)
        have hbl3 : Below W.heap.size W w3 := hbl2.trans (h3.mono (by omega))
        have hb3 := hb.below hbl3
        exact hG (box_cell hb3.wid) (box_cell hb3.bas) ((h3.block _ (by omega)).trans hrd2) hbl3 (Nat.le_trans hs2 h3.size)
      have hgl : grpW (x.data.toList.take (m + 1)) = grpW (x.data.toList.take m) ++ [⟨(Lib.decDigits x[m].toNat).toArray⟩] := by
        rw [List.take_succ_eq_append_getElem (by rw [size_list]; exact hmx), grpW, List.map_append]; rfl
      have HGL := Hid.mk hgl
      have hgn : (grpW (x.data.toList.take m)).length ≤ 4 := by rw [grpW, List.length_map, List.length_take]; omega
      obtain ⟨tx, htx⟩ : ∃ t : ByteArray, (⟨(Lib.decDigits x[m].toNat).toArray⟩ : ByteArray) = t := ⟨_, rfl⟩
      rw [htx] at HTn HGL
      clear hgl hone hrest hO htx hb' hp'
      generalize grpW (x.data.toList.take m) = ws at hrow HL2 HGL hgn
      go_wp2
      go_region_held3 (fun w' => w'.cell? ⟨b + 1, 0, none⟩ = some (.int .i64 1) ∧ w'.cell? ⟨b + 2, 0, none⟩ = some (.int .i64 10)) (first | (constructor <;> assumption) | go_keep)
        (first
          | (go_at_call 56; refine HTk.out.mono ?_; rintro e w1 ⟨rfl, hk1, hr1⟩; refine HL1.out _ w1 hk1 hr1 ?_; intro e1 e2 hpw1)
          | (go_at_call 85; refine (HTn.out _ hpw1).mono ?_; rintro e w2 ⟨rfl, hb2⟩; refine HL2.out _ w1 w2 hk1 hr1 hb2 ?_; intro f1 f2 hrw2 hrd2 hbl2 hsz2 f3 f4)
          | (refine step_append_own rfl (.tmp 15) (.tmp 21) 61 rfl (W.heap.size + 1) 9 i0 (.string ⟨#[]⟩) 1 16 Tryz.underlying61 hi hz0 hz1 hz2 rfl (by decide) _ _ _ rfl (hrw2.alloc _) ⟨w2.heap.size, 0, none⟩ 1 1 [.string tx] rfl rfl (cell_one_new _ _ _) (by simp [Value.oneCell']) (by unfold maxLen; omega) (by omega) (by simp; omega) ?_; intro v1 w3 hown3 hgrow3; refine HL3.out _ _ _ w2 w3 _ hrw2 hrd2 hbl2 hsz2 hgrow3 ?_; intro g1 g2 hrd3 hbl3 hsz3))
      go_wp2
      have hrelN : ∃ j : Nat, j ≤ 4 ∧ Value.int .i64 ((m : Int) + 1) = .int .i64 j ∧ w3.ownsRow (W.heap.size + 1) 9 1 v1 (grpW (x.data.toList.take j)).length (baV (grpW (x.data.toList.take j))) ∧ Rd w3 W.heap.size (x.extract j x.size) ∧ Below W.heap.size W w3 ∧ W.heap.size + 1 ≤ w3.heap.size := by
        refine ⟨m + 1, by omega, by go_num, ?_, hrd3, hbl3, hsz3⟩
        rw [HGL.out, List.length_append, baV, List.map_append]; exact hown3
      exact ⟨hrelN, by simp [intOf]; omega⟩
    · obtain rfl : m = 4 := by omega
      have hall : x.data.toList.take 4 = x.data.toList := List.take_of_length_le (by rw [size_list]; omega)
      rw [hall] at hrow
      have hgn : (grpW x.data.toList).length = 4 := by rw [grpW, List.length_map, size_list, hx]
      have hjl := join_len [46] (grpW x.data.toList) 5 (fun y hy => by
        obtain ⟨c, _, rfl⟩ := List.mem_map.1 hy
        rw [ba_size]
        exact dec_len 4 c.toNat (by have := c.toNat_lt; omega))
      have HJ := Hid.mk (join_row ⟨#[46]⟩ hrow (by omega) (by
        refine Nat.le_trans hjl ?_
        rw [hgn]; decide))
      have d3 := box_cell (hb.below hbl).btw
      obtain ⟨qw, cw, hqw⟩ := row_as hrow
      subst hqw
      have hsW : W.heap.size ≤ wr.heap.size := by omega
      clear hall hjl hrow hgn
      go_wp2_with fail
      refine HJ.out.mono ?_
      rintro e w3 ⟨rfl, hb3⟩
      go_wp2
      go_ret
      exact ⟨rfl, hbl.trans (hb3.mono hsW)⟩

def aPart (b : Nat) : Part := ⟨89, #[boxV b, boxV (b + 1)], 90, #[boxV b, boxV (b + 1), boxV (b + 2), boxV (b + 3)], 91, #[boxV (b + 3), boxV b, boxV (b + 2), boxV (b + 1)], false⟩
/-- how four bytes are told. -/
def aT (x : ByteArray) : List UInt8 := Lib.join ((grpW x.data.toList).map (·.data.toList)) [46]
def aForm : Form := { n := 1, pf := aPf, tf := fun _ x => ⟨(aT x).toArray⟩, ok := fun _ x => x.size = 4 }

theorem form_A (w : World) (hp : Pow w) : Calls Tryz.prog 47 #[.int .i64 1] w fun e w' => FormPost aForm w e w' := by
  refine (partsOf_A w).mono ?_
  rintro e w1 ⟨g, b, hg, hgb, rfl, hc, hbx, hb⟩
  refine ⟨g, fun _ => aPart b, rfl, one_part hc, fun _ _ => enters_by Tryz.func89 (by kernel_rfl) rfl, ?_, hb, fun _ _ => enters_by Tryz.func90 (by kernel_rfl) rfl, ?_⟩
  · intro k _ W' d s' hb' _ hr hs
    exact grpPass_in W' b d (hbx.below hb') s' hs hr
  · intro k _ W' x hb' hx
    exact grpTell_in W' b (hbx.below hb') x hx ((hp.below hb).below hb')

theorem fin_A (s : ByteArray) (h : s.size = 4) : fin aPf 1 s = some [s] := by
  have e1 : s.extract 0 4 = s := by rw [← h]; simp
  simp [fin, cutP, aPf, h, e1]
theorem fin_A_no (s : ByteArray) (h : s.size ≠ 4) : fin aPf 1 s = none := by
  by_cases h4 : 4 ≤ s.size
  · have e2 : ¬ (s.size - 4 = 0) := by omega
    simp [fin, cutP, aPf, h4, e2]
  · simp [fin, cutP, aPf, h4]

theorem partsA (w : World) : Calls Tryz.prog 47 #[.int .i64 1] w fun e w' => PartsPost 1 aPf w e w' := by
  refine (partsOf_A w).mono ?_
  rintro e w1 ⟨g, b, hg, hgb, rfl, hc, hbx, hb⟩
  refine ⟨g, fun _ => aPart b, rfl, one_part hc, fun _ _ => enters_by Tryz.func89 (by kernel_rfl) rfl, ?_, hb⟩
  intro k _ W' d s' hb' _ hr hs
  exact grpPass_in W' b d (hbx.below hb') s' hs hr

theorem split_A (s : ByteArray) (hs : s.size = 4) (W : World) : Calls Tryz.prog 33 #[.int .i64 1, .string s] W fun e w' => SplitPost (some [s]) W e w' := by
  have := split_in W 1 (by omega) 1 (by omega) s (by omega) aPf (fun w => (partsA w).mono fun e w' h => h)
  rwa [fin_A s hs] at this
theorem split_A_no (s : ByteArray) (hs : s.size ≠ 4) (hl : s.size ≤ 2000) (W : World) : Calls Tryz.prog 33 #[.int .i64 1, .string s] W fun e w' => SplitPost none W e w' := by
  have := split_in W 1 (by omega) 1 (by omega) s hl aPf (fun w => (partsA w).mono fun e w' h => h)
  rwa [fin_A_no s hs] at this

theorem told_A (s : ByteArray) (hs : s.size = 4) (W : World) (hp : Pow W) :
    Calls Tryz.prog 31 #[.int .i64 1, .string s] W fun e w' => e = .returned (.tuple #[.string ⟨(aT s).toArray⟩, .bool true]) ∧ Below W.heap.size W w' := by
  have hgn : (grpW s.data.toList).length = 4 := by rw [grpW, List.length_map, size_list, hs]
  have hl : (aT s).length ≤ 24 := by
    have := join_len [46] (grpW s.data.toList) 5 (fun y hy => by
      obtain ⟨c, _, rfl⟩ := List.mem_map.1 hy
      rw [ba_size]
      exact dec_len 4 c.toNat (by have := c.toNat_lt; omega))
    rw [hgn] at this
    exact this
  have hpos : (aT s).length ≠ 0 := by
    intro h0
    have h1 : aT s = [] := List.length_eq_zero_iff.1 h0
    have h2 : ∀ l : List UInt8, l.length = 4 → (Lib.join ((grpW l).map (·.data.toList)) [46]) ≠ [] := by
      intro l hl
      match l, hl with
      | [a, b, c, d], _ =>
        simp only [grpW, List.map_cons, List.map_nil, Lib.join, List.intercalate]
        rw [List.intersperse_cons_cons]
        simp
    exact h2 s.data.toList (by rw [size_list]; exact hs) h1
  have h := told_in aForm (by decide) 1 s [s] rfl (fun j hj => by
      have : j = 0 := by simpa using hj
      subst this; exact hs) (fun j hj => by
      have : j = 0 := by simpa using hj
      subst this
      show (⟨(aT s).toArray⟩ : ByteArray).size ≤ 100000
      rw [ba_size]; omega) W (split_A s hs) (fun w hb => form_A w (hp.below hb))
  have hw : words aForm 0 [s] = [⟨(aT s).toArray⟩] := by
    have : ¬ (⟨(aT s).toArray⟩ : ByteArray).size = 0 := by rw [ba_size]; exact hpos
    simp only [words]
    exact if_neg this
  rw [hw] at h
  have hj : Lib.join ([(⟨(aT s).toArray⟩ : ByteArray)].map (·.data.toList)) [32] = aT s := Lib.join_one _ _
  rw [hj] at h
  exact h
end Go.Proofs.YtkohkkakbcjgcabGreatDoor
