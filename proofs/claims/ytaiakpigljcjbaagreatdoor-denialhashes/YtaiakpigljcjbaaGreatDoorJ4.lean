/- Texts of this proof, joined: DGroups, DGrpTell, DGlob, DUnder, DReads, DGrpRead. -/
import Derived.Test.YtaiakpigljcjbaaGreatDoorJ3
import Derived.Deep.RegionHeld3
/- The form of A: four numbers of a byte each. -/
namespace Go.Proofs.YtaiakpigljcjbaaGreatDoor
set_option linter.unusedVariables false
open Go.RowKit

abbrev grpP (b : Nat) : Array Value := #[fnV 150 #[boxV b, boxV (b + 1)], fnV 151 #[boxV b, boxV (b + 1), boxV (b + 2), boxV (b + 3)], fnV 153 #[boxV (b + 3), boxV b, boxV (b + 2), boxV (b + 1)], .bool false]

/-- the four variables of groupsPart for A. -/
structure GrpBoxes (W : World) (b : Nat) : Prop where
  cnt : W.heap[b]? = some (.cells #[.int .i64 4] 3 (0, 0))
  wid : W.heap[b + 1]? = some (.cells #[.int .i64 1] 3 (0, 0))
  bas : W.heap[b + 2]? = some (.cells #[.int .i64 10] 3 (0, 0))
  btw : W.heap[b + 3]? = some (.cells #[.string ⟨#[46]⟩] 9 (0, 0))
theorem GrpBoxes.below {W W' : World} {b : Nat} (h : GrpBoxes W b) (k : Below W.heap.size W W') : GrpBoxes W' b :=
  ⟨(k.block _ (box_lt h.cnt)).trans h.cnt, (k.block _ (box_lt h.wid)).trans h.wid, (k.block _ (box_lt h.bas)).trans h.bas, (k.block _ (box_lt h.btw)).trans h.btw⟩

set_option maxRecDepth 100000 in
theorem groupsPart_in (w : World) : Calls Tryz.prog 130 #[.int .i64 4, .int .i64 1, .int .i64 10, .string ⟨#[46]⟩] w fun e w' =>
    e = .returned (.agg (grpP w.heap.size)) ∧ GrpBoxes w' w.heap.size ∧ Below w.heap.size w w' := by
  have hmf := mkf
  go_enter Tryz.func130, Tryz.ntmps130
  go_wp2
  refine bodyPost_ret (v := .agg (grpP w.heap.size)) (by simp [results, Tryz.results130, go_sem]) rfl ⟨rfl, ⟨?_, ?_, ?_, ?_⟩, ?_⟩
  · rw [alloc_old _ _ _ (by simp <;> omega), alloc_old _ _ _ (by simp <;> omega), alloc_old _ _ _ (by simp <;> omega), alloc_old _ _ _ (by simp)]; exact heap_new _ _
  · rw [alloc_old _ _ _ (by simp <;> omega), alloc_old _ _ _ (by simp <;> omega), alloc_old _ _ _ (by simp)]
    have := heap_new (w.alloc (.cells #[.int .i64 4] 3)) (.cells #[.int .i64 1] 3)
    rwa [World.size_alloc] at this
  · rw [alloc_old _ _ _ (by simp <;> omega), alloc_old _ _ _ (by simp)]
    have := heap_new ((w.alloc (.cells #[.int .i64 4] 3)).alloc (.cells #[.int .i64 1] 3)) (.cells #[.int .i64 10] 3)
    rwa [World.size_alloc, World.size_alloc] at this
  · rw [alloc_old _ _ _ (by simp)]
    have := heap_new (((w.alloc (.cells #[.int .i64 4] 3)).alloc (.cells #[.int .i64 1] 3)).alloc (.cells #[.int .i64 10] 3)) (.cells #[.string ⟨#[46]⟩] 9)
    rwa [World.size_alloc, World.size_alloc, World.size_alloc] at this
  · exact (((((Below.refl _ _).alloc (Nat.le_refl _) _).alloc (by simp) _).alloc (by simp <;> omega) _).alloc (by simp <;> omega) _).alloc (by simp <;> omega) _

set_option maxRecDepth 100000 in
theorem partsOf_A (w : World) : Calls Tryz.prog 113 #[.int .i64 1] w fun e w' => ∃ g b, w.heap.size ≤ g ∧ w.heap.size ≤ b ∧
    e = .returned (.slice (some ⟨g, 0, none⟩) 1 1) ∧ w'.heap[g]? = some (.cells (grpP b) 149 (0, 0)) ∧ GrpBoxes w' b ∧ Below w.heap.size w w' := by
  have hmf := mkf
  go_enter Tryz.func113, Tryz.ntmps113
  go_wp2_with fail
  refine (numberPart_in _ _).mono ?_
  rintro e w1 ⟨rfl, ho1, hb1⟩
  go_wp2_with fail
  refine (numberPart_in _ _).mono ?_
  rintro e w2 ⟨rfl, ho2, hb2⟩
  go_wp2_with fail
  refine (numberPart_in _ _).mono ?_
  rintro e w3 ⟨rfl, ho3, hb3⟩
  clear ho1 ho2 ho3
  go_wp2_with fail
  refine (groupsPart_in _).mono ?_
  rintro e w4 ⟨rfl, hgb, hb4⟩
  have k3 : Below w.heap.size w w3 := bth (bth hb1 hb2 hb1.size) hb3 (Nat.le_trans hb1.size hb2.size)
  have s3 := k3.size
  have k6 : Below w.heap.size w w4 := (((k3.alloc s3 _).alloc (by simp; omega) _).alloc (by simp; omega) _).trans (hb4.mono (by simp; omega))
  clear hb1 hb2 hb3 hb4
  have hgb0 : w.heap.size ≤ w3.heap.size + 1 + 1 + 1 := by omega
  simp only [World.size_alloc] at hgb
  go_wp2
  go_ret
  exact ⟨w4.heap.size, w3.heap.size + 1 + 1 + 1, k6.size, hgb0, rfl, heap_new _ _, hgb.below ((Below.refl _ _).alloc (Nat.le_refl _) _), k6.alloc k6.size _⟩

def aPf : Nat → ByteArray → Option Nat := fun _ s => if 4 ≤ s.size then some 4 else none

theorem grpPass_in (W : World) (b d : Nat) (hb : GrpBoxes W b) (s : ByteArray) (hs : s.size ≤ 2000) (h : Rd W d s) :
    Calls Tryz.prog 150 #[boxV d, boxV b, boxV (b + 1)] W fun e w' => PassPost (aPf 0 s) s d W w' e := by
  have c0 := box_cell hb.cnt
  have c1 := box_cell hb.wid
  unfold aPf
  by_cases h4 : 4 ≤ s.size
  · rw [if_pos h4]
    have T := Hid.mk (take_yes W d 4 s (by unfold maxLen; omega) h h4)
    have HR := Hid.mk (h.set (s.extract 4 s.size))
    go_enter Tryz.func150, Tryz.ntmps150
    go_wp2_with fail
    refine T.out.mono ?_
    rintro e w1 ⟨rfl, rfl⟩
    go_wp2
    exact bodyPost_end (results_none rfl _ _ _) rfl ⟨h4, rfl, HR.out, Kept.set _ _ _ _⟩
  · rw [if_neg h4]
    have T := Hid.mk (take_no W d 4 s (by unfold maxLen; omega) h (by omega) (by unfold maxLen; omega))
    go_enter Tryz.func150, Tryz.ntmps150
    go_wp2_with fail
    refine T.out.mono ?_
    rintro e w1 ⟨rfl, rfl⟩
    go_wp2
    exact ⟨rfl, rfl, Kept.refl _ _⟩

theorem tellNum_in (x : ByteArray) (hx : x.size ≤ 4) (w : World) (hp : Pow w) :
    Calls Tryz.prog 146 #[.string x, .int .i64 10] w fun e w' => e = .returned (.string ⟨(Lib.decDigits (numB x.data.toList)).toArray⟩) ∧ Below w.heap.size w w' := by
  have hlt : numB x.data.toList < 4294967296 := by
    refine Nat.lt_of_lt_of_le (numB_lt _) ?_
    rw [size_list]
    exact Nat.le_trans (Nat.pow_le_pow_right (by omega) hx) (by decide)
  have HN := Hid.mk (number_in x (by omega))
  generalize numB x.data.toList = n at hlt HN ⊢
  have HF : Hid (∀ w, Pow w → Calls Tryz.prog 191 #[.int .i64 (n : Int), .int .i64 10] w fun e w' => e = .returned (.string ⟨(Lib.decDigits n).toArray⟩) ∧ Below w.heap.size w w') := by
    intro w hp
    refine (Tryz.strconv_FormatInt_10 (n : Int) (by omega) (by omega) w hp).mono ?_
    rintro e w' ⟨rfl, k, os, rfl⟩
    exact ⟨by rw [Lib.itoa, if_neg (by omega)]; rfl, below_grown w k os⟩
  go_enter Tryz.func146, Tryz.ntmps146
  go_wp2_with fail
  refine (HN.out _).mono ?_
  rintro e w1 ⟨rfl, rfl⟩
  go_wp2_with fail
  refine (HF.out _ hp).mono ?_
  rintro e w2 ⟨rfl, hb⟩
  go_wp2
  go_ret
  exact ⟨rfl, hb⟩

end Go.Proofs.YtaiakpigljcjbaaGreatDoor

/- The form of A: how it is told. -/
namespace Go.Proofs.YtaiakpigljcjbaaGreatDoor
set_option linter.unusedVariables false
open Go.RowKit

/-- the numbers of a piece, a byte each. -/
def grpW (l : List UInt8) : List ByteArray := l.map fun b => ⟨(Lib.decDigits b.toNat).toArray⟩

theorem cut_one (x : ByteArray) (m : Nat) (h : m < x.size) : ((x.extract m x.size).extract 0 1).data.toList = [x[m]] ∧ (x.extract m x.size).extract 1 (x.extract m x.size).size = x.extract (m + 1) x.size := by
  have hz : (x.extract m x.size).size = x.size - m := by rw [ByteArray.size_extract]; omega
  constructor
  · rw [ByteArray.extract_extract]
    have e : min (m + 1) x.size = m + 1 := by omega
    rw [Nat.add_zero, e, Lib.extract_data]
    have := List.drop_eq_getElem_cons (l := x.data.toList) (i := m) (by rw [size_list]; exact h)
    rw [this]; simp; rfl
  · rw [hz, ByteArray.extract_extract]; congr 1; omega

set_option maxRecDepth 100000 in
set_option maxHeartbeats 4000000 in
theorem grpTell_in (W : World) (b : Nat) (hb : GrpBoxes W b) (x : ByteArray) (hx : x.size = 4) (hp : Pow W) :
    Calls Tryz.prog 151 #[.string x, boxV b, boxV (b + 1), boxV (b + 2), boxV (b + 3)] W fun e w' => e = .returned (.string ⟨(Lib.join ((grpW x.data.toList).map (·.data.toList)) [46]).toArray⟩) ∧ Below W.heap.size W w' := by
  have hal : ∀ o, Below W.heap.size W (W.alloc o) := fun o => (Below.refl _ _).alloc (Nat.le_refl _) o
  have c0 : ∀ o, (W.alloc o).cell? ⟨b, 0, none⟩ = some (.int .i64 4) := fun o => box_cell (hb.below (hal o)).cnt
  obtain ⟨i0, hi, hz0, hz1, hz2⟩ := info_parts info9
  have hmo : Tryz.prog.follows Departure.mixedOrders = true := by kernel_rfl
  go_enter Tryz.func151, Tryz.ntmps151
  go_wp2
  go_loopw [8, 13] (fun gv i wr => ∃ m : Nat, m ≤ 4 ∧ i = .int .i64 m ∧ wr.ownsRow (W.heap.size + 1) 9 1 gv (grpW (x.data.toList.take m)).length (baV (grpW (x.data.toList.take m))) ∧ Rd wr W.heap.size (x.extract m x.size) ∧ Below W.heap.size W wr ∧ W.heap.size + 1 ≤ wr.heap.size) (fun _ i _ => 4 - (intOf i).toNat)
  case atStart =>
    refine ⟨0, by omega, rfl, World.ownsRow_nil .., ?_, hal _, by simp⟩
    have : x.extract 0 x.size = x := by simp
    rw [this]; exact heap_new _ _
  case round =>
    obtain ⟨m, hm, rfl, hrow, hrd, hbl, hsz⟩ := hrel
    by_cases hlt : m < 4
    · have hmx : m < x.size := by omega
      obtain ⟨hone, hrest⟩ := cut_one x m hmx
      have hb' : GrpBoxes wr b := hb.below hbl
      have d1 := box_cell hb'.wid
      have d2 := box_cell hb'.bas
      have hp' := hp.below hbl
      have hbW := box_lt hb.btw
      obtain ⟨one, hO⟩ : ∃ o, (x.extract m x.size).extract 0 1 = o := ⟨_, rfl⟩
      rw [hO] at hone
      have ho1 : one.size = 1 := by rw [← size_list, hone]; rfl
      have HTk : Hid (Calls Tryz.prog 114 #[boxV W.heap.size, .int .i64 1] wr.drew fun e w1 => e = .returned (.string one) ∧ Kept W.heap.size wr w1 ∧ Rd w1 W.heap.size (x.extract (m + 1) x.size)) := by
        have hz : (x.extract m x.size).size = x.size - m := by rw [ByteArray.size_extract]; omega
        have := take_yes wr.drew W.heap.size 1 (x.extract m x.size) (by rw [hz]; unfold maxLen; omega) hrd (by rw [hz]; omega)
        rw [hrest, hO] at this
        refine this.mono ?_
        rintro e w1 ⟨he, hw⟩
        subst hw
        exact ⟨he, ⟨rfl, rfl, rfl, (Kept.set W.heap.size 0 wr _).size, (Kept.set W.heap.size 0 wr _).same⟩, hrd.set _⟩
      have HTn : Hid (∀ w1, Pow w1 → Calls Tryz.prog 146 #[.string one, .int .i64 10] w1 fun e w2 => e = .returned (.string ⟨(Lib.decDigits x[m].toNat).toArray⟩) ∧ Below w1.heap.size w1 w2) := by
        intro w1 h1
        have := tellNum_in one (by omega) w1 h1
        rw [hone, show numB [x[m]] = x[m].toNat by simp [numB]] at this
        exact this
      have HL1 : Hid (∀ (G : Prop) (w1 : World), Kept W.heap.size wr w1 → Rd w1 W.heap.size (x.extract (m + 1) x.size) → (w1.cell? ⟨b + 1, 0, none⟩ = some (.int .i64 1) → w1.cell? ⟨b + 2, 0, none⟩ = some (.int .i64 10) → Pow w1 → G) → G) := by
        intro G w1 hk hr hG
        have hbl1 : Below W.heap.size W w1 := hbl.trans (hk.below (Nat.le_refl _) (by omega))
        have hb1 := hb.below hbl1
        exact hG (box_cell hb1.wid) (box_cell hb1.bas) (hp.below hbl1)
      have HL2 : Hid (∀ (G : Prop) (w1 w2 : World), Kept W.heap.size wr w1 → Rd w1 W.heap.size (x.extract (m + 1) x.size) → Below w1.heap.size w1 w2 → (w2.cell? ⟨b + 1, 0, none⟩ = some (.int .i64 1) → w2.cell? ⟨b + 2, 0, none⟩ = some (.int .i64 10) → w2.ownsRow (W.heap.size + 1) 9 1 u8 (grpW (x.data.toList.take m)).length (baV (grpW (x.data.toList.take m))) → Rd w2 W.heap.size (x.extract (m + 1) x.size) → Below W.heap.size W w2 → W.heap.size + 1 ≤ w2.heap.size → (∀ o, (w2.alloc o).cell? ⟨b + 1, 0, none⟩ = some (.int .i64 1)) → (∀ o, (w2.alloc o).cell? ⟨b + 2, 0, none⟩ = some (.int .i64 10)) → G) → G) := by
        intro G w1 w2 hk hr hb2 hG
        have hbl1 : Below W.heap.size W w1 := hbl.trans (hk.below (Nat.le_refl _) (by omega))
        have hs1 := Nat.le_trans hsz hk.size
        have hbl2 : Below W.heap.size W w2 := hbl1.trans (hb2.mono (by omega))
        have hb1 := hb.below hbl2
        have hrw1 := row_kept' hrow hk (by omega)
        have ha : ∀ o, GrpBoxes (w2.alloc o) b := fun o => hb1.below ((Below.refl _ _).alloc (Nat.le_refl _) o)
        exact hG (box_cell hb1.wid) (box_cell hb1.bas) (row_bel hrw1 hb2) (hr.below hb2) hbl2 (Nat.le_trans hs1 hb2.size) (fun o => box_cell (ha o).wid) (fun o => box_cell (ha o).bas)
      have HL3 : Hid (∀ (G : Prop) (n : Nat) (xs : List Value) (w2 w3 : World) (o : Obj), w2.ownsRow (W.heap.size + 1) 9 1 u8 n xs → Rd w2 W.heap.size (x.extract (m + 1) x.size) → Below W.heap.size W w2 → W.heap.size + 1 ≤ w2.heap.size → (w2.alloc o).grownBy w3 u8.ownBlock → (w3.cell? ⟨b + 1, 0, none⟩ = some (.int .i64 1) → w3.cell? ⟨b + 2, 0, none⟩ = some (.int .i64 10) → Rd w3 W.heap.size (x.extract (m + 1) x.size) → Below W.heap.size W w3 → W.heap.size + 1 ≤ w3.heap.size → G) → G) := by
        intro G n xs w2 w3 o hr hrd2 hbl2 hs2 hg hG
        have h3 : Below (W.heap.size + 1) w2 w3 := ((Below.refl _ w2).alloc hs2 o).grown hg (by simp; omega) (rowBaseB hr)
        have hbl3 : Below W.heap.size W w3 := hbl2.trans (h3.mono (by omega))
        have hb3 := hb.below hbl3
        exact hG (box_cell hb3.wid) (box_cell hb3.bas) ((h3.block _ (by omega)).trans hrd2) hbl3 (Nat.le_trans hs2 h3.size)
      have hgl : grpW (x.data.toList.take (m + 1)) = grpW (x.data.toList.take m) ++ [⟨(Lib.decDigits x[m].toNat).toArray⟩] := by
        rw [List.take_succ_eq_append_getElem (by rw [size_list]; exact hmx), grpW, List.map_append]; rfl
      have HGL := Hid.mk hgl
      have hgn : (grpW (x.data.toList.take m)).length ≤ 4 := by rw [grpW, List.length_map, List.length_take]; omega
      obtain ⟨tx, htx⟩ : ∃ t : ByteArray, (⟨(Lib.decDigits x[m].toNat).toArray⟩ : ByteArray) = t := ⟨_, rfl⟩
      rw [htx] at HTn HGL
      clear hgl hone hrest hO htx hb' hp'
      generalize grpW (x.data.toList.take m) = ws at hrow HL2 HGL hgn
      go_wp2
      go_region_held3 (fun w' => w'.cell? ⟨b + 1, 0, none⟩ = some (.int .i64 1) ∧ w'.cell? ⟨b + 2, 0, none⟩ = some (.int .i64 10)) (first | (constructor <;> assumption) | go_keep)
        (first
          | (go_at_call 114; refine HTk.out.mono ?_; rintro e w1 ⟨rfl, hk1, hr1⟩; refine HL1.out _ w1 hk1 hr1 ?_; intro e1 e2 hpw1)
          | (go_at_call 146; refine (HTn.out _ hpw1).mono ?_; rintro e w2 ⟨rfl, hb2⟩; refine HL2.out _ w1 w2 hk1 hr1 hb2 ?_; intro f1 f2 hrw2 hrd2 hbl2 hsz2 f3 f4)
          | (refine step_append_own rfl (.tmp 15) (.tmp 21) 35 rfl (W.heap.size + 1) 9 i0 (.string ⟨#[]⟩) 1 16 Tryz.underlying35 hi hz0 hz1 hz2 rfl (by decide) _ _ _ rfl (hrw2.alloc _) ⟨w2.heap.size, 0, none⟩ 1 1 [.string tx] rfl rfl (cell_one_new _ _ _) (by simp [Value.oneCell']) (by unfold maxLen; omega) (by omega) (by simp; omega) ?_; intro v1 w3 hown3 hgrow3; refine HL3.out _ _ _ w2 w3 _ hrw2 hrd2 hbl2 hsz2 hgrow3 ?_; intro g1 g2 hrd3 hbl3 hsz3))
      go_wp2
      have hrelN : ∃ j : Nat, j ≤ 4 ∧ Value.int .i64 ((m : Int) + 1) = .int .i64 j ∧ w3.ownsRow (W.heap.size + 1) 9 1 v1 (grpW (x.data.toList.take j)).length (baV (grpW (x.data.toList.take j))) ∧ Rd w3 W.heap.size (x.extract j x.size) ∧ Below W.heap.size W w3 ∧ W.heap.size + 1 ≤ w3.heap.size := by
        refine ⟨m + 1, by omega, by go_num, ?_, hrd3, hbl3, hsz3⟩
        rw [HGL.out, List.length_append, baV, List.map_append]; exact hown3
      exact ⟨hrelN, by simp [intOf]; omega⟩
    · obtain rfl : m = 4 := by omega
      have hall : x.data.toList.take 4 = x.data.toList := List.take_of_length_le (by rw [size_list]; omega)
      rw [hall] at hrow
      have hgn : (grpW x.data.toList).length = 4 := by rw [grpW, List.length_map, size_list, hx]
      have hjl := join_len [46] (grpW x.data.toList) 5 (fun y hy => by
        obtain ⟨c, _, rfl⟩ := List.mem_map.1 hy
        rw [ba_size]
        exact dec_len 4 c.toNat (by have := c.toNat_lt; omega))
      have HJ := Hid.mk (join_row ⟨#[46]⟩ hrow (by omega) (by
        refine Nat.le_trans hjl ?_
        rw [hgn]; decide))
      have d3 := box_cell (hb.below hbl).btw
      obtain ⟨qw, cw, hqw⟩ := row_as hrow
      subst hqw
      have hsW : W.heap.size ≤ wr.heap.size := by omega
      clear hall hjl hrow hgn
      go_wp2_with fail
      refine HJ.out.mono ?_
      rintro e w3 ⟨rfl, hb3⟩
      go_wp2
      go_ret
      exact ⟨rfl, hbl.trans (hb3.mono hsW)⟩

def aPart (b : Nat) : Part := ⟨150, #[boxV b, boxV (b + 1)], 151, #[boxV b, boxV (b + 1), boxV (b + 2), boxV (b + 3)], 153, #[boxV (b + 3), boxV b, boxV (b + 2), boxV (b + 1)], false⟩
/-- how four bytes are told. -/
def aT (x : ByteArray) : List UInt8 := Lib.join ((grpW x.data.toList).map (·.data.toList)) [46]
def aForm : Form := { n := 1, pf := aPf, tf := fun _ x => ⟨(aT x).toArray⟩, ok := fun _ x => x.size = 4 }

theorem form_A (w : World) (hp : Pow w) : Calls Tryz.prog 113 #[.int .i64 1] w fun e w' => FormPost aForm w e w' := by
  refine (partsOf_A w).mono ?_
  rintro e w1 ⟨g, b, hg, hgb, rfl, hc, hbx, hb⟩
  refine ⟨g, fun _ => aPart b, rfl, one_part hc, fun _ _ => enters_by Tryz.func150 (by kernel_rfl) rfl, ?_, hb, fun _ _ => enters_by Tryz.func151 (by kernel_rfl) rfl, ?_⟩
  · intro k _ W' d s' hb' _ hr hs
    exact grpPass_in W' b d (hbx.below hb') s' hs hr
  · intro k _ W' x hb' hx
    exact grpTell_in W' b (hbx.below hb') x hx ((hp.below hb).below hb')

theorem fin_A (s : ByteArray) (h : s.size = 4) : fin aPf 1 s = some [s] := by
  have e1 : s.extract 0 4 = s := by rw [← h]; simp
  simp [fin, cutP, aPf, h, e1]
theorem fin_A_no (s : ByteArray) (h : s.size ≠ 4) : fin aPf 1 s = none := by
  by_cases h4 : 4 ≤ s.size
  · have e2 : ¬ (s.size - 4 = 0) := by omega
    simp [fin, cutP, aPf, h4, e2]
  · simp [fin, cutP, aPf, h4]

theorem partsA (w : World) : Calls Tryz.prog 113 #[.int .i64 1] w fun e w' => PartsPost 1 aPf w e w' := by
  refine (partsOf_A w).mono ?_
  rintro e w1 ⟨g, b, hg, hgb, rfl, hc, hbx, hb⟩
  refine ⟨g, fun _ => aPart b, rfl, one_part hc, fun _ _ => enters_by Tryz.func150 (by kernel_rfl) rfl, ?_, hb⟩
  intro k _ W' d s' hb' _ hr hs
  exact grpPass_in W' b d (hbx.below hb') s' hs hr

theorem split_A (s : ByteArray) (hs : s.size = 4) (W : World) : Calls Tryz.prog 90 #[.int .i64 1, .string s] W fun e w' => SplitPost (some [s]) W e w' := by
  have := split_in W 1 (by omega) 1 (by omega) s (by omega) aPf (fun w => (partsA w).mono fun e w' h => h)
  rwa [fin_A s hs] at this
theorem split_A_no (s : ByteArray) (hs : s.size ≠ 4) (hl : s.size ≤ 2000) (W : World) : Calls Tryz.prog 90 #[.int .i64 1, .string s] W fun e w' => SplitPost none W e w' := by
  have := split_in W 1 (by omega) 1 (by omega) s hl aPf (fun w => (partsA w).mono fun e w' h => h)
  rwa [fin_A_no s hs] at this

end Go.Proofs.YtaiakpigljcjbaaGreatDoor

/- What lies there all the time; the reader's word; understood. -/
namespace Go.Proofs.YtaiakpigljcjbaaGreatDoor
set_option linter.unusedVariables false
open Go.RowKit

/-- the variables of packages that the calls read. -/
structure Glob (W : World) : Prop where
  pow : Pow W
  types : Types W
  maxl : ∃ m, W.cell? ⟨0, 0, none⟩ = some (.int .i64 m)
theorem Glob.below {W W' : World} (h : Glob W) (hb : Below W.heap.size W W') : Glob W' := by
  obtain ⟨m, hm⟩ := h.maxl
  exact ⟨h.pow.below hb, h.types.below hb, m, (hb.cell (p := ⟨0, 0, none⟩) (cell_block hm)).trans hm⟩

/-- what stands ahead of the next blank, and what behind it. -/
def wordB (s : ByteArray) : ByteArray := ⟨(Lib.cut s.data.toList [32]).1.toArray⟩
def restB (s : ByteArray) : ByteArray := ⟨(Lib.cut s.data.toList [32]).2.1.toArray⟩

theorem word_in (W : World) (d : Nat) (s : ByteArray) (hs : s.size ≤ 1000000) (h : Rd W d s) (hG : Glob W) :
    Calls Tryz.prog 149 #[boxV d] W fun e w' => e = .returned (.string (wordB s)) ∧ Rd w' d (restB s) ∧ Kept d W w' := by
  obtain ⟨m, hm⟩ := hG.maxl
  have hc := h.cell
  have HC := Hid.mk (Tryz.strings_Cut s ⟨#[32]⟩ m W (by omega) hm)
  go_enter Tryz.func149, Tryz.ntmps149
  go_wp2_with fail
  refine HC.out.mono ?_
  rintro e w1 ⟨rfl, n, rfl⟩
  have hc1 : (W.drewN n).cell? ⟨d, 0, none⟩ = some (.string s) := hc
  have hf1 : (W.drewN n).frozen? ⟨d, 0, none⟩ = false := h.frozen
  have hf := h.frozen
  go_wp2
  go_ret
  refine ⟨rfl, ?_, ?_⟩
  · exact Rd.set (W := W.drewN n) h _
  · exact ⟨rfl, rfl, rfl, (Kept.set d 0 W _).size, (Kept.set d 0 W _).same⟩

/-- what lies there stays so long as block d alone is written. -/
def GlobK (d : Nat) (W : World) : Prop := ∀ W', Kept d W W' → Glob W'
theorem GlobK.here {d : Nat} {W : World} (h : GlobK d W) : Glob W := h W (Kept.refl _ _)

/-- what a part's read does. -/
def ReadPost (r : Option (ByteArray × ByteArray)) (d : Nat) (W w' : World) (e : Ending) : Prop := match r with
  | some q => e = .returned (.string q.1) ∧ Rd w' d q.2 ∧ Kept d W w'
  | none => e = .panicked mustV ∧ Kept d W w'

/-- what partsOf hands back for who reads. -/
def ReadsPost (n : Nat) (dm : Nat → ByteArray → Prop) (rf : Nat → ByteArray → Option (ByteArray × ByteArray)) (w : World) (e : Ending) (w' : World) : Prop :=
  ∃ g P, e = .returned (.slice (some ⟨g, 0, none⟩) n n) ∧ w.heap.size ≤ g ∧ PartsIn w' g n P ∧ (∀ k, k < n → Enters (P k).read) ∧
    (∀ k, k < n → ∀ (W' : World) (d : Nat) (s' : ByteArray), Kept d w' W' → d < w.heap.size → GlobK d W' → Rd W' d s' → s'.size ≤ 1000000 → dm k s' →
      Calls Tryz.prog (P k).read (#[boxV d] ++ (P k).readC) W' fun e w'' => ReadPost (rf k s') d W' w'' e) ∧ Below w.heap.size w w'

/-- the pieces that n parts read off a text, from the k-th on. -/
def readP (rf : Nat → ByteArray → Option (ByteArray × ByteArray)) : Nat → Nat → ByteArray → Option (List ByteArray)
  | 0, _, _ => some []
  | n + 1, k, s => match rf k s with
    | none => none
    | some q => (readP rf n (k + 1) q.2).map fun r => q.1 :: r
end Go.Proofs.YtaiakpigljcjbaaGreatDoor

/- understood: what a text tells to the parts of a type's form. -/
namespace Go.Proofs.YtaiakpigljcjbaaGreatDoor
set_option linter.unusedVariables false
open Go.RowKit

/-- what the work of understood does to its variable at block b. -/
def UnderPost (R : Option (List ByteArray)) (b : Nat) (W : World) (e : Ending) (w' : World) : Prop := (match R with
  | some ps => e = .returned (.tuple #[]) ∧ w'.heap[b]? = some (.cells #[.string ⟨(Lib.join (ps.map (·.data.toList)) []).toArray⟩] 9 (0, 0))
  | none => e = .panicked mustV ∧ w'.heap[b]? = W.heap[b]?) ∧ Kept b W w'

/-- how the loop of understood stands. -/
def UnRel (dm : Nat → ByteArray → Prop) (rf : Nat → ByteArray → Option (ByteArray × ByteArray)) (n : Nat) (s : ByteArray) (R : Option (List ByteArray)) (d : Nat) (W w2 : World) (v i : Value) (wr : World) : Prop :=
  ∃ (k : Nat) (done : List ByteArray) (rest : ByteArray), k ≤ n ∧ i = .int .i64 k ∧ done.length = k ∧ wr.ownsRow w2.heap.size 9 1 v k (baV done) ∧ Rd wr d rest ∧ rest.size ≤ 1000000 ∧ (∀ x ∈ done, x.size ≤ 1000000) ∧ Hid (k < n → dm k rest) ∧
    Hid (R = (readP rf (n - k) k rest).map fun r => done ++ r) ∧ Kept d w2 wr ∧ Below d W wr

theorem kept_then {d : Nat} {w2 w1 w3 : World} (k : Kept d w2 w1) (h : Below w2.heap.size w1 w3) : Kept d w2 w3 :=
  ⟨h.os.trans k.os, h.tape.trans k.tape, h.output.trans k.output, Nat.le_trans k.size h.size, fun b hb hd => (h.block b hb).trans (k.same b hb hd)⟩
theorem kept_cell {d : Nat} {W W' : World} (h : Kept d W W') {a : Addr} (ha : a.block < W.heap.size) (hd : a.block ≠ d) : W'.cell? a = W.cell? a := by
  have := h.same a.block ha hd
  simp [World.cell?, this]
theorem PartsIn.kept {d g n : Nat} {P : Nat → Part} {W W' : World} (h : PartsIn W g n P) (k : Kept d W W') (hgd : g ≠ d) : PartsIn W' g n P :=
  ⟨fun h0 => Nat.lt_of_lt_of_le (h.lt h0) k.size, fun j hj => (kept_cell k (h.lt (by omega)) hgd).trans (h.c0 j hj), fun j hj => (kept_cell k (h.lt (by omega)) hgd).trans (h.c1 j hj), fun j hj => (kept_cell k (h.lt (by omega)) hgd).trans (h.c2 j hj), fun j hj => (kept_cell k (h.lt (by omega)) hgd).trans (h.c3 j hj)⟩

end Go.Proofs.YtaiakpigljcjbaaGreatDoor

/- understood, with sound around its work; Read. -/
namespace Go.Proofs.YtaiakpigljcjbaaGreatDoor
set_option linter.unusedVariables false
open Go.RowKit

def jn (ps : List ByteArray) : ByteArray := ⟨(Lib.join (ps.map (·.data.toList)) []).toArray⟩

/-- what sound makes of the work of understood. -/
def SoundU (R : Option (List ByteArray)) (b : Nat) (W : World) (e : Ending) (w' : World) : Prop := (match R with
  | some ps => e = .returned (.bool true) ∧ w'.heap[b]? = some (.cells #[.string (jn ps)] 9 (0, 0))
  | none => e = .returned (.bool false) ∧ w'.heap[b]? = W.heap[b]?) ∧ Kept b W w'

/-- what understood hands back. -/
def UnPost (R : Option (List ByteArray)) (W : World) (e : Ending) (w' : World) : Prop := (match R with
  | some ps => e = .returned (.tuple #[.string (jn ps), .bool true])
  | none => e = .returned (.tuple #[.string ⟨#[]⟩, .bool false])) ∧ Below W.heap.size W w'

end Go.Proofs.YtaiakpigljcjbaaGreatDoor

/- Read; and the form of A, how it is read where it goes well. -/
namespace Go.Proofs.YtaiakpigljcjbaaGreatDoor
set_option linter.unusedVariables false
open Go.RowKit

set_option maxRecDepth 100000 in
set_option maxHeartbeats 1000000 in
theorem bytesOf1_in (n : Nat) (hn : n < 256) (w : World) :
    Calls Tryz.prog 170 #[.int .i64 (n : Int), .int .i64 1] w fun e w' => e = .returned (.string ⟨#[UInt8.ofNat n]⟩) ∧ Below w.heap.size w w' := by
  obtain ⟨i0, hi, hz0, hz1, hz2⟩ := info_parts info5
  have hsh : (n : Int) / 256 = 0 := by omega
  go_enter Tryz.func170, Tryz.ntmps170
  go_wp2_with fail
  refine (must_yes _).mono ?_
  rintro e w1 ⟨rfl, rfl⟩
  obtain ⟨M, hM⟩ : ∃ M, M = madeCells (Value.int .u8 0).cells (((1 : Nat) : Int).toNat * i0.size) := ⟨_, rfl⟩
  have hMs : M.size = 1 := by rw [hM, size_madeCells, hz1]; simp
  have hmk : ∀ W : World, (Instr.makeSlice 50 (.int .i64 1) (.int .i64 1)).run Tryz.prog W = .ok (.slice (some ⟨W.heap.size, 0, none⟩) 1 1) (W.alloc (.cells M 5)) := fun W => by
    have h := run_make (P := Tryz.prog) W 50 5 i0 (.int .u8 0) Tryz.underlying50 hi hz0 .i64 .i64 ((1 : Nat) : Int) ((1 : Nat) : Int) (by omega) (by omega) (by rw [hz2]; omega) (by omega)
    rw [← hM] at h
    simpa using h
  obtain ⟨v0, hv0⟩ : ∃ v0, M = #[v0] := by
    match M, hMs with
    | ⟨[v]⟩, _ => exact ⟨v, rfl⟩
  subst hv0
  clear hM hMs
  go_wp2
  clear hmk
  go_loopw [21] (fun i wr => ∃ (j : Nat) (v : Value), j ≤ 1 ∧ i = .int .i64 j ∧ (j = 1 → v = .int .u8 (n : Int)) ∧ wr.heap[w1.heap.size]? = some (.cells #[v] 5 (0, 0)) ∧ Below w1.heap.size w1 wr) (fun i _ => 1 - (intOf i).toNat)
  case atStart => exact ⟨0, v0, by omega, rfl, fun h => absurd h (by omega), heap_new _ _, (Below.refl _ _).alloc (Nat.le_refl _) _⟩
  case round =>
    obtain ⟨j, v, hj, rfl, hv, hh, hbl⟩ := hrel
    rcases (show j = 0 ∨ j = 1 by omega) with rfl | rfl
    · have hc := box_cell hh
      have hf := box_frozen hh
      have hbs := Hid.mk (box_set hh (.int .u8 (n : Int)))
      clear hv
      go_wp2
      exact ⟨⟨1, _, by omega, rfl, fun _ => rfl, hbs.out, hbl.setCell (p := ⟨w1.heap.size, 0, none⟩) (Nat.le_refl _) _⟩, by simp [intOf]⟩
    · obtain rfl := hv rfl
      have hc := box_cell hh
      have hcv := run_convert_bytes_back (P := Tryz.prog) wr 50 9 5 ⟨w1.heap.size, 0, none⟩ 1 [UInt8.ofNat n] Tryz.underlying50 Tryz.underlying5 Tryz.underlying9 (fun j hj => by
        have e : j = 0 := by simpa using hj
        subst e
        rw [add_at, hc]; simp; omega)
      simp only [List.length_cons, List.length_nil, Nat.zero_add] at hcv
      clear hv
      go_wp2
      go_ret
      exact ⟨rfl, hbl⟩

theorem readNum_ok (g : ByteArray) (hg : g.size ≤ 1000) (n : Nat) (hn : n < 256) (h : Lib.parseIntB 64 g.data.toList = .ok (n : Int)) (w : World) :
    Calls Tryz.prog 148 #[.string g, .int .i64 10, .int .i64 1] w fun e w' => e = .returned (.string ⟨#[UInt8.ofNat n]⟩) ∧ Below w.heap.size w w' := by
  have HP : Hid (Calls Tryz.prog 192 #[.string g, .int .i64 10, .int .i64 64] w fun e w' => e = .returned (.tuple #[.int .i64 (n : Int), .nilIface]) ∧ Below w.heap.size w w') := by
    refine (Tryz.strconv_ParseInt_10_at64_ok g (by omega) n h w).mono ?_
    rintro e w' ⟨rfl, h | ⟨t, h⟩⟩
    · rw [h]; exact ⟨rfl, Below.refl _ _⟩
    · rw [h]; exact ⟨rfl, ⟨rfl, rfl, rfl, by rw [Lib.bytesWorld_size]; omega, fun k hk => Lib.bytesWorld_at_old w 5 t k hk⟩⟩
  clear h
  go_enter Tryz.func148, Tryz.ntmps148
  go_wp2_with fail
  refine HP.out.mono ?_
  rintro e w1 ⟨rfl, hb1⟩
  go_wp2_with fail
  refine (must_yes _).mono ?_
  rintro e w2 ⟨rfl, rfl⟩
  go_wp2_with fail
  refine (bytesOf1_in n hn _).mono ?_
  rintro e w3 ⟨rfl, hb3⟩
  go_wp2
  go_ret
  exact ⟨rfl, bth hb1 hb3 hb1.size⟩

theorem cells_new1 (W : World) (cs : Array Value) (t : TypeId) (j : Nat) (u : Value) (h : cs.toList[j]? = some u) : (W.alloc (.cells cs t)).cell? ((⟨W.heap.size, 0, none⟩ : Addr).add j) = some u := by
  rw [add_at]
  have hh : (W.alloc (.cells cs t)).heap[W.heap.size]? = some (.cells cs t) := World.alloc_heap_new W _
  simp only [World.cell?, hh]
  simpa using h

theorem join_ones : ∀ ns : List Nat, Lib.join ((ns.map (fun x => (⟨#[UInt8.ofNat x]⟩ : ByteArray))).map (·.data.toList)) [] = ns.map UInt8.ofNat
  | [] => rfl
  | [x] => Lib.join_one _ _
  | x :: y :: r => by
    have ih := join_ones (y :: r)
    simp only [List.map_cons, Lib.join, List.intercalate] at ih ⊢
    rw [List.intersperse_cons_cons, List.flatten_cons, List.flatten_cons, ih]
    rfl

theorem GrpBoxes.kept {W W' : World} {b d : Nat} (h : GrpBoxes W b) (k : Kept d W W') (hd : d < b) : GrpBoxes W' b :=
  ⟨(k.same _ (box_lt h.cnt) (by omega)).trans h.cnt, (k.same _ (box_lt h.wid) (by omega)).trans h.wid, (k.same _ (box_lt h.bas) (by omega)).trans h.bas, (k.same _ (box_lt h.btw) (by omega)).trans h.btw⟩

set_option maxRecDepth 100000 in
set_option maxHeartbeats 600000 in
theorem grpRead_ok (W : World) (b d : Nat) (hdb : d < b) (hb : GrpBoxes W b) (s : ByteArray) (h : Rd W d s) (hs : s.size ≤ 1000) (hG : GlobK d W) (gs : List ByteArray) (ns : List Nat) (hlen : gs.length = ns.length) (h5 : gs.length ≤ 5)
    (hok : ∀ j (h1 : j < gs.length) (h2 : j < ns.length), gs[j].size ≤ 1000 ∧ ns[j] < 256 ∧ Lib.parseIntB 64 gs[j].data.toList = .ok (ns[j] : Int))
    (hws : (wordB s).size ≤ 1000) (hgs : Lib.splitB ⟨#[46]⟩ 0 (min 5 ((wordB s).size + 1) - 1) (wordB s) = gs) :
    Calls Tryz.prog 153 #[boxV d, boxV (b + 3), boxV b, boxV (b + 2), boxV (b + 1)] W fun e w' => e = .returned (.string ⟨(ns.map UInt8.ofNat).toArray⟩) ∧ Rd w' d (restB s) ∧ Kept d W w' := by
  have d0 := box_cell hb.cnt
  have d3 := box_cell hb.btw
  have hmo : Tryz.prog.follows Departure.mixedOrders = true := by kernel_rfl
  obtain ⟨i0, hi, hz0, hz1, hz2⟩ := info_parts info9
  have HW : Hid (Calls Tryz.prog 149 #[boxV d] W.drew fun e w1 => e = .returned (.string (wordB s)) ∧ Rd w1 d (restB s) ∧ Kept d W w1) := by
    refine (word_in W.drew d s (by omega) h (hG W.drew ⟨rfl, rfl, rfl, Nat.le_refl _, fun _ _ _ => rfl⟩)).mono ?_
    rintro e w1 ⟨he, hr, hk⟩
    exact ⟨he, hr, hk.os, hk.tape, hk.output, hk.size, hk.same⟩
  have HL1 : Hid (∀ (G : Prop) (w1 : World), Kept d W w1 → (w1.cell? ⟨b + 3, 0, none⟩ = some (.string ⟨#[46]⟩) → w1.cell? ⟨b, 0, none⟩ = some (.int .i64 4) → G) → G) := by
    intro G w1 hk hg
    have hb1 := hb.kept hk hdb
    exact hg (box_cell hb1.btw) (box_cell hb1.cnt)
  have HS : Hid (∀ w1, Kept d W w1 → Calls Tryz.prog 154 #[.string (wordB s), .string ⟨#[46]⟩, .int .i64 5] w1 fun e w2 => ∃ cap, e = .returned (.slice (some ⟨w1.heap.size, 0, none⟩) gs.length cap) ∧ (∀ j (hj : j < gs.length), w2.cell? ⟨w1.heap.size, j, none⟩ = some (.string gs[j])) ∧ w1.heap.size < w2.heap.size ∧ Below w1.heap.size w1 w2 ∧ w2.cell? ⟨b + 3, 0, none⟩ = some (.string ⟨#[46]⟩) ∧ w2.cell? ⟨b, 0, none⟩ = some (.int .i64 4)) := by
    intro w1 hk
    obtain ⟨m, hm⟩ := (hG w1 hk).maxl
    have := Tryz.strings_SplitN (wordB s) ⟨#[46]⟩ 5 m w1 (by omega) hm (by decide) (by omega) (by omega)
    rw [hgs] at this
    refine this.mono ?_
    rintro e w2 ⟨he, hw⟩
    have hbl : Below w1.heap.size w1 w2 := by rw [hw]; exact (Below.refl _ _).alloc (Nat.le_refl _) _
    have hb2 := (hb.kept hk hdb).below hbl
    refine ⟨_, he, fun j hj => ?_, by rw [hw]; simp, hbl, box_cell hb2.btw, box_cell hb2.cnt⟩
    rw [hw]
    have := cells_new1 w1 (Lib.cellsOf gs (min 5 ((wordB s).size + 1))) 9 j (.string gs[j]) (by
      simp only [Lib.cellsOf]
      rw [List.getElem?_append_left (by simpa using hj)]
      simp [hj])
    rwa [add_at] at this
  have HOK := Hid.mk hok
  clear hok hgs
  go_enter Tryz.func153, Tryz.ntmps153
  go_wp2_with fail
  go_region_held3 (fun w' => w'.cell? ⟨b + 3, 0, none⟩ = some (.string ⟨#[46]⟩) ∧ w'.cell? ⟨b, 0, none⟩ = some (.int .i64 4)) (first | (constructor <;> assumption) | go_keep)
    (first
      | (go_at_call 149; refine HW.out.mono ?_; rintro e w1 ⟨rfl, hr1, hk1⟩; refine HL1.out _ w1 hk1 ?_; intro e1 e2)
      | (go_at_call 154; refine (HS.out _ hk1).mono ?_; rintro e w2 ⟨cap, rfl, hgc, hlt2, hb2, e3, e4⟩))
  have hbx2 : GrpBoxes w2 b := (hb.kept hk1 hdb).below hb2
  have hr2 : Rd w2 d (restB s) := hr1.below hb2
  have hk2 : Kept d W w2 := hk1.trans (Kept.of_below hb2)
  clear e1 e2 e3 e4 d0 d3 HW HL1 HS
  go_wp2
  go_loopw [7, 17] (fun v i wr => ∃ m : Nat, m ≤ gs.length ∧ i = .int .i64 m ∧ wr.ownsRow w2.heap.size 9 1 v m (baV ((ns.take m).map fun x => ⟨#[UInt8.ofNat x]⟩)) ∧ Below w2.heap.size w2 wr) (fun _ i _ => gs.length - (intOf i).toNat)
  case atStart => exact ⟨0, Nat.zero_le _, rfl, World.ownsRow_nil .., Below.refl _ _⟩
  case round =>
    obtain ⟨m, hm, rfl, hrow, hbl⟩ := hrel
    have hsz := hbl.size
    by_cases hlt : m < gs.length
    · have hmn : m < ns.length := by omega
      obtain ⟨ho1, ho2, ho3⟩ := HOK.out m hlt hmn
      have hc := (hbl.cell (p := ⟨w1.heap.size, m, none⟩) hlt2).trans (hgc m hlt)
      have hbx := hbx2.below hbl
      have f1 := box_cell hbx.wid
      have f2 := box_cell hbx.bas
      have HN := Hid.mk (readNum_ok gs[m] ho1 ns[m] ho2 ho3)
      have hnx : (ns.take (m + 1)).map (fun x => (⟨#[UInt8.ofNat x]⟩ : ByteArray)) = (ns.take m).map (fun x => (⟨#[UInt8.ofNat x]⟩ : ByteArray)) ++ [⟨#[UInt8.ofNat ns[m]]⟩] := by
        rw [List.take_succ_eq_append_getElem hmn, List.map_append]; rfl
      have HNX := Hid.mk hnx
      have hltn : (m : Int) < (ns.length : Int) := by omega
      clear hnx ho3
      generalize gs[m] = gm at hc HN
      generalize ns[m] = nm at HN HNX ho2
      go_wp2_with fail
      refine (HN.out _).mono ?_
      rintro e w3 ⟨rfl, hb3⟩
      have hrow3 := row_bel hrow hb3
      have hbl3 : Below w2.heap.size w2 w3 := hbl.trans (hb3.mono hsz)
      have hsz3 := hbl3.size
      go_wp2_with (at_builtin; refine wpList_append_own _ rfl _ _ 35 rfl w2.heap.size 9 i0 (.string ⟨#[]⟩) 1 16 Tryz.underlying35 hi hz0 hz1 hz2 rfl (by decide) _ _ _ rfl (hrow3.alloc _) ⟨w3.heap.size, 0, none⟩ 1 1 [.string ⟨#[UInt8.ofNat nm]⟩] rfl rfl (cell_one_new _ _ _) (by simp [Value.oneCell']) (by unfold maxLen; omega) (by omega) (by simp; omega) ?_; intro v1 w4 hown4 hgrow4 _)
      have hrelN : ∃ j : Nat, j ≤ gs.length ∧ Value.int .i64 ((m : Int) + 1) = .int .i64 j ∧ w4.ownsRow w2.heap.size 9 1 v1 j (baV ((ns.take j).map fun x => ⟨#[UInt8.ofNat x]⟩)) ∧ Below w2.heap.size w2 w4 := by
        refine ⟨m + 1, by omega, by go_num, ?_, (hbl3.alloc hsz3 _).grown hgrow4 (by simp; omega) (rowBaseB hrow3)⟩
        rw [HNX.out, baV, List.map_append]; exact hown4
      go_roundw
      case rel =>
        (repeat apply Exists.intro)
        exact ⟨hrelN, rfl⟩
      case measure => simp [intOf]; omega
    · obtain rfl : m = ns.length := by omega
      have hall : ns.take ns.length = ns := List.take_of_length_le (Nat.le_refl _)
      rw [hall] at hrow
      have hrowL : wr.ownsRow w2.heap.size 9 1 u7 (ns.map (fun x => (⟨#[UInt8.ofNat x]⟩ : ByteArray))).length (baV (ns.map (fun x => (⟨#[UInt8.ofNat x]⟩ : ByteArray)))) := by
        rw [List.length_map]; exact hrow
      have hjn : Lib.join ((ns.map (fun x => (⟨#[UInt8.ofNat x]⟩ : ByteArray))).map (·.data.toList)) [] = ns.map UInt8.ofNat := join_ones ns
      have HJ0 := join_row ⟨#[]⟩ hrowL (by rw [List.length_map]; omega) (by
        show (Lib.join _ []).length ≤ _
        rw [hjn, List.length_map]; omega)
      have HJ : Hid (Calls Tryz.prog 152 #[u7, .string ⟨#[]⟩] wr fun e w' => e = .returned (.string ⟨(ns.map UInt8.ofNat).toArray⟩) ∧ Below wr.heap.size wr w') := by
        have h0 := HJ0
        simp only at h0
        rw [hjn] at h0
        exact h0
      clear HJ0 hall hjn hrowL
      obtain ⟨qw, cw, hqw⟩ := row_as hrow
      subst hqw
      clear hrow
      go_wp2_with fail
      refine HJ.out.mono ?_
      rintro e w3 ⟨rfl, hb3⟩
      go_wp2
      go_ret
      have hbl3 : Below w2.heap.size w2 w3 := hbl.trans (hb3.mono hsz)
      exact ⟨rfl, hr2.below hbl3, hk2.trans (Kept.of_below hbl3)⟩
end Go.Proofs.YtaiakpigljcjbaaGreatDoor
