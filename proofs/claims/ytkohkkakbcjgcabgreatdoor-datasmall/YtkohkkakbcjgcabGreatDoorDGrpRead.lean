/- Read; and the form of A, how it is read where it goes well. -/
import Derived.Test.YtkohkkakbcjgcabGreatDoorDReads
namespace Go.Proofs.YtkohkkakbcjgcabGreatDoor
set_option linter.unusedVariables false
open Go.RowKit

theorem read_no {k : Int} (hk : 0 ≤ k ∧ k ≤ 65535) {s : ByteArray} {W : World} (h : Calls Tryz.prog 32 #[.int .i64 k, .string s] W fun e w' => UnPost none W e w') :
    Calls Tryz.prog 10 #[.int .i64 k, .string s] W fun e w' => e = .returned (.tuple #[.string ⟨#[]⟩, .int .i64 7]) ∧ Below W.heap.size W w' := by
  have H := Hid.mk h
  have HK := Hid.mk hk
  clear h hk
  go_enter Tryz.func10, Tryz.ntmps10
  go_wp2_with fail
  refine (isType_yes HK.out _).mono ?_
  rintro e w1 ⟨rfl, rfl⟩
  go_wp2_with fail
  refine H.out.mono ?_
  rintro e w2 ⟨rfl, hb⟩
  go_wp2
  go_ret2
  exact ⟨rfl, hb⟩

/-- the data that were understood are told by this very text, or by another one. -/
theorem read_of {k : Int} (hk : 0 ≤ k ∧ k ≤ 65535) {s t : ByteArray} {ps : List ByteArray} {W : World} (h : Calls Tryz.prog 32 #[.int .i64 k, .string s] W fun e w' => UnPost (some ps) W e w')
    (ht : ∀ w, Below W.heap.size W w → Calls Tryz.prog 31 #[.int .i64 k, .string (jn ps)] w fun e w' => e = .returned (.tuple #[.string t, .bool true]) ∧ Below w.heap.size w w') :
    Calls Tryz.prog 10 #[.int .i64 k, .string s] W fun e w' => e = .returned (if t = s then .tuple #[.string (jn ps), .int .i64 0] else .tuple #[.string ⟨#[]⟩, .int .i64 7]) ∧ Below W.heap.size W w' := by
  have H := Hid.mk h
  have HK := Hid.mk hk
  have HT := Hid.mk ht
  clear h hk ht
  by_cases he : t = s
  · rw [if_pos he]
    subst he
    have hb0 : (t.toList == t.toList) = true := by simp
    go_enter Tryz.func10, Tryz.ntmps10
    go_wp2_with fail
    refine (isType_yes HK.out _).mono ?_
    rintro e w1 ⟨rfl, rfl⟩
    go_wp2_with fail
    refine H.out.mono ?_
    rintro e w2 ⟨rfl, hb⟩
    go_wp2_with fail
    refine (HT.out _ hb).mono ?_
    rintro e w3 ⟨rfl, hb3⟩
    go_wp2
    go_ret2
    exact ⟨rfl, bth hb hb3 hb.size⟩
  · rw [if_neg he]
    have hb0 : (t.toList == s.toList) = false := by
      rw [beq_eq_false_iff_ne, ByteArray.toList_eq, ByteArray.toList_eq]
      intro e; exact he (ba_ext e)
    go_enter Tryz.func10, Tryz.ntmps10
    go_wp2_with fail
    refine (isType_yes HK.out _).mono ?_
    rintro e w1 ⟨rfl, rfl⟩
    go_wp2_with fail
    refine H.out.mono ?_
    rintro e w2 ⟨rfl, hb⟩
    go_wp2_with fail
    refine (HT.out _ hb).mono ?_
    rintro e w3 ⟨rfl, hb3⟩
    go_wp2
    go_ret2
    exact ⟨rfl, bth hb hb3 hb.size⟩

set_option maxRecDepth 100000 in
set_option maxHeartbeats 1000000 in
theorem bytesOf1_in (n : Nat) (hn : n < 256) (w : World) :
    Calls Tryz.prog 38 #[.int .i64 (n : Int), .int .i64 1] w fun e w' => e = .returned (.string ⟨#[UInt8.ofNat n]⟩) ∧ Below w.heap.size w w' := by
  obtain ⟨i0, hi, hz0, hz1, hz2⟩ := info_parts info5
  have hsh : (n : Int) / 256 = 0 := by omega
  go_enter Tryz.func38, Tryz.ntmps38
  go_wp2_with fail
  refine (must_yes _).mono ?_
  rintro e w1 ⟨rfl, rfl⟩
  obtain ⟨M, hM⟩ : ∃ M, M = madeCells (Value.int .u8 0).cells (((1 : Nat) : Int).toNat * i0.size) := ⟨_, rfl⟩
  have hMs : M.size = 1 := by rw [hM, size_madeCells, hz1]; simp
  have hmk : ∀ W : World, (Instr.makeSlice 100 (.int .i64 1) (.int .i64 1)).run Tryz.prog W = .ok (.slice (some ⟨W.heap.size, 0, none⟩) 1 1) (W.alloc (.cells M 5)) := fun W => by
    have h := run_make (P := Tryz.prog) W 100 5 i0 (.int .u8 0) Tryz.underlying100 hi hz0 .i64 .i64 ((1 : Nat) : Int) ((1 : Nat) : Int) (by omega) (by omega) (by rw [hz2]; omega) (by omega)
    rw [← hM] at h
    simpa using h
  obtain ⟨v0, hv0⟩ : ∃ v0, M = #[v0] := by
    match M, hMs with
    | ⟨[v]⟩, _ => exact ⟨v, rfl⟩
  subst hv0
  clear hM hMs
  go_wp2
  clear hmk
  go_loopw [21] (fun i wr => ∃ (j : Nat) (v : Value), j ≤ 1 ∧ i = .int .i64 j ∧ (j = 1 → v = .int .u8 (n : Int)) ∧ wr.heap[w1.heap.size]? = some (.cells #[v] 5 (0, 0)) ∧ Below w1.heap.size w1 wr) (fun i _ => 1 - (intOf i).toNat)
  case atStart => exact ⟨0, v0, by omega, rfl, fun h => absurd h (by omega), heap_new _ _, (Below.refl _ _).alloc (Nat.le_refl _) _⟩
  case round =>
    obtain ⟨j, v, hj, rfl, hv, hh, hbl⟩ := hrel
    rcases (show j = 0 ∨ j = 1 by omega) with rfl | rfl
    · have hc := box_cell hh
      have hf := box_frozen hh
      have hbs := Hid.mk (box_set hh (.int .u8 (n : Int)))
      clear hv
      go_wp2
      exact ⟨⟨1, _, by omega, rfl, fun _ => rfl, hbs.out, hbl.setCell (p := ⟨w1.heap.size, 0, none⟩) (Nat.le_refl _) _⟩, by simp [intOf]⟩
    · obtain rfl := hv rfl
      have hc := box_cell hh
      have hcv := run_convert_bytes_back (P := Tryz.prog) wr 100 9 5 ⟨w1.heap.size, 0, none⟩ 1 [UInt8.ofNat n] Tryz.underlying100 Tryz.underlying5 Tryz.underlying9 (fun j hj => by
        have e : j = 0 := by simpa using hj
        subst e
        rw [add_at, hc]; simp; omega)
      simp only [List.length_cons, List.length_nil, Nat.zero_add] at hcv
      clear hv
      go_wp2
      go_ret
      exact ⟨rfl, hbl⟩

theorem readNum_ok (g : ByteArray) (hg : g.size ≤ 1000) (n : Nat) (hn : n < 256) (h : Lib.parseIntB 64 g.data.toList = .ok (n : Int)) (w : World) :
    Calls Tryz.prog 87 #[.string g, .int .i64 10, .int .i64 1] w fun e w' => e = .returned (.string ⟨#[UInt8.ofNat n]⟩) ∧ Below w.heap.size w w' := by
  have HP : Hid (Calls Tryz.prog 133 #[.string g, .int .i64 10, .int .i64 64] w fun e w' => e = .returned (.tuple #[.int .i64 (n : Int), .nilIface]) ∧ Below w.heap.size w w') := by
    refine (Tryz.strconv_ParseInt_10_at64_ok g (by omega) n h w).mono ?_
    rintro e w' ⟨rfl, h | ⟨t, h⟩⟩
    · rw [h]; exact ⟨rfl, Below.refl _ _⟩
    · rw [h]; exact ⟨rfl, ⟨rfl, rfl, rfl, by rw [Lib.bytesWorld_size]; omega, fun k hk => Lib.bytesWorld_at_old w 5 t k hk⟩⟩
  clear h
  go_enter Tryz.func87, Tryz.ntmps87
  go_wp2_with fail
  refine HP.out.mono ?_
  rintro e w1 ⟨rfl, hb1⟩
  go_wp2_with fail
  refine (must_yes _).mono ?_
  rintro e w2 ⟨rfl, rfl⟩
  go_wp2_with fail
  refine (bytesOf1_in n hn _).mono ?_
  rintro e w3 ⟨rfl, hb3⟩
  go_wp2
  go_ret
  exact ⟨rfl, bth hb1 hb3 hb1.size⟩

theorem cells_new1 (W : World) (cs : Array Value) (t : TypeId) (j : Nat) (u : Value) (h : cs.toList[j]? = some u) : (W.alloc (.cells cs t)).cell? ((⟨W.heap.size, 0, none⟩ : Addr).add j) = some u := by
  rw [add_at]
  have hh : (W.alloc (.cells cs t)).heap[W.heap.size]? = some (.cells cs t) := World.alloc_heap_new W _
  simp only [World.cell?, hh]
  simpa using h

theorem join_ones : ∀ ns : List Nat, Lib.join ((ns.map (fun x => (⟨#[UInt8.ofNat x]⟩ : ByteArray))).map (·.data.toList)) [] = ns.map UInt8.ofNat
  | [] => rfl
  | [x] => Lib.join_one _ _
  | x :: y :: r => by
    have ih := join_ones (y :: r)
    simp only [List.map_cons, Lib.join, List.intercalate] at ih ⊢
    rw [List.intersperse_cons_cons, List.flatten_cons, List.flatten_cons, ih]
    rfl

theorem GrpBoxes.kept {W W' : World} {b d : Nat} (h : GrpBoxes W b) (k : Kept d W W') (hd : d < b) : GrpBoxes W' b :=
  ⟨(k.same _ (box_lt h.cnt) (by omega)).trans h.cnt, (k.same _ (box_lt h.wid) (by omega)).trans h.wid, (k.same _ (box_lt h.bas) (by omega)).trans h.bas, (k.same _ (box_lt h.btw) (by omega)).trans h.btw⟩

set_option maxRecDepth 100000 in
set_option maxHeartbeats 600000 in
theorem grpRead_ok (W : World) (b d : Nat) (hdb : d < b) (hb : GrpBoxes W b) (s : ByteArray) (h : Rd W d s) (hs : s.size ≤ 1000) (hG : GlobK d W) (gs : List ByteArray) (ns : List Nat) (hlen : gs.length = ns.length) (h5 : gs.length ≤ 5)
    (hok : ∀ j (h1 : j < gs.length) (h2 : j < ns.length), gs[j].size ≤ 1000 ∧ ns[j] < 256 ∧ Lib.parseIntB 64 gs[j].data.toList = .ok (ns[j] : Int))
    (hws : (wordB s).size ≤ 1000) (hgs : Lib.splitB ⟨#[46]⟩ 0 (min 5 ((wordB s).size + 1) - 1) (wordB s) = gs) :
    Calls Tryz.prog 91 #[boxV d, boxV (b + 3), boxV b, boxV (b + 2), boxV (b + 1)] W fun e w' => e = .returned (.string ⟨(ns.map UInt8.ofNat).toArray⟩) ∧ Rd w' d (restB s) ∧ Kept d W w' := by
  have d0 := box_cell hb.cnt
  have d3 := box_cell hb.btw
  have hmo : Tryz.prog.follows Departure.mixedOrders = true := by kernel_rfl
  obtain ⟨i0, hi, hz0, hz1, hz2⟩ := info_parts info9
  have HW : Hid (Calls Tryz.prog 88 #[boxV d] W.drew fun e w1 => e = .returned (.string (wordB s)) ∧ Rd w1 d (restB s) ∧ Kept d W w1) := by
    refine (word_in W.drew d s (by omega) h (hG W.drew ⟨rfl, rfl, rfl, Nat.le_refl _, fun _ _ _ => rfl⟩)).mono ?_
    rintro e w1 ⟨he, hr, hk⟩
    exact ⟨he, hr, hk.os, hk.tape, hk.output, hk.size, hk.same⟩
  have HL1 : Hid (∀ (G : Prop) (w1 : World), Kept d W w1 → (w1.cell? ⟨b + 3, 0, none⟩ = some (.string ⟨#[46]⟩) → w1.cell? ⟨b, 0, none⟩ = some (.int .i64 4) → G) → G) := by
    intro G w1 hk hg
    have hb1 := hb.kept hk hdb
    exact hg (box_cell hb1.btw) (box_cell hb1.cnt)
  have HS : Hid (∀ w1, Kept d W w1 → Calls Tryz.prog 92 #[.string (wordB s), .string ⟨#[46]⟩, .int .i64 5] w1 fun e w2 => ∃ cap, e = .returned (.slice (some ⟨w1.heap.size, 0, none⟩) gs.length cap) ∧ (∀ j (hj : j < gs.length), w2.cell? ⟨w1.heap.size, j, none⟩ = some (.string gs[j])) ∧ w1.heap.size < w2.heap.size ∧ Below w1.heap.size w1 w2 ∧ w2.cell? ⟨b + 3, 0, none⟩ = some (.string ⟨#[46]⟩) ∧ w2.cell? ⟨b, 0, none⟩ = some (.int .i64 4)) := by
    intro w1 hk
    obtain ⟨m, hm⟩ := (hG w1 hk).maxl
    have := Tryz.strings_SplitN (wordB s) ⟨#[46]⟩ 5 m w1 (by omega) hm (by decide) (by omega) (by omega)
    rw [hgs] at this
    refine this.mono ?_
    rintro e w2 ⟨he, hw⟩
    have hbl : Below w1.heap.size w1 w2 := by rw [hw]; exact (Below.refl _ _).alloc (Nat.le_refl _) _
    have hb2 := (hb.kept hk hdb).below hbl
    refine ⟨_, he, fun j hj => ?_, by rw [hw]; simp, hbl, box_cell hb2.btw, box_cell hb2.cnt⟩
    rw [hw]
    have := cells_new1 w1 (Lib.cellsOf gs (min 5 ((wordB s).size + 1))) 9 j (.string gs[j]) (by
      simp only [Lib.cellsOf]
      rw [List.getElem?_append_left (by simpa using hj)]
      simp [hj])
    rwa [add_at] at this
  have HOK := Hid.mk hok
  clear hok hgs
  go_enter Tryz.func91, Tryz.ntmps91
  go_wp2_with fail
  go_region_held3 (fun w' => w'.cell? ⟨b + 3, 0, none⟩ = some (.string ⟨#[46]⟩) ∧ w'.cell? ⟨b, 0, none⟩ = some (.int .i64 4)) (first | (constructor <;> assumption) | go_keep)
    (first
      | (go_at_call 88; refine HW.out.mono ?_; rintro e w1 ⟨rfl, hr1, hk1⟩; refine HL1.out _ w1 hk1 ?_; intro e1 e2)
      | (go_at_call 92; refine (HS.out _ hk1).mono ?_; rintro e w2 ⟨cap, rfl, hgc, hlt2, hb2, e3, e4⟩))
  have hbx2 : GrpBoxes w2 b := (hb.kept hk1 hdb).below hb2
  have hr2 : Rd w2 d (restB s) := hr1.below hb2
  have hk2 : Kept d W w2 := hk1.trans (Kept.of_below hb2)
  clear e1 e2 e3 e4 d0 d3 HW HL1 HS
  go_wp2
  go_loopw [7, 17] (fun v i wr => ∃ m : Nat, m ≤ gs.length ∧ i = .int .i64 m ∧ wr.ownsRow w2.heap.size 9 1 v m (baV ((ns.take m).map fun x => ⟨#[UInt8.ofNat x]⟩)) ∧ Below w2.heap.size w2 wr) (fun _ i _ => gs.length - (intOf i).toNat)
  case atStart => exact ⟨0, Nat.zero_le _, rfl, World.ownsRow_nil .., Below.refl _ _⟩
  case round =>
    obtain ⟨m, hm, rfl, hrow, hbl⟩ := hrel
    have hsz := hbl.size
    by_cases hlt : m < gs.length
    · have hmn : m < ns.length := by omega
      obtain ⟨ho1, ho2, ho3⟩ := HOK.out m hlt hmn
      have hc := (hbl.cell (p := ⟨w1.heap.size, m, none⟩) hlt2).trans (hgc m hlt)
      have hbx := hbx2.below hbl
      have f1 := box_cell hbx.wid
      have f2 := box_cell hbx.bas
      have HN := Hid.mk (readNum_ok gs[m] ho1 ns[m] ho2 ho3)
      have hnx : (ns.take (m + 1)).map (fun x => (⟨#[UInt8.ofNat x]⟩ : ByteArray)) = (ns.take m).map (fun x => (⟨#[UInt8.ofNat x]⟩ : ByteArray)) ++ [⟨#[UInt8.ofNat ns[m]]⟩] := by
        rw [List.take_succ_eq_append_getElem hmn, List.map_append]; rfl
      have HNX := Hid.mk hnx
      have hltn : (m : Int) < (ns.length : Int) := by omega
      clear hnx ho3
      generalize gs[m] = gm at hc HN
      generalize ns[m] = nm at HN HNX ho2
      go_wp2_with fail
      refine (HN.out _).mono ?_
      rintro e w3 ⟨rfl, hb3⟩
      have hrow3 := row_bel hrow hb3
      have hbl3 : Below w2.heap.size w2 w3 := hbl.trans (hb3.mono hsz)
      have hsz3 := hbl3.size
      go_wp2_with (at_builtin; refine wpList_append_own _ rfl _ _ 61 rfl w2.heap.size 9 i0 (.string ⟨#[]⟩) 1 16 Tryz.underlying61 hi hz0 hz1 hz2 rfl (by decide) _ _ _ rfl (hrow3.alloc _) ⟨w3.heap.size, 0, none⟩ 1 1 [.string ⟨#[UInt8.ofNat nm]⟩] rfl rfl (cell_one_new _ _ _) (by simp [Value.oneCell']) (by unfold maxLen; omega) (by omega) (by simp; omega) ?_; intro v1 w4 hown4 hgrow4 _)
      have hrelN : ∃ j : Nat, j ≤ gs.length ∧ Value.int .i64 ((m : Int) + 1) = .int .i64 j ∧ w4.ownsRow w2.heap.size 9 1 v1 j (baV ((ns.take j).map fun x => ⟨#[UInt8.ofNat x]⟩)) ∧ Below w2.heap.size w2 w4 := by
        refine ⟨m + 1, by omega, by go_num, ?_, (hbl3.alloc hsz3 _).grown hgrow4 (by simp; omega) (rowBaseB hrow3)⟩
        rw [HNX.out, baV, List.map_append]; exact hown4
      go_roundw
      case rel =>
        (repeat apply Exists.intro)
        exact ⟨hrelN, rfl⟩
      case measure => simp [intOf]; omega
    · obtain rfl : m = ns.length := by omega
      have hall : ns.take ns.length = ns := List.take_of_length_le (Nat.le_refl _)
      rw [hall] at hrow
      have hrowL : wr.ownsRow w2.heap.size 9 1 u7 (ns.map (fun x => (⟨#[UInt8.ofNat x]⟩ : ByteArray))).length (baV (ns.map (fun x => (⟨#[UInt8.ofNat x]⟩ : ByteArray)))) := by
        rw [List.length_map]; exact hrow
      have hjn : Lib.join ((ns.map (fun x => (⟨#[UInt8.ofNat x]⟩ : ByteArray))).map (·.data.toList)) [] = ns.map UInt8.ofNat := join_ones ns
      have HJ0 := join_row ⟨#[]⟩ hrowL (by rw [List.length_map]; omega) (by
        show (Lib.join _ []).length ≤ _
        rw [hjn, List.length_map]; omega)
      have HJ : Hid (Calls Tryz.prog 49 #[u7, .string ⟨#[]⟩] wr fun e w' => e = .returned (.string ⟨(ns.map UInt8.ofNat).toArray⟩) ∧ Below wr.heap.size wr w') := by
        have h0 := HJ0
        simp only at h0
        rw [hjn] at h0
        exact h0
      clear HJ0 hall hjn hrowL
      obtain ⟨qw, cw, hqw⟩ := row_as hrow
      subst hqw
      clear hrow
      go_wp2_with fail
      refine HJ.out.mono ?_
      rintro e w3 ⟨rfl, hb3⟩
      go_wp2
      go_ret
      have hbl3 : Below w2.heap.size w2 w3 := hbl.trans (hb3.mono hsz)
      exact ⟨rfl, hr2.below hbl3, hk2.trans (Kept.of_below hbl3)⟩
end Go.Proofs.YtkohkkakbcjgcabGreatDoor
