/- Text: the one text by which a name is told. -/
import Derived.Test.YtpngjmeinlcggaaAppTold
import Derived.Test.YtpngjmeinlcggaaKin2
namespace Go.Proofs.Ytpngjmeinlcggaa
set_option linter.unusedVariables false
open Go.RowKit Go.Shelf
attribute [local go_sem] Oper.semAt_some

def toldS (l : List UInt8) : List UInt8 := l.flatMap toldL
def txt : List (List UInt8) → List UInt8
  | [] => []
  | l :: ls => toldS l ++ (46 :: txt ls)
theorem txt_snoc : ∀ (ls : List (List UInt8)) (l : List UInt8), txt (ls ++ [l]) = txt ls ++ (toldS l ++ [46])
  | [], l => by simp [txt]
  | m :: ls, l => by simp [txt, txt_snoc ls l]
theorem toldS_snoc (l : List UInt8) (b : UInt8) : toldS (l ++ [b]) = toldS l ++ toldL b := by simp [toldS]
theorem toldS_len (l : List UInt8) : (toldS l).length ≤ 4 * l.length := by
  induction l with
  | nil => simp [toldS]
  | cons b l ih =>
    have := toldL_len b
    simp only [toldS, List.flatMap_cons, List.length_append, List.length_cons] at *
    omega
theorem txt_len (ls : List (List UInt8)) : (txt ls).length ≤ 4 * (flat ls).length := by
  induction ls with
  | nil => simp [txt]
  | cons l ls ih =>
    have := toldS_len l
    simp only [txt, flat, List.length_append, List.length_cons]
    omega
theorem txt_pos {ls : List (List UInt8)} (h : ls ≠ []) : 0 < (txt ls).length := by
  cases ls with
  | nil => exact absurd rfl h
  | cons l t => rw [txt, List.length_append, List.length_cons]; omega
def txtN (ls : List (List UInt8)) : List UInt8 := if ls = [] then [46] else txt ls

theorem row_setB {W : World} {n₀ n B : Nat} {t : TypeId} {v u : Value} {xs : List Value} (h : W.ownsRow n₀ 5 1 v n xs) (hb : Boxed W B t u) (ht : t ≠ 5) (x : Value) : (W.setCell ⟨B, 0, none⟩ x).ownsRow n₀ 5 1 v n xs :=
  h.kept (grownBy_setCell' W B x) (.inr (hb.not_row ht h).symm)

theorem frame_drew {d : Nat} {W W' : World} (h : FrameD d W.drew W') : FrameD d W W' := ⟨h.os, h.tape, h.output, h.size, h.same⟩
theorem below_undrew {n : Nat} {W W' : World} (h : Below n W.drew W') : Below n W W' := ⟨h.os, h.tape, h.output, h.size, h.block⟩

theorem text_no (s : ByteArray) (hs : s.size ≤ maxLen) (h : ¬ IsName s) (w : World) :
    Calls Try.prog 20 #[.string s] w fun e w' => e = .returned (.tuple #[.string ⟨#[]⟩, .int .i64 2]) ∧ Below w.heap.size w w' := by
  go_enter Try.func20, Try.ntmps20
  go_wp2_with fail
  refine (right_no s h hs _).mono ?_
  rintro e w1 ⟨rfl, hb1⟩
  go_wp2
  go_ret2
  exact ⟨rfl, hb1⟩

theorem text_root (w : World) :
    Calls Try.prog 20 #[.string (nm [])] w fun e w' => e = .returned (.tuple #[.string ⟨#[46]⟩, .int .i64 0]) ∧ Below w.heap.size w w' := by
  have hr : ((nm []).toList == [0]) = true := by rw [ByteArray.toList_eq]; rfl
  go_enter Try.func20, Try.ntmps20
  go_wp2_with fail
  refine (right_yes [] okNil _).mono ?_
  rintro e w1 ⟨rfl, hb1⟩
  go_wp2
  go_ret2
  exact ⟨rfl, hb1⟩

set_option maxRecDepth 100000 in
set_option maxHeartbeats 2000000 in
theorem text_go (l0 : List UInt8) (ls0 : List (List UInt8)) (ho : OkN (l0 :: ls0)) (w : World) :
    Calls Try.prog 20 #[.string (nm (l0 :: ls0))] w fun e w' => e = .returned (.tuple #[.string ⟨(txt (l0 :: ls0)).toArray⟩, .int .i64 0]) ∧ Below w.heap.size w w' := by
  have hroot := nm_not_root ho
  have hsz : (nm (l0 :: ls0)).size ≤ 255 := by rw [nm_size]; have := ho.len; omega
  obtain ⟨ls, hls⟩ : ∃ ls, l0 :: ls0 = ls := ⟨_, rfl⟩
  have hne : ls ≠ [] := by rw [← hls]; simp
  rw [hls] at ho hroot hsz ⊢
  clear hls l0 ls0
  obtain ⟨i0, hi, hz0, hz1, hz2⟩ := info_parts info5
  refine (callsIn_wide (n := 6)).1 ?_
  refine callsIn_of_wp_marks Try.func20 rfl trivial ?_ rfl
  simp only [Try.ntmps20, List.size_toArray, List.length_cons, List.length_nil, Nat.reduceAdd, Nat.reduceSub, Array.replicate_succ, Array.replicate_zero, List.push_toArray, List.append_toArray, List.nil_append, List.cons_append]
  gi_wp2_with fail
  refine ⟨trivial, ?_⟩
  refine (callsIn_wide.2 (right_yes ls ho _)).mono ?_
  rintro e w1 ⟨rfl, hb1⟩
  gi_wp2_with fail
  refine ⟨trivial, ?_⟩
  refine (callsIn_wide.2 (eachLabel_in _ _)).mono ?_
  rintro e w' ⟨rfl, rfl⟩
  gi_wp2_with fail
  have hs : ((w1.alloc (.cells #[.slice none 0 0] 56)).alloc (.cells #[.string (nm ls)] 9)).cell? ⟨w1.heap.size + 1, 0, none⟩ = some (.string (nm ls)) := by
    have := (Boxed.new (w1.alloc (.cells #[.slice none 0 0] 56)) 9 (.string (nm ls))).cell
    rwa [World.size_alloc] at this
  refine wpIn_rangeFunc_ownF rfl (by omega) (gf := 62) (lb := #[.pointer (some ⟨w1.heap.size + 1, 0, none⟩)]) rfl trivial (enters_of Try.func62 (by kernel_rfl) rfl)
    (eachLabel_stops Fence.wide (6 - 1) trivial rfl (by omega) (w1.heap.size + 1) (nm ls) hsz _ (by simp) hs) KeepCell.t KeepCell.b (Below.refl _ _) (fun _ => rfl)
    (fun pre W => (∃ v, Boxed W w1.heap.size 56 v ∧ W.ownsRow (w1.heap.size + 2) 5 1 v (txt (labs pre)).length (Lib.byteCells (txt (labs pre))) ∧ True) ∧ (Boxed W (w1.heap.size + 1) 9 (.string (nm ls)) ∧ (w1.heap.size + 2 ≤ W.heap.size ∧ Below w1.heap.size w1 W)) ∧ (txt (labs pre)).length ≤ 1021 * pre.length)
    (fun c pre W => False)
    ?hI ?hIx ?h0 (fun x => { tmps := #[.string (nm ls), undef, .string ⟨#[]⟩, .int .i64 0, .pointer (some ⟨w1.heap.size, 0, none⟩), undef, .string x.1.2, undef, .string (nm ls), .bool true, .bool false, .string (nm ls), .bool false, .string (nm ls), .func (.func 62) #[] #[.pointer (some ⟨w1.heap.size + 1, 0, none⟩)], .int .i64 (x.1.1 : Int), .string x.1.2, undef, undef, undef, undef, undef, undef, undef, undef, undef, undef, undef, undef, undef, undef, undef, undef], defers := [] }) ?assign ?body ?done ?stop
  case hI =>
    refine OwnFrom.and (Own.from (holdsRow_own (w1.heap.size + 2) w1.heap.size 56 5 1 (fun pre => (txt (labs pre)).length) (fun pre => Lib.byteCells (txt (labs pre))) (fun _ _ => True)) _) (OwnFrom.and (OwnFrom.and (Own.from (boxed_own _ _ _) _) (OwnFrom.and ?_ (ownFrom_below (Nat.le_refl _) (by simp; omega)))) (ownFrom_pure _ _))
    intro s A B row hs hg hr
    exact Nat.le_trans hs hg.size
  case hIx => exact fun c => ownFrom_pure _ _
  case h0 =>
    refine ⟨⟨.slice none 0 0, (Boxed.new _ _ _).alloc _, World.ownsRow_nil .., trivial⟩, ⟨?_, by simp, ((Below.refl _ _).alloc (Nat.le_refl _) _).alloc (by simp) _⟩, by simp [labs, txt]⟩
    have := Boxed.new (w1.alloc (.cells #[.slice none 0 0] 56)) 9 (.string (nm ls))
    rwa [World.size_alloc] at this
  case assign =>
    intro l x W K hK
    gi_wp2
    exact hK
  case body =>
    rintro l pre x W ⟨⟨v, hv, hrow, -⟩, ⟨hbx, hle, hB⟩, hlen⟩ hpl
    have hx2 := x.2.2
    gi_wp2
    gi_loopw [19] (fun i wr => ∃ (k : Nat) (v : Value) (cur : List UInt8), k ≤ x.1.2.size ∧ i = .int .i64 k ∧ Boxed wr w1.heap.size 56 v ∧ wr.ownsRow (w1.heap.size + 2) 5 1 v cur.length (Lib.byteCells cur) ∧ Hid (cur = txt (labs pre) ++ toldS (x.1.2.data.toList.take k)) ∧ FrameD w1.heap.size W wr ∧ Below w1.heap.size W wr)
      (fun i _ => x.1.2.size - (intOf i).toNat)
    case atStart => exact ⟨0, v, txt (labs pre), Nat.zero_le _, rfl, hv, hrow, by simp [Hid, toldS], FrameD.refl _ _, Below.refl _ _⟩
    case round =>
      obtain ⟨k, v2, cur, hk, rfl, hv2, hrow2, hcur, hF2, hB2⟩ := hrel
      have hcl : cur.length ≤ 300000 := by
        rw [hcur.out, List.length_append]
        have := toldS_len (x.1.2.data.toList.take k)
        simp at this; omega
      by_cases hlt : k < x.1.2.size
      · have hc2 := hv2.cell
        have hf2 := hv2.frozen
        have hmo : Try.prog.follows Departure.mixedOrders = true := by kernel_rfl
        have hrow2' : wr.drew.ownsRow (w1.heap.size + 2) 5 1 v2 cur.length (Lib.byteCells cur) := hrow2
        have hsz2 : w1.heap.size + 2 ≤ wr.drew.heap.size := Nat.le_trans hle hB2.size
        have HA := Hid.mk (appendTold_in (w1.heap.size + 2) wr.drew v2 cur x.1.2[k] (by omega) hrow2' hsz2)
        have hv2' : Boxed wr.drew w1.heap.size 56 v2 := hv2
        have htk : Hid (x.1.2.data.toList.take (k + 1) = x.1.2.data.toList.take k ++ [x.1.2[k]]) := by
          rw [Hid, List.take_succ_eq_append_getElem (by rw [size_list]; exact hlt)]; rfl
        have hpos : 0 < (cur ++ toldL x.1.2[k]).length := by rw [List.length_append]; have := (toldL_len x.1.2[k]).2; omega
        gi_wp2
        gi_region_with_o (refine ⟨trivial, ?_⟩; gi_at_call 48; refine (CallsIn.inRound l (callsIn_wide.2 HA.out)).mono ?_; rintro e w3 ⟨⟨v3, rfl, hrow3⟩, hF3, hB3⟩; obtain ⟨g3, cap3, rfl⟩ := row_form hrow3 hpos; have hv3 := (hF3 (w1.heap.size + 1)).boxed hv2' (by omega) (by decide); have hc3 := hv3.cell; have hf3 := hv3.frozen)
        gi_wp2
        all_goals
          rw [List.length_append] at hrow3
          refine ⟨⟨k + 1, _, cur ++ toldL x.1.2[k], by omega, by go_num, hv3.set _, ?_, ?_, ?_, ?_⟩, by simp [intOf]; omega⟩
          · rw [List.length_append]; exact row_setB hrow3 hv3 (by decide) _
          · rw [Hid, hcur.out, htk.out, toldS_snoc, List.append_assoc]
          · exact (hF2.trans (frame_drew (hF3 _))).trans (FrameD.set _ 0 w3 _)
          · exact (hB2.trans ((below_undrew hB3).mono (by omega))).setCell (p := ⟨w1.heap.size, 0, none⟩) (Nat.le_refl _) _
      · have hk' : x.1.2.data.toList.take k = x.1.2.data.toList := List.take_of_length_le (by rw [size_list]; omega)
        have HC : Hid (cur ++ [46] = txt (labs (pre ++ [x]))) := by
          rw [Hid, hcur.out, hk', labs_snoc, txt_snoc, List.append_assoc]
        have hlen2 : Hid ((txt (labs (pre ++ [x]))).length ≤ 1021 * (pre ++ [x]).length) := by
          rw [Hid, ← HC.out, hcur.out, hk']
          have := toldS_len x.1.2.data.toList
          rw [size_list] at this
          simp; omega
        have hbx2 := hF2.boxed hbx (by omega) (by decide)
        have hsz2 : w1.heap.size + 2 ≤ wr.heap.size := Nat.le_trans hle hB2.size
        have hc2 := hv2.cell
        clear hk' hcur
        gi_wp2_with (gi_at_builtin; refine wpListIn_append_own _ rfl _ _ 56 rfl (w1.heap.size + 2) 5 i0 (.int .u8 0) 1 1 Try.underlying56 hi hz0 hz1 hz2 rfl (by decide) _ _ _ rfl (hrow2.alloc _) ⟨wr.heap.size, 0, none⟩ 1 1 [.int .u8 46] rfl rfl (cell_one_new _ _ _) (by simp [Value.oneCell']) (by unfold maxLen; omega) (by omega) (by simp; omega) ?_; intro v3 w3 hrow3 hgrow3 _; obtain ⟨g3, cap3, rfl⟩ := row_form hrow3 (by omega); have hF3 := fun d => (FrameD.alloc d wr _).trans (FrameD.grown (d := d) hgrow3 (row_alloc hrow2 _)); have hB3 := ((Below.refl (w1.heap.size + 2) wr).alloc hsz2 _).grown hgrow3 (by simp; omega) (own_base hrow2); have hv3 := (hF3 (w1.heap.size + 1)).boxed hv2 (by omega) (by decide); have hc3 := hv3.cell; have hf3 := hv3.frozen)
        have hFF : FrameD w1.heap.size W (w3.setCell ⟨w1.heap.size, 0, none⟩ (.slice (some ⟨g3, 0, none⟩) (cur.length + 1) cap3)) := (hF2.trans (hF3 _)).trans (FrameD.set _ 0 w3 _)
        have hbx3 := hFF.boxed hbx (by omega) (by decide)
        refine ⟨hFF.others hv, fun u hu => ?_, ⟨_, hv3.set _, ?_, trivial⟩, ⟨hbx3, Nat.le_trans hle hFF.size, hB.trans ((hB2.trans (hB3.mono (by omega))).setCell (p := ⟨w1.heap.size, 0, none⟩) (Nat.le_refl _) _)⟩, hlen2.out⟩
        · rw [hbx.cell] at hu; cases hu; exact hbx3.cell
        · rw [← HC.out, List.length_append, byteCells_snoc]; exact row_setB hrow3 hv3 (by decide) _
  case done =>
    rintro D ys W hD ⟨hsq, hpl, hen⟩ ⟨⟨v, hv, hrow, -⟩, ⟨hbx, hle, hB⟩, hlen⟩ hK
    have hys : labs ys = ls := hsq.all_name ho hen
    rw [hys] at hrow
    have hpos : 0 < (txt ls).length := txt_pos hne
    obtain ⟨g, cap, hvv⟩ := row_form hrow hpos
    subst hvv
    have hc := hv.cell
    have hcv : (convert 56 9 (.slice (some ⟨g, 0, none⟩) (txt ls).length cap)).run Try.prog W = .ok (.string ⟨(txt ls).toArray⟩) W := by
      refine run_convert_bytes_back (P := Try.prog) W 56 9 5 ⟨g, 0, none⟩ cap (txt ls) Try.underlying56 Try.underlying5 Try.underlying9 (fun j hj => ?_)
      rcases hrow.2 with ⟨h', _⟩ | ⟨g', cap', cur, hv', _, hg, _, _, _, ht⟩
      · cases h'
      · cases hv'
        exact Lib.cells_of_row hg (txt ls).length j _ (by rw [Nat.mul_one] at ht; rw [ht]; simp [Lib.byteCells, hj])
    clear hrow hys hlen
    gi_wp2
    refine ⟨by simp, .inl ⟨_, _, rfl, run_takeDeferred hK, ?_⟩⟩
    refine ⟨_, results_tmp2 rfl _ _ _, rfl, ?_⟩
    exact bthen hb1 (hB.trans (belowK_b (w := w1) (Nat.le_refl _) W D _ _ (by simp at hD; omega) hK rfl rfl))
  case stop =>
    rintro D c pre W _ _ h _
    exact h.elim
theorem text_in (ls : List (List UInt8)) (ho : OkN ls) (w : World) :
    Calls Try.prog 20 #[.string (nm ls)] w fun e w' => e = .returned (.tuple #[.string ⟨(txtN ls).toArray⟩, .int .i64 0]) ∧ Below w.heap.size w w' := by
  cases ls with
  | nil => exact text_root w
  | cons l ls => exact text_go l ls ho w

end Go.Proofs.Ytpngjmeinlcggaa
