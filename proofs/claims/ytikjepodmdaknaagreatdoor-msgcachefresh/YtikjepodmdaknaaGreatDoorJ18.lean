/- Texts of this proof, joined: RsD. -/
import Derived.Deep.RegionHeld3
import Derived.Test.YtikjepodmdaknaaGreatDoorJ17
set_option linter.unusedVariables false
set_option linter.unusedSimpArgs false
/- Layer 8: the data of a set are right or not; a set is right or not. -/
namespace Go.Proofs.YtikjepodmdaknaaGreatDoor
open Go.RowKit Go.Sort
theorem comp_own (w : World) (N : Nat) (v : Value) (zs : List (List UInt8)) (h : w.ownsRow N 9 1 v zs.length (zs.map encStr)) (h0 : 0 < zs.length) (hl : zs.length ≤ 1000000) : Calls Tryz.prog 157 #[v] w fun e w' => (∃ q c, e = .returned (.slice q (Lib.compact zs).length c)) ∧ Below N w w' := by
 have hv : v ≠ .slice none 0 0 := by
  rintro rfl
  rcases h.2 with ⟨_, h1⟩ | ⟨g, cap, cur, hv, _⟩
  ·omega
  ·cases hv
 obtain ⟨g, cap, rfl, hbg, hgl, hncap, hcm, hlen, hH⟩ := Lib.holds_of_ownsRow h hv
 refine (Tryz.slices_Compact_string g 0 cap zs w hH (by omega) (by omega)).mono ?_
 rintro e w' ⟨rfl, q, rfl⟩
 exact ⟨⟨_, _, rfl⟩, Lib.below_putRow (Below.refl _ _) hbg⟩
set_option maxRecDepth 100000 in
set_option maxHeartbeats 4000000 in
theorem rdata_in (s : Sv) (hin : SvIn s) (qd : Option Addr) (cd : Nat) (qg : Option Addr) (cg : Nat) (W : World) (hat : SvAt W s qd cd qg cg) : Calls Tryz.prog 119 #[.agg (svC s qd cd qg cg).toArray] W fun e w' => e = .returned (.bool (datOk s)) ∧ Below W.heap.size W w' := by
 obtain ⟨N, hN⟩ : ∃ N, W.heap.size = N := ⟨_, rfl⟩
 obtain ⟨n, hn⟩ : ∃ n, s.ds.length = n := ⟨_, rfl⟩
 have HTx : Hid (∀ i, i < n → ∃ (b off : Nat) (d : ByteArray), qd = some ⟨b, off, none⟩ ∧ Hid (s.ds[i]? = some d ∧ d ∈ s.ds) ∧ Hid (∀ w, Below N W w → w.cell? ⟨b, off + i, none⟩ = some (.string d))) := fun i hi => by
  have := tx_cell hat.ds i (by rw [hn]; exact hi)
  rw [hN] at this
  exact this
 have HRt : Hid (∀ d, d ∈ s.ds → ∀ w, Calls Tryz.prog 156 #[.int .i64 s.ty, .string d] w fun e w' => e = .returned (.bool (dRt s.ty d)) ∧ Below w.heap.size w w') := fun d hd w => right_all s.ty d (hin.ds d hd) w
 have HNo : Hid (∀ d, d ∈ s.ds → dRt s.ty d = false → datOk s = false) := fun d h1 h2 => dat_no h1 h2
 have HFew : Hid (n < 1 → datOk s = false) := fun h => dat_few (by rw [hn]; omega)
 have HMany : Hid (200 < n → datOk s = false) := fun h => dat_many (by rw [hn]; omega)
 have HEnd : Hid (1 ≤ n → n ≤ 200 → (∀ (i : Nat) d, s.ds[i]? = some d → dRt s.ty d = true) → datOk s = decide ((Lib.compact (sortB (lowsS s))).length = n)) := fun h1 h2 h3 => by
  have := dat_end (by rw [hn]; exact h1) (by rw [hn]; exact h2) h3
  rw [hn] at this
  exact this
 have HLen : Hid (∀ (i : Nat) d, s.ds[i]? = some d → i < n) := fun i d h => by rw [← hn]; exact (List.getElem?_eq_some_iff.1 h).1
 have HOr : Hid (n ≤ 200 → ∀ w, Below N W w → Calls Tryz.prog 83 #[.agg (svC s qd cd qg cg).toArray] w fun e w' => ∃ v, e = .returned v ∧ w'.ownsRow w.heap.size 9 1 v n ((sortB (lowsS s)).map encStr) ∧ Below w.heap.size w w') := fun h w hb => by
  have := inOrder_in s hin qd cd qg cg w (hat.blk (by rw [hN]; exact hb)) (by rw [hn]; omega)
  rw [hn] at this
  exact this
 have hsl : (sortB (lowsS s)).length = n := by rw [sortB_len]; unfold lowsS; rw [List.length_map]; exact hn
 have hncd : n ≤ cd ∧ cd ≤ 9223372036854775807 := by have := hat.cd; rw [hn] at this; unfold maxLen at this; omega
 have X0 := Bx.new W (svC s qd cd qg cg) 34
 simp only [svC] at X0 HOr ⊢
 rw [hn] at X0 HOr ⊢
 rw [hN] at X0 ⊢
 obtain ⟨V, hV⟩ : ∃ V, W.alloc (.cells [.string s.nm, .int .i64 s.ty, .int .i64 s.cl, .int .i64 s.tl, .slice qd n cd, .slice qg s.sg.length cg].toArray 34) = V := ⟨_, rfl⟩
 rw [hV] at X0
 have HX : Hid (∀ w, Below V.heap.size V w → Below N W w ∧ (w.cell? ⟨N, 0, none⟩ = some (.string s.nm) ∧ w.cell? ⟨N, 1, none⟩ = some (.int .i64 s.ty) ∧ w.cell? ⟨N, 2, none⟩ = some (.int .i64 s.cl) ∧ w.cell? ⟨N, 3, none⟩ = some (.int .i64 s.tl) ∧ w.cell? ⟨N, 4, none⟩ = some (.slice qd n cd) ∧ w.cell? ⟨N, 5, none⟩ = some (.slice qg s.sg.length cg))) := fun w hb => ⟨by have := (X0.blk hb).bel; rw [hN] at this; exact this, (X0.blk hb).cells6⟩
 have HV := Hid.mk hV
 obtain ⟨R, hR⟩ : ∃ R, datOk s = R := ⟨_, rfl⟩
 rw [hR] at HNo HMany HFew HEnd ⊢
 obtain ⟨Z, hZ⟩ : ∃ Z, sortB (lowsS s) = Z := ⟨_, rfl⟩
 rw [hZ] at HEnd HOr hsl
 have HZl := Hid.mk hsl
 clear hin hat X0 hV hn hR hZ hsl
 go_enter Tryz.func119, Tryz.ntmps119
 go_upto_region 1 with fail
 (try rw [hN])
 rw [HV.out]
 clear hN
 obtain ⟨_, x0, x1, x2, x3, x4, x5⟩ := HX.out _ (Below.refl _ _)
 have HF0 := Hid.mk (HX.out _ (Below.refl _ _)).1
 by_cases hfew : n < 1
 ·have hfz : (n : Int) < 1 := by omega
  have hR := HFew.out hfew
  subst hR
  go_wp2
  go_ret
  exact ⟨rfl, HF0.out⟩
 have hfz : ¬ (n : Int) < 1 := by omega
 by_cases hbig : 200 < n
 ·have hbz : (200 : Int) < (n : Int) := by omega
  have hR := HMany.out hbig
  subst hR
  go_wp2
  go_ret
  exact ⟨rfl, HF0.out⟩
 have hbz : ¬ (200 : Int) < (n : Int) := by omega
 go_wp2_with fail
 clear x0 x1 x2 x3 x4 x5
 go_loopw [18] (fun iv wr => ∃ (i : Nat) (wq : World), wq = wr ∧ i ≤ n ∧ iv = .int .i64 (i : Int) ∧ Hid (Below V.heap.size V wq ∧ ∀ j d, j < i → s.ds[j]? = some d → dRt s.ty d = true)) (fun iv _ => n - (intOf iv).toNat)
 case atStart => exact ⟨0, _, rfl, Nat.zero_le _, rfl, Below.refl _ _, fun j d hj => absurd hj (Nat.not_lt_zero _)⟩
 case round =>
  obtain ⟨i, wq, rfl, hi, rfl, HI⟩ := hrel
  by_cases hlt : i < n
  ·have hlz : (i : Int) < (n : Int) := by omega
   have hlz0 : (0 : Int) ≤ (i : Int) := by omega
   have wi : IntKind.i64.wrap ((i : Int) + 1) = ((i + 1 : Nat) : Int) := by rw [IntKind.wrap_i64]; omega
   obtain ⟨b, off, d, rfl, hd, hc⟩ := HTx.out i hlt
   obtain ⟨hbl, x0, x1, x2, x3, x4, x5⟩ := HX.out _ HI.out.1
   have hcell := hc.out _ hbl
   have HS1 := Hid.mk (HRt.out d hd.out.2)
   clear hbl hc
   go_wp2_with fail
   refine (HS1.out _).mono ?_
   rintro e w1 ⟨rfl, hb1⟩
   have HB1 : Hid (Below V.heap.size V w1) := HI.out.1.trans (hb1.mono HI.out.1.size)
   clear hb1 HS1 hcell x0 x1 x2 x3 x4 x5
   obtain ⟨r, hr⟩ : ∃ r, dRt s.ty d = r := ⟨_, rfl⟩
   rw [hr]
   cases r with
   | true =>
    have HE : Hid (∀ j d, j < i + 1 → s.ds[j]? = some d → dRt s.ty d = true) := fun j x hj hx => by
     rcases Nat.lt_succ_iff_lt_or_eq.1 hj with h | rfl
     ·exact HI.out.2 j x h hx
     ·rw [hd.out.1] at hx
      cases hx
      exact hr
    clear hr
    go_wp2
    go_roundw
    case rel => exact ⟨i + 1, _, rfl, by omega, by first | rfl | go_num, HB1.out, HE.out⟩
    case measure => simp [intOf]; omega
   | false =>
    have hR := HNo.out d hd.out.2 hr
    have HF := Hid.mk (HX.out _ HB1.out).1
    clear hr
    subst hR
    go_wp2
    go_ret
    exact ⟨rfl, HF.out⟩
  ·have hlz : ¬ (i : Int) < (n : Int) := by omega
   have hR := HEnd.out (by omega) (by omega) fun j d hj => HI.out.2 j d (by have := HLen.out j d hj; omega) hj
   have HB := Hid.mk HI.out.1
   have HO1 := Hid.mk (HOr.out (by omega) wq.drew (HX.out _ HB.out).1.drew)
   have HS0 : Hid ((fun w : World => (w.cell? ⟨N, 0, none⟩ = some (.string s.nm) ∧ w.cell? ⟨N, 1, none⟩ = some (.int .i64 s.ty) ∧ w.cell? ⟨N, 2, none⟩ = some (.int .i64 s.cl) ∧ w.cell? ⟨N, 3, none⟩ = some (.int .i64 s.tl) ∧ w.cell? ⟨N, 4, none⟩ = some (.slice qd n cd) ∧ w.cell? ⟨N, 5, none⟩ = some (.slice qg s.sg.length cg))) wq.drew) := (HX.out _ HB.out.drew).2
   clear HI HOr
   go_upto_region 9 with fail
   refine wp_region_held_drew (S := (fun w : World => (w.cell? ⟨N, 0, none⟩ = some (.string s.nm) ∧ w.cell? ⟨N, 1, none⟩ = some (.int .i64 s.ty) ∧ w.cell? ⟨N, 2, none⟩ = some (.int .i64 s.cl) ∧ w.cell? ⟨N, 3, none⟩ = some (.int .i64 s.tl) ∧ w.cell? ⟨N, 4, none⟩ = some (.slice qd n cd) ∧ w.cell? ⟨N, 5, none⟩ = some (.slice qg s.sg.length cg)))) (by kernel_rfl) HS0.out (fun hHeld => ?_)
   refine wU (i := 0) (v := ?va_0) rfl ?ya_0 (by assumption) ?_
   case ya_0 => (intro w hSw; (try dsimp only at hSw); go_simp; try with_reducible rfl)
   refine wU (i := 4) (v := ?va_4) rfl ?ya_4 (by assumption) ?_
   case ya_4 => (intro w hSw; (try dsimp only at hSw); go_simp; try with_reducible rfl)
   refine wU (i := 5) (v := ?va_5) rfl ?ya_5 (by assumption) ?_
   case ya_5 => (intro w hSw; (try dsimp only at hSw); go_simp; try with_reducible rfl)
   refine wU (i := 6) (v := ?va_6) rfl ?ya_6 (by assumption) ?_
   case ya_6 => (intro w hSw; (try dsimp only at hSw); go_simp; try with_reducible rfl)
   try simp only [Act.put, List.getElem_toArray, List.getElem_cons_succ, List.getElem_cons_zero, List.setIfInBounds_toArray, List.set_cons_zero, List.set_cons_succ]
   refine wpAnyH_ready (rs := [1]) (by kernel_rfl) (by simp) ?_
   refine AllReadyH.cons rfl (fun K hK => ?_) AllReadyH.nil
   go_simp
   go_at_call 83
   refine HO1.out.mono ?_
   rintro e w1 ⟨v1, rfl, ho1, hb1⟩
   have HB1 : Hid (Below V.heap.size V w1) := HB.out.drew.trans (hb1.mono HB.out.drew.size)
   have HC1 := Hid.mk (comp_own w1 wq.drew.heap.size v1 Z (by rw [HZl.out]; exact ho1) (by rw [HZl.out]; omega) (by rw [HZl.out]; omega))
   refine hK.out _ _ (HX.out _ HB1.out).2 (fun hHeld => ?_)
   clear hK K ho1
   try simp only [Act.put, List.getElem_toArray, List.getElem_cons_succ, List.getElem_cons_zero, List.setIfInBounds_toArray, List.set_cons_zero, List.set_cons_succ]
   refine wpAnyH_ready (rs := [2]) (by kernel_rfl) (by simp) ?_
   refine AllReadyH.cons rfl (fun K hK => ?_) AllReadyH.nil
   go_simp
   go_at_call 157
   refine HC1.out.mono ?_
   rintro e w2 ⟨⟨q2, c2, rfl⟩, hb2⟩
   have HB2 : Hid (Below V.heap.size V w2) := HB1.out.trans (hb2.mono HB.out.drew.size)
   refine hK.out _ _ (HX.out _ HB2.out).2 (fun hHeld => ?_)
   clear hK K HC1 hb1 hb2
   try simp only [Act.put, List.getElem_toArray, List.getElem_cons_succ, List.getElem_cons_zero, List.setIfInBounds_toArray, List.set_cons_zero, List.set_cons_succ]
   refine wU (i := 3) (v := ?vb_3) rfl ?yb_3 (by assumption) ?_
   case yb_3 => (intro w hSw; (try dsimp only at hSw); go_simp; try with_reducible rfl)
   refine wU (i := 7) (v := ?vb_7) rfl ?yb_7 (by assumption) ?_
   case yb_7 => (intro w hSw; (try dsimp only at hSw); go_simp; try with_reducible rfl)
   refine wU (i := 8) (v := ?vb_8) rfl ?yb_8 (by assumption) ?_
   case yb_8 => (intro w hSw; (try dsimp only at hSw); go_simp; try with_reducible rfl)
   try simp only [Act.put, List.getElem_toArray, List.getElem_cons_succ, List.getElem_cons_zero, List.setIfInBounds_toArray, List.set_cons_zero, List.set_cons_succ]
   refine wpAnyH_done (by kernel_rfl) ?_ _
   clear hHeld
   have HF := Hid.mk (HX.out _ HB2.out).1
   obtain ⟨m, hm⟩ : ∃ m, (Lib.compact Z).length = m := ⟨_, rfl⟩
   rw [hm] at hR ⊢
   by_cases hmn : m = n
   ·rw [decide_eq_true hmn] at hR
    subst hR
    subst hmn
    go_wp2
    go_ret
    exact ⟨by simp, HF.out⟩
   ·rw [decide_eq_false hmn] at hR
    subst hR
    have hmz : ((m : Int) == (n : Int)) = false := by simpa using fun h : (m : Int) = n => hmn (by omega)
    go_wp2
    go_ret
    exact ⟨by first | rfl | simp [hmn] | (rw [hmz]), HF.out⟩
set_option maxRecDepth 100000 in
set_option maxHeartbeats 4000000 in
theorem setRight_in (s : Sv) (hin : SvIn s) (qd : Option Addr) (cd : Nat) (qg : Option Addr) (cg : Nat) (W : World) (hat : SvAt W s qd cd qg cg) : Calls Tryz.prog 80 #[.agg (svC s qd cd qg cg).toArray] W fun e w' => e = .returned (.bool (setOk s)) ∧ Below W.heap.size W w' := by
 have HH : Hid (∀ w, Calls Tryz.prog 118 #[.agg (svC s qd cd qg cg).toArray] w fun e w' => e = .returned (.bool (headOk s)) ∧ Below w.heap.size w w') := fun w => rhead_in s hin.nm qd cd qg cg w
 have HD : Hid (∀ w, Below W.heap.size W w → Calls Tryz.prog 119 #[.agg (svC s qd cd qg cg).toArray] w fun e w' => e = .returned (.bool (datOk s)) ∧ Below w.heap.size w w') := fun w hb => rdata_in s hin qd cd qg cg w (hat.blk hb)
 have HG : Hid (∀ w, Below W.heap.size W w → Calls Tryz.prog 120 #[.agg (svC s qd cd qg cg).toArray] w fun e w' => e = .returned (.bool (sigOk s)) ∧ Below w.heap.size w w') := fun w hb => rsigs_in s hin qd cd qg cg w (hat.blk hb)
 have hT : setOk s = (headOk s && datOk s && sigOk s) := rfl
 rw [hT]
 clear hT hin hat
 have X0 := Bx.new W (svC s qd cd qg cg) 34
 simp only [svC] at X0 HH HD HG ⊢
 generalize headOk s = b0 at HH ⊢
 generalize datOk s = b1 at HD ⊢
 generalize sigOk s = b2 at HG ⊢
 generalize s.ds.length = n at *
 generalize s.sg.length = m at *
 generalize s.nm = y0 at *
 generalize s.ty = y1 at *
 generalize s.cl = y2 at *
 generalize s.tl = y3 at *
 go_enter Tryz.func80, Tryz.ntmps80
 have c0 := X0.cells6
 go_wp2_with fail
 clear c0
 refine (HH.out _).mono ?_
 rintro e w1 ⟨rfl, hb1⟩
 have X1 := X0.blk hb1
 have c1 := X1.cells6
 clear hb1 X0
 cases b0 with
 | false =>
  go_wp2
  go_ret
  exact ⟨rfl, X1.bel⟩
 | true =>
  go_wp2_with fail
  refine (HD.out _ X1.bel).mono ?_
  rintro e w2 ⟨rfl, hb2⟩
  have X2 := X1.blk hb2
  clear c1
  have c2 := X2.cells6
  clear hb2 X1
  cases b1 with
  | false =>
   go_wp2
   go_ret
   exact ⟨rfl, X2.bel⟩
  | true =>
   go_wp2_with fail
   refine (HG.out _ X2.bel).mono ?_
   rintro e w3 ⟨rfl, hb3⟩
   have X3 := X2.blk hb3
   clear hb3 X2
   go_wp2
   go_ret
   exact ⟨by cases b2 <;> rfl, X3.bel⟩
end Go.Proofs.YtikjepodmdaknaaGreatDoor
