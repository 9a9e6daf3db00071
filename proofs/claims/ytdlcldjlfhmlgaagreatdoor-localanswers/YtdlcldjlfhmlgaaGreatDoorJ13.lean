/- Texts of this proof, joined: LcW, LcX, LdA, LdT, ZCas. -/
import Derived.Deep.DeepCutAuto
import Derived.Test.YtdlcldjlfhmlgaaGreatDoorJ12
import Derived.OpenShut
import Derived.WalkKit
import Derived.ProofKit
import Derived.Lib.LaidTab
import Derived.Lib.SmallJoins
import Derived.Deep.SlicePairs
import Derived.Deep.DeepHandedRow
import Derived.Test.YtdlcldjlfhmlgaaGreatDoorTie
import Derived.Test.YtdlcldjlfhmlgaaGreatDoorCards
import Derived.Lib.ConvBytes
import Derived.Test.YtdlcldjlfhmlgaaGreatDoorJ2
set_option linter.unusedVariables false
set_option linter.unusedSimpArgs false
/- Layer 8: add: the walk. -/
namespace Go.Proofs.YtdlcldjlfhmlgaaGreatDoor
open Go.RowKit
open Go.MapKept Go.WideMaps
open So (El elC SRow)
set_option maxRecDepth 100000 in
set_option maxHeartbeats 4000000 in
theorem gadd_in (N : Nat) (W : World) (G P K : Nat) (v : Value) (els : List El) (ss : List St) (np nk : Nat) (h : Gth N W G P K v els ss (plF ss) (knF ss) np nk) (r : Rc) (hro : rOk r = true) (h1 : I64 r.ty) (h2 : I64 r.cl) (hap : Apart ss) (m : Nat) (hm : m ≤ 199) (hok : SsOk ss m) (hl : els.length ≤ 400) (hnp : np ≤ 400) (hnk : nk ≤ 400) (hN : N ≤ W.heap.size) (hd1 : r.nm.size ≤ maxLen) (hd2 : r.dat.size ≤ 65535) :
  Calls Tryz.prog 88 #[ptA G 0, .agg (rcL r).toArray] W fun e w' => e = .returned (.tuple #[]) ∧ ∃ v' els' np' nk', Gth N w' G P K v' els' (addR ss r) (plF (addR ss r)) (knF (addR ss r)) np' nk' ∧ np' ≤ np + 1 ∧ nk' ≤ nk + 1 ∧ els'.length ≤ els.length + 1 ∧ Below N W w' := by
 have hnm : IsName r.nm := by
  unfold rOk at hro
  simp only [Bool.and_eq_true] at hro
  exact isN_iff.1 hro.1.1.1
 obtain ⟨ls, ho, hr⟩ := hnm
 have HSF := Hid.mk fun (w : World) (hw : Gth N w G P K v els ss (plF ss) (knF ss) np nk) (hNw : N ≤ w.heap.size) => setFor_any N w G P K v els ss np nk hw r ls ho hr h1 h2 hap m hok (by omega) (by omega) hNw
 have hlow : lowF r.nm = nm (lowN ls) := by rw [hr, lowF_nm ho]
 have HK := Hid.mk (keyOf_in r r.ty hd1)
 rw [hlow] at HK
 have HT := Hid.mk (ttlOf_in r)
 have HL := Hid.mk (lower_in r.ty r.dat (by unfold maxLen; omega))
 have HC := Hid.mk (clone_in r.dat · hd2)
 have X0 := Bx.new W (rcL r) 33
 have HAR := Hid.mk (rfl : addR ss r = addR ss r)
 obtain ⟨AR, hAR⟩ : ∃ AR, addR ss r = AR := ⟨_, rfl⟩
 rw [hAR] at HSF ⊢
 have hAD : Hid (∀ s, addD s r = addD s r) := fun _ => rfl
 simp only [rcL] at HK HT X0 HSF ⊢
 obtain ⟨tt, htt⟩ : ∃ tt, ttl r = tt := ⟨_, rfl⟩
 obtain ⟨lw, hlw⟩ : ∃ lw, lowR r.ty r.dat = lw := ⟨_, rfl⟩
 rw [htt] at HT
 rw [hlw] at HL
 have HR : Hid (ttl r = tt ∧ lowR r.ty r.dat = lw ∧ addR ss r = AR) := ⟨htt, hlw, hAR⟩
 have hlws : lw.size ≤ 65535 := by rw [← hlw, lowR_size]; exact hd2
 obtain ⟨V0, hV0⟩ : ∃ V0, W.alloc (.cells #[.string r.nm, .int .i64 r.ty, .int .i64 r.cl, .int .i64 r.tl, .string r.dat] 33) = V0 := ⟨_, rfl⟩
 have X0' : Bx W W.heap.size [.string r.nm, .int .i64 r.ty, .int .i64 r.cl, .int .i64 r.tl, .string r.dat] 33 V0 := hV0 ▸ X0
 have HV0 := Hid.mk hV0
 have g0 := h.blk X0'.bel
 have c0 := X0'.cells5
 clear hV0 X0 htt hlw hAR hAD HAR hlow h hr
 go_enter Tryz.func88, Tryz.ntmps88
 go_wp2_with fail
 rw [HV0.out]
 refine (HK.out _).mono ?_
 rintro e w1 ⟨rfl, hb1⟩
 have X1 := X0'.blk hb1
 have c1 := X1.cells5
 have g1 := g0.blk hb1
 clear c0 g0 X0'
 obtain ⟨V1, hV1⟩ : ∃ V1, w1.alloc (.cells #[.string (nm (lowN ls)), .int .i64 r.ty, .int .i64 r.cl] 166) = V1 := ⟨_, rfl⟩
 have bV1 : Below w1.heap.size w1 V1 := hV1 ▸ (Below.refl _ _).alloc (Nat.le_refl _) _
 have X2 := X1.blk bV1
 have g2 := g1.blk bV1
 have hbox : V1.heap[w1.heap.size]? = some (.cells #[.string (nm (lowN ls)), .int .i64 r.ty, .int .i64 r.cl] 166 (0, 0)) := hV1 ▸ heap_alloc_new w1 _
 have HV1 := Hid.mk hV1
 obtain ⟨B1, hB1⟩ : ∃ B1, w1.heap.size = B1 := ⟨_, rfl⟩
 have HB1 := Hid.mk hB1
 rw [hB1] at hbox
 have HX : Hid (∀ w, Kst V1 w → Kst V1 w ∧ (w.cell? ⟨W.heap.size, 0, none⟩ = some (.string r.nm) ∧ w.cell? ⟨W.heap.size, 1, none⟩ = some (.int .i64 r.ty) ∧ w.cell? ⟨W.heap.size, 2, none⟩ = some (.int .i64 r.cl) ∧ w.cell? ⟨W.heap.size, 3, none⟩ = some (.int .i64 r.tl) ∧ w.cell? ⟨W.heap.size, 4, none⟩ = some (.string r.dat)) ∧ w.cell? ⟨B1, 0, none⟩ = some (.string (nm (lowN ls))) ∧ w.cell? ⟨B1, 1, none⟩ = some (.int .i64 r.ty) ∧ w.cell? ⟨B1, 2, none⟩ = some (.int .i64 r.cl)) := by
  intro w hk
  have e1 := hk _ _ _ _ X2.hb (by decide) (by decide) (by decide)
  have e2 := hk _ _ _ _ hbox (by decide) (by decide) (by decide)
  exact ⟨hk, ⟨by rw [So.cell_blk e1]; rfl, by rw [So.cell_blk e1]; rfl, by rw [So.cell_blk e1]; rfl, by rw [So.cell_blk e1]; rfl, by rw [So.cell_blk e1]; rfl⟩, by rw [So.cell_blk e2]; rfl, by rw [So.cell_blk e2]; rfl, by rw [So.cell_blk e2]; rfl⟩
 have HN1 : Hid (N ≤ V1.heap.size ∧ Below N W V1) := ⟨Nat.le_trans hN X2.bel.size, X2.bel.mono hN⟩
 have HSF1 := Hid.mk (HSF.out V1 g2 HN1.out.1)
 clear hV1 hB1 X1 X2 g1 g2 hbox bV1 hb1 HSF
 go_upto_region 2 with fail
 rw [HV1.out, HB1.out]
 have c2 := HX.out _ (Kst.refl _)
 clear c1
 go_wp2_with fail
 refine HSF1.out.mono ?_
 rintro e w3 ⟨g, cap, i, els', ss', np', rfl, g3, ⟨hi, hie, hset, hls, hty, hcl⟩, hok', hap', hnp', hel', hb3, hk3⟩
 clear c2 HSF1
 have c3 := HX.out _ hk3
 have hse := g3.rel.at i hie hi
 obtain ⟨qd, cd, hdv⟩ := srow_any hse.dv
 have hsl : ss'[i].ds.length ≤ 199 := by have := (hok' _ (List.getElem_mem hi)).2.2.2.2.1; omega
 obtain ⟨k, hk⟩ : ∃ k, ss'[i].ds.length = k := ⟨_, rfl⟩
 rw [hk] at hdv hsl
 have HCel : Hid (∀ w, Gth N w G P K (.slice (some ⟨g, 0, none⟩) els'.length cap) els' ss' (plF ss') (knF ss') np' nk → w.cell? ⟨g, i * 6 + 3, none⟩ = some (.int .i64 ss'[i].tl) ∧ w.cell? ⟨g, i * 6 + 4, none⟩ = some (.slice qd k cd) ∧ w.frozen? ⟨g, i * 6 + 3, none⟩ = false) := by
  intro w gw
  obtain ⟨g', cap', hv, _, hr⟩ := srow_form gw.row (by omega)
  cases hv
  obtain ⟨_, _, c, hc⟩ := own_lt gw.row (b := g) rfl
  refine ⟨?_, ?_, by unfold World.frozen?; simp [hc]⟩
  ·rw [hr.cell i hie 3 (by decide), ← hse.tl]; rfl
  ·rw [hr.cell i hie 4 (by decide), ← hdv]; rfl
 have hkn : ((k : Int) == 200) = false := by simp; omega
 obtain ⟨d3, d4, d5⟩ := HCel.out _ g3
 obtain ⟨tl0, htl0⟩ : ∃ tl0, ss'[i].tl = tl0 := ⟨_, rfl⟩
 rw [htl0] at d3 HCel
 -- what is there behind the TTL
 have HG3 := Hid.mk g3
 have HK3 := Hid.mk hk3
 have HTL : Hid (∀ w, Gth N w G P K (.slice (some ⟨g, 0, none⟩) els'.length cap) els' ss' (plF ss') (knF ss') np' nk → Gth N (w.setCell ⟨g, i * 6 + 3, none⟩ (.int .i64 (min tl0 tt))) G P K (.slice (some ⟨g, 0, none⟩) els'.length cap) (els'.set i { els'[i] with tl := min tl0 tt }) (ss'.set i { ss'[i] with tl := min tl0 tt }) (plF ss') (knF ss') np' nk ∧ Below N w (w.setCell ⟨g, i * 6 + 3, none⟩ (.int .i64 (min tl0 tt))) ∧ Kst w (w.setCell ⟨g, i * 6 + 3, none⟩ (.int .i64 (min tl0 tt)))) := fun w gw => set_tl gw i hie hi _
 obtain ⟨e1, he1⟩ : ∃ e1, els'.set i { els'[i] with tl := min tl0 tt } = e1 := ⟨_, rfl⟩
 obtain ⟨s1, hs1⟩ : ∃ s1, ss'.set i { ss'[i] with tl := min tl0 tt } = s1 := ⟨_, rfl⟩
 rw [he1, hs1] at HTL
 have HQ : Hid (els'.set i { els'[i] with tl := min tl0 tt } = e1 ∧ ss'.set i { ss'[i] with tl := min tl0 tt } = s1 ∧ ss'[i].tl = tl0 ∧ ss'[i].ds.length = k ∧ els'[i].dv = .slice qd k cd ∧ AR = ss'.set i (addD ss'[i] r) ∧ lowN ss'[i].ls = lowN ls ∧ ss'[i].ty = r.ty ∧ ss'[i].cl = r.cl ∧ SsOk ss' m ∧ Apart ss' ∧ np' ≤ np + 1 ∧ els'.length ≤ els.length + 1 ∧ i < ss'.length ∧ i < els'.length) := ⟨he1, hs1, htl0, hk, hdv, hset, hls, hty, hcl, hok', hap', hnp', hel', hi, hie⟩
 have HB3 : Hid (Below N W w3) := HN1.out.2.trans hb3
 have HNw : Hid (N ≤ w3.heap.size) := Nat.le_trans hN HB3.out.size
 clear hse hdv htl0 hk he1 hs1 hset hls hty hcl hok' hap' hb3 g3 hk3
 go_upto_region 4 with fail
 go_cut [] (fun wx => Gth N wx G P K (.slice (some ⟨g, 0, none⟩) els'.length cap) e1 s1 (plF ss') (knF ss') np' nk ∧ Kst V1 wx ∧ Below N W wx)
 case first =>
  refine wp_region_held_drew (S := fun w => Kst V1 w ∧ (w.cell? ⟨W.heap.size, 0, none⟩ = some (.string r.nm) ∧ w.cell? ⟨W.heap.size, 1, none⟩ = some (.int .i64 r.ty) ∧ w.cell? ⟨W.heap.size, 2, none⟩ = some (.int .i64 r.cl) ∧ w.cell? ⟨W.heap.size, 3, none⟩ = some (.int .i64 r.tl) ∧ w.cell? ⟨W.heap.size, 4, none⟩ = some (.string r.dat)) ∧ w.cell? ⟨B1, 0, none⟩ = some (.string (nm (lowN ls))) ∧ w.cell? ⟨B1, 1, none⟩ = some (.int .i64 r.ty) ∧ w.cell? ⟨B1, 2, none⟩ = some (.int .i64 r.cl)) (by kernel_rfl) (HX.out _ HK3.out.drew) (fun hHeld => ?_)
  refine wU (i := 0) (v := ?va_0) rfl ?ya_0 (by assumption) ?_
  case ya_0 => (intro w hSw; (try dsimp only at hSw); go_simp; try with_reducible rfl)
  refine wU (i := 1) (v := ?va_1) rfl ?ya_1 (by assumption) ?_
  case ya_1 => (intro w hSw; (try dsimp only at hSw); go_simp; try with_reducible rfl)
  refine wU (i := 2) (v := ?va_2) rfl ?ya_2 (by assumption) ?_
  case ya_2 => (intro w hSw; (try dsimp only at hSw); go_simp; try with_reducible rfl)
  refine wU (i := 3) (v := ?va_3) rfl ?ya_3 (by assumption) ?_
  case ya_3 => (intro w hSw; (try dsimp only at hSw); go_simp; try with_reducible rfl)
  refine wU (i := 5) (v := ?va_5) rfl ?ya_5 (by assumption) ?_
  case ya_5 => (intro w hSw; (try dsimp only at hSw); go_simp; try with_reducible rfl)
  try simp only [Act.put, List.getElem_toArray, List.getElem_cons_succ, List.getElem_cons_zero, List.setIfInBounds_toArray, List.set_cons_zero, List.set_cons_succ]
  refine wpAnyH_ready (rs := [4, 6]) (by kernel_rfl) (by simp) ?_
  refine AllReadyH.cons rfl (fun K hK => ?_) (AllReadyH.cons rfl (fun K hK => ?_) AllReadyH.nil)
  ·go_simp
   refine hK.out _ _ (HX.out _ HK3.out.drew) (fun hHeld => ?_)
   clear hK K
   try simp only [Act.put, List.getElem_toArray, List.getElem_cons_succ, List.getElem_cons_zero, List.setIfInBounds_toArray, List.set_cons_zero, List.set_cons_succ]
   refine wpAnyH_ready (rs := [6]) (by kernel_rfl) (by simp) ?_
   refine AllReadyH.cons rfl (fun K hK => ?_) AllReadyH.nil
   go_simp
   go_at_call 116
   refine (HT.out _).mono ?_
   rintro e w4 ⟨rfl, hb4⟩
   have b4 : Below w3.heap.size w3 w4 := (Below.refl w3.heap.size w3).drew.trans hb4
   have k4 : Kst V1 w4 := HK3.out.blk b4
   have g4 := HG3.out.blk b4
   refine hK.out _ _ (HX.out _ k4) (fun hHeld => ?_)
   clear hK K
   try simp only [Act.put, List.getElem_toArray, List.getElem_cons_succ, List.getElem_cons_zero, List.setIfInBounds_toArray, List.set_cons_zero, List.set_cons_succ]
   refine wpAnyH_ready (rs := [7]) (by kernel_rfl) (by simp) ?_
   refine AllReadyH.cons rfl (fun K hK => ?_) AllReadyH.nil
   refine step_mn rfl _ _ rfl tl0 tt (min tl0 tt) rfl rfl (min_if _ _) ?_
   refine hK.out _ _ (HX.out _ k4) (fun hHeld => ?_)
   clear hK K
   refine wU (i := 8) (v := ?vb_8) rfl ?yb_8 (by assumption) ?_
   case yb_8 => (intro w hSw; (try dsimp only at hSw); go_simp; try with_reducible rfl)
   refine wU (i := 9) (v := ?vb_9) rfl ?yb_9 (by assumption) ?_
   case yb_9 => (intro w hSw; (try dsimp only at hSw); go_simp; try with_reducible rfl)
   try simp only [Act.put, List.getElem_toArray, List.getElem_cons_succ, List.getElem_cons_zero, List.setIfInBounds_toArray, List.set_cons_zero, List.set_cons_succ]
   refine wpAnyH_ready (rs := [10]) (by kernel_rfl) (by simp) ?_
   refine AllReadyH.cons rfl (fun K hK => ?_) AllReadyH.nil
   obtain ⟨f3, f4, f5⟩ := HCel.out _ g4
   go_simp
   have T4 := HTL.out _ g4
   refine hK.out _ _ (HX.out _ (k4.trans T4.2.2)) (fun hHeld => ?_)
   clear hK K
   try simp only [Act.put, List.getElem_toArray, List.getElem_cons_succ, List.getElem_cons_zero, List.setIfInBounds_toArray, List.set_cons_zero, List.set_cons_succ]
   refine wpAnyH_done (by kernel_rfl) ?_ _
   go_wp2
   go_meet
   exact ⟨T4.1, k4.trans T4.2.2, HB3.out.trans ((b4.mono HNw.out).trans T4.2.1)⟩
  ·go_simp
   go_at_call 116
   refine (HT.out _).mono ?_
   rintro e w4 ⟨rfl, hb4⟩
   have b4 : Below w3.heap.size w3 w4 := (Below.refl w3.heap.size w3).drew.trans hb4
   have k4 : Kst V1 w4 := HK3.out.blk b4
   have g4 := HG3.out.blk b4
   refine hK.out _ _ (HX.out _ k4) (fun hHeld => ?_)
   clear hK K
   obtain ⟨f3, f4, f5⟩ := HCel.out _ g4
   try simp only [Act.put, List.getElem_toArray, List.getElem_cons_succ, List.getElem_cons_zero, List.setIfInBounds_toArray, List.set_cons_zero, List.set_cons_succ]
   refine wpAnyH_ready (rs := [4]) (by kernel_rfl) (by simp) ?_
   refine AllReadyH.cons rfl (fun K hK => ?_) AllReadyH.nil
   go_simp
   refine hK.out _ _ (HX.out _ k4) (fun hHeld => ?_)
   clear hK K f3 f4 f5
   try simp only [Act.put, List.getElem_toArray, List.getElem_cons_succ, List.getElem_cons_zero, List.setIfInBounds_toArray, List.set_cons_zero, List.set_cons_succ]
   refine wpAnyH_ready (rs := [7]) (by kernel_rfl) (by simp) ?_
   refine AllReadyH.cons rfl (fun K hK => ?_) AllReadyH.nil
   refine step_mn rfl _ _ rfl tl0 tt (min tl0 tt) rfl rfl (min_if _ _) ?_
   refine hK.out _ _ (HX.out _ k4) (fun hHeld => ?_)
   clear hK K
   refine wU (i := 8) (v := ?vc_8) rfl ?yc_8 (by assumption) ?_
   case yc_8 => (intro w hSw; (try dsimp only at hSw); go_simp; try with_reducible rfl)
   refine wU (i := 9) (v := ?vc_9) rfl ?yc_9 (by assumption) ?_
   case yc_9 => (intro w hSw; (try dsimp only at hSw); go_simp; try with_reducible rfl)
   try simp only [Act.put, List.getElem_toArray, List.getElem_cons_succ, List.getElem_cons_zero, List.setIfInBounds_toArray, List.set_cons_zero, List.set_cons_succ]
   refine wpAnyH_ready (rs := [10]) (by kernel_rfl) (by simp) ?_
   refine AllReadyH.cons rfl (fun K hK => ?_) AllReadyH.nil
   obtain ⟨f3, f4, f5⟩ := HCel.out _ g4
   go_simp
   have T4 := HTL.out _ g4
   refine hK.out _ _ (HX.out _ (k4.trans T4.2.2)) (fun hHeld => ?_)
   clear hK K
   try simp only [Act.put, List.getElem_toArray, List.getElem_cons_succ, List.getElem_cons_zero, List.setIfInBounds_toArray, List.set_cons_zero, List.set_cons_succ]
   refine wpAnyH_done (by kernel_rfl) ?_ _
   go_wp2
   go_meet
   exact ⟨T4.1, k4.trans T4.2.2, HB3.out.trans ((b4.mono HNw.out).trans T4.2.1)⟩
 case rest =>
  obtain ⟨gc, kc, bc⟩ := hcut
  have HGc := Hid.mk gc
  have HKc := Hid.mk kc
  have HBc := Hid.mk bc
  have HNc : Hid (N ≤ wc.heap.size) := Nat.le_trans hN bc.size
  obtain ⟨q, hq⟩ : ∃ q, (knF ss' (iB (nm (lowN ls)) r.ty r.cl lw)).isSome = q := ⟨_, rfl⟩
  have HIN : Hid (∀ w, Gth N w G P K (.slice (some ⟨g, 0, none⟩) els'.length cap) e1 s1 (plF ss') (knF ss') np' nk → N ≤ w.heap.size → Calls Tryz.prog 117 #[ptA G 0, .agg #[.string (nm (lowN ls)), .int .i64 r.ty, .int .i64 r.cl, .string lw]] w fun e w' => e = .returned (.bool (!q)) ∧ Gth N w' G P K (.slice (some ⟨g, 0, none⟩) els'.length cap) e1 s1 (plF ss') (fun x => if x = iB (nm (lowN ls)) r.ty r.cl lw then some (.lit (.bool true)) else knF ss' x) np' (nk + 1) ∧ Below N w w' ∧ Kst w w') := fun w gw hw => by
   have := isNew_in N w G P K _ e1 s1 (plF ss') (knF ss') np' nk gw (nm (lowN ls)) lw r.ty r.cl (low_size ho) (by unfold maxLen; omega) h1 h2 (by omega) hw
   rw [hq] at this
   exact this
  have HFN : Hid (AR = addR ss r ∧ ∀ x, knF AR x = if x = iB (nm (lowN ls)) r.ty r.cl lw then some (.lit (.bool true)) else knF ss' x) := by
   obtain ⟨a1, a2, a3, a4, a5, a6, a7, a8, a9, a10, a11, a12, a13, hi', hie'⟩ := HQ.out
   obtain ⟨t1, t2, t3⟩ := HR.out
   refine ⟨t3.symm, fun x => ?_⟩
   rw [a6, knF_set hi' r ls a7 a8 a9 x, t2]
  have HPF : Hid (∀ x, plF AR x = plF ss' x) := by
   obtain ⟨a1, a2, a3, a4, a5, a6, a7, a8, a9, a10, a11, a12, a13, hi', hie'⟩ := HQ.out
   intro x
   rw [a6]
   exact plF_set ss' i hi' (addD ss'[i] r) rfl rfl rfl x
  have HKN : Hid (q = true ↔ lowR r.ty r.dat ∈ (ss'[i]'(HQ.out.2.2.2.2.2.2.2.2.2.2.2.2.2.1)).ds.map (lowR r.ty)) := by
   obtain ⟨a1, a2, a3, a4, a5, a6, a7, a8, a9, a10, a11, a12, a13, hi', hie'⟩ := HQ.out
   obtain ⟨t1, t2, t3⟩ := HR.out
   have := knF_known hi' a11 m a10 r (by rw [t2]; unfold maxLen; omega) ls ho a7 a8 a9
   rw [t2, hq] at this
   rw [t2]
   exact this
  clear hq gc kc bc c3 d3 d4 d5
  go_upto_region 5 with fail
  refine wp_region_held_drew (S := fun w => Kst V1 w ∧ (w.cell? ⟨W.heap.size, 0, none⟩ = some (.string r.nm) ∧ w.cell? ⟨W.heap.size, 1, none⟩ = some (.int .i64 r.ty) ∧ w.cell? ⟨W.heap.size, 2, none⟩ = some (.int .i64 r.cl) ∧ w.cell? ⟨W.heap.size, 3, none⟩ = some (.int .i64 r.tl) ∧ w.cell? ⟨W.heap.size, 4, none⟩ = some (.string r.dat)) ∧ w.cell? ⟨B1, 0, none⟩ = some (.string (nm (lowN ls))) ∧ w.cell? ⟨B1, 1, none⟩ = some (.int .i64 r.ty) ∧ w.cell? ⟨B1, 2, none⟩ = some (.int .i64 r.cl)) (by kernel_rfl) (HX.out _ HKc.out.drew) (fun hHeld => ?_)
  refine wU (i := 0) (v := ?vr_0) rfl ?yr_0 (by assumption) ?_
  case yr_0 => (intro w hSw; (try dsimp only at hSw); go_simp; try with_reducible rfl)
  refine wU (i := 1) (v := ?vr_1) rfl ?yr_1 (by assumption) ?_
  case yr_1 => (intro w hSw; (try dsimp only at hSw); go_simp; try with_reducible rfl)
  refine wU (i := 2) (v := ?vr_2) rfl ?yr_2 (by assumption) ?_
  case yr_2 => (intro w hSw; (try dsimp only at hSw); go_simp; try with_reducible rfl)
  refine wU (i := 3) (v := ?vr_3) rfl ?yr_3 (by assumption) ?_
  case yr_3 => (intro w hSw; (try dsimp only at hSw); go_simp; try with_reducible rfl)
  refine wU (i := 4) (v := ?vr_4) rfl ?yr_4 (by assumption) ?_
  case yr_4 => (intro w hSw; (try dsimp only at hSw); go_simp; try with_reducible rfl)
  refine wU (i := 5) (v := ?vr_5) rfl ?yr_5 (by assumption) ?_
  case yr_5 => (intro w hSw; (try dsimp only at hSw); go_simp; try with_reducible rfl)
  try simp only [Act.put, List.getElem_toArray, List.getElem_cons_succ, List.getElem_cons_zero, List.setIfInBounds_toArray, List.set_cons_zero, List.set_cons_succ]
  refine wpAnyH_ready (rs := [6]) (by kernel_rfl) (by simp) ?_
  refine AllReadyH.cons rfl (fun K hK => ?_) AllReadyH.nil
  go_simp
  go_at_call 118
  refine (HL.out _).mono ?_
  rintro e w6 ⟨rfl, hb6⟩
  have b6 : Below wc.heap.size wc w6 := (Below.refl wc.heap.size wc).drew.trans hb6
  have k6 : Kst V1 w6 := HKc.out.blk b6
  have g6 := HGc.out.blk b6
  have n6 : N ≤ w6.heap.size := Nat.le_trans HNc.out b6.size
  refine hK.out _ _ (HX.out _ k6) (fun hHeld => ?_)
  clear hK K
  refine wU (i := 7) (v := ?vrb_7) rfl ?yrb_7 (by assumption) ?_
  case yrb_7 => (intro w hSw; (try dsimp only at hSw); go_simp; try with_reducible rfl)
  try simp only [Act.put, List.getElem_toArray, List.getElem_cons_succ, List.getElem_cons_zero, List.setIfInBounds_toArray, List.set_cons_zero, List.set_cons_succ]
  refine wpAnyH_ready (rs := [8]) (by kernel_rfl) (by simp) ?_
  refine AllReadyH.cons rfl (fun K hK => ?_) AllReadyH.nil
  go_simp
  go_at_call 117
  refine (HIN.out _ g6 n6).mono ?_
  rintro e w7 ⟨rfl, g7, b7, k7⟩
  have k7' : Kst V1 w7 := k6.trans k7
  have HB7 : Hid (Below N W w7) := HBc.out.trans ((b6.mono HNc.out).trans b7)
  refine hK.out _ _ (HX.out _ k7') (fun hHeld => ?_)
  clear hK K
  try simp only [Act.put, List.getElem_toArray, List.getElem_cons_succ, List.getElem_cons_zero, List.setIfInBounds_toArray, List.set_cons_zero, List.set_cons_succ]
  refine wpAnyH_done (by kernel_rfl) ?_ _
  have HG7 := Hid.mk g7
  have HK7 := Hid.mk k7'
  clear hHeld g7 b7 k7 k7' g6 k6 b6 hb6 HIN
  cases q with
  | true =>
   have HE : Hid (∃ v' els' np' nk', Gth N w7 G P K v' els' AR (plF AR) (knF AR) np' nk' ∧ np' ≤ np + 1 ∧ nk' ≤ nk + 1 ∧ els'.length ≤ els.length + 1 ∧ Below N W w7) := by
    obtain ⟨a1, a2, a3, a4, a5, a6, a7, a8, a9, a10, a11, a12, a13, hi', hie'⟩ := HQ.out
    have e0 := fin_known hi' r (HKN.out.1 rfl)
    rw [HR.out.1, a3, a2, ← a6] at e0
    have g := HG7.out
    rw [e0] at g
    refine ⟨_, e1, np', nk + 1, ⟨g.nG, g.nP, g.nK, g.pk, by rw [g.gb], ?_, g.rel, g.dis, g.mp.congr fun x => (HPF.out x).symm, g.mn.congr fun x => (HFN.out.2 x).symm⟩, a12, by omega, by rw [← a1, List.length_set]; exact a13, HB7.out⟩
    exact g.row
   go_wp2
   exact bodyPost_end (results_none rfl _ _ _) rfl ⟨rfl, HE.out⟩
  | false =>
   have HAD : Hid (∀ w, Below w7.heap.size w7 w → w.cell? ⟨g, i * 6 + 4, none⟩ = some (.slice qd k cd) ∧ (w.alloc (.cells #[.string r.dat] 9)).cell? ⟨g, i * 6 + 4, none⟩ = some (.slice qd k cd) ∧ ∃ v' w3, (bAppD #[.slice qd k cd, .slice (some ⟨w.heap.size, 0, none⟩) 1 1]).run Tryz.prog (w.alloc (.cells #[.string r.dat] 9)) = .ok v' w3 ∧ w3.cell? ⟨g, i * 6 + 4, none⟩ = some (.slice qd k cd) ∧ w3.frozen? ⟨g, i * 6 + 4, none⟩ = false ∧ (∃ q c, v' = .slice q (k + 1) c) ∧ Hid (Kst w w3 ∧ Kst w (w3.setCell ⟨g, i * 6 + 4, none⟩ v') ∧ ∃ v'' els' np' nk', Gth N (w3.setCell ⟨g, i * 6 + 4, none⟩ v') G P K v'' els' AR (plF AR) (knF AR) np' nk' ∧ np' ≤ np + 1 ∧ nk' ≤ nk + 1 ∧ els'.length ≤ els.length + 1 ∧ Below N W (w3.setCell ⟨g, i * 6 + 4, none⟩ v'))) := by
    intro w hb
    obtain ⟨a1, a2, a3, a4, a5, a6, a7, a8, a9, a10, a11, a12, a13, hi', hie'⟩ := HQ.out
    have gw := HG7.out.blk hb
    have hNw : N ≤ w.heap.size := Nat.le_trans (Nat.le_trans hN HB7.out.size) hb.size
    have l1 : e1.length = els'.length := by rw [← a1, List.length_set]
    have hi1 : i < e1.length := by rw [l1]; exact hie'
    have hs1 : i < s1.length := by rw [← a2, List.length_set]; exact hi'
    have q1 : e1[i].dv = .slice qd k cd := by
     have : e1[i] = { els'[i] with tl := min tl0 tt } := by subst a1; simp
     rw [this]; exact a5
    have q2 : s1[i].ds.length = k := by
     have : s1[i] = { ss'[i] with tl := min tl0 tt } := by subst a2; simp
     rw [this]; exact a4
    rw [← l1] at gw
    obtain ⟨v', w3, ha, hc, hf, hv, HG⟩ := app_dat gw hNw i hi1 hs1 (by rw [q2]; omega) r.dat
    rw [q1] at ha hc
    rw [q2] at hv
    have cw : ∀ w', Below w.heap.size w w' → w'.cell? ⟨g, i * 6 + 4, none⟩ = some (.slice qd k cd) := by
     intro w' hb'
     have gw' := gw.blk hb'
     obtain ⟨g', cap', hv, _, hr⟩ := srow_form gw'.row (by omega)
     cases hv
     rw [hr.cell i hi1 4 (by decide), ← q1]; rfl
    refine ⟨cw w (Below.refl _ _), cw _ ((Below.refl _ _).alloc (Nat.le_refl _) _), v', w3, ha, hc, hf, hv, HG.out.2.2.1, HG.out.2.2.2, ?_⟩
    have e0 := fin_new hi' r (s1 := s1) (fun hin => by have := HKN.out.2 hin; cases this) (by rw [HR.out.1, a3]; exact a2) hs1
    rw [← a6] at e0
    have gf := HG.out.1
    rw [e0] at gf
    refine ⟨_, _, np', nk + 1, ⟨gf.nG, gf.nP, gf.nK, gf.pk, by rw [gf.gb], by rw [List.length_set]; have := gf.row; rw [List.length_set] at this; exact this, gf.rel, gf.dis, gf.mp.congr fun x => (HPF.out x).symm, gf.mn.congr fun x => (HFN.out.2 x).symm⟩, a12, by omega, by rw [List.length_set, l1]; exact a13, HB7.out.trans ((hb.mono (Nat.le_trans hN HB7.out.size)).trans HG.out.2.1)⟩
   obtain ⟨z1, _⟩ := HAD.out w7 (Below.refl _ _)
   go_upto_region 6 with fail
   refine wp_region_held_drew (S := fun w => Kst V1 w ∧ (w.cell? ⟨W.heap.size, 0, none⟩ = some (.string r.nm) ∧ w.cell? ⟨W.heap.size, 1, none⟩ = some (.int .i64 r.ty) ∧ w.cell? ⟨W.heap.size, 2, none⟩ = some (.int .i64 r.cl) ∧ w.cell? ⟨W.heap.size, 3, none⟩ = some (.int .i64 r.tl) ∧ w.cell? ⟨W.heap.size, 4, none⟩ = some (.string r.dat)) ∧ w.cell? ⟨B1, 0, none⟩ = some (.string (nm (lowN ls))) ∧ w.cell? ⟨B1, 1, none⟩ = some (.int .i64 r.ty) ∧ w.cell? ⟨B1, 2, none⟩ = some (.int .i64 r.cl)) (by kernel_rfl) (HX.out _ HK7.out.drew) (fun hHeld => ?_)
   refine wU (i := 0) (v := ?vs_0) rfl ?ys_0 (by assumption) ?_
   case ys_0 => (intro w hSw; (try dsimp only at hSw); go_simp; try with_reducible rfl)
   refine wU (i := 1) (v := ?vs_1) rfl ?ys_1 (by assumption) ?_
   case ys_1 => (intro w hSw; (try dsimp only at hSw); go_simp; try with_reducible rfl)
   refine wU (i := 2) (v := ?vs_2) rfl ?ys_2 (by assumption) ?_
   case ys_2 => (intro w hSw; (try dsimp only at hSw); go_simp; try with_reducible rfl)
   refine wU (i := 3) (v := ?vs_3) rfl ?ys_3 (by assumption) ?_
   case ys_3 => (intro w hSw; (try dsimp only at hSw); go_simp; try with_reducible rfl)
   refine wU (i := 5) (v := ?vs_5) rfl ?ys_5 (by assumption) ?_
   case ys_5 => (intro w hSw; (try dsimp only at hSw); go_simp; try with_reducible rfl)
   refine wU (i := 6) (v := ?vs_6) rfl ?ys_6 (by assumption) ?_
   case ys_6 => (intro w hSw; (try dsimp only at hSw); go_simp; try with_reducible rfl)
   try simp only [Act.put, List.getElem_toArray, List.getElem_cons_succ, List.getElem_cons_zero, List.setIfInBounds_toArray, List.set_cons_zero, List.set_cons_succ]
   refine wpAnyH_ready (rs := [4, 7]) (by kernel_rfl) (by simp) ?_
   refine AllReadyH.cons rfl (fun K hK => ?_) (AllReadyH.cons rfl (fun K hK => ?_) AllReadyH.nil)
   ·go_simp
    refine hK.out _ _ (HX.out _ HK7.out.drew) (fun hHeld => ?_)
    clear hK K
    try simp only [Act.put, List.getElem_toArray, List.getElem_cons_succ, List.getElem_cons_zero, List.setIfInBounds_toArray, List.set_cons_zero, List.set_cons_succ]
    refine wpAnyH_ready (rs := [7]) (by kernel_rfl) (by simp) ?_
    refine AllReadyH.cons rfl (fun K hK => ?_) AllReadyH.nil
    go_simp
    go_at_call 44
    refine (HC.out _).mono ?_
    rintro e w8 ⟨rfl, hb8⟩
    have b8 : Below w7.heap.size w7 w8 := (Below.refl w7.heap.size w7).drew.trans hb8
    have k8 : Kst V1 w8 := HK7.out.blk b8
    obtain ⟨y1, y2, v', w9, ha, hc, hf, ⟨q', c', rfl⟩, HG⟩ := HAD.out _ b8
    refine hK.out _ _ (HX.out _ k8) (fun hHeld => ?_)
    clear hK K
    try simp only [Act.put, List.getElem_toArray, List.getElem_cons_succ, List.getElem_cons_zero, List.setIfInBounds_toArray, List.set_cons_zero, List.set_cons_succ]
    refine wpAnyH_ready (rs := [8]) (by kernel_rfl) (by simp) ?_
    refine AllReadyH.cons rfl (fun K hK => ?_) AllReadyH.nil
    go_simp
    refine hK.out _ _ (HX.out _ (k8.alloc _)) (fun hHeld => ?_)
    clear hK K
    try simp only [Act.put, List.getElem_toArray, List.getElem_cons_succ, List.getElem_cons_zero, List.setIfInBounds_toArray, List.set_cons_zero, List.set_cons_succ]
    refine wpAnyH_ready (rs := [9]) (by kernel_rfl) (by simp) ?_
    refine AllReadyH.cons rfl (fun K hK => ?_) AllReadyH.nil
    refine step_appd rfl _ _ rfl rfl _ _ _ _ rfl rfl ha ?_
    refine hK.out _ _ (HX.out _ (k8.trans HG.out.1)) (fun hHeld => ?_)
    clear hK K
    refine wU (i := 10) (v := ?vsa_10) rfl ?ysa_10 (by assumption) ?_
    case ysa_10 => (intro w hSw; (try dsimp only at hSw); go_simp; try with_reducible rfl)
    refine wU (i := 11) (v := ?vsa_11) rfl ?ysa_11 (by assumption) ?_
    case ysa_11 => (intro w hSw; (try dsimp only at hSw); go_simp; try with_reducible rfl)
    try simp only [Act.put, List.getElem_toArray, List.getElem_cons_succ, List.getElem_cons_zero, List.setIfInBounds_toArray, List.set_cons_zero, List.set_cons_succ]
    refine wpAnyH_ready (rs := [12]) (by kernel_rfl) (by simp) ?_
    refine AllReadyH.cons rfl (fun K hK => ?_) AllReadyH.nil
    go_simp
    refine hK.out _ _ (HX.out _ (k8.trans HG.out.2.1)) (fun hHeld => ?_)
    clear hK K
    try simp only [Act.put, List.getElem_toArray, List.getElem_cons_succ, List.getElem_cons_zero, List.setIfInBounds_toArray, List.set_cons_zero, List.set_cons_succ]
    refine wpAnyH_done (by kernel_rfl) ?_ _
    clear hHeld ha hc hf
    go_wp2
    exact bodyPost_end (results_none rfl _ _ _) rfl ⟨rfl, HG.out.2.2⟩
   ·go_simp
    go_at_call 44
    refine (HC.out _).mono ?_
    rintro e w8 ⟨rfl, hb8⟩
    have b8 : Below w7.heap.size w7 w8 := (Below.refl w7.heap.size w7).drew.trans hb8
    have k8 : Kst V1 w8 := HK7.out.blk b8
    obtain ⟨y1, y2, v', w9, ha, hc, hf, ⟨q', c', rfl⟩, HG⟩ := HAD.out _ b8
    refine hK.out _ _ (HX.out _ k8) (fun hHeld => ?_)
    clear hK K
    try simp only [Act.put, List.getElem_toArray, List.getElem_cons_succ, List.getElem_cons_zero, List.setIfInBounds_toArray, List.set_cons_zero, List.set_cons_succ]
    refine wpAnyH_ready (rs := [4, 8]) (by kernel_rfl) (by simp) ?_
    refine AllReadyH.cons rfl (fun K hK => ?_) (AllReadyH.cons rfl (fun K hK => ?_) AllReadyH.nil)
    ·go_simp
     refine hK.out _ _ (HX.out _ k8) (fun hHeld => ?_)
     clear hK K
     try simp only [Act.put, List.getElem_toArray, List.getElem_cons_succ, List.getElem_cons_zero, List.setIfInBounds_toArray, List.set_cons_zero, List.set_cons_succ]
     refine wpAnyH_ready (rs := [8]) (by kernel_rfl) (by simp) ?_
     refine AllReadyH.cons rfl (fun K hK => ?_) AllReadyH.nil
     go_simp
     refine hK.out _ _ (HX.out _ (k8.alloc _)) (fun hHeld => ?_)
     clear hK K
     try simp only [Act.put, List.getElem_toArray, List.getElem_cons_succ, List.getElem_cons_zero, List.setIfInBounds_toArray, List.set_cons_zero, List.set_cons_succ]
     refine wpAnyH_ready (rs := [9]) (by kernel_rfl) (by simp) ?_
     refine AllReadyH.cons rfl (fun K hK => ?_) AllReadyH.nil
     refine step_appd rfl _ _ rfl rfl _ _ _ _ rfl rfl ha ?_
     refine hK.out _ _ (HX.out _ (k8.trans HG.out.1)) (fun hHeld => ?_)
     clear hK K
     refine wU (i := 10) (v := ?vsb_10) rfl ?ysb_10 (by assumption) ?_
     case ysb_10 => (intro w hSw; (try dsimp only at hSw); go_simp; try with_reducible rfl)
     refine wU (i := 11) (v := ?vsb_11) rfl ?ysb_11 (by assumption) ?_
     case ysb_11 => (intro w hSw; (try dsimp only at hSw); go_simp; try with_reducible rfl)
     try simp only [Act.put, List.getElem_toArray, List.getElem_cons_succ, List.getElem_cons_zero, List.setIfInBounds_toArray, List.set_cons_zero, List.set_cons_succ]
     refine wpAnyH_ready (rs := [12]) (by kernel_rfl) (by simp) ?_
     refine AllReadyH.cons rfl (fun K hK => ?_) AllReadyH.nil
     go_simp
     refine hK.out _ _ (HX.out _ (k8.trans HG.out.2.1)) (fun hHeld => ?_)
     clear hK K
     try simp only [Act.put, List.getElem_toArray, List.getElem_cons_succ, List.getElem_cons_zero, List.setIfInBounds_toArray, List.set_cons_zero, List.set_cons_succ]
     refine wpAnyH_done (by kernel_rfl) ?_ _
     clear hHeld ha hc hf
     go_wp2
     exact bodyPost_end (results_none rfl _ _ _) rfl ⟨rfl, HG.out.2.2⟩
    ·go_simp
     refine hK.out _ _ (HX.out _ (k8.alloc _)) (fun hHeld => ?_)
     clear hK K
     try simp only [Act.put, List.getElem_toArray, List.getElem_cons_succ, List.getElem_cons_zero, List.setIfInBounds_toArray, List.set_cons_zero, List.set_cons_succ]
     refine wpAnyH_ready (rs := [4]) (by kernel_rfl) (by simp) ?_
     refine AllReadyH.cons rfl (fun K hK => ?_) AllReadyH.nil
     go_simp
     refine hK.out _ _ (HX.out _ (k8.alloc _)) (fun hHeld => ?_)
     clear hK K
     try simp only [Act.put, List.getElem_toArray, List.getElem_cons_succ, List.getElem_cons_zero, List.setIfInBounds_toArray, List.set_cons_zero, List.set_cons_succ]
     refine wpAnyH_ready (rs := [9]) (by kernel_rfl) (by simp) ?_
     refine AllReadyH.cons rfl (fun K hK => ?_) AllReadyH.nil
     refine step_appd rfl _ _ rfl rfl _ _ _ _ rfl rfl ha ?_
     refine hK.out _ _ (HX.out _ (k8.trans HG.out.1)) (fun hHeld => ?_)
     clear hK K
     refine wU (i := 10) (v := ?vsc_10) rfl ?ysc_10 (by assumption) ?_
     case ysc_10 => (intro w hSw; (try dsimp only at hSw); go_simp; try with_reducible rfl)
     refine wU (i := 11) (v := ?vsc_11) rfl ?ysc_11 (by assumption) ?_
     case ysc_11 => (intro w hSw; (try dsimp only at hSw); go_simp; try with_reducible rfl)
     try simp only [Act.put, List.getElem_toArray, List.getElem_cons_succ, List.getElem_cons_zero, List.setIfInBounds_toArray, List.set_cons_zero, List.set_cons_succ]
     refine wpAnyH_ready (rs := [12]) (by kernel_rfl) (by simp) ?_
     refine AllReadyH.cons rfl (fun K hK => ?_) AllReadyH.nil
     go_simp
     refine hK.out _ _ (HX.out _ (k8.trans HG.out.2.1)) (fun hHeld => ?_)
     clear hK K
     try simp only [Act.put, List.getElem_toArray, List.getElem_cons_succ, List.getElem_cons_zero, List.setIfInBounds_toArray, List.set_cons_zero, List.set_cons_succ]
     refine wpAnyH_done (by kernel_rfl) ?_ _
     clear hHeld ha hc hf
     go_wp2
     exact bodyPost_end (results_none rfl _ _ _) rfl ⟨rfl, HG.out.2.2⟩
end Go.Proofs.YtdlcldjlfhmlgaaGreatDoor
/- Layer 8: Sets, of records that are no signatures. -/
namespace Go.Proofs.YtdlcldjlfhmlgaaGreatDoor
open Go.RowKit
open Go.MapKept Go.WideMaps
open So (El elC SRow)
def SetsAt (N : Nat) (w : World) (v : Value) (ss : List St) : Prop := ∃ els : List El, w.ownsRow N 44 6 v els.length (elC els) ∧ F2 (ElSt N w) els ss
structure Mk (N : Nat) (W : World) (G P K : Nat) (ss : List St) (i : Nat) (w : World) : Prop where
 g : ∃ v els np nk, Gth N w G P K v els ss (plF ss) (knF ss) np nk ∧ np ≤ i ∧ nk ≤ i ∧ els.length ≤ i
 ap : Apart ss
 ok : SsOk ss i
 bel : Below N W w
theorem Mk.blk {N : Nat} {W w w' : World} {G P K i : Nat} {ss : List St} (h : Mk N W G P K ss i w) (hN : N ≤ w.heap.size) (hb : Below w.heap.size w w') : Mk N W G P K ss i w' := by
 obtain ⟨v, els, np, nk, g, r⟩ := h.g
 exact ⟨⟨v, els, np, nk, g.blk hb, r⟩, h.ap, h.ok, h.bel.trans (hb.mono hN)⟩
theorem Mk.up {N : Nat} {W w : World} {G P K i j : Nat} {ss : List St} (h : Mk N W G P K ss i w) (hij : i ≤ j) : Mk N W G P K ss j w := by
 obtain ⟨v, els, np, nk, g, a, b, c⟩ := h.g
 exact ⟨⟨v, els, np, nk, g, by omega, by omega, by omega⟩, h.ap, h.ok.mono hij, h.bel⟩
set_option maxRecDepth 100000 in
set_option maxHeartbeats 4000000 in
theorem sets_in (W : World) (q : Option Addr) (cap : Nat) (l : List Rc) (hat : RcsAt W q l) (hok : RsOk l) (hl : l.length ≤ 200) :
  Calls Tryz.prog 54 #[.slice q l.length cap] W fun e w' => ∃ v, e = .returned v ∧ SetsAt W.heap.size w' v (setsR l) ∧ Below W.heap.size W w' := by
 have HAT := Hid.mk hat
 have HOK := Hid.mk hok
 have HN := Hid.mk (newG_in W)
 obtain ⟨N, hN⟩ : ∃ N, W.heap.size = N := ⟨_, rfl⟩
 have HNN := Hid.mk hN
 rw [hN] at HN ⊢
 obtain ⟨n, hn⟩ : ∃ n, l.length = n := ⟨_, rfl⟩
 have HNL := Hid.mk hn
 rw [hn] at hl ⊢
 have HBL : Hid (∀ w i, i < n → Below N W w → ∃ b off, q = some ⟨b, off, none⟩ ∧ ∃ r : Rc, Hid (l[i]? = some r) ∧ w.cell? ⟨b, off + i * 5, none⟩ = some (.string r.nm) ∧ w.cell? ⟨b, off + i * 5 + 1, none⟩ = some (.int .i64 r.ty) ∧ w.cell? ⟨b, off + i * 5 + 2, none⟩ = some (.int .i64 r.cl) ∧ w.cell? ⟨b, off + i * 5 + 3, none⟩ = some (.int .i64 r.tl) ∧ w.cell? ⟨b, off + i * 5 + 4, none⟩ = some (.string r.dat)) := by
  intro w i hi hb
  have h0 : 0 < l.length := by omega
  obtain ⟨b, off, e, _, c⟩ := hat.below hb (by rw [← hN]; exact hat.lt h0) i (by omega)
  exact ⟨b, off, e, l[i]'(by omega), List.getElem?_eq_getElem _, c⟩
 clear hat hok hN hn
 go_enter Tryz.func54, Tryz.ntmps54
 go_wp2_with fail
 refine HN.out.mono ?_
 rintro e w1 ⟨G, P, K, rfl, g1, hb1⟩
 have HM0 : Hid (Mk N W G P K (setsR (l.take 0)) 0 w1) := by
  refine ⟨⟨nilS, [], 0, 0, ?_, Nat.le_refl _, Nat.le_refl _, Nat.le_refl _⟩, ?_, ?_, hb1⟩
  ·rw [List.take_zero]; exact g1
  ·rw [List.take_zero]; exact List.Pairwise.nil
  ·rw [List.take_zero]; intro s hs; simp [setsR] at hs
 clear g1 hb1
 go_wp2
 go_loopw [11] (fun iv wr => ∃ i : Nat, i ≤ n ∧ iv = .int .i64 (i : Int) ∧ Hid (Mk N W G P K (setsR (l.take i)) i wr)) (fun iv _ => n - (intOf iv).toNat)
 case atStart => exact ⟨0, Nat.zero_le _, rfl, HM0.out⟩
 case round =>
  obtain ⟨i, hi, rfl, HM⟩ := hrel
  by_cases hlt : i < n
  ·have hlz : (i : Int) < (n : Int) := by omega
   obtain ⟨b, off, rfl, r, hri, c0, c1, c2, c3, c4⟩ := HBL.out wr i hlt HM.out.bel
   have hst : Hid (setsR (l.take (i + 1)) = stepR (setsR (l.take i)) r) := by
    obtain ⟨h1, h2⟩ := List.getElem?_eq_some_iff.1 hri.out
    show _ = _
    rw [List.take_succ_eq_append_getElem h1, setsR_snoc, h2]
   obtain ⟨o1, o2, o3, o4, o5⟩ := HOK.out r (List.mem_of_getElem? hri.out)
   have HMK := Hid.mk (makes_in r.ty)
   have HRR := Hid.mk (rightRec_in r o1 o2)
   simp only [rcL] at HRR
   have hNr : N ≤ wr.heap.size := by rw [← HNN.out]; exact HM.out.bel.size
   obtain ⟨V, hV⟩ : ∃ V, wr.alloc (.cells #[.string r.nm, .int .i64 r.ty, .int .i64 r.cl, .int .i64 r.tl, .string r.dat] 33) = V := ⟨_, rfl⟩
   have X0 : Bx wr wr.heap.size (rcL r) 33 V := hV ▸ Bx.new wr _ _
   have HV := Hid.mk hV
   have MV := Hid.mk (HM.out.blk hNr X0.bel)
   have x0 := X0.cells5
   obtain ⟨B, hB⟩ : ∃ B, wr.heap.size = B := ⟨_, rfl⟩
   have HB := Hid.mk hB
   rw [hB] at x0
   clear hV hB
   go_upto_region 5 with fail
   rw [HV.out, HB.out]
   have HBC := Hid.mk (fun w (hb : Below V.heap.size V w) => (X0.blk hb).cells5)
   have hNV : N ≤ V.heap.size := by rw [← HNN.out]; exact MV.out.bel.size
   clear X0
   have wi : IntKind.i64.wrap ((i : Int) + 1) = ((i + 1 : Nat) : Int) := by rw [IntKind.wrap_i64]; omega
   cases hmk : mks r.ty with
   | false =>
    rw [hmk] at HMK
    have HE : Hid (Mk N W G P K (setsR (l.take (i + 1))) (i + 1) V) := by
     have : stepR (setsR (l.take i)) r = setsR (l.take i) := by unfold stepR; rw [hmk]; rfl
     show Mk _ _ _ _ _ _ _ _
     rw [hst.out, this]; exact MV.out.up (Nat.le_succ _)
    clear hmk
    go_wp2_with fail
    refine (HMK.out _).mono ?_
    rintro e w2 ⟨rfl, rfl⟩
    go_wp2
    go_roundw
    case rel => exact ⟨i + 1, by omega, by first | rfl | go_num, HE⟩
    case measure => simp [intOf]; omega
   | true =>
    rw [hmk] at HMK
    cases hro : rOk r with
    | false =>
     rw [hro] at HRR
     have HS : Hid (stepR (setsR (l.take i)) r = setsR (l.take i)) := by show _ = _; unfold stepR; rw [hro, Bool.and_false]; rfl
     clear hmk hro
     go_wp2_with fail
     refine (HMK.out _).mono ?_
     rintro e w2 ⟨rfl, rfl⟩
     go_wp2_with fail
     refine (HRR.out _).mono ?_
     rintro e w3 ⟨rfl, hb3⟩
     have HE : Hid (Mk N W G P K (setsR (l.take (i + 1))) (i + 1) w3) := by
      show Mk _ _ _ _ _ _ _ _
      rw [hst.out, HS.out]; exact (MV.out.blk hNV hb3).up (Nat.le_succ _)
     clear hb3
     go_wp2
     go_roundw
     case rel => exact ⟨i + 1, by omega, by first | rfl | go_num, HE⟩
     case measure => simp [intOf]; omega
    | true =>
     rw [hro] at HRR
     have HS : Hid (stepR (setsR (l.take i)) r = addR (setsR (l.take i)) r) := by show _ = _; unfold stepR; rw [hro, hmk]; rfl
     have hd2 := dRt_size (rOk_parts hro).2.2.2
     have HAD : Hid (∀ w, Below V.heap.size V w → Calls Tryz.prog 88 #[ptA G 0, .agg #[.string r.nm, .int .i64 r.ty, .int .i64 r.cl, .int .i64 r.tl, .string r.dat]] w fun e w' => e = .returned (.tuple #[]) ∧ Mk N W G P K (addR (setsR (l.take i)) r) (i + 1) w') := by
      intro w hb
      have M := MV.out.blk hNV hb
      obtain ⟨v, els, np, nk, g, p1, p2, p3⟩ := M.g
      refine (gadd_in N w G P K v els _ np nk g r hro o3 o4 M.ap i (by omega) M.ok (by omega) (by omega) (by omega) (Nat.le_trans hNV hb.size) o1 hd2).mono ?_
      rintro e w' ⟨rfl, v', els', np', nk', g', q1, q2, q3, q4⟩
      exact ⟨rfl, ⟨v', els', np', nk', g', by omega, by omega, by omega⟩, addR_apart _ _ M.ap, M.ok.add r hro o3 o4, M.bel.trans q4⟩
     clear hmk hro hd2
     go_wp2_with fail
     refine (HMK.out _).mono ?_
     rintro e w2 ⟨rfl, rfl⟩
     go_wp2_with fail
     refine (HRR.out _).mono ?_
     rintro e w3 ⟨rfl, hb3⟩
     have y0 := HBC.out _ hb3
     rw [HB.out] at y0
     have HA3 := Hid.mk (HAD.out _ hb3)
     clear hb3 x0
     go_wp2_with fail
     refine HA3.out.mono ?_
     rintro e w4 ⟨rfl, hM4⟩
     have HE : Hid (Mk N W G P K (setsR (l.take (i + 1))) (i + 1) w4) := by
      show Mk _ _ _ _ _ _ _ _
      rw [hst.out, HS.out]; exact hM4
     clear hM4 y0
     go_wp2
     go_roundw
     case rel => exact ⟨i + 1, by omega, by first | rfl | go_num, HE⟩
     case measure => simp [intOf]; omega
  ·have hlz : ¬ (i : Int) < (n : Int) := by omega
   have HM1 : Hid (Mk N W G P K (setsR l) n wr) := by
    have := HM.out
    rw [List.take_of_length_le (by rw [HNL.out]; omega)] at this
    exact this.up (by omega)
   clear HM HM0
   go_wp2
   go_loopw [28] (fun iv wr => ∃ i : Nat, i ≤ n ∧ iv = .int .i64 (i : Int) ∧ Hid (Mk N W G P K (setsR l) n wr)) (fun iv _ => n - (intOf iv).toNat)
   case atStart => exact ⟨0, Nat.zero_le _, rfl, HM1.out⟩
   case round =>
    obtain ⟨i, hi, rfl, HM⟩ := hrel
    by_cases hlt : i < n
    ·have hlz : (i : Int) < (n : Int) := by omega
     obtain ⟨b, off, rfl, r, hri, c0, c1, c2, c3, c4⟩ := HBL.out wr i hlt HM.out.bel
     obtain ⟨o1, o2, o3, o4, o5⟩ := HOK.out r (List.mem_of_getElem? hri.out)
     have hNr : N ≤ wr.heap.size := by rw [← HNN.out]; exact HM.out.bel.size
     have h46 : (r.ty == 46) = false := by simpa using o5
     have wi : IntKind.i64.wrap ((i : Int) + 1) = ((i + 1 : Nat) : Int) := by rw [IntKind.wrap_i64]; omega
     have HE : Hid (Mk N W G P K (setsR l) n (wr.alloc (.cells #[.string r.nm, .int .i64 r.ty, .int .i64 r.cl, .int .i64 r.tl, .string r.dat] 33))) := HM.out.blk hNr ((Below.refl _ _).alloc (Nat.le_refl _) _)
     clear HM o5
     go_wp2
     go_roundw
     case rel => exact ⟨i + 1, by omega, by first | rfl | go_num, HE⟩
     case measure => simp [intOf]; omega
    ·have hlz : ¬ (i : Int) < (n : Int) := by omega
     obtain ⟨v, els, np, nk, g, _⟩ := HM.out.g
     have c0 := g.c0
     have HE : Hid (SetsAt N wr v (setsR l) ∧ Below N W wr) := ⟨⟨els, g.row, g.rel⟩, HM.out.bel⟩
     clear g HM
     go_wp2
     go_ret
     exact ⟨v, rfl, HE.out⟩
end Go.Proofs.YtdlcldjlfhmlgaaGreatDoor
/- Layer 14: rightRecord, rightPlace, right. -/
namespace Go.Proofs.YtdlcldjlfhmlgaaGreatDoor
open Go.RowKit
def RIn (l : List Rc) : Prop := ∀ r ∈ l, r.nm.size ≤ maxLen ∧ r.dat.size ≤ maxLen ∧ I64 r.ty ∧ I64 r.cl
theorem setsAt_len {N : Nat} {w : World} {v : Value} {ss : List St} (h : SetsAt N w v ss) : ∃ q cap, v = .slice q ss.length cap := by
 obtain ⟨els, hr, hf⟩ := h
 obtain ⟨q, cap, hv⟩ := srow_any hr
 exact ⟨q, cap, by rw [hv, hf.len]⟩
theorem one_at (w : World) (r : Rc) : RcsAt (w.alloc (.cells (rcL r).toArray 33)) (some ⟨w.heap.size, 0, none⟩) [r] := by
 intro j hj
 obtain rfl : j = 0 := by simpa using hj
 have h := heap_alloc_new w (.cells (rcL r).toArray 33)
 refine ⟨w.heap.size, 0, rfl, by simp, ?_, ?_, ?_, ?_, ?_⟩
 all_goals (rw [So.cell_blk h]; rfl)
set_option maxRecDepth 100000 in
set_option maxHeartbeats 1000000 in
theorem lrec_in (r : Rc) (h : RIn [r]) (W : World) : Calls Tryz.prog 51 #[.agg (rcL r).toArray] W fun e w' => e = .returned (.bool (rcR r)) ∧ Below W.heap.size W w' := by
 have X0 := Bx.new W (rcL r) 33
 by_cases hb : r.ty = 5 ∨ r.ty = 39 ∨ r.ty = 46 ∨ r.ty = 41
 ·have hf : rcR r = false := by
   unfold rcR
   rcases hb with e | e | e | e <;> rw [e] <;> rfl
  rw [hf]
  simp only [rcL] at X0 ⊢
  rcases hb with e | e | e | e
  all_goals
   rw [e] at X0 ⊢
   clear e hf h
   go_enter Tryz.func51, Tryz.ntmps51
   go_wp2
   go_ret
   exact ⟨rfl, X0.bel⟩
 ·have n1 : (r.ty == 5) = false := by simp; omega
  have n2 : (r.ty == 39) = false := by simp; omega
  have n3 : (r.ty == 46) = false := by simp; omega
  have n4 : (r.ty == 41) = false := by simp; omega
  have hT : rcR r = ((r.cl == 1) && ((setsR [r]).length == 1)) := by
   unfold rcR
   simp only [bne, n1, n2, n3, n4]
   rfl
  rw [hT]
  have hro : RsOk [r] := fun x hx => by
   obtain rfl := List.mem_singleton.1 hx
   obtain ⟨a, b, c, d⟩ := h x (by simp)
   exact ⟨a, b, c, d, by omega⟩
  have HS : Hid (∀ w : World, Calls Tryz.prog 54 #[.slice (some ⟨w.heap.size, 0, none⟩) 1 1] (w.alloc (.cells (rcL r).toArray 33)) fun e w' => ∃ v, e = .returned v ∧ SetsAt (w.alloc (.cells (rcL r).toArray 33)).heap.size w' v (setsR [r]) ∧ Below (w.alloc (.cells (rcL r).toArray 33)).heap.size (w.alloc (.cells (rcL r).toArray 33)) w') := fun w => sets_in _ _ 1 [r] (one_at w r) hro (by simp)
  clear hT hro h hb
  generalize setsR [r] = ss at HS ⊢
  simp only [rcL] at X0 HS ⊢
  obtain ⟨V, hV⟩ : ∃ V, W.alloc (.cells #[.string r.nm, .int .i64 r.ty, .int .i64 r.cl, .int .i64 r.tl, .string r.dat] 33) = V := ⟨_, rfl⟩
  have X1 : Bx W W.heap.size [.string r.nm, .int .i64 r.ty, .int .i64 r.cl, .int .i64 r.tl, .string r.dat] 33 V := hV ▸ X0
  have HV := Hid.mk hV
  have x1 := X1.cells5
  clear hV X0
  cases hc : (r.cl == 1) with
  | false =>
   go_enter Tryz.func51, Tryz.ntmps51
   go_upto_region 1 with fail
   rw [HV.out]
   go_wp2
   go_ret
   exact ⟨rfl, X1.bel⟩
  | true =>
   go_enter Tryz.func51, Tryz.ntmps51
   go_upto_region 1 with fail
   rw [HV.out]
   go_wp2_with fail
   refine (HS.out _).mono ?_
   rintro e w3 ⟨v, rfl, hs, hb3⟩
   obtain ⟨q, cap, rfl⟩ := setsAt_len hs
   have hbb : Below W.heap.size W w3 := (X1.bel.alloc X1.bel.size _).trans (hb3.mono (by have := X1.bel.size; simp; omega))
   clear hs hb3
   have e1 : ((ss.length : Int) == 1) = (ss.length == 1) := by rw [Bool.eq_iff_iff]; simp; omega
   go_wp2
   go_ret
   exact ⟨by rw [Bool.true_and, ← e1]; rfl, hbb⟩
set_option maxRecDepth 100000 in
set_option maxHeartbeats 1000000 in
theorem lplc_in (n : ByteArray) (hn : n.size ≤ maxLen) (z : Lc) (hz : z.nm.size ≤ maxLen) (rv : Value) (W : World) : Calls Tryz.prog 52 #[.string n, .agg #[.string z.nm, .int .i64 z.kd, rv]] W fun e w' => e = .returned (.bool (plcR n z)) ∧ Below W.heap.size W w' := by
 have HU := Hid.mk (nunder_in n z.nm hn hz)
 have HE := Hid.mk (nequal_in n z.nm hn hz)
 have X0 := Bx.new W [.string z.nm, .int .i64 z.kd, rv] 26
 have hT : plcR n z = if z.kd = 3 ∨ z.kd = 4 then undF n z.nm else if z.kd = 5 then eqF n z.nm else false := rfl
 rw [hT]
 clear hT
 generalize undF n z.nm = b1 at HU ⊢
 generalize eqF n z.nm = b2 at HE ⊢
 generalize z.kd = k at X0 ⊢
 generalize z.nm = zn at HU HE X0 ⊢
 clear hz
 by_cases h3 : k = 3
 ·subst h3
  simp only [true_or, if_true]
  go_enter Tryz.func52, Tryz.ntmps52
  go_wp2_with fail
  refine (HU.out _).mono ?_
  rintro e w1 ⟨rfl, hb1⟩
  go_wp2
  go_ret
  exact ⟨rfl, (X0.blk hb1).bel⟩
 ·by_cases h4 : k = 4
  ·subst h4
   simp only [or_true, if_true]
   go_enter Tryz.func52, Tryz.ntmps52
   go_wp2_with fail
   refine (HU.out _).mono ?_
   rintro e w1 ⟨rfl, hb1⟩
   go_wp2
   go_ret
   exact ⟨rfl, (X0.blk hb1).bel⟩
  ·rw [if_neg (by omega)]
   by_cases h5 : k = 5
   ·subst h5
    simp only [if_true]
    go_enter Tryz.func52, Tryz.ntmps52
    go_wp2_with fail
    refine (HE.out _).mono ?_
    rintro e w1 ⟨rfl, hb1⟩
    go_wp2
    go_ret
    exact ⟨rfl, (X0.blk hb1).bel⟩
   ·rw [if_neg h5]
    have n3 : (k == 3) = false := by simpa using h3
    have n4 : (k == 4) = false := by simpa using h4
    have n5 : (k == 5) = false := by simpa using h5
    clear h3 h4 h5
    go_enter Tryz.func52, Tryz.ntmps52
    go_wp2
    go_ret
    exact ⟨rfl, X0.bel⟩
end Go.Proofs.YtdlcldjlfhmlgaaGreatDoor
/- Layer 14: a world for the witnesses; records as they come in. -/
namespace Go.Proofs.YtdlcldjlfhmlgaaGreatDoor
open Go.RowKit
structure ZG (W : World) : Prop where
 ok : True
theorem zg_of {W : World} {l : List (String × DataW Unit)} (h : laidMet Tryz.prog l W) (hs : W.ShapedOpen Tryz.prog) : ZG W := ⟨trivial⟩
def klit1 : DataW Unit → List Value
 | .lit (.int k n) => [.int k n]
 | .lit (.string s) => [.string ⟨s.toArray⟩]
 | _ => []
def kflat2 : DataW Unit → Array Value
 | .agg l => (l.flatMap fun x => match x with
  | .agg l2 => l2.flatMap klit1
  | x => klit1 x).toArray
 | _ => #[]
def kerrS : DataW Unit → ByteArray
 | .iface _ (.ptr (.agg [.lit (.string s)])) => ⟨s.toArray⟩
 | _ => ⟨#[]⟩
noncomputable def laidWorld (os : Os) : World :=
 let N := (World.settled Tryz.prog os).heap.size
 let w0 := World.holding Tryz.prog os ⟨#[.cells #[.string (kerrS Rows.laid_strconv_ErrSyntax)] 314, .cells #[.string (kerrS Rows.laid_strconv_ErrRange)] 314], #[], []⟩
 let put (h : Array Obj) (g : Nat) (cs : Array Value) : Array Obj := h.modify g fun
  | .cells _ t frozen => .cells cs t frozen
  | o => o
 let h0 := put w0.heap 0 (kflat2 Rows.laid_guidepost_data_typeTexts)
 let h2 := put h0 2 (kflat2 Rows.laid_internal_strconv_uint64pow10)
 let h3 := put h2 3 #[.iface 312 (.pointer (some ⟨N, 0, none⟩))]
 let h4 := put h3 4 #[.iface 312 (.pointer (some ⟨N + 1, 0, none⟩))]
 let h5 := put h4 7 (kflat2 Rows.laid_math_bits_deBruijn32tab)
 let h6 := put h5 8 (kflat2 Rows.laid_math_bits_deBruijn64tab)
 let h7 := put h6 5 (kflat2 Rows.laid_unicode_utf8_first)
 let h8 := put h7 6 (kflat2 Rows.laid_unicode_utf8_acceptRanges)
 { w0 with heap := h8 }
theorem lad_off (b o j : Nat) : (⟨b, o, none⟩ : Addr).add j = ⟨b, o + j, none⟩ := So.add_of b o j
theorem lcellB {w : World} {p : Addr} {v : Value} (h : w.cell? p = some v) : p.block < w.heap.size := cell_block h
theorem llist_of {α : Type} {R : Nat → α → Prop} : ∀ k : Nat, (∀ i, i < k → ∃ x, R i x) → ∃ l : List α, l.length = k ∧ ∀ j (h : j < l.length), R j l[j]
 | 0, _ => ⟨[], rfl, fun j h => by simp at h⟩
 | k + 1, h => by
  obtain ⟨l, hl, hr⟩ := llist_of k fun i hi => h i (by omega)
  obtain ⟨x, hx⟩ := h k (by omega)
  refine ⟨l ++ [x], by simp [hl], fun j hj => ?_⟩
  rw [List.getElem_append]
  split
  ·exact hr j (by assumption)
  ·simp at hj
   obtain rfl : j = k := by omega
   simpa [hl] using hx
theorem c_rc : Tryz.prog.cellsOf 33 = 5 := by kernel_rfl
section
variable {H : Type} {enc : TypeId × Value → H} {W : World} {base : Nat} {spare : Nat → Bool} {held : Bool}
def rcC (r : Rc) : List Value := [.string r.nm, .int .i64 r.ty, .int .i64 r.cl, .int .i64 r.tl, .string r.dat]
set_option maxRecDepth 100000 in
theorem trod_rc {fuel : Nat} {cs : List Value} {x : DataW H × List MemPlace} (h : DataW.trod enc Tryz.prog W base spare held fuel 33 cs = some x) : ∃ r : Rc, (r.nm.size ≤ maxLen ∧ r.dat.size ≤ maxLen ∧ I64 r.ty ∧ I64 r.cl) ∧ cs = rcC r := by
 obtain ⟨xs, k, _, _, hlc, hlen, hf⟩ := DataW.trod_struct Tryz.underlying33 h
 rw [c_rc] at hlc
 match cs, hlc with
 | [v0, v1, v2, v3, v4], _ =>
  match xs, hlen with
  | [y0, y1, y2, y3, y4], _ =>
   have t0' : DataW.trod enc Tryz.prog W base spare held k 9 [v0] = some y0 := hf 0 _ rfl
   have t1' : DataW.trod enc Tryz.prog W base spare held k 3 [v1] = some y1 := hf 1 _ rfl
   have t2' : DataW.trod enc Tryz.prog W base spare held k 3 [v2] = some y2 := hf 2 _ rfl
   have t3' : DataW.trod enc Tryz.prog W base spare held k 3 [v3] = some y3 := hf 3 _ rfl
   have t4' : DataW.trod enc Tryz.prog W base spare held k 9 [v4] = some y4 := hf 4 _ rfl
   obtain ⟨s0, q0, _, w0⟩ := DataW.trod_string (t := 9) Tryz.underlying9 t0'
   obtain ⟨s1, q1, _, w1⟩ := DataW.trod_int (t := 3) (k := .i64) Tryz.underlying3 t1'
   obtain ⟨s2, q2, _, w2⟩ := DataW.trod_int (t := 3) (k := .i64) Tryz.underlying3 t2'
   obtain ⟨s3, q3, _, w3⟩ := DataW.trod_int (t := 3) (k := .i64) Tryz.underlying3 t3'
   obtain ⟨s4, q4, _, w4⟩ := DataW.trod_string (t := 9) Tryz.underlying9 t4'
   simp at q0 q1 q2 q3 q4
   exact ⟨⟨s0, s1, s2, s3, s4⟩, ⟨w0, w4, Go.bounds_i64 w1, Go.bounds_i64 w2⟩, by rw [q0, q1, q2, q3, q4]; rfl⟩
end
open Go.ChangeShapes Go.WideShapes in
set_option maxRecDepth 100000 in
theorem open_recs {H : Type} {enc : TypeId × Value → H} {W : World} {a0 : Option Addr} {len cap fuel : Nat} {x : DataW H × List MemPlace}
  (hf : DataW.trod enc Tryz.prog W 0 (fun _ => true) true fuel 24 [.slice a0 len cap] = some x) :
  ∃ rs : List Rc, rs.length = len ∧ RcsAt W a0 rs ∧ RIn rs ∧ (len ≤ cap ∧ cap ≤ maxLen) := by
 rcases Go.Deep.open_slice Tryz.underlying24 hf with ⟨hcs, hx⟩ | ⟨a, len', cap', m, n, D, Pl, hcs, _, hl, hm, hmm, hx, hall⟩
 ·simp at hcs
  obtain ⟨rfl, rfl, rfl⟩ := hcs
  exact ⟨[], rfl, fun j hj => by simp at hj, fun r hr => by simp at hr, by omega, by unfold maxLen; omega⟩
 ·simp at hcs
  obtain ⟨rfl, rfl, rfl⟩ := hcs
  simp only [if_true] at hmm
  subst hmm
  rw [c_rc] at hall
  obtain ⟨b, off, spot⟩ := a
  have key : ∀ i, i < len → ∃ r : Rc, (spot = none ∧ b < W.heap.size ∧ ∀ k, k < 5 → W.cell? ⟨b, off + i * 5 + k, none⟩ = (rcC r)[k]?) ∧ (r.nm.size ≤ maxLen ∧ r.dat.size ≤ maxLen ∧ I64 r.ty ∧ I64 r.cl) := fun i hi => by
   obtain ⟨cs', h1, h2⟩ := hall i (by omega)
   obtain ⟨_, hlen, hcell⟩ := World.cells?_some h1
   obtain ⟨r, hr, rfl⟩ := trod_rc h2
   have hspot : spot = none := by
    obtain ⟨cs0, h10, _⟩ := hall 0 (by omega)
    obtain ⟨_, hl0, hc0⟩ := World.cells?_some h10
    have h00 := hc0 0 (by omega)
    rw [List.getElem?_eq_getElem (by omega)] at h00
    simpa [Addr.add] using World.cell?_spot h00
   subst hspot
   have hk : ∀ k, k < 5 → W.cell? ⟨b, off + i * 5 + k, none⟩ = (rcC r)[k]? := fun k hk => by
    have := hcell k hk
    rw [Go.Deep.add_add, lad_off, ← Nat.add_assoc] at this
    exact this
   exact ⟨r, ⟨rfl, lcellB ((hk 0 (by omega)).trans (show (rcC r)[0]? = some _ from rfl)), hk⟩, hr⟩
  obtain ⟨ls, hlen, hr⟩ := llist_of len key
  refine ⟨ls, hlen, fun j hj => ?_, fun d hd => ?_, hl, hm⟩
  ·obtain ⟨⟨hs, hb, hk⟩, _⟩ := hr j hj
   subst hs
   exact ⟨b, off, rfl, hb, hk 0 (by omega), hk 1 (by omega), hk 2 (by omega), hk 3 (by omega), hk 4 (by omega)⟩
  ·obtain ⟨j, hj, rfl⟩ := List.getElem_of_mem hd
   exact (hr j hj).2
end Go.Proofs.YtdlcldjlfhmlgaaGreatDoor
/- Cased. -/
namespace Go.Proofs.YtdlcldjlfhmlgaaGreatDoor
set_option maxRecDepth 100000
open Go.RowKit
end Go.Proofs.YtdlcldjlfhmlgaaGreatDoor
