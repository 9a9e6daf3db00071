/- Texts of this proof, joined: LcU, LcV, LcWa, LcWb, LcXf. -/
import Derived.Test.YtdlcldjlfhmlgaaGreatDoorJ11
set_option linter.unusedVariables false
set_option linter.unusedSimpArgs false
/- Layer 8: setFor: the walks. -/
namespace Go.Proofs.YtdlcldjlfhmlgaaGreatDoor
open Go.RowKit
open Go.MapKept Go.WideMaps
open So (El elC)
abbrev ptA (b i : Nat) : Value := .pointer (some ⟨b, i, none⟩)
theorem Gth.c0 {N : Nat} {w : World} {G P K : Nat} {v : Value} {els : List El} {ss : List St} {pf kf : List UInt8 → Option (DataW Unit)} {np nk : Nat} (h : Gth N w G P K v els ss pf kf np nk) : w.cell? ⟨G, 0, none⟩ = some v := by rw [So.cell_blk h.gb]; rfl
theorem Gth.c1 {N : Nat} {w : World} {G P K : Nat} {v : Value} {els : List El} {ss : List St} {pf kf : List UInt8 → Option (DataW Unit)} {np nk : Nat} (h : Gth N w G P K v els ss pf kf np nk) : w.cell? ⟨G, 1, none⟩ = some (.map (some P)) := by rw [So.cell_blk h.gb]; rfl
theorem pl_int {v : Value} {i : Nat} {ps : List MemPlace} (h : plainElem (H := Unit) Tryz.prog 3 v = some (.lit (.int .i64 (i : Int)), ps)) : v = .int .i64 (i : Int) := by
 obtain ⟨a, rfl, h2, _⟩ := plainElem_int_inv Tryz.underlying3 h
 have e : (i : Int) = a := by simpa using (congrArg Prod.fst h2)
 rw [e]
set_option maxRecDepth 100000 in
set_option maxHeartbeats 2000000 in
theorem setFor_old (N : Nat) (W : World) (G P K : Nat) (v : Value) (els : List El) (ss : List St) (pf kf : List UInt8 → Option (DataW Unit)) (np nk : Nat) (h : Gth N W G P K v els ss pf kf np nk) (low : ByteArray) (ty cl : Int) (hs : low.size ≤ maxLen) (h1 : I64 ty) (h2 : I64 cl) (r : Rc) (i : Nat) (hi : i < els.length) (hl : els.length ≤ 1000) (hp : pf (kB low ty cl) = some (.lit (.int .i64 (i : Int)))) (hN : N ≤ W.heap.size) :
  Calls Tryz.prog 115 #[ptA G 0, .agg #[.string low, .int .i64 ty, .int .i64 cl], .agg (rcL r).toArray] W fun e w' => ∃ g cap, e = .returned (ptA g (i * 6)) ∧ v = .slice (some ⟨g, 0, none⟩) els.length cap ∧ Gth N w' G P K v els ss pf kf np nk ∧ Below N W w' ∧ Kst W w' := by
 obtain ⟨g, cap, hv, _, _⟩ := srow_form h.row (by omega)
 obtain ⟨U, hU⟩ : ∃ U, (W.alloc (.cells #[.string low, .int .i64 ty, .int .i64 cl] 166)).alloc (.cells (rcL r).toArray 33) = U := ⟨_, rfl⟩
 have X0 : Bx2 W W.heap.size [.string low, .int .i64 ty, .int .i64 cl] 166 (W.heap.size + 1) (rcL r) 33 U := hU ▸ Bx2.new W _ _ _ _
 have gU := h.blk X0.x.bel
 have gUd := gU.blk (Below.refl _ _).drew
 obtain ⟨v1, _, lk, r1⟩ := gUd.mp.look keyedK Tryz.underlying134 (zeroI _) (plainElem_int Tryz.underlying3 (by decide)) (keyOf_k hs h1 h2)
 rw [hp] at lk r1
 obtain rfl := pl_int r1
 have HF : Hid (Gth N U.drew G P K v els ss pf kf np nk ∧ Below N W U.drew ∧ Kst W U.drew) := ⟨gUd, (X0.x.bel.mono hN).drew, (Kst.of_below X0.x.bel).drew⟩
 have c0 := gU.c0
 have c1 := gU.c1
 have x0 := X0.x.cell 0 _ rfl
 have x1 := X0.x.cell 1 _ rfl
 have x2 := X0.x.cell 2 _ rfl
 have hiz : (i : Int) < (els.length : Int) := by omega
 obtain ⟨n, hn⟩ : ∃ n, els.length = n := ⟨_, rfl⟩
 rw [hn] at hv hiz hl hi
 have HN := Hid.mk hn
 subst hv
 have HU := Hid.mk hU
 simp only [rcL] at HU ⊢
 clear gU gUd X0 hU h r1 hp hn
 go_enter Tryz.func115, Tryz.ntmps115
 go_wp2_with fail
 rw [HU.out]
 go_region
 all_goals go_wp2
 all_goals go_ret
 all_goals exact ⟨g, cap, rfl, by rw [HN.out], HF.out⟩
theorem step_apps {ops : Array Oper} {o : Oper} {a : Act} {w : World} {K : Act → World → Prop} {Q : Exit → Act → World → Prop} {E : Prop} (hg : o.guard = none) (s x : Operand) (hop : o.op = Op.call { callee := Callee.builtin Builtin.append, args := #[s, x], argTypes := #[37, 37] }) (hty : o.type = 37) (vs vx v' : Value) (w' : World) (hs : a.eval s = vs) (hx : a.eval x = vx) (hrun : (bAppS #[vs, vx]).run Tryz.prog w = .ok v' w') (hK : K (a.put o.dst v') w') :
  if Region.wanted o (yielded ops a.tmps) = true then Oper.wp Tryz.prog o a w K Q else E := by
 have hw : Region.wanted o (yielded ops a.tmps) = true := by simp [Region.wanted, hg]
 rw [if_pos hw]
 unfold bAppS at hrun
 unfold Oper.wp execOp
 simp only [hop, hty, resolve, invoke, builtin, Sem.run_bind, Sem.run_pure, Result.andThen_ok, List.map_toArray, List.map_cons, List.map_nil, hs, hx, hrun]
 exact hK
set_option maxRecDepth 100000 in
set_option maxHeartbeats 4000000 in
theorem setFor_new (N : Nat) (W : World) (G P K : Nat) (v : Value) (els : List El) (ss : List St) (kf : List UInt8 → Option (DataW Unit)) (np nk : Nat) (h : Gth N W G P K v els ss (plF ss) kf np nk) (ls : N3) (ho : OkN ls) (r : Rc) (hr : r.nm = nm ls) (h1 : I64 r.ty) (h2 : I64 r.cl) (hno : ∀ t ∈ ss, kB (nm (lowN t.ls)) t.ty t.cl ≠ kB (nm (lowN ls)) r.ty r.cl) (hl : els.length ≤ 999) (hnp : np < 1000) (hN : N ≤ W.heap.size) :
  Calls Tryz.prog 115 #[ptA G 0, .agg #[.string (nm (lowN ls)), .int .i64 r.ty, .int .i64 r.cl], .agg (rcL r).toArray] W fun e w' => ∃ g cap, e = .returned (ptA g (els.length * 6)) ∧ Gth N w' G P K (.slice (some ⟨g, 0, none⟩) (els.length + 1) cap) (els ++ [⟨ls, r.ty, r.cl, 2147483647, nilS, nilS⟩]) (ss ++ [⟨ls, r.ty, r.cl, 2147483647, []⟩]) (plF (ss ++ [⟨ls, r.ty, r.cl, 2147483647, []⟩])) kf (np + 1) nk ∧ Below N W w' ∧ Kst W w' := by
 have hls : (nm ls).size ≤ 255 := by rw [nm_size]; have := ho.len; omega
 have hls2 : (nm (lowN ls)).size ≤ 255 := by rw [nm_size]; have := ho.low.len; omega
 have hsl : h.rel.len = h.rel.len := rfl
 obtain ⟨U, hU⟩ : ∃ U, (W.alloc (.cells #[.string (nm (lowN ls)), .int .i64 r.ty, .int .i64 r.cl] 166)).alloc (.cells (rcL r).toArray 33) = U := ⟨_, rfl⟩
 have X0 : Bx2 W W.heap.size [.string (nm (lowN ls)), .int .i64 r.ty, .int .i64 r.cl] 166 (W.heap.size + 1) (rcL r) 33 U := hU ▸ Bx2.new W _ _ _ _
 have gU := h.blk X0.x.bel
 have gUd := gU.blk (Below.refl _ _).drew
 have gUdd := gUd.blk (Below.refl _ _).drew
 have kk := keyOf_k (low := nm (lowN ls)) (ty := r.ty) (cl := r.cl) (by unfold maxLen; omega) h1 h2
 obtain ⟨v1, _, lk, r1⟩ := gUd.mp.look keyedK Tryz.underlying134 (zeroI _) (plainElem_int Tryz.underlying3 (by decide)) kk
 rw [plF_none hno] at lk r1
 obtain rfl : v1 = .int .i64 0 := pl_int (i := 0) r1
 obtain ⟨w2, st, m2, t2⟩ := gUdd.mp.put keyedK Tryz.underlying134 (by unfold maxLen; omega) kk (val := .int .i64 (els.length : Int)) (d := .lit (.int .i64 (els.length : Int))) (ps := []) (plainElem_int Tryz.underlying3 (Go.WalkArith.wf_i64 (by constructor <;> omega)))
 have g2 : Gth N w2 G P K v els ss (plF (ss ++ [⟨ls, r.ty, r.cl, 2147483647, []⟩])) kf (np + 1) nk := by
  refine gUdd.turned t2 gUdd.mp.isMap (m2.congr fun x => ?_) (gUdd.mn.same (turned_same t2 (fun e => h.pk e.symm) gUdd.mn.lt))
  rw [plF_snoc ss ⟨ls, r.ty, r.cl, 2147483647, []⟩ x hno, h.rel.len]
 have b2 : Below N W w2 := ((X0.x.bel.mono hN).drew.drew).trans (turned_below t2 h.nP)
 have HX : Hid (∀ w, Kst w2 w → Kst w2 w ∧ w.cell? ⟨W.heap.size, 1, none⟩ = some (.int .i64 r.ty) ∧ w.cell? ⟨W.heap.size, 2, none⟩ = some (.int .i64 r.cl) ∧ w.cell? ⟨W.heap.size + 1, 0, none⟩ = some (.string (nm ls))) := by
  intro w hb
  have e1 := hb _ _ _ _ (turned_cells t2 gUdd.mp.isMap X0.x.hb) (by decide) (by decide) (by decide)
  have e2 := hb _ _ _ _ (turned_cells t2 gUdd.mp.isMap X0.y.hb) (by decide) (by decide) (by decide)
  refine ⟨hb, by rw [So.cell_blk e1]; rfl, by rw [So.cell_blk e1]; rfl, ?_⟩
  rw [So.cell_blk e2, ← hr]; rfl
 have hNw : N ≤ w2.heap.size := Nat.le_trans hN b2.size
 have ks2 : Hid (Kst W w2) := ((Kst.of_below X0.x.bel).drew.drew).turned t2 gUdd.mp.isMap
 have HA : Hid (∀ w, Below w2.heap.size w2 w → ∃ v' w3, (bAppS #[v, .slice (some ⟨w.heap.size, 0, none⟩) 1 1]).run Tryz.prog (w.alloc (.cells #[.string (nm ls), .int .i64 r.ty, .int .i64 r.cl, .int .i64 2147483647, nilS, nilS] 44)) = .ok v' w3 ∧ w3.cell? ⟨G, 0, none⟩ = some v ∧ w3.frozen? ⟨G, 0, none⟩ = false ∧ w.cell? ⟨G, 0, none⟩ = some v ∧ Hid (Gth N (w3.setCell ⟨G, 0, none⟩ v') G P K v' (els ++ [⟨ls, r.ty, r.cl, 2147483647, nilS, nilS⟩]) (ss ++ [⟨ls, r.ty, r.cl, 2147483647, []⟩]) (plF (ss ++ [⟨ls, r.ty, r.cl, 2147483647, []⟩])) kf (np + 1) nk ∧ Below N w (w3.setCell ⟨G, 0, none⟩ v') ∧ Kst w w3 ∧ Kst w (w3.setCell ⟨G, 0, none⟩ v'))) := by
  intro w hb
  have gw := g2.blk hb
  obtain ⟨v', w3, ha, hc, hf, HG⟩ := app_set gw (Nat.le_trans hNw hb.size) (by omega) ⟨ls, r.ty, r.cl, 2147483647, nilS, nilS⟩ ⟨ls, r.ty, r.cl, 2147483647, []⟩ rfl rfl rfl rfl rfl rfl rfl
  exact ⟨v', w3, ha, hc, hf, gw.c0, HG⟩
 have hcA : Hid (∀ w, Below w2.heap.size w2 w → (w.alloc (.cells #[.string (nm ls), .int .i64 r.ty, .int .i64 r.cl, .int .i64 2147483647, nilS, nilS] 44)).cell? ⟨G, 0, none⟩ = some v) := fun w hb => ((g2.blk hb).blk ((Below.refl _ _).alloc (Nat.le_refl _) _)).c0
 obtain ⟨qv, cv, hv⟩ := srow_any h.row
 have HC := Hid.mk (clone_in (nm ls) · (by omega))
 have c0 := gU.c0
 have c1 := gU.c1
 have c2 := g2.c0
 have x0 := X0.x.cell 0 _ rfl
 have x1 := X0.x.cell 1 _ rfl
 have x2 := X0.x.cell 2 _ rfl
 obtain ⟨n, hn⟩ : ∃ n, els.length = n := ⟨_, rfl⟩
 rw [hn] at hv st hl ⊢
 have HN := Hid.mk hn
 subst hv
 have HU := Hid.mk hU
 simp only [rcL, hr] at HU ⊢
 replace b2 := Hid.mk b2
 replace hNw := Hid.mk hNw
 clear gU gUd gUdd X0 hU h r1 hn g2 m2 t2 kk hno h1 h2 hsl
 go_enter Tryz.func115, Tryz.ntmps115
 go_wp2_with fail
 rw [HU.out]
 go_region
 all_goals (go_wp2_with fail; go_region)
 all_goals (go_upto_region 5 with fail)
 refine wp_region_held_drew (S := fun w => Kst w2 w ∧ w.cell? ⟨W.heap.size, 1, none⟩ = some (.int .i64 r.ty) ∧ w.cell? ⟨W.heap.size, 2, none⟩ = some (.int .i64 r.cl) ∧ w.cell? ⟨W.heap.size + 1, 0, none⟩ = some (.string (nm ls))) (by kernel_rfl) (HX.out _ (Kst.refl _).drew) (fun hHeld => ?_)
 refine wU (i := 0) (v := ?va_0) rfl ?ya_0 (by assumption) ?_
 case ya_0 => (intro w hSw; (try dsimp only at hSw); go_simp; try with_reducible rfl)
 refine wU (i := 1) (v := ?va_1) rfl ?ya_1 (by assumption) ?_
 case ya_1 => (intro w hSw; (try dsimp only at hSw); go_simp; try with_reducible rfl)
 refine wU (i := 2) (v := ?va_2) rfl ?ya_2 (by assumption) ?_
 case ya_2 => (intro w hSw; (try dsimp only at hSw); go_simp; try with_reducible rfl)
 refine wU (i := 3) (v := ?va_3) rfl ?ya_3 (by assumption) ?_
 case ya_3 => (intro w hSw; (try dsimp only at hSw); go_simp; try with_reducible rfl)
 refine wU (i := 5) (v := ?va_5) rfl ?ya_5 (by assumption) ?_
 case ya_5 => (intro w hSw; (try dsimp only at hSw); go_simp; try with_reducible rfl)
 refine wU (i := 6) (v := ?va_6) rfl ?ya_6 (by assumption) ?_
 case ya_6 => (intro w hSw; (try dsimp only at hSw); go_simp; try with_reducible rfl)
 refine wU (i := 8) (v := ?va_8) rfl ?ya_8 (by assumption) ?_
 case ya_8 => (intro w hSw; (try dsimp only at hSw); go_simp; try with_reducible rfl)
 refine wU (i := 9) (v := ?va_9) rfl ?ya_9 (by assumption) ?_
 case ya_9 => (intro w hSw; (try dsimp only at hSw); go_simp; try with_reducible rfl)
 refine wU (i := 10) (v := ?va_10) rfl ?ya_10 (by assumption) ?_
 case ya_10 => (intro w hSw; (try dsimp only at hSw); go_simp; try with_reducible rfl)
 refine wU (i := 11) (v := ?va_11) rfl ?ya_11 (by assumption) ?_
 case ya_11 => (intro w hSw; (try dsimp only at hSw); go_simp; try with_reducible rfl)
 try simp only [Act.put, List.getElem_toArray, List.getElem_cons_succ, List.getElem_cons_zero, List.setIfInBounds_toArray, List.set_cons_zero, List.set_cons_succ]
 refine wpAnyH_ready (rs := [4, 7]) (by kernel_rfl) (by simp) ?_
 refine AllReadyH.cons rfl (fun K hK => ?_) (AllReadyH.cons rfl (fun K hK => ?_) AllReadyH.nil)
 ·go_simp
  refine hK.out _ _ (HX.out _ (Kst.refl _).drew) (fun hHeld => ?_)
  clear hK K
  try simp only [Act.put, List.getElem_toArray, List.getElem_cons_succ, List.getElem_cons_zero, List.setIfInBounds_toArray, List.set_cons_zero, List.set_cons_succ]
  refine wpAnyH_ready (rs := [7]) (by kernel_rfl) (by simp) ?_
  refine AllReadyH.cons rfl (fun K hK => ?_) AllReadyH.nil
  go_simp
  go_at_call 44
  refine (HC.out _).mono ?_
  rintro e w4 ⟨rfl, hb4⟩
  have hb5 : Below w2.heap.size w2 w4 := (Below.refl w2.heap.size w2).drew.trans hb4
  have k4 : Kst w2 w4 := Kst.of_below hb5
  obtain ⟨v', w5, ha, hc, hf, hcG, HG⟩ := HA.out _ hb5
  refine hK.out _ _ (HX.out _ k4) (fun hHeld => ?_)
  clear hK K
  refine wU (i := 12) (v := ?vc_12) rfl ?yc_12 (by assumption) ?_
  case yc_12 => (intro w hSw; (try dsimp only at hSw); go_simp; try with_reducible rfl)
  try simp only [Act.put, List.getElem_toArray, List.getElem_cons_succ, List.getElem_cons_zero, List.setIfInBounds_toArray, List.set_cons_zero, List.set_cons_succ]
  refine wpAnyH_ready (rs := [13]) (by kernel_rfl) (by simp) ?_
  refine AllReadyH.cons rfl (fun K hK => ?_) AllReadyH.nil
  go_simp
  refine hK.out _ _ (HX.out _ (k4.alloc _)) (fun hHeld => ?_)
  clear hK K
  try simp only [Act.put, List.getElem_toArray, List.getElem_cons_succ, List.getElem_cons_zero, List.setIfInBounds_toArray, List.set_cons_zero, List.set_cons_succ]
  refine wpAnyH_ready (rs := [14]) (by kernel_rfl) (by simp) ?_
  refine AllReadyH.cons rfl (fun K hK => ?_) AllReadyH.nil
  refine step_apps rfl _ _ rfl rfl _ _ _ _ rfl rfl ha ?_
  refine hK.out _ _ (HX.out _ (k4.trans HG.out.2.2.1)) (fun hHeld => ?_)
  clear hK K
  obtain ⟨g, cap, hv', _, _⟩ := srow_form HG.out.1.row (by simp)
  have hl' : (els ++ [(⟨ls, r.ty, r.cl, 2147483647, nilS, nilS⟩ : El)]).length = n + 1 := by rw [List.length_append, HN.out]; rfl
  rw [hl'] at hv'
  subst hv'
  refine wU (i := 15) (v := ?vcb_15) rfl ?ycb_15 (by assumption) ?_
  case ycb_15 => (intro w hSw; (try dsimp only at hSw); go_simp; try with_reducible rfl)
  refine wU (i := 16) (v := ?vcb_16) rfl ?ycb_16 (by assumption) ?_
  case ycb_16 => (intro w hSw; (try dsimp only at hSw); go_simp; try with_reducible rfl)
  try simp only [Act.put, List.getElem_toArray, List.getElem_cons_succ, List.getElem_cons_zero, List.setIfInBounds_toArray, List.set_cons_zero, List.set_cons_succ]
  refine wpAnyH_ready (rs := [17]) (by kernel_rfl) (by simp) ?_
  refine AllReadyH.cons rfl (fun K hK => ?_) AllReadyH.nil
  go_simp
  refine hK.out _ _ (HX.out _ (k4.trans HG.out.2.2.2)) (fun hHeld => ?_)
  clear hK K
  try simp only [Act.put, List.getElem_toArray, List.getElem_cons_succ, List.getElem_cons_zero, List.setIfInBounds_toArray, List.set_cons_zero, List.set_cons_succ]
  refine wpAnyH_done (by kernel_rfl) ?_ _
  have HE := Hid.mk HG.out
  have cn : (w5.setCell ⟨G, 0, none⟩ (.slice (some ⟨g, 0, none⟩) (n + 1) cap)).cell? ⟨G, 0, none⟩ = some (.slice (some ⟨g, 0, none⟩) (n + 1) cap) := HG.out.1.c0
  obtain ⟨W5, hW5⟩ : ∃ W5, w5.setCell ⟨G, 0, none⟩ (.slice (some ⟨g, 0, none⟩) (n + 1) cap) = W5 := ⟨_, rfl⟩
  rw [hW5] at cn HE ⊢
  have nz : (n : Int) < ((n + 1 : Nat) : Int) := by omega
  clear hf hc ha hcG HG hHeld hW5 hl'
  go_wp2
  go_ret
  exact ⟨g, cap, rfl, HE.out.1, b2.out.trans ((hb5.mono hNw.out).trans HE.out.2.1), ks2.out.trans (k4.trans HE.out.2.2.2)⟩
 ·go_simp
  go_at_call 44
  refine (HC.out _).mono ?_
  rintro e w4 ⟨rfl, hb4⟩
  have hb5 : Below w2.heap.size w2 w4 := (Below.refl w2.heap.size w2).drew.trans hb4
  have k4 : Kst w2 w4 := Kst.of_below hb5
  obtain ⟨v', w5, ha, hc, hf, hcG, HG⟩ := HA.out _ hb5
  refine hK.out _ _ (HX.out _ k4) (fun hHeld => ?_)
  clear hK K
  refine wU (i := 12) (v := ?vd_12) rfl ?yd_12 (by assumption) ?_
  case yd_12 => (intro w hSw; (try dsimp only at hSw); go_simp; try with_reducible rfl)
  try simp only [Act.put, List.getElem_toArray, List.getElem_cons_succ, List.getElem_cons_zero, List.setIfInBounds_toArray, List.set_cons_zero, List.set_cons_succ]
  refine wpAnyH_ready (rs := [4, 13]) (by kernel_rfl) (by simp) ?_
  refine AllReadyH.cons rfl (fun K hK => ?_) (AllReadyH.cons rfl (fun K hK => ?_) AllReadyH.nil)
  ·go_simp
   refine hK.out _ _ (HX.out _ k4) (fun hHeld => ?_)
   clear hK K
   try simp only [Act.put, List.getElem_toArray, List.getElem_cons_succ, List.getElem_cons_zero, List.setIfInBounds_toArray, List.set_cons_zero, List.set_cons_succ]
   refine wpAnyH_ready (rs := [13]) (by kernel_rfl) (by simp) ?_
   refine AllReadyH.cons rfl (fun K hK => ?_) AllReadyH.nil
   go_simp
   refine hK.out _ _ (HX.out _ (k4.alloc _)) (fun hHeld => ?_)
   clear hK K
   try simp only [Act.put, List.getElem_toArray, List.getElem_cons_succ, List.getElem_cons_zero, List.setIfInBounds_toArray, List.set_cons_zero, List.set_cons_succ]
   refine wpAnyH_ready (rs := [14]) (by kernel_rfl) (by simp) ?_
   refine AllReadyH.cons rfl (fun K hK => ?_) AllReadyH.nil
   refine step_apps rfl _ _ rfl rfl _ _ _ _ rfl rfl ha ?_
   refine hK.out _ _ (HX.out _ (k4.trans HG.out.2.2.1)) (fun hHeld => ?_)
   clear hK K
   obtain ⟨g, cap, hv', _, _⟩ := srow_form HG.out.1.row (by simp)
   have hl' : (els ++ [(⟨ls, r.ty, r.cl, 2147483647, nilS, nilS⟩ : El)]).length = n + 1 := by rw [List.length_append, HN.out]; rfl
   rw [hl'] at hv'
   subst hv'
   refine wU (i := 15) (v := ?veb_15) rfl ?yeb_15 (by assumption) ?_
   case yeb_15 => (intro w hSw; (try dsimp only at hSw); go_simp; try with_reducible rfl)
   refine wU (i := 16) (v := ?veb_16) rfl ?yeb_16 (by assumption) ?_
   case yeb_16 => (intro w hSw; (try dsimp only at hSw); go_simp; try with_reducible rfl)
   try simp only [Act.put, List.getElem_toArray, List.getElem_cons_succ, List.getElem_cons_zero, List.setIfInBounds_toArray, List.set_cons_zero, List.set_cons_succ]
   refine wpAnyH_ready (rs := [17]) (by kernel_rfl) (by simp) ?_
   refine AllReadyH.cons rfl (fun K hK => ?_) AllReadyH.nil
   go_simp
   refine hK.out _ _ (HX.out _ (k4.trans HG.out.2.2.2)) (fun hHeld => ?_)
   clear hK K
   try simp only [Act.put, List.getElem_toArray, List.getElem_cons_succ, List.getElem_cons_zero, List.setIfInBounds_toArray, List.set_cons_zero, List.set_cons_succ]
   refine wpAnyH_done (by kernel_rfl) ?_ _
   have HE := Hid.mk HG.out
   have cn : (w5.setCell ⟨G, 0, none⟩ (.slice (some ⟨g, 0, none⟩) (n + 1) cap)).cell? ⟨G, 0, none⟩ = some (.slice (some ⟨g, 0, none⟩) (n + 1) cap) := HG.out.1.c0
   obtain ⟨W5, hW5⟩ : ∃ W5, w5.setCell ⟨G, 0, none⟩ (.slice (some ⟨g, 0, none⟩) (n + 1) cap) = W5 := ⟨_, rfl⟩
   rw [hW5] at cn HE ⊢
   have nz : (n : Int) < ((n + 1 : Nat) : Int) := by omega
   clear hf hc ha hcG HG hHeld hW5 hl'
   go_wp2
   go_ret
   exact ⟨g, cap, rfl, HE.out.1, b2.out.trans ((hb5.mono hNw.out).trans HE.out.2.1), ks2.out.trans (k4.trans HE.out.2.2.2)⟩
  ·go_simp
   refine hK.out _ _ (HX.out _ (k4.alloc _)) (fun hHeld => ?_)
   clear hK K
   have hcG2 := hcA.out _ hb5
   try simp only [Act.put, List.getElem_toArray, List.getElem_cons_succ, List.getElem_cons_zero, List.setIfInBounds_toArray, List.set_cons_zero, List.set_cons_succ]
   refine wpAnyH_ready (rs := [4]) (by kernel_rfl) (by simp) ?_
   refine AllReadyH.cons rfl (fun K hK => ?_) AllReadyH.nil
   go_simp
   refine hK.out _ _ (HX.out _ (k4.alloc _)) (fun hHeld => ?_)
   clear hK K
   try simp only [Act.put, List.getElem_toArray, List.getElem_cons_succ, List.getElem_cons_zero, List.setIfInBounds_toArray, List.set_cons_zero, List.set_cons_succ]
   refine wpAnyH_ready (rs := [14]) (by kernel_rfl) (by simp) ?_
   refine AllReadyH.cons rfl (fun K hK => ?_) AllReadyH.nil
   refine step_apps rfl _ _ rfl rfl _ _ _ _ rfl rfl ha ?_
   refine hK.out _ _ (HX.out _ (k4.trans HG.out.2.2.1)) (fun hHeld => ?_)
   clear hK K
   obtain ⟨g, cap, hv', _, _⟩ := srow_form HG.out.1.row (by simp)
   have hl' : (els ++ [(⟨ls, r.ty, r.cl, 2147483647, nilS, nilS⟩ : El)]).length = n + 1 := by rw [List.length_append, HN.out]; rfl
   rw [hl'] at hv'
   subst hv'
   refine wU (i := 15) (v := ?vfb_15) rfl ?yfb_15 (by assumption) ?_
   case yfb_15 => (intro w hSw; (try dsimp only at hSw); go_simp; try with_reducible rfl)
   refine wU (i := 16) (v := ?vfb_16) rfl ?yfb_16 (by assumption) ?_
   case yfb_16 => (intro w hSw; (try dsimp only at hSw); go_simp; try with_reducible rfl)
   try simp only [Act.put, List.getElem_toArray, List.getElem_cons_succ, List.getElem_cons_zero, List.setIfInBounds_toArray, List.set_cons_zero, List.set_cons_succ]
   refine wpAnyH_ready (rs := [17]) (by kernel_rfl) (by simp) ?_
   refine AllReadyH.cons rfl (fun K hK => ?_) AllReadyH.nil
   go_simp
   refine hK.out _ _ (HX.out _ (k4.trans HG.out.2.2.2)) (fun hHeld => ?_)
   clear hK K
   try simp only [Act.put, List.getElem_toArray, List.getElem_cons_succ, List.getElem_cons_zero, List.setIfInBounds_toArray, List.set_cons_zero, List.set_cons_succ]
   refine wpAnyH_done (by kernel_rfl) ?_ _
   have HE := Hid.mk HG.out
   have cn : (w5.setCell ⟨G, 0, none⟩ (.slice (some ⟨g, 0, none⟩) (n + 1) cap)).cell? ⟨G, 0, none⟩ = some (.slice (some ⟨g, 0, none⟩) (n + 1) cap) := HG.out.1.c0
   obtain ⟨W5, hW5⟩ : ∃ W5, w5.setCell ⟨G, 0, none⟩ (.slice (some ⟨g, 0, none⟩) (n + 1) cap) = W5 := ⟨_, rfl⟩
   rw [hW5] at cn HE ⊢
   have nz : (n : Int) < ((n + 1 : Nat) : Int) := by omega
   clear hf hc ha hcG HG hHeld hW5 hl'
   go_wp2
   go_ret
   exact ⟨g, cap, rfl, HE.out.1, b2.out.trans ((hb5.mono hNw.out).trans HE.out.2.1), ks2.out.trans (k4.trans HE.out.2.2.2)⟩
end Go.Proofs.YtdlcldjlfhmlgaaGreatDoor
/- Layer 8: a set of the row written to: its TTL, its data. -/
namespace Go.Proofs.YtdlcldjlfhmlgaaGreatDoor
open Go.RowKit
open Go.MapKept Go.WideMaps
open So (El elC SRow)
theorem plF_set (ss : List St) (i : Nat) (hi : i < ss.length) (s : St) (h1 : s.ls = ss[i].ls) (h2 : s.ty = ss[i].ty) (h3 : s.cl = ss[i].cl) (x : List UInt8) : plF (ss.set i s) x = plF ss x := by
 unfold plF
 congr 1
 have key : ∀ (l : List St) (i : Nat) (hi : i < l.length), s.ls = l[i].ls → s.ty = l[i].ty → s.cl = l[i].cl → List.findIdx? (fun s => decide (kB (nm (lowN s.ls)) s.ty s.cl = x)) (l.set i s) = List.findIdx? (fun s => decide (kB (nm (lowN s.ls)) s.ty s.cl = x)) l := by
  intro l
  induction l with
  | nil => intro i hi; simp at hi
  | cons a l ih =>
   intro i hi e1 e2 e3
   cases i with
   | zero =>
    simp only [List.getElem_cons_zero] at e1 e2 e3
    simp only [List.set_cons_zero, List.findIdx?_cons, e1, e2, e3]
   | succ i =>
    simp only [List.getElem_cons_succ] at e1 e2 e3
    simp only [List.set_cons_succ, List.findIdx?_cons, ih i (by simpa using hi) e1 e2 e3]
 exact key ss i hi h1 h2 h3
theorem Gth.same_row {N : Nat} {w w' : World} {G P K g cap n : Nat} {els els' : List El} {ss ss' : List St} {pf kf : List UInt8 → Option (DataW Unit)} {np nk : Nat} (h : Gth N w G P K (.slice (some ⟨g, 0, none⟩) n cap) els ss pf kf np nk) (hl : els'.length = els.length)
  (hk : ∀ (b : Nat) (o : Obj), b ≠ g → w.heap[b]? = some o → (∀ c f, o ≠ .cells c 9 f) → w'.heap[b]? = some o)
  (hrow : w'.ownsRow N 44 6 (.slice (some ⟨g, 0, none⟩) n cap) els'.length (elC els')) (hrel : F2 (ElSt N w') els' ss') (hdis : (els'.map fun e => e.dv.ownBlock).Pairwise fun a b => a = none ∨ b = none ∨ a ≠ b) : Gth N w' G P K (.slice (some ⟨g, 0, none⟩) n cap) els' ss' pf kf np nk := by
 obtain ⟨_, _, c0, hg⟩ := own_lt h.row (b := g) rfl
 obtain ⟨es1, c1, hm1⟩ := h.mp.isMap
 obtain ⟨es2, c2, hm2⟩ := h.mn.isMap
 refine ⟨h.nG, h.nP, h.nK, h.pk, hk G _ (fun e => by subst e; rw [h.gb] at hg; simp at hg) h.gb (fun c f e => by simp at e), hrow, hrel, hdis, h.mp.same ?_, h.mn.same ?_⟩
 ·rw [hk P _ (fun e => by subst e; rw [hm1] at hg; cases hg) hm1 (fun c f e => by cases e), hm1]
 ·rw [hk K _ (fun e => by subst e; rw [hm2] at hg; cases hg) hm2 (fun c f e => by cases e), hm2]
theorem set_tl {N : Nat} {w : World} {G P K g cap : Nat} {els : List El} {ss : List St} {pf kf : List UInt8 → Option (DataW Unit)} {np nk : Nat} (h : Gth N w G P K (.slice (some ⟨g, 0, none⟩) els.length cap) els ss pf kf np nk) (i : Nat) (hi : i < els.length) (hi' : i < ss.length) (t : Int) :
  Gth N (w.setCell ⟨g, i * 6 + 3, none⟩ (.int .i64 t)) G P K (.slice (some ⟨g, 0, none⟩) els.length cap) (els.set i { els[i] with tl := t }) (ss.set i { ss[i] with tl := t }) pf kf np nk ∧ Below N w (w.setCell ⟨g, i * 6 + 3, none⟩ (.int .i64 t)) ∧ Kst w (w.setCell ⟨g, i * 6 + 3, none⟩ (.int .i64 t)) := by
 obtain ⟨hlt, hNg, c0, hg⟩ := own_lt h.row (b := g) rfl
 refine ⟨h.same_row (by simp) (fun b o hb ho _ => by rw [Below.heap_setCell _ _ _ _ hb]; exact ho) ?_ ?_ ?_, (Below.refl _ _).setCell (p := ⟨g, i * 6 + 3, none⟩) hNg _, (Kst.refl _).set hg (.inl rfl) _⟩
 ·have := srow_set h.row i 3 hi (by decide) (.int .i64 t) { els[i] with tl := t } rfl
  rwa [List.length_set]
 ·refine (h.rel.mono fun e s hs => hs.keep fun b c f _ hc => Below.heap_setCell _ _ _ _ (fun e0 => by obtain rfl : b = g := e0; rw [hg] at hc; cases hc)).set i ?_
  ·have hs := h.rel.at i hi hi'
   exact ⟨hs.ls, hs.ty, hs.cl, rfl, hs.sv, own_same hs.dv fun b c f _ hc => Below.heap_setCell _ _ _ _ (fun e0 => by obtain rfl : b = g := e0; rw [hg] at hc; cases hc)⟩
 ·rw [List.map_set]
  have : (els.map fun e => e.dv.ownBlock).set i els[i].dv.ownBlock = els.map fun e => e.dv.ownBlock := by
   refine List.ext_getElem (by simp) (fun j h1 h2 => ?_)
   by_cases e : i = j
   ·subst e; simp
   ·simp [List.getElem_set_ne e]
  rw [this]
  exact h.dis
def bAppD (a : Array Value) : Sem Value := Builtin.append_ #[42, 42] 42 a
theorem app_dat {N : Nat} {w : World} {G P K g cap : Nat} {els : List El} {ss : List St} {pf kf : List UInt8 → Option (DataW Unit)} {np nk : Nat} (h : Gth N w G P K (.slice (some ⟨g, 0, none⟩) els.length cap) els ss pf kf np nk) (hN : N ≤ w.heap.size) (i : Nat) (hi : i < els.length) (hi' : i < ss.length) (hl : ss[i].ds.length ≤ 1000) (d : ByteArray) :
  ∃ v' w3, (bAppD #[els[i].dv, .slice (some ⟨w.heap.size, 0, none⟩) 1 1]).run Tryz.prog (w.alloc (.cells #[.string d] 9)) = .ok v' w3 ∧ w3.cell? ⟨g, i * 6 + 4, none⟩ = some els[i].dv ∧ w3.frozen? ⟨g, i * 6 + 4, none⟩ = false ∧ (∃ q c, v' = .slice q (ss[i].ds.length + 1) c) ∧
   Hid (Gth N (w3.setCell ⟨g, i * 6 + 4, none⟩ v') G P K (.slice (some ⟨g, 0, none⟩) els.length cap) (els.set i { els[i] with dv := v' }) (ss.set i { ss[i] with ds := ss[i].ds ++ [d] }) pf kf np nk ∧ Below N w (w3.setCell ⟨g, i * 6 + 4, none⟩ v') ∧ Kst w w3 ∧ Kst w (w3.setCell ⟨g, i * 6 + 4, none⟩ v')) := by
 obtain ⟨i0, hi0, hz0, hz1, hz2⟩ := info_parts' infoStr
 obtain ⟨U, hU⟩ : ∃ U, w.alloc (.cells #[.string d] 9) = U := ⟨_, rfl⟩
 have bU : Below w.heap.size w U := hU ▸ (Below.refl _ _).alloc (Nat.le_refl _) _
 have gU := h.blk bU
 have hsz : U.heap.size = w.heap.size + 1 := by rw [← hU]; simp
 have hnew : U.heap[w.heap.size]? = some (.cells #[.string d] 9 (0, 0)) := hU ▸ heap_alloc_new w _
 have hnews : ∀ (j : Nat) u, (strs [d])[j]? = some u → U.cell? ((⟨w.heap.size, 0, none⟩ : Addr).add j) = some u := fun j u hu => by
  rw [So.add_of, Nat.zero_add, So.cell_blk hnew, ← hu]
  simp [strs]
 have hs := gU.rel.at i hi hi'
 obtain ⟨hlt, hNg, c0, hg⟩ := own_lt gU.row (b := g) rfl
 obtain ⟨v', w3, hrun, hown, hgr, _, hat⟩ := run_append_own_at (P := Tryz.prog) U N 42 42 9 i0 _ 1 16 Tryz.underlying42 hi0 hz0 hz1 hz2 rfl (by decide) els[i].dv ss[i].ds.length (strs ss[i].ds) hs.dv ⟨w.heap.size, 0, none⟩ 1 1 (strs [d]) rfl hnews (by simp [strs]; rfl) (by unfold maxLen; omega) (by omega) (by omega)
 obtain ⟨q', c', hv'⟩ := srow_any hown
 have hnb : els[i].dv.ownBlock ≠ some g := fun e0 => by
  obtain ⟨_, _, c, hc⟩ := own_lt hs.dv e0
  rw [hg] at hc; simp at hc
 have hg3 : w3.heap[g]? = some (.cells c0 44 (0, 0)) := (grown_blk hgr (Array.getElem?_eq_some_iff.1 hg).1 hnb).trans hg
 have hrow3 : w3.ownsRow N 44 6 (.slice (some ⟨g, 0, none⟩) els.length cap) els.length (elC els) := own_same gU.row fun b c f hb hc => by
  obtain rfl : g = b := by simpa [Value.ownBlock] using hb
  rw [hg3, hg]
 have hcell : w3.cell? ⟨g, i * 6 + 4, none⟩ = some els[i].dv := by
  obtain ⟨g', cap', hv, _, hr⟩ := srow_form hrow3 (by omega)
  cases hv
  rw [hr.cell i hi 4 (by decide)]; rfl
 refine ⟨v', w3, by rw [hU]; exact hrun, hcell, by unfold World.frozen?; simp [hg3], ⟨q', c', hv'⟩, ?_⟩
 have kw3 : Kst w w3 := (Kst.of_below bU).grown hs.dv (.inr (.inr rfl)) hgr
 have hone' : v'.oneCell' = true := by rw [hv']; rfl
 refine ⟨gU.same_row (by simp) (fun b o hb ho hno => ?_) ?_ ?_ ?_, ?_, kw3, kw3.set hg3 (.inl rfl) _⟩
 ·rw [Below.heap_setCell _ _ _ _ hb, grown_blk hgr (Array.getElem?_eq_some_iff.1 ho).1 (fun e0 => ?_)]
  ·exact ho
  ·obtain ⟨_, _, c, hc⟩ := own_lt hs.dv e0
   rw [ho] at hc
   exact hno c _ (Option.some.inj hc)
 ·have := srow_set hrow3 i 4 hi (by decide) v' { els[i] with dv := v' } rfl
  rwa [List.length_set]
 ·refine F2.of_at (by simp [gU.rel.len]) (fun j h1 h2 => ?_)
  have h1' : j < els.length := by simpa using h1
  have h2' : j < ss.length := by simpa using h2
  by_cases e : i = j
  ·subst e
   simp only [List.getElem_set_self]
   refine ⟨hs.ls, hs.ty, hs.cl, hs.tl, hs.sv, ?_⟩
   have : strs (ss[i].ds ++ [d]) = strs ss[i].ds ++ strs [d] := by simp [strs]
   rw [this, List.length_append]
   exact own_same hown fun b c f _ hc => Below.heap_setCell _ _ _ _ (fun e0 => by obtain rfl : b = g := e0; rw [hg3] at hc; cases hc)
  ·simp only [List.getElem_set_ne e]
   refine (gU.rel.at j h1' h2').keep fun b c f hb hc => ?_
   rw [Below.heap_setCell _ _ _ _ (fun e0 => by obtain rfl : b = g := e0; rw [hg] at hc; cases hc)]
   refine grown_blk hgr (Array.getElem?_eq_some_iff.1 hc).1 (fun e0 => ?_)
   have hd := List.pairwise_iff_getElem.1 h.dis
   rcases Nat.lt_or_gt_of_ne e with e1 | e1
   ·rcases hd i j (by simpa using hi) (by simpa using h1') e1 with x | x | x
    ·simp only [List.getElem_map] at x; rw [x] at e0; cases e0
    ·simp only [List.getElem_map] at x; rw [x] at hb; cases hb
    ·simp only [List.getElem_map] at x; exact x (e0.trans hb.symm)
   ·rcases hd j i (by simpa using h1') (by simpa using hi) e1 with x | x | x
    ·simp only [List.getElem_map] at x; rw [x] at hb; cases hb
    ·simp only [List.getElem_map] at x; rw [x] at e0; cases e0
    ·simp only [List.getElem_map] at x; exact x (hb.trans e0.symm)
 ·rw [List.map_set, List.pairwise_iff_getElem]
  have hd := List.pairwise_iff_getElem.1 h.dis
  have hold : ∀ j (hj : j < els.length), els[j].dv.ownBlock ≠ some w.heap.size := fun j hj e0 => by
   have := (own_lt (h.rel.at j hj (by rw [← h.rel.len]; exact hj)).dv e0).1
   omega
  have h5 : U.heap.size = w.heap.size + 1 := hsz
  intro a b ha hb hab
  have ha' : a < els.length := by simpa using ha
  have hb' : b < els.length := by simpa using hb
  have base := hd a b (by simpa using ha') (by simpa using hb') hab
  simp only [List.getElem_map] at base
  have hnew2 : v'.ownBlock = els[i].dv.ownBlock ∨ ∀ j (hj : j < els.length), els[j].dv.ownBlock ≠ v'.ownBlock := by
   rcases hat with e | e
   ·exact .inl e
   ·right
    intro j hj e2
    rw [e] at e2
    have := (own_lt (gU.rel.at j hj (by rw [← h.rel.len]; exact hj)).dv e2).1
    omega
  by_cases ea : i = a
  ·subst ea
   have eb : i ≠ b := by omega
   simp only [List.getElem_set_self, List.getElem_set_ne eb, List.getElem_map]
   rcases hnew2 with e | e
   ·have hh := base; rw [← e] at hh; exact hh
   ·exact .inr (.inr (fun x => e b hb' x.symm))
  ·by_cases eb : i = b
   ·subst eb
    simp only [List.getElem_set_self, List.getElem_set_ne ea, List.getElem_map]
    rcases hnew2 with e | e
    ·have hh := base; rw [← e] at hh; exact hh
    ·exact .inr (.inr (e a ha'))
   ·simp only [List.getElem_set_ne ea, List.getElem_set_ne eb, List.getElem_map]
    exact base
 ·have b3 : Below N U w3 := (Below.refl _ _).grown hgr (by omega) (fun b hb' => (own_lt hs.dv hb').2.1)
  exact ((bU.mono hN).trans b3).setCell (p := ⟨g, i * 6 + 4, none⟩) hNg _
end Go.Proofs.YtdlcldjlfhmlgaaGreatDoor
/- Layer 8: setFor, whichever way; what add is to do. -/
namespace Go.Proofs.YtdlcldjlfhmlgaaGreatDoor
open Go.RowKit
open Go.MapKept Go.WideMaps
open So (El elC SRow)
def SsOk (ss : List St) (m : Nat) : Prop := ∀ s ∈ ss, OkN s.ls ∧ I64 s.ty ∧ I64 s.cl ∧ (0 ≤ s.tl ∧ s.tl ≤ 2147483647) ∧ s.ds.length ≤ m ∧ ∀ d ∈ s.ds, d.size ≤ 65535
theorem low_size {ls : N3} (h : OkN ls) : (nm (lowN ls)).size ≤ maxLen := by rw [nm_size]; have := h.low.len; unfold maxLen; omega
theorem kB_key {a b : N3} {t c t' c' : Int} (ha : OkN a) (hb : OkN b) (h1 : I64 t) (h2 : I64 c) (h3 : I64 t') (h4 : I64 c') : kB (nm (lowN a)) t c = kB (nm (lowN b)) t' c' ↔ lowN a = lowN b ∧ t = t' ∧ c = c' := by
 constructor
 ·intro h
  obtain ⟨e1, e2, e3⟩ := kB_inj (low_size ha) (low_size hb) h1 h2 h3 h4 h
  exact ⟨nm_inj ha.low hb.low e1, e2, e3⟩
 ·rintro ⟨e1, e2, e3⟩; rw [e1, e2, e3]
theorem keyS_iff {s : St} {r : Rc} : keyS s r = true ↔ lowN s.ls = lowN (lb r.nm) ∧ s.ty = r.ty ∧ s.cl = r.cl := by classical exact decide_eq_true_iff
theorem knF_nil_snoc (ss : List St) (s : St) (h : s.ds = []) (x : List UInt8) : knF (ss ++ [s]) x = knF ss x := by
 unfold knF
 congr 1
 simp [h]
theorem setFor_any (N : Nat) (W : World) (G P K : Nat) (v : Value) (els : List El) (ss : List St) (np nk : Nat) (h : Gth N W G P K v els ss (plF ss) (knF ss) np nk) (r : Rc) (ls : N3) (ho : OkN ls) (hr : r.nm = nm ls) (h1 : I64 r.ty) (h2 : I64 r.cl) (hap : Apart ss) (m : Nat) (hok : SsOk ss m) (hl : els.length ≤ 500) (hnp : np ≤ 500) (hN : N ≤ W.heap.size) :
  Calls Tryz.prog 115 #[ptA G 0, .agg #[.string (nm (lowN ls)), .int .i64 r.ty, .int .i64 r.cl], .agg (rcL r).toArray] W fun e w' => ∃ g cap i els' ss' np', e = .returned (ptA g (i * 6)) ∧ Gth N w' G P K (.slice (some ⟨g, 0, none⟩) els'.length cap) els' ss' (plF ss') (knF ss') np' nk ∧ (∃ (hi : i < ss'.length), i < els'.length ∧ addR ss r = ss'.set i (addD ss'[i] r) ∧ lowN ss'[i].ls = lowN ls ∧ ss'[i].ty = r.ty ∧ ss'[i].cl = r.cl) ∧ SsOk ss' m ∧ Apart ss' ∧ np' ≤ np + 1 ∧ els'.length ≤ els.length + 1 ∧ Below N W w' ∧ Kst W w' := by
 have hlb : lb r.nm = ls := by rw [hr, lb_nm ho]
 by_cases hex : ∃ s ∈ ss, keyS s r = true
 ·obtain ⟨s, hs, hk⟩ := hex
  obtain ⟨i, hi, rfl⟩ := List.getElem_of_mem hs
  obtain ⟨k1, k2, k3⟩ := keyS_iff.1 hk
  rw [hlb] at k1
  have hil : i < els.length := by rw [h.rel.len]; exact hi
  obtain ⟨o1, o2, o3, _, _, _⟩ := hok _ hs
  have hp : plF ss (kB (nm (lowN ls)) r.ty r.cl) = some (.lit (.int .i64 (i : Int))) := by
   refine plF_some hi ((kB_key o1 ho o2 o3 h1 h2).2 ⟨k1, k2, k3⟩) (fun j hj hlt e => ?_)
   obtain ⟨p1, p2, p3, _, _, _⟩ := hok _ (List.getElem_mem hj)
   obtain ⟨e1, e2, e3⟩ := (kB_key p1 ho p2 p3 h1 h2).1 e
   exact List.pairwise_iff_getElem.1 hap j i hj hi hlt ⟨e1.trans k1.symm, e2.trans k2.symm, e3.trans k3.symm⟩
  refine (setFor_old N W G P K v els ss (plF ss) (knF ss) np nk h (nm (lowN ls)) r.ty r.cl (low_size ho) h1 h2 r i hil (by omega) hp hN).mono ?_
  rintro e w' ⟨g, cap, rfl, hv, hg, hb⟩
  subst hv
  exact ⟨g, cap, i, els, ss, np, rfl, hg, ⟨hi, hil, addR_old ss r i hi hap hk, k1, k2, k3⟩, hok, hap, by omega, by omega, hb⟩
 ·have hno : ∀ t ∈ ss, keyS t r = false := fun t ht => by
   cases e : keyS t r with
   | false => rfl
   | true => exact absurd ⟨t, ht, e⟩ hex
  have hnk : ∀ t ∈ ss, kB (nm (lowN t.ls)) t.ty t.cl ≠ kB (nm (lowN ls)) r.ty r.cl := fun t ht e => by
   obtain ⟨p1, p2, p3, _, _, _⟩ := hok _ ht
   obtain ⟨e1, e2, e3⟩ := (kB_key p1 ho p2 p3 h1 h2).1 e
   have := hno t ht
   rw [keyS_iff.2 ⟨by rw [hlb]; exact e1, e2, e3⟩] at this
   cases this
  refine (setFor_new N W G P K v els ss (knF ss) np nk h ls ho r hr h1 h2 hnk (by omega) (by omega) hN).mono ?_
  rintro e w' ⟨g, cap, rfl, hg, hb⟩
  have hl1 : (els ++ [(⟨ls, r.ty, r.cl, 2147483647, nilS, nilS⟩ : El)]).length = els.length + 1 := by simp
  have e0 : els.length = ss.length := h.rel.len
  have this : (ss ++ [(⟨ls, r.ty, r.cl, 2147483647, []⟩ : St)])[els.length]'(by simp; omega) = ⟨ls, r.ty, r.cl, 2147483647, []⟩ := by
   rw [List.getElem_append_right (by omega)]; simp [e0]
  refine ⟨g, cap, els.length, els ++ [⟨ls, r.ty, r.cl, 2147483647, nilS, nilS⟩], ss ++ [⟨ls, r.ty, r.cl, 2147483647, []⟩], np + 1, rfl, ?_, ⟨by simp; omega, by simp, ?_, ?_⟩, ?_, ?_, by omega, by simp, hb⟩
  ·rw [hl1]
   exact ⟨hg.nG, hg.nP, hg.nK, hg.pk, hg.gb, hg.row, hg.rel, hg.dis, hg.mp, hg.mn.congr fun x => (knF_nil_snoc ss _ rfl x).symm⟩
  ·rw [addR_new ss r hno, this, List.set_append_right _ _ (by omega), show els.length - ss.length = 0 by omega, List.set_cons_zero]
   congr 1
   unfold newS addD
   rw [hlb]
   simp
  ·rw [this]
   exact ⟨rfl, rfl, rfl⟩
  ·intro s hs
   rcases List.mem_append.1 hs with hs | hs
   ·exact hok s hs
   ·obtain rfl := List.mem_singleton.1 hs
    exact ⟨ho, h1, h2, ⟨(by decide : (0 : Int) ≤ 2147483647), (by decide : (2147483647 : Int) ≤ 2147483647)⟩, by simp, by simp⟩
  ·refine List.pairwise_append.2 ⟨hap, by simp, fun t ht b hb => ?_⟩
   obtain rfl := List.mem_singleton.1 hb
   intro e
   have := hno t ht
   rw [keyS_iff.2 ⟨by rw [hlb]; exact e.1, e.2.1, e.2.2⟩] at this
   cases this
end Go.Proofs.YtdlcldjlfhmlgaaGreatDoor
/- Layer 8: add. -/
namespace Go.Proofs.YtdlcldjlfhmlgaaGreatDoor
open Go.RowKit
open Go.MapKept Go.WideMaps
open So (El elC SRow)
theorem step_appd {ops : Array Oper} {o : Oper} {a : Act} {w : World} {K : Act → World → Prop} {Q : Exit → Act → World → Prop} {E : Prop} (hg : o.guard = none) (s x : Operand) (hop : o.op = Op.call { callee := Callee.builtin Builtin.append, args := #[s, x], argTypes := #[42, 42] }) (hty : o.type = 42) (vs vx v' : Value) (w' : World) (hs : a.eval s = vs) (hx : a.eval x = vx) (hrun : (bAppD #[vs, vx]).run Tryz.prog w = .ok v' w') (hK : K (a.put o.dst v') w') :
  if Region.wanted o (yielded ops a.tmps) = true then Oper.wp Tryz.prog o a w K Q else E := by
 have hw : Region.wanted o (yielded ops a.tmps) = true := by simp [Region.wanted, hg]
 rw [if_pos hw]
 unfold bAppD at hrun
 unfold Oper.wp execOp
 simp only [hop, hty, resolve, invoke, builtin, Sem.run_bind, Sem.run_pure, Result.andThen_ok, List.map_toArray, List.map_cons, List.map_nil, hs, hx, hrun]
 exact hK
theorem step_mn {w : World} {ops : Array Oper} {o : Oper} {a : Act} {K : Act → World → Prop} {Q : Exit → Act → World → Prop} {E : Prop} (hgd : o.guard = none) (x y : Operand)
  (ho : o.op = .call { callee := .builtin .min, args := #[x, y], argTypes := #[3, 3] }) (m n c : Int) (hx : a.eval x = .int .i64 m) (hy : a.eval y = .int .i64 n) (hc : (if n < m then n else m) = c)
  (h : K (a.put o.dst (.int .i64 c)) w) :
  if Region.wanted o (yielded ops a.tmps) = true then Oper.wp Tryz.prog o a w K Q else E := by
 have hw : Region.wanted o (yielded ops a.tmps) = true := by simp [Region.wanted, hgd]
 rw [if_pos hw]
 subst hc
 unfold Oper.wp
 simp [execOp, ho, resolve, invoke, builtin, hx, hy, Builtin.min_, Builtin.min2]
 exact h
theorem min_if (m n : Int) : (if n < m then n else m) = min m n := by
 split <;> omega
theorem knF_set {ss : List St} {i : Nat} (hi : i < ss.length) (r : Rc) (ls : N3) (hls : lowN ss[i].ls = lowN ls) (hty : ss[i].ty = r.ty) (hcl : ss[i].cl = r.cl) (x : List UInt8) : knF (ss.set i (addD ss[i] r)) x = if x = iB (nm (lowN ls)) r.ty r.cl (lowR r.ty r.dat) then some (.lit (.bool true)) else knF ss x := by
 classical
 have hk := addD_key ss[i] r
 have hd : ∀ d, d ∈ (addD ss[i] r).ds → d ∈ ss[i].ds ∨ d = r.dat := by
  intro d hd
  unfold addD at hd
  simp only at hd
  split at hd
  ·exact .inl hd
  ·rcases List.mem_append.1 hd with hd | hd
   ·exact .inl hd
   ·exact .inr (by simpa using hd)
 have hd2 : ∀ d, d ∈ ss[i].ds → d ∈ (addD ss[i] r).ds := by
  intro d hd
  unfold addD
  simp only
  split
  ·exact hd
  ·exact List.mem_append_left _ hd
 by_cases hx : x = iB (nm (lowN ls)) r.ty r.cl (lowR r.ty r.dat)
 ·rw [if_pos hx]
  unfold knF
  rw [if_pos]
  by_cases hm : lowR r.ty r.dat ∈ ss[i].ds.map (lowR r.ty)
  ·obtain ⟨d, hd', he⟩ := List.mem_map.1 hm
   refine ⟨addD ss[i] r, List.mem_set hi _, d, hd2 d hd', ?_⟩
   rw [hk.1, hk.2.1, hk.2.2, hls, hty, hcl, he, hx]
  ·refine ⟨addD ss[i] r, List.mem_set hi _, r.dat, ?_, ?_⟩
   ·unfold addD
    simp only [if_neg hm]
    simp
   ·rw [hk.1, hk.2.1, hk.2.2, hls, hty, hcl, hx]
 ·rw [if_neg hx]
  unfold knF
  congr 1
  apply propext
  constructor
  ·rintro ⟨s, hs, d, hd', he⟩
   rcases List.mem_or_eq_of_mem_set hs with hs | rfl
   ·exact ⟨s, hs, d, hd', he⟩
   ·rcases hd d hd' with h | rfl
    ·rw [hk.1, hk.2.1, hk.2.2] at he
     exact ⟨ss[i], List.getElem_mem hi, d, h, he⟩
    ·rw [hk.1, hk.2.1, hk.2.2, hls, hty, hcl] at he
     exact absurd he.symm hx
  ·rintro ⟨s, hs, d, hd', he⟩
   obtain ⟨j, hj, rfl⟩ := List.getElem_of_mem hs
   by_cases e : i = j
   ·subst e
    exact ⟨addD ss[i] r, List.mem_set hi _, d, hd2 d hd', by rw [hk.1, hk.2.1, hk.2.2]; exact he⟩
   ·refine ⟨ss[j], ?_, d, hd', he⟩
    have : (ss.set i (addD ss[i] r))[j]'(by simpa using hj) = ss[j] := List.getElem_set_ne e _
    rw [← this]
    exact List.getElem_mem _
theorem knF_known {ss : List St} {i : Nat} (hi : i < ss.length) (hap : Apart ss) (m : Nat) (hok : SsOk ss m) (r : Rc) (hrs : (lowR r.ty r.dat).size ≤ maxLen) (ls : N3) (ho : OkN ls) (hls : lowN ss[i].ls = lowN ls) (hty : ss[i].ty = r.ty) (hcl : ss[i].cl = r.cl) : (knF ss (iB (nm (lowN ls)) r.ty r.cl (lowR r.ty r.dat))).isSome = true ↔ lowR r.ty r.dat ∈ ss[i].ds.map (lowR r.ty) := by
 classical
 unfold knF
 obtain ⟨o1, o2, o3, _, _, _⟩ := hok _ (List.getElem_mem hi)
 constructor
 ·intro h
  split at h
  ·rename_i hex
   obtain ⟨s, hs, d, hd, he⟩ := hex
   obtain ⟨p1, p2, p3, _, _, _⟩ := hok _ hs
   obtain ⟨e1, e2, e3, e4⟩ := iB_inj (low_size p1) (low_size ho) (by rw [lowR_size]; have := (hok _ hs).2.2.2.2.2 d hd; unfold maxLen; omega) hrs p2 p3 (hty ▸ o2) (hcl ▸ o3) he
   obtain ⟨j, hj, rfl⟩ := List.getElem_of_mem hs
   have e5 : lowN ss[j].ls = lowN ss[i].ls := (nm_inj p1.low ho.low e1).trans hls.symm
   have hji : j = i := by
    rcases Nat.lt_trichotomy j i with hlt | rfl | hlt
    ·exact absurd ⟨e5, e2.trans hty.symm, e3.trans hcl.symm⟩ (List.pairwise_iff_getElem.1 hap j i hj hi hlt)
    ·rfl
    ·exact absurd ⟨e5.symm, (e2.trans hty.symm).symm, (e3.trans hcl.symm).symm⟩ (List.pairwise_iff_getElem.1 hap i j hi hj hlt)
   subst hji
   exact List.mem_map.2 ⟨d, hd, by rw [← hty, e4, hty]⟩
  ·cases h
 ·intro h
  obtain ⟨d, hd, he⟩ := List.mem_map.1 h
  rw [if_pos ⟨ss[i], List.getElem_mem hi, d, hd, by rw [hls, hty, hcl, he]⟩]
  rfl
theorem fin_known {ss : List St} {i : Nat} (hi : i < ss.length) (r : Rc) (h : lowR r.ty r.dat ∈ ss[i].ds.map (lowR r.ty)) : ss.set i { ss[i] with tl := min ss[i].tl (ttl r) } = ss.set i (addD ss[i] r) := by
 unfold addD
 rw [if_pos h]
theorem fin_new {ss s1 : List St} {i : Nat} (hi : i < ss.length) (r : Rc) (h : ¬ lowR r.ty r.dat ∈ ss[i].ds.map (lowR r.ty)) (h1 : ss.set i { ss[i] with tl := min ss[i].tl (ttl r) } = s1) (hi1 : i < s1.length) : s1.set i { s1[i] with ds := s1[i].ds ++ [r.dat] } = ss.set i (addD ss[i] r) := by
 subst h1
 unfold addD
 rw [if_neg h]
 simp
end Go.Proofs.YtdlcldjlfhmlgaaGreatDoor
/- Layer 8: what is so of the sets that records make; records in a slice. -/
namespace Go.Proofs.YtdlcldjlfhmlgaaGreatDoor
open Go.RowKit
theorem dRt_size {k : Int} {d : ByteArray} (h : dRt k d = true) : d.size ≤ 65535 := by
 unfold dRt at h
 obtain ⟨xs, hx⟩ := Option.isSome_iff_exists.1 h
 have := (split_iff k d xs).1 hx
 omega
theorem rOk_parts {r : Rc} (h : rOk r = true) : IsName r.nm ∧ (0 ≤ r.cl ∧ r.cl < 2 ^ 16) ∧ (0 ≤ r.tl ∧ r.tl < 2 ^ 32) ∧ dRt r.ty r.dat = true := by
 unfold rOk at h
 simp only [Bool.and_eq_true] at h
 exact ⟨isN_iff.1 h.1.1.1, ftB_iff.1 h.1.1.2, ftB_iff.1 h.1.2, h.2⟩
theorem ttl_range {r : Rc} : 0 ≤ ttl r ∧ ttl r ≤ 2147483647 := by
 unfold ttl
 split
 ·rename_i h
  have := ftB_iff.1 h
  omega
 ·omega
theorem SsOk.mono {ss : List St} {m m' : Nat} (h : SsOk ss m) (hm : m ≤ m') : SsOk ss m' := fun s hs => by
 obtain ⟨a, b, c, d, e, f⟩ := h s hs
 exact ⟨a, b, c, d, by omega, f⟩
theorem SsOk.add {ss : List St} {m : Nat} (h : SsOk ss m) (r : Rc) (hr : rOk r = true) (h1 : I64 r.ty) (h2 : I64 r.cl) : SsOk (addR ss r) (m + 1) := by
 intro t ht
 have hp := rOk_parts hr
 have hsz := dRt_size hp.2.2.2
 rcases addR_mem ht with ht | rfl | ⟨s, hs, _, rfl⟩
 ·exact h.mono (Nat.le_succ _) t ht
 ·exact ⟨(lb_ok hp.1).1, h1, h2, by have := ttl_range (r := r); simp only [newS]; omega, by simp [newS], by simp [newS]; exact hsz⟩
 ·obtain ⟨a, b, c, d, e, f⟩ := h s hs
  refine ⟨a, b, c, by have := ttl_range (r := r); simp only [addD]; omega, Nat.le_trans (addD_len s r) (by omega), fun x hx => ?_⟩
  unfold addD at hx
  simp only at hx
  split at hx
  ·exact f x hx
  ·rcases List.mem_append.1 hx with hx | hx
   ·exact f x hx
   ·obtain rfl := List.mem_singleton.1 hx; exact hsz
theorem setsR_snoc (l : List Rc) (r : Rc) : setsR (l ++ [r]) = stepR (setsR l) r := by simp [setsR, List.foldl_append]
def RcsAt (w : World) (q : Option Addr) (l : List Rc) : Prop := ∀ j (hj : j < l.length), ∃ b off, q = some ⟨b, off, none⟩ ∧ b < w.heap.size ∧ w.cell? ⟨b, off + j * 5, none⟩ = some (.string l[j].nm) ∧ w.cell? ⟨b, off + j * 5 + 1, none⟩ = some (.int .i64 l[j].ty) ∧ w.cell? ⟨b, off + j * 5 + 2, none⟩ = some (.int .i64 l[j].cl) ∧ w.cell? ⟨b, off + j * 5 + 3, none⟩ = some (.int .i64 l[j].tl) ∧ w.cell? ⟨b, off + j * 5 + 4, none⟩ = some (.string l[j].dat)
theorem RcsAt.below {w w' : World} {q : Option Addr} {l : List Rc} {N : Nat} (h : RcsAt w q l) (hb : Below N w w') (hN : ∀ a, q = some a → a.block < N) : RcsAt w' q l := fun j hj => by
 obtain ⟨b, off, e, hlt, c0, c1, c2, c3, c4⟩ := h j hj
 have hbN : b < N := hN _ e
 have key : ∀ k, w'.cell? ⟨b, k, none⟩ = w.cell? ⟨b, k, none⟩ := fun k => hb.cell (p := ⟨b, k, none⟩) hbN
 exact ⟨b, off, e, Nat.lt_of_lt_of_le hlt hb.size, (key _).trans c0, (key _).trans c1, (key _).trans c2, (key _).trans c3, (key _).trans c4⟩
theorem RcsAt.lt {w : World} {q : Option Addr} {l : List Rc} (h : RcsAt w q l) (h0 : 0 < l.length) : ∀ a, q = some a → a.block < w.heap.size := fun a ha => by
 obtain ⟨b, off, e, hlt, _⟩ := h 0 h0
 rw [e] at ha
 cases ha
 exact hlt
theorem RcsAt.blk {w w' : World} {q : Option Addr} {l : List Rc} (h : RcsAt w q l) (hb : Below w.heap.size w w') : RcsAt w' q l := fun j hj => h.below hb (h.lt (by omega)) j hj
def RsOk (l : List Rc) : Prop := ∀ r ∈ l, r.nm.size ≤ maxLen ∧ r.dat.size ≤ maxLen ∧ I64 r.ty ∧ I64 r.cl ∧ r.ty ≠ 46
end Go.Proofs.YtdlcldjlfhmlgaaGreatDoor
