/- Texts of this proof, joined: LeR, LdO, LdQ, LdS, LdW. -/
import Derived.Test.YtdlcldjlfhmlgaaGreatDoorJ36
import Derived.Test.YtdlcldjlfhmlgaaGreatDoorJ19
import Derived.Test.YtdlcldjlfhmlgaaGreatDoorJ21
set_option linter.unusedVariables false
set_option linter.unusedSimpArgs false
/- The document's Answer of local zones (guidepostref14): the walk. -/
namespace Go.Proofs.YtdlcldjlfhmlgaaGreatDoor
open Go.RowKit
open So (El elC elC_len SRow)
set_option maxRecDepth 100000 in
set_option maxHeartbeats 16000000 in
theorem rans_in (W : World) (q : Option Addr) (cap : Nat) (l : List Lc) (hat : LcsAt W q l) (hin : LOk l) (hlm : l.length ≤ 1000000) (hok : okL l) (s : ByteArray) (hs : s.size ≤ maxLen) (kind : Int) :
  Calls Tryz.prog 13 #[.slice q l.length cap, .string s, .int .i64 kind] W fun e w' => AnW W (ansR l s kind) e w' := by
 obtain ⟨i0, hi0, hz0, hz1, hz2⟩ := info_parts' infoSt
 have HZ := Hid.mk (rzone_in W q cap l hat (fun z hz => (hin z hz).1) hlm s hs)
 obtain ⟨A, hA⟩ : ∃ A, ansR l s kind = A := ⟨_, rfl⟩
 rw [hA]
 have HA := Hid.mk hA
 have HAT := Hid.mk hat
 have HIN := Hid.mk hin
 have HOK := Hid.mk hok
 obtain ⟨n, hn⟩ : ∃ n, l.length = n := ⟨_, rfl⟩
 have HN := Hid.mk hn
 rw [hn] at HZ hlm ⊢
 clear hat hin hok hA hn
 go_enter Tryz.func13, Tryz.ntmps13
 go_wp2_with fail
 refine HZ.out.mono ?_
 rintro e w1 ⟨⟨B, o, rfl, hpl, hbest⟩, hb1⟩
 have hbest' : BestAt l s l.length o := by rw [HN.out]; exact hbest
 have hnear := best_near HOK.out hbest'
 have HB1 := Hid.mk hb1
 clear HZ hbest
 rcases hpl with ⟨rfl, rfl⟩ | ⟨b, rfl, rfl⟩
 ·obtain rfl : A = (0, []) := by
   rw [← HA.out]
   unfold ansR
   rw [hnear]
   rfl
  clear hnear hbest' hb1
  go_wp2
  go_ret2
  exact AnW.nil 0 HB1.out
 ·obtain ⟨hbl, hund⟩ : ∃ hbl : b < l.length, undF s l[b].nm = true := by
   obtain ⟨h1, _, h2, _⟩ := hbest'.yes b rfl
   exact ⟨h1, h2⟩
  have hzm : l[b] ∈ l := List.getElem_mem hbl
  obtain ⟨b0, off, qr, cr, rfl, hlt, c0, c1, c2, hrc⟩ := HAT.out.blk hb1 b hbl
  have hzr := HOK.out.1 _ hzm
  obtain ⟨z, hz⟩ : ∃ z, l[b] = z := ⟨_, rfl⟩
  have hsn := und_name hund
  have hAz : A = ansD z (lb s) kind := by
   rw [← HA.out]
   unfold ansR
   rw [hnear]
   show (match (some b).bind (fun b => l[b]?) with | none => (0, []) | some z => ansZ z (lb s) kind) = _
   rw [Option.bind_some, List.getElem?_eq_getElem hbl, hz]
   exact ansZ_eq (hz ▸ hzr) _ _
  have hIz := HIN.out _ hzm
  rw [hz] at c0 c1 c2 hrc hzr hIz
  obtain ⟨hzn, hzk, hzl, hz46⟩ := zone_ty hzr
  obtain ⟨n3, hn3⟩ : ∃ n3, lb s = n3 := ⟨_, rfl⟩
  obtain ⟨on3, es⟩ := lb_ok hsn
  rw [hn3] at on3 es hAz
  obtain ⟨zl1, zl2⟩ := lb_ok hzn
  have hbn : (b : Int) < (n : Int) := by have := HN.out; omega
  have hbn0 : (0 : Int) ≤ (b : Int) := by omega
  have hbneg : ¬ (b : Int) < 0 := by omega
  obtain ⟨rl, hrl⟩ : ∃ rl, z.rs.length = rl := ⟨_, rfl⟩
  have HRL := Hid.mk hrl
  rw [hrl] at c2
  obtain ⟨U1, hU1⟩ : ∃ U1, w1.alloc (.cells #[.string z.nm, .int .i64 z.kd, .slice qr rl cr] 26) = U1 := ⟨_, rfl⟩
  obtain ⟨D1, hD1⟩ : ∃ D1, w1.heap.size = D1 := ⟨_, rfl⟩
  have hU1b : Below w1.heap.size w1 U1 := hU1 ▸ (Below.refl _ _).alloc (Nat.le_refl _) _
  have hD1h : U1.heap[D1]? = some (.cells #[.string z.nm, .int .i64 z.kd, .slice qr rl cr] 26 (0, 0)) := by rw [← hU1, ← hD1]; exact heap_new _ _
  have HUB : Hid (Below W.heap.size W U1) := hb1.trans (hU1b.mono hb1.size)
  have HD1 : Hid (∀ w, Below U1.heap.size U1 w → w.cell? ⟨D1, 0, none⟩ = some (.string z.nm) ∧ w.cell? ⟨D1, 1, none⟩ = some (.int .i64 z.kd) ∧ w.cell? ⟨D1, 2, none⟩ = some (.slice qr rl cr)) := fun w hb => by
   have h2 := (hb.block _ (box_lt hD1h)).trans hD1h
   exact ⟨(cells_at h2 rfl).1, (cells_at h2 rfl).1, (cells_at h2 rfl).1⟩
  have HSets : Hid (Calls Tryz.prog 30 #[.slice qr rl cr] U1 fun e w' => ∃ v ps, e = .returned v ∧ Dk U1.heap.size U1 v ps w' ∧ PsOk z.rs ps rl) := by
   have := rsets_in U1 qr cr z.rs (hrc.blk hU1b) hIz.2.1 hzl
   rw [hrl] at this
   exact this
  have hqz : eqF s z.nm = eqB n3 (lb z.nm) := by
   conv => lhs; rw [es, zl2]
   exact eqF_nm on3 zl1
  have HEQ0 : Hid (∀ w, Calls Tryz.prog 29 #[.string s, .string z.nm] w fun e w' => e = .returned (.bool (eqB n3 (lb z.nm))) ∧ Below w.heap.size w w') := fun w => by
   have := requal_in s z.nm hs hIz.1 w
   rwa [hqz] at this
  have HEQ1 : Hid (∀ a : N3, OkN a → ∀ w, Calls Tryz.prog 29 #[.string (nm a), .string s] w fun e w' => e = .returned (.bool (eqB a n3)) ∧ Below w.heap.size w w') := fun a ha w => by
   have := requal_in (nm a) s (by have := name_size ⟨a, ha, rfl⟩; unfold maxLen; omega) hs w
   have hqa : eqF (nm a) s = eqB a n3 := by
    conv => lhs; rw [es]
    exact eqF_nm ha on3
   rwa [hqa] at this
  have HUN1 : Hid (∀ a : N3, OkN a → ∀ w, Calls Tryz.prog 31 #[.string (nm a), .string s] w fun e w' => e = .returned (.bool (undB a n3)) ∧ Below w.heap.size w w') := fun a ha w => by
   have := runder_in (nm a) s (by have := name_size ⟨a, ha, rfl⟩; unfold maxLen; omega) hs w
   have hqa : undF (nm a) s = undB a n3 := by
    conv => lhs; rw [es]
    exact undF_nm ha on3
   rwa [hqa] at this
  have HES := Hid.mk es
  have HAZ := Hid.mk hAz
  have H46 := Hid.mk hz46
  have HRL2 := Hid.mk hzl
  have HU1 := Hid.mk hU1
  have HD1e := Hid.mk hD1
  have d1 := HD1.out _ (Below.refl _ _)
  clear hqz hU1 hD1 hU1b hD1h hnear hbest' hb1 hund hzm hlt hrc hzr hsn hAz hIz hzn hz46 hn3 on3 es zl1 zl2 hz hbl hrl hzl
  go_upto_region 5 with fail
  rw [HU1.out, HD1e.out]
  clear c0 c1 c2
  by_cases k1 : z.kd = 1
  ·have e1 : (z.kd == 1) = true := by rw [beq_iff_eq]; exact k1
   obtain rfl : A = (1, []) := by rw [HAZ.out]; unfold ansD; rw [if_pos k1]
   clear k1 HAZ
   go_wp2
   go_ret2
   exact AnW.nil 1 HUB.out
  have e1 : (z.kd == 1) = false := by rw [beq_eq_false_iff_ne]; exact k1
  by_cases k2 : z.kd = 2
  ·have e2 : (z.kd == 2) = true := by rw [beq_iff_eq]; exact k2
   obtain rfl : A = (2, []) := by rw [HAZ.out]; unfold ansD; rw [if_neg k1, if_pos k2]
   clear k1 k2 HAZ
   go_wp2
   go_ret2
   exact AnW.nil 2 HUB.out
  have e2 : (z.kd == 2) = false := by rw [beq_eq_false_iff_ne]; exact k2
  have HAD : Hid (A = if 0 < (outD z n3 kind).length then (3, outD z n3 kind) else if thrD z n3 then (4, []) else if z.kd = 4 then (0, []) else (5, [])) := by
   show _ = _
   rw [HAZ.out]; unfold ansD; rw [if_neg k1, if_neg k2]
  clear HAZ k1 k2
  go_wp2_with fail
  refine HSets.out.mono ?_
  rintro e w2 ⟨v1, ps, rfl, hdk, hpo⟩
  have hpz := hpo.pz H46.out
  subst hpz
  obtain ⟨els, hrs⟩ := hdk.rs
  obtain ⟨q1, cp1, rfl⟩ := hrs.form
  rw [pz_len]
  have hb2 := hdk.bel
  have HU2 := Hid.mk hb2
  have hml : (setsR z.rs).length ≤ 200 := Nat.le_trans (setsR_len _) HRL2.out
  have HSGs : Hid (∀ x ∈ setsR z.rs, SG x ∧ x.ds.length ≤ 1000) := fun x hx => by
   refine ⟨setsR_sg _ _ hx, ?_⟩
   have h1 := (setsR_few z.rs).2.1 x hx
   have h2 := HRL2.out
   omega
  have HOA := Hid.mk (outK_all z n3 kind)
  have HTA := Hid.mk (thrK_all z n3)
  generalize setsR z.rs = ss at hrs hml HSGs HOA HTA ⊢
  obtain ⟨m, hm⟩ : ∃ m, ss.length = m := ⟨_, rfl⟩
  have HML := Hid.mk hm
  rw [hm] at hml ⊢
  have HC : Hid (∀ k, k < m → ∃ g, q1 = some ⟨g, 0, none⟩ ∧ ∃ (x : St) (qd : Option Addr) (cd : Nat) (qg : Option Addr) (cg : Nat), Hid (∃ hk : k < ss.length, ss[k] = x) ∧ Hid (ElS U1.heap.size w2 ⟨x.ls, x.ty, x.cl, x.tl, .slice qd x.ds.length cd, .slice qg 0 cg⟩ (x, [])) ∧ Hid (∀ w, Below w2.heap.size w2 w → w.cell? ⟨g, k * 6, none⟩ = some (.string (nm x.ls)) ∧ w.cell? ⟨g, k * 6 + 1, none⟩ = some (.int .i64 x.ty) ∧ w.cell? ⟨g, k * 6 + 2, none⟩ = some (.int .i64 x.cl) ∧ w.cell? ⟨g, k * 6 + 3, none⟩ = some (.int .i64 x.tl) ∧ w.cell? ⟨g, k * 6 + 4, none⟩ = some (.slice qd x.ds.length cd) ∧ w.cell? ⟨g, k * 6 + 5, none⟩ = some (.slice qg 0 cg))) := by
   intro k hk
   have hk1 : k < ss.length := by omega
   have hk2 : k < (pz ss).length := by rw [pz_len]; exact hk1
   have hk' : k < els.length := by rw [hrs.len]; exact hk2
   obtain ⟨g, cap', e, _, hr⟩ := srow_form hrs.row (by omega)
   simp only [Value.slice.injEq] at e
   obtain ⟨rfl, _, rfl⟩ := e
   have hse := hrs.rel.at k hk' hk2
   rw [pz_at ss k hk1 hk2] at hse
   obtain ⟨qd, cd, hdv⟩ := row_form' (hse.tx false)
   obtain ⟨qg, cg, hsv⟩ := row_form' (hse.tx true)
   have hdv' : els[k].dv = .slice qd ss[k].ds.length cd := hdv
   have hsv' : els[k].sv = .slice qg 0 cg := hsv
   refine ⟨g, rfl, ss[k], qd, cd, qg, cg, ⟨hk1, rfl⟩, ?_, fun w hb => ?_⟩
   ·refine ⟨rfl, rfl, rfl, rfl, fun f => ?_⟩
    have := hse.tx f
    cases f with
    | false => rw [show fld els[k] false = .slice qd ss[k].ds.length cd from hdv'] at this; exact this
    | true => rw [show fld els[k] true = .slice qg 0 cg from hsv'] at this; exact this
   ·have hr2 := hr.same (hb.block g hr.lt)
    refine ⟨?_, ?_, ?_, ?_, ?_, ?_⟩
    ·have := hr2.cell k hk' 0 (by decide)
     rw [Nat.add_zero] at this
     rw [this, ← hse.ls]; rfl
    ·rw [hr2.cell k hk' 1 (by decide), ← hse.ty]; rfl
    ·rw [hr2.cell k hk' 2 (by decide), ← hse.cl]; rfl
    ·rw [hr2.cell k hk' 3 (by decide), ← hse.tl]; rfl
    ·rw [hr2.cell k hk' 4 (by decide)]; exact congrArg some hdv'
    ·rw [hr2.cell k hk' 5 (by decide)]; exact congrArg some hsv'
  have HW2 : Hid (Below W.heap.size W w2) := HUB.out.trans (hb2.mono HUB.out.size)
  have d2 := HD1.out _ hb2
  clear hdk hpo hrs hb2 d1 hm HSets
  go_wp2_with fail
  refine (HEQ0.out _).mono ?_
  rintro e w3 ⟨rfl, hb3⟩
  have HB3 := Hid.mk hb3
  have HU3 : Hid (Below U1.heap.size U1 w3) := HU2.out.trans (hb3.mono HU2.out.size)
  have d3 := HD1.out _ HU3.out
  obtain ⟨N2, hN2⟩ : ∃ N2, w3.heap.size = N2 := ⟨_, rfl⟩
  have HN2 := Hid.mk hN2
  clear hb3 d2 hN2
  obtain ⟨k5, hk5⟩ : ∃ k5, (z.kd == 5) = k5 := ⟨_, rfl⟩
  rw [hk5] at HOA HTA
  obtain ⟨e0, he0⟩ : ∃ e0, eqB n3 (lb z.nm) = e0 := ⟨_, rfl⟩
  rw [he0] at HTA ⊢
  clear he0
  obtain ⟨K5, hK5⟩ : ∃ K5, k5 = K5 := ⟨_, rfl⟩
  have HK5 : Hid (k5 = K5) := hK5
  rw [hK5] at HOA HTA
  obtain ⟨E0, hE0⟩ : ∃ E0, e0 = E0 := ⟨_, rfl⟩
  have HT0 : Hid ((e0 || k5) = thrK ss n3 E0 K5 0) := by rw [← hE0, ← hK5]; unfold thrK; show _ = _; simp
  rw [hE0] at HTA
  clear hE0 hK5
  have HO0 : Hid (outK ss n3 kind K5 0 = []) := by unfold outK; show _ = _; simp
  cases e0
  all_goals
   go_wp2
   clear d3
   go_loopw [11, 12, 13] (fun ov tv kv wr => ∃ (k : Nat) (t : Bool) (v : Value) (u : World), v = ov ∧ u = wr ∧ k ≤ m ∧ tv = .bool t ∧ kv = .int .i64 (k : Int) ∧ Hid (t = thrK ss n3 E0 K5 k) ∧ Hid (∃ els, WS N2 U1.heap.size u v els (pz (outK ss n3 kind K5 k))) ∧ Hid (Below N2 w3 u)) (fun _ _ kv _ => m - (intOf kv).toNat)
   case atStart => exact ⟨0, _, nilS, _, rfl, rfl, Nat.zero_le _, rfl, rfl, by rw [← HT0.out]; rfl, ⟨[], by rw [HO0.out]; exact WS.nil _ _ _⟩, Below.refl _ _⟩
   case round =>
    obtain ⟨k, t, v, u, rfl, rfl, hk, rfl, rfl, HT, HWS, HBU⟩ := hrel
    have hsz3 := HN2.out
    have hNu : N2 ≤ u.heap.size := by have := HBU.out.size; omega
    have hw23 : w2.heap.size ≤ N2 := by have := HB3.out.size; omega
    have HB2U : Hid (Below w2.heap.size w2 u) := HB3.out.trans (HBU.out.mono hw23)
    have HU1U : Hid (Below U1.heap.size U1 u) := HU3.out.trans (HBU.out.mono (by have := HU2.out.size; omega))
    have HWU : Hid (Below W.heap.size W u) := HUB.out.trans (HU1U.out.mono HUB.out.size)
    have d4 := HD1.out _ HU1U.out
    by_cases hkl : k < m
    ·have hkz : (k : Int) < (m : Int) := by omega
     have hkz0 : (0 : Int) ≤ (k : Int) := by omega
     have wk : IntKind.i64.wrap ((k : Int) + 1) = ((k + 1 : Nat) : Int) := by rw [IntKind.wrap_i64]; omega
     obtain ⟨g, rfl, x, qd, cd, qg, cg, HXk, HEl, HCk⟩ := HC.out k hkl
     obtain ⟨xls, xty, xcl, xtl, xds⟩ := x
     obtain ⟨dl, hdl⟩ : ∃ dl, xds.length = dl := ⟨_, rfl⟩
     have HDL := Hid.mk hdl
     obtain ⟨c0, c1, c2, c3, c4, c5⟩ := HCk.out u HB2U.out
     simp only [hdl] at c4
     have hokx : OkN xls := by
      obtain ⟨h1, h2⟩ := HXk.out
      have := (HSGs.out _ (List.getElem_mem h1)).1.nm
      rw [h2] at this
      exact this
     have HEQx := Hid.mk (HEQ1.out xls hokx)
     have HUNx := Hid.mk (HUN1.out xls hokx)
     obtain ⟨V1, hV1⟩ : ∃ V1, u.alloc (.cells #[.string (nm xls), .int .i64 xty, .int .i64 xcl, .int .i64 xtl, .slice qd dl cd, .slice qg 0 cg] 44) = V1 := ⟨_, rfl⟩
     obtain ⟨D2, hD2⟩ : ∃ D2, u.heap.size = D2 := ⟨_, rfl⟩
     have hV1b : Below u.heap.size u V1 := hV1 ▸ (Below.refl _ _).alloc (Nat.le_refl _) _
     have hD2h : V1.heap[D2]? = some (.cells #[.string (nm xls), .int .i64 xty, .int .i64 xcl, .int .i64 xtl, .slice qd dl cd, .slice qg 0 cg] 44 (0, 0)) := by rw [← hV1, ← hD2]; exact heap_new _ _
     have HD2h : Hid (∀ w, Below V1.heap.size V1 w → w.heap[D2]? = some (.cells #[.string (nm xls), .int .i64 xty, .int .i64 xcl, .int .i64 xtl, .slice qd dl cd, .slice qg 0 cg] 44 (0, 0))) := fun w hb => (hb.block _ (box_lt hD2h)).trans hD2h
     have HV1U : Hid (Below u.heap.size u V1) := hV1b
     have HV1 := Hid.mk hV1
     have HD2 := Hid.mk hD2
     have x0 := cells_at (j := 0) hD2h rfl
     have HTs : Hid (thrK ss n3 E0 K5 (k + 1) = (t || undB xls n3)) := by
      obtain ⟨h1, h2⟩ := HXk.out
      show _ = _
      rw [thrK_succ h1, ← HT.out, h2]
     have HOs : Hid (∀ c, ((eqB xls n3 || k5) && (xty == kind || kind == 255)) = c → outK ss n3 kind K5 (k + 1) = outK ss n3 kind K5 k ++ if c = true then [⟨n3, xty, xcl, xtl, xds⟩] else []) := fun c hc => by
      obtain ⟨h1, h2⟩ := HXk.out
      rw [outK_succ h1, h2]
      unfold picks
      rw [← HK5.out, hc]
     clear hV1 hD2 hV1b hD2h hokx hdl
     go_upto_region 17 with fail
     rw [HV1.out, HD2.out]
     clear c0 c1 c2 c3 c4 c5
     go_wp2_with fail
     refine (HEQx.out _).mono ?_
     rintro e w4 ⟨rfl, hb4⟩
     have h4 := HD2h.out _ hb4
     have x4 := cells_at (j := 0) h4 rfl
     have HB4 := Hid.mk hb4
     have d5 := HD1.out _ (HU1U.out.trans ((HV1U.out.trans (hb4.mono HV1U.out.size)).mono HU1U.out.size))
     clear x0 hb4 h4 d4 HEQx
     generalize eqB xls n3 = eq1 at HOs ⊢
     cases eq1 with
     | true =>
      go_wp2_with fail
      refine (HUNx.out _).mono ?_
      rintro e w5 ⟨rfl, hb5⟩
      have HB45 : Hid (Below V1.heap.size V1 w5) := HB4.out.trans (hb5.mono HB4.out.size)
      have h5 := HD2h.out _ HB45.out
      have HU5 : Hid (Below u.heap.size u w5) := HV1U.out.trans (HB45.out.mono HV1U.out.size)
      have HB5 : Hid (Below N2 w3 w5) := HBU.out.trans (HU5.out.mono hNu)
      have HW5 : Hid (∃ els, WS N2 U1.heap.size w5 v els (pz (outK ss n3 kind K5 k))) := by
       obtain ⟨els, h1⟩ := HWS.out
       exact ⟨els, h1.blk HU5.out⟩
      have x5 := cells_at (j := 0) h5 rfl
      have x6 := cells_at (j := 1) h5 rfl
      have d6 := HD1.out _ (HU1U.out.trans (HU5.out.mono HU1U.out.size))
      clear x4 hb5 d5 HUNx
      generalize undB xls n3 = un at HTs ⊢
      have HTn : Hid (∀ t', t' = (t || un) → t' = thrK ss n3 E0 K5 (k + 1)) := fun t' h => by rw [HTs.out]; exact h
      clear HTs
      cases t
      all_goals replace HTn := Hid.mk (HTn.out _ rfl)
      all_goals simp only [Bool.false_or, Bool.true_or] at HTn
      all_goals
       by_cases p1 : xty = kind
       ·have e1 : (xty == kind) = true := by rw [beq_iff_eq]; exact p1
        clear p1
        have HOn := Hid.mk (HOs.out true (by rw [e1]; simp))
        obtain ⟨els, h1⟩ := HW5.out
        have hlen := h1.rel.len
        have hol := outK_len ss n3 kind K5 k
        rw [pz_len] at hlen
        obtain ⟨w6, hw6⟩ : ∃ w6, w5.setCell ⟨D2, 0, none⟩ (.string s) = w6 := ⟨_, rfl⟩
        have hD2e := HD2.out
        have hD2w : D2 < w5.heap.size := box_lt h5
        have h6 : w6.heap[D2]? = some (.cells #[.string s, .int .i64 xty, .int .i64 xcl, .int .i64 xtl, .slice qd dl cd, .slice qg 0 cg] 44 (0, 0)) := hw6 ▸ cells_put (j := 0) h5 (.string s)
        have g6 : WS N2 U1.heap.size w6 v els (pz (outK ss n3 kind K5 k)) := hw6 ▸ h1.set (fun b hb e0 => by
         obtain ⟨els0, h0⟩ := HWS.out
         have := (own_lt h0.row hb).1
         omega) h5 _
        have b6 : Below u.heap.size u w6 := hw6 ▸ (HU5.out).setCell (p := ⟨D2, 0, none⟩) (by rw [hD2e]; exact Nat.le_refl _) _
        have hN6 : N2 ≤ w6.heap.size := Nat.le_trans hNu b6.size
        have b26 : Below w2.heap.size w2 w6 := HB2U.out.trans (b6.mono HB2U.out.size)
        have he6 : ElS U1.heap.size w6 ⟨n3, xty, xcl, xtl, .slice qd dl cd, .slice qg 0 cg⟩ (⟨n3, xty, xcl, xtl, xds⟩, []) := by
         have h7 := HEl.out.keep (w' := w6) (fun f b c t _ hc => b26.block b (Array.getElem?_eq_some_iff.1 hc).1)
         have hdl := HDL.out
         refine ⟨rfl, h7.ty, h7.cl, h7.tl, fun f => ?_⟩
         have h8 := h7.tx f
         cases f with
         | false =>
          have h9 : w6.ownsRow U1.heap.size 9 1 (.slice qd xds.length cd) xds.length (strs xds) := h8
          rw [hdl] at h9
          show w6.ownsRow U1.heap.size 9 1 (.slice qd dl cd) xds.length (strs xds)
          rw [hdl]
          exact h9
         | true => exact h8
        obtain ⟨w7, hw7⟩ : ∃ w7, w6.alloc (.cells #[.string s, .int .i64 xty, .int .i64 xcl, .int .i64 xtl, .slice qd dl cd, .slice qg 0 cg] 44) = w7 := ⟨_, rfl⟩
        have b7 : Below w6.heap.size w6 w7 := hw7 ▸ (Below.refl _ _).alloc (Nat.le_refl _) _
        have h7n : w7.heap[w6.heap.size]? = some (.cells #[.string s, .int .i64 xty, .int .i64 xcl, .int .i64 xtl, .slice qd dl cd, .slice qg 0 cg] 44 (0, 0)) := hw7 ▸ heap_alloc_new w6 _
        have g7 := g6.blk b7
        have he7 : ElS U1.heap.size w7 ⟨n3, xty, xcl, xtl, .slice qd dl cd, .slice qg 0 cg⟩ (⟨n3, xty, xcl, xtl, xds⟩, []) := he6.keep fun f b c t _ hc => b7.block b (Array.getElem?_eq_some_iff.1 hc).1
        have hnews : ∀ (j : Nat) y, ([.string s, .int .i64 xty, .int .i64 xcl, .int .i64 xtl, .slice qd dl cd, .slice qg 0 cg] : List Value)[j]? = some y → w7.cell? ((⟨w6.heap.size, 0, none⟩ : Addr).add j) = some y := fun j y hy => by
         rw [So.add_of, Nat.zero_add, So.cell_blk h7n, ← hy, List.getElem?_toArray]
        have hsz7 : w7.heap.size = w6.heap.size + 1 := by rw [← hw7]; simp
        have HG7 := Hid.mk g7
        have HE7 := Hid.mk he7
        have HB67 : Hid (Below N2 w3 w7) := HBU.out.trans ((b6.mono hNu).trans (b7.mono hN6))
        obtain ⟨q7, cp7, hv7⟩ := srow_any g7.row
        subst hv7
        obtain ⟨m0, hm0⟩ : ∃ m0, els.length = m0 := ⟨_, rfl⟩
        have z0 := cells_at (j := 0) h6 rfl
        have z1 := cells_at (j := 1) h6 rfl
        have z2 := cells_at (j := 2) h6 rfl
        have z3 := cells_at (j := 3) h6 rfl
        have z4 := cells_at (j := 4) h6 rfl
        have z5 := cells_at (j := 5) h6 rfl
        have y0 := cells_at (j := 0) h5 rfl
        have hN7 : N2 ≤ w7.heap.size := by omega
        have hsz6 : w6.heap.size = w5.heap.size := by rw [← hw6]; simp [World.setCell]
        have hN5 : N2 ≤ w5.heap.size := by omega
        have hrow7 : ((w5.setCell ⟨D2, 0, none⟩ (.string s)).alloc (.cells #[.string s, .int .i64 xty, .int .i64 xcl, .int .i64 xtl, .slice qd dl cd, .slice qg 0 cg] 44)).ownsRow N2 44 6 (.slice q7 els.length cp7) els.length (elC els) := by rw [hw6, hw7]; exact g7.row
        have hnews2 : ∀ (j : Nat) y, ([.string s, .int .i64 xty, .int .i64 xcl, .int .i64 xtl, .slice qd dl cd, .slice qg 0 cg] : List Value)[j]? = some y → ((w5.setCell ⟨D2, 0, none⟩ (.string s)).alloc (.cells #[.string s, .int .i64 xty, .int .i64 xcl, .int .i64 xtl, .slice qd dl cd, .slice qg 0 cg] 44)).cell? ((⟨w5.heap.size, 0, none⟩ : Addr).add j) = some y := by rw [← hsz6, hw6, hw7]; exact hnews
        have hgq : ∀ w8, ((w5.setCell ⟨D2, 0, none⟩ (.string s)).alloc (.cells #[.string s, .int .i64 xty, .int .i64 xcl, .int .i64 xtl, .slice qd dl cd, .slice qg 0 cg] 44)).grownBy w8 (Value.slice q7 els.length cp7).ownBlock → w7.grownBy w8 (Value.slice q7 els.length cp7).ownBlock := fun w8 h => by rw [hw6, hw7] at h; exact h
        have HGQ := Hid.mk hgq
        have HL6 : Hid ((⟨n3, xty, xcl, xtl, .slice qd dl cd, .slice qg 0 cg⟩ : El).c = [.string s, .int .i64 xty, .int .i64 xcl, .int .i64 xtl, .slice qd dl cd, .slice qg 0 cg]) := by
         show [Value.string (nm n3), _, _, _, _, _] = _
         rw [← HES.out]
        have hone : ∀ y ∈ ([.string s, .int .i64 xty, .int .i64 xcl, .int .i64 xtl, .slice qd dl cd, .slice qg 0 cg] : List Value), y.oneCell' = true := by
         intro y hy
         simp only [List.mem_cons, List.not_mem_nil, or_false] at hy
         rcases hy with rfl | rfl | rfl | rfl | rfl | rfl <;> rfl
        rw [← hw6] at z0 z1 z2 z3 z4 z5
        have hml0 : els.length ≤ 200 := by omega
        clear hw6 hw7 g6 b6 he6 he7 b7 h6 g7 h1 HOs hnews hgq h7n b26 hm0 hsz6 hlen hol
        go_wp2_with (at_builtin; go_must (refine wpList_append_own _ rfl _ _ 37 rfl N2 44 i0 _ 6 88 Tryz.underlying37 hi0 hz0 hz1 hz2 rfl (by decide) _ _ _ rfl hrow7 ⟨w5.heap.size, 0, none⟩ 1 1 [.string s, .int .i64 xty, .int .i64 xcl, .int .i64 xtl, .slice qd dl cd, .slice qg 0 cg] rfl rfl hnews2 hone (by unfold maxLen; omega) (by omega) (by simp; omega) ?_); intro v8 w8 hown8 hgrow8 _)
        have G8 := HG7.out.of_app hN7 _ _ HE7.out (by rw [HL6.out]; exact hown8) (HGQ.out _ hgrow8)
        have HWn : Hid (∃ els, WS N2 U1.heap.size w8 v8 els (pz (outK ss n3 kind K5 (k + 1)))) := by
         refine ⟨els ++ [(⟨n3, xty, xcl, xtl, .slice qd dl cd, .slice qg 0 cg⟩ : El)], ?_⟩
         rw [HOn.out]
         simp only [if_true]
         rw [pz_snoc]
         exact G8.1
        have HBn : Hid (Below N2 w3 w8) := HB67.out.trans G8.2
        clear G8 hown8 hgrow8 hrow7 hnews2 hone z0 z1 z2 z3 z4 z5 y0
        go_wp2
        go_roundw
        case rel => exact ⟨k + 1, _, _, _, rfl, rfl, by omega, rfl, by first | rfl | go_num, HTn, HWn, HBn⟩
        case measure => simp [intOf]; omega
       ·have e1 : (xty == kind) = false := by rw [beq_eq_false_iff_ne]; exact p1
        by_cases p2 : kind = 255
        ·have e2 : (kind == 255) = true := by rw [beq_iff_eq]; exact p2
         clear p2 p1
         have HOn := Hid.mk (HOs.out true (by rw [e2]; simp))
         obtain ⟨els, h1⟩ := HW5.out
         have hlen := h1.rel.len
         have hol := outK_len ss n3 kind K5 k
         rw [pz_len] at hlen
         obtain ⟨w6, hw6⟩ : ∃ w6, w5.setCell ⟨D2, 0, none⟩ (.string s) = w6 := ⟨_, rfl⟩
         have hD2e := HD2.out
         have hD2w : D2 < w5.heap.size := box_lt h5
         have h6 : w6.heap[D2]? = some (.cells #[.string s, .int .i64 xty, .int .i64 xcl, .int .i64 xtl, .slice qd dl cd, .slice qg 0 cg] 44 (0, 0)) := hw6 ▸ cells_put (j := 0) h5 (.string s)
         have g6 : WS N2 U1.heap.size w6 v els (pz (outK ss n3 kind K5 k)) := hw6 ▸ h1.set (fun b hb e0 => by
          obtain ⟨els0, h0⟩ := HWS.out
          have := (own_lt h0.row hb).1
          omega) h5 _
         have b6 : Below u.heap.size u w6 := hw6 ▸ (HU5.out).setCell (p := ⟨D2, 0, none⟩) (by rw [hD2e]; exact Nat.le_refl _) _
         have hN6 : N2 ≤ w6.heap.size := Nat.le_trans hNu b6.size
         have b26 : Below w2.heap.size w2 w6 := HB2U.out.trans (b6.mono HB2U.out.size)
         have he6 : ElS U1.heap.size w6 ⟨n3, xty, xcl, xtl, .slice qd dl cd, .slice qg 0 cg⟩ (⟨n3, xty, xcl, xtl, xds⟩, []) := by
          have h7 := HEl.out.keep (w' := w6) (fun f b c t _ hc => b26.block b (Array.getElem?_eq_some_iff.1 hc).1)
          have hdl := HDL.out
          refine ⟨rfl, h7.ty, h7.cl, h7.tl, fun f => ?_⟩
          have h8 := h7.tx f
          cases f with
          | false =>
           have h9 : w6.ownsRow U1.heap.size 9 1 (.slice qd xds.length cd) xds.length (strs xds) := h8
           rw [hdl] at h9
           show w6.ownsRow U1.heap.size 9 1 (.slice qd dl cd) xds.length (strs xds)
           rw [hdl]
           exact h9
          | true => exact h8
         obtain ⟨w7, hw7⟩ : ∃ w7, w6.alloc (.cells #[.string s, .int .i64 xty, .int .i64 xcl, .int .i64 xtl, .slice qd dl cd, .slice qg 0 cg] 44) = w7 := ⟨_, rfl⟩
         have b7 : Below w6.heap.size w6 w7 := hw7 ▸ (Below.refl _ _).alloc (Nat.le_refl _) _
         have h7n : w7.heap[w6.heap.size]? = some (.cells #[.string s, .int .i64 xty, .int .i64 xcl, .int .i64 xtl, .slice qd dl cd, .slice qg 0 cg] 44 (0, 0)) := hw7 ▸ heap_alloc_new w6 _
         have g7 := g6.blk b7
         have he7 : ElS U1.heap.size w7 ⟨n3, xty, xcl, xtl, .slice qd dl cd, .slice qg 0 cg⟩ (⟨n3, xty, xcl, xtl, xds⟩, []) := he6.keep fun f b c t _ hc => b7.block b (Array.getElem?_eq_some_iff.1 hc).1
         have hnews : ∀ (j : Nat) y, ([.string s, .int .i64 xty, .int .i64 xcl, .int .i64 xtl, .slice qd dl cd, .slice qg 0 cg] : List Value)[j]? = some y → w7.cell? ((⟨w6.heap.size, 0, none⟩ : Addr).add j) = some y := fun j y hy => by
          rw [So.add_of, Nat.zero_add, So.cell_blk h7n, ← hy, List.getElem?_toArray]
         have hsz7 : w7.heap.size = w6.heap.size + 1 := by rw [← hw7]; simp
         have HG7 := Hid.mk g7
         have HE7 := Hid.mk he7
         have HB67 : Hid (Below N2 w3 w7) := HBU.out.trans ((b6.mono hNu).trans (b7.mono hN6))
         obtain ⟨q7, cp7, hv7⟩ := srow_any g7.row
         subst hv7
         obtain ⟨m0, hm0⟩ : ∃ m0, els.length = m0 := ⟨_, rfl⟩
         have z0 := cells_at (j := 0) h6 rfl
         have z1 := cells_at (j := 1) h6 rfl
         have z2 := cells_at (j := 2) h6 rfl
         have z3 := cells_at (j := 3) h6 rfl
         have z4 := cells_at (j := 4) h6 rfl
         have z5 := cells_at (j := 5) h6 rfl
         have y0 := cells_at (j := 0) h5 rfl
         have hN7 : N2 ≤ w7.heap.size := by omega
         have hsz6 : w6.heap.size = w5.heap.size := by rw [← hw6]; simp [World.setCell]
         have hN5 : N2 ≤ w5.heap.size := by omega
         have hrow7 : ((w5.setCell ⟨D2, 0, none⟩ (.string s)).alloc (.cells #[.string s, .int .i64 xty, .int .i64 xcl, .int .i64 xtl, .slice qd dl cd, .slice qg 0 cg] 44)).ownsRow N2 44 6 (.slice q7 els.length cp7) els.length (elC els) := by rw [hw6, hw7]; exact g7.row
         have hnews2 : ∀ (j : Nat) y, ([.string s, .int .i64 xty, .int .i64 xcl, .int .i64 xtl, .slice qd dl cd, .slice qg 0 cg] : List Value)[j]? = some y → ((w5.setCell ⟨D2, 0, none⟩ (.string s)).alloc (.cells #[.string s, .int .i64 xty, .int .i64 xcl, .int .i64 xtl, .slice qd dl cd, .slice qg 0 cg] 44)).cell? ((⟨w5.heap.size, 0, none⟩ : Addr).add j) = some y := by rw [← hsz6, hw6, hw7]; exact hnews
         have hgq : ∀ w8, ((w5.setCell ⟨D2, 0, none⟩ (.string s)).alloc (.cells #[.string s, .int .i64 xty, .int .i64 xcl, .int .i64 xtl, .slice qd dl cd, .slice qg 0 cg] 44)).grownBy w8 (Value.slice q7 els.length cp7).ownBlock → w7.grownBy w8 (Value.slice q7 els.length cp7).ownBlock := fun w8 h => by rw [hw6, hw7] at h; exact h
         have HGQ := Hid.mk hgq
         have HL6 : Hid ((⟨n3, xty, xcl, xtl, .slice qd dl cd, .slice qg 0 cg⟩ : El).c = [.string s, .int .i64 xty, .int .i64 xcl, .int .i64 xtl, .slice qd dl cd, .slice qg 0 cg]) := by
          show [Value.string (nm n3), _, _, _, _, _] = _
          rw [← HES.out]
         have hone : ∀ y ∈ ([.string s, .int .i64 xty, .int .i64 xcl, .int .i64 xtl, .slice qd dl cd, .slice qg 0 cg] : List Value), y.oneCell' = true := by
          intro y hy
          simp only [List.mem_cons, List.not_mem_nil, or_false] at hy
          rcases hy with rfl | rfl | rfl | rfl | rfl | rfl <;> rfl
         rw [← hw6] at z0 z1 z2 z3 z4 z5
         have hml0 : els.length ≤ 200 := by omega
         clear hw6 hw7 g6 b6 he6 he7 b7 h6 g7 h1 HOs hnews hgq h7n b26 hm0 hsz6 hlen hol
         go_wp2_with (at_builtin; go_must (refine wpList_append_own _ rfl _ _ 37 rfl N2 44 i0 _ 6 88 Tryz.underlying37 hi0 hz0 hz1 hz2 rfl (by decide) _ _ _ rfl hrow7 ⟨w5.heap.size, 0, none⟩ 1 1 [.string s, .int .i64 xty, .int .i64 xcl, .int .i64 xtl, .slice qd dl cd, .slice qg 0 cg] rfl rfl hnews2 hone (by unfold maxLen; omega) (by omega) (by simp; omega) ?_); intro v8 w8 hown8 hgrow8 _)
         have G8 := HG7.out.of_app hN7 _ _ HE7.out (by rw [HL6.out]; exact hown8) (HGQ.out _ hgrow8)
         have HWn : Hid (∃ els, WS N2 U1.heap.size w8 v8 els (pz (outK ss n3 kind K5 (k + 1)))) := by
          refine ⟨els ++ [(⟨n3, xty, xcl, xtl, .slice qd dl cd, .slice qg 0 cg⟩ : El)], ?_⟩
          rw [HOn.out]
          simp only [if_true]
          rw [pz_snoc]
          exact G8.1
         have HBn : Hid (Below N2 w3 w8) := HB67.out.trans G8.2
         clear G8 hown8 hgrow8 hrow7 hnews2 hone z0 z1 z2 z3 z4 z5 y0
         go_wp2
         go_roundw
         case rel => exact ⟨k + 1, _, _, _, rfl, rfl, by omega, rfl, by first | rfl | go_num, HTn, HWn, HBn⟩
         case measure => simp [intOf]; omega
        ·have e2 : (kind == 255) = false := by rw [beq_eq_false_iff_ne]; exact p2
         clear p2 p1
         have HWn : Hid (∃ els, WS N2 U1.heap.size w5 v els (pz (outK ss n3 kind K5 (k + 1)))) := by
          obtain ⟨els, h1⟩ := HW5.out
          refine ⟨els, ?_⟩
          rw [HOs.out false (by rw [e1, e2]; simp)]
          simp only [Bool.false_eq_true, if_false, List.append_nil]
          exact h1
         clear HOs
         go_wp2
         go_roundw
         case rel => exact ⟨k + 1, _, _, _, rfl, rfl, by omega, rfl, by first | rfl | go_num, HTn, HWn, HB5⟩
         case measure => simp [intOf]; omega
     | false =>
      cases k5 with
      | true =>
       go_wp2_with fail
       refine (HUNx.out _).mono ?_
       rintro e w5 ⟨rfl, hb5⟩
       have HB45 : Hid (Below V1.heap.size V1 w5) := HB4.out.trans (hb5.mono HB4.out.size)
       have h5 := HD2h.out _ HB45.out
       have HU5 : Hid (Below u.heap.size u w5) := HV1U.out.trans (HB45.out.mono HV1U.out.size)
       have HB5 : Hid (Below N2 w3 w5) := HBU.out.trans (HU5.out.mono hNu)
       have HW5 : Hid (∃ els, WS N2 U1.heap.size w5 v els (pz (outK ss n3 kind K5 k))) := by
        obtain ⟨els, h1⟩ := HWS.out
        exact ⟨els, h1.blk HU5.out⟩
       have x5 := cells_at (j := 0) h5 rfl
       have x6 := cells_at (j := 1) h5 rfl
       have d6 := HD1.out _ (HU1U.out.trans (HU5.out.mono HU1U.out.size))
       clear x4 hb5 d5 HUNx
       generalize undB xls n3 = un at HTs ⊢
       have HTn : Hid (∀ t', t' = (t || un) → t' = thrK ss n3 E0 K5 (k + 1)) := fun t' h => by rw [HTs.out]; exact h
       clear HTs
       cases t
       all_goals replace HTn := Hid.mk (HTn.out _ rfl)
       all_goals simp only [Bool.false_or, Bool.true_or] at HTn
       all_goals
        by_cases p1 : xty = kind
        ·have e1 : (xty == kind) = true := by rw [beq_iff_eq]; exact p1
         clear p1
         have HOn := Hid.mk (HOs.out true (by rw [e1]; simp))
         obtain ⟨els, h1⟩ := HW5.out
         have hlen := h1.rel.len
         have hol := outK_len ss n3 kind K5 k
         rw [pz_len] at hlen
         obtain ⟨w6, hw6⟩ : ∃ w6, w5.setCell ⟨D2, 0, none⟩ (.string s) = w6 := ⟨_, rfl⟩
         have hD2e := HD2.out
         have hD2w : D2 < w5.heap.size := box_lt h5
         have h6 : w6.heap[D2]? = some (.cells #[.string s, .int .i64 xty, .int .i64 xcl, .int .i64 xtl, .slice qd dl cd, .slice qg 0 cg] 44 (0, 0)) := hw6 ▸ cells_put (j := 0) h5 (.string s)
         have g6 : WS N2 U1.heap.size w6 v els (pz (outK ss n3 kind K5 k)) := hw6 ▸ h1.set (fun b hb e0 => by
          obtain ⟨els0, h0⟩ := HWS.out
          have := (own_lt h0.row hb).1
          omega) h5 _
         have b6 : Below u.heap.size u w6 := hw6 ▸ (HU5.out).setCell (p := ⟨D2, 0, none⟩) (by rw [hD2e]; exact Nat.le_refl _) _
         have hN6 : N2 ≤ w6.heap.size := Nat.le_trans hNu b6.size
         have b26 : Below w2.heap.size w2 w6 := HB2U.out.trans (b6.mono HB2U.out.size)
         have he6 : ElS U1.heap.size w6 ⟨n3, xty, xcl, xtl, .slice qd dl cd, .slice qg 0 cg⟩ (⟨n3, xty, xcl, xtl, xds⟩, []) := by
          have h7 := HEl.out.keep (w' := w6) (fun f b c t _ hc => b26.block b (Array.getElem?_eq_some_iff.1 hc).1)
          have hdl := HDL.out
          refine ⟨rfl, h7.ty, h7.cl, h7.tl, fun f => ?_⟩
          have h8 := h7.tx f
          cases f with
          | false =>
           have h9 : w6.ownsRow U1.heap.size 9 1 (.slice qd xds.length cd) xds.length (strs xds) := h8
           rw [hdl] at h9
           show w6.ownsRow U1.heap.size 9 1 (.slice qd dl cd) xds.length (strs xds)
           rw [hdl]
           exact h9
          | true => exact h8
         obtain ⟨w7, hw7⟩ : ∃ w7, w6.alloc (.cells #[.string s, .int .i64 xty, .int .i64 xcl, .int .i64 xtl, .slice qd dl cd, .slice qg 0 cg] 44) = w7 := ⟨_, rfl⟩
         have b7 : Below w6.heap.size w6 w7 := hw7 ▸ (Below.refl _ _).alloc (Nat.le_refl _) _
         have h7n : w7.heap[w6.heap.size]? = some (.cells #[.string s, .int .i64 xty, .int .i64 xcl, .int .i64 xtl, .slice qd dl cd, .slice qg 0 cg] 44 (0, 0)) := hw7 ▸ heap_alloc_new w6 _
         have g7 := g6.blk b7
         have he7 : ElS U1.heap.size w7 ⟨n3, xty, xcl, xtl, .slice qd dl cd, .slice qg 0 cg⟩ (⟨n3, xty, xcl, xtl, xds⟩, []) := he6.keep fun f b c t _ hc => b7.block b (Array.getElem?_eq_some_iff.1 hc).1
         have hnews : ∀ (j : Nat) y, ([.string s, .int .i64 xty, .int .i64 xcl, .int .i64 xtl, .slice qd dl cd, .slice qg 0 cg] : List Value)[j]? = some y → w7.cell? ((⟨w6.heap.size, 0, none⟩ : Addr).add j) = some y := fun j y hy => by
          rw [So.add_of, Nat.zero_add, So.cell_blk h7n, ← hy, List.getElem?_toArray]
         have hsz7 : w7.heap.size = w6.heap.size + 1 := by rw [← hw7]; simp
         have HG7 := Hid.mk g7
         have HE7 := Hid.mk he7
         have HB67 : Hid (Below N2 w3 w7) := HBU.out.trans ((b6.mono hNu).trans (b7.mono hN6))
         obtain ⟨q7, cp7, hv7⟩ := srow_any g7.row
         subst hv7
         obtain ⟨m0, hm0⟩ : ∃ m0, els.length = m0 := ⟨_, rfl⟩
         have z0 := cells_at (j := 0) h6 rfl
         have z1 := cells_at (j := 1) h6 rfl
         have z2 := cells_at (j := 2) h6 rfl
         have z3 := cells_at (j := 3) h6 rfl
         have z4 := cells_at (j := 4) h6 rfl
         have z5 := cells_at (j := 5) h6 rfl
         have y0 := cells_at (j := 0) h5 rfl
         have hN7 : N2 ≤ w7.heap.size := by omega
         have hsz6 : w6.heap.size = w5.heap.size := by rw [← hw6]; simp [World.setCell]
         have hN5 : N2 ≤ w5.heap.size := by omega
         have hrow7 : ((w5.setCell ⟨D2, 0, none⟩ (.string s)).alloc (.cells #[.string s, .int .i64 xty, .int .i64 xcl, .int .i64 xtl, .slice qd dl cd, .slice qg 0 cg] 44)).ownsRow N2 44 6 (.slice q7 els.length cp7) els.length (elC els) := by rw [hw6, hw7]; exact g7.row
         have hnews2 : ∀ (j : Nat) y, ([.string s, .int .i64 xty, .int .i64 xcl, .int .i64 xtl, .slice qd dl cd, .slice qg 0 cg] : List Value)[j]? = some y → ((w5.setCell ⟨D2, 0, none⟩ (.string s)).alloc (.cells #[.string s, .int .i64 xty, .int .i64 xcl, .int .i64 xtl, .slice qd dl cd, .slice qg 0 cg] 44)).cell? ((⟨w5.heap.size, 0, none⟩ : Addr).add j) = some y := by rw [← hsz6, hw6, hw7]; exact hnews
         have hgq : ∀ w8, ((w5.setCell ⟨D2, 0, none⟩ (.string s)).alloc (.cells #[.string s, .int .i64 xty, .int .i64 xcl, .int .i64 xtl, .slice qd dl cd, .slice qg 0 cg] 44)).grownBy w8 (Value.slice q7 els.length cp7).ownBlock → w7.grownBy w8 (Value.slice q7 els.length cp7).ownBlock := fun w8 h => by rw [hw6, hw7] at h; exact h
         have HGQ := Hid.mk hgq
         have HL6 : Hid ((⟨n3, xty, xcl, xtl, .slice qd dl cd, .slice qg 0 cg⟩ : El).c = [.string s, .int .i64 xty, .int .i64 xcl, .int .i64 xtl, .slice qd dl cd, .slice qg 0 cg]) := by
          show [Value.string (nm n3), _, _, _, _, _] = _
          rw [← HES.out]
         have hone : ∀ y ∈ ([.string s, .int .i64 xty, .int .i64 xcl, .int .i64 xtl, .slice qd dl cd, .slice qg 0 cg] : List Value), y.oneCell' = true := by
          intro y hy
          simp only [List.mem_cons, List.not_mem_nil, or_false] at hy
          rcases hy with rfl | rfl | rfl | rfl | rfl | rfl <;> rfl
         rw [← hw6] at z0 z1 z2 z3 z4 z5
         have hml0 : els.length ≤ 200 := by omega
         clear hw6 hw7 g6 b6 he6 he7 b7 h6 g7 h1 HOs hnews hgq h7n b26 hm0 hsz6 hlen hol
         go_wp2_with (at_builtin; go_must (refine wpList_append_own _ rfl _ _ 37 rfl N2 44 i0 _ 6 88 Tryz.underlying37 hi0 hz0 hz1 hz2 rfl (by decide) _ _ _ rfl hrow7 ⟨w5.heap.size, 0, none⟩ 1 1 [.string s, .int .i64 xty, .int .i64 xcl, .int .i64 xtl, .slice qd dl cd, .slice qg 0 cg] rfl rfl hnews2 hone (by unfold maxLen; omega) (by omega) (by simp; omega) ?_); intro v8 w8 hown8 hgrow8 _)
         have G8 := HG7.out.of_app hN7 _ _ HE7.out (by rw [HL6.out]; exact hown8) (HGQ.out _ hgrow8)
         have HWn : Hid (∃ els, WS N2 U1.heap.size w8 v8 els (pz (outK ss n3 kind K5 (k + 1)))) := by
          refine ⟨els ++ [(⟨n3, xty, xcl, xtl, .slice qd dl cd, .slice qg 0 cg⟩ : El)], ?_⟩
          rw [HOn.out]
          simp only [if_true]
          rw [pz_snoc]
          exact G8.1
         have HBn : Hid (Below N2 w3 w8) := HB67.out.trans G8.2
         clear G8 hown8 hgrow8 hrow7 hnews2 hone z0 z1 z2 z3 z4 z5 y0
         go_wp2
         go_roundw
         case rel => exact ⟨k + 1, _, _, _, rfl, rfl, by omega, rfl, by first | rfl | go_num, HTn, HWn, HBn⟩
         case measure => simp [intOf]; omega
        ·have e1 : (xty == kind) = false := by rw [beq_eq_false_iff_ne]; exact p1
         by_cases p2 : kind = 255
         ·have e2 : (kind == 255) = true := by rw [beq_iff_eq]; exact p2
          clear p2 p1
          have HOn := Hid.mk (HOs.out true (by rw [e2]; simp))
          obtain ⟨els, h1⟩ := HW5.out
          have hlen := h1.rel.len
          have hol := outK_len ss n3 kind K5 k
          rw [pz_len] at hlen
          obtain ⟨w6, hw6⟩ : ∃ w6, w5.setCell ⟨D2, 0, none⟩ (.string s) = w6 := ⟨_, rfl⟩
          have hD2e := HD2.out
          have hD2w : D2 < w5.heap.size := box_lt h5
          have h6 : w6.heap[D2]? = some (.cells #[.string s, .int .i64 xty, .int .i64 xcl, .int .i64 xtl, .slice qd dl cd, .slice qg 0 cg] 44 (0, 0)) := hw6 ▸ cells_put (j := 0) h5 (.string s)
          have g6 : WS N2 U1.heap.size w6 v els (pz (outK ss n3 kind K5 k)) := hw6 ▸ h1.set (fun b hb e0 => by
           obtain ⟨els0, h0⟩ := HWS.out
           have := (own_lt h0.row hb).1
           omega) h5 _
          have b6 : Below u.heap.size u w6 := hw6 ▸ (HU5.out).setCell (p := ⟨D2, 0, none⟩) (by rw [hD2e]; exact Nat.le_refl _) _
          have hN6 : N2 ≤ w6.heap.size := Nat.le_trans hNu b6.size
          have b26 : Below w2.heap.size w2 w6 := HB2U.out.trans (b6.mono HB2U.out.size)
          have he6 : ElS U1.heap.size w6 ⟨n3, xty, xcl, xtl, .slice qd dl cd, .slice qg 0 cg⟩ (⟨n3, xty, xcl, xtl, xds⟩, []) := by
           have h7 := HEl.out.keep (w' := w6) (fun f b c t _ hc => b26.block b (Array.getElem?_eq_some_iff.1 hc).1)
           have hdl := HDL.out
           refine ⟨rfl, h7.ty, h7.cl, h7.tl, fun f => ?_⟩
           have h8 := h7.tx f
           cases f with
           | false =>
            have h9 : w6.ownsRow U1.heap.size 9 1 (.slice qd xds.length cd) xds.length (strs xds) := h8
            rw [hdl] at h9
            show w6.ownsRow U1.heap.size 9 1 (.slice qd dl cd) xds.length (strs xds)
            rw [hdl]
            exact h9
           | true => exact h8
          obtain ⟨w7, hw7⟩ : ∃ w7, w6.alloc (.cells #[.string s, .int .i64 xty, .int .i64 xcl, .int .i64 xtl, .slice qd dl cd, .slice qg 0 cg] 44) = w7 := ⟨_, rfl⟩
          have b7 : Below w6.heap.size w6 w7 := hw7 ▸ (Below.refl _ _).alloc (Nat.le_refl _) _
          have h7n : w7.heap[w6.heap.size]? = some (.cells #[.string s, .int .i64 xty, .int .i64 xcl, .int .i64 xtl, .slice qd dl cd, .slice qg 0 cg] 44 (0, 0)) := hw7 ▸ heap_alloc_new w6 _
          have g7 := g6.blk b7
          have he7 : ElS U1.heap.size w7 ⟨n3, xty, xcl, xtl, .slice qd dl cd, .slice qg 0 cg⟩ (⟨n3, xty, xcl, xtl, xds⟩, []) := he6.keep fun f b c t _ hc => b7.block b (Array.getElem?_eq_some_iff.1 hc).1
          have hnews : ∀ (j : Nat) y, ([.string s, .int .i64 xty, .int .i64 xcl, .int .i64 xtl, .slice qd dl cd, .slice qg 0 cg] : List Value)[j]? = some y → w7.cell? ((⟨w6.heap.size, 0, none⟩ : Addr).add j) = some y := fun j y hy => by
           rw [So.add_of, Nat.zero_add, So.cell_blk h7n, ← hy, List.getElem?_toArray]
          have hsz7 : w7.heap.size = w6.heap.size + 1 := by rw [← hw7]; simp
          have HG7 := Hid.mk g7
          have HE7 := Hid.mk he7
          have HB67 : Hid (Below N2 w3 w7) := HBU.out.trans ((b6.mono hNu).trans (b7.mono hN6))
          obtain ⟨q7, cp7, hv7⟩ := srow_any g7.row
          subst hv7
          obtain ⟨m0, hm0⟩ : ∃ m0, els.length = m0 := ⟨_, rfl⟩
          have z0 := cells_at (j := 0) h6 rfl
          have z1 := cells_at (j := 1) h6 rfl
          have z2 := cells_at (j := 2) h6 rfl
          have z3 := cells_at (j := 3) h6 rfl
          have z4 := cells_at (j := 4) h6 rfl
          have z5 := cells_at (j := 5) h6 rfl
          have y0 := cells_at (j := 0) h5 rfl
          have hN7 : N2 ≤ w7.heap.size := by omega
          have hsz6 : w6.heap.size = w5.heap.size := by rw [← hw6]; simp [World.setCell]
          have hN5 : N2 ≤ w5.heap.size := by omega
          have hrow7 : ((w5.setCell ⟨D2, 0, none⟩ (.string s)).alloc (.cells #[.string s, .int .i64 xty, .int .i64 xcl, .int .i64 xtl, .slice qd dl cd, .slice qg 0 cg] 44)).ownsRow N2 44 6 (.slice q7 els.length cp7) els.length (elC els) := by rw [hw6, hw7]; exact g7.row
          have hnews2 : ∀ (j : Nat) y, ([.string s, .int .i64 xty, .int .i64 xcl, .int .i64 xtl, .slice qd dl cd, .slice qg 0 cg] : List Value)[j]? = some y → ((w5.setCell ⟨D2, 0, none⟩ (.string s)).alloc (.cells #[.string s, .int .i64 xty, .int .i64 xcl, .int .i64 xtl, .slice qd dl cd, .slice qg 0 cg] 44)).cell? ((⟨w5.heap.size, 0, none⟩ : Addr).add j) = some y := by rw [← hsz6, hw6, hw7]; exact hnews
          have hgq : ∀ w8, ((w5.setCell ⟨D2, 0, none⟩ (.string s)).alloc (.cells #[.string s, .int .i64 xty, .int .i64 xcl, .int .i64 xtl, .slice qd dl cd, .slice qg 0 cg] 44)).grownBy w8 (Value.slice q7 els.length cp7).ownBlock → w7.grownBy w8 (Value.slice q7 els.length cp7).ownBlock := fun w8 h => by rw [hw6, hw7] at h; exact h
          have HGQ := Hid.mk hgq
          have HL6 : Hid ((⟨n3, xty, xcl, xtl, .slice qd dl cd, .slice qg 0 cg⟩ : El).c = [.string s, .int .i64 xty, .int .i64 xcl, .int .i64 xtl, .slice qd dl cd, .slice qg 0 cg]) := by
           show [Value.string (nm n3), _, _, _, _, _] = _
           rw [← HES.out]
          have hone : ∀ y ∈ ([.string s, .int .i64 xty, .int .i64 xcl, .int .i64 xtl, .slice qd dl cd, .slice qg 0 cg] : List Value), y.oneCell' = true := by
           intro y hy
           simp only [List.mem_cons, List.not_mem_nil, or_false] at hy
           rcases hy with rfl | rfl | rfl | rfl | rfl | rfl <;> rfl
          rw [← hw6] at z0 z1 z2 z3 z4 z5
          have hml0 : els.length ≤ 200 := by omega
          clear hw6 hw7 g6 b6 he6 he7 b7 h6 g7 h1 HOs hnews hgq h7n b26 hm0 hsz6 hlen hol
          go_wp2_with (at_builtin; go_must (refine wpList_append_own _ rfl _ _ 37 rfl N2 44 i0 _ 6 88 Tryz.underlying37 hi0 hz0 hz1 hz2 rfl (by decide) _ _ _ rfl hrow7 ⟨w5.heap.size, 0, none⟩ 1 1 [.string s, .int .i64 xty, .int .i64 xcl, .int .i64 xtl, .slice qd dl cd, .slice qg 0 cg] rfl rfl hnews2 hone (by unfold maxLen; omega) (by omega) (by simp; omega) ?_); intro v8 w8 hown8 hgrow8 _)
          have G8 := HG7.out.of_app hN7 _ _ HE7.out (by rw [HL6.out]; exact hown8) (HGQ.out _ hgrow8)
          have HWn : Hid (∃ els, WS N2 U1.heap.size w8 v8 els (pz (outK ss n3 kind K5 (k + 1)))) := by
           refine ⟨els ++ [(⟨n3, xty, xcl, xtl, .slice qd dl cd, .slice qg 0 cg⟩ : El)], ?_⟩
           rw [HOn.out]
           simp only [if_true]
           rw [pz_snoc]
           exact G8.1
          have HBn : Hid (Below N2 w3 w8) := HB67.out.trans G8.2
          clear G8 hown8 hgrow8 hrow7 hnews2 hone z0 z1 z2 z3 z4 z5 y0
          go_wp2
          go_roundw
          case rel => exact ⟨k + 1, _, _, _, rfl, rfl, by omega, rfl, by first | rfl | go_num, HTn, HWn, HBn⟩
          case measure => simp [intOf]; omega
         ·have e2 : (kind == 255) = false := by rw [beq_eq_false_iff_ne]; exact p2
          clear p2 p1
          have HWn : Hid (∃ els, WS N2 U1.heap.size w5 v els (pz (outK ss n3 kind K5 (k + 1)))) := by
           obtain ⟨els, h1⟩ := HW5.out
           refine ⟨els, ?_⟩
           rw [HOs.out false (by rw [e1, e2]; simp)]
           simp only [Bool.false_eq_true, if_false, List.append_nil]
           exact h1
          clear HOs
          go_wp2
          go_roundw
          case rel => exact ⟨k + 1, _, _, _, rfl, rfl, by omega, rfl, by first | rfl | go_num, HTn, HWn, HB5⟩
          case measure => simp [intOf]; omega
      | false =>
       go_wp2_with fail
       refine (HUNx.out _).mono ?_
       rintro e w5 ⟨rfl, hb5⟩
       have HB45 : Hid (Below V1.heap.size V1 w5) := HB4.out.trans (hb5.mono HB4.out.size)
       have h5 := HD2h.out _ HB45.out
       have HU5 : Hid (Below u.heap.size u w5) := HV1U.out.trans (HB45.out.mono HV1U.out.size)
       have HB5 : Hid (Below N2 w3 w5) := HBU.out.trans (HU5.out.mono hNu)
       have HW5 : Hid (∃ els, WS N2 U1.heap.size w5 v els (pz (outK ss n3 kind K5 k))) := by
        obtain ⟨els, h1⟩ := HWS.out
        exact ⟨els, h1.blk HU5.out⟩
       have x5 := cells_at (j := 0) h5 rfl
       have x6 := cells_at (j := 1) h5 rfl
       have d6 := HD1.out _ (HU1U.out.trans (HU5.out.mono HU1U.out.size))
       clear x4 hb5 d5 HUNx
       generalize undB xls n3 = un at HTs ⊢
       have HTn : Hid (∀ t', t' = (t || un) → t' = thrK ss n3 E0 K5 (k + 1)) := fun t' h => by rw [HTs.out]; exact h
       clear HTs
       cases t
       all_goals replace HTn := Hid.mk (HTn.out _ rfl)
       all_goals simp only [Bool.false_or, Bool.true_or] at HTn
       all_goals
        have HWn : Hid (∃ els, WS N2 U1.heap.size w5 v els (pz (outK ss n3 kind K5 (k + 1)))) := by
         obtain ⟨els, h1⟩ := HW5.out
         refine ⟨els, ?_⟩
         rw [HOs.out false (by simp)]
         simp only [Bool.false_eq_true, if_false, List.append_nil]
         exact h1
        clear HOs
        go_wp2
        go_roundw
        case rel => exact ⟨k + 1, _, _, _, rfl, rfl, by omega, rfl, by first | rfl | go_num, HTn, HWn, HB5⟩
        case measure => simp [intOf]; omega
    ·have hkz : ¬ (k : Int) < (m : Int) := by omega
     have hkm : k = m := by omega
     have HOm : Hid (outK ss n3 kind K5 k = outD z n3 kind) := by
      have h1 := HOA.out
      rw [HML.out] at h1
      rw [hkm]; exact h1
     have HTm : Hid (t = thrD z n3) := by
      have h1 := HTA.out
      rw [HML.out] at h1
      rw [HT.out, hkm]; exact h1
     obtain ⟨els, hws⟩ := HWS.out
     obtain ⟨qo, co, hov⟩ := hws.form
     rw [pz_len, HOm.out] at hov
     rw [HOm.out] at hws
     have HWo := Hid.mk hws
     obtain ⟨lo, hlo⟩ : ∃ lo, (outD z n3 kind).length = lo := ⟨_, rfl⟩
     rw [hlo] at hov HAD
     subst hov
     clear hws hkm HT HWS
     by_cases hp : 0 < lo
     ·have hpz : (0 : Int) < (lo : Int) := by omega
      obtain rfl : A = (3, outD z n3 kind) := by rw [HAD.out, if_pos hp]
      go_wp2
      go_ret2
      exact ⟨⟨_, N2, U1.heap.size, els, rfl, HWo.out⟩, HWU.out⟩
     ·have hpz : ¬ (0 : Int) < (lo : Int) := by omega
      have HAD2 : Hid (A = if t then (4, []) else if z.kd = 4 then (0, []) else (5, [])) := by
       show _ = _
       rw [HAD.out, if_neg hp, HTm.out]
      clear hp HAD HTm
      cases t with
      | true =>
       obtain rfl : A = (4, []) := HAD2.out
       go_wp2
       go_ret2
       exact AnW.nil 4 HWU.out
      | false =>
       by_cases h4 : z.kd = 4
       ·have e4 : (z.kd == 4) = true := by rw [beq_iff_eq]; exact h4
        obtain rfl : A = (0, []) := by rw [HAD2.out]; simp [h4]
        clear h4 HAD2
        go_wp2
        go_ret2
        exact AnW.nil 0 HWU.out
       ·have e4 : (z.kd == 4) = false := by rw [beq_eq_false_iff_ne]; exact h4
        obtain rfl : A = (5, []) := by rw [HAD2.out]; simp [h4]
        clear h4 HAD2
        go_wp2
        go_ret2
        exact AnW.nil 5 HWU.out
end Go.Proofs.YtdlcldjlfhmlgaaGreatDoor
/- Layer 14: the law's a. -/
namespace Go.Proofs.YtdlcldjlfhmlgaaGreatDoor
open Go.RowKit
set_option maxRecDepth 100000 in
theorem la_in (s : ByteArray) (W : World) : Calls Tryz.prog 24 #[.string s] W fun e w' => e = .returned (.agg #[.string s, .int .i64 1, .int .i64 1, .int .i64 5, .string exD]) ∧ Below W.heap.size W w' := by
 have HX : ∀ c, (W.alloc (.cells c 33)).heap[W.heap.size]? = some (.cells c 33 (0, 0)) := fun c => heap_alloc_new W _
 unfold exD
 go_enter Tryz.func24, Tryz.ntmps24
 go_wp2
 refine bodyPost_ret (results_cell_row Tryz.results24 _ _ W.heap.size 33 _ (0, 0) _ (by rfl) (HX _) Tryz.underlying33 rfl (by kernel_rfl)) rfl ?_
 exact ⟨rfl, (Below.refl _ _).alloc (Nat.le_refl _) _⟩
end Go.Proofs.YtdlcldjlfhmlgaaGreatDoor
/- Layer 14: the law's examples. -/
namespace Go.Proofs.YtdlcldjlfhmlgaaGreatDoor
open Go.RowKit
theorem ok_c : OkN [[98], [115]] := ok_dec (by decide) (by decide)
theorem ok_d : OkN [[99], [115]] := ok_dec (by decide) (by decide)
theorem ok_g : OkN [[113], [114]] := ok_dec (by decide) (by decide)
theorem ok_h : OkN [[120], [110, 111], [115]] := ok_dec (by decide) (by decide)
theorem ok_i : OkN [] := ok_dec (by decide) (by decide)
end Go.Proofs.YtdlcldjlfhmlgaaGreatDoor
/- Layer 14: LocalKinds. -/
namespace Go.Proofs.YtdlcldjlfhmlgaaGreatDoor
open Go.RowKit
end Go.Proofs.YtdlcldjlfhmlgaaGreatDoor
/- Layer 14: LocalNear. -/
namespace Go.Proofs.YtdlcldjlfhmlgaaGreatDoor
open Go.RowKit
theorem nearP_snd (L : List (Nat × Lc)) (s : ByteArray) : (nearP L s).map Prod.snd = near (L.map Prod.snd) s := by
 unfold nearP near
 split
 ·exact nearL_snd _ _
 ·rfl
end Go.Proofs.YtdlcldjlfhmlgaaGreatDoor
