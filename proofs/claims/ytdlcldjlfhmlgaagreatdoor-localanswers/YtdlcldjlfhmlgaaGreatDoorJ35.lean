/- Texts of this proof, joined: LeM. -/
import Derived.Deep.RegionHeld3
import Derived.Test.YtdlcldjlfhmlgaaGreatDoorJ34
set_option linter.unusedVariables false
set_option linter.unusedSimpArgs false
/- The document's Right of local zones (guidepostref14). -/
namespace Go.Proofs.YtdlcldjlfhmlgaaGreatDoor
open Go.RowKit
open So (El elC SRow)
theorem headD_parts {z : Lc} (h : headD z = true) : isN z.nm = true ∧ 1 ≤ z.kd ∧ z.kd ≤ 5 ∧ z.rs.length ≤ 200 ∧ (z.rs.length = 0 ∨ 2 < z.kd) := by
 unfold headD at h
 simp only [Bool.and_eq_true, Bool.or_eq_true, decide_eq_true_eq] at h
 exact ⟨h.1.1.1.1, h.1.1.1.2, h.1.1.2, h.1.2, h.2⟩
theorem headD_no {z : Lc} (h : headD z = false) : isN z.nm = false ∨ (isN z.nm = true ∧ (z.kd < 1 ∨ 5 < z.kd ∨ 200 < z.rs.length ∨ (0 < z.rs.length ∧ z.kd ≤ 2))) := by
 cases hn : isN z.nm with
 | false => exact .inl rfl
 | true =>
  right
  refine ⟨rfl, ?_⟩
  by_cases c : z.kd < 1 ∨ 5 < z.kd ∨ 200 < z.rs.length ∨ (0 < z.rs.length ∧ z.kd ≤ 2)
  ·exact c
  ·exfalso
   have : headD z = true := by
    unfold headD
    rw [hn, decide_eq_true (by omega), decide_eq_true (by omega), decide_eq_true (by omega)]
    simp only [Bool.true_and, Bool.or_eq_true, decide_eq_true_eq]
    omega
   rw [h] at this
   cases this
theorem right_head {z : Lc} (h : rightR z = true) : headD z = true := by
 rw [← rightD_eq] at h
 unfold rightD at h
 rw [Bool.and_eq_true] at h
 exact h.1
theorem right_rec {z : Lc} (h : rightR z = true) : ∀ r ∈ z.rs, recD z r = true := by
 rw [← rightD_eq] at h
 unfold rightD at h
 rw [Bool.and_eq_true, List.all_eq_true] at h
 exact h.2
theorem right_mk {z : Lc} (h1 : headD z = true) (h2 : ∀ r ∈ z.rs, recD z r = true) : rightR z = true := by
 rw [← rightD_eq]
 unfold rightD
 rw [Bool.and_eq_true, List.all_eq_true]
 exact ⟨h1, h2⟩
def LOk (l : List Lc) : Prop := ∀ z ∈ l, z.nm.size ≤ maxLen ∧ (∀ r ∈ z.rs, r.nm.size ≤ maxLen ∧ r.dat.size ≤ maxLen) ∧ z.rs.length ≤ maxLen
set_option maxRecDepth 100000 in
set_option maxHeartbeats 16000000 in
open Classical in
theorem rlocals_in (W : World) (q : Option Addr) (cap : Nat) (l : List Lc) (hat : LcsAt W q l) (hin : LOk l) (hlm : l.length ≤ 9223372036854775806) :
  Calls Tryz.prog 10 #[.slice q l.length cap] W fun e w' => e = .returned (.bool (decide (okL l))) ∧ Below W.heap.size W w' := by
 obtain ⟨N, hN⟩ : ∃ N, W.heap.size = N := ⟨_, rfl⟩
 have HNN := Hid.mk hN
 obtain ⟨n, hn⟩ : ∃ n, l.length = n := ⟨_, rfl⟩
 have HNL := Hid.mk hn
 have HBL : Hid (∀ i, i < n → ∃ b off, q = some ⟨b, off, none⟩ ∧ ∃ (z : Lc) (qr : Option Addr) (cr : Nat), Hid (∃ hi : i < l.length, l[i] = z) ∧ Hid (z.nm.size ≤ maxLen ∧ (∀ r ∈ z.rs, r.nm.size ≤ maxLen ∧ r.dat.size ≤ maxLen) ∧ z.rs.length ≤ maxLen) ∧ Hid (∀ w, Below N W w → (w.cell? ⟨b, off + i * 3, none⟩ = some (.string z.nm) ∧ w.cell? ⟨b, off + i * 3 + 1, none⟩ = some (.int .i64 z.kd) ∧ w.cell? ⟨b, off + i * 3 + 2, none⟩ = some (.slice qr z.rs.length cr)) ∧ RcsAt w qr z.rs)) := by
  intro i hi
  have hi' : i < l.length := by omega
  obtain ⟨b, off, qr, cr, e, hlt, c0, c1, c2, hr⟩ := hat i hi'
  refine ⟨b, off, e, l[i], qr, cr, ⟨hi', rfl⟩, hin _ (List.getElem_mem hi'), fun w hb => ?_⟩
  have hb' : Below W.heap.size W w := by rw [hN]; exact hb
  have key : ∀ k, w.cell? ⟨b, k, none⟩ = W.cell? ⟨b, k, none⟩ := fun k => hb'.cell (p := ⟨b, k, none⟩) hlt
  exact ⟨⟨(key _).trans c0, (key _).trans c1, (key _).trans c2⟩, hr.blk hb'⟩
 obtain ⟨R, hR⟩ : ∃ R, decide (okL l) = R := ⟨_, rfl⟩
 have HNo : Hid (¬ okL l → R = false) := fun h => by rw [← hR]; exact decide_eq_false h
 have HYes : Hid (okL l → R = true) := fun h => by rw [← hR]; exact decide_eq_true h
 rw [hR, hn, hN]
 rw [hn] at hlm
 clear hat hin hN hn hR
 go_enter Tryz.func10, Tryz.ntmps10
 go_wp2
 go_loopw [3] (fun iv wr => ∃ (i : Nat) (u : World), u = wr ∧ i ≤ n ∧ iv = .int .i64 (i : Int) ∧ Hid (okTo l i) ∧ Hid (Below N W u)) (fun iv _ => n - (intOf iv).toNat)
 case atStart => exact ⟨0, _, rfl, Nat.zero_le _, rfl, okTo_zero l, Below.refl _ _⟩
 case round =>
  obtain ⟨i, u, rfl, hi, rfl, HO, HU⟩ := hrel
  have hNu : N ≤ u.heap.size := by rw [← HNN.out]; exact HU.out.size
  by_cases hlt : i < n
  ·have hlz : (i : Int) < (n : Int) := by omega
   have wi : IntKind.i64.wrap ((i : Int) + 1) = ((i + 1 : Nat) : Int) := by rw [IntKind.wrap_i64]; omega
   obtain ⟨b, off, rfl, z, qr, cr, HZi, HZs, HZc⟩ := HBL.out i hlt
   obtain ⟨⟨c0, c1, c2⟩, _⟩ := HZc.out _ HU.out
   obtain ⟨rl, hrl⟩ : ∃ rl, z.rs.length = rl := ⟨_, rfl⟩
   have HRL := Hid.mk hrl
   have hrm : rl ≤ maxLen := by rw [← hrl]; exact HZs.out.2.2
   rw [hrl] at c2
   obtain ⟨U1, hU1⟩ : ∃ U1, u.alloc (.cells #[.string z.nm, .int .i64 z.kd, .slice qr rl cr] 26) = U1 := ⟨_, rfl⟩
   obtain ⟨D1, hD1⟩ : ∃ D1, u.heap.size = D1 := ⟨_, rfl⟩
   have hU1b : Below u.heap.size u U1 := hU1 ▸ (Below.refl _ _).alloc (Nat.le_refl _) _
   have hD1h : U1.heap[D1]? = some (.cells #[.string z.nm, .int .i64 z.kd, .slice qr rl cr] 26 (0, 0)) := by rw [← hU1, ← hD1]; exact heap_new _ _
   have HUB : Hid (Below N W U1) := HU.out.trans (hU1b.mono hNu)
   have hNU : N ≤ U1.heap.size := Nat.le_trans hNu hU1b.size
   have HD1 : Hid (∀ w, Below U1.heap.size U1 w → w.cell? ⟨D1, 0, none⟩ = some (.string z.nm) ∧ w.cell? ⟨D1, 1, none⟩ = some (.int .i64 z.kd) ∧ w.cell? ⟨D1, 2, none⟩ = some (.slice qr rl cr)) := fun w hb => by
    have h2 := (hb.block _ (box_lt hD1h)).trans hD1h
    exact ⟨(cells_at h2 rfl).1, (cells_at h2 rfl).1, (cells_at h2 rfl).1⟩
   have HRI := Hid.mk (rright_in z.nm HZs.out.1)
   have HBad : Hid (rightR z = false → R = false) := fun h => by
    obtain ⟨hi', e⟩ := HZi.out
    exact HNo.out (not_right hi' (by rw [e]; exact h))
   have HU1 := Hid.mk hU1
   have HD1e := Hid.mk hD1
   have d1 := HD1.out _ (Below.refl _ _)
   clear hU1 hD1 hU1b hD1h
   go_upto_region 5 with fail
   rw [HU1.out, HD1e.out]
   clear c0 c1 c2
   go_wp2_with fail
   refine (HRI.out _).mono ?_
   rintro e w1 ⟨rfl, hb1⟩
   have HB1 := Hid.mk hb1
   have HW1 : Hid (Below N W w1) := HUB.out.trans (hb1.mono hNU)
   have d2 := HD1.out _ hb1
   clear hb1 d1
   cases hh : headD z with
   | false =>
    obtain rfl : R = false := HBad.out (by
     cases hr : rightR z with
     | false => rfl
     | true => rw [right_head hr] at hh; cases hh)
    rcases headD_no hh with h1 | ⟨h1, h2⟩
    ·rw [h1]
     clear hh h1
     go_wp2
     go_ret
     exact ⟨rfl, HW1.out⟩
    ·rw [h1]
     rw [hrl] at h2
     clear hh h1 hrl
     by_cases k1 : z.kd < 1
     ·go_wp2
      go_ret
      exact ⟨rfl, HW1.out⟩
     by_cases k2 : 5 < z.kd
     ·go_wp2
      go_ret
      exact ⟨rfl, HW1.out⟩
     by_cases k3 : 200 < (rl : Int)
     ·go_wp2
      go_ret
      exact ⟨rfl, HW1.out⟩
     have k4 : (0 : Int) < (rl : Int) := by omega
     have k5 : z.kd ≤ 2 := by omega
     clear h2
     go_wp2
     go_ret
     exact ⟨rfl, HW1.out⟩
   | true =>
    obtain ⟨g1, g2, g3, g4, g5⟩ := headD_parts hh
    rw [g1]
    rw [hrl] at g4 g5
    have k1 : ¬ z.kd < 1 := by omega
    have k2 : ¬ 5 < z.kd := by omega
    have k3 : ¬ 200 < (rl : Int) := by omega
    have HHD := Hid.mk hh
    have HDk2 : Hid (∀ r ∈ z.rs, recD z r = false → R = false) := fun r hr hb => HBad.out (by
     cases hz : rightR z with
     | false => rfl
     | true => rw [right_rec hz r hr] at hb; cases hb)
    clear HBad hh g1 g2 g3
    by_cases k4 : (0 : Int) < (rl : Int)
    ·have k5 : ¬ z.kd ≤ 2 := by omega
     clear g5
     go_wp2
     clear d2
     go_loopw [6] (fun kv wr => ∃ (k : Nat) (u2 : World), u2 = wr ∧ k ≤ i ∧ kv = .int .i64 (k : Int) ∧ Hid (∀ j (hj : j < l.length), j < k → eqF l[j].nm z.nm = false) ∧ Hid (Below U1.heap.size U1 u2)) (fun kv _ => i - (intOf kv).toNat)
     case atStart => exact ⟨0, _, rfl, Nat.zero_le _, rfl, fun j _ hj => absurd hj (Nat.not_lt_zero _), HB1.out⟩
     case round =>
      obtain ⟨k, u2, rfl, hk, rfl, HJ, HU2⟩ := hrel
      by_cases hki : k < i
      ·have hkz : (k : Int) < (i : Int) := by omega
       have hkz0 : (0 : Int) ≤ (k : Int) := by omega
       have hkn : (k : Int) < (n : Int) := by omega
       have wk : IntKind.i64.wrap ((k : Int) + 1) = ((k + 1 : Nat) : Int) := by rw [IntKind.wrap_i64]; omega
       obtain ⟨b2, off2, e2, y, qy, cy, HYi, HYs, HYc⟩ := HBL.out k (by omega)
       simp only [Option.some.injEq, Addr.mk.injEq] at e2
       obtain ⟨rfl, rfl, _⟩ := e2
       have HXS : Hid (∀ w', Below U1.heap.size U1 w' → (fun w' : World => w'.cell? ⟨b, off + k * 3, none⟩ = some (.string y.nm) ∧ w'.cell? ⟨D1, 0, none⟩ = some (.string z.nm)) w') := fun w' hb => ⟨(HYc.out w' (HUB.out.trans (hb.mono hNU))).1.1, (HD1.out w' hb).1⟩
       have HEQ := Hid.mk (requal_in y.nm z.nm HYs.out.1 HZs.out.1)
       have h0d : Below U1.heap.size U1 u2.drew := HU2.out.drew
       go_upto_region 11 with fail
       refine wp_region_held_drew (S := (fun w' : World => w'.cell? ⟨b, off + k * 3, none⟩ = some (.string y.nm) ∧ w'.cell? ⟨D1, 0, none⟩ = some (.string z.nm))) (by kernel_rfl) (HXS.out _ h0d) (fun hHeld => ?_)
       refine wU (i := 0) (v := ?va_0) rfl ?ya_0 (by assumption) ?_
       case ya_0 => (intro w hSw; (try dsimp only at hSw); go_simp; try with_reducible rfl)
       refine wU (i := 1) (v := ?va_1) rfl ?ya_1 (by assumption) ?_
       case ya_1 => (intro w hSw; (try dsimp only at hSw); go_simp; try with_reducible rfl)
       refine wU (i := 2) (v := ?va_2) rfl ?ya_2 (by assumption) ?_
       case ya_2 => (intro w hSw; (try dsimp only at hSw); go_simp; try with_reducible rfl)
       refine wU (i := 3) (v := ?va_3) rfl ?ya_3 (by assumption) ?_
       case ya_3 => (intro w hSw; (try dsimp only at hSw); go_simp; try with_reducible rfl)
       refine wU (i := 4) (v := ?va_4) rfl ?ya_4 (by assumption) ?_
       case ya_4 => (intro w hSw; (try dsimp only at hSw); go_simp; try with_reducible rfl)
       refine wU (i := 5) (v := ?va_5) rfl ?ya_5 (by assumption) ?_
       case ya_5 => (intro w hSw; (try dsimp only at hSw); go_simp; try with_reducible rfl)
       refine wU (i := 6) (v := ?va_6) rfl ?ya_6 (by assumption) ?_
       case ya_6 => (intro w hSw; (try dsimp only at hSw); go_simp; try with_reducible rfl)
       try simp only [Act.put, List.getElem_toArray, List.getElem_cons_succ, List.getElem_cons_zero, List.setIfInBounds_toArray, List.set_cons_zero, List.set_cons_succ]
       refine wpAnyH_ready (rs := [7]) (by kernel_rfl) (by simp) ?_
       refine AllReadyH.cons rfl (fun K hK => ?_) AllReadyH.nil
       go_simp
       go_at_call 29
       refine (HEQ.out _).mono ?_
       rintro e w3 ⟨rfl, hb3'⟩
       have hb3 : Below U1.heap.size U1 w3 := h0d.trans (hb3'.mono h0d.size)
       refine hK.out _ _ (HXS.out _ hb3) (fun hHeld => ?_)
       clear hK K
       try simp only [Act.put, List.getElem_toArray, List.getElem_cons_succ, List.getElem_cons_zero, List.setIfInBounds_toArray, List.set_cons_zero, List.set_cons_succ]
       refine wU (i := 8) (v := ?vaz_8) rfl ?yaz_8 (by assumption) ?_
       case yaz_8 => (intro w hSw; (try dsimp only at hSw); go_simp; try with_reducible rfl)
       try simp only [Act.put, List.getElem_toArray, List.getElem_cons_succ, List.getElem_cons_zero, List.setIfInBounds_toArray, List.set_cons_zero, List.set_cons_succ]
       refine wpAnyH_done (by kernel_rfl) ?_ _
       clear hHeld
       cases hq : eqF y.nm z.nm with
       | true =>
        obtain rfl : R = false := by
         obtain ⟨hi1, e1⟩ := HZi.out
         obtain ⟨hi2, e2⟩ := HYi.out
         exact HNo.out (not_twice hi2 hi1 hki (by rw [e1, e2]; exact hq))
        have HF : Hid (Below N W w3) := HUB.out.trans (hb3.mono hNU)
        clear hq
        go_wp2
        go_ret
        exact ⟨rfl, HF.out⟩
       | false =>
        have HJ2 : Hid (∀ j (hj : j < l.length), j < k + 1 → eqF l[j].nm z.nm = false) := fun j hj hji => by
         rcases Nat.lt_succ_iff_lt_or_eq.1 hji with h1 | rfl
         ·exact HJ.out j hj h1
         ·obtain ⟨hi2, e2⟩ := HYi.out
          rw [e2]; exact hq
        have HB3 := Hid.mk hb3
        clear hq
        go_wp2
        go_roundw
        case rel => exact ⟨k + 1, _, rfl, by omega, by first | rfl | go_num, HJ2, HB3⟩
        case measure => simp [intOf]; omega
      ·have hkz : ¬ (k : Int) < (i : Int) := by omega
       have d3 := HD1.out _ HU2.out
       have HW2 : Hid (Below N W u2) := HUB.out.trans (HU2.out.mono hNU)
       have hN2 : N ≤ u2.heap.size := Nat.le_trans hNU HU2.out.size
       have HSets : Hid (Calls Tryz.prog 30 #[.slice qr rl cr] u2 fun e w' => ∃ v ps, e = .returned v ∧ Dk u2.heap.size u2 v ps w' ∧ PsOk z.rs ps rl) := by
        have := rsets_in u2 qr cr z.rs (HZc.out _ HW2.out).2 HZs.out.2.1 (by rw [HRL.out]; omega)
        rw [HRL.out] at this
        exact this
       have HTw : Hid (∀ j (hj : j < l.length), j < i → eqF l[j].nm z.nm = false) := fun j hj hji => HJ.out j hj (by omega)
       clear HJ
       go_wp2_with fail
       refine HSets.out.mono ?_
       rintro e w4 ⟨v1, ps, rfl, hdk, hpo⟩
       have HDK := Hid.mk hdk
       have HPO := Hid.mk hpo
       have hb4 : Below u2.heap.size u2 w4 := hdk.bel
       have HU4 : Hid (Below U1.heap.size U1 w4) := HU2.out.trans (hb4.mono HU2.out.size)
       have HSGs : Hid (∀ p ∈ ps, SG p.1 ∧ p.1.ds.length ≤ 1000) := fun p hp => by
        have hm : p.1 ∈ setsR z.rs := by rw [← hpo.fst]; exact List.mem_map.2 ⟨p, hp, rfl⟩
        refine ⟨setsR_sg _ _ hm, ?_⟩
        have := (setsR_few z.rs).2.1 _ hm
        have h2 := HRL.out
        omega
       clear hdk hpo hb4 d3 HSets
       have d4 := HD1.out _ HU4.out
       go_wp2
       clear d4
       go_loopw [9] (fun mv wr => ∃ (m : Nat) (u3 : World), u3 = wr ∧ m ≤ rl ∧ mv = .int .i64 (m : Int) ∧ Hid (∀ j (hj : j < z.rs.length), j < m → recD z z.rs[j] = true) ∧ Hid (Below w4.heap.size w4 u3)) (fun mv _ => rl - (intOf mv).toNat)
       case atStart => exact ⟨0, _, rfl, Nat.zero_le _, rfl, fun j _ hj => absurd hj (Nat.not_lt_zero _), Below.refl _ _⟩
       case round =>
        obtain ⟨m, u3, rfl, hm, rfl, HM, HU3⟩ := hrel
        have HUU : Hid (Below U1.heap.size U1 u3) := HU4.out.trans (HU3.out.mono HU4.out.size)
        have d5 := HD1.out _ HUU.out
        have HW3 : Hid (Below N W u3) := HUB.out.trans (HUU.out.mono hNU)
        by_cases hml : m < rl
        ·have hmz : (m : Int) < (rl : Int) := by omega
         have hmz0 : (0 : Int) ≤ (m : Int) := by omega
         have wm : IntKind.i64.wrap ((m : Int) + 1) = ((m + 1 : Nat) : Int) := by rw [IntKind.wrap_i64]; omega
         have hm' : m < z.rs.length := by rw [HRL.out]; exact hml
         obtain ⟨br, or, rfl, hblt, c0, c1, c2, c3, c4⟩ := (HZc.out _ HW3.out).2 m hm'
         obtain ⟨x, hx⟩ : ∃ x, z.rs[m] = x := ⟨_, rfl⟩
         have HMX : Hid (x ∈ z.rs) := hx ▸ List.getElem_mem hm'
         have HXe := Hid.mk hx
         rw [hx] at c0 c1 c2 c3 c4
         obtain ⟨s1, s2⟩ := HZs.out.2.1 x HMX.out
         obtain ⟨U5, hU5⟩ : ∃ U5, u3.alloc (.cells #[.string x.nm, .int .i64 x.ty, .int .i64 x.cl, .int .i64 x.tl, .string x.dat] 33) = U5 := ⟨_, rfl⟩
         have X5 : Bx u3 u3.heap.size (rcL x) 33 U5 := hU5 ▸ Bx.new u3 _ _
         obtain ⟨D3, hD3⟩ : ∃ D3, u3.heap.size = D3 := ⟨_, rfl⟩
         rw [hD3] at X5
         have hb5 : Below u3.heap.size u3 U5 := by rw [hD3]; exact (X5.bel.mono (by rw [hD3]; exact Nat.le_refl _))
         have HX5 : Hid (∀ w, Below U5.heap.size U5 w → w.cell? ⟨D3, 0, none⟩ = some (.string x.nm) ∧ w.cell? ⟨D3, 1, none⟩ = some (.int .i64 x.ty) ∧ w.cell? ⟨D3, 2, none⟩ = some (.int .i64 x.cl) ∧ w.cell? ⟨D3, 3, none⟩ = some (.int .i64 x.tl) ∧ w.cell? ⟨D3, 4, none⟩ = some (.string x.dat)) := fun w hb => (X5.blk hb).cells5
         have HU5 := Hid.mk hU5
         have HD3 := Hid.mk hD3
         have HB5 : Hid (Below w4.heap.size w4 U5) := HU3.out.trans (hb5.mono HU3.out.size)
         have HUN := Hid.mk (runder_in x.nm z.nm s1 HZs.out.1)
         have HOW := Hid.mk (requal_in x.nm z.nm s1 HZs.out.1)
         have HLO : Hid (∀ w, Below w4.heap.size w4 w → Calls Tryz.prog 32 #[v1, .agg #[.string x.nm, .int .i64 x.ty, .int .i64 x.cl, .int .i64 x.tl, .string x.dat]] w fun e w' => e = .returned (.bool (lostD (setsR z.rs) x)) ∧ Below w.heap.size w w') := fun w hb => by
          obtain ⟨els, hr⟩ := HDK.out.rs
          have := rlost_in (hr.blk hb) HSGs.out x s1 s2
          rwa [HPO.out.fst] at this
         have HGo : Hid (recD z x = true → ∀ j (hj : j < z.rs.length), j < m + 1 → recD z z.rs[j] = true) := fun hg j hj hji => by
          rcases Nat.lt_succ_iff_lt_or_eq.1 hji with h1 | rfl
          ·exact HM.out j hj h1
          ·rw [HXe.out]; exact hg
         have HNoR : Hid (recD z x = false → R = false) := fun hb => HDk2.out x HMX.out hb
         have HRD : Hid (recD z x = (x.cl == 1 && undF x.nm z.nm && !(lostD (setsR z.rs) x) && x.ty != 5 && x.ty != 39 && x.ty != 46 && x.ty != 41 && (z.kd != 5 || eqF x.nm z.nm))) := rfl
         clear hU5 hD3 X5 hb5 hx
         go_upto_region 19 with fail
         rw [HU5.out, HD3.out]
         have x5 := HX5.out _ (Below.refl _ _)
         have d6 := HD1.out _ (HU4.out.trans (HB5.out.mono HU4.out.size))
         clear c0 c1 c2 c3 c4 d5
         go_wp2_with fail
         refine (HUN.out _).mono ?_
         rintro e w5 ⟨rfl, hb5⟩
         have hb5' : Below U5.heap.size U5 w5 := hb5
         have HB6 : Hid (Below w4.heap.size w4 w5) := HB5.out.trans (hb5.mono HB5.out.size)
         have x6 := HX5.out _ hb5'
         have d7 := HD1.out _ (HU4.out.trans (HB6.out.mono HU4.out.size))
         clear hb5 x5 d6
         go_wp2_with fail
         refine (HOW.out _).mono ?_
         rintro e w6 ⟨rfl, hb6⟩
         have hb6' : Below U5.heap.size U5 w6 := hb5'.trans (hb6.mono hb5'.size)
         have HB7 : Hid (Below w4.heap.size w4 w6) := HB6.out.trans (hb6.mono HB6.out.size)
         have x7 := HX5.out _ hb6'
         have d8 := HD1.out _ (HU4.out.trans (HB7.out.mono HU4.out.size))
         clear hb6 x6 d7
         go_wp2_with fail
         refine (HLO.out _ HB7.out).mono ?_
         rintro e w7 ⟨rfl, hb7⟩
         have hb7' : Below U5.heap.size U5 w7 := hb6'.trans (hb7.mono hb6'.size)
         have HB8 : Hid (Below w4.heap.size w4 w7) := HB7.out.trans (hb7.mono HB7.out.size)
         have x8 := HX5.out _ hb7'
         have d9 := HD1.out _ (HU4.out.trans (HB8.out.mono HU4.out.size))
         have HF : Hid (Below N W w7) := HUB.out.trans ((HU4.out.trans (HB8.out.mono HU4.out.size)).mono hNU)
         clear hb7 x7 d8 hb5' hb6' hb7' HUN HOW HLO
         generalize undF x.nm z.nm = un at HRD ⊢
         generalize eqF x.nm z.nm = ow at HRD ⊢
         generalize lostD (setsR z.rs) x = go at HRD ⊢
         by_cases e1 : x.cl = 1
         case neg =>
          have b1 : (x.cl != 1) = true := by rw [bne_iff_ne]; exact e1
          have b1' : (x.cl == 1) = false := by rw [beq_eq_false_iff_ne]; exact e1
          obtain rfl : R = false := HNoR.out (by rw [HRD.out]; simp [b1'])
          go_wp2
          go_ret
          exact ⟨rfl, HF.out⟩
         have b1 : (x.cl != 1) = false := by rw [e1]; rfl
         have b1' : (x.cl == 1) = true := by rw [e1]; rfl
         cases un with
         | false =>
          obtain rfl : R = false := HNoR.out (by rw [HRD.out]; simp)
          go_wp2
          go_ret
          exact ⟨rfl, HF.out⟩
         | true =>
          cases go with
          | true =>
           obtain rfl : R = false := HNoR.out (by rw [HRD.out]; simp)
           go_wp2
           go_ret
           exact ⟨rfl, HF.out⟩
          | false =>
           by_cases e5 : x.ty = 5
           case pos =>
            have c5 : (x.ty == 5) = true := by rw [e5]; rfl
            have c5' : (x.ty != 5) = false := by rw [e5]; rfl
            obtain rfl : R = false := HNoR.out (by rw [HRD.out]; simp [c5'])
            go_wp2
            go_ret
            exact ⟨rfl, HF.out⟩
           have c5 : (x.ty == 5) = false := by rw [beq_eq_false_iff_ne]; exact e5
           have c5' : (x.ty != 5) = true := by rw [bne_iff_ne]; exact e5
           by_cases e39 : x.ty = 39
           case pos =>
            have c39 : (x.ty == 39) = true := by rw [e39]; rfl
            have c39' : (x.ty != 39) = false := by rw [e39]; rfl
            obtain rfl : R = false := HNoR.out (by rw [HRD.out]; simp [c39'])
            go_wp2
            go_ret
            exact ⟨rfl, HF.out⟩
           have c39 : (x.ty == 39) = false := by rw [beq_eq_false_iff_ne]; exact e39
           have c39' : (x.ty != 39) = true := by rw [bne_iff_ne]; exact e39
           by_cases e46 : x.ty = 46
           case pos =>
            have c46 : (x.ty == 46) = true := by rw [e46]; rfl
            have c46' : (x.ty != 46) = false := by rw [e46]; rfl
            obtain rfl : R = false := HNoR.out (by rw [HRD.out]; simp [c46'])
            go_wp2
            go_ret
            exact ⟨rfl, HF.out⟩
           have c46 : (x.ty == 46) = false := by rw [beq_eq_false_iff_ne]; exact e46
           have c46' : (x.ty != 46) = true := by rw [bne_iff_ne]; exact e46
           by_cases e41 : x.ty = 41
           case pos =>
            have c41 : (x.ty == 41) = true := by rw [e41]; rfl
            have c41' : (x.ty != 41) = false := by rw [e41]; rfl
            obtain rfl : R = false := HNoR.out (by rw [HRD.out]; simp [c41'])
            go_wp2
            go_ret
            exact ⟨rfl, HF.out⟩
           have c41 : (x.ty == 41) = false := by rw [beq_eq_false_iff_ne]; exact e41
           have c41' : (x.ty != 41) = true := by rw [bne_iff_ne]; exact e41
           by_cases e9 : z.kd = 5
           ·have c9 : (z.kd == 5) = true := by rw [e9]; rfl
            have c9' : (z.kd != 5) = false := by rw [e9]; rfl
            clear e9
            cases ow with
            | false =>
             obtain rfl : R = false := HNoR.out (by rw [HRD.out]; simp [c9'])
             go_wp2
             go_ret
             exact ⟨rfl, HF.out⟩
            | true =>
             have HGo2 := Hid.mk (HGo.out (by rw [HRD.out]; simp [b1', c5', c39', c46', c41']))
             go_wp2
             go_roundw
             case rel => exact ⟨m + 1, _, rfl, by omega, by first | rfl | go_num, HGo2, HB8⟩
             case measure => simp [intOf]; omega
           ·have c9 : (z.kd == 5) = false := by rw [beq_eq_false_iff_ne]; exact e9
            have c9' : (z.kd != 5) = true := by rw [bne_iff_ne]; exact e9
            have HGo2 := Hid.mk (HGo.out (by rw [HRD.out]; simp [b1', c9', c5', c39', c46', c41']))
            go_wp2
            go_roundw
            case rel => exact ⟨m + 1, _, rfl, by omega, by first | rfl | go_num, HGo2, HB8⟩
            case measure => simp [intOf]; omega
        ·have hmz : ¬ (m : Int) < (rl : Int) := by omega
         have HOk : Hid (okTo l (i + 1)) := by
          obtain ⟨hi1, e1⟩ := HZi.out
          refine okTo_succ HO.out hi1 ?_ (fun j hj hji => by rw [e1]; exact HTw.out j hj hji)
          rw [e1]
          refine right_mk HHD.out (fun r hr => ?_)
          obtain ⟨j, hj, rfl⟩ := List.getElem_of_mem hr
          have h2 := HRL.out
          exact HM.out j hj (by omega)
         go_wp2
         go_roundw
         case rel => exact ⟨i + 1, _, rfl, by omega, by first | rfl | go_num, HOk, HW3⟩
         case measure => simp [intOf]; omega
    ·clear g5
     go_wp2
     have K4 := Hid.mk k4
     clear d2 k4
     go_loopw [6] (fun kv wr => ∃ (k : Nat) (u2 : World), u2 = wr ∧ k ≤ i ∧ kv = .int .i64 (k : Int) ∧ Hid (∀ j (hj : j < l.length), j < k → eqF l[j].nm z.nm = false) ∧ Hid (Below U1.heap.size U1 u2)) (fun kv _ => i - (intOf kv).toNat)
     case atStart => exact ⟨0, _, rfl, Nat.zero_le _, rfl, fun j _ hj => absurd hj (Nat.not_lt_zero _), HB1.out⟩
     case round =>
      obtain ⟨k, u2, rfl, hk, rfl, HJ, HU2⟩ := hrel
      by_cases hki : k < i
      ·have hkz : (k : Int) < (i : Int) := by omega
       have hkz0 : (0 : Int) ≤ (k : Int) := by omega
       have hkn : (k : Int) < (n : Int) := by omega
       have wk : IntKind.i64.wrap ((k : Int) + 1) = ((k + 1 : Nat) : Int) := by rw [IntKind.wrap_i64]; omega
       obtain ⟨b2, off2, e2, y, qy, cy, HYi, HYs, HYc⟩ := HBL.out k (by omega)
       simp only [Option.some.injEq, Addr.mk.injEq] at e2
       obtain ⟨rfl, rfl, _⟩ := e2
       have HXS : Hid (∀ w', Below U1.heap.size U1 w' → (fun w' : World => w'.cell? ⟨b, off + k * 3, none⟩ = some (.string y.nm) ∧ w'.cell? ⟨D1, 0, none⟩ = some (.string z.nm)) w') := fun w' hb => ⟨(HYc.out w' (HUB.out.trans (hb.mono hNU))).1.1, (HD1.out w' hb).1⟩
       have HEQ := Hid.mk (requal_in y.nm z.nm HYs.out.1 HZs.out.1)
       have h0d : Below U1.heap.size U1 u2.drew := HU2.out.drew
       go_upto_region 11 with fail
       refine wp_region_held_drew (S := (fun w' : World => w'.cell? ⟨b, off + k * 3, none⟩ = some (.string y.nm) ∧ w'.cell? ⟨D1, 0, none⟩ = some (.string z.nm))) (by kernel_rfl) (HXS.out _ h0d) (fun hHeld => ?_)
       refine wU (i := 0) (v := ?vb_0) rfl ?yb_0 (by assumption) ?_
       case yb_0 => (intro w hSw; (try dsimp only at hSw); go_simp; try with_reducible rfl)
       refine wU (i := 1) (v := ?vb_1) rfl ?yb_1 (by assumption) ?_
       case yb_1 => (intro w hSw; (try dsimp only at hSw); go_simp; try with_reducible rfl)
       refine wU (i := 2) (v := ?vb_2) rfl ?yb_2 (by assumption) ?_
       case yb_2 => (intro w hSw; (try dsimp only at hSw); go_simp; try with_reducible rfl)
       refine wU (i := 3) (v := ?vb_3) rfl ?yb_3 (by assumption) ?_
       case yb_3 => (intro w hSw; (try dsimp only at hSw); go_simp; try with_reducible rfl)
       refine wU (i := 4) (v := ?vb_4) rfl ?yb_4 (by assumption) ?_
       case yb_4 => (intro w hSw; (try dsimp only at hSw); go_simp; try with_reducible rfl)
       refine wU (i := 5) (v := ?vb_5) rfl ?yb_5 (by assumption) ?_
       case yb_5 => (intro w hSw; (try dsimp only at hSw); go_simp; try with_reducible rfl)
       refine wU (i := 6) (v := ?vb_6) rfl ?yb_6 (by assumption) ?_
       case yb_6 => (intro w hSw; (try dsimp only at hSw); go_simp; try with_reducible rfl)
       try simp only [Act.put, List.getElem_toArray, List.getElem_cons_succ, List.getElem_cons_zero, List.setIfInBounds_toArray, List.set_cons_zero, List.set_cons_succ]
       refine wpAnyH_ready (rs := [7]) (by kernel_rfl) (by simp) ?_
       refine AllReadyH.cons rfl (fun K hK => ?_) AllReadyH.nil
       go_simp
       go_at_call 29
       refine (HEQ.out _).mono ?_
       rintro e w3 ⟨rfl, hb3'⟩
       have hb3 : Below U1.heap.size U1 w3 := h0d.trans (hb3'.mono h0d.size)
       refine hK.out _ _ (HXS.out _ hb3) (fun hHeld => ?_)
       clear hK K
       try simp only [Act.put, List.getElem_toArray, List.getElem_cons_succ, List.getElem_cons_zero, List.setIfInBounds_toArray, List.set_cons_zero, List.set_cons_succ]
       refine wU (i := 8) (v := ?vbz_8) rfl ?ybz_8 (by assumption) ?_
       case ybz_8 => (intro w hSw; (try dsimp only at hSw); go_simp; try with_reducible rfl)
       try simp only [Act.put, List.getElem_toArray, List.getElem_cons_succ, List.getElem_cons_zero, List.setIfInBounds_toArray, List.set_cons_zero, List.set_cons_succ]
       refine wpAnyH_done (by kernel_rfl) ?_ _
       clear hHeld
       cases hq : eqF y.nm z.nm with
       | true =>
        obtain rfl : R = false := by
         obtain ⟨hi1, e1⟩ := HZi.out
         obtain ⟨hi2, e2⟩ := HYi.out
         exact HNo.out (not_twice hi2 hi1 hki (by rw [e1, e2]; exact hq))
        have HF : Hid (Below N W w3) := HUB.out.trans (hb3.mono hNU)
        clear hq
        go_wp2
        go_ret
        exact ⟨rfl, HF.out⟩
       | false =>
        have HJ2 : Hid (∀ j (hj : j < l.length), j < k + 1 → eqF l[j].nm z.nm = false) := fun j hj hji => by
         rcases Nat.lt_succ_iff_lt_or_eq.1 hji with h1 | rfl
         ·exact HJ.out j hj h1
         ·obtain ⟨hi2, e2⟩ := HYi.out
          rw [e2]; exact hq
        have HB3 := Hid.mk hb3
        clear hq
        go_wp2
        go_roundw
        case rel => exact ⟨k + 1, _, rfl, by omega, by first | rfl | go_num, HJ2, HB3⟩
        case measure => simp [intOf]; omega
      ·have hkz : ¬ (k : Int) < (i : Int) := by omega
       have d3 := HD1.out _ HU2.out
       have HW2 : Hid (Below N W u2) := HUB.out.trans (HU2.out.mono hNU)
       have hN2 : N ≤ u2.heap.size := Nat.le_trans hNU HU2.out.size
       have HSets : Hid (Calls Tryz.prog 30 #[.slice qr rl cr] u2 fun e w' => ∃ v ps, e = .returned v ∧ Dk u2.heap.size u2 v ps w' ∧ PsOk z.rs ps rl) := by
        have := rsets_in u2 qr cr z.rs (HZc.out _ HW2.out).2 HZs.out.2.1 (by rw [HRL.out]; omega)
        rw [HRL.out] at this
        exact this
       have HTw : Hid (∀ j (hj : j < l.length), j < i → eqF l[j].nm z.nm = false) := fun j hj hji => HJ.out j hj (by omega)
       clear HJ
       go_wp2_with fail
       refine HSets.out.mono ?_
       rintro e w4 ⟨v1, ps, rfl, hdk, hpo⟩
       have HDK := Hid.mk hdk
       have HPO := Hid.mk hpo
       have hb4 : Below u2.heap.size u2 w4 := hdk.bel
       have HU4 : Hid (Below U1.heap.size U1 w4) := HU2.out.trans (hb4.mono HU2.out.size)
       have HSGs : Hid (∀ p ∈ ps, SG p.1 ∧ p.1.ds.length ≤ 1000) := fun p hp => by
        have hm : p.1 ∈ setsR z.rs := by rw [← hpo.fst]; exact List.mem_map.2 ⟨p, hp, rfl⟩
        refine ⟨setsR_sg _ _ hm, ?_⟩
        have := (setsR_few z.rs).2.1 _ hm
        have h2 := HRL.out
        omega
       clear hdk hpo hb4 d3 HSets
       have d4 := HD1.out _ HU4.out
       go_wp2
       clear d4
       go_loopw [9] (fun mv wr => ∃ (m : Nat) (u3 : World), u3 = wr ∧ m ≤ rl ∧ mv = .int .i64 (m : Int) ∧ Hid (∀ j (hj : j < z.rs.length), j < m → recD z z.rs[j] = true) ∧ Hid (Below w4.heap.size w4 u3)) (fun mv _ => rl - (intOf mv).toNat)
       case atStart => exact ⟨0, _, rfl, Nat.zero_le _, rfl, fun j _ hj => absurd hj (Nat.not_lt_zero _), Below.refl _ _⟩
       case round =>
        obtain ⟨m, u3, rfl, hm, rfl, HM, HU3⟩ := hrel
        have HUU : Hid (Below U1.heap.size U1 u3) := HU4.out.trans (HU3.out.mono HU4.out.size)
        have d5 := HD1.out _ HUU.out
        have HW3 : Hid (Below N W u3) := HUB.out.trans (HUU.out.mono hNU)
        by_cases hml : m < rl
        ·exfalso
         have := K4.out
         omega
        ·have hmz : ¬ (m : Int) < (rl : Int) := by omega
         have HOk : Hid (okTo l (i + 1)) := by
          obtain ⟨hi1, e1⟩ := HZi.out
          refine okTo_succ HO.out hi1 ?_ (fun j hj hji => by rw [e1]; exact HTw.out j hj hji)
          rw [e1]
          refine right_mk HHD.out (fun r hr => ?_)
          obtain ⟨j, hj, rfl⟩ := List.getElem_of_mem hr
          have h2 := HRL.out
          exact HM.out j hj (by omega)
         go_wp2
         go_roundw
         case rel => exact ⟨i + 1, _, rfl, by omega, by first | rfl | go_num, HOk, HW3⟩
         case measure => simp [intOf]; omega
  ·have hlz : ¬ (i : Int) < (n : Int) := by omega
   obtain rfl := HYes.out (okTo_all (by have := HNL.out; have h2 := HO.out; rw [this]; rw [show i = n by omega] at h2; exact h2))
   go_wp2
   go_ret
   exact ⟨rfl, HU.out⟩
end Go.Proofs.YtdlcldjlfhmlgaaGreatDoor
