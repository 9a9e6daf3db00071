/- Texts of this proof, joined: LeK. -/
import Derived.Deep.RegionHeld3
import Derived.Test.YtdlcldjlfhmlgaaGreatDoorJ31
import Derived.Test.YtdlcldjlfhmlgaaGreatDoorJ12
import Derived.Test.YtdlcldjlfhmlgaaGreatDoorJ32
set_option linter.unusedVariables false
set_option linter.unusedSimpArgs false
/- The document's Sets (guidepostref08): its first loop, of any records; the second where no signature is. -/
namespace Go.Proofs.YtdlcldjlfhmlgaaGreatDoor
open Go.RowKit
open So (El elC SRow)
theorem Kst.cell {A w : World} (h : Kst A w) {b i : Nat} {c : Array Value} {t : TypeId} {f : Nat × Nat} {x : Value} (hb : A.heap[b]? = some (.cells c t f)) (h1 : t ≠ 44) (h2 : t ≠ 137) (h3 : t ≠ 9) (hx : c[i]? = some x) : w.cell? ⟨b, i, none⟩ = some x := by rw [So.cell_blk (h b c t f hb h1 h2 h3), hx]
structure PsOk (l : List Rc) (ps : List Sg) (i : Nat) : Prop where
 fst : ps.map Prod.fst = setsR l
 few : ∀ p ∈ ps, p.2.length ≤ i
 no : (∀ r ∈ l, r.ty ≠ 46) → ∀ p ∈ ps, p.2 = []
theorem PsOk.first (l : List Rc) : PsOk l (pz (setsR l)) 0 := ⟨pz_fst _, fun p hp => by unfold pz at hp; obtain ⟨s, _, rfl⟩ := List.mem_map.1 hp; exact Nat.le_refl _, fun _ p hp => by unfold pz at hp; obtain ⟨s, _, rfl⟩ := List.mem_map.1 hp; rfl⟩
theorem PsOk.up {l : List Rc} {ps : List Sg} {i : Nat} (h : PsOk l ps i) : PsOk l ps (i + 1) := ⟨h.fst, fun p hp => Nat.le_succ_of_le (h.few p hp), h.no⟩
theorem PsOk.more {l : List Rc} {ps : List Sg} {i k : Nat} (h : PsOk l ps i) (hkl : k < ps.length) {r : Rc} (hr : r ∈ l) (h46 : r.ty = 46) (hs : (ps[k].tx true).length ≤ i) : PsOk l (ps.set k (ps[k].put true (ps[k].tx true ++ [r.dat]))) (i + 1) where
 fst := by
  rw [List.map_set]
  show (ps.map Prod.fst).set k ps[k].1 = _
  rw [h.fst]
  have e1 : (setsR l)[k]? = some ps[k].1 := by
   rw [← h.fst, List.getElem?_map, List.getElem?_eq_getElem hkl]; rfl
  obtain ⟨h5, h6⟩ := List.getElem?_eq_some_iff.1 e1
  rw [← h6, List.set_getElem_self]
 few := fun p hp => by
  rcases List.mem_or_eq_of_mem_set hp with hp | rfl
  ·exact Nat.le_succ_of_le (h.few p hp)
  ·show (ps[k].tx true ++ [r.dat]).length ≤ i + 1
   rw [List.length_append]
   simp only [List.length_singleton]
   omega
 no := fun hn => absurd h46 (hn r hr)
structure Dk (N : Nat) (W : World) (v : Value) (ps : List Sg) (w : World) : Prop where
 rs : ∃ els, RS N w v els ps
 bel : Below N W w
theorem Dk.blk {N : Nat} {W w w' : World} {v : Value} {ps : List Sg} (h : Dk N W v ps w) (hN : N ≤ w.heap.size) (hb : Below w.heap.size w w') : Dk N W v ps w' := by
 obtain ⟨els, h1⟩ := h.rs
 exact ⟨⟨els, h1.blk hb⟩, h.bel.trans (hb.mono hN)⟩
theorem Dk.at {N : Nat} {W w : World} {v : Value} {ps : List Sg} (h : Dk N W v ps w) (k : Nat) (hk : k < ps.length) : ∃ g cap els, v = .slice (some ⟨g, 0, none⟩) els.length cap ∧ els.length = ps.length ∧ RS N w (.slice (some ⟨g, 0, none⟩) els.length cap) els ps ∧ k < els.length := by
 obtain ⟨els, h1⟩ := h.rs
 have hl := h1.len
 obtain ⟨g, cap, e, _, _⟩ := srow_form h1.row (by omega)
 exact ⟨g, cap, els, e, hl, e ▸ h1, by omega⟩
set_option maxRecDepth 100000 in
set_option maxHeartbeats 16000000 in
theorem rsets_in (W : World) (q : Option Addr) (cap : Nat) (l : List Rc) (hat : RcsAt W q l) (hok : ∀ r ∈ l, r.nm.size ≤ maxLen ∧ r.dat.size ≤ maxLen) (hl : l.length ≤ 200) :
  Calls Tryz.prog 30 #[.slice q l.length cap] W fun e w' => ∃ v ps, e = .returned v ∧ Dk W.heap.size W v ps w' ∧ PsOk l ps l.length := by
 have HOK := Hid.mk hok
 obtain ⟨N, hN⟩ : ∃ N, W.heap.size = N := ⟨_, rfl⟩
 have HNN := Hid.mk hN
 obtain ⟨n, hn⟩ : ∃ n, l.length = n := ⟨_, rfl⟩
 have HNL := Hid.mk hn
 have HBL : Hid (∀ w i, i < n → Below N W w → ∃ b off, q = some ⟨b, off, none⟩ ∧ ∃ r : Rc, Hid (l[i]? = some r) ∧ w.cell? ⟨b, off + i * 5, none⟩ = some (.string r.nm) ∧ w.cell? ⟨b, off + i * 5 + 1, none⟩ = some (.int .i64 r.ty) ∧ w.cell? ⟨b, off + i * 5 + 2, none⟩ = some (.int .i64 r.cl) ∧ w.cell? ⟨b, off + i * 5 + 3, none⟩ = some (.int .i64 r.tl) ∧ w.cell? ⟨b, off + i * 5 + 4, none⟩ = some (.string r.dat)) := by
  intro w i hi hb
  have h0 : 0 < l.length := by omega
  obtain ⟨b, off, e, _, c⟩ := hat.below hb (by rw [← hN]; exact hat.lt h0) i (by omega)
  exact ⟨b, off, e, l[i]'(by omega), List.getElem?_eq_getElem _, c⟩
 have HF : Hid (∀ i, i ≤ n → (setsR (l.take i)).length ≤ i ∧ (∀ s ∈ setsR (l.take i), s.ds.length ≤ i ∧ SG s) ∧ Apart (setsR (l.take i))) := by
  intro i hi
  obtain ⟨a, b, c⟩ := setsR_few (l.take i)
  have hlen : (l.take i).length = i := by rw [List.length_take]; omega
  rw [hlen] at a b
  exact ⟨a, fun s hs => ⟨b s hs, setsR_sg _ s hs⟩, c⟩
 rw [hn] at hl ⊢
 rw [hN]
 clear hat hok hN hn
 go_enter Tryz.func30, Tryz.ntmps30
 go_wp2
 go_loopw [3, 4] (fun vv iv wr => ∃ (i : Nat) (v : Value), v = vv ∧ i ≤ n ∧ iv = .int .i64 (i : Int) ∧ Hid (Dk N W v (pz (setsR (l.take i))) wr)) (fun _ iv _ => n - (intOf iv).toNat)
 case atStart => exact ⟨0, nilS, rfl, Nat.zero_le _, rfl, ⟨[], by rw [List.take_zero]; exact RS.nil _ _⟩, Below.refl _ _⟩
 case round =>
  obtain ⟨i, v, rfl, hi, rfl, HM⟩ := hrel
  by_cases hlt : i < n
  ·have hlz : (i : Int) < (n : Int) := by omega
   obtain ⟨b, off, rfl, r, hri, c0, c1, c2, c3, c4⟩ := HBL.out wr i hlt HM.out.bel
   have hst : Hid (setsR (l.take (i + 1)) = stepR (setsR (l.take i)) r) := by
    obtain ⟨h1, h2⟩ := List.getElem?_eq_some_iff.1 hri.out
    show _ = _
    rw [List.take_succ_eq_append_getElem h1, setsR_snoc, h2]
   obtain ⟨o1, o2⟩ := HOK.out r (List.mem_of_getElem? hri.out)
   obtain ⟨f1, f2, f3⟩ := HF.out i hi
   have HRR := Hid.mk (rrec_in r o1 o2)
   have hNr : N ≤ wr.heap.size := by rw [← HNN.out]; exact HM.out.bel.size
   obtain ⟨V, hV⟩ : ∃ V, wr.alloc (.cells #[.string r.nm, .int .i64 r.ty, .int .i64 r.cl, .int .i64 r.tl, .string r.dat] 33) = V := ⟨_, rfl⟩
   have X0 : Bx wr wr.heap.size (rcL r) 33 V := hV ▸ Bx.new wr _ _
   have HV := Hid.mk hV
   have MV := Hid.mk (HM.out.blk hNr X0.bel)
   obtain ⟨ss, hss⟩ : ∃ ss, setsR (l.take i) = ss := ⟨_, rfl⟩
   rw [hss] at MV hst f1 f2 f3
   obtain ⟨B, hB⟩ : ∃ B, wr.heap.size = B := ⟨_, rfl⟩
   have HB := Hid.mk hB
   rw [hB] at X0
   have HX : Hid (∀ w', Kst V w' → (fun w' : World => Kst V w' ∧ w'.cell? ⟨B, 0, none⟩ = some (.string r.nm) ∧ w'.cell? ⟨B, 1, none⟩ = some (.int .i64 r.ty) ∧ w'.cell? ⟨B, 2, none⟩ = some (.int .i64 r.cl) ∧ w'.cell? ⟨B, 3, none⟩ = some (.int .i64 r.tl) ∧ w'.cell? ⟨B, 4, none⟩ = some (.string r.dat)) w') := fun w' k => ⟨k, k.cell X0.hb (by decide) (by decide) (by decide) rfl, k.cell X0.hb (by decide) (by decide) (by decide) rfl, k.cell X0.hb (by decide) (by decide) (by decide) rfl, k.cell X0.hb (by decide) (by decide) (by decide) rfl, k.cell X0.hb (by decide) (by decide) (by decide) rfl⟩
   have hNV : N ≤ V.heap.size := by rw [← HNN.out]; exact MV.out.bel.size
   have wi : IntKind.i64.wrap ((i : Int) + 1) = ((i + 1 : Nat) : Int) := by rw [IntKind.wrap_i64]; omega
   clear hV hB X0 hss HM
   go_upto_region 6 with fail
   rw [HV.out, HB.out]
   have x0 := HX.out V (Kst.refl _)
   clear c0 c1 c2 c3 c4
   go_wp2_with fail
   refine (HRR.out _).mono ?_
   rintro e w1 ⟨rfl, hb1⟩
   have M1 := Hid.mk (MV.out.blk hNV hb1)
   have K1 := Kst.of_below hb1
   have hN1 : N ≤ w1.heap.size := Nat.le_trans hNV hb1.size
   have x1 := HX.out _ K1
   clear x0 hb1 MV
   have HSame : Hid ((mks r.ty && rOk r) = false → Dk N W v (pz (setsR (l.take (i + 1)))) w1) := fun hc => by
    have : stepR ss r = ss := by unfold stepR; rw [hc]; rfl
    rw [hst.out, this]; exact M1.out
   cases hro : rOk r with
   | false =>
    have HE := Hid.mk (HSame.out (by rw [hro, Bool.and_false]))
    clear HSame
    go_wp2
    go_roundw
    case rel => exact ⟨i + 1, _, rfl, by omega, by first | rfl | go_num, HE⟩
    case measure => simp [intOf]; omega
   | true =>
    by_cases h46 : r.ty = 46
    ·have HE := Hid.mk (HSame.out (by unfold mks; rw [h46]; rfl))
     have b46 : (r.ty == 46) = true := by rw [beq_iff_eq]; exact h46
     clear HSame h46
     go_wp2
     go_roundw
     case rel => exact ⟨i + 1, _, rfl, by omega, by first | rfl | go_num, HE⟩
     case measure => simp [intOf]; omega
    have b46 : (r.ty == 46) = false := by rw [beq_eq_false_iff_ne]; exact h46
    by_cases h41 : r.ty = 41
    ·have HE := Hid.mk (HSame.out (by unfold mks; rw [h41]; rfl))
     have b41 : (r.ty == 41) = true := by rw [beq_iff_eq]; exact h41
     clear HSame h41
     go_wp2
     go_roundw
     case rel => exact ⟨i + 1, _, rfl, by omega, by first | rfl | go_num, HE⟩
     case measure => simp [intOf]; omega
    have b41 : (r.ty == 41) = false := by rw [beq_eq_false_iff_ne]; exact h41
    have hmk : (mks r.ty && rOk r) = true := by
     rw [hro, Bool.and_true]
     unfold mks
     rw [Bool.and_eq_true, bne_iff_ne, bne_iff_ne]
     exact ⟨h46, h41⟩
    have HST : Hid (setsR (l.take (i + 1)) = addR ss r) := by
     show _ = _
     rw [hst.out]; unfold stepR; rw [if_pos hmk]
    obtain ⟨p1, p2, p3, p4⟩ := rOk_parts hro
    obtain ⟨q1, q2⟩ := lb_ok p1
    have hds := dRt_size p4
    have HFD : Hid (Calls Tryz.prog 66 #[v, .string r.nm, .int .i64 r.ty, .int .i64 r.cl] w1 fun e w' => ((fndP (pz ss) (lb r.nm) r.ty r.cl = none ∧ e = .returned (.int .i64 (-1))) ∨ ∃ k : Nat, fndP (pz ss) (lb r.nm) r.ty r.cl = some k ∧ e = .returned (.int .i64 (k : Int))) ∧ Below w1.heap.size w1 w') := by
     obtain ⟨els, h1⟩ := M1.out.rs
     have := rfind_in h1 (fun p hp => by unfold pz at hp; obtain ⟨s, hs, rfl⟩ := List.mem_map.1 hp; exact (f2 s hs).2.nm) (lb r.nm) q1 r.ty r.cl
     rw [← q2] at this
     refine this.mono ?_
     rintro e w' ⟨rfl, hb⟩
     refine ⟨?_, hb⟩
     cases fndP (pz ss) (lb r.nm) r.ty r.cl with
     | none => exact .inl ⟨rfl, rfl⟩
     | some k => exact .inr ⟨k, rfl, rfl⟩
    have HTT := Hid.mk (rttl_in r p3.1)
    clear HSame hst q2
    go_wp2_with fail
    refine HFD.out.mono ?_
    rintro e w2 ⟨hE, hb2⟩
    have M2 := Hid.mk (M1.out.blk hN1 hb2)
    have K2 := K1.blk hb2
    have hN2 : N ≤ w2.heap.size := Nat.le_trans hN1 hb2.size
    have x2 := HX.out _ K2
    clear x1 hb2 M1 K1 HFD
    rcases hE with ⟨hf, rfl⟩ | ⟨k, hf, rfl⟩
    ·have HAdd : Hid (setsR (l.take (i + 1)) = ss ++ [⟨lb r.nm, r.ty, r.cl, ttl r, [r.dat]⟩]) := by
      show _ = _
      rw [HST.out, fnd_none hf, newS_eq]
     have hnm : r.nm = nm (lb r.nm) := (lb_ok p1).2
     have HAP : Hid (∃ v' w3, (bAppS #[v, .slice (some ⟨w2.heap.size + 1, 0, none⟩) 1 1]).run Tryz.prog ((w2.alloc (.cells #[.string r.dat] 9)).alloc (.cells #[.string r.nm, .int .i64 r.ty, .int .i64 r.cl, .int .i64 (ttl r), .slice (some ⟨w2.heap.size, 0, none⟩) 1 1, .slice none 0 0] 44)).drew = .ok v' w3 ∧ Dk N W v' (pz (setsR (l.take (i + 1)))) w3 ∧ Kst V w3) := by
      obtain ⟨els, h1⟩ := M2.out.rs
      have hbU : Below w2.heap.size w2 (w2.drew.alloc (.cells #[.string r.dat] 9)) := (Below.refl _ _).drew.alloc (Nat.le_refl _) _
      have h3 := h1.blk hbU
      have hsz : (w2.drew.alloc (.cells #[.string r.dat] 9)).heap.size = w2.heap.size + 1 := by simp
      obtain ⟨v', w3, hrun, HG⟩ := h3.snoc (by rw [hsz]; omega) (by rw [h1.len, pz_len]; omega) ⟨lb r.nm, r.ty, r.cl, ttl r, .slice (some ⟨w2.heap.size, 0, none⟩) 1 1, nilS⟩ ⟨lb r.nm, r.ty, r.cl, ttl r, [r.dat]⟩ rfl rfl rfl rfl r.dat w2.heap.size hN2 (heap_alloc_new w2.drew _) (fun j hj f e0 => by
       have := (own_lt ((h1.rel.at j hj (by rw [← h1.len]; exact hj)).tx f) e0).1
       omega) rfl rfl rfl
      rw [← hnm, hsz] at hrun
      refine ⟨v', w3, hrun, ?_, (K2.blk hbU).trans HG.out.2.2⟩
      rw [HAdd.out, pz_snoc]
      exact ⟨⟨_, HG.out.1⟩, M2.out.bel.trans ((hbU.mono hN2).trans HG.out.2.1)⟩
     obtain ⟨v', w3, hrun, HD3, K3⟩ := HAP.out
     have HE := Hid.mk HD3
     clear HD3 HAP HAdd hnm hf p1 p4 q1 f2 f3
     go_upto_region 10 with fail
     refine wp_region_held_drew (S := (fun w' : World => Kst V w' ∧ w'.cell? ⟨B, 0, none⟩ = some (.string r.nm) ∧ w'.cell? ⟨B, 1, none⟩ = some (.int .i64 r.ty) ∧ w'.cell? ⟨B, 2, none⟩ = some (.int .i64 r.cl) ∧ w'.cell? ⟨B, 3, none⟩ = some (.int .i64 r.tl) ∧ w'.cell? ⟨B, 4, none⟩ = some (.string r.dat))) (by kernel_rfl) (HX.out _ K2.drew) (fun hHeld => ?_)
     refine wU (i := 0) (v := ?va_0) rfl ?ya_0 (by assumption) ?_
     case ya_0 => (intro w hSw; (try dsimp only at hSw); go_simp; try with_reducible rfl)
     refine wU (i := 1) (v := ?va_1) rfl ?ya_1 (by assumption) ?_
     case ya_1 => (intro w hSw; (try dsimp only at hSw); go_simp; try with_reducible rfl)
     refine wU (i := 2) (v := ?va_2) rfl ?ya_2 (by assumption) ?_
     case ya_2 => (intro w hSw; (try dsimp only at hSw); go_simp; try with_reducible rfl)
     refine wU (i := 3) (v := ?va_3) rfl ?ya_3 (by assumption) ?_
     case ya_3 => (intro w hSw; (try dsimp only at hSw); go_simp; try with_reducible rfl)
     refine wU (i := 4) (v := ?va_4) rfl ?ya_4 (by assumption) ?_
     case ya_4 => (intro w hSw; (try dsimp only at hSw); go_simp; try with_reducible rfl)
     refine wU (i := 5) (v := ?va_5) rfl ?ya_5 (by assumption) ?_
     case ya_5 => (intro w hSw; (try dsimp only at hSw); go_simp; try with_reducible rfl)
     refine wU (i := 6) (v := ?va_6) rfl ?ya_6 (by assumption) ?_
     case ya_6 => (intro w hSw; (try dsimp only at hSw); go_simp; try with_reducible rfl)
     refine wU (i := 7) (v := ?va_7) rfl ?ya_7 (by assumption) ?_
     case ya_7 => (intro w hSw; (try dsimp only at hSw); go_simp; try with_reducible rfl)
     refine wU (i := 8) (v := ?va_8) rfl ?ya_8 (by assumption) ?_
     case ya_8 => (intro w hSw; (try dsimp only at hSw); go_simp; try with_reducible rfl)
     refine wU (i := 10) (v := ?va_10) rfl ?ya_10 (by assumption) ?_
     case ya_10 => (intro w hSw; (try dsimp only at hSw); go_simp; try with_reducible rfl)
     refine wU (i := 11) (v := ?va_11) rfl ?ya_11 (by assumption) ?_
     case ya_11 => (intro w hSw; (try dsimp only at hSw); go_simp; try with_reducible rfl)
     try simp only [Act.put, List.getElem_toArray, List.getElem_cons_succ, List.getElem_cons_zero, List.setIfInBounds_toArray, List.set_cons_zero, List.set_cons_succ]
     refine wpAnyH_ready (rs := [9, 12]) (by kernel_rfl) (by simp) ?_
     refine AllReadyH.cons rfl (fun K hK => ?_) (AllReadyH.cons rfl (fun K hK => ?_) AllReadyH.nil)
     ·go_simp
      go_at_call 67
      refine (HTT.out _).mono ?_
      rintro e w9 ⟨rfl, rfl⟩
      refine hK.out _ _ (HX.out _ K2.drew) (fun hHeld => ?_)
      clear hK K
      try simp only [Act.put, List.getElem_toArray, List.getElem_cons_succ, List.getElem_cons_zero, List.setIfInBounds_toArray, List.set_cons_zero, List.set_cons_succ]
      refine wpAnyH_ready (rs := [12]) (by kernel_rfl) (by simp) ?_
      refine AllReadyH.cons rfl (fun K hK => ?_) AllReadyH.nil
      go_simp
      refine hK.out _ _ (HX.out _ (K2.drew.alloc _)) (fun hHeld => ?_)
      clear hK K
      try simp only [Act.put, List.getElem_toArray, List.getElem_cons_succ, List.getElem_cons_zero, List.setIfInBounds_toArray, List.set_cons_zero, List.set_cons_succ]
      refine wU (i := 13) (v := ?vbm_13) rfl ?ybm_13 (by assumption) ?_
      case ybm_13 => (intro w hSw; (try dsimp only at hSw); go_simp; try with_reducible rfl)
      try simp only [Act.put, List.getElem_toArray, List.getElem_cons_succ, List.getElem_cons_zero, List.setIfInBounds_toArray, List.set_cons_zero, List.set_cons_succ]
      refine wpAnyH_ready (rs := [14]) (by kernel_rfl) (by simp) ?_
      refine AllReadyH.cons rfl (fun K hK => ?_) AllReadyH.nil
      go_simp
      refine hK.out _ _ (HX.out _ ((K2.drew.alloc _).alloc _)) (fun hHeld => ?_)
      clear hK K
      try simp only [Act.put, List.getElem_toArray, List.getElem_cons_succ, List.getElem_cons_zero, List.setIfInBounds_toArray, List.set_cons_zero, List.set_cons_succ]
      refine wpAnyH_ready (rs := [15]) (by kernel_rfl) (by simp) ?_
      refine AllReadyH.cons rfl (fun K hK => ?_) AllReadyH.nil
      refine step_apps rfl _ _ rfl rfl _ _ _ _ rfl rfl hrun ?_
      refine hK.out _ _ (HX.out _ K3) (fun hHeld => ?_)
      clear hK K
      try simp only [Act.put, List.getElem_toArray, List.getElem_cons_succ, List.getElem_cons_zero, List.setIfInBounds_toArray, List.set_cons_zero, List.set_cons_succ]
      refine wU (i := 16) (v := ?vbn_16) rfl ?ybn_16 (by assumption) ?_
      case ybn_16 => (intro w hSw; (try dsimp only at hSw); go_simp; try with_reducible rfl)
      try simp only [Act.put, List.getElem_toArray, List.getElem_cons_succ, List.getElem_cons_zero, List.setIfInBounds_toArray, List.set_cons_zero, List.set_cons_succ]
      refine wpAnyH_done (by kernel_rfl) ?_ _
      clear hHeld hrun x2
      go_wp2
      go_roundw
      case rel => exact ⟨i + 1, _, rfl, by omega, by first | rfl | go_num, HE⟩
      case measure => simp [intOf]; omega
     ·go_simp
      refine hK.out _ _ (HX.out _ (K2.drew.alloc _)) (fun hHeld => ?_)
      clear hK K
      try simp only [Act.put, List.getElem_toArray, List.getElem_cons_succ, List.getElem_cons_zero, List.setIfInBounds_toArray, List.set_cons_zero, List.set_cons_succ]
      refine wpAnyH_ready (rs := [9]) (by kernel_rfl) (by simp) ?_
      refine AllReadyH.cons rfl (fun K hK => ?_) AllReadyH.nil
      go_simp
      go_at_call 67
      refine (HTT.out _).mono ?_
      rintro e w9 ⟨rfl, rfl⟩
      refine hK.out _ _ (HX.out _ (K2.drew.alloc _)) (fun hHeld => ?_)
      clear hK K
      try simp only [Act.put, List.getElem_toArray, List.getElem_cons_succ, List.getElem_cons_zero, List.setIfInBounds_toArray, List.set_cons_zero, List.set_cons_succ]
      refine wU (i := 13) (v := ?vcm_13) rfl ?ycm_13 (by assumption) ?_
      case ycm_13 => (intro w hSw; (try dsimp only at hSw); go_simp; try with_reducible rfl)
      try simp only [Act.put, List.getElem_toArray, List.getElem_cons_succ, List.getElem_cons_zero, List.setIfInBounds_toArray, List.set_cons_zero, List.set_cons_succ]
      refine wpAnyH_ready (rs := [14]) (by kernel_rfl) (by simp) ?_
      refine AllReadyH.cons rfl (fun K hK => ?_) AllReadyH.nil
      go_simp
      refine hK.out _ _ (HX.out _ ((K2.drew.alloc _).alloc _)) (fun hHeld => ?_)
      clear hK K
      try simp only [Act.put, List.getElem_toArray, List.getElem_cons_succ, List.getElem_cons_zero, List.setIfInBounds_toArray, List.set_cons_zero, List.set_cons_succ]
      refine wpAnyH_ready (rs := [15]) (by kernel_rfl) (by simp) ?_
      refine AllReadyH.cons rfl (fun K hK => ?_) AllReadyH.nil
      refine step_apps rfl _ _ rfl rfl _ _ _ _ rfl rfl hrun ?_
      refine hK.out _ _ (HX.out _ K3) (fun hHeld => ?_)
      clear hK K
      try simp only [Act.put, List.getElem_toArray, List.getElem_cons_succ, List.getElem_cons_zero, List.setIfInBounds_toArray, List.set_cons_zero, List.set_cons_succ]
      refine wU (i := 16) (v := ?vcn_16) rfl ?ycn_16 (by assumption) ?_
      case ycn_16 => (intro w hSw; (try dsimp only at hSw); go_simp; try with_reducible rfl)
      try simp only [Act.put, List.getElem_toArray, List.getElem_cons_succ, List.getElem_cons_zero, List.setIfInBounds_toArray, List.set_cons_zero, List.set_cons_succ]
      refine wpAnyH_done (by kernel_rfl) ?_ _
      clear hHeld hrun x2
      go_wp2
      go_roundw
      case rel => exact ⟨i + 1, _, rfl, by omega, by first | rfl | go_num, HE⟩
      case measure => simp [intOf]; omega
    ·obtain ⟨hk, hkey, hadd⟩ := fnd_some hf
     have HAdd : Hid (setsR (l.take (i + 1)) = ss.set k (addD ss[k] r)) := by
      show _ = _
      rw [HST.out, hadd f3]
     obtain ⟨_, hkt, _⟩ := keyS_iff.1 hkey
     obtain ⟨fd, fs⟩ := f2 _ (List.getElem_mem hk)
     have hkp : k < (pz ss).length := by rw [pz_len]; exact hk
     obtain ⟨g, cp, els, rfl, hel, h1, hke⟩ := M2.out.at k hkp
     have hat := (h1.rel.at k hke hkp)
     rw [pz_at ss k hk hkp] at hat
     obtain ⟨s, hs⟩ : ∃ s, ss[k] = s := ⟨_, rfl⟩
     rw [hs] at hat fd fs hkt
     obtain ⟨qd, cd, hdv, htx, hdm⟩ := TxAt.of_own (hat.tx false)
     obtain ⟨dl, hdl⟩ : ∃ dl, s.ds.length = dl := ⟨_, rfl⟩
     have HDL := Hid.mk hdl
     have HSK := Hid.mk hs
     replace hdv : els[k].dv = .slice qd dl cd := by rw [← hdl]; exact hdv
     rw [hdl] at fd
     obtain ⟨m, hm⟩ : ∃ m, els.length = m := ⟨_, rfl⟩
     have HML := Hid.mk hm
     have hkm : (k : Int) < (m : Int) := by omega
     have hkm0 : (0 : Int) ≤ (k : Int) := by omega
     have hkneg : ¬ (k : Int) < 0 := by omega
     have h200 : ((dl : Int) == 200) = false := by rw [beq_eq_false_iff_ne]; omega
     have HROW : Hid (∀ w', Below w2.heap.size w2 w' → w'.cell? ⟨g, k * 6 + 4, none⟩ = some (.slice qd dl cd) ∧ w'.cell? ⟨g, k * 6 + 3, none⟩ = some (.int .i64 s.tl) ∧ w'.frozen? ⟨g, k * 6 + 3, none⟩ = false) := fun w' hb => by
      obtain ⟨g', cap', e, _, hr⟩ := srow_form (h1.blk hb).row (by omega)
      simp only [Value.slice.injEq, Option.some.injEq, Addr.mk.injEq] at e
      obtain ⟨⟨rfl, _, _⟩, _, _⟩ := e
      refine ⟨?_, ?_, ?_⟩
      ·rw [hr.cell k hke 4 (by decide), ← hdv]; rfl
      ·rw [hr.cell k hke 3 (by decide), ← hat.tl]; rfl
      ·obtain ⟨rr, hg⟩ := hr
       unfold World.frozen?; simp [hg]
     have HHas : Hid (∀ w', Below w2.heap.size w2 w' → Calls Tryz.prog 68 #[.int .i64 r.ty, .slice qd dl cd, .string r.dat] w' fun e w'' => e = .returned (.bool (hasD r.ty s.ds r.dat)) ∧ Below w'.heap.size w' w'') := fun w' hb => by
      have := rhas_in r.ty h46 qd cd s.ds r.dat (by unfold maxLen; omega) (fun x hx => by have := fs.size x hx; unfold maxLen; omega) hdm w' (htx.blk hb)
      rwa [hdl] at this
     have HXR : Hid (∀ w', Below w2.heap.size w2 w' → (fun w' : World => (Kst V w' ∧ w'.cell? ⟨B, 0, none⟩ = some (.string r.nm) ∧ w'.cell? ⟨B, 1, none⟩ = some (.int .i64 r.ty) ∧ w'.cell? ⟨B, 2, none⟩ = some (.int .i64 r.cl) ∧ w'.cell? ⟨B, 3, none⟩ = some (.int .i64 r.tl) ∧ w'.cell? ⟨B, 4, none⟩ = some (.string r.dat)) ∧ w'.cell? ⟨g, k * 6 + 4, none⟩ = some (.slice qd dl cd)) w') := fun w' hb => ⟨HX.out _ (K2.blk hb), (HROW.out _ hb).1⟩
     have R2 := Hid.mk h1
     have HBW2 := Hid.mk M2.out.bel
     have HDV := Hid.mk hdv
     have HAT := Hid.mk hat
     have HKE := Hid.mk hke
     have hb0 : Below w2.heap.size w2 w2.drew := (Below.refl _ _).drew
     have x3 := HROW.out _ (Below.refl _ _)
     clear hf hadd hkey f3 f2 q1 p1 p4 h1 hdv hat htx hdm hel hdl hs hm M2
     rw [HML.out]
     go_upto_region 11 with fail
     refine wp_region_held_drew (S := (fun w' : World => (Kst V w' ∧ w'.cell? ⟨B, 0, none⟩ = some (.string r.nm) ∧ w'.cell? ⟨B, 1, none⟩ = some (.int .i64 r.ty) ∧ w'.cell? ⟨B, 2, none⟩ = some (.int .i64 r.cl) ∧ w'.cell? ⟨B, 3, none⟩ = some (.int .i64 r.tl) ∧ w'.cell? ⟨B, 4, none⟩ = some (.string r.dat)) ∧ w'.cell? ⟨g, k * 6 + 4, none⟩ = some (.slice qd dl cd))) (by kernel_rfl) (HXR.out _ hb0) (fun hHeld => ?_)
     refine wU (i := 0) (v := ?vd_0) rfl ?yd_0 (by assumption) ?_
     case yd_0 => (intro w hSw; (try dsimp only at hSw); go_simp; try with_reducible rfl)
     refine wU (i := 1) (v := ?vd_1) rfl ?yd_1 (by assumption) ?_
     case yd_1 => (intro w hSw; (try dsimp only at hSw); go_simp; try with_reducible rfl)
     refine wU (i := 2) (v := ?vd_2) rfl ?yd_2 (by assumption) ?_
     case yd_2 => (intro w hSw; (try dsimp only at hSw); go_simp; try with_reducible rfl)
     refine wU (i := 3) (v := ?vd_3) rfl ?yd_3 (by assumption) ?_
     case yd_3 => (intro w hSw; (try dsimp only at hSw); go_simp; try with_reducible rfl)
     refine wU (i := 4) (v := ?vd_4) rfl ?yd_4 (by assumption) ?_
     case yd_4 => (intro w hSw; (try dsimp only at hSw); go_simp; try with_reducible rfl)
     refine wU (i := 5) (v := ?vd_5) rfl ?yd_5 (by assumption) ?_
     case yd_5 => (intro w hSw; (try dsimp only at hSw); go_simp; try with_reducible rfl)
     refine wU (i := 6) (v := ?vd_6) rfl ?yd_6 (by assumption) ?_
     case yd_6 => (intro w hSw; (try dsimp only at hSw); go_simp; try with_reducible rfl)
     refine wU (i := 7) (v := ?vd_7) rfl ?yd_7 (by assumption) ?_
     case yd_7 => (intro w hSw; (try dsimp only at hSw); go_simp; try with_reducible rfl)
     refine wU (i := 8) (v := ?vd_8) rfl ?yd_8 (by assumption) ?_
     case yd_8 => (intro w hSw; (try dsimp only at hSw); go_simp; try with_reducible rfl)
     try simp only [Act.put, List.getElem_toArray, List.getElem_cons_succ, List.getElem_cons_zero, List.setIfInBounds_toArray, List.set_cons_zero, List.set_cons_succ]
     refine wpAnyH_ready (rs := [9]) (by kernel_rfl) (by simp) ?_
     refine AllReadyH.cons rfl (fun K hK => ?_) AllReadyH.nil
     go_simp
     go_at_call 68
     refine (HHas.out _ hb0).mono ?_
     rintro e w3 ⟨rfl, hb3'⟩
     have hb3 : Below w2.heap.size w2 w3 := hb0.trans hb3'
     refine hK.out _ _ (HXR.out _ hb3) (fun hHeld => ?_)
     clear hK K
     try simp only [Act.put, List.getElem_toArray, List.getElem_cons_succ, List.getElem_cons_zero, List.setIfInBounds_toArray, List.set_cons_zero, List.set_cons_succ]
     refine wU (i := 10) (v := ?ve_10) rfl ?ye_10 (by assumption) ?_
     case ye_10 => (intro w hSw; (try dsimp only at hSw); go_simp; try with_reducible rfl)
     try simp only [Act.put, List.getElem_toArray, List.getElem_cons_succ, List.getElem_cons_zero, List.setIfInBounds_toArray, List.set_cons_zero, List.set_cons_succ]
     refine wpAnyH_done (by kernel_rfl) ?_ _
     clear hHeld x3 hb3' x2
     have K3 := K2.blk hb3
     have y3 := HROW.out _ hb3
     have x4 := HX.out _ K3
     have R3 := Hid.mk (R2.out.blk hb3)
     have hN3 : N ≤ w3.heap.size := Nat.le_trans hN2 hb3.size
     have HBW3 := Hid.mk (HBW2.out.trans (hb3.mono hN2))
     cases hh : hasD r.ty s.ds r.dat with
     | true =>
      have HE : Hid (Dk N W (.slice (some ⟨g, 0, none⟩) m cp) (pz (setsR (l.take (i + 1)))) (w3.drew.setCell ⟨g, k * 6 + 3, none⟩ (.int .i64 (min s.tl (ttl r)))) ∧ Kst V (w3.drew.setCell ⟨g, k * 6 + 3, none⟩ (.int .i64 (min s.tl (ttl r))))) := by
       have h5 := (R3.out.blk (Below.refl _ _).drew).setT k HKE.out hkp (min s.tl (ttl r))
       rw [HAdd.out, pz_set, HSK.out, addD_twice hh, ← HML.out]
       rw [pz_at ss k hk hkp, HSK.out] at h5
       exact ⟨⟨⟨_, h5.1⟩, HBW3.out.drew.trans h5.2.1⟩, K3.drew.trans h5.2.2⟩
      clear hh
      go_upto_region 15 with fail
      refine wp_region_held_drew (S := (fun w' : World => Kst V w' ∧ w'.cell? ⟨B, 0, none⟩ = some (.string r.nm) ∧ w'.cell? ⟨B, 1, none⟩ = some (.int .i64 r.ty) ∧ w'.cell? ⟨B, 2, none⟩ = some (.int .i64 r.cl) ∧ w'.cell? ⟨B, 3, none⟩ = some (.int .i64 r.tl) ∧ w'.cell? ⟨B, 4, none⟩ = some (.string r.dat))) (by kernel_rfl) (HX.out _ K3.drew) (fun hHeld => ?_)
      refine wU (i := 0) (v := ?vfa_0) rfl ?yfa_0 (by assumption) ?_
      case yfa_0 => (intro w hSw; (try dsimp only at hSw); go_simp; try with_reducible rfl)
      refine wU (i := 1) (v := ?vfa_1) rfl ?yfa_1 (by assumption) ?_
      case yfa_1 => (intro w hSw; (try dsimp only at hSw); go_simp; try with_reducible rfl)
      refine wU (i := 2) (v := ?vfa_2) rfl ?yfa_2 (by assumption) ?_
      case yfa_2 => (intro w hSw; (try dsimp only at hSw); go_simp; try with_reducible rfl)
      refine wU (i := 3) (v := ?vfa_3) rfl ?yfa_3 (by assumption) ?_
      case yfa_3 => (intro w hSw; (try dsimp only at hSw); go_simp; try with_reducible rfl)
      refine wU (i := 4) (v := ?vfa_4) rfl ?yfa_4 (by assumption) ?_
      case yfa_4 => (intro w hSw; (try dsimp only at hSw); go_simp; try with_reducible rfl)
      refine wU (i := 5) (v := ?vfa_5) rfl ?yfa_5 (by assumption) ?_
      case yfa_5 => (intro w hSw; (try dsimp only at hSw); go_simp; try with_reducible rfl)
      refine wU (i := 7) (v := ?vfa_7) rfl ?yfa_7 (by assumption) ?_
      case yfa_7 => (intro w hSw; (try dsimp only at hSw); go_simp; try with_reducible rfl)
      refine wU (i := 8) (v := ?vfa_8) rfl ?yfa_8 (by assumption) ?_
      case yfa_8 => (intro w hSw; (try dsimp only at hSw); go_simp; try with_reducible rfl)
      try simp only [Act.put, List.getElem_toArray, List.getElem_cons_succ, List.getElem_cons_zero, List.setIfInBounds_toArray, List.set_cons_zero, List.set_cons_succ]
      refine wpAnyH_ready (rs := [6, 9]) (by kernel_rfl) (by simp) ?_
      refine AllReadyH.cons rfl (fun K hK => ?_) (AllReadyH.cons rfl (fun K hK => ?_) AllReadyH.nil)
      ·go_simp
       refine hK.out _ _ (HX.out _ K3.drew) (fun hHeld => ?_)
       clear hK K
       try simp only [Act.put, List.getElem_toArray, List.getElem_cons_succ, List.getElem_cons_zero, List.setIfInBounds_toArray, List.set_cons_zero, List.set_cons_succ]
       refine wpAnyH_ready (rs := [9]) (by kernel_rfl) (by simp) ?_
       refine AllReadyH.cons rfl (fun K hK => ?_) AllReadyH.nil
       go_simp
       go_at_call 67
       refine (HTT.out _).mono ?_
       rintro e w9 ⟨rfl, rfl⟩
       refine hK.out _ _ (HX.out _ K3.drew) (fun hHeld => ?_)
       clear hK K
       try simp only [Act.put, List.getElem_toArray, List.getElem_cons_succ, List.getElem_cons_zero, List.setIfInBounds_toArray, List.set_cons_zero, List.set_cons_succ]
       refine wpAnyH_ready (rs := [10]) (by kernel_rfl) (by simp) ?_
       refine AllReadyH.cons rfl (fun K hK => ?_) AllReadyH.nil
       refine step_mn rfl _ _ rfl s.tl (ttl r) (min s.tl (ttl r)) rfl rfl (min_if _ _) ?_
       refine hK.out _ _ (HX.out _ K3.drew) (fun hHeld => ?_)
       clear hK K
       try simp only [Act.put, List.getElem_toArray, List.getElem_cons_succ, List.getElem_cons_zero, List.setIfInBounds_toArray, List.set_cons_zero, List.set_cons_succ]
       refine wU (i := 11) (v := ?vfbt_11) rfl ?yfbt_11 (by assumption) ?_
       case yfbt_11 => (intro w hSw; (try dsimp only at hSw); go_simp; try with_reducible rfl)
       refine wU (i := 12) (v := ?vfbt_12) rfl ?yfbt_12 (by assumption) ?_
       case yfbt_12 => (intro w hSw; (try dsimp only at hSw); go_simp; try with_reducible rfl)
       try simp only [Act.put, List.getElem_toArray, List.getElem_cons_succ, List.getElem_cons_zero, List.setIfInBounds_toArray, List.set_cons_zero, List.set_cons_succ]
       refine wpAnyH_ready (rs := [13]) (by kernel_rfl) (by simp) ?_
       refine AllReadyH.cons rfl (fun K hK => ?_) AllReadyH.nil
       go_simp
       refine hK.out _ _ (HX.out _ HE.out.2) (fun hHeld => ?_)
       clear hK K
       try simp only [Act.put, List.getElem_toArray, List.getElem_cons_succ, List.getElem_cons_zero, List.setIfInBounds_toArray, List.set_cons_zero, List.set_cons_succ]
       refine wpAnyH_done (by kernel_rfl) ?_ _
       have HE1 := Hid.mk HE.out.1
       clear hHeld HE y3
       go_wp2
       go_roundw
       case rel => exact ⟨i + 1, _, rfl, by omega, by first | rfl | go_num, HE1⟩
       case measure => simp [intOf]; omega
      ·go_simp
       go_at_call 67
       refine (HTT.out _).mono ?_
       rintro e w9 ⟨rfl, rfl⟩
       refine hK.out _ _ (HX.out _ K3.drew) (fun hHeld => ?_)
       clear hK K
       try simp only [Act.put, List.getElem_toArray, List.getElem_cons_succ, List.getElem_cons_zero, List.setIfInBounds_toArray, List.set_cons_zero, List.set_cons_succ]
       refine wpAnyH_ready (rs := [6]) (by kernel_rfl) (by simp) ?_
       refine AllReadyH.cons rfl (fun K hK => ?_) AllReadyH.nil
       go_simp
       refine hK.out _ _ (HX.out _ K3.drew) (fun hHeld => ?_)
       clear hK K
       try simp only [Act.put, List.getElem_toArray, List.getElem_cons_succ, List.getElem_cons_zero, List.setIfInBounds_toArray, List.set_cons_zero, List.set_cons_succ]
       refine wpAnyH_ready (rs := [10]) (by kernel_rfl) (by simp) ?_
       refine AllReadyH.cons rfl (fun K hK => ?_) AllReadyH.nil
       refine step_mn rfl _ _ rfl s.tl (ttl r) (min s.tl (ttl r)) rfl rfl (min_if _ _) ?_
       refine hK.out _ _ (HX.out _ K3.drew) (fun hHeld => ?_)
       clear hK K
       try simp only [Act.put, List.getElem_toArray, List.getElem_cons_succ, List.getElem_cons_zero, List.setIfInBounds_toArray, List.set_cons_zero, List.set_cons_succ]
       refine wU (i := 11) (v := ?vfct_11) rfl ?yfct_11 (by assumption) ?_
       case yfct_11 => (intro w hSw; (try dsimp only at hSw); go_simp; try with_reducible rfl)
       refine wU (i := 12) (v := ?vfct_12) rfl ?yfct_12 (by assumption) ?_
       case yfct_12 => (intro w hSw; (try dsimp only at hSw); go_simp; try with_reducible rfl)
       try simp only [Act.put, List.getElem_toArray, List.getElem_cons_succ, List.getElem_cons_zero, List.setIfInBounds_toArray, List.set_cons_zero, List.set_cons_succ]
       refine wpAnyH_ready (rs := [13]) (by kernel_rfl) (by simp) ?_
       refine AllReadyH.cons rfl (fun K hK => ?_) AllReadyH.nil
       go_simp
       refine hK.out _ _ (HX.out _ HE.out.2) (fun hHeld => ?_)
       clear hK K
       try simp only [Act.put, List.getElem_toArray, List.getElem_cons_succ, List.getElem_cons_zero, List.setIfInBounds_toArray, List.set_cons_zero, List.set_cons_succ]
       refine wpAnyH_done (by kernel_rfl) ?_ _
       have HE1 := Hid.mk HE.out.1
       clear hHeld HE y3
       go_wp2
       go_roundw
       case rel => exact ⟨i + 1, _, rfl, by omega, by first | rfl | go_num, HE1⟩
       case measure => simp [intOf]; omega
     | false =>
      obtain ⟨v', w4, hrun0, hcell, hfz, ⟨q', c', hv'⟩, HG⟩ := (R3.out.blk (Below.refl _ _).drew).app hN3 k HKE.out hkp false (by rw [pz_at ss k hk hkp, HSK.out]; show s.ds.length ≤ 1000; rw [HDL.out]; omega) r.dat
      have hvl : ((pz ss)[k].tx false).length = dl := by rw [pz_at ss k hk hkp, HSK.out]; exact HDL.out
      rw [hvl] at hv'
      have hrun : (bAppD #[.slice qd dl cd, .slice (some ⟨w3.heap.size, 0, none⟩) 1 1]).run Tryz.prog (w3.alloc (.cells #[.string r.dat] 9)).drew = .ok v' w4 := by
       rw [← HDV.out]
       exact hrun0
      have hcl : w4.cell? ⟨g, k * 6 + 4, none⟩ = some (.slice qd dl cd) := by
       rw [← HDV.out]
       exact hcell
      have hfr : w4.frozen? ⟨g, k * 6 + 4, none⟩ = false := hfz
      have K4 : Kst V w4 := K3.drew.trans HG.out.2.2.2.2.1
      obtain ⟨w5, hw5⟩ : ∃ w5, w4.setCell ⟨g, k * 6 + 4, none⟩ v' = w5 := ⟨_, rfl⟩
      have G5 : RS N w5 (.slice (some ⟨g, 0, none⟩) els.length cp) (els.set k (fput els[k] false v')) ((pz ss).set k ((pz ss)[k].put false ((pz ss)[k].tx false ++ [r.dat]))) ∧ Below N w3.drew w5 ∧ Kst w3.drew w5 := ⟨hw5 ▸ HG.out.1, hw5 ▸ HG.out.2.1, hw5 ▸ HG.out.2.2.2.2.2⟩
      have K5 : Kst V w5 := K3.drew.trans G5.2.2
      have hke5 : k < (els.set k (fput els[k] false v')).length := by rw [List.length_set]; exact HKE.out
      have hkp5 : k < ((pz ss).set k ((pz ss)[k].put false ((pz ss)[k].tx false ++ [r.dat]))).length := by rw [List.length_set]; exact hkp
      have hl5 : (els.set k (fput els[k] false v')).length = els.length := List.length_set ..
      have y5 : w5.cell? ⟨g, k * 6 + 3, none⟩ = some (.int .i64 s.tl) ∧ w5.frozen? ⟨g, k * 6 + 3, none⟩ = false := by
       obtain ⟨g', cap', e, _, hr⟩ := srow_form G5.1.row (by omega)
       simp only [Value.slice.injEq, Option.some.injEq, Addr.mk.injEq] at e
       obtain ⟨⟨rfl, _, _⟩, _, _⟩ := e
       refine ⟨?_, ?_⟩
       ·rw [hr.cell k hke5 3 (by decide), List.getElem_set_self, ← HAT.out.tl]; rfl
       ·obtain ⟨rr, hg⟩ := hr
        unfold World.frozen?; simp [hg]
      have HE : Hid (Dk N W (.slice (some ⟨g, 0, none⟩) m cp) (pz (setsR (l.take (i + 1)))) (w5.drew.setCell ⟨g, k * 6 + 3, none⟩ (.int .i64 (min s.tl (ttl r)))) ∧ Kst V (w5.drew.setCell ⟨g, k * 6 + 3, none⟩ (.int .i64 (min s.tl (ttl r))))) := by
       have G6 := G5.1.blk (Below.refl _ _).drew
       rw [← hl5] at G6
       have h5 := G6.setT k hke5 hkp5 (min s.tl (ttl r))
       rw [hl5] at h5
       rw [HAdd.out, pz_set, HSK.out, addD_new hh, ← HML.out]
       simp only [List.getElem_set_self, List.set_set, pz_at ss k hk hkp, HSK.out] at h5
       exact ⟨⟨⟨_, h5.1⟩, HBW3.out.drew.trans (G5.2.1.trans ((Below.refl _ _).drew.trans h5.2.1))⟩, K5.drew.trans h5.2.2⟩
      have y4 := HROW.out _ (hb3.alloc hb3.size (.cells #[.string r.dat] 9))
      have HY4 := Hid.mk y4
      have HW5 := Hid.mk hw5
      clear hh hrun0 hcell hfz hw5 y4 G5 hke5 hkp5 hl5 HG hvl
      subst hv'
      go_upto_region 14 with fail
      refine wp_region_held_drew (S := (fun w' : World => Kst V w' ∧ w'.cell? ⟨B, 0, none⟩ = some (.string r.nm) ∧ w'.cell? ⟨B, 1, none⟩ = some (.int .i64 r.ty) ∧ w'.cell? ⟨B, 2, none⟩ = some (.int .i64 r.cl) ∧ w'.cell? ⟨B, 3, none⟩ = some (.int .i64 r.tl) ∧ w'.cell? ⟨B, 4, none⟩ = some (.string r.dat))) (by kernel_rfl) (HX.out _ K3.drew) (fun hHeld => ?_)
      refine wU (i := 0) (v := ?vga_0) rfl ?yga_0 (by assumption) ?_
      case yga_0 => (intro w hSw; (try dsimp only at hSw); go_simp; try with_reducible rfl)
      refine wU (i := 1) (v := ?vga_1) rfl ?yga_1 (by assumption) ?_
      case yga_1 => (intro w hSw; (try dsimp only at hSw); go_simp; try with_reducible rfl)
      refine wU (i := 2) (v := ?vga_2) rfl ?yga_2 (by assumption) ?_
      case yga_2 => (intro w hSw; (try dsimp only at hSw); go_simp; try with_reducible rfl)
      refine wU (i := 3) (v := ?vga_3) rfl ?yga_3 (by assumption) ?_
      case yga_3 => (intro w hSw; (try dsimp only at hSw); go_simp; try with_reducible rfl)
      refine wU (i := 4) (v := ?vga_4) rfl ?yga_4 (by assumption) ?_
      case yga_4 => (intro w hSw; (try dsimp only at hSw); go_simp; try with_reducible rfl)
      refine wU (i := 5) (v := ?vga_5) rfl ?yga_5 (by assumption) ?_
      case yga_5 => (intro w hSw; (try dsimp only at hSw); go_simp; try with_reducible rfl)
      refine wU (i := 7) (v := ?vga_7) rfl ?yga_7 (by assumption) ?_
      case yga_7 => (intro w hSw; (try dsimp only at hSw); go_simp; try with_reducible rfl)
      refine wU (i := 8) (v := ?vga_8) rfl ?yga_8 (by assumption) ?_
      case yga_8 => (intro w hSw; (try dsimp only at hSw); go_simp; try with_reducible rfl)
      try simp only [Act.put, List.getElem_toArray, List.getElem_cons_succ, List.getElem_cons_zero, List.setIfInBounds_toArray, List.set_cons_zero, List.set_cons_succ]
      refine wpAnyH_ready (rs := [6, 9]) (by kernel_rfl) (by simp) ?_
      refine AllReadyH.cons rfl (fun K hK => ?_) (AllReadyH.cons rfl (fun K hK => ?_) AllReadyH.nil)
      ·go_simp
       refine hK.out _ _ (HX.out _ K3.drew) (fun hHeld => ?_)
       clear hK K
       try simp only [Act.put, List.getElem_toArray, List.getElem_cons_succ, List.getElem_cons_zero, List.setIfInBounds_toArray, List.set_cons_zero, List.set_cons_succ]
       refine wpAnyH_ready (rs := [9]) (by kernel_rfl) (by simp) ?_
       refine AllReadyH.cons rfl (fun K hK => ?_) AllReadyH.nil
       go_simp
       refine hK.out _ _ (HX.out _ (K3.alloc _).drew) (fun hHeld => ?_)
       clear hK K
       try simp only [Act.put, List.getElem_toArray, List.getElem_cons_succ, List.getElem_cons_zero, List.setIfInBounds_toArray, List.set_cons_zero, List.set_cons_succ]
       refine wpAnyH_ready (rs := [10]) (by kernel_rfl) (by simp) ?_
       refine AllReadyH.cons rfl (fun K hK => ?_) AllReadyH.nil
       refine step_appd rfl _ _ rfl rfl _ _ _ _ rfl rfl hrun ?_
       refine hK.out _ _ (HX.out _ K4) (fun hHeld => ?_)
       clear hK K
       try simp only [Act.put, List.getElem_toArray, List.getElem_cons_succ, List.getElem_cons_zero, List.setIfInBounds_toArray, List.set_cons_zero, List.set_cons_succ]
       refine wU (i := 11) (v := ?vgbt_11) rfl ?ygbt_11 (by assumption) ?_
       case ygbt_11 => (intro w hSw; (try dsimp only at hSw); go_simp; try with_reducible rfl)
       refine wU (i := 12) (v := ?vgbt_12) rfl ?ygbt_12 (by assumption) ?_
       case ygbt_12 => (intro w hSw; (try dsimp only at hSw); go_simp; try with_reducible rfl)
       try simp only [Act.put, List.getElem_toArray, List.getElem_cons_succ, List.getElem_cons_zero, List.setIfInBounds_toArray, List.set_cons_zero, List.set_cons_succ]
       refine wpAnyH_ready (rs := [13]) (by kernel_rfl) (by simp) ?_
       refine AllReadyH.cons rfl (fun K hK => ?_) AllReadyH.nil
       go_simp
       rw [HW5.out]
       refine hK.out _ _ (HX.out _ K5) (fun hHeld => ?_)
       clear hK K
       try simp only [Act.put, List.getElem_toArray, List.getElem_cons_succ, List.getElem_cons_zero, List.setIfInBounds_toArray, List.set_cons_zero, List.set_cons_succ]
       refine wpAnyH_done (by kernel_rfl) ?_ _
       clear hHeld hrun hcl hfr y3
       have x5 := HX.out _ K5
       go_upto_region 15 with fail
       refine wp_region_held_drew (S := (fun w' : World => Kst V w' ∧ w'.cell? ⟨B, 0, none⟩ = some (.string r.nm) ∧ w'.cell? ⟨B, 1, none⟩ = some (.int .i64 r.ty) ∧ w'.cell? ⟨B, 2, none⟩ = some (.int .i64 r.cl) ∧ w'.cell? ⟨B, 3, none⟩ = some (.int .i64 r.tl) ∧ w'.cell? ⟨B, 4, none⟩ = some (.string r.dat))) (by kernel_rfl) (HX.out _ K5.drew) (fun hHeld => ?_)
       refine wU (i := 0) (v := ?vgbra_0) rfl ?ygbra_0 (by assumption) ?_
       case ygbra_0 => (intro w hSw; (try dsimp only at hSw); go_simp; try with_reducible rfl)
       refine wU (i := 1) (v := ?vgbra_1) rfl ?ygbra_1 (by assumption) ?_
       case ygbra_1 => (intro w hSw; (try dsimp only at hSw); go_simp; try with_reducible rfl)
       refine wU (i := 2) (v := ?vgbra_2) rfl ?ygbra_2 (by assumption) ?_
       case ygbra_2 => (intro w hSw; (try dsimp only at hSw); go_simp; try with_reducible rfl)
       refine wU (i := 3) (v := ?vgbra_3) rfl ?ygbra_3 (by assumption) ?_
       case ygbra_3 => (intro w hSw; (try dsimp only at hSw); go_simp; try with_reducible rfl)
       refine wU (i := 4) (v := ?vgbra_4) rfl ?ygbra_4 (by assumption) ?_
       case ygbra_4 => (intro w hSw; (try dsimp only at hSw); go_simp; try with_reducible rfl)
       refine wU (i := 5) (v := ?vgbra_5) rfl ?ygbra_5 (by assumption) ?_
       case ygbra_5 => (intro w hSw; (try dsimp only at hSw); go_simp; try with_reducible rfl)
       refine wU (i := 7) (v := ?vgbra_7) rfl ?ygbra_7 (by assumption) ?_
       case ygbra_7 => (intro w hSw; (try dsimp only at hSw); go_simp; try with_reducible rfl)
       refine wU (i := 8) (v := ?vgbra_8) rfl ?ygbra_8 (by assumption) ?_
       case ygbra_8 => (intro w hSw; (try dsimp only at hSw); go_simp; try with_reducible rfl)
       try simp only [Act.put, List.getElem_toArray, List.getElem_cons_succ, List.getElem_cons_zero, List.setIfInBounds_toArray, List.set_cons_zero, List.set_cons_succ]
       refine wpAnyH_ready (rs := [6, 9]) (by kernel_rfl) (by simp) ?_
       refine AllReadyH.cons rfl (fun K hK => ?_) (AllReadyH.cons rfl (fun K hK => ?_) AllReadyH.nil)
       ·go_simp
        refine hK.out _ _ (HX.out _ K5.drew) (fun hHeld => ?_)
        clear hK K
        try simp only [Act.put, List.getElem_toArray, List.getElem_cons_succ, List.getElem_cons_zero, List.setIfInBounds_toArray, List.set_cons_zero, List.set_cons_succ]
        refine wpAnyH_ready (rs := [9]) (by kernel_rfl) (by simp) ?_
        refine AllReadyH.cons rfl (fun K hK => ?_) AllReadyH.nil
        go_simp
        go_at_call 67
        refine (HTT.out _).mono ?_
        rintro e w9 ⟨rfl, rfl⟩
        refine hK.out _ _ (HX.out _ K5.drew) (fun hHeld => ?_)
        clear hK K
        try simp only [Act.put, List.getElem_toArray, List.getElem_cons_succ, List.getElem_cons_zero, List.setIfInBounds_toArray, List.set_cons_zero, List.set_cons_succ]
        refine wpAnyH_ready (rs := [10]) (by kernel_rfl) (by simp) ?_
        refine AllReadyH.cons rfl (fun K hK => ?_) AllReadyH.nil
        refine step_mn rfl _ _ rfl s.tl (ttl r) (min s.tl (ttl r)) rfl rfl (min_if _ _) ?_
        refine hK.out _ _ (HX.out _ K5.drew) (fun hHeld => ?_)
        clear hK K
        try simp only [Act.put, List.getElem_toArray, List.getElem_cons_succ, List.getElem_cons_zero, List.setIfInBounds_toArray, List.set_cons_zero, List.set_cons_succ]
        refine wU (i := 11) (v := ?vgbrbt_11) rfl ?ygbrbt_11 (by assumption) ?_
        case ygbrbt_11 => (intro w hSw; (try dsimp only at hSw); go_simp; try with_reducible rfl)
        refine wU (i := 12) (v := ?vgbrbt_12) rfl ?ygbrbt_12 (by assumption) ?_
        case ygbrbt_12 => (intro w hSw; (try dsimp only at hSw); go_simp; try with_reducible rfl)
        try simp only [Act.put, List.getElem_toArray, List.getElem_cons_succ, List.getElem_cons_zero, List.setIfInBounds_toArray, List.set_cons_zero, List.set_cons_succ]
        refine wpAnyH_ready (rs := [13]) (by kernel_rfl) (by simp) ?_
        refine AllReadyH.cons rfl (fun K hK => ?_) AllReadyH.nil
        go_simp
        refine hK.out _ _ (HX.out _ HE.out.2) (fun hHeld => ?_)
        clear hK K
        try simp only [Act.put, List.getElem_toArray, List.getElem_cons_succ, List.getElem_cons_zero, List.setIfInBounds_toArray, List.set_cons_zero, List.set_cons_succ]
        refine wpAnyH_done (by kernel_rfl) ?_ _
        have HE1 := Hid.mk HE.out.1
        clear hHeld HE y5
        go_wp2
        go_roundw
        case rel => exact ⟨i + 1, _, rfl, by omega, by first | rfl | go_num, HE1⟩
        case measure => simp [intOf]; omega
       ·go_simp
        go_at_call 67
        refine (HTT.out _).mono ?_
        rintro e w9 ⟨rfl, rfl⟩
        refine hK.out _ _ (HX.out _ K5.drew) (fun hHeld => ?_)
        clear hK K
        try simp only [Act.put, List.getElem_toArray, List.getElem_cons_succ, List.getElem_cons_zero, List.setIfInBounds_toArray, List.set_cons_zero, List.set_cons_succ]
        refine wpAnyH_ready (rs := [6]) (by kernel_rfl) (by simp) ?_
        refine AllReadyH.cons rfl (fun K hK => ?_) AllReadyH.nil
        go_simp
        refine hK.out _ _ (HX.out _ K5.drew) (fun hHeld => ?_)
        clear hK K
        try simp only [Act.put, List.getElem_toArray, List.getElem_cons_succ, List.getElem_cons_zero, List.setIfInBounds_toArray, List.set_cons_zero, List.set_cons_succ]
        refine wpAnyH_ready (rs := [10]) (by kernel_rfl) (by simp) ?_
        refine AllReadyH.cons rfl (fun K hK => ?_) AllReadyH.nil
        refine step_mn rfl _ _ rfl s.tl (ttl r) (min s.tl (ttl r)) rfl rfl (min_if _ _) ?_
        refine hK.out _ _ (HX.out _ K5.drew) (fun hHeld => ?_)
        clear hK K
        try simp only [Act.put, List.getElem_toArray, List.getElem_cons_succ, List.getElem_cons_zero, List.setIfInBounds_toArray, List.set_cons_zero, List.set_cons_succ]
        refine wU (i := 11) (v := ?vgbrct_11) rfl ?ygbrct_11 (by assumption) ?_
        case ygbrct_11 => (intro w hSw; (try dsimp only at hSw); go_simp; try with_reducible rfl)
        refine wU (i := 12) (v := ?vgbrct_12) rfl ?ygbrct_12 (by assumption) ?_
        case ygbrct_12 => (intro w hSw; (try dsimp only at hSw); go_simp; try with_reducible rfl)
        try simp only [Act.put, List.getElem_toArray, List.getElem_cons_succ, List.getElem_cons_zero, List.setIfInBounds_toArray, List.set_cons_zero, List.set_cons_succ]
        refine wpAnyH_ready (rs := [13]) (by kernel_rfl) (by simp) ?_
        refine AllReadyH.cons rfl (fun K hK => ?_) AllReadyH.nil
        go_simp
        refine hK.out _ _ (HX.out _ HE.out.2) (fun hHeld => ?_)
        clear hK K
        try simp only [Act.put, List.getElem_toArray, List.getElem_cons_succ, List.getElem_cons_zero, List.setIfInBounds_toArray, List.set_cons_zero, List.set_cons_succ]
        refine wpAnyH_done (by kernel_rfl) ?_ _
        have HE1 := Hid.mk HE.out.1
        clear hHeld HE y5
        go_wp2
        go_roundw
        case rel => exact ⟨i + 1, _, rfl, by omega, by first | rfl | go_num, HE1⟩
        case measure => simp [intOf]; omega
      ·go_simp
       refine hK.out _ _ (HX.out _ (K3.alloc _).drew) (fun hHeld => ?_)
       clear hK K
       try simp only [Act.put, List.getElem_toArray, List.getElem_cons_succ, List.getElem_cons_zero, List.setIfInBounds_toArray, List.set_cons_zero, List.set_cons_succ]
       have y4 := HY4.out
       refine wpAnyH_ready (rs := [6]) (by kernel_rfl) (by simp) ?_
       refine AllReadyH.cons rfl (fun K hK => ?_) AllReadyH.nil
       go_simp
       refine hK.out _ _ (HX.out _ (K3.alloc _).drew) (fun hHeld => ?_)
       clear hK K y4
       try simp only [Act.put, List.getElem_toArray, List.getElem_cons_succ, List.getElem_cons_zero, List.setIfInBounds_toArray, List.set_cons_zero, List.set_cons_succ]
       refine wpAnyH_ready (rs := [10]) (by kernel_rfl) (by simp) ?_
       refine AllReadyH.cons rfl (fun K hK => ?_) AllReadyH.nil
       refine step_appd rfl _ _ rfl rfl _ _ _ _ rfl rfl hrun ?_
       refine hK.out _ _ (HX.out _ K4) (fun hHeld => ?_)
       clear hK K
       try simp only [Act.put, List.getElem_toArray, List.getElem_cons_succ, List.getElem_cons_zero, List.setIfInBounds_toArray, List.set_cons_zero, List.set_cons_succ]
       refine wU (i := 11) (v := ?vgct_11) rfl ?ygct_11 (by assumption) ?_
       case ygct_11 => (intro w hSw; (try dsimp only at hSw); go_simp; try with_reducible rfl)
       refine wU (i := 12) (v := ?vgct_12) rfl ?ygct_12 (by assumption) ?_
       case ygct_12 => (intro w hSw; (try dsimp only at hSw); go_simp; try with_reducible rfl)
       try simp only [Act.put, List.getElem_toArray, List.getElem_cons_succ, List.getElem_cons_zero, List.setIfInBounds_toArray, List.set_cons_zero, List.set_cons_succ]
       refine wpAnyH_ready (rs := [13]) (by kernel_rfl) (by simp) ?_
       refine AllReadyH.cons rfl (fun K hK => ?_) AllReadyH.nil
       go_simp
       rw [HW5.out]
       refine hK.out _ _ (HX.out _ K5) (fun hHeld => ?_)
       clear hK K
       try simp only [Act.put, List.getElem_toArray, List.getElem_cons_succ, List.getElem_cons_zero, List.setIfInBounds_toArray, List.set_cons_zero, List.set_cons_succ]
       refine wpAnyH_done (by kernel_rfl) ?_ _
       clear hHeld hrun hcl hfr y3
       have x5 := HX.out _ K5
       go_upto_region 15 with fail
       refine wp_region_held_drew (S := (fun w' : World => Kst V w' ∧ w'.cell? ⟨B, 0, none⟩ = some (.string r.nm) ∧ w'.cell? ⟨B, 1, none⟩ = some (.int .i64 r.ty) ∧ w'.cell? ⟨B, 2, none⟩ = some (.int .i64 r.cl) ∧ w'.cell? ⟨B, 3, none⟩ = some (.int .i64 r.tl) ∧ w'.cell? ⟨B, 4, none⟩ = some (.string r.dat))) (by kernel_rfl) (HX.out _ K5.drew) (fun hHeld => ?_)
       refine wU (i := 0) (v := ?vgcra_0) rfl ?ygcra_0 (by assumption) ?_
       case ygcra_0 => (intro w hSw; (try dsimp only at hSw); go_simp; try with_reducible rfl)
       refine wU (i := 1) (v := ?vgcra_1) rfl ?ygcra_1 (by assumption) ?_
       case ygcra_1 => (intro w hSw; (try dsimp only at hSw); go_simp; try with_reducible rfl)
       refine wU (i := 2) (v := ?vgcra_2) rfl ?ygcra_2 (by assumption) ?_
       case ygcra_2 => (intro w hSw; (try dsimp only at hSw); go_simp; try with_reducible rfl)
       refine wU (i := 3) (v := ?vgcra_3) rfl ?ygcra_3 (by assumption) ?_
       case ygcra_3 => (intro w hSw; (try dsimp only at hSw); go_simp; try with_reducible rfl)
       refine wU (i := 4) (v := ?vgcra_4) rfl ?ygcra_4 (by assumption) ?_
       case ygcra_4 => (intro w hSw; (try dsimp only at hSw); go_simp; try with_reducible rfl)
       refine wU (i := 5) (v := ?vgcra_5) rfl ?ygcra_5 (by assumption) ?_
       case ygcra_5 => (intro w hSw; (try dsimp only at hSw); go_simp; try with_reducible rfl)
       refine wU (i := 7) (v := ?vgcra_7) rfl ?ygcra_7 (by assumption) ?_
       case ygcra_7 => (intro w hSw; (try dsimp only at hSw); go_simp; try with_reducible rfl)
       refine wU (i := 8) (v := ?vgcra_8) rfl ?ygcra_8 (by assumption) ?_
       case ygcra_8 => (intro w hSw; (try dsimp only at hSw); go_simp; try with_reducible rfl)
       try simp only [Act.put, List.getElem_toArray, List.getElem_cons_succ, List.getElem_cons_zero, List.setIfInBounds_toArray, List.set_cons_zero, List.set_cons_succ]
       refine wpAnyH_ready (rs := [6, 9]) (by kernel_rfl) (by simp) ?_
       refine AllReadyH.cons rfl (fun K hK => ?_) (AllReadyH.cons rfl (fun K hK => ?_) AllReadyH.nil)
       ·go_simp
        refine hK.out _ _ (HX.out _ K5.drew) (fun hHeld => ?_)
        clear hK K
        try simp only [Act.put, List.getElem_toArray, List.getElem_cons_succ, List.getElem_cons_zero, List.setIfInBounds_toArray, List.set_cons_zero, List.set_cons_succ]
        refine wpAnyH_ready (rs := [9]) (by kernel_rfl) (by simp) ?_
        refine AllReadyH.cons rfl (fun K hK => ?_) AllReadyH.nil
        go_simp
        go_at_call 67
        refine (HTT.out _).mono ?_
        rintro e w9 ⟨rfl, rfl⟩
        refine hK.out _ _ (HX.out _ K5.drew) (fun hHeld => ?_)
        clear hK K
        try simp only [Act.put, List.getElem_toArray, List.getElem_cons_succ, List.getElem_cons_zero, List.setIfInBounds_toArray, List.set_cons_zero, List.set_cons_succ]
        refine wpAnyH_ready (rs := [10]) (by kernel_rfl) (by simp) ?_
        refine AllReadyH.cons rfl (fun K hK => ?_) AllReadyH.nil
        refine step_mn rfl _ _ rfl s.tl (ttl r) (min s.tl (ttl r)) rfl rfl (min_if _ _) ?_
        refine hK.out _ _ (HX.out _ K5.drew) (fun hHeld => ?_)
        clear hK K
        try simp only [Act.put, List.getElem_toArray, List.getElem_cons_succ, List.getElem_cons_zero, List.setIfInBounds_toArray, List.set_cons_zero, List.set_cons_succ]
        refine wU (i := 11) (v := ?vgcrbt_11) rfl ?ygcrbt_11 (by assumption) ?_
        case ygcrbt_11 => (intro w hSw; (try dsimp only at hSw); go_simp; try with_reducible rfl)
        refine wU (i := 12) (v := ?vgcrbt_12) rfl ?ygcrbt_12 (by assumption) ?_
        case ygcrbt_12 => (intro w hSw; (try dsimp only at hSw); go_simp; try with_reducible rfl)
        try simp only [Act.put, List.getElem_toArray, List.getElem_cons_succ, List.getElem_cons_zero, List.setIfInBounds_toArray, List.set_cons_zero, List.set_cons_succ]
        refine wpAnyH_ready (rs := [13]) (by kernel_rfl) (by simp) ?_
        refine AllReadyH.cons rfl (fun K hK => ?_) AllReadyH.nil
        go_simp
        refine hK.out _ _ (HX.out _ HE.out.2) (fun hHeld => ?_)
        clear hK K
        try simp only [Act.put, List.getElem_toArray, List.getElem_cons_succ, List.getElem_cons_zero, List.setIfInBounds_toArray, List.set_cons_zero, List.set_cons_succ]
        refine wpAnyH_done (by kernel_rfl) ?_ _
        have HE1 := Hid.mk HE.out.1
        clear hHeld HE y5
        go_wp2
        go_roundw
        case rel => exact ⟨i + 1, _, rfl, by omega, by first | rfl | go_num, HE1⟩
        case measure => simp [intOf]; omega
       ·go_simp
        go_at_call 67
        refine (HTT.out _).mono ?_
        rintro e w9 ⟨rfl, rfl⟩
        refine hK.out _ _ (HX.out _ K5.drew) (fun hHeld => ?_)
        clear hK K
        try simp only [Act.put, List.getElem_toArray, List.getElem_cons_succ, List.getElem_cons_zero, List.setIfInBounds_toArray, List.set_cons_zero, List.set_cons_succ]
        refine wpAnyH_ready (rs := [6]) (by kernel_rfl) (by simp) ?_
        refine AllReadyH.cons rfl (fun K hK => ?_) AllReadyH.nil
        go_simp
        refine hK.out _ _ (HX.out _ K5.drew) (fun hHeld => ?_)
        clear hK K
        try simp only [Act.put, List.getElem_toArray, List.getElem_cons_succ, List.getElem_cons_zero, List.setIfInBounds_toArray, List.set_cons_zero, List.set_cons_succ]
        refine wpAnyH_ready (rs := [10]) (by kernel_rfl) (by simp) ?_
        refine AllReadyH.cons rfl (fun K hK => ?_) AllReadyH.nil
        refine step_mn rfl _ _ rfl s.tl (ttl r) (min s.tl (ttl r)) rfl rfl (min_if _ _) ?_
        refine hK.out _ _ (HX.out _ K5.drew) (fun hHeld => ?_)
        clear hK K
        try simp only [Act.put, List.getElem_toArray, List.getElem_cons_succ, List.getElem_cons_zero, List.setIfInBounds_toArray, List.set_cons_zero, List.set_cons_succ]
        refine wU (i := 11) (v := ?vgcrct_11) rfl ?ygcrct_11 (by assumption) ?_
        case ygcrct_11 => (intro w hSw; (try dsimp only at hSw); go_simp; try with_reducible rfl)
        refine wU (i := 12) (v := ?vgcrct_12) rfl ?ygcrct_12 (by assumption) ?_
        case ygcrct_12 => (intro w hSw; (try dsimp only at hSw); go_simp; try with_reducible rfl)
        try simp only [Act.put, List.getElem_toArray, List.getElem_cons_succ, List.getElem_cons_zero, List.setIfInBounds_toArray, List.set_cons_zero, List.set_cons_succ]
        refine wpAnyH_ready (rs := [13]) (by kernel_rfl) (by simp) ?_
        refine AllReadyH.cons rfl (fun K hK => ?_) AllReadyH.nil
        go_simp
        refine hK.out _ _ (HX.out _ HE.out.2) (fun hHeld => ?_)
        clear hK K
        try simp only [Act.put, List.getElem_toArray, List.getElem_cons_succ, List.getElem_cons_zero, List.setIfInBounds_toArray, List.set_cons_zero, List.set_cons_succ]
        refine wpAnyH_done (by kernel_rfl) ?_ _
        have HE1 := Hid.mk HE.out.1
        clear hHeld HE y5
        go_wp2
        go_roundw
        case rel => exact ⟨i + 1, _, rfl, by omega, by first | rfl | go_num, HE1⟩
        case measure => simp [intOf]; omega
  ·have hlz : ¬ (i : Int) < (n : Int) := by omega
   have HF1 : Hid ((setsR l).length ≤ n ∧ ∀ s ∈ setsR l, s.ds.length ≤ n ∧ SG s) := by
    have := HF.out n (Nat.le_refl _)
    rw [List.take_of_length_le (by rw [HNL.out]; omega)] at this
    exact ⟨this.1, this.2.1⟩
   have HM1 : Hid (∃ ps : List Sg, PsOk l ps 0 ∧ Dk N W v ps wr) := by
    have := HM.out
    rw [List.take_of_length_le (by rw [HNL.out]; omega)] at this
    exact ⟨pz (setsR l), PsOk.first l, this⟩
   clear HM HF
   go_wp2
   go_loopw [9] (fun iv wr => ∃ i : Nat, i ≤ n ∧ iv = .int .i64 (i : Int) ∧ Hid (∃ ps : List Sg, PsOk l ps i ∧ Dk N W v ps wr)) (fun iv _ => n - (intOf iv).toNat)
   case atStart => exact ⟨0, Nat.zero_le _, rfl, HM1.out⟩
   case round =>
    obtain ⟨i, hi, rfl, HM⟩ := hrel
    clear HM1 hlz
    by_cases hlt : i < n
    ·have hlz : (i : Int) < (n : Int) := by omega
     obtain ⟨ps, hps, hdk⟩ := HM.out
     obtain ⟨b, off, rfl, r, hri, c0, c1, c2, c3, c4⟩ := HBL.out wr i hlt hdk.bel
     obtain ⟨o1, o2⟩ := HOK.out r (List.mem_of_getElem? hri.out)
     have HRR := Hid.mk (rrec_in r o1 o2)
     have hNr : N ≤ wr.heap.size := by rw [← HNN.out]; exact hdk.bel.size
     obtain ⟨V, hV⟩ : ∃ V, wr.alloc (.cells #[.string r.nm, .int .i64 r.ty, .int .i64 r.cl, .int .i64 r.tl, .string r.dat] 33) = V := ⟨_, rfl⟩
     have X0 : Bx wr wr.heap.size (rcL r) 33 V := hV ▸ Bx.new wr _ _
     have HV := Hid.mk hV
     have MV := Hid.mk (hdk.blk hNr X0.bel)
     obtain ⟨B, hB⟩ : ∃ B, wr.heap.size = B := ⟨_, rfl⟩
     have HB := Hid.mk hB
     rw [hB] at X0
     have HX : Hid (∀ w', Kst V w' → (fun w' : World => Kst V w' ∧ w'.cell? ⟨B, 0, none⟩ = some (.string r.nm) ∧ w'.cell? ⟨B, 1, none⟩ = some (.int .i64 r.ty) ∧ w'.cell? ⟨B, 2, none⟩ = some (.int .i64 r.cl) ∧ w'.cell? ⟨B, 3, none⟩ = some (.int .i64 r.tl) ∧ w'.cell? ⟨B, 4, none⟩ = some (.string r.dat)) w') := fun w' k => ⟨k, k.cell X0.hb (by decide) (by decide) (by decide) rfl, k.cell X0.hb (by decide) (by decide) (by decide) rfl, k.cell X0.hb (by decide) (by decide) (by decide) rfl, k.cell X0.hb (by decide) (by decide) (by decide) rfl, k.cell X0.hb (by decide) (by decide) (by decide) rfl⟩
     have hNV : N ≤ V.heap.size := by rw [← HNN.out]; exact MV.out.bel.size
     have wi : IntKind.i64.wrap ((i : Int) + 1) = ((i + 1 : Nat) : Int) := by rw [IntKind.wrap_i64]; omega
     have HPS : Hid (PsOk l ps i) := hps
     have HRM : Hid (r ∈ l) := List.mem_of_getElem? hri.out
     clear hV hB X0 HM hps hdk
     go_upto_region 20 with fail
     rw [HV.out, HB.out]
     have x0 := HX.out V (Kst.refl _)
     clear c0 c1 c2 c3 c4
     go_wp2_with fail
     refine (HRR.out _).mono ?_
     rintro e w1 ⟨rfl, hb1⟩
     have M1 := Hid.mk (MV.out.blk hNV hb1)
     have K1 := Kst.of_below hb1
     have hN1 : N ≤ w1.heap.size := Nat.le_trans hNV hb1.size
     have x1 := HX.out _ K1
     clear x0 hb1 MV
     cases hro : rOk r with
     | false =>
      have HE : Hid (∃ ps : List Sg, PsOk l ps (i + 1) ∧ Dk N W v ps w1) := ⟨ps, HPS.out.up, M1.out⟩
      go_wp2
      go_roundw
      case rel => exact ⟨i + 1, by omega, by first | rfl | go_num, HE⟩
      case measure => simp [intOf]; omega
     | true =>
      by_cases h46 : r.ty = 46
      ·have b46 : (r.ty != 46) = false := by rw [h46]; rfl
       obtain ⟨p1, p2, p3, p4⟩ := rOk_parts hro
       obtain ⟨q1, q2⟩ := lb_ok p1
       rw [h46] at p4
       have HSG := Hid.mk (refSig_in r.dat (by have := dRt_size p4; omega))
       have HD4 := Hid.mk p4
       have Q2 := Hid.mk q2
       clear p4 q2
       go_wp2_with fail
       refine (HSG.out _).mono ?_
       rintro e w2 ⟨hp, hb2⟩
       rcases hp with ⟨t0, t1, t2, t3, t4, t5, t6, t7, t8, hs1, rfl⟩ | ⟨hs1, rfl⟩
       ·obtain ⟨cv, hcv⟩ : ∃ cv : Int, ((numB t0.data.toList : Nat) : Int) = cv := ⟨_, rfl⟩
        rw [hcv]
        generalize ((numB t1.data.toList : Nat) : Int) = z1
        generalize ((numB t2.data.toList : Nat) : Int) = z2
        generalize ((numB t3.data.toList : Nat) : Int) = z3
        generalize ((numB t4.data.toList : Nat) : Int) = z4
        generalize ((numB t5.data.toList : Nat) : Int) = z5
        generalize ((numB t6.data.toList : Nat) : Int) = z6
        clear hcv hs1 HD4 HSG
        have M2 := Hid.mk (M1.out.blk hN1 hb2)
        have K2 := K1.blk hb2
        have hN2 : N ≤ w2.heap.size := Nat.le_trans hN1 hb2.size
        obtain ⟨Y, hY⟩ : ∃ Y, w2.alloc (.cells #[.int .i64 cv, .int .i64 z1, .int .i64 z2, .int .i64 z3, .int .i64 z4, .int .i64 z5, .int .i64 z6, .string t7, .string t8] 120) = Y := ⟨_, rfl⟩
        have bY : Below w2.heap.size w2 Y := hY ▸ (Below.refl _ _).alloc (Nat.le_refl _) _
        obtain ⟨D, hD⟩ : ∃ D, w2.heap.size = D := ⟨_, rfl⟩
        have y0 : Y.cell? ⟨D, 0, none⟩ = some (.int .i64 cv) := by
         have h0 : Y.heap[D]? = some (.cells #[.int .i64 cv, .int .i64 z1, .int .i64 z2, .int .i64 z3, .int .i64 z4, .int .i64 z5, .int .i64 z6, .string t7, .string t8] 120 (0, 0)) := by rw [← hY, ← hD]; exact heap_new _ _
         exact (cells_at h0 rfl).1
        have HY := Hid.mk hY
        have HD := Hid.mk hD
        have M3 := Hid.mk (M2.out.blk hN2 bY)
        have K3 := K2.blk bY
        have hN3 : N ≤ Y.heap.size := Nat.le_trans hN2 bY.size
        clear hY hD bY hb2 M2 M1 K2 K1 x1
        go_upto_region 23 with fail
        rw [HY.out, HD.out]
        have x3 := HX.out _ K3
        have HFD : Hid (Calls Tryz.prog 66 #[v, .string r.nm, .int .i64 cv, .int .i64 r.cl] Y fun e w' => ((fndP ps (lb r.nm) cv r.cl = none ∧ e = .returned (.int .i64 (-1))) ∨ ∃ k : Nat, fndP ps (lb r.nm) cv r.cl = some k ∧ e = .returned (.int .i64 (k : Int))) ∧ Below Y.heap.size Y w') := by
         obtain ⟨els, h1⟩ := M3.out.rs
         have := rfind_in h1 (fun p hp => (HF1.out.2 p.1 (by rw [← HPS.out.fst]; exact List.mem_map.2 ⟨p, hp, rfl⟩)).2.nm) (lb r.nm) q1 cv r.cl
         rw [← Q2.out] at this
         refine this.mono ?_
         rintro e w' ⟨rfl, hb⟩
         refine ⟨?_, hb⟩
         cases fndP ps (lb r.nm) cv r.cl with
         | none => exact .inl ⟨rfl, rfl⟩
         | some k => exact .inr ⟨k, rfl, rfl⟩
        clear q1 p1
        go_wp2_with fail
        refine HFD.out.mono ?_
        rintro e w4 ⟨hE, hb4⟩
        have M4 := Hid.mk (M3.out.blk hN3 hb4)
        have K4 := K3.blk hb4
        have hN4 : N ≤ w4.heap.size := Nat.le_trans hN3 hb4.size
        have x4 := HX.out _ K4
        clear x3 hb4 M3 K3 HFD y0
        rcases hE with ⟨hf, rfl⟩ | ⟨k, hf, rfl⟩
        ·have HE : Hid (∃ ps : List Sg, PsOk l ps (i + 1) ∧ Dk N W v ps w4) := ⟨ps, HPS.out.up, M4.out⟩
         clear hf
         go_wp2
         go_roundw
         case rel => exact ⟨i + 1, by omega, by first | rfl | go_num, HE⟩
         case measure => simp [intOf]; omega
        ·have hkl : k < ps.length := by
          unfold fndP at hf
          rw [List.findIdx?_eq_some_iff_getElem] at hf
          exact hf.1
         obtain ⟨g, cp, els, hv4, hel, h1, hke⟩ := M4.out.at k hkl
         have HBW4 := Hid.mk M4.out.bel
         have hat := h1.rel.at k hke hkl
         obtain ⟨qs, cs, hsv, htx, hsm⟩ := TxAt.of_own (hat.tx true)
         obtain ⟨sl, hsl⟩ : ∃ sl, (ps[k].tx true).length = sl := ⟨_, rfl⟩
         have fsl : sl ≤ i := by rw [← hsl]; exact HPS.out.few _ (List.getElem_mem hkl)
         replace hsv : els[k].sv = .slice qs sl cs := by rw [← hsl]; exact hsv
         obtain ⟨m, hm⟩ : ∃ m, els.length = m := ⟨_, rfl⟩
         have HML := Hid.mk hm
         rw [hm] at hv4
         clear M4
         subst hv4
         have hkm : (k : Int) < (m : Int) := by omega
         have hkm0 : (0 : Int) ≤ (k : Int) := by omega
         have hkneg : ¬ (k : Int) < 0 := by omega
         have h200 : ((sl : Int) == 200) = false := by rw [beq_eq_false_iff_ne]; omega
         have HROW : Hid (∀ w', Below w4.heap.size w4 w' → w'.cell? ⟨g, k * 6 + 5, none⟩ = some (.slice qs sl cs)) := fun w' hb => by
          obtain ⟨g', cap', e, _, hr⟩ := srow_form (h1.blk hb).row (by omega)
          simp only [Value.slice.injEq, Option.some.injEq, Addr.mk.injEq] at e
          obtain ⟨⟨rfl, _, _⟩, _, _⟩ := e
          rw [hr.cell k hke 5 (by decide), ← hsv]; rfl
         have HSTX : Hid (∀ j, j < sl → ∃ bs os, qs = some ⟨bs, os, none⟩ ∧ ∃ x : ByteArray, Hid (∀ w', Below w4.heap.size w4 w' → w'.cell? ⟨bs, os + j, none⟩ = some (.string x))) := fun j hj => by
          obtain ⟨bs, os, e, hlt2, hc⟩ := htx j (by rw [hsl]; exact hj)
          exact ⟨bs, os, e, _, fun w' hb => (hb.cell (p := ⟨bs, os + j, none⟩) hlt2).trans hc⟩
         have R4 := Hid.mk h1
         have HSV := Hid.mk hsv
         have HKE := Hid.mk hke
         have HSL := Hid.mk hsl
         have y40 := HROW.out _ (Below.refl _ _)
         clear hf h1 hsv hat htx hsm hel hsl hm
         go_wp2
         clear y40 x4
         go_loopw [15, 16] (fun tv jv wr2 => ∃ (j : Nat) (tw : Bool) (u : World), u = wr2 ∧ j ≤ sl ∧ tv = .bool tw ∧ jv = .int .i64 (j : Int) ∧ Hid (Below w4.heap.size w4 u)) (fun _ jv _ => sl - (intOf jv).toNat)
         case atStart => exact ⟨0, false, _, rfl, Nat.zero_le _, rfl, rfl, Below.refl _ _⟩
         case round =>
          obtain ⟨j, tw, u, rfl, hj, rfl, rfl, HB4⟩ := hrel
          have y4 := HROW.out _ HB4.out
          have K5 := K4.blk HB4.out
          have x5 := HX.out _ K5
          by_cases hjl : j < sl
          ·have hjz : (j : Int) < (sl : Int) := by omega
           have hjz0 : (0 : Int) ≤ (j : Int) := by omega
           obtain ⟨bs, os, rfl, x, HC⟩ := HSTX.out j hjl
           have wj : IntKind.i64.wrap ((j : Int) + 1) = ((j + 1 : Nat) : Int) := by rw [IntKind.wrap_i64]; omega
           have HXS : Hid (∀ w', Below w4.heap.size w4 w' → (fun w' : World => (Kst V w' ∧ w'.cell? ⟨B, 0, none⟩ = some (.string r.nm) ∧ w'.cell? ⟨B, 1, none⟩ = some (.int .i64 r.ty) ∧ w'.cell? ⟨B, 2, none⟩ = some (.int .i64 r.cl) ∧ w'.cell? ⟨B, 3, none⟩ = some (.int .i64 r.tl) ∧ w'.cell? ⟨B, 4, none⟩ = some (.string r.dat)) ∧ w'.cell? ⟨g, k * 6 + 5, none⟩ = some (.slice (some ⟨bs, os, none⟩) sl cs) ∧ w'.cell? ⟨bs, os + j, none⟩ = some (.string x)) w') := fun w' hb => ⟨HX.out _ (K4.blk hb), HROW.out _ hb, HC.out _ hb⟩
           cases tw with
           | true =>
            go_upto_region 29 with fail
            refine wp_region_held_drew (S := (fun w' : World => (Kst V w' ∧ w'.cell? ⟨B, 0, none⟩ = some (.string r.nm) ∧ w'.cell? ⟨B, 1, none⟩ = some (.int .i64 r.ty) ∧ w'.cell? ⟨B, 2, none⟩ = some (.int .i64 r.cl) ∧ w'.cell? ⟨B, 3, none⟩ = some (.int .i64 r.tl) ∧ w'.cell? ⟨B, 4, none⟩ = some (.string r.dat)) ∧ w'.cell? ⟨g, k * 6 + 5, none⟩ = some (.slice (some ⟨bs, os, none⟩) sl cs) ∧ w'.cell? ⟨bs, os + j, none⟩ = some (.string x))) (by kernel_rfl) (HXS.out _ HB4.out.drew) (fun hHeld => ?_)
            refine wU (i := 0) (v := ?vp_0) rfl ?yp_0 (by assumption) ?_
            case yp_0 => (intro w hSw; (try dsimp only at hSw); go_simp; try with_reducible rfl)
            refine wU (i := 1) (v := ?vp_1) rfl ?yp_1 (by assumption) ?_
            case yp_1 => (intro w hSw; (try dsimp only at hSw); go_simp; try with_reducible rfl)
            try simp only [Act.put, List.getElem_toArray, List.getElem_cons_succ, List.getElem_cons_zero, List.setIfInBounds_toArray, List.set_cons_zero, List.set_cons_succ]
            refine wT (i := 2) (v := undef) rfl (Or.inr ⟨by kernel_rfl, rfl⟩) (by assumption) ?_
            try simp only [Act.put, List.getElem_toArray, List.getElem_cons_succ, List.getElem_cons_zero, List.setIfInBounds_toArray, List.set_cons_zero, List.set_cons_succ]
            refine wT (i := 3) (v := undef) rfl (Or.inr ⟨by kernel_rfl, rfl⟩) (by assumption) ?_
            try simp only [Act.put, List.getElem_toArray, List.getElem_cons_succ, List.getElem_cons_zero, List.setIfInBounds_toArray, List.set_cons_zero, List.set_cons_succ]
            refine wT (i := 4) (v := undef) rfl (Or.inr ⟨by kernel_rfl, rfl⟩) (by assumption) ?_
            try simp only [Act.put, List.getElem_toArray, List.getElem_cons_succ, List.getElem_cons_zero, List.setIfInBounds_toArray, List.set_cons_zero, List.set_cons_succ]
            refine wT (i := 5) (v := undef) rfl (Or.inr ⟨by kernel_rfl, rfl⟩) (by assumption) ?_
            try simp only [Act.put, List.getElem_toArray, List.getElem_cons_succ, List.getElem_cons_zero, List.setIfInBounds_toArray, List.set_cons_zero, List.set_cons_succ]
            refine wT (i := 6) (v := undef) rfl (Or.inr ⟨by kernel_rfl, rfl⟩) (by assumption) ?_
            try simp only [Act.put, List.getElem_toArray, List.getElem_cons_succ, List.getElem_cons_zero, List.setIfInBounds_toArray, List.set_cons_zero, List.set_cons_succ]
            refine wT (i := 7) (v := undef) rfl (Or.inr ⟨by kernel_rfl, rfl⟩) (by assumption) ?_
            try simp only [Act.put, List.getElem_toArray, List.getElem_cons_succ, List.getElem_cons_zero, List.setIfInBounds_toArray, List.set_cons_zero, List.set_cons_succ]
            refine wT (i := 8) (v := undef) rfl (Or.inr ⟨by kernel_rfl, rfl⟩) (by assumption) ?_
            try simp only [Act.put, List.getElem_toArray, List.getElem_cons_succ, List.getElem_cons_zero, List.setIfInBounds_toArray, List.set_cons_zero, List.set_cons_succ]
            refine wT (i := 9) (v := undef) rfl (Or.inr ⟨by kernel_rfl, rfl⟩) (by assumption) ?_
            try simp only [Act.put, List.getElem_toArray, List.getElem_cons_succ, List.getElem_cons_zero, List.setIfInBounds_toArray, List.set_cons_zero, List.set_cons_succ]
            refine wT (i := 10) (v := undef) rfl (Or.inr ⟨by kernel_rfl, rfl⟩) (by assumption) ?_
            try simp only [Act.put, List.getElem_toArray, List.getElem_cons_succ, List.getElem_cons_zero, List.setIfInBounds_toArray, List.set_cons_zero, List.set_cons_succ]
            refine wT (i := 11) (v := undef) rfl (Or.inr ⟨by kernel_rfl, rfl⟩) (by assumption) ?_
            try simp only [Act.put, List.getElem_toArray, List.getElem_cons_succ, List.getElem_cons_zero, List.setIfInBounds_toArray, List.set_cons_zero, List.set_cons_succ]
            refine wT (i := 12) (v := undef) rfl (Or.inr ⟨by kernel_rfl, rfl⟩) (by assumption) ?_
            try simp only [Act.put, List.getElem_toArray, List.getElem_cons_succ, List.getElem_cons_zero, List.setIfInBounds_toArray, List.set_cons_zero, List.set_cons_succ]
            refine wU (i := 13) (v := ?vq_13) rfl ?yq_13 (by assumption) ?_
            case yq_13 => (intro w hSw; (try dsimp only at hSw); go_simp; try with_reducible rfl)
            refine wU (i := 14) (v := ?vq_14) rfl ?yq_14 (by assumption) ?_
            case yq_14 => (intro w hSw; (try dsimp only at hSw); go_simp; try with_reducible rfl)
            try simp only [Act.put, List.getElem_toArray, List.getElem_cons_succ, List.getElem_cons_zero, List.setIfInBounds_toArray, List.set_cons_zero, List.set_cons_succ]
            refine wpAnyH_done (by kernel_rfl) ?_ _
            clear hHeld y4 x5
            go_wp2
            go_roundw
            case rel => exact ⟨j + 1, true, _, rfl, by omega, rfl, by first | rfl | go_num, HB4.out.drew⟩
            case measure => simp [intOf]; omega
           | false =>
            go_upto_region 29 with fail
            refine wp_region_held_drew (S := (fun w' : World => (Kst V w' ∧ w'.cell? ⟨B, 0, none⟩ = some (.string r.nm) ∧ w'.cell? ⟨B, 1, none⟩ = some (.int .i64 r.ty) ∧ w'.cell? ⟨B, 2, none⟩ = some (.int .i64 r.cl) ∧ w'.cell? ⟨B, 3, none⟩ = some (.int .i64 r.tl) ∧ w'.cell? ⟨B, 4, none⟩ = some (.string r.dat)) ∧ w'.cell? ⟨g, k * 6 + 5, none⟩ = some (.slice (some ⟨bs, os, none⟩) sl cs) ∧ w'.cell? ⟨bs, os + j, none⟩ = some (.string x))) (by kernel_rfl) (HXS.out _ HB4.out.drew) (fun hHeld => ?_)
            refine wU (i := 0) (v := ?vs_0) rfl ?ys_0 (by assumption) ?_
            case ys_0 => (intro w hSw; (try dsimp only at hSw); go_simp; try with_reducible rfl)
            refine wU (i := 1) (v := ?vs_1) rfl ?ys_1 (by assumption) ?_
            case ys_1 => (intro w hSw; (try dsimp only at hSw); go_simp; try with_reducible rfl)
            refine wU (i := 2) (v := ?vs_2) rfl ?ys_2 (by assumption) ?_
            case ys_2 => (intro w hSw; (try dsimp only at hSw); go_simp; try with_reducible rfl)
            refine wU (i := 3) (v := ?vs_3) rfl ?ys_3 (by assumption) ?_
            case ys_3 => (intro w hSw; (try dsimp only at hSw); go_simp; try with_reducible rfl)
            refine wU (i := 4) (v := ?vs_4) rfl ?ys_4 (by assumption) ?_
            case ys_4 => (intro w hSw; (try dsimp only at hSw); go_simp; try with_reducible rfl)
            refine wU (i := 5) (v := ?vs_5) rfl ?ys_5 (by assumption) ?_
            case ys_5 => (intro w hSw; (try dsimp only at hSw); go_simp; try with_reducible rfl)
            refine wU (i := 6) (v := ?vs_6) rfl ?ys_6 (by assumption) ?_
            case ys_6 => (intro w hSw; (try dsimp only at hSw); go_simp; try with_reducible rfl)
            refine wU (i := 7) (v := ?vs_7) rfl ?ys_7 (by assumption) ?_
            case ys_7 => (intro w hSw; (try dsimp only at hSw); go_simp; try with_reducible rfl)
            refine wU (i := 8) (v := ?vs_8) rfl ?ys_8 (by assumption) ?_
            case ys_8 => (intro w hSw; (try dsimp only at hSw); go_simp; try with_reducible rfl)
            refine wU (i := 9) (v := ?vs_9) rfl ?ys_9 (by assumption) ?_
            case ys_9 => (intro w hSw; (try dsimp only at hSw); go_simp; try with_reducible rfl)
            refine wU (i := 10) (v := ?vs_10) rfl ?ys_10 (by assumption) ?_
            case ys_10 => (intro w hSw; (try dsimp only at hSw); go_simp; try with_reducible rfl)
            refine wU (i := 11) (v := ?vs_11) rfl ?ys_11 (by assumption) ?_
            case ys_11 => (intro w hSw; (try dsimp only at hSw); go_simp; try with_reducible rfl)
            refine wU (i := 12) (v := ?vs_12) rfl ?ys_12 (by assumption) ?_
            case ys_12 => (intro w hSw; (try dsimp only at hSw); go_simp; try with_reducible rfl)
            refine wU (i := 13) (v := ?vs_13) rfl ?ys_13 (by assumption) ?_
            case ys_13 => (intro w hSw; (try dsimp only at hSw); go_simp; try with_reducible rfl)
            refine wU (i := 14) (v := ?vs_14) rfl ?ys_14 (by assumption) ?_
            case ys_14 => (intro w hSw; (try dsimp only at hSw); go_simp; try with_reducible rfl)
            try simp only [Act.put, List.getElem_toArray, List.getElem_cons_succ, List.getElem_cons_zero, List.setIfInBounds_toArray, List.set_cons_zero, List.set_cons_succ]
            refine wpAnyH_done (by kernel_rfl) ?_ _
            clear hHeld y4 x5
            go_wp2
            go_roundw
            case rel => exact ⟨j + 1, (x.toList == r.dat.toList), _, rfl, by omega, rfl, by first | rfl | go_num, HB4.out.drew⟩
            case measure => simp [intOf]; omega
          ·have hjz : ¬ (j : Int) < (sl : Int) := by omega
           have hN5 : N ≤ u.heap.size := Nat.le_trans hN4 HB4.out.size
           have HBW5 := Hid.mk (HBW4.out.trans (HB4.out.mono hN4))
           cases tw with
           | true =>
            have HE : Hid (∃ ps : List Sg, PsOk l ps (i + 1) ∧ Dk N W (.slice (some ⟨g, 0, none⟩) m cp) ps u) := ⟨ps, HPS.out.up, ⟨els, by rw [← HML.out]; exact R4.out.blk HB4.out⟩, HBW5.out⟩
            go_wp2
            go_roundw
            case rel => exact ⟨i + 1, by omega, by first | rfl | go_num, HE⟩
            case measure => simp [intOf]; omega
           | false =>
            have hl1 : (ps[k].tx true).length ≤ 1000 := by rw [HSL.out]; omega
            obtain ⟨v', w6, hrun0, hcell, hfz, ⟨q', c', hv'⟩, HG⟩ := ((R4.out.blk HB4.out).blk (Below.refl _ _).drew).app hN5 k HKE.out hkl true hl1 r.dat
            rw [HSL.out] at hv'
            have hrun : (bAppD #[.slice qs sl cs, .slice (some ⟨u.heap.size, 0, none⟩) 1 1]).run Tryz.prog (u.alloc (.cells #[.string r.dat] 9)).drew = .ok v' w6 := by
             rw [← HSV.out]
             exact hrun0
            have hcl : w6.cell? ⟨g, k * 6 + 5, none⟩ = some (.slice qs sl cs) := by
             rw [← HSV.out]
             exact hcell
            have hfr : w6.frozen? ⟨g, k * 6 + 5, none⟩ = false := hfz
            have K6 : Kst V w6 := K5.drew.trans HG.out.2.2.2.2.1
            have HE : Hid ((∃ ps : List Sg, PsOk l ps (i + 1) ∧ Dk N W (.slice (some ⟨g, 0, none⟩) m cp) ps (w6.setCell ⟨g, k * 6 + 5, none⟩ v')) ∧ Kst V (w6.setCell ⟨g, k * 6 + 5, none⟩ v')) := by
             exact ⟨⟨ps.set k (ps[k].put true (ps[k].tx true ++ [r.dat])), HPS.out.more hkl HRM.out h46 (by rw [HSL.out]; exact fsl), ⟨_, by rw [← HML.out]; exact HG.out.1⟩, HBW5.out.drew.trans HG.out.2.1⟩, K5.drew.trans HG.out.2.2.2.2.2⟩
            have HY4 := Hid.mk (HROW.out _ (HB4.out.alloc HB4.out.size (.cells #[.string r.dat] 9)))
            clear hrun0 hcell hfz HG hl1
            subst hv'
            go_upto_region 31 with fail
            refine wp_region_held_drew (S := (fun w' : World => Kst V w' ∧ w'.cell? ⟨B, 0, none⟩ = some (.string r.nm) ∧ w'.cell? ⟨B, 1, none⟩ = some (.int .i64 r.ty) ∧ w'.cell? ⟨B, 2, none⟩ = some (.int .i64 r.cl) ∧ w'.cell? ⟨B, 3, none⟩ = some (.int .i64 r.tl) ∧ w'.cell? ⟨B, 4, none⟩ = some (.string r.dat))) (by kernel_rfl) (HX.out _ K5.drew) (fun hHeld => ?_)
            refine wU (i := 0) (v := ?vha_0) rfl ?yha_0 (by assumption) ?_
            case yha_0 => (intro w hSw; (try dsimp only at hSw); go_simp; try with_reducible rfl)
            refine wU (i := 1) (v := ?vha_1) rfl ?yha_1 (by assumption) ?_
            case yha_1 => (intro w hSw; (try dsimp only at hSw); go_simp; try with_reducible rfl)
            refine wU (i := 2) (v := ?vha_2) rfl ?yha_2 (by assumption) ?_
            case yha_2 => (intro w hSw; (try dsimp only at hSw); go_simp; try with_reducible rfl)
            refine wU (i := 3) (v := ?vha_3) rfl ?yha_3 (by assumption) ?_
            case yha_3 => (intro w hSw; (try dsimp only at hSw); go_simp; try with_reducible rfl)
            refine wU (i := 4) (v := ?vha_4) rfl ?yha_4 (by assumption) ?_
            case yha_4 => (intro w hSw; (try dsimp only at hSw); go_simp; try with_reducible rfl)
            refine wU (i := 5) (v := ?vha_5) rfl ?yha_5 (by assumption) ?_
            case yha_5 => (intro w hSw; (try dsimp only at hSw); go_simp; try with_reducible rfl)
            refine wU (i := 7) (v := ?vha_7) rfl ?yha_7 (by assumption) ?_
            case yha_7 => (intro w hSw; (try dsimp only at hSw); go_simp; try with_reducible rfl)
            refine wU (i := 8) (v := ?vha_8) rfl ?yha_8 (by assumption) ?_
            case yha_8 => (intro w hSw; (try dsimp only at hSw); go_simp; try with_reducible rfl)
            try simp only [Act.put, List.getElem_toArray, List.getElem_cons_succ, List.getElem_cons_zero, List.setIfInBounds_toArray, List.set_cons_zero, List.set_cons_succ]
            refine wpAnyH_ready (rs := [6, 9]) (by kernel_rfl) (by simp) ?_
            refine AllReadyH.cons rfl (fun K hK => ?_) (AllReadyH.cons rfl (fun K hK => ?_) AllReadyH.nil)
            ·go_simp
             refine hK.out _ _ (HX.out _ K5.drew) (fun hHeld => ?_)
             clear hK K
             try simp only [Act.put, List.getElem_toArray, List.getElem_cons_succ, List.getElem_cons_zero, List.setIfInBounds_toArray, List.set_cons_zero, List.set_cons_succ]
             refine wpAnyH_ready (rs := [9]) (by kernel_rfl) (by simp) ?_
             refine AllReadyH.cons rfl (fun K hK => ?_) AllReadyH.nil
             go_simp
             refine hK.out _ _ (HX.out _ (K5.alloc _).drew) (fun hHeld => ?_)
             clear hK K
             try simp only [Act.put, List.getElem_toArray, List.getElem_cons_succ, List.getElem_cons_zero, List.setIfInBounds_toArray, List.set_cons_zero, List.set_cons_succ]
             refine wpAnyH_ready (rs := [10]) (by kernel_rfl) (by simp) ?_
             refine AllReadyH.cons rfl (fun K hK => ?_) AllReadyH.nil
             refine step_appd rfl _ _ rfl rfl _ _ _ _ rfl rfl hrun ?_
             refine hK.out _ _ (HX.out _ K6) (fun hHeld => ?_)
             clear hK K
             try simp only [Act.put, List.getElem_toArray, List.getElem_cons_succ, List.getElem_cons_zero, List.setIfInBounds_toArray, List.set_cons_zero, List.set_cons_succ]
             refine wU (i := 11) (v := ?vhbt_11) rfl ?yhbt_11 (by assumption) ?_
             case yhbt_11 => (intro w hSw; (try dsimp only at hSw); go_simp; try with_reducible rfl)
             refine wU (i := 12) (v := ?vhbt_12) rfl ?yhbt_12 (by assumption) ?_
             case yhbt_12 => (intro w hSw; (try dsimp only at hSw); go_simp; try with_reducible rfl)
             try simp only [Act.put, List.getElem_toArray, List.getElem_cons_succ, List.getElem_cons_zero, List.setIfInBounds_toArray, List.set_cons_zero, List.set_cons_succ]
             refine wpAnyH_ready (rs := [13]) (by kernel_rfl) (by simp) ?_
             refine AllReadyH.cons rfl (fun K hK => ?_) AllReadyH.nil
             go_simp
             refine hK.out _ _ (HX.out _ HE.out.2) (fun hHeld => ?_)
             clear hK K
             try simp only [Act.put, List.getElem_toArray, List.getElem_cons_succ, List.getElem_cons_zero, List.setIfInBounds_toArray, List.set_cons_zero, List.set_cons_succ]
             refine wpAnyH_done (by kernel_rfl) ?_ _
             have HE1 := Hid.mk HE.out.1
             clear hHeld hrun hcl hfr HE y4 x5
             go_wp2
             go_roundw
             case rel => exact ⟨i + 1, by omega, by first | rfl | go_num, HE1⟩
             case measure => simp [intOf]; omega
            ·go_simp
             refine hK.out _ _ (HX.out _ (K5.alloc _).drew) (fun hHeld => ?_)
             clear hK K
             try simp only [Act.put, List.getElem_toArray, List.getElem_cons_succ, List.getElem_cons_zero, List.setIfInBounds_toArray, List.set_cons_zero, List.set_cons_succ]
             have y6 := HY4.out
             refine wpAnyH_ready (rs := [6]) (by kernel_rfl) (by simp) ?_
             refine AllReadyH.cons rfl (fun K hK => ?_) AllReadyH.nil
             go_simp
             refine hK.out _ _ (HX.out _ (K5.alloc _).drew) (fun hHeld => ?_)
             clear hK K y6
             try simp only [Act.put, List.getElem_toArray, List.getElem_cons_succ, List.getElem_cons_zero, List.setIfInBounds_toArray, List.set_cons_zero, List.set_cons_succ]
             refine wpAnyH_ready (rs := [10]) (by kernel_rfl) (by simp) ?_
             refine AllReadyH.cons rfl (fun K hK => ?_) AllReadyH.nil
             refine step_appd rfl _ _ rfl rfl _ _ _ _ rfl rfl hrun ?_
             refine hK.out _ _ (HX.out _ K6) (fun hHeld => ?_)
             clear hK K
             try simp only [Act.put, List.getElem_toArray, List.getElem_cons_succ, List.getElem_cons_zero, List.setIfInBounds_toArray, List.set_cons_zero, List.set_cons_succ]
             refine wU (i := 11) (v := ?vhct_11) rfl ?yhct_11 (by assumption) ?_
             case yhct_11 => (intro w hSw; (try dsimp only at hSw); go_simp; try with_reducible rfl)
             refine wU (i := 12) (v := ?vhct_12) rfl ?yhct_12 (by assumption) ?_
             case yhct_12 => (intro w hSw; (try dsimp only at hSw); go_simp; try with_reducible rfl)
             try simp only [Act.put, List.getElem_toArray, List.getElem_cons_succ, List.getElem_cons_zero, List.setIfInBounds_toArray, List.set_cons_zero, List.set_cons_succ]
             refine wpAnyH_ready (rs := [13]) (by kernel_rfl) (by simp) ?_
             refine AllReadyH.cons rfl (fun K hK => ?_) AllReadyH.nil
             go_simp
             refine hK.out _ _ (HX.out _ HE.out.2) (fun hHeld => ?_)
             clear hK K
             try simp only [Act.put, List.getElem_toArray, List.getElem_cons_succ, List.getElem_cons_zero, List.setIfInBounds_toArray, List.set_cons_zero, List.set_cons_succ]
             refine wpAnyH_done (by kernel_rfl) ?_ _
             have HE1 := Hid.mk HE.out.1
             clear hHeld hrun hcl hfr HE y4 x5
             go_wp2
             go_roundw
             case rel => exact ⟨i + 1, by omega, by first | rfl | go_num, HE1⟩
             case measure => simp [intOf]; omega
       ·have := HD4.out
        rw [dRt, hs1] at this
        cases this
      ·have b46 : (r.ty != 46) = true := by rw [bne_iff_ne]; exact h46
       have HE : Hid (∃ ps : List Sg, PsOk l ps (i + 1) ∧ Dk N W v ps w1) := ⟨ps, HPS.out.up, M1.out⟩
       clear h46
       go_wp2
       go_roundw
       case rel => exact ⟨i + 1, by omega, by first | rfl | go_num, HE⟩
       case measure => simp [intOf]; omega
    ·have hlz : ¬ (i : Int) < (n : Int) := by omega
     have HE : Hid (∃ ps : List Sg, Dk N W v ps wr ∧ PsOk l ps n) := by
      obtain ⟨ps, h1, h3⟩ := HM.out
      have hin : i = n := by omega
      rw [hin] at h1
      exact ⟨ps, h3, h1⟩
     clear HM
     go_wp2
     go_ret
     obtain ⟨ps, h1, h2⟩ := HE.out
     first | exact ⟨v, ps, rfl, h1, h2⟩ | exact ⟨v, rfl, ps, h1, h2⟩
end Go.Proofs.YtdlcldjlfhmlgaaGreatDoor
