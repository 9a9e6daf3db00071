/- Texts of this proof, joined: CSumAB, CTaken, CEcF, CNG, CLaid, CTops. -/
import Derived.Test.YtmjenhilafdioaaDoorJ15
import Derived.Test.YtmjenhilafdioaaDoorJ14
import Derived.OpenShut
import Derived.WalkKit
import Derived.ProofKit
import Derived.Lib.LaidTab
import Derived.Deep.DeepHandedRow
import Derived.Test.YtmjenhilafdioaaDoorTie
import Derived.Test.YtmjenhilafdioaaDoorCards
import Derived.Test.YtmjenhilafdioaaDoorJ13
/- sum of two that are somewhere. -/
namespace Go.Proofs.YtmjenhilafdioaaDoor
set_option linter.unusedVariables false
set_option linter.unusedSimpArgs false
open Go.RowKit N
attribute [local go_sem ↓] N.loadAt_nat N.storeAt_nat N.build_nat N.build_nat' loadAt_pt storeAt_pt build_pt0 build_pt0' build_pt'
attribute [local go_sem] N.st1 N.st2a N.st2b N.st1d N.st2ad N.st2bd N.natBuild_run ptst1 ptst1d ptBuild0_run build_pt ptBuild_run
attribute [local go_sem ↓] bin_nat bin_pt
set_option maxRecDepth 100000 in
set_option maxHeartbeats 40000000 in
theorem sum_ab {c mp mn : Nat} (a b : T3) (W : World) (C : Cv W c mp mn) (ha : a.Ok) (hbo : b.Ok) (ha0 : a ≠ T3.zero) (hb0 : b ≠ T3.zero) :
    Calls Tryd.prog 30 #[boxM c, .agg (ptL a).toArray, .agg (ptL b).toArray] W fun e w' => e = .returned (.agg (ptL (a.sum b)).toArray) ∧ Below W.heap.size W w' := by
  have HA : Hid (∀ w, Calls Tryd.prog 20 #[.agg (ptL a).toArray] w fun e w' => e = .returned (.bool false) ∧ Below w.heap.size w w') := fun w => (nowhere_in a ha.lm w).mono fun e w' ⟨he, hb⟩ => ⟨by rw [he, decide_eq_false ha0], hb⟩
  have HB : Hid (∀ w, Calls Tryd.prog 20 #[.agg (ptL b).toArray] w fun e w' => e = .returned (.bool false) ∧ Below w.heap.size w w') := fun w => (nowhere_in b hbo.lm w).mono fun e w' ⟨he, hb⟩ => ⟨by rw [he, decide_eq_false hb0], hb⟩
  have hs : a.sum b = if a.scl b.z = b.scl a.z then (a.scl b.z).twice else if a.scl b.z = (b.scl a.z).opp then T3.zero else (a.scl b.z).third (b.scl a.z) (mminus (b.scl a.z).y (a.scl b.z).y) (mminus (b.scl a.z).x (a.scl b.z).x) := by
    unfold T3.sum
    rw [if_neg ha0, if_neg hb0]
  rw [hs]
  clear hs ha0 hb0
  have H1 : Hid (∀ w, Cv w c mp mn → Calls Tryd.prog 52 #[boxM c, .agg (ptL a).toArray, .agg (N.natL b.z).toArray] w fun e w' => e = .returned (.agg (ptL (a.scl b.z)).toArray) ∧ Below w.heap.size w w') := fun w h => scaled_in a b.z w h ha hbo.2.2
  have H2 : Hid (∀ w, Cv w c mp mn → Calls Tryd.prog 52 #[boxM c, .agg (ptL b).toArray, .agg (N.natL a.z).toArray] w fun e w' => e = .returned (.agg (ptL (b.scl a.z)).toArray) ∧ Below w.heap.size w w') := fun w h => scaled_in b a.z w h hbo ha.2.2
  have hp := a.scl_ok b.z
  have hq := b.scl_ok a.z
  obtain ⟨p, E_p⟩ : ∃ d, Hid (a.scl b.z = d) := ⟨_, Hid.mk rfl⟩
  obtain ⟨q, E_q⟩ : ∃ d, Hid (b.scl a.z = d) := ⟨_, Hid.mk rfl⟩
  rw [E_p.out] at H1 hp ⊢
  rw [E_q.out] at H2 hq ⊢
  obtain ⟨R, E_R⟩ : ∃ R, Hid ((if p = q then p.twice else if p = q.opp then T3.zero else p.third q (mminus q.y p.y) (mminus q.x p.x)) = R) := ⟨_, Hid.mk rfl⟩
  rw [E_R.out]
  have hzp := zeroPt
  obtain ⟨V, hV, F⟩ : ∃ V, (((W.alloc (Obj.cells (ptL a).toArray 41 (0, 0))).alloc (Obj.cells (ptL b).toArray 41 (0, 0))).alloc (Obj.cells (ptL (T3.zero)).toArray 41 (0, 0))) = V ∧ Fm W [(W.heap.size + 2, Obj.cells (ptL (T3.zero)).toArray 41 (0, 0)), (W.heap.size + 1, Obj.cells (ptL b).toArray 41 (0, 0)), (W.heap.size, Obj.cells (ptL a).toArray 41 (0, 0))] V := ⟨_, rfl, Fm.box3 W _ _ _⟩
  have l4 := ptLoad_run (F.get 2 rfl)
  go_enter Tryd.func30, Tryd.ntmps30
  go_wp2_with fail
  refine (HA.out _).mono ?_
  rintro e u1 ⟨rfl, hb⟩
  replace F := F.blk hb
  clear hb l4 hV
  simp only [Nat.add_assoc, Nat.reduceAdd]
  have l5 := ptLoad_run (F.get 1 rfl)
  go_wp2_with fail
  refine (HB.out _).mono ?_
  rintro e u2 ⟨rfl, hb⟩
  replace F := F.blk hb
  clear hb l5 HA HB
  go_upto_region 5 with fail
  go_cut [] (fun wx => Fm W [(W.heap.size + 2, Obj.cells (ptL (T3.zero)).toArray 41 (0, 0)), (W.heap.size + 1, Obj.cells (ptL q).toArray 41 (0, 0)), (W.heap.size, Obj.cells (ptL p).toArray 41 (0, 0))] wx)
  case first =>
    have kA : (ptLoad (.pointer (some ⟨W.heap.size, 0, none⟩))).run Tryd.prog u2.drew = .ok (.agg (ptL a).toArray) u2.drew := ptLoad_run (F.get 2 rfl)
    have kB : (ptLoad (.pointer (some ⟨W.heap.size + 1, 0, none⟩))).run Tryd.prog u2.drew = .ok (.agg (ptL b).toArray) u2.drew := ptLoad_run (F.get 1 rfl)
    have kz : (N.natLoad (.pointer (some ⟨W.heap.size + 1, 258, none⟩))).run Tryd.prog u2.drew = .ok (.agg (N.natL b.z).toArray) u2.drew := ptZ (F.get 1 rfl)
    have ky : (N.natLoad (.pointer (some ⟨W.heap.size, 258, none⟩))).run Tryd.prog u2.drew = .ok (.agg (N.natL a.z).toArray) u2.drew := ptZ (F.get 2 rfl)
    go_region_with (first
      | (go_at_call 52; with_reducible refine (H1.out _ (F.drew.cv C)).mono ?_; rintro e w2 ⟨rfl, hb2⟩; have F2 := Fm.blk F.drew hb2; have mB := ptLoad_run (F2.get 1 rfl); have my := ptZ (F2.get 2 rfl); clear hb2 kA kz)
      | (go_at_call 52; with_reducible refine (H2.out _ (F2.cv C)).mono ?_; rintro e w3 ⟨rfl, hb3⟩; have F3 := Fm.blk F2 hb3; have F4 := F3.put 2 (ptL p).toArray rfl; have F5 := F4.put 1 (ptL q).toArray rfl; have sA := fun v => ptStore_run (c := v) (F3.get 2 rfl); have sB := fun v => ptStore_run (c := v) (F4.get 1 rfl); clear hb3))
    all_goals go_wp2
    all_goals go_meet
    all_goals exact F5
  case rest =>
    clear F H1 H2
    by_cases hpq : p = q
    · have HR : Hid (R = p.twice) := by rw [Hid, ← E_R.out, if_pos hpq]
      have he : (ptEqV (.agg (ptL p).toArray) (.agg (ptL q).toArray)).run Tryd.prog wc = .ok (.bool true) wc := by rw [show ptEqV (.agg (ptL p).toArray) (.agg (ptL q).toArray) = binOp .eql 41 (.agg (ptL p).toArray) (.agg (ptL q).toArray) from rfl, eqPt wc p q hp.lm hq.lm, decide_eq_true hpq]
      have H3 : Hid (∀ w, Cv w c mp mn → Calls Tryd.prog 51 #[boxM c, .agg (ptL p).toArray] w fun e w' => e = .returned (.agg (ptL p.twice).toArray) ∧ Below w.heap.size w w') := fun w h => twice_in p w h hp
      generalize p.twice = d at H3 HR
      clear hpq
      have l4 := ptLoad_run (hcut.get 2 rfl)
      have l5 := ptLoad_run (hcut.get 1 rfl)
      go_wp2_with fail
      refine (H3.out _ (hcut.cv C)).mono ?_
      rintro e u3 ⟨rfl, hb⟩
      replace hcut := hcut.blk hb
      clear hb l4 l5 he
      have s6 := fun v => ptStore_run (c := v) (hcut.get 0 rfl)
      have F4 := hcut.put 0 (ptL d).toArray rfl
      go_wp2
      exact bodyPost_ret (results_pt Tryd.results30 rfl (F4.get 0 rfl)) rfl ⟨by rw [HR.out], F4.bel⟩
    · have HR : Hid (R = if p = q.opp then T3.zero else p.third q (mminus q.y p.y) (mminus q.x p.x)) := by rw [Hid, ← E_R.out, if_neg hpq]
      have he : (ptEqV (.agg (ptL p).toArray) (.agg (ptL q).toArray)).run Tryd.prog wc = .ok (.bool false) wc := by rw [show ptEqV (.agg (ptL p).toArray) (.agg (ptL q).toArray) = binOp .eql 41 (.agg (ptL p).toArray) (.agg (ptL q).toArray) from rfl, eqPt wc p q hp.lm hq.lm, decide_eq_false hpq]
      clear hpq
      have l4 := ptLoad_run (hcut.get 2 rfl)
      have l5 := ptLoad_run (hcut.get 1 rfl)
      go_upto_region 8 with fail
      clear l4 l5 he
      have H3 : Hid (∀ w, Cv w c mp mn → Calls Tryd.prog 53 #[boxM c, .agg (ptL q).toArray] w fun e w' => e = .returned (.agg (ptL q.opp).toArray) ∧ Below w.heap.size w w') := fun w h => opposite_in q w h hq
      have ho := (T3.opp_ok hq).lm
      obtain ⟨r, E_r⟩ : ∃ d, Hid (q.opp = d) := ⟨_, Hid.mk rfl⟩
      rw [E_r.out] at H3 ho HR
      obtain ⟨D, hD⟩ : ∃ D, decide (p = r) = D := ⟨_, rfl⟩
      have HE : Hid (∀ w, (ptEqV (.agg (ptL p).toArray) (.agg (ptL r).toArray)).run Tryd.prog w = .ok (.bool D) w) := fun w => (eqPt w p r hp.lm ho).trans (by rw [hD])
      have hcut0 := hcut
      obtain ⟨L, hL⟩ : ∃ L : List (Nat × Obj), [(W.heap.size + 2, Obj.cells (ptL (T3.zero)).toArray 41 (0, 0)), (W.heap.size + 1, Obj.cells (ptL q).toArray 41 (0, 0)), (W.heap.size, Obj.cells (ptL p).toArray 41 (0, 0))] = L := ⟨_, rfl⟩
      rw [hL] at hcut
      have HS : Hid (∀ w, Fm W L w → Fm W L w ∧ (ptLoad (.pointer (some ⟨W.heap.size, 0, none⟩))).run Tryd.prog w = .ok (.agg (ptL p).toArray) w ∧ (ptLoad (.pointer (some ⟨W.heap.size + 1, 0, none⟩))).run Tryd.prog w = .ok (.agg (ptL q).toArray) w ∧ (ptEqV (.agg (ptL p).toArray) (.agg (ptL r).toArray)).run Tryd.prog w = .ok (.bool D) w) := fun w h => ⟨h, ptLoad_run (h.get 2 (by rw [← hL]; rfl)), ptLoad_run (h.get 1 (by rw [← hL]; rfl)), HE.out w⟩
      have H4 : Hid (∀ w, Fm W L w → Calls Tryd.prog 53 #[boxM c, .agg (ptL q).toArray] w fun e w' => e = .returned (.agg (ptL r).toArray) ∧ Below w.heap.size w w') := fun w h => H3.out w (h.cv C)
      have hS0 := HS.out _ hcut
      clear hcut0
      cases D with
      | true =>
        replace HR : Hid (R = T3.zero) := by rw [Hid, HR.out, if_pos (of_decide_eq_true hD)]
        clear hD
        go_region_held3 (fun w => Fm W L w ∧ (ptLoad (.pointer (some ⟨W.heap.size, 0, none⟩))).run Tryd.prog w = .ok (.agg (ptL p).toArray) w ∧ (ptLoad (.pointer (some ⟨W.heap.size + 1, 0, none⟩))).run Tryd.prog w = .ok (.agg (ptL q).toArray) w ∧ (ptEqV (.agg (ptL p).toArray) (.agg (ptL r).toArray)).run Tryd.prog w = .ok (.bool true) w)
          (first | assumption | (apply HS.out; repeat (first | assumption | apply Fm.drew | apply Fz.drew | apply Fq.drew | apply Fm.alloc)))
          (first
            | (go_at_call 53; with_reducible refine (H4.out _ (by repeat (first | assumption | apply Fm.drew | apply Fz.drew | apply Fq.drew | apply Fm.alloc))).mono ?_; rintro e w2 ⟨rfl, hb2⟩; have F2 := Fm.blk (by repeat (first | assumption | apply Fm.drew | apply Fz.drew | apply Fq.drew | apply Fm.alloc)) hb2; have hs2 := HS.out _ F2))
        rw [← hL] at F2
        have s6 := fun v => ptStore_run (c := v) (F2.get 0 rfl)
        have F4 := F2.put 0 (ptL T3.zero).toArray rfl
        clear hs2 hS0
        go_wp2
        exact bodyPost_ret (results_pt Tryd.results30 rfl (F4.get 0 rfl)) rfl ⟨by rw [HR.out], F4.bel⟩
      | false =>
        replace HR : Hid (R = p.third q (mminus q.y p.y) (mminus q.x p.x)) := by rw [Hid, HR.out, if_neg (of_decide_eq_false hD)]
        clear hD
        go_region_held3 (fun w => Fm W L w ∧ (ptLoad (.pointer (some ⟨W.heap.size, 0, none⟩))).run Tryd.prog w = .ok (.agg (ptL p).toArray) w ∧ (ptLoad (.pointer (some ⟨W.heap.size + 1, 0, none⟩))).run Tryd.prog w = .ok (.agg (ptL q).toArray) w ∧ (ptEqV (.agg (ptL p).toArray) (.agg (ptL r).toArray)).run Tryd.prog w = .ok (.bool false) w)
          (first | assumption | (apply HS.out; repeat (first | assumption | apply Fm.drew | apply Fz.drew | apply Fq.drew | apply Fm.alloc)))
          (first
            | (go_at_call 53; with_reducible refine (H4.out _ (by repeat (first | assumption | apply Fm.drew | apply Fz.drew | apply Fq.drew | apply Fm.alloc))).mono ?_; rintro e w2 ⟨rfl, hb2⟩; have F2 := Fm.blk (by repeat (first | assumption | apply Fm.drew | apply Fz.drew | apply Fq.drew | apply Fm.alloc)) hb2; have hs2 := HS.out _ F2))
        obtain ⟨rise, E_rise⟩ : ∃ R, Hid (mminus q.y p.y = R) := ⟨_, Hid.mk rfl⟩
        have b_rise : rise < pP := by rw [← E_rise.out]; exact mminus_lt hq.2.1 hp.2.1
        obtain ⟨run, E_run⟩ : ∃ R, Hid (mminus q.x p.x = R) := ⟨_, Hid.mk rfl⟩
        have b_run : run < pP := by rw [← E_run.out]; exact mminus_lt hq.1 hp.1
        rw [E_rise.out, E_run.out] at HR
        obtain ⟨d, E_d⟩ : ∃ d, Hid (p.third q rise run = d) := ⟨_, Hid.mk rfl⟩
        rw [E_d.out] at HR
        rw [← hL] at F2
        clear hs2 hS0 HS H3 H4 hL hcut
        go_upto_region 10 with fail
        obtain ⟨L, hL⟩ : ∃ L : List (Nat × Obj), [(W.heap.size + 1, Obj.cells (ptL q).toArray 41 (0, 0)), (W.heap.size, Obj.cells (ptL p).toArray 41 (0, 0))] = L := ⟨_, rfl⟩
        rw [hL] at F2
        have Z : Fq W (W.heap.size + 2) L w2 := ⟨_, F2⟩
        have HS : Hid (∀ w, Fq W (W.heap.size + 2) L w → Fq W (W.heap.size + 2) L w ∧ (∀ v, (ptStore (.pointer (some ⟨W.heap.size + 2, 0, none⟩)) (.agg (ptL v).toArray)).run Tryd.prog w = .ok () (w.setRow (W.heap.size + 2) (ptL v).toArray)) ∧ (ptLoad (.pointer (some ⟨W.heap.size, 0, none⟩))).run Tryd.prog w = .ok (.agg (ptL p).toArray) w ∧ (ptLoad (.pointer (some ⟨W.heap.size + 1, 0, none⟩))).run Tryd.prog w = .ok (.agg (ptL q).toArray) w ∧ (N.natLoad (.pointer (some ⟨W.heap.size + 1, 129, none⟩))).run Tryd.prog w = .ok (.agg (N.natL q.y).toArray) w ∧ (N.natLoad (.pointer (some ⟨W.heap.size, 129, none⟩))).run Tryd.prog w = .ok (.agg (N.natL p.y).toArray) w ∧ (N.natLoad (.pointer (some ⟨W.heap.size + 1, 0, none⟩))).run Tryd.prog w = .ok (.agg (N.natL q.x).toArray) w ∧ (N.natLoad (.pointer (some ⟨W.heap.size, 0, none⟩))).run Tryd.prog w = .ok (.agg (N.natL p.x).toArray) w ∧ w.cell? ⟨c, 4, none⟩ = some (fnM 62 mp)) := fun w h => ⟨h, h.st, ptLoad_run (h.get 1 (by rw [← hL]; rfl)), ptLoad_run (h.get 0 (by rw [← hL]; rfl)), ptY (h.get 0 (by rw [← hL]; rfl)), ptY (h.get 1 (by rw [← hL]; rfl)), ptX (h.get 0 (by rw [← hL]; rfl)), ptX (h.get 1 (by rw [← hL]; rfl)), (h.cv C).fn 4 rfl⟩
        have H1 : Hid (∀ w, Fq W (W.heap.size + 2) L w → Calls Tryd.prog 62 #[boxM mp, .agg (N.natL q.y).toArray, .agg (N.natL p.y).toArray] w fun e w' => e = .returned (.agg (N.natL rise).toArray) ∧ Below w.heap.size w w') := fun w h => (pMinus (h.cv C) hq.2.1 hp.2.1).mono fun e w' ⟨he, hb⟩ => ⟨by rw [he, E_rise.out], hb⟩
        have H2 : Hid (∀ w, Fq W (W.heap.size + 2) L w → Calls Tryd.prog 62 #[boxM mp, .agg (N.natL q.x).toArray, .agg (N.natL p.x).toArray] w fun e w' => e = .returned (.agg (N.natL run).toArray) ∧ Below w.heap.size w w') := fun w h => (pMinus (h.cv C) hq.1 hp.1).mono fun e w' ⟨he, hb⟩ => ⟨by rw [he, E_run.out], hb⟩
        have H3 : Hid (∀ w, Fq W (W.heap.size + 2) L w → Calls Tryd.prog 54 #[boxM c, .agg (ptL p).toArray, .agg (ptL q).toArray, .agg (N.natL rise).toArray, .agg (N.natL run).toArray] w fun e w' => e = .returned (.agg (ptL d).toArray) ∧ Below w.heap.size w w') := fun w h => (third_in p q rise run w (h.cv C) hp hq b_rise b_run).mono fun e w' ⟨he, hb⟩ => ⟨by rw [he, E_d.out], hb⟩
        clear F2 hL C
        have hS0 := HS.out _ Z
        go_region_held3 (fun w => Fq W (W.heap.size + 2) L w ∧ (∀ v, (ptStore (.pointer (some ⟨W.heap.size + 2, 0, none⟩)) (.agg (ptL v).toArray)).run Tryd.prog w = .ok () (w.setRow (W.heap.size + 2) (ptL v).toArray)) ∧ (ptLoad (.pointer (some ⟨W.heap.size, 0, none⟩))).run Tryd.prog w = .ok (.agg (ptL p).toArray) w ∧ (ptLoad (.pointer (some ⟨W.heap.size + 1, 0, none⟩))).run Tryd.prog w = .ok (.agg (ptL q).toArray) w ∧ (N.natLoad (.pointer (some ⟨W.heap.size + 1, 129, none⟩))).run Tryd.prog w = .ok (.agg (N.natL q.y).toArray) w ∧ (N.natLoad (.pointer (some ⟨W.heap.size, 129, none⟩))).run Tryd.prog w = .ok (.agg (N.natL p.y).toArray) w ∧ (N.natLoad (.pointer (some ⟨W.heap.size + 1, 0, none⟩))).run Tryd.prog w = .ok (.agg (N.natL q.x).toArray) w ∧ (N.natLoad (.pointer (some ⟨W.heap.size, 0, none⟩))).run Tryd.prog w = .ok (.agg (N.natL p.x).toArray) w ∧ w.cell? ⟨c, 4, none⟩ = some (fnM 62 mp))
          (first | assumption | (apply HS.out; repeat (first | assumption | apply Fm.drew | apply Fz.drew | apply Fq.drew | apply Fm.alloc | apply Fq.set)))
          (first
            | (go_at_call 54; with_reducible refine (H3.out _ (by repeat (first | assumption | apply Fm.drew | apply Fz.drew | apply Fq.drew | apply Fm.alloc))).mono ?_; rintro e w5 ⟨rfl, hb5⟩; have F5 := Fq.blk (by repeat (first | assumption | apply Fm.drew | apply Fz.drew | apply Fq.drew | apply Fm.alloc)) hb5; have hs5 := HS.out _ F5)
            | (go_at_call 62; with_reducible refine (H2.out _ (by repeat (first | assumption | apply Fm.drew | apply Fz.drew | apply Fq.drew | apply Fm.alloc))).mono ?_; rintro e w4 ⟨rfl, hb4⟩; have F4 := Fq.blk (by repeat (first | assumption | apply Fm.drew | apply Fz.drew | apply Fq.drew | apply Fm.alloc)) hb4; have hs4 := HS.out _ F4)
            | (go_at_call 62; with_reducible refine (H1.out _ (by repeat (first | assumption | apply Fm.drew | apply Fz.drew | apply Fq.drew | apply Fm.alloc))).mono ?_; rintro e w3 ⟨rfl, hb3⟩; have F3 := Fq.blk (by repeat (first | assumption | apply Fm.drew | apply Fz.drew | apply Fq.drew | apply Fm.alloc)) hb3; have hs3 := HS.out _ F3))
        have F6 := F5.fin d
        go_wp2
        exact bodyPost_ret (results_pt Tryd.results30 rfl (F6.get 0 rfl)) rfl ⟨by rw [HR.out], F6.bel⟩
theorem sum_in {c mp mn : Nat} (a b : T3) (W : World) (C : Cv W c mp mn) (ha : a.Ok) (hbo : b.Ok) :
    Calls Tryd.prog 30 #[boxM c, .agg (ptL a).toArray, .agg (ptL b).toArray] W fun e w' => e = .returned (.agg (ptL (a.sum b)).toArray) ∧ Below W.heap.size W w' := by
  by_cases ha0 : a = T3.zero
  · rw [show a.sum b = b by unfold T3.sum; rw [if_pos ha0]]
    exact sum_a a b W C ha hbo ha0
  · by_cases hb0 : b = T3.zero
    · rw [show a.sum b = a by unfold T3.sum; rw [if_neg ha0, if_pos hb0]]
      exact sum_b a b W C ha hbo ha0 hb0
    · exact sum_ab a b W C ha hbo ha0 hb0
end Go.Proofs.YtmjenhilafdioaaDoor

/- taken. -/
namespace Go.Proofs.YtmjenhilafdioaaDoor
set_option linter.unusedVariables false
set_option linter.unusedSimpArgs false
open Go.RowKit N
attribute [local go_sem ↓] N.loadAt_nat N.storeAt_nat N.build_nat N.build_nat' loadAt_pt storeAt_pt build_pt0 build_pt0' build_pt'
attribute [local go_sem] N.st1 N.st2a N.st2b N.st1d N.st2ad N.st2bd N.natBuild_run ptst1 ptst1d ptBuild0_run build_pt ptBuild_run
attribute [local go_sem ↓] bin_nat bin_pt
theorem and8 : ∀ q : Fin 256, bits .and .u8 (q.val : Int) 1 = ((q.val % 2 : Nat) : Int) := by decide +kernel
/-- the bit that is looked at. -/
theorem bit8 (k L i : Nat) (hi : i < 8 * L) : k / 256 ^ (L - 1 - i / 8) % 256 / 2 ^ (7 - i % 8) % 2 = k / 2 ^ (8 * L - (i + 1)) % 2 := by
  have e : 2 ^ (8 * L - (i + 1)) = 256 ^ (L - 1 - i / 8) * 2 ^ (7 - i % 8) := by
    rw [show (256 : Nat) = 2 ^ 8 from rfl, ← Nat.pow_mul, ← Nat.pow_add]
    congr 1
    omega
  rw [e, ← Nat.div_div_eq_div_mul]
  generalize k / 256 ^ (L - 1 - i / 8) = A
  have h : 7 - i % 8 ≤ 7 := by omega
  generalize 7 - i % 8 = r at h
  have e2 : 256 = 2 ^ r * (2 ^ (7 - r) * 2) := by
    rw [← Nat.mul_assoc, ← Nat.pow_add, show r + (7 - r) = 7 by omega]
  rw [show A % 256 = A % (2 ^ r * (2 ^ (7 - r) * 2)) by rw [← e2], Nat.mod_mul_right_div_self, Nat.mod_mul_left_mod]
/-- what is there behind i bits. -/
def accT (a : T3) (k n i : Nat) : T3 := a.times i (k / 2 ^ (n - i))
theorem accT_step {a : T3} {k n i : Nat} (hi : i < n) : accT a k n (i + 1) = if k / 2 ^ (n - (i + 1)) % 2 = 1 then (accT a k n i).twice.sum a else (accT a k n i).twice := by
  unfold accT
  rw [T3.times]
  have : k / 2 ^ (n - (i + 1)) / 2 = k / 2 ^ (n - i) := by
    rw [Nat.div_div_eq_div_mul, ← Nat.pow_succ, show (n - (i + 1)).succ = n - i by omega]
  rw [this]
set_option maxRecDepth 100000 in
set_option maxHeartbeats 2000000 in
theorem taken_in {c mp mn : Nat} (k : Nat) (a : T3) (W : World) (C : Cv W c mp mn) (ha : a.Ok) (hk : k < 2 ^ 256) :
    Calls Tryd.prog 28 #[boxM c, .agg (N.natL k).toArray, .agg (ptL a).toArray] W fun e w' => e = .returned (.agg (ptL (a.times (8 * N.nbl k) k)).toArray) ∧ Below W.heap.size W w' := by
  have hkL : k < N.Lim := N.lim_big 8 k (by omega) (Nat.lt_of_lt_of_le hk (by decide))
  have HB := Hid.mk (N.bytes_in k hkL)
  have hLb : N.nbl k ≤ 32 := (N.nbl_le_iff k 32).2 (Nat.lt_of_lt_of_le hk (by decide))
  obtain ⟨L, hL⟩ : ∃ L, N.nbl k = L := ⟨_, rfl⟩
  rw [hL] at HB hLb ⊢
  have hsz : (⟨(N.bys k L).toArray⟩ : ByteArray).size = L := by rw [← size_list]; exact N.bys_len k L
  have HIX : Hid (∀ j, j < L → ∀ w : World, (Instr.index 9 (.string ⟨(N.bys k L).toArray⟩) (.int .i64 (j : Int))).run Tryd.prog w = .ok (.int .u8 ((k / 256 ^ (L - 1 - j) % 256 : Nat) : Int)) w) := fun j hj w => by
    have := N.index_get ⟨(N.bys k L).toArray⟩ j (UInt8.ofNat (k / 256 ^ (L - 1 - j))) (by rw [hsz]; exact hj) (by
      show ((N.bys k L)[j]?).getD 0 = _
      unfold N.bys
      rw [List.getElem?_map, List.getElem?_range hj]
      rfl) w
    rw [this]
    congr 3
  generalize (⟨(N.bys k L).toArray⟩ : ByteArray) = B at HB hsz HIX
  obtain ⟨n, hn⟩ : ∃ n, 8 * L = n := ⟨_, rfl⟩
  have HE : Hid (∀ i, i < n → ∀ j r, i / 8 = j → i % 8 = r → j < L ∧ k / 256 ^ (L - 1 - j) % 256 / 2 ^ (7 - r) % 2 = k / 2 ^ (n - (i + 1)) % 2) := fun i hi j r hj hr => by
    subst hj hr hn
    exact ⟨by omega, bit8 k L i hi⟩
  have hw : IntKind.i64.wrap (8 * (B.size : Int)) = (n : Int) := by rw [IntKind.wrap_i64, hsz]; omega
  have HEnd : Hid (accT a k n n = a.times (8 * L) k) := by rw [Hid, accT, Nat.sub_self, Nat.pow_zero, Nat.div_one, hn]
  rw [← HEnd.out]
  have HOK : Hid (∀ i, (accT a k n i).Ok) := fun i => T3.times_ok ha _ _
  have HST : Hid (∀ i, i < n → accT a k n (i + 1) = if k / 2 ^ (n - (i + 1)) % 2 = 1 then (accT a k n i).twice.sum a else (accT a k n i).twice) := fun i hi => accT_step hi
  have H0 : Hid (accT a k n 0 = T3.zero) := rfl
  have hn256 : n ≤ 256 := by omega
  clear hsz hn hL HEnd
  have HT : Hid (∀ p : T3, p.Ok → ∀ w, Cv w c mp mn → Calls Tryd.prog 51 #[boxM c, .agg (ptL p).toArray] w fun e w' => e = .returned (.agg (ptL p.twice).toArray) ∧ Below w.heap.size w w') := fun p hp w h => twice_in p w h hp
  have HS : Hid (∀ p : T3, p.Ok → ∀ w, Cv w c mp mn → Calls Tryd.prog 30 #[boxM c, .agg (ptL p).toArray, .agg (ptL a).toArray] w fun e w' => e = .returned (.agg (ptL (p.sum a)).toArray) ∧ Below w.heap.size w w') := fun p hp w h => sum_in p a w h hp ha
  obtain ⟨RR, HRR⟩ : ∃ R, Hid (accT a k n n = R) := ⟨_, Hid.mk rfl⟩
  rw [HRR.out]
  obtain ⟨A, HA⟩ : ∃ A : Nat → T3, Hid (A = accT a k n) := ⟨_, Hid.mk rfl⟩
  rw [← HA.out] at HOK HST H0 HRR
  clear HA
  have hzp := zeroPt
  obtain ⟨V, hV, F⟩ : ∃ V, ((((W.alloc (Obj.cells (N.natL k).toArray 29 (0, 0))).alloc (Obj.cells (ptL a).toArray 41 (0, 0))).alloc (Obj.cells (ptL (T3.zero)).toArray 41 (0, 0))).alloc (Obj.cells (ptL (T3.zero)).toArray 41 (0, 0))) = V ∧ Fm W [(W.heap.size + 3, Obj.cells (ptL (T3.zero)).toArray 41 (0, 0)), (W.heap.size + 2, Obj.cells (ptL (T3.zero)).toArray 41 (0, 0)), (W.heap.size + 1, Obj.cells (ptL a).toArray 41 (0, 0)), (W.heap.size, Obj.cells (N.natL k).toArray 29 (0, 0))] V := ⟨_, rfl, Fm.box4 W _ _ _ _⟩
  have l4 := N.natLoad_run (F.get 3 rfl)
  go_enter Tryd.func28, Tryd.ntmps28
  go_wp2_with fail
  refine (HB.out _).mono ?_
  rintro e u1 ⟨rfl, hb⟩
  replace F := F.blk hb
  clear hb l4 hV
  simp only [Nat.add_assoc, Nat.reduceAdd]
  go_wp2_with fail
  go_loopw [15] (fun iv wr => ∃ i : Nat, i ≤ n ∧ iv = .int .i64 (i : Int) ∧ Fm W [(W.heap.size + 3, Obj.cells (ptL (A i)).toArray 41 (0, 0)), (W.heap.size + 2, Obj.cells (ptL (T3.zero)).toArray 41 (0, 0)), (W.heap.size + 1, Obj.cells (ptL a).toArray 41 (0, 0)), (W.heap.size, Obj.cells (N.natL k).toArray 29 (0, 0))] wr) (fun iv _ => n - (intOf iv).toNat)
  case atStart => exact ⟨0, by omega, rfl, by rw [H0.out]; exact F⟩
  case round =>
    obtain ⟨i, hi, rfl, Fr⟩ := hrel
    clear F
    by_cases hlt : i < n
    · obtain ⟨j, hj⟩ : ∃ j, i / 8 = j := ⟨_, rfl⟩
      obtain ⟨r, hr⟩ : ∃ r, i % 8 = r := ⟨_, rfl⟩
      obtain ⟨s, hs⟩ : ∃ s, 7 - r = s := ⟨_, rfl⟩
      obtain ⟨hjL, hbt⟩ := HE.out i hlt j r hj hr
      have hix := HIX.out j hjL
      rw [hs] at hbt
      have HST' := Hid.mk (HST.out i hlt)
      have hok := HOK.out i
      obtain ⟨dd, hdd⟩ : ∃ dd, k / 256 ^ (L - 1 - j) % 256 = dd := ⟨_, rfl⟩
      rw [hdd] at hbt hix
      have hdl : dd < 256 := by rw [← hdd]; exact Nat.mod_lt _ (by omega)
      obtain ⟨qd, hqd⟩ : ∃ qd, dd / 2 ^ s = qd := ⟨_, rfl⟩
      rw [hqd] at hbt
      have hql : qd < 256 := by rw [← hqd]; exact Nat.lt_of_le_of_lt (Nat.div_le_self _ _) hdl
      have hand : bits .and .u8 (qd : Int) 1 = ((qd % 2 : Nat) : Int) := and8 ⟨qd, hql⟩
      have t1 : (i : Int).tdiv 8 = (j : Int) := by rw [Int.tdiv_eq_ediv_of_nonneg (by omega)]; omega
      have t2 : (i : Int) / 8 = (j : Int) := by omega
      have t3 : (i : Int).tmod 8 = (r : Int) := by rw [Int.tmod_eq_emod_of_nonneg (by omega)]; omega
      have t4 : (i : Int) % 8 = (r : Int) := by omega
      have t6 : (dd : Int) / 2 ^ s = (qd : Int) := by rw [← hqd, Int.natCast_ediv, Int.natCast_pow]; rfl
      have t9 : (7 : Int) - (r : Int) = (s : Int) := by omega
      have hs8 : s < 8 := by omega
      have hs0 : (0 : Int) ≤ (s : Int) := by omega
      clear hj hr hqd hdd hs
      generalize A i = p at *
      have HT1 := Hid.mk (HT.out p hok)
      have hok2 := T3.twice_ok p
      obtain ⟨p2, hp2⟩ : ∃ p2, p.twice = p2 := ⟨_, rfl⟩
      rw [hp2] at HT1 hok2 HST'
      have HS1 := Hid.mk (HS.out p2 hok2)
      clear hp2
      have l7 := ptLoad_run (Fr.get 0 rfl)
      go_wp2_with fail
      refine (HT1.out _ (Fr.cv C)).mono ?_
      rintro e w2 ⟨rfl, hb⟩
      replace Fr := Fr.blk hb
      clear hb l7
      have s7 := fun q => ptStore_run (c := q) (Fr.get 0 rfl)
      go_upto_region 7 with fail
      replace Fr := Fr.put 0 (ptL p2).toArray rfl
      clear s7
      generalize w2.setRow (W.heap.size + 3) (ptL p2).toArray = w3 at Fr ⊢
      by_cases hbit : qd % 2 = 1
      · rw [if_pos (by rw [← hbt]; exact hbit)] at HST'
        rw [hbit] at hand
        clear hbit hbt
        have l7 := ptLoad_run (Fr.get 0 rfl)
        have l5 := ptLoad_run (Fr.get 2 rfl)
        go_wp2_with fail
        refine (HS1.out _ (Fr.cv C)).mono ?_
        rintro e w4 ⟨rfl, hb⟩
        replace Fr := Fr.blk hb
        clear hb l7 l5
        rw [← HST'.out]
        obtain ⟨pn, hpn⟩ : ∃ pn, A (i + 1) = pn := ⟨_, rfl⟩
        rw [hpn]
        have HPN := Hid.mk hpn
        clear hpn HST'
        have s7 := fun q => ptStore_run (c := q) (Fr.get 0 rfl)
        replace Fr := Fr.put 0 (ptL pn).toArray rfl
        go_wp2
        go_roundw
        case rel => exact ⟨i + 1, by omega, by go_num, by rw [HPN.out]; exact Fr⟩
        case measure => simp [intOf]; omega
      · have hb0 : qd % 2 = 0 := by omega
        rw [if_neg (by rw [← hbt]; exact hbit)] at HST'
        rw [hb0] at hand
        clear hbit hb0 hbt
        rw [← HST'.out] at Fr
        go_wp2
        go_roundw
        case rel => exact ⟨i + 1, by omega, by go_num, Fr⟩
        case measure => simp [intOf]; omega
    · obtain rfl : i = n := by omega
      rw [HRR.out] at Fr
      have l7 := ptLoad_run (Fr.get 0 rfl)
      have s6 := fun q => ptStore_run (c := q) (Fr.get 1 rfl)
      have F4 := Fr.put 1 (ptL RR).toArray rfl
      go_wp2
      exact bodyPost_ret (results_pt Tryd.results28 rfl (F4.get 1 rfl)) rfl ⟨rfl, F4.bel⟩
end Go.Proofs.YtmjenhilafdioaaDoor

/- Bytes told as numbers and back; what bytes are which point. -/
namespace Go.Proofs.YtmjenhilafdioaaDoor.N
set_option linter.unusedVariables false
theorem bys_succ (N L : Nat) : bys N (L + 1) = UInt8.ofNat (N / 256 ^ L) :: bys N L := by
  unfold bys
  rw [List.range_succ_eq_map, List.map_cons, List.map_map]
  refine List.cons_eq_cons.2 ⟨by simp, List.map_congr_left fun k hk => ?_⟩
  simp only [Function.comp]
  rw [show L + 1 - 1 - (k + 1) = L - 1 - k by omega]
theorem mod_succ (a L : Nat) : a % 256 ^ (L + 1) = a / 256 ^ L % 256 * 256 ^ L + a % 256 ^ L := by
  rw [Nat.pow_succ, Nat.mod_mul, Nat.add_comm, Nat.mul_comm]
theorem numB_bys : ∀ (L N : Nat), numB (bys N L) = N % 256 ^ L
  | 0, N => by simp [bys, numB, Nat.mod_one]
  | L + 1, N => by
    rw [bys_succ, numB, numB_bys L N, bys_len, mod_succ, UInt8.toNat_ofNat']
theorem numB_inj : ∀ (a b : List UInt8), a.length = b.length → numB a = numB b → a = b
  | [], [], _, _ => rfl
  | x :: a, y :: b, hl, h => by
    have hl' : a.length = b.length := by simpa using hl
    have h1 := numB_lt a
    have h2 := numB_lt b
    simp only [numB] at h
    rw [hl'] at h h1
    have hxy : x.toNat = y.toNat := by
      have e1 : (x.toNat * 256 ^ b.length + numB a) / 256 ^ b.length = x.toNat := by
        rw [Nat.add_comm, Nat.add_mul_div_right _ _ (Nat.pow_pos (by omega)), Nat.div_eq_of_lt h1, Nat.zero_add]
      have e2 : (y.toNat * 256 ^ b.length + numB b) / 256 ^ b.length = y.toNat := by
        rw [Nat.add_comm, Nat.add_mul_div_right _ _ (Nat.pow_pos (by omega)), Nat.div_eq_of_lt h2, Nat.zero_add]
      rw [← e1, ← e2, h]
    obtain rfl := UInt8.toNat_inj.1 hxy
    rw [numB_inj a b hl' (by omega)]
  | [], _ :: _, hl, _ => by simp at hl
  | _ :: _, [], hl, _ => by simp at hl
theorem bys_num (l : List UInt8) : bys (numB l) l.length = l :=
  numB_inj _ _ (bys_len _ _) (by rw [numB_bys, Nat.mod_eq_of_lt (numB_lt l)])
end Go.Proofs.YtmjenhilafdioaaDoor.N
namespace Go.Proofs.YtmjenhilafdioaaDoor
set_option linter.unusedVariables false
open Go.RowKit N
/-- the bytes of a point. -/
noncomputable def tellE (p : Ec) : ByteArray := match p.o with
  | none => ⟨#[]⟩
  | some q => ⟨(N.bys q.x.val 32).toArray⟩ ++ ⟨(N.bys q.y.val 32).toArray⟩
theorem lt_p256 {x : Nat} (h : x < pP) : x < 256 ^ 32 := Nat.lt_of_lt_of_le h (by decide)
theorem rep_zero {a : T3} (h : a.Ok) : Rep a.jp none ↔ a = T3.zero := T3.jp_inj h T3.zero_ok
theorem T3.repEnd {a : T3} {p : Ec} (h : a.Ok) (r : Rep a.jp p.o) : a = T3.zero ∨ a.z ≠ 0 := by
  cases hp : p.o with
  | none =>
    rw [hp] at r
    exact Or.inl ((rep_zero h).1 r)
  | some q =>
    rw [hp] at r
    refine Or.inr fun e => r.1 ?_
    show fz a.z = 0
    rw [e, fz_0]
theorem tellT_eq {a : T3} {p : Ec} (h : a.Ok) (r : Rep a.jp p.o) : tellT a = tellE p := by
  unfold tellT tellE
  cases hp : p.o with
  | none =>
    rw [hp] at r
    rw [if_pos ((rep_zero h).1 r)]
  | some q =>
    rw [hp] at r
    have hz : a.z ≠ 0 := fun e => r.1 (by show fz a.z = 0; rw [e, fz_0])
    have h0 : a ≠ T3.zero := fun e => hz (by rw [e]; rfl)
    rw [if_neg h0]
    have hi := (iv_spec pr_P hz h.2.2).1
    obtain ⟨e1, e2⟩ := T3.told r hi
    show (⟨(N.bys (mtimes a.x (mtimes (ivN pP a.z) (ivN pP a.z))) 32).toArray⟩ : ByteArray) ++ ⟨(N.bys (mtimes a.y (mtimes (mtimes (ivN pP a.z) (ivN pP a.z)) (ivN pP a.z))) 32).toArray⟩ = _
    rw [e1, e2]
/-- numbers are a point's just as the curve says. -/
theorem onN_iff {x y : Nat} (hx : x < pP) (hy : y < pP) : onN x y = true ↔ Pt.On ⟨fz x, fz y⟩ := by
  have b1 := mminus_lt (mtimes_lt x (mtimes x x)) (mtimes_lt x 3)
  have b2 : mplus (mminus (mtimes x (mtimes x x)) (mtimes x 3)) bP < pP := mplus_lt b1 (by decide)
  have e : fz (mplus (mminus (mtimes x (mtimes x x)) (mtimes x 3)) bP) = fz x * fz x * fz x - 3 * fz x + fz bP := by
    rw [fz_plus, fz_minus (mtimes_lt x 3), fz_times, fz_times, fz_times, fz_3]
    generalize fz x = u
    generalize fz bP = v
    clear b1 b2 hx hy
    grind -lia
  unfold onN Pt.On
  rw [decide_eq_true_iff]
  constructor
  · intro h
    have := congrArg fz h
    rw [fz_times, e] at this
    exact this
  · intro h
    refine fz_lt (mtimes_lt _ _) b2 ?_
    rw [fz_times, e]
    exact h
theorem T3.one_ok {x y : Nat} (hx : x < pP) (hy : y < pP) : (⟨x, y, 1⟩ : T3).Ok := ⟨hx, hy, show 1 < pP by decide⟩
theorem rep_xy (x y : Nat) : Rep (⟨x, y, 1⟩ : T3).jp (some ⟨fz x, fz y⟩) := by
  refine ⟨?_, ?_, ?_⟩
  · exact fun h => by
      have := fz_lt (a := 1) (b := 0) (by decide) (by decide) h
      omega
  · show fz x = fz x * (fz 1 * fz 1)
    rw [fz_1]
    generalize fz x = u
    grind -lia
  · show fz y = fz y * (fz 1 * fz 1 * fz 1)
    rw [fz_1]
    generalize fz y = u
    grind -lia
theorem app_size (a b : ByteArray) : (a ++ b).size = a.size + b.size := ByteArray.size_append
theorem ext_l (a b : ByteArray) (n : Nat) (h : a.size = n) : (a ++ b).extract 0 n = a := by
  subst h
  exact ByteArray.extract_append_eq_left rfl
theorem ext_r (a b : ByteArray) (n : Nat) (h : a.size = n) : (a ++ b).extract n (a ++ b).size = b := by
  subst h
  exact ByteArray.extract_append_eq_right rfl (by simp)
/-- the bytes of a point are that point's. -/
theorem ptOf_tell (p : Ec) : (ptOf (tellE p)).2 = true ∧ (ptOf (tellE p)).1.Ok ∧ Rep (ptOf (tellE p)).1.jp p.o := by
  obtain ⟨po, hon⟩ := p
  cases po with
  | none =>
    have e : ptOf (tellE ⟨none, hon⟩) = (T3.zero, true) := by unfold ptOf; exact if_pos rfl
    rw [e]
    exact ⟨rfl, T3.zero_ok, rfl⟩
  | some q =>
    have z1 := bys_32 q.x.val
    have z2 := bys_32 q.y.val
    have hs : (tellE ⟨some q, hon⟩).size = 64 := by show ((⟨(N.bys q.x.val 32).toArray⟩ : ByteArray) ++ ⟨(N.bys q.y.val 32).toArray⟩).size = 64; rw [app_size, z1, z2]
    have hh : hiN (tellE ⟨some q, hon⟩) = q.x.val := by
      unfold hiN
      show N.numB (((⟨(N.bys q.x.val 32).toArray⟩ : ByteArray) ++ ⟨(N.bys q.y.val 32).toArray⟩).extract 0 32).data.toList = _
      rw [ext_l _ _ 32 z1]
      show N.numB (N.bys q.x.val 32) = _
      rw [N.numB_bys, Nat.mod_eq_of_lt (lt_p256 q.x.isLt)]
    have hl : loN (tellE ⟨some q, hon⟩) = q.y.val := by
      unfold loN
      show N.numB (((⟨(N.bys q.x.val 32).toArray⟩ : ByteArray) ++ ⟨(N.bys q.y.val 32).toArray⟩).extract 32 ((⟨(N.bys q.x.val 32).toArray⟩ : ByteArray) ++ ⟨(N.bys q.y.val 32).toArray⟩).size).data.toList = _
      rw [ext_r _ _ 32 z1]
      show N.numB (N.bys q.y.val 32) = _
      rw [N.numB_bys, Nat.mod_eq_of_lt (lt_p256 q.y.isLt)]
    have ho : onN q.x.val q.y.val = true := by
      rw [onN_iff q.x.isLt q.y.isLt, fz_val, fz_val]
      exact hon
    have e : ptOf (tellE ⟨some q, hon⟩) = (⟨q.x.val, q.y.val, 1⟩, true) := by
      unfold ptOf
      rw [if_neg (by rw [hs]; decide), if_neg (by rw [hs]; simp), hh, hl, if_pos q.x.isLt, if_pos q.y.isLt, if_pos ho]
    rw [e]
    refine ⟨rfl, T3.one_ok q.x.isLt q.y.isLt, ?_⟩
    have := rep_xy q.x.val q.y.val
    rw [fz_val, fz_val] at this
    exact this
theorem ba_split (s : ByteArray) (h : s.size = 64) : s.extract 0 32 ++ s.extract 32 s.size = s := by
  have := ByteArray.extract_append_extract (a := s) (i := 0) (j := 32) (k := s.size)
  rw [this]
  simp only [Nat.min_def, Nat.max_def]
  rw [if_pos (by omega), if_pos (by omega)]
  exact ByteArray.extract_zero_size
/-- bytes that are right are a point's. -/
theorem ptOf_ex {s : ByteArray} (h : (ptOf s).2 = true) : ∃ p, s = tellE p := by
  unfold ptOf at h
  by_cases h0 : s.size = 0
  · refine ⟨Ec.zero, ?_⟩
    show s = ⟨#[]⟩
    exact ByteArray.size_eq_zero_iff.1 h0
  · rw [if_neg h0] at h
    by_cases h64 : s.size = 64
    · rw [if_neg (not_not_intro h64)] at h
      by_cases hx : hiN s < pP
      · rw [if_pos hx] at h
        by_cases hy : loN s < pP
        · rw [if_pos hy] at h
          by_cases ho : onN (hiN s) (loN s) = true
          · refine ⟨⟨some ⟨fz (hiN s), fz (loN s)⟩, (onN_iff hx hy).1 ho⟩, ?_⟩
            show s = (⟨(N.bys (fz (hiN s)).val 32).toArray⟩ : ByteArray) ++ ⟨(N.bys (fz (loN s)).val 32).toArray⟩
            have v1 : (fz (hiN s)).val = hiN s := Nat.mod_eq_of_lt hx
            have v2 : (fz (loN s)).val = loN s := Nat.mod_eq_of_lt hy
            rw [v1, v2]
            have l1 : (s.extract 0 32).data.toList.length = 32 := by rw [size_list, ByteArray.size_extract]; omega
            have l2 : (s.extract 32 s.size).data.toList.length = 32 := by rw [size_list, ByteArray.size_extract]; omega
            have b1 : (⟨(N.bys (hiN s) 32).toArray⟩ : ByteArray) = s.extract 0 32 := by
              have := N.bys_num (s.extract 0 32).data.toList
              rw [l1] at this
              unfold hiN
              rw [this]
            have b2 : (⟨(N.bys (loN s) 32).toArray⟩ : ByteArray) = s.extract 32 s.size := by
              have := N.bys_num (s.extract 32 s.size).data.toList
              rw [l2] at this
              unfold loN
              rw [this]
            rw [b1, b2, ba_split s h64]
          · rw [if_neg ho] at h; cases h
        · rw [if_neg hy] at h; cases h
      · rw [if_neg hx] at h; cases h
    · rw [if_pos h64] at h; cases h
theorem tellE_size (p : Ec) : (tellE p).size = if p.o = none then 0 else 64 := by
  obtain ⟨po, hon⟩ := p
  cases po with
  | none => rfl
  | some q =>
    show ((⟨(N.bys q.x.val 32).toArray⟩ : ByteArray) ++ ⟨(N.bys q.y.val 32).toArray⟩).size = _
    rw [app_size, bys_32, bys_32]
    rfl
theorem tellE_inj {p q : Ec} (h : tellE p = tellE q) : p = q := by
  have h1 := ptOf_tell p
  have h2 := ptOf_tell q
  rw [h] at h1
  refine Ec.ext2 ?_
  have r1 := h1.2.2
  have r2 := h2.2.2
  cases hp : p.o with
  | none =>
    rw [hp] at r1
    cases hq : q.o with
    | none => rfl
    | some v =>
      rw [hq] at r2
      exact absurd (show (ptOf (tellE q)).1.jp.z = 0 by rw [show (ptOf (tellE q)).1.jp = Jp.zero from r1]; rfl) r2.1
  | some u =>
    rw [hp] at r1
    cases hq : q.o with
    | none =>
      rw [hq] at r2
      exact absurd (show (ptOf (tellE q)).1.jp.z = 0 by rw [show (ptOf (tellE q)).1.jp = Jp.zero from r2]; rfl) r1.1
    | some v =>
      rw [hq] at r2
      rw [(r1.eq r2 rfl).1 rfl]
theorem base_tell : (⟨hexGb.toArray⟩ : ByteArray) = tellE ecG := by
  show (⟨hexGb.toArray⟩ : ByteArray) = (⟨(N.bys (fz bX).val 32).toArray⟩ : ByteArray) ++ ⟨(N.bys (fz bY).val 32).toArray⟩
  have v1 : (fz bX).val = N.numB hexXb := by rw [hexX_n]; exact Nat.mod_eq_of_lt (by decide)
  have v2 : (fz bY).val = N.numB hexYb := by rw [hexY_n]; exact Nat.mod_eq_of_lt (by decide)
  rw [v1, v2]
  have e1 : N.bys (N.numB hexXb) 32 = hexXb := N.bys_num hexXb
  have e2 : N.bys (N.numB hexYb) 32 = hexYb := N.bys_num hexYb
  rw [e1, e2]
  rfl
end Go.Proofs.YtmjenhilafdioaaDoor

/- Nothing is asked of the variables. -/
namespace Go.Proofs.YtmjenhilafdioaaDoor
set_option linter.unusedVariables false
structure NG (W : World) : Prop where
  ok : True
theorem ng_of {W : World} {l : List (String × DataW Unit)} (h : laidMet Tryd.prog l W) (hs : W.ShapedOpen Tryd.prog) : NG W := ⟨trivial⟩
end Go.Proofs.YtmjenhilafdioaaDoor

/- A world for the witnesses: Go's own tables hold what their texts lay; no walk reads them. -/
namespace Go.Proofs.YtmjenhilafdioaaDoor
set_option linter.unusedVariables false
open Go.RowKit
def lit1 : DataW Unit → List Value
  | .lit (.int k n) => [.int k n]
  | .lit (.string s) => [.string ⟨s.toArray⟩]
  | _ => []
def flat2 : DataW Unit → Array Value
  | .agg l => (l.flatMap fun x => match x with
    | .agg l2 => l2.flatMap lit1
    | x => lit1 x).toArray
  | _ => #[]
/-- A WORLD FOR THE WITNESS: the settled one, the variables of packages holding what their texts lay. -/
noncomputable def laidWorld (os : Os) : World :=
  let w0 := World.holding Tryd.prog os ⟨#[], #[], []⟩
  let put (h : Array Obj) (g : Nat) (cs : Array Value) : Array Obj := h.modify g fun
    | .cells _ t frozen => .cells cs t frozen
    | o => o
  let h7 := put w0.heap 0 (flat2 Rows.laid_unicode_utf8_first)
  let h8 := put h7 1 (flat2 Rows.laid_unicode_utf8_acceptRanges)
  { w0 with heap := h8 }
end Go.Proofs.YtmjenhilafdioaaDoor

/- On, Sum, Times, Base: in terms of the curve's points. -/
namespace Go.Proofs.YtmjenhilafdioaaDoor
set_option linter.unusedVariables false
set_option linter.unusedSimpArgs false
open Go.RowKit N
attribute [local go_sem ↓] N.loadAt_nat N.storeAt_nat N.build_nat N.build_nat' loadAt_pt storeAt_pt build_pt0 build_pt0' build_pt'
attribute [local go_sem] N.st1 N.st2a N.st2b N.st1d N.st2ad N.st2bd N.natBuild_run ptst1 ptst1d ptBuild0_run build_pt ptBuild_run
attribute [local go_sem ↓] bin_nat bin_pt
set_option maxRecDepth 100000 in
set_option maxHeartbeats 2000000 in
theorem base_in  (W : World)  : Calls Tryd.prog 8 #[] W fun e w' => e = .returned (.string (tellE ecG)) ∧ Below W.heap.size W w' := by
  have HU := Hid.mk (G.unhex_yes hexG (by decide) hexGb hexG_u)
  rw [base_tell] at HU
  generalize tellE ecG = t at HU ⊢
  go_enter Tryd.func8, Tryd.ntmps8
  go_wp2_with fail
  refine (HU.out _).mono ?_
  rintro e u1 ⟨rfl, hb⟩
  go_wp2
  go_ret
  exact ⟨rfl, hb⟩
set_option maxRecDepth 100000 in
set_option maxHeartbeats 2000000 in
theorem on_yes (p : Ec) (W : World) (hp : p ≠ Ec.zero) : Calls Tryd.prog 7 #[.string (tellE p)] W fun e w' => e = .returned (.bool true) ∧ Below W.heap.size W w' := by
  obtain ⟨h1, h2, h3⟩ := ptOf_tell p
  have HN : Hid (∀ w, Calls Tryd.prog 20 #[.agg (ptL (ptOf (tellE p)).1).toArray] w fun e w' => e = .returned (.bool false) ∧ Below w.heap.size w w') := fun w => (nowhere_in _ h2.lm w).mono fun e w' ⟨he, hb⟩ => ⟨by rw [he]; exact congrArg (fun x => Ending.returned (.bool x)) (decide_eq_false fun e => hp (Ec.ext2 (by cases ho : p.o with | none => rfl | some q => (rw [ho, e] at h3; exact absurd fz_0 h3.1)))), hb⟩
  have HO : Hid (∀ (c mp mn : Nat) w, Cv w c mp mn → Calls Tryd.prog 19 #[boxM c, .string (tellE p)] w fun e w' => e = .returned (.tuple #[.agg (ptL (ptOf (tellE p)).1).toArray, .bool true]) ∧ Below w.heap.size w w') := fun c mp mn w h => by
    have := pointOf_in (tellE p) w h
    rwa [h1] at this
  generalize (ptOf (tellE p)).1 = a at HN HO
  generalize tellE p = s at HO ⊢
  clear h1 h2 h3 hp
  have HP := Hid.mk p256_in
  have hzp := zeroPt
  have F := Fm.start W
  go_enter Tryd.func7, Tryd.ntmps7
  go_wp2_with fail
  refine (HP.out _).mono ?_
  rintro e u0 ⟨c, mp, mn, rfl, C, hb⟩
  replace F := F.blk hb
  clear hb HP
  go_wp2_with fail
  refine (HO.out _ _ _ _ C).mono ?_
  rintro e u1 ⟨rfl, hb⟩
  replace F := F.blk hb
  clear hb
  go_upto_region 2 with fail
  replace F := F.new (Obj.cells (ptL a).toArray 41 (0, 0))
  generalize u1.alloc (Obj.cells (ptL a).toArray 41 (0, 0)) = v1 at F ⊢
  generalize u1.heap.size = b3 at F ⊢
  have l3 := ptLoad_run (F.get 0 rfl)
  go_wp2_with fail
  refine (HN.out _).mono ?_
  rintro e u2 ⟨rfl, hb⟩
  replace F := F.blk hb
  clear hb
  go_wp2
  go_ret
  exact ⟨rfl, F.bel⟩
set_option maxRecDepth 100000 in
set_option maxHeartbeats 2000000 in
theorem on_zero (p : Ec) (W : World) (hp : p = Ec.zero) : Calls Tryd.prog 7 #[.string (tellE p)] W fun e w' => e = .returned (.bool false) ∧ Below W.heap.size W w' := by
  obtain ⟨h1, h2, h3⟩ := ptOf_tell p
  have HN : Hid (∀ w, Calls Tryd.prog 20 #[.agg (ptL (ptOf (tellE p)).1).toArray] w fun e w' => e = .returned (.bool true) ∧ Below w.heap.size w w') := fun w => (nowhere_in _ h2.lm w).mono fun e w' ⟨he, hb⟩ => ⟨by rw [he]; exact congrArg (fun x => Ending.returned (.bool x)) (decide_eq_true ((rep_zero h2).1 (by rw [hp] at h3 ⊢; exact h3))), hb⟩
  have HO : Hid (∀ (c mp mn : Nat) w, Cv w c mp mn → Calls Tryd.prog 19 #[boxM c, .string (tellE p)] w fun e w' => e = .returned (.tuple #[.agg (ptL (ptOf (tellE p)).1).toArray, .bool true]) ∧ Below w.heap.size w w') := fun c mp mn w h => by
    have := pointOf_in (tellE p) w h
    rwa [h1] at this
  generalize (ptOf (tellE p)).1 = a at HN HO
  generalize tellE p = s at HO ⊢
  clear h1 h2 h3 hp
  have HP := Hid.mk p256_in
  have hzp := zeroPt
  have F := Fm.start W
  go_enter Tryd.func7, Tryd.ntmps7
  go_wp2_with fail
  refine (HP.out _).mono ?_
  rintro e u0 ⟨c, mp, mn, rfl, C, hb⟩
  replace F := F.blk hb
  clear hb HP
  go_wp2_with fail
  refine (HO.out _ _ _ _ C).mono ?_
  rintro e u1 ⟨rfl, hb⟩
  replace F := F.blk hb
  clear hb
  go_upto_region 2 with fail
  replace F := F.new (Obj.cells (ptL a).toArray 41 (0, 0))
  generalize u1.alloc (Obj.cells (ptL a).toArray 41 (0, 0)) = v1 at F ⊢
  generalize u1.heap.size = b3 at F ⊢
  have l3 := ptLoad_run (F.get 0 rfl)
  go_wp2_with fail
  refine (HN.out _).mono ?_
  rintro e u2 ⟨rfl, hb⟩
  replace F := F.blk hb
  clear hb
  go_wp2
  go_ret
  exact ⟨rfl, F.bel⟩
set_option maxRecDepth 100000 in
set_option maxHeartbeats 2000000 in
theorem on_no (s : ByteArray) (W : World) (hs : (ptOf s).2 = false) : Calls Tryd.prog 7 #[.string s] W fun e w' => e = .returned (.bool false) ∧ Below W.heap.size W w' := by
  have HO : Hid (∀ (c mp mn : Nat) w, Cv w c mp mn → Calls Tryd.prog 19 #[boxM c, .string s] w fun e w' => e = .returned (.tuple #[.agg (ptL (ptOf s).1).toArray, .bool false]) ∧ Below w.heap.size w w') := fun c mp mn w h => by
    have := pointOf_in s w h
    rwa [hs] at this
  generalize (ptOf s).1 = a at HO
  clear hs
  have HP := Hid.mk p256_in
  have hzp := zeroPt
  have F := Fm.start W
  go_enter Tryd.func7, Tryd.ntmps7
  go_wp2_with fail
  refine (HP.out _).mono ?_
  rintro e u0 ⟨c, mp, mn, rfl, C, hb⟩
  replace F := F.blk hb
  clear hb HP
  go_wp2_with fail
  refine (HO.out _ _ _ _ C).mono ?_
  rintro e u1 ⟨rfl, hb⟩
  replace F := F.blk hb
  clear hb
  go_upto_region 2 with fail
  replace F := F.new (Obj.cells (ptL a).toArray 41 (0, 0))
  generalize u1.alloc (Obj.cells (ptL a).toArray 41 (0, 0)) = v1 at F ⊢
  generalize u1.heap.size = b3 at F ⊢
  go_wp2
  go_ret
  exact ⟨rfl, F.bel⟩
set_option maxRecDepth 100000 in
set_option maxHeartbeats 2000000 in
theorem sum_yes (p q : Ec) (W : World)  : Calls Tryd.prog 14 #[.string (tellE p), .string (tellE q)] W fun e w' => e = .returned (.tuple #[.string (tellE (p.add q)), .int .i64 0]) ∧ Below W.heap.size W w' := by
  obtain ⟨h1, h2, h3⟩ := ptOf_tell p
  obtain ⟨g1, g2, g3⟩ := ptOf_tell q
  have HA : Hid (∀ (c mp mn : Nat) w, Cv w c mp mn → Calls Tryd.prog 19 #[boxM c, .string (tellE p)] w fun e w' => e = .returned (.tuple #[.agg (ptL (ptOf (tellE p)).1).toArray, .bool true]) ∧ Below w.heap.size w w') := fun c mp mn w h => by
    have := pointOf_in (tellE p) w h
    rwa [h1] at this
  have HB : Hid (∀ (c mp mn : Nat) w, Cv w c mp mn → Calls Tryd.prog 19 #[boxM c, .string (tellE q)] w fun e w' => e = .returned (.tuple #[.agg (ptL (ptOf (tellE q)).1).toArray, .bool true]) ∧ Below w.heap.size w w') := fun c mp mn w h => by
    have := pointOf_in (tellE q) w h
    rwa [g1] at this
  generalize (ptOf (tellE p)).1 = a at HA h2 h3
  generalize (ptOf (tellE q)).1 = b at HB g2 g3
  have hok := T3.sum_ok h2 g2
  have hrp := T3.rep_sum h2 g2 h3 g3
  have HS : Hid (∀ (c mp mn : Nat) w, Cv w c mp mn → Calls Tryd.prog 30 #[boxM c, .agg (ptL a).toArray, .agg (ptL b).toArray] w fun e w' => e = .returned (.agg (ptL (a.sum b)).toArray) ∧ Below w.heap.size w w') := fun c mp mn w h => sum_in a b w h h2 g2
  have HT : Hid (∀ (c mp mn : Nat) w, Cv w c mp mn → Calls Tryd.prog 27 #[boxM c, .agg (ptL (a.sum b)).toArray] w fun e w' => e = .returned (.string (tellE (p.add q))) ∧ Below w.heap.size w w') := fun c mp mn w h => (bytesOf_in _ w h hok (T3.repEnd hok hrp)).mono fun e w' ⟨he, hb⟩ => ⟨by rw [he, tellT_eq hok hrp], hb⟩
  generalize tellE (p.add q) = t at HT ⊢
  generalize tellE p = sp at HA ⊢
  generalize tellE q = sq at HB ⊢
  generalize a.sum b = d at HS HT
  clear h1 h2 h3 g1 g2 g3 hok hrp
  have HP := Hid.mk p256_in
  have hzp := zeroPt
  have F := Fm.start W
  go_enter Tryd.func14, Tryd.ntmps14
  go_wp2_with fail
  refine (HP.out _).mono ?_
  rintro e u0 ⟨c, mp, mn, rfl, C, hb⟩
  replace F := F.blk hb
  clear hb HP
  go_wp2_with fail
  refine (HA.out _ _ _ _ C).mono ?_
  rintro e u1 ⟨rfl, hb⟩
  replace F := F.blk hb
  replace C := C.blk hb
  clear hb
  go_upto_region 3 with fail
  have hA := (Below.refl u1.heap.size u1).alloc (Nat.le_refl _) (Obj.cells (ptL a).toArray 41 (0, 0))
  replace C := C.blk hA
  replace F := F.new (Obj.cells (ptL a).toArray 41 (0, 0))
  clear hA
  generalize u1.alloc (Obj.cells (ptL a).toArray 41 (0, 0)) = v1 at F C ⊢
  generalize u1.heap.size = b7 at F ⊢
  go_wp2_with fail
  refine (HB.out _ _ _ _ C).mono ?_
  rintro e u2 ⟨rfl, hb⟩
  replace F := F.blk hb
  replace C := C.blk hb
  clear hb
  go_upto_region 4 with fail
  have hA := (Below.refl u2.heap.size u2).alloc (Nat.le_refl _) (Obj.cells (ptL b).toArray 41 (0, 0))
  replace C := C.blk hA
  replace F := F.new (Obj.cells (ptL b).toArray 41 (0, 0))
  clear hA
  generalize u2.alloc (Obj.cells (ptL b).toArray 41 (0, 0)) = v2 at F C ⊢
  generalize u2.heap.size = b9 at F ⊢
  have l7 := ptLoad_run (F.get 1 rfl)
  have l9 := ptLoad_run (F.get 0 rfl)
  go_wp2_with fail
  refine (HS.out _ _ _ _ C).mono ?_
  rintro e u3 ⟨rfl, hb⟩
  replace F := F.blk hb
  replace C := C.blk hb
  clear hb l7 l9
  go_wp2_with fail
  refine (HT.out _ _ _ _ C).mono ?_
  rintro e u4 ⟨rfl, hb⟩
  replace F := F.blk hb
  clear hb
  go_wp2
  go_ret2
  exact ⟨rfl, F.bel⟩
set_option maxRecDepth 100000 in
set_option maxHeartbeats 2000000 in
theorem sum_no (s t : ByteArray) (W : World) (h : (ptOf s).2 = false ∨ (ptOf t).2 = false) : Calls Tryd.prog 14 #[.string s, .string t] W fun e w' => e = .returned (.tuple #[.string ⟨#[]⟩, .int .i64 8]) ∧ Below W.heap.size W w' := by
  have HA : Hid (∀ (c mp mn : Nat) w, Cv w c mp mn → Calls Tryd.prog 19 #[boxM c, .string s] w fun e w' => e = .returned (.tuple #[.agg (ptL (ptOf s).1).toArray, .bool (ptOf s).2]) ∧ Below w.heap.size w w') := fun c mp mn w h => pointOf_in s w h
  have HB : Hid (∀ (c mp mn : Nat) w, Cv w c mp mn → Calls Tryd.prog 19 #[boxM c, .string t] w fun e w' => e = .returned (.tuple #[.agg (ptL (ptOf t).1).toArray, .bool (ptOf t).2]) ∧ Below w.heap.size w w') := fun c mp mn w h => pointOf_in t w h
  generalize (ptOf s).1 = a at HA
  generalize (ptOf t).1 = b at HB
  generalize (ptOf s).2 = x at HA h
  generalize (ptOf t).2 = y at HB h
  have HP := Hid.mk p256_in
  have hzp := zeroPt
  have F := Fm.start W
  go_enter Tryd.func14, Tryd.ntmps14
  go_wp2_with fail
  refine (HP.out _).mono ?_
  rintro e u0 ⟨c, mp, mn, rfl, C, hb⟩
  replace F := F.blk hb
  clear hb HP
  go_wp2_with fail
  refine (HA.out _ _ _ _ C).mono ?_
  rintro e u1 ⟨rfl, hb⟩
  replace F := F.blk hb
  replace C := C.blk hb
  clear hb
  go_upto_region 3 with fail
  have hA := (Below.refl u1.heap.size u1).alloc (Nat.le_refl _) (Obj.cells (ptL a).toArray 41 (0, 0))
  replace C := C.blk hA
  replace F := F.new (Obj.cells (ptL a).toArray 41 (0, 0))
  clear hA
  generalize u1.alloc (Obj.cells (ptL a).toArray 41 (0, 0)) = v1 at F C ⊢
  generalize u1.heap.size = b7 at F ⊢
  go_wp2_with fail
  refine (HB.out _ _ _ _ C).mono ?_
  rintro e u2 ⟨rfl, hb⟩
  replace F := F.blk hb
  replace C := C.blk hb
  clear hb
  go_upto_region 4 with fail
  have hA := (Below.refl u2.heap.size u2).alloc (Nat.le_refl _) (Obj.cells (ptL b).toArray 41 (0, 0))
  replace C := C.blk hA
  replace F := F.new (Obj.cells (ptL b).toArray 41 (0, 0))
  clear hA
  generalize u2.alloc (Obj.cells (ptL b).toArray 41 (0, 0)) = v2 at F C ⊢
  generalize u2.heap.size = b9 at F ⊢
  cases x with
  | false =>
    go_wp2
    go_ret2
    exact ⟨rfl, F.bel⟩
  | true =>
    cases y with
    | false =>
      go_wp2
      go_ret2
      exact ⟨rfl, F.bel⟩
    | true => simp at h
set_option maxRecDepth 100000 in
set_option maxHeartbeats 2000000 in
theorem times_len (k s : ByteArray) (W : World) (h : k.size ≠ 32) : Calls Tryd.prog 13 #[.string k, .string s] W fun e w' => e = .returned (.tuple #[.string ⟨#[]⟩, .int .i64 1]) ∧ Below W.heap.size W w' := by
  have hk : ((k.size : Int) != 32) = true := by simp; omega
  clear h
  go_enter Tryd.func13, Tryd.ntmps13
  go_wp2
  go_ret2
  exact ⟨rfl, Below.refl _ _⟩
set_option maxRecDepth 100000 in
set_option maxHeartbeats 2000000 in
theorem times_no (k s : ByteArray) (W : World) (h : k.size = 32) (hs : (ptOf s).2 = false) : Calls Tryd.prog 13 #[.string k, .string s] W fun e w' => e = .returned (.tuple #[.string ⟨#[]⟩, .int .i64 8]) ∧ Below W.heap.size W w' := by
  have hk : ((k.size : Int) != 32) = false := by simp; omega
  have HA : Hid (∀ (c mp mn : Nat) w, Cv w c mp mn → Calls Tryd.prog 19 #[boxM c, .string s] w fun e w' => e = .returned (.tuple #[.agg (ptL (ptOf s).1).toArray, .bool false]) ∧ Below w.heap.size w w') := fun c mp mn w h => by
    have := pointOf_in s w h
    rwa [hs] at this
  generalize (ptOf s).1 = a at HA
  clear h hs
  have HP := Hid.mk p256_in
  have hzp := zeroPt
  have F := Fm.start W
  go_enter Tryd.func13, Tryd.ntmps13
  go_wp2_with fail
  refine (HP.out _).mono ?_
  rintro e u0 ⟨c, mp, mn, rfl, C, hb⟩
  replace F := F.blk hb
  clear hb HP
  go_wp2_with fail
  refine (HA.out _ _ _ _ C).mono ?_
  rintro e u1 ⟨rfl, hb⟩
  replace F := F.blk hb
  replace C := C.blk hb
  clear hb
  go_upto_region 5 with fail
  have hA := (Below.refl u1.heap.size u1).alloc (Nat.le_refl _) (Obj.cells (ptL a).toArray 41 (0, 0))
  replace C := C.blk hA
  replace F := F.new (Obj.cells (ptL a).toArray 41 (0, 0))
  clear hA
  generalize u1.alloc (Obj.cells (ptL a).toArray 41 (0, 0)) = v1 at F C ⊢
  generalize u1.heap.size = b7 at F ⊢
  go_wp2
  go_ret2
  exact ⟨rfl, F.bel⟩
set_option maxRecDepth 100000 in
set_option maxHeartbeats 2000000 in
theorem times_yes (k : ByteArray) (p : Ec) (W : World) (h : k.size = 32) : Calls Tryd.prog 13 #[.string k, .string (tellE p)] W fun e w' => e = .returned (.tuple #[.string (tellE (Ec.mul (N.numB k.data.toList) p)), .int .i64 0]) ∧ Below W.heap.size W w' := by
  have hk : ((k.size : Int) != 32) = false := by simp; omega
  obtain ⟨h1, h2, h3⟩ := ptOf_tell p
  have HA : Hid (∀ (c mp mn : Nat) w, Cv w c mp mn → Calls Tryd.prog 19 #[boxM c, .string (tellE p)] w fun e w' => e = .returned (.tuple #[.agg (ptL (ptOf (tellE p)).1).toArray, .bool true]) ∧ Below w.heap.size w w') := fun c mp mn w h => by
    have := pointOf_in (tellE p) w h
    rwa [h1] at this
  generalize (ptOf (tellE p)).1 = a at HA h2 h3
  have HNo := Hid.mk (numberOf_in k (by omega))
  have hK : N.numB k.data.toList < 2 ^ 256 := by
    have h1 := N.numB_lt k.data.toList
    rw [size_list, h] at h1
    exact Nat.lt_of_lt_of_le h1 (by decide)
  generalize N.numB k.data.toList = K at HNo hK ⊢
  have hb8 : K < 2 ^ (8 * N.nbl K) := by
    have := N.nbl_lt K
    rwa [show (256 : Nat) = 2 ^ 8 from rfl, ← Nat.pow_mul] at this
  have hok := T3.times_ok h2 (8 * N.nbl K) K
  have hrp := T3.rep_times h2 h3 hb8
  have HS : Hid (∀ (c mp mn : Nat) w, Cv w c mp mn → Calls Tryd.prog 28 #[boxM c, .agg (N.natL K).toArray, .agg (ptL a).toArray] w fun e w' => e = .returned (.agg (ptL (a.times (8 * N.nbl K) K)).toArray) ∧ Below w.heap.size w w') := fun c mp mn w h => taken_in K a w h h2 hK
  have HT : Hid (∀ (c mp mn : Nat) w, Cv w c mp mn → Calls Tryd.prog 27 #[boxM c, .agg (ptL (a.times (8 * N.nbl K) K)).toArray] w fun e w' => e = .returned (.string (tellE (Ec.mul K p))) ∧ Below w.heap.size w w') := fun c mp mn w h => (bytesOf_in _ w h hok (T3.repEnd hok hrp)).mono fun e w' ⟨he, hb⟩ => ⟨by rw [he, tellT_eq hok hrp], hb⟩
  generalize tellE (Ec.mul K p) = t at HT ⊢
  generalize tellE p = sp at HA ⊢
  generalize a.times (8 * N.nbl K) K = d at HS HT
  clear h1 h2 h3 hok hrp hb8 hK h
  have HP := Hid.mk p256_in
  have hzp := zeroPt
  have F := Fm.start W
  go_enter Tryd.func13, Tryd.ntmps13
  go_wp2_with fail
  refine (HP.out _).mono ?_
  rintro e u0 ⟨c, mp, mn, rfl, C, hb⟩
  replace F := F.blk hb
  clear hb HP
  go_wp2_with fail
  refine (HA.out _ _ _ _ C).mono ?_
  rintro e u1 ⟨rfl, hb⟩
  replace F := F.blk hb
  replace C := C.blk hb
  clear hb
  go_upto_region 5 with fail
  have hA := (Below.refl u1.heap.size u1).alloc (Nat.le_refl _) (Obj.cells (ptL a).toArray 41 (0, 0))
  replace C := C.blk hA
  replace F := F.new (Obj.cells (ptL a).toArray 41 (0, 0))
  clear hA
  generalize u1.alloc (Obj.cells (ptL a).toArray 41 (0, 0)) = v1 at F C ⊢
  generalize u1.heap.size = b7 at F ⊢
  go_upto_region 7 with fail
  obtain ⟨L, hL⟩ : ∃ L : List (Nat × Obj), [(b7, Obj.cells (ptL a).toArray 41 (0, 0))] = L := ⟨_, rfl⟩
  rw [hL] at F
  have HS7 : Hid (∀ w, (Fm W L w ∧ Cv w c mp mn) → (Fm W L w ∧ Cv w c mp mn) ∧ (ptLoad (.pointer (some ⟨b7, 0, none⟩))).run Tryd.prog w = .ok (.agg (ptL a).toArray) w) := fun w h => ⟨h, ptLoad_run (h.1.get 0 (by rw [← hL]; rfl))⟩
  have FC : Fm W L v1 ∧ Cv v1 c mp mn := ⟨F, C⟩
  have HBK : Hid (∀ w w', (Fm W L w ∧ Cv w c mp mn) → Below w.heap.size w w' → Fm W L w' ∧ Cv w' c mp mn) := fun w w' h hb => ⟨h.1.blk hb, h.2.blk hb⟩
  have HDR : Hid (∀ w, (Fm W L w ∧ Cv w c mp mn) → Fm W L w.drew ∧ Cv w.drew c mp mn) := fun w h => ⟨h.1.drew, h.2.box, h.2.p, h.2.n⟩
  have FCd := HDR.out _ FC
  have hS0 := HS7.out _ FCd
  clear C F
  go_region_held3 (fun w => (Fm W L w ∧ Cv w c mp mn) ∧ (ptLoad (.pointer (some ⟨b7, 0, none⟩))).run Tryd.prog w = .ok (.agg (ptL a).toArray) w)
    (first | assumption | exact hS0)
    (first
      | (go_at_call 29; with_reducible refine (HNo.out _).mono ?_; rintro e w2 ⟨rfl, hb2⟩; have FC2 := HBK.out _ _ FCd hb2; have hs2 := HS7.out _ FC2)
      | (go_at_call 28; with_reducible refine (HS.out _ _ _ _ FC2.2).mono ?_; rintro e w3 ⟨rfl, hb3⟩; have FC3 := HBK.out _ _ FC2 hb3; have hs3 := HS7.out _ FC3)
      | (go_at_call 27; with_reducible refine (HT.out _ _ _ _ FC3.2).mono ?_; rintro e w4 ⟨rfl, hb4⟩; have FC4 := HBK.out _ _ FC3 hb4; have hs4 := HS7.out _ FC4))
  go_wp2
  go_ret2
  exact ⟨rfl, FC4.1.bel⟩
end Go.Proofs.YtmjenhilafdioaaDoor
