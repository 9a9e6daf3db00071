/- Texts of this proof, joined: LdK, LdL. -/
import Derived.Test.YtdlcldjlfhmlgaaGreatDoorJ17
set_option linter.unusedVariables false
set_option linter.unusedSimpArgs false
/- Layer 14: find. -/
namespace Go.Proofs.YtdlcldjlfhmlgaaGreatDoor
open Go.RowKit
open So (El elC SRow)
def ownE (els : List El) (n : N3) : List El := (els.drop (fstE els n)).takeWhile fun e => eqB e.ls n
def hasE (els : List El) (n : N3) : Bool := match els[fstE els n]? with | some e => undB e.ls n | none => false
structure Fnd (W : World) (Z : Nat) (zn : ByteArray) (f : Value) (q : Option Addr) (cap : Nat) (els : List El) (w : World) : Prop where
 z : w.heap[Z]? = some (.cells #[.string zn, .slice q els.length cap, f] 92 (0, 0))
 row : 0 < els.length → ∃ g, q = some ⟨g, 0, none⟩ ∧ SRow w g els
 bel : Below W.heap.size W w
theorem Fnd.blk {W w w' : World} {Z : Nat} {zn : ByteArray} {f : Value} {q : Option Addr} {cap : Nat} {els : List El} (h : Fnd W Z zn f q cap els w) (hb : Below w.heap.size w w') : Fnd W Z zn f q cap els w' :=
 ⟨(hb.block Z (Array.getElem?_eq_some_iff.1 h.z).1).trans h.z, fun h0 => by obtain ⟨g, e, hr⟩ := h.row h0; exact ⟨g, e, hr.blk hb⟩, h.bel.trans (hb.mono h.bel.size)⟩
theorem Fnd.c0 {W w : World} {Z : Nat} {zn : ByteArray} {f : Value} {q : Option Addr} {cap : Nat} {els : List El} (h : Fnd W Z zn f q cap els w) : w.cell? ⟨Z, 0, none⟩ = some (.string zn) := by rw [So.cell_blk h.z]; rfl
theorem Fnd.c1 {W w : World} {Z : Nat} {zn : ByteArray} {f : Value} {q : Option Addr} {cap : Nat} {els : List El} (h : Fnd W Z zn f q cap els w) : w.cell? ⟨Z, 1, none⟩ = some (.slice q els.length cap) := by rw [So.cell_blk h.z]; rfl
def FiP (W : World) (els : List El) (n zn : N3) (e : Ending) (w' : World) : Prop := (∃ q cap, e = .returned (.tuple #[.slice q (ownE els n).length cap, .bool (hasE els n || eqB n zn)]) ∧ Src w' q (ownE els n)) ∧ Below W.heap.size W w'
theorem own_of {els : List El} {n : N3} {F E : Nat} (hF : fstE els n = F) (hE : E ≤ els.length) (hFE : F ≤ E) (h1 : ∀ j (hj : j < els.length), F ≤ j → j < E → eqB els[j].ls n = true) (h2 : E = els.length ∨ ∃ hj : E < els.length, eqB els[E].ls n = false) : ownE els n = (els.drop F).take (E - F) ∧ (ownE els n).length = E - F := by
 have key : ∀ (l : List El) (k : Nat), k ≤ l.length → (∀ j (hj : j < l.length), j < k → eqB l[j].ls n = true) → (k = l.length ∨ ∃ hj : k < l.length, eqB l[k].ls n = false) → l.takeWhile (fun e => eqB e.ls n) = l.take k := by
  intro l
  induction l with
  | nil => intro k _ _ _; simp
  | cons a l ih =>
   intro k hk h1 h2
   cases k with
   | zero =>
    rcases h2 with h2 | ⟨hj, h2⟩
    ·simp at h2
    ·simp only [List.getElem_cons_zero] at h2
     simp [List.takeWhile_cons, h2]
   | succ k =>
    have ha := h1 0 (by simp) (by omega)
    simp only [List.getElem_cons_zero] at ha
    rw [List.takeWhile_cons, ha, List.take_succ_cons]
    simp only [if_true]
    congr 1
    refine ih k (by simpa using hk) (fun j hj hlt => ?_) ?_
    ·have := h1 (j + 1) (by simpa using hj) (by omega)
     simpa using this
    ·rcases h2 with h2 | ⟨hj, h2⟩
     ·exact .inl (by simpa using h2)
     ·exact .inr ⟨by simpa using hj, by simpa using h2⟩
 have := key (els.drop F) (E - F) (by rw [List.length_drop]; omega) (fun j hj hlt => by
  rw [List.length_drop] at hj
  have := h1 (F + j) (by omega) (by omega) (by omega)
  rw [List.getElem_drop]; exact this) (by
  rcases h2 with h2 | ⟨hj, h2⟩
  ·exact .inl (by rw [List.length_drop]; omega)
  ·refine .inr ⟨by rw [List.length_drop]; omega, ?_⟩
   rw [List.getElem_drop]
   have e : F + (E - F) = E := by omega
   simp only [e]
   exact h2)
 unfold ownE
 rw [hF, this]
 refine ⟨rfl, ?_⟩
 rw [List.length_take, List.length_drop]
 omega
set_option maxRecDepth 100000 in
set_option maxHeartbeats 8000000 in
theorem find_in (W : World) (Z : Nat) (zn : N3) (hzn : OkN zn) (f : Value) (q : Option Addr) (cap : Nat) (els : List El) (h : Fnd W Z (nm zn) f q cap els W) (hok : ∀ e ∈ els, OkN e.ls) (hR : So.Ris So.lt els) (hl : els.length ≤ 1000) (hcap : els.length ≤ cap) (n : N3) (hn : OkN n) :
  Calls Tryz.prog 94 #[ptA Z 0, .string (nm n)] W fun e w' => FiP W els n zn e w' := by
 have HBs : Hid (∀ w, Fnd W Z (nm zn) f q cap els w → Calls Tryz.prog 124 #[.slice q els.length cap, .string (nm n), .func (.func 125) #[] #[]] w fun e w' => BsP (fstE els n) w e w') := fun w hw => bsearch_in w q cap els n hn hw.row hok hR hl
 have HEq : Hid (∀ e ∈ els, ∀ w, Calls Tryz.prog 48 #[.string (nm e.ls), .string (nm n)] w fun e' w' => e' = .returned (.bool (eqB e.ls n)) ∧ Below w.heap.size w w') := fun e he w => equal_yes e.ls n (hok e he) hn w
 have HUn : Hid (∀ e ∈ els, ∀ w, Calls Tryz.prog 23 #[.string (nm e.ls), .string (nm n)] w fun e' w' => e' = .returned (.bool (undB e.ls n)) ∧ Below w.heap.size w w') := fun e he w => under_yes e.ls n (hok e he) hn w
 have HEz := Hid.mk (fun w => equal_yes n zn hn hzn w)
 have hFl : fstE els n ≤ els.length := List.length_filter_le _ _
 have HH := Hid.mk h
 have c1 := h.c1
 have HCell : Hid (∀ w i, i < els.length → Fnd W Z (nm zn) f q cap els w → ∃ g, q = some ⟨g, 0, none⟩ ∧ ∃ e : El, w.cell? ⟨g, i * 6, none⟩ = some (.string (nm e.ls)) ∧ Hid (els[i]? = some e ∧ e ∈ els)) := by
  intro w i hi hw
  obtain ⟨g, e, hr⟩ := hw.row (by omega)
  exact ⟨g, e, els[i], hr.cell i hi 0 (by decide), List.getElem?_eq_getElem hi, List.getElem_mem hi⟩
 obtain ⟨ez, hez⟩ : ∃ ez, eqB n zn = ez := ⟨_, rfl⟩
 rw [hez] at HEz
 have HOw := Hid.mk (fun F E h0 h1 h2 => @own_of els n F E h0 h1 h2)
 have HSrc : Hid (∀ w F E gg, q = some ⟨gg, 0, none⟩ → Fnd W Z (nm zn) f q cap els w → F ≤ E → E ≤ els.length → ownE els n = (els.drop F).take (E - F) ∧ (ownE els n).length = E - F → Src w (some ⟨gg, F * 6, none⟩) (ownE els n)) := by
  intro w F E gg hgg hw h1 h2 ⟨h3, h4⟩ h0
  rw [h4] at h0
  obtain ⟨g, e, hr⟩ := hw.row (by omega)
  rw [hgg] at e
  cases e
  exact ⟨gg, F, els, rfl, hr, by rw [h4, ← h3]⟩
 obtain ⟨m, hm⟩ : ∃ m, els.length = m := ⟨_, rfl⟩
 obtain ⟨F, hF⟩ : ∃ F, fstE els n = F := ⟨_, rfl⟩
 rw [hm] at c1 HBs hFl hl hcap HCell HSrc
 rw [hF] at HBs hFl
 have HMm := Hid.mk hm
 have HFF := Hid.mk hF
 have HZe := Hid.mk hez
 have HC1 : Hid (∀ w, Fnd W Z (nm zn) f q cap els w → w.cell? ⟨Z, 0, none⟩ = some (.string (nm zn)) ∧ w.cell? ⟨Z, 1, none⟩ = some (.slice q m cap)) := fun w hw => ⟨hw.c0, by rw [hw.c1, hm]⟩
 clear h hm hF hez hok hR
 go_enter Tryz.func94, Tryz.ntmps94
 go_wp2_with fail
 refine (HBs.out _ HH.out).mono ?_
 rintro e w1 ⟨⟨b, rfl⟩, hb1⟩
 have H1 := Hid.mk (HH.out.blk hb1)
 clear hb1 c1
 go_wp2
 go_loopw [8] (fun iv wr => ∃ E : Nat, iv = .int .i64 (E : Int) ∧ F ≤ E ∧ E ≤ m ∧ Hid ((∀ j (hj : j < els.length), F ≤ j → j < E → eqB els[j].ls n = true) ∧ Fnd W Z (nm zn) f q cap els wr)) (fun iv _ => m - (intOf iv).toNat)
 case atStart => exact ⟨F, rfl, Nat.le_refl _, hFl, fun j _ h1 h2 => by omega, H1.out⟩
 case round =>
  obtain ⟨E, rfl, hFE, hEm, HD⟩ := hrel
  by_cases hlt : E < m
  ·have hlz : (E : Int) < (m : Int) := by omega
   have wE : IntKind.i64.wrap ((E : Int) + 1) = ((E + 1 : Nat) : Int) := by rw [IntKind.wrap_i64]; omega
   obtain ⟨g, hqg, x, cx, HX⟩ := HCell.out wr E hlt HD.out.2
   subst hqg
   obtain ⟨cc0, cc1⟩ := HC1.out _ HD.out.2
   cases hb : eqB x.ls n with
   | true =>
    have HC := Hid.mk (fun w => HEq.out x HX.out.2 w)
    rw [hb] at HC
    have HG : Hid (∀ j (hj : j < els.length), F ≤ j → j < E + 1 → eqB els[j].ls n = true) := fun j hj h1 h2 => by
     by_cases e : j = E
     ·subst e
      have e1 := HX.out.1
      rw [List.getElem?_eq_getElem hj] at e1
      simp only [Option.some.injEq] at e1
      rw [e1]; exact hb
     ·exact HD.out.1 j hj h1 (by omega)
    clear hb
    go_wp2_with fail
    refine (HC.out _).mono ?_
    rintro e w2 ⟨rfl, hb2⟩
    have H2 := Hid.mk (HD.out.2.blk hb2)
    clear hb2
    go_wp2
    go_roundw
    case rel => exact ⟨E + 1, by first | rfl | go_num, by omega, by omega, HG.out, H2.out⟩
    case measure => simp [intOf]; omega
   | false =>
    have HC := Hid.mk (fun w => HEq.out x HX.out.2 w)
    rw [hb] at HC
    have HO : Hid (ownE els n = (els.drop F).take (E - F) ∧ (ownE els n).length = E - F) := by
     refine HOw.out F E HFF.out (by rw [HMm.out]; omega) hFE HD.out.1 (.inr ?_)
     obtain ⟨hj, e1⟩ := List.getElem?_eq_some_iff.1 HX.out.1
     exact ⟨hj, by rw [e1]; exact hb⟩
    clear hb
    have hFm : F < m := by omega
    obtain ⟨g', hqg', y, cy, HY⟩ := HCell.out wr F hFm HD.out.2
    have HCY : Hid (∀ w, Fnd W Z (nm zn) f (some ⟨g, 0, none⟩) cap els w → w.cell? ⟨Z, 0, none⟩ = some (.string (nm zn)) ∧ w.cell? ⟨Z, 1, none⟩ = some (.slice (some ⟨g, 0, none⟩) m cap) ∧ ∃ gg, some (⟨g, 0, none⟩ : Addr) = some ⟨gg, 0, none⟩ ∧ w.cell? ⟨gg, F * 6, none⟩ = some (.string (nm y.ls))) := by
     intro w hw
     obtain ⟨gg, hq2, y2, c2, h2⟩ := HCell.out w F hFm hw
     have : y2 = y := by have a := h2.out.1; rw [HY.out.1] at a; simpa using a.symm
     exact ⟨(HC1.out w hw).1, (HC1.out w hw).2, gg, hq2, by rw [← this]; exact c2⟩
    have fz : (F : Int) < (m : Int) := by omega
    clear cy hqg'
    go_wp2_with fail
    refine (HC.out _).mono ?_
    rintro e w2 ⟨rfl, hb2⟩
    have H2 := Hid.mk (HD.out.2.blk hb2)
    clear hb2 cc0 cc1 cx
    obtain ⟨y0, y1, gg, hgg, y2⟩ := HCY.out _ H2.out
    cases hgg
    have HU := Hid.mk (fun w => HUn.out y HY.out.2 w)
    have HHas : Hid (hasE els n = undB y.ls n) := by
     show _ = _
     unfold hasE
     rw [HFF.out, HY.out.1]
    cases hu : undB y.ls n with
    | true =>
     rw [hu] at HU HHas
     have HRe : Hid ((hasE els n || eqB n zn) = true) := by show _ = _; rw [HHas.out, HZe.out]; rfl
     clear hu
     go_wp2_with fail
     refine (HU.out _).mono ?_
     rintro e w3 ⟨rfl, hb3⟩
     have H3 := Hid.mk (H2.out.blk hb3)
     clear hb3 y0 y1 y2
     have hS0 := HC1.out _ H3.out
     have e0 : (0 : Int) ≤ (F : Int) := by omega
     have e1 : (F : Int) ≤ (E : Int) := by omega
     have e2 : (E : Int) ≤ (cap : Int) := by omega
     go_upto_region 6 with fail
     refine wp_region_held_drew (S := fun w => w.cell? ⟨Z, 0, none⟩ = some (.string (nm zn)) ∧ w.cell? ⟨Z, 1, none⟩ = some (.slice _ m cap)) (by kernel_rfl) hS0 (fun hHeld => ?_)
     refine wU (i := 0) (v := ?vmta_0) rfl ?ymta_0 (by assumption) ?_
     case ymta_0 => (intro w hSw; (try dsimp only at hSw); go_simp; try with_reducible rfl)
     refine wU (i := 1) (v := ?vmta_1) rfl ?ymta_1 (by assumption) ?_
     case ymta_1 => (intro w hSw; (try dsimp only at hSw); go_simp; try with_reducible rfl)
     refine wU (i := 2) (v := ?vmta_2) rfl ?ymta_2 (by assumption) ?_
     case ymta_2 => (intro w hSw; (try dsimp only at hSw); go_simp; try with_reducible rfl)
     refine wU (i := 3) (v := ?vmta_3) rfl ?ymta_3 (by assumption) ?_
     case ymta_3 => (intro w hSw; (try dsimp only at hSw); go_simp; try with_reducible rfl)
     refine wU (i := 4) (v := ?vmta_4) rfl ?ymta_4 (by assumption) ?_
     case ymta_4 => (intro w hSw; (try dsimp only at hSw); go_simp; try with_reducible rfl)
     refine wU (i := 5) (v := ?vmta_5) rfl ?ymta_5 (by assumption) ?_
     case ymta_5 => (intro w hSw; (try dsimp only at hSw); go_simp; try with_reducible rfl)
     refine wU (i := 6) (v := ?vmta_6) rfl ?ymta_6 (by assumption) ?_
     case ymta_6 => (intro w hSw; (try dsimp only at hSw); go_simp; try with_reducible rfl)
     refine wU (i := 7) (v := ?vmta_7) rfl ?ymta_7 (by assumption) ?_
     case ymta_7 => (intro w hSw; (try dsimp only at hSw); go_simp; try with_reducible rfl)
     refine wU (i := 8) (v := ?vmta_8) rfl ?ymta_8 (by assumption) ?_
     case ymta_8 => (intro w hSw; (try dsimp only at hSw); go_simp; try with_reducible rfl)
     try simp only [Act.put, List.getElem_toArray, List.getElem_cons_succ, List.getElem_cons_zero, List.setIfInBounds_toArray, List.set_cons_zero, List.set_cons_succ]
     refine wT (i := 9) (v := undef) rfl (Or.inr ⟨by kernel_rfl, rfl⟩) (by assumption) ?_
     try simp only [Act.put, List.getElem_toArray, List.getElem_cons_succ, List.getElem_cons_zero, List.setIfInBounds_toArray, List.set_cons_zero, List.set_cons_succ]
     refine wT (i := 10) (v := undef) rfl (Or.inr ⟨by kernel_rfl, rfl⟩) (by assumption) ?_
     try simp only [Act.put, List.getElem_toArray, List.getElem_cons_succ, List.getElem_cons_zero, List.setIfInBounds_toArray, List.set_cons_zero, List.set_cons_succ]
     refine wT (i := 11) (v := undef) rfl (Or.inr ⟨by kernel_rfl, rfl⟩) (by assumption) ?_
     try simp only [Act.put, List.getElem_toArray, List.getElem_cons_succ, List.getElem_cons_zero, List.setIfInBounds_toArray, List.set_cons_zero, List.set_cons_succ]
     refine wT (i := 12) (v := undef) rfl (Or.inr ⟨by kernel_rfl, rfl⟩) (by assumption) ?_
     try simp only [Act.put, List.getElem_toArray, List.getElem_cons_succ, List.getElem_cons_zero, List.setIfInBounds_toArray, List.set_cons_zero, List.set_cons_succ]
     refine wT (i := 13) (v := undef) rfl (Or.inr ⟨by kernel_rfl, rfl⟩) (by assumption) ?_
     try simp only [Act.put, List.getElem_toArray, List.getElem_cons_succ, List.getElem_cons_zero, List.setIfInBounds_toArray, List.set_cons_zero, List.set_cons_succ]
     refine wT (i := 14) (v := undef) rfl (Or.inr ⟨by kernel_rfl, rfl⟩) (by assumption) ?_
     try simp only [Act.put, List.getElem_toArray, List.getElem_cons_succ, List.getElem_cons_zero, List.setIfInBounds_toArray, List.set_cons_zero, List.set_cons_succ]
     refine wU (i := 15) (v := ?vmtb_15) rfl ?ymtb_15 (by assumption) ?_
     case ymtb_15 => (intro w hSw; (try dsimp only at hSw); go_simp; try with_reducible rfl)
     refine wU (i := 16) (v := ?vmtb_16) rfl ?ymtb_16 (by assumption) ?_
     case ymtb_16 => (intro w hSw; (try dsimp only at hSw); go_simp; try with_reducible rfl)
     refine wU (i := 17) (v := ?vmtb_17) rfl ?ymtb_17 (by assumption) ?_
     case ymtb_17 => (intro w hSw; (try dsimp only at hSw); go_simp; try with_reducible rfl)
     try simp only [Act.put, List.getElem_toArray, List.getElem_cons_succ, List.getElem_cons_zero, List.setIfInBounds_toArray, List.set_cons_zero, List.set_cons_succ]
     refine wpAnyH_done (by kernel_rfl) ?_ _
     have HG := Hid.mk (H3.out.blk (Below.refl _ _).drew)
     clear hHeld hS0
     go_wp2
     go_ret2
     refine ⟨⟨_, _, by rw [HRe.out, HO.out.2]; rfl, HSrc.out _ F E _ rfl HG.out hFE hEm HO.out⟩, HG.out.bel⟩
    | false =>
     rw [hu] at HU HHas
     have HRe : Hid ((hasE els n || eqB n zn) = ez) := by show _ = _; rw [HHas.out, HZe.out]; rfl
     clear hu
     go_wp2_with fail
     refine (HU.out _).mono ?_
     rintro e w3 ⟨rfl, hb3⟩
     have H3 := Hid.mk (H2.out.blk hb3)
     clear hb3 y0 y1 y2
     have hS0 := HC1.out _ H3.out
     have e0 : (0 : Int) ≤ (F : Int) := by omega
     have e1 : (F : Int) ≤ (E : Int) := by omega
     have e2 : (E : Int) ≤ (cap : Int) := by omega
     go_upto_region 6 with fail
     refine wp_region_held_drew (S := fun w => w.cell? ⟨Z, 0, none⟩ = some (.string (nm zn)) ∧ w.cell? ⟨Z, 1, none⟩ = some (.slice _ m cap)) (by kernel_rfl) hS0 (fun hHeld => ?_)
     refine wU (i := 0) (v := ?vmfa_0) rfl ?ymfa_0 (by assumption) ?_
     case ymfa_0 => (intro w hSw; (try dsimp only at hSw); go_simp; try with_reducible rfl)
     refine wU (i := 1) (v := ?vmfa_1) rfl ?ymfa_1 (by assumption) ?_
     case ymfa_1 => (intro w hSw; (try dsimp only at hSw); go_simp; try with_reducible rfl)
     refine wU (i := 2) (v := ?vmfa_2) rfl ?ymfa_2 (by assumption) ?_
     case ymfa_2 => (intro w hSw; (try dsimp only at hSw); go_simp; try with_reducible rfl)
     refine wU (i := 3) (v := ?vmfa_3) rfl ?ymfa_3 (by assumption) ?_
     case ymfa_3 => (intro w hSw; (try dsimp only at hSw); go_simp; try with_reducible rfl)
     refine wU (i := 4) (v := ?vmfa_4) rfl ?ymfa_4 (by assumption) ?_
     case ymfa_4 => (intro w hSw; (try dsimp only at hSw); go_simp; try with_reducible rfl)
     refine wU (i := 5) (v := ?vmfa_5) rfl ?ymfa_5 (by assumption) ?_
     case ymfa_5 => (intro w hSw; (try dsimp only at hSw); go_simp; try with_reducible rfl)
     refine wU (i := 6) (v := ?vmfa_6) rfl ?ymfa_6 (by assumption) ?_
     case ymfa_6 => (intro w hSw; (try dsimp only at hSw); go_simp; try with_reducible rfl)
     refine wU (i := 7) (v := ?vmfa_7) rfl ?ymfa_7 (by assumption) ?_
     case ymfa_7 => (intro w hSw; (try dsimp only at hSw); go_simp; try with_reducible rfl)
     refine wU (i := 8) (v := ?vmfa_8) rfl ?ymfa_8 (by assumption) ?_
     case ymfa_8 => (intro w hSw; (try dsimp only at hSw); go_simp; try with_reducible rfl)
     try simp only [Act.put, List.getElem_toArray, List.getElem_cons_succ, List.getElem_cons_zero, List.setIfInBounds_toArray, List.set_cons_zero, List.set_cons_succ]
     refine wU (i := 9) (v := ?vmfc_9) rfl ?ymfc_9 (by assumption) ?_
     case ymfc_9 => (intro w hSw; (try dsimp only at hSw); go_simp; try with_reducible rfl)
     refine wU (i := 10) (v := ?vmfc_10) rfl ?ymfc_10 (by assumption) ?_
     case ymfc_10 => (intro w hSw; (try dsimp only at hSw); go_simp; try with_reducible rfl)
     refine wU (i := 11) (v := ?vmfc_11) rfl ?ymfc_11 (by assumption) ?_
     case ymfc_11 => (intro w hSw; (try dsimp only at hSw); go_simp; try with_reducible rfl)
     refine wU (i := 12) (v := ?vmfc_12) rfl ?ymfc_12 (by assumption) ?_
     case ymfc_12 => (intro w hSw; (try dsimp only at hSw); go_simp; try with_reducible rfl)
     refine wU (i := 13) (v := ?vmfc_13) rfl ?ymfc_13 (by assumption) ?_
     case ymfc_13 => (intro w hSw; (try dsimp only at hSw); go_simp; try with_reducible rfl)
     try simp only [Act.put, List.getElem_toArray, List.getElem_cons_succ, List.getElem_cons_zero, List.setIfInBounds_toArray, List.set_cons_zero, List.set_cons_succ]
     refine wpAnyH_ready (rs := [14]) (by kernel_rfl) (by simp) ?_
     refine AllReadyH.cons rfl (fun K hK => ?_) AllReadyH.nil
     go_simp
     go_at_call 48
     refine (HEz.out _).mono ?_
     rintro e w9 ⟨rfl, hb9⟩
     have HG := Hid.mk (H3.out.blk ((Below.refl _ _).drew.trans hb9))
     refine hK.out _ _ (HC1.out _ HG.out) (fun hHeld => ?_)
     clear hK K hb9
     refine wU (i := 15) (v := ?vmfd_15) rfl ?ymfd_15 (by assumption) ?_
     case ymfd_15 => (intro w hSw; (try dsimp only at hSw); go_simp; try with_reducible rfl)
     refine wU (i := 16) (v := ?vmfd_16) rfl ?ymfd_16 (by assumption) ?_
     case ymfd_16 => (intro w hSw; (try dsimp only at hSw); go_simp; try with_reducible rfl)
     refine wU (i := 17) (v := ?vmfd_17) rfl ?ymfd_17 (by assumption) ?_
     case ymfd_17 => (intro w hSw; (try dsimp only at hSw); go_simp; try with_reducible rfl)
     try simp only [Act.put, List.getElem_toArray, List.getElem_cons_succ, List.getElem_cons_zero, List.setIfInBounds_toArray, List.set_cons_zero, List.set_cons_succ]
     refine wpAnyH_done (by kernel_rfl) ?_ _
     clear hHeld hS0
     go_wp2
     go_ret2
     refine ⟨⟨_, _, by rw [HRe.out, HO.out.2]; rfl, HSrc.out _ F E _ rfl HG.out hFE hEm HO.out⟩, HG.out.bel⟩
  ·have hlz : ¬ (E : Int) < (m : Int) := by omega
   have cc := HC1.out _ HD.out.2
   obtain ⟨cc0, cc1⟩ := cc
   have HO : Hid (ownE els n = (els.drop F).take (E - F) ∧ (ownE els n).length = E - F) := by
    exact HOw.out F E HFF.out (by rw [HMm.out]; omega) hFE HD.out.1 (.inl (by rw [HMm.out]; omega))
   have H2 := Hid.mk HD.out.2
   by_cases hFm : F < m
   ·obtain ⟨g', hqg', y, cy, HY⟩ := HCell.out wr F hFm HD.out.2
    have HCY : Hid (∀ w, Fnd W Z (nm zn) f q cap els w → w.cell? ⟨Z, 0, none⟩ = some (.string (nm zn)) ∧ w.cell? ⟨Z, 1, none⟩ = some (.slice q m cap) ∧ ∃ gg, q = some ⟨gg, 0, none⟩ ∧ w.cell? ⟨gg, F * 6, none⟩ = some (.string (nm y.ls))) := by
     intro w hw
     obtain ⟨gg, hq2, y2, c2, h2⟩ := HCell.out w F hFm hw
     have : y2 = y := by have a := h2.out.1; rw [HY.out.1] at a; simpa using a.symm
     exact ⟨(HC1.out w hw).1, (HC1.out w hw).2, gg, hq2, by rw [← this]; exact c2⟩
    have fz : (F : Int) < (m : Int) := by omega
    clear cy
    subst hqg'
    obtain ⟨y0, y1, gg, hgg, y2⟩ := HCY.out _ H2.out
    cases hgg
    have HU := Hid.mk (fun w => HUn.out y HY.out.2 w)
    have HHas : Hid (hasE els n = undB y.ls n) := by
     show _ = _
     unfold hasE
     rw [HFF.out, HY.out.1]
    cases hu : undB y.ls n with
    | true =>
     rw [hu] at HU HHas
     have HRe : Hid ((hasE els n || eqB n zn) = true) := by show _ = _; rw [HHas.out, HZe.out]; rfl
     clear hu
     go_wp2_with fail
     refine (HU.out _).mono ?_
     rintro e w3 ⟨rfl, hb3⟩
     have H3 := Hid.mk (H2.out.blk hb3)
     clear hb3 y0 y1 y2
     have hS0 := HC1.out _ H3.out
     have e0 : (0 : Int) ≤ (F : Int) := by omega
     have e1 : (F : Int) ≤ (E : Int) := by omega
     have e2 : (E : Int) ≤ (cap : Int) := by omega
     go_upto_region 6 with fail
     refine wp_region_held_drew (S := fun w => w.cell? ⟨Z, 0, none⟩ = some (.string (nm zn)) ∧ w.cell? ⟨Z, 1, none⟩ = some (.slice _ m cap)) (by kernel_rfl) hS0 (fun hHeld => ?_)
     refine wU (i := 0) (v := ?vkta_0) rfl ?ykta_0 (by assumption) ?_
     case ykta_0 => (intro w hSw; (try dsimp only at hSw); go_simp; try with_reducible rfl)
     refine wU (i := 1) (v := ?vkta_1) rfl ?ykta_1 (by assumption) ?_
     case ykta_1 => (intro w hSw; (try dsimp only at hSw); go_simp; try with_reducible rfl)
     refine wU (i := 2) (v := ?vkta_2) rfl ?ykta_2 (by assumption) ?_
     case ykta_2 => (intro w hSw; (try dsimp only at hSw); go_simp; try with_reducible rfl)
     refine wU (i := 3) (v := ?vkta_3) rfl ?ykta_3 (by assumption) ?_
     case ykta_3 => (intro w hSw; (try dsimp only at hSw); go_simp; try with_reducible rfl)
     refine wU (i := 4) (v := ?vkta_4) rfl ?ykta_4 (by assumption) ?_
     case ykta_4 => (intro w hSw; (try dsimp only at hSw); go_simp; try with_reducible rfl)
     refine wU (i := 5) (v := ?vkta_5) rfl ?ykta_5 (by assumption) ?_
     case ykta_5 => (intro w hSw; (try dsimp only at hSw); go_simp; try with_reducible rfl)
     refine wU (i := 6) (v := ?vkta_6) rfl ?ykta_6 (by assumption) ?_
     case ykta_6 => (intro w hSw; (try dsimp only at hSw); go_simp; try with_reducible rfl)
     refine wU (i := 7) (v := ?vkta_7) rfl ?ykta_7 (by assumption) ?_
     case ykta_7 => (intro w hSw; (try dsimp only at hSw); go_simp; try with_reducible rfl)
     refine wU (i := 8) (v := ?vkta_8) rfl ?ykta_8 (by assumption) ?_
     case ykta_8 => (intro w hSw; (try dsimp only at hSw); go_simp; try with_reducible rfl)
     try simp only [Act.put, List.getElem_toArray, List.getElem_cons_succ, List.getElem_cons_zero, List.setIfInBounds_toArray, List.set_cons_zero, List.set_cons_succ]
     refine wT (i := 9) (v := undef) rfl (Or.inr ⟨by kernel_rfl, rfl⟩) (by assumption) ?_
     try simp only [Act.put, List.getElem_toArray, List.getElem_cons_succ, List.getElem_cons_zero, List.setIfInBounds_toArray, List.set_cons_zero, List.set_cons_succ]
     refine wT (i := 10) (v := undef) rfl (Or.inr ⟨by kernel_rfl, rfl⟩) (by assumption) ?_
     try simp only [Act.put, List.getElem_toArray, List.getElem_cons_succ, List.getElem_cons_zero, List.setIfInBounds_toArray, List.set_cons_zero, List.set_cons_succ]
     refine wT (i := 11) (v := undef) rfl (Or.inr ⟨by kernel_rfl, rfl⟩) (by assumption) ?_
     try simp only [Act.put, List.getElem_toArray, List.getElem_cons_succ, List.getElem_cons_zero, List.setIfInBounds_toArray, List.set_cons_zero, List.set_cons_succ]
     refine wT (i := 12) (v := undef) rfl (Or.inr ⟨by kernel_rfl, rfl⟩) (by assumption) ?_
     try simp only [Act.put, List.getElem_toArray, List.getElem_cons_succ, List.getElem_cons_zero, List.setIfInBounds_toArray, List.set_cons_zero, List.set_cons_succ]
     refine wT (i := 13) (v := undef) rfl (Or.inr ⟨by kernel_rfl, rfl⟩) (by assumption) ?_
     try simp only [Act.put, List.getElem_toArray, List.getElem_cons_succ, List.getElem_cons_zero, List.setIfInBounds_toArray, List.set_cons_zero, List.set_cons_succ]
     refine wT (i := 14) (v := undef) rfl (Or.inr ⟨by kernel_rfl, rfl⟩) (by assumption) ?_
     try simp only [Act.put, List.getElem_toArray, List.getElem_cons_succ, List.getElem_cons_zero, List.setIfInBounds_toArray, List.set_cons_zero, List.set_cons_succ]
     refine wU (i := 15) (v := ?vktb_15) rfl ?yktb_15 (by assumption) ?_
     case yktb_15 => (intro w hSw; (try dsimp only at hSw); go_simp; try with_reducible rfl)
     refine wU (i := 16) (v := ?vktb_16) rfl ?yktb_16 (by assumption) ?_
     case yktb_16 => (intro w hSw; (try dsimp only at hSw); go_simp; try with_reducible rfl)
     refine wU (i := 17) (v := ?vktb_17) rfl ?yktb_17 (by assumption) ?_
     case yktb_17 => (intro w hSw; (try dsimp only at hSw); go_simp; try with_reducible rfl)
     try simp only [Act.put, List.getElem_toArray, List.getElem_cons_succ, List.getElem_cons_zero, List.setIfInBounds_toArray, List.set_cons_zero, List.set_cons_succ]
     refine wpAnyH_done (by kernel_rfl) ?_ _
     have HG := Hid.mk (H3.out.blk (Below.refl _ _).drew)
     clear hHeld hS0
     go_wp2
     go_ret2
     refine ⟨⟨_, _, by rw [HRe.out, HO.out.2]; rfl, HSrc.out _ F E _ rfl HG.out hFE hEm HO.out⟩, HG.out.bel⟩
    | false =>
     rw [hu] at HU HHas
     have HRe : Hid ((hasE els n || eqB n zn) = ez) := by show _ = _; rw [HHas.out, HZe.out]; rfl
     clear hu
     go_wp2_with fail
     refine (HU.out _).mono ?_
     rintro e w3 ⟨rfl, hb3⟩
     have H3 := Hid.mk (H2.out.blk hb3)
     clear hb3 y0 y1 y2
     have hS0 := HC1.out _ H3.out
     have e0 : (0 : Int) ≤ (F : Int) := by omega
     have e1 : (F : Int) ≤ (E : Int) := by omega
     have e2 : (E : Int) ≤ (cap : Int) := by omega
     go_upto_region 6 with fail
     refine wp_region_held_drew (S := fun w => w.cell? ⟨Z, 0, none⟩ = some (.string (nm zn)) ∧ w.cell? ⟨Z, 1, none⟩ = some (.slice _ m cap)) (by kernel_rfl) hS0 (fun hHeld => ?_)
     refine wU (i := 0) (v := ?vkfa_0) rfl ?ykfa_0 (by assumption) ?_
     case ykfa_0 => (intro w hSw; (try dsimp only at hSw); go_simp; try with_reducible rfl)
     refine wU (i := 1) (v := ?vkfa_1) rfl ?ykfa_1 (by assumption) ?_
     case ykfa_1 => (intro w hSw; (try dsimp only at hSw); go_simp; try with_reducible rfl)
     refine wU (i := 2) (v := ?vkfa_2) rfl ?ykfa_2 (by assumption) ?_
     case ykfa_2 => (intro w hSw; (try dsimp only at hSw); go_simp; try with_reducible rfl)
     refine wU (i := 3) (v := ?vkfa_3) rfl ?ykfa_3 (by assumption) ?_
     case ykfa_3 => (intro w hSw; (try dsimp only at hSw); go_simp; try with_reducible rfl)
     refine wU (i := 4) (v := ?vkfa_4) rfl ?ykfa_4 (by assumption) ?_
     case ykfa_4 => (intro w hSw; (try dsimp only at hSw); go_simp; try with_reducible rfl)
     refine wU (i := 5) (v := ?vkfa_5) rfl ?ykfa_5 (by assumption) ?_
     case ykfa_5 => (intro w hSw; (try dsimp only at hSw); go_simp; try with_reducible rfl)
     refine wU (i := 6) (v := ?vkfa_6) rfl ?ykfa_6 (by assumption) ?_
     case ykfa_6 => (intro w hSw; (try dsimp only at hSw); go_simp; try with_reducible rfl)
     refine wU (i := 7) (v := ?vkfa_7) rfl ?ykfa_7 (by assumption) ?_
     case ykfa_7 => (intro w hSw; (try dsimp only at hSw); go_simp; try with_reducible rfl)
     refine wU (i := 8) (v := ?vkfa_8) rfl ?ykfa_8 (by assumption) ?_
     case ykfa_8 => (intro w hSw; (try dsimp only at hSw); go_simp; try with_reducible rfl)
     try simp only [Act.put, List.getElem_toArray, List.getElem_cons_succ, List.getElem_cons_zero, List.setIfInBounds_toArray, List.set_cons_zero, List.set_cons_succ]
     refine wU (i := 9) (v := ?vkfc_9) rfl ?ykfc_9 (by assumption) ?_
     case ykfc_9 => (intro w hSw; (try dsimp only at hSw); go_simp; try with_reducible rfl)
     refine wU (i := 10) (v := ?vkfc_10) rfl ?ykfc_10 (by assumption) ?_
     case ykfc_10 => (intro w hSw; (try dsimp only at hSw); go_simp; try with_reducible rfl)
     refine wU (i := 11) (v := ?vkfc_11) rfl ?ykfc_11 (by assumption) ?_
     case ykfc_11 => (intro w hSw; (try dsimp only at hSw); go_simp; try with_reducible rfl)
     refine wU (i := 12) (v := ?vkfc_12) rfl ?ykfc_12 (by assumption) ?_
     case ykfc_12 => (intro w hSw; (try dsimp only at hSw); go_simp; try with_reducible rfl)
     refine wU (i := 13) (v := ?vkfc_13) rfl ?ykfc_13 (by assumption) ?_
     case ykfc_13 => (intro w hSw; (try dsimp only at hSw); go_simp; try with_reducible rfl)
     try simp only [Act.put, List.getElem_toArray, List.getElem_cons_succ, List.getElem_cons_zero, List.setIfInBounds_toArray, List.set_cons_zero, List.set_cons_succ]
     refine wpAnyH_ready (rs := [14]) (by kernel_rfl) (by simp) ?_
     refine AllReadyH.cons rfl (fun K hK => ?_) AllReadyH.nil
     go_simp
     go_at_call 48
     refine (HEz.out _).mono ?_
     rintro e w9 ⟨rfl, hb9⟩
     have HG := Hid.mk (H3.out.blk ((Below.refl _ _).drew.trans hb9))
     refine hK.out _ _ (HC1.out _ HG.out) (fun hHeld => ?_)
     clear hK K hb9
     refine wU (i := 15) (v := ?vkfd_15) rfl ?ykfd_15 (by assumption) ?_
     case ykfd_15 => (intro w hSw; (try dsimp only at hSw); go_simp; try with_reducible rfl)
     refine wU (i := 16) (v := ?vkfd_16) rfl ?ykfd_16 (by assumption) ?_
     case ykfd_16 => (intro w hSw; (try dsimp only at hSw); go_simp; try with_reducible rfl)
     refine wU (i := 17) (v := ?vkfd_17) rfl ?ykfd_17 (by assumption) ?_
     case ykfd_17 => (intro w hSw; (try dsimp only at hSw); go_simp; try with_reducible rfl)
     try simp only [Act.put, List.getElem_toArray, List.getElem_cons_succ, List.getElem_cons_zero, List.setIfInBounds_toArray, List.set_cons_zero, List.set_cons_succ]
     refine wpAnyH_done (by kernel_rfl) ?_ _
     clear hHeld hS0
     go_wp2
     go_ret2
     refine ⟨⟨_, _, by rw [HRe.out, HO.out.2]; rfl, HSrc.out _ F E _ rfl HG.out hFE hEm HO.out⟩, HG.out.bel⟩
   ·have fz : ¬ (F : Int) < (m : Int) := by omega
    have HHas : Hid (hasE els n = false) := by
     show _ = _
     unfold hasE
     rw [HFF.out, List.getElem?_eq_none (by rw [HMm.out]; omega)]
    have HRe : Hid ((hasE els n || eqB n zn) = ez) := by show _ = _; rw [HHas.out, HZe.out]; rfl
    by_cases hcf : cap = F
    ·have e3 : E ≤ F := by omega
     have hS0 := HC1.out _ H2.out
     have e0 : (0 : Int) ≤ (F : Int) := by omega
     have e1 : (F : Int) ≤ (E : Int) := by omega
     have e2 : (E : Int) ≤ (cap : Int) := by omega
     go_upto_region 6 with fail
     refine wp_region_held_drew (S := fun w => w.cell? ⟨Z, 0, none⟩ = some (.string (nm zn)) ∧ w.cell? ⟨Z, 1, none⟩ = some (.slice _ m cap)) (by kernel_rfl) hS0 (fun hHeld => ?_)
     refine wU (i := 0) (v := ?vza_0) rfl ?yza_0 (by assumption) ?_
     case yza_0 => (intro w hSw; (try dsimp only at hSw); go_simp; try with_reducible rfl)
     refine wU (i := 1) (v := ?vza_1) rfl ?yza_1 (by assumption) ?_
     case yza_1 => (intro w hSw; (try dsimp only at hSw); go_simp; try with_reducible rfl)
     refine wU (i := 2) (v := ?vza_2) rfl ?yza_2 (by assumption) ?_
     case yza_2 => (intro w hSw; (try dsimp only at hSw); go_simp; try with_reducible rfl)
     refine wU (i := 3) (v := ?vza_3) rfl ?yza_3 (by assumption) ?_
     case yza_3 => (intro w hSw; (try dsimp only at hSw); go_simp; try with_reducible rfl)
     refine wU (i := 4) (v := ?vza_4) rfl ?yza_4 (by assumption) ?_
     case yza_4 => (intro w hSw; (try dsimp only at hSw); go_simp; try with_reducible rfl)
     refine wU (i := 5) (v := ?vza_5) rfl ?yza_5 (by assumption) ?_
     case yza_5 => (intro w hSw; (try dsimp only at hSw); go_simp; try with_reducible rfl)
     refine wU (i := 6) (v := ?vza_6) rfl ?yza_6 (by assumption) ?_
     case yza_6 => (intro w hSw; (try dsimp only at hSw); go_simp; try with_reducible rfl)
     refine wU (i := 7) (v := ?vza_7) rfl ?yza_7 (by assumption) ?_
     case yza_7 => (intro w hSw; (try dsimp only at hSw); go_simp; try with_reducible rfl)
     refine wU (i := 8) (v := ?vza_8) rfl ?yza_8 (by assumption) ?_
     case yza_8 => (intro w hSw; (try dsimp only at hSw); go_simp; try with_reducible rfl)
     try simp only [Act.put, List.getElem_toArray, List.getElem_cons_succ, List.getElem_cons_zero, List.setIfInBounds_toArray, List.set_cons_zero, List.set_cons_succ]
     refine wU (i := 9) (v := ?vzc_9) rfl ?yzc_9 (by assumption) ?_
     case yzc_9 => (intro w hSw; (try dsimp only at hSw); go_simp; try with_reducible rfl)
     refine wU (i := 10) (v := ?vzc_10) rfl ?yzc_10 (by assumption) ?_
     case yzc_10 => (intro w hSw; (try dsimp only at hSw); go_simp; try with_reducible rfl)
     refine wU (i := 11) (v := ?vzc_11) rfl ?yzc_11 (by assumption) ?_
     case yzc_11 => (intro w hSw; (try dsimp only at hSw); go_simp; try with_reducible rfl)
     refine wU (i := 12) (v := ?vzc_12) rfl ?yzc_12 (by assumption) ?_
     case yzc_12 => (intro w hSw; (try dsimp only at hSw); go_simp; try with_reducible rfl)
     refine wU (i := 13) (v := ?vzc_13) rfl ?yzc_13 (by assumption) ?_
     case yzc_13 => (intro w hSw; (try dsimp only at hSw); go_simp; try with_reducible rfl)
     try simp only [Act.put, List.getElem_toArray, List.getElem_cons_succ, List.getElem_cons_zero, List.setIfInBounds_toArray, List.set_cons_zero, List.set_cons_succ]
     refine wpAnyH_ready (rs := [14]) (by kernel_rfl) (by simp) ?_
     refine AllReadyH.cons rfl (fun K hK => ?_) AllReadyH.nil
     go_simp
     go_at_call 48
     refine (HEz.out _).mono ?_
     rintro e w9 ⟨rfl, hb9⟩
     have HG := Hid.mk (H2.out.blk ((Below.refl _ _).drew.trans hb9))
     refine hK.out _ _ (HC1.out _ HG.out) (fun hHeld => ?_)
     clear hK K hb9
     refine wU (i := 15) (v := ?vzd_15) rfl ?yzd_15 (by assumption) ?_
     case yzd_15 => (intro w hSw; (try dsimp only at hSw); go_simp; try with_reducible rfl)
     refine wU (i := 16) (v := ?vzd_16) rfl ?yzd_16 (by assumption) ?_
     case yzd_16 => (intro w hSw; (try dsimp only at hSw); go_simp; try with_reducible rfl)
     refine wU (i := 17) (v := ?vzd_17) rfl ?yzd_17 (by assumption) ?_
     case yzd_17 => (intro w hSw; (try dsimp only at hSw); go_simp; try with_reducible rfl)
     try simp only [Act.put, List.getElem_toArray, List.getElem_cons_succ, List.getElem_cons_zero, List.setIfInBounds_toArray, List.set_cons_zero, List.set_cons_succ]
     refine wpAnyH_done (by kernel_rfl) ?_ _
     clear hHeld hS0
     go_wp2
     go_ret2
     refine ⟨⟨_, _, by rw [HRe.out, HO.out.2, show E - F = 0 by omega]; rfl, fun h0 => by have := HO.out.2; omega⟩, HG.out.bel⟩
    ·skip
     have hS0 := HC1.out _ H2.out
     have e0 : (0 : Int) ≤ (F : Int) := by omega
     have e1 : (F : Int) ≤ (E : Int) := by omega
     have e2 : (E : Int) ≤ (cap : Int) := by omega
     go_upto_region 6 with fail
     refine wp_region_held_drew (S := fun w => w.cell? ⟨Z, 0, none⟩ = some (.string (nm zn)) ∧ w.cell? ⟨Z, 1, none⟩ = some (.slice _ m cap)) (by kernel_rfl) hS0 (fun hHeld => ?_)
     refine wU (i := 0) (v := ?vzza_0) rfl ?yzza_0 (by assumption) ?_
     case yzza_0 => (intro w hSw; (try dsimp only at hSw); go_simp; try with_reducible rfl)
     refine wU (i := 1) (v := ?vzza_1) rfl ?yzza_1 (by assumption) ?_
     case yzza_1 => (intro w hSw; (try dsimp only at hSw); go_simp; try with_reducible rfl)
     refine wU (i := 2) (v := ?vzza_2) rfl ?yzza_2 (by assumption) ?_
     case yzza_2 => (intro w hSw; (try dsimp only at hSw); go_simp; try with_reducible rfl)
     refine wU (i := 3) (v := ?vzza_3) rfl ?yzza_3 (by assumption) ?_
     case yzza_3 => (intro w hSw; (try dsimp only at hSw); go_simp; try with_reducible rfl)
     refine wU (i := 4) (v := ?vzza_4) rfl ?yzza_4 (by assumption) ?_
     case yzza_4 => (intro w hSw; (try dsimp only at hSw); go_simp; try with_reducible rfl)
     refine wU (i := 5) (v := ?vzza_5) rfl ?yzza_5 (by assumption) ?_
     case yzza_5 => (intro w hSw; (try dsimp only at hSw); go_simp; try with_reducible rfl)
     refine wU (i := 6) (v := ?vzza_6) rfl ?yzza_6 (by assumption) ?_
     case yzza_6 => (intro w hSw; (try dsimp only at hSw); go_simp; try with_reducible rfl)
     refine wU (i := 7) (v := ?vzza_7) rfl ?yzza_7 (by assumption) ?_
     case yzza_7 => (intro w hSw; (try dsimp only at hSw); go_simp; try with_reducible rfl)
     refine wU (i := 8) (v := ?vzza_8) rfl ?yzza_8 (by assumption) ?_
     case yzza_8 => (intro w hSw; (try dsimp only at hSw); go_simp; try with_reducible rfl)
     try simp only [Act.put, List.getElem_toArray, List.getElem_cons_succ, List.getElem_cons_zero, List.setIfInBounds_toArray, List.set_cons_zero, List.set_cons_succ]
     refine wU (i := 9) (v := ?vzzc_9) rfl ?yzzc_9 (by assumption) ?_
     case yzzc_9 => (intro w hSw; (try dsimp only at hSw); go_simp; try with_reducible rfl)
     refine wU (i := 10) (v := ?vzzc_10) rfl ?yzzc_10 (by assumption) ?_
     case yzzc_10 => (intro w hSw; (try dsimp only at hSw); go_simp; try with_reducible rfl)
     refine wU (i := 11) (v := ?vzzc_11) rfl ?yzzc_11 (by assumption) ?_
     case yzzc_11 => (intro w hSw; (try dsimp only at hSw); go_simp; try with_reducible rfl)
     refine wU (i := 12) (v := ?vzzc_12) rfl ?yzzc_12 (by assumption) ?_
     case yzzc_12 => (intro w hSw; (try dsimp only at hSw); go_simp; try with_reducible rfl)
     refine wU (i := 13) (v := ?vzzc_13) rfl ?yzzc_13 (by assumption) ?_
     case yzzc_13 => (intro w hSw; (try dsimp only at hSw); go_simp; try with_reducible rfl)
     try simp only [Act.put, List.getElem_toArray, List.getElem_cons_succ, List.getElem_cons_zero, List.setIfInBounds_toArray, List.set_cons_zero, List.set_cons_succ]
     refine wpAnyH_ready (rs := [14]) (by kernel_rfl) (by simp) ?_
     refine AllReadyH.cons rfl (fun K hK => ?_) AllReadyH.nil
     go_simp
     go_at_call 48
     refine (HEz.out _).mono ?_
     rintro e w9 ⟨rfl, hb9⟩
     have HG := Hid.mk (H2.out.blk ((Below.refl _ _).drew.trans hb9))
     refine hK.out _ _ (HC1.out _ HG.out) (fun hHeld => ?_)
     clear hK K hb9
     refine wU (i := 15) (v := ?vzzd_15) rfl ?yzzd_15 (by assumption) ?_
     case yzzd_15 => (intro w hSw; (try dsimp only at hSw); go_simp; try with_reducible rfl)
     refine wU (i := 16) (v := ?vzzd_16) rfl ?yzzd_16 (by assumption) ?_
     case yzzd_16 => (intro w hSw; (try dsimp only at hSw); go_simp; try with_reducible rfl)
     refine wU (i := 17) (v := ?vzzd_17) rfl ?yzzd_17 (by assumption) ?_
     case yzzd_17 => (intro w hSw; (try dsimp only at hSw); go_simp; try with_reducible rfl)
     try simp only [Act.put, List.getElem_toArray, List.getElem_cons_succ, List.getElem_cons_zero, List.setIfInBounds_toArray, List.set_cons_zero, List.set_cons_succ]
     refine wpAnyH_done (by kernel_rfl) ?_ _
     clear hHeld hS0
     go_wp2
     go_ret2
     refine ⟨⟨_, _, by rw [HRe.out, HO.out.2]; rfl, fun h0 => by have := HO.out.2; omega⟩, HG.out.bel⟩
end Go.Proofs.YtdlcldjlfhmlgaaGreatDoor
/- Layer 14: what a zone answers. -/
namespace Go.Proofs.YtdlcldjlfhmlgaaGreatDoor
open Go.RowKit
open So (El elC SRow)
structure ZOk (z : Lc) : Prop where
 rin : RIn z.rs
 rt : rightR z = true
theorem wo_s : So.Wo ltS where
 ir := fun x => So.wo.ir (⟨x.ls, 0, 0, 0, nilS, nilS⟩ : El)
 tr := fun x y z => So.wo.tr (⟨x.ls, 0, 0, 0, nilS, nilS⟩ : El) ⟨y.ls, 0, 0, 0, nilS, nilS⟩ ⟨z.ls, 0, 0, 0, nilS, nilS⟩
 nt := fun x y z => So.wo.nt (⟨x.ls, 0, 0, 0, nilS, nilS⟩ : El) ⟨y.ls, 0, 0, 0, nilS, nilS⟩ ⟨z.ls, 0, 0, 0, nilS, nilS⟩
structure ZFct (N : Nat) (W : World) (Z : Nat) (z : Lc) (q : Option Addr) (cap : Nat) (els : List El) (w : World) : Prop where
 fnd : Fnd W Z (nm (lb z.nm)) (.func (.func (mtd z.kd)) #[ptA Z 0] #[]) q cap els w
 rel : F2 (ElSt N w) els (zsets z.rs)
 ok : ∀ e ∈ els, OkN e.ls
 ris : So.Ris So.lt els
 len : els.length ≤ 1000
 cap : els.length ≤ cap
 ds : ∀ s ∈ zsets z.rs, s.ds.length ≤ 1000
 zn : OkN (lb z.nm) ∧ z.nm = nm (lb z.nm)
theorem ZoneAt.fct {N : Nat} {W : World} {Z : Nat} {z : Lc} (h : ZoneAt N W Z z) (hz : ZOk z) : ∃ q cap els, ZFct N W Z z q cap els W := by
 obtain ⟨v, els, q, cap, hb, hs⟩ := h.blk
 obtain ⟨hnm, hkd, hlen, hty⟩ := zone_ty hz.rt
 obtain ⟨so, _⟩ := setsR_ok z.rs hz.rin
 have hp : ∀ s ∈ zsets z.rs, s ∈ setsR z.rs := fun s hs => (So.isort_perm _).mem_iff.1 hs
 have hl : els.length ≤ 200 := by rw [hs.rel.len]; unfold zsets; rw [So.isort_len]; exact Nat.le_trans (setsR_len _) hlen
 refine ⟨q, cap, els, ⟨?_, fun h0 => ?_, Below.refl _ _⟩, hs.rel, fun e he => ?_, ?_, by omega, hs.le.1, fun s h => ?_, lb_ok hnm⟩
 ·rw [hb, hs.v, ← (lb_ok hnm).2]
 ·obtain ⟨g, e, _, hr⟩ := hs.row h0; exact ⟨g, e, hr⟩
 ·obtain ⟨j, hj, rfl⟩ := List.getElem_of_mem he
  have hj' : j < (zsets z.rs).length := by rw [← hs.rel.len]; exact hj
  rw [(hs.rel.at j hj hj').ls]
  exact (so _ (hp _ (List.getElem_mem hj'))).1
 ·have hr : So.Ris ltS (zsets z.rs) := So.isort_ris wo_s _
  unfold So.Ris at hr ⊢
  rw [List.pairwise_iff_getElem] at hr ⊢
  intro i j hi hj hij
  have hi' : i < (zsets z.rs).length := by rw [← hs.rel.len]; exact hi
  have hj' : j < (zsets z.rs).length := by rw [← hs.rel.len]; exact hj
  rw [lt_rel _ _ _ _ (hs.rel.at j hj hj') (hs.rel.at i hi hi')]
  exact hr i j hi' hj' hij
 ·have := (so _ (hp _ h)).2.2.2.2.1; omega
theorem fst_rel {N : Nat} {w : World} {els : List El} {ss : List St} (h : F2 (ElSt N w) els ss) (n : N3) : fstE els n = fstR ss n := by
 unfold fstE fstR
 exact (filter_rel (q := fun s : St => decide (cmpN s.ls n < 0)) (fun a b hab => by rw [hab.ls]) h).len
theorem own_rel {N : Nat} {w : World} {els : List El} {ss : List St} (h : F2 (ElSt N w) els ss) (n : N3) : F2 (ElSt N w) (ownE els n) (ownR ss n) := by
 unfold ownE ownR
 rw [fst_rel h]
 exact takeWhile_rel (fun a b hab => by rw [hab.ls]) (h.drop _)
theorem has_rel {N : Nat} {w : World} {els : List El} {ss : List St} (h : F2 (ElSt N w) els ss) (n : N3) : hasE els n = hasR ss n := by
 unfold hasE hasR
 rw [fst_rel h]
 by_cases hl : fstR ss n < els.length
 ·have hl' : fstR ss n < ss.length := by rw [← h.len]; exact hl
  rw [List.getElem?_eq_getElem hl, List.getElem?_eq_getElem hl']
  simp only
  rw [(h.at _ hl hl').ls]
 ·rw [List.getElem?_eq_none (by omega), List.getElem?_eq_none (by rw [← h.len]; omega)]
theorem mem_own {ss : List St} {n : N3} {s : St} (h : s ∈ ownR ss n) : s ∈ ss := by
 unfold ownR at h
 exact List.mem_of_mem_drop ((List.takeWhile_sublist _).subset h)
theorem own_len (els : List El) (n : N3) : (ownE els n).length ≤ els.length := by
 unfold ownE
 exact Nat.le_trans (List.takeWhile_sublist _).length_le (by rw [List.length_drop]; omega)
theorem F2.blk {N : Nat} {w w' : World} {els : List El} {ss : List St} (h : F2 (ElSt N w) els ss) (hb : Below w.heap.size w w') : F2 (ElSt N w') els ss := h.mono fun e s hs => hs.keep fun b c f _ hc => hb.block b (Array.getElem?_eq_some_iff.1 hc).1
end Go.Proofs.YtdlcldjlfhmlgaaGreatDoor
