/- Texts of this proof, joined: LeN, LeQ. -/
import Derived.Deep.RegionHeld3
import Derived.Test.YtdlcldjlfhmlgaaGreatDoorJ20
import Derived.Test.YtdlcldjlfhmlgaaGreatDoorJ19
import Derived.Test.YtdlcldjlfhmlgaaGreatDoorJ35
import Derived.Test.YtdlcldjlfhmlgaaGreatDoorJ25
set_option linter.unusedVariables false
set_option linter.unusedSimpArgs false
/- The document's Zone of local zones (guidepostref14). -/
namespace Go.Proofs.YtdlcldjlfhmlgaaGreatDoor
open Go.RowKit
def PlN (B : Int) (o : Option Nat) : Prop := (B = -1 ∧ o = none) ∨ ∃ b : Nat, B = (b : Int) ∧ o = some b
set_option maxRecDepth 100000 in
set_option maxHeartbeats 8000000 in
theorem rzone_in (W : World) (q : Option Addr) (cap : Nat) (l : List Lc) (hat : LcsAt W q l) (hin : ∀ z ∈ l, z.nm.size ≤ maxLen) (hlm : l.length ≤ 1000000) (s : ByteArray) (hs : s.size ≤ maxLen) :
  Calls Tryz.prog 12 #[.slice q l.length cap, .string s] W fun e w' => (∃ B o, e = .returned (.int .i64 B) ∧ PlN B o ∧ BestAt l s l.length o) ∧ Below W.heap.size W w' := by
 obtain ⟨N, hN⟩ : ∃ N, W.heap.size = N := ⟨_, rfl⟩
 have HNN := Hid.mk hN
 obtain ⟨n, hn⟩ : ∃ n, l.length = n := ⟨_, rfl⟩
 have HNL := Hid.mk hn
 have HBL : Hid (∀ i, i < n → ∃ b off, q = some ⟨b, off, none⟩ ∧ ∃ (z : Lc), Hid (∃ hi : i < l.length, l[i] = z) ∧ Hid (z.nm.size ≤ maxLen) ∧ Hid (∀ w, Below N W w → w.cell? ⟨b, off + i * 3, none⟩ = some (.string z.nm))) := by
  intro i hi
  have hi' : i < l.length := by omega
  obtain ⟨b, off, qr, cr, e, hlt, c0, c1, c2, hr⟩ := hat i hi'
  refine ⟨b, off, e, l[i], ⟨hi', rfl⟩, hin _ (List.getElem_mem hi'), fun w hb => ?_⟩
  have hb' : Below W.heap.size W w := by rw [hN]; exact hb
  exact (hb'.cell (p := ⟨b, off + i * 3, none⟩) hlt).trans c0
 rw [hn, hN]
 rw [hn] at hlm
 clear hat hin hN hn
 go_enter Tryz.func12, Tryz.ntmps12
 go_wp2
 go_loopw [5, 6] (fun bv iv wr => ∃ (i : Nat) (B : Int) (u : World), u = wr ∧ i ≤ n ∧ iv = .int .i64 (i : Int) ∧ bv = .int .i64 B ∧ Hid (∃ o, PlN B o ∧ BestAt l s i o) ∧ Hid (Below N W u)) (fun _ iv _ => n - (intOf iv).toNat)
 case atStart => exact ⟨0, -1, _, rfl, Nat.zero_le _, rfl, rfl, ⟨none, .inl ⟨rfl, rfl⟩, BestAt.first l s⟩, Below.refl _ _⟩
 case round =>
  obtain ⟨i, B, u, rfl, hi, rfl, rfl, HO, HU⟩ := hrel
  have hNu : N ≤ u.heap.size := by rw [← HNN.out]; exact HU.out.size
  by_cases hlt : i < n
  ·have hlz : (i : Int) < (n : Int) := by omega
   have hlz0 : (0 : Int) ≤ (i : Int) := by omega
   have wi : IntKind.i64.wrap ((i : Int) + 1) = ((i + 1 : Nat) : Int) := by rw [IntKind.wrap_i64]; omega
   obtain ⟨b0, off, rfl, z, HZi, HZs, HZc⟩ := HBL.out i hlt
   have c0 := HZc.out _ HU.out
   have HUN := Hid.mk (runder_in s z.nm hs HZs.out)
   go_wp2_with fail
   refine (HUN.out _).mono ?_
   rintro e w1 ⟨rfl, hb1⟩
   have HW1 : Hid (Below N W w1) := HU.out.trans (hb1.mono hNu)
   have hN1 : N ≤ w1.heap.size := Nat.le_trans hNu hb1.size
   have HX1 : Hid (∀ w', Below N W w' → (fun w' : World => w'.cell? ⟨b0, off + i * 3, none⟩ = some (.string z.nm)) w') := fun w' hb => HZc.out w' hb
   have h0d : Below N W w1.drew := HW1.out.drew
   clear c0 hb1
   cases hu : undF s z.nm with
   | false =>
    have HO2 : Hid (∃ o, PlN B o ∧ BestAt l s (i + 1) o) := by
     obtain ⟨o, h1, h2⟩ := HO.out
     obtain ⟨hi', e⟩ := HZi.out
     exact ⟨o, h1, h2.skip hi' (by rw [e]; exact hu)⟩
    clear hu
    go_upto_region 6 with fail
    refine wp_region_held_drew (S := (fun w' : World => w'.cell? ⟨b0, off + i * 3, none⟩ = some (.string z.nm))) (by kernel_rfl) (HX1.out _ h0d) (fun hHeld => ?_)
    refine wU (i := 0) (v := ?va_0) rfl ?ya_0 (by assumption) ?_
    case ya_0 => (intro w hSw; (try dsimp only at hSw); go_simp; try with_reducible rfl)
    refine wU (i := 1) (v := ?va_1) rfl ?ya_1 (by assumption) ?_
    case ya_1 => (intro w hSw; (try dsimp only at hSw); go_simp; try with_reducible rfl)
    try simp only [Act.put, List.getElem_toArray, List.getElem_cons_succ, List.getElem_cons_zero, List.setIfInBounds_toArray, List.set_cons_zero, List.set_cons_succ]
    refine wT (i := 2) (v := undef) rfl (Or.inr ⟨by kernel_rfl, rfl⟩) (by assumption) ?_
    try simp only [Act.put, List.getElem_toArray, List.getElem_cons_succ, List.getElem_cons_zero, List.setIfInBounds_toArray, List.set_cons_zero, List.set_cons_succ]
    refine wT (i := 3) (v := undef) rfl (Or.inr ⟨by kernel_rfl, rfl⟩) (by assumption) ?_
    try simp only [Act.put, List.getElem_toArray, List.getElem_cons_succ, List.getElem_cons_zero, List.setIfInBounds_toArray, List.set_cons_zero, List.set_cons_succ]
    refine wT (i := 4) (v := undef) rfl (Or.inr ⟨by kernel_rfl, rfl⟩) (by assumption) ?_
    try simp only [Act.put, List.getElem_toArray, List.getElem_cons_succ, List.getElem_cons_zero, List.setIfInBounds_toArray, List.set_cons_zero, List.set_cons_succ]
    refine wT (i := 5) (v := undef) rfl (Or.inr ⟨by kernel_rfl, rfl⟩) (by assumption) ?_
    try simp only [Act.put, List.getElem_toArray, List.getElem_cons_succ, List.getElem_cons_zero, List.setIfInBounds_toArray, List.set_cons_zero, List.set_cons_succ]
    refine wT (i := 6) (v := undef) rfl (Or.inr ⟨by kernel_rfl, rfl⟩) (by assumption) ?_
    try simp only [Act.put, List.getElem_toArray, List.getElem_cons_succ, List.getElem_cons_zero, List.setIfInBounds_toArray, List.set_cons_zero, List.set_cons_succ]
    refine wT (i := 7) (v := undef) rfl (Or.inr ⟨by kernel_rfl, rfl⟩) (by assumption) ?_
    try simp only [Act.put, List.getElem_toArray, List.getElem_cons_succ, List.getElem_cons_zero, List.setIfInBounds_toArray, List.set_cons_zero, List.set_cons_succ]
    refine wT (i := 8) (v := undef) rfl (Or.inr ⟨by kernel_rfl, rfl⟩) (by assumption) ?_
    try simp only [Act.put, List.getElem_toArray, List.getElem_cons_succ, List.getElem_cons_zero, List.setIfInBounds_toArray, List.set_cons_zero, List.set_cons_succ]
    refine wT (i := 9) (v := undef) rfl (Or.inr ⟨by kernel_rfl, rfl⟩) (by assumption) ?_
    try simp only [Act.put, List.getElem_toArray, List.getElem_cons_succ, List.getElem_cons_zero, List.setIfInBounds_toArray, List.set_cons_zero, List.set_cons_succ]
    refine wT (i := 10) (v := undef) rfl (Or.inr ⟨by kernel_rfl, rfl⟩) (by assumption) ?_
    try simp only [Act.put, List.getElem_toArray, List.getElem_cons_succ, List.getElem_cons_zero, List.setIfInBounds_toArray, List.set_cons_zero, List.set_cons_succ]
    refine wT (i := 11) (v := undef) rfl (Or.inr ⟨by kernel_rfl, rfl⟩) (by assumption) ?_
    try simp only [Act.put, List.getElem_toArray, List.getElem_cons_succ, List.getElem_cons_zero, List.setIfInBounds_toArray, List.set_cons_zero, List.set_cons_succ]
    refine wT (i := 12) (v := undef) rfl (Or.inr ⟨by kernel_rfl, rfl⟩) (by assumption) ?_
    try simp only [Act.put, List.getElem_toArray, List.getElem_cons_succ, List.getElem_cons_zero, List.setIfInBounds_toArray, List.set_cons_zero, List.set_cons_succ]
    refine wT (i := 13) (v := undef) rfl (Or.inr ⟨by kernel_rfl, rfl⟩) (by assumption) ?_
    try simp only [Act.put, List.getElem_toArray, List.getElem_cons_succ, List.getElem_cons_zero, List.setIfInBounds_toArray, List.set_cons_zero, List.set_cons_succ]
    refine wT (i := 14) (v := undef) rfl (Or.inr ⟨by kernel_rfl, rfl⟩) (by assumption) ?_
    try simp only [Act.put, List.getElem_toArray, List.getElem_cons_succ, List.getElem_cons_zero, List.setIfInBounds_toArray, List.set_cons_zero, List.set_cons_succ]
    refine wT (i := 15) (v := undef) rfl (Or.inr ⟨by kernel_rfl, rfl⟩) (by assumption) ?_
    try simp only [Act.put, List.getElem_toArray, List.getElem_cons_succ, List.getElem_cons_zero, List.setIfInBounds_toArray, List.set_cons_zero, List.set_cons_succ]
    refine wT (i := 16) (v := undef) rfl (Or.inr ⟨by kernel_rfl, rfl⟩) (by assumption) ?_
    try simp only [Act.put, List.getElem_toArray, List.getElem_cons_succ, List.getElem_cons_zero, List.setIfInBounds_toArray, List.set_cons_zero, List.set_cons_succ]
    refine wT (i := 17) (v := undef) rfl (Or.inr ⟨by kernel_rfl, rfl⟩) (by assumption) ?_
    try simp only [Act.put, List.getElem_toArray, List.getElem_cons_succ, List.getElem_cons_zero, List.setIfInBounds_toArray, List.set_cons_zero, List.set_cons_succ]
    refine wT (i := 18) (v := undef) rfl (Or.inr ⟨by kernel_rfl, rfl⟩) (by assumption) ?_
    try simp only [Act.put, List.getElem_toArray, List.getElem_cons_succ, List.getElem_cons_zero, List.setIfInBounds_toArray, List.set_cons_zero, List.set_cons_succ]
    refine wU (i := 19) (v := ?vb_19) rfl ?yb_19 (by assumption) ?_
    case yb_19 => (intro w hSw; (try dsimp only at hSw); go_simp; try with_reducible rfl)
    try simp only [Act.put, List.getElem_toArray, List.getElem_cons_succ, List.getElem_cons_zero, List.setIfInBounds_toArray, List.set_cons_zero, List.set_cons_succ]
    refine wpAnyH_done (by kernel_rfl) ?_ _
    clear hHeld
    go_wp2
    go_roundw
    case rel => exact ⟨i + 1, B, _, rfl, by omega, by first | rfl | go_num, rfl, HO2, h0d⟩
    case measure => simp [intOf]; omega
   | true =>
    obtain ⟨o, h1, h2⟩ := HO.out
    have HH2 := Hid.mk h2
    rcases h1 with ⟨rfl, rfl⟩ | ⟨k, rfl, rfl⟩
    ·have HO2 : Hid (∃ o, PlN (i : Int) o ∧ BestAt l s (i + 1) o) := by
      obtain ⟨hi', e⟩ := HZi.out
      exact ⟨some i, .inr ⟨i, rfl, rfl⟩, h2.take hi' (by rw [e]; exact hu) (fun b hb e => by cases e)⟩
     clear hu h2 HO
     go_upto_region 6 with fail
     refine wp_region_held_drew (S := (fun w' : World => w'.cell? ⟨b0, off + i * 3, none⟩ = some (.string z.nm))) (by kernel_rfl) (HX1.out _ h0d) (fun hHeld => ?_)
     refine wU (i := 0) (v := ?vc_0) rfl ?yc_0 (by assumption) ?_
     case yc_0 => (intro w hSw; (try dsimp only at hSw); go_simp; try with_reducible rfl)
     refine wU (i := 1) (v := ?vc_1) rfl ?yc_1 (by assumption) ?_
     case yc_1 => (intro w hSw; (try dsimp only at hSw); go_simp; try with_reducible rfl)
     refine wU (i := 2) (v := ?vc_2) rfl ?yc_2 (by assumption) ?_
     case yc_2 => (intro w hSw; (try dsimp only at hSw); go_simp; try with_reducible rfl)
     refine wU (i := 3) (v := ?vc_3) rfl ?yc_3 (by assumption) ?_
     case yc_3 => (intro w hSw; (try dsimp only at hSw); go_simp; try with_reducible rfl)
     refine wU (i := 4) (v := ?vc_4) rfl ?yc_4 (by assumption) ?_
     case yc_4 => (intro w hSw; (try dsimp only at hSw); go_simp; try with_reducible rfl)
     try simp only [Act.put, List.getElem_toArray, List.getElem_cons_succ, List.getElem_cons_zero, List.setIfInBounds_toArray, List.set_cons_zero, List.set_cons_succ]
     refine wT (i := 5) (v := undef) rfl (Or.inr ⟨by kernel_rfl, rfl⟩) (by assumption) ?_
     try simp only [Act.put, List.getElem_toArray, List.getElem_cons_succ, List.getElem_cons_zero, List.setIfInBounds_toArray, List.set_cons_zero, List.set_cons_succ]
     refine wT (i := 6) (v := undef) rfl (Or.inr ⟨by kernel_rfl, rfl⟩) (by assumption) ?_
     try simp only [Act.put, List.getElem_toArray, List.getElem_cons_succ, List.getElem_cons_zero, List.setIfInBounds_toArray, List.set_cons_zero, List.set_cons_succ]
     refine wT (i := 7) (v := undef) rfl (Or.inr ⟨by kernel_rfl, rfl⟩) (by assumption) ?_
     try simp only [Act.put, List.getElem_toArray, List.getElem_cons_succ, List.getElem_cons_zero, List.setIfInBounds_toArray, List.set_cons_zero, List.set_cons_succ]
     refine wT (i := 8) (v := undef) rfl (Or.inr ⟨by kernel_rfl, rfl⟩) (by assumption) ?_
     try simp only [Act.put, List.getElem_toArray, List.getElem_cons_succ, List.getElem_cons_zero, List.setIfInBounds_toArray, List.set_cons_zero, List.set_cons_succ]
     refine wT (i := 9) (v := undef) rfl (Or.inr ⟨by kernel_rfl, rfl⟩) (by assumption) ?_
     try simp only [Act.put, List.getElem_toArray, List.getElem_cons_succ, List.getElem_cons_zero, List.setIfInBounds_toArray, List.set_cons_zero, List.set_cons_succ]
     refine wT (i := 10) (v := undef) rfl (Or.inr ⟨by kernel_rfl, rfl⟩) (by assumption) ?_
     try simp only [Act.put, List.getElem_toArray, List.getElem_cons_succ, List.getElem_cons_zero, List.setIfInBounds_toArray, List.set_cons_zero, List.set_cons_succ]
     refine wT (i := 11) (v := undef) rfl (Or.inr ⟨by kernel_rfl, rfl⟩) (by assumption) ?_
     try simp only [Act.put, List.getElem_toArray, List.getElem_cons_succ, List.getElem_cons_zero, List.setIfInBounds_toArray, List.set_cons_zero, List.set_cons_succ]
     refine wT (i := 12) (v := undef) rfl (Or.inr ⟨by kernel_rfl, rfl⟩) (by assumption) ?_
     try simp only [Act.put, List.getElem_toArray, List.getElem_cons_succ, List.getElem_cons_zero, List.setIfInBounds_toArray, List.set_cons_zero, List.set_cons_succ]
     refine wT (i := 13) (v := undef) rfl (Or.inr ⟨by kernel_rfl, rfl⟩) (by assumption) ?_
     try simp only [Act.put, List.getElem_toArray, List.getElem_cons_succ, List.getElem_cons_zero, List.setIfInBounds_toArray, List.set_cons_zero, List.set_cons_succ]
     refine wT (i := 14) (v := undef) rfl (Or.inr ⟨by kernel_rfl, rfl⟩) (by assumption) ?_
     try simp only [Act.put, List.getElem_toArray, List.getElem_cons_succ, List.getElem_cons_zero, List.setIfInBounds_toArray, List.set_cons_zero, List.set_cons_succ]
     refine wT (i := 15) (v := undef) rfl (Or.inr ⟨by kernel_rfl, rfl⟩) (by assumption) ?_
     try simp only [Act.put, List.getElem_toArray, List.getElem_cons_succ, List.getElem_cons_zero, List.setIfInBounds_toArray, List.set_cons_zero, List.set_cons_succ]
     refine wT (i := 16) (v := undef) rfl (Or.inr ⟨by kernel_rfl, rfl⟩) (by assumption) ?_
     try simp only [Act.put, List.getElem_toArray, List.getElem_cons_succ, List.getElem_cons_zero, List.setIfInBounds_toArray, List.set_cons_zero, List.set_cons_succ]
     refine wT (i := 17) (v := undef) rfl (Or.inr ⟨by kernel_rfl, rfl⟩) (by assumption) ?_
     try simp only [Act.put, List.getElem_toArray, List.getElem_cons_succ, List.getElem_cons_zero, List.setIfInBounds_toArray, List.set_cons_zero, List.set_cons_succ]
     refine wU (i := 18) (v := ?vd_18) rfl ?yd_18 (by assumption) ?_
     case yd_18 => (intro w hSw; (try dsimp only at hSw); go_simp; try with_reducible rfl)
     refine wU (i := 19) (v := ?vd_19) rfl ?yd_19 (by assumption) ?_
     case yd_19 => (intro w hSw; (try dsimp only at hSw); go_simp; try with_reducible rfl)
     try simp only [Act.put, List.getElem_toArray, List.getElem_cons_succ, List.getElem_cons_zero, List.setIfInBounds_toArray, List.set_cons_zero, List.set_cons_succ]
     refine wpAnyH_done (by kernel_rfl) ?_ _
     clear hHeld
     go_wp2
     go_roundw
     case rel => exact ⟨i + 1, (i : Int), _, rfl, by omega, by first | rfl | go_num, rfl, HO2, h0d⟩
     case measure => simp [intOf]; omega
    ·have hki : k < i := by
      obtain ⟨_, h, _⟩ := h2.yes k rfl
      exact h
     have hkn : (k : Int) < (n : Int) := by omega
     have hkn0 : (0 : Int) ≤ (k : Int) := by omega
     have hkneg : ¬ (k : Int) < 0 := by omega
     obtain ⟨b2, off2, e2, y, HYi, HYs, HYc⟩ := HBL.out k (by omega)
     simp only [Option.some.injEq, Addr.mk.injEq] at e2
     obtain ⟨rfl, rfl, _⟩ := e2
     have HX2 : Hid (∀ w', Below N W w' → (fun w' : World => w'.cell? ⟨b0, off + i * 3, none⟩ = some (.string z.nm) ∧ w'.cell? ⟨b0, off + k * 3, none⟩ = some (.string y.nm)) w') := fun w' hb => ⟨HZc.out w' hb, HYc.out w' hb⟩
     have HM1 := Hid.mk (rmany_in z.nm HZs.out)
     have HM2 := Hid.mk (rmany_in y.nm HYs.out)
     have HTake : Hid (manyF y.nm < manyF z.nm → ∃ o, PlN (i : Int) o ∧ BestAt l s (i + 1) o) := fun hg => by
      obtain ⟨hi', e⟩ := HZi.out
      obtain ⟨hk', ek⟩ := HYi.out
      refine ⟨some i, .inr ⟨i, rfl, rfl⟩, HH2.out.take hi' (by rw [e]; exact hu) (fun b hb eb => ?_)⟩
      cases eb
      rw [ek, e]; exact hg
     have HKeep : Hid (¬ manyF y.nm < manyF z.nm → ∃ o, PlN (k : Int) o ∧ BestAt l s (i + 1) o) := fun hg => by
      obtain ⟨hi', e⟩ := HZi.out
      obtain ⟨hk', ek⟩ := HYi.out
      refine ⟨some k, .inr ⟨k, rfl, rfl⟩, HH2.out.keep hi' hk' ?_⟩
      rw [ek, e]; omega
     clear hu h2 HO hki
     generalize manyF z.nm = mz at HM1 HTake HKeep
     generalize manyF y.nm = my at HM2 HTake HKeep
     go_upto_region 6 with fail
     refine wp_region_held_drew (S := (fun w' : World => w'.cell? ⟨b0, off + i * 3, none⟩ = some (.string z.nm) ∧ w'.cell? ⟨b0, off + k * 3, none⟩ = some (.string y.nm))) (by kernel_rfl) (HX2.out _ h0d) (fun hHeld => ?_)
     refine wU (i := 0) (v := ?ve_0) rfl ?ye_0 (by assumption) ?_
     case ye_0 => (intro w hSw; (try dsimp only at hSw); go_simp; try with_reducible rfl)
     refine wU (i := 1) (v := ?ve_1) rfl ?ye_1 (by assumption) ?_
     case ye_1 => (intro w hSw; (try dsimp only at hSw); go_simp; try with_reducible rfl)
     refine wU (i := 2) (v := ?ve_2) rfl ?ye_2 (by assumption) ?_
     case ye_2 => (intro w hSw; (try dsimp only at hSw); go_simp; try with_reducible rfl)
     refine wU (i := 3) (v := ?ve_3) rfl ?ye_3 (by assumption) ?_
     case ye_3 => (intro w hSw; (try dsimp only at hSw); go_simp; try with_reducible rfl)
     refine wU (i := 4) (v := ?ve_4) rfl ?ye_4 (by assumption) ?_
     case ye_4 => (intro w hSw; (try dsimp only at hSw); go_simp; try with_reducible rfl)
     refine wU (i := 5) (v := ?ve_5) rfl ?ye_5 (by assumption) ?_
     case ye_5 => (intro w hSw; (try dsimp only at hSw); go_simp; try with_reducible rfl)
     refine wU (i := 6) (v := ?ve_6) rfl ?ye_6 (by assumption) ?_
     case ye_6 => (intro w hSw; (try dsimp only at hSw); go_simp; try with_reducible rfl)
     refine wU (i := 7) (v := ?ve_7) rfl ?ye_7 (by assumption) ?_
     case ye_7 => (intro w hSw; (try dsimp only at hSw); go_simp; try with_reducible rfl)
     refine wU (i := 8) (v := ?ve_8) rfl ?ye_8 (by assumption) ?_
     case ye_8 => (intro w hSw; (try dsimp only at hSw); go_simp; try with_reducible rfl)
     refine wU (i := 9) (v := ?ve_9) rfl ?ye_9 (by assumption) ?_
     case ye_9 => (intro w hSw; (try dsimp only at hSw); go_simp; try with_reducible rfl)
     refine wU (i := 11) (v := ?ve_11) rfl ?ye_11 (by assumption) ?_
     case ye_11 => (intro w hSw; (try dsimp only at hSw); go_simp; try with_reducible rfl)
     refine wU (i := 12) (v := ?ve_12) rfl ?ye_12 (by assumption) ?_
     case ye_12 => (intro w hSw; (try dsimp only at hSw); go_simp; try with_reducible rfl)
     refine wU (i := 13) (v := ?ve_13) rfl ?ye_13 (by assumption) ?_
     case ye_13 => (intro w hSw; (try dsimp only at hSw); go_simp; try with_reducible rfl)
     refine wU (i := 14) (v := ?ve_14) rfl ?ye_14 (by assumption) ?_
     case ye_14 => (intro w hSw; (try dsimp only at hSw); go_simp; try with_reducible rfl)
     refine wU (i := 15) (v := ?ve_15) rfl ?ye_15 (by assumption) ?_
     case ye_15 => (intro w hSw; (try dsimp only at hSw); go_simp; try with_reducible rfl)
     try simp only [Act.put, List.getElem_toArray, List.getElem_cons_succ, List.getElem_cons_zero, List.setIfInBounds_toArray, List.set_cons_zero, List.set_cons_succ]
     refine wpAnyH_ready (rs := [10]) (by kernel_rfl) (by simp) ?_
     refine AllReadyH.cons rfl (fun K hK => ?_) AllReadyH.nil
     go_simp
     go_at_call 34
     refine (HM1.out _).mono ?_
     rintro e w2 ⟨rfl, hb2'⟩
     have hb2 : Below N W w2 := h0d.trans (hb2'.mono hN1)
     have hN2 : N ≤ w2.heap.size := Nat.le_trans hN1 hb2'.size
     refine hK.out _ _ (HX2.out _ hb2) (fun hHeld => ?_)
     clear hK K
     try simp only [Act.put, List.getElem_toArray, List.getElem_cons_succ, List.getElem_cons_zero, List.setIfInBounds_toArray, List.set_cons_zero, List.set_cons_succ]
     refine wpAnyH_ready (rs := [16]) (by kernel_rfl) (by simp) ?_
     refine AllReadyH.cons rfl (fun K hK => ?_) AllReadyH.nil
     go_simp
     go_at_call 34
     refine (HM2.out _).mono ?_
     rintro e w3 ⟨rfl, hb3'⟩
     have HB3 : Hid (Below N W w3) := hb2.trans (hb3'.mono hN2)
     refine hK.out _ _ (HX2.out _ HB3.out) (fun hHeld => ?_)
     clear hK K
     try simp only [Act.put, List.getElem_toArray, List.getElem_cons_succ, List.getElem_cons_zero, List.setIfInBounds_toArray, List.set_cons_zero, List.set_cons_succ]
     refine wU (i := 17) (v := ?vf_17) rfl ?yf_17 (by assumption) ?_
     case yf_17 => (intro w hSw; (try dsimp only at hSw); go_simp; try with_reducible rfl)
     refine wU (i := 18) (v := ?vf_18) rfl ?yf_18 (by assumption) ?_
     case yf_18 => (intro w hSw; (try dsimp only at hSw); go_simp; try with_reducible rfl)
     refine wU (i := 19) (v := ?vf_19) rfl ?yf_19 (by assumption) ?_
     case yf_19 => (intro w hSw; (try dsimp only at hSw); go_simp; try with_reducible rfl)
     try simp only [Act.put, List.getElem_toArray, List.getElem_cons_succ, List.getElem_cons_zero, List.setIfInBounds_toArray, List.set_cons_zero, List.set_cons_succ]
     refine wpAnyH_done (by kernel_rfl) ?_ _
     clear hHeld
     by_cases hg : my < mz
     ·have HO2 := Hid.mk (HTake.out hg)
      have dg : decide ((my : Int) < (mz : Int)) = true := decide_eq_true (by omega)
      have hg2 : (my : Int) < (mz : Int) := by omega
      clear HTake HKeep
      go_wp2
      go_roundw
      case rel => exact ⟨i + 1, (i : Int), _, rfl, by omega, by first | rfl | go_num, rfl, HO2, HB3⟩
      case measure => simp [intOf]; omega
     ·have HO2 := Hid.mk (HKeep.out hg)
      have dg : decide ((my : Int) < (mz : Int)) = false := decide_eq_false (by omega)
      have hg2 : ¬ (my : Int) < (mz : Int) := by omega
      clear HTake HKeep
      go_wp2
      go_roundw
      case rel => exact ⟨i + 1, (k : Int), _, rfl, by omega, by first | rfl | go_num, rfl, HO2, HB3⟩
      case measure => simp [intOf]; omega
  ·have hlz : ¬ (i : Int) < (n : Int) := by omega
   have HE : Hid (∃ o, PlN B o ∧ BestAt l s n o) := by
    have := HO.out
    rwa [show i = n by omega] at this
   clear HO
   go_wp2
   go_ret
   obtain ⟨o, h1, h2⟩ := HE.out
   first | exact ⟨⟨B, o, rfl, h1, h2⟩, HU.out⟩ | exact ⟨⟨B, rfl, o, h1, h2⟩, HU.out⟩
end Go.Proofs.YtdlcldjlfhmlgaaGreatDoor
/- The document's Answer of local zones (guidepostref14). -/
namespace Go.Proofs.YtdlcldjlfhmlgaaGreatDoor
open Go.RowKit
open So (El elC elC_len SRow)
def AnW (W : World) (c : Int × List St) (e : Ending) (w' : World) : Prop := (∃ v N N0 els, e = .returned (.tuple #[.int .i64 c.1, v]) ∧ WS N N0 w' v els (pz c.2)) ∧ Below W.heap.size W w'
theorem AnW.nil {W w : World} (k : Int) (hb : Below W.heap.size W w) : AnW W (k, []) (.returned (.tuple #[.int .i64 k, .slice none 0 0])) w := ⟨⟨nilS, 0, 0, [], rfl, WS.nil _ _ _⟩, hb⟩
theorem PsOk.pz {l : List Rc} {ps : List Sg} {i : Nat} (h : PsOk l ps i) (hn : ∀ r ∈ l, r.ty ≠ 46) : ps = pz (setsR l) := by
 have h1 := h.no hn
 rw [← h.fst]
 unfold Go.Proofs.YtdlcldjlfhmlgaaGreatDoor.pz
 rw [List.map_map]
 refine (List.map_id _).symm.trans (List.map_congr_left (fun p hp => ?_))
 show p = (p.1, [])
 rw [← h1 p hp]
noncomputable def outK (ss : List St) (n : N3) (kind : Int) (k5 : Bool) (k : Nat) : List St := ((ss.take k).filter fun s => (eqB s.ls n || k5) && picks kind s).map fun s => { s with ls := n }
noncomputable def thrK (ss : List St) (n : N3) (e0 k5 : Bool) (k : Nat) : Bool := e0 || k5 || (ss.take k).any fun s => undB s.ls n
theorem outK_succ {ss : List St} {n : N3} {kind : Int} {k5 : Bool} {k : Nat} (hk : k < ss.length) : outK ss n kind k5 (k + 1) = outK ss n kind k5 k ++ if ((eqB ss[k].ls n || k5) && picks kind ss[k]) = true then [{ ss[k] with ls := n }] else [] := by
 unfold outK
 rw [List.take_succ_eq_append_getElem hk, List.filter_append, List.map_append]
 congr 1
 rw [List.filter_cons, List.filter_nil]
 split <;> rfl
theorem thrK_succ {ss : List St} {n : N3} {e0 k5 : Bool} {k : Nat} (hk : k < ss.length) : thrK ss n e0 k5 (k + 1) = (thrK ss n e0 k5 k || undB ss[k].ls n) := by
 unfold thrK
 rw [List.take_succ_eq_append_getElem hk, List.any_append, ← Bool.or_assoc]
 congr 1
 simp
theorem outK_all (z : Lc) (n : N3) (kind : Int) : outK (setsR z.rs) n kind (z.kd == 5) (setsR z.rs).length = outD z n kind := by
 unfold outK outD
 rw [List.take_length]
theorem thrK_all (z : Lc) (n : N3) : thrK (setsR z.rs) n (eqB n (lb z.nm)) (z.kd == 5) (setsR z.rs).length = thrD z n := by
 unfold thrK thrD
 rw [List.take_length]
theorem outK_len (ss : List St) (n : N3) (kind : Int) (k5 : Bool) (k : Nat) : (outK ss n kind k5 k).length ≤ k := by
 unfold outK
 rw [List.length_map]
 exact Nat.le_trans (List.length_filter_le _ _) (by rw [List.length_take]; omega)
theorem und_name {s t : ByteArray} (h : undF s t = true) : IsName s := by
 by_cases hn : IsName s ∧ IsName t
 ·exact hn.1
 ·rw [undF_no hn] at h; cases h
theorem WS.of_app {N N0 : Nat} {w w3 : World} {v v' : Value} {els : List El} {ps : List Sg} (h : WS N N0 w v els ps) (hN : N ≤ w.heap.size) (e : El) (p : Sg) (he : ElS N0 w e p) (hown : w3.ownsRow N 44 6 v' (els.length + 1) (elC els ++ e.c)) (hg : w.grownBy w3 v.ownBlock) : WS N N0 w3 v' (els ++ [e]) (ps ++ [p]) ∧ Below N w w3 := by
 have hother : ∀ (x : Nat) (c : Array Value) (f : Nat × Nat), w.heap[x]? = some (.cells c 9 f) → w3.heap[x]? = w.heap[x]? := by
  intro x c f hx
  refine grown_blk hg (Array.getElem?_eq_some_iff.1 hx).1 (fun e0 => ?_)
  obtain ⟨_, _, c', hc⟩ := own_lt h.row e0
  rw [hx] at hc
  simp at hc
 refine ⟨⟨?_, ?_⟩, (Below.refl _ _).grown hg hN (fun b hb' => (own_lt h.row hb').2.1)⟩
 ·rw [So.elC_app, List.length_append]
  have e2 : elC [e] = e.c := by rw [So.elC_cons]; simp [elC]
  rw [e2]
  exact hown
 ·exact (h.rel.mono fun e s hs => hs.keep fun f x c t _ hc => hother x c t hc).app ⟨he.keep fun f x c t _ hc => hother x c t hc, trivial⟩
theorem WS.set {N N0 : Nat} {w : World} {v : Value} {els : List El} {ps : List Sg} (h : WS N N0 w v els ps) {D i : Nat} (hD : ∀ b, v.ownBlock = some b → b ≠ D) {c : Array Value} {f : Nat × Nat} (hDt : w.heap[D]? = some (.cells c 44 f)) (x : Value) : WS N N0 (w.setCell ⟨D, i, none⟩ x) v els ps where
 row := own_same h.row fun b c' f' hb _ => Below.heap_setCell _ _ _ _ (hD b hb)
 rel := h.rel.mono fun e s hs => hs.keep fun f' b c' t _ hc => Below.heap_setCell _ _ _ _ (fun e0 => by
  obtain rfl : b = D := e0
  rw [hDt] at hc
  simp at hc)
end Go.Proofs.YtdlcldjlfhmlgaaGreatDoor
