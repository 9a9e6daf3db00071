/- Texts of this proof, joined: LeI. -/
import Derived.Deep.RegionHeld3
import Derived.Test.YtdlcldjlfhmlgaaGreatDoorJ30
import Derived.Test.YtdlcldjlfhmlgaaGreatDoorJ31
set_option linter.unusedVariables false
set_option linter.unusedSimpArgs false
/- The document's Right and Same (guidepostref08), of sets of one text without signatures. -/
namespace Go.Proofs.YtdlcldjlfhmlgaaGreatDoor
open Go.RowKit
theorem Kd.cell {V u : World} (h : Kd V u) {b i : Nat} {x : Value} (hc : V.cell? ⟨b, i, none⟩ = some x) (hb : b < V.heap.size) : u.cell? ⟨b, i, none⟩ = some x := (Below.cell (p := ⟨b, i, none⟩) h hb).trans hc
theorem hasD_nil (k : Int) (d : ByteArray) : hasD k [] d = false := by
 classical
 unfold hasD
 exact decide_eq_false (by simp)
theorem hasD_one (k : Int) (x d : ByteArray) : hasD k [x] d = decide (lowR k d = lowR k x) := by
 classical
 unfold hasD
 exact decide_eq_decide.2 (by simp)
structure OneS (ls : N3) (ty cl tl : Int) (d : ByteArray) : Prop where
 okn : OkN ls
 rty : 0 ≤ ty ∧ ty ≤ 65535
 r46 : ty ≠ 46
 r41 : ty ≠ 41
 rcl : 0 ≤ cl ∧ cl ≤ 65535
 rtl : 0 ≤ tl ∧ tl ≤ 2147483647
 rdt : dRt ty d = true
theorem OneS.size {ls : N3} {ty cl tl : Int} {d : ByteArray} (h : OneS ls ty cl tl d) : d.size ≤ maxLen := by have := dRt_size h.rdt; unfold maxLen; omega
set_option maxRecDepth 100000 in
set_option maxHeartbeats 8000000 in
theorem rRight1_in (ls : N3) (ty cl tl : Int) (d : ByteArray) (h1 : OneS ls ty cl tl d) (b o c : Nat) (hc1 : 1 ≤ c) (hcm : c ≤ maxLen) (qs : Option Addr) (es : Nat) (W : World) (hb : b < W.heap.size) (hd : W.cell? ⟨b, o, none⟩ = some (.string d)) :
  Calls Tryz.prog 103 #[.agg #[.string (nm ls), .int .i64 ty, .int .i64 cl, .int .i64 tl, .slice (some ⟨b, o, none⟩) 1 c, .slice qs 0 es]] W fun e w' => e = .returned (.bool true) ∧ Below W.heap.size W w' := by
 have HN : Hid (∀ w, Calls Tryz.prog 28 #[.string (nm ls)] w fun e w' => e = .returned (.bool true) ∧ Below w.heap.size w w') := fun w => rRight_yes ls h1.okn w
 have HI1 : Hid (∀ w, Calls Tryz.prog 98 #[.int .i64 ty, .int .i64 0, .int .i64 65535] w fun e w' => e = .returned (.bool true) ∧ w' = w) := fun w => by
  have := rin_in ty 0 65535 w
  rwa [decide_eq_true h1.rty.1, decide_eq_true h1.rty.2] at this
 have HI2 : Hid (∀ w, Calls Tryz.prog 98 #[.int .i64 cl, .int .i64 0, .int .i64 65535] w fun e w' => e = .returned (.bool true) ∧ w' = w) := fun w => by
  have := rin_in cl 0 65535 w
  rwa [decide_eq_true h1.rcl.1, decide_eq_true h1.rcl.2] at this
 have HI3 : Hid (∀ w, Calls Tryz.prog 98 #[.int .i64 tl, .int .i64 0, .int .i64 2147483647] w fun e w' => e = .returned (.bool true) ∧ w' = w) := fun w => by
  have := rin_in tl 0 2147483647 w
  rwa [decide_eq_true h1.rtl.1, decide_eq_true h1.rtl.2] at this
 have HI4 : Hid (∀ w, Calls Tryz.prog 98 #[.int .i64 1, .int .i64 1, .int .i64 200] w fun e w' => e = .returned (.bool true) ∧ w' = w) := fun w => rin_in 1 1 200 w
 have HD : Hid (∀ w, Calls Tryz.prog 97 #[.int .i64 ty, .string d] w fun e w' => e = .returned (.bool true) ∧ Below w.heap.size w w') := fun w => by
  have := rdRight_in ty d h1.size w
  rwa [h1.rdt] at this
 have HH : Hid (∀ w, Calls Tryz.prog 68 #[.int .i64 ty, .slice (some ⟨b, o, none⟩) 0 c, .string d] w fun e w' => e = .returned (.bool false) ∧ Below w.heap.size w w') := fun w => by
  have := rhas_in ty h1.r46 (some ⟨b, o, none⟩) c [] d h1.size (by simp) (by unfold maxLen; simp) w (fun j hj => by simp at hj)
  rwa [hasD_nil] at this
 have e46 : (ty == 46) = false := by rw [beq_eq_false_iff_ne]; exact h1.r46
 have e41 : (ty == 41) = false := by rw [beq_eq_false_iff_ne]; exact h1.r41
 obtain ⟨V, hV⟩ : ∃ V, W.alloc (.cells #[.string (nm ls), .int .i64 ty, .int .i64 cl, .int .i64 tl, .slice (some ⟨b, o, none⟩) 1 c, .slice qs 0 es] 44) = V := ⟨_, rfl⟩
 obtain ⟨B, hB⟩ : ∃ B, W.heap.size = B := ⟨_, rfl⟩
 have BW : Hid (Below W.heap.size W V) := hV ▸ (Below.refl _ _).alloc (Nat.le_refl _) _
 have HX : Hid (∀ w, Kd V w → (fun w' : World => w'.cell? ⟨B, 0, none⟩ = some (.string (nm ls)) ∧ w'.cell? ⟨B, 1, none⟩ = some (.int .i64 ty) ∧ w'.cell? ⟨B, 2, none⟩ = some (.int .i64 cl) ∧ w'.cell? ⟨B, 3, none⟩ = some (.int .i64 tl) ∧ w'.cell? ⟨B, 4, none⟩ = some (.slice (some ⟨b, o, none⟩) 1 c) ∧ w'.cell? ⟨B, 5, none⟩ = some (.slice qs 0 es) ∧ w'.cell? ⟨b, o, none⟩ = some (.string d)) w) := fun w k => by
  have h0 : V.heap[B]? = some (.cells #[.string (nm ls), .int .i64 ty, .int .i64 cl, .int .i64 tl, .slice (some ⟨b, o, none⟩) 1 c, .slice qs 0 es] 44 (0, 0)) := by rw [← hV, ← hB]; exact heap_new _ _
  have h2 := (Below.block k _ (box_lt h0)).trans h0
  refine ⟨(cells_at h2 rfl).1, (cells_at h2 rfl).1, (cells_at h2 rfl).1, (cells_at h2 rfl).1, (cells_at h2 rfl).1, (cells_at h2 rfl).1, ?_⟩
  exact k.cell ((BW.out.cell (p := ⟨b, o, none⟩) hb).trans hd) (Nat.lt_of_lt_of_le hb BW.out.size)
 have HV := Hid.mk hV
 have HB := Hid.mk hB
 clear hV hB h1 hd hb
 have k0 := Kd.refl V
 have c0 := HX.out _ k0
 go_enter Tryz.func103, Tryz.ntmps103
 go_upto_region 1 with fail
 rw [HV.out]
 rw [HB.out] at BW ⊢
 go_wp2_with fail
 refine (HN.out _).mono ?_
 rintro e w1 ⟨rfl, hb1⟩
 have k1 := k0.blk hb1
 have c1 := HX.out _ k1
 clear c0 k0 hb1 HN
 go_wp2_with fail
 refine (HI1.out _).mono ?_
 rintro e w2 ⟨rfl, rfl⟩
 go_wp2_with fail
 refine (HI2.out _).mono ?_
 rintro e w3 ⟨rfl, rfl⟩
 go_wp2_with fail
 refine (HI3.out _).mono ?_
 rintro e w4 ⟨rfl, rfl⟩
 go_wp2_with fail
 refine (HI4.out _).mono ?_
 rintro e w5 ⟨rfl, rfl⟩
 clear HI1 HI2 HI3 HI4
 go_wp2
 clear c1
 go_loopw [4] (fun iv wr => ∃ i : Nat, i ≤ 1 ∧ iv = .int .i64 (i : Int) ∧ Hid (Kd V wr)) (fun iv _ => 1 - (intOf iv).toNat)
 case atStart => exact ⟨0, by omega, rfl, k1⟩
 case round =>
  obtain ⟨i, hi, rfl, HK⟩ := hrel
  have c2 := HX.out _ HK.out
  rcases (show i = 0 ∨ i = 1 by omega) with rfl | rfl
  ·go_upto_region 7 with fail
   refine wp_region_held_drew (S := (fun w' : World => w'.cell? ⟨B, 0, none⟩ = some (.string (nm ls)) ∧ w'.cell? ⟨B, 1, none⟩ = some (.int .i64 ty) ∧ w'.cell? ⟨B, 2, none⟩ = some (.int .i64 cl) ∧ w'.cell? ⟨B, 3, none⟩ = some (.int .i64 tl) ∧ w'.cell? ⟨B, 4, none⟩ = some (.slice (some ⟨b, o, none⟩) 1 c) ∧ w'.cell? ⟨B, 5, none⟩ = some (.slice qs 0 es) ∧ w'.cell? ⟨b, o, none⟩ = some (.string d))) (by kernel_rfl) (HX.out _ HK.out.drew) (fun hHeld => ?_)
   refine wU (i := 0) (v := ?va_0) rfl ?ya_0 (by assumption) ?_
   case ya_0 => (intro w hSw; (try dsimp only at hSw); go_simp; try with_reducible rfl)
   refine wU (i := 1) (v := ?va_1) rfl ?ya_1 (by assumption) ?_
   case ya_1 => (intro w hSw; (try dsimp only at hSw); go_simp; try with_reducible rfl)
   refine wU (i := 2) (v := ?va_2) rfl ?ya_2 (by assumption) ?_
   case ya_2 => (intro w hSw; (try dsimp only at hSw); go_simp; try with_reducible rfl)
   refine wU (i := 3) (v := ?va_3) rfl ?ya_3 (by assumption) ?_
   case ya_3 => (intro w hSw; (try dsimp only at hSw); go_simp; try with_reducible rfl)
   refine wU (i := 4) (v := ?va_4) rfl ?ya_4 (by assumption) ?_
   case ya_4 => (intro w hSw; (try dsimp only at hSw); go_simp; try with_reducible rfl)
   refine wU (i := 5) (v := ?va_5) rfl ?ya_5 (by assumption) ?_
   case ya_5 => (intro w hSw; (try dsimp only at hSw); go_simp; try with_reducible rfl)
   refine wU (i := 6) (v := ?va_6) rfl ?ya_6 (by assumption) ?_
   case ya_6 => (intro w hSw; (try dsimp only at hSw); go_simp; try with_reducible rfl)
   try simp only [Act.put, List.getElem_toArray, List.getElem_cons_succ, List.getElem_cons_zero, List.setIfInBounds_toArray, List.set_cons_zero, List.set_cons_succ]
   refine wpAnyH_ready (rs := [7]) (by kernel_rfl) (by simp) ?_
   refine AllReadyH.cons rfl (fun K hK => ?_) AllReadyH.nil
   go_simp
   go_at_call 97
   refine (HD.out _).mono ?_
   rintro e w6 ⟨rfl, hb6⟩
   have k6 := HK.out.drew.blk hb6
   refine hK.out _ _ (HX.out _ k6) (fun hHeld => ?_)
   clear hK K
   try simp only [Act.put, List.getElem_toArray, List.getElem_cons_succ, List.getElem_cons_zero, List.setIfInBounds_toArray, List.set_cons_zero, List.set_cons_succ]
   refine wU (i := 8) (v := ?vb_8) rfl ?yb_8 (by assumption) ?_
   case yb_8 => (intro w hSw; (try dsimp only at hSw); go_simp; try with_reducible rfl)
   try simp only [Act.put, List.getElem_toArray, List.getElem_cons_succ, List.getElem_cons_zero, List.setIfInBounds_toArray, List.set_cons_zero, List.set_cons_succ]
   refine wpAnyH_done (by kernel_rfl) ?_ _
   clear hHeld c2
   have c6 := HX.out _ k6
   go_upto_region 8 with fail
   refine wp_region_held_drew (S := (fun w' : World => w'.cell? ⟨B, 0, none⟩ = some (.string (nm ls)) ∧ w'.cell? ⟨B, 1, none⟩ = some (.int .i64 ty) ∧ w'.cell? ⟨B, 2, none⟩ = some (.int .i64 cl) ∧ w'.cell? ⟨B, 3, none⟩ = some (.int .i64 tl) ∧ w'.cell? ⟨B, 4, none⟩ = some (.slice (some ⟨b, o, none⟩) 1 c) ∧ w'.cell? ⟨B, 5, none⟩ = some (.slice qs 0 es) ∧ w'.cell? ⟨b, o, none⟩ = some (.string d))) (by kernel_rfl) (HX.out _ k6.drew) (fun hHeld => ?_)
   refine wU (i := 0) (v := ?vc_0) rfl ?yc_0 (by assumption) ?_
   case yc_0 => (intro w hSw; (try dsimp only at hSw); go_simp; try with_reducible rfl)
   refine wU (i := 1) (v := ?vc_1) rfl ?yc_1 (by assumption) ?_
   case yc_1 => (intro w hSw; (try dsimp only at hSw); go_simp; try with_reducible rfl)
   refine wU (i := 2) (v := ?vc_2) rfl ?yc_2 (by assumption) ?_
   case yc_2 => (intro w hSw; (try dsimp only at hSw); go_simp; try with_reducible rfl)
   refine wU (i := 3) (v := ?vc_3) rfl ?yc_3 (by assumption) ?_
   case yc_3 => (intro w hSw; (try dsimp only at hSw); go_simp; try with_reducible rfl)
   refine wU (i := 4) (v := ?vc_4) rfl ?yc_4 (by assumption) ?_
   case yc_4 => (intro w hSw; (try dsimp only at hSw); go_simp; try with_reducible rfl)
   refine wU (i := 5) (v := ?vc_5) rfl ?yc_5 (by assumption) ?_
   case yc_5 => (intro w hSw; (try dsimp only at hSw); go_simp; try with_reducible rfl)
   refine wU (i := 6) (v := ?vc_6) rfl ?yc_6 (by assumption) ?_
   case yc_6 => (intro w hSw; (try dsimp only at hSw); go_simp; try with_reducible rfl)
   refine wU (i := 7) (v := ?vc_7) rfl ?yc_7 (by assumption) ?_
   case yc_7 => (intro w hSw; (try dsimp only at hSw); go_simp; try with_reducible rfl)
   refine wU (i := 8) (v := ?vc_8) rfl ?yc_8 (by assumption) ?_
   case yc_8 => (intro w hSw; (try dsimp only at hSw); go_simp; try with_reducible rfl)
   refine wU (i := 9) (v := ?vc_9) rfl ?yc_9 (by assumption) ?_
   case yc_9 => (intro w hSw; (try dsimp only at hSw); go_simp; try with_reducible rfl)
   refine wU (i := 10) (v := ?vc_10) rfl ?yc_10 (by assumption) ?_
   case yc_10 => (intro w hSw; (try dsimp only at hSw); go_simp; try with_reducible rfl)
   try simp only [Act.put, List.getElem_toArray, List.getElem_cons_succ, List.getElem_cons_zero, List.setIfInBounds_toArray, List.set_cons_zero, List.set_cons_succ]
   refine wpAnyH_ready (rs := [11]) (by kernel_rfl) (by simp) ?_
   refine AllReadyH.cons rfl (fun K hK => ?_) AllReadyH.nil
   go_simp
   go_at_call 68
   refine (HH.out _).mono ?_
   rintro e w7 ⟨rfl, hb7⟩
   have k7 := k6.drew.blk hb7
   refine hK.out _ _ (HX.out _ k7) (fun hHeld => ?_)
   clear hK K
   try simp only [Act.put, List.getElem_toArray, List.getElem_cons_succ, List.getElem_cons_zero, List.setIfInBounds_toArray, List.set_cons_zero, List.set_cons_succ]
   refine wU (i := 12) (v := ?vd_12) rfl ?yd_12 (by assumption) ?_
   case yd_12 => (intro w hSw; (try dsimp only at hSw); go_simp; try with_reducible rfl)
   try simp only [Act.put, List.getElem_toArray, List.getElem_cons_succ, List.getElem_cons_zero, List.setIfInBounds_toArray, List.set_cons_zero, List.set_cons_succ]
   refine wpAnyH_done (by kernel_rfl) ?_ _
   clear hHeld c6
   go_wp2
   go_roundw
   case rel => exact ⟨1, by omega, by first | rfl | go_num, k7⟩
   case measure => simp [intOf]
  ·go_wp2
   go_loopw [7] (fun iv wr => iv = .int .i64 0 ∧ Hid (Kd V wr)) (fun _ _ => 0)
   case atStart => exact ⟨rfl, HK⟩
   case round =>
    obtain ⟨rfl, HK⟩ := hrel
    clear c2
    have c3 := HX.out _ HK.out
    go_wp2
    go_ret
    exact ⟨rfl, HK.out.bel (by rw [HB.out]; exact BW.out)⟩
set_option maxRecDepth 100000 in
set_option maxHeartbeats 8000000 in
theorem rSame1_in (ls ls' : N3) (hls : lowN ls = lowN ls') (ty cl tl tl' : Int) (d d' : ByteArray) (h1 : OneS ls ty cl tl d) (h2 : OneS ls' ty cl tl' d') (b o c b' o' c' : Nat) (hc1 : 1 ≤ c) (hcm : c ≤ maxLen) (hc1' : 1 ≤ c') (hcm' : c' ≤ maxLen) (qs qs' : Option Addr) (es es' : Nat) (W : World) (hb : b < W.heap.size) (hd : W.cell? ⟨b, o, none⟩ = some (.string d)) (hb' : b' < W.heap.size) (hd' : W.cell? ⟨b', o', none⟩ = some (.string d')) :
  Calls Tryz.prog 70 #[.agg #[.string (nm ls), .int .i64 ty, .int .i64 cl, .int .i64 tl, .slice (some ⟨b, o, none⟩) 1 c, .slice qs 0 es], .agg #[.string (nm ls'), .int .i64 ty, .int .i64 cl, .int .i64 tl', .slice (some ⟨b', o', none⟩) 1 c', .slice qs' 0 es']] W fun e w' => e = .returned (.bool (decide (lowR ty d = lowR ty d'))) ∧ Below W.heap.size W w' := by
 have HA : Hid (∀ w, b < w.heap.size → w.cell? ⟨b, o, none⟩ = some (.string d) → Calls Tryz.prog 103 #[.agg #[.string (nm ls), .int .i64 ty, .int .i64 cl, .int .i64 tl, .slice (some ⟨b, o, none⟩) 1 c, .slice qs 0 es]] w fun e w' => e = .returned (.bool true) ∧ Below w.heap.size w w') := fun w x y => rRight1_in ls ty cl tl d h1 b o c hc1 hcm qs es w x y
 have HA' : Hid (∀ w, b' < w.heap.size → w.cell? ⟨b', o', none⟩ = some (.string d') → Calls Tryz.prog 103 #[.agg #[.string (nm ls'), .int .i64 ty, .int .i64 cl, .int .i64 tl', .slice (some ⟨b', o', none⟩) 1 c', .slice qs' 0 es']] w fun e w' => e = .returned (.bool true) ∧ Below w.heap.size w w') := fun w x y => rRight1_in ls' ty cl tl' d' h2 b' o' c' hc1' hcm' qs' es' w x y
 have HL : Hid (∀ w, Calls Tryz.prog 64 #[.string (nm ls)] w fun e w' => e = .returned (.string (nm (lowN ls))) ∧ Below w.heap.size w w') := fun w => U.rLower_yes ls h1.okn w
 have HL' : Hid (∀ w, Calls Tryz.prog 64 #[.string (nm ls')] w fun e w' => e = .returned (.string (nm (lowN ls))) ∧ Below w.heap.size w w') := fun w => by rw [hls]; exact U.rLower_yes ls' h2.okn w
 have HH : Hid (∀ w, b' < w.heap.size → w.cell? ⟨b', o', none⟩ = some (.string d') → Calls Tryz.prog 68 #[.int .i64 ty, .slice (some ⟨b', o', none⟩) 1 c', .string d] w fun e w' => e = .returned (.bool (decide (lowR ty d = lowR ty d'))) ∧ Below w.heap.size w w') := fun w x y => by
  have := rhas_in ty h1.r46 (some ⟨b', o', none⟩) c' [d'] d h1.size (fun z hz => by obtain rfl := List.mem_singleton.1 hz; exact h2.size) (by unfold maxLen; simp) w (fun j hj => ⟨b', o', rfl, x, by
   have : j = 0 := by simpa using hj
   subst this; exact y⟩)
  rwa [hasD_one] at this
 obtain ⟨V, hV⟩ : ∃ V, (W.alloc (.cells #[.string (nm ls), .int .i64 ty, .int .i64 cl, .int .i64 tl, .slice (some ⟨b, o, none⟩) 1 c, .slice qs 0 es] 44)).alloc (.cells #[.string (nm ls'), .int .i64 ty, .int .i64 cl, .int .i64 tl', .slice (some ⟨b', o', none⟩) 1 c', .slice qs' 0 es'] 44) = V := ⟨_, rfl⟩
 obtain ⟨B, hB⟩ : ∃ B, W.heap.size = B := ⟨_, rfl⟩
 have hw1 : Below W.heap.size W (W.alloc (.cells #[.string (nm ls), .int .i64 ty, .int .i64 cl, .int .i64 tl, .slice (some ⟨b, o, none⟩) 1 c, .slice qs 0 es] 44)) := (Below.refl _ _).alloc (Nat.le_refl _) _
 have BW : Hid (Below W.heap.size W V) := hV ▸ hw1.alloc (by simp) _
 have HX : Hid (∀ w, Kd V w → (fun w' : World => (w'.cell? ⟨B, 0, none⟩ = some (.string (nm ls)) ∧ w'.cell? ⟨B, 1, none⟩ = some (.int .i64 ty) ∧ w'.cell? ⟨B, 2, none⟩ = some (.int .i64 cl) ∧ w'.cell? ⟨B, 3, none⟩ = some (.int .i64 tl) ∧ w'.cell? ⟨B, 4, none⟩ = some (.slice (some ⟨b, o, none⟩) 1 c) ∧ w'.cell? ⟨B, 5, none⟩ = some (.slice qs 0 es)) ∧ (w'.cell? ⟨(B + 1), 0, none⟩ = some (.string (nm ls')) ∧ w'.cell? ⟨(B + 1), 1, none⟩ = some (.int .i64 ty) ∧ w'.cell? ⟨(B + 1), 2, none⟩ = some (.int .i64 cl) ∧ w'.cell? ⟨(B + 1), 3, none⟩ = some (.int .i64 tl') ∧ w'.cell? ⟨(B + 1), 4, none⟩ = some (.slice (some ⟨b', o', none⟩) 1 c') ∧ w'.cell? ⟨(B + 1), 5, none⟩ = some (.slice qs' 0 es')) ∧ w'.cell? ⟨b, o, none⟩ = some (.string d)) w) := fun w k => by
  have h0 : (W.alloc (.cells #[.string (nm ls), .int .i64 ty, .int .i64 cl, .int .i64 tl, .slice (some ⟨b, o, none⟩) 1 c, .slice qs 0 es] 44)).heap[B]? = some (.cells #[.string (nm ls), .int .i64 ty, .int .i64 cl, .int .i64 tl, .slice (some ⟨b, o, none⟩) 1 c, .slice qs 0 es] 44 (0, 0)) := by rw [← hB]; exact heap_new _ _
  have hsz : (W.alloc (.cells #[.string (nm ls), .int .i64 ty, .int .i64 cl, .int .i64 tl, .slice (some ⟨b, o, none⟩) 1 c, .slice qs 0 es] 44)).heap.size = B + 1 := by rw [← hB]; simp
  have h00 : V.heap[B]? = some (.cells #[.string (nm ls), .int .i64 ty, .int .i64 cl, .int .i64 tl, .slice (some ⟨b, o, none⟩) 1 c, .slice qs 0 es] 44 (0, 0)) := by
   rw [← hV]
   exact (((Below.refl _ _).alloc (Nat.le_refl _) _).block _ (box_lt h0)).trans h0
  have h01 : V.heap[B + 1]? = some (.cells #[.string (nm ls'), .int .i64 ty, .int .i64 cl, .int .i64 tl', .slice (some ⟨b', o', none⟩) 1 c', .slice qs' 0 es'] 44 (0, 0)) := by rw [← hV, ← hsz]; exact heap_new _ _
  have g0 := (Below.block k _ (box_lt h00)).trans h00
  have g1 := (Below.block k _ (box_lt h01)).trans h01
  refine ⟨⟨(cells_at g0 rfl).1, (cells_at g0 rfl).1, (cells_at g0 rfl).1, (cells_at g0 rfl).1, (cells_at g0 rfl).1, (cells_at g0 rfl).1⟩, ⟨(cells_at g1 rfl).1, (cells_at g1 rfl).1, (cells_at g1 rfl).1, (cells_at g1 rfl).1, (cells_at g1 rfl).1, (cells_at g1 rfl).1⟩, ?_⟩
  exact k.cell ((BW.out.cell (p := ⟨b, o, none⟩) hb).trans hd) (Nat.lt_of_lt_of_le hb BW.out.size)
 have HY : Hid (∀ w, Kd V w → (b < w.heap.size ∧ w.cell? ⟨b, o, none⟩ = some (.string d)) ∧ (b' < w.heap.size ∧ w.cell? ⟨b', o', none⟩ = some (.string d'))) := fun w k => by
  have hz : V.heap.size ≤ w.heap.size := Below.size k
  have hz0 := BW.out.size
  exact ⟨⟨by omega, k.cell ((BW.out.cell (p := ⟨b, o, none⟩) hb).trans hd) (by omega)⟩, ⟨by omega, k.cell ((BW.out.cell (p := ⟨b', o', none⟩) hb').trans hd') (by omega)⟩⟩
 have HV := Hid.mk hV
 have HB := Hid.mk hB
 have hne : ((nm (lowN ls)).toList != (nm (lowN ls)).toList) = false := by simp
 have hnt : (ty != ty) = false := by simp
 have hnc : (cl != cl) = false := by simp
 clear hV hB h1 h2 hd hb hd' hb' hls hw1
 generalize decide (lowR ty d = lowR ty d') = R at HH ⊢
 generalize nm (lowN ls) = L at HL HL' hne
 have k0 := Kd.refl V
 have c0 := HX.out _ k0
 go_enter Tryz.func70, Tryz.ntmps70
 go_upto_region 1 with fail
 rw [HV.out]
 rw [HB.out] at BW ⊢
 go_wp2_with fail
 refine (HA.out _ (HY.out _ k0).1.1 (HY.out _ k0).1.2).mono ?_
 rintro e w1 ⟨rfl, hb1⟩
 have k1 := k0.blk hb1
 have c1 := HX.out _ k1
 clear c0 k0 hb1 HA
 go_wp2_with fail
 refine (HA'.out _ (HY.out _ k1).2.1 (HY.out _ k1).2.2).mono ?_
 rintro e w2 ⟨rfl, hb2⟩
 have k2 := k1.blk hb2
 have c2 := HX.out _ k2
 clear c1 k1 hb2 HA'
 go_upto_region 3 with fail
 refine wp_region_held_drew (S := (fun w' : World => (w'.cell? ⟨B, 0, none⟩ = some (.string (nm ls)) ∧ w'.cell? ⟨B, 1, none⟩ = some (.int .i64 ty) ∧ w'.cell? ⟨B, 2, none⟩ = some (.int .i64 cl) ∧ w'.cell? ⟨B, 3, none⟩ = some (.int .i64 tl) ∧ w'.cell? ⟨B, 4, none⟩ = some (.slice (some ⟨b, o, none⟩) 1 c) ∧ w'.cell? ⟨B, 5, none⟩ = some (.slice qs 0 es)) ∧ (w'.cell? ⟨(B + 1), 0, none⟩ = some (.string (nm ls')) ∧ w'.cell? ⟨(B + 1), 1, none⟩ = some (.int .i64 ty) ∧ w'.cell? ⟨(B + 1), 2, none⟩ = some (.int .i64 cl) ∧ w'.cell? ⟨(B + 1), 3, none⟩ = some (.int .i64 tl') ∧ w'.cell? ⟨(B + 1), 4, none⟩ = some (.slice (some ⟨b', o', none⟩) 1 c') ∧ w'.cell? ⟨(B + 1), 5, none⟩ = some (.slice qs' 0 es')) ∧ w'.cell? ⟨b, o, none⟩ = some (.string d))) (by kernel_rfl) (HX.out _ k2.drew) (fun hHeld => ?_)
 refine wU (i := 0) (v := ?va_0) rfl ?ya_0 (by assumption) ?_
 case ya_0 => (intro w hSw; (try dsimp only at hSw); go_simp; try with_reducible rfl)
 refine wU (i := 1) (v := ?va_1) rfl ?ya_1 (by assumption) ?_
 case ya_1 => (intro w hSw; (try dsimp only at hSw); go_simp; try with_reducible rfl)
 refine wU (i := 2) (v := ?va_2) rfl ?ya_2 (by assumption) ?_
 case ya_2 => (intro w hSw; (try dsimp only at hSw); go_simp; try with_reducible rfl)
 refine wU (i := 3) (v := ?va_3) rfl ?ya_3 (by assumption) ?_
 case ya_3 => (intro w hSw; (try dsimp only at hSw); go_simp; try with_reducible rfl)
 refine wU (i := 4) (v := ?va_4) rfl ?ya_4 (by assumption) ?_
 case ya_4 => (intro w hSw; (try dsimp only at hSw); go_simp; try with_reducible rfl)
 refine wU (i := 5) (v := ?va_5) rfl ?ya_5 (by assumption) ?_
 case ya_5 => (intro w hSw; (try dsimp only at hSw); go_simp; try with_reducible rfl)
 refine wU (i := 6) (v := ?va_6) rfl ?ya_6 (by assumption) ?_
 case ya_6 => (intro w hSw; (try dsimp only at hSw); go_simp; try with_reducible rfl)
 refine wU (i := 7) (v := ?va_7) rfl ?ya_7 (by assumption) ?_
 case ya_7 => (intro w hSw; (try dsimp only at hSw); go_simp; try with_reducible rfl)
 refine wU (i := 8) (v := ?va_8) rfl ?ya_8 (by assumption) ?_
 case ya_8 => (intro w hSw; (try dsimp only at hSw); go_simp; try with_reducible rfl)
 refine wU (i := 10) (v := ?va_10) rfl ?ya_10 (by assumption) ?_
 case ya_10 => (intro w hSw; (try dsimp only at hSw); go_simp; try with_reducible rfl)
 refine wU (i := 11) (v := ?va_11) rfl ?ya_11 (by assumption) ?_
 case ya_11 => (intro w hSw; (try dsimp only at hSw); go_simp; try with_reducible rfl)
 try simp only [Act.put, List.getElem_toArray, List.getElem_cons_succ, List.getElem_cons_zero, List.setIfInBounds_toArray, List.set_cons_zero, List.set_cons_succ]
 refine wpAnyH_ready (rs := [9]) (by kernel_rfl) (by simp) ?_
 refine AllReadyH.cons rfl (fun K hK => ?_) AllReadyH.nil
 go_simp
 go_at_call 64
 refine (HL.out _).mono ?_
 rintro e w3 ⟨rfl, hb3⟩
 have k3 := k2.drew.blk hb3
 refine hK.out _ _ (HX.out _ k3) (fun hHeld => ?_)
 clear hK K
 try simp only [Act.put, List.getElem_toArray, List.getElem_cons_succ, List.getElem_cons_zero, List.setIfInBounds_toArray, List.set_cons_zero, List.set_cons_succ]
 refine wpAnyH_ready (rs := [12]) (by kernel_rfl) (by simp) ?_
 refine AllReadyH.cons rfl (fun K hK => ?_) AllReadyH.nil
 go_simp
 go_at_call 64
 refine (HL'.out _).mono ?_
 rintro e w4 ⟨rfl, hb4⟩
 have k4 := k3.blk hb4
 refine hK.out _ _ (HX.out _ k4) (fun hHeld => ?_)
 clear hK K
 try simp only [Act.put, List.getElem_toArray, List.getElem_cons_succ, List.getElem_cons_zero, List.setIfInBounds_toArray, List.set_cons_zero, List.set_cons_succ]
 refine wU (i := 13) (v := ?vb_13) rfl ?yb_13 (by assumption) ?_
 case yb_13 => (intro w hSw; (try dsimp only at hSw); go_simp; try with_reducible rfl)
 refine wU (i := 14) (v := ?vb_14) rfl ?yb_14 (by assumption) ?_
 case yb_14 => (intro w hSw; (try dsimp only at hSw); go_simp; try with_reducible rfl)
 refine wU (i := 15) (v := ?vb_15) rfl ?yb_15 (by assumption) ?_
 case yb_15 => (intro w hSw; (try dsimp only at hSw); go_simp; try with_reducible rfl)
 refine wU (i := 16) (v := ?vb_16) rfl ?yb_16 (by assumption) ?_
 case yb_16 => (intro w hSw; (try dsimp only at hSw); go_simp; try with_reducible rfl)
 refine wU (i := 17) (v := ?vb_17) rfl ?yb_17 (by assumption) ?_
 case yb_17 => (intro w hSw; (try dsimp only at hSw); go_simp; try with_reducible rfl)
 refine wU (i := 18) (v := ?vb_18) rfl ?yb_18 (by assumption) ?_
 case yb_18 => (intro w hSw; (try dsimp only at hSw); go_simp; try with_reducible rfl)
 refine wU (i := 19) (v := ?vb_19) rfl ?yb_19 (by assumption) ?_
 case yb_19 => (intro w hSw; (try dsimp only at hSw); go_simp; try with_reducible rfl)
 refine wU (i := 20) (v := ?vb_20) rfl ?yb_20 (by assumption) ?_
 case yb_20 => (intro w hSw; (try dsimp only at hSw); go_simp; try with_reducible rfl)
 refine wU (i := 21) (v := ?vb_21) rfl ?yb_21 (by assumption) ?_
 case yb_21 => (intro w hSw; (try dsimp only at hSw); go_simp; try with_reducible rfl)
 refine wU (i := 22) (v := ?vb_22) rfl ?yb_22 (by assumption) ?_
 case yb_22 => (intro w hSw; (try dsimp only at hSw); go_simp; try with_reducible rfl)
 refine wU (i := 23) (v := ?vb_23) rfl ?yb_23 (by assumption) ?_
 case yb_23 => (intro w hSw; (try dsimp only at hSw); go_simp; try with_reducible rfl)
 refine wU (i := 24) (v := ?vb_24) rfl ?yb_24 (by assumption) ?_
 case yb_24 => (intro w hSw; (try dsimp only at hSw); go_simp; try with_reducible rfl)
 refine wU (i := 25) (v := ?vb_25) rfl ?yb_25 (by assumption) ?_
 case yb_25 => (intro w hSw; (try dsimp only at hSw); go_simp; try with_reducible rfl)
 refine wU (i := 26) (v := ?vb_26) rfl ?yb_26 (by assumption) ?_
 case yb_26 => (intro w hSw; (try dsimp only at hSw); go_simp; try with_reducible rfl)
 refine wU (i := 27) (v := ?vb_27) rfl ?yb_27 (by assumption) ?_
 case yb_27 => (intro w hSw; (try dsimp only at hSw); go_simp; try with_reducible rfl)
 refine wU (i := 28) (v := ?vb_28) rfl ?yb_28 (by assumption) ?_
 case yb_28 => (intro w hSw; (try dsimp only at hSw); go_simp; try with_reducible rfl)
 refine wU (i := 29) (v := ?vb_29) rfl ?yb_29 (by assumption) ?_
 case yb_29 => (intro w hSw; (try dsimp only at hSw); go_simp; try with_reducible rfl)
 refine wU (i := 30) (v := ?vb_30) rfl ?yb_30 (by assumption) ?_
 case yb_30 => (intro w hSw; (try dsimp only at hSw); go_simp; try with_reducible rfl)
 refine wU (i := 31) (v := ?vb_31) rfl ?yb_31 (by assumption) ?_
 case yb_31 => (intro w hSw; (try dsimp only at hSw); go_simp; try with_reducible rfl)
 refine wU (i := 32) (v := ?vb_32) rfl ?yb_32 (by assumption) ?_
 case yb_32 => (intro w hSw; (try dsimp only at hSw); go_simp; try with_reducible rfl)
 refine wU (i := 33) (v := ?vb_33) rfl ?yb_33 (by assumption) ?_
 case yb_33 => (intro w hSw; (try dsimp only at hSw); go_simp; try with_reducible rfl)
 refine wU (i := 34) (v := ?vb_34) rfl ?yb_34 (by assumption) ?_
 case yb_34 => (intro w hSw; (try dsimp only at hSw); go_simp; try with_reducible rfl)
 refine wU (i := 35) (v := ?vb_35) rfl ?yb_35 (by assumption) ?_
 case yb_35 => (intro w hSw; (try dsimp only at hSw); go_simp; try with_reducible rfl)
 refine wU (i := 36) (v := ?vb_36) rfl ?yb_36 (by assumption) ?_
 case yb_36 => (intro w hSw; (try dsimp only at hSw); go_simp; try with_reducible rfl)
 refine wU (i := 37) (v := ?vb_37) rfl ?yb_37 (by assumption) ?_
 case yb_37 => (intro w hSw; (try dsimp only at hSw); go_simp; try with_reducible rfl)
 try simp only [Act.put, List.getElem_toArray, List.getElem_cons_succ, List.getElem_cons_zero, List.setIfInBounds_toArray, List.set_cons_zero, List.set_cons_succ]
 refine wpAnyH_done (by kernel_rfl) ?_ _
 clear hHeld c2
 have c4 := HX.out _ k4
 go_wp2
 clear c4
 go_loopw [7] (fun iv wr => ∃ i : Nat, i ≤ 1 ∧ iv = .int .i64 (i : Int) ∧ (i = 1 → R = true) ∧ Hid (Kd V wr)) (fun iv _ => 1 - (intOf iv).toNat)
 case atStart => exact ⟨0, by omega, rfl, fun h => by omega, k4⟩
 case round =>
  obtain ⟨i, hi, rfl, hR, HK⟩ := hrel
  have c5 := HX.out _ HK.out
  rcases (show i = 0 ∨ i = 1 by omega) with rfl | rfl
  ·have HH5 := Hid.mk (HH.out _ (HY.out _ HK.out.drew).2.1 (HY.out _ HK.out.drew).2.2)
   go_upto_region 8 with fail
   refine wp_region_held_drew (S := (fun w' : World => (w'.cell? ⟨B, 0, none⟩ = some (.string (nm ls)) ∧ w'.cell? ⟨B, 1, none⟩ = some (.int .i64 ty) ∧ w'.cell? ⟨B, 2, none⟩ = some (.int .i64 cl) ∧ w'.cell? ⟨B, 3, none⟩ = some (.int .i64 tl) ∧ w'.cell? ⟨B, 4, none⟩ = some (.slice (some ⟨b, o, none⟩) 1 c) ∧ w'.cell? ⟨B, 5, none⟩ = some (.slice qs 0 es)) ∧ (w'.cell? ⟨(B + 1), 0, none⟩ = some (.string (nm ls')) ∧ w'.cell? ⟨(B + 1), 1, none⟩ = some (.int .i64 ty) ∧ w'.cell? ⟨(B + 1), 2, none⟩ = some (.int .i64 cl) ∧ w'.cell? ⟨(B + 1), 3, none⟩ = some (.int .i64 tl') ∧ w'.cell? ⟨(B + 1), 4, none⟩ = some (.slice (some ⟨b', o', none⟩) 1 c') ∧ w'.cell? ⟨(B + 1), 5, none⟩ = some (.slice qs' 0 es')) ∧ w'.cell? ⟨b, o, none⟩ = some (.string d))) (by kernel_rfl) (HX.out _ HK.out.drew) (fun hHeld => ?_)
   refine wU (i := 0) (v := ?vc_0) rfl ?yc_0 (by assumption) ?_
   case yc_0 => (intro w hSw; (try dsimp only at hSw); go_simp; try with_reducible rfl)
   refine wU (i := 1) (v := ?vc_1) rfl ?yc_1 (by assumption) ?_
   case yc_1 => (intro w hSw; (try dsimp only at hSw); go_simp; try with_reducible rfl)
   refine wU (i := 2) (v := ?vc_2) rfl ?yc_2 (by assumption) ?_
   case yc_2 => (intro w hSw; (try dsimp only at hSw); go_simp; try with_reducible rfl)
   refine wU (i := 3) (v := ?vc_3) rfl ?yc_3 (by assumption) ?_
   case yc_3 => (intro w hSw; (try dsimp only at hSw); go_simp; try with_reducible rfl)
   refine wU (i := 4) (v := ?vc_4) rfl ?yc_4 (by assumption) ?_
   case yc_4 => (intro w hSw; (try dsimp only at hSw); go_simp; try with_reducible rfl)
   refine wU (i := 5) (v := ?vc_5) rfl ?yc_5 (by assumption) ?_
   case yc_5 => (intro w hSw; (try dsimp only at hSw); go_simp; try with_reducible rfl)
   refine wU (i := 6) (v := ?vc_6) rfl ?yc_6 (by assumption) ?_
   case yc_6 => (intro w hSw; (try dsimp only at hSw); go_simp; try with_reducible rfl)
   refine wU (i := 7) (v := ?vc_7) rfl ?yc_7 (by assumption) ?_
   case yc_7 => (intro w hSw; (try dsimp only at hSw); go_simp; try with_reducible rfl)
   refine wU (i := 8) (v := ?vc_8) rfl ?yc_8 (by assumption) ?_
   case yc_8 => (intro w hSw; (try dsimp only at hSw); go_simp; try with_reducible rfl)
   try simp only [Act.put, List.getElem_toArray, List.getElem_cons_succ, List.getElem_cons_zero, List.setIfInBounds_toArray, List.set_cons_zero, List.set_cons_succ]
   refine wpAnyH_ready (rs := [9]) (by kernel_rfl) (by simp) ?_
   refine AllReadyH.cons rfl (fun K hK => ?_) AllReadyH.nil
   go_simp
   go_at_call 68
   refine HH5.out.mono ?_
   rintro e w7 ⟨rfl, hb7⟩
   have k7 := HK.out.drew.blk hb7
   refine hK.out _ _ (HX.out _ k7) (fun hHeld => ?_)
   clear hK K
   try simp only [Act.put, List.getElem_toArray, List.getElem_cons_succ, List.getElem_cons_zero, List.setIfInBounds_toArray, List.set_cons_zero, List.set_cons_succ]
   refine wU (i := 10) (v := ?vd_10) rfl ?yd_10 (by assumption) ?_
   case yd_10 => (intro w hSw; (try dsimp only at hSw); go_simp; try with_reducible rfl)
   try simp only [Act.put, List.getElem_toArray, List.getElem_cons_succ, List.getElem_cons_zero, List.setIfInBounds_toArray, List.set_cons_zero, List.set_cons_succ]
   refine wpAnyH_done (by kernel_rfl) ?_ _
   clear hHeld c5 HH5 HH
   cases R with
   | false =>
    go_wp2
    go_ret
    exact ⟨rfl, k7.bel (by rw [HB.out]; exact BW.out)⟩
   | true =>
    go_wp2
    go_roundw
    case rel => exact ⟨1, by omega, by first | rfl | go_num, (fun _ => by first | rfl | trivial), k7⟩
    case measure => simp [intOf]
  ·obtain rfl := hR rfl
   go_wp2
   go_ret
   exact ⟨rfl, HK.out.bel (by rw [HB.out]; exact BW.out)⟩
end Go.Proofs.YtdlcldjlfhmlgaaGreatDoor
