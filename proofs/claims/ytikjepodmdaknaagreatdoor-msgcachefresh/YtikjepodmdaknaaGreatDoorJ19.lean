/- Texts of this proof, joined: RsG. -/
import Derived.Deep.RegionHeld3
import Derived.Test.YtikjepodmdaknaaGreatDoorJ18
import Derived.Test.YtikjepodmdaknaaGreatDoorJ12
set_option linter.unusedVariables false
set_option linter.unusedSimpArgs false
/- Layer 8: two sets are the same or not. -/
namespace Go.Proofs.YtikjepodmdaknaaGreatDoor
open Go.RowKit Go.Sort
theorem svC_dat {s : Sv} (h : setOk s = true) : s.ds.length ≤ 200 := by
 unfold setOk datOk at h
 simp only [Bool.and_eq_true, decide_eq_true_eq] at h
 exact h.1.2.1.1.2
theorem row_texts {w : World} {N : Nat} {v : Value} {n : Nat} {Z : List (List UInt8)} (h : w.ownsRow N 9 1 v n (Z.map encStr)) (hn : Z.length = n) : TextsAt w v (Z.map fun x => (⟨x.toArray⟩ : ByteArray)) := by
 subst hn
 refine texts_of_row (n₀ := N) (e := 9) ?_
 rw [List.length_map]
 have e : baV (Z.map fun x => (⟨x.toArray⟩ : ByteArray)) = Z.map encStr := by
  unfold baV
  rw [List.map_map]
  rfl
 rw [e]
 exact h
theorem bytes_inj {Z Z' : List (List UInt8)} : decide (Z.map (fun x => (⟨x.toArray⟩ : ByteArray)) = Z'.map fun x => (⟨x.toArray⟩ : ByteArray)) = decide (Z = Z') := by
 refine decide_eq_decide.2 ⟨fun h => ?_, fun h => by rw [h]⟩
 have := congrArg (List.map fun b : ByteArray => b.data.toList) h
 simpa [List.map_map, Function.comp_def] using this
set_option maxRecDepth 100000 in
set_option maxHeartbeats 8000000 in
theorem setSame_in (a b : Sv) (ha : SvIn a) (hb : SvIn b) (qa : Option Addr) (ca : Nat) (ga : Option Addr) (ka : Nat) (qb : Option Addr) (cb : Nat) (gb : Option Addr) (kb : Nat) (W : World) (hA : SvAt W a qa ca ga ka) (hB : SvAt W b qb cb gb kb) :
  Calls Tryz.prog 33 #[.agg (svC a qa ca ga ka).toArray, .agg (svC b qb cb gb kb).toArray] W fun e w' => e = .returned (.bool (sameS a b)) ∧ Below W.heap.size W w' := by
 obtain ⟨N, hN⟩ : ∃ N, W.heap.size = N := ⟨_, rfl⟩
 have H1 : Hid (∀ w, Below N W w → Calls Tryz.prog 80 #[.agg (svC a qa ca ga ka).toArray] w fun e w' => e = .returned (.bool (setOk a)) ∧ Below w.heap.size w w') := fun w h => setRight_in a ha qa ca ga ka w (hA.blk (by rw [hN]; exact h))
 have H2 : Hid (∀ w, Below N W w → Calls Tryz.prog 80 #[.agg (svC b qb cb gb kb).toArray] w fun e w' => e = .returned (.bool (setOk b)) ∧ Below w.heap.size w w') := fun w h => setRight_in b hb qb cb gb kb w (hB.blk (by rw [hN]; exact h))
 have H3 : Hid (∀ w, Calls Tryz.prog 81 #[.string a.nm, .string b.nm] w fun e w' => e = .returned (.bool (eqF a.nm b.nm)) ∧ Below w.heap.size w w') := fun w => nequal_in a.nm b.nm ha.nm hb.nm w
 have H4 : Hid (setOk a = true → ∀ w, Below N W w → Calls Tryz.prog 83 #[.agg (svC a qa ca ga ka).toArray] w fun e w' => ∃ v, e = .returned v ∧ w'.ownsRow w.heap.size 9 1 v a.ds.length ((sortB (lowsS a)).map encStr) ∧ Below w.heap.size w w') := fun h w hw => inOrder_in a ha qa ca ga ka w (hA.blk (by rw [hN]; exact hw)) (by have := svC_dat h; omega)
 have H5 : Hid (setOk b = true → ∀ w, Below N W w → Calls Tryz.prog 83 #[.agg (svC b qb cb gb kb).toArray] w fun e w' => ∃ v, e = .returned v ∧ w'.ownsRow w.heap.size 9 1 v b.ds.length ((sortB (lowsS b)).map encStr) ∧ Below w.heap.size w w') := fun h w hw => inOrder_in b hb qb cb gb kb w (hB.blk (by rw [hN]; exact hw)) (by have := svC_dat h; omega)
 have H6 : Hid (setOk a = true → setOk b = true → ∀ w v v' N1 N2, w.ownsRow N1 9 1 v a.ds.length ((sortB (lowsS a)).map encStr) → w.ownsRow N2 9 1 v' b.ds.length ((sortB (lowsS b)).map encStr) → Calls Tryz.prog 82 #[v, v'] w fun e w' => e = .returned (.bool (decide (sortB (lowsS a) = sortB (lowsS b)))) ∧ Below w.heap.size w w') := fun h h' w v v' N1 N2 o o' => by
  have l1 : (sortB (lowsS a)).length = a.ds.length := by rw [sortB_len]; unfold lowsS; rw [List.length_map]
  have l2 : (sortB (lowsS b)).length = b.ds.length := by rw [sortB_len]; unfold lowsS; rw [List.length_map]
  have s1 := svC_dat h
  have s2 := svC_dat h'
  have := equal_in w v v' _ _ (row_texts o l1) (row_texts o' l2) (by rw [List.length_map]; omega) (by rw [List.length_map]; omega)
  rw [bytes_inj] at this
  exact this
 have HT : Hid (sameS a b = (setOk a && setOk b && a.ty == b.ty && a.cl == b.cl && eqF a.nm b.nm && decide (sortB (lowsS a) = sortB (lowsS b)))) := rfl
 have X0 := Bx2.new W (svC a qa ca ga ka) (svC b qb cb gb kb) 34 34
 simp only [svC] at X0 H1 H2 H4 H5 ⊢
 obtain ⟨V, hV⟩ : ∃ V, (W.alloc (.cells [.string a.nm, .int .i64 a.ty, .int .i64 a.cl, .int .i64 a.tl, .slice qa a.ds.length ca, .slice ga a.sg.length ka].toArray 34)).alloc (.cells [.string b.nm, .int .i64 b.ty, .int .i64 b.cl, .int .i64 b.tl, .slice qb b.ds.length cb, .slice gb b.sg.length kb].toArray 34) = V := ⟨_, rfl⟩
 rw [hV] at X0
 rw [hN] at X0 ⊢
 obtain ⟨P, hP⟩ : ∃ P, N + 1 = P := ⟨_, rfl⟩
 rw [hP] at X0
 have HX : Hid (∀ w, Below V.heap.size V w → Below N W w ∧ (w.cell? ⟨N, 0, none⟩ = some (.string a.nm) ∧ w.cell? ⟨N, 1, none⟩ = some (.int .i64 a.ty) ∧ w.cell? ⟨N, 2, none⟩ = some (.int .i64 a.cl) ∧ w.cell? ⟨N, 3, none⟩ = some (.int .i64 a.tl) ∧ w.cell? ⟨N, 4, none⟩ = some (.slice qa a.ds.length ca) ∧ w.cell? ⟨N, 5, none⟩ = some (.slice ga a.sg.length ka)) ∧ (w.cell? ⟨P, 0, none⟩ = some (.string b.nm) ∧ w.cell? ⟨P, 1, none⟩ = some (.int .i64 b.ty) ∧ w.cell? ⟨P, 2, none⟩ = some (.int .i64 b.cl) ∧ w.cell? ⟨P, 3, none⟩ = some (.int .i64 b.tl) ∧ w.cell? ⟨P, 4, none⟩ = some (.slice qb b.ds.length cb) ∧ w.cell? ⟨P, 5, none⟩ = some (.slice gb b.sg.length kb))) := fun w hb => ⟨by have := (X0.blk hb).x.bel; rw [hN] at this; exact this, (X0.blk hb).x.cells6, (X0.blk hb).y.cells6⟩
 have HV := Hid.mk hV
 have HP := Hid.mk hP
 obtain ⟨R, hR⟩ : ∃ R, sameS a b = R := ⟨_, rfl⟩
 rw [hR] at HT ⊢
 obtain ⟨r1, hr1⟩ : ∃ r, setOk a = r := ⟨_, rfl⟩
 obtain ⟨r2, hr2⟩ : ∃ r, setOk b = r := ⟨_, rfl⟩
 obtain ⟨r3, hr3⟩ : ∃ r, eqF a.nm b.nm = r := ⟨_, rfl⟩
 obtain ⟨r4, hr4⟩ : ∃ r, decide (sortB (lowsS a) = sortB (lowsS b)) = r := ⟨_, rfl⟩
 rw [hr1] at H1 H4 H6 HT
 rw [hr2] at H2 H5 H6 HT
 rw [hr3] at H3 HT
 rw [hr4] at H6 HT
 clear ha hb hA hB X0 hV hP hR hr1 hr2 hr3 hr4
 go_enter Tryz.func33, Tryz.ntmps33
 go_upto_region 1 with fail
 (try rw [HP.out])
 (try rw [hN])
 (try rw [HP.out])
 rw [HV.out]
 clear hN
 have HS0 : Hid ((fun w : World => (w.cell? ⟨N, 0, none⟩ = some (.string a.nm) ∧ w.cell? ⟨N, 1, none⟩ = some (.int .i64 a.ty) ∧ w.cell? ⟨N, 2, none⟩ = some (.int .i64 a.cl) ∧ w.cell? ⟨N, 3, none⟩ = some (.int .i64 a.tl) ∧ w.cell? ⟨N, 4, none⟩ = some (.slice qa a.ds.length ca) ∧ w.cell? ⟨N, 5, none⟩ = some (.slice ga a.sg.length ka)) ∧ (w.cell? ⟨P, 0, none⟩ = some (.string b.nm) ∧ w.cell? ⟨P, 1, none⟩ = some (.int .i64 b.ty) ∧ w.cell? ⟨P, 2, none⟩ = some (.int .i64 b.cl) ∧ w.cell? ⟨P, 3, none⟩ = some (.int .i64 b.tl) ∧ w.cell? ⟨P, 4, none⟩ = some (.slice qb b.ds.length cb) ∧ w.cell? ⟨P, 5, none⟩ = some (.slice gb b.sg.length kb))) V.drew) := (HX.out _ (Below.refl _ _).drew).2
 have HD0 : Hid (Below V.heap.size V V.drew) := (Below.refl _ _).drew
 refine wp_region_held_drew (S := (fun w : World => (w.cell? ⟨N, 0, none⟩ = some (.string a.nm) ∧ w.cell? ⟨N, 1, none⟩ = some (.int .i64 a.ty) ∧ w.cell? ⟨N, 2, none⟩ = some (.int .i64 a.cl) ∧ w.cell? ⟨N, 3, none⟩ = some (.int .i64 a.tl) ∧ w.cell? ⟨N, 4, none⟩ = some (.slice qa a.ds.length ca) ∧ w.cell? ⟨N, 5, none⟩ = some (.slice ga a.sg.length ka)) ∧ (w.cell? ⟨P, 0, none⟩ = some (.string b.nm) ∧ w.cell? ⟨P, 1, none⟩ = some (.int .i64 b.ty) ∧ w.cell? ⟨P, 2, none⟩ = some (.int .i64 b.cl) ∧ w.cell? ⟨P, 3, none⟩ = some (.int .i64 b.tl) ∧ w.cell? ⟨P, 4, none⟩ = some (.slice qb b.ds.length cb) ∧ w.cell? ⟨P, 5, none⟩ = some (.slice gb b.sg.length kb)))) (by kernel_rfl) HS0.out (fun hHeld => ?_)
 refine wU (i := 0) (v := ?vs0_0) rfl ?ys0_0 (by assumption) ?_
 case ys0_0 => (intro w hSw; (try dsimp only at hSw); go_simp; try with_reducible rfl)
 try simp only [Act.put, List.getElem_toArray, List.getElem_cons_succ, List.getElem_cons_zero, List.setIfInBounds_toArray, List.set_cons_zero, List.set_cons_succ]
 refine wpAnyH_ready (rs := [1]) (by kernel_rfl) (by simp) ?_
 refine AllReadyH.cons rfl (fun K hK => ?_) AllReadyH.nil
 go_simp
 go_at_call 80
 refine (H1.out _ (HX.out _ HD0.out).1).mono ?_
 rintro e w1 ⟨rfl, hb⟩
 have HD1 : Hid (Below V.heap.size V w1) := HD0.out.trans (hb.mono HD0.out.size)
 clear hb
 refine hK.out _ _ (HX.out _ HD1.out).2 (fun hHeld => ?_)
 clear hK K
 try simp only [Act.put, List.getElem_toArray, List.getElem_cons_succ, List.getElem_cons_zero, List.setIfInBounds_toArray, List.set_cons_zero, List.set_cons_succ]
 cases r1 with
 | false =>
  refine wU (i := 2) (v := ?vn0_2) rfl ?yn0_2 (by assumption) ?_
  case yn0_2 => (intro w hSw; (try dsimp only at hSw); go_simp; try with_reducible rfl)
  try simp only [Act.put, List.getElem_toArray, List.getElem_cons_succ, List.getElem_cons_zero, List.setIfInBounds_toArray, List.set_cons_zero, List.set_cons_succ]
  refine wT (i := 3) (v := undef) rfl (Or.inr ⟨by kernel_rfl, rfl⟩) (by assumption) ?_
  refine wT (i := 4) (v := undef) rfl (Or.inr ⟨by kernel_rfl, rfl⟩) (by assumption) ?_
  try simp only [Act.put, List.getElem_toArray, List.getElem_cons_succ, List.getElem_cons_zero, List.setIfInBounds_toArray, List.set_cons_zero, List.set_cons_succ]
  refine wU (i := 5) (v := ?vn0g0_5) rfl ?yn0g0_5 (by assumption) ?_
  case yn0g0_5 => (intro w hSw; (try dsimp only at hSw); go_simp; try with_reducible rfl)
  refine wU (i := 6) (v := ?vn0g0_6) rfl ?yn0g0_6 (by assumption) ?_
  case yn0g0_6 => (intro w hSw; (try dsimp only at hSw); go_simp; try with_reducible rfl)
  try simp only [Act.put, List.getElem_toArray, List.getElem_cons_succ, List.getElem_cons_zero, List.setIfInBounds_toArray, List.set_cons_zero, List.set_cons_succ]
  refine wT (i := 7) (v := undef) rfl (Or.inr ⟨by kernel_rfl, rfl⟩) (by assumption) ?_
  refine wT (i := 8) (v := undef) rfl (Or.inr ⟨by kernel_rfl, rfl⟩) (by assumption) ?_
  refine wT (i := 9) (v := undef) rfl (Or.inr ⟨by kernel_rfl, rfl⟩) (by assumption) ?_
  refine wT (i := 10) (v := undef) rfl (Or.inr ⟨by kernel_rfl, rfl⟩) (by assumption) ?_
  refine wT (i := 11) (v := undef) rfl (Or.inr ⟨by kernel_rfl, rfl⟩) (by assumption) ?_
  try simp only [Act.put, List.getElem_toArray, List.getElem_cons_succ, List.getElem_cons_zero, List.setIfInBounds_toArray, List.set_cons_zero, List.set_cons_succ]
  refine wU (i := 12) (v := ?vn0g1_12) rfl ?yn0g1_12 (by assumption) ?_
  case yn0g1_12 => (intro w hSw; (try dsimp only at hSw); go_simp; try with_reducible rfl)
  refine wU (i := 13) (v := ?vn0g1_13) rfl ?yn0g1_13 (by assumption) ?_
  case yn0g1_13 => (intro w hSw; (try dsimp only at hSw); go_simp; try with_reducible rfl)
  try simp only [Act.put, List.getElem_toArray, List.getElem_cons_succ, List.getElem_cons_zero, List.setIfInBounds_toArray, List.set_cons_zero, List.set_cons_succ]
  refine wT (i := 14) (v := undef) rfl (Or.inr ⟨by kernel_rfl, rfl⟩) (by assumption) ?_
  refine wT (i := 15) (v := undef) rfl (Or.inr ⟨by kernel_rfl, rfl⟩) (by assumption) ?_
  refine wT (i := 16) (v := undef) rfl (Or.inr ⟨by kernel_rfl, rfl⟩) (by assumption) ?_
  refine wT (i := 17) (v := undef) rfl (Or.inr ⟨by kernel_rfl, rfl⟩) (by assumption) ?_
  refine wT (i := 18) (v := undef) rfl (Or.inr ⟨by kernel_rfl, rfl⟩) (by assumption) ?_
  try simp only [Act.put, List.getElem_toArray, List.getElem_cons_succ, List.getElem_cons_zero, List.setIfInBounds_toArray, List.set_cons_zero, List.set_cons_succ]
  refine wU (i := 19) (v := ?vn0g2_19) rfl ?yn0g2_19 (by assumption) ?_
  case yn0g2_19 => (intro w hSw; (try dsimp only at hSw); go_simp; try with_reducible rfl)
  refine wU (i := 20) (v := ?vn0g2_20) rfl ?yn0g2_20 (by assumption) ?_
  case yn0g2_20 => (intro w hSw; (try dsimp only at hSw); go_simp; try with_reducible rfl)
  try simp only [Act.put, List.getElem_toArray, List.getElem_cons_succ, List.getElem_cons_zero, List.setIfInBounds_toArray, List.set_cons_zero, List.set_cons_succ]
  refine wT (i := 21) (v := undef) rfl (Or.inr ⟨by kernel_rfl, rfl⟩) (by assumption) ?_
  refine wT (i := 22) (v := undef) rfl (Or.inr ⟨by kernel_rfl, rfl⟩) (by assumption) ?_
  refine wT (i := 23) (v := undef) rfl (Or.inr ⟨by kernel_rfl, rfl⟩) (by assumption) ?_
  refine wT (i := 24) (v := undef) rfl (Or.inr ⟨by kernel_rfl, rfl⟩) (by assumption) ?_
  refine wT (i := 25) (v := undef) rfl (Or.inr ⟨by kernel_rfl, rfl⟩) (by assumption) ?_
  try simp only [Act.put, List.getElem_toArray, List.getElem_cons_succ, List.getElem_cons_zero, List.setIfInBounds_toArray, List.set_cons_zero, List.set_cons_succ]
  refine wU (i := 26) (v := ?vn0g3_26) rfl ?yn0g3_26 (by assumption) ?_
  case yn0g3_26 => (intro w hSw; (try dsimp only at hSw); go_simp; try with_reducible rfl)
  refine wU (i := 27) (v := ?vn0g3_27) rfl ?yn0g3_27 (by assumption) ?_
  case yn0g3_27 => (intro w hSw; (try dsimp only at hSw); go_simp; try with_reducible rfl)
  try simp only [Act.put, List.getElem_toArray, List.getElem_cons_succ, List.getElem_cons_zero, List.setIfInBounds_toArray, List.set_cons_zero, List.set_cons_succ]
  refine wT (i := 28) (v := undef) rfl (Or.inr ⟨by kernel_rfl, rfl⟩) (by assumption) ?_
  refine wT (i := 29) (v := undef) rfl (Or.inr ⟨by kernel_rfl, rfl⟩) (by assumption) ?_
  refine wT (i := 30) (v := undef) rfl (Or.inr ⟨by kernel_rfl, rfl⟩) (by assumption) ?_
  refine wT (i := 31) (v := undef) rfl (Or.inr ⟨by kernel_rfl, rfl⟩) (by assumption) ?_
  refine wT (i := 32) (v := undef) rfl (Or.inr ⟨by kernel_rfl, rfl⟩) (by assumption) ?_
  try simp only [Act.put, List.getElem_toArray, List.getElem_cons_succ, List.getElem_cons_zero, List.setIfInBounds_toArray, List.set_cons_zero, List.set_cons_succ]
  refine wU (i := 33) (v := ?vn0g4_33) rfl ?yn0g4_33 (by assumption) ?_
  case yn0g4_33 => (intro w hSw; (try dsimp only at hSw); go_simp; try with_reducible rfl)
  refine wU (i := 34) (v := ?vn0g4_34) rfl ?yn0g4_34 (by assumption) ?_
  case yn0g4_34 => (intro w hSw; (try dsimp only at hSw); go_simp; try with_reducible rfl)
  try simp only [Act.put, List.getElem_toArray, List.getElem_cons_succ, List.getElem_cons_zero, List.setIfInBounds_toArray, List.set_cons_zero, List.set_cons_succ]
  refine wpAnyH_done (by kernel_rfl) ?_ _
  clear hHeld
  have hR := HT.out
  simp only [Bool.false_and, Bool.and_false, Bool.true_and, Bool.and_true] at hR
  have HF := Hid.mk (HX.out _ HD1.out).1
  subst hR
  go_wp2
  go_ret
  exact ⟨rfl, HF.out⟩
 | true =>
  refine wU (i := 2) (v := ?vy0_2) rfl ?yy0_2 (by assumption) ?_
  case yy0_2 => (intro w hSw; (try dsimp only at hSw); go_simp; try with_reducible rfl)
  try simp only [Act.put, List.getElem_toArray, List.getElem_cons_succ, List.getElem_cons_zero, List.setIfInBounds_toArray, List.set_cons_zero, List.set_cons_succ]
  refine wU (i := 3) (v := ?vy0b_3) rfl ?yy0b_3 (by assumption) ?_
  case yy0b_3 => (intro w hSw; (try dsimp only at hSw); go_simp; try with_reducible rfl)
  try simp only [Act.put, List.getElem_toArray, List.getElem_cons_succ, List.getElem_cons_zero, List.setIfInBounds_toArray, List.set_cons_zero, List.set_cons_succ]
  refine wpAnyH_ready (rs := [4]) (by kernel_rfl) (by simp) ?_
  refine AllReadyH.cons rfl (fun K hK => ?_) AllReadyH.nil
  go_simp
  go_at_call 80
  refine (H2.out _ (HX.out _ HD1.out).1).mono ?_
  rintro e w2 ⟨rfl, hb⟩
  have HD2 : Hid (Below V.heap.size V w2) := HD1.out.trans (hb.mono HD1.out.size)
  clear hb
  refine hK.out _ _ (HX.out _ HD2.out).2 (fun hHeld => ?_)
  clear hK K
  try simp only [Act.put, List.getElem_toArray, List.getElem_cons_succ, List.getElem_cons_zero, List.setIfInBounds_toArray, List.set_cons_zero, List.set_cons_succ]
  cases r2 with
  | false =>
   refine wU (i := 5) (v := ?vn1_5) rfl ?yn1_5 (by assumption) ?_
   case yn1_5 => (intro w hSw; (try dsimp only at hSw); go_simp; try with_reducible rfl)
   refine wU (i := 6) (v := ?vn1_6) rfl ?yn1_6 (by assumption) ?_
   case yn1_6 => (intro w hSw; (try dsimp only at hSw); go_simp; try with_reducible rfl)
   try simp only [Act.put, List.getElem_toArray, List.getElem_cons_succ, List.getElem_cons_zero, List.setIfInBounds_toArray, List.set_cons_zero, List.set_cons_succ]
   refine wT (i := 7) (v := undef) rfl (Or.inr ⟨by kernel_rfl, rfl⟩) (by assumption) ?_
   refine wT (i := 8) (v := undef) rfl (Or.inr ⟨by kernel_rfl, rfl⟩) (by assumption) ?_
   refine wT (i := 9) (v := undef) rfl (Or.inr ⟨by kernel_rfl, rfl⟩) (by assumption) ?_
   refine wT (i := 10) (v := undef) rfl (Or.inr ⟨by kernel_rfl, rfl⟩) (by assumption) ?_
   refine wT (i := 11) (v := undef) rfl (Or.inr ⟨by kernel_rfl, rfl⟩) (by assumption) ?_
   try simp only [Act.put, List.getElem_toArray, List.getElem_cons_succ, List.getElem_cons_zero, List.setIfInBounds_toArray, List.set_cons_zero, List.set_cons_succ]
   refine wU (i := 12) (v := ?vn1g0_12) rfl ?yn1g0_12 (by assumption) ?_
   case yn1g0_12 => (intro w hSw; (try dsimp only at hSw); go_simp; try with_reducible rfl)
   refine wU (i := 13) (v := ?vn1g0_13) rfl ?yn1g0_13 (by assumption) ?_
   case yn1g0_13 => (intro w hSw; (try dsimp only at hSw); go_simp; try with_reducible rfl)
   try simp only [Act.put, List.getElem_toArray, List.getElem_cons_succ, List.getElem_cons_zero, List.setIfInBounds_toArray, List.set_cons_zero, List.set_cons_succ]
   refine wT (i := 14) (v := undef) rfl (Or.inr ⟨by kernel_rfl, rfl⟩) (by assumption) ?_
   refine wT (i := 15) (v := undef) rfl (Or.inr ⟨by kernel_rfl, rfl⟩) (by assumption) ?_
   refine wT (i := 16) (v := undef) rfl (Or.inr ⟨by kernel_rfl, rfl⟩) (by assumption) ?_
   refine wT (i := 17) (v := undef) rfl (Or.inr ⟨by kernel_rfl, rfl⟩) (by assumption) ?_
   refine wT (i := 18) (v := undef) rfl (Or.inr ⟨by kernel_rfl, rfl⟩) (by assumption) ?_
   try simp only [Act.put, List.getElem_toArray, List.getElem_cons_succ, List.getElem_cons_zero, List.setIfInBounds_toArray, List.set_cons_zero, List.set_cons_succ]
   refine wU (i := 19) (v := ?vn1g1_19) rfl ?yn1g1_19 (by assumption) ?_
   case yn1g1_19 => (intro w hSw; (try dsimp only at hSw); go_simp; try with_reducible rfl)
   refine wU (i := 20) (v := ?vn1g1_20) rfl ?yn1g1_20 (by assumption) ?_
   case yn1g1_20 => (intro w hSw; (try dsimp only at hSw); go_simp; try with_reducible rfl)
   try simp only [Act.put, List.getElem_toArray, List.getElem_cons_succ, List.getElem_cons_zero, List.setIfInBounds_toArray, List.set_cons_zero, List.set_cons_succ]
   refine wT (i := 21) (v := undef) rfl (Or.inr ⟨by kernel_rfl, rfl⟩) (by assumption) ?_
   refine wT (i := 22) (v := undef) rfl (Or.inr ⟨by kernel_rfl, rfl⟩) (by assumption) ?_
   refine wT (i := 23) (v := undef) rfl (Or.inr ⟨by kernel_rfl, rfl⟩) (by assumption) ?_
   refine wT (i := 24) (v := undef) rfl (Or.inr ⟨by kernel_rfl, rfl⟩) (by assumption) ?_
   refine wT (i := 25) (v := undef) rfl (Or.inr ⟨by kernel_rfl, rfl⟩) (by assumption) ?_
   try simp only [Act.put, List.getElem_toArray, List.getElem_cons_succ, List.getElem_cons_zero, List.setIfInBounds_toArray, List.set_cons_zero, List.set_cons_succ]
   refine wU (i := 26) (v := ?vn1g2_26) rfl ?yn1g2_26 (by assumption) ?_
   case yn1g2_26 => (intro w hSw; (try dsimp only at hSw); go_simp; try with_reducible rfl)
   refine wU (i := 27) (v := ?vn1g2_27) rfl ?yn1g2_27 (by assumption) ?_
   case yn1g2_27 => (intro w hSw; (try dsimp only at hSw); go_simp; try with_reducible rfl)
   try simp only [Act.put, List.getElem_toArray, List.getElem_cons_succ, List.getElem_cons_zero, List.setIfInBounds_toArray, List.set_cons_zero, List.set_cons_succ]
   refine wT (i := 28) (v := undef) rfl (Or.inr ⟨by kernel_rfl, rfl⟩) (by assumption) ?_
   refine wT (i := 29) (v := undef) rfl (Or.inr ⟨by kernel_rfl, rfl⟩) (by assumption) ?_
   refine wT (i := 30) (v := undef) rfl (Or.inr ⟨by kernel_rfl, rfl⟩) (by assumption) ?_
   refine wT (i := 31) (v := undef) rfl (Or.inr ⟨by kernel_rfl, rfl⟩) (by assumption) ?_
   refine wT (i := 32) (v := undef) rfl (Or.inr ⟨by kernel_rfl, rfl⟩) (by assumption) ?_
   try simp only [Act.put, List.getElem_toArray, List.getElem_cons_succ, List.getElem_cons_zero, List.setIfInBounds_toArray, List.set_cons_zero, List.set_cons_succ]
   refine wU (i := 33) (v := ?vn1g3_33) rfl ?yn1g3_33 (by assumption) ?_
   case yn1g3_33 => (intro w hSw; (try dsimp only at hSw); go_simp; try with_reducible rfl)
   refine wU (i := 34) (v := ?vn1g3_34) rfl ?yn1g3_34 (by assumption) ?_
   case yn1g3_34 => (intro w hSw; (try dsimp only at hSw); go_simp; try with_reducible rfl)
   try simp only [Act.put, List.getElem_toArray, List.getElem_cons_succ, List.getElem_cons_zero, List.setIfInBounds_toArray, List.set_cons_zero, List.set_cons_succ]
   refine wpAnyH_done (by kernel_rfl) ?_ _
   clear hHeld
   have hR := HT.out
   simp only [Bool.false_and, Bool.and_false, Bool.true_and, Bool.and_true] at hR
   have HF := Hid.mk (HX.out _ HD2.out).1
   subst hR
   go_wp2
   go_ret
   exact ⟨rfl, HF.out⟩
  | true =>
   refine wU (i := 5) (v := ?vy1_5) rfl ?yy1_5 (by assumption) ?_
   case yy1_5 => (intro w hSw; (try dsimp only at hSw); go_simp; try with_reducible rfl)
   refine wU (i := 6) (v := ?vy1_6) rfl ?yy1_6 (by assumption) ?_
   case yy1_6 => (intro w hSw; (try dsimp only at hSw); go_simp; try with_reducible rfl)
   try simp only [Act.put, List.getElem_toArray, List.getElem_cons_succ, List.getElem_cons_zero, List.setIfInBounds_toArray, List.set_cons_zero, List.set_cons_succ]
   cases ht : (a.ty == b.ty) with
   | false =>
    refine wU (i := 7) (v := ?vn2_7) rfl ?yn2_7 (by assumption) ?_
    case yn2_7 => (intro w hSw; (try dsimp only at hSw); go_simp; try with_reducible rfl)
    refine wU (i := 8) (v := ?vn2_8) rfl ?yn2_8 (by assumption) ?_
    case yn2_8 => (intro w hSw; (try dsimp only at hSw); go_simp; try with_reducible rfl)
    refine wU (i := 9) (v := ?vn2_9) rfl ?yn2_9 (by assumption) ?_
    case yn2_9 => (intro w hSw; (try dsimp only at hSw); go_simp; try with_reducible rfl)
    refine wU (i := 10) (v := ?vn2_10) rfl ?yn2_10 (by assumption) ?_
    case yn2_10 => (intro w hSw; (try dsimp only at hSw); go_simp; try with_reducible rfl)
    refine wU (i := 11) (v := ?vn2_11) rfl ?yn2_11 (by assumption) ?_
    case yn2_11 => (intro w hSw; (try dsimp only at hSw); go_simp; try with_reducible rfl)
    refine wU (i := 12) (v := ?vn2_12) rfl ?yn2_12 (by assumption) ?_
    case yn2_12 => (intro w hSw; (try dsimp only at hSw); go_simp; try with_reducible rfl)
    refine wU (i := 13) (v := ?vn2_13) rfl ?yn2_13 (by assumption) ?_
    case yn2_13 => (intro w hSw; (try dsimp only at hSw); go_simp; try with_reducible rfl)
    try simp only [Act.put, List.getElem_toArray, List.getElem_cons_succ, List.getElem_cons_zero, List.setIfInBounds_toArray, List.set_cons_zero, List.set_cons_succ]
    refine wT (i := 14) (v := undef) rfl (Or.inr ⟨by kernel_rfl, rfl⟩) (by assumption) ?_
    refine wT (i := 15) (v := undef) rfl (Or.inr ⟨by kernel_rfl, rfl⟩) (by assumption) ?_
    refine wT (i := 16) (v := undef) rfl (Or.inr ⟨by kernel_rfl, rfl⟩) (by assumption) ?_
    refine wT (i := 17) (v := undef) rfl (Or.inr ⟨by kernel_rfl, rfl⟩) (by assumption) ?_
    refine wT (i := 18) (v := undef) rfl (Or.inr ⟨by kernel_rfl, rfl⟩) (by assumption) ?_
    try simp only [Act.put, List.getElem_toArray, List.getElem_cons_succ, List.getElem_cons_zero, List.setIfInBounds_toArray, List.set_cons_zero, List.set_cons_succ]
    refine wU (i := 19) (v := ?vn2g0_19) rfl ?yn2g0_19 (by assumption) ?_
    case yn2g0_19 => (intro w hSw; (try dsimp only at hSw); go_simp; try with_reducible rfl)
    refine wU (i := 20) (v := ?vn2g0_20) rfl ?yn2g0_20 (by assumption) ?_
    case yn2g0_20 => (intro w hSw; (try dsimp only at hSw); go_simp; try with_reducible rfl)
    try simp only [Act.put, List.getElem_toArray, List.getElem_cons_succ, List.getElem_cons_zero, List.setIfInBounds_toArray, List.set_cons_zero, List.set_cons_succ]
    refine wT (i := 21) (v := undef) rfl (Or.inr ⟨by kernel_rfl, rfl⟩) (by assumption) ?_
    refine wT (i := 22) (v := undef) rfl (Or.inr ⟨by kernel_rfl, rfl⟩) (by assumption) ?_
    refine wT (i := 23) (v := undef) rfl (Or.inr ⟨by kernel_rfl, rfl⟩) (by assumption) ?_
    refine wT (i := 24) (v := undef) rfl (Or.inr ⟨by kernel_rfl, rfl⟩) (by assumption) ?_
    refine wT (i := 25) (v := undef) rfl (Or.inr ⟨by kernel_rfl, rfl⟩) (by assumption) ?_
    try simp only [Act.put, List.getElem_toArray, List.getElem_cons_succ, List.getElem_cons_zero, List.setIfInBounds_toArray, List.set_cons_zero, List.set_cons_succ]
    refine wU (i := 26) (v := ?vn2g1_26) rfl ?yn2g1_26 (by assumption) ?_
    case yn2g1_26 => (intro w hSw; (try dsimp only at hSw); go_simp; try with_reducible rfl)
    refine wU (i := 27) (v := ?vn2g1_27) rfl ?yn2g1_27 (by assumption) ?_
    case yn2g1_27 => (intro w hSw; (try dsimp only at hSw); go_simp; try with_reducible rfl)
    try simp only [Act.put, List.getElem_toArray, List.getElem_cons_succ, List.getElem_cons_zero, List.setIfInBounds_toArray, List.set_cons_zero, List.set_cons_succ]
    refine wT (i := 28) (v := undef) rfl (Or.inr ⟨by kernel_rfl, rfl⟩) (by assumption) ?_
    refine wT (i := 29) (v := undef) rfl (Or.inr ⟨by kernel_rfl, rfl⟩) (by assumption) ?_
    refine wT (i := 30) (v := undef) rfl (Or.inr ⟨by kernel_rfl, rfl⟩) (by assumption) ?_
    refine wT (i := 31) (v := undef) rfl (Or.inr ⟨by kernel_rfl, rfl⟩) (by assumption) ?_
    refine wT (i := 32) (v := undef) rfl (Or.inr ⟨by kernel_rfl, rfl⟩) (by assumption) ?_
    try simp only [Act.put, List.getElem_toArray, List.getElem_cons_succ, List.getElem_cons_zero, List.setIfInBounds_toArray, List.set_cons_zero, List.set_cons_succ]
    refine wU (i := 33) (v := ?vn2g2_33) rfl ?yn2g2_33 (by assumption) ?_
    case yn2g2_33 => (intro w hSw; (try dsimp only at hSw); go_simp; try with_reducible rfl)
    refine wU (i := 34) (v := ?vn2g2_34) rfl ?yn2g2_34 (by assumption) ?_
    case yn2g2_34 => (intro w hSw; (try dsimp only at hSw); go_simp; try with_reducible rfl)
    try simp only [Act.put, List.getElem_toArray, List.getElem_cons_succ, List.getElem_cons_zero, List.setIfInBounds_toArray, List.set_cons_zero, List.set_cons_succ]
    refine wpAnyH_done (by kernel_rfl) ?_ _
    clear hHeld
    have hR := HT.out
    simp only [Bool.false_and, Bool.and_false, Bool.true_and, Bool.and_true, ht] at hR
    have HF := Hid.mk (HX.out _ HD2.out).1
    subst hR
    go_wp2
    go_ret
    exact ⟨rfl, HF.out⟩
   | true =>
    refine wU (i := 7) (v := ?vy2_7) rfl ?yy2_7 (by assumption) ?_
    case yy2_7 => (intro w hSw; (try dsimp only at hSw); go_simp; try with_reducible rfl)
    refine wU (i := 8) (v := ?vy2_8) rfl ?yy2_8 (by assumption) ?_
    case yy2_8 => (intro w hSw; (try dsimp only at hSw); go_simp; try with_reducible rfl)
    refine wU (i := 9) (v := ?vy2_9) rfl ?yy2_9 (by assumption) ?_
    case yy2_9 => (intro w hSw; (try dsimp only at hSw); go_simp; try with_reducible rfl)
    refine wU (i := 10) (v := ?vy2_10) rfl ?yy2_10 (by assumption) ?_
    case yy2_10 => (intro w hSw; (try dsimp only at hSw); go_simp; try with_reducible rfl)
    refine wU (i := 11) (v := ?vy2_11) rfl ?yy2_11 (by assumption) ?_
    case yy2_11 => (intro w hSw; (try dsimp only at hSw); go_simp; try with_reducible rfl)
    refine wU (i := 12) (v := ?vy2_12) rfl ?yy2_12 (by assumption) ?_
    case yy2_12 => (intro w hSw; (try dsimp only at hSw); go_simp; try with_reducible rfl)
    refine wU (i := 13) (v := ?vy2_13) rfl ?yy2_13 (by assumption) ?_
    case yy2_13 => (intro w hSw; (try dsimp only at hSw); go_simp; try with_reducible rfl)
    try simp only [Act.put, List.getElem_toArray, List.getElem_cons_succ, List.getElem_cons_zero, List.setIfInBounds_toArray, List.set_cons_zero, List.set_cons_succ]
    cases hc : (a.cl == b.cl) with
    | false =>
     refine wU (i := 14) (v := ?vn3_14) rfl ?yn3_14 (by assumption) ?_
     case yn3_14 => (intro w hSw; (try dsimp only at hSw); go_simp; try with_reducible rfl)
     refine wU (i := 15) (v := ?vn3_15) rfl ?yn3_15 (by assumption) ?_
     case yn3_15 => (intro w hSw; (try dsimp only at hSw); go_simp; try with_reducible rfl)
     refine wU (i := 16) (v := ?vn3_16) rfl ?yn3_16 (by assumption) ?_
     case yn3_16 => (intro w hSw; (try dsimp only at hSw); go_simp; try with_reducible rfl)
     refine wU (i := 17) (v := ?vn3_17) rfl ?yn3_17 (by assumption) ?_
     case yn3_17 => (intro w hSw; (try dsimp only at hSw); go_simp; try with_reducible rfl)
     refine wU (i := 18) (v := ?vn3_18) rfl ?yn3_18 (by assumption) ?_
     case yn3_18 => (intro w hSw; (try dsimp only at hSw); go_simp; try with_reducible rfl)
     refine wU (i := 19) (v := ?vn3_19) rfl ?yn3_19 (by assumption) ?_
     case yn3_19 => (intro w hSw; (try dsimp only at hSw); go_simp; try with_reducible rfl)
     refine wU (i := 20) (v := ?vn3_20) rfl ?yn3_20 (by assumption) ?_
     case yn3_20 => (intro w hSw; (try dsimp only at hSw); go_simp; try with_reducible rfl)
     try simp only [Act.put, List.getElem_toArray, List.getElem_cons_succ, List.getElem_cons_zero, List.setIfInBounds_toArray, List.set_cons_zero, List.set_cons_succ]
     refine wT (i := 21) (v := undef) rfl (Or.inr ⟨by kernel_rfl, rfl⟩) (by assumption) ?_
     refine wT (i := 22) (v := undef) rfl (Or.inr ⟨by kernel_rfl, rfl⟩) (by assumption) ?_
     refine wT (i := 23) (v := undef) rfl (Or.inr ⟨by kernel_rfl, rfl⟩) (by assumption) ?_
     refine wT (i := 24) (v := undef) rfl (Or.inr ⟨by kernel_rfl, rfl⟩) (by assumption) ?_
     refine wT (i := 25) (v := undef) rfl (Or.inr ⟨by kernel_rfl, rfl⟩) (by assumption) ?_
     try simp only [Act.put, List.getElem_toArray, List.getElem_cons_succ, List.getElem_cons_zero, List.setIfInBounds_toArray, List.set_cons_zero, List.set_cons_succ]
     refine wU (i := 26) (v := ?vn3g0_26) rfl ?yn3g0_26 (by assumption) ?_
     case yn3g0_26 => (intro w hSw; (try dsimp only at hSw); go_simp; try with_reducible rfl)
     refine wU (i := 27) (v := ?vn3g0_27) rfl ?yn3g0_27 (by assumption) ?_
     case yn3g0_27 => (intro w hSw; (try dsimp only at hSw); go_simp; try with_reducible rfl)
     try simp only [Act.put, List.getElem_toArray, List.getElem_cons_succ, List.getElem_cons_zero, List.setIfInBounds_toArray, List.set_cons_zero, List.set_cons_succ]
     refine wT (i := 28) (v := undef) rfl (Or.inr ⟨by kernel_rfl, rfl⟩) (by assumption) ?_
     refine wT (i := 29) (v := undef) rfl (Or.inr ⟨by kernel_rfl, rfl⟩) (by assumption) ?_
     refine wT (i := 30) (v := undef) rfl (Or.inr ⟨by kernel_rfl, rfl⟩) (by assumption) ?_
     refine wT (i := 31) (v := undef) rfl (Or.inr ⟨by kernel_rfl, rfl⟩) (by assumption) ?_
     refine wT (i := 32) (v := undef) rfl (Or.inr ⟨by kernel_rfl, rfl⟩) (by assumption) ?_
     try simp only [Act.put, List.getElem_toArray, List.getElem_cons_succ, List.getElem_cons_zero, List.setIfInBounds_toArray, List.set_cons_zero, List.set_cons_succ]
     refine wU (i := 33) (v := ?vn3g1_33) rfl ?yn3g1_33 (by assumption) ?_
     case yn3g1_33 => (intro w hSw; (try dsimp only at hSw); go_simp; try with_reducible rfl)
     refine wU (i := 34) (v := ?vn3g1_34) rfl ?yn3g1_34 (by assumption) ?_
     case yn3g1_34 => (intro w hSw; (try dsimp only at hSw); go_simp; try with_reducible rfl)
     try simp only [Act.put, List.getElem_toArray, List.getElem_cons_succ, List.getElem_cons_zero, List.setIfInBounds_toArray, List.set_cons_zero, List.set_cons_succ]
     refine wpAnyH_done (by kernel_rfl) ?_ _
     clear hHeld
     have hR := HT.out
     simp only [Bool.false_and, Bool.and_false, Bool.true_and, Bool.and_true, ht, hc] at hR
     have HF := Hid.mk (HX.out _ HD2.out).1
     subst hR
     go_wp2
     go_ret
     exact ⟨rfl, HF.out⟩
    | true =>
     refine wU (i := 14) (v := ?vy3_14) rfl ?yy3_14 (by assumption) ?_
     case yy3_14 => (intro w hSw; (try dsimp only at hSw); go_simp; try with_reducible rfl)
     refine wU (i := 15) (v := ?vy3_15) rfl ?yy3_15 (by assumption) ?_
     case yy3_15 => (intro w hSw; (try dsimp only at hSw); go_simp; try with_reducible rfl)
     refine wU (i := 16) (v := ?vy3_16) rfl ?yy3_16 (by assumption) ?_
     case yy3_16 => (intro w hSw; (try dsimp only at hSw); go_simp; try with_reducible rfl)
     refine wU (i := 17) (v := ?vy3_17) rfl ?yy3_17 (by assumption) ?_
     case yy3_17 => (intro w hSw; (try dsimp only at hSw); go_simp; try with_reducible rfl)
     refine wU (i := 18) (v := ?vy3_18) rfl ?yy3_18 (by assumption) ?_
     case yy3_18 => (intro w hSw; (try dsimp only at hSw); go_simp; try with_reducible rfl)
     refine wU (i := 19) (v := ?vy3_19) rfl ?yy3_19 (by assumption) ?_
     case yy3_19 => (intro w hSw; (try dsimp only at hSw); go_simp; try with_reducible rfl)
     refine wU (i := 20) (v := ?vy3_20) rfl ?yy3_20 (by assumption) ?_
     case yy3_20 => (intro w hSw; (try dsimp only at hSw); go_simp; try with_reducible rfl)
     try simp only [Act.put, List.getElem_toArray, List.getElem_cons_succ, List.getElem_cons_zero, List.setIfInBounds_toArray, List.set_cons_zero, List.set_cons_succ]
     refine wU (i := 21) (v := ?vy3b_21) rfl ?yy3b_21 (by assumption) ?_
     case yy3b_21 => (intro w hSw; (try dsimp only at hSw); go_simp; try with_reducible rfl)
     refine wU (i := 22) (v := ?vy3b_22) rfl ?yy3b_22 (by assumption) ?_
     case yy3b_22 => (intro w hSw; (try dsimp only at hSw); go_simp; try with_reducible rfl)
     refine wU (i := 23) (v := ?vy3b_23) rfl ?yy3b_23 (by assumption) ?_
     case yy3b_23 => (intro w hSw; (try dsimp only at hSw); go_simp; try with_reducible rfl)
     refine wU (i := 24) (v := ?vy3b_24) rfl ?yy3b_24 (by assumption) ?_
     case yy3b_24 => (intro w hSw; (try dsimp only at hSw); go_simp; try with_reducible rfl)
     try simp only [Act.put, List.getElem_toArray, List.getElem_cons_succ, List.getElem_cons_zero, List.setIfInBounds_toArray, List.set_cons_zero, List.set_cons_succ]
     refine wpAnyH_ready (rs := [25]) (by kernel_rfl) (by simp) ?_
     refine AllReadyH.cons rfl (fun K hK => ?_) AllReadyH.nil
     go_simp
     go_at_call 81
     refine (H3.out _).mono ?_
     rintro e w3 ⟨rfl, hb⟩
     have HD3 : Hid (Below V.heap.size V w3) := HD2.out.trans (hb.mono HD2.out.size)
     clear hb
     refine hK.out _ _ (HX.out _ HD3.out).2 (fun hHeld => ?_)
     clear hK K
     try simp only [Act.put, List.getElem_toArray, List.getElem_cons_succ, List.getElem_cons_zero, List.setIfInBounds_toArray, List.set_cons_zero, List.set_cons_succ]
     cases r3 with
     | false =>
      refine wU (i := 26) (v := ?vn4_26) rfl ?yn4_26 (by assumption) ?_
      case yn4_26 => (intro w hSw; (try dsimp only at hSw); go_simp; try with_reducible rfl)
      refine wU (i := 27) (v := ?vn4_27) rfl ?yn4_27 (by assumption) ?_
      case yn4_27 => (intro w hSw; (try dsimp only at hSw); go_simp; try with_reducible rfl)
      try simp only [Act.put, List.getElem_toArray, List.getElem_cons_succ, List.getElem_cons_zero, List.setIfInBounds_toArray, List.set_cons_zero, List.set_cons_succ]
      refine wT (i := 28) (v := undef) rfl (Or.inr ⟨by kernel_rfl, rfl⟩) (by assumption) ?_
      refine wT (i := 29) (v := undef) rfl (Or.inr ⟨by kernel_rfl, rfl⟩) (by assumption) ?_
      refine wT (i := 30) (v := undef) rfl (Or.inr ⟨by kernel_rfl, rfl⟩) (by assumption) ?_
      refine wT (i := 31) (v := undef) rfl (Or.inr ⟨by kernel_rfl, rfl⟩) (by assumption) ?_
      refine wT (i := 32) (v := undef) rfl (Or.inr ⟨by kernel_rfl, rfl⟩) (by assumption) ?_
      try simp only [Act.put, List.getElem_toArray, List.getElem_cons_succ, List.getElem_cons_zero, List.setIfInBounds_toArray, List.set_cons_zero, List.set_cons_succ]
      refine wU (i := 33) (v := ?vn4g0_33) rfl ?yn4g0_33 (by assumption) ?_
      case yn4g0_33 => (intro w hSw; (try dsimp only at hSw); go_simp; try with_reducible rfl)
      refine wU (i := 34) (v := ?vn4g0_34) rfl ?yn4g0_34 (by assumption) ?_
      case yn4g0_34 => (intro w hSw; (try dsimp only at hSw); go_simp; try with_reducible rfl)
      try simp only [Act.put, List.getElem_toArray, List.getElem_cons_succ, List.getElem_cons_zero, List.setIfInBounds_toArray, List.set_cons_zero, List.set_cons_succ]
      refine wpAnyH_done (by kernel_rfl) ?_ _
      clear hHeld
      have hR := HT.out
      simp only [Bool.false_and, Bool.and_false, Bool.true_and, Bool.and_true, ht, hc] at hR
      have HF := Hid.mk (HX.out _ HD3.out).1
      subst hR
      go_wp2
      go_ret
      exact ⟨rfl, HF.out⟩
     | true =>
      refine wU (i := 26) (v := ?vy4_26) rfl ?yy4_26 (by assumption) ?_
      case yy4_26 => (intro w hSw; (try dsimp only at hSw); go_simp; try with_reducible rfl)
      refine wU (i := 27) (v := ?vy4_27) rfl ?yy4_27 (by assumption) ?_
      case yy4_27 => (intro w hSw; (try dsimp only at hSw); go_simp; try with_reducible rfl)
      try simp only [Act.put, List.getElem_toArray, List.getElem_cons_succ, List.getElem_cons_zero, List.setIfInBounds_toArray, List.set_cons_zero, List.set_cons_succ]
      refine wU (i := 28) (v := ?vy4b_28) rfl ?yy4b_28 (by assumption) ?_
      case yy4b_28 => (intro w hSw; (try dsimp only at hSw); go_simp; try with_reducible rfl)
      refine wU (i := 30) (v := ?vy4b_30) rfl ?yy4b_30 (by assumption) ?_
      case yy4b_30 => (intro w hSw; (try dsimp only at hSw); go_simp; try with_reducible rfl)
      try simp only [Act.put, List.getElem_toArray, List.getElem_cons_succ, List.getElem_cons_zero, List.setIfInBounds_toArray, List.set_cons_zero, List.set_cons_succ]
      refine wpAnyH_ready (rs := [29]) (by kernel_rfl) (by simp) ?_
      refine AllReadyH.cons rfl (fun K hK => ?_) AllReadyH.nil
      go_simp
      go_at_call 83
      refine (H4.out rfl _ (HX.out _ HD3.out).1).mono ?_
      rintro e w4 ⟨v4, rfl, ho4, hb⟩
      have HD4 : Hid (Below V.heap.size V w4) := HD3.out.trans (hb.mono HD3.out.size)
      have HO4 := Hid.mk ho4
      clear hb ho4
      refine hK.out _ _ (HX.out _ HD4.out).2 (fun hHeld => ?_)
      clear hK K
      try simp only [Act.put, List.getElem_toArray, List.getElem_cons_succ, List.getElem_cons_zero, List.setIfInBounds_toArray, List.set_cons_zero, List.set_cons_succ]
      refine wpAnyH_ready (rs := [31]) (by kernel_rfl) (by simp) ?_
      refine AllReadyH.cons rfl (fun K hK => ?_) AllReadyH.nil
      go_simp
      go_at_call 83
      refine (H5.out rfl _ (HX.out _ HD4.out).1).mono ?_
      rintro e w5 ⟨v5, rfl, ho5, hb⟩
      have HD5 : Hid (Below V.heap.size V w5) := HD4.out.trans (hb.mono HD4.out.size)
      have HC6 := Hid.mk (H6.out rfl rfl w5 v4 v5 _ _ (own_blk HO4.out hb) ho5)
      clear hb ho5
      refine hK.out _ _ (HX.out _ HD5.out).2 (fun hHeld => ?_)
      clear hK K
      try simp only [Act.put, List.getElem_toArray, List.getElem_cons_succ, List.getElem_cons_zero, List.setIfInBounds_toArray, List.set_cons_zero, List.set_cons_succ]
      refine wpAnyH_ready (rs := [32]) (by kernel_rfl) (by simp) ?_
      refine AllReadyH.cons rfl (fun K hK => ?_) AllReadyH.nil
      go_simp
      go_at_call 82
      refine (HC6.out).mono ?_
      rintro e w6 ⟨rfl, hb⟩
      have HD6 : Hid (Below V.heap.size V w6) := HD5.out.trans (hb.mono HD5.out.size)
      clear hb
      refine hK.out _ _ (HX.out _ HD6.out).2 (fun hHeld => ?_)
      clear hK K
      try simp only [Act.put, List.getElem_toArray, List.getElem_cons_succ, List.getElem_cons_zero, List.setIfInBounds_toArray, List.set_cons_zero, List.set_cons_succ]
      refine wU (i := 33) (v := ?vy5_33) rfl ?yy5_33 (by assumption) ?_
      case yy5_33 => (intro w hSw; (try dsimp only at hSw); go_simp; try with_reducible rfl)
      refine wU (i := 34) (v := ?vy5_34) rfl ?yy5_34 (by assumption) ?_
      case yy5_34 => (intro w hSw; (try dsimp only at hSw); go_simp; try with_reducible rfl)
      try simp only [Act.put, List.getElem_toArray, List.getElem_cons_succ, List.getElem_cons_zero, List.setIfInBounds_toArray, List.set_cons_zero, List.set_cons_succ]
      refine wpAnyH_done (by kernel_rfl) ?_ _
      clear hHeld
      have hR := HT.out
      simp only [Bool.false_and, Bool.and_false, Bool.true_and, Bool.and_true, ht, hc] at hR
      have HF := Hid.mk (HX.out _ HD6.out).1
      subst hR
      go_wp2
      go_ret
      exact ⟨by first | rfl | simp, HF.out⟩
end Go.Proofs.YtikjepodmdaknaaGreatDoor
