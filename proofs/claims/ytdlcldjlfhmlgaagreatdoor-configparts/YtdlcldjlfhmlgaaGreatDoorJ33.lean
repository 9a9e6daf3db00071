/- Texts of this proof, joined: LfT. -/
import Derived.Test.YtdlcldjlfhmlgaaGreatDoorJ32
set_option linter.unusedVariables false
set_option linter.unusedSimpArgs false
/- Layer 15: ConfigParts' walk. -/
namespace Go.Proofs.YtdlcldjlfhmlgaaGreatDoor
open Go.RowKit
section
attribute [local go_sem ↓] app_aRl app_aLc app_aUp app_aAn
set_option maxRecDepth 100000 in
set_option maxHeartbeats 16000000 in
theorem parts_walk (W : World) (k : Cq) (c : Cf) (hat : CfAt W k c) (hin : CfIn c) (htt : CfTight c) (z : Int) (hz : -9223372036854775808 ≤ z ∧ z ≤ 9223372036854775807) : Calls Tryz.prog 7 #[cfV k c, .int .i64 z] W fun e w' => e = .returned (.bool true) ∧ Below W.heap.size W w' := by
 have hl : c.lc.length ≤ 9223372036854775806 := by have := hin.l2; omega
 have HE := Hid.mk examples15_in
 have HC : Hid (∀ w, Below W.heap.size W w → Calls Tryz.prog 17 #[cfV k c] w fun e w' => e = .returned (.tuple #[.string (prtN (chkR c)), .int .i64 (chkE c)]) ∧ Below w.heap.size w w') := fun w hb => check_in w k c (hat.blk hb) hin hl
 obtain ⟨N, hN⟩ : ∃ N, W.heap.size = N := ⟨_, rfl⟩
 have HNN := Hid.mk hN
 rw [hN] at HC ⊢
 obtain ⟨V, hV⟩ : ∃ V, W.alloc (.cells (cfC k c) 51) = V := ⟨_, rfl⟩
 have hbV : Below N W V := by rw [← hN, ← hV]; exact (Below.refl _ _).alloc (Nat.le_refl _) _
 have hxV : V.heap[N]? = some (.cells (cfC k c) 51 (0, 0)) := by rw [← hV, ← hN]; exact heap_alloc_new W _
 have hNV : N < V.heap.size := (Array.getElem?_eq_some_iff.1 hxV).1
 have HK : Hid (∀ w, Below V.heap.size V w → Below N W w ∧ CBx w N k c ∧ N < w.heap.size ∧ w.heap[N]? = some (.cells (cfC k c) 51 (0, 0))) := fun w hb => by
  have h1 := (hb.block N hNV).trans hxV
  exact ⟨hbV.trans (hb.mono (Nat.le_of_lt hNV)), cbx_of h1, Nat.lt_of_lt_of_le hNV hb.size, h1⟩
 have HV := Hid.mk hV
 have HP : Hid (chkR c ≤ 6) := chkR_le c
 have HEe : Hid (chkE c = if chkR c = 6 then 0 else 12) := rfl
 have HRoots : Hid (∀ wc, Below N W wc → N < wc.heap.size → wc.heap[N]? = some (.cells (cfC k c) 51 (0, 0)) → _) := fun wc hb hlt hbx => partRoots HNN.out hb hat hin hbx
 have HRl : Hid (∀ wc, Below N W wc → N < wc.heap.size → wc.heap[N]? = some (.cells (cfC k c) 51 (0, 0)) → chkR c = 6 → _) := fun wc hb hlt hbx h6 => partRl HNN.out hb hlt hat hin htt hbx h6
 have HLc : Hid (∀ wc, Below N W wc → N < wc.heap.size → wc.heap[N]? = some (.cells (cfC k c) 51 (0, 0)) → chkR c = 6 → _) := fun wc hb hlt hbx h6 => partLc HNN.out hb hlt hat hin htt hbx h6
 have HUp : Hid (∀ wc, Below N W wc → N < wc.heap.size → wc.heap[N]? = some (.cells (cfC k c) 51 (0, 0)) → chkR c = 6 → _) := fun wc hb hlt hbx h6 => partUp HNN.out hb hlt hat hin htt hbx h6
 have HAn : Hid (∀ wc, Below N W wc → N < wc.heap.size → wc.heap[N]? = some (.cells (cfC k c) 51 (0, 0)) → chkR c = 6 → _) := fun wc hb hlt hbx h6 => partAn HNN.out hb hlt hat hin htt hbx h6
 have HTasks : Hid (∀ wc, Below N W wc → N < wc.heap.size → wc.heap[N]? = some (.cells (cfC k c) 51 (0, 0)) → chkR c = 6 → _) := fun wc hb hlt hbx h6 => partTasks HNN.out hb hat hin hbx h6
 have HTail : Hid (∀ w j, PartBad W N j w → ∃ k' c', Hid (w.heap[N]? = some (.cells (cfC k' c') 51 (0, 0)) ∧ Below N W w) ∧ Hid (Calls Tryz.prog 17 #[cfV k' c'] w fun e w' => e = .returned (.tuple #[.string (prtN j), .int .i64 (if j = 6 then 0 else 12)]) ∧ Below w.heap.size w w')) := by
  rintro w j ⟨k', c', hat', hin', hbx, hbel, rfl, hl'⟩
  exact ⟨k', c', ⟨hbx, hbel⟩, check_in w k' c' hat' hin' hl'⟩
 obtain ⟨K, hK⟩ : ∃ K, chkR c = K := ⟨_, rfl⟩
 obtain ⟨E, hE⟩ : ∃ E, chkE c = E := ⟨_, rfl⟩
 rw [hK] at HC HP HEe HRl HLc HUp HAn HTasks
 rw [hE] at HC HEe
 obtain ⟨P, hP⟩ : ∃ P, prtN K = P := ⟨_, rfl⟩
 have HPe := Hid.mk hP
 rw [hP] at HC
 obtain ⟨q0, c0, q1, c1, q2, c2, q3, c3, q4, c4⟩ := k
 have hq : True := trivial
 simp only [cfV, cfC] at HC HV ⊢
 simp only [CBx] at HK
 simp only at HRoots HRl HLc HUp HAn HTasks
 clear hat hin hl hV hbV hxV hK hE hP htt hNV hq
 go_enter Tryz.func7, Tryz.ntmps7
 go_upto_region 1 with fail
 rw [HV.out]
 clear hN
 go_wp2_with fail
 refine (HE.out _).mono ?_
 rintro e w1 ⟨rfl, hb1⟩
 have HB1 := Hid.mk hb1
 obtain ⟨k1, ⟨x0, x1, x2, x3, x4, x5, x6, x7, x8⟩, _⟩ := HK.out _ hb1
 have HC1 := Hid.mk (HC.out _ k1)
 clear hb1 k1
 go_wp2_with fail
 refine HC1.out.mono ?_
 rintro e w2 ⟨rfl, hb2⟩
 clear x0 x1 x2 x3 x4 x5 x6 x7 x8
 have HB2 := Hid.mk (HB1.out.trans (hb2.mono HB1.out.size))
 clear hb2
 have hee := HEe.out
 have hpe := HPe.out
 by_cases h6 : K = 6
 case neg =>
  rw [if_neg h6] at hee
  subst hee
  have HF := Hid.mk (HK.out _ HB2.out).1
  clear hpe h6
  go_wp2
  go_ret
  exact ⟨rfl, HF.out⟩
 subst h6
 rw [if_pos rfl] at hee
 subst hee
 simp only [prtN] at hpe
 subst hpe
 -- the number, made not negative
 obtain ⟨n, hn⟩ : ∃ n : Nat, (if z < 0 then -(z + 1) else z) = (n : Int) := ⟨(if z < 0 then -(z + 1) else z).toNat, by split <;> omega⟩
 obtain ⟨SL, hSL⟩ : ∃ SL, w2.alloc (.cells #[.string ⟨#[114, 111, 111, 116, 115]⟩, .string ⟨#[114, 117, 108, 101, 115]⟩, .string ⟨#[108, 111, 99, 97, 108, 115]⟩, .string ⟨#[117, 112, 115, 116, 114, 101, 97, 109, 115]⟩, .string ⟨#[97, 110, 99, 104, 111, 114, 115]⟩, .string ⟨#[110, 117, 109, 98, 101, 114, 115]⟩] 9) = SL := ⟨_, rfl⟩
 have hbS : Below w2.heap.size w2 SL := hSL ▸ (Below.refl _ _).alloc (Nat.le_refl _) _
 have HBS : Hid (Below V.heap.size V SL) := HB2.out.trans (hbS.mono HB2.out.size)
 have hxS := hSL ▸ heap_alloc_new w2 (.cells #[.string ⟨#[114, 111, 111, 116, 115]⟩, .string ⟨#[114, 117, 108, 101, 115]⟩, .string ⟨#[108, 111, 99, 97, 108, 115]⟩, .string ⟨#[117, 112, 115, 116, 114, 101, 97, 109, 115]⟩, .string ⟨#[97, 110, 99, 104, 111, 114, 115]⟩, .string ⟨#[110, 117, 109, 98, 101, 114, 115]⟩] 9)
 have HSL := Hid.mk hSL
 have HXS := Hid.mk hxS
 clear hbS hxS hSL
 have hmod : n % 6 < 6 := Nat.mod_lt _ (by decide)
 have hcases : n % 6 = 0 ∨ n % 6 = 1 ∨ n % 6 = 2 ∨ n % 6 = 3 ∨ n % 6 = 4 ∨ n % 6 = 5 := by omega
 have HCases := Hid.mk hcases
 clear hmod hcases
 by_cases hneg : z < 0
 ·rw [if_pos hneg] at hn
  have w1z : IntKind.i64.wrap (z + 1) = z + 1 := by rw [IntKind.wrap_i64]; omega
  have w2z : IntKind.i64.wrap (-(z + 1)) = (n : Int) := by rw [IntKind.wrap_i64]; omega
  clear hn hz
  rcases HCases.out with hm | hm | hm | hm | hm | hm
  ·have t1 : Int.tmod (n : Int) 6 = 0 := by rw [Int.tmod_eq_emod_of_nonneg (by omega)]; omega
   have t2 : (n : Int) % 6 = 0 := by omega
   have y0 : SL.cell? ⟨w2.heap.size, 0, none⟩ = some (.string ⟨#[114, 111, 111, 116, 115]⟩) := by rw [So.cell_blk HXS.out]; rfl
   obtain ⟨k1, ⟨x0, x1, x2, x3, x4, x5, x6, x7, x8⟩, hlt, hbx⟩ := HK.out SL HBS.out
   obtain ⟨f0, f1, HB⟩ := HRoots.out SL k1 hlt hbx
   obtain ⟨k', c', HX', HC'⟩ := HTail.out _ 0 HB.out
   clear k1 hlt hbx hm
   go_upto_region 8 with fail
   rw [HSL.out]
   go_upto_region 20 with fail
   clear y0 t1 t2 f0 f1 x0 x1 x2 x3 x4 x5 x6 x7 x8
   have hcb := cbx_of HX'.out.1
   generalize (World.setCell _ _ _) = Wx at HX' HC' hcb ⊢
   obtain ⟨q0', c0', q1', c1', q2', c2', q3', c3', q4', c4'⟩ := k'
   simp only [CBx] at hcb
   simp only [cfV, cfC] at HC'
   obtain ⟨x0, x1, x2, x3, x4, x5, x6, x7, x8⟩ := hcb
   go_wp2_with fail
   refine HC'.out.mono ?_
   rintro e w4 ⟨rfl, hb4⟩
   have HF : Hid (Below N W w4) := HX'.out.2.trans (hb4.mono (Nat.le_of_lt (Array.getElem?_eq_some_iff.1 HX'.out.1).1))
   clear hb4 x0 x1 x2 x3 x4 x5 x6 x7 x8
   simp only [prtN]
   go_wp2
   go_ret
   exact ⟨rfl, HF.out⟩
  ·have t1 : Int.tmod (n : Int) 6 = 1 := by rw [Int.tmod_eq_emod_of_nonneg (by omega)]; omega
   have t2 : (n : Int) % 6 = 1 := by omega
   have y0 : SL.cell? ⟨w2.heap.size, 1, none⟩ = some (.string ⟨#[114, 117, 108, 101, 115]⟩) := by rw [So.cell_blk HXS.out]; rfl
   obtain ⟨k1, ⟨x0, x1, x2, x3, x4, x5, x6, x7, x8⟩, hlt, hbx⟩ := HK.out SL HBS.out
   obtain ⟨v1, u1, qn, cn, u2, r1, r2, f0, f1, HB⟩ := HRl.out SL k1 hlt hbx rfl
   obtain ⟨k', c', HX', HC'⟩ := HTail.out _ 1 HB.out
   clear k1 hlt hbx hm
   go_upto_region 8 with fail
   rw [HSL.out]
   go_upto_region 20 with fail
   clear y0 t1 t2 f0 f1 r1 r2 x0 x1 x2 x3 x4 x5 x6 x7 x8
   have hcb := cbx_of HX'.out.1
   generalize (World.setCell _ _ _) = Wx at HX' HC' hcb ⊢
   obtain ⟨q0', c0', q1', c1', q2', c2', q3', c3', q4', c4'⟩ := k'
   simp only [CBx] at hcb
   simp only [cfV, cfC] at HC'
   obtain ⟨x0, x1, x2, x3, x4, x5, x6, x7, x8⟩ := hcb
   go_wp2_with fail
   refine HC'.out.mono ?_
   rintro e w4 ⟨rfl, hb4⟩
   have HF : Hid (Below N W w4) := HX'.out.2.trans (hb4.mono (Nat.le_of_lt (Array.getElem?_eq_some_iff.1 HX'.out.1).1))
   clear hb4 x0 x1 x2 x3 x4 x5 x6 x7 x8
   simp only [prtN]
   go_wp2
   go_ret
   exact ⟨rfl, HF.out⟩
  ·have t1 : Int.tmod (n : Int) 6 = 2 := by rw [Int.tmod_eq_emod_of_nonneg (by omega)]; omega
   have t2 : (n : Int) % 6 = 2 := by omega
   have y0 : SL.cell? ⟨w2.heap.size, 2, none⟩ = some (.string ⟨#[108, 111, 99, 97, 108, 115]⟩) := by rw [So.cell_blk HXS.out]; rfl
   obtain ⟨k1, ⟨x0, x1, x2, x3, x4, x5, x6, x7, x8⟩, hlt, hbx⟩ := HK.out SL HBS.out
   obtain ⟨v1, u1, qn, cn, u2, r1, r2, f0, f1, HB⟩ := HLc.out SL k1 hlt hbx rfl
   obtain ⟨k', c', HX', HC'⟩ := HTail.out _ 2 HB.out
   clear k1 hlt hbx hm
   go_upto_region 8 with fail
   rw [HSL.out]
   go_upto_region 20 with fail
   clear y0 t1 t2 f0 f1 r1 r2 x0 x1 x2 x3 x4 x5 x6 x7 x8
   have hcb := cbx_of HX'.out.1
   generalize (World.setCell _ _ _) = Wx at HX' HC' hcb ⊢
   obtain ⟨q0', c0', q1', c1', q2', c2', q3', c3', q4', c4'⟩ := k'
   simp only [CBx] at hcb
   simp only [cfV, cfC] at HC'
   obtain ⟨x0, x1, x2, x3, x4, x5, x6, x7, x8⟩ := hcb
   go_wp2_with fail
   refine HC'.out.mono ?_
   rintro e w4 ⟨rfl, hb4⟩
   have HF : Hid (Below N W w4) := HX'.out.2.trans (hb4.mono (Nat.le_of_lt (Array.getElem?_eq_some_iff.1 HX'.out.1).1))
   clear hb4 x0 x1 x2 x3 x4 x5 x6 x7 x8
   simp only [prtN]
   go_wp2
   go_ret
   exact ⟨rfl, HF.out⟩
  ·have t1 : Int.tmod (n : Int) 6 = 3 := by rw [Int.tmod_eq_emod_of_nonneg (by omega)]; omega
   have t2 : (n : Int) % 6 = 3 := by omega
   have y0 : SL.cell? ⟨w2.heap.size, 3, none⟩ = some (.string ⟨#[117, 112, 115, 116, 114, 101, 97, 109, 115]⟩) := by rw [So.cell_blk HXS.out]; rfl
   obtain ⟨k1, ⟨x0, x1, x2, x3, x4, x5, x6, x7, x8⟩, hlt, hbx⟩ := HK.out SL HBS.out
   obtain ⟨v1, u1, qn, cn, u2, r1, r2, f0, f1, HB⟩ := HUp.out SL k1 hlt hbx rfl
   obtain ⟨k', c', HX', HC'⟩ := HTail.out _ 3 HB.out
   clear k1 hlt hbx hm
   go_upto_region 8 with fail
   rw [HSL.out]
   go_upto_region 20 with fail
   clear y0 t1 t2 f0 f1 r1 r2 x0 x1 x2 x3 x4 x5 x6 x7 x8
   have hcb := cbx_of HX'.out.1
   generalize (World.setCell _ _ _) = Wx at HX' HC' hcb ⊢
   obtain ⟨q0', c0', q1', c1', q2', c2', q3', c3', q4', c4'⟩ := k'
   simp only [CBx] at hcb
   simp only [cfV, cfC] at HC'
   obtain ⟨x0, x1, x2, x3, x4, x5, x6, x7, x8⟩ := hcb
   go_wp2_with fail
   refine HC'.out.mono ?_
   rintro e w4 ⟨rfl, hb4⟩
   have HF : Hid (Below N W w4) := HX'.out.2.trans (hb4.mono (Nat.le_of_lt (Array.getElem?_eq_some_iff.1 HX'.out.1).1))
   clear hb4 x0 x1 x2 x3 x4 x5 x6 x7 x8
   simp only [prtN]
   go_wp2
   go_ret
   exact ⟨rfl, HF.out⟩
  ·have t1 : Int.tmod (n : Int) 6 = 4 := by rw [Int.tmod_eq_emod_of_nonneg (by omega)]; omega
   have t2 : (n : Int) % 6 = 4 := by omega
   have y0 : SL.cell? ⟨w2.heap.size, 4, none⟩ = some (.string ⟨#[97, 110, 99, 104, 111, 114, 115]⟩) := by rw [So.cell_blk HXS.out]; rfl
   obtain ⟨k1, ⟨x0, x1, x2, x3, x4, x5, x6, x7, x8⟩, hlt, hbx⟩ := HK.out SL HBS.out
   obtain ⟨v1, u1, qn, cn, u2, r1, r2, f0, f1, HB⟩ := HAn.out SL k1 hlt hbx rfl
   obtain ⟨k', c', HX', HC'⟩ := HTail.out _ 4 HB.out
   clear k1 hlt hbx hm
   go_upto_region 8 with fail
   rw [HSL.out]
   go_upto_region 20 with fail
   clear y0 t1 t2 f0 f1 r1 r2 x0 x1 x2 x3 x4 x5 x6 x7 x8
   have hcb := cbx_of HX'.out.1
   generalize (World.setCell _ _ _) = Wx at HX' HC' hcb ⊢
   obtain ⟨q0', c0', q1', c1', q2', c2', q3', c3', q4', c4'⟩ := k'
   simp only [CBx] at hcb
   simp only [cfV, cfC] at HC'
   obtain ⟨x0, x1, x2, x3, x4, x5, x6, x7, x8⟩ := hcb
   go_wp2_with fail
   refine HC'.out.mono ?_
   rintro e w4 ⟨rfl, hb4⟩
   have HF : Hid (Below N W w4) := HX'.out.2.trans (hb4.mono (Nat.le_of_lt (Array.getElem?_eq_some_iff.1 HX'.out.1).1))
   clear hb4 x0 x1 x2 x3 x4 x5 x6 x7 x8
   simp only [prtN]
   go_wp2
   go_ret
   exact ⟨rfl, HF.out⟩
  ·have t1 : Int.tmod (n : Int) 6 = 5 := by rw [Int.tmod_eq_emod_of_nonneg (by omega)]; omega
   have t2 : (n : Int) % 6 = 5 := by omega
   have y0 : SL.cell? ⟨w2.heap.size, 5, none⟩ = some (.string ⟨#[110, 117, 109, 98, 101, 114, 115]⟩) := by rw [So.cell_blk HXS.out]; rfl
   obtain ⟨k1, ⟨x0, x1, x2, x3, x4, x5, x6, x7, x8⟩, hlt, hbx⟩ := HK.out SL HBS.out
   obtain ⟨f0, f1, HB⟩ := HTasks.out SL k1 hlt hbx rfl
   obtain ⟨k', c', HX', HC'⟩ := HTail.out _ 5 HB.out
   clear k1 hlt hbx hm
   go_upto_region 8 with fail
   rw [HSL.out]
   go_upto_region 20 with fail
   clear y0 t1 t2 f0 f1 x0 x1 x2 x3 x4 x5 x6 x7 x8
   have hcb := cbx_of HX'.out.1
   generalize (World.setCell _ _ _) = Wx at HX' HC' hcb ⊢
   obtain ⟨q0', c0', q1', c1', q2', c2', q3', c3', q4', c4'⟩ := k'
   simp only [CBx] at hcb
   simp only [cfV, cfC] at HC'
   obtain ⟨x0, x1, x2, x3, x4, x5, x6, x7, x8⟩ := hcb
   go_wp2_with fail
   refine HC'.out.mono ?_
   rintro e w4 ⟨rfl, hb4⟩
   have HF : Hid (Below N W w4) := HX'.out.2.trans (hb4.mono (Nat.le_of_lt (Array.getElem?_eq_some_iff.1 HX'.out.1).1))
   clear hb4 x0 x1 x2 x3 x4 x5 x6 x7 x8
   simp only [prtN]
   go_wp2
   go_ret
   exact ⟨rfl, HF.out⟩
 ·rw [if_neg hneg] at hn
  subst hn
  clear hz
  rcases HCases.out with hm | hm | hm | hm | hm | hm
  ·have t1 : Int.tmod (n : Int) 6 = 0 := by rw [Int.tmod_eq_emod_of_nonneg (by omega)]; omega
   have t2 : (n : Int) % 6 = 0 := by omega
   have y0 : SL.cell? ⟨w2.heap.size, 0, none⟩ = some (.string ⟨#[114, 111, 111, 116, 115]⟩) := by rw [So.cell_blk HXS.out]; rfl
   obtain ⟨k1, ⟨x0, x1, x2, x3, x4, x5, x6, x7, x8⟩, hlt, hbx⟩ := HK.out SL HBS.out
   obtain ⟨f0, f1, HB⟩ := HRoots.out SL k1 hlt hbx
   obtain ⟨k', c', HX', HC'⟩ := HTail.out _ 0 HB.out
   clear k1 hlt hbx hm
   go_upto_region 8 with fail
   rw [HSL.out]
   go_upto_region 20 with fail
   clear y0 t1 t2 f0 f1 x0 x1 x2 x3 x4 x5 x6 x7 x8
   have hcb := cbx_of HX'.out.1
   generalize (World.setCell _ _ _) = Wx at HX' HC' hcb ⊢
   obtain ⟨q0', c0', q1', c1', q2', c2', q3', c3', q4', c4'⟩ := k'
   simp only [CBx] at hcb
   simp only [cfV, cfC] at HC'
   obtain ⟨x0, x1, x2, x3, x4, x5, x6, x7, x8⟩ := hcb
   go_wp2_with fail
   refine HC'.out.mono ?_
   rintro e w4 ⟨rfl, hb4⟩
   have HF : Hid (Below N W w4) := HX'.out.2.trans (hb4.mono (Nat.le_of_lt (Array.getElem?_eq_some_iff.1 HX'.out.1).1))
   clear hb4 x0 x1 x2 x3 x4 x5 x6 x7 x8
   simp only [prtN]
   go_wp2
   go_ret
   exact ⟨rfl, HF.out⟩
  ·have t1 : Int.tmod (n : Int) 6 = 1 := by rw [Int.tmod_eq_emod_of_nonneg (by omega)]; omega
   have t2 : (n : Int) % 6 = 1 := by omega
   have y0 : SL.cell? ⟨w2.heap.size, 1, none⟩ = some (.string ⟨#[114, 117, 108, 101, 115]⟩) := by rw [So.cell_blk HXS.out]; rfl
   obtain ⟨k1, ⟨x0, x1, x2, x3, x4, x5, x6, x7, x8⟩, hlt, hbx⟩ := HK.out SL HBS.out
   obtain ⟨v1, u1, qn, cn, u2, r1, r2, f0, f1, HB⟩ := HRl.out SL k1 hlt hbx rfl
   obtain ⟨k', c', HX', HC'⟩ := HTail.out _ 1 HB.out
   clear k1 hlt hbx hm
   go_upto_region 8 with fail
   rw [HSL.out]
   go_upto_region 20 with fail
   clear y0 t1 t2 f0 f1 r1 r2 x0 x1 x2 x3 x4 x5 x6 x7 x8
   have hcb := cbx_of HX'.out.1
   generalize (World.setCell _ _ _) = Wx at HX' HC' hcb ⊢
   obtain ⟨q0', c0', q1', c1', q2', c2', q3', c3', q4', c4'⟩ := k'
   simp only [CBx] at hcb
   simp only [cfV, cfC] at HC'
   obtain ⟨x0, x1, x2, x3, x4, x5, x6, x7, x8⟩ := hcb
   go_wp2_with fail
   refine HC'.out.mono ?_
   rintro e w4 ⟨rfl, hb4⟩
   have HF : Hid (Below N W w4) := HX'.out.2.trans (hb4.mono (Nat.le_of_lt (Array.getElem?_eq_some_iff.1 HX'.out.1).1))
   clear hb4 x0 x1 x2 x3 x4 x5 x6 x7 x8
   simp only [prtN]
   go_wp2
   go_ret
   exact ⟨rfl, HF.out⟩
  ·have t1 : Int.tmod (n : Int) 6 = 2 := by rw [Int.tmod_eq_emod_of_nonneg (by omega)]; omega
   have t2 : (n : Int) % 6 = 2 := by omega
   have y0 : SL.cell? ⟨w2.heap.size, 2, none⟩ = some (.string ⟨#[108, 111, 99, 97, 108, 115]⟩) := by rw [So.cell_blk HXS.out]; rfl
   obtain ⟨k1, ⟨x0, x1, x2, x3, x4, x5, x6, x7, x8⟩, hlt, hbx⟩ := HK.out SL HBS.out
   obtain ⟨v1, u1, qn, cn, u2, r1, r2, f0, f1, HB⟩ := HLc.out SL k1 hlt hbx rfl
   obtain ⟨k', c', HX', HC'⟩ := HTail.out _ 2 HB.out
   clear k1 hlt hbx hm
   go_upto_region 8 with fail
   rw [HSL.out]
   go_upto_region 20 with fail
   clear y0 t1 t2 f0 f1 r1 r2 x0 x1 x2 x3 x4 x5 x6 x7 x8
   have hcb := cbx_of HX'.out.1
   generalize (World.setCell _ _ _) = Wx at HX' HC' hcb ⊢
   obtain ⟨q0', c0', q1', c1', q2', c2', q3', c3', q4', c4'⟩ := k'
   simp only [CBx] at hcb
   simp only [cfV, cfC] at HC'
   obtain ⟨x0, x1, x2, x3, x4, x5, x6, x7, x8⟩ := hcb
   go_wp2_with fail
   refine HC'.out.mono ?_
   rintro e w4 ⟨rfl, hb4⟩
   have HF : Hid (Below N W w4) := HX'.out.2.trans (hb4.mono (Nat.le_of_lt (Array.getElem?_eq_some_iff.1 HX'.out.1).1))
   clear hb4 x0 x1 x2 x3 x4 x5 x6 x7 x8
   simp only [prtN]
   go_wp2
   go_ret
   exact ⟨rfl, HF.out⟩
  ·have t1 : Int.tmod (n : Int) 6 = 3 := by rw [Int.tmod_eq_emod_of_nonneg (by omega)]; omega
   have t2 : (n : Int) % 6 = 3 := by omega
   have y0 : SL.cell? ⟨w2.heap.size, 3, none⟩ = some (.string ⟨#[117, 112, 115, 116, 114, 101, 97, 109, 115]⟩) := by rw [So.cell_blk HXS.out]; rfl
   obtain ⟨k1, ⟨x0, x1, x2, x3, x4, x5, x6, x7, x8⟩, hlt, hbx⟩ := HK.out SL HBS.out
   obtain ⟨v1, u1, qn, cn, u2, r1, r2, f0, f1, HB⟩ := HUp.out SL k1 hlt hbx rfl
   obtain ⟨k', c', HX', HC'⟩ := HTail.out _ 3 HB.out
   clear k1 hlt hbx hm
   go_upto_region 8 with fail
   rw [HSL.out]
   go_upto_region 20 with fail
   clear y0 t1 t2 f0 f1 r1 r2 x0 x1 x2 x3 x4 x5 x6 x7 x8
   have hcb := cbx_of HX'.out.1
   generalize (World.setCell _ _ _) = Wx at HX' HC' hcb ⊢
   obtain ⟨q0', c0', q1', c1', q2', c2', q3', c3', q4', c4'⟩ := k'
   simp only [CBx] at hcb
   simp only [cfV, cfC] at HC'
   obtain ⟨x0, x1, x2, x3, x4, x5, x6, x7, x8⟩ := hcb
   go_wp2_with fail
   refine HC'.out.mono ?_
   rintro e w4 ⟨rfl, hb4⟩
   have HF : Hid (Below N W w4) := HX'.out.2.trans (hb4.mono (Nat.le_of_lt (Array.getElem?_eq_some_iff.1 HX'.out.1).1))
   clear hb4 x0 x1 x2 x3 x4 x5 x6 x7 x8
   simp only [prtN]
   go_wp2
   go_ret
   exact ⟨rfl, HF.out⟩
  ·have t1 : Int.tmod (n : Int) 6 = 4 := by rw [Int.tmod_eq_emod_of_nonneg (by omega)]; omega
   have t2 : (n : Int) % 6 = 4 := by omega
   have y0 : SL.cell? ⟨w2.heap.size, 4, none⟩ = some (.string ⟨#[97, 110, 99, 104, 111, 114, 115]⟩) := by rw [So.cell_blk HXS.out]; rfl
   obtain ⟨k1, ⟨x0, x1, x2, x3, x4, x5, x6, x7, x8⟩, hlt, hbx⟩ := HK.out SL HBS.out
   obtain ⟨v1, u1, qn, cn, u2, r1, r2, f0, f1, HB⟩ := HAn.out SL k1 hlt hbx rfl
   obtain ⟨k', c', HX', HC'⟩ := HTail.out _ 4 HB.out
   clear k1 hlt hbx hm
   go_upto_region 8 with fail
   rw [HSL.out]
   go_upto_region 20 with fail
   clear y0 t1 t2 f0 f1 r1 r2 x0 x1 x2 x3 x4 x5 x6 x7 x8
   have hcb := cbx_of HX'.out.1
   generalize (World.setCell _ _ _) = Wx at HX' HC' hcb ⊢
   obtain ⟨q0', c0', q1', c1', q2', c2', q3', c3', q4', c4'⟩ := k'
   simp only [CBx] at hcb
   simp only [cfV, cfC] at HC'
   obtain ⟨x0, x1, x2, x3, x4, x5, x6, x7, x8⟩ := hcb
   go_wp2_with fail
   refine HC'.out.mono ?_
   rintro e w4 ⟨rfl, hb4⟩
   have HF : Hid (Below N W w4) := HX'.out.2.trans (hb4.mono (Nat.le_of_lt (Array.getElem?_eq_some_iff.1 HX'.out.1).1))
   clear hb4 x0 x1 x2 x3 x4 x5 x6 x7 x8
   simp only [prtN]
   go_wp2
   go_ret
   exact ⟨rfl, HF.out⟩
  ·have t1 : Int.tmod (n : Int) 6 = 5 := by rw [Int.tmod_eq_emod_of_nonneg (by omega)]; omega
   have t2 : (n : Int) % 6 = 5 := by omega
   have y0 : SL.cell? ⟨w2.heap.size, 5, none⟩ = some (.string ⟨#[110, 117, 109, 98, 101, 114, 115]⟩) := by rw [So.cell_blk HXS.out]; rfl
   obtain ⟨k1, ⟨x0, x1, x2, x3, x4, x5, x6, x7, x8⟩, hlt, hbx⟩ := HK.out SL HBS.out
   obtain ⟨f0, f1, HB⟩ := HTasks.out SL k1 hlt hbx rfl
   obtain ⟨k', c', HX', HC'⟩ := HTail.out _ 5 HB.out
   clear k1 hlt hbx hm
   go_upto_region 8 with fail
   rw [HSL.out]
   go_upto_region 20 with fail
   clear y0 t1 t2 f0 f1 x0 x1 x2 x3 x4 x5 x6 x7 x8
   have hcb := cbx_of HX'.out.1
   generalize (World.setCell _ _ _) = Wx at HX' HC' hcb ⊢
   obtain ⟨q0', c0', q1', c1', q2', c2', q3', c3', q4', c4'⟩ := k'
   simp only [CBx] at hcb
   simp only [cfV, cfC] at HC'
   obtain ⟨x0, x1, x2, x3, x4, x5, x6, x7, x8⟩ := hcb
   go_wp2_with fail
   refine HC'.out.mono ?_
   rintro e w4 ⟨rfl, hb4⟩
   have HF : Hid (Below N W w4) := HX'.out.2.trans (hb4.mono (Nat.le_of_lt (Array.getElem?_eq_some_iff.1 HX'.out.1).1))
   clear hb4 x0 x1 x2 x3 x4 x5 x6 x7 x8
   simp only [prtN]
   go_wp2
   go_ret
   exact ⟨rfl, HF.out⟩
end
end Go.Proofs.YtdlcldjlfhmlgaaGreatDoor
