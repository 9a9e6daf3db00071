/- Texts of this proof, joined: RcX, RcPk, RcRb, RcRk. -/
import Derived.Test.YthionnpohcgoaaaGreatDoorJ23
set_option linter.unusedVariables false
set_option linter.unusedSimpArgs false
/- Layer 16: the chapter's examples. -/
namespace Go.Proofs.YthionnpohcgoaaaGreatDoor.Rc
open Go.RowKit
abbrev nmm (l : N3) : ByteArray := Go.Proofs.YthionnpohcgoaaaGreatDoor.nm l
def xN : N3 := [[97]]
def xM : N3 := [[65]]
theorem ok_n : OkN xN := ⟨by decide, by decide⟩
theorem ok_m : OkN xM := ⟨by decide, by decide⟩
theorem low_m : lowF (nmm xM) = nmm xN := by
 rw [lowF_nm ok_m]
 rfl
theorem low_n : lowF (nmm xN) = nmm xN := by
 rw [lowF_nm ok_n]
 rfl
def xd (b : UInt8) : ByteArray := ⟨#[10, 0, 0, b]⟩
theorem dRt_x (b : UInt8) : dRt 1 (xd b) = true := by
 unfold dRt
 have : splitR 1 (xd b) = some [xd b] := (split_iff 1 (xd b) [xd b]).2 ⟨by decide, by simp [xd, ByteArray.size], by rfl, by
  have : formOf 1 = [.grp 4 1 10 46] := rfl
  rw [this]
  exact ⟨rfl, trivial⟩⟩
 rw [this]
 rfl
def xS (n : N3) (b : UInt8) (t : Int) : Sv := ⟨nmm n, 1, 1, t, [xd b], []⟩
theorem ok_x {n : N3} (h : OkN n) (b : UInt8) : setOk (xS n b 10) = true := by
 unfold setOk headOk datOk sigOk xS lowsS
 simp only [isN_yes ⟨n, h, rfl⟩, List.all_cons, List.all_nil, dRt_x]
 rfl
theorem svI_x {n : N3} (h : OkN n) (b : UInt8) : SvI (xS n b 10) := by
 refine ⟨⟨?_, ?_, ?_⟩, ?_, ?_, ?_⟩
 ·have : (nmm n).size ≤ 255 := name_size ⟨n, h, rfl⟩
  show (nmm n).size ≤ maxLen
  unfold maxLen
  omega
 ·intro d hd
  obtain rfl : d = xd b := by simpa [xS] using hd
  show 4 ≤ maxLen
  decide
 ·intro d hd
  cases hd
 ·show I64 1
  unfold I64; omega
 ·show I64 1
  unfold I64; omega
 ·show I64 10
  unfold I64; omega
def xK : Ky := (nmm xN, 1)
theorem key_n : keyS (nmm xN) 1 = xK := by unfold keyS; rw [low_n]; rfl
theorem key_m : keyS (nmm xM) 1 = xK := by unfold keyS; rw [low_m]; rfl
def xE : Ev := ⟨xS xN 1 10, 3, 0, 1, 15⟩
theorem put1 : putOk (xS xN 1 10) 3 0 5 = true ∧ refused [] (xS xN 1 10) 3 5 = false ∧ putR 2 [] (keyS (xS xN 1 10).nm (xS xN 1 10).ty) (putX 0 [] (xS xN 1 10) 3 0 5) = [(xK, xE)] := by
 refine ⟨putOk_iff.2 ⟨rfl, ok_x ok_n 1, by decide, by decide, by decide⟩, rfl, ?_⟩
 rw [show keyS (xS xN 1 10).nm (xS xN 1 10).ty = xK from key_n]
 rfl
theorem put2 : putOk (xS xM 2 10) 1 0 6 = true ∧ refused [(xK, xE)] (xS xM 2 10) 1 6 = true := by
 refine ⟨putOk_iff.2 ⟨rfl, ok_x ok_m 2, by decide, by decide, by decide⟩, ?_⟩
 unfold refused
 rw [show keyS (xS xM 2 10).nm (xS xM 2 10).ty = xK from key_m, getR_cons, if_pos rfl]
 rfl
theorem get1 : foundA [(xK, xE)] (keyS (nmm xM) 1) 9 = some xE ∧ getA [(xK, xE)] (keyS (nmm xM) 1) 9 = [(xK, xE)] := by
 rw [key_m]
 have hw : without [(xK, xE)] xK = [] := by unfold without; simp
 constructor
 ·unfold foundA
  rw [if_pos (by rfl), getR_cons, if_pos rfl]
  rfl
 ·unfold getA
  rw [if_pos (by rfl), getR_cons, if_pos rfl, hw]
  rfl
theorem get2 : foundA [(xK, xE)] (keyS (nmm xN) 1) 15 = none ∧ getA [(xK, xE)] (keyS (nmm xN) 1) 15 = [] := by
 rw [key_n]
 have hw : without [(xK, xE)] xK = [] := by unfold without; simp
 constructor
 ·unfold foundA
  rw [if_pos (by rfl), getR_cons, if_pos rfl]
  rfl
 ·unfold getA
  rw [if_pos (by rfl), getR_cons, if_pos rfl, hw]
  rfl
def zS : Sv := ⟨⟨#[]⟩, 0, 0, 0, [], []⟩
theorem put3 : putOk zS 1 0 0 = false := by
 cases h : putOk zS 1 0 0 with
 | false => rfl
 | true =>
  have := (putOk_iff.1 h).1
  cases this
theorem svI_z : SvI zS := by
 have h0 : I64 0 := by unfold I64; omega
 exact ⟨⟨by decide, fun d hd => (by cases hd), fun d hd => (by cases hd)⟩, h0, h0, h0⟩
theorem svAt_z (w : World) : SvAt w zS none 0 none 0 := ⟨fun j hj => (by cases hj), fun j hj => (by cases hj), ⟨Nat.le_refl _, by decide⟩, ⟨Nat.le_refl _, by decide⟩⟩
set_option maxRecDepth 100000 in
theorem one_in (n : N3) (b : UInt8) (w : World) : Calls Tryz.prog 23 #[.string (nmm n), .string ⟨#[b]⟩, .int .i64 10] w fun e w' => ∃ q, e = .returned (.agg (svC (xS n b 10) q 1 none 0).toArray) ∧ SvAt w' (xS n b 10) q 1 none 0 ∧ Below w.heap.size w w' := by
 have HX : ∀ (u : World) c, (u.alloc (.cells c 34)).heap[u.heap.size]? = some (.cells c 34 (0, 0)) := fun u c => heap_alloc_new u _
 have ha : (⟨#[10, 0, 0]⟩ : ByteArray) ++ ⟨#[b]⟩ = xd b := rfl
 unfold xS
 simp only [svC]
 generalize nmm n = x
 go_enter Tryz.func23, Tryz.ntmps23
 go_wp2
 refine bodyPost_ret (results_cell_row Tryz.results23 _ _ w.heap.size 34 _ (0, 0) _ (by rfl) (show _ = some _ from (by rw [Below.heap_alloc _ _ _ (by simp)]; exact HX w _)) Tryz.underlying34 rfl (by kernel_rfl)) rfl ?_
 refine ⟨_, rfl, ⟨fun j hj => ?_, fun j hj => (by cases hj), ⟨Nat.le_refl _, by show 1 ≤ maxLen; decide⟩, ⟨Nat.le_refl _, by decide⟩⟩, ((Below.refl _ _).alloc (Nat.le_refl _) _).alloc (by simp) _⟩
 obtain rfl : j = 0 := by simp at hj; omega
 refine ⟨w.heap.size + 1, 0, rfl, by simp, ?_⟩
 have g : ((w.alloc (.cells #[.string x, .int .i64 1, .int .i64 1, .int .i64 10, .slice (some ⟨w.heap.size + 1, 0, none⟩) 1 1, .slice none 0 0] 34)).alloc (.cells #[.string (xd b)] 9)).heap[w.heap.size + 1]? = some (.cells #[.string (xd b)] 9 (0, 0)) := by
  have := heap_alloc_new (w.alloc (.cells #[.string x, .int .i64 1, .int .i64 1, .int .i64 10, .slice (some ⟨w.heap.size + 1, 0, none⟩) 1 1, .slice none 0 0] 34)) (.cells #[.string (xd b)] 9)
  simpa using this
 rw [So.cell_blk g]
 rfl
theorem nm_n : nmm xN = ⟨#[1, 97, 0]⟩ := rfl
theorem nm_m : nmm xM = ⟨#[1, 65, 0]⟩ := rfl
set_option maxRecDepth 100000 in
set_option maxHeartbeats 8000000 in
theorem examples_in (W : World) : Calls Tryz.prog 7 #[] W fun e w' => e = .returned (.bool true) ∧ Below W.heap.size W w' := by
 have HN : Hid (Calls Tryz.prog 8 #[.int .i64 2] W fun e w' => ∃ C T, e = .returned (.tuple #[pt C, .int .i64 0]) ∧ RCA W w' C T 2 0 0 []) := anew_in W 2 (by omega) (by omega)
 have H0 : Hid (∀ w, Calls Tryz.prog 8 #[.int .i64 0] w fun e w' => e = .returned (.tuple #[nilP, .int .i64 1]) ∧ w' = w) := fun w => rnew_no w 0 (.inl (by omega))
 have HO1 : Hid (∀ w, Calls Tryz.prog 23 #[.string ⟨#[1, 97, 0]⟩, .string ⟨#[1]⟩, .int .i64 10] w fun e w' => ∃ q, e = .returned (.agg (svC (xS xN 1 10) q 1 none 0).toArray) ∧ SvAt w' (xS xN 1 10) q 1 none 0 ∧ Below w.heap.size w w') := fun w => one_in xN 1 w
 have HO2 : Hid (∀ w, Calls Tryz.prog 23 #[.string ⟨#[1, 65, 0]⟩, .string ⟨#[2]⟩, .int .i64 10] w fun e w' => ∃ q, e = .returned (.agg (svC (xS xM 2 10) q 1 none 0).toArray) ∧ SvAt w' (xS xM 2 10) q 1 none 0 ∧ Below w.heap.size w w') := fun w => one_in xM 2 w
 have HP1 : Hid (∀ w C T q, RCA W w C T 2 0 0 [] → SvAt w (xS xN 1 10) q 1 none 0 → Calls Tryz.prog 11 #[pt C, .agg (svC (xS xN 1 10) q 1 none 0).toArray, .int .i64 3, .int .i64 0, .int .i64 5] w fun e w' => e = .returned (.tuple #[.bool true, .int .i64 0]) ∧ RCA W w' C T 2 1 1 [(xK, xE)]) := fun w C T q hr hat => by
  refine (aput_in hr (by omega) (xS xN 1 10) (svI_x ok_n 1) q 1 none 0 hat 3 0 5).mono ?_
  rintro e w' ⟨hp, hf⟩
  rcases hp with ⟨h1, _⟩ | ⟨_, h1, _⟩ | ⟨_, _, h2, h3⟩
  ·rw [put1.1] at h1; cases h1
  ·rw [put1.2.1] at h1; cases h1
  ·rw [put1.2.2] at h3
   exact ⟨h2, h3⟩
 have HP2 : Hid (∀ w C T q, RCA W w C T 2 1 1 [(xK, xE)] → SvAt w (xS xM 2 10) q 1 none 0 → Calls Tryz.prog 11 #[pt C, .agg (svC (xS xM 2 10) q 1 none 0).toArray, .int .i64 1, .int .i64 0, .int .i64 6] w fun e w' => e = .returned (.tuple #[.bool false, .int .i64 0]) ∧ RCA W w' C T 2 1 1 [(xK, xE)]) := fun w C T q hr hat => by
  refine (aput_in hr (by omega) (xS xM 2 10) (svI_x ok_m 2) q 1 none 0 hat 1 0 6).mono ?_
  rintro e w' ⟨hp, hf⟩
  rcases hp with ⟨h1, _⟩ | ⟨_, _, h2, h3⟩ | ⟨_, h1, _⟩
  ·rw [put2.1] at h1; cases h1
  ·exact ⟨h2, h3⟩
  ·rw [put2.2] at h1; cases h1
 have HP3 : Hid (∀ w C T, RCA W w C T 2 1 1 [] → Calls Tryz.prog 11 #[pt C, .agg (svC zS none 0 none 0).toArray, .int .i64 1, .int .i64 0, .int .i64 0] w fun e w' => e = .returned (.tuple #[.bool false, .int .i64 1]) ∧ RCA W w' C T 2 1 1 [] ∧ FrC w w') := fun w C T hr => by
  refine (aput_in hr (by omega) zS svI_z none 0 none 0 (svAt_z w) 1 0 0).mono ?_
  rintro e w' ⟨hp, hf⟩
  rcases hp with ⟨_, h2, h3⟩ | ⟨h1, _⟩ | ⟨h1, _⟩
  ·exact ⟨h2, h3, hf⟩
  ·rw [put3] at h1; cases h1
  ·rw [put3] at h1; cases h1
 have HG1 : Hid (∀ w C T, RCA W w C T 2 1 1 [(xK, xE)] → Calls Tryz.prog 13 #[pt C, .string ⟨#[1, 65, 0]⟩, .int .i64 1, .int .i64 9] w fun e w' => (∃ q1 c1 q2 c2, e = .returned (.tuple #[.agg #[.string ⟨#[1, 97, 0]⟩, .int .i64 1, .int .i64 1, .int .i64 6, .slice q1 1 c1, .slice q2 0 c2, .int .i64 3, .int .i64 0, .int .i64 1, .int .i64 15], .bool true])) ∧ RCA W w' C T 2 1 1 [(xK, xE)]) := fun w C T hr => by
  refine (aget_in hr (nmm xM) (by rw [nm_m]; decide) 1 9 (by unfold I64; omega)).mono ?_
  rintro e w' ⟨h1, hf, hp⟩
  rw [get1.2] at h1
  rcases hp with ⟨h2, _⟩ | ⟨x, q1, c1, q2, c2, h2, h3, h4⟩
  ·rw [get1.1] at h2; cases h2
  ·rw [get1.1] at h2
   cases h2
   exact ⟨⟨q1, c1, q2, c2, h3⟩, h1⟩
 have HG2 : Hid (∀ w C T, RCA W w C T 2 1 1 [(xK, xE)] → Calls Tryz.prog 13 #[pt C, .string ⟨#[1, 97, 0]⟩, .int .i64 1, .int .i64 15] w fun e w' => e = .returned (.tuple #[.agg #[.string ⟨#[]⟩, .int .i64 0, .int .i64 0, .int .i64 0, .slice none 0 0, .slice none 0 0, .int .i64 0, .int .i64 0, .int .i64 0, .int .i64 0], .bool false]) ∧ RCA W w' C T 2 1 1 [] ∧ FrC w w') := fun w C T hr => by
  refine (aget_in hr (nmm xN) (by rw [nm_n]; decide) 1 15 (by unfold I64; omega)).mono ?_
  rintro e w' ⟨h1, hf, hp⟩
  rw [get2.2] at h1
  rcases hp with ⟨h2, h3⟩ | ⟨x, q1, c1, q2, c2, h2, h3, h4⟩
  ·exact ⟨h3, h1, hf⟩
  ·rw [get2.1] at h2; cases h2
 have HL : Hid (∀ w C T, RCA W w C T 2 1 1 [] → Calls Tryz.prog 20 #[pt C] w fun e w' => e = .returned (.int .i64 0) ∧ w' = w) := fun w C T hr => alen_in hr
 simp only [svC, xS] at HO1 HO2 HP1 HP2 HP3
 go_enter Tryz.func7, Tryz.ntmps7
 go_wp2_with fail
 refine HN.out.mono ?_
 rintro e w1 ⟨C, T, rfl, hr1⟩
 have HR1 := Hid.mk hr1
 clear hr1
 go_wp2_with fail
 refine (H0.out _).mono ?_
 rintro e w2 ⟨rfl, rfl⟩
 go_wp2_with fail
 refine (HO1.out _).mono ?_
 rintro e w3 ⟨q, rfl, hat, hb⟩
 have HC3 := Hid.mk (HP1.out _ C T q (HR1.out.blk hb) hat)
 clear hat hb
 go_wp2_with fail
 refine HC3.out.mono ?_
 rintro e w4 ⟨rfl, hr4⟩
 have HR4 := Hid.mk hr4
 clear hr4
 go_wp2_with fail
 refine (HO2.out _).mono ?_
 rintro e w5 ⟨q, rfl, hat, hb⟩
 have HC5 := Hid.mk (HP2.out _ C T q (HR4.out.blk hb) hat)
 clear hat hb
 go_wp2_with fail
 refine HC5.out.mono ?_
 rintro e w6 ⟨rfl, hr6⟩
 have HC6 := Hid.mk (HG1.out _ C T hr6)
 clear hr6
 go_wp2_with fail
 refine HC6.out.mono ?_
 rintro e w7 ⟨⟨q1, c1, q2, c2, rfl⟩, hr7⟩
 obtain ⟨B, hB⟩ : ∃ B, w7.heap.size = B := ⟨_, rfl⟩
 obtain ⟨V, hV⟩ : ∃ V, w7.alloc (.cells #[.string ⟨#[1, 97, 0]⟩, .int .i64 1, .int .i64 1, .int .i64 6, .slice q1 1 c1, .slice q2 0 c2, .int .i64 3, .int .i64 0, .int .i64 1, .int .i64 15] 44) = V := ⟨_, rfl⟩
 have gV : V.heap[B]? = some (.cells #[.string ⟨#[1, 97, 0]⟩, .int .i64 1, .int .i64 1, .int .i64 6, .slice q1 1 c1, .slice q2 0 c2, .int .i64 3, .int .i64 0, .int .i64 1, .int .i64 15] 44 (0, 0)) := by rw [← hV, ← hB]; exact heap_alloc_new w7 _
 have rV : RCA W V C T 2 1 1 [(xK, xE)] := hr7.blk (by rw [← hV]; exact (Below.refl _ _).alloc (Nat.le_refl _) _)
 have HgV := Hid.mk gV
 have HC7 := Hid.mk (HG2.out _ C T rV)
 have HV := Hid.mk hV
 clear hr7 hV gV rV
 go_upto_region 8 with fail
 (try rw [hB])
 rw [HV.out]
 go_wp2_with fail
 refine HC7.out.mono ?_
 rintro e w8 ⟨rfl, hr8, hf8⟩
 have g8 := hf8.same B _ _ _ HgV.out (by decide) (by decide) (by decide)
 obtain ⟨V8, hV8⟩ : ∃ V, w8.alloc (.cells #[.string ⟨#[]⟩, .int .i64 0, .int .i64 0, .int .i64 0, .slice none 0 0, .slice none 0 0, .int .i64 0, .int .i64 0, .int .i64 0, .int .i64 0] 44) = V := ⟨_, rfl⟩
 have b8 : Below w8.heap.size w8 V8 := by rw [← hV8]; exact (Below.refl _ _).alloc (Nat.le_refl _) _
 have HC8 := Hid.mk (HP3.out _ C T (hr8.blk b8))
 have Hg8 := Hid.mk ((b8.block B (blk_lt g8)).trans g8)
 have HV8 := Hid.mk hV8
 clear hr8 hf8 g8 hV8 b8 hB
 go_upto_region 9 with fail
 rw [HV8.out]
 go_wp2_with fail
 refine HC8.out.mono ?_
 rintro e w9 ⟨rfl, hr9, hf9⟩
 have g9 := hf9.same B _ _ _ Hg8.out (by decide) (by decide) (by decide)
 have HC9 := Hid.mk (HL.out _ C T hr9)
 have HE := Hid.mk hr9.bel
 have d0 : w9.cell? ⟨B, 0, none⟩ = some (.string ⟨#[1, 97, 0]⟩) := by rw [So.cell_blk g9]; rfl
 have d3 : w9.cell? ⟨B, 3, none⟩ = some (.int .i64 6) := by rw [So.cell_blk g9]; rfl
 have d6 : w9.cell? ⟨B, 6, none⟩ = some (.int .i64 3) := by rw [So.cell_blk g9]; rfl
 have d8 : w9.cell? ⟨B, 8, none⟩ = some (.int .i64 1) := by rw [So.cell_blk g9]; rfl
 clear hr9 hf9 g9
 go_wp2_with fail
 refine HC9.out.mono ?_
 rintro e w10 ⟨rfl, rfl⟩
 go_wp2
 go_ret
 exact ⟨rfl, HE.out⟩
end Go.Proofs.YthionnpohcgoaaaGreatDoor.Rc
/- Layer 16: pick. -/
namespace Go.Proofs.YthionnpohcgoaaaGreatDoor.Rc
open Go.RowKit
def pickR (c : Int) (n : Int) : Int := (if c < 0 then -(c + 1) else c).tmod n
theorem pickR_ge (c n : Int) : 0 ≤ pickR c n := by
 unfold pickR
 apply Int.tmod_nonneg
 split <;> omega
theorem pickR_lt (c n : Int) (h : 0 < n) : pickR c n < n := Int.tmod_lt_of_pos _ h
theorem pick_in (w : World) (c n : Int) (hc : -9223372036854775808 ≤ c ∧ c ≤ 9223372036854775807) (hn : 0 < n) (hn2 : n ≤ 1000000000) :
  Calls Tryz.prog 9 #[.int .i64 c, .int .i64 n] w fun e w' => e = .returned (.int .i64 (pickR c n)) ∧ w' = w := by
 have hn0 : ¬ n = 0 := by omega
 have hge := pickR_ge c n
 have hlt := pickR_lt c n hn
 by_cases h : c < 0
 ·have hp : pickR c n = (-(c + 1)).tmod n := by unfold pickR; rw [if_pos h]
  rw [hp] at hge hlt ⊢
  go_enter Tryz.func9, Tryz.ntmps9
  go_wp2
  go_ret
  refine ⟨?_, rfl⟩
  show Ending.returned (Value.int .i64 (-(c + 1).tmod n)) = _
  rw [Int.neg_tmod]
 ·have hp : pickR c n = c.tmod n := by unfold pickR; rw [if_neg h]
  rw [hp] at hge hlt ⊢
  go_enter Tryz.func9, Tryz.ntmps9
  go_wp2
  go_ret
  refine ⟨?_, rfl⟩
  show Ending.returned (Value.int .i64 (c % n)) = _
  rw [Int.tmod_eq_emod_of_nonneg (by omega)]
end Go.Proofs.YthionnpohcgoaaaGreatDoor.Rc
/- Layer 16: a cache beside boxes of a law's own; facts of RrcacheRanks. -/
namespace Go.Proofs.YthionnpohcgoaaaGreatDoor.Rc
open Go.RowKit
theorem RC.base {U W w : World} {C T m n : Nat} {ver : Int} {l : ML} {Q : Nat → Prop} (h : RC W w C T m n ver l Q) (hb : Below U.heap.size U W) : RC U w C T m n ver l Q := by
 obtain ⟨E, M, L, ho, e⟩ := h.tab
 have hs := hb.size
 exact ⟨h.bx, Nat.le_trans hs h.own, ⟨E, M, L, ⟨ho.tab, fun b hb' => Nat.le_trans hs (ho.own b hb'), hb.trans (ho.bel.mono hs)⟩, e⟩, fun p hp => ⟨(h.ev p hp).1, Nat.le_trans hs (h.ev p hp).2⟩, h.ok, h.len, h.nd, h.vb, h.mb⟩
theorem RCA.base {U W w : World} {C T m n : Nat} {ver : Int} {A : AL} (h : RCA W w C T m n ver A) (hb : Below U.heap.size U W) : RCA U w C T m n ver A := by
 obtain ⟨l, Q, hr, e⟩ := h.ex
 exact ⟨l, Q, hr.base hb, e⟩
theorem RC.setS {W w : World} {C T m n : Nat} {ver : Int} {l : ML} {Q : Nat → Prop} (h : RC W w C T m n ver l Q) {g : Nat} {c : Array Value} {t : TypeId} (hg : w.heap[g]? = some (.cells c t (0, 0))) (h1 : t ≠ 95) (h2 : t ≠ 100) (h3 : t ≠ 67) (h4 : t ≠ 44) (h5 : t ≠ 9) (hW : W.heap.size ≤ g) (i : Nat) (v : Value) : RC W (w.setCell ⟨g, i, none⟩ v) C T m n ver l Q := by
 have hs : ∀ (b : Nat) (c : Array Value) (t' : TypeId) (f : Nat × Nat), w.heap[b]? = some (.cells c t' f) → t' ≠ t → (w.setCell ⟨g, i, none⟩ v).heap[b]? = some (.cells c t' f) := fun b c t' f hb ht => by
  rw [Below.heap_setCell _ _ _ _ (fun e => by obtain rfl : b = g := e; rw [hg] at hb; cases hb; exact ht rfl)]
  exact hb
 refine ⟨hs _ _ _ _ h.bx h3.symm, h.own, ?_, fun p hp => ⟨?_, (h.ev p hp).2⟩, h.ok, h.len, h.nd, h.vb, h.mb⟩
 ·obtain ⟨E, M, L, ho, e⟩ := h.tab
  refine ⟨E, M, L, ⟨ho.tab.same fun b hb => ?_, ho.own, ho.bel.setCell (p := ⟨g, i, none⟩) hW v⟩, e⟩
  refine Below.heap_setCell _ _ _ _ (fun e => ?_)
  obtain rfl : b = g := e
  rcases hb with x | x | x | x
  ·have := ho.tab.tb; rw [← x, hg] at this; cases this; exact h1 rfl
  ·obtain ⟨es, cl, hm⟩ := ho.tab.mp.isMap; rw [← x, hg] at hm; cases hm
  ·obtain ⟨c', hc, _⟩ := ho.tab.row.plc E (by simp); rw [← x, hg] at hc; cases hc; exact h2 rfl
  ·obtain ⟨c', hc, _⟩ := ho.tab.row.plc b (List.mem_cons_of_mem _ x); rw [hg] at hc; cases hc; exact h2 rfl
 ·obtain ⟨qd, cd, qg, cg, h0, h1', h2', r⟩ := (h.ev p hp).1
  exact ⟨qd, cd, qg, cg, hs _ _ _ _ h0 h4.symm, h1'.same (fun b cur _ hb => (hs b _ _ _ hb h5.symm).trans hb.symm), h2'.same (fun b cur _ hb => (hs b _ _ _ hb h5.symm).trans hb.symm), r⟩
theorem RCA.setS {W w : World} {C T m n : Nat} {ver : Int} {A : AL} (h : RCA W w C T m n ver A) {g : Nat} {c : Array Value} (hg : w.heap[g]? = some (.cells c 34 (0, 0))) (hW : W.heap.size ≤ g) (i : Nat) (v : Value) : RCA W (w.setCell ⟨g, i, none⟩ v) C T m n ver A := by
 obtain ⟨l, Q, hr, e⟩ := h.ex
 exact ⟨l, Q, hr.setS hg (by decide) (by decide) (by decide) (by decide) (by decide) hW i v, e⟩
theorem ttl_zero {s : Sv} (h : setOk s = true) : ttl s = 0 ↔ s.tl = 0 := by
 have := (setOk_head h).1
 unfold ttl
 omega
theorem ttl_pos {s : Sv} (h : setOk s = true) (h0 : s.tl ≠ 0) : 1 ≤ ttl s ∧ ttl s ≤ 604800 := by
 have h1 := ttl_bd h
 have h2 := ttl_zero h
 have : ttl s ≠ 0 := fun e => h0 (h2.1 e)
 omega
abbrev one1 (k : Ky) (x : Ev) : AL := [(k, x)]
theorem without_one {k : Ky} {x : Ev} : without (one1 k x) k = [] := by
 unfold without
 simp
theorem get_one {k : Ky} {x : Ev} : getR (one1 k x) k = some x := by rw [getR_cons, if_pos rfl]
theorem put_nil {m : Nat} (hm : 1 ≤ m) {k : Ky} {x : Ev} : putR m ([] : AL) k x = one1 k x := by
 obtain ⟨j, rfl⟩ : ∃ j, m = j + 1 := ⟨m - 1, by omega⟩
 unfold putR without
 simp
theorem put_one {m : Nat} (hm : 1 ≤ m) {k : Ky} {x y : Ev} : putR m (one1 k x) k y = one1 k y := by
 unfold putR
 rw [without_one]
 obtain ⟨j, rfl⟩ : ∃ j, m = j + 1 := ⟨m - 1, by omega⟩
 simp
theorem tell_one {k : Ky} {x : Ev} {now : Int} (ht : timB now = true) (h : now < x.un) : foundA (one1 k x) k now = some x ∧ getA (one1 k x) k now = one1 k x := by
 have ho : over x now = false := by unfold over; exact decide_eq_false (by omega)
 unfold foundA getA
 rw [get_one, without_one]
 simp [ht, ho]
theorem tell_over {k : Ky} {x : Ev} {now : Int} (ht : timB now = true) (h : ¬ now < x.un) : foundA (one1 k x) k now = none ∧ getA (one1 k x) k now = [] := by
 have ho : over x now = true := by unfold over; exact decide_eq_true (by omega)
 unfold foundA getA
 rw [get_one, without_one]
 simp [ht, ho]
theorem tell_nil {k : Ky} {now : Int} : foundA [] k now = none ∧ getA [] k now = [] := by
 unfold foundA getA
 rw [getR_nil]
 simp
theorem ref_nil {s : Sv} {rk now : Int} : refused [] s rk now = decide (ttl s = 0) := by
 unfold refused stops
 rw [getR_nil]
 simp
theorem ref_one {s : Sv} {x : Ev} {rk now : Int} (h : now < x.un) : refused (one1 (keyS s.nm s.ty) x) s rk now = (decide (ttl s = 0) || decide (rk < x.rk)) := by
 have ho : over x now = false := by unfold over; exact decide_eq_false (by omega)
 unfold refused
 rw [get_one]
 unfold stops
 simp [ho]
theorem same_told {n : Nat} {x : Ev} {now : Int} (h : EvI n x) (h0 : 0 ≤ now) (h1 : now < x.un) : sameS (toldE x now).s x.s = true := by
 have hu := h.un
 exact sameS_symm (sameS_tl h.ok (by omega) (by omega))
end Go.Proofs.YthionnpohcgoaaaGreatDoor.Rc
/- Layer 16: RrcacheRanks. -/
namespace Go.Proofs.YthionnpohcgoaaaGreatDoor.Rc
open Go.RowKit
structure B2 (w : World) (N : Nat) (x y : List Value) : Prop where
 a : w.heap[N]? = some (.cells x.toArray 34 (0, 0))
 b : w.heap[N + 1]? = some (.cells y.toArray 34 (0, 0))
theorem B2.frc {w w' : World} {N : Nat} {x y : List Value} (h : B2 w N x y) (hf : FrC w w') : B2 w' N x y := ⟨hf.same _ _ _ _ h.a (by decide) (by decide) (by decide), hf.same _ _ _ _ h.b (by decide) (by decide) (by decide)⟩
theorem B2.blk {w w' : World} {N : Nat} {x y : List Value} (h : B2 w N x y) (hb : Below w.heap.size w w') : B2 w' N x y := h.frc (FrC.below hb)
theorem ten_cells {w : World} {b : Nat} {x0 x1 x2 x3 x4 x5 x6 x7 x8 x9 : Value} {t : TypeId} (h : w.heap[b]? = some (.cells [x0, x1, x2, x3, x4, x5, x6, x7, x8, x9].toArray t (0, 0))) : (w.cell? ⟨b, 0, none⟩ = some x0 ∧ w.cell? ⟨b, 1, none⟩ = some x1 ∧ w.cell? ⟨b, 2, none⟩ = some x2 ∧ w.cell? ⟨b, 3, none⟩ = some x3 ∧ w.cell? ⟨b, 4, none⟩ = some x4 ∧ w.cell? ⟨b, 5, none⟩ = some x5) ∧ w.cell? ⟨b, 6, none⟩ = some x6 ∧ w.cell? ⟨b, 8, none⟩ = some x8 := by
 refine ⟨⟨?_, ?_, ?_, ?_, ?_, ?_⟩, ?_, ?_⟩ <;> (rw [So.cell_blk h]; rfl)
theorem box_blk {w w' : World} {b : Nat} {x : List Value} (h : w.heap[b]? = some (.cells x.toArray 44 (0, 0))) (hf : FrC w w') : w'.heap[b]? = some (.cells x.toArray 44 (0, 0)) := hf.same _ _ _ _ h (by decide) (by decide) (by decide)
set_option maxRecDepth 100000 in
set_option maxHeartbeats 32000000 in
theorem ranks_walk (W : World) (a b : Sv) (ha : SvI a) (hb : SvI b) (qa : Option Addr) (ca : Nat) (ga : Option Addr) (ka : Nat) (qb : Option Addr) (cb : Nat) (gb : Option Addr) (kb : Nat) (hA : SvAt W a qa ca ga ka) (hB : SvAt W b qb cb gb kb) (one two now later : Int) (h1 : I64 one) (h2 : I64 two) (h3 : I64 now) (h4 : I64 later) :
  Calls Tryz.prog 6 #[.agg (svC a qa ca ga ka).toArray, .agg (svC b qb cb gb kb).toArray, .int .i64 one, .int .i64 two, .int .i64 now, .int .i64 later] W fun e w' => e = .returned (.bool true) ∧ Below W.heap.size W w' := by
 obtain ⟨N, hN⟩ : ∃ N, W.heap.size = N := ⟨_, rfl⟩
 obtain ⟨y, hy⟩ : ∃ y : Sv, (⟨a.nm, a.ty, b.cl, b.tl, b.ds, b.sg⟩ : Sv) = y := ⟨_, rfl⟩
 have hyi : SvI y := by rw [← hy]; exact ⟨⟨ha.sv.nm, hb.sv.ds, hb.sv.sg⟩, ha.ty, hb.cl, hb.tl⟩
 have hyt : y.tl = b.tl := by rw [← hy]
 have hyk : keyS y.nm y.ty = keyS a.nm a.ty := by rw [← hy]
 have hyc : svC y qb cb gb kb = [.string a.nm, .int .i64 a.ty, .int .i64 b.cl, .int .i64 b.tl, .slice qb b.ds.length cb, .slice gb b.sg.length kb] := by rw [← hy]
 have hY : ∀ w, Below N W w → SvAt w y qb cb gb kb := fun w hw => by
  have := hB.blk (by rw [hN]; exact hw : Below W.heap.size W w)
  rw [← hy]
  exact ⟨this.ds, this.sg, this.cd, this.cg⟩
 obtain ⟨F, hF⟩ : ∃ F, 1 + pickR one 4 = F := ⟨_, rfl⟩
 obtain ⟨S, hS⟩ : ∃ S, 1 + pickR two 4 = S := ⟨_, rfl⟩
 obtain ⟨L, hL⟩ : ∃ L, now + pickR later 100 = L := ⟨_, rfl⟩
 have hFb : 1 ≤ F ∧ F ≤ 4 := by have := pickR_ge one 4; have := pickR_lt one 4 (by omega); omega
 have hSb : 1 ≤ S ∧ S ≤ 4 := by have := pickR_ge two 4; have := pickR_lt two 4 (by omega); omega
 have hLb : now ≤ L ∧ L ≤ now + 99 := by have := pickR_ge later 100; have := pickR_lt later 100 (by omega); omega
 have HE := Hid.mk examples_in
 have HN5 : Hid (∀ w, Calls Tryz.prog 8 #[.int .i64 5] w fun e w' => ∃ C T, e = .returned (.tuple #[pt C, .int .i64 0]) ∧ RCA w w' C T 5 0 0 []) := fun w => anew_in w 5 (by omega) (by omega)
 have HPk1 : Hid (∀ w, Calls Tryz.prog 9 #[.int .i64 one, .int .i64 4] w fun e w' => e = .returned (.int .i64 (pickR one 4)) ∧ w' = w) := fun w => pick_in w one 4 h1 (by omega) (by omega)
 have HPk2 : Hid (∀ w, Calls Tryz.prog 9 #[.int .i64 two, .int .i64 4] w fun e w' => e = .returned (.int .i64 (pickR two 4)) ∧ w' = w) := fun w => pick_in w two 4 h2 (by omega) (by omega)
 have HPk3 : Hid (∀ w, Calls Tryz.prog 9 #[.int .i64 later, .int .i64 100] w fun e w' => e = .returned (.int .i64 (pickR later 100)) ∧ w' = w) := fun w => pick_in w later 100 h4 (by omega) (by omega)
 have hp1 : pickR one 4 = F - 1 := by omega
 have hp2 : pickR two 4 = S - 1 := by omega
 have hp3 : pickR later 100 = L - now := by omega
 rw [hp1] at HPk1
 rw [hp2] at HPk2
 rw [hp3] at HPk3
 have w1 : IntKind.i64.wrap (1 + (F - 1)) = F := by rw [IntKind.wrap_i64]; omega
 have w2 : IntKind.i64.wrap (1 + (S - 1)) = S := by rw [IntKind.wrap_i64]; omega
 have hnm : a.nm.size ≤ maxLen := ha.sv.nm
 have hty : I64 a.ty := ha.ty
 obtain ⟨k, hk⟩ : ∃ k, keyS a.nm a.ty = k := ⟨_, rfl⟩
 obtain ⟨X, hX⟩ : ∃ X : Ev, (⟨a, F, 0, 1, now + ttl a⟩ : Ev) = X := ⟨_, rfl⟩
 have HPa : Hid (∀ w C T, RCA W w C T 5 0 0 [] → Calls Tryz.prog 11 #[pt C, .agg (svC a qa ca ga ka).toArray, .int .i64 F, .int .i64 0, .int .i64 now] w fun e w' => FrC w w' ∧ ((∃ er : Int, (er = 0 ∨ er = 1) ∧ e = .returned (.tuple #[.bool false, .int .i64 er]) ∧ RCA W w' C T 5 0 0 []) ∨ (e = .returned (.tuple #[.bool true, .int .i64 0]) ∧ (setOk a = true ∧ timB now = true ∧ ttl a ≠ 0) ∧ RCA W w' C T 5 1 1 (one1 k X)))) := fun w C T hr => by
  refine (aput_in hr (by omega) a ha qa ca ga ka (hA.blk hr.bel) F 0 now).mono ?_
  rintro e w' ⟨hp, hf⟩
  refine ⟨hf, ?_⟩
  rcases hp with ⟨_, e2, e3⟩ | ⟨_, _, e2, e3⟩ | ⟨e0, e1, e2, e3⟩
  ·exact .inl ⟨1, .inr rfl, e2, e3⟩
  ·exact .inl ⟨0, .inl rfl, e2, e3⟩
  ·obtain ⟨_, q2, _, _, q5⟩ := putOk_iff.1 e0
   rw [ref_nil] at e1
   refine .inr ⟨e2, ⟨q2, tim_iff.2 q5, of_decide_eq_false e1⟩, ?_⟩
   rw [hk, put_nil (by omega), getR_nil] at e3
   have eX : putX 0 [] a F 0 now = X := by unfold putX; rw [hk, getR_nil, ← hX]; rfl
   rw [eX] at e3
   exact e3
 have HLen : Hid (∀ w C T, RCA W w C T 5 0 0 [] → Calls Tryz.prog 20 #[pt C] w fun e w' => e = .returned (.int .i64 0) ∧ w' = w) := fun w C T hr => alen_in hr
 -- what is told of the first set
 have HGy : Hid (timB L = true → L < X.un → ∀ w C T n ver, RCA W w C T 5 n ver (one1 k X) → Calls Tryz.prog 13 #[pt C, .string a.nm, .int .i64 a.ty, .int .i64 L] w fun e w' => FrC w w' ∧ RCA W w' C T 5 n ver (one1 k X) ∧ ∃ q1 c1 q2 c2, e = .returned (.tuple #[.agg (evC (toldE X L) q1 c1 q2 c2).toArray, .bool true]) ∧ Told w' w.heap.size (toldE X L).s q1 c1 q2 c2) := fun ht hl w C T n ver hr => by
  refine (aget_in hr a.nm hnm a.ty L hty).mono ?_
  rintro e w' ⟨g1, g2, g3⟩
  rw [hk, (tell_one ht hl).2] at g1
  rw [hk, (tell_one ht hl).1] at g3
  rcases g3 with ⟨g4, _⟩ | ⟨x, q1, c1, q2, c2, g4, g5, g6⟩
  ·cases g4
  ·cases g4
   exact ⟨g2, g1, q1, c1, q2, c2, g5, g6⟩
 have HGo : Hid (timB L = true → ¬ L < X.un → ∀ w C T n ver, RCA W w C T 5 n ver (one1 k X) → Calls Tryz.prog 13 #[pt C, .string a.nm, .int .i64 a.ty, .int .i64 L] w fun e w' => FrC w w' ∧ RCA W w' C T 5 n ver [] ∧ e = .returned (.tuple #[.agg ze.toArray, .bool false])) := fun ht hl w C T n ver hr => by
  refine (aget_in hr a.nm hnm a.ty L hty).mono ?_
  rintro e w' ⟨g1, g2, g3⟩
  rw [hk, (tell_over ht hl).2] at g1
  rw [hk, (tell_over ht hl).1] at g3
  rcases g3 with ⟨_, g4⟩ | ⟨x, q1, c1, q2, c2, g4, _⟩
  ·exact ⟨g2, g1, g4⟩
  ·cases g4
 have HGn : Hid (∀ w C T n ver, RCA W w C T 5 n ver [] → Calls Tryz.prog 13 #[pt C, .string a.nm, .int .i64 a.ty, .int .i64 L] w fun e w' => FrC w w' ∧ RCA W w' C T 5 n ver [] ∧ e = .returned (.tuple #[.agg ze.toArray, .bool false])) := fun w C T n ver hr => by
  refine (aget_in hr a.nm hnm a.ty L hty).mono ?_
  rintro e w' ⟨g1, g2, g3⟩
  rw [tell_nil.2] at g1
  rw [tell_nil.1] at g3
  rcases g3 with ⟨_, g4⟩ | ⟨x, q1, c1, q2, c2, g4, _⟩
  ·exact ⟨g2, g1, g4⟩
  ·cases g4
 -- what becomes of the second one: refused for its own sake, refused for its rank, kept
 have HPb : Hid (timB L = true → ∀ w C T A, (A = [] ∨ (A = one1 k X ∧ L < X.un)) → RCA W w C T 5 1 1 A → Calls Tryz.prog 11 #[pt C, .agg (svC y qb cb gb kb).toArray, .int .i64 S, .int .i64 0, .int .i64 L] w fun e w' => FrC w w' ∧ ((∃ er : Int, (er = 1 ∨ (er = 0 ∧ b.tl = 0)) ∧ e = .returned (.tuple #[.bool false, .int .i64 er]) ∧ RCA W w' C T 5 1 1 A) ∨ (A = one1 k X ∧ S < F ∧ b.tl ≠ 0 ∧ e = .returned (.tuple #[.bool false, .int .i64 0]) ∧ RCA W w' C T 5 1 1 A) ∨ (b.tl ≠ 0 ∧ (A = one1 k X → ¬ S < F) ∧ e = .returned (.tuple #[.bool true, .int .i64 0]) ∧ setOk y = true ∧ ∃ v ver, RCA W w' C T 5 2 ver (one1 k ⟨y, S, 0, v, L + ttl y⟩)))) := fun ht w C T A hAl hr => by
  refine (aput_in hr (by omega) y hyi qb cb gb kb (hY w (by rw [← hN]; exact hr.bel)) S 0 L).mono ?_
  rintro e w' ⟨hp, hf⟩
  refine ⟨hf, ?_⟩
  rcases hp with ⟨_, e2, e3⟩ | ⟨e0, e1, e2, e3⟩ | ⟨e0, e1, e2, e3⟩
  ·exact .inl ⟨1, .inl rfl, e2, e3⟩
  ·obtain ⟨_, q2, _⟩ := putOk_iff.1 e0
   by_cases h0 : b.tl = 0
   ·exact .inl ⟨0, .inr ⟨rfl, h0⟩, e2, e3⟩
   ·have hz : ttl y ≠ 0 := fun e => h0 (by rw [← hyt]; exact (ttl_zero q2).1 e)
    rcases hAl with rfl | ⟨rfl, hl⟩
    ·rw [ref_nil] at e1
     exact absurd (of_decide_eq_true e1) hz
    ·rw [← hk, ← hyk, ref_one hl, decide_eq_false hz, Bool.false_or] at e1
     have : S < F := by have := of_decide_eq_true e1; rw [← hX] at this; exact this
     exact .inr (.inl ⟨rfl, this, h0, e2, e3⟩)
  ·obtain ⟨_, q2, _⟩ := putOk_iff.1 e0
   have hz : ttl y ≠ 0 := fun e => by unfold refused at e1; rw [decide_eq_true e] at e1; cases e1
   refine .inr (.inr ⟨fun e => hz ((ttl_zero q2).2 (by rw [hyt]; exact e)), ?_, e2, q2, ?_⟩)
   ·intro hA1 hlt
    rcases hAl with rfl | ⟨rfl, hl⟩
    ·cases hA1
    ·rw [← hk, ← hyk, ref_one hl] at e1
     have : decide (S < X.rk) = true := decide_eq_true (by rw [← hX]; exact hlt)
     rw [this, Bool.or_true] at e1
     cases e1
   ·rw [hyk, hk] at e3
    have e4 : putR 5 A k (putX 1 A y S 0 L) = one1 k (putX 1 A y S 0 L) := by
     rcases hAl with rfl | ⟨rfl, _⟩
     ·exact put_nil (by omega)
     ·exact put_one (by omega)
    rw [e4] at e3
    exact ⟨verN 1 (getR A (keyS y.nm y.ty)) y, _, e3⟩
 have HGz : Hid (timB L = true → setOk y = true → b.tl ≠ 0 → ∀ w C T n ver v, RCA W w C T 5 n ver (one1 k ⟨y, S, 0, v, L + ttl y⟩) → Calls Tryz.prog 13 #[pt C, .string a.nm, .int .i64 a.ty, .int .i64 L] w fun e w' => FrC w w' ∧ RCA W w' C T 5 n ver (one1 k ⟨y, S, 0, v, L + ttl y⟩) ∧ (∃ q1 c1 q2 c2 tl, e = .returned (.tuple #[.agg (evC (⟨⟨y.nm, y.ty, y.cl, tl, y.ds, y.sg⟩, S, 0, v, L + ttl y⟩ : Ev) q1 c1 q2 c2).toArray, .bool true]) ∧ Told w' w.heap.size ⟨y.nm, y.ty, y.cl, tl, y.ds, y.sg⟩ q1 c1 q2 c2 ∧ SvI ⟨y.nm, y.ty, y.cl, tl, y.ds, y.sg⟩ ∧ sameS ⟨y.nm, y.ty, y.cl, tl, y.ds, y.sg⟩ y = true)) := fun ht hso h0 w C T n ver v hr => by
  have hl : L < (⟨y, S, 0, v, L + ttl y⟩ : Ev).un := by
   have := ttl_pos hso (by rw [hyt]; exact h0)
   show L < L + ttl y
   omega
  have hev := (hr.ok _ (List.mem_cons_self)).2
  refine (aget_in hr a.nm hnm a.ty L hty).mono ?_
  rintro e w' ⟨g1, g2, g3⟩
  rw [hk, (tell_one ht hl).2] at g1
  rw [hk, (tell_one ht hl).1] at g3
  rcases g3 with ⟨g4, _⟩ | ⟨x, q1, c1, q2, c2, g4, g5, g6⟩
  ·cases g4
  ·cases g4
   have hL0 := (tim_iff.1 ht).1
   exact ⟨g2, g1, q1, c1, q2, c2, min (L + ttl y - L) 604800, g5, g6, (told_ok hev hL0 hl).2, same_told hev hL0 hl⟩
 have HS1 : Hid (timB L = true → L < X.un → ∀ w n ver C T, RCA W w C T 5 n ver (one1 k X) → setOk (toldE X L).s = true ∧ SvI (toldE X L).s) := fun ht hl w n ver C T hr => told_ok (hr.ok _ (List.mem_cons_self)).2 (tim_iff.1 ht).1 hl
 have hXs : (toldE X L).rk = F ∧ (toldE X L).ve = 1 := by rw [← hX]; exact ⟨rfl, rfl⟩
 have HXs := Hid.mk hXs
 have HLt : Hid (timB now = true → L < 4294967296 → timB L = true) := fun ht hl => by have := tim_iff.1 ht; exact tim_iff.2 ⟨by omega, by omega⟩
 have HWl : Hid (timB now = true → IntKind.i64.wrap (now + (L - now)) = L) := fun ht => by have := tim_iff.1 ht; rw [IntKind.wrap_i64]; omega
 obtain ⟨V, hV⟩ : ∃ V, (W.alloc (.cells (svC a qa ca ga ka).toArray 34)).alloc (.cells (svC b qb cb gb kb).toArray 34) = V := ⟨_, rfl⟩
 have X0 : Bx2 W W.heap.size (svC a qa ca ga ka) 34 (W.heap.size + 1) (svC b qb cb gb kb) 34 V := hV ▸ Bx2.new W _ _ _ _
 have bV : Below N W V := by rw [← hN]; exact X0.x.bel
 have hB2 : B2 V N [.string a.nm, .int .i64 a.ty, .int .i64 a.cl, .int .i64 a.tl, .slice qa a.ds.length ca, .slice ga a.sg.length ka] [.string b.nm, .int .i64 b.ty, .int .i64 b.cl, .int .i64 b.tl, .slice qb b.ds.length cb, .slice gb b.sg.length kb] := ⟨by rw [← hN]; exact X0.x.hb, by rw [← hN]; exact X0.y.hb⟩
 have HBV := Hid.mk (And.intro bV hB2)
 have HbW : Hid (∀ U, Below N W U → ∀ w C T, RCA U w C T 5 0 0 [] → RCA W w C T 5 0 0 []) := fun U hU w C T hr => hr.base (by rw [hN]; exact hU)
 have HNW : Hid (W.heap.size = N) := hN
 have hsc : svC a qa ca ga ka = [.string a.nm, .int .i64 a.ty, .int .i64 a.cl, .int .i64 a.tl, .slice qa a.ds.length ca, .slice ga a.sg.length ka] := rfl
 have HSm : Hid (∀ w (x z : Sv), SvI x → SvI z → ∀ q1 c1 q2 c2 q3 c3 q4 c4, SvAt w x q1 c1 q2 c2 → SvAt w z q3 c3 q4 c4 → Calls Tryz.prog 22 #[.agg (svC x q1 c1 q2 c2).toArray, .agg (svC z q3 c3 q4 c4).toArray] w fun e w' => e = .returned (.bool (sameS x z)) ∧ Below w.heap.size w w') := fun w x z hx hz q1 c1 q2 c2 q3 c3 q4 c4 h5 h6 => setSame_in x z hx.sv hz.sv q1 c1 q2 c2 q3 c3 q4 c4 w h5 h6
 have HY := Hid.mk hY
 have HYi := Hid.mk hyi
 have HYy := Hid.mk hy
 rw [hsc] at HPa
 rw [hyc] at HPb
 simp only [svC] at hV ⊢
 have HV := Hid.mk hV
 have HFS : Hid ((1 ≤ F ∧ F ≤ 4) ∧ (1 ≤ S ∧ S ≤ 4)) := ⟨hFb, hSb⟩
 clear ha hb hA hB h1 h2 h3 h4 hy hyi hyt hyk hyc hY hF hS hL hFb hSb hLb hp1 hp2 hp3 hnm hty hk hX hXs hV X0 bV hB2 hsc
 go_enter Tryz.func6, Tryz.ntmps6
 go_upto_region 1 with fail
 (try rw [hN])
 rw [HV.out]
 clear hN
 go_wp2_with fail
 refine (HE.out _).mono ?_
 rintro e w3 ⟨rfl, hb3⟩
 have HB3 : Hid (Below N W w3) := HBV.out.1.trans (hb3.mono (by have := blk_lt HBV.out.2.a; omega))
 have HB2 := Hid.mk (HBV.out.2.blk hb3)
 clear hb3
 go_wp2_with fail
 refine (HN5.out _).mono ?_
 rintro e w4 ⟨C, T, rfl, hr4⟩
 have hB4 := HB2.out.blk hr4.bel
 have hr4' := HbW.out _ HB3.out _ _ _ hr4
 obtain ⟨U, hU⟩ : ∃ U, (w4.setCell ⟨N + 1, 0, none⟩ (.string a.nm)).setCell ⟨N + 1, 1, none⟩ (.int .i64 a.ty) = U := ⟨_, rfl⟩
 have hBU : B2 U N [.string a.nm, .int .i64 a.ty, .int .i64 a.cl, .int .i64 a.tl, .slice qa a.ds.length ca, .slice ga a.sg.length ka] [.string a.nm, .int .i64 a.ty, .int .i64 b.cl, .int .i64 b.tl, .slice qb b.ds.length cb, .slice gb b.sg.length kb] := by
  rw [← hU]
  refine ⟨?_, set_blk (set_blk hB4.b 0 _) 1 _⟩
  rw [Below.heap_setCell _ _ _ _ (by show N ≠ N + 1; omega), Below.heap_setCell _ _ _ _ (by show N ≠ N + 1; omega)]
  exact hB4.a
 have hrU : RCA W U C T 5 0 0 [] := by
  rw [← hU]
  have hNW : W.heap.size ≤ N + 1 := by rw [HNW.out]; omega
  exact (hr4'.setS hB4.b hNW 0 _).setS (set_blk hB4.b 0 _) hNW 1 _
 obtain ⟨x0, x1, x2, x3, x4, x5⟩ := six_cells hB4.a
 obtain ⟨y0, y1, y2, y3, y4, y5⟩ := six_cells hB4.b
 obtain ⟨f0, f1, _⟩ := six_free hB4.b
 have HU := Hid.mk hU
 have HBU := Hid.mk hBU
 have HC5 := Hid.mk (HPa.out _ C T hrU)
 clear hU hBU hrU hB4 hr4 hr4'
 go_upto_region 7 with fail
 rw [HU.out]
 clear x0 x1 x2 x3 x4 x5 y0 y1 y2 y3 y4 y5 f0 f1
 go_wp2_with fail
 refine (HPk1.out _).mono ?_
 rintro e w5 ⟨rfl, rfl⟩
 go_wp2_with fail
 refine (HPk2.out _).mono ?_
 rintro e w5 ⟨rfl, rfl⟩
 obtain ⟨x0, x1, x2, x3, x4, x5⟩ := six_cells HBU.out.a
 go_wp2_with fail
 refine HC5.out.mono ?_
 rintro e w6 ⟨hf6, hc6⟩
 have HB6 := Hid.mk (HBU.out.frc hf6)
 clear x0 x1 x2 x3 x4 x5 hf6
 rcases hc6 with ⟨er, her, rfl, hr6⟩ | ⟨rfl, hp6, hr6⟩
 ·have HL6 := Hid.mk (HLen.out _ C T hr6)
  have HBel : Hid (Below N W w6) := by rw [Hid, ← HNW.out]; exact hr6.bel
  clear hr6
  rcases her with rfl | rfl
  ·go_wp2_with fail
   refine HL6.out.mono ?_
   rintro e w7 ⟨rfl, rfl⟩
   go_wp2
   go_ret
   exact ⟨rfl, by rw [HNW.out]; exact HBel.out⟩
  ·go_wp2_with fail
   refine HL6.out.mono ?_
   rintro e w7 ⟨rfl, rfl⟩
   go_wp2
   go_ret
   exact ⟨rfl, by rw [HNW.out]; exact HBel.out⟩
 have HR6 := Hid.mk hr6
 have HP6 := Hid.mk hp6
 have wl := HWl.out hp6.2.1
 clear hr6 hp6
 go_wp2_with fail
 refine (HPk3.out _).mono ?_
 rintro e w7 ⟨rfl, rfl⟩
 by_cases hL2 : L ≥ 4294967296
 ·have HBel : Hid (Below N W w7) := by rw [Hid, ← HNW.out]; exact HR6.out.bel
  go_wp2
  go_ret
  exact ⟨rfl, by rw [HNW.out]; exact HBel.out⟩
 have HT : Hid (timB L = true) := HLt.out HP6.out.2.1 (by omega)
 obtain ⟨x0, x1, x2, x3, x4, x5⟩ := six_cells HB6.out.a
 by_cases hun : L < X.un
 ·have HUn := Hid.mk hun
  have HG1 := Hid.mk (HGy.out HT.out hun _ C T 1 1 HR6.out)
  have HSx := Hid.mk (HS1.out HT.out hun _ _ _ _ _ HR6.out)
  clear hun
  go_wp2_with fail
  refine HG1.out.mono ?_
  rintro e w8 ⟨hf8, hr8, q1, c1, q2, c2, rfl, ht8⟩
  obtain ⟨P, hP⟩ : ∃ P, w8.heap.size = P := ⟨_, rfl⟩
  obtain ⟨V8, hV8⟩ : ∃ V, w8.alloc (.cells (evC (toldE X L) q1 c1 q2 c2).toArray 44) = V := ⟨_, rfl⟩
  have b8 : Below w8.heap.size w8 V8 := by rw [← hV8]; exact (Below.refl _ _).alloc (Nat.le_refl _) _
  have g8 : V8.heap[P]? = some (.cells (evC (toldE X L) q1 c1 q2 c2).toArray 44 (0, 0)) := by rw [← hV8, ← hP]; exact heap_alloc_new w8 _
  have HT8 := Hid.mk (ht8.frc (FrC.below b8))
  have HB8 := Hid.mk ((HB6.out.frc hf8).blk b8)
  have HR8 := Hid.mk (hr8.blk b8)
  have HG8 := Hid.mk g8
  simp only [evC] at hV8
  have HV8 := Hid.mk hV8
  clear hf8 hr8 ht8 hV8 b8 g8 x0 x1 x2 x3 x4 x5
  simp only [evC]
  go_upto_region 16 with fail
  (try rw [hP])
  rw [HV8.out]
  clear hP
  have HP2 := Hid.mk (HPb.out HT.out _ C T _ (.inr ⟨rfl, HUn.out⟩) HR8.out)
  obtain ⟨y0, y1, y2, y3, y4, y5⟩ := six_cells HB8.out.b
  go_wp2_with fail
  refine HP2.out.mono ?_
  rintro e w9 ⟨hf9, hc9⟩
  have HB9 := Hid.mk (HB8.out.frc hf9)
  have HG9 := Hid.mk (box_blk HG8.out hf9)
  have HT9 := Hid.mk (HT8.out.frc hf9)
  clear y0 y1 y2 y3 y4 y5 hf9
  obtain ⟨x0, x1, x2, x3, x4, x5⟩ := six_cells HB9.out.a
  rcases hc9 with ⟨er, her, rfl, hr9⟩ | ⟨hA9, hSF, hb0, rfl, hr9⟩ | ⟨hb0, hSF, rfl, hso, v, ver, hr9⟩
  ·have HG3 := Hid.mk (HGy.out HT.out HUn.out _ C T 1 1 hr9)
   go_wp2_with fail
   refine HG3.out.mono ?_
   rintro e w10 ⟨hfa, hra, q3, c3, q4, c4, rfl, hta⟩
   obtain ⟨R, hR⟩ : ∃ R, w10.heap.size = R := ⟨_, rfl⟩
   obtain ⟨VA, hVA⟩ : ∃ V, w10.alloc (.cells (evC (toldE X L) q3 c3 q4 c4).toArray 44) = V := ⟨_, rfl⟩
   have bA : Below w10.heap.size w10 VA := by rw [← hVA]; exact (Below.refl _ _).alloc (Nat.le_refl _) _
   have gA : VA.heap[R]? = some (.cells (evC (toldE X L) q3 c3 q4 c4).toArray 44 (0, 0)) := by rw [← hVA, ← hR]; exact heap_alloc_new w10 _
   have HBA := Hid.mk ((HB9.out.frc hfa).blk bA)
   have HGA := Hid.mk (box_blk (box_blk HG9.out hfa) (FrC.below bA))
   have HRA := Hid.mk (hra.blk bA)
   have HBel : Hid (Below N W VA) := by rw [Hid, ← HNW.out]; exact HRA.out.bel
   have HgA := Hid.mk gA
   clear hta
   (try simp only [evC] at hVA)
   have HVA := Hid.mk hVA
   clear hVA bA gA x0 x1 x2 x3 x4 x5
   (try clear hfa hra)
   (try simp only [evC])
   go_upto_region 18 with fail
   (try rw [hR])
   rw [HVA.out]
   clear hR
   rcases her with rfl | ⟨rfl, hb0⟩
   ·clear hr9
    obtain ⟨p0, p6, p8⟩ := ten_cells HGA.out
    obtain ⟨r0, r6, r8⟩ := ten_cells HgA.out
    obtain ⟨y0, y1, y2, y3, y4, y5⟩ := six_cells HBA.out.b
    rw [HXs.out.2] at p8 r8
    clear p0 r0
    go_wp2
    go_ret
    exact ⟨by simp, by rw [HNW.out]; exact HBel.out⟩
   ·have e0 : (b.tl == 0) = true := by simpa using hb0
    clear hr9
    obtain ⟨p0, p6, p8⟩ := ten_cells HGA.out
    obtain ⟨r0, r6, r8⟩ := ten_cells HgA.out
    obtain ⟨y0, y1, y2, y3, y4, y5⟩ := six_cells HBA.out.b
    rw [HXs.out.2] at p8 r8
    clear p0 r0
    go_wp2
    go_ret
    exact ⟨by simp, by rw [HNW.out]; exact HBel.out⟩
  ·have HG3 := Hid.mk (HGy.out HT.out HUn.out _ C T 1 1 hr9)
   go_wp2_with fail
   refine HG3.out.mono ?_
   rintro e w10 ⟨hfa, hra, q3, c3, q4, c4, rfl, hta⟩
   obtain ⟨R, hR⟩ : ∃ R, w10.heap.size = R := ⟨_, rfl⟩
   obtain ⟨VA, hVA⟩ : ∃ V, w10.alloc (.cells (evC (toldE X L) q3 c3 q4 c4).toArray 44) = V := ⟨_, rfl⟩
   have bA : Below w10.heap.size w10 VA := by rw [← hVA]; exact (Below.refl _ _).alloc (Nat.le_refl _) _
   have gA : VA.heap[R]? = some (.cells (evC (toldE X L) q3 c3 q4 c4).toArray 44 (0, 0)) := by rw [← hVA, ← hR]; exact heap_alloc_new w10 _
   have HBA := Hid.mk ((HB9.out.frc hfa).blk bA)
   have HGA := Hid.mk (box_blk (box_blk HG9.out hfa) (FrC.below bA))
   have HRA := Hid.mk (hra.blk bA)
   have HBel : Hid (Below N W VA) := by rw [Hid, ← HNW.out]; exact HRA.out.bel
   have HgA := Hid.mk gA
   have HTA := Hid.mk (hta.frc (FrC.below bA))
   have HTx := Hid.mk ((HT9.out.frc hfa).frc (FrC.below bA))
   clear hta
   (try simp only [evC] at hVA)
   have HVA := Hid.mk hVA
   clear hVA bA gA x0 x1 x2 x3 x4 x5
   (try clear hfa hra)
   (try simp only [evC])
   go_upto_region 18 with fail
   (try rw [hR])
   rw [HVA.out]
   clear hR
   have e0 : (b.tl == 0) = false := by simpa using hb0
   have HSe : Hid (sameS (toldE X L).s (toldE X L).s = true) := sameS_refl HSx.out.1
   obtain ⟨⟨p0, p1, p2, p3, p4, p5⟩, p6, p8⟩ := ten_cells HGA.out
   obtain ⟨⟨r0, r1, r2, r3, r4, r5⟩, r6, r8⟩ := ten_cells HgA.out
   obtain ⟨y0, y1, y2, y3, y4, y5⟩ := six_cells HBA.out.b
   have HSm2 := Hid.mk (HSm.out VA (toldE X L).s (toldE X L).s HSx.out.2 HSx.out.2 _ _ _ _ _ _ _ _ HTA.out.sv HTx.out.sv)
   rw [HSe.out] at HSm2
   simp only [svC] at HSm2
   rw [HXs.out.2] at p8 r8
   rw [HXs.out.1] at r6
   clear hr9 hA9 hb0
   go_wp2_with fail
   refine HSm2.out.mono ?_
   rintro e w12 ⟨rfl, hb12⟩
   have HBel2 : Hid (Below N W w12) := HBel.out.trans (hb12.mono (by have := HBel.out.size; rw [HNW.out] at this; exact this))
   clear hb12
   go_wp2
   go_ret
   exact ⟨by simp, by rw [HNW.out]; exact HBel2.out⟩
  ·have HG3 := Hid.mk (HGz.out HT.out hso hb0 _ C T 2 ver v hr9)
   go_wp2_with fail
   refine HG3.out.mono ?_
   rintro e w10 ⟨hfa, hra, q3, c3, q4, c4, tl, rfl, hta, hsi, hsa⟩
   obtain ⟨R, hR⟩ : ∃ R, w10.heap.size = R := ⟨_, rfl⟩
   obtain ⟨VA, hVA⟩ : ∃ V, w10.alloc (.cells (evC (⟨⟨y.nm, y.ty, y.cl, tl, y.ds, y.sg⟩, S, 0, v, L + ttl y⟩ : Ev) q3 c3 q4 c4).toArray 44) = V := ⟨_, rfl⟩
   have bA : Below w10.heap.size w10 VA := by rw [← hVA]; exact (Below.refl _ _).alloc (Nat.le_refl _) _
   have gA : VA.heap[R]? = some (.cells (evC (⟨⟨y.nm, y.ty, y.cl, tl, y.ds, y.sg⟩, S, 0, v, L + ttl y⟩ : Ev) q3 c3 q4 c4).toArray 44 (0, 0)) := by rw [← hVA, ← hR]; exact heap_alloc_new w10 _
   have HBA := Hid.mk ((HB9.out.frc hfa).blk bA)
   have HGA := Hid.mk (box_blk (box_blk HG9.out hfa) (FrC.below bA))
   have HRA := Hid.mk (hra.blk bA)
   have HBel : Hid (Below N W VA) := by rw [Hid, ← HNW.out]; exact HRA.out.bel
   have HgA := Hid.mk gA
   have HTA := Hid.mk (hta.frc (FrC.below bA))
   have HSI := Hid.mk hsi
   have HSA := Hid.mk hsa
   clear hta hsi hsa
   (try simp only [evC] at hVA)
   have HVA := Hid.mk hVA
   clear hVA bA gA x0 x1 x2 x3 x4 x5
   (try clear hfa hra)
   (try simp only [evC])
   go_upto_region 18 with fail
   (try rw [hR])
   rw [HVA.out]
   clear hR
   have e0 : (b.tl == 0) = false := by simpa using hb0
   obtain ⟨⟨p0, p1, p2, p3, p4, p5⟩, p6, p8⟩ := ten_cells HGA.out
   obtain ⟨⟨r0, r1, r2, r3, r4, r5⟩, r6, r8⟩ := ten_cells HgA.out
   obtain ⟨y0, y1, y2, y3, y4, y5⟩ := six_cells HBA.out.b
   have HSm2 := Hid.mk (HSm.out VA ⟨y.nm, y.ty, y.cl, tl, y.ds, y.sg⟩ y HSI.out HYi.out _ _ _ _ _ _ _ _ HTA.out.sv (HY.out VA HBel.out))
   rw [HSA.out] at HSm2
   have HYc : Hid (y.nm = a.nm ∧ y.ty = a.ty ∧ y.cl = b.cl ∧ y.tl = b.tl ∧ y.ds = b.ds ∧ y.sg = b.sg) := by rw [Hid, ← HYy.out]; exact ⟨rfl, rfl, rfl, rfl, rfl, rfl⟩
   simp only [svC] at HSm2
   rw [HYc.out.1, HYc.out.2.1, HYc.out.2.2.1, HYc.out.2.2.2.1, HYc.out.2.2.2.2.1, HYc.out.2.2.2.2.2] at HSm2
   rw [HYc.out.1] at r0
   rw [HYc.out.2.1] at r1
   rw [HYc.out.2.2.1] at r2
   rw [HYc.out.2.2.2.2.1] at r4
   rw [HYc.out.2.2.2.2.2] at r5
   clear hr9 hb0 hso
   have e1 : ¬ S < F := by have := hSF (by trivial); omega
   clear hSF
   go_wp2_with fail
   refine HSm2.out.mono ?_
   rintro e w12 ⟨rfl, hb12⟩
   have HBel2 : Hid (Below N W w12) := HBel.out.trans (hb12.mono (by have := HBel.out.size; rw [HNW.out] at this; exact this))
   clear hb12
   go_wp2
   go_ret
   exact ⟨by simp, by rw [HNW.out]; exact HBel2.out⟩
 ·have HG1 := Hid.mk (HGo.out HT.out (by omega) _ C T 1 1 HR6.out)
  clear hun
  go_wp2_with fail
  refine HG1.out.mono ?_
  rintro e w8 ⟨hf8, hr8, rfl⟩
  obtain ⟨P, hP⟩ : ∃ P, w8.heap.size = P := ⟨_, rfl⟩
  obtain ⟨V8, hV8⟩ : ∃ V, w8.alloc (.cells ([.string ⟨#[]⟩, .int .i64 0, .int .i64 0, .int .i64 0, .slice none 0 0, .slice none 0 0, .int .i64 0, .int .i64 0, .int .i64 0, .int .i64 0] : List Value).toArray 44) = V := ⟨_, rfl⟩
  have b8 : Below w8.heap.size w8 V8 := by rw [← hV8]; exact (Below.refl _ _).alloc (Nat.le_refl _) _
  have g8 : V8.heap[P]? = some (.cells ([.string ⟨#[]⟩, .int .i64 0, .int .i64 0, .int .i64 0, .slice none 0 0, .slice none 0 0, .int .i64 0, .int .i64 0, .int .i64 0, .int .i64 0] : List Value).toArray 44 (0, 0)) := by rw [← hV8, ← hP]; exact heap_alloc_new w8 _
  have HB8 := Hid.mk ((HB6.out.frc hf8).blk b8)
  have HR8 := Hid.mk (hr8.blk b8)
  have HG8 := Hid.mk g8
  have HV8 := Hid.mk hV8
  clear hf8 hr8 hV8 b8 g8 x0 x1 x2 x3 x4 x5
  go_upto_region 16 with fail
  (try rw [hP])
  rw [HV8.out]
  clear hP
  have HP2 := Hid.mk (HPb.out HT.out _ C T _ (.inl rfl) HR8.out)
  obtain ⟨y0, y1, y2, y3, y4, y5⟩ := six_cells HB8.out.b
  go_wp2_with fail
  refine HP2.out.mono ?_
  rintro e w9 ⟨hf9, hc9⟩
  have HB9 := Hid.mk (HB8.out.frc hf9)
  have HG9 := Hid.mk (box_blk HG8.out hf9)
  clear y0 y1 y2 y3 y4 y5 hf9
  obtain ⟨x0, x1, x2, x3, x4, x5⟩ := six_cells HB9.out.a
  rcases hc9 with ⟨er, her, rfl, hr9⟩ | ⟨hA9, hSF, hb0, rfl, hr9⟩ | ⟨hb0, hSF, rfl, hso, v, ver, hr9⟩
  ·have HG3 := Hid.mk (HGn.out _ C T 1 1 hr9)
   go_wp2_with fail
   refine HG3.out.mono ?_
   rintro e w10 ⟨hfa, hra, rfl⟩
   obtain ⟨R, hR⟩ : ∃ R, w10.heap.size = R := ⟨_, rfl⟩
   obtain ⟨VA, hVA⟩ : ∃ V, w10.alloc (.cells ([.string ⟨#[]⟩, .int .i64 0, .int .i64 0, .int .i64 0, .slice none 0 0, .slice none 0 0, .int .i64 0, .int .i64 0, .int .i64 0, .int .i64 0] : List Value).toArray 44) = V := ⟨_, rfl⟩
   have bA : Below w10.heap.size w10 VA := by rw [← hVA]; exact (Below.refl _ _).alloc (Nat.le_refl _) _
   have gA : VA.heap[R]? = some (.cells ([.string ⟨#[]⟩, .int .i64 0, .int .i64 0, .int .i64 0, .slice none 0 0, .slice none 0 0, .int .i64 0, .int .i64 0, .int .i64 0, .int .i64 0] : List Value).toArray 44 (0, 0)) := by rw [← hVA, ← hR]; exact heap_alloc_new w10 _
   have HBA := Hid.mk ((HB9.out.frc hfa).blk bA)
   have HGA := Hid.mk (box_blk (box_blk HG9.out hfa) (FrC.below bA))
   have HRA := Hid.mk (hra.blk bA)
   have HBel : Hid (Below N W VA) := by rw [Hid, ← HNW.out]; exact HRA.out.bel
   have HgA := Hid.mk gA
   (try simp only [evC] at hVA)
   have HVA := Hid.mk hVA
   clear hVA bA gA x0 x1 x2 x3 x4 x5
   (try clear hfa hra)
   (try simp only [evC])
   go_upto_region 18 with fail
   (try rw [hR])
   rw [HVA.out]
   clear hR
   rcases her with rfl | ⟨rfl, hb0⟩
   ·clear hr9
    obtain ⟨p0, p6, p8⟩ := ten_cells HGA.out
    obtain ⟨r0, r6, r8⟩ := ten_cells HgA.out
    obtain ⟨y0, y1, y2, y3, y4, y5⟩ := six_cells HBA.out.b
    clear p0 r0
    go_wp2
    go_ret
    exact ⟨by simp, by rw [HNW.out]; exact HBel.out⟩
   ·have e0 : (b.tl == 0) = true := by simpa using hb0
    clear hr9
    obtain ⟨p0, p6, p8⟩ := ten_cells HGA.out
    obtain ⟨r0, r6, r8⟩ := ten_cells HgA.out
    obtain ⟨y0, y1, y2, y3, y4, y5⟩ := six_cells HBA.out.b
    clear p0 r0
    go_wp2
    go_ret
    exact ⟨by simp, by rw [HNW.out]; exact HBel.out⟩
  ·exact absurd hA9 (by simp)
  ·have HG3 := Hid.mk (HGz.out HT.out hso hb0 _ C T 2 ver v hr9)
   go_wp2_with fail
   refine HG3.out.mono ?_
   rintro e w10 ⟨hfa, hra, q3, c3, q4, c4, tl, rfl, hta, hsi, hsa⟩
   obtain ⟨R, hR⟩ : ∃ R, w10.heap.size = R := ⟨_, rfl⟩
   obtain ⟨VA, hVA⟩ : ∃ V, w10.alloc (.cells (evC (⟨⟨y.nm, y.ty, y.cl, tl, y.ds, y.sg⟩, S, 0, v, L + ttl y⟩ : Ev) q3 c3 q4 c4).toArray 44) = V := ⟨_, rfl⟩
   have bA : Below w10.heap.size w10 VA := by rw [← hVA]; exact (Below.refl _ _).alloc (Nat.le_refl _) _
   have gA : VA.heap[R]? = some (.cells (evC (⟨⟨y.nm, y.ty, y.cl, tl, y.ds, y.sg⟩, S, 0, v, L + ttl y⟩ : Ev) q3 c3 q4 c4).toArray 44 (0, 0)) := by rw [← hVA, ← hR]; exact heap_alloc_new w10 _
   have HBA := Hid.mk ((HB9.out.frc hfa).blk bA)
   have HGA := Hid.mk (box_blk (box_blk HG9.out hfa) (FrC.below bA))
   have HRA := Hid.mk (hra.blk bA)
   have HBel : Hid (Below N W VA) := by rw [Hid, ← HNW.out]; exact HRA.out.bel
   have HgA := Hid.mk gA
   have HTA := Hid.mk (hta.frc (FrC.below bA))
   have HSI := Hid.mk hsi
   have HSA := Hid.mk hsa
   clear hta hsi hsa
   (try simp only [evC] at hVA)
   have HVA := Hid.mk hVA
   clear hVA bA gA x0 x1 x2 x3 x4 x5
   (try clear hfa hra)
   (try simp only [evC])
   go_upto_region 18 with fail
   (try rw [hR])
   rw [HVA.out]
   clear hR
   have e0 : (b.tl == 0) = false := by simpa using hb0
   obtain ⟨⟨p0, p1, p2, p3, p4, p5⟩, p6, p8⟩ := ten_cells HGA.out
   obtain ⟨⟨r0, r1, r2, r3, r4, r5⟩, r6, r8⟩ := ten_cells HgA.out
   obtain ⟨y0, y1, y2, y3, y4, y5⟩ := six_cells HBA.out.b
   have HSm2 := Hid.mk (HSm.out VA ⟨y.nm, y.ty, y.cl, tl, y.ds, y.sg⟩ y HSI.out HYi.out _ _ _ _ _ _ _ _ HTA.out.sv (HY.out VA HBel.out))
   rw [HSA.out] at HSm2
   have HYc : Hid (y.nm = a.nm ∧ y.ty = a.ty ∧ y.cl = b.cl ∧ y.tl = b.tl ∧ y.ds = b.ds ∧ y.sg = b.sg) := by rw [Hid, ← HYy.out]; exact ⟨rfl, rfl, rfl, rfl, rfl, rfl⟩
   simp only [svC] at HSm2
   rw [HYc.out.1, HYc.out.2.1, HYc.out.2.2.1, HYc.out.2.2.2.1, HYc.out.2.2.2.2.1, HYc.out.2.2.2.2.2] at HSm2
   rw [HYc.out.1] at r0
   rw [HYc.out.2.1] at r1
   rw [HYc.out.2.2.1] at r2
   rw [HYc.out.2.2.2.2.1] at r4
   rw [HYc.out.2.2.2.2.2] at r5
   clear hr9 hb0 hso
   clear hSF
   go_wp2_with fail
   refine HSm2.out.mono ?_
   rintro e w12 ⟨rfl, hb12⟩
   have HBel2 : Hid (Below N W w12) := HBel.out.trans (hb12.mono (by have := HBel.out.size; rw [HNW.out] at this; exact this))
   clear hb12
   go_wp2
   go_ret
   exact ⟨by simp, by rw [HNW.out]; exact HBel2.out⟩
end Go.Proofs.YthionnpohcgoaaaGreatDoor.Rc
