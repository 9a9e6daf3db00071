/- Texts of this proof, joined: RcX, RcPk, RcRb, RcVf, RcVs, RcFf. -/
import Derived.Test.YthionnpohcgoaaaGreatDoorJ23
import Derived.Laws.AppendOwn
import Derived.Laws.OwnMore
import Derived.Maps.AppendAt
set_option linter.unusedVariables false
set_option linter.unusedSimpArgs false
/- Layer 16: the chapter's examples. -/
namespace Go.Proofs.YthionnpohcgoaaaGreatDoor.Rc
open Go.RowKit
abbrev nmm (l : N3) : ByteArray := Go.Proofs.YthionnpohcgoaaaGreatDoor.nm l
def xN : N3 := [[97]]
def xM : N3 := [[65]]
theorem ok_n : OkN xN := ⟨by decide, by decide⟩
theorem ok_m : OkN xM := ⟨by decide, by decide⟩
theorem low_m : lowF (nmm xM) = nmm xN := by
 rw [lowF_nm ok_m]
 rfl
theorem low_n : lowF (nmm xN) = nmm xN := by
 rw [lowF_nm ok_n]
 rfl
def xd (b : UInt8) : ByteArray := ⟨#[10, 0, 0, b]⟩
theorem dRt_x (b : UInt8) : dRt 1 (xd b) = true := by
 unfold dRt
 have : splitR 1 (xd b) = some [xd b] := (split_iff 1 (xd b) [xd b]).2 ⟨by decide, by simp [xd, ByteArray.size], by rfl, by
  have : formOf 1 = [.grp 4 1 10 46] := rfl
  rw [this]
  exact ⟨rfl, trivial⟩⟩
 rw [this]
 rfl
def xS (n : N3) (b : UInt8) (t : Int) : Sv := ⟨nmm n, 1, 1, t, [xd b], []⟩
theorem ok_x {n : N3} (h : OkN n) (b : UInt8) : setOk (xS n b 10) = true := by
 unfold setOk headOk datOk sigOk xS lowsS
 simp only [isN_yes ⟨n, h, rfl⟩, List.all_cons, List.all_nil, dRt_x]
 rfl
theorem svI_x {n : N3} (h : OkN n) (b : UInt8) : SvI (xS n b 10) := by
 refine ⟨⟨?_, ?_, ?_⟩, ?_, ?_, ?_⟩
 ·have : (nmm n).size ≤ 255 := name_size ⟨n, h, rfl⟩
  show (nmm n).size ≤ maxLen
  unfold maxLen
  omega
 ·intro d hd
  obtain rfl : d = xd b := by simpa [xS] using hd
  show 4 ≤ maxLen
  decide
 ·intro d hd
  cases hd
 ·show I64 1
  unfold I64; omega
 ·show I64 1
  unfold I64; omega
 ·show I64 10
  unfold I64; omega
def xK : Ky := (nmm xN, 1)
theorem key_n : keyS (nmm xN) 1 = xK := by unfold keyS; rw [low_n]; rfl
theorem key_m : keyS (nmm xM) 1 = xK := by unfold keyS; rw [low_m]; rfl
def xE : Ev := ⟨xS xN 1 10, 3, 0, 1, 15⟩
theorem put1 : putOk (xS xN 1 10) 3 0 5 = true ∧ refused [] (xS xN 1 10) 3 5 = false ∧ putR 2 [] (keyS (xS xN 1 10).nm (xS xN 1 10).ty) (putX 0 [] (xS xN 1 10) 3 0 5) = [(xK, xE)] := by
 refine ⟨putOk_iff.2 ⟨rfl, ok_x ok_n 1, by decide, by decide, by decide⟩, rfl, ?_⟩
 rw [show keyS (xS xN 1 10).nm (xS xN 1 10).ty = xK from key_n]
 rfl
theorem put2 : putOk (xS xM 2 10) 1 0 6 = true ∧ refused [(xK, xE)] (xS xM 2 10) 1 6 = true := by
 refine ⟨putOk_iff.2 ⟨rfl, ok_x ok_m 2, by decide, by decide, by decide⟩, ?_⟩
 unfold refused
 rw [show keyS (xS xM 2 10).nm (xS xM 2 10).ty = xK from key_m, getR_cons, if_pos rfl]
 rfl
theorem get1 : foundA [(xK, xE)] (keyS (nmm xM) 1) 9 = some xE ∧ getA [(xK, xE)] (keyS (nmm xM) 1) 9 = [(xK, xE)] := by
 rw [key_m]
 have hw : without [(xK, xE)] xK = [] := by unfold without; simp
 constructor
 ·unfold foundA
  rw [if_pos (by rfl), getR_cons, if_pos rfl]
  rfl
 ·unfold getA
  rw [if_pos (by rfl), getR_cons, if_pos rfl, hw]
  rfl
theorem get2 : foundA [(xK, xE)] (keyS (nmm xN) 1) 15 = none ∧ getA [(xK, xE)] (keyS (nmm xN) 1) 15 = [] := by
 rw [key_n]
 have hw : without [(xK, xE)] xK = [] := by unfold without; simp
 constructor
 ·unfold foundA
  rw [if_pos (by rfl), getR_cons, if_pos rfl]
  rfl
 ·unfold getA
  rw [if_pos (by rfl), getR_cons, if_pos rfl, hw]
  rfl
def zS : Sv := ⟨⟨#[]⟩, 0, 0, 0, [], []⟩
theorem put3 : putOk zS 1 0 0 = false := by
 cases h : putOk zS 1 0 0 with
 | false => rfl
 | true =>
  have := (putOk_iff.1 h).1
  cases this
theorem svI_z : SvI zS := by
 have h0 : I64 0 := by unfold I64; omega
 exact ⟨⟨by decide, fun d hd => (by cases hd), fun d hd => (by cases hd)⟩, h0, h0, h0⟩
theorem svAt_z (w : World) : SvAt w zS none 0 none 0 := ⟨fun j hj => (by cases hj), fun j hj => (by cases hj), ⟨Nat.le_refl _, by decide⟩, ⟨Nat.le_refl _, by decide⟩⟩
set_option maxRecDepth 100000 in
theorem one_in (n : N3) (b : UInt8) (w : World) : Calls Tryz.prog 23 #[.string (nmm n), .string ⟨#[b]⟩, .int .i64 10] w fun e w' => ∃ q, e = .returned (.agg (svC (xS n b 10) q 1 none 0).toArray) ∧ SvAt w' (xS n b 10) q 1 none 0 ∧ Below w.heap.size w w' := by
 have HX : ∀ (u : World) c, (u.alloc (.cells c 34)).heap[u.heap.size]? = some (.cells c 34 (0, 0)) := fun u c => heap_alloc_new u _
 have ha : (⟨#[10, 0, 0]⟩ : ByteArray) ++ ⟨#[b]⟩ = xd b := rfl
 unfold xS
 simp only [svC]
 generalize nmm n = x
 go_enter Tryz.func23, Tryz.ntmps23
 go_wp2
 refine bodyPost_ret (results_cell_row Tryz.results23 _ _ w.heap.size 34 _ (0, 0) _ (by rfl) (show _ = some _ from (by rw [Below.heap_alloc _ _ _ (by simp)]; exact HX w _)) Tryz.underlying34 rfl (by kernel_rfl)) rfl ?_
 refine ⟨_, rfl, ⟨fun j hj => ?_, fun j hj => (by cases hj), ⟨Nat.le_refl _, by show 1 ≤ maxLen; decide⟩, ⟨Nat.le_refl _, by decide⟩⟩, ((Below.refl _ _).alloc (Nat.le_refl _) _).alloc (by simp) _⟩
 obtain rfl : j = 0 := by simp at hj; omega
 refine ⟨w.heap.size + 1, 0, rfl, by simp, ?_⟩
 have g : ((w.alloc (.cells #[.string x, .int .i64 1, .int .i64 1, .int .i64 10, .slice (some ⟨w.heap.size + 1, 0, none⟩) 1 1, .slice none 0 0] 34)).alloc (.cells #[.string (xd b)] 9)).heap[w.heap.size + 1]? = some (.cells #[.string (xd b)] 9 (0, 0)) := by
  have := heap_alloc_new (w.alloc (.cells #[.string x, .int .i64 1, .int .i64 1, .int .i64 10, .slice (some ⟨w.heap.size + 1, 0, none⟩) 1 1, .slice none 0 0] 34)) (.cells #[.string (xd b)] 9)
  simpa using this
 rw [So.cell_blk g]
 rfl
theorem nm_n : nmm xN = ⟨#[1, 97, 0]⟩ := rfl
theorem nm_m : nmm xM = ⟨#[1, 65, 0]⟩ := rfl
set_option maxRecDepth 100000 in
set_option maxHeartbeats 8000000 in
theorem examples_in (W : World) : Calls Tryz.prog 7 #[] W fun e w' => e = .returned (.bool true) ∧ Below W.heap.size W w' := by
 have HN : Hid (Calls Tryz.prog 8 #[.int .i64 2] W fun e w' => ∃ C T, e = .returned (.tuple #[pt C, .int .i64 0]) ∧ RCA W w' C T 2 0 0 []) := anew_in W 2 (by omega) (by omega)
 have H0 : Hid (∀ w, Calls Tryz.prog 8 #[.int .i64 0] w fun e w' => e = .returned (.tuple #[nilP, .int .i64 1]) ∧ w' = w) := fun w => rnew_no w 0 (.inl (by omega))
 have HO1 : Hid (∀ w, Calls Tryz.prog 23 #[.string ⟨#[1, 97, 0]⟩, .string ⟨#[1]⟩, .int .i64 10] w fun e w' => ∃ q, e = .returned (.agg (svC (xS xN 1 10) q 1 none 0).toArray) ∧ SvAt w' (xS xN 1 10) q 1 none 0 ∧ Below w.heap.size w w') := fun w => one_in xN 1 w
 have HO2 : Hid (∀ w, Calls Tryz.prog 23 #[.string ⟨#[1, 65, 0]⟩, .string ⟨#[2]⟩, .int .i64 10] w fun e w' => ∃ q, e = .returned (.agg (svC (xS xM 2 10) q 1 none 0).toArray) ∧ SvAt w' (xS xM 2 10) q 1 none 0 ∧ Below w.heap.size w w') := fun w => one_in xM 2 w
 have HP1 : Hid (∀ w C T q, RCA W w C T 2 0 0 [] → SvAt w (xS xN 1 10) q 1 none 0 → Calls Tryz.prog 11 #[pt C, .agg (svC (xS xN 1 10) q 1 none 0).toArray, .int .i64 3, .int .i64 0, .int .i64 5] w fun e w' => e = .returned (.tuple #[.bool true, .int .i64 0]) ∧ RCA W w' C T 2 1 1 [(xK, xE)]) := fun w C T q hr hat => by
  refine (aput_in hr (by omega) (xS xN 1 10) (svI_x ok_n 1) q 1 none 0 hat 3 0 5).mono ?_
  rintro e w' ⟨hp, hf⟩
  rcases hp with ⟨h1, _⟩ | ⟨_, h1, _⟩ | ⟨_, _, h2, h3⟩
  ·rw [put1.1] at h1; cases h1
  ·rw [put1.2.1] at h1; cases h1
  ·rw [put1.2.2] at h3
   exact ⟨h2, h3⟩
 have HP2 : Hid (∀ w C T q, RCA W w C T 2 1 1 [(xK, xE)] → SvAt w (xS xM 2 10) q 1 none 0 → Calls Tryz.prog 11 #[pt C, .agg (svC (xS xM 2 10) q 1 none 0).toArray, .int .i64 1, .int .i64 0, .int .i64 6] w fun e w' => e = .returned (.tuple #[.bool false, .int .i64 0]) ∧ RCA W w' C T 2 1 1 [(xK, xE)]) := fun w C T q hr hat => by
  refine (aput_in hr (by omega) (xS xM 2 10) (svI_x ok_m 2) q 1 none 0 hat 1 0 6).mono ?_
  rintro e w' ⟨hp, hf⟩
  rcases hp with ⟨h1, _⟩ | ⟨_, _, h2, h3⟩ | ⟨_, h1, _⟩
  ·rw [put2.1] at h1; cases h1
  ·exact ⟨h2, h3⟩
  ·rw [put2.2] at h1; cases h1
 have HP3 : Hid (∀ w C T, RCA W w C T 2 1 1 [] → Calls Tryz.prog 11 #[pt C, .agg (svC zS none 0 none 0).toArray, .int .i64 1, .int .i64 0, .int .i64 0] w fun e w' => e = .returned (.tuple #[.bool false, .int .i64 1]) ∧ RCA W w' C T 2 1 1 [] ∧ FrC w w') := fun w C T hr => by
  refine (aput_in hr (by omega) zS svI_z none 0 none 0 (svAt_z w) 1 0 0).mono ?_
  rintro e w' ⟨hp, hf⟩
  rcases hp with ⟨_, h2, h3⟩ | ⟨h1, _⟩ | ⟨h1, _⟩
  ·exact ⟨h2, h3, hf⟩
  ·rw [put3] at h1; cases h1
  ·rw [put3] at h1; cases h1
 have HG1 : Hid (∀ w C T, RCA W w C T 2 1 1 [(xK, xE)] → Calls Tryz.prog 13 #[pt C, .string ⟨#[1, 65, 0]⟩, .int .i64 1, .int .i64 9] w fun e w' => (∃ q1 c1 q2 c2, e = .returned (.tuple #[.agg #[.string ⟨#[1, 97, 0]⟩, .int .i64 1, .int .i64 1, .int .i64 6, .slice q1 1 c1, .slice q2 0 c2, .int .i64 3, .int .i64 0, .int .i64 1, .int .i64 15], .bool true])) ∧ RCA W w' C T 2 1 1 [(xK, xE)]) := fun w C T hr => by
  refine (aget_in hr (nmm xM) (by rw [nm_m]; decide) 1 9 (by unfold I64; omega)).mono ?_
  rintro e w' ⟨h1, hf, hp⟩
  rw [get1.2] at h1
  rcases hp with ⟨h2, _⟩ | ⟨x, q1, c1, q2, c2, h2, h3, h4⟩
  ·rw [get1.1] at h2; cases h2
  ·rw [get1.1] at h2
   cases h2
   exact ⟨⟨q1, c1, q2, c2, h3⟩, h1⟩
 have HG2 : Hid (∀ w C T, RCA W w C T 2 1 1 [(xK, xE)] → Calls Tryz.prog 13 #[pt C, .string ⟨#[1, 97, 0]⟩, .int .i64 1, .int .i64 15] w fun e w' => e = .returned (.tuple #[.agg #[.string ⟨#[]⟩, .int .i64 0, .int .i64 0, .int .i64 0, .slice none 0 0, .slice none 0 0, .int .i64 0, .int .i64 0, .int .i64 0, .int .i64 0], .bool false]) ∧ RCA W w' C T 2 1 1 [] ∧ FrC w w') := fun w C T hr => by
  refine (aget_in hr (nmm xN) (by rw [nm_n]; decide) 1 15 (by unfold I64; omega)).mono ?_
  rintro e w' ⟨h1, hf, hp⟩
  rw [get2.2] at h1
  rcases hp with ⟨h2, h3⟩ | ⟨x, q1, c1, q2, c2, h2, h3, h4⟩
  ·exact ⟨h3, h1, hf⟩
  ·rw [get2.1] at h2; cases h2
 have HL : Hid (∀ w C T, RCA W w C T 2 1 1 [] → Calls Tryz.prog 20 #[pt C] w fun e w' => e = .returned (.int .i64 0) ∧ w' = w) := fun w C T hr => alen_in hr
 simp only [svC, xS] at HO1 HO2 HP1 HP2 HP3
 go_enter Tryz.func7, Tryz.ntmps7
 go_wp2_with fail
 refine HN.out.mono ?_
 rintro e w1 ⟨C, T, rfl, hr1⟩
 have HR1 := Hid.mk hr1
 clear hr1
 go_wp2_with fail
 refine (H0.out _).mono ?_
 rintro e w2 ⟨rfl, rfl⟩
 go_wp2_with fail
 refine (HO1.out _).mono ?_
 rintro e w3 ⟨q, rfl, hat, hb⟩
 have HC3 := Hid.mk (HP1.out _ C T q (HR1.out.blk hb) hat)
 clear hat hb
 go_wp2_with fail
 refine HC3.out.mono ?_
 rintro e w4 ⟨rfl, hr4⟩
 have HR4 := Hid.mk hr4
 clear hr4
 go_wp2_with fail
 refine (HO2.out _).mono ?_
 rintro e w5 ⟨q, rfl, hat, hb⟩
 have HC5 := Hid.mk (HP2.out _ C T q (HR4.out.blk hb) hat)
 clear hat hb
 go_wp2_with fail
 refine HC5.out.mono ?_
 rintro e w6 ⟨rfl, hr6⟩
 have HC6 := Hid.mk (HG1.out _ C T hr6)
 clear hr6
 go_wp2_with fail
 refine HC6.out.mono ?_
 rintro e w7 ⟨⟨q1, c1, q2, c2, rfl⟩, hr7⟩
 obtain ⟨B, hB⟩ : ∃ B, w7.heap.size = B := ⟨_, rfl⟩
 obtain ⟨V, hV⟩ : ∃ V, w7.alloc (.cells #[.string ⟨#[1, 97, 0]⟩, .int .i64 1, .int .i64 1, .int .i64 6, .slice q1 1 c1, .slice q2 0 c2, .int .i64 3, .int .i64 0, .int .i64 1, .int .i64 15] 44) = V := ⟨_, rfl⟩
 have gV : V.heap[B]? = some (.cells #[.string ⟨#[1, 97, 0]⟩, .int .i64 1, .int .i64 1, .int .i64 6, .slice q1 1 c1, .slice q2 0 c2, .int .i64 3, .int .i64 0, .int .i64 1, .int .i64 15] 44 (0, 0)) := by rw [← hV, ← hB]; exact heap_alloc_new w7 _
 have rV : RCA W V C T 2 1 1 [(xK, xE)] := hr7.blk (by rw [← hV]; exact (Below.refl _ _).alloc (Nat.le_refl _) _)
 have HgV := Hid.mk gV
 have HC7 := Hid.mk (HG2.out _ C T rV)
 have HV := Hid.mk hV
 clear hr7 hV gV rV
 go_upto_region 8 with fail
 (try rw [hB])
 rw [HV.out]
 go_wp2_with fail
 refine HC7.out.mono ?_
 rintro e w8 ⟨rfl, hr8, hf8⟩
 have g8 := hf8.same B _ _ _ HgV.out (by decide) (by decide) (by decide)
 obtain ⟨V8, hV8⟩ : ∃ V, w8.alloc (.cells #[.string ⟨#[]⟩, .int .i64 0, .int .i64 0, .int .i64 0, .slice none 0 0, .slice none 0 0, .int .i64 0, .int .i64 0, .int .i64 0, .int .i64 0] 44) = V := ⟨_, rfl⟩
 have b8 : Below w8.heap.size w8 V8 := by rw [← hV8]; exact (Below.refl _ _).alloc (Nat.le_refl _) _
 have HC8 := Hid.mk (HP3.out _ C T (hr8.blk b8))
 have Hg8 := Hid.mk ((b8.block B (blk_lt g8)).trans g8)
 have HV8 := Hid.mk hV8
 clear hr8 hf8 g8 hV8 b8 hB
 go_upto_region 9 with fail
 rw [HV8.out]
 go_wp2_with fail
 refine HC8.out.mono ?_
 rintro e w9 ⟨rfl, hr9, hf9⟩
 have g9 := hf9.same B _ _ _ Hg8.out (by decide) (by decide) (by decide)
 have HC9 := Hid.mk (HL.out _ C T hr9)
 have HE := Hid.mk hr9.bel
 have d0 : w9.cell? ⟨B, 0, none⟩ = some (.string ⟨#[1, 97, 0]⟩) := by rw [So.cell_blk g9]; rfl
 have d3 : w9.cell? ⟨B, 3, none⟩ = some (.int .i64 6) := by rw [So.cell_blk g9]; rfl
 have d6 : w9.cell? ⟨B, 6, none⟩ = some (.int .i64 3) := by rw [So.cell_blk g9]; rfl
 have d8 : w9.cell? ⟨B, 8, none⟩ = some (.int .i64 1) := by rw [So.cell_blk g9]; rfl
 clear hr9 hf9 g9
 go_wp2_with fail
 refine HC9.out.mono ?_
 rintro e w10 ⟨rfl, rfl⟩
 go_wp2
 go_ret
 exact ⟨rfl, HE.out⟩
end Go.Proofs.YthionnpohcgoaaaGreatDoor.Rc
/- Layer 16: pick. -/
namespace Go.Proofs.YthionnpohcgoaaaGreatDoor.Rc
open Go.RowKit
def pickR (c : Int) (n : Int) : Int := (if c < 0 then -(c + 1) else c).tmod n
theorem pickR_ge (c n : Int) : 0 ≤ pickR c n := by
 unfold pickR
 apply Int.tmod_nonneg
 split <;> omega
theorem pickR_lt (c n : Int) (h : 0 < n) : pickR c n < n := Int.tmod_lt_of_pos _ h
theorem pick_in (w : World) (c n : Int) (hc : -9223372036854775808 ≤ c ∧ c ≤ 9223372036854775807) (hn : 0 < n) (hn2 : n ≤ 1000000000) :
  Calls Tryz.prog 9 #[.int .i64 c, .int .i64 n] w fun e w' => e = .returned (.int .i64 (pickR c n)) ∧ w' = w := by
 have hn0 : ¬ n = 0 := by omega
 have hge := pickR_ge c n
 have hlt := pickR_lt c n hn
 by_cases h : c < 0
 ·have hp : pickR c n = (-(c + 1)).tmod n := by unfold pickR; rw [if_pos h]
  rw [hp] at hge hlt ⊢
  go_enter Tryz.func9, Tryz.ntmps9
  go_wp2
  go_ret
  refine ⟨?_, rfl⟩
  show Ending.returned (Value.int .i64 (-(c + 1).tmod n)) = _
  rw [Int.neg_tmod]
 ·have hp : pickR c n = c.tmod n := by unfold pickR; rw [if_neg h]
  rw [hp] at hge hlt ⊢
  go_enter Tryz.func9, Tryz.ntmps9
  go_wp2
  go_ret
  refine ⟨?_, rfl⟩
  show Ending.returned (Value.int .i64 (c % n)) = _
  rw [Int.tmod_eq_emod_of_nonneg (by omega)]
end Go.Proofs.YthionnpohcgoaaaGreatDoor.Rc
/- Layer 16: a cache beside boxes of a law's own; facts of RrcacheRanks. -/
namespace Go.Proofs.YthionnpohcgoaaaGreatDoor.Rc
open Go.RowKit
theorem RC.base {U W w : World} {C T m n : Nat} {ver : Int} {l : ML} {Q : Nat → Prop} (h : RC W w C T m n ver l Q) (hb : Below U.heap.size U W) : RC U w C T m n ver l Q := by
 obtain ⟨E, M, L, ho, e⟩ := h.tab
 have hs := hb.size
 exact ⟨h.bx, Nat.le_trans hs h.own, ⟨E, M, L, ⟨ho.tab, fun b hb' => Nat.le_trans hs (ho.own b hb'), hb.trans (ho.bel.mono hs)⟩, e⟩, fun p hp => ⟨(h.ev p hp).1, Nat.le_trans hs (h.ev p hp).2⟩, h.ok, h.len, h.nd, h.vb, h.mb⟩
theorem RCA.base {U W w : World} {C T m n : Nat} {ver : Int} {A : AL} (h : RCA W w C T m n ver A) (hb : Below U.heap.size U W) : RCA U w C T m n ver A := by
 obtain ⟨l, Q, hr, e⟩ := h.ex
 exact ⟨l, Q, hr.base hb, e⟩
theorem ttl_zero {s : Sv} (h : setOk s = true) : ttl s = 0 ↔ s.tl = 0 := by
 have := (setOk_head h).1
 unfold ttl
 omega
theorem same_told {n : Nat} {x : Ev} {now : Int} (h : EvI n x) (h0 : 0 ≤ now) (h1 : now < x.un) : sameS (toldE x now).s x.s = true := by
 have hu := h.un
 exact sameS_symm (sameS_tl h.ok (by omega) (by omega))
end Go.Proofs.YthionnpohcgoaaaGreatDoor.Rc
/- Layer 16: facts of RrcacheVersions; a cache beside a row of a law's own. -/
namespace Go.Proofs.YthionnpohcgoaaaGreatDoor.Rc
open Go.RowKit
theorem getA_mem {A : AL} {k : Ky} {now : Int} : ∀ p ∈ getA A k now, p ∈ A := by
 intro p hp
 unfold getA at hp
 split at hp
 ·split at hp
  ·exact hp
  ·rename_i v hv
   split at hp
   ·exact (mem_without.1 hp).1
   ·rcases List.mem_cons.1 hp with rfl | hp
    ·exact getR_mem hv
    ·exact (mem_without.1 hp).1
 ·exact hp
end Go.Proofs.YthionnpohcgoaaaGreatDoor.Rc
/- Layer 16: what was told, gathered in a row of the law's own. -/
namespace Go.Proofs.YthionnpohcgoaaaGreatDoor.Rc
open Go.RowKit
theorem flat_at {z : Nat} : ∀ {rows : List (List Value)}, (∀ r ∈ rows, r.length = z) → ∀ (j : Nat) (hj : j < rows.length) (i : Nat), i < z → rows.flatten[j * z + i]? = rows[j][i]?
 | r :: rows, h, 0, _, i, hi => by
  rw [List.flatten_cons, Nat.zero_mul, Nat.zero_add, List.getElem?_append_left (by rw [h r (by simp)]; exact hi)]
  rfl
 | r :: rows, h, j + 1, hj, i, hi => by
  have hr := h r (by simp)
  have ih := flat_at (rows := rows) (fun x hx => h x (List.mem_cons_of_mem _ hx)) j (by simpa using hj) i hi
  rw [List.flatten_cons, List.getElem?_append_right (by rw [hr, Nat.add_mul]; omega), hr, show (j + 1) * z + i - z = j * z + i by rw [Nat.add_mul]; omega, ih]
  rfl
theorem info_p {e : TypeId} {z : Value} {size bytes : Nat} (h : (Tryz.prog.info? e).map (fun i => (i.zero, i.size, i.bytes)) = some (some z, size, bytes)) : ∃ i0, Tryz.prog.info? e = some i0 ∧ i0.zero = some z ∧ i0.size = size ∧ i0.bytes = bytes := by
 cases hi : Tryz.prog.info? e with
 | none => rw [hi] at h; cases h
 | some i0 =>
  rw [hi] at h
  simp only [Option.map_some, Option.some.injEq, Prod.mk.injEq] at h
  exact ⟨i0, rfl, h.1, h.2.1, h.2.2⟩
end Go.Proofs.YthionnpohcgoaaaGreatDoor.Rc
/- Layer 16: facts of RrcacheFresh. -/
namespace Go.Proofs.YthionnpohcgoaaaGreatDoor.Rc
open Go.RowKit
structure FI (A : AL) (L : List Dd) (now : Int) : Prop where
 ex : ∀ p ∈ A, ∃ (j : Nat) (d : Dd), L[j]? = some d ∧ p.2.s = d.s ∧ p.2.rk = d.rk ∧ p.2.un = d.nw + ttl d.s ∧ ttl d.s ≠ 0 ∧ ∀ (i : Nat) (c : Dd), j < i → L[i]? = some c → keyS c.s.nm c.s.ty = p.1 → ttl c.s ≠ 0 → c.rk < p.2.rk
 ok : ∀ d ∈ L, setOk d.s = true ∧ SvI d.s ∧ 0 ≤ d.nw ∧ d.nw ≤ now
theorem FI.nil : FI [] [] 0 := ⟨fun p hp => (by cases hp), fun d hd => (by cases hd)⟩
theorem FI.later {A : AL} {L : List Dd} {now now' : Int} (h : FI A L now) (hn : now ≤ now') : FI A L now' := ⟨h.ex, fun d hd => by
 obtain ⟨h1, h2, h3, h4⟩ := h.ok d hd
 exact ⟨h1, h2, h3, by omega⟩⟩
theorem FI.sub {A B : AL} {L : List Dd} {now : Int} (h : FI A L now) (hs : ∀ p ∈ B, p ∈ A) : FI B L now := ⟨fun p hp => h.ex p (hs p hp), h.ok⟩
theorem getR_key {A : AL} (hk : (A.map Prod.fst).Nodup) {p : Ky × Ev} (hp : p ∈ A) : getR A p.1 = some p.2 := by
 induction A with
 | nil => cases hp
 | cons q A ih =>
  rw [List.map_cons, List.nodup_cons] at hk
  rw [getR_cons]
  rcases List.mem_cons.1 hp with rfl | hp
  ·rw [if_pos rfl]
  ·rw [if_neg (fun (e : q.1 = p.1) => hk.1 (by rw [e]; exact List.mem_map_of_mem hp)), ih hk.2 hp]
theorem snoc_at {α : Type} {L : List α} {d c : α} {i : Nat} (h : (L ++ [d])[i]? = some c) : (L[i]? = some c ∧ i < L.length) ∨ (i = L.length ∧ c = d) := by
 by_cases hi : i < L.length
 ·rw [List.getElem?_append_left hi] at h
  exact .inl ⟨h, hi⟩
 ·have h2 := (List.getElem?_eq_some_iff.1 h).1
  simp at h2
  have : i = L.length := by omega
  subst this
  simp at h
  exact .inr ⟨rfl, h.symm⟩
theorem FI.put {m n : Nat} {ver : Int} {A : AL} {L : List Dd} {d : Dd} (h : FI A L d.nw) (hk : (A.map Prod.fst).Nodup) (hA : ∀ p ∈ A, EvI n p.2) (h0 : putOk d.s d.rk d.se d.nw = true) (hs : SvI d.s) :
  (refused A d.s d.rk d.nw = true → FI A (L ++ [d]) d.nw ∧ (0 < d.s.tl → d.rk ≠ 4)) ∧ (refused A d.s d.rk d.nw = false → FI (putR m A (keyS d.s.nm d.s.ty) (putX ver A d.s d.rk d.se d.nw)) (L ++ [d]) d.nw) := by
 obtain ⟨_, hso, _, _, hnw⟩ := putOk_iff.1 h0
 have hok : ∀ c ∈ L ++ [d], setOk c.s = true ∧ SvI c.s ∧ 0 ≤ c.nw ∧ c.nw ≤ d.nw := fun c hc => by
  rcases List.mem_append.1 hc with hc | hc
  ·exact h.ok c hc
  ·obtain rfl := List.mem_singleton.1 hc
   exact ⟨hso, hs, hnw.1, Int.le_refl _⟩
 have old : ∀ p ∈ A, (keyS d.s.nm d.s.ty = p.1 → ttl d.s ≠ 0 → d.rk < p.2.rk) → ∃ (j : Nat) (c : Dd), (L ++ [d])[j]? = some c ∧ p.2.s = c.s ∧ p.2.rk = c.rk ∧ p.2.un = c.nw + ttl c.s ∧ ttl c.s ≠ 0 ∧ ∀ (i : Nat) (e : Dd), j < i → (L ++ [d])[i]? = some e → keyS e.s.nm e.s.ty = p.1 → ttl e.s ≠ 0 → e.rk < p.2.rk := fun p hp hd => by
  obtain ⟨j, c, h1, h2, h3, h4, h5, h6⟩ := h.ex p hp
  refine ⟨j, c, by rw [List.getElem?_append_left (List.getElem?_eq_some_iff.1 h1).1]; exact h1, h2, h3, h4, h5, fun i e hij he hke hte => ?_⟩
  rcases snoc_at he with ⟨he, _⟩ | ⟨_, rfl⟩
  ·exact h6 i e hij he hke hte
  ·exact hd hke hte
 constructor
 ·intro hr
  have hst : ttl d.s ≠ 0 → ∃ x, getR A (keyS d.s.nm d.s.ty) = some x ∧ d.rk < x.rk := fun hz => by
   unfold refused at hr
   rw [decide_eq_false hz, Bool.false_or] at hr
   cases hg : getR A (keyS d.s.nm d.s.ty) with
   | none => rw [hg] at hr; cases hr
   | some x =>
    rw [hg] at hr
    unfold stops at hr
    rw [Bool.and_eq_true] at hr
    exact ⟨x, rfl, of_decide_eq_true hr.2⟩
  refine ⟨⟨fun p hp => old p hp fun hke hz => ?_, hok⟩, fun htl h4 => ?_⟩
  ·obtain ⟨x, hx, hlt⟩ := hst hz
   rw [hke, getR_key hk hp] at hx
   cases hx
   exact hlt
  ·have hz : ttl d.s ≠ 0 := fun e => by have := (ttl_zero hso).1 e; omega
   obtain ⟨x, hx, hlt⟩ := hst hz
   have h9 : 1 ≤ x.rk ∧ x.rk ≤ 4 := (hA _ (getR_mem hx)).rk
   omega
 ·intro hr
  refine ⟨fun p hp => ?_, hok⟩
  rcases mem_putR hp with rfl | ⟨hp, hne⟩
  ·have hz : ttl d.s ≠ 0 := fun e => by unfold refused at hr; rw [decide_eq_true e] at hr; cases hr
   refine ⟨L.length, d, by simp, rfl, rfl, rfl, hz, fun i e hij he => ?_⟩
   have := (List.getElem?_eq_some_iff.1 he).1
   simp at this
   omega
  ·exact old p hp fun hke => absurd hke.symm hne
theorem FI.found {n : Nat} {A : AL} {L : List Dd} {now : Int} (h : FI A L now) (hA : ∀ p ∈ A, p.1 = keyS p.2.s.nm p.2.s.ty ∧ EvI n p.2) {q : Dd} (hq : q ∈ L) {x : Ev} (hf : foundA A (keyS q.s.nm q.s.ty) now = some x) :
  setOk (toldE x now).s = true ∧ SvI (toldE x now).s ∧ ∃ (j : Nat) (d : Dd), L[j]? = some d ∧ (d.s.ty = q.s.ty ∧ eqF d.s.nm q.s.nm = true ∧ d.s.tl ≠ 0) ∧ sameS d.s (toldE x now).s = true ∧ d.rk = (toldE x now).rk ∧ (toldE x now).s.tl = min d.s.tl 604800 - (now - d.nw) ∧ (∀ (i : Nat) (c : Dd), j < i → L[i]? = some c → c.s.ty = q.s.ty → eqF c.s.nm q.s.nm = true → c.s.tl ≠ 0 → c.rk < (toldE x now).rk) := by
 obtain ⟨ht, hg, ho⟩ := found_is hf
 have hm := getR_mem hg
 obtain ⟨hxk, hx⟩ := hA _ hm
 have hlt := over_lt ho
 have h0 := (tim_iff.1 ht).1
 obtain ⟨j, d, h1, h2, h3, h4, h5, h6⟩ := h.ex _ hm
 have hdL : d ∈ L := List.mem_of_getElem? h1
 obtain ⟨hdo, hdi, hd0, hdn⟩ := h.ok d hdL
 obtain ⟨hqo, hqi, _⟩ := h.ok q hq
 have hkd : keyS d.s.nm d.s.ty = keyS q.s.nm q.s.ty := by rw [← h2]; exact hxk.symm
 have hkk : ∀ c ∈ L, c.s.ty = q.s.ty → eqF c.s.nm q.s.nm = true → keyS c.s.nm c.s.ty = keyS q.s.nm q.s.ty := fun c hc e1 e2 => by
  unfold keyS
  rw [(eqF_key (setOk_nm (h.ok c hc).1) (setOk_nm hqo)).1 e2, e1]
 have hkd' := Prod.ext_iff.1 hkd
 refine ⟨(told_ok hx h0 hlt).1, (told_ok hx h0 hlt).2, j, d, h1, ⟨hkd'.2, (eqF_key (setOk_nm hdo) (setOk_nm hqo)).2 hkd'.1, fun e => h5 ((ttl_zero hdo).2 e)⟩, ?_, h3.symm, ?_, fun i c hij hc e1 e2 e3 => ?_⟩
 ·have := same_told hx h0 hlt
  rw [h2] at this
  exact sameS_symm this
 ·show min (x.un - now) 604800 = _
  have e4 : x.un = d.nw + ttl d.s := h4
  have htt : ttl d.s = min d.s.tl 604800 := rfl
  omega
 ·have hcL := List.mem_of_getElem? hc
  exact h6 i c hij hc (hkk c hcL e1 e2) (fun e => e3 ((ttl_zero (h.ok c hcL).1).1 e))
theorem RC.keys {W w : World} {C T m n : Nat} {ver : Int} {l : ML} {Q : Nat → Prop} (h : RC W w C T m n ver l Q) : ((abs l).map Prod.fst).Nodup := by
 obtain ⟨E, M, L, ho, e⟩ := h.tab
 have := ho.tab.kn
 have e2 : (abs l).map Prod.fst = ks L := by
  have : (kv L).map Prod.fst = (l.map fun p => (p.1, p.2.1)).map Prod.fst := by rw [e]
  unfold abs
  rw [List.map_map] at this ⊢
  unfold kv at this
  rw [List.map_map] at this
  unfold ks
  exact this.symm
 rw [e2]
 exact this
theorem RCA.keys {W w : World} {C T m n : Nat} {ver : Int} {A : AL} (h : RCA W w C T m n ver A) : (A.map Prod.fst).Nodup := by
 obtain ⟨l, Q, hr, rfl⟩ := h.ex
 exact hr.keys
end Go.Proofs.YthionnpohcgoaaaGreatDoor.Rc
