/- Texts of this proof, joined: RcX, RcPk, RcRb, RcVf, RcVs, RcVt. -/
import Derived.Test.YthionnpohcgoaaaGreatDoorJ23
import Derived.Laws.AppendOwn
import Derived.Laws.OwnMore
import Derived.Maps.AppendAt
set_option linter.unusedVariables false
set_option linter.unusedSimpArgs false
/- Layer 16: the chapter's examples. -/
namespace Go.Proofs.YthionnpohcgoaaaGreatDoor.Rc
open Go.RowKit
abbrev nmm (l : N3) : ByteArray := Go.Proofs.YthionnpohcgoaaaGreatDoor.nm l
def xN : N3 := [[97]]
def xM : N3 := [[65]]
theorem ok_n : OkN xN := ⟨by decide, by decide⟩
theorem ok_m : OkN xM := ⟨by decide, by decide⟩
theorem low_m : lowF (nmm xM) = nmm xN := by
  rw [lowF_nm ok_m]
  rfl
theorem low_n : lowF (nmm xN) = nmm xN := by
  rw [lowF_nm ok_n]
  rfl
def xd (b : UInt8) : ByteArray := ⟨#[10, 0, 0, b]⟩
theorem dRt_x (b : UInt8) : dRt 1 (xd b) = true := by
  unfold dRt
  have : splitR 1 (xd b) = some [xd b] := (split_iff 1 (xd b) [xd b]).2 ⟨by decide, by simp [xd, ByteArray.size], by rfl, by
    have : formOf 1 = [.grp 4 1 10 46] := rfl
    rw [this]
    exact ⟨rfl, trivial⟩⟩
  rw [this]
  rfl
def xS (n : N3) (b : UInt8) (t : Int) : Sv := ⟨nmm n, 1, 1, t, [xd b], []⟩
theorem ok_x {n : N3} (h : OkN n) (b : UInt8) : setOk (xS n b 10) = true := by
  unfold setOk headOk datOk sigOk xS lowsS
  simp only [isN_yes ⟨n, h, rfl⟩, List.all_cons, List.all_nil, dRt_x]
  rfl
theorem svI_x {n : N3} (h : OkN n) (b : UInt8) : SvI (xS n b 10) := by
  refine ⟨⟨?_, ?_, ?_⟩, ?_, ?_, ?_⟩
  · have : (nmm n).size ≤ 255 := name_size ⟨n, h, rfl⟩
    show (nmm n).size ≤ maxLen
    unfold maxLen
    omega
  · intro d hd
    obtain rfl : d = xd b := by simpa [xS] using hd
    show 4 ≤ maxLen
    decide
  · intro d hd
    cases hd
  · show I64 1
    unfold I64; omega
  · show I64 1
    unfold I64; omega
  · show I64 10
    unfold I64; omega
def xK : Ky := (nmm xN, 1)
theorem key_n : keyS (nmm xN) 1 = xK := by unfold keyS; rw [low_n]; rfl
theorem key_m : keyS (nmm xM) 1 = xK := by unfold keyS; rw [low_m]; rfl
def xE : Ev := ⟨xS xN 1 10, 3, 0, 1, 15⟩
theorem put1 : putOk (xS xN 1 10) 3 0 5 = true ∧ refused [] (xS xN 1 10) 3 5 = false ∧ putR 2 [] (keyS (xS xN 1 10).nm (xS xN 1 10).ty) (putX 0 [] (xS xN 1 10) 3 0 5) = [(xK, xE)] := by
  refine ⟨putOk_iff.2 ⟨rfl, ok_x ok_n 1, by decide, by decide, by decide⟩, rfl, ?_⟩
  rw [show keyS (xS xN 1 10).nm (xS xN 1 10).ty = xK from key_n]
  rfl
theorem put2 : putOk (xS xM 2 10) 1 0 6 = true ∧ refused [(xK, xE)] (xS xM 2 10) 1 6 = true := by
  refine ⟨putOk_iff.2 ⟨rfl, ok_x ok_m 2, by decide, by decide, by decide⟩, ?_⟩
  unfold refused
  rw [show keyS (xS xM 2 10).nm (xS xM 2 10).ty = xK from key_m, getR_cons, if_pos rfl]
  rfl
theorem get1 : foundA [(xK, xE)] (keyS (nmm xM) 1) 9 = some xE ∧ getA [(xK, xE)] (keyS (nmm xM) 1) 9 = [(xK, xE)] := by
  rw [key_m]
  have hw : without [(xK, xE)] xK = [] := by unfold without; simp
  constructor
  · unfold foundA
    rw [if_pos (by rfl), getR_cons, if_pos rfl]
    rfl
  · unfold getA
    rw [if_pos (by rfl), getR_cons, if_pos rfl, hw]
    rfl
theorem get2 : foundA [(xK, xE)] (keyS (nmm xN) 1) 15 = none ∧ getA [(xK, xE)] (keyS (nmm xN) 1) 15 = [] := by
  rw [key_n]
  have hw : without [(xK, xE)] xK = [] := by unfold without; simp
  constructor
  · unfold foundA
    rw [if_pos (by rfl), getR_cons, if_pos rfl]
    rfl
  · unfold getA
    rw [if_pos (by rfl), getR_cons, if_pos rfl, hw]
    rfl
def zS : Sv := ⟨⟨#[]⟩, 0, 0, 0, [], []⟩
theorem put3 : putOk zS 1 0 0 = false := by
  cases h : putOk zS 1 0 0 with
  | false => rfl
  | true =>
    have := (putOk_iff.1 h).1
    cases this
theorem svI_z : SvI zS := by
  have h0 : I64 0 := by unfold I64; omega
  exact ⟨⟨by decide, fun d hd => (by cases hd), fun d hd => (by cases hd)⟩, h0, h0, h0⟩
theorem svAt_z (w : World) : SvAt w zS none 0 none 0 := ⟨fun j hj => (by cases hj), fun j hj => (by cases hj), ⟨Nat.le_refl _, by decide⟩, ⟨Nat.le_refl _, by decide⟩⟩
set_option maxRecDepth 100000 in
theorem one_in (n : N3) (b : UInt8) (w : World) : Calls Tryz.prog 23 #[.string (nmm n), .string ⟨#[b]⟩, .int .i64 10] w fun e w' => ∃ q, e = .returned (.agg (svC (xS n b 10) q 1 none 0).toArray) ∧ SvAt w' (xS n b 10) q 1 none 0 ∧ Below w.heap.size w w' := by
  have HX : ∀ (u : World) c, (u.alloc (.cells c 34)).heap[u.heap.size]? = some (.cells c 34 (0, 0)) := fun u c => heap_alloc_new u _
  have ha : (⟨#[10, 0, 0]⟩ : ByteArray) ++ ⟨#[b]⟩ = xd b := rfl
  unfold xS
  simp only [svC]
  generalize nmm n = x
  go_enter Tryz.func23, Tryz.ntmps23
  go_wp2
  refine bodyPost_ret (results_cell_row Tryz.results23 _ _ w.heap.size 34 _ (0, 0) _ (by rfl) (show _ = some _ from (by rw [Below.heap_alloc _ _ _ (by simp)]; exact HX w _)) Tryz.underlying34 rfl (by kernel_rfl)) rfl ?_
  refine ⟨_, rfl, ⟨fun j hj => ?_, fun j hj => (by cases hj), ⟨Nat.le_refl _, by show 1 ≤ maxLen; decide⟩, ⟨Nat.le_refl _, by decide⟩⟩, ((Below.refl _ _).alloc (Nat.le_refl _) _).alloc (by simp) _⟩
  obtain rfl : j = 0 := by simp at hj; omega
  refine ⟨w.heap.size + 1, 0, rfl, by simp, ?_⟩
  have g : ((w.alloc (.cells #[.string x, .int .i64 1, .int .i64 1, .int .i64 10, .slice (some ⟨w.heap.size + 1, 0, none⟩) 1 1, .slice none 0 0] 34)).alloc (.cells #[.string (xd b)] 9)).heap[w.heap.size + 1]? = some (.cells #[.string (xd b)] 9 (0, 0)) := by
    have := heap_alloc_new (w.alloc (.cells #[.string x, .int .i64 1, .int .i64 1, .int .i64 10, .slice (some ⟨w.heap.size + 1, 0, none⟩) 1 1, .slice none 0 0] 34)) (.cells #[.string (xd b)] 9)
    simpa using this
  rw [So.cell_blk g]
  rfl
theorem nm_n : nmm xN = ⟨#[1, 97, 0]⟩ := rfl
theorem nm_m : nmm xM = ⟨#[1, 65, 0]⟩ := rfl
set_option maxRecDepth 100000 in
set_option maxHeartbeats 8000000 in
theorem examples_in (W : World) : Calls Tryz.prog 7 #[] W fun e w' => e = .returned (.bool true) ∧ Below W.heap.size W w' := by
  have HN : Hid (Calls Tryz.prog 8 #[.int .i64 2] W fun e w' => ∃ C T, e = .returned (.tuple #[pt C, .int .i64 0]) ∧ RCA W w' C T 2 0 0 []) := anew_in W 2 (by omega) (by omega)
  have H0 : Hid (∀ w, Calls Tryz.prog 8 #[.int .i64 0] w fun e w' => e = .returned (.tuple #[nilP, .int .i64 1]) ∧ w' = w) := fun w => rnew_no w 0 (.inl (by omega))
  have HO1 : Hid (∀ w, Calls Tryz.prog 23 #[.string ⟨#[1, 97, 0]⟩, .string ⟨#[1]⟩, .int .i64 10] w fun e w' => ∃ q, e = .returned (.agg (svC (xS xN 1 10) q 1 none 0).toArray) ∧ SvAt w' (xS xN 1 10) q 1 none 0 ∧ Below w.heap.size w w') := fun w => one_in xN 1 w
  have HO2 : Hid (∀ w, Calls Tryz.prog 23 #[.string ⟨#[1, 65, 0]⟩, .string ⟨#[2]⟩, .int .i64 10] w fun e w' => ∃ q, e = .returned (.agg (svC (xS xM 2 10) q 1 none 0).toArray) ∧ SvAt w' (xS xM 2 10) q 1 none 0 ∧ Below w.heap.size w w') := fun w => one_in xM 2 w
  have HP1 : Hid (∀ w C T q, RCA W w C T 2 0 0 [] → SvAt w (xS xN 1 10) q 1 none 0 → Calls Tryz.prog 11 #[pt C, .agg (svC (xS xN 1 10) q 1 none 0).toArray, .int .i64 3, .int .i64 0, .int .i64 5] w fun e w' => e = .returned (.tuple #[.bool true, .int .i64 0]) ∧ RCA W w' C T 2 1 1 [(xK, xE)]) := fun w C T q hr hat => by
    refine (aput_in hr (by omega) (xS xN 1 10) (svI_x ok_n 1) q 1 none 0 hat 3 0 5).mono ?_
    rintro e w' ⟨hp, hf⟩
    rcases hp with ⟨h1, _⟩ | ⟨_, h1, _⟩ | ⟨_, _, h2, h3⟩
    · rw [put1.1] at h1; cases h1
    · rw [put1.2.1] at h1; cases h1
    · rw [put1.2.2] at h3
      exact ⟨h2, h3⟩
  have HP2 : Hid (∀ w C T q, RCA W w C T 2 1 1 [(xK, xE)] → SvAt w (xS xM 2 10) q 1 none 0 → Calls Tryz.prog 11 #[pt C, .agg (svC (xS xM 2 10) q 1 none 0).toArray, .int .i64 1, .int .i64 0, .int .i64 6] w fun e w' => e = .returned (.tuple #[.bool false, .int .i64 0]) ∧ RCA W w' C T 2 1 1 [(xK, xE)]) := fun w C T q hr hat => by
    refine (aput_in hr (by omega) (xS xM 2 10) (svI_x ok_m 2) q 1 none 0 hat 1 0 6).mono ?_
    rintro e w' ⟨hp, hf⟩
    rcases hp with ⟨h1, _⟩ | ⟨_, _, h2, h3⟩ | ⟨_, h1, _⟩
    · rw [put2.1] at h1; cases h1
    · exact ⟨h2, h3⟩
    · rw [put2.2] at h1; cases h1
  have HP3 : Hid (∀ w C T, RCA W w C T 2 1 1 [] → Calls Tryz.prog 11 #[pt C, .agg (svC zS none 0 none 0).toArray, .int .i64 1, .int .i64 0, .int .i64 0] w fun e w' => e = .returned (.tuple #[.bool false, .int .i64 1]) ∧ RCA W w' C T 2 1 1 [] ∧ FrC w w') := fun w C T hr => by
    refine (aput_in hr (by omega) zS svI_z none 0 none 0 (svAt_z w) 1 0 0).mono ?_
    rintro e w' ⟨hp, hf⟩
    rcases hp with ⟨_, h2, h3⟩ | ⟨h1, _⟩ | ⟨h1, _⟩
    · exact ⟨h2, h3, hf⟩
    · rw [put3] at h1; cases h1
    · rw [put3] at h1; cases h1
  have HG1 : Hid (∀ w C T, RCA W w C T 2 1 1 [(xK, xE)] → Calls Tryz.prog 13 #[pt C, .string ⟨#[1, 65, 0]⟩, .int .i64 1, .int .i64 9] w fun e w' => (∃ q1 c1 q2 c2, e = .returned (.tuple #[.agg #[.string ⟨#[1, 97, 0]⟩, .int .i64 1, .int .i64 1, .int .i64 6, .slice q1 1 c1, .slice q2 0 c2, .int .i64 3, .int .i64 0, .int .i64 1, .int .i64 15], .bool true])) ∧ RCA W w' C T 2 1 1 [(xK, xE)]) := fun w C T hr => by
    refine (aget_in hr (nmm xM) (by rw [nm_m]; decide) 1 9 (by unfold I64; omega)).mono ?_
    rintro e w' ⟨h1, hf, hp⟩
    rw [get1.2] at h1
    rcases hp with ⟨h2, _⟩ | ⟨x, q1, c1, q2, c2, h2, h3, h4⟩
    · rw [get1.1] at h2; cases h2
    · rw [get1.1] at h2
      cases h2
      exact ⟨⟨q1, c1, q2, c2, h3⟩, h1⟩
  have HG2 : Hid (∀ w C T, RCA W w C T 2 1 1 [(xK, xE)] → Calls Tryz.prog 13 #[pt C, .string ⟨#[1, 97, 0]⟩, .int .i64 1, .int .i64 15] w fun e w' => e = .returned (.tuple #[.agg #[.string ⟨#[]⟩, .int .i64 0, .int .i64 0, .int .i64 0, .slice none 0 0, .slice none 0 0, .int .i64 0, .int .i64 0, .int .i64 0, .int .i64 0], .bool false]) ∧ RCA W w' C T 2 1 1 [] ∧ FrC w w') := fun w C T hr => by
    refine (aget_in hr (nmm xN) (by rw [nm_n]; decide) 1 15 (by unfold I64; omega)).mono ?_
    rintro e w' ⟨h1, hf, hp⟩
    rw [get2.2] at h1
    rcases hp with ⟨h2, h3⟩ | ⟨x, q1, c1, q2, c2, h2, h3, h4⟩
    · exact ⟨h3, h1, hf⟩
    · rw [get2.1] at h2; cases h2
  have HL : Hid (∀ w C T, RCA W w C T 2 1 1 [] → Calls Tryz.prog 20 #[pt C] w fun e w' => e = .returned (.int .i64 0) ∧ w' = w) := fun w C T hr => alen_in hr
  simp only [svC, xS] at HO1 HO2 HP1 HP2 HP3
  go_enter Tryz.func7, Tryz.ntmps7
  go_wp2_with fail
  refine HN.out.mono ?_
  rintro e w1 ⟨C, T, rfl, hr1⟩
  have HR1 := Hid.mk hr1
  clear hr1
  go_wp2_with fail
  refine (H0.out _).mono ?_
  rintro e w2 ⟨rfl, rfl⟩
  go_wp2_with fail
  refine (HO1.out _).mono ?_
  rintro e w3 ⟨q, rfl, hat, hb⟩
  have HC3 := Hid.mk (HP1.out _ C T q (HR1.out.blk hb) hat)
  clear hat hb
  go_wp2_with fail
  refine HC3.out.mono ?_
  rintro e w4 ⟨rfl, hr4⟩
  have HR4 := Hid.mk hr4
  clear hr4
  go_wp2_with fail
  refine (HO2.out _).mono ?_
  rintro e w5 ⟨q, rfl, hat, hb⟩
  have HC5 := Hid.mk (HP2.out _ C T q (HR4.out.blk hb) hat)
  clear hat hb
  go_wp2_with fail
  refine HC5.out.mono ?_
  rintro e w6 ⟨rfl, hr6⟩
  have HC6 := Hid.mk (HG1.out _ C T hr6)
  clear hr6
  go_wp2_with fail
  refine HC6.out.mono ?_
  rintro e w7 ⟨⟨q1, c1, q2, c2, rfl⟩, hr7⟩
  obtain ⟨B, hB⟩ : ∃ B, w7.heap.size = B := ⟨_, rfl⟩
  obtain ⟨V, hV⟩ : ∃ V, w7.alloc (.cells #[.string ⟨#[1, 97, 0]⟩, .int .i64 1, .int .i64 1, .int .i64 6, .slice q1 1 c1, .slice q2 0 c2, .int .i64 3, .int .i64 0, .int .i64 1, .int .i64 15] 44) = V := ⟨_, rfl⟩
  have gV : V.heap[B]? = some (.cells #[.string ⟨#[1, 97, 0]⟩, .int .i64 1, .int .i64 1, .int .i64 6, .slice q1 1 c1, .slice q2 0 c2, .int .i64 3, .int .i64 0, .int .i64 1, .int .i64 15] 44 (0, 0)) := by rw [← hV, ← hB]; exact heap_alloc_new w7 _
  have rV : RCA W V C T 2 1 1 [(xK, xE)] := hr7.blk (by rw [← hV]; exact (Below.refl _ _).alloc (Nat.le_refl _) _)
  have HgV := Hid.mk gV
  have HC7 := Hid.mk (HG2.out _ C T rV)
  have HV := Hid.mk hV
  clear hr7 hV gV rV
  go_upto_region 8 with fail
  (try rw [hB])
  rw [HV.out]
  go_wp2_with fail
  refine HC7.out.mono ?_
  rintro e w8 ⟨rfl, hr8, hf8⟩
  have g8 := hf8.same B _ _ _ HgV.out (by decide) (by decide) (by decide)
  obtain ⟨V8, hV8⟩ : ∃ V, w8.alloc (.cells #[.string ⟨#[]⟩, .int .i64 0, .int .i64 0, .int .i64 0, .slice none 0 0, .slice none 0 0, .int .i64 0, .int .i64 0, .int .i64 0, .int .i64 0] 44) = V := ⟨_, rfl⟩
  have b8 : Below w8.heap.size w8 V8 := by rw [← hV8]; exact (Below.refl _ _).alloc (Nat.le_refl _) _
  have HC8 := Hid.mk (HP3.out _ C T (hr8.blk b8))
  have Hg8 := Hid.mk ((b8.block B (blk_lt g8)).trans g8)
  have HV8 := Hid.mk hV8
  clear hr8 hf8 g8 hV8 b8 hB
  go_upto_region 9 with fail
  rw [HV8.out]
  go_wp2_with fail
  refine HC8.out.mono ?_
  rintro e w9 ⟨rfl, hr9, hf9⟩
  have g9 := hf9.same B _ _ _ Hg8.out (by decide) (by decide) (by decide)
  have HC9 := Hid.mk (HL.out _ C T hr9)
  have HE := Hid.mk hr9.bel
  have d0 : w9.cell? ⟨B, 0, none⟩ = some (.string ⟨#[1, 97, 0]⟩) := by rw [So.cell_blk g9]; rfl
  have d3 : w9.cell? ⟨B, 3, none⟩ = some (.int .i64 6) := by rw [So.cell_blk g9]; rfl
  have d6 : w9.cell? ⟨B, 6, none⟩ = some (.int .i64 3) := by rw [So.cell_blk g9]; rfl
  have d8 : w9.cell? ⟨B, 8, none⟩ = some (.int .i64 1) := by rw [So.cell_blk g9]; rfl
  clear hr9 hf9 g9
  go_wp2_with fail
  refine HC9.out.mono ?_
  rintro e w10 ⟨rfl, rfl⟩
  go_wp2
  go_ret
  exact ⟨rfl, HE.out⟩
end Go.Proofs.YthionnpohcgoaaaGreatDoor.Rc
/- Layer 16: pick. -/
namespace Go.Proofs.YthionnpohcgoaaaGreatDoor.Rc
open Go.RowKit
def pickR (c : Int) (n : Int) : Int := (if c < 0 then -(c + 1) else c).tmod n
theorem pickR_ge (c n : Int) : 0 ≤ pickR c n := by
  unfold pickR
  apply Int.tmod_nonneg
  split <;> omega
theorem pickR_lt (c n : Int) (h : 0 < n) : pickR c n < n := Int.tmod_lt_of_pos _ h
theorem pick_in (w : World) (c n : Int) (hc : -9223372036854775808 ≤ c ∧ c ≤ 9223372036854775807) (hn : 0 < n) (hn2 : n ≤ 1000000000) :
    Calls Tryz.prog 9 #[.int .i64 c, .int .i64 n] w fun e w' => e = .returned (.int .i64 (pickR c n)) ∧ w' = w := by
  have hn0 : ¬ n = 0 := by omega
  have hge := pickR_ge c n
  have hlt := pickR_lt c n hn
  by_cases h : c < 0
  · have hp : pickR c n = (-(c + 1)).tmod n := by unfold pickR; rw [if_pos h]
    rw [hp] at hge hlt ⊢
    go_enter Tryz.func9, Tryz.ntmps9
    go_wp2
    go_ret
    refine ⟨?_, rfl⟩
    show Ending.returned (Value.int .i64 (-(c + 1).tmod n)) = _
    rw [Int.neg_tmod]
  · have hp : pickR c n = c.tmod n := by unfold pickR; rw [if_neg h]
    rw [hp] at hge hlt ⊢
    go_enter Tryz.func9, Tryz.ntmps9
    go_wp2
    go_ret
    refine ⟨?_, rfl⟩
    show Ending.returned (Value.int .i64 (c % n)) = _
    rw [Int.tmod_eq_emod_of_nonneg (by omega)]
end Go.Proofs.YthionnpohcgoaaaGreatDoor.Rc
/- Layer 16: a cache beside boxes of a law's own; facts of RrcacheRanks. -/
namespace Go.Proofs.YthionnpohcgoaaaGreatDoor.Rc
open Go.RowKit
theorem RC.base {U W w : World} {C T m n : Nat} {ver : Int} {l : ML} {Q : Nat → Prop} (h : RC W w C T m n ver l Q) (hb : Below U.heap.size U W) : RC U w C T m n ver l Q := by
  obtain ⟨E, M, L, ho, e⟩ := h.tab
  have hs := hb.size
  exact ⟨h.bx, Nat.le_trans hs h.own, ⟨E, M, L, ⟨ho.tab, fun b hb' => Nat.le_trans hs (ho.own b hb'), hb.trans (ho.bel.mono hs)⟩, e⟩, fun p hp => ⟨(h.ev p hp).1, Nat.le_trans hs (h.ev p hp).2⟩, h.ok, h.len, h.nd, h.vb, h.mb⟩
theorem RCA.base {U W w : World} {C T m n : Nat} {ver : Int} {A : AL} (h : RCA W w C T m n ver A) (hb : Below U.heap.size U W) : RCA U w C T m n ver A := by
  obtain ⟨l, Q, hr, e⟩ := h.ex
  exact ⟨l, Q, hr.base hb, e⟩
theorem same_told {n : Nat} {x : Ev} {now : Int} (h : EvI n x) (h0 : 0 ≤ now) (h1 : now < x.un) : sameS (toldE x now).s x.s = true := by
  have hu := h.un
  exact sameS_symm (sameS_tl h.ok (by omega) (by omega))
end Go.Proofs.YthionnpohcgoaaaGreatDoor.Rc
/- Layer 16: facts of RrcacheVersions; a cache beside a row of a law's own. -/
namespace Go.Proofs.YthionnpohcgoaaaGreatDoor.Rc
open Go.RowKit
structure VI (ver : Int) (A : AL) (L : List Ev) : Prop where
  aa : ∀ p ∈ A, ∀ q ∈ A, p.2.ve = q.2.ve → sameS p.2.s q.2.s = true
  le : ∀ p ∈ A, p.2.ve ≤ ver
  ll : ∀ x ∈ L, x.ve ≤ ver
  la : ∀ x ∈ L, ∀ p ∈ A, x.ve = p.2.ve → sameS x.s p.2.s = true
theorem VI.nil : VI 0 [] [] := ⟨fun _ h => by (cases h), fun _ h => by (cases h), fun _ h => by (cases h), fun _ h => by (cases h)⟩
theorem VI.sub {ver : Int} {A B : AL} {L : List Ev} (h : VI ver A L) (hs : ∀ p ∈ B, p ∈ A) : VI ver B L := ⟨fun p hp q hq => h.aa p (hs p hp) q (hs q hq), fun p hp => h.le p (hs p hp), h.ll, fun x hx p hp => h.la x hx p (hs p hp)⟩
theorem VI.put {ver : Int} {A : AL} {L : List Ev} (h : VI ver A L) (m : Nat) (s : Sv) (hs : setOk s = true) (rk se now : Int) : VI (verC ver (getR A (keyS s.nm s.ty)) s) (putR m A (keyS s.nm s.ty) (putX ver A s rk se now)) L := by
  obtain ⟨o, ho⟩ : ∃ o, getR A (keyS s.nm s.ty) = o := ⟨_, rfl⟩
  have hmem : ∀ p ∈ putR m A (keyS s.nm s.ty) (putX ver A s rk se now), (p.2.ve = verN ver o s ∧ p.2.s = s) ∨ p ∈ A := fun p hp => by
    rcases mem_putR hp with rfl | ⟨hp, _⟩
    · exact .inl ⟨by show verN ver (getR A (keyS s.nm s.ty)) s = _; rw [ho], rfl⟩
    · exact .inr hp
  rw [ho]
  cases hk : keeps o s with
  | false =>
    obtain ⟨e1, e2⟩ := ver_new (ver := ver) hk
    rw [e1] at hmem
    rw [e2]
    refine ⟨fun p hp q hq e => ?_, fun p hp => ?_, fun x hx => by have := h.ll x hx; omega, fun x hx p hp e => ?_⟩
    · rcases hmem p hp with ⟨p1, p2⟩ | hp
      · rcases hmem q hq with ⟨q1, q2⟩ | hq
        · rw [p2, q2]; exact sameS_refl hs
        · have := h.le q hq; omega
      · rcases hmem q hq with ⟨q1, q2⟩ | hq
        · have := h.le p hp; omega
        · exact h.aa p hp q hq e
    · rcases hmem p hp with ⟨p1, _⟩ | hp
      · omega
      · have := h.le p hp; omega
    · rcases hmem p hp with ⟨p1, p2⟩ | hp
      · have := h.ll x hx; omega
      · exact h.la x hx p hp e
  | true =>
    cases o with
    | none => cases hk
    | some x0 =>
      obtain ⟨e1, e2⟩ := ver_old (ver := ver) hk
      rw [e1] at hmem
      rw [e2]
      have hx0 := getR_mem ho
      rw [keeps_some] at hk
      have hsm : sameS x0.s s = true := (Bool.and_eq_true _ _ ▸ hk).2
      refine ⟨fun p hp q hq e => ?_, fun p hp => ?_, h.ll, fun x hx p hp e => ?_⟩
      · rcases hmem p hp with ⟨p1, p2⟩ | hp
        · rcases hmem q hq with ⟨q1, q2⟩ | hq
          · rw [p2, q2]; exact sameS_refl hs
          · rw [p2]
            exact sameS_trans (sameS_symm hsm) (h.aa _ hx0 q hq (by rw [← p1]; exact e))
        · rcases hmem q hq with ⟨q1, q2⟩ | hq
          · rw [q2]
            exact sameS_trans (h.aa p hp _ hx0 (by rw [e]; exact q1)) hsm
          · exact h.aa p hp q hq e
      · rcases hmem p hp with ⟨p1, _⟩ | hp
        · rw [p1]; exact h.le _ hx0
        · exact h.le p hp
      · rcases hmem p hp with ⟨p1, p2⟩ | hp
        · rw [p2]
          exact sameS_trans (h.la x hx _ hx0 (by rw [e]; exact p1)) hsm
        · exact h.la x hx p hp e
theorem getA_mem {A : AL} {k : Ky} {now : Int} : ∀ p ∈ getA A k now, p ∈ A := by
  intro p hp
  unfold getA at hp
  split at hp
  · split at hp
    · exact hp
    · rename_i v hv
      split at hp
      · exact (mem_without.1 hp).1
      · rcases List.mem_cons.1 hp with rfl | hp
        · exact getR_mem hv
        · exact (mem_without.1 hp).1
  · exact hp
theorem VI.told {ver : Int} {A : AL} {L : List Ev} (h : VI ver A L) {n : Nat} (hA : ∀ p ∈ A, EvI n p.2) {k : Ky} {now : Int} {x : Ev} (hf : foundA A k now = some x) : VI ver (getA A k now) (L ++ [toldE x now]) ∧ ∀ y ∈ L, y.ve = (toldE x now).ve → sameS y.s (toldE x now).s = true := by
  obtain ⟨ht, hg, ho⟩ := found_is hf
  have hx := getR_mem hg
  have hsm : sameS (toldE x now).s x.s = true := same_told (hA _ hx) (tim_iff.1 ht).1 (over_lt ho)
  have h' := h.sub (B := getA A k now) getA_mem
  refine ⟨⟨h'.aa, h'.le, fun y hy => ?_, fun y hy p hp e => ?_⟩, fun y hy e => sameS_trans (h.la y hy _ hx e) (sameS_symm hsm)⟩
  · rcases List.mem_append.1 hy with hy | hy
    · exact h.ll y hy
    · obtain rfl := List.mem_singleton.1 hy
      exact h.le _ hx
  · rcases List.mem_append.1 hy with hy | hy
    · exact h'.la y hy p hp e
    · obtain rfl := List.mem_singleton.1 hy
      exact sameS_trans hsm (h.aa _ hx p (getA_mem p hp) e)
structure RCB (W w : World) (C T m n : Nat) (ver : Int) (A : AL) (G : Option Nat) : Prop where
  ex : ∃ (l : ML) (Q : Nat → Prop), RC W w C T m n ver l Q ∧ abs l = A ∧ ∀ p ∈ l, some p.2.1 ≠ G
section
variable {W w w' : World} {C T m n : Nat} {ver : Int} {A : AL} {G : Option Nat}
theorem RCB.rca (h : RCB W w C T m n ver A G) : RCA W w C T m n ver A := by
  obtain ⟨l, Q, hr, e, _⟩ := h.ex
  exact ⟨l, Q, hr, e⟩
theorem RCB.of (h : RCA W w C T m n ver A) : RCB W w C T m n ver A none := by
  obtain ⟨l, Q, hr, e⟩ := h.ex
  exact ⟨l, Q, hr, e, fun _ _ h => by cases h⟩
theorem RCB.blk (h : RCB W w C T m n ver A G) (hb : Below w.heap.size w w') : RCB W w' C T m n ver A G := by
  obtain ⟨l, Q, hr, e, hg⟩ := h.ex
  exact ⟨l, Q, hr.blk hb, e, hg⟩
theorem bput_in (h : RCB W w C T m n ver A G) (hG : ∀ g, G = some g → g < w.heap.size) (hn : n < 2305843009213693952) (s : Sv) (hs : SvI s) (qd : Option Addr) (cd : Nat) (qg : Option Addr) (cg : Nat) (hat : SvAt w s qd cd qg cg) (rk se now : Int) :
    Calls Tryz.prog 11 #[pt C, .agg (svC s qd cd qg cg).toArray, .int .i64 rk, .int .i64 se, .int .i64 now] w fun e w' => FrC w w' ∧ ∃ b1 e1, e = .returned (.tuple #[.bool b1, .int .i64 e1]) ∧ ((putOk s rk se now = false ∧ b1 = false ∧ e1 = 1 ∧ RCB W w' C T m n ver A G) ∨ (putOk s rk se now = true ∧ refused A s rk now = true ∧ b1 = false ∧ e1 = 0 ∧ RCB W w' C T m n ver A G) ∨ (putOk s rk se now = true ∧ refused A s rk now = false ∧ b1 = true ∧ e1 = 0 ∧ RCB W w' C T m (n + 1) (verC ver (getR A (keyS s.nm s.ty)) s) (putR m A (keyS s.nm s.ty) (putX ver A s rk se now)) G)) := by
  obtain ⟨l, Q, hr, rfl, hg⟩ := h.ex
  refine (rput_in hr hn s hs qd cd qg cg hat rk se now).mono ?_
  rintro e w' ⟨hp, hf⟩
  refine ⟨hf, ?_⟩
  rcases hp with ⟨h1, h2, h3⟩ | ⟨h1, h2, h3, h4⟩ | ⟨h1, h2, h3, b, hb, h4⟩
  · exact ⟨false, 1, h2, .inl ⟨h1, rfl, rfl, l, Q, h3, rfl, hg⟩⟩
  · exact ⟨false, 0, h3, .inr (.inl ⟨h1, h2, rfl, rfl, l, Q, h4, rfl, hg⟩)⟩
  · refine ⟨true, 0, h3, .inr (.inr ⟨h1, h2, rfl, rfl, _, _, h4, by rw [abs_put], fun p hp => ?_⟩)⟩
    rcases mem_putR hp with rfl | ⟨hp, _⟩
    · intro e0
      have := hG b e0.symm
      omega
    · exact hg p hp
theorem getL_mem {l : ML} {k : Ky} {now : Int} : ∀ p ∈ getL l k now, p ∈ l := by
  intro p hp
  unfold getL at hp
  split at hp
  · split at hp
    · exact hp
    · rename_i v hv
      split at hp
      · exact (mem_without.1 hp).1
      · rcases List.mem_cons.1 hp with rfl | hp
        · exact getR_mem hv
        · exact (mem_without.1 hp).1
  · exact hp
theorem bget_in (h : RCB W w C T m n ver A G) (nm : ByteArray) (hnm : nm.size ≤ maxLen) (k now : Int) (hk : I64 k) :
    Calls Tryz.prog 13 #[pt C, .string nm, .int .i64 k, .int .i64 now] w fun e w' => FrC w w' ∧ RCB W w' C T m n ver (getA A (keyS nm k) now) G ∧
      ((foundA A (keyS nm k) now = none ∧ e = .returned (.tuple #[.agg ze.toArray, .bool false])) ∨
       (∃ x q1 c1 q2 c2, foundA A (keyS nm k) now = some x ∧ e = .returned (.tuple #[.agg (evC (toldE x now) q1 c1 q2 c2).toArray, .bool true]) ∧ Told w' w.heap.size (toldE x now).s q1 c1 q2 c2)) := by
  obtain ⟨l, Q, hr, rfl, hg⟩ := h.ex
  refine (rget_in hr nm hnm k now hk).mono ?_
  rintro e w' ⟨h1, h2, h3⟩
  refine ⟨h2, ⟨_, _, h1, abs_getL _ _ _, fun p hp => hg p (getL_mem p hp)⟩, ?_⟩
  rcases h3 with ⟨h4, h5⟩ | ⟨x, q1, c1, q2, c2, h4, h5, h6, h7⟩
  · exact .inl ⟨h4, h5⟩
  · exact .inr ⟨x, q1, c1, q2, c2, h4, h5, h6, h7⟩
theorem RC.rowG {u u' : World} {l : ML} {Q : Nat → Prop} {g : Nat} {c : Array Value} (h : RC W u C T m n ver l Q) (hg : u.heap[g]? = some (.cells c 44 (0, 0))) (hne : ∀ p ∈ l, p.2.1 ≠ g) (hs : ∀ b, b < u.heap.size → b ≠ g → u'.heap[b]? = u.heap[b]?) (hb : Below W.heap.size W u') : RC W u' C T m n ver l Q := by
  have ht : ∀ (b : Nat) (c : Array Value) (t : TypeId) (f : Nat × Nat), u.heap[b]? = some (.cells c t f) → t ≠ 44 → u'.heap[b]? = some (.cells c t f) := fun b c t f hb ht => by
    rw [hs b (blk_lt hb) (fun e => by subst e; rw [hg] at hb; cases hb; exact ht rfl)]
    exact hb
  refine ⟨ht _ _ _ _ h.bx (by decide), h.own, ?_, fun p hp => ⟨?_, (h.ev p hp).2⟩, h.ok, h.len, h.nd, h.vb, h.mb⟩
  · obtain ⟨E, M, L, ho, e⟩ := h.tab
    refine ⟨E, M, L, ⟨ho.tab.same fun b hb => hs b (ho.tab.lt hb) (fun e => ?_), ho.own, hb⟩, e⟩
    subst e
    rcases hb with x | x | x | x
    · have := ho.tab.tb; rw [← x, hg] at this; cases this
    · obtain ⟨es, cl, hm⟩ := ho.tab.mp.isMap; rw [← x, hg] at hm; cases hm
    · obtain ⟨c', hc, _⟩ := ho.tab.row.plc E (by simp); rw [← x, hg] at hc; cases hc
    · obtain ⟨c', hc, _⟩ := ho.tab.row.plc b (List.mem_cons_of_mem _ x); rw [hg] at hc; cases hc
  · obtain ⟨qd, cd, qg, cg, h0, h1, h2, r⟩ := (h.ev p hp).1
    refine ⟨qd, cd, qg, cg, (hs _ (blk_lt h0) (hne p hp)).trans h0, h1.same (fun b cur _ hb => ?_), h2.same (fun b cur _ hb => ?_), r⟩
    · exact (ht b _ _ _ hb (by decide)).trans hb.symm
    · exact (ht b _ _ _ hb (by decide)).trans hb.symm
end
end Go.Proofs.YthionnpohcgoaaaGreatDoor.Rc
/- Layer 16: what was told, gathered in a row of the law's own. -/
namespace Go.Proofs.YthionnpohcgoaaaGreatDoor.Rc
open Go.RowKit
theorem infoEn : (Tryz.prog.info? 44).map (fun i => (i.zero, i.size, i.bytes)) = some (some (.agg ze.toArray), 10, 120) := by kernel_rfl
def aSe (a : Array Value) : Sem Value := Builtin.append_ #[57, 57] 57 a
theorem app_se (a : Array Value) : Builtin.append_ #[57, 57] 57 a = aSe a := rfl
theorem flat_at {z : Nat} : ∀ {rows : List (List Value)}, (∀ r ∈ rows, r.length = z) → ∀ (j : Nat) (hj : j < rows.length) (i : Nat), i < z → rows.flatten[j * z + i]? = rows[j][i]?
  | r :: rows, h, 0, _, i, hi => by
    rw [List.flatten_cons, Nat.zero_mul, Nat.zero_add, List.getElem?_append_left (by rw [h r (by simp)]; exact hi)]
    rfl
  | r :: rows, h, j + 1, hj, i, hi => by
    have hr := h r (by simp)
    have ih := flat_at (rows := rows) (fun x hx => h x (List.mem_cons_of_mem _ hx)) j (by simpa using hj) i hi
    rw [List.flatten_cons, List.getElem?_append_right (by rw [hr, Nat.add_mul]; omega), hr, show (j + 1) * z + i - z = j * z + i by rw [Nat.add_mul]; omega, ih]
    rfl
structure SeenAt (w : World) (N : Nat) (v : Value) (L : List Ev) : Prop where
  ex : ∃ rows : List (List Value), rows.length = L.length ∧ (∀ r ∈ rows, r.length = 10) ∧ (∀ (j : Nat) x, L[j]? = some x → ∃ q1 c1 q2 c2, rows[j]? = some (evC x q1 c1 q2 c2) ∧ Told w N x.s q1 c1 q2 c2) ∧ w.ownsRow N 44 10 v L.length rows.flatten
theorem SeenAt.nil (w : World) (N : Nat) : SeenAt w N (.slice none 0 0) [] := ⟨[], rfl, fun _ h => (by cases h), fun j x h => (by simp at h), World.ownsRow_nil ..⟩
theorem SeenAt.frc {w w' : World} {N : Nat} {v : Value} {L : List Ev} (h : SeenAt w N v L) (hf : FrC w w') : SeenAt w' N v L := by
  obtain ⟨rows, h1, h2, h3, h4⟩ := h.ex
  refine ⟨rows, h1, h2, fun j x hx => ?_, hf.row h4 (by decide) (by decide) (by decide)⟩
  obtain ⟨q1, c1, q2, c2, h5, h6⟩ := h3 j x hx
  exact ⟨q1, c1, q2, c2, h5, h6.frc hf⟩
theorem SeenAt.form {w : World} {N : Nat} {v : Value} {L : List Ev} (h : SeenAt w N v L) : ∃ q cap, v = .slice q L.length cap := by
  obtain ⟨rows, h1, h2, h3, h4⟩ := h.ex
  exact srow_any h4
theorem SeenAt.lt {w : World} {N : Nat} {v : Value} {L : List Ev} (h : SeenAt w N v L) : ∀ g, v.ownBlock = some g → g < w.heap.size := fun g hg => by
  obtain ⟨rows, h1, h2, h3, h4⟩ := h.ex
  exact (own_lt h4 hg).1
theorem SeenAt.at {w : World} {N : Nat} {q : Option Addr} {cap : Nat} {L : List Ev} (h : SeenAt w N (.slice q L.length cap) L) (j : Nat) (x : Ev) (hx : L[j]? = some x) : ∃ g q1 c1 q2 c2, q = some ⟨g, 0, none⟩ ∧ Told w N x.s q1 c1 q2 c2 ∧ (∀ i, i < 10 → w.cell? ⟨g, j * 10 + i, none⟩ = (evC x q1 c1 q2 c2)[i]?) := by
  obtain ⟨rows, h1, h2, h3, h4⟩ := h.ex
  obtain ⟨q1, c1, q2, c2, h5, h6⟩ := h3 j x hx
  have hj : j < L.length := (List.getElem?_eq_some_iff.1 hx).1
  obtain ⟨hl, ⟨_, h0⟩ | ⟨g, cap', cur, hv, hg0, hg, hn, hm, hs, ht⟩⟩ := h4
  · omega
  · simp only [Value.slice.injEq] at hv
    obtain ⟨rfl, _, _⟩ := hv
    refine ⟨g, q1, c1, q2, c2, rfl, h6, fun i hi => ?_⟩
    have hj' : j < rows.length := by omega
    have e1 : rows[j] = evC x q1 c1 q2 c2 := by
      rw [List.getElem?_eq_getElem hj'] at h5
      exact Option.some.inj h5
    rw [← e1, ← flat_at h2 j hj' i hi, ← ht, List.getElem?_take, if_pos (by
      have : (j + 1) * 10 ≤ L.length * 10 := Nat.mul_le_mul_right _ (by omega)
      omega), So.cell_blk hg, Array.getElem?_toList]
theorem info_p {e : TypeId} {z : Value} {size bytes : Nat} (h : (Tryz.prog.info? e).map (fun i => (i.zero, i.size, i.bytes)) = some (some z, size, bytes)) : ∃ i0, Tryz.prog.info? e = some i0 ∧ i0.zero = some z ∧ i0.size = size ∧ i0.bytes = bytes := by
  cases hi : Tryz.prog.info? e with
  | none => rw [hi] at h; cases h
  | some i0 =>
    rw [hi] at h
    simp only [Option.map_some, Option.some.injEq, Prod.mk.injEq] at h
    exact ⟨i0, rfl, h.1, h.2.1, h.2.2⟩
theorem seen_app {W w : World} {C T m n N : Nat} {ver : Int} {A : AL} {v : Value} {L : List Ev} (h : RCB W w C T m n ver A v.ownBlock) (hs : SeenAt w N v L) (hW : W.heap.size ≤ N) (hN : N ≤ w.heap.size) (hl : L.length ≤ 1000) (x : Ev) {q1 : Option Addr} {c1 : Nat} {q2 : Option Addr} {c2 : Nat} (ht : Told w N x.s q1 c1 q2 c2) :
    ∃ v' w', (aSe #[v, .slice (some ⟨w.heap.size, 0, none⟩) 1 1]).run Tryz.prog (w.alloc (.cells (evC x q1 c1 q2 c2).toArray 44)) = .ok v' w' ∧ SeenAt w' N v' (L ++ [x]) ∧ RCB W w' C T m n ver A v'.ownBlock ∧ Below N w w' := by
  obtain ⟨U, hU⟩ : ∃ U, w.alloc (.cells (evC x q1 c1 q2 c2).toArray 44) = U := ⟨_, rfl⟩
  have bU : Below w.heap.size w U := by rw [← hU]; exact (Below.refl _ _).alloc (Nat.le_refl _) _
  have sU : U.heap.size = w.heap.size + 1 := by rw [← hU]; simp
  have gU : U.heap[w.heap.size]? = some (.cells (evC x q1 c1 q2 c2).toArray 44 (0, 0)) := by rw [← hU]; exact heap_alloc_new w _
  obtain ⟨rows, h1, h2, h3, h4⟩ := (hs.frc (FrC.below bU)).ex
  obtain ⟨i0, hi0, hz0, hz1, hz2⟩ := info_p infoEn
  obtain ⟨v', w', hrun, hown, hgr, _, hat⟩ := run_append_own_at (P := Tryz.prog) U N 57 57 44 i0 _ 10 120 Tryz.underlying57 hi0 hz0 hz1 hz2 rfl (by decide) v L.length rows.flatten h4 ⟨w.heap.size, 0, none⟩ 1 1 (evC x q1 c1 q2 c2) rfl (fun j u hu => by
    rw [So.add_of, Nat.zero_add, So.cell_blk gU, List.getElem?_toArray]
    exact hu) (ev_ones x q1 c1 q2 c2) (by unfold maxLen; omega) (by omega) (by omega)
  have hst : ∀ {b : Nat} {c : Array Value} {f : Nat × Nat}, U.heap[b]? = some (.cells c 9 f) → w'.heap[b]? = U.heap[b]? := fun {b c f} hb => hgr.block b (blk_lt hb) (fun e => by
    obtain ⟨_, _, c', hc⟩ := own_lt h4 e.symm
    rw [hb] at hc
    simp at hc)
  have hto : ∀ {s : Sv} {q1 : Option Addr} {c1 : Nat} {q2 : Option Addr} {c2 : Nat}, Told U N s q1 c1 q2 c2 → Told w' N s q1 c1 q2 c2 := fun h => ⟨own_same h.d fun b c f _ hb => hst hb, own_same h.g fun b c f _ hb => hst hb⟩
  have bN : Below N w w' := (bU.mono hN).trans ((Below.refl _ _).grown hgr (by omega) (fun b hb => (own_lt h4 hb).2.1))
  refine ⟨v', w', by rw [hU]; exact hrun, ⟨rows ++ [evC x q1 c1 q2 c2], by simp [h1], fun r hr => ?_, fun j y hy => ?_, ?_⟩, ?_, bN⟩
  · rcases List.mem_append.1 hr with hr | hr
    · exact h2 r hr
    · obtain rfl := List.mem_singleton.1 hr
      rfl
  · by_cases hj : j < L.length
    · rw [List.getElem?_append_left hj] at hy
      obtain ⟨a1, a2, a3, a4, a5, a6⟩ := h3 j y hy
      exact ⟨a1, a2, a3, a4, by rw [List.getElem?_append_left (by omega)]; exact a5, hto a6⟩
    · have hj2 : j = L.length := by
        have := (List.getElem?_eq_some_iff.1 hy).1
        simp at this
        omega
      subst hj2
      simp at hy
      subst hy
      exact ⟨q1, c1, q2, c2, by rw [← h1]; simp, hto (ht.frc (FrC.below bU))⟩
  · rw [List.length_append, List.flatten_append]
    simpa using hown
  · obtain ⟨l, Q, hr, he, hne⟩ := (h.blk bU).ex
    have hrl : ∀ p ∈ l, p.2.1 < U.heap.size := fun p hp => (hr.ev p hp).1.lt
    have hbW : Below W.heap.size W w' := h.rca.bel.trans (bN.mono hW)
    have hr' : RC W w' C T m n ver l Q := by
      cases hv : v.ownBlock with
      | none =>
        rw [hv] at hgr
        exact hr.blk ⟨hgr.os, hgr.tape, hgr.output, hgr.size, fun b hb => hgr.block b hb (fun e => by cases e)⟩
      | some g =>
        rw [hv] at hgr hne
        obtain ⟨_, _, c, hc⟩ := own_lt h4 hv
        exact hr.rowG hc (fun p hp e => hne p hp (by rw [e])) (fun b hb hn => hgr.block b hb (fun e => hn (Option.some.inj e))) hbW
    refine ⟨l, Q, hr', he, fun p hp => ?_⟩
    rcases hat with e | e
    · rw [e]; exact hne p hp
    · rw [e]
      intro e2
      have := hrl p hp
      have := Option.some.inj e2
      omega
end Go.Proofs.YthionnpohcgoaaaGreatDoor.Rc
/- Layer 16: the state of RrcacheVersions' rounds. -/
namespace Go.Proofs.YthionnpohcgoaaaGreatDoor.Rc
open Go.RowKit
def VS (W w : World) (C T m k i : Nat) (v : Value) (ln : Nat) : Prop := ∃ n ver A L, RCB W w C T m n ver A v.ownBlock ∧ SeenAt w W.heap.size v L ∧ VI ver A L ∧ (∀ x ∈ L, SvI x.s) ∧ n ≤ k ∧ L.length = ln ∧ ln ≤ i
def VT (W w : World) (C T m k i : Nat) (v : Value) (ln : Nat) (x : Ev) : Prop := ∃ n ver A L, RCB W w C T m n ver A v.ownBlock ∧ SeenAt w W.heap.size v L ∧ VI ver A (L ++ [x]) ∧ (∀ y ∈ L, SvI y.s) ∧ SvI x.s ∧ (∀ y ∈ L, y.ve = x.ve → sameS y.s x.s = true) ∧ n ≤ k ∧ L.length = ln ∧ ln ≤ i
section
variable {W w w' : World} {C T m k i ln : Nat} {v : Value} {x : Ev}
theorem VS.bel (h : VS W w C T m k i v ln) : Below W.heap.size W w := by
  obtain ⟨n, ver, A, L, h1, _⟩ := h
  exact h1.rca.bel
theorem VS.blk (h : VS W w C T m k i v ln) (hb : Below w.heap.size w w') : VS W w' C T m k i v ln := by
  obtain ⟨n, ver, A, L, h1, h2, h3, h4, h5, h6, h7⟩ := h
  exact ⟨n, ver, A, L, h1.blk hb, h2.frc (FrC.below hb), h3, h4, h5, h6, h7⟩
theorem VT.blk (h : VT W w C T m k i v ln x) (hb : Below w.heap.size w w') : VT W w' C T m k i v ln x := by
  obtain ⟨n, ver, A, L, h1, h2, h3⟩ := h
  exact ⟨n, ver, A, L, h1.blk hb, h2.frc (FrC.below hb), h3⟩
theorem VS.more (h : VS W w C T m k i v ln) : VS W w C T m k (i + 1) v ln := by
  obtain ⟨n, ver, A, L, h1, h2, h3, h4, h5, h6, h7⟩ := h
  exact ⟨n, ver, A, L, h1, h2, h3, h4, h5, h6, by omega⟩
theorem vs_put (h : VS W w C T m k i v ln) (hk : k ≤ 1000) (s : Sv) (hs : SvI s) (qd : Option Addr) (cd : Nat) (qg : Option Addr) (cg : Nat) (hat : SvAt w s qd cd qg cg) (rk se now : Int) :
    Calls Tryz.prog 11 #[pt C, .agg (svC s qd cd qg cg).toArray, .int .i64 rk, .int .i64 se, .int .i64 now] w fun e w' => FrC w w' ∧ (∃ b1 e1, e = .returned (.tuple #[.bool b1, .int .i64 e1])) ∧ VS W w' C T m (k + 1) i v ln := by
  obtain ⟨n, ver, A, L, h1, h2, h3, h4, h5, h6, h7⟩ := h
  refine (bput_in h1 (fun g hg => h2.lt g hg) (by omega) s hs qd cd qg cg hat rk se now).mono ?_
  rintro e w' ⟨hf, b1, e1, he, hc⟩
  refine ⟨hf, ⟨b1, e1, he⟩, ?_⟩
  rcases hc with ⟨_, _, _, hr⟩ | ⟨_, _, _, _, hr⟩ | ⟨h0, _, _, _, hr⟩
  · exact ⟨n, ver, A, L, hr, h2.frc hf, h3, h4, by omega, h6, h7⟩
  · exact ⟨n, ver, A, L, hr, h2.frc hf, h3, h4, by omega, h6, h7⟩
  · exact ⟨n + 1, _, _, L, hr, h2.frc hf, h3.put m s (putOk_iff.1 h0).2.1 rk se now, h4, by omega, h6, h7⟩
theorem vs_get (h : VS W w C T m k i v ln) (nm : ByteArray) (hnm : nm.size ≤ maxLen) (kd now : Int) (hkd : I64 kd) :
    Calls Tryz.prog 13 #[pt C, .string nm, .int .i64 kd, .int .i64 now] w fun e w' => FrC w w' ∧ ((e = .returned (.tuple #[.agg ze.toArray, .bool false]) ∧ VS W w' C T m k i v ln) ∨ (∃ x q1 c1 q2 c2, e = .returned (.tuple #[.agg (evC x q1 c1 q2 c2).toArray, .bool true]) ∧ Told w' W.heap.size x.s q1 c1 q2 c2 ∧ VT W w' C T m k i v ln x)) := by
  obtain ⟨n, ver, A, L, h1, h2, h3, h4, h5, h6, h7⟩ := h
  have hok := h1.rca.ok
  have hW := h1.rca.bel.size
  refine (bget_in h1 nm hnm kd now hkd).mono ?_
  rintro e w' ⟨hf, hr, hc⟩
  refine ⟨hf, ?_⟩
  rcases hc with ⟨_, he⟩ | ⟨x, q1, c1, q2, c2, hfd, he, ht⟩
  · exact .inl ⟨he, n, ver, _, L, hr, h2.frc hf, h3.sub getA_mem, h4, h5, h6, h7⟩
  · obtain ⟨t1, t2⟩ := h3.told (fun p hp => (hok p hp).2) hfd
    obtain ⟨ht0, hg, ho⟩ := found_is hfd
    have hx := (hok _ (getR_mem hg)).2
    exact .inr ⟨toldE x now, q1, c1, q2, c2, he, ⟨own_lowS ht.d hW, own_lowS ht.g hW⟩, n, ver, _, L, hr, h2.frc hf, t1, h4, (told_ok hx (tim_iff.1 ht0).1 (over_lt ho)).2, t2, h5, h6, h7⟩
theorem vs_len (h : VS W w C T m k i v ln) : Calls Tryz.prog 20 #[pt C] w fun e w' => (∃ z : Int, e = .returned (.int .i64 z) ∧ z ≤ (m : Int)) ∧ w' = w := by
  obtain ⟨n, ver, A, L, h1, _⟩ := h
  refine (alen_in h1.rca).mono ?_
  rintro e w' ⟨rfl, rfl⟩
  exact ⟨⟨_, rfl, by have := h1.rca.len; omega⟩, rfl⟩
theorem VT.vs (h : VT W w C T m k i v ln x) : VS W w C T m k i v ln := by
  obtain ⟨n, ver, A, L, h1, h2, h3, h4, h5, h6, h7, h8, h9⟩ := h
  exact ⟨n, ver, A, L, h1, h2, ⟨h3.aa, h3.le, fun y hy => h3.ll y (by simp [hy]), fun y hy => h3.la y (by simp [hy])⟩, h4, h7, h8, h9⟩
theorem VT.at {q : Option Addr} {cap : Nat} (h : VT W w C T m k i (.slice q ln cap) ln x) (j : Nat) (hj : j < ln) : ∃ (g : Nat) (y : Ev) (q1 : Option Addr) (c1 : Nat) (q2 : Option Addr) (c2 : Nat), q = some ⟨g, 0, none⟩ ∧ SvI y.s ∧ (y.ve = x.ve → sameS y.s x.s = true) ∧ Told w W.heap.size y.s q1 c1 q2 c2 ∧ (∀ i, i < 10 → w.cell? ⟨g, j * 10 + i, none⟩ = (evC y q1 c1 q2 c2)[i]?) := by
  obtain ⟨n, ver, A, L, h1, h2, h3, h4, h5, h6, h7, rfl, h9⟩ := h
  obtain ⟨g, q1, c1, q2, c2, e, ht, hc⟩ := h2.at j L[j] (List.getElem?_eq_getElem hj)
  exact ⟨g, L[j], q1, c1, q2, c2, e, h4 _ (List.getElem_mem hj), h6 _ (List.getElem_mem hj), ht, hc⟩
theorem vt_app (h : VT W w C T m k i v ln x) (hi : i ≤ 500) {q1 : Option Addr} {c1 : Nat} {q2 : Option Addr} {c2 : Nat} (ht : Told w W.heap.size x.s q1 c1 q2 c2) :
    ∃ q cap w', (aSe #[v, .slice (some ⟨w.heap.size, 0, none⟩) 1 1]).run Tryz.prog (w.alloc (.cells (evC x q1 c1 q2 c2).toArray 44)) = .ok (.slice q (ln + 1) cap) w' ∧ VS W w' C T m k (i + 1) (.slice q (ln + 1) cap) (ln + 1) := by
  obtain ⟨n, ver, A, L, h1, h2, h3, h4, h5, h6, h7, rfl, h9⟩ := h
  obtain ⟨v', w', hrun, hs, hr, hb⟩ := seen_app h1 h2 (Nat.le_refl _) h1.rca.bel.size (by omega) x ht
  obtain ⟨q, cap, e⟩ := hs.form
  rw [List.length_append] at e
  subst e
  refine ⟨q, cap, w', hrun, n, ver, A, L ++ [x], hr, hs, h3, fun y hy => ?_, h7, by simp, by omega⟩
  rcases List.mem_append.1 hy with hy | hy
  · exact h4 y hy
  · obtain rfl := List.mem_singleton.1 hy
    exact h5
end
def deLoad (a : Value) : Sem Value := Instr.loadAt 36 a
theorem loadAt_de (a : Value) : Instr.loadAt 36 a = deLoad a := rfl
theorem dd_at {W : World} {q : Option Addr} {l : List Dd} (h : DdsAt W q l) (i : Nat) (hi : i < l.length) : ∃ (b off : Nat) (d : Dd) (qd : Option Addr) (cd : Nat) (qg : Option Addr) (cg : Nat), q = some ⟨b, off, none⟩ ∧ l[i]? = some d ∧ d ∈ l ∧ (∀ w, Below W.heap.size W w → (deLoad (.pointer (some ⟨b, off + i * 11, none⟩))).run Tryz.prog w = .ok (.agg (ddC d qd cd qg cg).toArray) w ∧ SvAt w d.s qd cd qg cg) := by
  obtain ⟨b, off, qd, cd, qg, cg, e, hlt, hc, hat⟩ := h i hi
  refine ⟨b, off, l[i], qd, cd, qg, cg, e, List.getElem?_eq_getElem hi, List.getElem_mem hi, fun w hb => ⟨?_, hat.blk hb⟩⟩
  refine load_all (n := 11) w b (off + i * 11) (ddC l[i] qd cd qg cg) rfl (by kernel_rfl) (by kernel_rfl) fun j v hv => ?_
  have hj : j < 11 := (List.getElem?_eq_some_iff.1 hv).1
  exact (hb.cell (p := ⟨b, off + i * 11 + j, none⟩) hlt).trans ((hc j hj).trans hv)
end Go.Proofs.YthionnpohcgoaaaGreatDoor.Rc
