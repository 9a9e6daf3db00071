/- Texts of this proof, joined: McXa, McX, RcPk, McPk. -/
import Derived.Test.YtikjepodmdaknaaGreatDoorJ28
import Derived.Test.YtikjepodmdaknaaGreatDoorJ32
import Derived.Deep.RegionHeld3
set_option linter.unusedVariables false
set_option linter.unusedSimpArgs false
/- Layer 17: the calls as a law makes them. -/
namespace Go.Proofs.YtikjepodmdaknaaGreatDoor.Mc
open Go.RowKit
open Go.Proofs.YtikjepodmdaknaaGreatDoor.Rc (pt nilP Ky blk_lt AL Ev EvI timB RCA FrC SvI putOk refused putX putR getR verC aput_in anew_in keyS)
def Tx1 (w : World) (B : Nat) (d : ByteArray) : Prop := w.heap[B]? = some (.cells #[.string d] 9 (0, 0))
theorem Tx1.frm {w w' : World} {B : Nat} {d : ByteArray} (h : Tx1 w B d) (hf : FrM w w') : Tx1 w' B d := hf.same _ _ _ _ h (by decide) (by decide) (by decide) (by decide) (by decide)
theorem Tx1.blk {w w' : World} {B : Nat} {d : ByteArray} (h : Tx1 w B d) (hf : Below w.heap.size w w') : Tx1 w' B d := h.frm (FrM.below hf)
theorem sv_one {w : World} {B : Nat} {d n : ByteArray} {ty cl tl : Int} (h : Tx1 w B d) : SvAt w ⟨n, ty, cl, tl, [d], []⟩ (some ⟨B, 0, none⟩) 1 none 0 := by
 refine ⟨fun j hj => ?_, fun j hj => (by cases hj), ⟨Nat.le_refl _, by show 1 ≤ maxLen; decide⟩, ⟨Nat.le_refl _, by decide⟩⟩
 obtain rfl : j = 0 := by simp at hj; omega
 refine ⟨B, 0, rfl, blk_lt h, ?_⟩
 rw [So.cell_blk h]
 rfl
theorem lat_one {W w : World} {T B D : Nat} {d n : ByteArray} {ty cl tl : Int} (h : Tx1 w B d) (hD : w.heap[D]? = some (.cells (svC ⟨n, ty, cl, tl, [d], []⟩ (some ⟨B, 0, none⟩) 1 none 0).toArray 34 (0, 0))) : LAt W w T (some ⟨D, 0, none⟩) [⟨n, ty, cl, tl, [d], []⟩] := by
 intro j s hs
 have hj : j = 0 := by
  have := (List.getElem?_eq_some_iff.1 hs).1
  simp at this
  omega
 subst hj
 obtain rfl : (⟨n, ty, cl, tl, [d], []⟩ : Sv) = s := by simpa using hs
 refine ⟨D, 0, some ⟨B, 0, none⟩, 1, none, 0, rfl, fun w' hf hb => ?_⟩
 have g := hf.same _ _ _ _ hD (by decide) (by decide) (by decide)
 have t : Tx1 w' B d := hf.same _ _ _ _ h (by decide) (by decide) (by decide)
 refine ⟨sv_one t, fun k hk => ?_⟩
 rw [So.cell_blk g, List.getElem?_toArray, show 0 + 0 * 6 + k = k by omega]
theorem lat_nil {W w : World} {T : Nat} (q : Option Addr) : LAt W w T q [] := fun j s hs => by simp at hs
section
variable {W w : World} {C T m n : Nat} {ver : Int} {A : AL} {X U m2 n2 : Nat} {L : KL}
theorem sput_yes (h : MS W w C T m n ver A X U m2 n2 L) (hn : n < 2305843009213693952) (s : Sv) (hs : SvI s) (qd : Option Addr) (cd : Nat) (qg : Option Addr) (cg : Nat) (hat : SvAt w s qd cd qg cg) (rk se now : Int) (h1 : putOk s rk se now = true) (h2 : refused A s rk now = false) :
  Calls Tryz.prog 13 #[pt C, .agg (svC s qd cd qg cg).toArray, .int .i64 rk, .int .i64 se, .int .i64 now] w fun e w' => e = .returned (.tuple #[.bool true, .int .i64 0]) ∧ MS W w' C T m (n + 1) (verC ver (getR A (Rc.keyS s.nm s.ty)) s) (putR m A (Rc.keyS s.nm s.ty) (putX ver A s rk se now)) X U m2 n2 L ∧ FrM w w' := by
 refine (aput_in h.rc hn s hs qd cd qg cg hat rk se now).mono ?_
 rintro e w' ⟨hp, hf⟩
 rcases hp with ⟨e1, _⟩ | ⟨_, e1, _⟩ | ⟨_, _, e1, e2⟩
 ·rw [h1] at e1; cases e1
 ·rw [h2] at e1; cases e1
 ·exact ⟨e1, h.rcop hf e2, FrM.frc hf⟩
end
end Go.Proofs.YtikjepodmdaknaaGreatDoor.Mc
/- Layer 17: the chapter's examples. -/
namespace Go.Proofs.YtikjepodmdaknaaGreatDoor.Mc
open Go.RowKit
open Go.Proofs.YtikjepodmdaknaaGreatDoor.Rc (pt nilP Ky blk_lt AL Ev EvI timB RCA FrC SvI putOk refused putX putR getR verC aput_in anew_in keyS xN xM xS xK xd ok_n ok_m ok_x svI_x nmm)
set_option maxRecDepth 100000 in
theorem one_in (b : UInt8) (w : World) : Calls Tryz.prog 60 #[.string ⟨#[b]⟩, .int .i64 10] w fun e w' => ∃ B, e = .returned (.agg (svC (xS xN b 10) (some ⟨B, 0, none⟩) 1 none 0).toArray) ∧ Tx1 w' B (xd b) ∧ Below w.heap.size w w' := by
 have HX : ∀ (u : World) c, (u.alloc (.cells c 34)).heap[u.heap.size]? = some (.cells c 34 (0, 0)) := fun u c => heap_alloc_new u _
 have ha : (⟨#[10, 0, 0]⟩ : ByteArray) ++ ⟨#[b]⟩ = xd b := rfl
 unfold xS
 simp only [svC]
 rw [show nmm xN = ⟨#[1, 97, 0]⟩ from rfl]
 go_enter Tryz.func60, Tryz.ntmps60
 go_wp2
 refine bodyPost_ret (results_cell_row Tryz.results60 _ _ w.heap.size 34 _ (0, 0) _ (by rfl) (show _ = some _ from (by rw [Below.heap_alloc _ _ _ (by simp)]; exact HX w _)) Tryz.underlying34 rfl (by kernel_rfl)) rfl ?_
 refine ⟨w.heap.size + 1, rfl, ?_, ((Below.refl _ _).alloc (Nat.le_refl _) _).alloc (by simp) _⟩
 have := heap_alloc_new (w.alloc (.cells #[.string ⟨#[1, 97, 0]⟩, .int .i64 1, .int .i64 1, .int .i64 10, .slice (some ⟨w.heap.size + 1, 0, none⟩) 1 1, .slice none 0 0] 34)) (.cells #[.string (xd b)] 9)
 unfold Tx1
 simpa using this
theorem nm_n : nmm xN = ⟨#[1, 97, 0]⟩ := rfl
theorem nm_m : nmm xM = ⟨#[1, 65, 0]⟩ := rfl
theorem svI_z : ∀ s ∈ zX.a, SvI s := fun s hs => (by cases hs)
set_option maxRecDepth 100000 in
set_option maxHeartbeats 8000000 in
theorem examples_in (W : World) : Calls Tryz.prog 23 #[] W fun e w' => e = .returned (.bool true) ∧ Below W.heap.size W w' := by
 have HN : Hid (Calls Tryz.prog 10 #[.int .i64 10] W fun e w' => ∃ C T, e = .returned (.tuple #[pt C, .int .i64 0]) ∧ RCA W w' C T 10 0 0 []) := anew_in W 10 (by omega) (by omega)
 have HM : Hid (∀ w C T, RCA W w C T 10 0 0 [] → Calls Tryz.prog 25 #[.int .i64 10, pt C] w fun e w' => ∃ X U, e = .returned (.tuple #[pt X, .int .i64 0]) ∧ MS W w' C T 10 0 0 [] X U 10 0 []) := fun w C T hr => mnew_in hr 10 (by omega) (by omega)
 have H0 : Hid (∀ w C, Calls Tryz.prog 25 #[.int .i64 0, pt C] w fun e w' => e = .returned (.tuple #[nilP, .int .i64 1]) ∧ w' = w) := fun w C => mnew_no w 0 (.inl (by omega)) C
 have HO1 : Hid (∀ w, Calls Tryz.prog 60 #[.string ⟨#[1]⟩, .int .i64 10] w fun e w' => ∃ B, e = .returned (.agg (svC (xS xN 1 10) (some ⟨B, 0, none⟩) 1 none 0).toArray) ∧ Tx1 w' B (xd 1) ∧ Below w.heap.size w w') := fun w => one_in 1 w
 have HO2 : Hid (∀ w, Calls Tryz.prog 60 #[.string ⟨#[2]⟩, .int .i64 10] w fun e w' => ∃ B, e = .returned (.agg (svC (xS xN 2 10) (some ⟨B, 0, none⟩) 1 none 0).toArray) ∧ Tx1 w' B (xd 2) ∧ Below w.heap.size w w') := fun w => one_in 2 w
 have HP1 : Hid (∀ w C T X U B, MS W w C T 10 0 0 [] X U 10 0 [] → Tx1 w B (xd 1) → Calls Tryz.prog 13 #[pt C, .agg (svC (xS xN 1 10) (some ⟨B, 0, none⟩) 1 none 0).toArray, .int .i64 3, .int .i64 0, .int .i64 0] w fun e w' => e = .returned (.tuple #[.bool true, .int .i64 0]) ∧ MS W w' C T 10 1 1 [(xK, yE 1 1 10)] X U 10 0 [] ∧ FrM w w') := fun w C T X U B hm ht => by
  refine (sput_yes hm (by omega) (xS xN 1 10) (svI_x ok_n 1) _ 1 none 0 (sv_one ht) 3 0 0 y_put1.1 y_put1.2.1).mono ?_
  rintro e w' ⟨h1, h2, h3⟩
  rw [y_put1.2.2] at h2
  exact ⟨h1, h2, h3⟩
 have HP2 : Hid (∀ w C T X U B n3, MS W w C T 10 1 1 [(xK, yE 1 1 10)] X U 10 n3 [(xK, yK)] → Tx1 w B (xd 2) → Calls Tryz.prog 13 #[pt C, .agg (svC (xS xN 2 10) (some ⟨B, 0, none⟩) 1 none 0).toArray, .int .i64 3, .int .i64 0, .int .i64 5] w fun e w' => e = .returned (.tuple #[.bool true, .int .i64 0]) ∧ MS W w' C T 10 2 2 [(xK, yE 2 2 15)] X U 10 n3 [(xK, yK)] ∧ FrM w w') := fun w C T X U B n3 hm ht => by
  refine (sput_yes hm (by omega) (xS xN 2 10) (svI_x ok_n 2) _ 1 none 0 (sv_one ht) 3 0 5 y_put2.1 y_put2.2.1).mono ?_
  rintro e w' ⟨h1, h2, h3⟩
  rw [y_put2.2.2.1, y_put2.2.2.2] at h2
  exact ⟨h1, h2, h3⟩
 have HQ1 : Hid (∀ w C T X U B D, MS W w C T 10 1 1 [(xK, yE 1 1 10)] X U 10 0 [] → Tx1 w B (xd 1) → w.heap[D]? = some (.cells (svC (xS xN 1 10) (some ⟨B, 0, none⟩) 1 none 0).toArray 34 (0, 0)) → Calls Tryz.prog 27 #[pt X, .agg (qC yQ).toArray, .agg (aC yX (some ⟨D, 0, none⟩) 1 none 0).toArray, .int .i64 2] w fun e w' => e = .returned (.tuple #[.bool true, .int .i64 0]) ∧ (∃ n3, n3 ≤ 1 ∧ MS W w' C T 10 1 1 [(xK, yE 1 1 10)] X U 10 n3 [(xK, yK)]) ∧ FrM w w') := fun w C T X U B D hm ht hD => by
  refine (mput_in hm (by omega) (by decide) yQ (by rw [show yQ.nm = ⟨#[1, 65, 0]⟩ from rfl]; decide) (by show I64 1; unfold I64; omega) yX (some ⟨D, 0, none⟩) 1 none 0 ⟨Nat.le_refl _, by decide⟩ ⟨Nat.le_refl _, by decide⟩ (lat_one ht hD) (lat_nil _) (fun s hs => by obtain rfl : s = xS xN 1 10 := (by simpa [yX] using hs); exact svI_x ok_n 1) (fun s hs => (by cases hs)) 2).mono ?_
  rintro e w' ⟨hf, hp⟩
  rcases hp with ⟨h1, _⟩ | ⟨_, h2, n3, h3, h4⟩
  ·rw [y_keep.1] at h1; cases h1
  ·rw [y_keep.2] at h2 h4
   exact ⟨h2, ⟨n3, h3, h4⟩, hf⟩
 have HQ0 : Hid (∀ w C T X U n3, n3 ≤ 1 → MS W w C T 10 2 2 [(xK, yE 2 2 15)] X U 10 n3 [] → Calls Tryz.prog 27 #[pt X, .agg (qC zQ).toArray, .agg (aC zX none 0 none 0).toArray, .int .i64 0] w fun e w' => e = .returned (.tuple #[.bool false, .int .i64 1]) ∧ MS W w' C T 10 2 2 [(xK, yE 2 2 15)] X U 10 n3 [] ∧ FrM w w') := fun w C T X U n3 hn3 hm => by
  refine (mput_in hm (by omega) (Nat.lt_of_le_of_lt hn3 (by decide)) zQ (by decide) (by show I64 0; unfold I64; omega) zX none 0 none 0 ⟨Nat.le_refl _, by decide⟩ ⟨Nat.le_refl _, by decide⟩ (lat_nil _) (lat_nil _) (fun s hs => (by cases hs)) (fun s hs => (by cases hs)) 0).mono ?_
  rintro e w' ⟨hf, hp⟩
  rcases hp with ⟨_, h2, h3⟩ | ⟨h1, _⟩
  ·exact ⟨h2, h3, hf⟩
  ·rw [y_no] at h1; cases h1
 have HG1 : Hid (∀ w C T X U n3, MS W w C T 10 1 1 [(xK, yE 1 1 10)] X U 10 n3 [(xK, yK)] → Calls Tryz.prog 29 #[pt X, .agg (qC yQ).toArray, .int .i64 5] w fun e w' => (∃ R c1 q2 c2, e = .returned (.tuple #[.agg #[.int .i64 0, .int .i64 0, .slice (some ⟨R, 0, none⟩) 1 c1, .slice q2 0 c2, .int .i64 10], .bool true]) ∧ Hid (1 ≤ c1 ∧ c1 ≤ 9223372036854775807) ∧ Hid (∀ u, FrM w' u → u.cell? ⟨R, 3, none⟩ = some (.int .i64 5))) ∧ MS W w' C T 10 1 1 [(xK, yE 1 1 10)] X U 10 n3 [(xK, yK)] ∧ FrM w w') := fun w C T X U n3 hm => by
  refine (mget_in hm yQ (by rw [show yQ.nm = ⟨#[1, 65, 0]⟩ from rfl]; decide) (by show I64 1; unfold I64; omega) 5).mono ?_
  rintro e w' ⟨hf, h1, hp⟩
  rw [y_got1] at h1 hp
  rcases hp with ⟨h2, _⟩ | ⟨x, q1, c1, q2, c2, h2, h3, h4, h5⟩
  ·cases h2
  ·obtain rfl : yY = x := Option.some.inj h2
   obtain ⟨R, _, _, _, _, rfl, _⟩ := h4.at 0 _ rfl
   obtain ⟨_, _, e1, hc⟩ := h4.form
   cases e1
   refine ⟨⟨R, c1, q2, c2, h3, hc, fun u hu => ?_⟩, h1, hf⟩
   obtain ⟨R', _, _, _, _, e2, _, _, _, hcell⟩ := (h4.frm hu).at 0 _ rfl
   cases e2
   exact (hcell 3 (by omega)).trans rfl
 have HG2 : Hid (∀ w C T X U n3, MS W w C T 10 2 2 [(xK, yE 2 2 15)] X U 10 n3 [(xK, yK)] → Calls Tryz.prog 29 #[pt X, .agg (qC yQ).toArray, .int .i64 5] w fun e w' => e = .returned (.tuple #[.agg zAn.toArray, .bool false]) ∧ MS W w' C T 10 2 2 [(xK, yE 2 2 15)] X U 10 n3 [] ∧ FrM w w') := fun w C T X U n3 hm => by
  refine (mget_in hm yQ (by rw [show yQ.nm = ⟨#[1, 65, 0]⟩ from rfl]; decide) (by show I64 1; unfold I64; omega) 5).mono ?_
  rintro e w' ⟨hf, h1, hp⟩
  rw [y_got2] at h1 hp
  rcases hp with ⟨_, h2⟩ | ⟨x, q1, c1, q2, c2, h2, _⟩
  ·exact ⟨h2, h1, hf⟩
  ·cases h2
 have HL : Hid (∀ w C T X U n3, MS W w C T 10 2 2 [(xK, yE 2 2 15)] X U 10 n3 [] → Calls Tryz.prog 32 #[pt X] w fun e w' => e = .returned (.int .i64 0) ∧ w' = w) := fun w C T X U n3 hm => mlen_in hm
 dsimp only [svC, xS, List.length_cons, List.length_nil, Nat.zero_add] at HO1 HO2 HP1 HP2 HQ1
 dsimp only [qC, aC, yQ, yX, zQ, zX, zAn, xS, List.length_cons, List.length_nil, Nat.zero_add] at HQ1 HQ0 HG1 HG2
 rw [nm_n] at HO1 HO2 HP1 HP2 HQ1
 rw [nm_m] at HQ1 HG1 HG2
 go_enter Tryz.func23, Tryz.ntmps23
 go_wp2_with fail
 refine HN.out.mono ?_
 rintro e w1 ⟨C, T, rfl, hr1⟩
 have HM1 := Hid.mk (HM.out _ _ _ hr1)
 clear hr1
 go_wp2_with fail
 refine HM1.out.mono ?_
 rintro e w2 ⟨X, U, rfl, hm2⟩
 have HM2 := Hid.mk hm2
 clear hm2
 go_wp2_with fail
 refine (H0.out _ _).mono ?_
 rintro e w3 ⟨rfl, rfl⟩
 obtain ⟨Q, hQ⟩ : ∃ Q, w3.heap.size = Q := ⟨_, rfl⟩
 obtain ⟨V, hV⟩ : ∃ V, w3.alloc (.cells #[.string ⟨#[1, 65, 0]⟩, .int .i64 1, .int .i64 1] 64) = V := ⟨_, rfl⟩
 have bV : Below w3.heap.size w3 V := by rw [← hV]; exact (Below.refl _ _).alloc (Nat.le_refl _) _
 have gV : V.heap[Q]? = some (.cells #[.string ⟨#[1, 65, 0]⟩, .int .i64 1, .int .i64 1] 64 (0, 0)) := by rw [← hV, ← hQ]; exact heap_alloc_new w3 _
 have HMV := Hid.mk (HM2.out.blk bV)
 have HQc : Hid (∀ u, FrM V u → u.cell? ⟨Q, 0, none⟩ = some (.string ⟨#[1, 65, 0]⟩) ∧ u.cell? ⟨Q, 1, none⟩ = some (.int .i64 1) ∧ u.cell? ⟨Q, 2, none⟩ = some (.int .i64 1)) := fun u hu => by
  have e := hu.same _ _ _ _ gV (by decide) (by decide) (by decide) (by decide) (by decide)
  exact ⟨by rw [So.cell_blk e]; rfl, by rw [So.cell_blk e]; rfl, by rw [So.cell_blk e]; rfl⟩
 have HV := Hid.mk hV
 clear hV bV gV
 go_upto_region 9 with fail
 (try rw [hQ])
 rw [HV.out]
 go_wp2_with fail
 refine (HO1.out _).mono ?_
 rintro e w4 ⟨B1, rfl, ht4, hb4⟩
 have HC4 := Hid.mk (HP1.out _ _ _ _ _ _ (HMV.out.blk hb4) ht4)
 have HF4 := Hid.mk (FrM.below hb4)
 clear ht4 hb4
 go_wp2_with fail
 refine HC4.out.mono ?_
 rintro e w5 ⟨rfl, hm5, hf5⟩
 have HM5 := Hid.mk hm5
 have HF5 := Hid.mk (HF4.out.trans hf5)
 clear hm5 hf5
 go_upto_region 10 with fail
 refine wp_region_held_drew (S := (fun w : World => w.cell? ⟨Q, 0, none⟩ = some (.string ⟨#[1, 65, 0]⟩) ∧ w.cell? ⟨Q, 1, none⟩ = some (.int .i64 1) ∧ w.cell? ⟨Q, 2, none⟩ = some (.int .i64 1))) (by kernel_rfl) (HQc.out _ (HF5.out.trans (FrM.below (Below.refl _ _).drew))) (fun hHeld => ?_)
 refine wU (i := 0) (v := ?va_0) rfl ?ya_0 (by assumption) ?_
 case ya_0 => (intro w hSw; (try dsimp only at hSw); go_simp; try with_reducible rfl)
 refine wU (i := 1) (v := ?va_1) rfl ?ya_1 (by assumption) ?_
 case ya_1 => (intro w hSw; (try dsimp only at hSw); go_simp; try with_reducible rfl)
 try simp only [Act.put, List.getElem_toArray, List.getElem_cons_succ, List.getElem_cons_zero, List.setIfInBounds_toArray, List.set_cons_zero, List.set_cons_succ]
 refine wpAnyH_ready (rs := [2]) (by kernel_rfl) (by simp) ?_
 refine AllReadyH.cons rfl (fun K hK => ?_) AllReadyH.nil
 go_simp
 go_at_call 60
 refine (HO1.out _).mono ?_
 rintro e w6 ⟨B2, rfl, ht6, hb6⟩
 have HMd := Hid.mk ((HM5.out.blk (Below.refl _ _).drew).blk hb6)
 have HFd := Hid.mk ((HF5.out.trans (FrM.below (Below.refl _ _).drew)).trans (FrM.below hb6))
 refine hK.out _ _ (HQc.out _ HFd.out) (fun hHeld => ?_)
 clear hK
 try simp only [Act.put, List.getElem_toArray, List.getElem_cons_succ, List.getElem_cons_zero, List.setIfInBounds_toArray, List.set_cons_zero, List.set_cons_succ]
 refine wpAnyH_ready (rs := [3]) (by kernel_rfl) (by simp) ?_
 refine AllReadyH.cons rfl (fun K hK => ?_) AllReadyH.nil
 obtain ⟨D, hD⟩ : ∃ D, w6.heap.size = D := ⟨_, rfl⟩
 obtain ⟨V6, hV6⟩ : ∃ V, w6.alloc (.cells #[.string ⟨#[1, 97, 0]⟩, .int .i64 1, .int .i64 1, .int .i64 10, .slice (some ⟨B2, 0, none⟩) 1 1, .slice none 0 0] 34) = V := ⟨_, rfl⟩
 have b6 : Below w6.heap.size w6 V6 := by rw [← hV6]; exact (Below.refl _ _).alloc (Nat.le_refl _) _
 have g6 : V6.heap[D]? = some (.cells #[.string ⟨#[1, 97, 0]⟩, .int .i64 1, .int .i64 1, .int .i64 10, .slice (some ⟨B2, 0, none⟩) 1 1, .slice none 0 0] 34 (0, 0)) := by rw [← hV6, ← hD]; exact heap_alloc_new w6 _
 have HC6 := Hid.mk (HQ1.out V6 C T X U B2 D (HMd.out.blk b6) (ht6.blk b6) g6)
 have HF6 := Hid.mk (HFd.out.trans (FrM.below b6))
 have HV6 := Hid.mk hV6
 clear hV6 b6 g6 ht6 hb6
 go_simp
 (try rw [hD])
 rw [HV6.out]
 clear hD
 refine hK.out _ _ (HQc.out _ HF6.out) (fun hHeld => ?_)
 clear hK
 try simp only [Act.put, List.getElem_toArray, List.getElem_cons_succ, List.getElem_cons_zero, List.setIfInBounds_toArray, List.set_cons_zero, List.set_cons_succ]
 refine wU (i := 4) (v := ?vb_4) rfl ?yb_4 (by assumption) ?_
 case yb_4 => (intro w hSw; (try dsimp only at hSw); go_simp; try with_reducible rfl)
 try simp only [Act.put, List.getElem_toArray, List.getElem_cons_succ, List.getElem_cons_zero, List.setIfInBounds_toArray, List.set_cons_zero, List.set_cons_succ]
 refine wpAnyH_ready (rs := [5]) (by kernel_rfl) (by simp) ?_
 refine AllReadyH.cons rfl (fun K hK => ?_) AllReadyH.nil
 go_simp
 go_at_call 27
 refine HC6.out.mono ?_
 rintro e w7 ⟨rfl, ⟨n3, hn3, hm7⟩, hf7⟩
 have HN3 := Hid.mk hn3
 have HM7 := Hid.mk (HG1.out _ _ _ _ _ _ hm7)
 have HF7 := Hid.mk (HF6.out.trans hf7)
 clear hm7 hf7 hn3
 refine hK.out _ _ (HQc.out _ HF7.out) (fun hHeld => ?_)
 clear hK
 try simp only [Act.put, List.getElem_toArray, List.getElem_cons_succ, List.getElem_cons_zero, List.setIfInBounds_toArray, List.set_cons_zero, List.set_cons_succ]
 refine wU (i := 6) (v := ?vc_6) rfl ?yc_6 (by assumption) ?_
 case yc_6 => (intro w hSw; (try dsimp only at hSw); go_simp; try with_reducible rfl)
 refine wU (i := 7) (v := ?vc_7) rfl ?yc_7 (by assumption) ?_
 case yc_7 => (intro w hSw; (try dsimp only at hSw); go_simp; try with_reducible rfl)
 refine wU (i := 8) (v := ?vc_8) rfl ?yc_8 (by assumption) ?_
 case yc_8 => (intro w hSw; (try dsimp only at hSw); go_simp; try with_reducible rfl)
 refine wU (i := 9) (v := ?vc_9) rfl ?yc_9 (by assumption) ?_
 case yc_9 => (intro w hSw; (try dsimp only at hSw); go_simp; try with_reducible rfl)
 refine wU (i := 10) (v := ?vc_10) rfl ?yc_10 (by assumption) ?_
 case yc_10 => (intro w hSw; (try dsimp only at hSw); go_simp; try with_reducible rfl)
 try simp only [Act.put, List.getElem_toArray, List.getElem_cons_succ, List.getElem_cons_zero, List.setIfInBounds_toArray, List.set_cons_zero, List.set_cons_succ]
 refine wpAnyH_done (by kernel_rfl) ?_ _
 clear hHeld
 obtain ⟨q0, q1, q2⟩ := HQc.out _ HF7.out
 go_wp2_with fail
 refine HM7.out.mono ?_
 rintro e w8 ⟨⟨R, c1, q2', c2, rfl, hc1, hR⟩, hm8, hf8⟩
 clear q0 q1 q2
 obtain ⟨P, hP⟩ : ∃ P, w8.heap.size = P := ⟨_, rfl⟩
 obtain ⟨V8, hV8⟩ : ∃ V, w8.alloc (.cells #[.int .i64 0, .int .i64 0, .slice (some ⟨R, 0, none⟩) 1 c1, .slice q2' 0 c2, .int .i64 10] 71) = V := ⟨_, rfl⟩
 have b8 : Below w8.heap.size w8 V8 := by rw [← hV8]; exact (Below.refl _ _).alloc (Nat.le_refl _) _
 have g8 : V8.heap[P]? = some (.cells #[.int .i64 0, .int .i64 0, .slice (some ⟨R, 0, none⟩) 1 c1, .slice q2' 0 c2, .int .i64 10] 71 (0, 0)) := by rw [← hV8, ← hP]; exact heap_alloc_new w8 _
 have HM8 := Hid.mk (hm8.blk b8)
 have HF8 := Hid.mk ((HF7.out.trans hf8).trans (FrM.below b8))
 have HPc : Hid (∀ u, FrM V8 u → u.cell? ⟨P, 2, none⟩ = some (.slice (some ⟨R, 0, none⟩) 1 c1) ∧ u.cell? ⟨R, 3, none⟩ = some (.int .i64 5)) := fun u hu => by
  have e := hu.same _ _ _ _ g8 (by decide) (by decide) (by decide) (by decide) (by decide)
  exact ⟨by rw [So.cell_blk e]; rfl, hR.out u ((FrM.below b8).trans hu)⟩
 have HV8 := Hid.mk hV8
 clear hV8 b8 g8 hm8 hf8 hR
 go_upto_region 12 with fail
 (try rw [hP])
 rw [HV8.out]
 go_wp2_with fail
 refine (HO2.out _).mono ?_
 rintro e w9 ⟨B3, rfl, ht9, hb9⟩
 have HC9 := Hid.mk (HP2.out _ _ _ _ _ _ _ (HM8.out.blk hb9) ht9)
 have HF9 := Hid.mk (FrM.below hb9)
 clear ht9 hb9 hP
 go_wp2_with fail
 refine HC9.out.mono ?_
 rintro e w10 ⟨rfl, hm10, hf10⟩
 have HC10 := Hid.mk (HG2.out _ _ _ _ _ _ hm10)
 have HF10 := Hid.mk (HF9.out.trans hf10)
 clear hm10 hf10
 obtain ⟨q0, q1, q2⟩ := HQc.out _ (HF8.out.trans HF10.out)
 go_wp2_with fail
 refine HC10.out.mono ?_
 rintro e w11 ⟨rfl, hm11, hf11⟩
 clear q0 q1 q2
 obtain ⟨V11, hV11⟩ : ∃ V, w11.alloc (.cells #[.int .i64 0, .int .i64 0, .slice none 0 0, .slice none 0 0, .int .i64 0] 71) = V := ⟨_, rfl⟩
 have b11 : Below w11.heap.size w11 V11 := by rw [← hV11]; exact (Below.refl _ _).alloc (Nat.le_refl _) _
 have HC11 := Hid.mk (HQ0.out _ _ _ _ _ _ HN3.out (hm11.blk b11))
 have HF11 := Hid.mk ((HF10.out.trans hf11).trans (FrM.below b11))
 have HV11 := Hid.mk hV11
 clear hV11 b11 hm11 hf11
 go_upto_region 14 with fail
 rw [HV11.out]
 go_wp2_with fail
 refine HC11.out.mono ?_
 rintro e w12 ⟨rfl, hm12, hf12⟩
 have HC12 := Hid.mk (HL.out _ _ _ _ _ _ hm12)
 have HE := Hid.mk hm12.bel
 obtain ⟨p2, p3⟩ := HPc.out _ (HF11.out.trans hf12)
 have hcc := hc1.out
 clear hm12 hf12
 go_wp2_with fail
 refine HC12.out.mono ?_
 rintro e w13 ⟨rfl, rfl⟩
 go_wp2
 go_ret
 exact ⟨rfl, HE.out⟩
end Go.Proofs.YtikjepodmdaknaaGreatDoor.Mc
/- Layer 16: pick. -/
namespace Go.Proofs.YtikjepodmdaknaaGreatDoor.Rc
open Go.RowKit
def pickR (c : Int) (n : Int) : Int := (if c < 0 then -(c + 1) else c).tmod n
theorem pickR_ge (c n : Int) : 0 ≤ pickR c n := by
 unfold pickR
 apply Int.tmod_nonneg
 split <;> omega
theorem pickR_lt (c n : Int) (h : 0 < n) : pickR c n < n := Int.tmod_lt_of_pos _ h
theorem pick_in (w : World) (c n : Int) (hc : -9223372036854775808 ≤ c ∧ c ≤ 9223372036854775807) (hn : 0 < n) (hn2 : n ≤ 1000000000) :
  Calls Tryz.prog 11 #[.int .i64 c, .int .i64 n] w fun e w' => e = .returned (.int .i64 (pickR c n)) ∧ w' = w := by
 have hn0 : ¬ n = 0 := by omega
 have hge := pickR_ge c n
 have hlt := pickR_lt c n hn
 by_cases h : c < 0
 ·have hp : pickR c n = (-(c + 1)).tmod n := by unfold pickR; rw [if_pos h]
  rw [hp] at hge hlt ⊢
  go_enter Tryz.func11, Tryz.ntmps11
  go_wp2
  go_ret
  refine ⟨?_, rfl⟩
  show Ending.returned (Value.int .i64 (-(c + 1).tmod n)) = _
  rw [Int.neg_tmod]
 ·have hp : pickR c n = c.tmod n := by unfold pickR; rw [if_neg h]
  rw [hp] at hge hlt ⊢
  go_enter Tryz.func11, Tryz.ntmps11
  go_wp2
  go_ret
  refine ⟨?_, rfl⟩
  show Ending.returned (Value.int .i64 (c % n)) = _
  rw [Int.tmod_eq_emod_of_nonneg (by omega)]
end Go.Proofs.YtikjepodmdaknaaGreatDoor.Rc
/- Layer 17: pick. -/
namespace Go.Proofs.YtikjepodmdaknaaGreatDoor.Mc
open Go.RowKit
open Go.Proofs.YtikjepodmdaknaaGreatDoor.Rc (pickR pickR_ge pickR_lt)
theorem pick_in (w : World) (c n : Int) (hc : -9223372036854775808 ≤ c ∧ c ≤ 9223372036854775807) (hn : 0 < n) (hn2 : n ≤ 1000000000) :
  Calls Tryz.prog 24 #[.int .i64 c, .int .i64 n] w fun e w' => e = .returned (.int .i64 (pickR c n)) ∧ w' = w := by
 have hn0 : ¬ n = 0 := by omega
 have hge := pickR_ge c n
 have hlt := pickR_lt c n hn
 by_cases h : c < 0
 ·have hp : pickR c n = (-(c + 1)).tmod n := by unfold pickR; rw [if_pos h]
  rw [hp] at hge hlt ⊢
  go_enter Tryz.func24, Tryz.ntmps24
  go_wp2
  go_ret
  refine ⟨?_, rfl⟩
  show Ending.returned (Value.int .i64 (-(c + 1).tmod n)) = _
  rw [Int.neg_tmod]
 ·have hp : pickR c n = c.tmod n := by unfold pickR; rw [if_neg h]
  rw [hp] at hge hlt ⊢
  go_enter Tryz.func24, Tryz.ntmps24
  go_wp2
  go_ret
  refine ⟨?_, rfl⟩
  show Ending.returned (Value.int .i64 (c % n)) = _
  rw [Int.tmod_eq_emod_of_nonneg (by omega)]
end Go.Proofs.YtikjepodmdaknaaGreatDoor.Mc
