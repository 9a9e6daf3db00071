/- Texts of this proof, joined: McNo, McNw. -/
import Derived.Test.YtikjepodmdaknaaGreatDoorJ33
import Derived.Test.YtikjepodmdaknaaGreatDoorJ25
set_option linter.unusedVariables false
set_option linter.unusedSimpArgs false
/- Layer 17: MsgcacheNothing. -/
namespace Go.Proofs.YtikjepodmdaknaaGreatDoor.Mc
open Go.RowKit
open Go.Proofs.YtikjepodmdaknaaGreatDoor.Rc (pt nilP Ky blk_lt AL Ev EvI timB RCA FrC SvI putOk refused putX putR getR verC aput_in anew_in keyS pickR pickR_ge pickR_lt without)
theorem soa_in (m : Nat) (hm : m < 4294967296) (W : World) : Calls Tryz.prog 35 #[.agg #[.string ⟨#[0]⟩, .string ⟨#[0]⟩, .int .i64 0, .int .i64 0, .int .i64 0, .int .i64 0, .int .i64 (m : Int)]] W fun e w' => e = .returned (.tuple #[.string (soaD m), .int .i64 0]) ∧ Below W.heap.size W w' := by
  refine (ofSoa_in 0 0 0 0 m rz rz (by decide) (by decide) (by decide) (by decide) (by decide) (by decide) hm W).mono ?_
  rintro e w' ⟨h1, h2⟩
  refine ⟨?_, h2⟩
  rw [h1]
  show Ending.returned (.tuple #[.string (soaD m), .int .i64 (errOf (joinR 6 (some (soaP m))))]) = _
  rw [soa_join]
  rfl
section
variable {W w : World} {C T m n : Nat} {ver : Int} {A : AL} {X U m2 n2 : Nat} {L : KL} {t now : Int}
theorem z_put_in (h : MS W w C T 10 1 1 (zA m t (now + t)) X U 10 0 []) (ht : 1 ≤ t ∧ t ≤ 999) (hm : m < 4294967296) (hn : 0 ≤ now ∧ now ≤ 100000) (q : Qn) (hq : q.nm.size ≤ maxLen) (hqt : I64 q.ty) (rc un : Int) (hrc : rc = 0 ∨ rc = 3) {B D : Nat} (hB : Tx1 w B (soaD m)) (hD : w.heap[D]? = some (.cells (svC (soaS m t) (some ⟨B, 0, none⟩) 1 none 0).toArray 34 (0, 0))) :
    Calls Tryz.prog 27 #[pt X, .agg (qC q).toArray, .agg #[.int .i64 rc, .int .i64 0, .slice none 0 0, .slice (some ⟨D, 0, none⟩) 1 1, .int .i64 un], .int .i64 now] w fun e w' => FrM w w' ∧
      ((e = .returned (.tuple #[.bool false, .int .i64 1])) ∨
       (e = .returned (.tuple #[.bool false, .int .i64 0]) ∧ endN now (min t (m : Int)) un ≤ now ∧ ∃ n3, n3 ≤ 1 ∧ MS W w' C T 10 1 1 (zA m t (now + t)) X U 10 n3 []) ∨
       (e = .returned (.tuple #[.bool true, .int .i64 0]) ∧ now < endN now (min t (m : Int)) un ∧ ∃ n3, n3 ≤ 1 ∧ MS W w' C T 10 1 1 (zA m t (now + t)) X U 10 n3 [(Rc.keyS q.nm q.ty, ⟨rc, 0, endN now (min t (m : Int)) un, [], [⟨kz, 1⟩]⟩)])) ∧ Below W.heap.size W w' := by
  have hb : ∀ s ∈ [soaS m t], SvI s := fun s hs => by
    obtain rfl : s = soaS m t := by simpa using hs
    exact soaS_in m (by omega) (by omega)
  refine (mput_in h (by omega) (by decide) q hq hqt ⟨rc, 0, [], [soaS m t], un⟩ none 0 (some ⟨D, 0, none⟩) 1 ⟨Nat.le_refl _, by decide⟩ ⟨Nat.le_refl _, by decide⟩ (lat_nil _) (lat_one hB hD) (fun s hs => by cases hs) hb now).mono ?_
  rintro e w' ⟨hf, hp⟩
  have hl := z_learn ht hm hn q.ty rc un
  rcases hp with ⟨_, h2, h3⟩ | ⟨_, h2, n3, h3, h4⟩
  · exact ⟨hf, .inl h2, h3.bel⟩
  · refine ⟨hf, ?_, h4.bel⟩
    by_cases he : endN now (min t (m : Int)) un ≤ now
    · have e1 := put_no2 (m := 10) (L := []) hl he
      rw [e1] at h2 h4
      exact .inr (.inl ⟨h2, he, n3, by omega, h4⟩)
    · have e1 := put_yes (m := 10) (L := []) hl he
      rw [e1] at h2 h4
      exact .inr (.inr ⟨h2, by omega, n3, by omega, h4⟩)
theorem z_get_no (q : Qn) (hq : q.nm.size ≤ maxLen) (hqt : I64 q.ty) {u : Int} {n3 : Nat} (hn : 0 ≤ now ∧ now ≤ 100000) (h : MS W w C T 10 1 1 (zA m t u) X U 10 n3 L) (hL : L = [] ∨ ∃ rc e, e ≤ now ∧ L = [(Rc.keyS q.nm q.ty, ⟨rc, 0, e, [], [⟨kz, 1⟩]⟩)]) :
    Calls Tryz.prog 29 #[pt X, .agg (qC q).toArray, .int .i64 now] w fun e w' => e = .returned (.tuple #[.agg zAn.toArray, .bool false]) ∧ FrM w w' ∧ Below W.heap.size W w' := by
  have hg : (gotA (zA m t u) L q now).2.2 = none := by
    rcases hL with rfl | ⟨rc, e, he, rfl⟩
    · unfold gotA
      rw [if_pos (tim_ok hn.1 (show now ≤ 4294967295 by omega))]
      rfl
    · rw [z_got_no q rc e hn he]
  refine (mget_in h q hq hqt now).mono ?_
  rintro e w' ⟨hf, h1, hp⟩
  rcases hp with ⟨_, h2⟩ | ⟨x, q1, c1, q2, c2, h2, _⟩
  · exact ⟨h2, hf, h1.bel⟩
  · rw [hg] at h2; cases h2
theorem z_get_yes (q : Qn) (hq : q.nm.size ≤ maxLen) (hqt : I64 q.ty) {u un : Int} {n3 : Nat} {rc : Int} (hn : 0 ≤ now ∧ now ≤ 100000) (h : MS W w C T 10 1 1 (zA m t u) X U 10 n3 [(Rc.keyS q.nm q.ty, ⟨rc, 0, un, [], [⟨kz, 1⟩]⟩)]) (he : now < un) (hu : now < u) :
    Calls Tryz.prog 29 #[pt X, .agg (qC q).toArray, .int .i64 now] w fun e w' => (∃ q1 c1 R c2, e = .returned (.tuple #[.agg #[.int .i64 rc, .int .i64 0, .slice q1 0 c1, .slice (some ⟨R, 0, none⟩) 1 c2, .int .i64 un], .bool true]) ∧ Hid (1 ≤ c2 ∧ c2 ≤ 9223372036854775807) ∧ Hid (∀ v, FrM w' v → v.cell? ⟨R, 3, none⟩ = some (.int .i64 (min (min (u - now) 604800) (un - now))))) ∧ FrM w w' ∧ Below W.heap.size W w' := by
  have hg := z_got (m := m) (t := t) q rc un hn he hu
  refine (mget_in h q hq hqt now).mono ?_
  rintro e w' ⟨hf, h1, hp⟩
  rw [hg] at hp
  rcases hp with ⟨h2, _⟩ | ⟨x, q1, c1, q2, c2, h2, h3, h4, h5⟩
  · cases h2
  · obtain rfl := Option.some.inj h2
    obtain ⟨R, _, _, _, _, rfl, _⟩ := h5.at 0 _ rfl
    obtain ⟨_, _, e1, hc⟩ := h5.form
    cases e1
    refine ⟨⟨q1, c1, R, c2, h3, hc, fun v hv => ?_⟩, hf, h1.bel⟩
    obtain ⟨R', _, _, _, _, e2, _, _, _, hcell⟩ := (h5.frm hv).at 0 _ rfl
    cases e2
    exact (hcell 3 (by omega)).trans rfl
end
end Go.Proofs.YtikjepodmdaknaaGreatDoor.Mc
/- Layer 17: MsgcacheNothing, its walk. -/
namespace Go.Proofs.YtikjepodmdaknaaGreatDoor.Mc
open Go.RowKit
open Go.Proofs.YtikjepodmdaknaaGreatDoor.Rc (pt nilP Ky blk_lt AL Ev EvI timB RCA FrC SvI putOk refused putX putR getR verC aput_in anew_in keyS pickR pickR_ge pickR_lt without)
set_option maxRecDepth 100000 in
set_option maxHeartbeats 16000000 in
theorem nothing_false (W : World) (q : Qn) (hq : q.nm.size ≤ maxLen) (hqt : I64 q.ty) (ttl mn nw lt : Int) (h1 : I64 ttl) (h2 : I64 mn) (h3 : I64 nw) (h4 : I64 lt) :
    Calls Tryz.prog 7 #[.agg (qC q).toArray, .bool false, .int .i64 ttl, .int .i64 mn, .int .i64 nw, .int .i64 lt] W fun e w' => e = .returned (.bool true) ∧ Below W.heap.size W w' := by
  have hp1 := fun w => pick_in w ttl 999 h1 (by omega) (by omega)
  have hp2 := fun w => pick_in w mn 1000 h2 (by omega) (by omega)
  have hp3 := fun w => pick_in w nw 2000 h3 (by omega) (by omega)
  have hp4 := fun w => pick_in w lt 2000 h4 (by omega) (by omega)
  have g1 := pickR_ge ttl 999
  have g2 := pickR_ge mn 1000
  have g3 := pickR_ge nw 2000
  have g4 := pickR_ge lt 2000
  have l1 := pickR_lt ttl 999 (by omega)
  have l2 := pickR_lt mn 1000 (by omega)
  have l3 := pickR_lt nw 2000 (by omega)
  have l4 := pickR_lt lt 2000 (by omega)
  generalize pickR ttl 999 = p1 at hp1 g1 l1
  generalize pickR mn 1000 = p2 at hp2 g2 l2
  generalize pickR nw 2000 = now at hp3 g3 l3
  generalize pickR lt 2000 = p4 at hp4 g4 l4
  obtain ⟨mm, rfl⟩ : ∃ mm : Nat, p2 = (mm : Int) := ⟨p2.toNat, by omega⟩
  obtain ⟨t, ht⟩ : ∃ t, 1 + p1 = t := ⟨_, rfl⟩
  obtain ⟨la, hla⟩ : ∃ la, now + p4 = la := ⟨_, rfl⟩
  obtain ⟨en, hen⟩ : ∃ en, now + min t (mm : Int) = en := ⟨_, rfl⟩
  have wt : IntKind.i64.wrap (1 + p1) = t := by rw [IntKind.wrap_i64]; omega
  have wl : IntKind.i64.wrap (now + p4) = la := by rw [IntKind.wrap_i64]; omega
  have we : IntKind.i64.wrap (now + min t (mm : Int)) = en := by rw [IntKind.wrap_i64]; omega
  have wd : IntKind.i64.wrap (en - la) = en - la := by rw [IntKind.wrap_i64]; omega
  have HP1 := Hid.mk hp1
  have HP2 := Hid.mk hp2
  have HP3 := Hid.mk hp3
  have HP4 := Hid.mk hp4
  have HX : Hid (∀ w, Calls Tryz.prog 23 #[] w fun e w' => e = .returned (.bool true) ∧ Below w.heap.size w w') := fun w => examples_in w
  have HN : Hid (∀ w, Calls Tryz.prog 10 #[.int .i64 10] w fun e w' => ∃ C T, e = .returned (.tuple #[pt C, .int .i64 0]) ∧ RCA w w' C T 10 0 0 []) := fun w => anew_in w 10 (by omega) (by omega)
  have HM : Hid (∀ W w C T, RCA W w C T 10 0 0 [] → Calls Tryz.prog 25 #[.int .i64 10, pt C] w fun e w' => ∃ X U, e = .returned (.tuple #[pt X, .int .i64 0]) ∧ MS W w' C T 10 0 0 [] X U 10 0 []) := fun W w C T hr => mnew_in hr 10 (by omega) (by omega)
  have HSo : Hid (∀ w, Calls Tryz.prog 35 #[.agg #[.string ⟨#[0]⟩, .string ⟨#[0]⟩, .int .i64 0, .int .i64 0, .int .i64 0, .int .i64 0, .int .i64 (mm : Int)]] w fun e w' => e = .returned (.tuple #[.string (soaD mm), .int .i64 0]) ∧ Below w.heap.size w w') := fun w => soa_in mm (by omega) w
  have HS1 : Hid (∀ W w C T X U B, MS W w C T 10 0 0 [] X U 10 0 [] → Tx1 w B (soaD mm) → Calls Tryz.prog 13 #[pt C, .agg (svC (soaS mm t) (some ⟨B, 0, none⟩) 1 none 0).toArray, .int .i64 3, .int .i64 0, .int .i64 now] w fun e w' => e = .returned (.tuple #[.bool true, .int .i64 0]) ∧ MS W w' C T 10 1 1 (zA mm t (now + t)) X U 10 0 [] ∧ FrM w w') := fun W w C T X U B hm hb => by
    have z := z_put1 (m := mm) (t := t) (now := now) (by omega) (by omega)
    refine (sput_yes hm (by omega) (soaS mm t) (soaS_in mm (by omega) (by omega)) _ 1 none 0 (sv_one hb) 3 0 now z.1 z.2.1).mono ?_
    rintro e w' ⟨h1, h2, h3⟩
    rw [z.2.2] at h2
    exact ⟨h1, h2, h3⟩
  have HPt : Hid (∀ W w C T X U B D, MS W w C T 10 1 1 (zA mm t (now + t)) X U 10 0 [] → Tx1 w B (soaD mm) → w.heap[D]? = some (.cells (svC (soaS mm t) (some ⟨B, 0, none⟩) 1 none 0).toArray 34 (0, 0)) → Calls Tryz.prog 27 #[pt X, .agg (qC q).toArray, .agg #[.int .i64 0, .int .i64 0, .slice none 0 0, .slice (some ⟨D, 0, none⟩) 1 1, .int .i64 0], .int .i64 now] w fun e w' => FrM w w' ∧
      ((e = .returned (.tuple #[.bool false, .int .i64 1])) ∨
       (e = .returned (.tuple #[.bool false, .int .i64 0]) ∧ mm = 0 ∧ ∃ n3, n3 ≤ 1 ∧ MS W w' C T 10 1 1 (zA mm t (now + t)) X U 10 n3 []) ∨
       (e = .returned (.tuple #[.bool true, .int .i64 0]) ∧ 0 < mm ∧ ∃ n3, n3 ≤ 1 ∧ MS W w' C T 10 1 1 (zA mm t (now + t)) X U 10 n3 [(Rc.keyS q.nm q.ty, ⟨0, 0, en, [], [⟨kz, 1⟩]⟩)])) ∧ Below W.heap.size W w') := fun W w C T X U B D hm hb hd => by
    have he : endN now (min t (mm : Int)) 0 = en := by unfold endN; rw [if_pos rfl]; exact hen
    have := z_put_in hm (by omega) (by omega) (by omega) q hq hqt 0 0 (by omega) hb hd
    rw [he] at this
    refine this.mono ?_
    rintro e w' ⟨hf, hc, hbl⟩
    refine ⟨hf, ?_, hbl⟩
    rcases hc with hc | ⟨e1, e2, e3⟩ | ⟨e1, e2, e3⟩
    · exact .inl hc
    · exact .inr (.inl ⟨e1, by omega, e3⟩)
    · exact .inr (.inr ⟨e1, by omega, e3⟩)
  have HGn : Hid (∀ W w C T X U n3 L, en ≤ la → MS W w C T 10 1 1 (zA mm t (now + t)) X U 10 n3 L → (L = [] ∨ L = [(Rc.keyS q.nm q.ty, ⟨0, 0, en, [], [⟨kz, 1⟩]⟩)]) → Calls Tryz.prog 29 #[pt X, .agg (qC q).toArray, .int .i64 la] w fun e w' => e = .returned (.tuple #[.agg zAn.toArray, .bool false]) ∧ FrM w w' ∧ Below W.heap.size W w') := fun W w C T X U n3 L hle hm hL => z_get_no q hq hqt (by omega) hm (hL.imp id fun e => ⟨0, en, hle, e⟩)
  have HGy : Hid (∀ W w C T X U n3, la < en → MS W w C T 10 1 1 (zA mm t (now + t)) X U 10 n3 [(Rc.keyS q.nm q.ty, ⟨0, 0, en, [], [⟨kz, 1⟩]⟩)] → Calls Tryz.prog 29 #[pt X, .agg (qC q).toArray, .int .i64 la] w fun e w' => (∃ q1 c1 R c2, e = .returned (.tuple #[.agg #[.int .i64 0, .int .i64 0, .slice q1 0 c1, .slice (some ⟨R, 0, none⟩) 1 c2, .int .i64 en], .bool true]) ∧ Hid (1 ≤ c2 ∧ c2 ≤ 9223372036854775807) ∧ Hid (∀ v, FrM w' v → v.cell? ⟨R, 3, none⟩ = some (.int .i64 (en - la)))) ∧ FrM w w' ∧ Below W.heap.size W w') := fun W w C T X U n3 hle hm => by
    have := z_get_yes q hq hqt (now := la) (by omega) hm hle (by omega)
    rw [show min (min (now + t - la) 604800) (en - la) = en - la by omega] at this
    exact this
  dsimp only [qC, zAn] at HPt HGn HGy
  dsimp only [svC, soaS, rz, List.length_cons, List.length_nil, Nat.zero_add, Nat.reduceAdd] at HS1 HPt
  obtain ⟨Q, hQ⟩ : ∃ Q, W.heap.size = Q := ⟨_, rfl⟩
  obtain ⟨V, hV⟩ : ∃ V, W.alloc (.cells #[.string q.nm, .int .i64 q.ty, .int .i64 q.cl] 64) = V := ⟨_, rfl⟩
  have bV : Below W.heap.size W V := by rw [← hV]; exact (Below.refl _ _).alloc (Nat.le_refl _) _
  have gV : V.heap[Q]? = some (.cells #[.string q.nm, .int .i64 q.ty, .int .i64 q.cl] 64 (0, 0)) := by rw [← hV, ← hQ]; exact heap_alloc_new W _
  have HQc : Hid (∀ u, FrM V u → u.cell? ⟨Q, 0, none⟩ = some (.string q.nm) ∧ u.cell? ⟨Q, 1, none⟩ = some (.int .i64 q.ty) ∧ u.cell? ⟨Q, 2, none⟩ = some (.int .i64 q.cl)) := fun u hu => by
    have e := hu.same _ _ _ _ gV (by decide) (by decide) (by decide) (by decide) (by decide)
    exact ⟨by rw [So.cell_blk e]; rfl, by rw [So.cell_blk e]; rfl, by rw [So.cell_blk e]; rfl⟩
  have HB : Hid (∀ u u', Below V.heap.size V u → Below u.heap.size u u' → Below W.heap.size W u') := fun u u' hb hb' => bV.trans ((hb.trans (hb'.mono hb.size)).mono bV.size)
  have HV := Hid.mk hV
  have Ht : Hid (1 ≤ t ∧ t ≤ 999 ∧ 0 ≤ now ∧ now < 2000 ∧ now ≤ la ∧ la < 4000 ∧ en = now + min t (mm : Int)) := by unfold Hid; omega
  clear hp1 hp2 hp3 hp4 bV gV hV h1 h2 h3 h4 hq hqt
  go_enter Tryz.func7, Tryz.ntmps7
  go_upto_region 1 with fail
  (try rw [hQ])
  rw [HV.out]
  go_wp2_with fail
  refine (HX.out _).mono ?_
  rintro e w1 ⟨rfl, hb1⟩
  have HB1 := Hid.mk (HB.out w1 · hb1)
  have HF1 := Hid.mk (FrM.below hb1)
  clear hb1
  go_wp2_with fail
  refine (HN.out _).mono ?_
  rintro e w2 ⟨C, T, rfl, hr2⟩
  have HM2 := Hid.mk (HM.out _ _ _ _ hr2)
  have HF2 := Hid.mk (HF1.out.trans (FrM.below hr2.bel))
  clear hr2
  go_wp2_with fail
  refine HM2.out.mono ?_
  rintro e w3 ⟨X, U, rfl, hm3⟩
  have HM3 := Hid.mk hm3
  have HF3 := Hid.mk (HF1.out.trans (FrM.below hm3.bel))
  clear hm3
  go_wp2_with fail
  refine (HP1.out _).mono ?_
  rintro e w4 ⟨rfl, rfl⟩
  go_wp2_with fail
  refine (HP2.out _).mono ?_
  rintro e w5 ⟨rfl, rfl⟩
  go_wp2_with fail
  refine (HP3.out _).mono ?_
  rintro e w6 ⟨rfl, rfl⟩
  go_wp2_with fail
  refine (HP4.out _).mono ?_
  rintro e w7 ⟨rfl, rfl⟩
  go_wp2_with fail
  refine (HSo.out _).mono ?_
  rintro e w8 ⟨rfl, hb8⟩
  obtain ⟨B, hB⟩ : ∃ B, w8.heap.size = B := ⟨_, rfl⟩
  obtain ⟨V9, hV9⟩ : ∃ V, (w8.alloc (.cells #[.string (soaD mm)] 9)).alloc (.cells #[.string ⟨#[0]⟩, .int .i64 6, .int .i64 1, .int .i64 t, .slice (some ⟨B, 0, none⟩) 1 1, .slice none 0 0] 34) = V := ⟨_, rfl⟩
  have b9 : Below w8.heap.size w8 V9 := by rw [← hV9]; exact ((Below.refl _ _).alloc (Nat.le_refl _) _).alloc (by simp) _
  have bx := Bx.of2 w8 (.cells #[.string (soaD mm)] 9) (.cells #[.string ⟨#[0]⟩, .int .i64 6, .int .i64 1, .int .i64 t, .slice (some ⟨B, 0, none⟩) 1 1, .slice none 0 0] 34)
  rw [hV9, hB] at bx
  have t9 : Tx1 V9 B (soaD mm) := by have := bx 0 _ rfl; rwa [Nat.add_zero] at this
  have g9 : V9.heap[B + 1]? = some (.cells #[.string ⟨#[0]⟩, .int .i64 6, .int .i64 1, .int .i64 t, .slice (some ⟨B, 0, none⟩) 1 1, .slice none 0 0] 34 (0, 0)) := bx 1 _ rfl
  have HC9 := Hid.mk (HS1.out _ _ _ _ _ _ _ ((HM3.out.blk hb8).blk b9) t9)
  have HF9 := Hid.mk ((HF3.out.trans (FrM.below hb8)).trans (FrM.below b9))
  have HDc : Hid (∀ u, FrM V9 u → u.cell? ⟨B + 1, 0, none⟩ = some (.string ⟨#[0]⟩) ∧ u.cell? ⟨B + 1, 1, none⟩ = some (.int .i64 6) ∧ u.cell? ⟨B + 1, 2, none⟩ = some (.int .i64 1) ∧ u.cell? ⟨B + 1, 3, none⟩ = some (.int .i64 t) ∧ u.cell? ⟨B + 1, 4, none⟩ = some (.slice (some ⟨B, 0, none⟩) 1 1) ∧ u.cell? ⟨B + 1, 5, none⟩ = some (.slice none 0 0)) := fun u hu => by
    have e := hu.same _ _ _ _ g9 (by decide) (by decide) (by decide) (by decide) (by decide)
    exact ⟨by rw [So.cell_blk e]; rfl, by rw [So.cell_blk e]; rfl, by rw [So.cell_blk e]; rfl, by rw [So.cell_blk e]; rfl, by rw [So.cell_blk e]; rfl, by rw [So.cell_blk e]; rfl⟩
  have HT9 := Hid.mk t9
  have HV9 := Hid.mk hV9
  clear hb8 hV9 b9 bx t9 g9
  go_upto_region 14 with fail
  (try rw [hB])
  rw [HV9.out]
  clear hB
  obtain ⟨z0, z1, z2, z3, z4, z5⟩ := HDc.out _ (FrM.refl _)
  go_wp2_with fail
  refine HC9.out.mono ?_
  rintro e w10 ⟨rfl, hm10, hf10⟩
  have HM10 := Hid.mk hm10
  have HF10 := Hid.mk (HF9.out.trans hf10)
  have HT10 := Hid.mk (HT9.out.frm hf10)
  obtain ⟨y0, y1, y2⟩ := HQc.out _ HF10.out
  clear z0 z1 z2 z3 z4 z5
  obtain ⟨z0, z1, z2, z3, z4, z5⟩ := HDc.out _ hf10
  clear hm10 hf10
  obtain ⟨E, hE⟩ : ∃ E, w10.heap.size = E := ⟨_, rfl⟩
  obtain ⟨V11, hV11⟩ : ∃ V, w10.alloc (.cells #[.string ⟨#[0]⟩, .int .i64 6, .int .i64 1, .int .i64 t, .slice (some ⟨B, 0, none⟩) 1 1, .slice none 0 0] 34) = V := ⟨_, rfl⟩
  have b11 : Below w10.heap.size w10 V11 := by rw [← hV11]; exact (Below.refl _ _).alloc (Nat.le_refl _) _
  have g11 : V11.heap[E]? = some (.cells #[.string ⟨#[0]⟩, .int .i64 6, .int .i64 1, .int .i64 t, .slice (some ⟨B, 0, none⟩) 1 1, .slice none 0 0] 34 (0, 0)) := by rw [← hV11, ← hE]; exact heap_alloc_new w10 _
  have HC11 := Hid.mk (HPt.out _ _ _ _ _ _ _ _ (HM10.out.blk b11) (HT10.out.blk b11) g11)
  have HF11 := Hid.mk (HF10.out.trans (FrM.below b11))
  have HV11 := Hid.mk hV11
  clear hV11 b11 g11
  go_wp2_with fail
  (try rw [hE])
  rw [HV11.out]
  refine HC11.out.mono ?_
  rintro e w12 ⟨hf12, hc12, hb12⟩
  have HF12 := Hid.mk (HF11.out.trans hf12)
  have HBl := Hid.mk (HB1.out _ hb12)
  clear y0 y1 y2
  obtain ⟨y0, y1, y2⟩ := HQc.out _ HF12.out
  clear z0 z1 z2 z3 z4 z5 hf12 hb12 hE
  rcases hc12 with rfl | ⟨rfl, hmm, n3, hn3, hm12⟩ | ⟨rfl, hmm, n3, hn3, hm12⟩
  · go_wp2
    go_ret
    exact ⟨rfl, HBl.out⟩
  · have hle : en ≤ la := by have := Ht.out; omega
    have hnw : ¬ la < en := by omega
    have hmz : ¬ (mm : Int) > 0 := by omega
    have HC13 := Hid.mk (HGn.out _ _ _ _ _ _ _ _ hle hm12 (.inl rfl))
    clear hm12
    go_wp2_with fail
    refine HC13.out.mono ?_
    rintro e w13 ⟨rfl, hf13, hb13⟩
    clear y0 y1 y2
    obtain ⟨P, hP⟩ : ∃ P, w13.heap.size = P := ⟨_, rfl⟩
    obtain ⟨V14, hV14⟩ : ∃ V, w13.alloc (.cells #[.int .i64 0, .int .i64 0, .slice none 0 0, .slice none 0 0, .int .i64 0] 71) = V := ⟨_, rfl⟩
    have b14 : Below w13.heap.size w13 V14 := by rw [← hV14]; exact (Below.refl _ _).alloc (Nat.le_refl _) _
    have g14 : V14.heap[P]? = some (.cells #[.int .i64 0, .int .i64 0, .slice none 0 0, .slice none 0 0, .int .i64 0] 71 (0, 0)) := by rw [← hV14, ← hP]; exact heap_alloc_new w13 _
    have HBl2 := Hid.mk (HB1.out V14 (hb13.trans (b14.mono hb13.size)))
    have HV14 := Hid.mk hV14
    clear hV14 b14 g14 hf13 hb13
    go_upto_region 22 with fail
    (try rw [hP])
    rw [HV14.out]
    go_wp2
    go_ret
    refine ⟨?_, HBl2.out⟩
    show Ending.returned (Value.bool (!decide (la < now + min t 0))) = _
    rw [decide_eq_false (by have := Ht.out; omega)]
    rfl
  · by_cases hle : en ≤ la
    · have hnw : ¬ la < en := by omega
      have hmz : (mm : Int) > 0 := by omega
      have HC13 := Hid.mk (HGn.out _ _ _ _ _ _ _ _ hle hm12 (.inr rfl))
      clear hm12
      go_wp2_with fail
      refine HC13.out.mono ?_
      rintro e w13 ⟨rfl, hf13, hb13⟩
      clear y0 y1 y2
      obtain ⟨P, hP⟩ : ∃ P, w13.heap.size = P := ⟨_, rfl⟩
      obtain ⟨V14, hV14⟩ : ∃ V, w13.alloc (.cells #[.int .i64 0, .int .i64 0, .slice none 0 0, .slice none 0 0, .int .i64 0] 71) = V := ⟨_, rfl⟩
      have b14 : Below w13.heap.size w13 V14 := by rw [← hV14]; exact (Below.refl _ _).alloc (Nat.le_refl _) _
      have g14 : V14.heap[P]? = some (.cells #[.int .i64 0, .int .i64 0, .slice none 0 0, .slice none 0 0, .int .i64 0] 71 (0, 0)) := by rw [← hV14, ← hP]; exact heap_alloc_new w13 _
      have HBl2 := Hid.mk (HB1.out V14 (hb13.trans (b14.mono hb13.size)))
      have HV14 := Hid.mk hV14
      clear hV14 b14 g14 hf13 hb13
      go_upto_region 22 with fail
      (try rw [hP])
      rw [HV14.out]
      go_wp2
      go_ret
      refine ⟨?_, HBl2.out⟩
      show Ending.returned (Value.bool (!decide (la < en))) = _
      rw [decide_eq_false (by have := Ht.out; omega)]
      rfl
    · have hnw : la < en := by omega
      have hmz : (mm : Int) > 0 := by omega
      have HC13 := Hid.mk (HGy.out _ _ _ _ _ _ _ hnw hm12)
      clear hm12
      go_wp2_with fail
      refine HC13.out.mono ?_
      rintro e w13 ⟨⟨q1, c1, R, c2, rfl, hc2, hR⟩, hf13, hb13⟩
      have hcc := hc2.out
      clear y0 y1 y2
      obtain ⟨P, hP⟩ : ∃ P, w13.heap.size = P := ⟨_, rfl⟩
      obtain ⟨V14, hV14⟩ : ∃ V, w13.alloc (.cells #[.int .i64 0, .int .i64 0, .slice q1 0 c1, .slice (some ⟨R, 0, none⟩) 1 c2, .int .i64 en] 71) = V := ⟨_, rfl⟩
      have b14 : Below w13.heap.size w13 V14 := by rw [← hV14]; exact (Below.refl _ _).alloc (Nat.le_refl _) _
      have g14 : V14.heap[P]? = some (.cells #[.int .i64 0, .int .i64 0, .slice q1 0 c1, .slice (some ⟨R, 0, none⟩) 1 c2, .int .i64 en] 71 (0, 0)) := by rw [← hV14, ← hP]; exact heap_alloc_new w13 _
      have HBl2 := Hid.mk (HB1.out V14 (hb13.trans (b14.mono hb13.size)))
      have HV14 := Hid.mk hV14
      have p0 : V14.cell? ⟨P, 0, none⟩ = some (.int .i64 0) := by rw [So.cell_blk g14]; rfl
      have p3 : V14.cell? ⟨P, 3, none⟩ = some (.slice (some ⟨R, 0, none⟩) 1 c2) := by rw [So.cell_blk g14]; rfl
      have r3 := hR.out V14 (FrM.below b14)
      clear hV14 b14 g14 hf13 hb13
      go_upto_region 22 with fail
      (try rw [hP])
      rw [HV14.out]
      go_wp2
      go_ret
      exact ⟨rfl, HBl2.out⟩
set_option maxRecDepth 100000 in
set_option maxHeartbeats 16000000 in
theorem nothing_true (W : World) (q : Qn) (hq : q.nm.size ≤ maxLen) (hqt : I64 q.ty) (ttl mn nw lt : Int) (h1 : I64 ttl) (h2 : I64 mn) (h3 : I64 nw) (h4 : I64 lt) :
    Calls Tryz.prog 7 #[.agg (qC q).toArray, .bool true, .int .i64 ttl, .int .i64 mn, .int .i64 nw, .int .i64 lt] W fun e w' => e = .returned (.bool true) ∧ Below W.heap.size W w' := by
  have hp1 := fun w => pick_in w ttl 999 h1 (by omega) (by omega)
  have hp2 := fun w => pick_in w mn 1000 h2 (by omega) (by omega)
  have hp3 := fun w => pick_in w nw 2000 h3 (by omega) (by omega)
  have hp4 := fun w => pick_in w lt 2000 h4 (by omega) (by omega)
  have g1 := pickR_ge ttl 999
  have g2 := pickR_ge mn 1000
  have g3 := pickR_ge nw 2000
  have g4 := pickR_ge lt 2000
  have l1 := pickR_lt ttl 999 (by omega)
  have l2 := pickR_lt mn 1000 (by omega)
  have l3 := pickR_lt nw 2000 (by omega)
  have l4 := pickR_lt lt 2000 (by omega)
  generalize pickR ttl 999 = p1 at hp1 g1 l1
  generalize pickR mn 1000 = p2 at hp2 g2 l2
  generalize pickR nw 2000 = now at hp3 g3 l3
  generalize pickR lt 2000 = p4 at hp4 g4 l4
  obtain ⟨mm, rfl⟩ : ∃ mm : Nat, p2 = (mm : Int) := ⟨p2.toNat, by omega⟩
  obtain ⟨t, ht⟩ : ∃ t, 1 + p1 = t := ⟨_, rfl⟩
  obtain ⟨la, hla⟩ : ∃ la, now + p4 = la := ⟨_, rfl⟩
  obtain ⟨en, hen⟩ : ∃ en, now + min t (mm : Int) = en := ⟨_, rfl⟩
  have wt : IntKind.i64.wrap (1 + p1) = t := by rw [IntKind.wrap_i64]; omega
  have wl : IntKind.i64.wrap (now + p4) = la := by rw [IntKind.wrap_i64]; omega
  have we : IntKind.i64.wrap (now + min t (mm : Int)) = en := by rw [IntKind.wrap_i64]; omega
  have wd : IntKind.i64.wrap (en - la) = en - la := by rw [IntKind.wrap_i64]; omega
  have HP1 := Hid.mk hp1
  have HP2 := Hid.mk hp2
  have HP3 := Hid.mk hp3
  have HP4 := Hid.mk hp4
  have HX : Hid (∀ w, Calls Tryz.prog 23 #[] w fun e w' => e = .returned (.bool true) ∧ Below w.heap.size w w') := fun w => examples_in w
  have HN : Hid (∀ w, Calls Tryz.prog 10 #[.int .i64 10] w fun e w' => ∃ C T, e = .returned (.tuple #[pt C, .int .i64 0]) ∧ RCA w w' C T 10 0 0 []) := fun w => anew_in w 10 (by omega) (by omega)
  have HM : Hid (∀ W w C T, RCA W w C T 10 0 0 [] → Calls Tryz.prog 25 #[.int .i64 10, pt C] w fun e w' => ∃ X U, e = .returned (.tuple #[pt X, .int .i64 0]) ∧ MS W w' C T 10 0 0 [] X U 10 0 []) := fun W w C T hr => mnew_in hr 10 (by omega) (by omega)
  have HSo : Hid (∀ w, Calls Tryz.prog 35 #[.agg #[.string ⟨#[0]⟩, .string ⟨#[0]⟩, .int .i64 0, .int .i64 0, .int .i64 0, .int .i64 0, .int .i64 (mm : Int)]] w fun e w' => e = .returned (.tuple #[.string (soaD mm), .int .i64 0]) ∧ Below w.heap.size w w') := fun w => soa_in mm (by omega) w
  have HS1 : Hid (∀ W w C T X U B, MS W w C T 10 0 0 [] X U 10 0 [] → Tx1 w B (soaD mm) → Calls Tryz.prog 13 #[pt C, .agg (svC (soaS mm t) (some ⟨B, 0, none⟩) 1 none 0).toArray, .int .i64 3, .int .i64 0, .int .i64 now] w fun e w' => e = .returned (.tuple #[.bool true, .int .i64 0]) ∧ MS W w' C T 10 1 1 (zA mm t (now + t)) X U 10 0 [] ∧ FrM w w') := fun W w C T X U B hm hb => by
    have z := z_put1 (m := mm) (t := t) (now := now) (by omega) (by omega)
    refine (sput_yes hm (by omega) (soaS mm t) (soaS_in mm (by omega) (by omega)) _ 1 none 0 (sv_one hb) 3 0 now z.1 z.2.1).mono ?_
    rintro e w' ⟨h1, h2, h3⟩
    rw [z.2.2] at h2
    exact ⟨h1, h2, h3⟩
  have HPt : Hid (∀ W w C T X U B D, MS W w C T 10 1 1 (zA mm t (now + t)) X U 10 0 [] → Tx1 w B (soaD mm) → w.heap[D]? = some (.cells (svC (soaS mm t) (some ⟨B, 0, none⟩) 1 none 0).toArray 34 (0, 0)) → Calls Tryz.prog 27 #[pt X, .agg (qC q).toArray, .agg #[.int .i64 3, .int .i64 0, .slice none 0 0, .slice (some ⟨D, 0, none⟩) 1 1, .int .i64 0], .int .i64 now] w fun e w' => FrM w w' ∧
      ((e = .returned (.tuple #[.bool false, .int .i64 1])) ∨
       (e = .returned (.tuple #[.bool false, .int .i64 0]) ∧ mm = 0 ∧ ∃ n3, n3 ≤ 1 ∧ MS W w' C T 10 1 1 (zA mm t (now + t)) X U 10 n3 []) ∨
       (e = .returned (.tuple #[.bool true, .int .i64 0]) ∧ 0 < mm ∧ ∃ n3, n3 ≤ 1 ∧ MS W w' C T 10 1 1 (zA mm t (now + t)) X U 10 n3 [(Rc.keyS q.nm q.ty, ⟨3, 0, en, [], [⟨kz, 1⟩]⟩)])) ∧ Below W.heap.size W w') := fun W w C T X U B D hm hb hd => by
    have he : endN now (min t (mm : Int)) 0 = en := by unfold endN; rw [if_pos rfl]; exact hen
    have := z_put_in hm (by omega) (by omega) (by omega) q hq hqt 3 0 (by omega) hb hd
    rw [he] at this
    refine this.mono ?_
    rintro e w' ⟨hf, hc, hbl⟩
    refine ⟨hf, ?_, hbl⟩
    rcases hc with hc | ⟨e1, e2, e3⟩ | ⟨e1, e2, e3⟩
    · exact .inl hc
    · exact .inr (.inl ⟨e1, by omega, e3⟩)
    · exact .inr (.inr ⟨e1, by omega, e3⟩)
  have HGn : Hid (∀ W w C T X U n3 L, en ≤ la → MS W w C T 10 1 1 (zA mm t (now + t)) X U 10 n3 L → (L = [] ∨ L = [(Rc.keyS q.nm q.ty, ⟨3, 0, en, [], [⟨kz, 1⟩]⟩)]) → Calls Tryz.prog 29 #[pt X, .agg (qC q).toArray, .int .i64 la] w fun e w' => e = .returned (.tuple #[.agg zAn.toArray, .bool false]) ∧ FrM w w' ∧ Below W.heap.size W w') := fun W w C T X U n3 L hle hm hL => z_get_no q hq hqt (by omega) hm (hL.imp id fun e => ⟨3, en, hle, e⟩)
  have HGy : Hid (∀ W w C T X U n3, la < en → MS W w C T 10 1 1 (zA mm t (now + t)) X U 10 n3 [(Rc.keyS q.nm q.ty, ⟨3, 0, en, [], [⟨kz, 1⟩]⟩)] → Calls Tryz.prog 29 #[pt X, .agg (qC q).toArray, .int .i64 la] w fun e w' => (∃ q1 c1 R c2, e = .returned (.tuple #[.agg #[.int .i64 3, .int .i64 0, .slice q1 0 c1, .slice (some ⟨R, 0, none⟩) 1 c2, .int .i64 en], .bool true]) ∧ Hid (1 ≤ c2 ∧ c2 ≤ 9223372036854775807) ∧ Hid (∀ v, FrM w' v → v.cell? ⟨R, 3, none⟩ = some (.int .i64 (en - la)))) ∧ FrM w w' ∧ Below W.heap.size W w') := fun W w C T X U n3 hle hm => by
    have := z_get_yes q hq hqt (now := la) (by omega) hm hle (by omega)
    rw [show min (min (now + t - la) 604800) (en - la) = en - la by omega] at this
    exact this
  dsimp only [qC, zAn] at HPt HGn HGy
  dsimp only [svC, soaS, rz, List.length_cons, List.length_nil, Nat.zero_add, Nat.reduceAdd] at HS1 HPt
  obtain ⟨Q, hQ⟩ : ∃ Q, W.heap.size = Q := ⟨_, rfl⟩
  obtain ⟨V, hV⟩ : ∃ V, W.alloc (.cells #[.string q.nm, .int .i64 q.ty, .int .i64 q.cl] 64) = V := ⟨_, rfl⟩
  have bV : Below W.heap.size W V := by rw [← hV]; exact (Below.refl _ _).alloc (Nat.le_refl _) _
  have gV : V.heap[Q]? = some (.cells #[.string q.nm, .int .i64 q.ty, .int .i64 q.cl] 64 (0, 0)) := by rw [← hV, ← hQ]; exact heap_alloc_new W _
  have HQc : Hid (∀ u, FrM V u → u.cell? ⟨Q, 0, none⟩ = some (.string q.nm) ∧ u.cell? ⟨Q, 1, none⟩ = some (.int .i64 q.ty) ∧ u.cell? ⟨Q, 2, none⟩ = some (.int .i64 q.cl)) := fun u hu => by
    have e := hu.same _ _ _ _ gV (by decide) (by decide) (by decide) (by decide) (by decide)
    exact ⟨by rw [So.cell_blk e]; rfl, by rw [So.cell_blk e]; rfl, by rw [So.cell_blk e]; rfl⟩
  have HB : Hid (∀ u u', Below V.heap.size V u → Below u.heap.size u u' → Below W.heap.size W u') := fun u u' hb hb' => bV.trans ((hb.trans (hb'.mono hb.size)).mono bV.size)
  have HV := Hid.mk hV
  have Ht : Hid (1 ≤ t ∧ t ≤ 999 ∧ 0 ≤ now ∧ now < 2000 ∧ now ≤ la ∧ la < 4000 ∧ en = now + min t (mm : Int)) := by unfold Hid; omega
  clear hp1 hp2 hp3 hp4 bV gV hV h1 h2 h3 h4 hq hqt
  go_enter Tryz.func7, Tryz.ntmps7
  go_upto_region 1 with fail
  (try rw [hQ])
  rw [HV.out]
  go_wp2_with fail
  refine (HX.out _).mono ?_
  rintro e w1 ⟨rfl, hb1⟩
  have HB1 := Hid.mk (HB.out w1 · hb1)
  have HF1 := Hid.mk (FrM.below hb1)
  clear hb1
  go_wp2_with fail
  refine (HN.out _).mono ?_
  rintro e w2 ⟨C, T, rfl, hr2⟩
  have HM2 := Hid.mk (HM.out _ _ _ _ hr2)
  have HF2 := Hid.mk (HF1.out.trans (FrM.below hr2.bel))
  clear hr2
  go_wp2_with fail
  refine HM2.out.mono ?_
  rintro e w3 ⟨X, U, rfl, hm3⟩
  have HM3 := Hid.mk hm3
  have HF3 := Hid.mk (HF1.out.trans (FrM.below hm3.bel))
  clear hm3
  go_wp2_with fail
  refine (HP1.out _).mono ?_
  rintro e w4 ⟨rfl, rfl⟩
  go_wp2_with fail
  refine (HP2.out _).mono ?_
  rintro e w5 ⟨rfl, rfl⟩
  go_wp2_with fail
  refine (HP3.out _).mono ?_
  rintro e w6 ⟨rfl, rfl⟩
  go_wp2_with fail
  refine (HP4.out _).mono ?_
  rintro e w7 ⟨rfl, rfl⟩
  go_wp2_with fail
  refine (HSo.out _).mono ?_
  rintro e w8 ⟨rfl, hb8⟩
  obtain ⟨B, hB⟩ : ∃ B, w8.heap.size = B := ⟨_, rfl⟩
  obtain ⟨V9, hV9⟩ : ∃ V, (w8.alloc (.cells #[.string (soaD mm)] 9)).alloc (.cells #[.string ⟨#[0]⟩, .int .i64 6, .int .i64 1, .int .i64 t, .slice (some ⟨B, 0, none⟩) 1 1, .slice none 0 0] 34) = V := ⟨_, rfl⟩
  have b9 : Below w8.heap.size w8 V9 := by rw [← hV9]; exact ((Below.refl _ _).alloc (Nat.le_refl _) _).alloc (by simp) _
  have bx := Bx.of2 w8 (.cells #[.string (soaD mm)] 9) (.cells #[.string ⟨#[0]⟩, .int .i64 6, .int .i64 1, .int .i64 t, .slice (some ⟨B, 0, none⟩) 1 1, .slice none 0 0] 34)
  rw [hV9, hB] at bx
  have t9 : Tx1 V9 B (soaD mm) := by have := bx 0 _ rfl; rwa [Nat.add_zero] at this
  have g9 : V9.heap[B + 1]? = some (.cells #[.string ⟨#[0]⟩, .int .i64 6, .int .i64 1, .int .i64 t, .slice (some ⟨B, 0, none⟩) 1 1, .slice none 0 0] 34 (0, 0)) := bx 1 _ rfl
  have HC9 := Hid.mk (HS1.out _ _ _ _ _ _ _ ((HM3.out.blk hb8).blk b9) t9)
  have HF9 := Hid.mk ((HF3.out.trans (FrM.below hb8)).trans (FrM.below b9))
  have HDc : Hid (∀ u, FrM V9 u → u.cell? ⟨B + 1, 0, none⟩ = some (.string ⟨#[0]⟩) ∧ u.cell? ⟨B + 1, 1, none⟩ = some (.int .i64 6) ∧ u.cell? ⟨B + 1, 2, none⟩ = some (.int .i64 1) ∧ u.cell? ⟨B + 1, 3, none⟩ = some (.int .i64 t) ∧ u.cell? ⟨B + 1, 4, none⟩ = some (.slice (some ⟨B, 0, none⟩) 1 1) ∧ u.cell? ⟨B + 1, 5, none⟩ = some (.slice none 0 0)) := fun u hu => by
    have e := hu.same _ _ _ _ g9 (by decide) (by decide) (by decide) (by decide) (by decide)
    exact ⟨by rw [So.cell_blk e]; rfl, by rw [So.cell_blk e]; rfl, by rw [So.cell_blk e]; rfl, by rw [So.cell_blk e]; rfl, by rw [So.cell_blk e]; rfl, by rw [So.cell_blk e]; rfl⟩
  have HT9 := Hid.mk t9
  have HV9 := Hid.mk hV9
  clear hb8 hV9 b9 bx t9 g9
  go_upto_region 14 with fail
  (try rw [hB])
  rw [HV9.out]
  clear hB
  obtain ⟨z0, z1, z2, z3, z4, z5⟩ := HDc.out _ (FrM.refl _)
  go_wp2_with fail
  refine HC9.out.mono ?_
  rintro e w10 ⟨rfl, hm10, hf10⟩
  have HM10 := Hid.mk hm10
  have HF10 := Hid.mk (HF9.out.trans hf10)
  have HT10 := Hid.mk (HT9.out.frm hf10)
  obtain ⟨y0, y1, y2⟩ := HQc.out _ HF10.out
  clear z0 z1 z2 z3 z4 z5
  obtain ⟨z0, z1, z2, z3, z4, z5⟩ := HDc.out _ hf10
  clear hm10 hf10
  obtain ⟨E, hE⟩ : ∃ E, w10.heap.size = E := ⟨_, rfl⟩
  obtain ⟨V11, hV11⟩ : ∃ V, w10.alloc (.cells #[.string ⟨#[0]⟩, .int .i64 6, .int .i64 1, .int .i64 t, .slice (some ⟨B, 0, none⟩) 1 1, .slice none 0 0] 34) = V := ⟨_, rfl⟩
  have b11 : Below w10.heap.size w10 V11 := by rw [← hV11]; exact (Below.refl _ _).alloc (Nat.le_refl _) _
  have g11 : V11.heap[E]? = some (.cells #[.string ⟨#[0]⟩, .int .i64 6, .int .i64 1, .int .i64 t, .slice (some ⟨B, 0, none⟩) 1 1, .slice none 0 0] 34 (0, 0)) := by rw [← hV11, ← hE]; exact heap_alloc_new w10 _
  have HC11 := Hid.mk (HPt.out _ _ _ _ _ _ _ _ (HM10.out.blk b11) (HT10.out.blk b11) g11)
  have HF11 := Hid.mk (HF10.out.trans (FrM.below b11))
  have HV11 := Hid.mk hV11
  clear hV11 b11 g11
  go_wp2_with fail
  (try rw [hE])
  rw [HV11.out]
  refine HC11.out.mono ?_
  rintro e w12 ⟨hf12, hc12, hb12⟩
  have HF12 := Hid.mk (HF11.out.trans hf12)
  have HBl := Hid.mk (HB1.out _ hb12)
  clear y0 y1 y2
  obtain ⟨y0, y1, y2⟩ := HQc.out _ HF12.out
  clear z0 z1 z2 z3 z4 z5 hf12 hb12 hE
  rcases hc12 with rfl | ⟨rfl, hmm, n3, hn3, hm12⟩ | ⟨rfl, hmm, n3, hn3, hm12⟩
  · go_wp2
    go_ret
    exact ⟨rfl, HBl.out⟩
  · have hle : en ≤ la := by have := Ht.out; omega
    have hnw : ¬ la < en := by omega
    have hmz : ¬ (mm : Int) > 0 := by omega
    have HC13 := Hid.mk (HGn.out _ _ _ _ _ _ _ _ hle hm12 (.inl rfl))
    clear hm12
    go_wp2_with fail
    refine HC13.out.mono ?_
    rintro e w13 ⟨rfl, hf13, hb13⟩
    clear y0 y1 y2
    obtain ⟨P, hP⟩ : ∃ P, w13.heap.size = P := ⟨_, rfl⟩
    obtain ⟨V14, hV14⟩ : ∃ V, w13.alloc (.cells #[.int .i64 0, .int .i64 0, .slice none 0 0, .slice none 0 0, .int .i64 0] 71) = V := ⟨_, rfl⟩
    have b14 : Below w13.heap.size w13 V14 := by rw [← hV14]; exact (Below.refl _ _).alloc (Nat.le_refl _) _
    have g14 : V14.heap[P]? = some (.cells #[.int .i64 0, .int .i64 0, .slice none 0 0, .slice none 0 0, .int .i64 0] 71 (0, 0)) := by rw [← hV14, ← hP]; exact heap_alloc_new w13 _
    have HBl2 := Hid.mk (HB1.out V14 (hb13.trans (b14.mono hb13.size)))
    have HV14 := Hid.mk hV14
    clear hV14 b14 g14 hf13 hb13
    go_upto_region 22 with fail
    (try rw [hP])
    rw [HV14.out]
    go_wp2
    go_ret
    refine ⟨?_, HBl2.out⟩
    show Ending.returned (Value.bool (!decide (la < now + min t 0))) = _
    rw [decide_eq_false (by have := Ht.out; omega)]
    rfl
  · by_cases hle : en ≤ la
    · have hnw : ¬ la < en := by omega
      have hmz : (mm : Int) > 0 := by omega
      have HC13 := Hid.mk (HGn.out _ _ _ _ _ _ _ _ hle hm12 (.inr rfl))
      clear hm12
      go_wp2_with fail
      refine HC13.out.mono ?_
      rintro e w13 ⟨rfl, hf13, hb13⟩
      clear y0 y1 y2
      obtain ⟨P, hP⟩ : ∃ P, w13.heap.size = P := ⟨_, rfl⟩
      obtain ⟨V14, hV14⟩ : ∃ V, w13.alloc (.cells #[.int .i64 0, .int .i64 0, .slice none 0 0, .slice none 0 0, .int .i64 0] 71) = V := ⟨_, rfl⟩
      have b14 : Below w13.heap.size w13 V14 := by rw [← hV14]; exact (Below.refl _ _).alloc (Nat.le_refl _) _
      have g14 : V14.heap[P]? = some (.cells #[.int .i64 0, .int .i64 0, .slice none 0 0, .slice none 0 0, .int .i64 0] 71 (0, 0)) := by rw [← hV14, ← hP]; exact heap_alloc_new w13 _
      have HBl2 := Hid.mk (HB1.out V14 (hb13.trans (b14.mono hb13.size)))
      have HV14 := Hid.mk hV14
      clear hV14 b14 g14 hf13 hb13
      go_upto_region 22 with fail
      (try rw [hP])
      rw [HV14.out]
      go_wp2
      go_ret
      refine ⟨?_, HBl2.out⟩
      show Ending.returned (Value.bool (!decide (la < en))) = _
      rw [decide_eq_false (by have := Ht.out; omega)]
      rfl
    · have hnw : la < en := by omega
      have hmz : (mm : Int) > 0 := by omega
      have HC13 := Hid.mk (HGy.out _ _ _ _ _ _ _ hnw hm12)
      clear hm12
      go_wp2_with fail
      refine HC13.out.mono ?_
      rintro e w13 ⟨⟨q1, c1, R, c2, rfl, hc2, hR⟩, hf13, hb13⟩
      have hcc := hc2.out
      clear y0 y1 y2
      obtain ⟨P, hP⟩ : ∃ P, w13.heap.size = P := ⟨_, rfl⟩
      obtain ⟨V14, hV14⟩ : ∃ V, w13.alloc (.cells #[.int .i64 3, .int .i64 0, .slice q1 0 c1, .slice (some ⟨R, 0, none⟩) 1 c2, .int .i64 en] 71) = V := ⟨_, rfl⟩
      have b14 : Below w13.heap.size w13 V14 := by rw [← hV14]; exact (Below.refl _ _).alloc (Nat.le_refl _) _
      have g14 : V14.heap[P]? = some (.cells #[.int .i64 3, .int .i64 0, .slice q1 0 c1, .slice (some ⟨R, 0, none⟩) 1 c2, .int .i64 en] 71 (0, 0)) := by rw [← hV14, ← hP]; exact heap_alloc_new w13 _
      have HBl2 := Hid.mk (HB1.out V14 (hb13.trans (b14.mono hb13.size)))
      have HV14 := Hid.mk hV14
      have p0 : V14.cell? ⟨P, 0, none⟩ = some (.int .i64 3) := by rw [So.cell_blk g14]; rfl
      have p3 : V14.cell? ⟨P, 3, none⟩ = some (.slice (some ⟨R, 0, none⟩) 1 c2) := by rw [So.cell_blk g14]; rfl
      have r3 := hR.out V14 (FrM.below b14)
      clear hV14 b14 g14 hf13 hb13
      go_upto_region 22 with fail
      (try rw [hP])
      rw [HV14.out]
      go_wp2
      go_ret
      exact ⟨rfl, HBl2.out⟩
theorem nothing_walk (W : World) (q : Qn) (hq : q.nm.size ≤ maxLen) (hqt : I64 q.ty) (b : Bool) (ttl mn nw lt : Int) (h1 : I64 ttl) (h2 : I64 mn) (h3 : I64 nw) (h4 : I64 lt) :
    Calls Tryz.prog 7 #[.agg (qC q).toArray, .bool b, .int .i64 ttl, .int .i64 mn, .int .i64 nw, .int .i64 lt] W fun e w' => e = .returned (.bool true) ∧ Below W.heap.size W w' := by
  cases b with
  | false => exact nothing_false W q hq hqt ttl mn nw lt h1 h2 h3 h4
  | true => exact nothing_true W q hq hqt ttl mn nw lt h1 h2 h3 h4
end Go.Proofs.YtikjepodmdaknaaGreatDoor.Mc
