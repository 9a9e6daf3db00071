/- Texts of this proof, joined: ZNo, ZNn, ZNsec, ZNs. -/
import Derived.Test.YtnchoogjjnjikaaGreatDoorJ12
/- A chain: noName, noType. -/
namespace Go.Proofs.YtnchoogjjnjikaaGreatDoor
set_option linter.unusedVariables false
set_option linter.unusedSimpArgs false
open Go.RowKit
attribute [local go_sem ↓] storeAt_lk loadAt_lk
theorem Found.one {W : World} {r : Option Lk} {a b c : Value} {f : Bool} (h : Found W r a b c f) : a.oneCell' = true ∧ b.oneCell' = true ∧ c.oneCell' = true := by
  cases r with
  | none => exact h.2
  | some k => exact h.2.one
abbrev starN (e : List (List UInt8)) : List (List UInt8) := [42] :: e
theorem star_ok {e : List (List UInt8)} (h : OkN e) (hs : (nm (starN e)).size ≤ 255) : OkN (starN e) := by
  refine ⟨fun l hl => ?_, ?_⟩
  · rcases List.mem_cons.1 hl with rfl | hl
    · decide
    · exact h.lab l hl
  · rw [nm_size] at hs
    omega
theorem find_ok {p : Lk → Bool} {ks : List Lk} {k : Lk} (hks : ChOk ks) (h : ks.find? p = some k) : k.Ok := hks.2 k (List.mem_of_find?_eq_some h)
def nameR (ks : List Lk) (n : List (List UInt8)) : Int := match ks.find? (covB · n) with
  | none => 0
  | some k => if undB k.x n then 0 else if (nm (starN (encN k n))).size ≤ 255 then (if (ks.find? (covB · (starN (encN k n)))).isSome then 1 else 0) else 0
def typeR (ks : List Lk) (n : List (List UInt8)) (kind : Int) : Int := match ks.find? (mtcB · n) with
  | some k => if lackB k.t kind ((nm k.o).toList == [0]) then 1 else 0
  | none => match ks.find? (covB · n) with
    | none => 0
    | some k => if undB k.x n then 1 else if (nm (starN (encN k n))).size ≤ 255 then (match ks.find? (mtcB · (starN (encN k n))) with
      | some j => if lackB j.t kind ((nm j.o).toList == [0]) then 1 else 0
      | none => 0) else 0
set_option maxRecDepth 100000 in
set_option maxHeartbeats 2000000 in
theorem noName_in (ks : List Lk) (n : List (List UInt8)) (hks : ChOk ks) (hn : OkN n) (v : Value) (W : World) (h : ChAt W v ks) :
    Calls Tryz.prog 40 #[v, .string (nm n)] W fun e w' => e = .returned (.int .i64 (nameR ks n)) ∧ Below W.heap.size W w' := by
  have HC : Hid (∀ n', OkN n' → ∀ w, Below W.heap.size W w → Calls Tryz.prog 64 #[v, .string (nm n')] w fun e w' => (∃ a b c f, e = .returned (.tuple #[.agg #[a, b, c], .bool f]) ∧ Found w' (ks.find? (covB · n')) a b c f) ∧ Below w.heap.size w w') := fun n' hn' w hb => covering_in ks n' hks hn' v w (h.blk hb)
  obtain ⟨q, cap, hv, _⟩ := id h
  have HOk : Hid (∀ k, ks.find? (covB · n) = some k → k.Ok) := fun k hk => find_ok hks hk
  obtain ⟨RR, hRR⟩ : ∃ RR, nameR ks n = RR := ⟨_, rfl⟩
  have R0 : Hid (ks.find? (covB · n) = none → RR = 0) := fun h1 => by rw [← hRR]; unfold nameR; rw [h1]
  have R1 : Hid (∀ k, ks.find? (covB · n) = some k → undB k.x n = true → RR = 0) := fun k h1 h2 => by rw [← hRR]; unfold nameR; rw [h1]; simp only [h2, if_true]
  have R2 : Hid (∀ k, ks.find? (covB · n) = some k → undB k.x n = false → ¬ (nm (starN (encN k n))).size ≤ 255 → RR = 0) := fun k h1 h2 h3 => by rw [← hRR]; unfold nameR; rw [h1]; simp only [h2, Bool.false_eq_true, if_false, if_neg h3]
  have R3 : Hid (∀ k, ks.find? (covB · n) = some k → undB k.x n = false → (nm (starN (encN k n))).size ≤ 255 → ks.find? (covB · (starN (encN k n))) = none → RR = 0) := fun k h1 h2 h3 h4 => by rw [← hRR]; unfold nameR; rw [h1]; simp only [h2, Bool.false_eq_true, if_false, if_pos h3, h4, Option.isSome_none]
  have R4 : Hid (∀ k, ks.find? (covB · n) = some k → undB k.x n = false → (nm (starN (encN k n))).size ≤ 255 → ∀ j, ks.find? (covB · (starN (encN k n))) = some j → RR = 1) := fun k h1 h2 h3 j h4 => by rw [← hRR]; unfold nameR; rw [h1]; simp only [h2, Bool.false_eq_true, if_false, if_pos h3, h4, Option.isSome_some, if_true]
  rw [hRR]
  clear h hks hRR
  subst hv
  have F := Fm.start W
  go_enter Tryz.func40, Tryz.ntmps40
  go_wp2_with fail
  refine (HC.out n hn _ F.bel).mono ?_
  rintro e u1 ⟨⟨a1, b1, c1, f1, rfl, hf1⟩, hb⟩
  replace F := F.blk hb
  clear hb
  obtain ⟨oa, ob, oc⟩ := hf1.one
  have st := lkst1 u1 a1 b1 c1 (.string ⟨#[]⟩) (.string ⟨#[]⟩) (.slice none 0 0) oa ob oc
  go_upto_region 2 with fail
  replace F := F.new (Obj.cells #[a1, b1, c1] 98 (0, 0))
  clear st oa ob oc
  have hA := (Below.refl u1.heap.size u1).alloc (Nat.le_refl _) (Obj.cells #[a1, b1, c1] 98 (0, 0))
  generalize u1.alloc (Obj.cells #[a1, b1, c1] 98 (0, 0)) = z1 at F hA ⊢
  generalize hbb : u1.heap.size = b5 at F hA ⊢
  rw [← hbb] at hA
  cases hr : ks.find? (covB · n) with
  | none =>
    rw [hr] at hf1
    have ef := hf1.1
    have er := Hid.mk (R0.out hr)
    subst ef
    clear hf1 hA hbb
    go_wp2
    go_ret
    exact ⟨by rw [er.out]; rfl, F.bel⟩
  | some kk =>
    rw [hr] at hf1
    have hkk := HOk.out kk hr
    have R1k := Hid.mk (R1.out kk hr)
    have R2k := Hid.mk (R2.out kk hr)
    have R3k := Hid.mk (R3.out kk hr)
    have R4k := Hid.mk (R4.out kk hr)
    clear hr HOk R0 R1 R2 R3 R4
    have hl1 : LkAt z1 kk a1 b1 c1 := hf1.2.blk hA
    have ef := hf1.1
    subst ef
    clear hf1 hA hbb
    have HU := Hid.mk (under_yes kk.x n hkk.2.1 hn)
    have HEn : Hid (∀ w a b c, LkAt w kk a b c → Calls Tryz.prog 65 #[.agg #[a, b, c], .string (nm n)] w fun e w' => e = .returned (.string (nm (encN kk n))) ∧ Below w.heap.size w w') := fun w a b c hl => encl_in kk a b c n hkk hn w hl
    have hen := encN_ok (k := kk) hn
    have HCh := Hid.mk (child_in [42] (encN kk n) (by decide) (by decide) hen)
    have eb := hl1.2.1
    subst eb
    obtain ⟨U, hU⟩ : ∃ U, undB kk.x n = U := ⟨_, rfl⟩
    rw [hU] at HU R1k R2k R3k R4k
    clear hU
    obtain ⟨en, he⟩ : ∃ en, encN kk n = en := ⟨_, rfl⟩
    rw [he] at HEn HCh hen R2k R3k R4k
    clear he
    have q1 : z1.cell? ⟨b5, 1, none⟩ = some (.string (nm kk.x)) := (cells_at (F.get 0 rfl) rfl).1
    go_wp2_with fail
    refine (HU.out _).mono ?_
    rintro e u2 ⟨rfl, hb⟩
    replace F := F.blk hb
    replace hl1 := hl1.blk hb
    clear hb q1
    cases U with
    | true =>
      have er := Hid.mk (R1k.out rfl)
      clear R2k R3k R4k R1k
      go_wp2
      go_ret
      exact ⟨by rw [er.out]; rfl, F.bel⟩
    | false =>
      have E2 := Hid.mk (R2k.out rfl)
      have E3 := Hid.mk (R3k.out rfl)
      have E4 := Hid.mk (R4k.out rfl)
      clear R1k R2k R3k R4k
      have l5 := lkLoad_run (F.get 0 rfl)
      go_wp2_with fail
      refine (HEn.out _ _ _ _ hl1).mono ?_
      rintro e u3 ⟨rfl, hb⟩
      replace F := F.blk hb
      clear hb l5
      by_cases hs : (nm (starN en)).size ≤ 255
      · have hso := star_ok hen hs
        have G3 := Hid.mk (E3.out hs)
        have G4 := Hid.mk (E4.out hs)
        rw [if_pos hs] at HCh
        clear E2 E3 E4
        go_wp2_with fail
        refine (HCh.out _).mono ?_
        rintro e u4 ⟨rfl, hb⟩
        replace F := F.blk hb
        clear hb
        have HC2 := Hid.mk (HC.out (starN en) hso)
        obtain ⟨ss, hss⟩ : ∃ ss, nm (starN en) = ss := ⟨_, rfl⟩
        rw [hss] at HC2 ⊢
        clear hss HCh hl1
        go_wp2_with fail
        refine (HC2.out _ F.bel).mono ?_
        rintro e u5 ⟨⟨a5, b5', c5, f5, rfl, hf5⟩, hb⟩
        replace F := F.blk hb
        clear hb
        obtain ⟨oa, ob, oc⟩ := hf5.one
        have st := lkst1 u5 a5 b5' c5 (.string ⟨#[]⟩) (.string ⟨#[]⟩) (.slice none 0 0) oa ob oc
        go_upto_region 8 with fail
        replace F := F.new (Obj.cells #[a5, b5', c5] 98 (0, 0))
        clear st oa ob oc
        generalize u5.alloc (Obj.cells #[a5, b5', c5] 98 (0, 0)) = z5 at F ⊢
        generalize u5.heap.size = b9 at F ⊢
        cases hr2 : ks.find? (covB · (starN en)) with
        | none =>
          rw [hr2] at hf5
          have ef := hf5.1
          have er := Hid.mk (G3.out hr2)
          subst ef
          clear hf5 hr2 G3 G4
          go_wp2
          go_ret
          exact ⟨by rw [er.out]; rfl, F.bel⟩
        | some k2 =>
          rw [hr2] at hf5
          have ef := hf5.1
          have er := Hid.mk (G4.out k2 hr2)
          subst ef
          clear hf5 hr2 G3 G4
          go_wp2
          go_ret
          exact ⟨by rw [er.out]; rfl, F.bel⟩
      · rw [if_neg hs] at HCh
        have er := Hid.mk (E2.out hs)
        clear E2 E3 E4
        go_wp2_with fail
        refine (HCh.out _).mono ?_
        rintro e u4 ⟨rfl, hb⟩
        replace F := F.blk hb
        clear hb
        go_wp2
        go_ret
        exact ⟨by rw [er.out]; rfl, F.bel⟩
set_option maxRecDepth 100000 in
set_option maxHeartbeats 2000000 in
theorem noType_in (ks : List Lk) (n : List (List UInt8)) (kind : Int) (hks : ChOk ks) (hn : OkN n) (v : Value) (W : World) (h : ChAt W v ks) :
    Calls Tryz.prog 41 #[v, .string (nm n), .int .i64 kind] W fun e w' => e = .returned (.int .i64 (typeR ks n kind)) ∧ Below W.heap.size W w' := by
  have HC : Hid (∀ n', OkN n' → ∀ w, Below W.heap.size W w → Calls Tryz.prog 64 #[v, .string (nm n')] w fun e w' => (∃ a b c f, e = .returned (.tuple #[.agg #[a, b, c], .bool f]) ∧ Found w' (ks.find? (covB · n')) a b c f) ∧ Below w.heap.size w w') := fun n' hn' w hb => covering_in ks n' hks hn' v w (h.blk hb)
  have HM : Hid (∀ n', OkN n' → ∀ w, Below W.heap.size W w → Calls Tryz.prog 66 #[v, .string (nm n')] w fun e w' => (∃ a b c f, e = .returned (.tuple #[.agg #[a, b, c], .bool f]) ∧ Found w' (ks.find? (mtcB · n')) a b c f) ∧ Below w.heap.size w w') := fun n' hn' w hb => matching_in ks n' hks hn' v w (h.blk hb)
  obtain ⟨q, cap, hv, _⟩ := id h
  have HOk : Hid (∀ p k, ks.find? p = some k → k.Ok) := fun p k hk => find_ok hks hk
  have HNT : Hid (∀ k : Lk, k.Ok → ∀ a b c w, LkAt w k a b c → Calls Tryz.prog 67 #[.agg #[a, b, c], .int .i64 kind] w fun e w' => e = .returned (.int .i64 (if lackB k.t kind ((nm k.o).toList == [0]) then 1 else 0)) ∧ Below w.heap.size w w') := fun k hk a b c w hl => ntype_in k a b c kind hk w hl
  obtain ⟨RR, hRR⟩ : ∃ RR, typeR ks n kind = RR := ⟨_, rfl⟩
  have T0 : Hid (∀ k, ks.find? (mtcB · n) = some k → RR = if lackB k.t kind ((nm k.o).toList == [0]) then 1 else 0) := fun k h1 => by rw [← hRR]; unfold typeR; rw [h1]
  have RT : Hid (ks.find? (mtcB · n) = none → RR = match ks.find? (covB · n) with | none => 0 | some k => if undB k.x n then 1 else if (nm (starN (encN k n))).size ≤ 255 then (match ks.find? (mtcB · (starN (encN k n))) with | some j => if lackB j.t kind ((nm j.o).toList == [0]) then 1 else 0 | none => 0) else 0) := fun h1 => by rw [← hRR]; unfold typeR; rw [h1]
  rw [hRR]
  clear h hks hRR
  subst hv
  have F := Fm.start W
  go_enter Tryz.func41, Tryz.ntmps41
  go_wp2_with fail
  refine (HM.out n hn _ F.bel).mono ?_
  rintro e u1 ⟨⟨a1, b1, c1, f1, rfl, hf1⟩, hb⟩
  replace F := F.blk hb
  clear hb
  obtain ⟨oa, ob, oc⟩ := hf1.one
  have st := lkst1 u1 a1 b1 c1 (.string ⟨#[]⟩) (.string ⟨#[]⟩) (.slice none 0 0) oa ob oc
  go_upto_region 2 with fail
  replace F := F.new (Obj.cells #[a1, b1, c1] 98 (0, 0))
  clear st oa ob oc
  have hA := (Below.refl u1.heap.size u1).alloc (Nat.le_refl _) (Obj.cells #[a1, b1, c1] 98 (0, 0))
  generalize u1.alloc (Obj.cells #[a1, b1, c1] 98 (0, 0)) = z1 at F hA ⊢
  generalize hbb : u1.heap.size = b7 at F hA ⊢
  rw [← hbb] at hA
  cases hr : ks.find? (mtcB · n) with
  | some kk =>
    rw [hr] at hf1
    have hkk := HOk.out _ kk hr
    have er := Hid.mk (T0.out kk hr)
    clear hr HOk T0 RT
    have hl1 : LkAt z1 kk a1 b1 c1 := hf1.2.blk hA
    have ef := hf1.1
    subst ef
    clear hf1 hA hbb
    have HT1 := Hid.mk (HNT.out kk hkk)
    generalize (if lackB kk.t kind ((nm kk.o).toList == [0]) then (1 : Int) else 0) = R at HT1 er
    have l7 := lkLoad_run (F.get 0 rfl)
    go_wp2_with fail
    refine (HT1.out _ _ _ _ hl1).mono ?_
    rintro e u2 ⟨rfl, hb⟩
    replace F := F.blk hb
    clear hb l7
    go_wp2
    go_ret
    exact ⟨by rw [er.out]; rfl, F.bel⟩
  | none =>
    rw [hr] at hf1
    have ef := hf1.1
    have HRT := Hid.mk (RT.out hr)
    subst ef
    clear hf1 hA hbb hr RT T0
    go_wp2_with fail
    refine (HC.out n hn _ F.bel).mono ?_
    rintro e u2 ⟨⟨a2, b2, c2, f2, rfl, hf2⟩, hb⟩
    replace F := F.blk hb
    clear hb
    obtain ⟨oa, ob, oc⟩ := hf2.one
    have st := lkst1 u2 a2 b2 c2 (.string ⟨#[]⟩) (.string ⟨#[]⟩) (.slice none 0 0) oa ob oc
    go_upto_region 5 with fail
    replace F := F.new (Obj.cells #[a2, b2, c2] 98 (0, 0))
    clear st oa ob oc
    have hA := (Below.refl u2.heap.size u2).alloc (Nat.le_refl _) (Obj.cells #[a2, b2, c2] 98 (0, 0))
    generalize u2.alloc (Obj.cells #[a2, b2, c2] 98 (0, 0)) = z2 at F hA ⊢
    generalize hbb : u2.heap.size = b9 at F hA ⊢
    rw [← hbb] at hA
    cases hr : ks.find? (covB · n) with
    | none =>
      rw [hr] at hf2 HRT
      have ef := hf2.1
      have er : Hid (RR = 0) := HRT.out
      subst ef
      clear hf2 hA hbb HRT
      go_wp2
      go_ret
      exact ⟨by rw [er.out]; rfl, F.bel⟩
    | some kk =>
      rw [hr] at hf2 HRT
      have hkk := HOk.out _ kk hr
      have HR2 : Hid (RR = if undB kk.x n then 1 else if (nm (starN (encN kk n))).size ≤ 255 then (match ks.find? (mtcB · (starN (encN kk n))) with | some j => if lackB j.t kind ((nm j.o).toList == [0]) then 1 else 0 | none => 0) else 0) := HRT.out
      clear hr HRT
      have hl2 : LkAt z2 kk a2 b2 c2 := hf2.2.blk hA
      have ef := hf2.1
      subst ef
      clear hf2 hA hbb
      have HU := Hid.mk (under_yes kk.x n hkk.2.1 hn)
      have HEn : Hid (∀ w a b c, LkAt w kk a b c → Calls Tryz.prog 65 #[.agg #[a, b, c], .string (nm n)] w fun e w' => e = .returned (.string (nm (encN kk n))) ∧ Below w.heap.size w w') := fun w a b c hl => encl_in kk a b c n hkk hn w hl
      have hen := encN_ok (k := kk) hn
      have HCh := Hid.mk (child_in [42] (encN kk n) (by decide) (by decide) hen)
      have eb := hl2.2.1
      subst eb
      obtain ⟨U, hU⟩ : ∃ U, undB kk.x n = U := ⟨_, rfl⟩
      rw [hU] at HU HR2
      clear hU
      obtain ⟨en, he⟩ : ∃ en, encN kk n = en := ⟨_, rfl⟩
      rw [he] at HEn HCh hen HR2
      clear he
      have q1 : z2.cell? ⟨b9, 1, none⟩ = some (.string (nm kk.x)) := (cells_at (F.get 0 rfl) rfl).1
      go_wp2_with fail
      refine (HU.out _).mono ?_
      rintro e u3 ⟨rfl, hb⟩
      replace F := F.blk hb
      replace hl2 := hl2.blk hb
      clear hb q1
      cases U with
      | true =>
        have er : Hid (RR = 1) := HR2.out
        clear HR2
        go_wp2
        go_ret
        exact ⟨by rw [er.out]; rfl, F.bel⟩
      | false =>
        have HR3 : Hid (RR = if (nm (starN en)).size ≤ 255 then (match ks.find? (mtcB · (starN en)) with | some j => if lackB j.t kind ((nm j.o).toList == [0]) then 1 else 0 | none => 0) else 0) := HR2.out
        clear HR2
        have l9 := lkLoad_run (F.get 0 rfl)
        go_wp2_with fail
        refine (HEn.out _ _ _ _ hl2).mono ?_
        rintro e u4 ⟨rfl, hb⟩
        replace F := F.blk hb
        clear hb l9
        by_cases hs : (nm (starN en)).size ≤ 255
        · have hso := star_ok hen hs
          rw [if_pos hs] at HCh HR3
          go_wp2_with fail
          refine (HCh.out _).mono ?_
          rintro e u5 ⟨rfl, hb⟩
          replace F := F.blk hb
          clear hb
          have HM2 := Hid.mk (HM.out (starN en) hso)
          obtain ⟨ss, hss⟩ : ∃ ss, nm (starN en) = ss := ⟨_, rfl⟩
          rw [hss] at HM2 ⊢
          clear hss HCh hl2
          go_wp2_with fail
          refine (HM2.out _ F.bel).mono ?_
          rintro e u6 ⟨⟨a5, b5', c5, f5, rfl, hf5⟩, hb⟩
          replace F := F.blk hb
          clear hb
          obtain ⟨oa, ob, oc⟩ := hf5.one
          have st := lkst1 u6 a5 b5' c5 (.string ⟨#[]⟩) (.string ⟨#[]⟩) (.slice none 0 0) oa ob oc
          go_upto_region 13 with fail
          replace F := F.new (Obj.cells #[a5, b5', c5] 98 (0, 0))
          clear st oa ob oc
          have hA := (Below.refl u6.heap.size u6).alloc (Nat.le_refl _) (Obj.cells #[a5, b5', c5] 98 (0, 0))
          generalize u6.alloc (Obj.cells #[a5, b5', c5] 98 (0, 0)) = z5 at F hA ⊢
          cases hr2 : ks.find? (mtcB · (starN en)) with
          | none =>
            rw [hr2] at hf5 HR3
            have ef := hf5.1
            have er : Hid (RR = 0) := HR3.out
            subst ef
            clear hf5 hr2 HR3
            go_wp2
            go_ret
            exact ⟨by rw [er.out]; rfl, F.bel⟩
          | some k2 =>
            rw [hr2] at hf5 HR3
            have hk2 := HOk.out _ k2 hr2
            have er : Hid (RR = if lackB k2.t kind ((nm k2.o).toList == [0]) then 1 else 0) := HR3.out
            have ef := hf5.1
            have hl5 : LkAt z5 k2 a5 b5' c5 := hf5.2.blk hA
            subst ef
            clear hf5 hr2 hA HR3
            have HT1 := Hid.mk (HNT.out k2 hk2)
            generalize (if lackB k2.t kind ((nm k2.o).toList == [0]) then (1 : Int) else 0) = R at HT1 er
            generalize u6.heap.size = b13 at F ⊢
            have l13 := lkLoad_run (F.get 0 rfl)
            go_wp2_with fail
            refine (HT1.out _ _ _ _ hl5).mono ?_
            rintro e u7 ⟨rfl, hb⟩
            replace F := F.blk hb
            clear hb l13
            go_wp2
            go_ret
            exact ⟨by rw [er.out]; rfl, F.bel⟩
        · rw [if_neg hs] at HCh HR3
          have er := HR3
          clear HR3
          go_wp2_with fail
          refine (HCh.out _).mono ?_
          rintro e u5 ⟨rfl, hb⟩
          replace F := F.blk hb
          clear hb
          go_wp2
          go_ret
          exact ⟨by rw [er.out]; rfl, F.bel⟩
end Go.Proofs.YtnchoogjjnjikaaGreatDoor
/- A chain: noNearer. -/
namespace Go.Proofs.YtnchoogjjnjikaaGreatDoor
set_option linter.unusedVariables false
set_option linter.unusedSimpArgs false
open Go.RowKit
attribute [local go_sem ↓] storeAt_lk loadAt_lk
theorem labels_yes (ls : List (List UInt8)) (ho : OkN ls) (w : World) :
    Calls Tryz.prog 68 #[.string (nm ls)] w fun e w' => (∃ v, e = .returned v ∧ Strs w'.heap.size w' v ls) ∧ Below w.heap.size w w' := by
  have hz : (nm ls).size ≤ 255 := by rw [nm_size]; have := ho.len; omega
  go_enter Tryz.func68, Tryz.ntmps68
  go_wp2_with fail
  refine (right_yes ls ho _).mono ?_
  rintro e w1 ⟨rfl, hb1⟩
  go_wp2_with fail
  refine (clone_in _ _ (Nat.le_trans hz (by decide))).mono ?_
  rintro e w2 ⟨rfl, hb2⟩
  go_wp2_with fail
  refine (labelsOf_in ls ho _).mono ?_
  rintro e w3 ⟨⟨v, rfl, hv⟩, hb3⟩
  go_wp2
  go_ret
  exact ⟨⟨v, rfl, hv⟩, bthen hb1 (bthen hb2 hb3)⟩
def nearB (k : Lk) (n : List (List UInt8)) (m : Nat) : Bool := covB k n && (!undB k.x n && decide ((encN k n).length ≤ m))
def nearR (ks : List Lk) (n e : List (List UInt8)) : Int := if ks.any (nearB · n e.length) then 1 else 0
theorem labels_len (ls : List (List UInt8)) (ho : OkN ls) (w : World) : Calls Tryz.prog 68 #[.string (nm ls)] w fun e w' => (∃ q c, e = .returned (.slice q ls.length c)) ∧ Below w.heap.size w w' :=
  (labels_yes ls ho w).mono fun e w' ⟨⟨v, h1, h2⟩, hb⟩ => by
    obtain ⟨q, c, rfl⟩ := h2.form
    exact ⟨⟨q, c, h1⟩, hb⟩
set_option maxRecDepth 100000 in
set_option maxHeartbeats 2000000 in
theorem noNear_in (ks : List Lk) (n en : List (List UInt8)) (hks : ChOk ks) (hn : OkN n) (hen : OkN en) (v : Value) (W : World) (h : ChAt W v ks) :
    Calls Tryz.prog 42 #[v, .string (nm n), .string (nm en)] W fun e w' => e = .returned (.int .i64 (nearR ks n en)) ∧ Below W.heap.size W w' := by
  obtain ⟨q, cap, rfl, hc⟩ := id h
  have HC := Hid.mk hc
  have HK := Hid.mk hks.2
  have hml := hks.1
  obtain ⟨RR, hRR⟩ : ∃ RR, nearR ks n en = RR := ⟨_, rfl⟩
  have R1 : Hid (∀ k ∈ ks, nearB k n en.length = true → RR = 1) := fun k hk h1 => by rw [← hRR]; unfold nearR; rw [if_pos (List.any_eq_true.2 ⟨k, hk, h1⟩)]
  have R0 : Hid ((∀ j (hj : j < ks.length), nearB ks[j] n en.length = false) → RR = 0) := fun h1 => by
    rw [← hRR]; unfold nearR; rw [if_neg]
    intro h2
    obtain ⟨k, hk, h3⟩ := List.any_eq_true.1 h2
    obtain ⟨j, hj, rfl⟩ := List.getElem_of_mem hk
    rw [h1 j hj] at h3
    simp at h3
  rw [hRR]
  clear hRR
  obtain ⟨m, hm⟩ : ∃ m, ks.length = m := ⟨_, rfl⟩
  have HM := Hid.mk hm
  rw [hm] at hml ⊢
  have HP : Hid (∀ k ∈ ks, ∀ a b c w, LkAt w k a b c → Calls Tryz.prog 69 #[.agg #[a, b, c], .string (nm n)] w fun e w' => e = .returned (.bool (covB k n)) ∧ Below w.heap.size w w') := fun k hk a b c w hl => covers_in k a b c n (hks.2 k hk) hn w hl
  have HEc : Hid (∀ k ∈ ks, ∀ a b c w, LkAt w k a b c → Calls Tryz.prog 65 #[.agg #[a, b, c], .string (nm n)] w fun e w' => e = .returned (.string (nm (encN k n))) ∧ Below w.heap.size w w') := fun k hk a b c w hl => encl_in k a b c n (hks.2 k hk) hn w hl
  have HU : Hid (∀ k ∈ ks, ∀ w, Calls Tryz.prog 21 #[.string (nm k.x), .string (nm n)] w fun e w' => e = .returned (.bool (undB k.x n)) ∧ Below w.heap.size w w') := fun k hk w => under_yes k.x n (hks.2 k hk).2.1 hn w
  have HL2 : Hid (∀ k ∈ ks, ∀ w, Calls Tryz.prog 68 #[.string (nm (encN k n))] w fun e w' => (∃ q c, e = .returned (.slice q (encN k n).length c)) ∧ Below w.heap.size w w') := fun k hk w => labels_len _ (encN_ok hn) w
  have HL1 := Hid.mk (labels_len en hen)
  obtain ⟨ml, hmm⟩ : ∃ ml, en.length = ml := ⟨_, rfl⟩
  rw [hmm] at HL1 R0 R1
  generalize nm en = se at HL1 ⊢
  have HSN : Hid (∃ s, s = nm n) := ⟨_, rfl⟩
  clear hm hks h hc hen hmm
  have F := Fm.start W
  go_enter Tryz.func42, Tryz.ntmps42
  go_wp2_with fail
  refine (HL1.out _).mono ?_
  rintro e u1 ⟨⟨ql, cl, rfl⟩, hb⟩
  replace F := F.blk hb
  clear hb
  go_wp2_with fail
  go_loopw [15] (fun iv wr => ∃ i : Nat, i ≤ m ∧ iv = .int .i64 (i : Int) ∧ Fm W [] wr ∧ Hid (∀ j (hj : j < ks.length), j < i → nearB ks[j] n ml = false)) (fun iv _ => m - (intOf iv).toNat)
  case atStart => exact ⟨0, Nat.zero_le _, rfl, F, fun j _ hj => absurd hj (Nat.not_lt_zero _)⟩
  case round =>
    obtain ⟨i, hi, rfl, Fr, hno⟩ := hrel
    clear F
    by_cases hlt : i < m
    · have hil : i < ks.length := by rw [HM.out]; exact hlt
      obtain ⟨g, a, b, c, rfl, hg, h0, h1, h2, hl⟩ := HC.out i hil
      obtain ⟨o1, o2, o3⟩ := hl.one
      obtain ⟨kk, hkk⟩ : ∃ kk, ks[i] = kk := ⟨_, rfl⟩
      have hmem : kk ∈ ks := by rw [← hkk]; exact List.getElem_mem _
      have HPi := Hid.mk (HP.out kk hmem a b c)
      have HEi := Hid.mk (HEc.out kk hmem a b c)
      have HUi := Hid.mk (HU.out kk hmem)
      have HLi := Hid.mk (HL2.out kk hmem)
      have R1i := Hid.mk (R1.out kk hmem)
      have HNA : Hid (nearB kk n ml = false → ∀ j (hj : j < ks.length), j < i + 1 → nearB ks[j] n ml = false) := fun hA1 j hj hji => by
        rcases Nat.lt_succ_iff_lt_or_eq.1 hji with h | h
        · exact hno j hj h
        · subst h
          rw [hkk]
          exact hA1
      rw [hkk] at hl
      have eb := hl.2.1
      subst eb
      have HL := Hid.mk hl
      have hi' : (i : Int) < (m : Int) := by omega
      obtain ⟨el, hel⟩ : ∃ el, (encN kk n).length = el := ⟨_, rfl⟩
      obtain ⟨A, hA⟩ : ∃ A, covB kk n = A := ⟨_, rfl⟩
      obtain ⟨U, hU⟩ : ∃ U, undB kk.x n = U := ⟨_, rfl⟩
      have hnb : nearB kk n ml = (A && (!U && decide (el ≤ ml))) := by unfold nearB; rw [hA, hU, hel]
      rw [hnb] at HNA R1i
      rw [hA] at HPi
      rw [hU] at HUi
      rw [hel] at HLi
      generalize nm (encN kk n) = sE at HEi HLi
      generalize nm n = sn at HPi HUi HEi ⊢
      clear hnb hA hU hel hl hil hkk hno hmem
      have k0 : wr.cell? ⟨g, i * 3, none⟩ = some a := (Fr.bel.cell (p := ⟨g, i * 3, none⟩) hg).trans h0
      have k1 : wr.cell? ⟨g, i * 3 + 1, none⟩ = some (.string (nm kk.x)) := (Fr.bel.cell (p := ⟨g, i * 3 + 1, none⟩) hg).trans h1
      have k2 : wr.cell? ⟨g, i * 3 + 2, none⟩ = some c := (Fr.bel.cell (p := ⟨g, i * 3 + 2, none⟩) hg).trans h2
      have ld := lkLoad_mid k0 k1 k2
      have st := lkst1 wr a (.string (nm kk.x)) c (.string ⟨#[]⟩) (.string ⟨#[]⟩) (.slice none 0 0) o1 o2 o3
      clear h0 h1 h2 k0 k1 k2
      go_upto_region 5 with fail
      have F2 := Fr.new (Obj.cells #[a, .string (nm kk.x), c] 98 (0, 0))
      clear ld st Fr
      generalize wr.alloc (Obj.cells #[a, .string (nm kk.x), c] 98 (0, 0)) = z at F2 ⊢
      generalize wr.heap.size = b9 at F2 ⊢
      have l9 := lkLoad_run (F2.get 0 rfl)
      go_wp2_with fail
      refine (HPi.out _ (HL.out.blk F2.bel)).mono ?_
      rintro e w2 ⟨rfl, hb⟩
      replace F2 := F2.blk hb
      clear hb l9
      cases A with
      | false =>
        have HNo := Hid.mk (HNA.out rfl)
        have F5 := F2.tl
        clear F2 HNA R1i
        go_wp2
        go_roundw
        case rel => exact ⟨i + 1, by omega, by go_num, F5, HNo⟩
        case measure => simp [intOf]; omega
      | true =>
        have q9 : w2.cell? ⟨b9, 1, none⟩ = some (.string (nm kk.x)) := (cells_at (F2.get 0 rfl) rfl).1
        go_wp2_with fail
        refine (HUi.out _).mono ?_
        rintro e w3 ⟨rfl, hb⟩
        replace F2 := F2.blk hb
        clear hb q9
        cases U with
        | true =>
          have HNo := Hid.mk (HNA.out rfl)
          have F5 := F2.tl
          clear F2 HNA R1i
          go_wp2
          go_roundw
          case rel => exact ⟨i + 1, by omega, by go_num, F5, HNo⟩
          case measure => simp [intOf]; omega
        | false =>
          have l9 := lkLoad_run (F2.get 0 rfl)
          go_wp2_with fail
          refine (HEi.out _ (HL.out.blk F2.bel)).mono ?_
          rintro e w4 ⟨rfl, hb⟩
          replace F2 := F2.blk hb
          clear hb l9
          go_wp2_with fail
          refine (HLi.out _).mono ?_
          rintro e w5 ⟨⟨q5, c5, rfl⟩, hb⟩
          replace F2 := F2.blk hb
          clear hb
          by_cases hle : el ≤ ml
          · have hd : decide ((el : Int) ≤ (ml : Int)) = true := decide_eq_true (by omega)
            have er := Hid.mk (R1i.out (by simp [hle]))
            have hle' : (el : Int) ≤ (ml : Int) := by omega
            have hd2 : decide (el ≤ ml) = true := decide_eq_true hle
            clear HNA R1i
            go_wp2
            go_ret
            exact ⟨by rw [er.out]; rfl, F2.bel⟩
          · have hd : decide ((el : Int) ≤ (ml : Int)) = false := decide_eq_false (by omega)
            have HNo := Hid.mk (HNA.out (by simp; omega))
            have F5 := F2.tl
            have hd2 : decide (el ≤ ml) = false := decide_eq_false hle
            clear F2 HNA R1i
            go_wp2
            go_roundw
            case rel => exact ⟨i + 1, by omega, by go_num, F5, HNo⟩
            case measure => simp [intOf]; omega
    · obtain rfl : i = m := by omega
      have er := Hid.mk (R0.out fun j hj => hno j hj (by rw [← HM.out]; exact hj))
      clear hno R0 R1
      go_wp2
      go_ret
      exact ⟨by rw [er.out]; rfl, Fr.bel⟩
end Go.Proofs.YtnchoogjjnjikaaGreatDoor
/- data.Nsec of right data, its types in a row of their own. -/
namespace Go.Proofs.YtnchoogjjnjikaaGreatDoor
set_option linter.unusedVariables false
open Go.RowKit
def IntsT (W : World) (v : Value) (l : List Int) : Prop := IntsAt W v l ∧ ∀ g o n c, v = .slice (some ⟨g, o, none⟩) n c → ∃ cs fz, W.heap[g]? = some (.cells cs 3 fz)
theorem IntsT.below {W W' : World} {v : Value} {l : List Int} (h : IntsT W v l) (hb : Below W.heap.size W W') : IntsT W' v l := by
  refine ⟨h.1.below hb, fun g o n c hv => ?_⟩
  obtain ⟨cs, fz, hg⟩ := h.2 g o n c hv
  exact ⟨cs, fz, (hb.block g (box_lt hg)).trans hg⟩
theorem intsT_of_row {W : World} {n₀ : Nat} {v : Value} {l : List Nat} (h : W.ownsRow n₀ 3 1 v l.length (intsV l)) : IntsT W v (l.map fun n => ((n : Nat) : Int)) := by
  refine ⟨ints_of_row h, fun g o n c hv => ?_⟩
  rcases h.2 with ⟨h0, _⟩ | ⟨g', cap, cur, h1, _, hg, _⟩
  · rw [h0] at hv; cases hv
  · rw [h1] at hv; cases hv; exact ⟨cur, _, hg⟩
set_option maxRecDepth 100000 in
set_option maxHeartbeats 4000000 in
theorem nsec_good (d p0 p1 : ByteArray) (tl : List Nat) (hsp : splitR 47 d = some [p0, p1]) (htl : typesR p1 = some tl) (W : World) :
    Calls Tryz.prog 63 #[.string d] W fun e w' => (∃ tv, e = .returned (.tuple #[.agg #[.string p0, tv], .int .i64 0]) ∧ IntsT w' tv (tl.map fun n => ((n : Nat) : Int))) ∧ Below W.heap.size W w' := by
  have hsz := ((split_iff 47 d _).1 hsp).2.1
  have HS := Hid.mk (split_all 47 d (by unfold maxLen; omega))
  have hmo : Tryz.prog.follows Departure.mixedOrders = true := by kernel_rfl
  have hcs : p0.size + p1.size ≤ 2000 := by
    have hd := ((split_iff 47 d _).1 hsp).2.2.1
    rw [hd] at hsz
    simp only [cat, app_size] at hsz
    have : (⟨#[]⟩ : ByteArray).size = 0 := rfl
    omega
  have HTY := Hid.mk (fun w => typesOf_in w p1 (by omega))
  rw [htl] at HTY
  rw [hsp] at HS
  clear hsp htl hsz
  go_enter Tryz.func63, Tryz.ntmps63
  go_wp2_with fail
  refine (HS.out _).mono ?_
  rintro e w1 ⟨⟨v, rfl, hrow⟩, hb1⟩
  obtain ⟨q, c, hv⟩ := row_as hrow
  subst hv
  obtain ⟨g, hq, hgl, _⟩ := row_cell hrow 0 (by simp)
  subst hq
  obtain ⟨_, _, hgb⟩ := row_frozen (j := 0) hrow (by simp)
  simp only [World.size_alloc] at hgb
  have hgne : g ≠ W.heap.size := by omega
  have hgne2 : W.heap.size ≠ g := by omega
  have r0 : w1.cell? ⟨g, 0, none⟩ = some (.string p0) := row_at hrow 0 p0 rfl
  have r1 : w1.cell? ⟨g, 1, none⟩ = some (.string p1) := row_at hrow 1 p1 rfl
  have hbx := (hb1.block _ (by simp)).trans (heap_new W (.cells #[.string ⟨#[]⟩, .slice none 0 0] 50))
  have HL : Hid (∀ (G : Prop) (v1 : Value) (x1 : World), x1.ownsRow w1.drew.heap.size 3 1 v1 tl.length (intsV tl) → Below w1.drew.heap.size w1.drew x1 →
      (∀ q1 c1, v1 = .slice q1 tl.length c1 → x1.cell? ⟨g, 0, none⟩ = some (.string p0) → x1.cell? ⟨g, 1, none⟩ = some (.string p1) → x1.heap[W.heap.size]? = some (.cells #[.string ⟨#[]⟩, .slice none 0 0] 50 (0, 0)) →
        x1.cell? ⟨W.heap.size, 0, none⟩ = some (.string ⟨#[]⟩) → x1.frozen? ⟨W.heap.size, 0, none⟩ = false → x1.cell? ⟨W.heap.size, 1, none⟩ = some (.slice none 0 0) → x1.frozen? ⟨W.heap.size, 1, none⟩ = false → Below w1.heap.size w1 x1 → G) → G) := by
    intro G v1 x1 hr hb hG
    obtain ⟨q1, c1, hv1⟩ := row_as hr
    have hb' : Below w1.heap.size w1 x1 := ⟨hb.os, hb.tape, hb.output, hb.size, hb.block⟩
    have hx1 := (hb'.block _ (box_lt hbx)).trans hbx
    obtain ⟨e0, e1⟩ := cells_at (v := .string ⟨#[]⟩) (j := 0) hx1 rfl
    obtain ⟨e2, e3⟩ := cells_at (v := .slice none 0 0) (j := 1) hx1 rfl
    exact hG q1 c1 hv1 ((hb'.cell (p := ⟨g, 0, none⟩) hgl).trans r0) ((hb'.cell (p := ⟨g, 1, none⟩) hgl).trans r1) hx1 e0 e1 e2 e3 hb'
  clear hrow hbx
  go_wp2
  go_region_held3 (fun w' => w'.cell? ⟨g, 0, none⟩ = some (.string p0) ∧ w'.cell? ⟨g, 1, none⟩ = some (.string p1)) (first | ((repeat' apply And.intro) <;> assumption) | go_keep)
    (first | (go_at_call 94; refine (HTY.out _).mono ?_; rintro e x1 ⟨⟨v1, rfl, hrow1⟩, y1⟩; refine HL.out _ v1 x1 hrow1 y1 ?_; intro q1 c1 hv1 s0 s1 hx1 b0 g0 b1 g1 hbb; subst hv1))
  go_wp2
  have hfin : ((x1.setCell ⟨W.heap.size, 0, none⟩ (.string p0)).setCell ⟨W.heap.size, 1, none⟩ (.slice q1 tl.length c1)).heap[W.heap.size]? = some (.cells #[.string p0, .slice q1 tl.length c1] 50 (0, 0)) := cells_put (j := 1) (cells_put (j := 0) hx1 (.string p0)) (.slice q1 tl.length c1)
  have hW1 : W.heap.size < w1.heap.size := by have := hb1.size; simp at this; omega
  have hin : IntsT ((x1.setCell ⟨W.heap.size, 0, none⟩ (.string p0)).setCell ⟨W.heap.size, 1, none⟩ (.slice q1 tl.length c1)) (.slice q1 tl.length c1) (tl.map fun n => ((n : Nat) : Int)) := by
    have h1 := ownsRow_setCell_below (ownsRow_setCell_below hrow1 (a := ⟨W.heap.size, 0, none⟩) hW1 (.string p0)) (a := ⟨W.heap.size, 1, none⟩) hW1 (.slice q1 tl.length c1)
    exact intsT_of_row (W := ((x1.setCell ⟨W.heap.size, 0, none⟩ (.string p0)).setCell ⟨W.heap.size, 1, none⟩ (.slice q1 tl.length c1))) h1
  refine bodyPost_ret (v := .tuple #[.agg #[.string p0, .slice q1 tl.length c1], .int .i64 0]) (by simp [results, Tryz.results63, go_sem, (cells_at (v := .string p0) (j := 0) hfin rfl).1, (cells_at (v := .slice q1 tl.length c1) (j := 1) hfin rfl).1]) rfl ⟨⟨_, rfl, hin⟩, ?_⟩
  have hW2 : Below W.heap.size W x1 := (((Below.refl _ _).alloc (Nat.le_refl _) _).trans (hb1.mono (by simp))).trans (hbb.mono (by omega))
  exact (hW2.setCell (p := ⟨W.heap.size, 0, none⟩) (Nat.le_refl _) _).setCell (p := ⟨W.heap.size, 1, none⟩) (Nat.le_refl _) _
theorem right_good (d : ByteArray) {ps : List ByteArray} (hsp : splitR 47 d = some ps) (W : World) : Calls Tryz.prog 182 #[.int .i64 47, .string d] W fun e w' => e = .returned (.bool true) ∧ Below W.heap.size W w' := by
  have hsz := ((split_iff 47 d _).1 hsp).2.1
  refine (right_all 47 d (by unfold maxLen; omega) W).mono fun e w' ⟨h1, h2⟩ => ⟨?_, h2⟩
  rw [h1, hsp]
  rfl
end Go.Proofs.YtnchoogjjnjikaaGreatDoor
/- single and nsecs of sets that all count. -/
namespace Go.Proofs.YtnchoogjjnjikaaGreatDoor
set_option linter.unusedVariables false
set_option linter.unusedSimpArgs false
open Go.RowKit
attribute [local go_sem ↓] storeAt_lk loadAt_lk
attribute [local go_sem ↓] loadAt_st storeAt_st
set_option maxRecDepth 100000 in
set_option maxHeartbeats 2000000 in
theorem single_in (d sa s : ByteArray) (g cap : Nat) (W : World) (hd : W.cell? ⟨g, 0, none⟩ = some (.string d)) (hg : g < W.heap.size) (hu : Hid (∀ w, Calls Tryz.prog 21 #[.string s, .string sa] w fun e w' => e = .returned (.bool true) ∧ Below w.heap.size w w')) (hs : Hid (∀ w, Calls Tryz.prog 19 #[.string s] w fun e w' => e = .returned (.bool true) ∧ Below w.heap.size w w')) (hr : Hid (∀ w, Calls Tryz.prog 182 #[.int .i64 47, .string d] w fun e w' => e = .returned (.bool true) ∧ Below w.heap.size w w')) :
    Calls Tryz.prog 62 #[.agg #[.string s, .int .i64 47, .int .i64 1, .int .i64 0, .slice (some ⟨g, 0, none⟩) 1 cap, .slice none 0 0], .int .i64 47, .string sa] W fun e w' => e = .returned (.bool true) ∧ Below W.heap.size W w' := by
  have HR : Hid (∀ w, Below W.heap.size W w → Calls Tryz.prog 93 #[.agg #[.string s, .int .i64 47, .int .i64 1, .int .i64 0, .slice (some ⟨g, 0, none⟩) 1 cap, .slice none 0 0]] w fun e w' => e = .returned (.bool true) ∧ Below w.heap.size w w') := fun w hb => rright_in d s g cap w ((hb.cell (p := ⟨g, 0, none⟩) hg).trans hd) (Nat.lt_of_lt_of_le hg hb.size) hs hr
  clear hd hs hr
  obtain ⟨V, hV, F⟩ : ∃ V, W.alloc (Obj.cells #[.string s, .int .i64 47, .int .i64 1, .int .i64 0, .slice (some ⟨g, 0, none⟩) 1 cap, .slice none 0 0] 40 (0, 0)) = V ∧ Fm W [(W.heap.size, Obj.cells #[.string s, .int .i64 47, .int .i64 1, .int .i64 0, .slice (some ⟨g, 0, none⟩) 1 cap, .slice none 0 0] 40 (0, 0))] V := ⟨_, rfl, Fm.box1 W _⟩
  have HCe : Hid (∀ w, Fm W [(W.heap.size, Obj.cells #[.string s, .int .i64 47, .int .i64 1, .int .i64 0, .slice (some ⟨g, 0, none⟩) 1 cap, .slice none 0 0] 40 (0, 0))] w → w.cell? ⟨W.heap.size, 0, none⟩ = some (.string s) ∧ w.cell? ⟨W.heap.size, 1, none⟩ = some (.int .i64 47) ∧ w.cell? ⟨W.heap.size, 2, none⟩ = some (.int .i64 1) ∧ w.cell? ⟨W.heap.size, 3, none⟩ = some (.int .i64 0) ∧ w.cell? ⟨W.heap.size, 4, none⟩ = some (.slice (some ⟨g, 0, none⟩) 1 cap) ∧ w.cell? ⟨W.heap.size, 5, none⟩ = some (.slice none 0 0)) := fun w h => ⟨(cells_at (h.get 0 rfl) rfl).1, (cells_at (h.get 0 rfl) rfl).1, (cells_at (h.get 0 rfl) rfl).1, (cells_at (h.get 0 rfl) rfl).1, (cells_at (h.get 0 rfl) rfl).1, (cells_at (h.get 0 rfl) rfl).1⟩
  obtain ⟨q0, q1, q2, q3, q4, q5⟩ := HCe.out _ F
  go_enter Tryz.func62, Tryz.ntmps62
  go_wp2_with fail
  refine (hu.out _).mono ?_
  rintro e w1 ⟨rfl, hb⟩
  replace F := F.blk hb
  clear hb hV q0 q1 q2 q3 q4 q5
  have l1 := stLoad_run (F.get 0 rfl)
  go_wp2_with fail
  refine (HR.out _ F.bel).mono ?_
  rintro e w2 ⟨rfl, hb⟩
  replace F := F.blk hb
  clear hb l1
  go_wp2
  go_ret
  exact ⟨rfl, F.bel⟩
theorem stLoad_mid {W : World} {g o : Nat} {x0 x1 x2 x3 x4 x5 : Value} (h0 : W.cell? ⟨g, o, none⟩ = some x0) (h1 : W.cell? ⟨g, o + 1, none⟩ = some x1) (h2 : W.cell? ⟨g, o + 2, none⟩ = some x2) (h3 : W.cell? ⟨g, o + 3, none⟩ = some x3) (h4 : W.cell? ⟨g, o + 4, none⟩ = some x4) (h5 : W.cell? ⟨g, o + 5, none⟩ = some x5) : (stLoad (.pointer (some ⟨g, o, none⟩))).run Tryz.prog W = .ok (.agg #[x0, x1, x2, x3, x4, x5]) W := by
  refine run_loadAt_mid W g o _ [x0, x1, x2, x3, x4, x5] _ (fun j v hv => ?_) Tryz.underlying40 rfl (by exact sizeSt)
  match j, hv with
  | 0, hv => cases hv; exact h0
  | 1, hv => cases hv; exact h1
  | 2, hv => cases hv; exact h2
  | 3, hv => cases hv; exact h3
  | 4, hv => cases hv; exact h4
  | 5, hv => cases hv; exact h5
theorem stStore_run {W : World} {b : Nat} {x0 x1 x2 x3 x4 x5 y0 y1 y2 y3 y4 y5 : Value} (h : W.heap[b]? = some (.cells #[y0, y1, y2, y3, y4, y5] 40 (0, 0))) (h0 : x0.oneCell' = true) (h1 : x1.oneCell' = true) (h2 : x2.oneCell' = true) (h3 : x3.oneCell' = true) (h4 : x4.oneCell' = true) (h5 : x5.oneCell' = true) : (stStore (.pointer (some ⟨b, 0, none⟩)) (.agg #[x0, x1, x2, x3, x4, x5])).run Tryz.prog W = .ok () (W.setRow b #[x0, x1, x2, x3, x4, x5]) := by
  unfold stStore
  simp only [Instr.storeAt, Instr.sureAddr, Sem.run_bind, Sem.run_pure, Result.andThen]
  exact run_storeVar_row W b _ _ _ _ h sizeSt rfl (by simp [h0, h1, h2, h3, h4, h5])
theorem stst1 (w : World) (x0 x1 x2 x3 x4 x5 y0 y1 y2 y3 y4 y5 : Value) (h0 : x0.oneCell' = true) (h1 : x1.oneCell' = true) (h2 : x2.oneCell' = true) (h3 : x3.oneCell' = true) (h4 : x4.oneCell' = true) (h5 : x5.oneCell' = true) : (stStore (.pointer (some ⟨w.heap.size, 0, none⟩)) (.agg #[x0, x1, x2, x3, x4, x5])).run Tryz.prog (w.alloc (Obj.cells #[y0, y1, y2, y3, y4, y5] 40 (0, 0))) = .ok () (w.alloc (Obj.cells #[x0, x1, x2, x3, x4, x5] 40 (0, 0))) := by
  rw [stStore_run (heap_new _ _) h0 h1 h2 h3 h4 h5]
  exact congrArg (Result.ok ()) (setRow_new w [y0, y1, y2, y3, y4, y5] [x0, x1, x2, x3, x4, x5] 40)
def nsStore (a x : Value) : Sem Unit := Instr.storeAt 50 a x
theorem storeAt_ns (a x : Value) : Instr.storeAt 50 a x = nsStore a x := rfl
theorem sizeNs : (Tryz.prog.info? 50).map (·.size) = some 2 := by kernel_rfl
theorem nsStore_run {W : World} {b : Nat} {x0 x1 y0 y1 : Value} (h : W.heap[b]? = some (.cells #[y0, y1] 50 (0, 0))) (h0 : x0.oneCell' = true) (h1 : x1.oneCell' = true) : (nsStore (.pointer (some ⟨b, 0, none⟩)) (.agg #[x0, x1])).run Tryz.prog W = .ok () (W.setRow b #[x0, x1]) := by
  unfold nsStore
  simp only [Instr.storeAt, Instr.sureAddr, Sem.run_bind, Sem.run_pure, Result.andThen]
  exact run_storeVar_row W b _ _ _ _ h sizeNs rfl (by simp [h0, h1])
theorem nsst1 (w : World) (x0 x1 y0 y1 : Value) (h0 : x0.oneCell' = true) (h1 : x1.oneCell' = true) : (nsStore (.pointer (some ⟨w.heap.size, 0, none⟩)) (.agg #[x0, x1])).run Tryz.prog (w.alloc (Obj.cells #[y0, y1] 50 (0, 0))) = .ok () (w.alloc (Obj.cells #[x0, x1] 50 (0, 0))) := by
  rw [nsStore_run (heap_new _ _) h0 h1]
  exact congrArg (Result.ok ()) (setRow_new w [y0, y1] [x0, x1] 50)
attribute [local go_sem ↓] storeAt_ns
def LkT (W : World) (k : Lk) (a b c : Value) : Prop := a = .string (nm k.o) ∧ b = .string (nm k.x) ∧ IntsT W c k.t
theorem LkT.at {W : World} {k : Lk} {a b c : Value} (h : LkT W k a b c) : LkAt W k a b c := ⟨h.1, h.2.1, h.2.2.1⟩
theorem LkT.blk {W W' : World} {k : Lk} {a b c : Value} (h : LkT W k a b c) (hb : Below W.heap.size W W') : LkT W' k a b c := ⟨h.1, h.2.1, h.2.2.below hb⟩
theorem ty_ne : (3 : TypeId) ≠ 98 := by decide
theorem LkT.grown {z w4 : World} {tmp : Obj} {u : Value} {n₀ n : Nat} {xs : List Value} {k : Lk} {a b c : Value} (h : LkT z k a b c) (hrow : z.ownsRow n₀ 98 3 u n xs) (hg : (z.alloc tmp).grownBy w4 u.ownBlock) : LkT w4 k a b c := by
  obtain ⟨h1, h2, ⟨q, cc, hv, hc⟩, h4⟩ := h
  have hblk : ∀ g o m d, c = .slice (some ⟨g, o, none⟩) m d → w4.heap[g]? = z.heap[g]? := fun g o m d hcv => by
    obtain ⟨cs, fz, hgg⟩ := h4 g o m d hcv
    have hlt := box_lt hgg
    have hal : (z.alloc tmp).heap[g]? = z.heap[g]? := ((Below.refl z.heap.size z).alloc (Nat.le_refl _) tmp).block g hlt
    refine (hg.block g (by simp; omega) fun e => ?_).trans hal
    rcases hrow.2 with ⟨rfl, _⟩ | ⟨g', cap, cur, rfl, _, hg', _⟩
    · simp [Value.ownBlock] at e
    · simp only [Value.ownBlock, Option.some.injEq] at e
      subst e
      rw [hgg] at hg'
      simp only [Option.some.injEq, Obj.cells.injEq] at hg'
      exact ty_ne hg'.2.1
  have hsz : z.heap.size ≤ w4.heap.size := Nat.le_trans (by simp) hg.size
  refine ⟨h1, h2, ⟨q, cc, hv, fun j hj => ?_⟩, fun g o m d hcv => ?_⟩
  · obtain ⟨g, hq, hgl, hcell⟩ := hc j hj
    refine ⟨g, hq, Nat.lt_of_lt_of_le hgl hsz, ?_⟩
    rw [hq] at hv
    exact (World.cell?_of_block (a := ⟨g, j, none⟩) (hblk g 0 _ _ hv)).trans hcell
  · obtain ⟨cs, fz, hgg⟩ := h4 g o m d hcv
    exact ⟨cs, fz, (hblk g o m d hcv).trans hgg⟩
theorem row_blk {w w' : World} {n : Nat} {e : TypeId} {sz : Nat} {v : Value} {k : Nat} {xs : List Value} (h : w.ownsRow n e sz v k xs) (hb : Below w.heap.size w w') : w'.ownsRow n e sz v k xs := by
  refine ⟨h.1, ?_⟩
  rcases h.2 with h' | ⟨g', cap', cur, hv, hb', hg', hr⟩
  · exact .inl h'
  · exact .inr ⟨g', cap', cur, hv, hb', (hb.block g' (box_lt hg')).trans hg', hr⟩
structure Gd where
  k : Lk
  d : ByteArray
def Gd.Ok (g : Gd) : Prop := g.k.Ok ∧ (∀ w, Calls Tryz.prog 63 #[.string g.d] w fun e w' => (∃ tv, e = .returned (.tuple #[.agg #[.string (nm g.k.x), tv], .int .i64 0]) ∧ IntsT w' tv g.k.t) ∧ Below w.heap.size w w') ∧ (∀ w, Calls Tryz.prog 182 #[.int .i64 47, .string g.d] w fun e w' => e = .returned (.bool true) ∧ Below w.heap.size w w')
def StAt (W : World) (v : Value) (l : List Gd) : Prop := ∃ q cap, v = .slice q l.length cap ∧ ∀ j (h : j < l.length), ∃ b g c, q = some ⟨b, 0, none⟩ ∧ b < W.heap.size ∧ W.cell? ⟨b, j * 6, none⟩ = some (.string (nm l[j].k.o)) ∧ W.cell? ⟨b, j * 6 + 1, none⟩ = some (.int .i64 47) ∧ W.cell? ⟨b, j * 6 + 2, none⟩ = some (.int .i64 1) ∧ W.cell? ⟨b, j * 6 + 3, none⟩ = some (.int .i64 0) ∧ W.cell? ⟨b, j * 6 + 4, none⟩ = some (.slice (some ⟨g, 0, none⟩) 1 c) ∧ W.cell? ⟨b, j * 6 + 5, none⟩ = some (.slice none 0 0) ∧ g < W.heap.size ∧ W.cell? ⟨g, 0, none⟩ = some (.string l[j].d)
theorem StAt.blk {W W' : World} {v : Value} {l : List Gd} (h : StAt W v l) (hb : Below W.heap.size W W') : StAt W' v l := by
  obtain ⟨q, cap, hv, hc⟩ := h
  refine ⟨q, cap, hv, fun j hj => ?_⟩
  obtain ⟨b, g, c, hq, hbb, h0, h1, h2, h3, h4, h5, hg, h6⟩ := hc j hj
  exact ⟨b, g, c, hq, Nat.lt_of_lt_of_le hbb hb.size, (hb.cell (p := ⟨b, j * 6, none⟩) hbb).trans h0, (hb.cell (p := ⟨b, j * 6 + 1, none⟩) hbb).trans h1, (hb.cell (p := ⟨b, j * 6 + 2, none⟩) hbb).trans h2, (hb.cell (p := ⟨b, j * 6 + 3, none⟩) hbb).trans h3, (hb.cell (p := ⟨b, j * 6 + 4, none⟩) hbb).trans h4, (hb.cell (p := ⟨b, j * 6 + 5, none⟩) hbb).trans h5, Nat.lt_of_lt_of_le hg hb.size, (hb.cell (p := ⟨g, 0, none⟩) hg).trans h6⟩
def lkC : List (Value × Value × Value) → List Value
  | [] => []
  | (a, b, c) :: r => a :: b :: c :: lkC r
theorem lkC_len : ∀ l, (lkC l).length = l.length * 3
  | [] => rfl
  | (a, b, c) :: r => by rw [lkC]; simp only [List.length_cons]; rw [lkC_len r]; omega
theorem lkC_app : ∀ (l m : List (Value × Value × Value)), lkC (l ++ m) = lkC l ++ lkC m
  | [], _ => rfl
  | (a, b, c) :: r, m => by rw [List.cons_append, lkC, lkC, lkC_app r m]; rfl
theorem lkC_at : ∀ (l : List (Value × Value × Value)) (j : Nat) (h : j < l.length), (lkC l)[j * 3]? = some l[j].1 ∧ (lkC l)[j * 3 + 1]? = some l[j].2.1 ∧ (lkC l)[j * 3 + 2]? = some l[j].2.2
  | (a, b, c) :: r, 0, _ => ⟨rfl, rfl, rfl⟩
  | (a, b, c) :: r, j + 1, h => by
    have := lkC_at r j (by simpa using h)
    rw [lkC]
    simp only [List.getElem_cons_succ]
    rw [show (j + 1) * 3 = j * 3 + 1 + 1 + 1 by omega]
    simpa using this
theorem chAt_of {W : World} {n₀ : Nat} {v : Value} {ks : List Lk} {rows : List (Value × Value × Value)} (h : W.ownsRow n₀ 98 3 v ks.length (lkC rows)) (hl : rows.length = ks.length) (hr : ∀ j (h1 : j < rows.length) (h2 : j < ks.length), LkAt W ks[j] rows[j].1 rows[j].2.1 rows[j].2.2) : ChAt W v ks := by
  rcases h.2 with ⟨rfl, h0⟩ | ⟨g, cap, cur, rfl, _, hg, _, _, _, ht⟩
  · exact ⟨none, 0, by rw [h0], fun j hj => by omega⟩
  · refine ⟨_, cap, rfl, fun j hj => ?_⟩
    have hj' : j < rows.length := by omega
    obtain ⟨c0, c1, c2⟩ := lkC_at rows j hj'
    have hcell : ∀ i u, (lkC rows)[i]? = some u → W.cell? ⟨g, i, none⟩ = some u := fun i u hu => by
      have hlt : i < ks.length * 3 := by
        have := (List.getElem?_eq_some_iff.1 hu).1
        rw [lkC_len] at this
        omega
      unfold World.cell?
      simp only [hg]
      rw [← ht] at hu
      rw [List.getElem?_take_of_lt hlt] at hu
      simpa using hu
    exact ⟨g, _, _, _, rfl, box_lt hg, hcell _ _ c0, hcell _ _ c1, hcell _ _ c2, hr j hj' hj⟩
def ChT (W : World) (v : Value) (ks : List Lk) : Prop := ∃ (n₀ : Nat) (rows : List (Value × Value × Value)), rows.length = ks.length ∧ W.ownsRow n₀ 98 3 v ks.length (lkC rows) ∧ ∀ j (h1 : j < rows.length) (h2 : j < ks.length), LkT W ks[j] rows[j].1 rows[j].2.1 rows[j].2.2
theorem ChT.at {W : World} {v : Value} {ks : List Lk} (h : ChT W v ks) : ChAt W v ks := by
  obtain ⟨n₀, rows, h1, h2, h3⟩ := h
  exact chAt_of h2 h1 fun j a b => (h3 j a b).at
theorem ChT.blk {W W' : World} {v : Value} {ks : List Lk} (h : ChT W v ks) (hb : Below W.heap.size W W') : ChT W' v ks := by
  obtain ⟨n₀, rows, h1, h2, h3⟩ := h
  exact ⟨n₀, rows, h1, row_blk h2 hb, fun j a b => (h3 j a b).blk hb⟩
theorem LkT.row {W : World} {k : Lk} {a b c : Value} {p : Nat} {L z : Array Value} {t : TypeId} (h : LkT W k a b c) (hp : W.heap[p]? = some (.cells L t (0, 0))) (ht : t ≠ 3) : LkT (W.setRow p z) k a b c := by
  obtain ⟨h1, h2, ⟨q, cc, hv, hc⟩, h4⟩ := h
  have hblk : ∀ g o m d, c = .slice (some ⟨g, o, none⟩) m d → (W.setRow p z).heap[g]? = W.heap[g]? := fun g o m d hcv => by
    obtain ⟨cs, fz, hgg⟩ := h4 g o m d hcv
    refine setRow_other _ _ _ _ fun e => ?_
    subst e
    rw [hgg] at hp
    simp only [Option.some.injEq, Obj.cells.injEq] at hp
    exact ht hp.2.1.symm
  refine ⟨h1, h2, ⟨q, cc, hv, fun j hj => ?_⟩, fun g o m d hcv => ?_⟩
  · obtain ⟨g, hq, hgl, hcell⟩ := hc j hj
    refine ⟨g, hq, ?_, ?_⟩
    · rw [hq] at hv
      obtain ⟨cs, fz, hgg⟩ := h4 g 0 _ _ hv
      exact box_lt ((hblk g 0 _ _ hv).trans hgg)
    · rw [hq] at hv
      exact (World.cell?_of_block (a := ⟨g, j, none⟩) (hblk g 0 _ _ hv)).trans hcell
  · obtain ⟨cs, fz, hgg⟩ := h4 g o m d hcv
    exact ⟨cs, fz, (hblk g o m d hcv).trans hgg⟩
theorem ChT.row {W : World} {v : Value} {ks : List Lk} {p : Nat} {L z : Array Value} {t : TypeId} (h : ChT W v ks) (hp : W.heap[p]? = some (.cells L t (0, 0))) (ht : t ≠ 3) (hu : t ≠ 98) : ChT (W.setRow p z) v ks := by
  obtain ⟨n₀, rows, h1, h2, h3⟩ := h
  refine ⟨n₀, rows, h1, ⟨h2.1, ?_⟩, fun j a b => (h3 j a b).row hp ht⟩
  rcases h2.2 with h' | ⟨g', cap', cur, hv, hb', hg', hr⟩
  · exact .inl h'
  · refine .inr ⟨g', cap', cur, hv, hb', (setRow_other _ _ _ _ fun e => ?_).trans hg', hr⟩
    subst e
    rw [hg'] at hp
    simp only [Option.some.injEq, Obj.cells.injEq] at hp
    exact hu hp.2.1.symm
theorem three_new (w : World) (a b c : Value) (t : TypeId) : ∀ j u, [a, b, c][j]? = some u → (w.alloc (.cells #[a, b, c] t)).cell? ((⟨w.heap.size, 0, none⟩ : Addr).add j) = some u := by
  intro j u hj
  rw [add_at']
  exact (cells_at (heap_new w (.cells #[a, b, c] t)) (by simpa using hj)).1
theorem info_lk : (Tryz.prog.info? 98).map (fun i => (i.zero, i.size, i.bytes)) = some (some (.agg #[.string ⟨#[]⟩, .string ⟨#[]⟩, .slice none 0 0]), 3, 56) := by kernel_rfl
set_option maxRecDepth 100000 in
set_option maxHeartbeats 2000000 in
theorem nsecs_in (l : List Gd) (ap : List (List UInt8)) (hap : OkN ap) (hl : l.length ≤ 100000) (hok : ∀ g ∈ l, g.Ok) (hun : ∀ g ∈ l, undB g.k.o ap = true) (v : Value) (W : World) (h : StAt W v l) :
    Calls Tryz.prog 39 #[v, .string (nm ap)] W fun e w' => (∃ cv, e = .returned cv ∧ ChT w' cv (l.map (·.k))) ∧ Below W.heap.size W w' := by
  obtain ⟨q, cap, rfl, hc⟩ := id h
  have HC := Hid.mk hc
  obtain ⟨m, hm⟩ : ∃ m, l.length = m := ⟨_, rfl⟩
  have HM := Hid.mk hm
  have HSi : Hid (∀ gd ∈ l, ∀ w g c, w.cell? ⟨g, 0, none⟩ = some (.string gd.d) → g < w.heap.size → Calls Tryz.prog 62 #[.agg #[.string (nm gd.k.o), .int .i64 47, .int .i64 1, .int .i64 0, .slice (some ⟨g, 0, none⟩) 1 c, .slice none 0 0], .int .i64 47, .string (nm ap)] w fun e w' => e = .returned (.bool true) ∧ Below w.heap.size w w') := fun gd hgd w g c hd hg => single_in gd.d (nm ap) (nm gd.k.o) g c w hd hg (Hid.mk fun w => by have := under_yes gd.k.o ap (hok gd hgd).1.1 hap w; rwa [hun gd hgd] at this) (Hid.mk (right_yes gd.k.o (hok gd hgd).1.1)) (Hid.mk (hok gd hgd).2.2)
  have HNs : Hid (∀ gd ∈ l, ∀ w, Calls Tryz.prog 63 #[.string gd.d] w fun e w' => (∃ tv, e = .returned (.tuple #[.agg #[.string (nm gd.k.x), tv], .int .i64 0]) ∧ IntsT w' tv gd.k.t) ∧ Below w.heap.size w w') := fun gd hgd => (hok gd hgd).2.1
  have HEnd : Hid (∀ (w : World) (cv : Value) (rows : List (Value × Value × Value)), rows.length = m → w.ownsRow W.heap.size 98 3 cv m (lkC rows) → (∀ j (h1 : j < rows.length) (h2 : j < l.length), LkT w l[j].k rows[j].1 rows[j].2.1 rows[j].2.2) → ChT w cv (l.map (·.k))) := fun w cv rows h1 h2 h3 => ⟨W.heap.size, rows, by rw [List.length_map, hm]; exact h1, by rw [List.length_map, hm]; exact h2, fun j a b => by rw [List.getElem_map]; exact h3 j a (by simpa using b)⟩
  rw [hm] at hl ⊢
  generalize nm ap = sa at HSi ⊢
  obtain ⟨i0, hi0, hz0, hz1, hz2⟩ := info_parts info_lk
  clear hm hok hun h hc hap
  go_enter Tryz.func39, Tryz.ntmps39
  go_wp2_with fail
  go_loopw [5, 12] (fun cv iv wr => ∃ (i : Nat) (rows : List (Value × Value × Value)), i ≤ m ∧ iv = .int .i64 (i : Int) ∧ Hid (rows.length = i) ∧ Hid (wr.ownsRow W.heap.size 98 3 cv i (lkC rows)) ∧ Hid (∀ j (h1 : j < rows.length) (h2 : j < l.length), LkT wr l[j].k rows[j].1 rows[j].2.1 rows[j].2.2) ∧ Below W.heap.size W wr) (fun _ iv _ => m - (intOf iv).toNat)
  case atStart => exact ⟨0, [], Nat.zero_le _, rfl, rfl, World.ownsRow_nil _ _ _ _, fun j h1 => absurd h1 (Nat.not_lt_zero _), Below.refl _ _⟩
  case round =>
    obtain ⟨i, rows, hi, rfl, hrl, hrow, hlk, hbl⟩ := hrel
    by_cases hlt : i < m
    · have hil : i < l.length := by rw [HM.out]; exact hlt
      obtain ⟨b, g, c, rfl, hbb, h0, h1, h2, h3, h4, h5, hg, h6⟩ := HC.out i hil
      obtain ⟨kk, hkk⟩ : ∃ kk, l[i] = kk := ⟨_, rfl⟩
      have hmem : kk ∈ l := by rw [← hkk]; exact List.getElem_mem _
      rw [hkk] at h0 h6
      have HS1 := Hid.mk (HSi.out kk hmem)
      have HN1 := Hid.mk (HNs.out kk hmem)
      have HKK : Hid (∃ h, l[i]'h = kk) := ⟨hil, hkk⟩
      have hi' : (i : Int) < (m : Int) := by omega
      clear hil hkk hmem
      have k0 := (hbl.cell (p := ⟨b, i * 6, none⟩) hbb).trans h0
      have k1 := (hbl.cell (p := ⟨b, i * 6 + 1, none⟩) hbb).trans h1
      have k2 := (hbl.cell (p := ⟨b, i * 6 + 2, none⟩) hbb).trans h2
      have k3 := (hbl.cell (p := ⟨b, i * 6 + 3, none⟩) hbb).trans h3
      have k4 := (hbl.cell (p := ⟨b, i * 6 + 4, none⟩) hbb).trans h4
      have k5 := (hbl.cell (p := ⟨b, i * 6 + 5, none⟩) hbb).trans h5
      have ld := stLoad_mid k0 k1 k2 k3 k4 k5
      have st := stst1 wr (.string (nm kk.k.o)) (.int .i64 47) (.int .i64 1) (.int .i64 0) (.slice (some ⟨g, 0, none⟩) 1 c) (.slice none 0 0) (.string ⟨#[]⟩) (.int .i64 0) (.int .i64 0) (.int .i64 0) (.slice none 0 0) (.slice none 0 0) rfl rfl rfl rfl rfl rfl
      have H6 := Hid.mk h6
      clear h0 h1 h2 h3 h4 h5 k0 k1 k2 k3 k4 k5 h6
      go_upto_region 5 with fail
      have F := (Fm.start wr).new (Obj.cells #[.string (nm kk.k.o), .int .i64 47, .int .i64 1, .int .i64 0, .slice (some ⟨g, 0, none⟩) 1 c, .slice none 0 0] 40 (0, 0))
      clear ld st
      generalize wr.alloc (Obj.cells #[.string (nm kk.k.o), .int .i64 47, .int .i64 1, .int .i64 0, .slice (some ⟨g, 0, none⟩) 1 c, .slice none 0 0] 40 (0, 0)) = z at F ⊢
      generalize hb7 : wr.heap.size = b7 at F ⊢
      have l7 := stLoad_run (F.get 0 rfl)
      have hz := bthen hbl F.bel
      go_wp2_with fail
      refine (HS1.out _ _ _ ((hz.cell (p := ⟨g, 0, none⟩) hg).trans H6.out) (Nat.lt_of_lt_of_le hg hz.size)).mono ?_
      rintro e w2 ⟨rfl, hb⟩
      replace F := F.blk hb
      clear hb l7 hz
      have hz := bthen hbl F.bel
      have q4 : w2.cell? ⟨b7, 4, none⟩ = some (.slice (some ⟨g, 0, none⟩) 1 c) := (cells_at (F.get 0 rfl) rfl).1
      have q6 : w2.cell? ⟨g, 0, none⟩ = some (.string kk.d) := (hz.cell (p := ⟨g, 0, none⟩) hg).trans H6.out
      go_wp2_with fail
      refine (HN1.out _).mono ?_
      rintro e w3 ⟨⟨tv, rfl, hin⟩, hb⟩
      replace F := F.blk hb
      clear hb q4 q6 hz
      obtain ⟨tq, tc, htv, _⟩ := id hin.1
      subst htv
      have st := nsst1 w3 (.string (nm kk.k.x)) (.slice tq kk.k.t.length tc) (.string ⟨#[]⟩) (.slice none 0 0) rfl rfl
      go_upto_region 7 with fail
      have hA := (Below.refl w3.heap.size w3).alloc (Nat.le_refl _) (Obj.cells #[.string (nm kk.k.x), .slice tq kk.k.t.length tc] 50 (0, 0))
      replace hin := hin.below hA
      replace F := F.new (Obj.cells #[.string (nm kk.k.x), .slice tq kk.k.t.length tc] 50 (0, 0))
      clear st hA
      generalize w3.alloc (Obj.cells #[.string (nm kk.k.x), .slice tq kk.k.t.length tc] 50 (0, 0)) = z3 at F hin ⊢
      generalize w3.heap.size = b8 at F ⊢
      have q0 : z3.cell? ⟨b7, 0, none⟩ = some (.string (nm kk.k.o)) := (cells_at (F.get 1 rfl) rfl).1
      have p0 : z3.cell? ⟨b8, 0, none⟩ = some (.string (nm kk.k.x)) := (cells_at (F.get 0 rfl) rfl).1
      have p1 : z3.cell? ⟨b8, 1, none⟩ = some (.slice tq kk.k.t.length tc) := (cells_at (F.get 0 rfl) rfl).1
      have hrow' := row_blk hrow.out F.bel
      have hlk' : Hid (∀ j (h1 : j < rows.length) (h2 : j < l.length), LkT z3 l[j].k rows[j].1 rows[j].2.1 rows[j].2.2) := fun j h1 h2 => (hlk.out j h1 h2).blk F.bel
      have hbz := bthen hbl F.bel
      have hsz0 := hbz.size
      have HIN := Hid.mk hin
      have hil' : i ≤ 100000 := by omega
      clear F hin hlk hrow
      go_wp2_with (at_builtin; refine wpList_append_own _ rfl _ _ 72 rfl W.heap.size 98 i0 (.agg #[.string ⟨#[]⟩, .string ⟨#[]⟩, .slice none 0 0]) 3 56 Tryz.underlying72 hi0 hz0 hz1 hz2 rfl (by decide) _ _ _ rfl (hrow'.alloc _) ⟨z3.heap.size, 0, none⟩ 1 1 [.string (nm kk.k.o), .string (nm kk.k.x), .slice tq kk.k.t.length tc] rfl rfl (three_new _ _ _ _ _) (by simp [Value.oneCell']) (by unfold maxLen; omega) (by omega) (by simp; omega) ?_; intro v1 w4 hown4 hgrow4 _)
      have hgr : (z3.alloc (.cells #[.string (nm kk.k.o), .string (nm kk.k.x), .slice tq kk.k.t.length tc] 98)).grownBy w4 u5.ownBlock := hgrow4
      have hB4 : Below W.heap.size W w4 := (hbz.alloc hsz0 _).grown hgr (by simp; omega) (fun j ej => by
        rcases hrow'.2 with ⟨h0, _⟩ | ⟨g', cap', cur, h0, hb', _⟩
        · rw [h0] at ej; cases ej
        · rw [h0] at ej; cases ej; exact hb')
      have HO4 : Hid (w4.ownsRow W.heap.size 98 3 v1 (i + 1) (lkC (rows ++ [(.string (nm kk.k.o), .string (nm kk.k.x), .slice tq kk.k.t.length tc)]))) := by rw [Hid, lkC_app]; exact hown4
      have HK4 : Hid (∀ j (h1 : j < (rows ++ [(Value.string (nm kk.k.o), Value.string (nm kk.k.x), Value.slice tq kk.k.t.length tc)]).length) (h2 : j < l.length), LkT w4 l[j].k (rows ++ [(Value.string (nm kk.k.o), Value.string (nm kk.k.x), Value.slice tq kk.k.t.length tc)])[j].1 (rows ++ [(Value.string (nm kk.k.o), Value.string (nm kk.k.x), Value.slice tq kk.k.t.length tc)])[j].2.1 (rows ++ [(Value.string (nm kk.k.o), Value.string (nm kk.k.x), Value.slice tq kk.k.t.length tc)])[j].2.2) := fun j h1 h2 => by
        by_cases hj : j < rows.length
        · rw [List.getElem_append_left hj]
          exact (hlk'.out j hj h2).grown hrow' hgr
        · have hji : j = i := by
            have := hrl.out
            simp only [List.length_append, List.length_cons, List.length_nil] at h1
            omega
          subst hji
          obtain ⟨h3, h4⟩ := HKK.out
          rw [List.getElem_append_right (by omega)]
          simp only [hrl.out, Nat.sub_self, List.getElem_cons_zero]
          rw [h4]
          exact LkT.grown ⟨rfl, rfl, HIN.out⟩ hrow' hgr
      have HR4 : Hid ((rows ++ [(Value.string (nm kk.k.o), Value.string (nm kk.k.x), Value.slice tq kk.k.t.length tc)]).length = i + 1) := by rw [Hid, List.length_append, hrl.out]; rfl
      clear hgr hgrow4 hown4 hlk' hrow' HKK HIN hbz
      go_roundw
      case rel => exact ⟨i + 1, _, by omega, by go_num, HR4, HO4, HK4, hB4⟩
      case measure => simp [intOf]; omega
    · obtain rfl : i = m := by omega
      have hE := Hid.mk (HEnd.out wr _ rows hrl.out hrow.out hlk.out)
      go_wp2
      go_ret
      exact ⟨⟨_, rfl, hE.out⟩, hbl⟩
end Go.Proofs.YtnchoogjjnjikaaGreatDoor