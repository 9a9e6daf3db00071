/- Texts of this proof, joined: GUns, GTop, ZEx, ZSides, ZLaid, ZHashN. -/
import Derived.Test.YtaiakpigljcjbaaGreatDoorJ17
import Derived.Test.YtaiakpigljcjbaaGreatDoorJ14
import Derived.OpenShut
import Derived.WalkKit
import Derived.ProofKit
import Derived.Lib.LaidTab
import Derived.Deep.DeepHandedRow
import Derived.Test.YtaiakpigljcjbaaGreatDoorTie
import Derived.Test.YtaiakpigljcjbaaGreatDoorCards
/- unspelt. -/
namespace Go.Proofs.YtaiakpigljcjbaaGreatDoor.G
set_option linter.unusedVariables false
open Go.RowKit

/-- groups counted so far, and noughts. -/
def gfill (t : List UInt8) (m : Nat) : List UInt8 := (t.take m).map cnt ++ List.replicate (t.length - m) 0
theorem gfill_len (t : List UInt8) (m : Nat) (h : m ≤ t.length) : (gfill t m).length = t.length := by
  rw [gfill, List.length_append, List.length_map, List.length_take, List.length_replicate]; omega
theorem gfill_set (t : List UInt8) (m : Nat) (h : m < t.length) : (gfill t m).set m (cnt (t[m]?.getD 0)) = gfill t (m + 1) := by
  unfold gfill
  rw [List.set_append_right _ _ (by rw [List.length_map, List.length_take]; omega), List.length_map, List.length_take, Nat.min_eq_left (by omega), Nat.sub_self, List.take_add_one, List.map_append, List.append_assoc, List.getElem?_eq_getElem h, show t.length - m = (t.length - (m + 1)) + 1 by omega, List.replicate_succ]
  rfl
theorem gfill_all (t : List UInt8) (m : Nat) (h : t.length = m) : gfill t m = t.map cnt := by
  rw [gfill, List.take_of_length_le (by omega), h, Nat.sub_self]
  exact List.append_nil _
theorem gfill_at (t : List UInt8) (m j : Nat) (h : j < m) (hm : m ≤ t.length) : (gfill t m)[j]? = some (cnt (t[j]?.getD 0)) := by
  rw [gfill, List.getElem?_append_left (by rw [List.length_map, List.length_take]; omega), List.getElem?_map, List.getElem?_take_of_lt h, List.getElem?_eq_getElem (by omega)]
  rfl

theorem below_le (w : World) (B n : Nat) : Below B w (w.drewN n) := ⟨rfl, rfl, rfl, Nat.le_refl _, fun _ _ => rfl⟩
/-- what unspelt answers. -/
def unsE (w : Nat) (t : List UInt8) : Ending := match uns w t with
  | some s => .returned (.tuple #[.string ⟨s.toArray⟩, .int .i64 0])
  | none => .returned (.tuple #[.string ⟨#[]⟩, .int .i64 7])
theorem uns_bad (w : Nat) (l : List UInt8) (m : Nat) (hm : m < l.length) (h : ¬ (cnt (l[m]?.getD 0)).toNat < 2 ^ w) : unsE w l = .returned (.tuple #[.string ⟨#[]⟩, .int .i64 7]) := by
  have : uns w l = none := by
    unfold uns
    rw [if_neg]
    intro hall
    refine h (hall _ ?_)
    rw [List.getElem?_eq_getElem hm]
    exact List.getElem_mem _
  rw [unsE, this]
theorem uns_all (w : Nat) (l : List UInt8) (h : ∀ c ∈ l, (cnt c).toNat < 2 ^ w) : unsE w l = if w ≤ (rg w 8 (l.map cnt)).2.2 ∨ (rg w 8 (l.map cnt)).2.1 ≠ 0 then .returned (.tuple #[.string ⟨#[]⟩, .int .i64 7]) else .returned (.tuple #[.string ⟨(rg w 8 (l.map cnt)).1.toArray⟩, .int .i64 0]) := by
  by_cases hc : w ≤ (rg w 8 (l.map cnt)).2.2 ∨ (rg w 8 (l.map cnt)).2.1 ≠ 0
  · have : uns w l = none := by rw [uns, if_pos h, if_pos hc]
    rw [unsE, this, if_pos hc]
  · have : uns w l = some (rg w 8 (l.map cnt)).1 := by rw [uns, if_pos h, if_neg hc]
    rw [unsE, this, if_neg hc]
theorem conv_nil (W : World) : (convert 50 9 (.slice none 0 0)).run Tryz.prog W = .ok (.string ⟨#[]⟩) W := by kernel_rfl
theorem own_back_any {w : World} {base n : Nat} {v : Value} {l : List UInt8} (h : w.ownsRow base 5 1 v n (bcl l)) (hl : l.length = n) : (convert 50 9 v).run Tryz.prog w = .ok (.string ⟨l.toArray⟩) w := by
  rcases h.2 with ⟨hv, h0⟩ | ⟨g, cap, cur, hv, _⟩
  · subst hv
    have : l = [] := List.eq_nil_of_length_eq_zero (by omega)
    rw [this]
    exact conv_nil w
  · subst hv
    exact own_back h hl
theorem made_zeros (n : Nat) : (madeCells (Value.int .u8 0).cells (n * 1)).toList = bcl (List.replicate n 0) := by
  apply List.ext_getElem?
  intro k
  simp [madeCells, bcl, Value.cells, List.getElem?_replicate]
  by_cases hk : k < n
  · rw [if_pos hk, List.getElem?_range hk]
    simp [Nat.mod_one]
  · rw [if_neg hk, List.getElem?_eq_none (by simpa using hk)]
    rfl
set_option maxRecDepth 100000 in
set_option maxHeartbeats 2000000 in
theorem unspelt_4 (t : ByteArray) (ht : t.size ≤ 8388613) (W : World) :
    Calls Tryz.prog 120 #[.string t, .int .i64 4] W fun e w' => e = unsE 4 t.data.toList ∧ Below W.heap.size W w' := by
  obtain ⟨i0, hi, hz0, hz1, hz2⟩ := info_of info5
  obtain ⟨n, hn⟩ : ∃ n, t.size = n := ⟨_, rfl⟩
  have HLN : Hid (t.data.toList.length = n) := hn
  have HTZ := Hid.mk hn
  have hn2 : n ≤ 8388613 := by omega
  obtain ⟨l, hl⟩ : ∃ l, t.data.toList = l := ⟨_, rfl⟩
  have HIX : Hid (∀ m, m < n → ∀ W : World, (Instr.index 9 (.string t) (.int .i64 (m : Int))).run Tryz.prog W = .ok (.int .u8 ((l[m]?.getD 0).toNat : Int)) W) := fun m hm W => index_get t m _ (by omega) (by rw [hl]) W
  rw [hl] at HLN ⊢
  have HREG : Hid (∀ (W2 : World) (g cap : Nat), g < W2.heap.size → (∀ j, j < n → W2.cell? ⟨g, j, none⟩ = some (.int .u8 (((l.map cnt)[j]?.getD 0).toNat : Int))) → (∀ x ∈ l.map cnt, x.toNat < 2 ^ 4) → Calls Tryz.prog 59 #[.slice (some ⟨g, 0, none⟩) n cap, .int .i64 4, .int .i64 8] W2 fun e w' => ∃ v, e = .returned (.tuple #[v, .int .u16 (((rg 4 8 (l.map cnt)).2.1 : Nat) : Int), .int .i64 (((rg 4 8 (l.map cnt)).2.2 : Nat) : Int)]) ∧ w'.ownsRow W2.heap.size 5 1 v (rg 4 8 (l.map cnt)).1.length (bcl (rg 4 8 (l.map cnt)).1) ∧ Below W2.heap.size W2 w') := fun W2 g cap hg hc hs => by
    have h := regrouped_in W2 g cap (l.map cnt) 4 8 (by omega) (by omega) (by rw [List.length_map, HLN.out]; omega) (fun j hj => hc j (by rw [List.length_map, HLN.out] at hj; exact hj)) hg hs
    rwa [List.length_map, HLN.out] at h
  clear hl hn ht
  have hzs : t.size = n := HTZ.out
  go_enter Tryz.func120, Tryz.ntmps120
  go_wp2_with (at_make; refine wpList_make_full _ rfl _ _ 50 rfl W.heap.size 5 i0 (.int .u8 0) 1 Tryz.underlying50 hi hz0 hz1 _ _ _ _ n rfl rfl rfl rfl (by rw [hz2]; omega) (by unfold maxLen; omega) (Nat.le_refl _) ?_; intro w1 hown1 hgrow1)
  have B1 : Below W.heap.size W w1 := (Below.refl _ _).grown hgrow1 (Nat.le_refl _) (by simp)
  rw [made_zeros] at hown1
  have HO1 : Hid (w1.ownsRow W.heap.size 5 1 (.slice (some ⟨W.heap.size, 0, none⟩) n n) n (bcl (gfill l 0))) := by
    rw [Hid, gfill, List.take_zero, HLN.out, Nat.sub_zero]; exact hown1
  clear hown1 hgrow1
  go_loopw [16] (fun i wr => ∃ m : Nat, m ≤ n ∧ i = .int .i64 m ∧ Hid (∀ j, j < m → (cnt (l[j]?.getD 0)).toNat < 2 ^ 4) ∧ wr.ownsRow W.heap.size 5 1 (.slice (some ⟨W.heap.size, 0, none⟩) n n) n (bcl (gfill l m)) ∧ Below W.heap.size W wr) (fun i _ => n - (intOf i).toNat)
  case atStart => exact ⟨0, by omega, rfl, fun j hj => absurd hj (by omega), HO1.out, B1⟩
  case round =>
    obtain ⟨m, hm, rfl, HALL, hown, hbl⟩ := hrel
    have HO := Hid.mk hown
    by_cases hlt : m < n
    · have hml : m < l.length := by rw [HLN.out]; exact hlt
      have hix := HIX.out m hlt
      have HGS := Hid.mk (gfill_set l m hml)
      obtain ⟨y0, hc⟩ : ∃ y0 : UInt8, wr.cell? ⟨W.heap.size, m, none⟩ = some (.int .u8 (y0.toNat : Int)) := ⟨_, by rw [hown.cellAt m (by omega), bcl_at, List.getElem?_eq_getElem (by rw [gfill_len l m (by omega)]; exact hml)]; rfl⟩
      have hf := hown.frozenAt m
      have HB := Hid.mk (uns_bad 4 l m hml)
      have HNX : Hid ((cnt (l[m]?.getD 0)).toNat < 2 ^ 4 → ∀ j, j < m + 1 → (cnt (l[j]?.getD 0)).toNat < 2 ^ 4) := fun h j hj => by
        by_cases he : j = m
        · rw [he]; exact h
        · exact HALL.out j (by omega)
      have HCN := Hid.mk (counts_in (l[m]?.getD 0))
      generalize l[m]?.getD 0 = x at hix HGS HB HNX HCN
      have hy := (cnt x).toNat_lt
      clear hown hml
      by_cases hbad : (cnt x).toNat < 16
      · have HX2 := HNX.out hbad
        go_wp2_with fail
        refine (HCN.out _).mono ?_
        rintro e w2 ⟨rfl, rfl⟩
        go_wp2_with fail
        go_quiet (fail)
        go_wp2
        go_roundw
        case rel =>
          obtain ⟨h1, h2⟩ := HO.out.stored m (.int .u8 ((cnt x).toNat : Int))
          rw [bcl_set, HGS.out] at h1
          refine ⟨m + 1, by omega, by go_num, HX2, ?_, ?_⟩
          · exact h1
          · exact (hbl.grown h2 hbl.size (fun k hk => by cases hk; exact Nat.le_refl _)).trans (below_le _ _ _)
        case measure => simp [intOf]; omega
      · have HU := Hid.mk (HB.out hbad)
        go_wp2_with fail
        refine (HCN.out _).mono ?_
        rintro e w2 ⟨rfl, rfl⟩
        go_wp2_with fail
        go_quiet (fail)
        go_wp2
        go_ret2
        obtain ⟨h1, h2⟩ := HO.out.stored m (.int .u8 ((cnt x).toNat : Int))
        exact ⟨HU.out.symm, (hbl.grown h2 hbl.size (fun k hk => by cases hk; exact Nat.le_refl _)).trans (below_le _ _ _)⟩
    · obtain rfl : m = n := by omega
      have hall : ∀ c ∈ l, (cnt c).toNat < 2 ^ 4 := fun c hc => by
        obtain ⟨j, hj, hje⟩ := List.getElem_of_mem hc
        have := HALL.out j (by rw [← HLN.out]; exact hj)
        rw [List.getElem?_eq_getElem hj, hje] at this
        exact this
      rw [gfill_all l m HLN.out] at hown
      have hlt : W.heap.size < wr.heap.size := (hown.lt W.heap.size rfl).2
      have HRC := Hid.mk (HREG.out wr W.heap.size m hlt (fun j hj => by rw [hown.cellAt j (by omega), bcl_at, List.getElem?_eq_getElem (by rw [List.length_map, HLN.out]; exact hj)]; rfl) (fun x hx => by
        obtain ⟨c, hc, rfl⟩ := List.mem_map.1 hx
        exact hall c hc))
      have HU := Hid.mk (uns_all 4 l hall)
      generalize rg 4 8 (l.map cnt) = st at HRC HU
      obtain ⟨made, rest, over⟩ := st
      dsimp only at HRC HU
      clear hown HIX HREG HALL hall HO
      go_wp2_with fail
      refine HRC.out.mono ?_
      rintro e w2 ⟨v, rfl, hown2, hb2⟩
      have hBB : Below W.heap.size W w2 := hbl.trans (hb2.mono hbl.size)
      have HO2 := Hid.mk hown2
      clear hown2
      by_cases h4 : 4 ≤ over
      · have HU2 := Hid.mk (HU.out.trans (if_pos (.inl h4)))
        clear HU
        go_wp2
        go_ret2
        exact ⟨HU2.out.symm, hBB⟩
      · by_cases hr : rest = 0
        · subst hr
          have hcv := own_back_any HO2.out rfl
          have HU2 := Hid.mk (HU.out.trans (if_neg (by omega)))
          clear HU
          have h4' : (over : Int) < 4 := by omega
          go_wp2
          go_ret2
          exact ⟨HU2.out.symm, hBB⟩
        · have HU2 := Hid.mk (HU.out.trans (if_pos (.inr hr)))
          have h4' : (over : Int) < 4 := by omega
          have hr1 : ((rest : Int) != 0) = true := by rw [bne_iff_ne]; omega
          have hr2 : ((rest : Int) == 0) = false := by rw [beq_eq_false_iff_ne]; omega
          clear HU hr
          go_wp2
          go_ret2
          exact ⟨HU2.out.symm, hBB⟩
set_option maxRecDepth 100000 in
set_option maxHeartbeats 2000000 in
theorem unspelt_5 (t : ByteArray) (ht : t.size ≤ 8388613) (W : World) :
    Calls Tryz.prog 120 #[.string t, .int .i64 5] W fun e w' => e = unsE 5 t.data.toList ∧ Below W.heap.size W w' := by
  obtain ⟨i0, hi, hz0, hz1, hz2⟩ := info_of info5
  obtain ⟨n, hn⟩ : ∃ n, t.size = n := ⟨_, rfl⟩
  have HLN : Hid (t.data.toList.length = n) := hn
  have HTZ := Hid.mk hn
  have hn2 : n ≤ 8388613 := by omega
  obtain ⟨l, hl⟩ : ∃ l, t.data.toList = l := ⟨_, rfl⟩
  have HIX : Hid (∀ m, m < n → ∀ W : World, (Instr.index 9 (.string t) (.int .i64 (m : Int))).run Tryz.prog W = .ok (.int .u8 ((l[m]?.getD 0).toNat : Int)) W) := fun m hm W => index_get t m _ (by omega) (by rw [hl]) W
  rw [hl] at HLN ⊢
  have HREG : Hid (∀ (W2 : World) (g cap : Nat), g < W2.heap.size → (∀ j, j < n → W2.cell? ⟨g, j, none⟩ = some (.int .u8 (((l.map cnt)[j]?.getD 0).toNat : Int))) → (∀ x ∈ l.map cnt, x.toNat < 2 ^ 5) → Calls Tryz.prog 59 #[.slice (some ⟨g, 0, none⟩) n cap, .int .i64 5, .int .i64 8] W2 fun e w' => ∃ v, e = .returned (.tuple #[v, .int .u16 (((rg 5 8 (l.map cnt)).2.1 : Nat) : Int), .int .i64 (((rg 5 8 (l.map cnt)).2.2 : Nat) : Int)]) ∧ w'.ownsRow W2.heap.size 5 1 v (rg 5 8 (l.map cnt)).1.length (bcl (rg 5 8 (l.map cnt)).1) ∧ Below W2.heap.size W2 w') := fun W2 g cap hg hc hs => by
    have h := regrouped_in W2 g cap (l.map cnt) 5 8 (by omega) (by omega) (by rw [List.length_map, HLN.out]; omega) (fun j hj => hc j (by rw [List.length_map, HLN.out] at hj; exact hj)) hg hs
    rwa [List.length_map, HLN.out] at h
  clear hl hn ht
  have hzs : t.size = n := HTZ.out
  go_enter Tryz.func120, Tryz.ntmps120
  go_wp2_with (at_make; refine wpList_make_full _ rfl _ _ 50 rfl W.heap.size 5 i0 (.int .u8 0) 1 Tryz.underlying50 hi hz0 hz1 _ _ _ _ n rfl rfl rfl rfl (by rw [hz2]; omega) (by unfold maxLen; omega) (Nat.le_refl _) ?_; intro w1 hown1 hgrow1)
  have B1 : Below W.heap.size W w1 := (Below.refl _ _).grown hgrow1 (Nat.le_refl _) (by simp)
  rw [made_zeros] at hown1
  have HO1 : Hid (w1.ownsRow W.heap.size 5 1 (.slice (some ⟨W.heap.size, 0, none⟩) n n) n (bcl (gfill l 0))) := by
    rw [Hid, gfill, List.take_zero, HLN.out, Nat.sub_zero]; exact hown1
  clear hown1 hgrow1
  go_loopw [16] (fun i wr => ∃ m : Nat, m ≤ n ∧ i = .int .i64 m ∧ Hid (∀ j, j < m → (cnt (l[j]?.getD 0)).toNat < 2 ^ 5) ∧ wr.ownsRow W.heap.size 5 1 (.slice (some ⟨W.heap.size, 0, none⟩) n n) n (bcl (gfill l m)) ∧ Below W.heap.size W wr) (fun i _ => n - (intOf i).toNat)
  case atStart => exact ⟨0, by omega, rfl, fun j hj => absurd hj (by omega), HO1.out, B1⟩
  case round =>
    obtain ⟨m, hm, rfl, HALL, hown, hbl⟩ := hrel
    have HO := Hid.mk hown
    by_cases hlt : m < n
    · have hml : m < l.length := by rw [HLN.out]; exact hlt
      have hix := HIX.out m hlt
      have HGS := Hid.mk (gfill_set l m hml)
      obtain ⟨y0, hc⟩ : ∃ y0 : UInt8, wr.cell? ⟨W.heap.size, m, none⟩ = some (.int .u8 (y0.toNat : Int)) := ⟨_, by rw [hown.cellAt m (by omega), bcl_at, List.getElem?_eq_getElem (by rw [gfill_len l m (by omega)]; exact hml)]; rfl⟩
      have hf := hown.frozenAt m
      have HB := Hid.mk (uns_bad 5 l m hml)
      have HNX : Hid ((cnt (l[m]?.getD 0)).toNat < 2 ^ 5 → ∀ j, j < m + 1 → (cnt (l[j]?.getD 0)).toNat < 2 ^ 5) := fun h j hj => by
        by_cases he : j = m
        · rw [he]; exact h
        · exact HALL.out j (by omega)
      have HCN := Hid.mk (counts_in (l[m]?.getD 0))
      generalize l[m]?.getD 0 = x at hix HGS HB HNX HCN
      have hy := (cnt x).toNat_lt
      clear hown hml
      by_cases hbad : (cnt x).toNat < 32
      · have HX2 := HNX.out hbad
        go_wp2_with fail
        refine (HCN.out _).mono ?_
        rintro e w2 ⟨rfl, rfl⟩
        go_wp2_with fail
        go_quiet (fail)
        go_wp2
        go_roundw
        case rel =>
          obtain ⟨h1, h2⟩ := HO.out.stored m (.int .u8 ((cnt x).toNat : Int))
          rw [bcl_set, HGS.out] at h1
          refine ⟨m + 1, by omega, by go_num, HX2, ?_, ?_⟩
          · exact h1
          · exact (hbl.grown h2 hbl.size (fun k hk => by cases hk; exact Nat.le_refl _)).trans (below_le _ _ _)
        case measure => simp [intOf]; omega
      · have HU := Hid.mk (HB.out hbad)
        go_wp2_with fail
        refine (HCN.out _).mono ?_
        rintro e w2 ⟨rfl, rfl⟩
        go_wp2_with fail
        go_quiet (fail)
        go_wp2
        go_ret2
        obtain ⟨h1, h2⟩ := HO.out.stored m (.int .u8 ((cnt x).toNat : Int))
        exact ⟨HU.out.symm, (hbl.grown h2 hbl.size (fun k hk => by cases hk; exact Nat.le_refl _)).trans (below_le _ _ _)⟩
    · obtain rfl : m = n := by omega
      have hall : ∀ c ∈ l, (cnt c).toNat < 2 ^ 5 := fun c hc => by
        obtain ⟨j, hj, hje⟩ := List.getElem_of_mem hc
        have := HALL.out j (by rw [← HLN.out]; exact hj)
        rw [List.getElem?_eq_getElem hj, hje] at this
        exact this
      rw [gfill_all l m HLN.out] at hown
      have hlt : W.heap.size < wr.heap.size := (hown.lt W.heap.size rfl).2
      have HRC := Hid.mk (HREG.out wr W.heap.size m hlt (fun j hj => by rw [hown.cellAt j (by omega), bcl_at, List.getElem?_eq_getElem (by rw [List.length_map, HLN.out]; exact hj)]; rfl) (fun x hx => by
        obtain ⟨c, hc, rfl⟩ := List.mem_map.1 hx
        exact hall c hc))
      have HU := Hid.mk (uns_all 5 l hall)
      generalize rg 5 8 (l.map cnt) = st at HRC HU
      obtain ⟨made, rest, over⟩ := st
      dsimp only at HRC HU
      clear hown HIX HREG HALL hall HO
      go_wp2_with fail
      refine HRC.out.mono ?_
      rintro e w2 ⟨v, rfl, hown2, hb2⟩
      have hBB : Below W.heap.size W w2 := hbl.trans (hb2.mono hbl.size)
      have HO2 := Hid.mk hown2
      clear hown2
      by_cases h4 : 5 ≤ over
      · have HU2 := Hid.mk (HU.out.trans (if_pos (.inl h4)))
        clear HU
        go_wp2
        go_ret2
        exact ⟨HU2.out.symm, hBB⟩
      · by_cases hr : rest = 0
        · subst hr
          have hcv := own_back_any HO2.out rfl
          have HU2 := Hid.mk (HU.out.trans (if_neg (by omega)))
          clear HU
          have h4' : (over : Int) < 5 := by omega
          go_wp2
          go_ret2
          exact ⟨HU2.out.symm, hBB⟩
        · have HU2 := Hid.mk (HU.out.trans (if_pos (.inr hr)))
          have h4' : (over : Int) < 5 := by omega
          have hr1 : ((rest : Int) != 0) = true := by rw [bne_iff_ne]; omega
          have hr2 : ((rest : Int) == 0) = false := by rw [beq_eq_false_iff_ne]; omega
          clear HU hr
          go_wp2
          go_ret2
          exact ⟨HU2.out.symm, hBB⟩
end Go.Proofs.YtaiakpigljcjbaaGreatDoor.G

/- Hex, Base32, Unhex, Unbase32; the examples. -/
namespace Go.Proofs.YtaiakpigljcjbaaGreatDoor.G
set_option linter.unusedVariables false
open Go.RowKit
theorem b32_in (s : ByteArray) (hs : s.size ≤ 1048576) (W : World) : Calls Tryz.prog 18 #[.string s] W fun e w' => e = .returned (.string ⟨(spl 5 s.data.toList).toArray⟩) ∧ Below W.heap.size W w' := by
  have H := Hid.mk (spelt_in s hs 5 (.inr rfl))
  go_enter Tryz.func18, Tryz.ntmps18
  go_wp2_with fail
  refine (H.out _).mono ?_
  rintro e w1 ⟨rfl, hb⟩
  go_wp2
  go_ret
  exact ⟨rfl, hb⟩
theorem unb32_yes (t : ByteArray) (ht : t.size ≤ 8388613) (s : List UInt8) (h : uns 5 t.data.toList = some s) (W : World) : Calls Tryz.prog 100 #[.string t] W fun e w' => e = .returned (.tuple #[.string ⟨s.toArray⟩, .int .i64 0]) ∧ Below W.heap.size W w' := by
  have H := Hid.mk (unspelt_5 t ht)
  rw [unsE, h] at H
  clear h
  go_enter Tryz.func100, Tryz.ntmps100
  go_wp2_with fail
  refine (H.out _).mono ?_
  rintro e w1 ⟨rfl, hb⟩
  go_wp2
  go_ret2
  exact ⟨rfl, hb⟩
theorem unb32_no (t : ByteArray) (ht : t.size ≤ 8388613) (h : uns 5 t.data.toList = none) (W : World) : Calls Tryz.prog 100 #[.string t] W fun e w' => e = .returned (.tuple #[.string ⟨#[]⟩, .int .i64 7]) ∧ Below W.heap.size W w' := by
  have H := Hid.mk (unspelt_5 t ht)
  rw [unsE, h] at H
  clear h
  go_enter Tryz.func100, Tryz.ntmps100
  go_wp2_with fail
  refine (H.out _).mono ?_
  rintro e w1 ⟨rfl, hb⟩
  go_wp2
  go_ret2
  exact ⟨rfl, hb⟩
theorem ex_vs : uns 5 [86, 83] = some [255] := by decide +kernel
theorem ex_vt : uns 5 [118, 116] = none := by decide +kernel
theorem ex_ff : uns 4 [102, 70] = some [255] := by decide +kernel
theorem ex_h1 : spl 4 (sha1 [97, 98, 99]) = [97, 57, 57, 57, 51, 101, 51, 54, 52, 55, 48, 54, 56, 49, 54, 97, 98, 97, 51, 101, 50, 53, 55, 49, 55, 56, 53, 48, 99, 50, 54, 99, 57, 99, 100, 48, 100, 56, 57, 100] := by rw [sha1_abc]; decide +kernel
theorem ex_b : spl 5 [255] = [118, 115] := by decide +kernel
end Go.Proofs.YtaiakpigljcjbaaGreatDoor.G

/- The chapter's examples. -/
namespace Go.Proofs.YtaiakpigljcjbaaGreatDoor
set_option linter.unusedVariables false
set_option linter.unusedSimpArgs false
open Go.RowKit
attribute [local go_sem ↓] storeAt_lk loadAt_lk
theorem st_loadV {W : World} {b : Nat} {x0 x1 x2 x3 x4 x5 : Value} (h : W.heap[b]? = some (.cells #[x0, x1, x2, x3, x4, x5] 37 (0, 0))) : (loadVar 37 ⟨b, 0, none⟩).run Tryz.prog W = .ok (.agg #[x0, x1, x2, x3, x4, x5]) W :=
  run_loadVar_row W b _ _ _ (0, 0) _ h Tryz.underlying37 rfl sizeSt
theorem results_st {fn : Func} {p : Tmp} (h : fn.results = #[.cell p 37]) {tmps : Array Value} {W : World} {b : Nat} {x0 x1 x2 x3 x4 x5 : Value} (hp : tmps.getD p undef = .pointer (some ⟨b, 0, none⟩)) (hb : W.heap[b]? = some (.cells #[x0, x1, x2, x3, x4, x5] 37 (0, 0))) : (results fn tmps).run Tryz.prog W = .ok (.agg #[x0, x1, x2, x3, x4, x5]) W := by
  have hp' : tmps[p]?.getD undef = .pointer (some ⟨b, 0, none⟩) := by simpa using hp
  simp only [results, h]
  simp [hp', asAddr, st_loadV hb]
attribute [local go_sem ↓] storeAt_st loadAt_st
set_option maxRecDepth 100000 in
set_option maxHeartbeats 2000000 in
theorem nsecV_in (a b c : ByteArray) (hz : ¬ (9223372036854775807 < b.size + c.size)) (W : World) : Calls Tryz.prog 14 #[.string a, .string b, .string c] W fun e w' => (∃ g, e = .returned (.agg #[.string a, .int .i64 47, .int .i64 1, .int .i64 0, .slice (some ⟨g, 0, none⟩) 1 1, .slice none 0 0]) ∧ w'.cell? ⟨g, 0, none⟩ = some (.string (b ++ c)) ∧ g < w'.heap.size) ∧ Below W.heap.size W w' := by
  obtain ⟨V, hV, F⟩ : ∃ V, W.alloc (Obj.cells #[.string ⟨#[]⟩, .int .i64 0, .int .i64 0, .int .i64 0, .slice none 0 0, .slice none 0 0] 37 (0, 0)) = V ∧ Fm W [(W.heap.size, Obj.cells #[.string ⟨#[]⟩, .int .i64 0, .int .i64 0, .int .i64 0, .slice none 0 0, .slice none 0 0] 37 (0, 0))] V := ⟨_, rfl, Fm.box1 W _⟩
  have F2 := F.new (Obj.cells #[.string (b ++ c)] 9 (0, 0))
  have s6 := stStore_run (x0 := .string a) (x1 := .int .i64 47) (x2 := .int .i64 1) (x3 := .int .i64 0) (x4 := .slice (some ⟨V.heap.size, 0, none⟩) 1 1) (x5 := .slice none 0 0) (F2.get 1 rfl) rfl rfl rfl rfl rfl rfl
  have F4 := F2.put 1 #[.string a, .int .i64 47, .int .i64 1, .int .i64 0, .slice (some ⟨V.heap.size, 0, none⟩) 1 1, .slice none 0 0] rfl
  go_enter Tryz.func14, Tryz.ntmps14
  go_upto_region 1 with fail
  clear hV
  go_wp2
  exact bodyPost_ret (results_st Tryz.results14 rfl (F4.get 1 rfl)) rfl ⟨⟨V.heap.size, rfl, (cells_at (F4.get 0 rfl) rfl).1, box_lt (F4.get 0 rfl)⟩, F4.bel⟩
def exX : List (List UInt8) := [[120]]
def exB' : List (List UInt8) := [[98], [120]]
def exA' : List (List UInt8) := [[97], [120]]
def exCB : List (List UInt8) := [[99], [98], [120]]
theorem okX : OkN exX := ⟨by decide, by decide⟩
theorem okB : OkN exB' := ⟨by decide, by decide⟩
theorem okA : OkN exA' := ⟨by decide, by decide⟩
theorem okCB : OkN exCB := ⟨by decide, by decide⟩
def gd1 : Gd := ⟨⟨exX, exB', [2, 6]⟩, ⟨#[1, 98, 1, 120, 0]⟩ ++ ⟨#[0, 1, 34]⟩⟩
def gd2 : Gd := ⟨⟨exB', exX, [1]⟩, ⟨#[1, 120, 0]⟩ ++ ⟨#[0, 1, 64]⟩⟩
theorem ty1 : typesR ⟨#[0, 1, 34]⟩ = some [2, 6] := by decide +kernel
theorem ty2 : typesR ⟨#[0, 1, 64]⟩ = some [1] := by decide +kernel
theorem sp1 : splitR 47 gd1.d = some [nm exB', ⟨#[0, 1, 34]⟩] := (split_iff 47 _ _).2 ⟨by decide, by decide, rfl, ⟨⟨exB', okB, rfl⟩, (show (typesR ⟨#[0, 1, 34]⟩).isSome = true by rw [ty1]; rfl), trivial⟩⟩
theorem sp2 : splitR 47 gd2.d = some [nm exX, ⟨#[0, 1, 64]⟩] := (split_iff 47 _ _).2 ⟨by decide, by decide, rfl, ⟨⟨exX, okX, rfl⟩, (show (typesR ⟨#[0, 1, 64]⟩).isSome = true by rw [ty2]; rfl), trivial⟩⟩
theorem gdOk1 : gd1.Ok := ⟨⟨okX, okB, by decide⟩, fun w => nsec_good gd1.d (nm exB') ⟨#[0, 1, 34]⟩ [2, 6] sp1 ty1 w, fun w => right_good gd1.d sp1 w⟩
theorem gdOk2 : gd2.Ok := ⟨⟨okB, okX, by decide⟩, fun w => nsec_good gd2.d (nm exX) ⟨#[0, 1, 64]⟩ [1] sp2 ty2 w, fun w => right_good gd2.d sp2 w⟩
def exKs : List Lk := [gd1, gd2].map (·.k)
theorem ex1 : nameR exKs exA' = 1 := by decide +kernel
theorem ex2 : nameR exKs exB' = 0 := by decide +kernel
theorem ex3 : nameR exKs exCB = 1 := by decide +kernel
theorem ex4 : typeR exKs exB' 16 = 1 := by decide +kernel
theorem ex5 : typeR exKs exB' 1 = 0 := by decide +kernel
theorem ex6 : nearR exKs exA' exX = 1 := by decide +kernel
def exN : List (List UInt8) := [[101, 120, 97, 109, 112, 108, 101]]
theorem okNx : OkN exN := ⟨by decide, by decide⟩
def exH : ByteArray := hashB exN ⟨#[170, 187, 204, 221]⟩ 12
theorem ex7 : G.spl 5 exH.data.toList = [48, 112, 57, 109, 104, 97, 118, 101, 113, 118, 109, 54, 116, 55, 118, 98, 108, 53, 108, 111, 112, 50, 117, 51, 116, 50, 114, 112, 51, 116, 111, 109] := by decide +kernel
theorem gd_all : ∀ g ∈ [gd1, gd2], g.Ok := fun g hg => by
  simp only [List.mem_cons, List.not_mem_nil, or_false] at hg
  rcases hg with rfl | rfl
  · exact gdOk1
  · exact gdOk2
theorem gd_und : ∀ g ∈ [gd1, gd2], undB g.k.o exX = true := fun g hg => by
  simp only [List.mem_cons, List.not_mem_nil, or_false] at hg
  rcases hg with rfl | rfl
  · decide +kernel
  · decide +kernel
set_option maxRecDepth 100000 in
set_option maxHeartbeats 2000000 in
theorem examples9_in (W : World) : Calls Tryz.prog 6 #[] W fun e w' => e = .returned (.bool true) ∧ Below W.heap.size W w' := by
  have N1 := Hid.mk (nsecV_in ⟨#[1, 120, 0]⟩ ⟨#[1, 98, 1, 120, 0]⟩ ⟨#[0, 1, 34]⟩ (by decide))
  have N2 := Hid.mk (nsecV_in ⟨#[1, 98, 1, 120, 0]⟩ ⟨#[1, 120, 0]⟩ ⟨#[0, 1, 64]⟩ (by decide))
  have HH : Hid (∀ w, Calls Tryz.prog 7 #[.string ⟨#[7, 101, 120, 97, 109, 112, 108, 101, 0]⟩, .string ⟨#[170, 187, 204, 221]⟩, .int .i64 12] w fun e w' => e = .returned (.tuple #[.string exH, .int .i64 0]) ∧ Below w.heap.size w w') := fun w => hash_ok exN okNx ⟨#[170, 187, 204, 221]⟩ (by decide) 12 (by omega) w
  have HA : Hid (∀ w v, StAt w v [gd1, gd2] → Calls Tryz.prog 15 #[v, .string ⟨#[1, 97, 1, 120, 0]⟩, .string ⟨#[1, 120, 0]⟩] w fun e w' => e = .returned (.int .i64 1) ∧ Below w.heap.size w w') := fun w v h => by
    have := name_in exX exA' okA (by decide +kernel) [gd1, gd2] okX (by decide) (by simp) gd_all gd_und v w h
    rwa [show nameR ([gd1, gd2].map (·.k)) exA' = 1 from ex1] at this
  have HBn : Hid (∀ w v, StAt w v [gd1, gd2] → Calls Tryz.prog 15 #[v, .string ⟨#[1, 98, 1, 120, 0]⟩, .string ⟨#[1, 120, 0]⟩] w fun e w' => e = .returned (.int .i64 0) ∧ Below w.heap.size w w') := fun w v h => by
    have := name_in exX exB' okB (by decide +kernel) [gd1, gd2] okX (by decide) (by simp) gd_all gd_und v w h
    rwa [show nameR ([gd1, gd2].map (·.k)) exB' = 0 from ex2] at this
  have HCn : Hid (∀ w v, StAt w v [gd1, gd2] → Calls Tryz.prog 15 #[v, .string ⟨#[1, 99, 1, 98, 1, 120, 0]⟩, .string ⟨#[1, 120, 0]⟩] w fun e w' => e = .returned (.int .i64 1) ∧ Below w.heap.size w w') := fun w v h => by
    have := name_in exX exCB okCB (by decide +kernel) [gd1, gd2] okX (by decide) (by simp) gd_all gd_und v w h
    rwa [show nameR ([gd1, gd2].map (·.k)) exCB = 1 from ex3] at this
  have HT1 : Hid (∀ w v, StAt w v [gd1, gd2] → Calls Tryz.prog 16 #[v, .string ⟨#[1, 98, 1, 120, 0]⟩, .int .i64 16, .string ⟨#[1, 120, 0]⟩] w fun e w' => e = .returned (.int .i64 1) ∧ Below w.heap.size w w') := fun w v h => by
    have := type_in exX exB' 16 (by decide) okB (by decide +kernel) [gd1, gd2] okX (by decide) (by simp) gd_all gd_und v w h
    rwa [show typeR ([gd1, gd2].map (·.k)) exB' 16 = 1 from ex4] at this
  have HT2 : Hid (∀ w v, StAt w v [gd1, gd2] → Calls Tryz.prog 16 #[v, .string ⟨#[1, 98, 1, 120, 0]⟩, .int .i64 1, .string ⟨#[1, 120, 0]⟩] w fun e w' => e = .returned (.int .i64 0) ∧ Below w.heap.size w w') := fun w v h => by
    have := type_in exX exB' 1 (by decide) okB (by decide +kernel) [gd1, gd2] okX (by decide) (by simp) gd_all gd_und v w h
    rwa [show typeR ([gd1, gd2].map (·.k)) exB' 1 = 0 from ex5] at this
  have HWi : Hid (∀ w v, StAt w v [gd1, gd2] → Calls Tryz.prog 17 #[v, .string ⟨#[1, 97, 1, 120, 0]⟩, .string ⟨#[1, 120, 0]⟩, .string ⟨#[1, 120, 0]⟩] w fun e w' => e = .returned (.int .i64 1) ∧ Below w.heap.size w w') := fun w v h => by
    have := wild_in exX exA' exX okA okX (by decide +kernel) (by decide +kernel) (by decide +kernel) [gd1, gd2] okX (by decide) (by simp) gd_all gd_und v w h
    rwa [show nearR ([gd1, gd2].map (·.k)) exA' exX = 1 from ex6] at this
  have HB32 : Hid (∀ w, Calls Tryz.prog 18 #[.string exH] w fun e w' => e = .returned (.string ⟨#[48, 112, 57, 109, 104, 97, 118, 101, 113, 118, 109, 54, 116, 55, 118, 98, 108, 53, 108, 111, 112, 50, 117, 51, 116, 50, 114, 112, 51, 116, 111, 109]⟩) ∧ Below w.heap.size w w') := fun w => by
    have := G.b32_in exH (by show (hsh _ _ 13).toArray.size ≤ 1048576; simp only [List.size_toArray]; exact Nat.le_trans (hsh_len _ _ (by decide) 13) (by decide)) w
    rwa [ex7] at this
  have HSt : Hid (∀ (w z : World) (g1 g2 : Nat), g1 < w.heap.size → g2 < w.heap.size → w.cell? ⟨g1, 0, none⟩ = some (.string (⟨#[1, 98, 1, 120, 0]⟩ ++ ⟨#[0, 1, 34]⟩)) → w.cell? ⟨g2, 0, none⟩ = some (.string (⟨#[1, 120, 0]⟩ ++ ⟨#[0, 1, 64]⟩)) → w.alloc (Obj.cells #[.string ⟨#[1, 120, 0]⟩, .int .i64 47, .int .i64 1, .int .i64 0, .slice (some ⟨g1, 0, none⟩) 1 1, .slice none 0 0, .string ⟨#[1, 98, 1, 120, 0]⟩, .int .i64 47, .int .i64 1, .int .i64 0, .slice (some ⟨g2, 0, none⟩) 1 1, .slice none 0 0] 37 (0, 0)) = z → StAt z (.slice (some ⟨w.heap.size, 0, none⟩) 2 2) [gd1, gd2]) := fun w z g1 g2 l1 l2 c1 c2 hz => by
    have hb : Below w.heap.size w z := by rw [← hz]; exact (Below.refl _ _).alloc (Nat.le_refl _) _
    have hh : z.heap[w.heap.size]? = some (Obj.cells #[.string ⟨#[1, 120, 0]⟩, .int .i64 47, .int .i64 1, .int .i64 0, .slice (some ⟨g1, 0, none⟩) 1 1, .slice none 0 0, .string ⟨#[1, 98, 1, 120, 0]⟩, .int .i64 47, .int .i64 1, .int .i64 0, .slice (some ⟨g2, 0, none⟩) 1 1, .slice none 0 0] 37 (0, 0)) := by rw [← hz]; exact heap_new _ _
    have hlt := box_lt hh
    refine ⟨_, 2, rfl, fun j hj => ?_⟩
    match j, hj with
    | 0, _ => exact ⟨w.heap.size, g1, 1, rfl, hlt, (cells_at (j := 0) hh rfl).1, (cells_at (j := 1) hh rfl).1, (cells_at (j := 2) hh rfl).1, (cells_at (j := 3) hh rfl).1, (cells_at (j := 4) hh rfl).1, (cells_at (j := 5) hh rfl).1, Nat.lt_of_lt_of_le l1 hb.size, (hb.cell (p := ⟨g1, 0, none⟩) l1).trans c1⟩
    | 1, _ => exact ⟨w.heap.size, g2, 1, rfl, hlt, (cells_at (j := 6) hh rfl).1, (cells_at (j := 7) hh rfl).1, (cells_at (j := 8) hh rfl).1, (cells_at (j := 9) hh rfl).1, (cells_at (j := 10) hh rfl).1, (cells_at (j := 11) hh rfl).1, Nat.lt_of_lt_of_le l2 hb.size, (hb.cell (p := ⟨g2, 0, none⟩) l2).trans c2⟩
  generalize exH = hx at HH HB32
  obtain ⟨da, hda⟩ : ∃ d, (⟨#[1, 98, 1, 120, 0]⟩ : ByteArray) ++ ⟨#[0, 1, 34]⟩ = d := ⟨_, rfl⟩
  obtain ⟨db, hdb⟩ : ∃ d, (⟨#[1, 120, 0]⟩ : ByteArray) ++ ⟨#[0, 1, 64]⟩ = d := ⟨_, rfl⟩
  rw [hda] at N1 HSt
  rw [hdb] at N2 HSt
  obtain ⟨L, hL⟩ : ∃ L, [gd1, gd2] = L := ⟨_, rfl⟩
  rw [hL] at HSt HA HBn HCn HT1 HT2 HWi
  clear hda hdb hL
  have F := Fm.start W
  go_enter Tryz.func6, Tryz.ntmps6
  go_wp2_with fail
  refine (N1.out _).mono ?_
  rintro e u1 ⟨⟨g1, rfl, c1, l1⟩, hb⟩
  replace F := F.blk hb
  clear hb
  go_wp2_with fail
  refine (N2.out _).mono ?_
  rintro e u2 ⟨⟨g2, rfl, c2, l2⟩, hb⟩
  replace F := F.blk hb
  replace c1 := (hb.cell (p := ⟨g1, 0, none⟩) l1).trans c1
  replace l1 := Nat.lt_of_lt_of_le l1 hb.size
  clear hb
  go_upto_region 2 with fail
  have F2 := F.alloc (Obj.cells #[.string ⟨#[1, 120, 0]⟩, .int .i64 47, .int .i64 1, .int .i64 0, .slice (some ⟨g1, 0, none⟩) 1 1, .slice none 0 0, .string ⟨#[1, 98, 1, 120, 0]⟩, .int .i64 47, .int .i64 1, .int .i64 0, .slice (some ⟨g2, 0, none⟩) 1 1, .slice none 0 0] 37 (0, 0))
  obtain ⟨z, hz⟩ : ∃ z, u2.alloc (Obj.cells #[.string ⟨#[1, 120, 0]⟩, .int .i64 47, .int .i64 1, .int .i64 0, .slice (some ⟨g1, 0, none⟩) 1 1, .slice none 0 0, .string ⟨#[1, 98, 1, 120, 0]⟩, .int .i64 47, .int .i64 1, .int .i64 0, .slice (some ⟨g2, 0, none⟩) 1 1, .slice none 0 0] 37 (0, 0)) = z := ⟨_, rfl⟩
  have st := HSt.out u2 z g1 g2 l1 l2 c1 c2 hz
  rw [hz] at F2 ⊢
  clear hz F c1 c2 l1 l2
  generalize u2.heap.size = b1 at st ⊢
  have F := F2
  clear F2
  go_wp2_with fail
  refine (HH.out _).mono ?_
  rintro e u3 ⟨rfl, hb⟩
  replace F := F.blk hb
  replace st := st.blk hb
  clear hb
  go_wp2_with fail
  refine (HA.out _ _ st).mono ?_
  rintro e u4 ⟨rfl, hb⟩
  replace F := F.blk hb
  replace st := st.blk hb
  clear hb
  go_wp2_with fail
  refine (HBn.out _ _ st).mono ?_
  rintro e u5 ⟨rfl, hb⟩
  replace F := F.blk hb
  replace st := st.blk hb
  clear hb
  go_wp2_with fail
  refine (HCn.out _ _ st).mono ?_
  rintro e u6 ⟨rfl, hb⟩
  replace F := F.blk hb
  replace st := st.blk hb
  clear hb
  go_wp2_with fail
  refine (HT1.out _ _ st).mono ?_
  rintro e u7 ⟨rfl, hb⟩
  replace F := F.blk hb
  replace st := st.blk hb
  clear hb
  go_wp2_with fail
  refine (HT2.out _ _ st).mono ?_
  rintro e u8 ⟨rfl, hb⟩
  replace F := F.blk hb
  replace st := st.blk hb
  clear hb
  go_wp2_with fail
  refine (HWi.out _ _ st).mono ?_
  rintro e u9 ⟨rfl, hb⟩
  replace F := F.blk hb
  replace st := st.blk hb
  clear hb
  go_wp2_with fail
  refine (HB32.out _).mono ?_
  rintro e u10 ⟨rfl, hb⟩
  replace F := F.blk hb
  replace st := st.blk hb
  clear hb
  go_wp2
  go_ret
  exact ⟨by first | rfl | simp, F.bel⟩
end Go.Proofs.YtaiakpigljcjbaaGreatDoor

/- DenialSides. -/
namespace Go.Proofs.YtaiakpigljcjbaaGreatDoor
set_option linter.unusedVariables false
set_option linter.unusedSimpArgs false
open Go.RowKit
attribute [local go_sem ↓] storeAt_lk loadAt_lk
theorem cmpN_ne {a b : List (List UInt8)} (h : eqB a b = false) : cmpN a b ≠ 0 := fun e => by
  have h1 := cmpR_zero e
  have h2 : lowN a = lowN b := List.reverse_inj.1 h1
  unfold eqB at h
  rw [decide_eq_true h2] at h
  simp at h
theorem cmpN_anti (a b : List (List UInt8)) : cmpN b a = - cmpN a b := cmpR_anti _ _
theorem cmpN_refl (a : List (List UInt8)) : cmpN a a = 0 := cmpR_refl _
theorem side_facts {a n b : List (List UInt8)} (h1 : eqB a b = false) (h2 : eqB a n = false) (h3 : eqB n b = false) : btwB b n a = !btwB a n b ∧ btwB a a b = false ∧ btwB a b b = false ∧ btwB a n a = true := by
  have z0 := cmpN_ne h1
  have x0 := cmpN_ne h2
  have y0 := cmpN_ne h3
  have e1 := cmpN_anti a n
  have e2 := cmpN_anti a b
  unfold btwB gapB
  rw [cmpN_refl a, cmpN_refl b, e2, e1]
  generalize cmpN a b = z at *
  generalize cmpN a n = x at *
  generalize cmpN n b = y at *
  refine ⟨?_, ?_, ?_, ?_⟩
  · by_cases hz : z < 0
    · rw [if_neg (by omega), if_pos hz]
      by_cases hx : 0 < -x <;> by_cases hy : y < 0
      · rw [decide_eq_true hx, decide_eq_true hy, decide_eq_false (by omega), decide_eq_false (by omega)]; rfl
      · rw [decide_eq_true hx, decide_eq_false hy, decide_eq_true (show 0 < y by omega), decide_eq_false (by omega)]; rfl
      · rw [decide_eq_false hx, decide_eq_true hy, decide_eq_false (by omega), decide_eq_true (show -x < 0 by omega)]; rfl
      · rw [decide_eq_false hx, decide_eq_false hy, decide_eq_true (show 0 < y by omega)]; rfl
    · rw [if_pos (by omega), if_neg hz]
      by_cases hx : 0 < -x <;> by_cases hy : y < 0
      · rw [decide_eq_true hx, decide_eq_true hy, decide_eq_false (by omega), decide_eq_false (by omega)]; rfl
      · rw [decide_eq_true hx, decide_eq_false hy, decide_eq_true (show 0 < y by omega), decide_eq_false (by omega)]; rfl
      · rw [decide_eq_false hx, decide_eq_true hy, decide_eq_false (by omega), decide_eq_true (show -x < 0 by omega)]; rfl
      · rw [decide_eq_false hx, decide_eq_false hy, decide_eq_true (show 0 < y by omega), decide_eq_true (show -x < 0 by omega)]; rfl
  · by_cases hz : z < 0
    · rw [if_pos hz]; simp
    · rw [if_neg hz, decide_eq_false hz]; simp
  · by_cases hz : z < 0
    · rw [if_pos hz]; simp
    · rw [if_neg hz, decide_eq_false (show ¬ 0 < -z by omega)]; simp
  · rw [if_neg (by omega)]
    by_cases hx : 0 < -x
    · rw [decide_eq_true hx]; rfl
    · rw [decide_eq_true (show -x < 0 by omega)]; simp
/-- nothing is asked of the variables. -/
structure ZG (W : World) : Prop where
  ok : True
theorem zg_of {W : World} {l : List (String × DataW Unit)} (h : laidMet Tryz.prog l W) (hs : W.ShapedOpen Tryz.prog) : ZG W := ⟨trivial⟩
/-- Right of any bytes. -/
theorem right_dec (x : ByteArray) (hx : x.size ≤ maxLen) : ∃ D : Bool, (D = true → IsName x) ∧ ∀ w, Calls Tryz.prog 11 #[.string x] w fun e w' => e = .returned (.bool D) ∧ Below w.heap.size w w' := by
  by_cases hn : IsName x
  · obtain ⟨ls, ho, rfl⟩ := hn
    exact ⟨true, fun _ => ⟨ls, ho, rfl⟩, right_yes ls ho⟩
  · exact ⟨false, fun h => by simp at h, fun w => right_no x hn hx w⟩
set_option maxRecDepth 100000 in
set_option maxHeartbeats 2000000 in
theorem sides_gen (a n b : ByteArray) (RA RN RB E1 E2 E3 : Bool) (W : World) (h1 : Hid (∀ w, Calls Tryz.prog 11 #[.string a] w fun e w' => e = .returned (.bool RA) ∧ Below w.heap.size w w')) (h2 : Hid (∀ w, Calls Tryz.prog 11 #[.string n] w fun e w' => e = .returned (.bool RN) ∧ Below w.heap.size w w')) (h3 : Hid (∀ w, Calls Tryz.prog 11 #[.string b] w fun e w' => e = .returned (.bool RB) ∧ Below w.heap.size w w')) (hE : RA = true → RN = true → RB = true → Hid (∀ w, Calls Tryz.prog 12 #[.string a, .string b] w fun e w' => e = .returned (.bool E1) ∧ Below w.heap.size w w') ∧ Hid (∀ w, Calls Tryz.prog 12 #[.string a, .string n] w fun e w' => e = .returned (.bool E2) ∧ Below w.heap.size w w') ∧ Hid (∀ w, Calls Tryz.prog 12 #[.string n, .string b] w fun e w' => e = .returned (.bool E3) ∧ Below w.heap.size w w')) (hB : RA = true → RN = true → RB = true → E1 = false → E2 = false → E3 = false → ∃ B, Hid (∀ w, Calls Tryz.prog 10 #[.string a, .string n, .string b] w fun e w' => e = .returned (.bool B) ∧ Below w.heap.size w w') ∧ Hid (∀ w, Calls Tryz.prog 10 #[.string b, .string n, .string a] w fun e w' => e = .returned (.bool (!B)) ∧ Below w.heap.size w w') ∧ Hid (∀ w, Calls Tryz.prog 10 #[.string a, .string a, .string b] w fun e w' => e = .returned (.bool false) ∧ Below w.heap.size w w') ∧ Hid (∀ w, Calls Tryz.prog 10 #[.string a, .string b, .string b] w fun e w' => e = .returned (.bool false) ∧ Below w.heap.size w w') ∧ Hid (∀ w, Calls Tryz.prog 10 #[.string a, .string n, .string a] w fun e w' => e = .returned (.bool true) ∧ Below w.heap.size w w')) :
    Calls Tryz.prog 4 #[.string a, .string n, .string b] W fun e w' => e = .returned (.bool true) ∧ Below W.heap.size W w' := by
  have HX := Hid.mk examples9_in
  have HE := Hid.mk hE
  have HB := Hid.mk hB
  clear hE hB
  have F := Fm.start W
  go_enter Tryz.func4, Tryz.ntmps4
  go_wp2_with fail
  refine (HX.out _).mono ?_
  rintro e u0 ⟨rfl, hb⟩
  replace F := F.blk hb
  clear hb
  go_wp2_with fail
  refine (h1.out _).mono ?_
  rintro e uRA ⟨rfl, hb⟩
  replace F := F.blk hb
  clear hb
  cases RA with
  | false =>
    go_wp2
    go_ret
    exact ⟨rfl, F.bel⟩
  | true =>
    go_wp2_with fail
    refine (h2.out _).mono ?_
    rintro e uRN ⟨rfl, hb⟩
    replace F := F.blk hb
    clear hb
    cases RN with
    | false =>
      go_wp2
      go_ret
      exact ⟨rfl, F.bel⟩
    | true =>
      go_wp2_with fail
      refine (h3.out _).mono ?_
      rintro e uRB ⟨rfl, hb⟩
      replace F := F.blk hb
      clear hb
      cases RB with
      | false =>
        go_wp2
        go_ret
        exact ⟨rfl, F.bel⟩
      | true =>
        obtain ⟨e1, e2, e3⟩ := HE.out (by first | rfl | trivial) (by first | rfl | trivial) (by first | rfl | trivial)
        have HB2 := Hid.mk (HB.out (by first | rfl | trivial) (by first | rfl | trivial) (by first | rfl | trivial))
        clear HE HB
        go_wp2_with fail
        refine (e1.out _).mono ?_
        rintro e uE1 ⟨rfl, hb⟩
        replace F := F.blk hb
        clear hb
        cases E1 with
        | true =>
          go_wp2
          go_ret
          exact ⟨rfl, F.bel⟩
        | false =>
          go_wp2_with fail
          refine (e2.out _).mono ?_
          rintro e uE2 ⟨rfl, hb⟩
          replace F := F.blk hb
          clear hb
          cases E2 with
          | true =>
            go_wp2
            go_ret
            exact ⟨rfl, F.bel⟩
          | false =>
            go_wp2_with fail
            refine (e3.out _).mono ?_
            rintro e uE3 ⟨rfl, hb⟩
            replace F := F.blk hb
            clear hb
            cases E3 with
            | true =>
              go_wp2
              go_ret
              exact ⟨rfl, F.bel⟩
            | false =>
              obtain ⟨B, b1, b2, b3, b4, b5⟩ := HB2.out (by first | rfl | trivial) (by first | rfl | trivial) (by first | rfl | trivial)
              clear HB2
              cases B with
              | false =>
                go_wp2_with fail
                refine (b1.out _).mono ?_
                rintro e v1 ⟨rfl, hb⟩
                replace F := F.blk hb
                clear hb
                go_wp2_with fail
                refine (b2.out _).mono ?_
                rintro e v2 ⟨rfl, hb⟩
                replace F := F.blk hb
                clear hb
                go_wp2_with fail
                refine (b3.out _).mono ?_
                rintro e v3 ⟨rfl, hb⟩
                replace F := F.blk hb
                clear hb
                go_wp2_with fail
                refine (b4.out _).mono ?_
                rintro e v4 ⟨rfl, hb⟩
                replace F := F.blk hb
                clear hb
                go_wp2_with fail
                refine (b5.out _).mono ?_
                rintro e v5 ⟨rfl, hb⟩
                replace F := F.blk hb
                clear hb
                go_wp2
                go_ret
                exact ⟨by first | rfl | simp, F.bel⟩
              | true =>
                go_wp2_with fail
                refine (b1.out _).mono ?_
                rintro e v1 ⟨rfl, hb⟩
                replace F := F.blk hb
                clear hb
                go_wp2_with fail
                refine (b2.out _).mono ?_
                rintro e v2 ⟨rfl, hb⟩
                replace F := F.blk hb
                clear hb
                go_wp2_with fail
                refine (b3.out _).mono ?_
                rintro e v3 ⟨rfl, hb⟩
                replace F := F.blk hb
                clear hb
                go_wp2_with fail
                refine (b4.out _).mono ?_
                rintro e v4 ⟨rfl, hb⟩
                replace F := F.blk hb
                clear hb
                go_wp2_with fail
                refine (b5.out _).mono ?_
                rintro e v5 ⟨rfl, hb⟩
                replace F := F.blk hb
                clear hb
                go_wp2
                go_ret
                exact ⟨by first | rfl | simp, F.bel⟩
theorem sides_walk (a : ByteArray) (ha : a.size ≤ 140737488355328) (n : ByteArray) (hn : n.size ≤ 140737488355328) (b : ByteArray) (hb : b.size ≤ 140737488355328) (W : World) (hG : ZG W) : Calls Tryz.prog 4 #[.string a, .string n, .string b] W fun e w' => e = .returned (.bool true) ∧ Below W.heap.size W w' := by
  have m1 : a.size ≤ maxLen := by unfold maxLen; omega
  have m2 : n.size ≤ maxLen := by unfold maxLen; omega
  have m3 : b.size ≤ maxLen := by unfold maxLen; omega
  obtain ⟨RA, hA, r1⟩ := right_dec a m1
  obtain ⟨RN, hN, r2⟩ := right_dec n m2
  obtain ⟨RB, hB, r3⟩ := right_dec b m3
  by_cases hall : RA = true ∧ RN = true ∧ RB = true
  · obtain ⟨e1, e2, e3⟩ := hall
    obtain ⟨la, oa, rfl⟩ := hA e1
    obtain ⟨ln, on, rfl⟩ := hN e2
    obtain ⟨lb, ob, rfl⟩ := hB e3
    refine sides_gen _ _ _ RA RN RB (eqB la lb) (eqB la ln) (eqB ln lb) W r1 r2 r3 (fun _ _ _ => ⟨equal_yes la lb oa ob, equal_yes la ln oa on, equal_yes ln lb on ob⟩) fun _ _ _ q1 q2 q3 => ?_
    obtain ⟨f1, f2, f3, f4⟩ := side_facts q1 q2 q3
    refine ⟨btwB la ln lb, btw_yes la ln lb oa on ob, fun w => ?_, fun w => ?_, fun w => ?_, fun w => ?_⟩
    · have := btw_yes lb ln la ob on oa w; rwa [f1] at this
    · have := btw_yes la la lb oa oa ob w; rwa [f2] at this
    · have := btw_yes la lb lb oa ob ob w; rwa [f3] at this
    · have := btw_yes la ln la oa on oa w; rwa [f4] at this
  · exact sides_gen a n b RA RN RB true true true W r1 r2 r3 (fun q1 q2 q3 => absurd ⟨q1, q2, q3⟩ hall) (fun q1 q2 q3 => absurd ⟨q1, q2, q3⟩ hall)
end Go.Proofs.YtaiakpigljcjbaaGreatDoor

/- A world for the witnesses: what the row lists lies there; no walk reads it. -/
namespace Go.Proofs.YtaiakpigljcjbaaGreatDoor
set_option linter.unusedVariables false
open Go.RowKit
def klit1 : DataW Unit → List Value
  | .lit (.int k n) => [.int k n]
  | .lit (.string s) => [.string ⟨s.toArray⟩]
  | _ => []
def kflat2 : DataW Unit → Array Value
  | .agg l => (l.flatMap fun x => match x with
    | .agg l2 => l2.flatMap klit1
    | x => klit1 x).toArray
  | _ => #[]
def kerrS : DataW Unit → ByteArray
  | .iface _ (.ptr (.agg [.lit (.string s)])) => ⟨s.toArray⟩
  | _ => ⟨#[]⟩
/-- A WORLD FOR THE WITNESS: the settled one, the variables of packages holding what their texts lay. -/
noncomputable def laidWorld (os : Os) : World :=
  let N := (World.settled Tryz.prog os).heap.size
  let w0 := World.holding Tryz.prog os ⟨#[.cells #[.string (kerrS Rows.laid_strconv_ErrSyntax)] 245, .cells #[.string (kerrS Rows.laid_strconv_ErrRange)] 245], #[], []⟩
  let put (h : Array Obj) (g : Nat) (cs : Array Value) : Array Obj := h.modify g fun
    | .cells _ t frozen => .cells cs t frozen
    | o => o
  let h0 := put w0.heap 1 (kflat2 Rows.laid_guidepost_data_typeTexts)
  let h2 := put h0 2 (kflat2 Rows.laid_internal_strconv_uint64pow10)
  let h3 := put h2 3 #[.iface 243 (.pointer (some ⟨N, 0, none⟩))]
  let h4 := put h3 4 #[.iface 243 (.pointer (some ⟨N + 1, 0, none⟩))]
  let h5 := put h4 7 (kflat2 Rows.laid_math_bits_deBruijn32tab)
  let h6 := put h5 8 (kflat2 Rows.laid_math_bits_deBruijn64tab)
  let h7 := put h6 5 (kflat2 Rows.laid_unicode_utf8_first)
  let h8 := put h7 6 (kflat2 Rows.laid_unicode_utf8_acceptRanges)
  { w0 with heap := h8 }
end Go.Proofs.YtaiakpigljcjbaaGreatDoor

/- Hash refuses. -/
namespace Go.Proofs.YtaiakpigljcjbaaGreatDoor
set_option linter.unusedVariables false
set_option linter.unusedSimpArgs false
open Go.RowKit
attribute [local go_sem ↓] storeAt_lk loadAt_lk
set_option maxRecDepth 100000 in
set_option maxHeartbeats 2000000 in
theorem hash_no (s : ByteArray) (hs : s.size ≤ maxLen) (h : ¬ IsName s) (salt : ByteArray) (r : Int) (W : World) : Calls Tryz.prog 7 #[.string s, .string salt, .int .i64 r] W fun e w' => e = .returned (.tuple #[.string ⟨#[]⟩, .int .i64 2]) ∧ Below W.heap.size W w' := by
  have HR : Hid (∀ w, Calls Tryz.prog 11 #[.string s] w fun e w' => e = .returned (.bool false) ∧ Below w.heap.size w w') := fun w => right_no s h hs w
  clear h hs
  go_enter Tryz.func7, Tryz.ntmps7
  go_wp2_with fail
  refine (HR.out _).mono ?_
  rintro e w1 ⟨rfl, b1⟩
  go_wp2
  go_ret2
  exact ⟨rfl, b1⟩
set_option maxRecDepth 100000 in
set_option maxHeartbeats 2000000 in
theorem hash_arg (ls : List (List UInt8)) (ho : OkN ls) (salt : ByteArray) (r : Int) (hr : r < 0 ∨ 65535 < r) (W : World) : Calls Tryz.prog 7 #[.string (nm ls), .string salt, .int .i64 r] W fun e w' => e = .returned (.tuple #[.string ⟨#[]⟩, .int .i64 1]) ∧ Below W.heap.size W w' := by
  have HR := Hid.mk (right_yes ls ho)
  generalize nm ls = sn at HR ⊢
  by_cases h1 : r < 0
  · have d1 : decide (r < 0) = true := decide_eq_true h1
    clear hr
    go_enter Tryz.func7, Tryz.ntmps7
    go_wp2_with fail
    refine (HR.out _).mono ?_
    rintro e w1 ⟨rfl, b1⟩
    go_wp2
    go_ret2
    exact ⟨rfl, b1⟩
  · have d1 : decide (r < 0) = false := decide_eq_false h1
    have h2 : 65535 < r := by omega
    have d2 : decide (65535 < r) = true := decide_eq_true h2
    clear hr
    go_enter Tryz.func7, Tryz.ntmps7
    go_wp2_with fail
    refine (HR.out _).mono ?_
    rintro e w1 ⟨rfl, b1⟩
    go_wp2
    go_ret2
    exact ⟨rfl, b1⟩
set_option maxRecDepth 100000 in
set_option maxHeartbeats 2000000 in
theorem hash_long (ls : List (List UInt8)) (ho : OkN ls) (salt : ByteArray) (hs : 255 < salt.size) (r : Nat) (hr : r ≤ 65535) (W : World) : Calls Tryz.prog 7 #[.string (nm ls), .string salt, .int .i64 (r : Int)] W fun e w' => e = .returned (.tuple #[.string ⟨#[]⟩, .int .i64 3]) ∧ Below W.heap.size W w' := by
  have HR := Hid.mk (right_yes ls ho)
  have d1 : decide ((r : Int) < 0) = false := decide_eq_false (by omega)
  have d2 : decide ((65535 : Int) < (r : Int)) = false := decide_eq_false (by omega)
  have d3 : decide (255 < salt.size) = true := decide_eq_true hs
  have d4 : decide ((255 : Int) < (salt.size : Int)) = true := decide_eq_true (by omega)
  have d5 : decide (65535 < r) = false := decide_eq_false (by omega)
  have e2 : ¬ 65535 < r := by omega
  generalize nm ls = sn at HR ⊢
  go_enter Tryz.func7, Tryz.ntmps7
  go_wp2_with fail
  refine (HR.out _).mono ?_
  rintro e w1 ⟨rfl, b1⟩
  go_wp2
  go_ret2
  exact ⟨rfl, b1⟩
end Go.Proofs.YtaiakpigljcjbaaGreatDoor
