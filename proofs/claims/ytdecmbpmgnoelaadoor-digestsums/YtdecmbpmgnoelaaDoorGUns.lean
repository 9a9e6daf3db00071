/- unspelt. -/
import Derived.Test.YtdecmbpmgnoelaaDoorGSpelt
namespace Go.Proofs.YtdecmbpmgnoelaaDoor
set_option linter.unusedVariables false
open Go.RowKit

/-- groups counted so far, and noughts. -/
def gfill (t : List UInt8) (m : Nat) : List UInt8 := (t.take m).map cnt ++ List.replicate (t.length - m) 0
theorem gfill_len (t : List UInt8) (m : Nat) (h : m ≤ t.length) : (gfill t m).length = t.length := by
  rw [gfill, List.length_append, List.length_map, List.length_take, List.length_replicate]; omega
theorem gfill_set (t : List UInt8) (m : Nat) (h : m < t.length) : (gfill t m).set m (cnt (t[m]?.getD 0)) = gfill t (m + 1) := by
  unfold gfill
  rw [List.set_append_right _ _ (by rw [List.length_map, List.length_take]; omega), List.length_map, List.length_take, Nat.min_eq_left (by omega), Nat.sub_self, List.take_add_one, List.map_append, List.append_assoc, List.getElem?_eq_getElem h, show t.length - m = (t.length - (m + 1)) + 1 by omega, List.replicate_succ]
  rfl
theorem gfill_all (t : List UInt8) (m : Nat) (h : t.length = m) : gfill t m = t.map cnt := by
  rw [gfill, List.take_of_length_le (by omega), h, Nat.sub_self]
  exact List.append_nil _
theorem gfill_at (t : List UInt8) (m j : Nat) (h : j < m) (hm : m ≤ t.length) : (gfill t m)[j]? = some (cnt (t[j]?.getD 0)) := by
  rw [gfill, List.getElem?_append_left (by rw [List.length_map, List.length_take]; omega), List.getElem?_map, List.getElem?_take_of_lt h, List.getElem?_eq_getElem (by omega)]
  rfl

theorem below_le (w : World) (B n : Nat) : Below B w (w.drewN n) := ⟨rfl, rfl, rfl, Nat.le_refl _, fun _ _ => rfl⟩
/-- what unspelt answers. -/
def unsE (w : Nat) (t : List UInt8) : Ending := match uns w t with
  | some s => .returned (.tuple #[.string ⟨s.toArray⟩, .int .i64 0])
  | none => .returned (.tuple #[.string ⟨#[]⟩, .int .i64 7])
theorem uns_bad (w : Nat) (l : List UInt8) (m : Nat) (hm : m < l.length) (h : ¬ (cnt (l[m]?.getD 0)).toNat < 2 ^ w) : unsE w l = .returned (.tuple #[.string ⟨#[]⟩, .int .i64 7]) := by
  have : uns w l = none := by
    unfold uns
    rw [if_neg]
    intro hall
    refine h (hall _ ?_)
    rw [List.getElem?_eq_getElem hm]
    exact List.getElem_mem _
  rw [unsE, this]
theorem uns_all (w : Nat) (l : List UInt8) (h : ∀ c ∈ l, (cnt c).toNat < 2 ^ w) : unsE w l = if w ≤ (rg w 8 (l.map cnt)).2.2 ∨ (rg w 8 (l.map cnt)).2.1 ≠ 0 then .returned (.tuple #[.string ⟨#[]⟩, .int .i64 7]) else .returned (.tuple #[.string ⟨(rg w 8 (l.map cnt)).1.toArray⟩, .int .i64 0]) := by
  by_cases hc : w ≤ (rg w 8 (l.map cnt)).2.2 ∨ (rg w 8 (l.map cnt)).2.1 ≠ 0
  · have : uns w l = none := by rw [uns, if_pos h, if_pos hc]
    rw [unsE, this, if_pos hc]
  · have : uns w l = some (rg w 8 (l.map cnt)).1 := by rw [uns, if_pos h, if_neg hc]
    rw [unsE, this, if_neg hc]
theorem conv_nil (W : World) : (convert 47 9 (.slice none 0 0)).run Tryd.prog W = .ok (.string ⟨#[]⟩) W := by kernel_rfl
theorem own_back_any {w : World} {base n : Nat} {v : Value} {l : List UInt8} (h : w.ownsRow base 5 1 v n (bcl l)) (hl : l.length = n) : (convert 47 9 v).run Tryd.prog w = .ok (.string ⟨l.toArray⟩) w := by
  rcases h.2 with ⟨hv, h0⟩ | ⟨g, cap, cur, hv, _⟩
  · subst hv
    have : l = [] := List.eq_nil_of_length_eq_zero (by omega)
    rw [this]
    exact conv_nil w
  · subst hv
    exact own_back h hl
theorem made_zeros (n : Nat) : (madeCells (Value.int .u8 0).cells (n * 1)).toList = bcl (List.replicate n 0) := by
  apply List.ext_getElem?
  intro k
  simp [madeCells, bcl, Value.cells, List.getElem?_replicate]
  by_cases hk : k < n
  · rw [if_pos hk, List.getElem?_range hk]
    simp [Nat.mod_one]
  · rw [if_neg hk, List.getElem?_eq_none (by simpa using hk)]
    rfl
set_option maxRecDepth 100000 in
set_option maxHeartbeats 2000000 in
theorem unspelt_4 (t : ByteArray) (ht : t.size ≤ 8388613) (W : World) :
    Calls Tryd.prog 30 #[.string t, .int .i64 4] W fun e w' => e = unsE 4 t.data.toList ∧ Below W.heap.size W w' := by
  obtain ⟨i0, hi, hz0, hz1, hz2⟩ := info_of info5
  obtain ⟨n, hn⟩ : ∃ n, t.size = n := ⟨_, rfl⟩
  have HLN : Hid (t.data.toList.length = n) := hn
  have HTZ := Hid.mk hn
  have hn2 : n ≤ 8388613 := by omega
  obtain ⟨l, hl⟩ : ∃ l, t.data.toList = l := ⟨_, rfl⟩
  have HIX : Hid (∀ m, m < n → ∀ W : World, (Instr.index 9 (.string t) (.int .i64 (m : Int))).run Tryd.prog W = .ok (.int .u8 ((l[m]?.getD 0).toNat : Int)) W) := fun m hm W => index_get t m _ (by omega) (by rw [hl]) W
  rw [hl] at HLN ⊢
  have HREG : Hid (∀ (W2 : World) (g cap : Nat), g < W2.heap.size → (∀ j, j < n → W2.cell? ⟨g, j, none⟩ = some (.int .u8 (((l.map cnt)[j]?.getD 0).toNat : Int))) → (∀ x ∈ l.map cnt, x.toNat < 2 ^ 4) → Calls Tryd.prog 42 #[.slice (some ⟨g, 0, none⟩) n cap, .int .i64 4, .int .i64 8] W2 fun e w' => ∃ v, e = .returned (.tuple #[v, .int .u16 (((rg 4 8 (l.map cnt)).2.1 : Nat) : Int), .int .i64 (((rg 4 8 (l.map cnt)).2.2 : Nat) : Int)]) ∧ w'.ownsRow W2.heap.size 5 1 v (rg 4 8 (l.map cnt)).1.length (bcl (rg 4 8 (l.map cnt)).1) ∧ Below W2.heap.size W2 w') := fun W2 g cap hg hc hs => by
    have h := regrouped_in W2 g cap (l.map cnt) 4 8 (by omega) (by omega) (by rw [List.length_map, HLN.out]; omega) (fun j hj => hc j (by rw [List.length_map, HLN.out] at hj; exact hj)) hg hs
    rwa [List.length_map, HLN.out] at h
  clear hl hn ht
  have hzs : t.size = n := HTZ.out
  go_enter Tryd.func30, Tryd.ntmps30
  go_wp2_with (at_make; refine wpList_make_full _ rfl _ _ 47 rfl W.heap.size 5 i0 (.int .u8 0) 1 Tryd.underlying47 hi hz0 hz1 _ _ _ _ n rfl rfl rfl rfl (by rw [hz2]; omega) (by unfold maxLen; omega) (Nat.le_refl _) ?_; intro w1 hown1 hgrow1)
  have B1 : Below W.heap.size W w1 := (Below.refl _ _).grown hgrow1 (Nat.le_refl _) (by simp)
  rw [made_zeros] at hown1
  have HO1 : Hid (w1.ownsRow W.heap.size 5 1 (.slice (some ⟨W.heap.size, 0, none⟩) n n) n (bcl (gfill l 0))) := by
    rw [Hid, gfill, List.take_zero, HLN.out, Nat.sub_zero]; exact hown1
  clear hown1 hgrow1
  go_loopw [16] (fun i wr => ∃ m : Nat, m ≤ n ∧ i = .int .i64 m ∧ Hid (∀ j, j < m → (cnt (l[j]?.getD 0)).toNat < 2 ^ 4) ∧ wr.ownsRow W.heap.size 5 1 (.slice (some ⟨W.heap.size, 0, none⟩) n n) n (bcl (gfill l m)) ∧ Below W.heap.size W wr) (fun i _ => n - (intOf i).toNat)
  case atStart => exact ⟨0, by omega, rfl, fun j hj => absurd hj (by omega), HO1.out, B1⟩
  case round =>
    obtain ⟨m, hm, rfl, HALL, hown, hbl⟩ := hrel
    have HO := Hid.mk hown
    by_cases hlt : m < n
    · have hml : m < l.length := by rw [HLN.out]; exact hlt
      have hix := HIX.out m hlt
      have HGS := Hid.mk (gfill_set l m hml)
      obtain ⟨y0, hc⟩ : ∃ y0 : UInt8, wr.cell? ⟨W.heap.size, m, none⟩ = some (.int .u8 (y0.toNat : Int)) := ⟨_, by rw [hown.cellAt m (by omega), bcl_at, List.getElem?_eq_getElem (by rw [gfill_len l m (by omega)]; exact hml)]; rfl⟩
      have hf := hown.frozenAt m
      have HB := Hid.mk (uns_bad 4 l m hml)
      have HNX : Hid ((cnt (l[m]?.getD 0)).toNat < 2 ^ 4 → ∀ j, j < m + 1 → (cnt (l[j]?.getD 0)).toNat < 2 ^ 4) := fun h j hj => by
        by_cases he : j = m
        · rw [he]; exact h
        · exact HALL.out j (by omega)
      have HCN := Hid.mk (counts_in (l[m]?.getD 0))
      generalize l[m]?.getD 0 = x at hix HGS HB HNX HCN
      have hy := (cnt x).toNat_lt
      clear hown hml
      by_cases hbad : (cnt x).toNat < 16
      · have HX2 := HNX.out hbad
        go_wp2_with fail
        refine (HCN.out _).mono ?_
        rintro e w2 ⟨rfl, rfl⟩
        go_wp2_with fail
        go_quiet (fail)
        go_wp2
        go_roundw
        case rel =>
          obtain ⟨h1, h2⟩ := HO.out.stored m (.int .u8 ((cnt x).toNat : Int))
          rw [bcl_set, HGS.out] at h1
          refine ⟨m + 1, by omega, by go_num, HX2, ?_, ?_⟩
          · exact h1
          · exact (hbl.grown h2 hbl.size (fun k hk => by cases hk; exact Nat.le_refl _)).trans (below_le _ _ _)
        case measure => simp [intOf]; omega
      · have HU := Hid.mk (HB.out hbad)
        go_wp2_with fail
        refine (HCN.out _).mono ?_
        rintro e w2 ⟨rfl, rfl⟩
        go_wp2_with fail
        go_quiet (fail)
        go_wp2
        go_ret2
        obtain ⟨h1, h2⟩ := HO.out.stored m (.int .u8 ((cnt x).toNat : Int))
        exact ⟨HU.out.symm, (hbl.grown h2 hbl.size (fun k hk => by cases hk; exact Nat.le_refl _)).trans (below_le _ _ _)⟩
    · obtain rfl : m = n := by omega
      have hall : ∀ c ∈ l, (cnt c).toNat < 2 ^ 4 := fun c hc => by
        obtain ⟨j, hj, hje⟩ := List.getElem_of_mem hc
        have := HALL.out j (by rw [← HLN.out]; exact hj)
        rw [List.getElem?_eq_getElem hj, hje] at this
        exact this
      rw [gfill_all l m HLN.out] at hown
      have hlt : W.heap.size < wr.heap.size := (hown.lt W.heap.size rfl).2
      have HRC := Hid.mk (HREG.out wr W.heap.size m hlt (fun j hj => by rw [hown.cellAt j (by omega), bcl_at, List.getElem?_eq_getElem (by rw [List.length_map, HLN.out]; exact hj)]; rfl) (fun x hx => by
        obtain ⟨c, hc, rfl⟩ := List.mem_map.1 hx
        exact hall c hc))
      have HU := Hid.mk (uns_all 4 l hall)
      generalize rg 4 8 (l.map cnt) = st at HRC HU
      obtain ⟨made, rest, over⟩ := st
      dsimp only at HRC HU
      clear hown HIX HREG HALL hall HO
      go_wp2_with fail
      refine HRC.out.mono ?_
      rintro e w2 ⟨v, rfl, hown2, hb2⟩
      have hBB : Below W.heap.size W w2 := hbl.trans (hb2.mono hbl.size)
      have HO2 := Hid.mk hown2
      clear hown2
      by_cases h4 : 4 ≤ over
      · have HU2 := Hid.mk (HU.out.trans (if_pos (.inl h4)))
        clear HU
        go_wp2
        go_ret2
        exact ⟨HU2.out.symm, hBB⟩
      · by_cases hr : rest = 0
        · subst hr
          have hcv := own_back_any HO2.out rfl
          have HU2 := Hid.mk (HU.out.trans (if_neg (by omega)))
          clear HU
          have h4' : (over : Int) < 4 := by omega
          go_wp2
          go_ret2
          exact ⟨HU2.out.symm, hBB⟩
        · have HU2 := Hid.mk (HU.out.trans (if_pos (.inr hr)))
          have h4' : (over : Int) < 4 := by omega
          have hr1 : ((rest : Int) != 0) = true := by rw [bne_iff_ne]; omega
          have hr2 : ((rest : Int) == 0) = false := by rw [beq_eq_false_iff_ne]; omega
          clear HU hr
          go_wp2
          go_ret2
          exact ⟨HU2.out.symm, hBB⟩
set_option maxRecDepth 100000 in
set_option maxHeartbeats 2000000 in
theorem unspelt_5 (t : ByteArray) (ht : t.size ≤ 8388613) (W : World) :
    Calls Tryd.prog 30 #[.string t, .int .i64 5] W fun e w' => e = unsE 5 t.data.toList ∧ Below W.heap.size W w' := by
  obtain ⟨i0, hi, hz0, hz1, hz2⟩ := info_of info5
  obtain ⟨n, hn⟩ : ∃ n, t.size = n := ⟨_, rfl⟩
  have HLN : Hid (t.data.toList.length = n) := hn
  have HTZ := Hid.mk hn
  have hn2 : n ≤ 8388613 := by omega
  obtain ⟨l, hl⟩ : ∃ l, t.data.toList = l := ⟨_, rfl⟩
  have HIX : Hid (∀ m, m < n → ∀ W : World, (Instr.index 9 (.string t) (.int .i64 (m : Int))).run Tryd.prog W = .ok (.int .u8 ((l[m]?.getD 0).toNat : Int)) W) := fun m hm W => index_get t m _ (by omega) (by rw [hl]) W
  rw [hl] at HLN ⊢
  have HREG : Hid (∀ (W2 : World) (g cap : Nat), g < W2.heap.size → (∀ j, j < n → W2.cell? ⟨g, j, none⟩ = some (.int .u8 (((l.map cnt)[j]?.getD 0).toNat : Int))) → (∀ x ∈ l.map cnt, x.toNat < 2 ^ 5) → Calls Tryd.prog 42 #[.slice (some ⟨g, 0, none⟩) n cap, .int .i64 5, .int .i64 8] W2 fun e w' => ∃ v, e = .returned (.tuple #[v, .int .u16 (((rg 5 8 (l.map cnt)).2.1 : Nat) : Int), .int .i64 (((rg 5 8 (l.map cnt)).2.2 : Nat) : Int)]) ∧ w'.ownsRow W2.heap.size 5 1 v (rg 5 8 (l.map cnt)).1.length (bcl (rg 5 8 (l.map cnt)).1) ∧ Below W2.heap.size W2 w') := fun W2 g cap hg hc hs => by
    have h := regrouped_in W2 g cap (l.map cnt) 5 8 (by omega) (by omega) (by rw [List.length_map, HLN.out]; omega) (fun j hj => hc j (by rw [List.length_map, HLN.out] at hj; exact hj)) hg hs
    rwa [List.length_map, HLN.out] at h
  clear hl hn ht
  have hzs : t.size = n := HTZ.out
  go_enter Tryd.func30, Tryd.ntmps30
  go_wp2_with (at_make; refine wpList_make_full _ rfl _ _ 47 rfl W.heap.size 5 i0 (.int .u8 0) 1 Tryd.underlying47 hi hz0 hz1 _ _ _ _ n rfl rfl rfl rfl (by rw [hz2]; omega) (by unfold maxLen; omega) (Nat.le_refl _) ?_; intro w1 hown1 hgrow1)
  have B1 : Below W.heap.size W w1 := (Below.refl _ _).grown hgrow1 (Nat.le_refl _) (by simp)
  rw [made_zeros] at hown1
  have HO1 : Hid (w1.ownsRow W.heap.size 5 1 (.slice (some ⟨W.heap.size, 0, none⟩) n n) n (bcl (gfill l 0))) := by
    rw [Hid, gfill, List.take_zero, HLN.out, Nat.sub_zero]; exact hown1
  clear hown1 hgrow1
  go_loopw [16] (fun i wr => ∃ m : Nat, m ≤ n ∧ i = .int .i64 m ∧ Hid (∀ j, j < m → (cnt (l[j]?.getD 0)).toNat < 2 ^ 5) ∧ wr.ownsRow W.heap.size 5 1 (.slice (some ⟨W.heap.size, 0, none⟩) n n) n (bcl (gfill l m)) ∧ Below W.heap.size W wr) (fun i _ => n - (intOf i).toNat)
  case atStart => exact ⟨0, by omega, rfl, fun j hj => absurd hj (by omega), HO1.out, B1⟩
  case round =>
    obtain ⟨m, hm, rfl, HALL, hown, hbl⟩ := hrel
    have HO := Hid.mk hown
    by_cases hlt : m < n
    · have hml : m < l.length := by rw [HLN.out]; exact hlt
      have hix := HIX.out m hlt
      have HGS := Hid.mk (gfill_set l m hml)
      obtain ⟨y0, hc⟩ : ∃ y0 : UInt8, wr.cell? ⟨W.heap.size, m, none⟩ = some (.int .u8 (y0.toNat : Int)) := ⟨_, by rw [hown.cellAt m (by omega), bcl_at, List.getElem?_eq_getElem (by rw [gfill_len l m (by omega)]; exact hml)]; rfl⟩
      have hf := hown.frozenAt m
      have HB := Hid.mk (uns_bad 5 l m hml)
      have HNX : Hid ((cnt (l[m]?.getD 0)).toNat < 2 ^ 5 → ∀ j, j < m + 1 → (cnt (l[j]?.getD 0)).toNat < 2 ^ 5) := fun h j hj => by
        by_cases he : j = m
        · rw [he]; exact h
        · exact HALL.out j (by omega)
      have HCN := Hid.mk (counts_in (l[m]?.getD 0))
      generalize l[m]?.getD 0 = x at hix HGS HB HNX HCN
      have hy := (cnt x).toNat_lt
      clear hown hml
      by_cases hbad : (cnt x).toNat < 32
      · have HX2 := HNX.out hbad
        go_wp2_with fail
        refine (HCN.out _).mono ?_
        rintro e w2 ⟨rfl, rfl⟩
        go_wp2_with fail
        go_quiet (fail)
        go_wp2
        go_roundw
        case rel =>
          obtain ⟨h1, h2⟩ := HO.out.stored m (.int .u8 ((cnt x).toNat : Int))
          rw [bcl_set, HGS.out] at h1
          refine ⟨m + 1, by omega, by go_num, HX2, ?_, ?_⟩
          · exact h1
          · exact (hbl.grown h2 hbl.size (fun k hk => by cases hk; exact Nat.le_refl _)).trans (below_le _ _ _)
        case measure => simp [intOf]; omega
      · have HU := Hid.mk (HB.out hbad)
        go_wp2_with fail
        refine (HCN.out _).mono ?_
        rintro e w2 ⟨rfl, rfl⟩
        go_wp2_with fail
        go_quiet (fail)
        go_wp2
        go_ret2
        obtain ⟨h1, h2⟩ := HO.out.stored m (.int .u8 ((cnt x).toNat : Int))
        exact ⟨HU.out.symm, (hbl.grown h2 hbl.size (fun k hk => by cases hk; exact Nat.le_refl _)).trans (below_le _ _ _)⟩
    · obtain rfl : m = n := by omega
      have hall : ∀ c ∈ l, (cnt c).toNat < 2 ^ 5 := fun c hc => by
        obtain ⟨j, hj, hje⟩ := List.getElem_of_mem hc
        have := HALL.out j (by rw [← HLN.out]; exact hj)
        rw [List.getElem?_eq_getElem hj, hje] at this
        exact this
      rw [gfill_all l m HLN.out] at hown
      have hlt : W.heap.size < wr.heap.size := (hown.lt W.heap.size rfl).2
      have HRC := Hid.mk (HREG.out wr W.heap.size m hlt (fun j hj => by rw [hown.cellAt j (by omega), bcl_at, List.getElem?_eq_getElem (by rw [List.length_map, HLN.out]; exact hj)]; rfl) (fun x hx => by
        obtain ⟨c, hc, rfl⟩ := List.mem_map.1 hx
        exact hall c hc))
      have HU := Hid.mk (uns_all 5 l hall)
      generalize rg 5 8 (l.map cnt) = st at HRC HU
      obtain ⟨made, rest, over⟩ := st
      dsimp only at HRC HU
      clear hown HIX HREG HALL hall HO
      go_wp2_with fail
      refine HRC.out.mono ?_
      rintro e w2 ⟨v, rfl, hown2, hb2⟩
      have hBB : Below W.heap.size W w2 := hbl.trans (hb2.mono hbl.size)
      have HO2 := Hid.mk hown2
      clear hown2
      by_cases h4 : 5 ≤ over
      · have HU2 := Hid.mk (HU.out.trans (if_pos (.inl h4)))
        clear HU
        go_wp2
        go_ret2
        exact ⟨HU2.out.symm, hBB⟩
      · by_cases hr : rest = 0
        · subst hr
          have hcv := own_back_any HO2.out rfl
          have HU2 := Hid.mk (HU.out.trans (if_neg (by omega)))
          clear HU
          have h4' : (over : Int) < 5 := by omega
          go_wp2
          go_ret2
          exact ⟨HU2.out.symm, hBB⟩
        · have HU2 := Hid.mk (HU.out.trans (if_pos (.inr hr)))
          have h4' : (over : Int) < 5 := by omega
          have hr1 : ((rest : Int) != 0) = true := by rw [bne_iff_ne]; omega
          have hr2 : ((rest : Int) == 0) = false := by rw [beq_eq_false_iff_ne]; omega
          clear HU hr
          go_wp2
          go_ret2
          exact ⟨HU2.out.symm, hBB⟩
end Go.Proofs.YtdecmbpmgnoelaaDoor
