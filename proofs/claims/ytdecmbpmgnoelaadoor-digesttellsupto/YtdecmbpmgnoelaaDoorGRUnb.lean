/- The document's Unbase32. -/
import Derived.Test.YtdecmbpmgnoelaaDoorGRUnbF
namespace Go.Proofs.YtdecmbpmgnoelaaDoor
set_option linter.unusedVariables false
open Go.RowKit
theorem vl5_bad (c : UInt8) (h : 32 ≤ (cnt c).toNat) : vl c 32 = 99 := if_neg (by omega)
theorem vl5_good (c : UInt8) (h : (cnt c).toNat < 32) : vl c 32 = cnt c := if_pos h
theorem row_cell {w : World} {base n : Nat} {v : Value} {l : List UInt8} (h : w.ownsRow base 5 1 v n (bcl l)) (hl : l.length = n) (k : Nat) (hk : k < n) : ∃ g cap, v = .slice (some ⟨g, 0, none⟩) n cap ∧ base ≤ g ∧ g < w.heap.size ∧ ∀ j, j < n → w.cell? ⟨g, j, none⟩ = some (.int .u8 ((l[j]?.getD 0).toNat : Int)) := by
  rcases h.2 with ⟨hv, h0⟩ | ⟨g, cap, cur, hv, hb, hc, _⟩
  · omega
  · subst hv
    refine ⟨g, cap, rfl, hb, box_lt hc, fun j hj => ?_⟩
    rw [h.cellAt j (by omega)]
    simp [bcl, List.getElem?_eq_getElem (show j < l.length by omega)]
theorem b5_row (l : List UInt8) (p j : Nat) (hj : j < p) : ((List.range p).map (b5 l))[j]?.getD 0 = b5 l j := by
  rw [List.getElem?_map, List.getElem?_range hj]
  rfl
theorem own_len {w : World} {base n : Nat} {e : TypeId} {v : Value} {xs : List Value} (h : w.ownsRow base e 1 v n xs) : ∃ q cap, v = .slice q n cap := by
  rcases h.2 with ⟨hv, h0⟩ | ⟨g, cap, cur, hv, _⟩
  · subst h0; exact ⟨none, 0, hv⟩
  · exact ⟨some ⟨g, 0, none⟩, cap, hv⟩
set_option maxRecDepth 100000 in
set_option maxHeartbeats 4000000 in
theorem runb_in (s : ByteArray) (hs : s.size ≤ 1048576) (W : World) : Calls Tryd.prog 14 #[.string s] W fun e w' => RunF s.data.toList e ∧ Below W.heap.size W w' := by
  obtain ⟨i0, hi, hz0, hz1, hz2⟩ := info_of info5
  obtain ⟨n, hn⟩ : ∃ n, s.size = n := ⟨_, rfl⟩
  obtain ⟨l, hl⟩ : ∃ l, s.data.toList = l := ⟨_, rfl⟩
  have HLN : Hid (l.length = n) := by rw [Hid, ← hl, size_list]; exact hn
  have HIX : Hid (∀ m, m < n → ∀ W : World, (Instr.index 9 (.string s) (.int .i64 (m : Int))).run Tryd.prog W = .ok (.int .u8 ((l[m]?.getD 0).toNat : Int)) W) := fun m hm W => index_get s m _ (by omega) (by rw [hl]) W
  rw [hl]
  have hn2 : n ≤ 1048576 := by omega
  clear hl hs
  go_enter Tryd.func14, Tryd.ntmps14
  go_wp2_with fail
  go_loopw [4, 5] (fun v i wr => ∃ k p : Nat, Hid (p = 5 * k) ∧ p ≤ 5 * n ∧ k ≤ n ∧ i = .int .i64 (k : Int) ∧ Hid (∀ j, j < k → (cnt (l[j]?.getD 0)).toNat < 32) ∧ wr.ownsRow W.heap.size 5 1 v p (bcl ((List.range p).map (b5 l))) ∧ Below W.heap.size W wr) (fun _ i _ => n - (intOf i).toNat)
  case atStart => exact ⟨0, 0, rfl, by omega, by omega, rfl, fun j hj => absurd hj (by omega), ⟨rfl, .inl ⟨rfl, rfl⟩⟩, Below.refl _ _⟩
  case round =>
    obtain ⟨k, p, HPK, hp5, hkn, rfl, HALL, hown, hbl⟩ := hrel
    have HO := Hid.mk hown
    have hsz := hbl.size
    clear hown
    by_cases hlt : k < n
    · have j0 := HIX.out k hlt
      have V0 := Hid.mk (value_in (l[k]?.getD 0) 32 (by omega))
      by_cases h0 : (cnt (l[k]?.getD 0)).toNat < 32
      · rw [vl5_good _ h0] at V0
        have HNX : Hid (∀ j, j < k + 1 → (cnt (l[j]?.getD 0)).toNat < 32) := fun j hj => by
          by_cases e1 : j = k
          · rw [e1]; exact h0
          · exact HALL.out j (by omega)
        have HBT : Hid (∀ m, m < 5 → (b5 l (p + m)).toNat = (cnt (l[k]?.getD 0)).toNat / 2 ^ (4 - m) % 2) := fun m hm => by
          rw [b5_nat, HPK.out, show (5 * k + m) / 5 = k by omega, show (5 * k + m) % 5 = m by omega]
        generalize l[k]?.getD 0 = ca at j0 V0 h0 HBT
        generalize cnt ca = a at V0 h0 HBT
        have na : ((a.toNat : Int) == 99) = false := by rw [beq_eq_false_iff_ne]; omega
        go_wp2_with fail
        refine (V0.out _).mono ?_
        rintro e w2 ⟨rfl, rfl⟩
        go_wp2_with fail
        go_loopw [4, 7] (fun v i wq => ∃ m q : Nat, Hid (q = p + m) ∧ m ≤ 5 ∧ q ≤ 5 * n ∧ i = .int .i64 (4 - (m : Int)) ∧ wq.ownsRow W.heap.size 5 1 v q (bcl ((List.range q).map (b5 l))) ∧ Below W.heap.size W wq) (fun _ i _ => ((intOf i) + 1).toNat)
        case atStart => exact ⟨0, p, rfl, by omega, hp5, rfl, HO.out, hbl⟩
        case round =>
          obtain ⟨m, q, HQ, hm5, hq5, rfl, hownq, hblq⟩ := hrel
          have HOQ := Hid.mk hownq
          have hszq := hblq.size
          clear hownq
          by_cases h5 : m < 5
          · have hge : (0 : Int) ≤ 4 - (m : Int) := by omega
            have t1 : ((4 : Int) - (m : Int)).toNat = 4 - m := by omega
            have hbt := HBT.out m h5
            rw [← HQ.out] at hbt
            obtain ⟨g, hg⟩ : ∃ g, a.toNat / 2 ^ (4 - m) = g := ⟨_, rfl⟩
            have hg8 : g < 256 := by rw [← hg]; exact Nat.lt_of_le_of_lt (Nat.div_le_self _ _) a.toNat_lt
            have t6 : (a.toNat : Int) / 2 ^ (4 - m) = (g : Int) := by rw [← hg, Int.natCast_ediv, Int.natCast_pow]; rfl
            rw [hg] at hbt
            obtain ⟨y, HY⟩ : ∃ y, Hid (b5 l q = y) := ⟨_, rfl⟩
            rw [HY.out] at hbt
            have t7 : (g : Int).tmod 2 = (y.toNat : Int) := by rw [Int.tmod_eq_emod_of_nonneg (by omega)]; omega
            have t8 : (g : Int) % 2 = (y.toNat : Int) := by omega
            have hq6 : q + 1 ≤ 5 * n := by have := HQ.out; have := HPK.out; omega
            clear hg hbt
            go_wp2_with (at_builtin; refine wpList_append_own _ rfl _ _ 47 rfl W.heap.size 5 i0 (.int .u8 0) 1 1 Tryd.underlying47 hi hz0 hz1 hz2 rfl (by decide) _ _ _ rfl (HOQ.out.alloc _) ⟨wr.heap.size, 0, none⟩ 1 1 [.int .u8 (y.toNat : Int)] rfl rfl (cell_one_new _ _ _) (by simp [Value.oneCell']) (by unfold maxLen; omega) (by omega) (by simp; omega) ?_; intro v1 w1 hown1 hgrow1 _)
            have B2 : Below W.heap.size W w1 := (hblq.alloc hblq.size _).grown hgrow1 (Nat.le_trans hblq.size (by simp)) (fun k hk => (HOQ.out.lt k hk).1)
            go_roundw
            case rel =>
              refine ⟨m + 1, q + 1, by rw [Hid, HQ.out]; omega, by omega, hq6, by go_num, ?_, B2⟩
              rw [List.range_succ, List.map_append, bcl_app, List.map_singleton, HY.out]
              exact hown1
            case measure => simp [intOf]; omega
          · have hge : (4 : Int) - (m : Int) < 0 := by omega
            go_wp2
            go_roundw
            case rel => exact ⟨k + 1, q, by rw [Hid, HQ.out, HPK.out]; omega, hq5, by omega, by go_num, HNX, HOQ.out, hblq⟩
            case measure => simp [intOf]; omega
      · rw [vl5_bad _ (by omega)] at V0
        have HBD : Hid (∃ j, j < l.length ∧ 32 ≤ (cnt (l[j]?.getD 0)).toNat) := ⟨k, by rw [HLN.out]; omega, by omega⟩
        generalize l[k]?.getD 0 = ca at j0 V0 h0
        go_wp2_with fail
        refine (V0.out _).mono ?_
        rintro e w2 ⟨rfl, rfl⟩
        go_wp2
        go_ret2
        exact ⟨.inl ⟨HBD.out, rfl⟩, hbl⟩
    · obtain rfl : k = n := by omega
      obtain ⟨qv, cap, rfl⟩ := own_len HO.out
      have HA2 : Hid (∀ j, j < l.length → (cnt (l[j]?.getD 0)).toNat < 32) := fun j hj => HALL.out j (by rw [← HLN.out]; exact hj)
      obtain ⟨m, hm⟩ : ∃ m, p / 8 = m := ⟨_, rfl⟩
      have HM : Hid (m = 5 * l.length / 8) := by rw [Hid, HLN.out, ← HPK.out, hm]
      have HPL : Hid (p = 5 * l.length) := by rw [Hid, HLN.out, HPK.out]
      have hm8 : 8 * m ≤ p := by omega
      have d1 : (p : Int).tdiv 8 = (m : Int) := by rw [Int.tdiv_eq_ediv_of_nonneg (by omega)]; omega
      have d2 : (p : Int) / 8 = (m : Int) := by omega
      clear hm
      by_cases hr5 : 8 * m + 5 ≤ p
      · have hr : (5 : Int) ≤ (p : Int) - 8 * (m : Int) := by omega
        have HBD : Hid (5 ≤ 5 * l.length % 8) := by rw [Hid]; have := HM.out; have := HPL.out; omega
        go_wp2
        go_ret2
        exact ⟨.inr (.inl ⟨HA2.out, .inl HBD.out, rfl⟩), hbl⟩
      · have hr : (p : Int) - 8 * (m : Int) < 5 := by omega
        have HLW : Hid (5 * l.length % 8 < 5) := by rw [Hid]; have := HM.out; have := HPL.out; omega
        go_wp2_with fail
        go_loopw [9] (fun i wq => ∃ j d : Nat, 8 * m ≤ j ∧ j ≤ p ∧ i = .int .i64 (j : Int) ∧ Hid (∀ t, 8 * m ≤ t → t < j → (b5 l t).toNat = 0) ∧ wq = wr.drewN d) (fun i _ => p - (intOf i).toNat)
        case atStart => exact ⟨8 * m, 0, by omega, by omega, by go_num, fun t h1 h2 => absurd h2 (by omega), rfl⟩
        case round =>
          obtain ⟨j, d, hj1, hj2, rfl, HZ, rfl⟩ := hrel
          by_cases hjl : j < p
          · obtain ⟨g, cap', hv, hgb, hgl, hcell⟩ := row_cell HO.out (by simp) j hjl
            obtain ⟨rfl, rfl⟩ : qv = some ⟨g, 0, none⟩ ∧ cap = cap' := by cases hv; exact ⟨rfl, rfl⟩
            have hc : (wr.drewN d).cell? ⟨g, j, none⟩ = some (.int .u8 ((b5 l j).toNat : Int)) := by
              have := hcell j hjl
              rw [b5_row l p j hjl] at this
              exact this
            have hlt2 := b5_lt l j
            have HB5 : Hid ((b5 l j).toNat = (b5 l j).toNat) := rfl
            by_cases hz : (b5 l j).toNat = 0
            · have HZ2 : Hid (∀ t, 8 * m ≤ t → t < j + 1 → (b5 l t).toNat = 0) := fun t h1 h2 => by
                by_cases e : t = j
                · rw [e]; exact hz
                · exact HZ.out t h1 (by omega)
              rw [hz] at hc
              clear hcell hv hz hlt2
              go_wp2
              go_roundw
              case rel => exact ⟨j + 1, _, by omega, by omega, by go_num, HZ2, rfl⟩
              case measure => simp [intOf]; omega
            · have HBD : Hid (∃ k, 8 * (5 * l.length / 8) ≤ k ∧ k < 5 * l.length ∧ (b5 l k).toNat ≠ 0) := ⟨j, by rw [← HM.out]; exact hj1, by rw [← HPL.out]; exact hjl, hz⟩
              have hone : (b5 l j).toNat = 1 := by omega
              rw [hone] at hc
              clear hcell hv hz hlt2 hone
              go_wp2
              go_ret2
              exact ⟨.inr (.inl ⟨HA2.out, .inr HBD.out, rfl⟩), hbl.trans (below_le _ _ _)⟩
          · obtain rfl : j = p := by omega
            have HZA : Hid (∀ t, 8 * (5 * l.length / 8) ≤ t → t < 5 * l.length → (b5 l t).toNat = 0) := fun t h1 h2 => HZ.out t (by rw [HM.out]; exact h1) (by rw [HPL.out]; exact h2)
            have hblW : Below W.heap.size W (wr.drewN d) := hbl.trans (below_le _ _ _)
            have HOd : Hid ((wr.drewN d).ownsRow W.heap.size 5 1 (.slice qv j cap) j (bcl ((List.range j).map (b5 l)))) := HO.out
            clear HO HZ HALL
            generalize wr.drewN d = V at hblW HOd ⊢
            go_wp2_with (at_make; refine wpList_make_full _ rfl _ _ 47 rfl V.heap.size 5 i0 (.int .u8 0) 1 Tryd.underlying47 hi hz0 hz1 _ _ _ _ m rfl rfl rfl rfl (by rw [hz2]; omega) (by unfold maxLen; omega) (Nat.le_refl _) ?_; intro w1 hown1 hgrow1)
            rw [made_zeros, ← o5_zero l m] at hown1
            have B1 : Below V.heap.size V w1 := (Below.refl _ _).grown hgrow1 (Nat.le_refl _) (by simp)
            have hVs := hblW.size
            have HO1 := Hid.mk hown1
            have HB1 := Hid.mk B1
            clear hown1 hgrow1
            go_wp2_with fail
            go_loopw [11] (fun i wq => ∃ t : Nat, t ≤ 8 * m ∧ i = .int .i64 (t : Int) ∧ wq.ownsRow V.heap.size 5 1 (.slice (some ⟨V.heap.size, 0, none⟩) m m) m (bcl ((List.range m).map (o5 l t))) ∧ Below V.heap.size V wq) (fun i _ => 8 * m - (intOf i).toNat)
            case atStart => exact ⟨0, by omega, rfl, HO1.out, HB1.out⟩
            case round =>
              obtain ⟨t, ht, rfl, hown2, hbl2⟩ := hrel
              have HO2 := Hid.mk hown2
              by_cases htl : t < 8 * m
              · have htp : t < j := by omega
                obtain ⟨g, cap', hv, hgb, hgl, hcell⟩ := row_cell HOd.out (by simp) t htp
                obtain ⟨rfl, rfl⟩ : qv = some ⟨g, 0, none⟩ ∧ cap = cap' := by cases hv; exact ⟨rfl, rfl⟩
                have hcb : wr.cell? ⟨g, t, none⟩ = some (.int .u8 ((b5 l t).toNat : Int)) := by
                  have := hcell t htp
                  rw [b5_row l j t htp] at this
                  exact (hbl2.cell (p := ⟨g, t, none⟩) hgl).trans this
                obtain ⟨t8, ht8⟩ : ∃ t8, t / 8 = t8 := ⟨_, rfl⟩
                have ht8m : t8 < m := by omega
                have hco : wr.cell? ⟨V.heap.size, t8, none⟩ = some (.int .u8 ((o5 l t t8).toNat : Int)) := by
                  rw [hown2.cellAt t8 (by omega), ← ht8]
                  have := o5_at l m t htl
                  simp [bcl, List.getElem?_range (show t / 8 < m by omega)]
                have hfz := hown2.frozenAt t8
                have d3 : (t : Int).tdiv 8 = (t8 : Int) := by rw [Int.tdiv_eq_ediv_of_nonneg (by omega)]; omega
                have d4 : (t : Int) / 8 = (t8 : Int) := by omega
                have HNX := Hid.mk (o5_next l m t htl)
                have hsm := o5_small l t
                rw [ht8] at hsm
                rw [ht8] at HNX
                generalize b5 l t = x at hcb HNX hsm
                generalize o5 l t t8 = z at hco HNX hsm
                obtain ⟨y, HY⟩ : ∃ y, Hid (UInt8.ofNat (2 * z.toNat + x.toNat) = y) := ⟨_, rfl⟩
                have hy : 2 * (z.toNat : Int) + (x.toNat : Int) = (y.toNat : Int) := by rw [← HY.out, UInt8.toNat_ofNat']; omega
                have hy8 := y.toNat_lt
                have hz8 : 2 * z.toNat < 256 := by omega
                clear hcell hv hown2 ht8 hsm
                go_wp2_with fail
                go_region
                go_wp2
                go_roundw
                case rel =>
                  obtain ⟨h1, h2⟩ := HO2.out.stored t8 (.int .u8 (y.toNat : Int))
                  rw [bcl_set, show ((List.range m).map (o5 l t)).set t8 y = (List.range m).map (o5 l (t + 1)) by rw [← HY.out]; exact HNX.out] at h1
                  refine ⟨t + 1, by omega, by go_num, ?_, ?_⟩
                  · exact h1
                  · exact (hbl2.grown h2 hbl2.size (fun k hk => by cases hk; exact Nat.le_refl _)).trans (below_le _ _ 1)
                case measure => simp [intOf]; omega
              · obtain rfl : t = 8 * m := by omega
                have hcv := own_back HO2.out (by simp)
                have hblZ : Below W.heap.size W wr := hblW.trans (hbl2.mono hVs)
                clear hown2
                go_wp2
                go_ret2
                refine ⟨.inr (.inr ⟨HA2.out, HLW.out, HZA.out, ?_⟩), hblZ⟩
                rw [← HM.out]
                rfl
end Go.Proofs.YtdecmbpmgnoelaaDoor
