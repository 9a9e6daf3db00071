/- Cmp, Small. -/
import Derived.Test.YthjhemodmdficaaDoorNBits
namespace Go.Proofs.YthjhemodmdficaaDoor
set_option linter.unusedVariables false
open Go.RowKit
theorem compare32_in (x y : Nat) (hx : x < 4294967296) (hy : y < 4294967296) (W : World) : Calls Tryd.prog 43 #[.int .u32 (x : Int), .int .u32 (y : Int)] W fun e w' => e = .returned (.int .i64 (Lib.compareInt (x : Int) (y : Int))) ∧ w' = W := by
  have HN : Hid (∀ (z : Int) (w : World), Calls Tryd.prog 65 #[.int .u32 z] w fun e w' => e = .returned (.bool false) ∧ w' = w) := fun z w => by
    go_enter Tryd.func65, Tryd.ntmps65
    go_wp2
    go_ret
    exact ⟨rfl, rfl⟩
  unfold Lib.compareInt
  rcases Nat.lt_trichotomy x y with h | h | h
  · have hi : (x : Int) < (y : Int) := by omega
    rw [if_pos hi]
    go_enter Tryd.func43, Tryd.ntmps43
    go_wp2_with fail
    refine (HN.out _ _).mono ?_
    rintro e w1 ⟨rfl, rfl⟩
    go_wp2_with fail
    refine (HN.out _ _).mono ?_
    rintro e w2 ⟨rfl, rfl⟩
    go_wp2
    go_ret
    exact ⟨rfl, rfl⟩
  · subst h
    rw [if_neg (by omega), if_neg (by omega)]
    go_enter Tryd.func43, Tryd.ntmps43
    go_wp2_with fail
    refine (HN.out _ _).mono ?_
    rintro e w1 ⟨rfl, rfl⟩
    go_wp2_with fail
    refine (HN.out _ _).mono ?_
    rintro e w2 ⟨rfl, rfl⟩
    go_wp2
    go_ret
    exact ⟨rfl, rfl⟩
  · have hi : (y : Int) < (x : Int) := by omega
    rw [if_neg (by omega), if_pos (by omega)]
    go_enter Tryd.func43, Tryd.ntmps43
    go_wp2_with fail
    refine (HN.out _ _).mono ?_
    rintro e w1 ⟨rfl, rfl⟩
    go_wp2_with fail
    refine (HN.out _ _).mono ?_
    rintro e w2 ⟨rfl, rfl⟩
    go_wp2
    go_ret
    exact ⟨rfl, rfl⟩
theorem mny_mono (N M : Nat) (h : N ≤ M) : mny N ≤ mny M := by
  by_cases h0 : N = 0
  · rw [h0, mny_zero]; omega
  · obtain ⟨h1, h2⟩ := mny_ge N h0
    have h3 := mny_lt M
    apply Classical.byContradiction
    intro hn
    have h4 : 4294967296 ^ mny M ≤ 4294967296 ^ (mny N - 1) := Nat.pow_le_pow_right (by omega) (by omega)
    omega
theorem val_cut (a : List (BitVec 32)) (k : Nat) (h : k < a.length) : val a = val (a.take k) + 4294967296 ^ k * ((a[k]?.getD 0).toNat + 4294967296 * val (a.drop (k + 1))) := by
  have h1 := val_split a k
  rw [List.length_take, Nat.min_eq_left (by omega), List.drop_eq_getElem_cons h, val] at h1
  rw [h1, List.getElem?_eq_getElem h]
  rfl
theorem val_less (a b : List (BitVec 32)) (k : Nat) (hl : a.length = b.length) (h : k < a.length) (hs : ∀ j, k < j → j < a.length → a[j]?.getD 0 = b[j]?.getD 0) (hlt : (a[k]?.getD 0).toNat < (b[k]?.getD 0).toNat) : val a < val b := by
  have hd : a.drop (k + 1) = b.drop (k + 1) := by
    apply List.ext_getElem
    · rw [List.length_drop, List.length_drop, hl]
    · intro j h1 h2
      rw [List.length_drop] at h1
      have := hs (k + 1 + j) (by omega) (by omega)
      rw [List.getElem?_eq_getElem (by omega), List.getElem?_eq_getElem (by omega)] at this
      rw [List.getElem_drop, List.getElem_drop]
      exact this
  rw [val_cut a k h, val_cut b k (by omega), hd]
  have h1 := val_lt (a.take k)
  rw [List.length_take, Nat.min_eq_left (by omega)] at h1
  generalize val (b.drop (k + 1)) = D
  generalize (a[k]?.getD 0).toNat = x at hlt ⊢
  generalize (b[k]?.getD 0).toNat = y at hlt ⊢
  have h2 : 4294967296 ^ k * (x + 4294967296 * D + 1) ≤ 4294967296 ^ k * (y + 4294967296 * D) := Nat.mul_le_mul_left _ (by omega)
  rw [Nat.mul_add, Nat.mul_one] at h2
  omega
theorem two_new (w : World) (L M : List Value) (t u : TypeId) : ((w.alloc (.cells L.toArray t)).alloc (.cells M.toArray u)).heap[w.heap.size]? = some (.cells L.toArray t (0, 0)) ∧ ((w.alloc (.cells L.toArray t)).alloc (.cells M.toArray u)).heap[w.heap.size + 1]? = some (.cells M.toArray u (0, 0)) ∧
    Below w.heap.size w ((w.alloc (.cells L.toArray t)).alloc (.cells M.toArray u)) ∧ ((w.alloc (.cells L.toArray t)).alloc (.cells M.toArray u)).heap.size = w.heap.size + 2 := by
  refine ⟨?_, ?_, ((Below.refl _ _).alloc (Nat.le_refl _) _).alloc (by simp) _, by simp⟩
  · rw [Below.heap_alloc _ _ _ (by simp), heap_new]
  · exact (congrArg (fun k => (World.alloc _ _).heap[k]?) (World.size_alloc w _).symm).trans (heap_new _ _)
def cmpI (N M : Nat) : Int := Lib.compareInt (N : Int) (M : Int)
theorem cmpI_lt (N M : Nat) (h : N < M) : cmpI N M = -1 := by unfold cmpI Lib.compareInt; rw [if_pos (by omega)]
theorem cmpI_gt (N M : Nat) (h : M < N) : cmpI N M = 1 := by unfold cmpI Lib.compareInt; rw [if_neg (by omega), if_pos (by omega)]
theorem cmpI_eq (N : Nat) : cmpI N N = 0 := by unfold cmpI Lib.compareInt; rw [if_neg (by omega), if_neg (by omega)]
theorem dig_less (N M K k : Nat) (hN : N < Lim) (hM : M < Lim) (h1 : mny N ≤ K) (h2 : mny M ≤ K) (h128 : K ≤ 128) (hk : k < K) (hs : ∀ j, k < j → j < K → (dg N)[j]?.getD 0 = (dg M)[j]?.getD 0) (hlt : ((dg N)[k]?.getD 0).toNat < ((dg M)[k]?.getD 0).toNat) : N < M := by
  have e1 := dg_top N hN K h1
  have e2 := dg_top M hM K h2
  rw [← e1, ← e2]
  have g : ∀ (l : List (BitVec 32)) (j : Nat), j < K → (l.take K)[j]?.getD 0 = l[j]?.getD 0 := fun l j hj => by rw [List.getElem?_take_of_lt hj]
  refine val_less _ _ k (by simp [dg_len]) (by rw [List.length_take, dg_len]; omega) (fun j hj hj2 => ?_) ?_
  · rw [List.length_take, dg_len] at hj2
    rw [g _ j (by omega), g _ j (by omega)]
    exact hs j hj (by omega)
  · rw [g _ k hk, g _ k hk]; exact hlt
theorem dig_same (N M K : Nat) (hN : N < Lim) (hM : M < Lim) (h1 : mny N ≤ K) (h2 : mny M ≤ K) (h128 : K ≤ 128) (hs : ∀ j, j < K → (dg N)[j]?.getD 0 = (dg M)[j]?.getD 0) : N = M := by
  rw [← dg_top N hN K h1, ← dg_top M hM K h2]
  congr 1
  apply List.ext_getElem
  · simp [dg_len]
  · intro j h3 h4
    rw [List.length_take, dg_len] at h3
    have := hs j (by omega)
    rw [List.getElem?_eq_getElem (by rw [dg_len]; omega), List.getElem?_eq_getElem (by rw [dg_len]; omega)] at this
    rw [List.getElem_take, List.getElem_take]
    exact this
set_option maxRecDepth 100000 in
set_option maxHeartbeats 2000000 in
theorem cmp_in (N M : Nat) (hN : N < Lim) (hM : M < Lim) (W : World) : Calls Tryd.prog 19 #[.agg (natL N).toArray, .agg (natL M).toArray] W fun e w' => e = .returned (.int .i64 (cmpI N M)) ∧ Below W.heap.size W w' := by
  obtain ⟨b0, b1, hB, hsz⟩ := two_new W (natL N) (natL M) 27 27
  have hn1 := mny_le N hN
  have hm1 := mny_le M hM
  go_enter Tryd.func19, Tryd.ntmps19
  go_upto_region 1 with fail
  generalize ((W.alloc (.cells (natL N).toArray 27)).alloc (.cells (natL M).toArray 27)) = V at b0 b1 hB hsz ⊢
  have c0 := (cells_at b0 (nat_many N)).1
  have c1 := (cells_at b1 (nat_many M)).1
  have D0 : Hid (∀ j, j < 128 → V.cell? ⟨W.heap.size, j, none⟩ = some (.int .u32 (((dg N)[j]?.getD 0).toNat : Int))) := fun j hj => (cells_at b0 (nat_at N j hj)).1
  have D1 : Hid (∀ j, j < 128 → V.cell? ⟨W.heap.size + 1, j, none⟩ = some (.int .u32 (((dg M)[j]?.getD 0).toNat : Int))) := fun j hj => (cells_at b1 (nat_at M j hj)).1
  clear b0 b1 hsz
  obtain ⟨p, hp⟩ : ∃ p, mny N = p := ⟨_, rfl⟩
  obtain ⟨q, hq⟩ : ∃ q, mny M = q := ⟨_, rfl⟩
  have HP := Hid.mk hp
  have HQ := Hid.mk hq
  rw [hp] at c0 hn1
  rw [hq] at c1 hm1
  by_cases hpq : p = q
  · subst hpq
    clear hp hq
    have hne : (((p : Int)) != (p : Int)) = false := by simp
    go_wp2_with fail
    go_loopw [19] (fun i wr => ∃ m d : Nat, m ≤ p ∧ i = .int .i64 (m : Int) ∧ Hid (∀ j, p - m ≤ j → j < p → (dg N)[j]?.getD 0 = (dg M)[j]?.getD 0) ∧ wr = V.drewN d) (fun i _ => p - (intOf i).toNat)
    case atStart => exact ⟨0, 0, by omega, rfl, fun j h1 h2 => absurd h2 (by omega), rfl⟩
    case round =>
      obtain ⟨m, d, hm, rfl, HS, rfl⟩ := hrel
      by_cases hlt : m < p
      · obtain ⟨a, ha⟩ : ∃ a, p - 1 - m = a := ⟨_, rfl⟩
        have hai : (p : Int) - 1 - (m : Int) = (a : Int) := by omega
        have ha128 : a < 128 := by omega
        have hai2 : (a : Int) < 128 := by omega
        have x0 : (V.drewN d).cell? ⟨W.heap.size, a, none⟩ = _ := D0.out a ha128
        have x1 : (V.drewN d).cell? ⟨W.heap.size + 1, a, none⟩ = _ := D1.out a ha128
        have m0 : (V.drewN d).cell? ⟨W.heap.size, 128, none⟩ = _ := c0
        have HSX : Hid ((dg N)[a]?.getD 0 = (dg M)[a]?.getD 0 → ∀ j, p - (m + 1) ≤ j → j < p → (dg N)[j]?.getD 0 = (dg M)[j]?.getD 0) := fun h j h1 h2 => by
          by_cases e : j = a
          · rw [e]; exact h
          · exact HS.out j (by omega) h2
        have HL1 : Hid (((dg N)[a]?.getD 0).toNat < ((dg M)[a]?.getD 0).toNat → N < M) := fun h => dig_less N M p a hN hM (by rw [HP.out]; omega) (by rw [HQ.out]; omega) (by omega) (by omega) (fun j h1 h2 => HS.out j (by omega) h2) h
        have HL2 : Hid (((dg M)[a]?.getD 0).toNat < ((dg N)[a]?.getD 0).toNat → M < N) := fun h => dig_less M N p a hM hN (by rw [HQ.out]; omega) (by rw [HP.out]; omega) (by omega) (by omega) (fun j h1 h2 => (HS.out j (by omega) h2).symm) h
        have hxl := bv_lt ((dg N)[a]?.getD 0)
        have hyl := bv_lt ((dg M)[a]?.getD 0)
        generalize (dg N)[a]?.getD 0 = x at x0 HSX HL1 HL2 hxl
        generalize (dg M)[a]?.getD 0 = y at x1 HSX HL1 HL2 hyl
        obtain ⟨V1, HV1⟩ : ∃ V1, Hid (V.drewN d = V1) := ⟨_, rfl⟩
        rw [HV1.out] at x0 x1 m0 ⊢
        by_cases hxy : x.toNat = y.toNat
        · have hxe : x = y := BitVec.eq_of_toNat_eq hxy
          have HN2 := Hid.mk (HSX.out hxe)
          have hne2 : ((x.toNat : Int) != (y.toNat : Int)) = false := by rw [hxy]; simp
          clear ha HSX
          go_wp2_with fail
          go_quiet (fail)
          go_wp2
          go_roundw
          case rel =>
            refine ⟨m + 1, d + nq, by omega, by go_num, HN2, ?_⟩
            rw [← HV1.out, drew_add]
          case measure => simp [intOf]; omega
        · have hne2 : ((x.toNat : Int) != (y.toNat : Int)) = true := by rw [bne_iff_ne]; omega
          have HCP : Hid (∀ W : World, Calls Tryd.prog 43 #[.int .u32 (x.toNat : Int), .int .u32 (y.toNat : Int)] W fun e w' => e = .returned (.int .i64 (Lib.compareInt (x.toNat : Int) (y.toNat : Int))) ∧ w' = W) := fun W => compare32_in _ _ hxl hyl W
          have HRS : Hid (Lib.compareInt (x.toNat : Int) (y.toNat : Int) = cmpI N M) := by
            rw [Hid]
            rcases Nat.lt_or_gt_of_ne hxy with h | h
            · rw [cmpI_lt _ _ (HL1.out h)]; unfold Lib.compareInt; rw [if_pos (by omega)]
            · rw [cmpI_gt _ _ (HL2.out h)]; unfold Lib.compareInt; rw [if_neg (by omega), if_pos (by omega)]
          have HB1 : Below W.heap.size W V1 := by rw [← HV1.out]; exact hB.trans (below_le _ _ _)
          clear ha HSX
          go_wp2_with fail
          go_quiet (fail)
          have y0 : (V1.drewN nq).cell? ⟨W.heap.size, a, none⟩ = _ := x0
          have y1 : (V1.drewN nq).cell? ⟨W.heap.size + 1, a, none⟩ = _ := x1
          have HB2 : Below W.heap.size W (V1.drewN nq) := HB1.trans (below_le _ _ _)
          clear x0 x1 m0 HB1
          generalize V1.drewN nq = V2 at y0 y1 HB2 ⊢
          go_wp2_with fail
          go_quiet (first
            | (go_at_call 43; exact (HCP.out _).mono fun _ _ hh => ⟨hh.1, _, hh.2⟩))
          go_wp2
          go_ret
          exact ⟨by rw [← HRS.out]; rfl, HB2.trans (below_le _ _ _)⟩
      · have HEQ : Hid (N = M) := dig_same N M p hN hM (by rw [HP.out]; omega) (by rw [HQ.out]; omega) hn1 (fun j hj => HS.out j (by omega) hj)
        have hmp : m = p := by omega
        clear HS
        subst hmp
        go_wp2
        go_ret
        exact ⟨by rw [HEQ.out, cmpI_eq]; rfl, hB.trans (below_le _ _ _)⟩
  · have hne : (((p : Int)) != (q : Int)) = true := by rw [bne_iff_ne]; omega
    have HCP := Hid.mk (fun W => Tryd.cmp_Compare_int (p : Int) (q : Int) W)
    have HRS : Hid (Lib.compareInt (p : Int) (q : Int) = cmpI N M) := by
      rw [Hid]
      rcases Nat.lt_or_gt_of_ne hpq with h | h
      · have : N < M := by
          apply Classical.byContradiction
          intro hn
          have := mny_mono M N (by omega)
          omega
        rw [cmpI_lt _ _ this]; unfold Lib.compareInt; rw [if_pos (by omega)]
      · have : M < N := by
          apply Classical.byContradiction
          intro hn
          have := mny_mono N M (by omega)
          omega
        rw [cmpI_gt _ _ this]; unfold Lib.compareInt; rw [if_neg (by omega), if_pos (by omega)]
    clear hp hq
    go_wp2_with fail
    refine (HCP.out _).mono ?_
    rintro e w1 ⟨rfl, rfl⟩
    go_wp2
    go_ret
    exact ⟨by rw [← HRS.out]; rfl, hB⟩
end Go.Proofs.YthjhemodmdficaaDoor
