/- The document's Wide, Bytes. -/
import Derived.Test.YthjhemodmdficaaDoorNR5
namespace Go.Proofs.YthjhemodmdficaaDoor
set_option linter.unusedVariables false
open Go.RowKit
theorem dig_of (ds : List (BitVec 32)) (j : Nat) (h : j < ds.length) : (ds[j]?.getD 0).toNat = val ds / 4294967296 ^ j % 4294967296 := by
  have h1 := val_cut ds j h
  have h2 := val_lt (ds.take j)
  rw [List.length_take, Nat.min_eq_left (by omega)] at h2
  have hp : 0 < 4294967296 ^ j := Nat.pow_pos (by omega)
  rw [h1, Nat.add_mul_div_left _ _ hp, Nat.div_eq_of_lt h2, Nat.zero_add]
  have := bv_lt (ds[j]?.getD 0)
  omega
theorem byr_skip (N L i : Nat) (h : i < L) (h0 : N / 256 ^ i = 0) : byr N L i = byr N L (i + 1) := by
  rw [← byr_next N L i h, h0]
  apply List.ext_getElem
  · simp
  · intro k h1 h2
    rw [List.getElem_set]
    split
    · rename_i e
      subst e
      simp only [byr, List.getElem_map, List.getElem_range]
      rw [if_neg (by omega)]
      rfl
    · rfl
theorem byte_none (N L k : Nat) (h : N < 4294967296 ^ L) (hk : L ≤ k / 4) : N / 256 ^ k = 0 := by
  refine Nat.div_eq_of_lt (Nat.lt_of_lt_of_le h ?_)
  rw [← pow4]
  exact Nat.pow_le_pow_right (by omega) (by omega)
set_option maxRecDepth 100000 in
set_option maxHeartbeats 2000000 in
theorem rwide_go (W : World) (p : Option Addr) (cap : Nat) (ds : List (BitVec 32)) (L : Nat) (hL : L ≤ 100000) (hdl : ds.length ≤ maxLen) (hcell : ∀ j, j < ds.length → ∃ g, p = some ⟨g, 0, none⟩ ∧ g < W.heap.size ∧ W.cell? ⟨g, j, none⟩ = some (.int .u32 ((ds[j]?.getD 0).toNat : Int))) :
    Calls Tryd.prog 17 #[.slice p ds.length cap, .int .i64 (L : Int)] W fun e w' => e = .returned (.string ⟨(bys (val ds) L).toArray⟩) ∧ Below W.heap.size W w' := by
  obtain ⟨i0, hi, hz0, hz1, hz2⟩ := info_of info5
  obtain ⟨N, hN⟩ : ∃ N, val ds = N := ⟨_, rfl⟩
  obtain ⟨D, hD⟩ : ∃ D, ds.length = D := ⟨_, rfl⟩
  have HNB : Hid (N < 4294967296 ^ D) := by rw [Hid, ← hN, ← hD]; exact val_lt ds
  have HDG : Hid (∀ j, j < D → (ds[j]?.getD 0).toNat = N / 4294967296 ^ j % 4294967296) := fun j hj => by rw [← hN]; exact dig_of ds j (by omega)
  have HC : Hid (∀ j, j < D → ∃ g, p = some ⟨g, 0, none⟩ ∧ g < W.heap.size ∧ W.cell? ⟨g, j, none⟩ = some (.int .u32 ((N / 4294967296 ^ j % 4294967296 : Nat) : Int))) := fun j hj => by
    obtain ⟨g, h1, h2, h3⟩ := hcell j (by omega)
    exact ⟨g, h1, h2, by rw [HDG.out j hj] at h3; exact h3⟩
  rw [hN, hD]
  unfold maxLen at hdl
  rw [hD] at hdl
  clear hcell hN hD HDG
  have hL0 : (0 : Int) ≤ (L : Int) := by omega
  go_enter Tryd.func17, Tryd.ntmps17
  go_wp2_with (at_make; refine wpList_make_full _ rfl _ _ 66 rfl W.heap.size 5 i0 (.int .u8 0) 1 Tryd.underlying66 hi hz0 hz1 _ _ _ _ L rfl rfl rfl rfl (by rw [hz2]; omega) (by unfold maxLen; omega) (Nat.le_refl _) ?_; intro w2 hown2 hgrow2)
  have B2 : Below W.heap.size W w2 := (Below.refl _ _).grown hgrow2 (Nat.le_refl _) (by simp)
  rw [made_zeros, ← byr_zero N L] at hown2
  have HO2 := Hid.mk hown2
  clear hown2 hgrow2
  obtain ⟨g0, hg0⟩ : ∃ g0, W.heap.size = g0 := ⟨_, rfl⟩
  rw [hg0] at HO2 ⊢
  have HG0 := Hid.mk hg0
  clear hg0
  go_wp2_with fail
  go_loopw [6] (fun iv wr => ∃ i : Nat, i ≤ L ∧ iv = .int .i64 (i : Int) ∧ wr.ownsRow g0 5 1 (.slice (some ⟨g0, 0, none⟩) L L) L (bcl (byr N L i)) ∧ Below W.heap.size W wr) (fun iv _ => L - (intOf iv).toNat)
  case atStart => exact ⟨0, by omega, rfl, HO2.out, B2⟩
  case round =>
    obtain ⟨i, hi2, rfl, hown, hbl2⟩ := hrel
    have HO := Hid.mk hown
    clear HO2 B2
    by_cases hlt : i < L
    · obtain ⟨j, hj⟩ : ∃ j, i / 4 = j := ⟨_, rfl⟩
      have t1 : (i : Int).tdiv 4 = (j : Int) := by rw [Int.tdiv_eq_ediv_of_nonneg (by omega)]; omega
      have t2 : (i : Int) / 4 = (j : Int) := by omega
      by_cases hjd : j < D
      · obtain ⟨r, hr⟩ : ∃ r, i % 4 = r := ⟨_, rfl⟩
        obtain ⟨k, hk⟩ : ∃ k, L - 1 - i = k := ⟨_, rfl⟩
        obtain ⟨g, rfl, hgw, hcw⟩ := HC.out j hjd
        have hcx : wr.cell? ⟨g, j, none⟩ = _ := (hbl2.cell (p := ⟨g, j, none⟩) hgw).trans hcw
        have HNX := Hid.mk (byr_next N L i hlt)
        rw [hk] at HNX
        have HBA := Hid.mk (byte_at N i)
        rw [hj, hr] at HBA
        have hcb : wr.cell? ⟨g0, k, none⟩ = some (.int .u8 (((byr N L i)[k]?.getD 0).toNat : Int)) := by rw [hown.cellAt k (by omega), bcl_at _ _ (by rw [byr_len]; omega)]
        have hfb := hown.frozenAt k
        generalize N / 4294967296 ^ j % 4294967296 = dd at hcx HBA
        obtain ⟨qd, hqd⟩ : ∃ qd, dd / 2 ^ (8 * r) = qd := ⟨_, rfl⟩
        rw [hqd] at HBA
        obtain ⟨y, HY⟩ : ∃ y, Hid (y = UInt8.ofNat (N / 256 ^ i)) := ⟨_, rfl⟩
        rw [← HY.out] at HNX
        have hyn : y.toNat = qd % 256 := by rw [HY.out, UInt8.toNat_ofNat', HBA.out]
        have t3 : (i : Int).tmod 4 = (r : Int) := by rw [Int.tmod_eq_emod_of_nonneg (by omega)]; omega
        have t4 : (i : Int) % 4 = (r : Int) := by omega
        have t5 : ((8 : Int) * (r : Int)).toNat = 8 * r := by omega
        have t6 : (dd : Int) / 2 ^ (8 * r) = (qd : Int) := by rw [← hqd, Int.natCast_ediv, Int.natCast_pow]; rfl
        have t7 : IntKind.u8.wrap (qd : Int) = (y.toNat : Int) := by rw [IntKind.wrap_u8]; omega
        have t8 : (qd : Int) % 256 = (y.toNat : Int) := by omega
        have t9 : (L : Int) - 1 - (i : Int) = (k : Int) := by omega
        have hr4 : r < 4 := by omega
        have hj' : (j : Int) < (D : Int) := by omega
        have hkl : (k : Int) < (L : Int) := by omega
        have hkl2 : k < L := by omega
        generalize (byr N L i)[k]?.getD 0 = y0 at hcb
        clear hown hj hr hk hqd hyn hcw
        go_wp2
        go_roundw
        case rel =>
          obtain ⟨h1, h2⟩ := HO.out.stored k (.int .u8 (y.toNat : Int))
          rw [bcl_set, HNX.out] at h1
          exact ⟨i + 1, by omega, by go_num, h1, hbl2.grown h2 (Nat.le_trans hbl2.size (Nat.le_refl _)) (fun k hk => by cases hk; rw [HG0.out]; exact Nat.le_refl _)⟩
        case measure => simp [intOf]; omega
      · have h0 := byte_none N D i HNB.out (by omega)
        have HSK := Hid.mk (byr_skip N L i hlt h0)
        have hj' : ¬ ((j : Int) < (D : Int)) := by omega
        have hj2 : (D : Int) ≤ (j : Int) := by omega
        clear hown hj h0
        go_wp2
        go_roundw
        case rel => exact ⟨i + 1, by omega, by go_num, by rw [← HSK.out]; exact HO.out, hbl2⟩
        case measure => simp [intOf]; omega
    · obtain rfl : i = L := by omega
      rw [byr_all N i i (Nat.le_refl _)] at HO
      have hcv := own_back HO.out (bys_len N i)
      clear hown
      go_wp2
      go_ret
      exact ⟨rfl, hbl2⟩
theorem rwide_in (W : World) (v : Value) (N L : Nat) (h : RN W v N) (hL : L ≤ 100000) : Calls Tryd.prog 17 #[v, .int .i64 (L : Int)] W fun e w' => e = .returned (.string ⟨(bys N L).toArray⟩) ∧ Below W.heap.size W w' := by
  obtain ⟨ds, hr, rfl, ht⟩ := h
  rcases hr.view with ⟨rfl, rfl⟩ | ⟨g, cap, rfl, hc, hm, hg, hcell, -⟩
  · exact rwide_go W none 0 [] L hL (Nat.zero_le _) (fun j hj => by simp at hj)
  · exact rwide_go W _ cap ds L hL (by omega) (fun j hj => ⟨g, rfl, hg, hcell j hj⟩)
set_option maxRecDepth 100000 in
set_option maxHeartbeats 400000 in
theorem rbytes_in (W : World) (v : Value) (N : Nat) (h : RN W v N) (hN : btl N ≤ 700000) : Calls Tryd.prog 39 #[v] W fun e w' => e = .returned (.string ⟨(bys N (nbl N)).toArray⟩) ∧ Below W.heap.size W w' := by
  have hmn : mny N ≤ 70368744177664 := by
    unfold btl at hN
    unfold mny
    split
    · omega
    · rename_i h0
      rw [if_neg h0] at hN
      omega
  have HB := Hid.mk (rbits_in W v N h hmn)
  have HW := Hid.mk (rwide_in W v N (nbl N) h (by unfold nbl; omega))
  obtain ⟨L, hL⟩ : ∃ L, nbl N = L := ⟨_, rfl⟩
  have d1 : ((btl N : Int) + 7).tdiv 8 = (L : Int) := by rw [Int.tdiv_eq_ediv_of_nonneg (by omega), ← hL]; unfold nbl; omega
  have d2 : ((btl N : Int) + 7) / 8 = (L : Int) := by rw [← hL]; unfold nbl; omega
  have hb2 : (btl N : Int) ≤ 700000 := by omega
  rw [hL] at HW ⊢
  clear hL hmn hN
  generalize btl N = bn at *
  go_enter Tryd.func39, Tryd.ntmps39
  go_wp2_with fail
  refine HB.out.mono ?_
  rintro e w1 ⟨rfl, rfl⟩
  go_wp2_with fail
  refine HW.out.mono ?_
  rintro e w2 ⟨rfl, hb⟩
  go_wp2
  go_ret
  exact ⟨rfl, hb⟩
end Go.Proofs.YthjhemodmdficaaDoor
