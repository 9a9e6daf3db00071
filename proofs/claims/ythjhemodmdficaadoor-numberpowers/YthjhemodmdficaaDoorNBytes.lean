/- Bytes. -/
import Derived.Laws.AppendOwn
import Derived.OwnWalk
import Derived.Test.YthjhemodmdficaaDoorNGoes
namespace Go.Proofs.YthjhemodmdficaaDoor
set_option linter.unusedVariables false
open Go.RowKit
theorem info5 : (Tryd.prog.info? 5).map (fun i => (i.zero, i.size, i.bytes)) = some (some (.int .u8 0), 1, 1) := by kernel_rfl
theorem info_of {t : Nat} {z : Value} {n b : Nat} (h : (Tryd.prog.info? t).map (fun i => (i.zero, i.size, i.bytes)) = some (some z, n, b)) : ∃ i0, Tryd.prog.info? t = some i0 ∧ i0.zero = some z ∧ i0.size = n ∧ i0.bytes = b := by
  cases hq : Tryd.prog.info? t with
  | none => simp [hq] at h
  | some i => exact ⟨i, rfl, by simp [hq] at h; exact h.1, by simp [hq] at h; exact h.2.1, by simp [hq] at h; exact h.2.2⟩
def bcl (l : List UInt8) : List Value := l.map fun c => Value.int .u8 (c.toNat : Int)
theorem bcl_at (l : List UInt8) (j : Nat) (h : j < l.length) : (bcl l)[j]? = some (.int .u8 ((l[j]?.getD 0).toNat : Int)) := by
  simp [bcl, List.getElem?_eq_getElem h]
theorem bcl_set (l : List UInt8) (j : Nat) (c : UInt8) : (bcl l).set j (.int .u8 (c.toNat : Int)) = bcl (l.set j c) := by simp [bcl]
theorem own_back {w : World} {base g n cap : Nat} {l : List UInt8} (h : w.ownsRow base 5 1 (.slice (some ⟨g, 0, none⟩) n cap) n (bcl l)) (hl : l.length = n) :
    (convert 66 9 (.slice (some ⟨g, 0, none⟩) n cap)).run Tryd.prog w = .ok (.string ⟨l.toArray⟩) w := by
  subst hl
  refine run_convert_bytes_back (P := Tryd.prog) w 66 9 5 ⟨g, 0, none⟩ cap l Tryd.underlying66 Tryd.underlying5 Tryd.underlying9 (fun j hj => ?_)
  rw [addr_at, Nat.zero_add, h.cellAt j (by omega)]
  simp [bcl, hj]
theorem made_zeros (n : Nat) : (madeCells (Value.int .u8 0).cells (n * 1)).toList = bcl (List.replicate n 0) := by
  apply List.ext_getElem?
  intro k
  simp [madeCells, bcl, Value.cells, List.getElem?_replicate]
  by_cases hk : k < n
  · rw [if_pos hk, List.getElem?_range hk]
    simp [Nat.mod_one]
  · rw [if_neg hk, List.getElem?_eq_none (by simpa using hk)]
    rfl
theorem dg_at (N : Nat) (h : N < Lim) (j : Nat) (hj : j < 128) : ((dg N)[j]?.getD 0).toNat = N / 4294967296 ^ j % 4294967296 := by
  have h1 := val_cut (dg N) j (by rw [dg_len]; exact hj)
  rw [dg_val N h] at h1
  have h2 := val_lt ((dg N).take j)
  rw [List.length_take, dg_len, Nat.min_eq_left (by omega)] at h2
  have hp : 0 < 4294967296 ^ j := Nat.pow_pos (by omega)
  have h3 := bv_lt ((dg N)[j]?.getD 0)
  have h4 : N / 4294967296 ^ j = ((dg N)[j]?.getD 0).toNat + 4294967296 * val ((dg N).drop (j + 1)) := by
    have e : N = 4294967296 ^ j * (((dg N)[j]?.getD 0).toNat + 4294967296 * val ((dg N).drop (j + 1))) + val ((dg N).take j) := by omega
    rw [e, Nat.mul_add_div hp, Nat.div_eq_of_lt h2, Nat.add_zero, ← e]
  rw [h4]
  omega
theorem byte_at (N i : Nat) : N / 4294967296 ^ (i / 4) % 4294967296 / 2 ^ (8 * (i % 4)) % 256 = N / 256 ^ i % 256 := by
  have e : 256 ^ i = 4294967296 ^ (i / 4) * 256 ^ (i % 4) := by
    rw [show (4294967296 : Nat) = 256 ^ 4 from rfl, ← Nat.pow_mul, ← Nat.pow_add, Nat.div_add_mod]
  rw [e, ← Nat.div_div_eq_div_mul]
  generalize N / 4294967296 ^ (i / 4) = A
  rcases (show i % 4 = 0 ∨ i % 4 = 1 ∨ i % 4 = 2 ∨ i % 4 = 3 by omega) with h | h | h | h <;> (rw [h]; simp only [Nat.reduceMul, Nat.reducePow]; omega)
/-- a number's bytes, so many, the greatest first. -/
def bys (N L : Nat) : List UInt8 := (List.range L).map fun k => UInt8.ofNat (N / 256 ^ (L - 1 - k))
def nbl (N : Nat) : Nat := (btl N + 7) / 8
/-- the last i of them. -/
def byr (N L i : Nat) : List UInt8 := (List.range L).map fun k => if L - i ≤ k then UInt8.ofNat (N / 256 ^ (L - 1 - k)) else 0
theorem byr_zero (N L : Nat) : byr N L 0 = List.replicate L 0 := by
  apply List.ext_getElem
  · simp [byr]
  · intro k h1 h2
    simp only [byr, List.getElem_map, List.getElem_range, List.getElem_replicate]
    rw [List.length_replicate] at h2
    rw [if_neg (by omega)]
theorem byr_all (N L i : Nat) (h : L ≤ i) : byr N L i = bys N L := by
  unfold byr bys
  apply List.map_congr_left
  intro k hk
  rw [if_pos (by omega)]
theorem byr_next (N L i : Nat) (h : i < L) : (byr N L i).set (L - 1 - i) (UInt8.ofNat (N / 256 ^ i)) = byr N L (i + 1) := by
  apply List.ext_getElem
  · simp [byr]
  · intro k h1 h2
    rw [List.getElem_set]
    simp only [byr, List.getElem_map, List.getElem_range]
    by_cases e : L - 1 - i = k
    · rw [if_pos e, if_pos (by omega), show L - 1 - k = i by omega]
    · rw [if_neg e]
      by_cases e2 : L - i ≤ k
      · rw [if_pos e2, if_pos (by omega)]
      · rw [if_neg e2, if_neg (by omega)]
theorem byr_len (N L i : Nat) : (byr N L i).length = L := by simp [byr]
theorem bys_len (N L : Nat) : (bys N L).length = L := by simp [bys]
theorem btl_le (N : Nat) (h : N < Lim) : btl N ≤ 4096 := by
  unfold btl
  split
  · omega
  · rename_i h0
    have h1 := mny_le N h
    unfold mny at h1
    rw [if_neg h0] at h1
    omega
set_option maxRecDepth 100000 in
set_option maxHeartbeats 2000000 in
theorem bytes_in (N : Nat) (h : N < Lim) (W : World) : Calls Tryd.prog 35 #[.agg (natL N).toArray] W fun e w' => e = .returned (.string ⟨(bys N (nbl N)).toArray⟩) ∧ Below W.heap.size W w' := by
  obtain ⟨i0, hi, hz0, hz1, hz2⟩ := info_of info5
  have HBX := Hid.mk (boxed W (natL N) 27)
  have HBT := Hid.mk (bits_in N h)
  have hbl := btl_le N h
  obtain ⟨L, hL⟩ : ∃ L, nbl N = L := ⟨_, rfl⟩
  have hLb : L ≤ 512 := by rw [← hL]; unfold nbl; omega
  have d1 : ((btl N : Int) + 7).tdiv 8 = (L : Int) := by rw [Int.tdiv_eq_ediv_of_nonneg (by omega), ← hL]; unfold nbl; omega
  have d2 : ((btl N : Int) + 7) / 8 = (L : Int) := by rw [← hL]; unfold nbl; omega
  have HDG : Hid (∀ j, j < 128 → ((dg N)[j]?.getD 0).toNat = N / 4294967296 ^ j % 4294967296) := fun j hj => dg_at N h j hj
  have hB : Below W.heap.size W (W.alloc (.cells (natL N).toArray 27)) := (Below.refl _ _).alloc (Nat.le_refl _) _
  rw [hL]
  clear hL
  generalize btl N = bn at HBT hbl d1 d2
  go_enter Tryd.func35, Tryd.ntmps35
  go_upto_region 1 with fail
  generalize W.alloc (.cells (natL N).toArray 27) = V at HBX hB ⊢
  refine wp_region_lit ?_
  refine wpList_run (W' := V) (v := .agg (natL N).toArray) rfl (op_load HBX.out (natL_len N) rfl rfl) ?_
  simp only [Act.put, List.setIfInBounds_toArray, List.set_cons_succ, List.set_cons_zero]
  go_wp2_with fail
  refine (HBT.out _).mono ?_
  rintro e w1 ⟨rfl, hb1⟩
  have HB1 : Hid (w1.heap[W.heap.size]? = some (.cells (natL N).toArray 27 (0, 0))) := (hb1.block _ (box_lt HBX.out)).trans HBX.out
  have hBW : Below W.heap.size W w1 := bthen hB hb1
  clear HBX hB hb1
  go_wp2_with (at_make; refine wpList_make_full _ rfl _ _ 66 rfl w1.heap.size 5 i0 (.int .u8 0) 1 Tryd.underlying66 hi hz0 hz1 _ _ _ _ L rfl rfl rfl rfl (by rw [hz2]; omega) (by unfold maxLen; omega) (Nat.le_refl _) ?_; intro w2 hown2 hgrow2)
  have B2 : Below w1.heap.size w1 w2 := (Below.refl _ _).grown hgrow2 (Nat.le_refl _) (by simp)
  rw [made_zeros, ← byr_zero N L] at hown2
  have HB2 : Hid (w2.heap[W.heap.size]? = some (.cells (natL N).toArray 27 (0, 0))) := (B2.block _ (box_lt HB1.out)).trans HB1.out
  have hgw : W.heap.size < w1.heap.size := box_lt HB1.out
  have hBW2 : Below W.heap.size W w2 := bthen hBW B2
  have HO2 := Hid.mk hown2
  clear hown2 hgrow2 B2 HB1 hBW d1 d2
  generalize w1.heap.size = g at hgw HO2 ⊢
  go_wp2_with fail
  go_loopw [12] (fun iv wr => ∃ i : Nat, i ≤ L ∧ iv = .int .i64 (i : Int) ∧ wr.ownsRow g 5 1 (.slice (some ⟨g, 0, none⟩) L L) L (bcl (byr N L i)) ∧ wr.heap[W.heap.size]? = some (.cells (natL N).toArray 27 (0, 0)) ∧ Below W.heap.size W wr) (fun iv _ => L - (intOf iv).toNat)
  case atStart => exact ⟨0, by omega, rfl, HO2.out, HB2.out, hBW2⟩
  case round =>
    obtain ⟨i, hi2, rfl, hown, hbx, hbl2⟩ := hrel
    have HO := Hid.mk hown
    have HBX := Hid.mk hbx
    clear HO2 HB2 hBW2
    by_cases hlt : i < L
    · obtain ⟨j, hj⟩ : ∃ j, i / 4 = j := ⟨_, rfl⟩
      obtain ⟨r, hr⟩ : ∃ r, i % 4 = r := ⟨_, rfl⟩
      obtain ⟨k, hk⟩ : ∃ k, L - 1 - i = k := ⟨_, rfl⟩
      have hj128 : j < 128 := by omega
      have hcx := (cells_at hbx (nat_at N j hj128)).1
      have HNX := Hid.mk (byr_next N L i hlt)
      rw [hk] at HNX
      have HBA := Hid.mk (byte_at N i)
      rw [hj, hr] at HBA
      rw [HDG.out j hj128] at hcx
      have hcb : wr.cell? ⟨g, k, none⟩ = some (.int .u8 (((byr N L i)[k]?.getD 0).toNat : Int)) := by rw [hown.cellAt k (by omega), bcl_at _ _ (by rw [byr_len]; omega)]
      have hfb := hown.frozenAt k
      generalize N / 4294967296 ^ j % 4294967296 = dd at hcx HBA
      obtain ⟨qd, hqd⟩ : ∃ qd, dd / 2 ^ (8 * r) = qd := ⟨_, rfl⟩
      rw [hqd] at HBA
      obtain ⟨y, HY⟩ : ∃ y, Hid (y = UInt8.ofNat (N / 256 ^ i)) := ⟨_, rfl⟩
      rw [← HY.out] at HNX
      have hyn : y.toNat = qd % 256 := by rw [HY.out, UInt8.toNat_ofNat', HBA.out]
      have t1 : (i : Int).tdiv 4 = (j : Int) := by rw [Int.tdiv_eq_ediv_of_nonneg (by omega)]; omega
      have t2 : (i : Int) / 4 = (j : Int) := by omega
      have t3 : (i : Int).tmod 4 = (r : Int) := by rw [Int.tmod_eq_emod_of_nonneg (by omega)]; omega
      have t4 : (i : Int) % 4 = (r : Int) := by omega
      have t5 : ((8 : Int) * (r : Int)).toNat = 8 * r := by omega
      have t6 : (dd : Int) / 2 ^ (8 * r) = (qd : Int) := by rw [← hqd, Int.natCast_ediv, Int.natCast_pow]; rfl
      have t7 : IntKind.u8.wrap (qd : Int) = (y.toNat : Int) := by rw [IntKind.wrap_u8]; omega
      have t8 : (qd : Int) % 256 = (y.toNat : Int) := by omega
      have t9 : (L : Int) - 1 - (i : Int) = (k : Int) := by omega
      have hr4 : r < 4 := by omega
      have hj' : (j : Int) < 128 := by omega
      have hkl : (k : Int) < (L : Int) := by omega
      have hkl2 : k < L := by omega
      generalize (byr N L i)[k]?.getD 0 = y0 at hcb
      clear hown hbx hj hr hk hqd hyn
      go_wp2
      go_roundw
      case rel =>
        obtain ⟨h1, h2⟩ := HO.out.stored k (.int .u8 (y.toNat : Int))
        rw [bcl_set, HNX.out] at h1
        refine ⟨i + 1, by omega, by go_num, h1, ?_, hbl2.grown h2 (Nat.le_trans hbl2.size (Nat.le_refl _)) (fun k hk => by cases hk; omega)⟩
        exact (Below.heap_setCell _ _ _ _ (by show W.heap.size ≠ g; omega)).trans HBX.out
      case measure => simp [intOf]; omega
    · obtain rfl : i = L := by omega
      rw [byr_all N i i (Nat.le_refl _)] at HO
      have hcv := own_back HO.out (bys_len N i)
      clear hown hbx
      go_wp2
      go_ret
      exact ⟨rfl, hbl2⟩
end Go.Proofs.YthjhemodmdficaaDoor
