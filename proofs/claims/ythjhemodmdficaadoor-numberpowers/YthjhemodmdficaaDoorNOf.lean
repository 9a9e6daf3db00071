/- Of. -/
import Derived.Test.YthjhemodmdficaaDoorNTrim
namespace Go.Proofs.YthjhemodmdficaaDoor
set_option linter.unusedVariables false
open Go.RowKit
/-- the number of bytes, the greatest first. -/
def numB : List UInt8 → Nat
  | [] => 0
  | c :: l => c.toNat * 256 ^ l.length + numB l
theorem numB_lt : ∀ l : List UInt8, numB l < 256 ^ l.length
  | [] => by simp [numB]
  | c :: l => by
    have h1 := numB_lt l
    have h2 : (c.toNat + 1) * 256 ^ l.length ≤ 256 * 256 ^ l.length := Nat.mul_le_mul_right _ (by have := c.toNat_lt; omega)
    rw [Nat.add_mul, Nat.one_mul] at h2
    rw [numB, List.length_cons, Nat.pow_succ]
    omega
theorem numB_strip : ∀ l : List UInt8, numB (strip l) = numB l
  | [] => rfl
  | c :: l => by
    rw [strip]
    by_cases h : c.toNat = 0
    · rw [if_pos h, numB_strip l, numB, h, Nat.zero_mul, Nat.zero_add]
    · rw [if_neg h]
theorem numB_low (l : List UInt8) (n i : Nat) (hn : l.length = n) (hi : i < n) : numB (l.drop (n - (i + 1))) = (l[n - 1 - i]?.getD 0).toNat * 256 ^ i + numB (l.drop (n - i)) := by
  rw [List.drop_eq_getElem_cons (by omega), numB, List.length_drop, show n - (i + 1) + 1 = n - i by omega, show l.length - (n - i) = i by omega, List.getElem?_eq_getElem (by omega : n - 1 - i < l.length)]
  have e : l[n - (i + 1)]'(by omega) = l[n - 1 - i]'(by omega) := by congr 1; omega
  rw [e]
  rfl
theorem val_set (l : List (BitVec 32)) (j : Nat) (h : j < l.length) (z : BitVec 32) : val (l.set j z) + 4294967296 ^ j * (l[j]?.getD 0).toNat = val l + 4294967296 ^ j * z.toNat := by
  have h1 := val_cut l j h
  have h2 := val_cut (l.set j z) j (by rw [List.length_set]; exact h)
  rw [List.take_set_of_le (Nat.le_refl _), List.drop_set_of_lt (by omega), List.getElem?_set_self h] at h2
  rw [h1, h2, Nat.mul_add, Nat.mul_add]
  show _ + (4294967296 ^ j * z.toNat + _) + _ = _
  omega
theorem dig_small (l : List (BitVec 32)) (j P : Nat) (h : j < l.length) (hv : val l < 4294967296 ^ j * P) : (l[j]?.getD 0).toNat < P := by
  have h1 := val_cut l j h
  apply Classical.byContradiction
  intro hn
  have h2 : 4294967296 ^ j * P ≤ 4294967296 ^ j * (l[j]?.getD 0).toNat := Nat.mul_le_mul_left _ (by omega)
  rw [Nat.mul_add] at h1
  omega
theorem pow_256 (i : Nat) : 256 ^ i = 4294967296 ^ (i / 4) * 2 ^ (8 * (i % 4)) := by
  rw [show (4294967296 : Nat) = 256 ^ 4 from rfl, Nat.pow_mul, show (2 : Nat) ^ 8 = 256 from rfl, ← Nat.pow_mul, ← Nat.pow_add, Nat.div_add_mod]
theorem or_byte (x c r : Nat) (hr : r < 4) (hc : c < 256) (hx : x < 2 ^ (8 * r)) : bits .or .u32 (x : Int) ((c * 2 ^ (8 * r) : Nat) : Int) = ((x + c * 2 ^ (8 * r) : Nat) : Int) ∧ x + c * 2 ^ (8 * r) < 4294967296 ∧ (c : Int) * 2 ^ (8 * r) = ((c * 2 ^ (8 * r) : Nat) : Int) := by
  have hp : 2 ^ (8 * r) ≤ 2 ^ 24 := Nat.pow_le_pow_right (by omega) (by omega)
  have h1 : (c + 1) * 2 ^ (8 * r) ≤ 256 * 2 ^ (8 * r) := Nat.mul_le_mul_right _ (by omega)
  rw [Nat.add_mul, Nat.one_mul] at h1
  have e : x ||| c * 2 ^ (8 * r) = x + c * 2 ^ (8 * r) := by
    rw [Nat.or_comm, Nat.mul_comm c, Nat.add_comm]
    exact (Nat.two_pow_add_eq_or_of_lt hx c).symm
  refine ⟨?_, by omega, by rw [Int.natCast_mul, Int.natCast_pow]; rfl⟩
  rw [u32_or_nat _ _ (by omega) (by omega), e]
theorem zero24' (W : World) : (zeroValue 25).run Tryd.prog W = .ok (.agg (wl (List.replicate 128 0)).toArray) W := by kernel_rfl
theorem zero24 (W : World) : (zeroValue 25).run Tryd.prog W = .ok (.agg (zl 128).toArray) W := by rw [zl_eq]; exact zero24' W
noncomputable def ofR (l : List UInt8) : Ending := if (strip l).length ≤ 512 then .returned (.tuple #[.agg (natL (numB l)).toArray, .int .i64 0]) else .returned (.tuple #[.agg (natL 0).toArray, .int .i64 3])
set_option maxRecDepth 100000 in
set_option maxHeartbeats 2000000 in
theorem of_in (s : ByteArray) (hs : s.size ≤ 140737488355328) (W : World) : Calls Tryd.prog 10 #[.string s] W fun e w' => e = ofR s.data.toList ∧ Below W.heap.size W w' := by
  obtain ⟨t, ht⟩ : ∃ t, strip s.data.toList = t := ⟨_, rfl⟩
  have HTR := Hid.mk (trim_in s hs)
  rw [ht] at HTR
  obtain ⟨U, hU⟩ : ∃ U : ByteArray, U = ⟨t.toArray⟩ := ⟨_, rfl⟩
  rw [← hU] at HTR
  obtain ⟨n, hn⟩ : ∃ n, U.size = n := ⟨_, rfl⟩
  have htn : t.length = n := by rw [← hn, hU, ba_size]
  have HTN := Hid.mk htn
  have hns : n ≤ 140737488355328 := by
    have : ∀ l : List UInt8, (strip l).length ≤ l.length := fun l => by
      induction l with
      | nil => exact Nat.le_refl _
      | cons c l ih => rw [strip]; split <;> simp <;> omega
    have := this s.data.toList
    rw [ht, htn, size_list] at this
    omega
  have HIX : Hid (∀ m, m < n → ∀ W : World, (Instr.index 9 (.string U) (.int .i64 (m : Int))).run Tryd.prog W = .ok (.int .u8 ((t[m]?.getD 0).toNat : Int)) W) := fun m hm W => index_get U m _ (by omega) (by rw [hU]) W
  have HNB : Hid (numB t = numB s.data.toList) := by rw [Hid, ← ht, numB_strip]
  have HRES : Hid (ofR s.data.toList = if n ≤ 512 then .returned (.tuple #[.agg (natL (numB t)).toArray, .int .i64 0]) else .returned (.tuple #[.agg (natL 0).toArray, .int .i64 3])) := by rw [Hid, ofR, ht, htn, HNB.out]
  clear HNB ht hU htn
  have hz := zero26
  have hz2 := zero24
  have hB0 : Below W.heap.size W (W.alloc (.cells (natL 0).toArray 27)) := (Below.refl _ _).alloc (Nat.le_refl _) _
  have Z0 := Hid.mk (boxed W (natL 0) 27)
  have hszV : (W.alloc (.cells (natL 0).toArray 27)).heap.size = W.heap.size + 1 := World.size_alloc ..
  go_enter Tryd.func10, Tryd.ntmps10
  go_wp2_with fail
  refine (HTR.out _).mono ?_
  rintro e w1 ⟨rfl, rfl⟩
  generalize W.alloc (.cells (natL 0).toArray 27) = V at hB0 Z0 hszV ⊢
  by_cases hn512 : n ≤ 512
  · have HE : Hid (ofR s.data.toList = .returned (.tuple #[.agg (natL (numB t)).toArray, .int .i64 0])) := by rw [Hid, HRES.out, if_pos hn512]
    have hni : (n : Int) ≤ 512 := by omega
    have H1 : Hid ((V.alloc (.cells (zl 128).toArray 25)).heap[W.heap.size + 1]? = some (.cells (zl 128).toArray 25 (0, 0))) := by rw [Hid, ← hszV]; exact heap_new _ _
    have H0 : Hid ((V.alloc (.cells (zl 128).toArray 25)).heap[W.heap.size]? = some (.cells (natL 0).toArray 27 (0, 0))) := (Below.heap_alloc _ _ _ (box_lt Z0.out)).trans Z0.out
    have hB1 : Below W.heap.size W (V.alloc (.cells (zl 128).toArray 25)) := hB0.alloc hB0.size _
    go_wp2_with fail
    generalize V.alloc (.cells (zl 128).toArray 25) = V1 at H1 H0 hB1 ⊢
    clear hz hz2 Z0 hB0 hszV
    go_loopw [15] (fun iv wr => ∃ (i : Nat) (S : List (BitVec 32)), i ≤ n ∧ iv = .int .i64 (i : Int) ∧ Hid (S.length = 128) ∧ Hid (val S = numB (t.drop (n - i))) ∧ wr.heap[W.heap.size + 1]? = some (.cells (wl S).toArray 25 (0, 0)) ∧ wr.heap[W.heap.size]? = some (.cells (natL 0).toArray 27 (0, 0)) ∧ Below W.heap.size W wr) (fun iv _ => n - (intOf iv).toNat)
    case atStart =>
      refine ⟨0, List.replicate 128 0, by omega, rfl, by rw [Hid, List.length_replicate], ?_, by rw [← zl_eq]; exact H1.out, H0.out, hB1⟩
      rw [Hid, val_zero, List.drop_eq_nil_of_le (by rw [HTN.out]; omega)]
      rfl
    case round =>
      obtain ⟨i, S, hi, rfl, HSL, HSV, h1, h0, hbl⟩ := hrel
      have G1 := Hid.mk h1
      have G0 := Hid.mk h0
      clear H1 H0 hB1
      by_cases hlt : i < n
      · obtain ⟨j, hj⟩ : ∃ j, i / 4 = j := ⟨_, rfl⟩
        obtain ⟨r, hr⟩ : ∃ r, i % 4 = r := ⟨_, rfl⟩
        obtain ⟨k, hk⟩ : ∃ k, n - 1 - i = k := ⟨_, rfl⟩
        have hj128 : j < 128 := by omega
        have hr4 : r < 4 := by omega
        have hp := pow_256 i
        rw [hj, hr] at hp
        have hsm : (S[j]?.getD 0).toNat < 2 ^ (8 * r) := by
          refine dig_small S j _ (by rw [HSL.out]; exact hj128) ?_
          rw [← hp, HSV.out]
          have := numB_lt (t.drop (n - i))
          rwa [List.length_drop, HTN.out, show n - (n - i) = i by omega] at this
        obtain ⟨hcx, hfx⟩ := cells_at h1 (wl_at S j (by rw [HSL.out]; exact hj128))
        have hix := HIX.out k (by omega)
        have HLO := Hid.mk (numB_low t n i HTN.out hlt)
        rw [hk] at HLO
        have HVS := Hid.mk (fun z => val_set S j (by rw [HSL.out]; exact hj128) z)
        generalize S[j]?.getD 0 = x at hcx hsm HVS
        generalize t[k]?.getD 0 = c at hix HLO
        obtain ⟨o1, o2, o3⟩ := or_byte x.toNat c.toNat r hr4 c.toNat_lt hsm
        obtain ⟨E, hE⟩ : ∃ E, c.toNat * 2 ^ (8 * r) = E := ⟨_, rfl⟩
        rw [hE] at o1 o2 o3
        obtain ⟨z, HZ⟩ : ∃ z, Hid (z = BitVec.ofNat 32 (x.toNat + E)) := ⟨_, rfl⟩
        have hzn : z.toNat = x.toNat + E := by rw [HZ.out, bv_of]; omega
        rw [← hzn] at o1
        have HNV : Hid (val (S.set j z) = numB (t.drop (n - (i + 1)))) := by
          have e1 := HVS.out z
          rw [hzn, Nat.mul_add, HSV.out] at e1
          have e2 : c.toNat * (4294967296 ^ j * 2 ^ (8 * r)) = 4294967296 ^ j * (c.toNat * 2 ^ (8 * r)) := Nat.mul_left_comm _ _ _
          rw [hE] at e2
          rw [Hid, HLO.out, hp, e2]
          omega
        have o4 : IntKind.u32.wrap (E : Int) = (E : Int) := by rw [IntKind.wrap_u32]; omega
        have hEb : E < 4294967296 := by omega
        have t1 : (i : Int).tdiv 4 = (j : Int) := by rw [Int.tdiv_eq_ediv_of_nonneg (by omega)]; omega
        have t2 : (i : Int) / 4 = (j : Int) := by omega
        have t3 : (i : Int).tmod 4 = (r : Int) := by rw [Int.tmod_eq_emod_of_nonneg (by omega)]; omega
        have t4 : (i : Int) % 4 = (r : Int) := by omega
        have t5 : ((8 : Int) * (r : Int)).toNat = 8 * r := by omega
        have t6 : (n : Int) - 1 - (i : Int) = (k : Int) := by omega
        have t7 : IntKind.i64.wrap ((n : Int) - 1 - (i : Int)) = (k : Int) := by rw [IntKind.wrap_i64]; omega
        have t8 : IntKind.i64.wrap ((n : Int) - 1) = (n : Int) - 1 := by rw [IntKind.wrap_i64]; omega
        have t9 : IntKind.i64.wrap ((8 : Int) * (r : Int)) = (8 : Int) * (r : Int) := by rw [IntKind.wrap_i64]; omega
        have t10 : (0 : Int) ≤ (8 : Int) * (r : Int) := by omega
        have t11 : (j : Int) < 128 := by omega
        have t12 : (0 : Int) ≤ (j : Int) := by omega
        have t13 : (k : Int) < (n : Int) := by omega
        have t14 : IntKind.u32.wrap ((c.toNat : Int) * 2 ^ (8 * r)) = (E : Int) := by rw [o3]; exact o4
        have c8 := c.toNat_lt
        have HV1 : Hid (bits .or .u32 (x.toNat : Int) ((c.toNat : Int) % 4294967296 * 2 ^ (8 * r) % 4294967296) = (z.toNat : Int)) := by
          rw [Hid, show (c.toNat : Int) % 4294967296 = (c.toNat : Int) by omega, o3, show (E : Int) % 4294967296 = (E : Int) by omega]
          exact o1
        have HPT : Hid ((wl S).set j (.int .u32 (z.toNat : Int)) = wl (S.set j z)) := by simp [Hid, wl]
        have HSL2 : Hid ((S.set j z).length = 128) := by rw [Hid, List.length_set]; exact HSL.out
        clear h1 h0 hj hr hk hp hsm hE hzn HVS HLO
        go_wp2_with fail
        go_region
        all_goals (
          go_wp2
          go_roundw
          case rel =>
            refine ⟨i + 1, S.set j z, by omega, by go_num, HSL2, HNV, ?_, ?_, ?_⟩
            · rw [← HPT.out, ← HV1.out]; exact cells_put G1.out _
            · exact (Below.heap_setCell _ _ _ _ (by show W.heap.size ≠ W.heap.size + 1; omega)).trans G0.out
            · exact (Below.setCell hbl (by show W.heap.size ≤ W.heap.size + 1; omega) _).drew
          case measure => simp [intOf]; omega)
      · obtain rfl : i = n := by omega
        have HNT : Hid (∀ W' : World, W'.heap[W.heap.size + 1]? = some (.cells (wl S).toArray 25 (0, 0)) → Calls Tryd.prog 37 #[.slice (some ⟨W.heap.size + 1, 0, none⟩) 128 128] W' fun e w' => e = .returned (.tuple #[.agg (natL (numB t)).toArray, .int .i64 0]) ∧ Below W'.heap.size W' w') := fun W' g => by
          have h := natOf_in W' (W.heap.size + 1) 25 0 128 128 [] [] S rfl HSL.out (by omega) (by omega) (by omega) (by omega) (by rw [List.nil_append, List.append_nil]; exact g)
          have hl := val_lt S
          rw [HSL.out] at hl
          rw [natR_ok _ hl, HSV.out, Nat.sub_self, List.drop_zero] at h
          exact h
        clear h1 h0
        go_wp2_with fail
        refine (HNT.out _ (by exact G1.out)).mono ?_
        rintro e w7 ⟨rfl, hb7⟩
        have Z7 : Hid (w7.heap[W.heap.size]? = some (.cells (natL 0).toArray 27 (0, 0))) := (hb7.block _ (box_lt G0.out)).trans G0.out
        have B7 : Below W.heap.size W w7 := bthen hbl hb7
        have hst := store_cells Z7.out (natL_len 0) (natL_len (numB t)) (natL_cells (numB t))
        have hlen := natL_len
        go_wp2
        refine bodyPost_ret (results_nat_tmp Tryd.results10 rfl rfl (setRow_heap _ _ _ _ _ _ Z7.out) (natL_len (numB t))) rfl ⟨HE.out.symm, below_row B7 (Nat.le_refl _) _⟩
  · have HE : Hid (ofR s.data.toList = .returned (.tuple #[.agg (natL 0).toArray, .int .i64 3])) := by rw [Hid, HRES.out, if_neg hn512]
    have hni : (512 : Int) < (n : Int) := by omega
    go_upto_region 3 with fail
    refine wp_region_lit ?_
    refine wpList_run (W' := V) (v := .agg (natL 0).toArray) rfl (op_build26 rfl) ?_
    refine wpList_runS rfl (op_store Z0.out (natL_len 0) (natL_len 0) (natL_cells 0) rfl rfl rfl) ?_
    go_wp2
    refine bodyPost_ret (results_nat_tmp Tryd.results10 rfl rfl (setRow_heap _ _ _ _ _ _ Z0.out) (natL_len 0)) rfl ⟨HE.out.symm, below_row hB0 (Nat.le_refl _) _⟩
end Go.Proofs.YthjhemodmdficaaDoor
