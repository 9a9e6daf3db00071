/- Texts of this proof, joined: NOf, NDivF, NSwap. -/
import Derived.Test.YtpimliebiapnfaaGreatDoorJ3
/- Of. -/
namespace Go.Proofs.YtpimliebiapnfaaGreatDoor.N
set_option linter.unusedVariables false
open Go.RowKit
def numB : List UInt8 → Nat
  | [] => 0
  | c :: l => c.toNat * 256 ^ l.length + numB l
theorem numB_lt : ∀ l : List UInt8, numB l < 256 ^ l.length
  | [] => by simp [numB]
  | c :: l => by
    have h1 := numB_lt l
    have h2 : (c.toNat + 1) * 256 ^ l.length ≤ 256 * 256 ^ l.length := Nat.mul_le_mul_right _ (by have := c.toNat_lt; omega)
    rw [Nat.add_mul, Nat.one_mul] at h2
    rw [numB, List.length_cons, Nat.pow_succ]
    omega
theorem numB_strip : ∀ l : List UInt8, numB (strip l) = numB l
  | [] => rfl
  | c :: l => by
    rw [strip]
    by_cases h : c.toNat = 0
    · rw [if_pos h, numB_strip l, numB, h, Nat.zero_mul, Nat.zero_add]
    · rw [if_neg h]
theorem numB_low (l : List UInt8) (n i : Nat) (hn : l.length = n) (hi : i < n) : numB (l.drop (n - (i + 1))) = (l[n - 1 - i]?.getD 0).toNat * 256 ^ i + numB (l.drop (n - i)) := by
  rw [List.drop_eq_getElem_cons (by omega), numB, List.length_drop, show n - (i + 1) + 1 = n - i by omega, show l.length - (n - i) = i by omega, List.getElem?_eq_getElem (by omega : n - 1 - i < l.length)]
  have e : l[n - (i + 1)]'(by omega) = l[n - 1 - i]'(by omega) := by congr 1; omega
  rw [e]
  rfl
theorem val_set (l : List (BitVec 32)) (j : Nat) (h : j < l.length) (z : BitVec 32) : val (l.set j z) + 4294967296 ^ j * (l[j]?.getD 0).toNat = val l + 4294967296 ^ j * z.toNat := by
  have h1 := val_cut l j h
  have h2 := val_cut (l.set j z) j (by rw [List.length_set]; exact h)
  rw [List.take_set_of_le (Nat.le_refl _), List.drop_set_of_lt (by omega), List.getElem?_set_self h] at h2
  rw [h1, h2, Nat.mul_add, Nat.mul_add]
  show _ + (4294967296 ^ j * z.toNat + _) + _ = _
  omega
theorem dig_small (l : List (BitVec 32)) (j P : Nat) (h : j < l.length) (hv : val l < 4294967296 ^ j * P) : (l[j]?.getD 0).toNat < P := by
  have h1 := val_cut l j h
  apply Classical.byContradiction
  intro hn
  have h2 : 4294967296 ^ j * P ≤ 4294967296 ^ j * (l[j]?.getD 0).toNat := Nat.mul_le_mul_left _ (by omega)
  rw [Nat.mul_add] at h1
  omega
theorem pow_256 (i : Nat) : 256 ^ i = 4294967296 ^ (i / 4) * 2 ^ (8 * (i % 4)) := by
  rw [show (4294967296 : Nat) = 256 ^ 4 from rfl, Nat.pow_mul, show (2 : Nat) ^ 8 = 256 from rfl, ← Nat.pow_mul, ← Nat.pow_add, Nat.div_add_mod]
theorem or_byte (x c r : Nat) (hr : r < 4) (hc : c < 256) (hx : x < 2 ^ (8 * r)) : bits .or .u32 (x : Int) ((c * 2 ^ (8 * r) : Nat) : Int) = ((x + c * 2 ^ (8 * r) : Nat) : Int) ∧ x + c * 2 ^ (8 * r) < 4294967296 ∧ (c : Int) * 2 ^ (8 * r) = ((c * 2 ^ (8 * r) : Nat) : Int) := by
  have hp : 2 ^ (8 * r) ≤ 2 ^ 24 := Nat.pow_le_pow_right (by omega) (by omega)
  have h1 : (c + 1) * 2 ^ (8 * r) ≤ 256 * 2 ^ (8 * r) := Nat.mul_le_mul_right _ (by omega)
  rw [Nat.add_mul, Nat.one_mul] at h1
  have e : x ||| c * 2 ^ (8 * r) = x + c * 2 ^ (8 * r) := by
    rw [Nat.or_comm, Nat.mul_comm c, Nat.add_comm]
    exact (Nat.two_pow_add_eq_or_of_lt hx c).symm
  refine ⟨?_, by omega, by rw [Int.natCast_mul, Int.natCast_pow]; rfl⟩
  rw [u32_or_nat _ _ (by omega) (by omega), e]
theorem zero24' (W : World) : (zeroValue 36).run Tryz.prog W = .ok (.agg (wl (List.replicate 128 0)).toArray) W := by kernel_rfl
theorem zero24 (W : World) : (zeroValue 36).run Tryz.prog W = .ok (.agg (zl 128).toArray) W := by rw [zl_eq]; exact zero24' W
noncomputable def ofR (l : List UInt8) : Ending := if (strip l).length ≤ 512 then .returned (.tuple #[.agg (natL (numB l)).toArray, .int .i64 0]) else .returned (.tuple #[.agg (natL 0).toArray, .int .i64 3])
set_option maxRecDepth 100000 in
set_option maxHeartbeats 2000000 in
theorem of_in (s : ByteArray) (hs : s.size ≤ 140737488355328) (W : World) : Calls Tryz.prog 62 #[.string s] W fun e w' => e = ofR s.data.toList ∧ Below W.heap.size W w' := by
  obtain ⟨t, ht⟩ : ∃ t, strip s.data.toList = t := ⟨_, rfl⟩
  have HTR := Hid.mk (trim_in s hs)
  rw [ht] at HTR
  obtain ⟨U, hU⟩ : ∃ U : ByteArray, U = ⟨t.toArray⟩ := ⟨_, rfl⟩
  rw [← hU] at HTR
  obtain ⟨n, hn⟩ : ∃ n, U.size = n := ⟨_, rfl⟩
  have htn : t.length = n := by rw [← hn, hU, ba_size]
  have HTN := Hid.mk htn
  have hns : n ≤ 140737488355328 := by
    have : ∀ l : List UInt8, (strip l).length ≤ l.length := fun l => by
      induction l with
      | nil => exact Nat.le_refl _
      | cons c l ih => rw [strip]; split <;> simp <;> omega
    have := this s.data.toList
    rw [ht, htn, size_list] at this
    omega
  have HIX : Hid (∀ m, m < n → ∀ W : World, (Instr.index 9 (.string U) (.int .i64 (m : Int))).run Tryz.prog W = .ok (.int .u8 ((t[m]?.getD 0).toNat : Int)) W) := fun m hm W => index_get U m _ (by omega) (by rw [hU]) W
  have HNB : Hid (numB t = numB s.data.toList) := by rw [Hid, ← ht, numB_strip]
  have HRES : Hid (ofR s.data.toList = if n ≤ 512 then .returned (.tuple #[.agg (natL (numB t)).toArray, .int .i64 0]) else .returned (.tuple #[.agg (natL 0).toArray, .int .i64 3])) := by rw [Hid, ofR, ht, htn, HNB.out]
  clear HNB ht hU htn
  have hz := zero26
  have hz2 := zero24
  have hB0 : Below W.heap.size W (W.alloc (.cells (natL 0).toArray 38)) := (Below.refl _ _).alloc (Nat.le_refl _) _
  have Z0 := Hid.mk (boxed W (natL 0) 38)
  have hszV : (W.alloc (.cells (natL 0).toArray 38)).heap.size = W.heap.size + 1 := World.size_alloc ..
  go_enter Tryz.func62, Tryz.ntmps62
  go_wp2_with fail
  refine (HTR.out _).mono ?_
  rintro e w1 ⟨rfl, rfl⟩
  generalize W.alloc (.cells (natL 0).toArray 38) = V at hB0 Z0 hszV ⊢
  by_cases hn512 : n ≤ 512
  · have HE : Hid (ofR s.data.toList = .returned (.tuple #[.agg (natL (numB t)).toArray, .int .i64 0])) := by rw [Hid, HRES.out, if_pos hn512]
    have hni : (n : Int) ≤ 512 := by omega
    have H1 : Hid ((V.alloc (.cells (zl 128).toArray 36)).heap[W.heap.size + 1]? = some (.cells (zl 128).toArray 36 (0, 0))) := by rw [Hid, ← hszV]; exact heap_new _ _
    have H0 : Hid ((V.alloc (.cells (zl 128).toArray 36)).heap[W.heap.size]? = some (.cells (natL 0).toArray 38 (0, 0))) := (Below.heap_alloc _ _ _ (box_lt Z0.out)).trans Z0.out
    have hB1 : Below W.heap.size W (V.alloc (.cells (zl 128).toArray 36)) := hB0.alloc hB0.size _
    go_wp2_with fail
    generalize V.alloc (.cells (zl 128).toArray 36) = V1 at H1 H0 hB1 ⊢
    clear hz hz2 Z0 hB0 hszV
    go_loopw [15] (fun iv wr => ∃ (i : Nat) (S : List (BitVec 32)), i ≤ n ∧ iv = .int .i64 (i : Int) ∧ Hid (S.length = 128) ∧ Hid (val S = numB (t.drop (n - i))) ∧ wr.heap[W.heap.size + 1]? = some (.cells (wl S).toArray 36 (0, 0)) ∧ wr.heap[W.heap.size]? = some (.cells (natL 0).toArray 38 (0, 0)) ∧ Below W.heap.size W wr) (fun iv _ => n - (intOf iv).toNat)
    case atStart =>
      refine ⟨0, List.replicate 128 0, by omega, rfl, by rw [Hid, List.length_replicate], ?_, by rw [← zl_eq]; exact H1.out, H0.out, hB1⟩
      rw [Hid, val_zero, List.drop_eq_nil_of_le (by rw [HTN.out]; omega)]
      rfl
    case round =>
      obtain ⟨i, S, hi, rfl, HSL, HSV, h1, h0, hbl⟩ := hrel
      have G1 := Hid.mk h1
      have G0 := Hid.mk h0
      clear H1 H0 hB1
      by_cases hlt : i < n
      · obtain ⟨j, hj⟩ : ∃ j, i / 4 = j := ⟨_, rfl⟩
        obtain ⟨r, hr⟩ : ∃ r, i % 4 = r := ⟨_, rfl⟩
        obtain ⟨k, hk⟩ : ∃ k, n - 1 - i = k := ⟨_, rfl⟩
        have hj128 : j < 128 := by omega
        have hr4 : r < 4 := by omega
        have hp := pow_256 i
        rw [hj, hr] at hp
        have hsm : (S[j]?.getD 0).toNat < 2 ^ (8 * r) := by
          refine dig_small S j _ (by rw [HSL.out]; exact hj128) ?_
          rw [← hp, HSV.out]
          have := numB_lt (t.drop (n - i))
          rwa [List.length_drop, HTN.out, show n - (n - i) = i by omega] at this
        obtain ⟨hcx, hfx⟩ := cells_at h1 (wl_at S j (by rw [HSL.out]; exact hj128))
        have hix := HIX.out k (by omega)
        have HLO := Hid.mk (numB_low t n i HTN.out hlt)
        rw [hk] at HLO
        have HVS := Hid.mk (fun z => val_set S j (by rw [HSL.out]; exact hj128) z)
        generalize S[j]?.getD 0 = x at hcx hsm HVS
        generalize t[k]?.getD 0 = c at hix HLO
        obtain ⟨o1, o2, o3⟩ := or_byte x.toNat c.toNat r hr4 c.toNat_lt hsm
        obtain ⟨E, hE⟩ : ∃ E, c.toNat * 2 ^ (8 * r) = E := ⟨_, rfl⟩
        rw [hE] at o1 o2 o3
        obtain ⟨z, HZ⟩ : ∃ z, Hid (z = BitVec.ofNat 32 (x.toNat + E)) := ⟨_, rfl⟩
        have hzn : z.toNat = x.toNat + E := by rw [HZ.out, bv_of]; omega
        rw [← hzn] at o1
        have HNV : Hid (val (S.set j z) = numB (t.drop (n - (i + 1)))) := by
          have e1 := HVS.out z
          rw [hzn, Nat.mul_add, HSV.out] at e1
          have e2 : c.toNat * (4294967296 ^ j * 2 ^ (8 * r)) = 4294967296 ^ j * (c.toNat * 2 ^ (8 * r)) := Nat.mul_left_comm _ _ _
          rw [hE] at e2
          rw [Hid, HLO.out, hp, e2]
          omega
        have o4 : IntKind.u32.wrap (E : Int) = (E : Int) := by rw [IntKind.wrap_u32]; omega
        have hEb : E < 4294967296 := by omega
        have t1 : (i : Int).tdiv 4 = (j : Int) := by rw [Int.tdiv_eq_ediv_of_nonneg (by omega)]; omega
        have t2 : (i : Int) / 4 = (j : Int) := by omega
        have t3 : (i : Int).tmod 4 = (r : Int) := by rw [Int.tmod_eq_emod_of_nonneg (by omega)]; omega
        have t4 : (i : Int) % 4 = (r : Int) := by omega
        have t5 : ((8 : Int) * (r : Int)).toNat = 8 * r := by omega
        have t6 : (n : Int) - 1 - (i : Int) = (k : Int) := by omega
        have t7 : IntKind.i64.wrap ((n : Int) - 1 - (i : Int)) = (k : Int) := by rw [IntKind.wrap_i64]; omega
        have t8 : IntKind.i64.wrap ((n : Int) - 1) = (n : Int) - 1 := by rw [IntKind.wrap_i64]; omega
        have t9 : IntKind.i64.wrap ((8 : Int) * (r : Int)) = (8 : Int) * (r : Int) := by rw [IntKind.wrap_i64]; omega
        have t10 : (0 : Int) ≤ (8 : Int) * (r : Int) := by omega
        have t11 : (j : Int) < 128 := by omega
        have t12 : (0 : Int) ≤ (j : Int) := by omega
        have t13 : (k : Int) < (n : Int) := by omega
        have t14 : IntKind.u32.wrap ((c.toNat : Int) * 2 ^ (8 * r)) = (E : Int) := by rw [o3]; exact o4
        have c8 := c.toNat_lt
        have HV1 : Hid (bits .or .u32 (x.toNat : Int) ((c.toNat : Int) % 4294967296 * 2 ^ (8 * r) % 4294967296) = (z.toNat : Int)) := by
          rw [Hid, show (c.toNat : Int) % 4294967296 = (c.toNat : Int) by omega, o3, show (E : Int) % 4294967296 = (E : Int) by omega]
          exact o1
        have HPT : Hid ((wl S).set j (.int .u32 (z.toNat : Int)) = wl (S.set j z)) := by simp [Hid, wl]
        have HSL2 : Hid ((S.set j z).length = 128) := by rw [Hid, List.length_set]; exact HSL.out
        clear h1 h0 hj hr hk hp hsm hE hzn HVS HLO
        go_wp2_with fail
        go_region
        all_goals (
          go_wp2
          go_roundw
          case rel =>
            refine ⟨i + 1, S.set j z, by omega, by go_num, HSL2, HNV, ?_, ?_, ?_⟩
            · rw [← HPT.out, ← HV1.out]; exact cells_put G1.out _
            · exact (Below.heap_setCell _ _ _ _ (by show W.heap.size ≠ W.heap.size + 1; omega)).trans G0.out
            · exact (Below.setCell hbl (by show W.heap.size ≤ W.heap.size + 1; omega) _).drew
          case measure => simp [intOf]; omega)
      · obtain rfl : i = n := by omega
        have HNT : Hid (∀ W' : World, W'.heap[W.heap.size + 1]? = some (.cells (wl S).toArray 36 (0, 0)) → Calls Tryz.prog 87 #[.slice (some ⟨W.heap.size + 1, 0, none⟩) 128 128] W' fun e w' => e = .returned (.tuple #[.agg (natL (numB t)).toArray, .int .i64 0]) ∧ Below W'.heap.size W' w') := fun W' g => by
          have h := natOf_in W' (W.heap.size + 1) 36 0 128 128 [] [] S rfl HSL.out (by omega) (by omega) (by omega) (by omega) (by rw [List.nil_append, List.append_nil]; exact g)
          have hl := val_lt S
          rw [HSL.out] at hl
          rw [natR_ok _ hl, HSV.out, Nat.sub_self, List.drop_zero] at h
          exact h
        clear h1 h0
        go_wp2_with fail
        refine (HNT.out _ (by exact G1.out)).mono ?_
        rintro e w7 ⟨rfl, hb7⟩
        have Z7 : Hid (w7.heap[W.heap.size]? = some (.cells (natL 0).toArray 38 (0, 0))) := (hb7.block _ (box_lt G0.out)).trans G0.out
        have B7 : Below W.heap.size W w7 := bthen hbl hb7
        have hst := store_cells Z7.out (natL_len 0) (natL_len (numB t)) (natL_cells (numB t))
        have hlen := natL_len
        go_wp2
        refine bodyPost_ret (results_nat_tmp Tryz.results62 rfl rfl (setRow_heap _ _ _ _ _ _ Z7.out) (natL_len (numB t))) rfl ⟨HE.out.symm, below_row B7 (Nat.le_refl _) _⟩
  · have HE : Hid (ofR s.data.toList = .returned (.tuple #[.agg (natL 0).toArray, .int .i64 3])) := by rw [Hid, HRES.out, if_neg hn512]
    have hni : (512 : Int) < (n : Int) := by omega
    go_upto_region 3 with fail
    refine wp_region_lit ?_
    refine wpList_run (W' := V) (v := .agg (natL 0).toArray) rfl (op_build26 rfl) ?_
    refine wpList_runS rfl (op_store Z0.out (natL_len 0) (natL_len 0) (natL_cells 0) rfl rfl rfl) ?_
    go_wp2
    refine bodyPost_ret (results_nat_tmp Tryz.results62 rfl rfl (setRow_heap _ _ _ _ _ _ Z0.out) (natL_len 0)) rfl ⟨HE.out.symm, below_row hB0 (Nat.le_refl _) _⟩
end Go.Proofs.YtpimliebiapnfaaGreatDoor.N
/- Facts on long division: nothing of the program. -/
namespace Go.Proofs.YtpimliebiapnfaaGreatDoor.N
set_option linter.unusedVariables false
theorem lead_ok (d : Nat) (h0 : 0 < d) (h1 : d < 4294967296) : btl d ≤ 32 ∧ 1 ≤ btl d ∧ 2147483648 ≤ d * 2 ^ (32 - btl d) ∧ (d + 1) * 2 ^ (32 - btl d) ≤ 4294967296 := by
  have hd : d ≠ 0 := by omega
  have hb : btl d = Nat.log2 d + 1 := if_neg hd
  have a1 := Nat.log2_self_le hd
  have a2 := Nat.lt_log2_self (n := d)
  have a3 := (Nat.log2_lt hd).2 (show d < 2 ^ 32 by omega)
  rw [hb]
  refine ⟨by omega, by omega, ?_, ?_⟩
  · have h2 : 2 ^ Nat.log2 d * 2 ^ (32 - (Nat.log2 d + 1)) ≤ d * 2 ^ (32 - (Nat.log2 d + 1)) := Nat.mul_le_mul_right _ a1
    rw [← Nat.pow_add, show Nat.log2 d + (32 - (Nat.log2 d + 1)) = 31 by omega] at h2
    omega
  · have h2 : (d + 1) * 2 ^ (32 - (Nat.log2 d + 1)) ≤ 2 ^ (Nat.log2 d + 1) * 2 ^ (32 - (Nat.log2 d + 1)) := Nat.mul_le_mul_right _ a2
    rw [← Nat.pow_add, show Nat.log2 d + 1 + (32 - (Nat.log2 d + 1)) = 32 by omega] at h2
    omega
theorem up_fits (P d low s M : Nat) (hM : M = low + P * d) (hl : low < P) (hs : (d + 1) * s ≤ 4294967296) (h0 : 0 < s) : M * s < P * 4294967296 ∧ P * (d * s) ≤ M * s := by
  have h1 : M + 1 ≤ P * (d + 1) := by rw [Nat.mul_add, Nat.mul_one]; omega
  have h2 : (M + 1) * s ≤ P * (d + 1) * s := Nat.mul_le_mul_right _ h1
  rw [Nat.mul_assoc, Nat.add_mul, Nat.one_mul] at h2
  have h3 : P * ((d + 1) * s) ≤ P * 4294967296 := Nat.mul_le_mul_left _ hs
  refine ⟨by omega, ?_⟩
  rw [← Nat.mul_assoc]
  exact Nat.mul_le_mul_right _ (by omega)
theorem div_step (X D P A x : Nat) (hP : 0 < P) (hD : 0 < D) (hA : A < P) (hR : A + P * x = X % (D * (P * 4294967296))) :
    x < D * 4294967296 ∧ A + P * (x % D) = X % (D * P) ∧ X / (D * P) = 4294967296 * (X / (D * (P * 4294967296))) + x / D := by
  have hDP : 0 < D * P := Nat.mul_pos hD hP
  have hlt : X % (D * (P * 4294967296)) < D * (P * 4294967296) := Nat.mod_lt _ (Nat.mul_pos hD (Nat.mul_pos hP (by omega)))
  have h1 : x < D * 4294967296 := by
    apply Classical.byContradiction
    intro hn
    have h2 : P * (D * 4294967296) ≤ P * x := Nat.mul_le_mul_left _ (by omega)
    have h3 : P * (D * 4294967296) = D * (P * 4294967296) := Nat.mul_left_comm _ _ _
    omega
  have hm : x % D < D := Nat.mod_lt _ hD
  have hsm : A + P * (x % D) < D * P := by
    have h2 : P * (x % D + 1) ≤ P * D := Nat.mul_le_mul_left _ hm
    rw [Nat.mul_add, Nat.mul_one, Nat.mul_comm P D] at h2
    omega
  have hX : X = D * P * (4294967296 * (X / (D * (P * 4294967296))) + x / D) + (A + P * (x % D)) := by
    have e1 := Nat.div_add_mod X (D * (P * 4294967296))
    have e2 := Nat.div_add_mod x D
    rw [← hR] at e1
    have e3 : D * P * (4294967296 * (X / (D * (P * 4294967296))) + x / D) = D * (P * 4294967296) * (X / (D * (P * 4294967296))) + P * (D * (x / D)) := by
      rw [Nat.mul_add]
      congr 1
      · rw [← Nat.mul_assoc, Nat.mul_assoc D P]
      · rw [Nat.mul_comm D P, Nat.mul_assoc]
    have e4 : P * x = P * (D * (x / D)) + P * (x % D) := by rw [← Nat.mul_add, e2]
    rw [e3]
    omega
  refine ⟨h1, ?_, ?_⟩
  · have h2 := congrArg (· % (D * P)) hX
    simp only [Nat.mul_add_mod, Nat.mod_eq_of_lt hsm] at h2
    exact h2.symm
  · have h2 := congrArg (· / (D * P)) hX
    simp only [Nat.mul_add_div hDP, Nat.div_eq_of_lt hsm, Nat.add_zero] at h2
    exact h2
theorem shifted_div (N M s : Nat) (hs : 0 < s) : N * s / (M * s) = N / M ∧ N * s % (M * s) = N % M * s ∧ N % M * s / s = N % M :=
  ⟨Nat.mul_div_mul_right _ _ hs, Nat.mul_mod_mul_right _ _ _, Nat.mul_div_cancel _ hs⟩
end Go.Proofs.YtpimliebiapnfaaGreatDoor.N
/- divided's last region: both results stored as they are. -/
namespace Go.Proofs.YtpimliebiapnfaaGreatDoor.N
set_option linter.unusedVariables false
open Go.RowKit
theorem many_mid {W : World} {b t p : Nat} {zs ds : List (BitVec 32)} (h : W.heap[b]? = some (.cells ([] ++ (wl zs ++ (wl ds ++ [Value.int .i64 (p : Int)]))).toArray t (0, 0))) (hl : zs.length + ds.length = 128) : W.cell? ⟨b, 128, none⟩ = some (.int .i64 (p : Int)) := by
  refine (cells_at h ?_).1
  rw [List.nil_append, ← List.append_assoc, ← wl_app, List.getElem?_append_right (by rw [wl_len, List.length_append]; omega), wl_len, List.length_append, hl]
  rfl
theorem mid_cells {W : World} {b t : Nat} {zs : List (BitVec 32)} {C : List Value} (h : W.heap[b]? = some (.cells ([] ++ (wl zs ++ C)).toArray t (0, 0))) (j : Nat) (hj : j < zs.length) : W.cell? ⟨b, 0 + j, none⟩ = some (.int .u32 ((zs[j]?.getD 0).toNat : Int)) :=
  (cells_at h (mid_at [] C zs j hj)).1
theorem setRow_same {w : World} {b : Nat} {cs : Array Value} {t : TypeId} {fz : Nat × Nat} (h : w.heap[b]? = some (.cells cs t fz)) : w.setRow b cs = w := by
  have hh : (w.setRow b cs).heap = w.heap := by
    apply Array.ext_getElem?
    intro k
    by_cases e : k = b
    · subst e
      rw [setRow_heap w k cs cs t fz h, h]
    · exact setRow_other w b k cs e
  have e : w.setRow b cs = { w with heap := (w.setRow b cs).heap } := rfl
  rw [e, hh]
theorem results_nat2 {fn : Func} {p q : Tmp} (h : fn.results = #[.cell p 38, .cell q 38]) {tmps : Array Value} {W : World} {b c : Nat} {L M : List Value} {fz fy : Nat × Nat} (hp : tmps.getD p undef = .pointer (some ⟨b, 0, none⟩)) (hq : tmps.getD q undef = .pointer (some ⟨c, 0, none⟩)) (hb : W.heap[b]? = some (.cells L.toArray 38 fz)) (hc : W.heap[c]? = some (.cells M.toArray 38 fy)) (hs : L.length = 129) (ht : M.length = 129) :
    (results fn tmps).run Tryz.prog W = .ok (.tuple #[.agg L.toArray, .agg M.toArray]) W := by
  have hp' : tmps[p]?.getD undef = .pointer (some ⟨b, 0, none⟩) := by simpa using hp
  have hq' : tmps[q]?.getD undef = .pointer (some ⟨c, 0, none⟩) := by simpa using hq
  simp only [results, h]
  simp [hp', hq', asAddr, nat_loadV hb hs, nat_loadV hc ht]
theorem wpOp_run {ops : Array Oper} {i : Nat} {o : Oper} {Q : Exit → Act → World → Prop} {K : Act → World → Prop} {a : Act} {w w' : World} {v : Value} (hi : ops[i]? = some o) (hg : o.guard = none) (hrun : (execOp a.eval o).run Tryz.prog w = .ok (.value v) w') (k : K (a.put o.dst v) w') : wpOp Tryz.prog ops Q i K a w := by
  have hw : Region.wanted o (yielded ops a.tmps) = true := by simp [Region.wanted, hg]
  unfold wpOp
  rw [hi]
  simp only [hw, if_true]
  exact .inl (operwp_run hrun k)
theorem wpOp_runS {ops : Array Oper} {i : Nat} {o : Oper} {Q : Exit → Act → World → Prop} {K : Act → World → Prop} {a : Act} {w w' : World} (hi : ops[i]? = some o) (hg : o.guard = none) (hrun : (execOp a.eval o).run Tryz.prog w = .ok .skip w') (k : K (a.put o.dst undef) w') : wpOp Tryz.prog ops Q i K a w := by
  have hw : Region.wanted o (yielded ops a.tmps) = true := by simp [Region.wanted, hg]
  unfold wpOp
  rw [hi]
  simp only [hw, if_true]
  refine .inl ?_
  unfold Oper.wp
  rw [hrun]
  exact k
def sw : Array Oper := #[{ dst := some 81, op := Op.load 38 (Operand.tmp 4), type := 38, pos := "divide.go:23", after := #[], guard := none },
  { dst := some 82, op := Op.load 38 (Operand.tmp 5), type := 38, pos := "divide.go:23", after := #[{ on := 2, ground := Ground.gcOnly Departure.lateStores }], guard := none },
  { dst := none, op := Op.store 38 (Operand.tmp 4) (Operand.tmp 81), type := 0, pos := "divide.go:23", after := #[{ on := 0, ground := Ground.data }, { on := 0, ground := Ground.phase }, { on := 1, ground := Ground.textOnly Departure.lateStores }], guard := none },
  { dst := none, op := Op.store 38 (Operand.tmp 5) (Operand.tmp 82), type := 0, pos := "divide.go:23", after := #[{ on := 1, ground := Ground.data }, { on := 2, ground := Ground.chain }, { on := 0, ground := Ground.phase }, { on := 1, ground := Ground.phase }, { on := 2, ground := Ground.phase }], guard := none }]
theorem sw0 : Region.ready .any sw #[false, false, false, false] = [0, 1] := by kernel_rfl
theorem sw1 : Region.ready .any sw #[true, false, false, false] = [1, 2] := by kernel_rfl
theorem sw2 : Region.ready .any sw #[false, true, false, false] = [0] := by kernel_rfl
theorem sw3 : Region.ready .any sw #[true, true, false, false] = [2] := by kernel_rfl
theorem sw4 : Region.ready .any sw #[true, false, true, false] = [1] := by kernel_rfl
theorem sw5 : Region.ready .any sw #[true, true, true, false] = [3] := by kernel_rfl
theorem sw6 : Region.ready .any sw #[true, true, true, true] = [] := by kernel_rfl
theorem any_step {Q : Exit → Act → World → Prop} {n : Nat} {listed : Array Bool} {a : Act} {w : World} {rs : List Nat} (hr : Region.ready .any sw listed = rs) (hne : rs ≠ []) (h : ∀ i ∈ rs, wpOp Tryz.prog sw Q i (wpAny Tryz.prog .any sw Q n (listed.setIfInBounds i true)) a w) : wpAny Tryz.prog .any sw Q (n + 1) listed a w :=
  ⟨fun e => absurd (hr.symm.trans e) hne, fun i hi => h i (by rw [hr] at hi; exact hi)⟩
theorem any_end {Q : Exit → Act → World → Prop} {listed : Array Bool} {a : Act} {w : World} (hr : Region.ready .any sw listed = []) (h : Q .normal a w) : wpAny Tryz.prog .any sw Q 0 listed a w := ⟨hr, h⟩
theorem put_get {a : Act} {d : Nat} {v : Value} (h : d < a.tmps.size) : (a.put (some d) v).eval (.tmp d) = v := by
  simp [Act.eval, Act.put, h]
theorem put_size {a : Act} {d : Nat} {v : Value} : (a.put (some d) v).tmps.size = a.tmps.size := by simp [Act.put]
theorem put_oth {a : Act} {d t : Nat} {v : Value} (h : t ≠ d) : (a.put (some d) v).eval (.tmp t) = a.eval (.tmp t) := by
  simp [Act.eval, Act.put, Ne.symm h]
theorem swap_any {Q : Exit → Act → World → Prop} {U : World} {a : Act} {b c : Nat} {L M : List Value} (hL : L.length = 129) (hM : M.length = 129) (h1 : ∀ v ∈ L, v.oneCell' = true) (h2 : ∀ v ∈ M, v.oneCell' = true) (hb : U.heap[b]? = some (.cells L.toArray 38 (0, 0))) (hc : U.heap[c]? = some (.cells M.toArray 38 (0, 0)))
    (e4 : a.eval (.tmp 4) = .pointer (some ⟨b, 0, none⟩)) (e5 : a.eval (.tmp 5) = .pointer (some ⟨c, 0, none⟩)) (hs : 83 ≤ a.tmps.size) (q1 : Q .normal ((a.put (some 81) (.agg L.toArray)).put (some 82) (.agg M.toArray)) U) (q2 : Q .normal ((a.put (some 82) (.agg M.toArray)).put (some 81) (.agg L.toArray)) U) :
    wpAny Tryz.prog .any sw Q 4 #[false, false, false, false] a U := by
  have st4 : ∀ {a' : Act} {K : Act → World → Prop}, a'.eval (.tmp 4) = .pointer (some ⟨b, 0, none⟩) → a'.eval (.tmp 81) = .agg L.toArray → K a' U → wpOp Tryz.prog sw Q 2 K a' U := fun {a' K} x y k => by
    have hr := op_store (o := { dst := none, op := Op.store 38 (Operand.tmp 4) (Operand.tmp 81), type := 0, pos := "divide.go:23", after := #[{ on := 0, ground := Ground.data }, { on := 0, ground := Ground.phase }, { on := 1, ground := Ground.textOnly Departure.lateStores }], guard := none }) hb hL hL h1 rfl x y
    rw [setRow_same hb] at hr
    exact wpOp_runS rfl rfl hr k
  have st5 : ∀ {a' : Act} {K : Act → World → Prop}, a'.eval (.tmp 5) = .pointer (some ⟨c, 0, none⟩) → a'.eval (.tmp 82) = .agg M.toArray → K a' U → wpOp Tryz.prog sw Q 3 K a' U := fun {a' K} x y k => by
    have hr := op_store (o := { dst := none, op := Op.store 38 (Operand.tmp 5) (Operand.tmp 82), type := 0, pos := "divide.go:23", after := #[{ on := 1, ground := Ground.data }, { on := 2, ground := Ground.chain }, { on := 0, ground := Ground.phase }, { on := 1, ground := Ground.phase }, { on := 2, ground := Ground.phase }], guard := none }) hc hM hM h2 rfl x y
    rw [setRow_same hc] at hr
    exact wpOp_runS rfl rfl hr k
  have ld4 : ∀ {a' : Act} {K : Act → World → Prop}, a'.eval (.tmp 4) = .pointer (some ⟨b, 0, none⟩) → K (a'.put (some 81) (.agg L.toArray)) U → wpOp Tryz.prog sw Q 0 K a' U := fun {a' K} x k => wpOp_run rfl rfl (op_load hb hL rfl x) k
  have ld5 : ∀ {a' : Act} {K : Act → World → Prop}, a'.eval (.tmp 5) = .pointer (some ⟨c, 0, none⟩) → K (a'.put (some 82) (.agg M.toArray)) U → wpOp Tryz.prog sw Q 1 K a' U := fun {a' K} x k => wpOp_run rfl rfl (op_load hc hM rfl x) k
  have w1 : (a.put (some 81) (.agg L.toArray)).eval (.tmp 4) = .pointer (some ⟨b, 0, none⟩) := (put_oth (by omega)).trans e4
  have w2 : (a.put (some 81) (.agg L.toArray)).eval (.tmp 5) = .pointer (some ⟨c, 0, none⟩) := (put_oth (by omega)).trans e5
  have w3 : (a.put (some 81) (.agg L.toArray)).eval (.tmp 81) = .agg L.toArray := put_get (by omega)
  have v1 : ((a.put (some 81) (.agg L.toArray)).put (some 82) (.agg M.toArray)).eval (.tmp 4) = .pointer (some ⟨b, 0, none⟩) := (put_oth (by omega)).trans w1
  have v2 : ((a.put (some 81) (.agg L.toArray)).put (some 82) (.agg M.toArray)).eval (.tmp 5) = .pointer (some ⟨c, 0, none⟩) := (put_oth (by omega)).trans w2
  have v3 : ((a.put (some 81) (.agg L.toArray)).put (some 82) (.agg M.toArray)).eval (.tmp 81) = .agg L.toArray := (put_oth (by omega)).trans w3
  have v4 : ((a.put (some 81) (.agg L.toArray)).put (some 82) (.agg M.toArray)).eval (.tmp 82) = .agg M.toArray := put_get (by rw [put_size]; omega)
  have x1 : (a.put (some 82) (.agg M.toArray)).eval (.tmp 4) = .pointer (some ⟨b, 0, none⟩) := (put_oth (by omega)).trans e4
  have x2 : (a.put (some 82) (.agg M.toArray)).eval (.tmp 5) = .pointer (some ⟨c, 0, none⟩) := (put_oth (by omega)).trans e5
  have x3 : (a.put (some 82) (.agg M.toArray)).eval (.tmp 82) = .agg M.toArray := put_get (by omega)
  have y1 : ((a.put (some 82) (.agg M.toArray)).put (some 81) (.agg L.toArray)).eval (.tmp 4) = .pointer (some ⟨b, 0, none⟩) := (put_oth (by omega)).trans x1
  have y2 : ((a.put (some 82) (.agg M.toArray)).put (some 81) (.agg L.toArray)).eval (.tmp 5) = .pointer (some ⟨c, 0, none⟩) := (put_oth (by omega)).trans x2
  have y3 : ((a.put (some 82) (.agg M.toArray)).put (some 81) (.agg L.toArray)).eval (.tmp 82) = .agg M.toArray := (put_oth (by omega)).trans x3
  have y4 : ((a.put (some 82) (.agg M.toArray)).put (some 81) (.agg L.toArray)).eval (.tmp 81) = .agg L.toArray := put_get (by rw [put_size]; omega)
  refine any_step sw0 (by simp) fun i hi => ?_
  rcases (show i = 0 ∨ i = 1 by simpa using hi) with rfl | rfl
  · refine ld4 e4 ?_
    refine any_step sw1 (by simp) fun i hi => ?_
    rcases (show i = 1 ∨ i = 2 by simpa using hi) with rfl | rfl
    · refine ld5 w2 ?_
      refine any_step sw3 (by simp) fun i hi => ?_
      obtain rfl : i = 2 := by simpa using hi
      refine st4 v1 v3 ?_
      refine any_step sw5 (by simp) fun i hi => ?_
      obtain rfl : i = 3 := by simpa using hi
      exact st5 v2 v4 (any_end sw6 q1)
    · refine st4 w1 w3 ?_
      refine any_step sw4 (by simp) fun i hi => ?_
      obtain rfl : i = 1 := by simpa using hi
      refine ld5 w2 ?_
      refine any_step sw5 (by simp) fun i hi => ?_
      obtain rfl : i = 3 := by simpa using hi
      exact st5 v2 v4 (any_end sw6 q1)
  · refine ld5 e5 ?_
    refine any_step sw2 (by simp) fun i hi => ?_
    obtain rfl : i = 0 := by simpa using hi
    refine ld4 x1 ?_
    refine any_step sw3 (by simp) fun i hi => ?_
    obtain rfl : i = 2 := by simpa using hi
    refine st4 y1 y4 ?_
    refine any_step sw5 (by simp) fun i hi => ?_
    obtain rfl : i = 3 := by simpa using hi
    exact st5 y2 y3 (any_end sw6 q2)
end Go.Proofs.YtpimliebiapnfaaGreatDoor.N