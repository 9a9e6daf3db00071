/- Layer 12: pick; RttBounds. -/
import Derived.Test.YtdgkknjmhdmlfaaTiEx
namespace Go.Proofs.Ytdgkknjmhdmlfaa
set_option linter.unusedVariables false
open Go.RowKit

/-- pick. -/
def pickR (c : Int) (n : Int) : Int := (if c < 0 then -(c + 1) else c).tmod n
theorem pickR_ge (c n : Int) : 0 ≤ pickR c n := by
  unfold pickR
  apply Int.tmod_nonneg
  split <;> omega
theorem pickR_lt (c n : Int) (h : 0 < n) : pickR c n < n := Int.tmod_lt_of_pos _ h
theorem pick_in (w : World) (c n : Int) (hc : -9223372036854775808 ≤ c ∧ c ≤ 9223372036854775807) (hn : 0 < n) (hn2 : n ≤ 1000000000) :
    Calls Try.prog 11 #[.int .i64 c, .int .i64 n] w fun e w' => e = .returned (.int .i64 (pickR c n)) ∧ w' = w := by
  have hn0 : ¬ n = 0 := by omega
  have hge := pickR_ge c n
  have hlt := pickR_lt c n hn
  by_cases h : c < 0
  · have hp : pickR c n = (-(c + 1)).tmod n := by unfold pickR; rw [if_pos h]
    rw [hp] at hge hlt ⊢
    go_enter Try.func11, Try.ntmps11
    go_wp2
    go_ret
    refine ⟨?_, rfl⟩
    show Ending.returned (Value.int .i64 (-(c + 1).tmod n)) = _
    rw [Int.neg_tmod]
  · have hp : pickR c n = c.tmod n := by unfold pickR; rw [if_neg h]
    rw [hp] at hge hlt ⊢
    go_enter Try.func11, Try.ntmps11
    go_wp2
    go_ret
    refine ⟨?_, rfl⟩
    show Ending.returned (Value.int .i64 (c % n)) = _
    rw [Int.tmod_eq_emod_of_nonneg (by omega)]


/-! ### how long to wait: bounds -/
theorem dn_up (x : Int) : 50 ≤ dn12 (up50 x) ∧ dn12 (up50 x) ≤ 12000 := by unfold dn12 up50; repeat' split <;> omega
theorem tmo_bd (a b c : Int) : 50 ≤ tmo a b c ∧ tmo a b c ≤ 12000 := by
  unfold tmo
  have h := dn_up (tm0 a b)
  obtain ⟨x, hx⟩ : ∃ x, dn12 (up50 (tm0 a b)) = x := ⟨_, rfl⟩
  rw [hx] at h ⊢
  have hp := two_pos c.toNat
  obtain ⟨P, hP⟩ : ∃ P, (2 : Int) ^ c.toNat = P := ⟨_, rfl⟩
  rw [hP] at hp ⊢
  have h1 : x * 1 ≤ x * P := Int.mul_le_mul_of_nonneg_left (by omega) (by omega)
  unfold dn12
  split <;> omega
theorem tmo_more (a b : Int) {c : Int} (h0 : 0 ≤ c) (h1 : c ≤ 10) : tmo a b c ≤ tmo a b (misC c) ∧ tmo a b (misC c) ≤ 2 * tmo a b c := by
  have hbd := tmo_bd a b c
  by_cases hc : c = 10
  · have : misC c = c := by unfold misC; rw [hc]; decide
    rw [this]
    omega
  · have e : misC c = c + 1 := by unfold misC; rw [if_neg (by omega)]
    rw [e]
    unfold tmo at *
    have h := dn_up (tm0 a b)
    obtain ⟨x, hx⟩ : ∃ x, dn12 (up50 (tm0 a b)) = x := ⟨_, rfl⟩
    rw [hx] at h hbd ⊢
    have hp := two_pos c.toNat
    have e2 : (2 : Int) ^ (c + 1).toNat = 2 ^ c.toNat * 2 := by rw [show (c + 1).toNat = c.toNat + 1 by omega, Int.pow_succ]
    rw [e2]
    obtain ⟨P, hP⟩ : ∃ P, (2 : Int) ^ c.toNat = P := ⟨_, rfl⟩
    rw [hP] at hp hbd ⊢
    have e3 : x * (P * 2) = x * P * 2 := (Int.mul_assoc x P 2).symm
    rw [e3]
    have h1 : x * 1 ≤ x * P := Int.mul_le_mul_of_nonneg_left (by omega) (by omega)
    obtain ⟨y, hy⟩ : ∃ y, x * P = y := ⟨_, rfl⟩
    rw [hy] at h1 hbd ⊢
    unfold dn12 at *
    repeat' split
    all_goals omega
theorem misC_bd {c : Int} (h0 : 0 ≤ c) (h1 : c ≤ 10) : 0 ≤ misC c ∧ misC c ≤ 10 := by unfold misC; split <;> omega
theorem W64.of {a : Int} (h : (Lit.int .i64 a).wf = true) : W64 a := Go.bounds_i64 h

set_option maxRecDepth 100000 in
set_option maxHeartbeats 4000000 in
theorem bounds_walk (srtt vary lost ms : Int) (w0 : (Lit.int .i64 srtt).wf = true) (w1 : (Lit.int .i64 vary).wf = true) (w2 : (Lit.int .i64 lost).wf = true) (w3 : (Lit.int .i64 ms).wf = true) (W : World) :
    Calls Try.prog 7 #[.int .i64 srtt, .int .i64 vary, .int .i64 lost, .int .i64 ms] W fun e w' => e = .returned (.bool true) ∧ Below W.heap.size W w' := by
  have HT := Hid.mk (fun w => timeout_in w srtt vary lost)
  have HM := Hid.mk (fun w => miss_in w srtt vary lost)
  obtain ⟨A1, hA⟩ : ∃ x, wn srtt 1000000 = x := ⟨_, rfl⟩
  obtain ⟨B1, hB⟩ : ∃ x, wn vary 1000000 = x := ⟨_, rfl⟩
  obtain ⟨C1, hC⟩ : ∃ x, wn lost 10 = x := ⟨_, rfl⟩
  have a0 : 0 ≤ A1 := by rw [← hA]; exact wn_ge _ (by decide)
  have a1 : A1 ≤ 1000000 := by rw [← hA]; exact wn_le _ (by decide)
  have b0 : 0 ≤ B1 := by rw [← hB]; exact wn_ge _ (by decide)
  have b1 : B1 ≤ 1000000 := by rw [← hB]; exact wn_le _ (by decide)
  have c0 : 0 ≤ C1 := by rw [← hC]; exact wn_ge _ (by decide)
  have c1 : C1 ≤ 10 := by rw [← hC]; exact wn_le _ (by decide)
  rw [hA, hB, hC] at HT HM
  have HT2 := Hid.mk (fun w => timeout_in w A1 B1 (misC C1))
  have hmb := misC_bd c0 c1
  rw [wn_id a0 a1, wn_id b0 b1, wn_id hmb.1 hmb.2] at HT2
  have n0 := (tmo_bd A1 B1 C1).1
  have n1 := (tmo_bd A1 B1 C1).2
  have m1 := (tmo_bd A1 B1 (misC C1)).2
  have mn := (tmo_more A1 B1 c0 c1).1
  have m2 := (tmo_more A1 B1 c0 c1).2
  obtain ⟨n, hn⟩ : ∃ x, tmo A1 B1 C1 = x := ⟨_, rfl⟩
  obtain ⟨m, hm⟩ : ∃ x, tmo A1 B1 (misC C1) = x := ⟨_, rfl⟩
  rw [hn] at HT n0 n1 mn m2
  rw [hm] at HT2 m1 mn m2
  obtain ⟨D1, hD⟩ : ∃ x, misC C1 = x := ⟨_, rfl⟩
  rw [hD] at HM HT2
  clear hn hm hD hmb hA hB hC a0 a1 b0 b1 c0 c1
  have HP1 := Hid.mk (fun w => pick_in w ms 1000001 (W64.of w3) (by decide) (by decide))
  have HP2 := Hid.mk (fun w => pick_in w srtt 1000001 (W64.of w0) (by decide) (by decide))
  have HP3 := Hid.mk (fun w => pick_in w vary 1000 (W64.of w1) (by decide) (by decide))
  have p10 := pickR_ge ms 1000001
  have p11 := pickR_lt ms 1000001 (by decide)
  have p20 := pickR_ge srtt 1000001
  have p21 := pickR_lt srtt 1000001 (by decide)
  have p30 := pickR_ge vary 1000
  have p31 := pickR_lt vary 1000 (by decide)
  obtain ⟨q, hq⟩ : ∃ x, pickR ms 1000001 = x := ⟨_, rfl⟩
  obtain ⟨s, hs⟩ : ∃ x, pickR srtt 1000001 = x := ⟨_, rfl⟩
  obtain ⟨v, hv⟩ : ∃ x, pickR vary 1000 = x := ⟨_, rfl⟩
  rw [hq] at HP1 p10 p11
  rw [hs] at HP2 p20 p21
  rw [hv] at HP3 p30 p31
  clear hq hs hv
  have HS := Hid.mk (fun w => sample_in w s (1 + v) 0 q)
  rw [wn_id p20 (by omega), wn_id (show (0 : Int) ≤ 1 + v by omega) (by omega), wn_id p10 (by omega)] at HS
  have hno : ¬ (s = 0 ∧ 1 + v = 0) := by omega
  rw [(smp_no hno q).1, (smp_no hno q).2] at HS
  have t8 := td8 (q - s)
  have t4 := td4 ((if q - s < 0 then 0 - (q - s) else q - s) - (1 + v))
  obtain ⟨e8, he8⟩ : ∃ x, (q - s).tdiv 8 = x := ⟨_, rfl⟩
  obtain ⟨e4, he4⟩ : ∃ x, ((if q - s < 0 then 0 - (q - s) else q - s) - (1 + v)).tdiv 4 = x := ⟨_, rfl⟩
  rw [he8] at HS t8
  rw [he4] at HS t4
  obtain ⟨bs, hbs⟩ : ∃ x, s + e8 = x := ⟨_, rfl⟩
  obtain ⟨bv, hbv⟩ : ∃ x, 1 + v + e4 = x := ⟨_, rfl⟩
  rw [hbs, hbv] at HS
  have hb1 : s ≤ q → s ≤ bs ∧ bs ≤ q := fun h => by omega
  have hb2 : q ≤ s → q ≤ bs ∧ bs ≤ s := fun h => by omega
  have hbv0 : 0 ≤ bv := by
    have h5 : 0 ≤ (if q - s < 0 then 0 - (q - s) else q - s) := by split <;> omega
    obtain ⟨ab, hab⟩ : ∃ x, (if q - s < 0 then 0 - (q - s) else q - s) = x := ⟨_, rfl⟩
    rw [hab] at t4 h5
    omega
  have hbr : -2000000 ≤ bs ∧ bs ≤ 2000000 := by omega
  have g1 : -2000000 ≤ bs := hbr.1
  have g2 : bs ≤ 2000000 := hbr.2
  have HBs := Hid.mk (And.intro hb1 hb2)
  clear t8 t4 he8 he4 hbs hbv hno hb1 hb2 hbr
  go_enter Try.func7, Try.ntmps7
  go_wp2_with fail
  refine (examples_in W).mono ?_
  rintro e u0 ⟨rfl, z0⟩
  go_wp2_with fail
  refine (HT.out _).mono ?_
  rintro e u1 ⟨rfl, z1⟩
  have hb0 : Below u0.heap.size u0 (u0.alloc (.cells #[.int .i64 srtt, .int .i64 vary, .int .i64 lost] 46)) := (Below.refl _ _).alloc (Nat.le_refl _) _
  have hx := heap_alloc_last u0 (.cells #[.int .i64 srtt, .int .i64 vary, .int .i64 lost] 46 (0, 0))
  have hx1 := (z1.block u0.heap.size (blk_lt hx)).trans hx
  have x0 : u1.cell? ⟨u0.heap.size, 0, none⟩ = some (.int .i64 srtt) := cell_of_heap hx1 rfl
  have x1 : u1.cell? ⟨u0.heap.size, 1, none⟩ = some (.int .i64 vary) := cell_of_heap hx1 rfl
  have x2 : u1.cell? ⟨u0.heap.size, 2, none⟩ = some (.int .i64 lost) := cell_of_heap hx1 rfl
  have bW : Below W.heap.size W u1 := (z0.trans (hb0.mono z0.size)).trans (z1.mono (Nat.le_trans z0.size (by simp)))
  have HZ1 := Hid.mk bW
  clear z0 z1 hb0 hx hx1 bW
  go_wp2_with fail
  refine (HM.out _).mono ?_
  rintro e u2 ⟨rfl, z2⟩
  have HZ2 := Hid.mk z2
  clear z2 x0 x1 x2
  go_wp2_with fail
  refine (HT2.out _).mono ?_
  rintro e u3 ⟨rfl, z3⟩
  have HZ : Hid (Below W.heap.size W u3 ∧ W.heap.size ≤ u3.heap.size) := ⟨(HZ1.out.trans (HZ2.out.mono HZ1.out.size)).trans (z3.mono (Nat.le_trans HZ1.out.size HZ2.out.size)), Nat.le_trans HZ1.out.size (Nat.le_trans HZ2.out.size z3.size)⟩
  have k0 : ¬ n < 50 := by omega
  have k1 : ¬ 12000 < n := by omega
  have k2 : ¬ m < n := by omega
  have k3 : ¬ 12000 < m := by omega
  have k4 : ¬ 2 * n < m := by omega
  clear z3 HZ1 HZ2
  go_wp2_with fail
  refine (HP1.out _).mono ?_
  rintro e u4 ⟨rfl, rfl⟩
  go_wp2_with fail
  refine (HP2.out _).mono ?_
  rintro e u5 ⟨rfl, rfl⟩
  go_wp2_with fail
  refine (HP3.out _).mono ?_
  rintro e u6 ⟨rfl, rfl⟩
  go_wp2_with fail
  refine (HS.out _).mono ?_
  rintro e u7 ⟨rfl, z7⟩
  have HZ7 := Hid.mk z7
  clear z7
  obtain ⟨h1, h2⟩ := HBs.out
  have HE : Hid (Below W.heap.size W (u7.alloc (.cells #[.int .i64 bs, .int .i64 bv, .int .i64 0] 46))) := (HZ.out.1.trans (HZ7.out.mono HZ.out.2)).alloc (Nat.le_trans HZ.out.2 HZ7.out.size) _
  rcases Int.lt_trichotomy s q with h | h | h
  · have k1 := (h1 (by omega)).1
    have k2 := (h1 (by omega)).2
    have k3 : s ≤ q := by omega
    have k4 : ¬ q ≤ s := by omega
    have k5 : ¬ bs < s := by omega
    have k6 : ¬ q < bs := by omega
    clear h1 h2 h
    go_wp2
    go_ret
    exact ⟨rfl, HE.out⟩
  · subst h
    obtain rfl : bs = s := by have := h1 (by omega); omega
    clear h1 h2
    go_wp2
    go_ret
    exact ⟨rfl, HE.out⟩
  · have k1 := (h2 (by omega)).1
    have k2 := (h2 (by omega)).2
    have k3 : q ≤ s := by omega
    have k4 : ¬ s ≤ q := by omega
    have k5 : ¬ bs < q := by omega
    have k6 : ¬ s < bs := by omega
    clear h1 h2 h
    go_wp2
    go_ret
    exact ⟨rfl, HE.out⟩

end Go.Proofs.Ytdgkknjmhdmlfaa
