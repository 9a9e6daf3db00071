/- takeFrom, addTo, guess. -/
import Derived.Test.YthjhemodmdficaaDoorNAdd
namespace Go.Proofs.YthjhemodmdficaaDoor
set_option linter.unusedVariables false
open Go.RowKit
/-- a digit more: what is taken so far. -/
theorem take_step (B V X Y T c x y P z c' : Nat) (h : V + T * Y = X + B * c) (hP : P = T * y) (hz : z + P + c = x + 4294967296 * c') : V + B * z + T * (Y + B * y) = X + B * x + B * 4294967296 * c' := by
  have h1 : B * (z + P + c) = B * (x + 4294967296 * c') := by rw [hz]
  rw [Nat.mul_add, Nat.mul_add, Nat.mul_add, hP] at h1
  rw [Nat.mul_add, Nat.mul_assoc B]
  have h2 : B * (T * y) = T * (B * y) := by rw [← Nat.mul_assoc, ← Nat.mul_assoc, Nat.mul_comm B T]
  rw [h2] at h1
  omega
set_option maxRecDepth 100000 in
set_option maxHeartbeats 2000000 in
theorem takeFrom_in (W : World) (g h t o p c1 c2 n : Nat) (A C : List Value) (xs ys : List (BitVec 32)) (tm : BitVec 32) (hA : A.length = o) (hx : xs.length = n) (hy : ys.length = n) (hn : n ≤ 1000) (ho : o ≤ 1000) (hp : p ≤ 1000)
    (hg : W.heap[g]? = some (.cells (A ++ (wl xs ++ C)).toArray t (0, 0))) (hne : h ≠ g) (hh : ∀ j, j < n → W.cell? ⟨h, p + j, none⟩ = some (.int .u32 ((ys[j]?.getD 0).toNat : Int))) :
    Calls Tryd.prog 46 #[.slice (some ⟨g, o, none⟩) n c1, .slice (some ⟨h, p, none⟩) n c2, .int .u32 (tm.toNat : Int)] W fun e w' => ∃ (zs : List (BitVec 32)) (c : BitVec 32), zs.length = n ∧ val zs + tm.toNat * val ys = val xs + 4294967296 ^ n * c.toNat ∧ e = .returned (.int .u32 (c.toNat : Int)) ∧ w'.heap[g]? = some (.cells (A ++ (wl zs ++ C)).toArray t (0, 0)) ∧ But g W w' := by
  have HA := Hid.mk hA
  have HX := Hid.mk hx
  have HY := Hid.mk hy
  have HG := Hid.mk hg
  have HH := Hid.mk hh
  clear hA hx hy hg hh
  go_enter Tryd.func46, Tryd.ntmps46
  go_wp2_with fail
  go_loopw [7, 13] (fun cv i wr => ∃ (m cr : Nat) (zs : List (BitVec 32)), m ≤ n ∧ i = .int .i64 (m : Int) ∧ cv = .int .u64 (cr : Int) ∧ cr < 4294967296 ∧ Hid (zs.length = m) ∧ Hid (val zs + tm.toNat * val (ys.take m) = val (xs.take m) + 4294967296 ^ m * cr) ∧ wr.heap[g]? = some (.cells (A ++ (wl (zs ++ xs.drop m) ++ C)).toArray t (0, 0)) ∧ But g W wr) (fun _ i _ => n - (intOf i).toNat)
  case atStart => exact ⟨0, 0, [], by omega, rfl, rfl, by omega, rfl, by rw [Hid, List.take_zero, List.take_zero]; simp [val], HG.out, But.refl _ _⟩
  case round =>
    obtain ⟨m, cr, zs, hm, rfl, rfl, hcr, HZL, HV, h1, hbut⟩ := hrel
    have H1 := Hid.mk h1
    by_cases hlt : m < n
    · have hml : m < (zs ++ xs.drop m).length := by rw [List.length_append, List.length_drop, HZL.out, HX.out]; omega
      have hat : (zs ++ xs.drop m)[m]?.getD 0 = xs[m]?.getD 0 := by rw [List.getElem?_append_right (by rw [HZL.out]; omega), HZL.out, Nat.sub_self, List.getElem?_drop, Nat.add_zero]
      obtain ⟨hcx, hfx⟩ := cells_at h1 (mid_at A C _ m hml)
      rw [hat, HA.out] at hcx
      rw [HA.out] at hfx
      have hcy := hbut.cell (p := ⟨h, p + m, none⟩) hne (HH.out m hlt)
      have HST := Hid.mk (fun z => mid_set A C (zs ++ xs.drop m) m hml z)
      have HSL : Hid (∀ z : BitVec 32, (zs ++ xs.drop m).set m z = (zs ++ [z]) ++ xs.drop (m + 1)) := fun z => by
        rw [List.set_append_right _ _ (by rw [HZL.out]; omega), HZL.out, Nat.sub_self, List.append_assoc, List.drop_eq_getElem_cons (by rw [HX.out]; exact hlt)]
        rfl
      have HVX := Hid.mk (val_take_succ xs m (by rw [HX.out]; exact hlt))
      have HVY := Hid.mk (val_take_succ ys m (by rw [HY.out]; exact hlt))
      generalize xs[m]?.getD 0 = x at hcx HVX
      generalize ys[m]?.getD 0 = y at hcy HVY
      have hxl := bv_lt x
      have hyl := bv_lt y
      have htl := bv_lt tm
      obtain ⟨P, HP⟩ : ∃ P, Hid (P = tm.toNat * y.toNat) := ⟨_, rfl⟩
      have hPb : P ≤ 4294967295 * 4294967295 := by rw [HP.out]; exact Nat.mul_le_mul (by omega) (by omega)
      have hPi : (tm.toNat : Int) * (y.toNat : Int) = (P : Int) := by rw [HP.out, Int.natCast_mul]
      obtain ⟨T, hT⟩ : ∃ T, T = P + cr := ⟨_, rfl⟩
      have hTi : (P : Int) + (cr : Int) = (T : Int) := by omega
      have hTb : T ≤ 18446744069414584320 := by omega
      obtain ⟨tl, htl2⟩ : ∃ tl, T % 4294967296 = tl := ⟨_, rfl⟩
      obtain ⟨th, hth⟩ : ∃ th, T / 4294967296 = th := ⟨_, rfl⟩
      have q1 : (T : Int) % 4294967296 = (tl : Int) := by omega
      have q2 : IntKind.u32.wrap (T : Int) = (tl : Int) := by rw [IntKind.wrap_u32]; omega
      have q3 : (T : Int) / 4294967296 = (th : Int) := by omega
      obtain ⟨D, hD⟩ : ∃ D, (x.toNat + 18446744073709551616 - tl) % 18446744073709551616 = D := ⟨_, rfl⟩
      have q4 : IntKind.u64.wrap ((x.toNat : Int) - (tl : Int)) = (D : Int) := by rw [IntKind.wrap_u64]; omega
      have q4' : ((x.toNat : Int) - (tl : Int)) % 18446744073709551616 = (D : Int) := by omega
      obtain ⟨bw, hbw⟩ : ∃ bw, D / 9223372036854775808 = bw := ⟨_, rfl⟩
      have q5 : (D : Int) / 9223372036854775808 = (bw : Int) := by omega
      obtain ⟨z, HZ⟩ : ∃ z, Hid (z = BitVec.ofNat 32 D) := ⟨_, rfl⟩
      have hzn : z.toNat = D % 4294967296 := by rw [HZ.out, bv_of]
      have q6 : (D : Int) % 4294967296 = (z.toNat : Int) := by omega
      have q7 : IntKind.u32.wrap (D : Int) = (z.toNat : Int) := by rw [IntKind.wrap_u32]; omega
      obtain ⟨c', hc'⟩ : ∃ c', c' = th + bw := ⟨_, rfl⟩
      have q8 : (th : Int) + (bw : Int) = (c' : Int) := by omega
      have hDc : (tl ≤ x.toNat ∧ D = x.toNat - tl) ∨ (x.toNat < tl ∧ D = x.toNat + 18446744073709551616 - tl) := by
        clear q4 q4' q5 q6 q7 q8
        omega
      have hcb : c' < 4294967296 := by
        clear q4 q4' q5 q6 q7 q8 hzn
        rcases hDc with ⟨d1, d2⟩ | ⟨d1, d2⟩ <;> omega
      have HEQ : Hid (z.toNat + P + cr = x.toNat + 4294967296 * c') := by
        rw [Hid, hzn]
        clear q4 q4' q5 q6 q7 q8 hzn
        rcases hDc with ⟨d1, d2⟩ | ⟨d1, d2⟩ <;> omega
      have hDb : D < 18446744073709551616 := by omega
      have htlb : tl < 4294967296 := by omega
      have hthb : th < 4294967296 := by omega
      have hbwb : bw < 2 := by omega
      have u1 : (m : Int) < (n : Int) := by omega
      have w1 : IntKind.u64.wrap ((tm.toNat : Int) * (y.toNat : Int)) = (P : Int) := by rw [hPi, IntKind.wrap_u64]; omega
      clear h1 hat hml hT hzn hc' hD hbw htl2 hth hDc
      go_wp2
      go_roundw
      case rel =>
        refine ⟨m + 1, c', zs ++ [z], by omega, by go_num, by go_num, hcb, by rw [Hid, List.length_append, HZL.out]; rfl, ?_, ?_, hbut.trans (But.setCell _ _ _ _)⟩
        · rw [Hid, val_snoc, HZL.out, HVX.out, HVY.out, Nat.pow_succ]
          exact take_step _ _ _ _ _ _ _ _ _ _ _ HV.out HP.out HEQ.out
        · have hh := cells_put (j := o + m) H1.out (.int .u32 (z.toNat : Int))
          rw [← HA.out, HST.out z, HSL.out z, HA.out] at hh
          exact hh
      case measure => simp [intOf]; omega
    · obtain rfl : m = n := by omega
      rw [List.drop_eq_nil_of_le (by rw [HX.out]; omega), List.append_nil] at H1
      have HV2 : Hid (val zs + tm.toNat * val ys = val xs + 4294967296 ^ m * cr) := by
        have := HV.out
        rwa [List.take_of_length_le (by rw [HY.out]; omega), List.take_of_length_le (by rw [HX.out]; omega)] at this
      have hw : IntKind.u32.wrap (cr : Int) = (cr : Int) := by rw [IntKind.wrap_u32]; omega
      clear h1
      go_wp2
      go_ret
      refine ⟨zs, BitVec.ofNat 32 cr, HZL.out, ?_, ?_, H1.out, hbut⟩
      · rw [bv_of, Nat.mod_eq_of_lt hcr]; exact HV2.out
      · rw [bv_of, Nat.mod_eq_of_lt hcr]; rfl
theorem addTo_in (W : World) (g h t o p c1 c2 n : Nat) (A C : List Value) (xs ys : List (BitVec 32)) (hA : A.length = o) (hx : xs.length = n) (hy : ys.length = n) (hn : n ≤ 1000) (ho : o ≤ 1000) (hp : p ≤ 1000)
    (hg : W.heap[g]? = some (.cells (A ++ (wl xs ++ C)).toArray t (0, 0))) (hne : h ≠ g) (hh : ∀ j, j < n → W.cell? ⟨h, p + j, none⟩ = some (.int .u32 ((ys[j]?.getD 0).toNat : Int))) :
    Calls Tryd.prog 44 #[.slice (some ⟨g, o, none⟩) n c1, .slice (some ⟨h, p, none⟩) n c2] W fun e w' => ∃ (zs : List (BitVec 32)) (c : BitVec 32), zs.length = n ∧ val zs + 4294967296 ^ n * c.toNat = val xs + val ys ∧ e = .returned (.int .u32 (c.toNat : Int)) ∧ w'.heap[g]? = some (.cells (A ++ (wl zs ++ C)).toArray t (0, 0)) ∧ But g W w' := by
  have H := Hid.mk (addTimes_in W g h t o p c1 c2 n A C xs ys 1#32 hA hx hy hn ho hp hg hne hh)
  clear hg hh hA
  go_enter Tryd.func44, Tryd.ntmps44
  go_wp2_with fail
  refine H.out.mono ?_
  rintro e w1 ⟨zs, c, h1, h2, rfl, h3, h4⟩
  go_wp2
  go_ret
  refine ⟨zs, c, h1, ?_, rfl, h3, h4⟩
  rw [h2]
  show val xs + 1 * val ys = _
  rw [Nat.one_mul]
/-- a guess of a digit. -/
def gs (a b d : Nat) : Nat := min ((4294967296 * a + b) / d) 4294967295
theorem or64 (a b : Nat) (ha : a < 4294967296) (hb : b < 4294967296) : bits .or .u64 ((a : Int) * 4294967296) (b : Int) = ((4294967296 * a + b : Nat) : Int) := by
  have e : a * 4294967296 ||| b = 4294967296 * a + b := by
    have := (Nat.two_pow_add_eq_or_of_lt (i := 32) (b := b) (by omega) a).symm
    simp only [Nat.reducePow] at this
    rw [Nat.mul_comm a]
    exact this
  rw [show ((a : Int) * 4294967296) = ((a * 4294967296 : Nat) : Int) by omega, u64_or_nat _ _ (by omega) (by omega), e]
theorem guess_in (a b d : BitVec 32) (hd : 0 < d.toNat) (W : World) :
    Calls Tryd.prog 80 #[.int .u32 (a.toNat : Int), .int .u32 (b.toNat : Int), .int .u32 (d.toNat : Int)] W fun e w' => e = .returned (.int .u32 ((gs a.toNat b.toNat d.toNat : Nat) : Int)) ∧ w' = W := by
  have ha := bv_lt a
  have hb := bv_lt b
  have hdl := bv_lt d
  have hor := or64 a.toNat b.toNat ha hb
  obtain ⟨M, hM⟩ : ∃ M, 4294967296 * a.toNat + b.toNat = M := ⟨_, rfl⟩
  rw [hM] at hor
  obtain ⟨q, hq⟩ : ∃ q, M / d.toNat = q := ⟨_, rfl⟩
  have hq1 : (M : Int) / (d.toNat : Int) = (q : Int) := by rw [← hq, Int.natCast_ediv]
  have hq2 : (M : Int).tdiv (d.toNat : Int) = (q : Int) := by rw [Int.tdiv_eq_ediv_of_nonneg (by omega)]; exact hq1
  have hqb : q ≤ M := by rw [← hq]; exact Nat.div_le_self _ _
  have hMb : M < 18446744073709551616 := by omega
  obtain ⟨r, hr⟩ : ∃ r, gs a.toNat b.toNat d.toNat = r := ⟨_, rfl⟩
  have hr2 : r = min q 4294967295 := by rw [← hr, gs, hM, hq]
  have hd0 : ((d.toNat : Int) == 0) = false := by rw [beq_eq_false_iff_ne]; omega
  have hd1 : (0 : Int) < (d.toNat : Int) := by omega
  rw [hr]
  have HR := Hid.mk hr2
  clear hr hr2 hq hM
  go_enter Tryd.func80, Tryd.ntmps80
  go_wp2
  all_goals (
    go_ret
    refine ⟨ret_int ?_, rfl⟩
    rw [HR.out]
    omega)
end Go.Proofs.YthjhemodmdficaaDoor
