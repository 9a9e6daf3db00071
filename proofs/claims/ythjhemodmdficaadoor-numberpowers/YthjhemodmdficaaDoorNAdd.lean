/- addTimes, addTo. -/
import Derived.Test.YthjhemodmdficaaDoorNBase
namespace Go.Proofs.YthjhemodmdficaaDoor
set_option linter.unusedVariables false
open Go.RowKit
/-- a digit more: what is added so far. -/
theorem add_step (B V X Y T c x y P z c' : Nat) (h : V + B * c = X + T * Y) (hP : P = T * y) (hz : z + 4294967296 * c' = P + x + c) : V + B * z + B * 4294967296 * c' = X + B * x + T * (Y + B * y) := by
  have h1 : B * (z + 4294967296 * c') = B * (P + x + c) := by rw [hz]
  rw [Nat.mul_add, Nat.mul_add, Nat.mul_add, hP] at h1
  rw [Nat.mul_add, Nat.mul_assoc B]
  have h2 : B * (T * y) = T * (B * y) := by rw [← Nat.mul_assoc, ← Nat.mul_assoc, Nat.mul_comm B T]
  rw [h2] at h1
  omega
set_option maxRecDepth 100000 in
set_option maxHeartbeats 2000000 in
theorem addTimes_in (W : World) (g h t o p c1 c2 n : Nat) (A C : List Value) (xs ys : List (BitVec 32)) (tm : BitVec 32) (hA : A.length = o) (hx : xs.length = n) (hy : ys.length = n) (hn : n ≤ 1000) (ho : o ≤ 1000) (hp : p ≤ 1000)
    (hg : W.heap[g]? = some (.cells (A ++ (wl xs ++ C)).toArray t (0, 0))) (hne : h ≠ g) (hh : ∀ j, j < n → W.cell? ⟨h, p + j, none⟩ = some (.int .u32 ((ys[j]?.getD 0).toNat : Int))) :
    Calls Tryd.prog 45 #[.slice (some ⟨g, o, none⟩) n c1, .slice (some ⟨h, p, none⟩) n c2, .int .u32 (tm.toNat : Int)] W fun e w' => ∃ (zs : List (BitVec 32)) (c : BitVec 32), zs.length = n ∧ val zs + 4294967296 ^ n * c.toNat = val xs + tm.toNat * val ys ∧ e = .returned (.int .u32 (c.toNat : Int)) ∧ w'.heap[g]? = some (.cells (A ++ (wl zs ++ C)).toArray t (0, 0)) ∧ But g W w' := by
  have HA := Hid.mk hA
  have HX := Hid.mk hx
  have HY := Hid.mk hy
  have HG := Hid.mk hg
  have HH := Hid.mk hh
  clear hA hx hy hg hh
  go_enter Tryd.func45, Tryd.ntmps45
  go_wp2_with fail
  go_loopw [7, 12] (fun cv i wr => ∃ (m cr : Nat) (zs : List (BitVec 32)), m ≤ n ∧ i = .int .i64 (m : Int) ∧ cv = .int .u64 (cr : Int) ∧ cr < 4294967296 ∧ Hid (zs.length = m) ∧ Hid (val zs + 4294967296 ^ m * cr = val (xs.take m) + tm.toNat * val (ys.take m)) ∧ wr.heap[g]? = some (.cells (A ++ (wl (zs ++ xs.drop m) ++ C)).toArray t (0, 0)) ∧ But g W wr) (fun _ i _ => n - (intOf i).toNat)
  case atStart => exact ⟨0, 0, [], by omega, rfl, rfl, by omega, rfl, by rw [Hid, List.take_zero, List.take_zero]; simp [val], HG.out, But.refl _ _⟩
  case round =>
    obtain ⟨m, cr, zs, hm, rfl, rfl, hcr, HZL, HV, h1, hbut⟩ := hrel
    have H1 := Hid.mk h1
    by_cases hlt : m < n
    · have hml : m < (zs ++ xs.drop m).length := by rw [List.length_append, List.length_drop, HZL.out, HX.out]; omega
      have hat : (zs ++ xs.drop m)[m]?.getD 0 = xs[m]?.getD 0 := by rw [List.getElem?_append_right (by rw [HZL.out]; omega), HZL.out, Nat.sub_self, List.getElem?_drop, Nat.add_zero]
      obtain ⟨hcx, hfx⟩ := cells_at h1 (mid_at A C _ m hml)
      rw [hat, HA.out] at hcx
      rw [HA.out] at hfx
      have hcy := hbut.cell (p := ⟨h, p + m, none⟩) hne (HH.out m hlt)
      have HST := Hid.mk (fun z => mid_set A C (zs ++ xs.drop m) m hml z)
      have HSL : Hid (∀ z : BitVec 32, (zs ++ xs.drop m).set m z = (zs ++ [z]) ++ xs.drop (m + 1)) := fun z => by
        rw [List.set_append_right _ _ (by rw [HZL.out]; omega), HZL.out, Nat.sub_self, List.append_assoc, List.drop_eq_getElem_cons (by rw [HX.out]; exact hlt)]
        rfl
      have HVX := Hid.mk (val_take_succ xs m (by rw [HX.out]; exact hlt))
      have HVY := Hid.mk (val_take_succ ys m (by rw [HY.out]; exact hlt))
      generalize xs[m]?.getD 0 = x at hcx HVX
      generalize ys[m]?.getD 0 = y at hcy HVY
      have hxl := bv_lt x
      have hyl := bv_lt y
      have htl := bv_lt tm
      obtain ⟨P, HP⟩ : ∃ P, Hid (P = tm.toNat * y.toNat) := ⟨_, rfl⟩
      have hPb : P ≤ 4294967295 * 4294967295 := by rw [HP.out]; exact Nat.mul_le_mul (by omega) (by omega)
      have hPi : (tm.toNat : Int) * (y.toNat : Int) = (P : Int) := by rw [HP.out, Int.natCast_mul]
      obtain ⟨T, hT⟩ : ∃ T, T = P + x.toNat + cr := ⟨_, rfl⟩
      have hTi : (P : Int) + (x.toNat : Int) + (cr : Int) = (T : Int) := by omega
      have hTb : T < 18446744073709551616 := by omega
      obtain ⟨z, HZ⟩ : ∃ z, Hid (z = BitVec.ofNat 32 T) := ⟨_, rfl⟩
      have hzn : z.toNat = T % 4294967296 := by rw [HZ.out, bv_of]
      have hz1 : (T : Int) % 4294967296 = (z.toNat : Int) := by omega
      have hz2 : IntKind.u32.wrap (T : Int) = (z.toNat : Int) := by rw [IntKind.wrap_u32]; omega
      obtain ⟨c', hc'⟩ : ∃ c', T / 4294967296 = c' := ⟨_, rfl⟩
      have hs1 : (T : Int) / 4294967296 = (c' : Int) := by omega
      have hcb : c' < 4294967296 := by omega
      have HEQ : Hid (z.toNat + 4294967296 * c' = P + x.toNat + cr) := by rw [Hid]; omega
      have HT := Hid.mk hT
      have HZN := Hid.mk hzn
      have HC := Hid.mk hc'
      have u1 : (m : Int) < (n : Int) := by omega
      have w1 : IntKind.u64.wrap ((tm.toNat : Int) * (y.toNat : Int)) = (P : Int) := by rw [hPi, IntKind.wrap_u64]; omega
      clear h1 hat hml hT hzn hc'
      go_wp2_with fail
      go_quiet (fail)
      have hcx2 : (wr.drewN nq).cell? ⟨g, o + m, none⟩ = _ := hcx
      have hfx2 : (wr.drewN nq).frozen? ⟨g, o + m, none⟩ = false := hfx
      have H2 : Hid ((wr.drewN nq).heap[g]? = _) := H1.out
      have hbut2 : But g W (wr.drewN nq) := hbut.trans (But.drewN _ _ _)
      clear hcx hfx H1 hbut hcy
      generalize wr.drewN nq = V at hcx2 hfx2 H2 hbut2 ⊢
      go_wp2
      go_roundw
      case rel =>
        refine ⟨m + 1, c', zs ++ [z], by omega, by go_num, by go_num, hcb, by rw [Hid, List.length_append, HZL.out]; rfl, ?_, ?_, hbut2.trans (But.setCell _ _ _ _)⟩
        · rw [Hid, val_snoc, HZL.out, HVX.out, HVY.out, Nat.pow_succ]
          exact add_step _ _ _ _ _ _ _ _ _ _ _ HV.out HP.out HEQ.out
        · have hh := cells_put (j := o + m) H2.out (.int .u32 (z.toNat : Int))
          rw [← HA.out, HST.out z, HSL.out z, HA.out] at hh
          exact hh
      case measure => simp [intOf]; omega
    · obtain rfl : m = n := by omega
      rw [List.drop_eq_nil_of_le (by rw [HX.out]; omega), List.append_nil] at H1
      have HV2 : Hid (val zs + 4294967296 ^ m * cr = val xs + tm.toNat * val ys) := by
        have := HV.out
        rwa [List.take_of_length_le (by rw [HX.out]; omega), List.take_of_length_le (by rw [HY.out]; omega)] at this
      have hw : IntKind.u32.wrap (cr : Int) = (cr : Int) := by rw [IntKind.wrap_u32]; omega
      clear h1
      go_wp2
      go_ret
      refine ⟨zs, BitVec.ofNat 32 cr, HZL.out, ?_, ?_, H1.out, hbut⟩
      · rw [bv_of, Nat.mod_eq_of_lt hcr]; exact HV2.out
      · rw [bv_of, Nat.mod_eq_of_lt hcr]; rfl
end Go.Proofs.YthjhemodmdficaaDoor
