/- The document's Mul. -/
import Derived.Test.YthjhemodmdficaaDoorNR8
namespace Go.Proofs.YthjhemodmdficaaDoor
set_option linter.unusedVariables false
open Go.RowKit
theorem wl_set (l : List (BitVec 32)) (j : Nat) (z : BitVec 32) : (wl l).set j (.int .u32 (z.toNat : Int)) = wl (l.set j z) := by simp [wl]
theorem made_noughts (n : Nat) : (madeCells (Value.int .u32 0).cells (n * 1)).toList = wl (List.replicate n 0) := by
  apply List.ext_getElem?
  intro k
  simp [madeCells, wl, Value.cells, List.getElem?_replicate]
  by_cases hk : k < n
  · rw [if_pos hk, List.getElem?_range hk]
    simp [Nat.mod_one]
  · rw [if_neg hk, List.getElem?_eq_none (by simpa using hk)]
    rfl
theorem set_other (l : List (BitVec 32)) (j k : Nat) (z : BitVec 32) (h : k ≠ j) : (l.set j z)[k]?.getD 0 = l[k]?.getD 0 := by
  rw [List.getElem?_set_ne (Ne.symm h)]
theorem mul_in_step (V V0 P x Y y c old z c' V' : Nat) (h : V + P * c = V0 + Y) (hs : V' + P * old = V + P * z) (hz : z + 4294967296 * c' = x * y + old + c) : V' + P * 4294967296 * c' = V0 + (Y + P * (x * y)) := by
  have e : P * (z + 4294967296 * c') = P * (x * y + old + c) := by rw [hz]
  rw [Nat.mul_add, Nat.mul_add, Nat.mul_add, ← Nat.mul_assoc] at e
  omega
set_option maxRecDepth 100000 in
set_option maxHeartbeats 2000000 in
theorem rmul_go (W : World) (p q : Option Addr) (cp cq : Nat) (xs ys : List (BitVec 32)) (a b : Nat) (ha : xs.length = a) (hb : ys.length = b) (ha1 : a ≤ 100000) (hb1 : b ≤ 100000) (hX : Rd W p xs) (hY : Rd W q ys) : Calls Tryd.prog 25 #[.slice p a cp, .slice q b cq] W fun e w' => ∃ v, e = .returned v ∧ RN w' v (val xs * val ys) ∧ Below W.heap.size W w' := by
  obtain ⟨i0, hi, hz0, hz1, hz2⟩ := info_of info24
  have HX := Hid.mk hX
  have HY := Hid.mk hY
  have HA := Hid.mk ha
  have HB := Hid.mk hb
  obtain ⟨L, hL⟩ : ∃ L, a + b = L := ⟨_, rfl⟩
  have hLi : (a : Int) + (b : Int) = (L : Int) := by omega
  have hL0 : (0 : Int) ≤ (L : Int) := by omega
  have hL2 : L ≤ 200000 := by omega
  have HLL := Hid.mk hL
  clear hX hY ha hb hL
  go_enter Tryd.func25, Tryd.ntmps25
  go_wp2_with (at_make; refine wpList_make_full _ rfl _ _ 31 rfl W.heap.size 24 i0 (.int .u32 0) 1 Tryd.underlying31 hi hz0 hz1 _ _ _ _ L rfl rfl rfl rfl (by rw [hz2]; omega) (by unfold maxLen; omega) (Nat.le_refl _) ?_; intro w2 hown2 hgrow2)
  have B2 : Below W.heap.size W w2 := (Below.refl _ _).grown hgrow2 (Nat.le_refl _) (by simp)
  rw [made_noughts] at hown2
  have HO2 := Hid.mk hown2
  clear hown2 hgrow2
  obtain ⟨g0, hg0⟩ : ∃ g0, W.heap.size = g0 := ⟨_, rfl⟩
  rw [hg0] at HO2 ⊢
  have HG0 := Hid.mk hg0
  clear hg0 hLi
  go_wp2_with fail
  go_loopw [6] (fun iv wr => ∃ (i : Nat) (zs : List (BitVec 32)), i ≤ a ∧ iv = .int .i64 (i : Int) ∧ Hid (zs.length = L) ∧ Hid (val zs = val (xs.take i) * val ys) ∧ Hid (∀ j, i + b ≤ j → zs[j]?.getD 0 = 0) ∧ wr.ownsRow g0 24 1 (.slice (some ⟨g0, 0, none⟩) L L) L (wl zs) ∧ Below W.heap.size W wr) (fun iv _ => a - (intOf iv).toNat)
  case atStart => exact ⟨0, List.replicate L 0, by omega, rfl, by simp [Hid], by rw [Hid, val_zero, List.take_zero]; simp [val], fun j _ => by simp [List.getElem?_replicate]; split <;> rfl, HO2.out, B2⟩
  case round =>
    obtain ⟨i, zs, hia, rfl, HZL, HZV, HZ0, hown, hbl⟩ := hrel
    have HO := Hid.mk hown
    clear HO2 B2
    by_cases hlt : i < a
    · obtain ⟨g, rfl, hg, hcx⟩ := HX.out i (by rw [HA.out]; exact hlt)
      have hxl := bv_lt (xs[i]?.getD 0)
      have sx := val_take_any xs i
      generalize (xs[i]?.getD 0).toNat = x at *
      have HSX := Hid.mk sx
      have HCX := Hid.mk hcx
      have i1 : (i : Int) < (a : Int) := by omega
      have i0' : (0 : Int) ≤ (i : Int) := by omega
      have i2 : (i : Int) ≤ 100000 := by omega
      clear sx hcx hown
      go_wp2
      go_loopw [7, 8] (fun cv kv wx => ∃ (k c : Nat) (us : List (BitVec 32)), k ≤ b ∧ kv = .int .i64 (k : Int) ∧ cv = .int .u64 (c : Int) ∧ c < 4294967296 ∧ Hid (us.length = L) ∧ Hid (val us + 4294967296 ^ (i + k) * c = val zs + 4294967296 ^ i * (x * val (ys.take k))) ∧ Hid (∀ j, i + b ≤ j → us[j]?.getD 0 = 0) ∧ wx.ownsRow g0 24 1 (.slice (some ⟨g0, 0, none⟩) L L) L (wl us) ∧ Below W.heap.size W wx) (fun _ kv _ => b - (intOf kv).toNat)
      case atStart => exact ⟨0, 0, zs, by omega, rfl, rfl, by omega, HZL, by simp [Hid, val], HZ0, HO.out, hbl⟩
      case round =>
        obtain ⟨k, c, us, hkb, rfl, rfl, hc, HUL, HUV, HU0, hown, hbl2⟩ := hrel
        have HO3 := Hid.mk hown
        clear hbl
        by_cases hkl : k < b
        · obtain ⟨g', rfl, hg', hcy⟩ := HY.out k (by rw [HB.out]; exact hkl)
          have c1 : ∀ n, (wr.drewN n).cell? ⟨g, i, none⟩ = some (.int .u32 (x : Int)) := fun n => (hbl2.cell (p := ⟨g, i, none⟩) hg).trans HCX.out
          have c2 : ∀ n, (wr.drewN n).cell? ⟨g', k, none⟩ = some (.int .u32 ((ys[k]?.getD 0).toNat : Int)) := fun n => (hbl2.cell (p := ⟨g', k, none⟩) hg').trans hcy
          obtain ⟨t, ht⟩ : ∃ t, i + k = t := ⟨_, rfl⟩
          have htL : t < L := by have := HLL.out; omega
          have c3 : ∀ n, (wr.drewN n).cell? ⟨g0, t, none⟩ = some (.int .u32 ((us[t]?.getD 0).toNat : Int)) := fun n => by
            have := hown.cellAt t (by omega)
            rw [wl_at us t (by rw [HUL.out]; exact htL)] at this
            exact this
          have f3 : ∀ n, (wr.drewN n).frozen? ⟨g0, t, none⟩ = false := fun n => hown.frozenAt t
          have hyl := bv_lt (ys[k]?.getD 0)
          have sy := val_take_any ys k
          have hol := bv_lt (us[t]?.getD 0)
          have hst := fun z => val_set us t (by rw [HUL.out]; exact htL) z
          generalize (ys[k]?.getD 0).toNat = y at *
          generalize (us[t]?.getD 0).toNat = old at *
          have hxy : x * y ≤ 4294967295 * 4294967295 := Nat.mul_le_mul (by omega) (by omega)
          obtain ⟨pr, hpr⟩ : ∃ pr, x * y = pr := ⟨_, rfl⟩
          obtain ⟨s, hs⟩ : ∃ s, pr + old + c = s := ⟨_, rfl⟩
          obtain ⟨z, hz⟩ : ∃ z : BitVec 32, z.toNat = s % 4294967296 := ⟨BitVec.ofNat 32 (s % 4294967296), by rw [bv_of]; omega⟩
          obtain ⟨c', hc'⟩ : ∃ c', s / 4294967296 = c' := ⟨_, rfl⟩
          rw [hpr] at hxy
          have HUV' : Hid (val (us.set t z) + 4294967296 ^ (i + (k + 1)) * c' = val zs + 4294967296 ^ i * (x * val (ys.take (k + 1)))) := by
            have h1 := HUV.out
            rw [ht] at h1
            have h2 := mul_in_step (val us) (val zs) (4294967296 ^ t) x (4294967296 ^ i * (x * val (ys.take k))) y c old z.toNat c' (val (us.set t z)) h1 (hst z) (by omega)
            rw [Hid, sy, show i + (k + 1) = t + 1 by omega, Nat.pow_succ, h2, Nat.mul_add x, Nat.mul_add]
            congr 2
            rw [← ht, Nat.pow_add, Nat.mul_assoc, Nat.mul_left_comm x]
          have HUL' : Hid ((us.set t z).length = L) := by rw [Hid, List.length_set, HUL.out]
          have HU0' : Hid (∀ j, i + b ≤ j → (us.set t z)[j]?.getD 0 = 0) := fun j hj => by rw [set_other us t j z (by omega)]; exact HU0.out j hj
          have hc'l : c' < 4294967296 := by omega
          have p1 : (x : Int) * (y : Int) = (pr : Int) := by rw [← hpr, Int.natCast_mul]
          have p2 : IntKind.u64.wrap (pr : Int) = (pr : Int) := by rw [IntKind.wrap_u64]; omega
          have p3 : IntKind.u64.wrap ((pr : Int) + (old : Int)) = (pr : Int) + (old : Int) := by rw [IntKind.wrap_u64]; omega
          have p4 : (pr : Int) + (old : Int) + (c : Int) = (s : Int) := by omega
          have p5 : IntKind.u64.wrap (s : Int) = (s : Int) := by rw [IntKind.wrap_u64]; omega
          have p6 : (i : Int) + (k : Int) = (t : Int) := by omega
          have w1 : IntKind.u64.wrap (x : Int) = (x : Int) := by rw [IntKind.wrap_u64]; omega
          have w2 : IntKind.u64.wrap (y : Int) = (y : Int) := by rw [IntKind.wrap_u64]; omega
          have w3 : IntKind.u64.wrap (old : Int) = (old : Int) := by rw [IntKind.wrap_u64]; omega
          have t1 : (s : Int) % 4294967296 = (z.toNat : Int) := by omega
          have t2 : (s : Int).tmod 4294967296 = (z.toNat : Int) := by rw [Int.tmod_eq_emod_of_nonneg (by omega)]; omega
          have t3 : (s : Int) / 4294967296 = (c' : Int) := by omega
          have t4 : (s : Int).tdiv 4294967296 = (c' : Int) := by rw [Int.tdiv_eq_ediv_of_nonneg (by omega)]; omega
          have t5 : IntKind.u32.wrap (z.toNat : Int) = (z.toNat : Int) := by rw [IntKind.wrap_u32]; have := bv_lt z; omega
          have t6 : (z.toNat : Int) % 4294967296 = (z.toNat : Int) := by have := bv_lt z; omega
          have t7 : IntKind.u64.wrap (z.toNat : Int) = (z.toNat : Int) := by rw [IntKind.wrap_u64]; have := bv_lt z; omega
          have t8 : IntKind.u64.wrap (c' : Int) = (c' : Int) := by rw [IntKind.wrap_u64]; omega
          have q1 : (k : Int) < (b : Int) := by omega
          have q0 : (0 : Int) ≤ (k : Int) := by omega
          have q2 : (t : Int) < (L : Int) := by omega
          have q3 : (0 : Int) ≤ (t : Int) := by omega
          have q4 : (k : Int) ≤ 100000 := by omega
          clear hz hc' hs hpr hst sy hcy hown ht hxy
          go_upto_region 9 with fail
          go_quiet (fail)
          go_wp2
          go_roundw
          case rel =>
            have hb3 : Below W.heap.size W (wr.drewN nq) := hbl2.trans (below_le wr W.heap.size nq)
            obtain ⟨h1, h2⟩ := World.ownsRow.stored (w := wr.drewN nq) HO3.out t (.int .u32 (z.toNat : Int))
            rw [wl_set] at h1
            exact ⟨k + 1, c', us.set t z, by omega, by go_num, rfl, hc'l, HUL', HUV', HU0', h1, (hb3.grown h2 (Nat.le_trans hb3.size (Nat.le_refl _)) (fun k hk => by cases hk; rw [HG0.out]; exact Nat.le_refl _))⟩
          case measure => simp [intOf]; omega
        · obtain rfl : k = b := by omega
          obtain ⟨t, ht⟩ : ∃ t, i + k = t := ⟨_, rfl⟩
          have htL : t < L := by have := HLL.out; omega
          have c3 : wr.cell? ⟨g0, t, none⟩ = some (.int .u32 0) := by
            have := hown.cellAt t (by omega)
            rw [wl_at us t (by rw [HUL.out]; exact htL), HU0.out t (by omega)] at this
            exact this
          have f3 : wr.frozen? ⟨g0, t, none⟩ = false := hown.frozenAt t
          obtain ⟨z, hz⟩ : ∃ z : BitVec 32, z.toNat = c := ⟨BitVec.ofNat 32 c, by rw [bv_of]; omega⟩
          have hst := val_set us t (by rw [HUL.out]; exact htL) z
          rw [HU0.out t (by omega)] at hst
          have HV' : Hid (val (us.set t z) = val (xs.take (i + 1)) * val ys) := by
            have h1 := HUV.out
            rw [ht, take_all ys k (by rw [HB.out]; omega)] at h1
            have h0 : (0 : BitVec 32).toNat = 0 := rfl
            rw [h0, Nat.mul_zero, Nat.add_zero, hz] at hst
            rw [Hid, hst, h1, HZV.out, HSX.out, Nat.add_mul, Nat.mul_assoc]
          have HUL' : Hid ((us.set t z).length = L) := by rw [Hid, List.length_set, HUL.out]
          have HU0' : Hid (∀ j, i + 1 + k ≤ j → (us.set t z)[j]?.getD 0 = 0) := fun j hj => by rw [set_other us t j z (by omega)]; exact HU0.out j (by omega)
          rw [← hz]
          have t5 : IntKind.u32.wrap (z.toNat : Int) = (z.toNat : Int) := by rw [IntKind.wrap_u32]; have := bv_lt z; omega
          have t6 : (z.toNat : Int) % 4294967296 = (z.toNat : Int) := by have := bv_lt z; omega
          have p6 : (i : Int) + (k : Int) = (t : Int) := by omega
          have q2 : (t : Int) < (L : Int) := by omega
          have q3 : (0 : Int) ≤ (t : Int) := by omega
          clear hz hst hown ht
          go_wp2
          go_roundw
          case rel =>
            obtain ⟨h1, h2⟩ := HO3.out.stored t (.int .u32 (z.toNat : Int))
            rw [wl_set] at h1
            exact ⟨i + 1, us.set t z, by omega, by go_num, HUL', HV', HU0', h1, (hbl2.grown h2 (Nat.le_trans hbl2.size (Nat.le_refl _)) (fun k hk => by cases hk; rw [HG0.out]; exact Nat.le_refl _))⟩
          case measure => simp [intOf]; omega
    · obtain rfl : i = a := by omega
      have i1 : ¬ ((i : Int) < (i : Int)) := by omega
      have HE : Hid (val zs = val xs * val ys) := by rw [Hid, HZV.out, take_all xs i (by rw [HA.out]; omega)]
      clear hown
      go_wp2_with fail
      refine (rtrim_in _ _ zs (Rw.of HO.out HZL.out)).mono ?_
      rintro e w1 ⟨v1, rfl, hr1, rfl⟩
      rw [HE.out] at hr1
      have HR1 := Hid.mk hr1
      clear hr1
      go_wp2
      go_ret
      exact ⟨_, rfl, HR1.out, hbl⟩
theorem rmul_in (W : World) (v u : Value) (A B : Nat) (hA : RN W v A) (hB : RN W u B) (ha : mny A ≤ 100000) (hb : mny B ≤ 100000) : Calls Tryd.prog 25 #[v, u] W fun e w' => ∃ v, e = .returned v ∧ RN w' v (A * B) ∧ Below W.heap.size W w' := by
  obtain ⟨xs, hx, rfl, tx⟩ := hA
  obtain ⟨ys, hy, rfl, ty⟩ := hB
  obtain ⟨p, c, rfl, hp⟩ := hx.read
  obtain ⟨q, d, rfl, hq⟩ := hy.read
  rw [← tx.many] at ha
  rw [← ty.many] at hb
  exact rmul_go W p q c d xs ys _ _ rfl rfl ha hb hp hq
end Go.Proofs.YthjhemodmdficaaDoor
