/- Texts of this proof, joined: NR9, NR10, NR11, NR12. -/
import Derived.Test.YtlcjagkfeakinaaGreatDoorJ18
/- The document's Mul. -/
namespace Go.Proofs.YtlcjagkfeakinaaGreatDoor.N
set_option linter.unusedVariables false
open Go.RowKit
theorem wl_set (l : List (BitVec 32)) (j : Nat) (z : BitVec 32) : (wl l).set j (.int .u32 (z.toNat : Int)) = wl (l.set j z) := by simp [wl]
theorem made_noughts (n : Nat) : (madeCells (Value.int .u32 0).cells (n * 1)).toList = wl (List.replicate n 0) := by
  apply List.ext_getElem?
  intro k
  simp [madeCells, wl, Value.cells, List.getElem?_replicate]
  by_cases hk : k < n
  · rw [if_pos hk, List.getElem?_range hk]
    simp [Nat.mod_one]
  · rw [if_neg hk, List.getElem?_eq_none (by simpa using hk)]
    rfl
theorem set_other (l : List (BitVec 32)) (j k : Nat) (z : BitVec 32) (h : k ≠ j) : (l.set j z)[k]?.getD 0 = l[k]?.getD 0 := by
  rw [List.getElem?_set_ne (Ne.symm h)]
theorem mul_in_step (V V0 P x Y y c old z c' V' : Nat) (h : V + P * c = V0 + Y) (hs : V' + P * old = V + P * z) (hz : z + 4294967296 * c' = x * y + old + c) : V' + P * 4294967296 * c' = V0 + (Y + P * (x * y)) := by
  have e : P * (z + 4294967296 * c') = P * (x * y + old + c) := by rw [hz]
  rw [Nat.mul_add, Nat.mul_add, Nat.mul_add, ← Nat.mul_assoc] at e
  omega
set_option maxRecDepth 100000 in
set_option maxHeartbeats 2000000 in
theorem rmul_go (W : World) (p q : Option Addr) (cp cq : Nat) (xs ys : List (BitVec 32)) (a b : Nat) (ha : xs.length = a) (hb : ys.length = b) (ha1 : a ≤ 100000) (hb1 : b ≤ 100000) (hX : Rd W p xs) (hY : Rd W q ys) : Calls Tryz.prog 77 #[.slice p a cp, .slice q b cq] W fun e w' => ∃ v, e = .returned v ∧ RN w' v (val xs * val ys) ∧ Below W.heap.size W w' := by
  obtain ⟨i0, hi, hz0, hz1, hz2⟩ := info_of info24
  have HX := Hid.mk hX
  have HY := Hid.mk hY
  have HA := Hid.mk ha
  have HB := Hid.mk hb
  obtain ⟨L, hL⟩ : ∃ L, a + b = L := ⟨_, rfl⟩
  have hLi : (a : Int) + (b : Int) = (L : Int) := by omega
  have hL0 : (0 : Int) ≤ (L : Int) := by omega
  have hL2 : L ≤ 200000 := by omega
  have HLL := Hid.mk hL
  clear hX hY ha hb hL
  go_enter Tryz.func77, Tryz.ntmps77
  go_wp2_with (at_make; refine wpList_make_full _ rfl _ _ 46 rfl W.heap.size 40 i0 (.int .u32 0) 1 Tryz.underlying46 hi hz0 hz1 _ _ _ _ L rfl rfl rfl rfl (by rw [hz2]; omega) (by unfold maxLen; omega) (Nat.le_refl _) ?_; intro w2 hown2 hgrow2)
  have B2 : Below W.heap.size W w2 := (Below.refl _ _).grown hgrow2 (Nat.le_refl _) (by simp)
  rw [made_noughts] at hown2
  have HO2 := Hid.mk hown2
  clear hown2 hgrow2
  obtain ⟨g0, hg0⟩ : ∃ g0, W.heap.size = g0 := ⟨_, rfl⟩
  rw [hg0] at HO2 ⊢
  have HG0 := Hid.mk hg0
  clear hg0 hLi
  go_wp2_with fail
  go_loopw [6] (fun iv wr => ∃ (i : Nat) (zs : List (BitVec 32)), i ≤ a ∧ iv = .int .i64 (i : Int) ∧ Hid (zs.length = L) ∧ Hid (val zs = val (xs.take i) * val ys) ∧ Hid (∀ j, i + b ≤ j → zs[j]?.getD 0 = 0) ∧ wr.ownsRow g0 40 1 (.slice (some ⟨g0, 0, none⟩) L L) L (wl zs) ∧ Below W.heap.size W wr) (fun iv _ => a - (intOf iv).toNat)
  case atStart => exact ⟨0, List.replicate L 0, by omega, rfl, by simp [Hid], by rw [Hid, val_zero, List.take_zero]; simp [val], fun j _ => by simp [List.getElem?_replicate]; split <;> rfl, HO2.out, B2⟩
  case round =>
    obtain ⟨i, zs, hia, rfl, HZL, HZV, HZ0, hown, hbl⟩ := hrel
    have HO := Hid.mk hown
    clear HO2 B2
    by_cases hlt : i < a
    · obtain ⟨g, rfl, hg, hcx⟩ := HX.out i (by rw [HA.out]; exact hlt)
      have hxl := bv_lt (xs[i]?.getD 0)
      have sx := val_take_any xs i
      generalize (xs[i]?.getD 0).toNat = x at *
      have HSX := Hid.mk sx
      have HCX := Hid.mk hcx
      have i1 : (i : Int) < (a : Int) := by omega
      have i0' : (0 : Int) ≤ (i : Int) := by omega
      have i2 : (i : Int) ≤ 100000 := by omega
      clear sx hcx hown
      go_wp2
      go_loopw [7, 8] (fun cv kv wx => ∃ (k c : Nat) (us : List (BitVec 32)), k ≤ b ∧ kv = .int .i64 (k : Int) ∧ cv = .int .u64 (c : Int) ∧ c < 4294967296 ∧ Hid (us.length = L) ∧ Hid (val us + 4294967296 ^ (i + k) * c = val zs + 4294967296 ^ i * (x * val (ys.take k))) ∧ Hid (∀ j, i + b ≤ j → us[j]?.getD 0 = 0) ∧ wx.ownsRow g0 40 1 (.slice (some ⟨g0, 0, none⟩) L L) L (wl us) ∧ Below W.heap.size W wx) (fun _ kv _ => b - (intOf kv).toNat)
      case atStart => exact ⟨0, 0, zs, by omega, rfl, rfl, by omega, HZL, by simp [Hid, val], HZ0, HO.out, hbl⟩
      case round =>
        obtain ⟨k, c, us, hkb, rfl, rfl, hc, HUL, HUV, HU0, hown, hbl2⟩ := hrel
        have HO3 := Hid.mk hown
        clear hbl
        by_cases hkl : k < b
        · obtain ⟨g', rfl, hg', hcy⟩ := HY.out k (by rw [HB.out]; exact hkl)
          have c1 : ∀ n, (wr.drewN n).cell? ⟨g, i, none⟩ = some (.int .u32 (x : Int)) := fun n => (hbl2.cell (p := ⟨g, i, none⟩) hg).trans HCX.out
          have c2 : ∀ n, (wr.drewN n).cell? ⟨g', k, none⟩ = some (.int .u32 ((ys[k]?.getD 0).toNat : Int)) := fun n => (hbl2.cell (p := ⟨g', k, none⟩) hg').trans hcy
          obtain ⟨t, ht⟩ : ∃ t, i + k = t := ⟨_, rfl⟩
          have htL : t < L := by have := HLL.out; omega
          have c3 : ∀ n, (wr.drewN n).cell? ⟨g0, t, none⟩ = some (.int .u32 ((us[t]?.getD 0).toNat : Int)) := fun n => by
            have := hown.cellAt t (by omega)
            rw [wl_at us t (by rw [HUL.out]; exact htL)] at this
            exact this
          have f3 : ∀ n, (wr.drewN n).frozen? ⟨g0, t, none⟩ = false := fun n => hown.frozenAt t
          have hyl := bv_lt (ys[k]?.getD 0)
          have sy := val_take_any ys k
          have hol := bv_lt (us[t]?.getD 0)
          have hst := fun z => val_set us t (by rw [HUL.out]; exact htL) z
          generalize (ys[k]?.getD 0).toNat = y at *
          generalize (us[t]?.getD 0).toNat = old at *
          have hxy : x * y ≤ 4294967295 * 4294967295 := Nat.mul_le_mul (by omega) (by omega)
          obtain ⟨pr, hpr⟩ : ∃ pr, x * y = pr := ⟨_, rfl⟩
          obtain ⟨s, hs⟩ : ∃ s, pr + old + c = s := ⟨_, rfl⟩
          obtain ⟨z, hz⟩ : ∃ z : BitVec 32, z.toNat = s % 4294967296 := ⟨BitVec.ofNat 32 (s % 4294967296), by rw [bv_of]; omega⟩
          obtain ⟨c', hc'⟩ : ∃ c', s / 4294967296 = c' := ⟨_, rfl⟩
          rw [hpr] at hxy
          have HUV' : Hid (val (us.set t z) + 4294967296 ^ (i + (k + 1)) * c' = val zs + 4294967296 ^ i * (x * val (ys.take (k + 1)))) := by
            have h1 := HUV.out
            rw [ht] at h1
            have h2 := mul_in_step (val us) (val zs) (4294967296 ^ t) x (4294967296 ^ i * (x * val (ys.take k))) y c old z.toNat c' (val (us.set t z)) h1 (hst z) (by omega)
            rw [Hid, sy, show i + (k + 1) = t + 1 by omega, Nat.pow_succ, h2, Nat.mul_add x, Nat.mul_add]
            congr 2
            rw [← ht, Nat.pow_add, Nat.mul_assoc, Nat.mul_left_comm x]
          have HUL' : Hid ((us.set t z).length = L) := by rw [Hid, List.length_set, HUL.out]
          have HU0' : Hid (∀ j, i + b ≤ j → (us.set t z)[j]?.getD 0 = 0) := fun j hj => by rw [set_other us t j z (by omega)]; exact HU0.out j hj
          have hc'l : c' < 4294967296 := by omega
          have p1 : (x : Int) * (y : Int) = (pr : Int) := by rw [← hpr, Int.natCast_mul]
          have p2 : IntKind.u64.wrap (pr : Int) = (pr : Int) := by rw [IntKind.wrap_u64]; omega
          have p3 : IntKind.u64.wrap ((pr : Int) + (old : Int)) = (pr : Int) + (old : Int) := by rw [IntKind.wrap_u64]; omega
          have p4 : (pr : Int) + (old : Int) + (c : Int) = (s : Int) := by omega
          have p5 : IntKind.u64.wrap (s : Int) = (s : Int) := by rw [IntKind.wrap_u64]; omega
          have p6 : (i : Int) + (k : Int) = (t : Int) := by omega
          have w1 : IntKind.u64.wrap (x : Int) = (x : Int) := by rw [IntKind.wrap_u64]; omega
          have w2 : IntKind.u64.wrap (y : Int) = (y : Int) := by rw [IntKind.wrap_u64]; omega
          have w3 : IntKind.u64.wrap (old : Int) = (old : Int) := by rw [IntKind.wrap_u64]; omega
          have t1 : (s : Int) % 4294967296 = (z.toNat : Int) := by omega
          have t2 : (s : Int).tmod 4294967296 = (z.toNat : Int) := by rw [Int.tmod_eq_emod_of_nonneg (by omega)]; omega
          have t3 : (s : Int) / 4294967296 = (c' : Int) := by omega
          have t4 : (s : Int).tdiv 4294967296 = (c' : Int) := by rw [Int.tdiv_eq_ediv_of_nonneg (by omega)]; omega
          have t5 : IntKind.u32.wrap (z.toNat : Int) = (z.toNat : Int) := by rw [IntKind.wrap_u32]; have := bv_lt z; omega
          have t6 : (z.toNat : Int) % 4294967296 = (z.toNat : Int) := by have := bv_lt z; omega
          have t7 : IntKind.u64.wrap (z.toNat : Int) = (z.toNat : Int) := by rw [IntKind.wrap_u64]; have := bv_lt z; omega
          have t8 : IntKind.u64.wrap (c' : Int) = (c' : Int) := by rw [IntKind.wrap_u64]; omega
          have q1 : (k : Int) < (b : Int) := by omega
          have q0 : (0 : Int) ≤ (k : Int) := by omega
          have q2 : (t : Int) < (L : Int) := by omega
          have q3 : (0 : Int) ≤ (t : Int) := by omega
          have q4 : (k : Int) ≤ 100000 := by omega
          clear hz hc' hs hpr hst sy hcy hown ht hxy
          go_upto_region 9 with fail
          go_quiet (fail)
          go_wp2
          go_roundw
          case rel =>
            have hb3 : Below W.heap.size W (wr.drewN nq) := hbl2.trans (below_le wr W.heap.size nq)
            obtain ⟨h1, h2⟩ := World.ownsRow.stored (w := wr.drewN nq) HO3.out t (.int .u32 (z.toNat : Int))
            rw [wl_set] at h1
            exact ⟨k + 1, c', us.set t z, by omega, by go_num, rfl, hc'l, HUL', HUV', HU0', h1, (hb3.grown h2 (Nat.le_trans hb3.size (Nat.le_refl _)) (fun k hk => by cases hk; rw [HG0.out]; exact Nat.le_refl _))⟩
          case measure => simp [intOf]; omega
        · obtain rfl : k = b := by omega
          obtain ⟨t, ht⟩ : ∃ t, i + k = t := ⟨_, rfl⟩
          have htL : t < L := by have := HLL.out; omega
          have c3 : wr.cell? ⟨g0, t, none⟩ = some (.int .u32 0) := by
            have := hown.cellAt t (by omega)
            rw [wl_at us t (by rw [HUL.out]; exact htL), HU0.out t (by omega)] at this
            exact this
          have f3 : wr.frozen? ⟨g0, t, none⟩ = false := hown.frozenAt t
          obtain ⟨z, hz⟩ : ∃ z : BitVec 32, z.toNat = c := ⟨BitVec.ofNat 32 c, by rw [bv_of]; omega⟩
          have hst := val_set us t (by rw [HUL.out]; exact htL) z
          rw [HU0.out t (by omega)] at hst
          have HV' : Hid (val (us.set t z) = val (xs.take (i + 1)) * val ys) := by
            have h1 := HUV.out
            rw [ht, take_all ys k (by rw [HB.out]; omega)] at h1
            have h0 : (0 : BitVec 32).toNat = 0 := rfl
            rw [h0, Nat.mul_zero, Nat.add_zero, hz] at hst
            rw [Hid, hst, h1, HZV.out, HSX.out, Nat.add_mul, Nat.mul_assoc]
          have HUL' : Hid ((us.set t z).length = L) := by rw [Hid, List.length_set, HUL.out]
          have HU0' : Hid (∀ j, i + 1 + k ≤ j → (us.set t z)[j]?.getD 0 = 0) := fun j hj => by rw [set_other us t j z (by omega)]; exact HU0.out j (by omega)
          rw [← hz]
          have t5 : IntKind.u32.wrap (z.toNat : Int) = (z.toNat : Int) := by rw [IntKind.wrap_u32]; have := bv_lt z; omega
          have t6 : (z.toNat : Int) % 4294967296 = (z.toNat : Int) := by have := bv_lt z; omega
          have p6 : (i : Int) + (k : Int) = (t : Int) := by omega
          have q2 : (t : Int) < (L : Int) := by omega
          have q3 : (0 : Int) ≤ (t : Int) := by omega
          clear hz hst hown ht
          go_wp2
          go_roundw
          case rel =>
            obtain ⟨h1, h2⟩ := HO3.out.stored t (.int .u32 (z.toNat : Int))
            rw [wl_set] at h1
            exact ⟨i + 1, us.set t z, by omega, by go_num, HUL', HV', HU0', h1, (hbl2.grown h2 (Nat.le_trans hbl2.size (Nat.le_refl _)) (fun k hk => by cases hk; rw [HG0.out]; exact Nat.le_refl _))⟩
          case measure => simp [intOf]; omega
    · obtain rfl : i = a := by omega
      have i1 : ¬ ((i : Int) < (i : Int)) := by omega
      have HE : Hid (val zs = val xs * val ys) := by rw [Hid, HZV.out, take_all xs i (by rw [HA.out]; omega)]
      clear hown
      go_wp2_with fail
      refine (rtrim_in _ _ zs (Rw.of HO.out HZL.out)).mono ?_
      rintro e w1 ⟨v1, rfl, hr1, rfl⟩
      rw [HE.out] at hr1
      have HR1 := Hid.mk hr1
      clear hr1
      go_wp2
      go_ret
      exact ⟨_, rfl, HR1.out, hbl⟩
theorem rmul_in (W : World) (v u : Value) (A B : Nat) (hA : RN W v A) (hB : RN W u B) (ha : mny A ≤ 100000) (hb : mny B ≤ 100000) : Calls Tryz.prog 77 #[v, u] W fun e w' => ∃ v, e = .returned v ∧ RN w' v (A * B) ∧ Below W.heap.size W w' := by
  obtain ⟨xs, hx, rfl, tx⟩ := hA
  obtain ⟨ys, hy, rfl, ty⟩ := hB
  obtain ⟨p, c, rfl, hp⟩ := hx.read
  obtain ⟨q, d, rfl, hq⟩ := hy.read
  rw [← tx.many] at ha
  rw [← ty.many] at hb
  exact rmul_go W p q c d xs ys _ _ rfl rfl ha hb hp hq
end Go.Proofs.YtlcjagkfeakinaaGreatDoor.N

/- The document's up, moved, down. -/
namespace Go.Proofs.YtlcjagkfeakinaaGreatDoor.N
set_option linter.unusedVariables false
open Go.RowKit
/-- a row that is made of one digit. -/
theorem Rw.one (w : World) (z : BitVec 32) : Rw (w.alloc (.cells #[.int .u32 (z.toNat : Int)] 40)) (.slice (some ⟨w.heap.size, 0, none⟩) 1 1) [z] :=
  ⟨rfl, .inr ⟨w.heap.size, 1, #[.int .u32 (z.toNat : Int)], rfl, Nat.zero_le _, heap_new _ _, Nat.le_refl _, by unfold maxLen; omega, rfl, rfl⟩⟩
theorem Ow.one (w : World) (z : BitVec 32) : Ow w.heap.size (w.alloc (.cells #[.int .u32 (z.toNat : Int)] 40)) (.slice (some ⟨w.heap.size, 0, none⟩) 1 1) [z] :=
  ⟨rfl, .inr ⟨w.heap.size, 1, #[.int .u32 (z.toNat : Int)], rfl, Nat.le_refl _, heap_new _ _, Nat.le_refl _, by unfold maxLen; omega, rfl, rfl⟩⟩
theorem mny_pow (k : Nat) (h : k < 32) : mny (2 ^ k) = 1 := by
  refine mny_of _ 0 ?_ ?_
  · exact Nat.one_le_two_pow
  · rw [show (4294967296 : Nat) ^ (0 + 1) = 2 ^ 32 from rfl]
    exact Nat.pow_lt_pow_right (by omega) h
set_option maxRecDepth 100000 in
set_option maxHeartbeats 400000 in
theorem rup_in (W : World) (v : Value) (A k : Nat) (hA : RN W v A) (ha : mny A ≤ 100000) (hk : k < 32) : Calls Tryz.prog 107 #[v, .int .i64 (k : Int)] W fun e w' => ∃ v, e = .returned v ∧ RN w' v (A * 2 ^ k) ∧ Below W.heap.size W w' := by
  have hp : 2 ^ k < 4294967296 := Nat.pow_lt_pow_right (a := 2) (by omega) hk
  obtain ⟨z, hz⟩ : ∃ z : BitVec 32, z.toNat = 2 ^ k := ⟨BitVec.ofNat 32 (2 ^ k), by rw [bv_of]; exact Nat.mod_eq_of_lt hp⟩
  have hB : Below W.heap.size W (W.alloc (.cells #[.int .u32 (z.toNat : Int)] 40)) := (Below.refl _ _).alloc (Nat.le_refl _) _
  have hZ : RN (W.alloc (.cells #[.int .u32 (z.toNat : Int)] 40)) (.slice (some ⟨W.heap.size, 0, none⟩) 1 1) (2 ^ k) := ⟨[z], Rw.one W z, by rw [val_one, hz], .inr ⟨[], z, rfl, by rw [hz]; exact Nat.ne_of_gt (Nat.two_pow_pos k)⟩⟩
  have HM := Hid.mk (rmul_in _ _ _ A (2 ^ k) (hA.blk hB) hZ ha (by rw [mny_pow k hk]; omega))
  have t1 : ((k : Int)).toNat = k := by omega
  have t2 : (2 : Int) ^ k = (z.toNat : Int) := by rw [hz, Int.natCast_pow]; rfl
  have t3 : IntKind.u32.wrap (z.toNat : Int) = (z.toNat : Int) := by rw [IntKind.wrap_u32]; have := bv_lt z; omega
  have k0 : (0 : Int) ≤ (k : Int) := by omega
  have k1 : (k : Int) < 32 := by omega
  have HBB := Hid.mk hB
  obtain ⟨P, hP⟩ : ∃ P, A * 2 ^ k = P := ⟨_, rfl⟩
  rw [hP] at HM ⊢
  clear hA hZ hz hp hP hB
  go_enter Tryz.func107, Tryz.ntmps107
  go_wp2_with fail
  refine HM.out.mono ?_
  rintro e w1 ⟨v1, rfl, hr, hb⟩
  have HR := Hid.mk hr
  have HB2 := Hid.mk (bthen HBB.out hb)
  clear hr hb
  go_wp2
  go_ret
  exact ⟨_, rfl, HR.out, HB2.out⟩
set_option maxRecDepth 100000 in
set_option maxHeartbeats 400000 in
theorem rmoved_in (W : World) (v : Value) (A : Nat) (d : BitVec 32) (hA : RN W v A) (ha : mny A ≤ 100000) : Calls Tryz.prog 108 #[v, .int .u32 (d.toNat : Int)] W fun e w' => ∃ v, e = .returned v ∧ RN w' v (A * 4294967296 + d.toNat) ∧ Fresh W.heap.size v ∧ Below W.heap.size W w' := by
  obtain ⟨i0, hi, hz0, hz1, hz2⟩ := info_of info24
  have hB : Below W.heap.size W (W.alloc (.cells #[.int .u32 (d.toNat : Int)] 40)) := (Below.refl _ _).alloc (Nat.le_refl _) _
  obtain ⟨xs, hx, rfl, tx⟩ := hA
  rw [← tx.many] at ha
  have HX := Hid.mk (hx.blk hB)
  have HO := Hid.mk (Ow.one W d)
  have HBB := Hid.mk hB
  have hval : val ([d] ++ xs) = val xs * 4294967296 + d.toNat := by
    rw [val_app, val_one, List.length_singleton, Nat.pow_one, Nat.mul_comm]; omega
  have HVL := Hid.mk hval
  clear hval hB
  rcases hx.view with ⟨rfl, rfl⟩ | ⟨g, c, rfl, hc, hm, hg, hcell, -⟩
  · go_enter Tryz.func108, Tryz.ntmps108
    go_wp2_with (at_builtin; refine wpList_append_own_none rfl _ _ 46 rfl W.heap.size 40 i0 1 Tryz.underlying46 hi _ 1 (wl [d]) rfl HO.out rfl ?_)
    go_wp2_with fail
    refine (rtrim2_in _ _ [d] (Rw.of HO.out rfl)).mono ?_
    rintro e w1 ⟨v1, rfl, hr, rfl, hk1⟩
    have HR := Hid.mk hr
    have HF1 := Hid.mk (Fresh.trim (fresh_own HO.out) hk1)
    clear hr hk1
    go_wp2
    go_ret
    exact ⟨_, rfl, by rw [← HVL.out]; exact HR.out, HF1.out, HBB.out⟩
  · have HC : Hid (∀ j u, (wl xs)[j]? = some u → (W.alloc (.cells #[.int .u32 (d.toNat : Int)] 40)).cell? ((⟨g, 0, none⟩ : Addr).add j) = some u) := fun j u hu => by
      have hj : j < xs.length := by
        have := (List.getElem?_eq_some_iff.1 hu).1
        rwa [wl_len] at this
      rw [wl_at xs j hj] at hu
      rw [addr_at, Nat.zero_add, ← hu]
      exact (HBB.out.cell (p := ⟨g, j, none⟩) hg).trans (hcell j hj)
    obtain ⟨n, hn⟩ : ∃ n, xs.length = n := ⟨_, rfl⟩
    have HN := Hid.mk hn
    rw [hn] at ha ⊢
    clear hn hcell hc
    go_enter Tryz.func108, Tryz.ntmps108
    go_wp2_with (at_builtin; refine wpList_append_own _ rfl _ _ 46 rfl W.heap.size 40 i0 (.int .u32 0) 1 4 Tryz.underlying46 hi hz0 hz1 hz2 rfl (by decide) _ 1 (wl [d]) rfl HO.out ⟨g, 0, none⟩ n c (wl xs) rfl (by rw [wl_len, HN.out, Nat.mul_one]) HC.out (wl_one xs) (by unfold maxLen; omega) (by omega) (by simp) ?_; intro v2 w2 hown2 hgrow2 _)
    have HB2 : Hid (Below W.heap.size W w2) := HBB.out.grown hgrow2 (by simp) (fun k hk => by cases hk; exact Nat.le_refl _)
    have hown3 : Rw w2 v2 ([d] ++ xs) := Rw.of (n := 1 + n) (by rw [wl_app]; exact hown2) (by rw [List.length_append, HN.out, List.length_singleton])
    have HO2 := Hid.mk hown3
    have HF2 := Hid.mk (fresh_own hown2)
    clear hown2 hown3 hgrow2
    go_wp2_with fail
    refine (rtrim2_in _ _ _ HO2.out).mono ?_
    rintro e w1 ⟨v1, rfl, hr, rfl, hk1⟩
    have HR := Hid.mk hr
    have HF1 := Hid.mk (Fresh.trim HF2.out hk1)
    clear hr hk1
    go_wp2
    go_ret
    exact ⟨_, rfl, by rw [← HVL.out]; exact HR.out, HF1.out, HB2.out⟩
end Go.Proofs.YtlcjagkfeakinaaGreatDoor.N

/- The document's down. -/
namespace Go.Proofs.YtlcjagkfeakinaaGreatDoor.N
set_option linter.unusedVariables false
open Go.RowKit
theorem val_digits (l : List (BitVec 32)) (N : Nat) (h : ∀ j, j < l.length → (l[j]?.getD 0).toNat = N / 4294967296 ^ j % 4294967296) : ∀ k, k ≤ l.length → val (l.take k) = N % 4294967296 ^ k
  | 0, _ => by simp [val, Nat.mod_one]
  | k + 1, hk => by
    rw [val_take_succ l k (by omega), val_digits l N h k (by omega), h k (by omega), Nat.pow_succ, Nat.mod_mul]
/-- the digit of a number that was divided by 2 so often. -/
theorem down_digit (A s r j : Nat) (hs : s * r = 4294967296) : (A / s) / 4294967296 ^ j % 4294967296 = (A / 4294967296 ^ j % 4294967296 + 4294967296 * (A / 4294967296 ^ (j + 1) % 4294967296)) / s % 4294967296 := by
  have hs0 : 0 < s := Nat.pos_of_ne_zero fun h => by rw [h] at hs; omega
  have hr0 : 0 < r := Nat.pos_of_ne_zero fun h => by rw [h] at hs; omega
  rw [Nat.div_div_eq_div_mul, Nat.mul_comm s, ← Nat.div_div_eq_div_mul, Nat.pow_succ, ← Nat.div_div_eq_div_mul]
  generalize A / 4294967296 ^ j = D
  have e : D % 4294967296 + 4294967296 * (D / 4294967296 % 4294967296) = D % (4294967296 * 4294967296) := by rw [Nat.mod_mul]
  rw [e, ← hs]
  have e2 : s * r * (s * r) = s * ((s * r) * r) := by rw [Nat.mul_assoc, Nat.mul_left_comm r, Nat.mul_assoc]
  rw [e2, Nat.mod_mul_right_div_self, Nat.mod_mul_right_mod]
set_option maxRecDepth 100000 in
set_option maxHeartbeats 1000000 in
theorem rdown_go (W : World) (p : Option Addr) (cp : Nat) (xs : List (BitVec 32)) (a k : Nat) (ha : xs.length = a) (ha1 : a ≤ 100000) (hk : k < 32) (hX : Rd W p xs) : Calls Tryz.prog 110 #[.slice p a cp, .int .i64 (k : Int)] W fun e w' => ∃ v, e = .returned v ∧ RN w' v (val xs / 2 ^ k) ∧ Below W.heap.size W w' := by
  obtain ⟨i0, hi, hz0, hz1, hz2⟩ := info_of info24
  have HX := Hid.mk hX
  have HA := Hid.mk ha
  obtain ⟨s, hs⟩ : ∃ s, 2 ^ k = s := ⟨_, rfl⟩
  have hs0 : 0 < s := by rw [← hs]; exact Nat.two_pow_pos k
  have hsr : s * 2 ^ (32 - k) = 4294967296 := by rw [← hs, ← Nat.pow_add, show k + (32 - k) = 32 by omega]
  have HDD : Hid (∀ A j, (A / s) / 4294967296 ^ j % 4294967296 = (A / 4294967296 ^ j % 4294967296 + 4294967296 * (A / 4294967296 ^ (j + 1) % 4294967296)) / s % 4294967296) := fun A j => down_digit A s _ j hsr
  obtain ⟨N, hN⟩ : ∃ N, val xs / s = N := ⟨_, rfl⟩
  have HDG : Hid (∀ j, j < a → N / 4294967296 ^ j % 4294967296 = ((xs[j]?.getD 0).toNat + 4294967296 * (xs[j + 1]?.getD 0).toNat) / s % 4294967296) := fun j hj => by
    rw [← hN, HDD.out, dig_of xs j (by omega)]
    by_cases h : j + 1 < xs.length
    · rw [dig_of xs (j + 1) h]
    · have hq : val xs / 4294967296 ^ (j + 1) = 0 := Nat.div_eq_of_lt (Nat.lt_of_lt_of_le (val_lt xs) (Nat.pow_le_pow_right (by omega) (by omega)))
      rw [dig_none xs (j + 1) h, hq]
  have HNL : Hid (N < 4294967296 ^ a) := by
    rw [Hid, ← hN, ← ha]
    exact Nat.lt_of_le_of_lt (Nat.div_le_self _ _) (val_lt xs)
  rw [hs, hN]
  have hsk : ∀ v : Nat, (v : Int) / 2 ^ k = ((v / s : Nat) : Int) := fun v => by rw [← hs, Int.natCast_ediv, Int.natCast_pow]; rfl
  have HSK := Hid.mk hsk
  have ha0 : (0 : Int) ≤ (a : Int) := by omega
  have kt : ((k : Int)).toNat = k := by omega
  have k0 : (0 : Int) ≤ (k : Int) := by omega
  have k1 : (k : Int) < 64 := by omega
  have hs1 : 1 ≤ s := hs0
  clear hX ha hs hN hsr HDD hsk hs0
  go_enter Tryz.func110, Tryz.ntmps110
  go_wp2_with (at_make; refine wpList_make_full _ rfl _ _ 46 rfl W.heap.size 40 i0 (.int .u32 0) 1 Tryz.underlying46 hi hz0 hz1 _ _ _ _ a rfl rfl rfl rfl (by rw [hz2]; omega) (by unfold maxLen; omega) (Nat.le_refl _) ?_; intro w2 hown2 hgrow2)
  have B2 : Below W.heap.size W w2 := (Below.refl _ _).grown hgrow2 (Nat.le_refl _) (by simp)
  rw [made_noughts] at hown2
  have HO2 := Hid.mk hown2
  clear hown2 hgrow2
  obtain ⟨g0, hg0⟩ : ∃ g0, W.heap.size = g0 := ⟨_, rfl⟩
  rw [hg0] at HO2 ⊢
  have HG0 := Hid.mk hg0
  clear hg0
  go_wp2_with fail
  go_loopw [6] (fun iv wr => ∃ (i : Nat) (zs : List (BitVec 32)), i ≤ a ∧ iv = .int .i64 (i : Int) ∧ Hid (zs.length = a) ∧ Hid (∀ j, j < i → (zs[j]?.getD 0).toNat = N / 4294967296 ^ j % 4294967296) ∧ wr.ownsRow g0 40 1 (.slice (some ⟨g0, 0, none⟩) a a) a (wl zs) ∧ Below W.heap.size W wr) (fun iv _ => a - (intOf iv).toNat)
  case atStart => exact ⟨0, List.replicate a 0, by omega, rfl, by simp [Hid], fun j hj => absurd hj (by omega), HO2.out, B2⟩
  case round =>
    obtain ⟨i, zs, hia, rfl, HZL, HZV, hown, hbl⟩ := hrel
    have HO := Hid.mk hown
    clear HO2 B2
    by_cases hlt : i < a
    · obtain ⟨g, rfl, hg, hcx⟩ := HX.out i (by rw [HA.out]; exact hlt)
      have c1 : wr.cell? ⟨g, i, none⟩ = _ := (hbl.cell (p := ⟨g, i, none⟩) hg).trans hcx
      have hd := HDG.out i hlt
      have hxl := bv_lt (xs[i]?.getD 0)
      have hyl := bv_lt (xs[i + 1]?.getD 0)
      have c3 : wr.cell? ⟨g0, i, none⟩ = some (.int .u32 ((zs[i]?.getD 0).toNat : Int)) := by
        have := hown.cellAt i (by omega)
        rw [wl_at zs i (by rw [HZL.out]; exact hlt)] at this
        exact this
      have f3 : wr.frozen? ⟨g0, i, none⟩ = false := hown.frozenAt i
      have i1 : (i : Int) < (a : Int) := by omega
      have i0' : (0 : Int) ≤ (i : Int) := by omega
      have i2 : (i : Int) ≤ 100000 := by omega
      have HFIN : Hid (∀ z : BitVec 32, z.toNat = N / 4294967296 ^ i % 4294967296 → (zs.set i z).length = a ∧ ∀ j, j < i + 1 → ((zs.set i z)[j]?.getD 0).toNat = N / 4294967296 ^ j % 4294967296) := fun z hz => by
        refine ⟨by rw [List.length_set, HZL.out], fun j hj => ?_⟩
        by_cases e : j = i
        · subst e
          rw [List.getElem?_set_self (by rw [HZL.out]; exact hlt)]
          exact hz
        · rw [set_other zs i j z e]
          exact HZV.out j (by omega)
      by_cases hnx : i + 1 < a
      · obtain ⟨g2, hge, hg2, hcy⟩ := HX.out (i + 1) (by rw [HA.out]; exact hnx)
        obtain rfl : g = g2 := by simpa using hge
        have c2 : wr.cell? ⟨g, i + 1, none⟩ = _ := (hbl.cell (p := ⟨g, i + 1, none⟩) hg2).trans hcy
        generalize (xs[i]?.getD 0).toNat = x at *
        generalize (xs[i + 1]?.getD 0).toNat = y at *
        obtain ⟨t, ht⟩ : ∃ t, x + 4294967296 * y = t := ⟨_, rfl⟩
        obtain ⟨u, hu⟩ : ∃ u, t / s = u := ⟨_, rfl⟩
        have hut : u ≤ t := by rw [← hu]; exact Nat.div_le_self _ _
        obtain ⟨z, hz⟩ : ∃ z : BitVec 32, z.toNat = u % 4294967296 := ⟨BitVec.ofNat 32 (u % 4294967296), by rw [bv_of]; omega⟩
        rw [ht, hu, ← hz] at hd
        obtain ⟨hf1, hf2⟩ := HFIN.out z hd.symm
        have HF1 := Hid.mk hf1
        have HF2 := Hid.mk hf2
        have hdv := HSK.out t
        rw [hu] at hdv
        have e1 : (x : Int) + (y : Int) * 4294967296 = (t : Int) := by omega
        have e2 : IntKind.u64.wrap ((y : Int) * 4294967296) = (y : Int) * 4294967296 := by rw [IntKind.wrap_u64]; omega
        have e3 : IntKind.u64.wrap (t : Int) = (t : Int) := by rw [IntKind.wrap_u64]; omega
        have w1 : IntKind.u64.wrap (x : Int) = (x : Int) := by rw [IntKind.wrap_u64]; omega
        have w2 : IntKind.u64.wrap (y : Int) = (y : Int) := by rw [IntKind.wrap_u64]; omega
        have w3 : IntKind.u64.wrap (u : Int) = (u : Int) := by rw [IntKind.wrap_u64]; omega
        have t1 : (u : Int) % 4294967296 = (z.toNat : Int) := by omega
        have t2 : (u : Int).tmod 4294967296 = (z.toNat : Int) := by rw [Int.tmod_eq_emod_of_nonneg (by omega)]; omega
        have t5 : IntKind.u32.wrap (z.toNat : Int) = (z.toNat : Int) := by rw [IntKind.wrap_u32]; have := bv_lt z; omega
        have t6 : (z.toNat : Int) % 4294967296 = (z.toNat : Int) := by have := bv_lt z; omega
        have t7 : IntKind.u64.wrap (z.toNat : Int) = (z.toNat : Int) := by rw [IntKind.wrap_u64]; have := bv_lt z; omega
        have i3 : (i : Int) + 1 < (a : Int) := by omega
        have i4 : ((i : Int) + 1).toNat = i + 1 := by omega
        clear hz hd ht hu hf1 hf2 hcx hcy hown hge hut
        go_wp2
        go_roundw
        case rel =>
          obtain ⟨h1, h2⟩ := HO.out.stored i (.int .u32 (z.toNat : Int))
          rw [wl_set] at h1
          exact ⟨i + 1, zs.set i z, by omega, by go_num, HF1, HF2, h1, (hbl.grown h2 (Nat.le_trans hbl.size (Nat.le_refl _)) (fun k hk => by cases hk; rw [HG0.out]; exact Nat.le_refl _))⟩
        case measure => simp [intOf]; omega
      · rw [dig_none xs (i + 1) (by rw [HA.out]; exact hnx), Nat.mul_zero, Nat.add_zero] at hd
        generalize (xs[i]?.getD 0).toNat = x at *
        obtain ⟨u, hu⟩ : ∃ u, x / s = u := ⟨_, rfl⟩
        have hut : u ≤ x := by rw [← hu]; exact Nat.div_le_self _ _
        obtain ⟨z, hz⟩ : ∃ z : BitVec 32, z.toNat = u % 4294967296 := ⟨BitVec.ofNat 32 (u % 4294967296), by rw [bv_of]; omega⟩
        rw [hu, ← hz] at hd
        obtain ⟨hf1, hf2⟩ := HFIN.out z hd.symm
        have HF1 := Hid.mk hf1
        have HF2 := Hid.mk hf2
        have hdv := HSK.out x
        rw [hu] at hdv
        have w1 : IntKind.u64.wrap (x : Int) = (x : Int) := by rw [IntKind.wrap_u64]; omega
        have w3 : IntKind.u64.wrap (u : Int) = (u : Int) := by rw [IntKind.wrap_u64]; omega
        have t1 : (u : Int) % 4294967296 = (z.toNat : Int) := by omega
        have t2 : (u : Int).tmod 4294967296 = (z.toNat : Int) := by rw [Int.tmod_eq_emod_of_nonneg (by omega)]; omega
        have t5 : IntKind.u32.wrap (z.toNat : Int) = (z.toNat : Int) := by rw [IntKind.wrap_u32]; have := bv_lt z; omega
        have t6 : (z.toNat : Int) % 4294967296 = (z.toNat : Int) := by have := bv_lt z; omega
        have t7 : IntKind.u64.wrap (z.toNat : Int) = (z.toNat : Int) := by rw [IntKind.wrap_u64]; have := bv_lt z; omega
        have i3 : ¬ ((i : Int) + 1 < (a : Int)) := by omega
        have i4 : (a : Int) ≤ (i : Int) + 1 := by omega
        clear hz hd hu hf1 hf2 hcx hown hut
        go_wp2
        go_roundw
        case rel =>
          obtain ⟨h1, h2⟩ := HO.out.stored i (.int .u32 (z.toNat : Int))
          rw [wl_set] at h1
          exact ⟨i + 1, zs.set i z, by omega, by go_num, HF1, HF2, h1, (hbl.grown h2 (Nat.le_trans hbl.size (Nat.le_refl _)) (fun k hk => by cases hk; rw [HG0.out]; exact Nat.le_refl _))⟩
        case measure => simp [intOf]; omega
    · obtain rfl : i = a := by omega
      have i1 : ¬ ((i : Int) < (i : Int)) := by omega
      have HE : Hid (val zs = N) := by
        have h := val_digits zs N (fun j hj => HZV.out j (by rw [← HZL.out]; exact hj)) i (by rw [HZL.out]; omega)
        rw [take_all zs i (by rw [HZL.out]; omega), Nat.mod_eq_of_lt HNL.out] at h
        exact h
      clear hown
      go_wp2_with fail
      refine (rtrim_in _ _ zs (Rw.of HO.out HZL.out)).mono ?_
      rintro e w1 ⟨v1, rfl, hr1, rfl⟩
      rw [HE.out] at hr1
      have HR1 := Hid.mk hr1
      clear hr1
      go_wp2
      go_ret
      exact ⟨_, rfl, HR1.out, hbl⟩
theorem rdown_in (W : World) (v : Value) (A k : Nat) (hA : RN W v A) (ha : mny A ≤ 100000) (hk : k < 32) : Calls Tryz.prog 110 #[v, .int .i64 (k : Int)] W fun e w' => ∃ v, e = .returned v ∧ RN w' v (A / 2 ^ k) ∧ Below W.heap.size W w' := by
  obtain ⟨xs, hx, rfl, tx⟩ := hA
  obtain ⟨p, c, rfl, hp⟩ := hx.read
  rw [← tx.many] at ha
  exact rdown_go W p c xs _ k rfl ha hk hp
end Go.Proofs.YtlcjagkfeakinaaGreatDoor.N

/- The document's Div. -/
namespace Go.Proofs.YtlcjagkfeakinaaGreatDoor.N
set_option linter.unusedVariables false
open Go.RowKit
theorem below_same {w w' : World} (h : w' = w) : Below w.heap.size w w' := by rw [h]; exact Below.refl _ _
theorem below_drew {w w' : World} (h : ∃ n, w' = w.drewN n) : Below w.heap.size w w' := by
  obtain ⟨n, rfl⟩ := h
  exact below_dn w n
theorem own_blk {w w' : World} {base n : Nat} {v : Value} {xs : List Value} (hb : Below w.heap.size w w') (h : w.ownsRow base 40 1 v n xs) : w'.ownsRow base 40 1 v n xs := by
  obtain ⟨h1, ⟨h2, h3⟩ | ⟨g, cap, cur, h2, h3, h4, h5, h6, h7, h8⟩⟩ := h
  · exact ⟨h1, .inl ⟨h2, h3⟩⟩
  · exact ⟨h1, .inr ⟨g, cap, cur, h2, h3, blk hb h4, h5, h6, h7, h8⟩⟩
/-- a number that is not 0, as a row that can be read. -/
theorem RN.open {w : World} {v : Value} {N : Nat} (h : RN w v N) (h0 : N ≠ 0) : ∃ g cap ds, v = .slice (some ⟨g, 0, none⟩) (mny N) cap ∧ g < w.heap.size ∧ ds.length = mny N ∧ val ds = N ∧ ∀ j, j < mny N → w.cell? ⟨g, j, none⟩ = some (.int .u32 ((ds[j]?.getD 0).toNat : Int)) := by
  obtain ⟨ds, hr, rfl, ht⟩ := h
  rcases hr.view with ⟨rfl, rfl⟩ | ⟨g, cap, rfl, hc, hm, hg, hcell, -⟩
  · exact absurd rfl h0
  · rw [← ht.many]
    exact ⟨g, cap, ds, rfl, hg, rfl, rfl, hcell⟩
theorem Rw.two (w : World) (z y : BitVec 32) : Rw (w.alloc (.cells #[.int .u32 (z.toNat : Int), .int .u32 (y.toNat : Int)] 40)) (.slice (some ⟨w.heap.size, 0, none⟩) 2 2) [z, y] :=
  ⟨rfl, .inr ⟨w.heap.size, 2, #[.int .u32 (z.toNat : Int), .int .u32 (y.toNat : Int)], rfl, Nat.zero_le _, heap_new _ _, Nat.le_refl _, by unfold maxLen; omega, rfl, rfl⟩⟩
theorem high_step (X D b P : Nat) (hD : 0 < D) (hP : 0 < P) : (X / (P * 4294967296)) % D * 4294967296 + X / P % 4294967296 < D * 4294967296 ∧ X / P / D = X / (P * 4294967296) / D * 4294967296 + ((X / (P * 4294967296)) % D * 4294967296 + X / P % 4294967296) / D ∧ X / P % D = ((X / (P * 4294967296)) % D * 4294967296 + X / P % 4294967296) % D := by
  rw [← Nat.div_div_eq_div_mul]
  generalize X / P = Y
  have e := Nat.div_add_mod Y 4294967296
  have l := Nat.mod_lt Y (show 0 < 4294967296 by omega)
  generalize Y / 4294967296 = H at *
  generalize Y % 4294967296 = x at *
  have eH := Nat.div_add_mod H D
  have lH := Nat.mod_lt H hD
  generalize H / D = Q at *
  generalize H % D = r at *
  have hY : Y = r * 4294967296 + x + D * (Q * 4294967296) := by
    have : D * (Q * 4294967296) = D * Q * 4294967296 := (Nat.mul_assoc _ _ _).symm
    rw [this, ← e, ← eH]
    omega
  refine ⟨?_, ?_, ?_⟩
  · have : (r + 1) * 4294967296 ≤ D * 4294967296 := Nat.mul_le_mul_right _ lH
    omega
  · rw [hY, Nat.add_mul_div_left _ _ hD, Nat.add_comm]
  · rw [hY, Nat.add_mul_mod_self_left]
theorem pow_shift (i Q : Nat) : 4294967296 ^ (i + 1) * Q = 4294967296 ^ i * (Q * 4294967296) := by rw [Nat.pow_succ, Nat.mul_assoc, Nat.mul_comm 4294967296 Q]
theorem pow_shift0 (i Q : Nat) : 4294967296 ^ (i + 1) * Q = 4294967296 ^ i * (Q * 4294967296 + 0) := (pow_shift i Q).trans (by simp only [Nat.add_zero])
theorem low_guess (R D P bt : Nat) (hP : 0 < P) (hD : D < (bt + 1) * P) : R / P / (bt + 1) * D ≤ R := by
  have h1 : R / P / (bt + 1) * D ≤ R / P / (bt + 1) * ((bt + 1) * P) := Nat.mul_le_mul_left _ (Nat.le_of_lt hD)
  have h2 : R / P / (bt + 1) * ((bt + 1) * P) = R / P / (bt + 1) * (bt + 1) * P := (Nat.mul_assoc _ _ _).symm
  have h3 : R / P / (bt + 1) * (bt + 1) ≤ R / P := Nat.div_mul_le_self _ _
  have h4 : R / P / (bt + 1) * (bt + 1) * P ≤ R / P * P := Nat.mul_le_mul_right _ h3
  have h5 : R / P * P ≤ R := Nat.div_mul_le_self _ _
  omega
theorem shift_of (B : Nat) (h0 : B ≠ 0) : ∃ sh, sh < 32 ∧ 32 * mny B = btl B + sh := by
  unfold mny btl
  rw [if_neg h0, if_neg h0]
  exact ⟨32 * (Nat.log2 B / 32 + 1) - (Nat.log2 B + 1), by omega, by omega⟩
theorem mny_mul_pow (A k n : Nat) (hk : k < 32) (h : mny A ≤ n) : mny (A * 2 ^ k) ≤ n + 1 := by
  by_cases h0 : A * 2 ^ k = 0
  · rw [h0]; exact Nat.zero_le _
  · have h1 := (mny_ge _ h0).2
    have h2 := mny_lt A
    have h3 : 2 ^ k ≤ 4294967296 := Nat.pow_le_pow_right (n := 2) (by omega) (show k ≤ 32 by omega)
    have h4 : A * 2 ^ k < 4294967296 ^ (n + 1) := by
      have a1 : 4294967296 ^ mny A ≤ 4294967296 ^ n := Nat.pow_le_pow_right (by omega) h
      have a2 : A * 2 ^ k ≤ A * 4294967296 := Nat.mul_le_mul_left _ h3
      have a3 : (A + 1) * 4294967296 ≤ 4294967296 ^ n * 4294967296 := Nat.mul_le_mul_right _ (by omega)
      rw [Nat.pow_succ]
      omega
    apply Classical.byContradiction
    intro hn
    have h5 : 4294967296 ^ (n + 1) ≤ 4294967296 ^ (mny (A * 2 ^ k) - 1) := Nat.pow_le_pow_right (by omega) (by omega)
    omega
/-- the digits of what is left: as many as b has, or one more. -/
theorem rest_many (R D : Nat) (h1 : D ≤ R) (h2 : R < D * 4294967296) (h0 : D ≠ 0) : mny R = mny D ∨ mny R = mny D + 1 := by
  have a := mny_mono D R h1
  have hR : R ≠ 0 := by omega
  have b := (mny_ge R hR).2
  have c := mny_lt D
  have d : R < 4294967296 ^ (mny D + 1) := by
    rw [Nat.pow_succ]
    have h7 : D + 1 ≤ 4294967296 ^ mny D := by omega
    have h6 := Nat.mul_le_mul_right 4294967296 h7
    exact Nat.lt_of_lt_of_le h2 (Nat.le_trans (Nat.mul_le_mul_right 4294967296 (Nat.le_succ D)) h6)
  have e : ¬ mny D + 2 ≤ mny R := fun h => by
    have : 4294967296 ^ (mny D + 1) ≤ 4294967296 ^ (mny R - 1) := Nat.pow_le_pow_right (by omega) (by omega)
    omega
  omega
/-- the first digits of a row. -/
theorem top_one (ds : List (BitVec 32)) (n : Nat) (hl : ds.length = n + 1) : val ds / 4294967296 ^ n = (ds[n]?.getD 0).toNat := by
  have h := val_cut ds n (by omega)
  have hl2 := val_lt (ds.take n)
  rw [List.length_take, Nat.min_eq_left (by omega)] at hl2
  rw [List.drop_of_length_le (by omega)] at h
  rw [h, Nat.add_mul_div_left _ _ (Nat.pow_pos (by omega)), Nat.div_eq_of_lt hl2]
  simp [val]
theorem top_two (ds : List (BitVec 32)) (n : Nat) (hl : ds.length = n + 2) : val ds / 4294967296 ^ n = (ds[n + 1]?.getD 0).toNat * 4294967296 + (ds[n]?.getD 0).toNat := by
  have h := val_cut ds n (by omega)
  have hl2 := val_lt (ds.take n)
  rw [List.length_take, Nat.min_eq_left (by omega)] at hl2
  have h4 : ds.drop (n + 1) = [ds[n + 1]?.getD 0] := by
    rw [List.drop_eq_getElem_cons (by omega), List.drop_of_length_le (by omega), List.getElem?_eq_getElem (by omega)]
    rfl
  rw [h4, val_one] at h
  rw [h, Nat.add_mul_div_left _ _ (Nat.pow_pos (by omega)), Nat.div_eq_of_lt hl2]
  omega
end Go.Proofs.YtlcjagkfeakinaaGreatDoor.N
