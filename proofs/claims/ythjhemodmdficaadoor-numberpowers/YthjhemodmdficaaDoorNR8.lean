/- The document's Sub. -/
import Derived.Test.YthjhemodmdficaaDoorNR7
namespace Go.Proofs.YthjhemodmdficaaDoor
set_option linter.unusedVariables false
open Go.RowKit
set_option maxRecDepth 100000 in
set_option maxHeartbeats 1000000 in
theorem rsub_go (W : World) (p q : Option Addr) (cp cq : Nat) (xs ys : List (BitVec 32)) (a b : Nat) (ha : xs.length = a) (hb : ys.length = b) (ha1 : a ≤ 100000) (hb1 : b ≤ a) (hle : val ys ≤ val xs) (hX : Rd W p xs) (hY : Rd W q ys) : Calls Tryd.prog 27 #[.slice p a cp, .slice q b cq] W fun e w' => ∃ v, e = .returned v ∧ RN w' v (val xs - val ys) ∧ Fresh W.heap.size v ∧ Below W.heap.size W w' := by
  have HX := Hid.mk hX
  have HY := Hid.mk hY
  have HA := Hid.mk ha
  have HB := Hid.mk hb
  have HLE := Hid.mk hle
  clear hX hY ha hb hle
  go_enter Tryd.func27, Tryd.ntmps27
  go_wp2
  go_loopw [5, 6, 7] (fun v cv kv wr => ∃ (k c : Nat) (ds : List (BitVec 32)), k ≤ a ∧ kv = .int .i64 (k : Int) ∧ cv = .int .u64 (c : Int) ∧ c ≤ 1 ∧ Hid (ds.length = k) ∧ Hid (val ds + val (ys.take k) = val (xs.take k) + 4294967296 ^ k * c) ∧ Ow W.heap.size wr v ds ∧ Below W.heap.size W wr) (fun _ _ kv _ => a - (intOf kv).toNat)
  case atStart => exact ⟨0, 0, [], by omega, rfl, rfl, by omega, rfl, by simp [Hid, val], Ow.nil _ _, Below.refl _ _⟩
  case round =>
    obtain ⟨k, c, ds, hk, rfl, rfl, hc, HDL, HV, hown, hbl⟩ := hrel
    have HO := Hid.mk hown
    have hsz := hbl.size
    by_cases hlt : k < a
    rotate_left
    · obtain rfl : k = a := by omega
      have HE : Hid (val ds = val xs - val ys) := by
        have h1 := HV.out
        rw [take_all xs k (by rw [HA.out]; omega), take_all ys k (by rw [HB.out]; exact hb1)] at h1
        have h2 := val_lt ds
        rw [HDL.out] at h2
        have h3 := HLE.out
        have hc0 : c = 0 := by
          apply Classical.byContradiction
          intro hn
          have : 4294967296 ^ k * 1 ≤ 4294967296 ^ k * c := Nat.mul_le_mul_left _ (by omega)
          omega
        rw [hc0, Nat.mul_zero, Nat.add_zero] at h1
        rw [Hid]
        omega
      have i1 : ¬ ((k : Int) < (k : Int)) := by omega
      clear hown
      go_wp2_with fail
      refine (rtrim2_in _ _ ds HO.out.rw).mono ?_
      rintro e w1 ⟨v1, rfl, hr1, rfl, hk1⟩
      rw [HE.out] at hr1
      have HR1 := Hid.mk hr1
      have HF1 := Hid.mk (Fresh.trim (fresh_own HO.out) hk1)
      clear hr1 hk1
      go_wp2
      go_ret
      exact ⟨_, rfl, HR1.out, HF1.out, hbl⟩
    by_cases hyk : k < b
    · skip
      obtain ⟨g, rfl, hg, hcx⟩ := HX.out k (by rw [HA.out]; exact hlt)
      have hc1 : wr.cell? ⟨g, k, none⟩ = _ := (hbl.cell (p := ⟨g, k, none⟩) hg).trans hcx
      clear hcx
      obtain ⟨g', rfl, hg', hcy⟩ := HY.out k (by rw [HB.out]; exact hyk)
      have hc2 : wr.cell? ⟨g', k, none⟩ = _ := (hbl.cell (p := ⟨g', k, none⟩) hg').trans hcy
      clear hcy
      have hxl := bv_lt (xs[k]?.getD 0)
      have hyl := bv_lt (ys[k]?.getD 0)
      have sx := val_take_any xs k
      have sy := val_take_any ys k
      generalize (xs[k]?.getD 0).toNat = x at *
      generalize (ys[k]?.getD 0).toNat = y at *
      obtain ⟨d, hd⟩ : ∃ d, x + 4294967296 - (c + y) = d := ⟨_, rfl⟩
      obtain ⟨z, hz⟩ : ∃ z : BitVec 32, z.toNat = d % 4294967296 := ⟨BitVec.ofNat 32 (d % 4294967296), by rw [bv_of]; omega⟩
      obtain ⟨qd, hqd⟩ : ∃ qd, d / 4294967296 = qd := ⟨_, rfl⟩
      obtain ⟨c', hc'⟩ : ∃ c', 1 - qd = c' := ⟨_, rfl⟩
      have hs := dif_step (4294967296 ^ k) (val ds) (val (xs.take k)) (val (ys.take k)) c x y z.toNat c' HV.out (by omega)
      have HV' : Hid (val (ds ++ [z]) + val (ys.take (k + 1)) = val (xs.take (k + 1)) + 4294967296 ^ (k + 1) * c') := by
        rw [Hid, val_snoc, HDL.out, Nat.pow_succ, sx, sy]
        exact hs
      have HDL' : Hid ((ds ++ [z]).length = k + 1) := by rw [Hid, List.length_append, List.length_singleton, HDL.out]
      have hc01 : c' ≤ 1 := by omega
      have d1 : (x : Int) + 4294967296 - ((c : Int) + (y : Int)) = (d : Int) := by omega
      have d1' : (x : Int) + 4294967296 - ((c : Int) + (y : Int)) = (d : Int) := d1
      have t1 : (d : Int) % 4294967296 = (z.toNat : Int) := by omega
      have t2 : (d : Int).tmod 4294967296 = (z.toNat : Int) := by rw [Int.tmod_eq_emod_of_nonneg (by omega)]; omega
      have t3 : (d : Int) / 4294967296 = (qd : Int) := by omega
      have t4 : (d : Int).tdiv 4294967296 = (qd : Int) := by rw [Int.tdiv_eq_ediv_of_nonneg (by omega)]; omega
      have t5 : IntKind.u32.wrap (z.toNat : Int) = (z.toNat : Int) := by rw [IntKind.wrap_u32]; have := bv_lt z; omega
      have t6 : (z.toNat : Int) % 4294967296 = (z.toNat : Int) := by have := bv_lt z; omega
      have t7 : IntKind.u64.wrap (z.toNat : Int) = (z.toNat : Int) := by rw [IntKind.wrap_u64]; have := bv_lt z; omega
      have t8 : IntKind.u64.wrap (d : Int) = (d : Int) := by rw [IntKind.wrap_u64]; omega
      have t9 : (1 : Int) - (qd : Int) = (c' : Int) := by omega
      have t10 : IntKind.u64.wrap (c' : Int) = (c' : Int) := by rw [IntKind.wrap_u64]; omega
      have t11 : IntKind.u64.wrap (qd : Int) = (qd : Int) := by rw [IntKind.wrap_u64]; omega
      have i1 : (k : Int) < (a : Int) := by omega
      have w1 : IntKind.u64.wrap (x : Int) = (x : Int) := by rw [IntKind.wrap_u64]; omega
      have w2 : IntKind.u64.wrap ((x : Int) + 4294967296) = (x : Int) + 4294967296 := by rw [IntKind.wrap_u64]; omega
      have i2 : (k : Int) < (b : Int) := by omega
      have w3 : IntKind.u64.wrap (y : Int) = (y : Int) := by rw [IntKind.wrap_u64]; omega
      have w4 : IntKind.u64.wrap ((c : Int) + (y : Int)) = (c : Int) + (y : Int) := by rw [IntKind.wrap_u64]; omega
      have k0 : (0 : Int) ≤ (k : Int) := by omega
      clear hz hc' hs sx sy hown hxl hyl hd hqd
      go_wp2_with (at_builtin; refine wpList_app1 rfl _ _ rfl W.heap.size _ ds rfl HO.out z rfl (by rw [HDL.out]; omega) hbl hsz ?_; intro v2 w2 hown2 hbl2)
      go_roundw
      case rel => exact ⟨k + 1, c', ds ++ [z], by omega, by go_num, rfl, hc01, HDL', HV', hown2, hbl2⟩
      case measure => simp [intOf]; omega
    · skip
      obtain ⟨g, rfl, hg, hcx⟩ := HX.out k (by rw [HA.out]; exact hlt)
      have hc1 : wr.cell? ⟨g, k, none⟩ = _ := (hbl.cell (p := ⟨g, k, none⟩) hg).trans hcx
      clear hcx
      have hy0 := dig_none ys k (by rw [HB.out]; exact hyk)
      have hxl := bv_lt (xs[k]?.getD 0)
      have hyl := bv_lt (ys[k]?.getD 0)
      have sx := val_take_any xs k
      have sy := val_take_any ys k
      generalize (xs[k]?.getD 0).toNat = x at *
      generalize (ys[k]?.getD 0).toNat = y at *
      subst hy0
      obtain ⟨d, hd⟩ : ∃ d, x + 4294967296 - (c + 0) = d := ⟨_, rfl⟩
      obtain ⟨z, hz⟩ : ∃ z : BitVec 32, z.toNat = d % 4294967296 := ⟨BitVec.ofNat 32 (d % 4294967296), by rw [bv_of]; omega⟩
      obtain ⟨qd, hqd⟩ : ∃ qd, d / 4294967296 = qd := ⟨_, rfl⟩
      obtain ⟨c', hc'⟩ : ∃ c', 1 - qd = c' := ⟨_, rfl⟩
      have hs := dif_step (4294967296 ^ k) (val ds) (val (xs.take k)) (val (ys.take k)) c x 0 z.toNat c' HV.out (by omega)
      have HV' : Hid (val (ds ++ [z]) + val (ys.take (k + 1)) = val (xs.take (k + 1)) + 4294967296 ^ (k + 1) * c') := by
        rw [Hid, val_snoc, HDL.out, Nat.pow_succ, sx, sy]
        exact hs
      have HDL' : Hid ((ds ++ [z]).length = k + 1) := by rw [Hid, List.length_append, List.length_singleton, HDL.out]
      have hc01 : c' ≤ 1 := by omega
      have d1 : (x : Int) + 4294967296 - ((c : Int)) = (d : Int) := by omega
      have t1 : (d : Int) % 4294967296 = (z.toNat : Int) := by omega
      have t2 : (d : Int).tmod 4294967296 = (z.toNat : Int) := by rw [Int.tmod_eq_emod_of_nonneg (by omega)]; omega
      have t3 : (d : Int) / 4294967296 = (qd : Int) := by omega
      have t4 : (d : Int).tdiv 4294967296 = (qd : Int) := by rw [Int.tdiv_eq_ediv_of_nonneg (by omega)]; omega
      have t5 : IntKind.u32.wrap (z.toNat : Int) = (z.toNat : Int) := by rw [IntKind.wrap_u32]; have := bv_lt z; omega
      have t6 : (z.toNat : Int) % 4294967296 = (z.toNat : Int) := by have := bv_lt z; omega
      have t7 : IntKind.u64.wrap (z.toNat : Int) = (z.toNat : Int) := by rw [IntKind.wrap_u64]; have := bv_lt z; omega
      have t8 : IntKind.u64.wrap (d : Int) = (d : Int) := by rw [IntKind.wrap_u64]; omega
      have t9 : (1 : Int) - (qd : Int) = (c' : Int) := by omega
      have t10 : IntKind.u64.wrap (c' : Int) = (c' : Int) := by rw [IntKind.wrap_u64]; omega
      have t11 : IntKind.u64.wrap (qd : Int) = (qd : Int) := by rw [IntKind.wrap_u64]; omega
      have i1 : (k : Int) < (a : Int) := by omega
      have w1 : IntKind.u64.wrap (x : Int) = (x : Int) := by rw [IntKind.wrap_u64]; omega
      have w2 : IntKind.u64.wrap ((x : Int) + 4294967296) = (x : Int) + 4294967296 := by rw [IntKind.wrap_u64]; omega
      have i2 : ¬ ((k : Int) < (b : Int)) := by omega
      have i2' : (b : Int) ≤ (k : Int) := by omega
      have k0 : (0 : Int) ≤ (k : Int) := by omega
      clear hz hc' hs sx sy hown hxl hyl hd hqd
      go_wp2_with (at_builtin; refine wpList_app1 rfl _ _ rfl W.heap.size _ ds rfl HO.out z rfl (by rw [HDL.out]; omega) hbl hsz ?_; intro v2 w2 hown2 hbl2)
      go_roundw
      case rel => exact ⟨k + 1, c', ds ++ [z], by omega, by go_num, rfl, hc01, HDL', HV', hown2, hbl2⟩
      case measure => simp [intOf]; omega
theorem rsub_in (W : World) (v u : Value) (A B : Nat) (hA : RN W v A) (hB : RN W u B) (ha : mny A ≤ 100000) (hle : B ≤ A) : Calls Tryd.prog 27 #[v, u] W fun e w' => ∃ v, e = .returned v ∧ RN w' v (A - B) ∧ Fresh W.heap.size v ∧ Below W.heap.size W w' := by
  have hm := mny_mono B A hle
  obtain ⟨xs, hx, rfl, tx⟩ := hA
  obtain ⟨ys, hy, rfl, ty⟩ := hB
  obtain ⟨p, c, rfl, hp⟩ := hx.read
  obtain ⟨q, d, rfl, hq⟩ := hy.read
  rw [← tx.many] at ha
  rw [← tx.many, ← ty.many] at hm
  exact rsub_go W p q c d xs ys _ _ rfl rfl ha hm hle hp hq
end Go.Proofs.YthjhemodmdficaaDoor
