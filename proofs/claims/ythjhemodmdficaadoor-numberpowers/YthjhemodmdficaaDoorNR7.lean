/- The document's Add, Sub. -/
import Derived.Test.YthjhemodmdficaaDoorNR6
namespace Go.Proofs.YthjhemodmdficaaDoor
set_option linter.unusedVariables false
open Go.RowKit
/-- digits that can be read. -/
def Rd (W : World) (p : Option Addr) (xs : List (BitVec 32)) : Prop := ∀ j, j < xs.length → ∃ g, p = some ⟨g, 0, none⟩ ∧ g < W.heap.size ∧ W.cell? ⟨g, j, none⟩ = some (.int .u32 ((xs[j]?.getD 0).toNat : Int))
theorem Rw.read {W : World} {v : Value} {xs : List (BitVec 32)} (h : Rw W v xs) : ∃ p cap, v = .slice p xs.length cap ∧ Rd W p xs := by
  rcases h.view with ⟨rfl, rfl⟩ | ⟨g, cap, rfl, hc, hm, hg, hcell, -⟩
  · exact ⟨none, 0, rfl, fun j hj => by simp at hj⟩
  · exact ⟨_, cap, rfl, fun j hj => ⟨g, rfl, hg, hcell j hj⟩⟩
theorem val_take_any (l : List (BitVec 32)) (m : Nat) : val (l.take (m + 1)) = val (l.take m) + 4294967296 ^ m * (l[m]?.getD 0).toNat := by
  by_cases h : m < l.length
  · exact val_take_succ l m h
  · rw [List.take_of_length_le (by omega), List.take_of_length_le (by omega), List.getElem?_eq_none (by omega)]
    simp
theorem dig_none (l : List (BitVec 32)) (m : Nat) (h : ¬ m < l.length) : (l[m]?.getD 0).toNat = 0 := by
  rw [List.getElem?_eq_none (by omega)]
  rfl
theorem take_all (l : List (BitVec 32)) (m : Nat) (h : l.length ≤ m) : val (l.take m) = val l := by rw [List.take_of_length_le h]
theorem sum_step (P V X Y c x y z c' : Nat) (h : V + P * c = X + Y) (hz : z + 4294967296 * c' = c + x + y) : V + P * z + P * 4294967296 * c' = X + P * x + (Y + P * y) := by
  have e : P * (z + 4294967296 * c') = P * (c + x + y) := by rw [hz]
  rw [Nat.mul_add, Nat.mul_add, Nat.mul_add, ← Nat.mul_assoc] at e
  omega
theorem dif_step (P V X Y b x y z b' : Nat) (h : V + Y = X + P * b) (hz : z + y + b = x + 4294967296 * b') : V + P * z + (Y + P * y) = X + P * x + P * 4294967296 * b' := by
  have e : P * (z + y + b) = P * (x + 4294967296 * b') := by rw [hz]
  rw [Nat.mul_add, Nat.mul_add, Nat.mul_add, ← Nat.mul_assoc] at e
  omega
set_option maxRecDepth 100000 in
set_option maxHeartbeats 1000000 in
theorem radd_go (W : World) (p q : Option Addr) (cp cq : Nat) (xs ys : List (BitVec 32)) (a b : Nat) (ha : xs.length = a) (hb : ys.length = b) (ha1 : a ≤ 100000) (hb1 : b ≤ 100000) (hX : Rd W p xs) (hY : Rd W q ys) : Calls Tryd.prog 22 #[.slice p a cp, .slice q b cq] W fun e w' => ∃ v, e = .returned v ∧ RN w' v (val xs + val ys) ∧ Below W.heap.size W w' := by
  have HX := Hid.mk hX
  have HY := Hid.mk hY
  have HA := Hid.mk ha
  have HB := Hid.mk hb
  obtain ⟨M, hM⟩ : ∃ M, max a b = M := ⟨_, rfl⟩
  have hMa : a ≤ M := by omega
  have hMb : b ≤ M := by omega
  have hM2 : M ≤ 100000 := by omega
  have hM3 : M = a ∨ M = b := by omega
  clear hX hY ha hb hM
  go_enter Tryd.func22, Tryd.ntmps22
  go_wp2
  go_loopw [5, 6, 7] (fun v cv kv wr => ∃ (k c : Nat) (ds : List (BitVec 32)), (k ≤ M ∨ (k = M + 1 ∧ c = 0)) ∧ kv = .int .i64 (k : Int) ∧ cv = .int .u64 (c : Int) ∧ c ≤ 1 ∧ Hid (ds.length = k) ∧ Hid (val ds + 4294967296 ^ k * c = val (xs.take k) + val (ys.take k)) ∧ Ow W.heap.size wr v ds ∧ Below W.heap.size W wr) (fun _ _ kv _ => M + 1 - (intOf kv).toNat)
  case atStart => exact ⟨0, 0, [], by omega, rfl, rfl, by omega, rfl, by simp [Hid, val], Ow.nil _ _, Below.refl _ _⟩
  case round =>
    obtain ⟨k, c, ds, hk, rfl, rfl, hc, HDL, HV, hown, hbl⟩ := hrel
    have HO := Hid.mk hown
    have hsz := hbl.size
    by_cases hend : a ≤ k ∧ b ≤ k ∧ c = 0
    · obtain ⟨e1, e2, rfl⟩ := hend
      have HE : Hid (val ds = val xs + val ys) := by
        have := HV.out
        rw [Nat.mul_zero, Nat.add_zero, take_all xs k (by rw [HA.out]; exact e1), take_all ys k (by rw [HB.out]; exact e2)] at this
        exact this
      have i1 : ¬ ((k : Int) < (a : Int)) := by omega
      have i1' : (a : Int) ≤ (k : Int) := by omega
      have i2 : ¬ ((k : Int) < (b : Int)) := by omega
      have i2' : (b : Int) ≤ (k : Int) := by omega
      clear hown
      go_wp2_with fail
      refine (rtrim_in _ _ ds HO.out.rw).mono ?_
      rintro e w1 ⟨v1, rfl, hr1, rfl⟩
      rw [HE.out] at hr1
      have HR1 := Hid.mk hr1
      clear hr1
      go_wp2
      go_ret
      exact ⟨_, rfl, HR1.out, hbl⟩
    have hkM : k ≤ M := by omega
    have hM1 : (k : Int) ≤ 100000 := by omega
    by_cases hxk : k < a <;> by_cases hyk : k < b
    · have hxa :  k < xs.length := by rw [HA.out]; exact hxk
      have hyb :  k < ys.length := by rw [HB.out]; exact hyk
      obtain ⟨g, rfl, hg, hcx⟩ := HX.out k hxa
      have hc1 : wr.cell? ⟨g, k, none⟩ = _ := (hbl.cell (p := ⟨g, k, none⟩) hg).trans hcx
      clear hcx
      obtain ⟨g', rfl, hg', hcy⟩ := HY.out k hyb
      have hc2 : wr.cell? ⟨g', k, none⟩ = _ := (hbl.cell (p := ⟨g', k, none⟩) hg').trans hcy
      clear hcy
      have hxl := bv_lt (xs[k]?.getD 0)
      have hyl := bv_lt (ys[k]?.getD 0)
      have sx := val_take_any xs k
      have sy := val_take_any ys k
      generalize (xs[k]?.getD 0).toNat = x at *
      generalize (ys[k]?.getD 0).toNat = y at *
      obtain ⟨z, hz⟩ : ∃ z : BitVec 32, z.toNat = (c + x + y) % 4294967296 := ⟨BitVec.ofNat 32 ((c + x + y) % 4294967296), by rw [bv_of]; omega⟩
      obtain ⟨c', hc'⟩ : ∃ c', (c + x + y) / 4294967296 = c' := ⟨_, rfl⟩
      have hs := sum_step (4294967296 ^ k) (val ds) (val (xs.take k)) (val (ys.take k)) c x y z.toNat c' HV.out (by omega)
      have HV' : Hid (val (ds ++ [z]) + 4294967296 ^ (k + 1) * c' = val (xs.take (k + 1)) + val (ys.take (k + 1))) := by
        rw [Hid, val_snoc, HDL.out, Nat.pow_succ, sx, sy]
        exact hs
      have HDL' : Hid ((ds ++ [z]).length = k + 1) := by rw [Hid, List.length_append, List.length_singleton, HDL.out]
      have hc01 : c' ≤ 1 := by omega
      have t1 : ((c : Int) + (x : Int) + (y : Int)) % 4294967296 = (z.toNat : Int) := by omega
      have t2 : ((c : Int) + (x : Int) + (y : Int)).tmod 4294967296 = (z.toNat : Int) := by rw [Int.tmod_eq_emod_of_nonneg (by omega)]; omega
      have t3 : ((c : Int) + (x : Int) + (y : Int)) / 4294967296 = (c' : Int) := by omega
      have t4 : ((c : Int) + (x : Int) + (y : Int)).tdiv 4294967296 = (c' : Int) := by rw [Int.tdiv_eq_ediv_of_nonneg (by omega)]; omega
      have t5 : IntKind.u32.wrap (z.toNat : Int) = (z.toNat : Int) := by rw [IntKind.wrap_u32]; have := bv_lt z; omega
      have t6 : (z.toNat : Int) % 4294967296 = (z.toNat : Int) := by have := bv_lt z; omega
      have t7 : IntKind.u64.wrap (z.toNat : Int) = (z.toNat : Int) := by rw [IntKind.wrap_u64]; have := bv_lt z; omega
      have t8 : IntKind.u64.wrap (c' : Int) = (c' : Int) := by rw [IntKind.wrap_u64]; omega
      have i1 : (k : Int) < (a : Int) := by omega
      have w1 : IntKind.u64.wrap (x : Int) = (x : Int) := by rw [IntKind.wrap_u64]; omega
      have w2 : IntKind.u64.wrap ((c : Int) + (x : Int)) = (c : Int) + (x : Int) := by rw [IntKind.wrap_u64]; omega
      have i2 : (k : Int) < (b : Int) := by omega
      have w3 : IntKind.u64.wrap (y : Int) = (y : Int) := by rw [IntKind.wrap_u64]; omega
      have w4 : IntKind.u64.wrap ((c : Int) + (x : Int) + (y : Int)) = (c : Int) + (x : Int) + (y : Int) := by rw [IntKind.wrap_u64]; omega
      have k0 : (0 : Int) ≤ (k : Int) := by omega
      have hK : k + 1 ≤ M ∨ (k + 1 = M + 1 ∧ c' = 0) := by omega
      clear hz hc' hs sx sy hown hxl hyl
      go_wp2_with (at_builtin; refine wpList_app1 rfl _ _ rfl W.heap.size _ ds rfl HO.out z rfl (by rw [HDL.out]; omega) hbl hsz ?_; intro v2 w2 hown2 hbl2)
      go_roundw
      case rel => exact ⟨k + 1, c', ds ++ [z], hK, by go_num, rfl, hc01, HDL', HV', hown2, hbl2⟩
      case measure => simp [intOf]; omega
    · have hxa :  k < xs.length := by rw [HA.out]; exact hxk
      have hyb : ¬ k < ys.length := by rw [HB.out]; exact hyk
      obtain ⟨g, rfl, hg, hcx⟩ := HX.out k hxa
      have hc1 : wr.cell? ⟨g, k, none⟩ = _ := (hbl.cell (p := ⟨g, k, none⟩) hg).trans hcx
      clear hcx
      have hy0 := dig_none ys k hyb
      have hxl := bv_lt (xs[k]?.getD 0)
      have hyl := bv_lt (ys[k]?.getD 0)
      have sx := val_take_any xs k
      have sy := val_take_any ys k
      generalize (xs[k]?.getD 0).toNat = x at *
      generalize (ys[k]?.getD 0).toNat = y at *
      subst hy0
      obtain ⟨z, hz⟩ : ∃ z : BitVec 32, z.toNat = (c + x + 0) % 4294967296 := ⟨BitVec.ofNat 32 ((c + x + 0) % 4294967296), by rw [bv_of]; omega⟩
      obtain ⟨c', hc'⟩ : ∃ c', (c + x + 0) / 4294967296 = c' := ⟨_, rfl⟩
      have hs := sum_step (4294967296 ^ k) (val ds) (val (xs.take k)) (val (ys.take k)) c x 0 z.toNat c' HV.out (by omega)
      have HV' : Hid (val (ds ++ [z]) + 4294967296 ^ (k + 1) * c' = val (xs.take (k + 1)) + val (ys.take (k + 1))) := by
        rw [Hid, val_snoc, HDL.out, Nat.pow_succ, sx, sy]
        exact hs
      have HDL' : Hid ((ds ++ [z]).length = k + 1) := by rw [Hid, List.length_append, List.length_singleton, HDL.out]
      have hc01 : c' ≤ 1 := by omega
      have t1 : ((c : Int) + (x : Int)) % 4294967296 = (z.toNat : Int) := by omega
      have t2 : ((c : Int) + (x : Int)).tmod 4294967296 = (z.toNat : Int) := by rw [Int.tmod_eq_emod_of_nonneg (by omega)]; omega
      have t3 : ((c : Int) + (x : Int)) / 4294967296 = (c' : Int) := by omega
      have t4 : ((c : Int) + (x : Int)).tdiv 4294967296 = (c' : Int) := by rw [Int.tdiv_eq_ediv_of_nonneg (by omega)]; omega
      have t5 : IntKind.u32.wrap (z.toNat : Int) = (z.toNat : Int) := by rw [IntKind.wrap_u32]; have := bv_lt z; omega
      have t6 : (z.toNat : Int) % 4294967296 = (z.toNat : Int) := by have := bv_lt z; omega
      have t7 : IntKind.u64.wrap (z.toNat : Int) = (z.toNat : Int) := by rw [IntKind.wrap_u64]; have := bv_lt z; omega
      have t8 : IntKind.u64.wrap (c' : Int) = (c' : Int) := by rw [IntKind.wrap_u64]; omega
      have i1 : (k : Int) < (a : Int) := by omega
      have w1 : IntKind.u64.wrap (x : Int) = (x : Int) := by rw [IntKind.wrap_u64]; omega
      have w2 : IntKind.u64.wrap ((c : Int) + (x : Int)) = (c : Int) + (x : Int) := by rw [IntKind.wrap_u64]; omega
      have i2 : ¬ ((k : Int) < (b : Int)) := by omega
      have i2' : (b : Int) ≤ (k : Int) := by omega
      have k0 : (0 : Int) ≤ (k : Int) := by omega
      have hK : k + 1 ≤ M ∨ (k + 1 = M + 1 ∧ c' = 0) := by omega
      clear hz hc' hs sx sy hown hxl hyl
      go_wp2_with (at_builtin; refine wpList_app1 rfl _ _ rfl W.heap.size _ ds rfl HO.out z rfl (by rw [HDL.out]; omega) hbl hsz ?_; intro v2 w2 hown2 hbl2)
      go_roundw
      case rel => exact ⟨k + 1, c', ds ++ [z], hK, by go_num, rfl, hc01, HDL', HV', hown2, hbl2⟩
      case measure => simp [intOf]; omega
    · have hxa : ¬ k < xs.length := by rw [HA.out]; exact hxk
      have hyb :  k < ys.length := by rw [HB.out]; exact hyk
      have hx0 := dig_none xs k hxa
      obtain ⟨g', rfl, hg', hcy⟩ := HY.out k hyb
      have hc2 : wr.cell? ⟨g', k, none⟩ = _ := (hbl.cell (p := ⟨g', k, none⟩) hg').trans hcy
      clear hcy
      have hxl := bv_lt (xs[k]?.getD 0)
      have hyl := bv_lt (ys[k]?.getD 0)
      have sx := val_take_any xs k
      have sy := val_take_any ys k
      generalize (xs[k]?.getD 0).toNat = x at *
      generalize (ys[k]?.getD 0).toNat = y at *
      subst hx0
      obtain ⟨z, hz⟩ : ∃ z : BitVec 32, z.toNat = (c + 0 + y) % 4294967296 := ⟨BitVec.ofNat 32 ((c + 0 + y) % 4294967296), by rw [bv_of]; omega⟩
      obtain ⟨c', hc'⟩ : ∃ c', (c + 0 + y) / 4294967296 = c' := ⟨_, rfl⟩
      have hs := sum_step (4294967296 ^ k) (val ds) (val (xs.take k)) (val (ys.take k)) c 0 y z.toNat c' HV.out (by omega)
      have HV' : Hid (val (ds ++ [z]) + 4294967296 ^ (k + 1) * c' = val (xs.take (k + 1)) + val (ys.take (k + 1))) := by
        rw [Hid, val_snoc, HDL.out, Nat.pow_succ, sx, sy]
        exact hs
      have HDL' : Hid ((ds ++ [z]).length = k + 1) := by rw [Hid, List.length_append, List.length_singleton, HDL.out]
      have hc01 : c' ≤ 1 := by omega
      have t1 : ((c : Int) + (y : Int)) % 4294967296 = (z.toNat : Int) := by omega
      have t2 : ((c : Int) + (y : Int)).tmod 4294967296 = (z.toNat : Int) := by rw [Int.tmod_eq_emod_of_nonneg (by omega)]; omega
      have t3 : ((c : Int) + (y : Int)) / 4294967296 = (c' : Int) := by omega
      have t4 : ((c : Int) + (y : Int)).tdiv 4294967296 = (c' : Int) := by rw [Int.tdiv_eq_ediv_of_nonneg (by omega)]; omega
      have t5 : IntKind.u32.wrap (z.toNat : Int) = (z.toNat : Int) := by rw [IntKind.wrap_u32]; have := bv_lt z; omega
      have t6 : (z.toNat : Int) % 4294967296 = (z.toNat : Int) := by have := bv_lt z; omega
      have t7 : IntKind.u64.wrap (z.toNat : Int) = (z.toNat : Int) := by rw [IntKind.wrap_u64]; have := bv_lt z; omega
      have t8 : IntKind.u64.wrap (c' : Int) = (c' : Int) := by rw [IntKind.wrap_u64]; omega
      have i1 : ¬ ((k : Int) < (a : Int)) := by omega
      have i1' : (a : Int) ≤ (k : Int) := by omega
      have i2 : (k : Int) < (b : Int) := by omega
      have w3 : IntKind.u64.wrap (y : Int) = (y : Int) := by rw [IntKind.wrap_u64]; omega
      have w4 : IntKind.u64.wrap ((c : Int) + (y : Int)) = (c : Int) + (y : Int) := by rw [IntKind.wrap_u64]; omega
      have k0 : (0 : Int) ≤ (k : Int) := by omega
      have hK : k + 1 ≤ M ∨ (k + 1 = M + 1 ∧ c' = 0) := by omega
      clear hz hc' hs sx sy hown hxl hyl
      go_wp2_with (at_builtin; refine wpList_app1 rfl _ _ rfl W.heap.size _ ds rfl HO.out z rfl (by rw [HDL.out]; omega) hbl hsz ?_; intro v2 w2 hown2 hbl2)
      go_roundw
      case rel => exact ⟨k + 1, c', ds ++ [z], hK, by go_num, rfl, hc01, HDL', HV', hown2, hbl2⟩
      case measure => simp [intOf]; omega
    · have hxa : ¬ k < xs.length := by rw [HA.out]; exact hxk
      have hyb : ¬ k < ys.length := by rw [HB.out]; exact hyk
      have hx0 := dig_none xs k hxa
      have hy0 := dig_none ys k hyb
      have hxl := bv_lt (xs[k]?.getD 0)
      have hyl := bv_lt (ys[k]?.getD 0)
      have sx := val_take_any xs k
      have sy := val_take_any ys k
      generalize (xs[k]?.getD 0).toNat = x at *
      generalize (ys[k]?.getD 0).toNat = y at *
      subst hx0
      subst hy0
      obtain ⟨z, hz⟩ : ∃ z : BitVec 32, z.toNat = (c + 0 + 0) % 4294967296 := ⟨BitVec.ofNat 32 ((c + 0 + 0) % 4294967296), by rw [bv_of]; omega⟩
      obtain ⟨c', hc'⟩ : ∃ c', (c + 0 + 0) / 4294967296 = c' := ⟨_, rfl⟩
      have hs := sum_step (4294967296 ^ k) (val ds) (val (xs.take k)) (val (ys.take k)) c 0 0 z.toNat c' HV.out (by omega)
      have HV' : Hid (val (ds ++ [z]) + 4294967296 ^ (k + 1) * c' = val (xs.take (k + 1)) + val (ys.take (k + 1))) := by
        rw [Hid, val_snoc, HDL.out, Nat.pow_succ, sx, sy]
        exact hs
      have HDL' : Hid ((ds ++ [z]).length = k + 1) := by rw [Hid, List.length_append, List.length_singleton, HDL.out]
      have hc01 : c' ≤ 1 := by omega
      have t1 : ((c : Int)) % 4294967296 = (z.toNat : Int) := by omega
      have t2 : ((c : Int)).tmod 4294967296 = (z.toNat : Int) := by rw [Int.tmod_eq_emod_of_nonneg (by omega)]; omega
      have t3 : ((c : Int)) / 4294967296 = (c' : Int) := by omega
      have t4 : ((c : Int)).tdiv 4294967296 = (c' : Int) := by rw [Int.tdiv_eq_ediv_of_nonneg (by omega)]; omega
      have t5 : IntKind.u32.wrap (z.toNat : Int) = (z.toNat : Int) := by rw [IntKind.wrap_u32]; have := bv_lt z; omega
      have t6 : (z.toNat : Int) % 4294967296 = (z.toNat : Int) := by have := bv_lt z; omega
      have t7 : IntKind.u64.wrap (z.toNat : Int) = (z.toNat : Int) := by rw [IntKind.wrap_u64]; have := bv_lt z; omega
      have t8 : IntKind.u64.wrap (c' : Int) = (c' : Int) := by rw [IntKind.wrap_u64]; omega
      have i1 : ¬ ((k : Int) < (a : Int)) := by omega
      have i1' : (a : Int) ≤ (k : Int) := by omega
      have i2 : ¬ ((k : Int) < (b : Int)) := by omega
      have i2' : (b : Int) ≤ (k : Int) := by omega
      have hcp : (0 : Int) < (c : Int) := by omega
      have k0 : (0 : Int) ≤ (k : Int) := by omega
      have hK : k + 1 ≤ M ∨ (k + 1 = M + 1 ∧ c' = 0) := by omega
      clear hz hc' hs sx sy hown hxl hyl
      go_wp2_with (at_builtin; refine wpList_app1 rfl _ _ rfl W.heap.size _ ds rfl HO.out z rfl (by rw [HDL.out]; omega) hbl hsz ?_; intro v2 w2 hown2 hbl2)
      go_roundw
      case rel => exact ⟨k + 1, c', ds ++ [z], hK, by go_num, rfl, hc01, HDL', HV', hown2, hbl2⟩
      case measure => simp [intOf]; omega
theorem radd_in (W : World) (v u : Value) (A B : Nat) (hA : RN W v A) (hB : RN W u B) (ha : mny A ≤ 100000) (hb : mny B ≤ 100000) : Calls Tryd.prog 22 #[v, u] W fun e w' => ∃ v, e = .returned v ∧ RN w' v (A + B) ∧ Below W.heap.size W w' := by
  obtain ⟨xs, hx, rfl, tx⟩ := hA
  obtain ⟨ys, hy, rfl, ty⟩ := hB
  obtain ⟨p, c, rfl, hp⟩ := hx.read
  obtain ⟨q, d, rfl, hq⟩ := hy.read
  rw [← tx.many] at ha
  rw [← ty.many] at hb
  exact radd_go W p q c d xs ys _ _ rfl rfl ha hb hp hq
end Go.Proofs.YthjhemodmdficaaDoor
