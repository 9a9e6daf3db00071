/- Texts of this proof, joined: NR5, NR6, NR7, NR8, NR9, NR10. -/
import Derived.Test.YtpimliebiapnfaaGreatDoorJ18
/- The document's Of. -/
namespace Go.Proofs.YtpimliebiapnfaaGreatDoor.N
set_option linter.unusedVariables false
open Go.RowKit
theorem numB_cat : ∀ (a b : List UInt8), numB (a ++ b) = numB a * 256 ^ b.length + numB b
  | [], b => by simp [numB]
  | x :: a, b => by
    rw [List.cons_append, numB, numB, numB_cat a b, List.length_append, Nat.add_mul, Nat.pow_add, Nat.mul_assoc]
    omega
theorem chunk_val (l : List UInt8) (n k j m D : Nat) (hn : l.length = n) (hk : k + 4 * m = n) (hj : j ≤ k) (hD : D = numB ((l.drop j).take (k - j))) : numB (l.drop k) + 4294967296 ^ m * D = numB (l.drop j) := by
  have e : l.drop j = (l.drop j).take (k - j) ++ l.drop k := by
    have := (List.take_append_drop (k - j) (l.drop j)).symm
    rw [List.drop_drop, show j + (k - j) = k by omega] at this
    exact this
  rw [e, numB_cat, ← hD, List.length_drop, hn, show n - k = 4 * m by omega, pow4, Nat.mul_comm]
  omega
theorem chunk_next (l : List UInt8) (j i : Nat) (h : j + i < l.length) : numB ((l.drop j).take (i + 1)) = 256 * numB ((l.drop j).take i) + (l[j + i]?.getD 0).toNat := by
  have hl : i < (l.drop j).length := by rw [List.length_drop]; omega
  rw [List.take_add_one, List.getElem?_eq_getElem hl, Option.toList_some, numB_cat, List.getElem_drop, List.getElem?_eq_getElem h]
  simp [numB]
  omega
theorem btl_lim (N : Nat) : btl N ≤ 4096 ↔ N < Lim := by
  constructor
  · intro h; exact lt_pow_of_btl N 128 h
  · intro h; exact btl_le N h
set_option maxRecDepth 100000 in
set_option maxHeartbeats 1000000 in
theorem rof_in (s : ByteArray) (hs : s.size ≤ 140737488351232) (W : World) : Calls Tryz.prog 31 #[.string s] W fun e w' => ∃ v x, e = .returned (.tuple #[v, .int .i64 x]) ∧ (numB s.data.toList < Lim → x = 0 ∧ RN w' v (numB s.data.toList)) ∧ (¬ numB s.data.toList < Lim → x = 3 ∧ RN w' v 0) ∧ Below W.heap.size W w' := by
  obtain ⟨n, hn⟩ : ∃ n, s.size = n := ⟨_, rfl⟩
  obtain ⟨l, hl⟩ : ∃ l, s.data.toList = l := ⟨_, rfl⟩
  have HLN : Hid (l.length = n) := by rw [Hid, ← hl, size_list]; exact hn
  have HIX : Hid (∀ m, m < n → ∀ W : World, (Instr.index 9 (.string s) (.int .i64 (m : Int))).run Tryz.prog W = .ok (.int .u8 ((l[m]?.getD 0).toNat : Int)) W) := fun m hm W => index_get s m _ (by omega) (by rw [hl]) W
  rw [hl]
  have HNL := Hid.mk (numB_lt l)
  rw [HLN.out] at HNL
  obtain ⟨NN, hNN⟩ : ∃ NN, numB l = NN := ⟨_, rfl⟩
  rw [hNN] at HNL ⊢
  have HNN := Hid.mk hNN
  clear hNN
  have hn2 : n ≤ 140737488351232 := by omega
  clear hl hs
  go_enter Tryz.func31, Tryz.ntmps31
  go_wp2
  go_loopw [4, 5] (fun v kv wr => ∃ (m : Nat) (ds : List (BitVec 32)), 4 * m < n + 4 ∧ kv = .int .i64 ((n : Int) - 4 * (m : Int)) ∧ Hid (ds.length = m) ∧ Hid (val ds = numB (l.drop (n - 4 * m))) ∧ Ow W.heap.size wr v ds ∧ Below W.heap.size W wr) (fun _ kv _ => (intOf kv).toNat)
  case atStart => exact ⟨0, [], by omega, by go_num, rfl, by rw [Hid, Nat.mul_zero, Nat.sub_zero, List.drop_of_length_le (by rw [HLN.out]; omega)]; rfl, Ow.nil _ _, Below.refl _ _⟩
  case round =>
    obtain ⟨m, ds, hm4, rfl, HDL, HV, hown, hbl⟩ := hrel
    have HO := Hid.mk hown
    have hsz := hbl.size
    by_cases hlt : 4 * m < n
    · obtain ⟨k, hk⟩ : ∃ k, n - 4 * m = k := ⟨_, rfl⟩
      obtain ⟨j0, hj0⟩ : ∃ j0, k - 4 = j0 := ⟨_, rfl⟩
      have hki : (n : Int) - 4 * (m : Int) = (k : Int) := by omega
      rw [hki]
      have hmx : ∀ ts t w, (Builtin.max_ ts t #[.int .i64 0, .int .i64 ((k : Int) - 4)]).run Tryz.prog w = .ok (.int .i64 (j0 : Int)) w := fun ts t w => by
        have e : (j0 : Int) = if (0 : Int) < (k : Int) - 4 then (k : Int) - 4 else 0 := by split <;> omega
        rw [e]
        simp [Builtin.max_, Builtin.max2]
      have k0 : (0 : Int) < (k : Int) := by omega
      have k1 : (k : Int) ≤ 140737488351232 := by omega
      have HCV := Hid.mk (chunk_val l n k j0 m)
      have HJ : Hid (n - 4 * (m + 1) = j0 ∧ k + 4 * m = n ∧ k = n - 4 * m) := ⟨by omega, by omega, by omega⟩
      have HKJ : Hid (k - j0 ≤ 4 ∧ j0 ≤ k) := ⟨by omega, by omega⟩
      rw [hk] at HV
      clear hown hk hj0 hki
      go_wp2
      go_loopw [6, 7] (fun dv jv wx => ∃ i : Nat, i ≤ k - j0 ∧ jv = .int .i64 ((j0 : Int) + (i : Int)) ∧ dv = .int .u32 ((numB ((l.drop j0).take i) : Nat) : Int) ∧ wx = wr) (fun _ jv _ => k - (intOf jv).toNat)
      case atStart => exact ⟨0, by omega, by go_num, rfl, rfl⟩
      case round =>
        obtain ⟨i, hi, rfl, rfl, rfl⟩ := hrel
        have hj4 := HKJ.out
        have hkn := HJ.out
        by_cases hil : j0 + i < k
        · have hix := HIX.out (j0 + i) (by omega)
          have HC := Hid.mk (chunk_next l j0 i (by rw [HLN.out]; omega))
          have hdb : numB ((l.drop j0).take i) < 256 ^ 3 := Nat.lt_of_lt_of_le (numB_lt _) (Nat.pow_le_pow_right (by omega) (by rw [List.length_take]; omega))
          have hcb := (l[j0 + i]?.getD 0).toNat_lt
          generalize (l[j0 + i]?.getD 0).toNat = c at hix HC hcb
          generalize numB ((l.drop j0).take i) = d at HC hdb
          have hij : ((j0 + i : Nat) : Int) = (j0 : Int) + (i : Int) := by omega
          rw [hij] at hix
          have t1 : (j0 : Int) + (i : Int) < (k : Int) := by omega
          have t2 : IntKind.u32.wrap (256 * (d : Int)) = 256 * (d : Int) := by rw [IntKind.wrap_u32]; omega
          have t3 : IntKind.u32.wrap (c : Int) = (c : Int) := by rw [IntKind.wrap_u32]; omega
          have t4 : IntKind.u32.wrap (256 * (d : Int) + (c : Int)) = 256 * (d : Int) + (c : Int) := by rw [IntKind.wrap_u32]; omega
          clear hij hj4 hkn
          go_wp2
          go_roundw
          case rel => exact ⟨i + 1, by omega, by go_num, by rw [HC.out]; go_num, trivial⟩
          case measure => simp [intOf]; omega
        · obtain rfl : i = k - j0 := by omega
          have hij : (j0 : Int) + ((k - j0 : Nat) : Int) = (k : Int) := by omega
          rw [hij]
          have HD := Hid.mk (HCV.out _ HLN.out hkn.2.1 hj4.2 rfl)
          have hdb : numB ((l.drop j0).take (k - j0)) < 256 ^ 4 := Nat.lt_of_lt_of_le (numB_lt _) (Nat.pow_le_pow_right (by omega) (by rw [List.length_take]; omega))
          obtain ⟨z, hz⟩ : ∃ z : BitVec 32, z.toNat = numB ((l.drop j0).take (k - j0)) := ⟨BitVec.ofNat 32 (numB ((l.drop j0).take (k - j0))), by rw [bv_of]; omega⟩
          rw [← hz] at HD ⊢
          have HN : Hid (val (ds ++ [z]) = numB (l.drop (n - 4 * (m + 1)))) := by
            rw [Hid, val_snoc, HV.out, HDL.out, HD.out, hkn.1]
          have HDL2 : Hid ((ds ++ [z]).length = m + 1) := by rw [Hid, List.length_append, List.length_singleton, HDL.out]
          have HKE : Hid ((k : Int) - 4 = (n : Int) - 4 * ((m + 1 : Nat) : Int)) := by rw [Hid]; omega
          clear hz hdb hij hil hi hkn hj4
          go_wp2_with (at_builtin; refine wpList_app1 rfl _ _ rfl W.heap.size _ ds rfl HO.out z rfl (by rw [HDL.out]; omega) hbl hsz ?_; intro v2 w2 hown2 hbl2)
          go_roundw
          case rel => exact ⟨m + 1, ds ++ [z], by omega, congrArg (Value.int .i64) HKE.out, HDL2, HN, hown2, hbl2⟩
          case measure => simp [intOf]; omega
    · have hk0 : ¬ ((0 : Int) < (n : Int) - 4 * (m : Int)) := by omega
      have hk1 : (n : Int) - 4 * (m : Int) ≤ 0 := by omega
      have HV' : Hid (val ds = NN) := by
        have := HV.out
        rw [show n - 4 * m = 0 by omega, List.drop_zero, HNN.out] at this
        exact this
      have HT : Hid (∀ W' v', RN W' v' (NN) → Calls Tryz.prog 64 #[v'] W' fun e w' => e = .returned (.int .i64 (btl (NN) : Int)) ∧ w' = W') := fun W' v' hr => rbits_in W' v' _ hr (by
        have h1 := HNL.out
        have h2 : NN < 4294967296 ^ n := Nat.lt_of_lt_of_le h1 (Nat.pow_le_pow_left (by omega) n)
        apply Classical.byContradiction
        intro hh
        have h0 : NN ≠ 0 := fun h => by rw [h, mny_zero] at hh; omega
        have h3 := (mny_ge _ h0).2
        have h4 : 256 ^ n ≤ 4294967296 ^ (n / 4 + 1) := by rw [← pow4]; exact Nat.pow_le_pow_right (by omega) (by omega)
        have h5 : 4294967296 ^ (n / 4 + 1) ≤ 4294967296 ^ (mny (NN) - 1) := Nat.pow_le_pow_right (by omega) (by omega)
        omega)
      have HBT := Hid.mk (btl_lim (NN))
      clear hown
      go_wp2_with fail
      refine (rtrim_in _ _ ds HO.out.rw).mono ?_
      rintro e w1 ⟨v1, rfl, hr1, rfl⟩
      rw [HV'.out] at hr1
      have HR1 := Hid.mk hr1
      clear hr1
      go_wp2_with fail
      refine (HT.out _ _ HR1.out).mono ?_
      rintro e w2 ⟨rfl, rfl⟩
      by_cases hb : btl NN ≤ 4096
      · have hlim := HBT.out.1 hb
        have hbi : ¬ ((4096 : Int) < (btl NN : Int)) := by omega
        have hbj : (btl NN : Int) ≤ 4096 := by omega
        generalize btl NN = bn at *
        go_wp2
        go_ret2
        exact ⟨v1, 0, rfl, fun _ => ⟨rfl, HR1.out⟩, fun h => absurd hlim h, hbl⟩
      · have hlim : ¬ NN < Lim := fun h => hb (HBT.out.2 h)
        have hbi : (4096 : Int) < (btl NN : Int) := by omega
        generalize btl NN = bn at *
        go_wp2
        go_ret2
        exact ⟨.slice none 0 0, 3, rfl, fun h => absurd h hlim, fun _ => ⟨rfl, RN.zero _⟩, hbl⟩
end Go.Proofs.YtpimliebiapnfaaGreatDoor.N
/- The document's Wide, Bytes. -/
namespace Go.Proofs.YtpimliebiapnfaaGreatDoor.N
set_option linter.unusedVariables false
open Go.RowKit
theorem dig_of (ds : List (BitVec 32)) (j : Nat) (h : j < ds.length) : (ds[j]?.getD 0).toNat = val ds / 4294967296 ^ j % 4294967296 := by
  have h1 := val_cut ds j h
  have h2 := val_lt (ds.take j)
  rw [List.length_take, Nat.min_eq_left (by omega)] at h2
  have hp : 0 < 4294967296 ^ j := Nat.pow_pos (by omega)
  rw [h1, Nat.add_mul_div_left _ _ hp, Nat.div_eq_of_lt h2, Nat.zero_add]
  have := bv_lt (ds[j]?.getD 0)
  omega
end Go.Proofs.YtpimliebiapnfaaGreatDoor.N
/- The document's Add, Sub. -/
namespace Go.Proofs.YtpimliebiapnfaaGreatDoor.N
set_option linter.unusedVariables false
open Go.RowKit
def Rd (W : World) (p : Option Addr) (xs : List (BitVec 32)) : Prop := ∀ j, j < xs.length → ∃ g, p = some ⟨g, 0, none⟩ ∧ g < W.heap.size ∧ W.cell? ⟨g, j, none⟩ = some (.int .u32 ((xs[j]?.getD 0).toNat : Int))
theorem Rw.read {W : World} {v : Value} {xs : List (BitVec 32)} (h : Rw W v xs) : ∃ p cap, v = .slice p xs.length cap ∧ Rd W p xs := by
  rcases h.view with ⟨rfl, rfl⟩ | ⟨g, cap, rfl, hc, hm, hg, hcell, -⟩
  · exact ⟨none, 0, rfl, fun j hj => by simp at hj⟩
  · exact ⟨_, cap, rfl, fun j hj => ⟨g, rfl, hg, hcell j hj⟩⟩
theorem val_take_any (l : List (BitVec 32)) (m : Nat) : val (l.take (m + 1)) = val (l.take m) + 4294967296 ^ m * (l[m]?.getD 0).toNat := by
  by_cases h : m < l.length
  · exact val_take_succ l m h
  · rw [List.take_of_length_le (by omega), List.take_of_length_le (by omega), List.getElem?_eq_none (by omega)]
    simp
theorem dig_none (l : List (BitVec 32)) (m : Nat) (h : ¬ m < l.length) : (l[m]?.getD 0).toNat = 0 := by
  rw [List.getElem?_eq_none (by omega)]
  rfl
theorem take_all (l : List (BitVec 32)) (m : Nat) (h : l.length ≤ m) : val (l.take m) = val l := by rw [List.take_of_length_le h]
theorem sum_step (P V X Y c x y z c' : Nat) (h : V + P * c = X + Y) (hz : z + 4294967296 * c' = c + x + y) : V + P * z + P * 4294967296 * c' = X + P * x + (Y + P * y) := by
  have e : P * (z + 4294967296 * c') = P * (c + x + y) := by rw [hz]
  rw [Nat.mul_add, Nat.mul_add, Nat.mul_add, ← Nat.mul_assoc] at e
  omega
theorem dif_step (P V X Y b x y z b' : Nat) (h : V + Y = X + P * b) (hz : z + y + b = x + 4294967296 * b') : V + P * z + (Y + P * y) = X + P * x + P * 4294967296 * b' := by
  have e : P * (z + y + b) = P * (x + 4294967296 * b') := by rw [hz]
  rw [Nat.mul_add, Nat.mul_add, Nat.mul_add, ← Nat.mul_assoc] at e
  omega
set_option maxRecDepth 100000 in
set_option maxHeartbeats 1000000 in
theorem radd_go (W : World) (p q : Option Addr) (cp cq : Nat) (xs ys : List (BitVec 32)) (a b : Nat) (ha : xs.length = a) (hb : ys.length = b) (ha1 : a ≤ 100000) (hb1 : b ≤ 100000) (hX : Rd W p xs) (hY : Rd W q ys) : Calls Tryz.prog 90 #[.slice p a cp, .slice q b cq] W fun e w' => ∃ v, e = .returned v ∧ RN w' v (val xs + val ys) ∧ Below W.heap.size W w' := by
  have HX := Hid.mk hX
  have HY := Hid.mk hY
  have HA := Hid.mk ha
  have HB := Hid.mk hb
  obtain ⟨M, hM⟩ : ∃ M, max a b = M := ⟨_, rfl⟩
  have hMa : a ≤ M := by omega
  have hMb : b ≤ M := by omega
  have hM2 : M ≤ 100000 := by omega
  have hM3 : M = a ∨ M = b := by omega
  clear hX hY ha hb hM
  go_enter Tryz.func90, Tryz.ntmps90
  go_wp2
  go_loopw [5, 6, 7] (fun v cv kv wr => ∃ (k c : Nat) (ds : List (BitVec 32)), (k ≤ M ∨ (k = M + 1 ∧ c = 0)) ∧ kv = .int .i64 (k : Int) ∧ cv = .int .u64 (c : Int) ∧ c ≤ 1 ∧ Hid (ds.length = k) ∧ Hid (val ds + 4294967296 ^ k * c = val (xs.take k) + val (ys.take k)) ∧ Ow W.heap.size wr v ds ∧ Below W.heap.size W wr) (fun _ _ kv _ => M + 1 - (intOf kv).toNat)
  case atStart => exact ⟨0, 0, [], by omega, rfl, rfl, by omega, rfl, by simp [Hid, val], Ow.nil _ _, Below.refl _ _⟩
  case round =>
    obtain ⟨k, c, ds, hk, rfl, rfl, hc, HDL, HV, hown, hbl⟩ := hrel
    have HO := Hid.mk hown
    have hsz := hbl.size
    by_cases hend : a ≤ k ∧ b ≤ k ∧ c = 0
    · obtain ⟨e1, e2, rfl⟩ := hend
      have HE : Hid (val ds = val xs + val ys) := by
        have := HV.out
        rw [Nat.mul_zero, Nat.add_zero, take_all xs k (by rw [HA.out]; exact e1), take_all ys k (by rw [HB.out]; exact e2)] at this
        exact this
      have i1 : ¬ ((k : Int) < (a : Int)) := by omega
      have i1' : (a : Int) ≤ (k : Int) := by omega
      have i2 : ¬ ((k : Int) < (b : Int)) := by omega
      have i2' : (b : Int) ≤ (k : Int) := by omega
      clear hown
      go_wp2_with fail
      refine (rtrim_in _ _ ds HO.out.rw).mono ?_
      rintro e w1 ⟨v1, rfl, hr1, rfl⟩
      rw [HE.out] at hr1
      have HR1 := Hid.mk hr1
      clear hr1
      go_wp2
      go_ret
      exact ⟨_, rfl, HR1.out, hbl⟩
    have hkM : k ≤ M := by omega
    have hM1 : (k : Int) ≤ 100000 := by omega
    by_cases hxk : k < a <;> by_cases hyk : k < b
    · have hxa :  k < xs.length := by rw [HA.out]; exact hxk
      have hyb :  k < ys.length := by rw [HB.out]; exact hyk
      obtain ⟨g, rfl, hg, hcx⟩ := HX.out k hxa
      have hc1 : wr.cell? ⟨g, k, none⟩ = _ := (hbl.cell (p := ⟨g, k, none⟩) hg).trans hcx
      clear hcx
      obtain ⟨g', rfl, hg', hcy⟩ := HY.out k hyb
      have hc2 : wr.cell? ⟨g', k, none⟩ = _ := (hbl.cell (p := ⟨g', k, none⟩) hg').trans hcy
      clear hcy
      have hxl := bv_lt (xs[k]?.getD 0)
      have hyl := bv_lt (ys[k]?.getD 0)
      have sx := val_take_any xs k
      have sy := val_take_any ys k
      generalize (xs[k]?.getD 0).toNat = x at *
      generalize (ys[k]?.getD 0).toNat = y at *
      obtain ⟨z, hz⟩ : ∃ z : BitVec 32, z.toNat = (c + x + y) % 4294967296 := ⟨BitVec.ofNat 32 ((c + x + y) % 4294967296), by rw [bv_of]; omega⟩
      obtain ⟨c', hc'⟩ : ∃ c', (c + x + y) / 4294967296 = c' := ⟨_, rfl⟩
      have hs := sum_step (4294967296 ^ k) (val ds) (val (xs.take k)) (val (ys.take k)) c x y z.toNat c' HV.out (by omega)
      have HV' : Hid (val (ds ++ [z]) + 4294967296 ^ (k + 1) * c' = val (xs.take (k + 1)) + val (ys.take (k + 1))) := by
        rw [Hid, val_snoc, HDL.out, Nat.pow_succ, sx, sy]
        exact hs
      have HDL' : Hid ((ds ++ [z]).length = k + 1) := by rw [Hid, List.length_append, List.length_singleton, HDL.out]
      have hc01 : c' ≤ 1 := by omega
      have t1 : ((c : Int) + (x : Int) + (y : Int)) % 4294967296 = (z.toNat : Int) := by omega
      have t2 : ((c : Int) + (x : Int) + (y : Int)).tmod 4294967296 = (z.toNat : Int) := by rw [Int.tmod_eq_emod_of_nonneg (by omega)]; omega
      have t3 : ((c : Int) + (x : Int) + (y : Int)) / 4294967296 = (c' : Int) := by omega
      have t4 : ((c : Int) + (x : Int) + (y : Int)).tdiv 4294967296 = (c' : Int) := by rw [Int.tdiv_eq_ediv_of_nonneg (by omega)]; omega
      have t5 : IntKind.u32.wrap (z.toNat : Int) = (z.toNat : Int) := by rw [IntKind.wrap_u32]; have := bv_lt z; omega
      have t6 : (z.toNat : Int) % 4294967296 = (z.toNat : Int) := by have := bv_lt z; omega
      have t7 : IntKind.u64.wrap (z.toNat : Int) = (z.toNat : Int) := by rw [IntKind.wrap_u64]; have := bv_lt z; omega
      have t8 : IntKind.u64.wrap (c' : Int) = (c' : Int) := by rw [IntKind.wrap_u64]; omega
      have i1 : (k : Int) < (a : Int) := by omega
      have w1 : IntKind.u64.wrap (x : Int) = (x : Int) := by rw [IntKind.wrap_u64]; omega
      have w2 : IntKind.u64.wrap ((c : Int) + (x : Int)) = (c : Int) + (x : Int) := by rw [IntKind.wrap_u64]; omega
      have i2 : (k : Int) < (b : Int) := by omega
      have w3 : IntKind.u64.wrap (y : Int) = (y : Int) := by rw [IntKind.wrap_u64]; omega
      have w4 : IntKind.u64.wrap ((c : Int) + (x : Int) + (y : Int)) = (c : Int) + (x : Int) + (y : Int) := by rw [IntKind.wrap_u64]; omega
      have k0 : (0 : Int) ≤ (k : Int) := by omega
      have hK : k + 1 ≤ M ∨ (k + 1 = M + 1 ∧ c' = 0) := by omega
      clear hz hc' hs sx sy hown hxl hyl
      go_wp2_with (at_builtin; refine wpList_app1 rfl _ _ rfl W.heap.size _ ds rfl HO.out z rfl (by rw [HDL.out]; omega) hbl hsz ?_; intro v2 w2 hown2 hbl2)
      go_roundw
      case rel => exact ⟨k + 1, c', ds ++ [z], hK, by go_num, rfl, hc01, HDL', HV', hown2, hbl2⟩
      case measure => simp [intOf]; omega
    · have hxa :  k < xs.length := by rw [HA.out]; exact hxk
      have hyb : ¬ k < ys.length := by rw [HB.out]; exact hyk
      obtain ⟨g, rfl, hg, hcx⟩ := HX.out k hxa
      have hc1 : wr.cell? ⟨g, k, none⟩ = _ := (hbl.cell (p := ⟨g, k, none⟩) hg).trans hcx
      clear hcx
      have hy0 := dig_none ys k hyb
      have hxl := bv_lt (xs[k]?.getD 0)
      have hyl := bv_lt (ys[k]?.getD 0)
      have sx := val_take_any xs k
      have sy := val_take_any ys k
      generalize (xs[k]?.getD 0).toNat = x at *
      generalize (ys[k]?.getD 0).toNat = y at *
      subst hy0
      obtain ⟨z, hz⟩ : ∃ z : BitVec 32, z.toNat = (c + x + 0) % 4294967296 := ⟨BitVec.ofNat 32 ((c + x + 0) % 4294967296), by rw [bv_of]; omega⟩
      obtain ⟨c', hc'⟩ : ∃ c', (c + x + 0) / 4294967296 = c' := ⟨_, rfl⟩
      have hs := sum_step (4294967296 ^ k) (val ds) (val (xs.take k)) (val (ys.take k)) c x 0 z.toNat c' HV.out (by omega)
      have HV' : Hid (val (ds ++ [z]) + 4294967296 ^ (k + 1) * c' = val (xs.take (k + 1)) + val (ys.take (k + 1))) := by
        rw [Hid, val_snoc, HDL.out, Nat.pow_succ, sx, sy]
        exact hs
      have HDL' : Hid ((ds ++ [z]).length = k + 1) := by rw [Hid, List.length_append, List.length_singleton, HDL.out]
      have hc01 : c' ≤ 1 := by omega
      have t1 : ((c : Int) + (x : Int)) % 4294967296 = (z.toNat : Int) := by omega
      have t2 : ((c : Int) + (x : Int)).tmod 4294967296 = (z.toNat : Int) := by rw [Int.tmod_eq_emod_of_nonneg (by omega)]; omega
      have t3 : ((c : Int) + (x : Int)) / 4294967296 = (c' : Int) := by omega
      have t4 : ((c : Int) + (x : Int)).tdiv 4294967296 = (c' : Int) := by rw [Int.tdiv_eq_ediv_of_nonneg (by omega)]; omega
      have t5 : IntKind.u32.wrap (z.toNat : Int) = (z.toNat : Int) := by rw [IntKind.wrap_u32]; have := bv_lt z; omega
      have t6 : (z.toNat : Int) % 4294967296 = (z.toNat : Int) := by have := bv_lt z; omega
      have t7 : IntKind.u64.wrap (z.toNat : Int) = (z.toNat : Int) := by rw [IntKind.wrap_u64]; have := bv_lt z; omega
      have t8 : IntKind.u64.wrap (c' : Int) = (c' : Int) := by rw [IntKind.wrap_u64]; omega
      have i1 : (k : Int) < (a : Int) := by omega
      have w1 : IntKind.u64.wrap (x : Int) = (x : Int) := by rw [IntKind.wrap_u64]; omega
      have w2 : IntKind.u64.wrap ((c : Int) + (x : Int)) = (c : Int) + (x : Int) := by rw [IntKind.wrap_u64]; omega
      have i2 : ¬ ((k : Int) < (b : Int)) := by omega
      have i2' : (b : Int) ≤ (k : Int) := by omega
      have k0 : (0 : Int) ≤ (k : Int) := by omega
      have hK : k + 1 ≤ M ∨ (k + 1 = M + 1 ∧ c' = 0) := by omega
      clear hz hc' hs sx sy hown hxl hyl
      go_wp2_with (at_builtin; refine wpList_app1 rfl _ _ rfl W.heap.size _ ds rfl HO.out z rfl (by rw [HDL.out]; omega) hbl hsz ?_; intro v2 w2 hown2 hbl2)
      go_roundw
      case rel => exact ⟨k + 1, c', ds ++ [z], hK, by go_num, rfl, hc01, HDL', HV', hown2, hbl2⟩
      case measure => simp [intOf]; omega
    · have hxa : ¬ k < xs.length := by rw [HA.out]; exact hxk
      have hyb :  k < ys.length := by rw [HB.out]; exact hyk
      have hx0 := dig_none xs k hxa
      obtain ⟨g', rfl, hg', hcy⟩ := HY.out k hyb
      have hc2 : wr.cell? ⟨g', k, none⟩ = _ := (hbl.cell (p := ⟨g', k, none⟩) hg').trans hcy
      clear hcy
      have hxl := bv_lt (xs[k]?.getD 0)
      have hyl := bv_lt (ys[k]?.getD 0)
      have sx := val_take_any xs k
      have sy := val_take_any ys k
      generalize (xs[k]?.getD 0).toNat = x at *
      generalize (ys[k]?.getD 0).toNat = y at *
      subst hx0
      obtain ⟨z, hz⟩ : ∃ z : BitVec 32, z.toNat = (c + 0 + y) % 4294967296 := ⟨BitVec.ofNat 32 ((c + 0 + y) % 4294967296), by rw [bv_of]; omega⟩
      obtain ⟨c', hc'⟩ : ∃ c', (c + 0 + y) / 4294967296 = c' := ⟨_, rfl⟩
      have hs := sum_step (4294967296 ^ k) (val ds) (val (xs.take k)) (val (ys.take k)) c 0 y z.toNat c' HV.out (by omega)
      have HV' : Hid (val (ds ++ [z]) + 4294967296 ^ (k + 1) * c' = val (xs.take (k + 1)) + val (ys.take (k + 1))) := by
        rw [Hid, val_snoc, HDL.out, Nat.pow_succ, sx, sy]
        exact hs
      have HDL' : Hid ((ds ++ [z]).length = k + 1) := by rw [Hid, List.length_append, List.length_singleton, HDL.out]
      have hc01 : c' ≤ 1 := by omega
      have t1 : ((c : Int) + (y : Int)) % 4294967296 = (z.toNat : Int) := by omega
      have t2 : ((c : Int) + (y : Int)).tmod 4294967296 = (z.toNat : Int) := by rw [Int.tmod_eq_emod_of_nonneg (by omega)]; omega
      have t3 : ((c : Int) + (y : Int)) / 4294967296 = (c' : Int) := by omega
      have t4 : ((c : Int) + (y : Int)).tdiv 4294967296 = (c' : Int) := by rw [Int.tdiv_eq_ediv_of_nonneg (by omega)]; omega
      have t5 : IntKind.u32.wrap (z.toNat : Int) = (z.toNat : Int) := by rw [IntKind.wrap_u32]; have := bv_lt z; omega
      have t6 : (z.toNat : Int) % 4294967296 = (z.toNat : Int) := by have := bv_lt z; omega
      have t7 : IntKind.u64.wrap (z.toNat : Int) = (z.toNat : Int) := by rw [IntKind.wrap_u64]; have := bv_lt z; omega
      have t8 : IntKind.u64.wrap (c' : Int) = (c' : Int) := by rw [IntKind.wrap_u64]; omega
      have i1 : ¬ ((k : Int) < (a : Int)) := by omega
      have i1' : (a : Int) ≤ (k : Int) := by omega
      have i2 : (k : Int) < (b : Int) := by omega
      have w3 : IntKind.u64.wrap (y : Int) = (y : Int) := by rw [IntKind.wrap_u64]; omega
      have w4 : IntKind.u64.wrap ((c : Int) + (y : Int)) = (c : Int) + (y : Int) := by rw [IntKind.wrap_u64]; omega
      have k0 : (0 : Int) ≤ (k : Int) := by omega
      have hK : k + 1 ≤ M ∨ (k + 1 = M + 1 ∧ c' = 0) := by omega
      clear hz hc' hs sx sy hown hxl hyl
      go_wp2_with (at_builtin; refine wpList_app1 rfl _ _ rfl W.heap.size _ ds rfl HO.out z rfl (by rw [HDL.out]; omega) hbl hsz ?_; intro v2 w2 hown2 hbl2)
      go_roundw
      case rel => exact ⟨k + 1, c', ds ++ [z], hK, by go_num, rfl, hc01, HDL', HV', hown2, hbl2⟩
      case measure => simp [intOf]; omega
    · have hxa : ¬ k < xs.length := by rw [HA.out]; exact hxk
      have hyb : ¬ k < ys.length := by rw [HB.out]; exact hyk
      have hx0 := dig_none xs k hxa
      have hy0 := dig_none ys k hyb
      have hxl := bv_lt (xs[k]?.getD 0)
      have hyl := bv_lt (ys[k]?.getD 0)
      have sx := val_take_any xs k
      have sy := val_take_any ys k
      generalize (xs[k]?.getD 0).toNat = x at *
      generalize (ys[k]?.getD 0).toNat = y at *
      subst hx0
      subst hy0
      obtain ⟨z, hz⟩ : ∃ z : BitVec 32, z.toNat = (c + 0 + 0) % 4294967296 := ⟨BitVec.ofNat 32 ((c + 0 + 0) % 4294967296), by rw [bv_of]; omega⟩
      obtain ⟨c', hc'⟩ : ∃ c', (c + 0 + 0) / 4294967296 = c' := ⟨_, rfl⟩
      have hs := sum_step (4294967296 ^ k) (val ds) (val (xs.take k)) (val (ys.take k)) c 0 0 z.toNat c' HV.out (by omega)
      have HV' : Hid (val (ds ++ [z]) + 4294967296 ^ (k + 1) * c' = val (xs.take (k + 1)) + val (ys.take (k + 1))) := by
        rw [Hid, val_snoc, HDL.out, Nat.pow_succ, sx, sy]
        exact hs
      have HDL' : Hid ((ds ++ [z]).length = k + 1) := by rw [Hid, List.length_append, List.length_singleton, HDL.out]
      have hc01 : c' ≤ 1 := by omega
      have t1 : ((c : Int)) % 4294967296 = (z.toNat : Int) := by omega
      have t2 : ((c : Int)).tmod 4294967296 = (z.toNat : Int) := by rw [Int.tmod_eq_emod_of_nonneg (by omega)]; omega
      have t3 : ((c : Int)) / 4294967296 = (c' : Int) := by omega
      have t4 : ((c : Int)).tdiv 4294967296 = (c' : Int) := by rw [Int.tdiv_eq_ediv_of_nonneg (by omega)]; omega
      have t5 : IntKind.u32.wrap (z.toNat : Int) = (z.toNat : Int) := by rw [IntKind.wrap_u32]; have := bv_lt z; omega
      have t6 : (z.toNat : Int) % 4294967296 = (z.toNat : Int) := by have := bv_lt z; omega
      have t7 : IntKind.u64.wrap (z.toNat : Int) = (z.toNat : Int) := by rw [IntKind.wrap_u64]; have := bv_lt z; omega
      have t8 : IntKind.u64.wrap (c' : Int) = (c' : Int) := by rw [IntKind.wrap_u64]; omega
      have i1 : ¬ ((k : Int) < (a : Int)) := by omega
      have i1' : (a : Int) ≤ (k : Int) := by omega
      have i2 : ¬ ((k : Int) < (b : Int)) := by omega
      have i2' : (b : Int) ≤ (k : Int) := by omega
      have hcp : (0 : Int) < (c : Int) := by omega
      have k0 : (0 : Int) ≤ (k : Int) := by omega
      have hK : k + 1 ≤ M ∨ (k + 1 = M + 1 ∧ c' = 0) := by omega
      clear hz hc' hs sx sy hown hxl hyl
      go_wp2_with (at_builtin; refine wpList_app1 rfl _ _ rfl W.heap.size _ ds rfl HO.out z rfl (by rw [HDL.out]; omega) hbl hsz ?_; intro v2 w2 hown2 hbl2)
      go_roundw
      case rel => exact ⟨k + 1, c', ds ++ [z], hK, by go_num, rfl, hc01, HDL', HV', hown2, hbl2⟩
      case measure => simp [intOf]; omega
theorem radd_in (W : World) (v u : Value) (A B : Nat) (hA : RN W v A) (hB : RN W u B) (ha : mny A ≤ 100000) (hb : mny B ≤ 100000) : Calls Tryz.prog 90 #[v, u] W fun e w' => ∃ v, e = .returned v ∧ RN w' v (A + B) ∧ Below W.heap.size W w' := by
  obtain ⟨xs, hx, rfl, tx⟩ := hA
  obtain ⟨ys, hy, rfl, ty⟩ := hB
  obtain ⟨p, c, rfl, hp⟩ := hx.read
  obtain ⟨q, d, rfl, hq⟩ := hy.read
  rw [← tx.many] at ha
  rw [← ty.many] at hb
  exact radd_go W p q c d xs ys _ _ rfl rfl ha hb hp hq
end Go.Proofs.YtpimliebiapnfaaGreatDoor.N
/- The document's Sub. -/
namespace Go.Proofs.YtpimliebiapnfaaGreatDoor.N
set_option linter.unusedVariables false
open Go.RowKit
set_option maxRecDepth 100000 in
set_option maxHeartbeats 1000000 in
theorem rsub_go (W : World) (p q : Option Addr) (cp cq : Nat) (xs ys : List (BitVec 32)) (a b : Nat) (ha : xs.length = a) (hb : ys.length = b) (ha1 : a ≤ 100000) (hb1 : b ≤ a) (hle : val ys ≤ val xs) (hX : Rd W p xs) (hY : Rd W q ys) : Calls Tryz.prog 89 #[.slice p a cp, .slice q b cq] W fun e w' => ∃ v, e = .returned v ∧ RN w' v (val xs - val ys) ∧ Fresh W.heap.size v ∧ Below W.heap.size W w' := by
  have HX := Hid.mk hX
  have HY := Hid.mk hY
  have HA := Hid.mk ha
  have HB := Hid.mk hb
  have HLE := Hid.mk hle
  clear hX hY ha hb hle
  go_enter Tryz.func89, Tryz.ntmps89
  go_wp2
  go_loopw [5, 6, 7] (fun v cv kv wr => ∃ (k c : Nat) (ds : List (BitVec 32)), k ≤ a ∧ kv = .int .i64 (k : Int) ∧ cv = .int .u64 (c : Int) ∧ c ≤ 1 ∧ Hid (ds.length = k) ∧ Hid (val ds + val (ys.take k) = val (xs.take k) + 4294967296 ^ k * c) ∧ Ow W.heap.size wr v ds ∧ Below W.heap.size W wr) (fun _ _ kv _ => a - (intOf kv).toNat)
  case atStart => exact ⟨0, 0, [], by omega, rfl, rfl, by omega, rfl, by simp [Hid, val], Ow.nil _ _, Below.refl _ _⟩
  case round =>
    obtain ⟨k, c, ds, hk, rfl, rfl, hc, HDL, HV, hown, hbl⟩ := hrel
    have HO := Hid.mk hown
    have hsz := hbl.size
    by_cases hlt : k < a
    rotate_left
    · obtain rfl : k = a := by omega
      have HE : Hid (val ds = val xs - val ys) := by
        have h1 := HV.out
        rw [take_all xs k (by rw [HA.out]; omega), take_all ys k (by rw [HB.out]; exact hb1)] at h1
        have h2 := val_lt ds
        rw [HDL.out] at h2
        have h3 := HLE.out
        have hc0 : c = 0 := by
          apply Classical.byContradiction
          intro hn
          have : 4294967296 ^ k * 1 ≤ 4294967296 ^ k * c := Nat.mul_le_mul_left _ (by omega)
          omega
        rw [hc0, Nat.mul_zero, Nat.add_zero] at h1
        rw [Hid]
        omega
      have i1 : ¬ ((k : Int) < (k : Int)) := by omega
      clear hown
      go_wp2_with fail
      refine (rtrim2_in _ _ ds HO.out.rw).mono ?_
      rintro e w1 ⟨v1, rfl, hr1, rfl, hk1⟩
      rw [HE.out] at hr1
      have HR1 := Hid.mk hr1
      have HF1 := Hid.mk (Fresh.trim (fresh_own HO.out) hk1)
      clear hr1 hk1
      go_wp2
      go_ret
      exact ⟨_, rfl, HR1.out, HF1.out, hbl⟩
    by_cases hyk : k < b
    · skip
      obtain ⟨g, rfl, hg, hcx⟩ := HX.out k (by rw [HA.out]; exact hlt)
      have hc1 : wr.cell? ⟨g, k, none⟩ = _ := (hbl.cell (p := ⟨g, k, none⟩) hg).trans hcx
      clear hcx
      obtain ⟨g', rfl, hg', hcy⟩ := HY.out k (by rw [HB.out]; exact hyk)
      have hc2 : wr.cell? ⟨g', k, none⟩ = _ := (hbl.cell (p := ⟨g', k, none⟩) hg').trans hcy
      clear hcy
      have hxl := bv_lt (xs[k]?.getD 0)
      have hyl := bv_lt (ys[k]?.getD 0)
      have sx := val_take_any xs k
      have sy := val_take_any ys k
      generalize (xs[k]?.getD 0).toNat = x at *
      generalize (ys[k]?.getD 0).toNat = y at *
      obtain ⟨d, hd⟩ : ∃ d, x + 4294967296 - (c + y) = d := ⟨_, rfl⟩
      obtain ⟨z, hz⟩ : ∃ z : BitVec 32, z.toNat = d % 4294967296 := ⟨BitVec.ofNat 32 (d % 4294967296), by rw [bv_of]; omega⟩
      obtain ⟨qd, hqd⟩ : ∃ qd, d / 4294967296 = qd := ⟨_, rfl⟩
      obtain ⟨c', hc'⟩ : ∃ c', 1 - qd = c' := ⟨_, rfl⟩
      have hs := dif_step (4294967296 ^ k) (val ds) (val (xs.take k)) (val (ys.take k)) c x y z.toNat c' HV.out (by omega)
      have HV' : Hid (val (ds ++ [z]) + val (ys.take (k + 1)) = val (xs.take (k + 1)) + 4294967296 ^ (k + 1) * c') := by
        rw [Hid, val_snoc, HDL.out, Nat.pow_succ, sx, sy]
        exact hs
      have HDL' : Hid ((ds ++ [z]).length = k + 1) := by rw [Hid, List.length_append, List.length_singleton, HDL.out]
      have hc01 : c' ≤ 1 := by omega
      have d1 : (x : Int) + 4294967296 - ((c : Int) + (y : Int)) = (d : Int) := by omega
      have d1' : (x : Int) + 4294967296 - ((c : Int) + (y : Int)) = (d : Int) := d1
      have t1 : (d : Int) % 4294967296 = (z.toNat : Int) := by omega
      have t2 : (d : Int).tmod 4294967296 = (z.toNat : Int) := by rw [Int.tmod_eq_emod_of_nonneg (by omega)]; omega
      have t3 : (d : Int) / 4294967296 = (qd : Int) := by omega
      have t4 : (d : Int).tdiv 4294967296 = (qd : Int) := by rw [Int.tdiv_eq_ediv_of_nonneg (by omega)]; omega
      have t5 : IntKind.u32.wrap (z.toNat : Int) = (z.toNat : Int) := by rw [IntKind.wrap_u32]; have := bv_lt z; omega
      have t6 : (z.toNat : Int) % 4294967296 = (z.toNat : Int) := by have := bv_lt z; omega
      have t7 : IntKind.u64.wrap (z.toNat : Int) = (z.toNat : Int) := by rw [IntKind.wrap_u64]; have := bv_lt z; omega
      have t8 : IntKind.u64.wrap (d : Int) = (d : Int) := by rw [IntKind.wrap_u64]; omega
      have t9 : (1 : Int) - (qd : Int) = (c' : Int) := by omega
      have t10 : IntKind.u64.wrap (c' : Int) = (c' : Int) := by rw [IntKind.wrap_u64]; omega
      have t11 : IntKind.u64.wrap (qd : Int) = (qd : Int) := by rw [IntKind.wrap_u64]; omega
      have i1 : (k : Int) < (a : Int) := by omega
      have w1 : IntKind.u64.wrap (x : Int) = (x : Int) := by rw [IntKind.wrap_u64]; omega
      have w2 : IntKind.u64.wrap ((x : Int) + 4294967296) = (x : Int) + 4294967296 := by rw [IntKind.wrap_u64]; omega
      have i2 : (k : Int) < (b : Int) := by omega
      have w3 : IntKind.u64.wrap (y : Int) = (y : Int) := by rw [IntKind.wrap_u64]; omega
      have w4 : IntKind.u64.wrap ((c : Int) + (y : Int)) = (c : Int) + (y : Int) := by rw [IntKind.wrap_u64]; omega
      have k0 : (0 : Int) ≤ (k : Int) := by omega
      clear hz hc' hs sx sy hown hxl hyl hd hqd
      go_wp2_with (at_builtin; refine wpList_app1 rfl _ _ rfl W.heap.size _ ds rfl HO.out z rfl (by rw [HDL.out]; omega) hbl hsz ?_; intro v2 w2 hown2 hbl2)
      go_roundw
      case rel => exact ⟨k + 1, c', ds ++ [z], by omega, by go_num, rfl, hc01, HDL', HV', hown2, hbl2⟩
      case measure => simp [intOf]; omega
    · skip
      obtain ⟨g, rfl, hg, hcx⟩ := HX.out k (by rw [HA.out]; exact hlt)
      have hc1 : wr.cell? ⟨g, k, none⟩ = _ := (hbl.cell (p := ⟨g, k, none⟩) hg).trans hcx
      clear hcx
      have hy0 := dig_none ys k (by rw [HB.out]; exact hyk)
      have hxl := bv_lt (xs[k]?.getD 0)
      have hyl := bv_lt (ys[k]?.getD 0)
      have sx := val_take_any xs k
      have sy := val_take_any ys k
      generalize (xs[k]?.getD 0).toNat = x at *
      generalize (ys[k]?.getD 0).toNat = y at *
      subst hy0
      obtain ⟨d, hd⟩ : ∃ d, x + 4294967296 - (c + 0) = d := ⟨_, rfl⟩
      obtain ⟨z, hz⟩ : ∃ z : BitVec 32, z.toNat = d % 4294967296 := ⟨BitVec.ofNat 32 (d % 4294967296), by rw [bv_of]; omega⟩
      obtain ⟨qd, hqd⟩ : ∃ qd, d / 4294967296 = qd := ⟨_, rfl⟩
      obtain ⟨c', hc'⟩ : ∃ c', 1 - qd = c' := ⟨_, rfl⟩
      have hs := dif_step (4294967296 ^ k) (val ds) (val (xs.take k)) (val (ys.take k)) c x 0 z.toNat c' HV.out (by omega)
      have HV' : Hid (val (ds ++ [z]) + val (ys.take (k + 1)) = val (xs.take (k + 1)) + 4294967296 ^ (k + 1) * c') := by
        rw [Hid, val_snoc, HDL.out, Nat.pow_succ, sx, sy]
        exact hs
      have HDL' : Hid ((ds ++ [z]).length = k + 1) := by rw [Hid, List.length_append, List.length_singleton, HDL.out]
      have hc01 : c' ≤ 1 := by omega
      have d1 : (x : Int) + 4294967296 - ((c : Int)) = (d : Int) := by omega
      have t1 : (d : Int) % 4294967296 = (z.toNat : Int) := by omega
      have t2 : (d : Int).tmod 4294967296 = (z.toNat : Int) := by rw [Int.tmod_eq_emod_of_nonneg (by omega)]; omega
      have t3 : (d : Int) / 4294967296 = (qd : Int) := by omega
      have t4 : (d : Int).tdiv 4294967296 = (qd : Int) := by rw [Int.tdiv_eq_ediv_of_nonneg (by omega)]; omega
      have t5 : IntKind.u32.wrap (z.toNat : Int) = (z.toNat : Int) := by rw [IntKind.wrap_u32]; have := bv_lt z; omega
      have t6 : (z.toNat : Int) % 4294967296 = (z.toNat : Int) := by have := bv_lt z; omega
      have t7 : IntKind.u64.wrap (z.toNat : Int) = (z.toNat : Int) := by rw [IntKind.wrap_u64]; have := bv_lt z; omega
      have t8 : IntKind.u64.wrap (d : Int) = (d : Int) := by rw [IntKind.wrap_u64]; omega
      have t9 : (1 : Int) - (qd : Int) = (c' : Int) := by omega
      have t10 : IntKind.u64.wrap (c' : Int) = (c' : Int) := by rw [IntKind.wrap_u64]; omega
      have t11 : IntKind.u64.wrap (qd : Int) = (qd : Int) := by rw [IntKind.wrap_u64]; omega
      have i1 : (k : Int) < (a : Int) := by omega
      have w1 : IntKind.u64.wrap (x : Int) = (x : Int) := by rw [IntKind.wrap_u64]; omega
      have w2 : IntKind.u64.wrap ((x : Int) + 4294967296) = (x : Int) + 4294967296 := by rw [IntKind.wrap_u64]; omega
      have i2 : ¬ ((k : Int) < (b : Int)) := by omega
      have i2' : (b : Int) ≤ (k : Int) := by omega
      have k0 : (0 : Int) ≤ (k : Int) := by omega
      clear hz hc' hs sx sy hown hxl hyl hd hqd
      go_wp2_with (at_builtin; refine wpList_app1 rfl _ _ rfl W.heap.size _ ds rfl HO.out z rfl (by rw [HDL.out]; omega) hbl hsz ?_; intro v2 w2 hown2 hbl2)
      go_roundw
      case rel => exact ⟨k + 1, c', ds ++ [z], by omega, by go_num, rfl, hc01, HDL', HV', hown2, hbl2⟩
      case measure => simp [intOf]; omega
theorem rsub_in (W : World) (v u : Value) (A B : Nat) (hA : RN W v A) (hB : RN W u B) (ha : mny A ≤ 100000) (hle : B ≤ A) : Calls Tryz.prog 89 #[v, u] W fun e w' => ∃ v, e = .returned v ∧ RN w' v (A - B) ∧ Fresh W.heap.size v ∧ Below W.heap.size W w' := by
  have hm := mny_mono B A hle
  obtain ⟨xs, hx, rfl, tx⟩ := hA
  obtain ⟨ys, hy, rfl, ty⟩ := hB
  obtain ⟨p, c, rfl, hp⟩ := hx.read
  obtain ⟨q, d, rfl, hq⟩ := hy.read
  rw [← tx.many] at ha
  rw [← tx.many, ← ty.many] at hm
  exact rsub_go W p q c d xs ys _ _ rfl rfl ha hm hle hp hq
end Go.Proofs.YtpimliebiapnfaaGreatDoor.N
/- The document's Mul. -/
namespace Go.Proofs.YtpimliebiapnfaaGreatDoor.N
set_option linter.unusedVariables false
open Go.RowKit
theorem wl_set (l : List (BitVec 32)) (j : Nat) (z : BitVec 32) : (wl l).set j (.int .u32 (z.toNat : Int)) = wl (l.set j z) := by simp [wl]
theorem made_noughts (n : Nat) : (madeCells (Value.int .u32 0).cells (n * 1)).toList = wl (List.replicate n 0) := by
  apply List.ext_getElem?
  intro k
  simp [madeCells, wl, Value.cells, List.getElem?_replicate]
  by_cases hk : k < n
  · rw [if_pos hk, List.getElem?_range hk]
    simp [Nat.mod_one]
  · rw [if_neg hk, List.getElem?_eq_none (by simpa using hk)]
    rfl
theorem set_other (l : List (BitVec 32)) (j k : Nat) (z : BitVec 32) (h : k ≠ j) : (l.set j z)[k]?.getD 0 = l[k]?.getD 0 := by
  rw [List.getElem?_set_ne (Ne.symm h)]
theorem mul_in_step (V V0 P x Y y c old z c' V' : Nat) (h : V + P * c = V0 + Y) (hs : V' + P * old = V + P * z) (hz : z + 4294967296 * c' = x * y + old + c) : V' + P * 4294967296 * c' = V0 + (Y + P * (x * y)) := by
  have e : P * (z + 4294967296 * c') = P * (x * y + old + c) := by rw [hz]
  rw [Nat.mul_add, Nat.mul_add, Nat.mul_add, ← Nat.mul_assoc] at e
  omega
set_option maxRecDepth 100000 in
set_option maxHeartbeats 2000000 in
theorem rmul_go (W : World) (p q : Option Addr) (cp cq : Nat) (xs ys : List (BitVec 32)) (a b : Nat) (ha : xs.length = a) (hb : ys.length = b) (ha1 : a ≤ 100000) (hb1 : b ≤ 100000) (hX : Rd W p xs) (hY : Rd W q ys) : Calls Tryz.prog 73 #[.slice p a cp, .slice q b cq] W fun e w' => ∃ v, e = .returned v ∧ RN w' v (val xs * val ys) ∧ Below W.heap.size W w' := by
  obtain ⟨i0, hi, hz0, hz1, hz2⟩ := info_of info24
  have HX := Hid.mk hX
  have HY := Hid.mk hY
  have HA := Hid.mk ha
  have HB := Hid.mk hb
  obtain ⟨L, hL⟩ : ∃ L, a + b = L := ⟨_, rfl⟩
  have hLi : (a : Int) + (b : Int) = (L : Int) := by omega
  have hL0 : (0 : Int) ≤ (L : Int) := by omega
  have hL2 : L ≤ 200000 := by omega
  have HLL := Hid.mk hL
  clear hX hY ha hb hL
  go_enter Tryz.func73, Tryz.ntmps73
  go_wp2_with (at_make; refine wpList_make_full _ rfl _ _ 45 rfl W.heap.size 35 i0 (.int .u32 0) 1 Tryz.underlying45 hi hz0 hz1 _ _ _ _ L rfl rfl rfl rfl (by rw [hz2]; omega) (by unfold maxLen; omega) (Nat.le_refl _) ?_; intro w2 hown2 hgrow2)
  have B2 : Below W.heap.size W w2 := (Below.refl _ _).grown hgrow2 (Nat.le_refl _) (by simp)
  rw [made_noughts] at hown2
  have HO2 := Hid.mk hown2
  clear hown2 hgrow2
  obtain ⟨g0, hg0⟩ : ∃ g0, W.heap.size = g0 := ⟨_, rfl⟩
  rw [hg0] at HO2 ⊢
  have HG0 := Hid.mk hg0
  clear hg0 hLi
  go_wp2_with fail
  go_loopw [6] (fun iv wr => ∃ (i : Nat) (zs : List (BitVec 32)), i ≤ a ∧ iv = .int .i64 (i : Int) ∧ Hid (zs.length = L) ∧ Hid (val zs = val (xs.take i) * val ys) ∧ Hid (∀ j, i + b ≤ j → zs[j]?.getD 0 = 0) ∧ wr.ownsRow g0 35 1 (.slice (some ⟨g0, 0, none⟩) L L) L (wl zs) ∧ Below W.heap.size W wr) (fun iv _ => a - (intOf iv).toNat)
  case atStart => exact ⟨0, List.replicate L 0, by omega, rfl, by simp [Hid], by rw [Hid, val_zero, List.take_zero]; simp [val], fun j _ => by simp [List.getElem?_replicate]; split <;> rfl, HO2.out, B2⟩
  case round =>
    obtain ⟨i, zs, hia, rfl, HZL, HZV, HZ0, hown, hbl⟩ := hrel
    have HO := Hid.mk hown
    clear HO2 B2
    by_cases hlt : i < a
    · obtain ⟨g, rfl, hg, hcx⟩ := HX.out i (by rw [HA.out]; exact hlt)
      have hxl := bv_lt (xs[i]?.getD 0)
      have sx := val_take_any xs i
      generalize (xs[i]?.getD 0).toNat = x at *
      have HSX := Hid.mk sx
      have HCX := Hid.mk hcx
      have i1 : (i : Int) < (a : Int) := by omega
      have i0' : (0 : Int) ≤ (i : Int) := by omega
      have i2 : (i : Int) ≤ 100000 := by omega
      clear sx hcx hown
      go_wp2
      go_loopw [7, 8] (fun cv kv wx => ∃ (k c : Nat) (us : List (BitVec 32)), k ≤ b ∧ kv = .int .i64 (k : Int) ∧ cv = .int .u64 (c : Int) ∧ c < 4294967296 ∧ Hid (us.length = L) ∧ Hid (val us + 4294967296 ^ (i + k) * c = val zs + 4294967296 ^ i * (x * val (ys.take k))) ∧ Hid (∀ j, i + b ≤ j → us[j]?.getD 0 = 0) ∧ wx.ownsRow g0 35 1 (.slice (some ⟨g0, 0, none⟩) L L) L (wl us) ∧ Below W.heap.size W wx) (fun _ kv _ => b - (intOf kv).toNat)
      case atStart => exact ⟨0, 0, zs, by omega, rfl, rfl, by omega, HZL, by simp [Hid, val], HZ0, HO.out, hbl⟩
      case round =>
        obtain ⟨k, c, us, hkb, rfl, rfl, hc, HUL, HUV, HU0, hown, hbl2⟩ := hrel
        have HO3 := Hid.mk hown
        clear hbl
        by_cases hkl : k < b
        · obtain ⟨g', rfl, hg', hcy⟩ := HY.out k (by rw [HB.out]; exact hkl)
          have c1 : ∀ n, (wr.drewN n).cell? ⟨g, i, none⟩ = some (.int .u32 (x : Int)) := fun n => (hbl2.cell (p := ⟨g, i, none⟩) hg).trans HCX.out
          have c2 : ∀ n, (wr.drewN n).cell? ⟨g', k, none⟩ = some (.int .u32 ((ys[k]?.getD 0).toNat : Int)) := fun n => (hbl2.cell (p := ⟨g', k, none⟩) hg').trans hcy
          obtain ⟨t, ht⟩ : ∃ t, i + k = t := ⟨_, rfl⟩
          have htL : t < L := by have := HLL.out; omega
          have c3 : ∀ n, (wr.drewN n).cell? ⟨g0, t, none⟩ = some (.int .u32 ((us[t]?.getD 0).toNat : Int)) := fun n => by
            have := hown.cellAt t (by omega)
            rw [wl_at us t (by rw [HUL.out]; exact htL)] at this
            exact this
          have f3 : ∀ n, (wr.drewN n).frozen? ⟨g0, t, none⟩ = false := fun n => hown.frozenAt t
          have hyl := bv_lt (ys[k]?.getD 0)
          have sy := val_take_any ys k
          have hol := bv_lt (us[t]?.getD 0)
          have hst := fun z => val_set us t (by rw [HUL.out]; exact htL) z
          generalize (ys[k]?.getD 0).toNat = y at *
          generalize (us[t]?.getD 0).toNat = old at *
          have hxy : x * y ≤ 4294967295 * 4294967295 := Nat.mul_le_mul (by omega) (by omega)
          obtain ⟨pr, hpr⟩ : ∃ pr, x * y = pr := ⟨_, rfl⟩
          obtain ⟨s, hs⟩ : ∃ s, pr + old + c = s := ⟨_, rfl⟩
          obtain ⟨z, hz⟩ : ∃ z : BitVec 32, z.toNat = s % 4294967296 := ⟨BitVec.ofNat 32 (s % 4294967296), by rw [bv_of]; omega⟩
          obtain ⟨c', hc'⟩ : ∃ c', s / 4294967296 = c' := ⟨_, rfl⟩
          rw [hpr] at hxy
          have HUV' : Hid (val (us.set t z) + 4294967296 ^ (i + (k + 1)) * c' = val zs + 4294967296 ^ i * (x * val (ys.take (k + 1)))) := by
            have h1 := HUV.out
            rw [ht] at h1
            have h2 := mul_in_step (val us) (val zs) (4294967296 ^ t) x (4294967296 ^ i * (x * val (ys.take k))) y c old z.toNat c' (val (us.set t z)) h1 (hst z) (by omega)
            rw [Hid, sy, show i + (k + 1) = t + 1 by omega, Nat.pow_succ, h2, Nat.mul_add x, Nat.mul_add]
            congr 2
            rw [← ht, Nat.pow_add, Nat.mul_assoc, Nat.mul_left_comm x]
          have HUL' : Hid ((us.set t z).length = L) := by rw [Hid, List.length_set, HUL.out]
          have HU0' : Hid (∀ j, i + b ≤ j → (us.set t z)[j]?.getD 0 = 0) := fun j hj => by rw [set_other us t j z (by omega)]; exact HU0.out j hj
          have hc'l : c' < 4294967296 := by omega
          have p1 : (x : Int) * (y : Int) = (pr : Int) := by rw [← hpr, Int.natCast_mul]
          have p2 : IntKind.u64.wrap (pr : Int) = (pr : Int) := by rw [IntKind.wrap_u64]; omega
          have p3 : IntKind.u64.wrap ((pr : Int) + (old : Int)) = (pr : Int) + (old : Int) := by rw [IntKind.wrap_u64]; omega
          have p4 : (pr : Int) + (old : Int) + (c : Int) = (s : Int) := by omega
          have p5 : IntKind.u64.wrap (s : Int) = (s : Int) := by rw [IntKind.wrap_u64]; omega
          have p6 : (i : Int) + (k : Int) = (t : Int) := by omega
          have w1 : IntKind.u64.wrap (x : Int) = (x : Int) := by rw [IntKind.wrap_u64]; omega
          have w2 : IntKind.u64.wrap (y : Int) = (y : Int) := by rw [IntKind.wrap_u64]; omega
          have w3 : IntKind.u64.wrap (old : Int) = (old : Int) := by rw [IntKind.wrap_u64]; omega
          have t1 : (s : Int) % 4294967296 = (z.toNat : Int) := by omega
          have t2 : (s : Int).tmod 4294967296 = (z.toNat : Int) := by rw [Int.tmod_eq_emod_of_nonneg (by omega)]; omega
          have t3 : (s : Int) / 4294967296 = (c' : Int) := by omega
          have t4 : (s : Int).tdiv 4294967296 = (c' : Int) := by rw [Int.tdiv_eq_ediv_of_nonneg (by omega)]; omega
          have t5 : IntKind.u32.wrap (z.toNat : Int) = (z.toNat : Int) := by rw [IntKind.wrap_u32]; have := bv_lt z; omega
          have t6 : (z.toNat : Int) % 4294967296 = (z.toNat : Int) := by have := bv_lt z; omega
          have t7 : IntKind.u64.wrap (z.toNat : Int) = (z.toNat : Int) := by rw [IntKind.wrap_u64]; have := bv_lt z; omega
          have t8 : IntKind.u64.wrap (c' : Int) = (c' : Int) := by rw [IntKind.wrap_u64]; omega
          have q1 : (k : Int) < (b : Int) := by omega
          have q0 : (0 : Int) ≤ (k : Int) := by omega
          have q2 : (t : Int) < (L : Int) := by omega
          have q3 : (0 : Int) ≤ (t : Int) := by omega
          have q4 : (k : Int) ≤ 100000 := by omega
          clear hz hc' hs hpr hst sy hcy hown ht hxy
          go_upto_region 9 with fail
          go_quiet (fail)
          go_wp2
          go_roundw
          case rel =>
            have hb3 : Below W.heap.size W (wr.drewN nq) := hbl2.trans (below_le wr W.heap.size nq)
            obtain ⟨h1, h2⟩ := World.ownsRow.stored (w := wr.drewN nq) HO3.out t (.int .u32 (z.toNat : Int))
            rw [wl_set] at h1
            exact ⟨k + 1, c', us.set t z, by omega, by go_num, rfl, hc'l, HUL', HUV', HU0', h1, (hb3.grown h2 (Nat.le_trans hb3.size (Nat.le_refl _)) (fun k hk => by cases hk; rw [HG0.out]; exact Nat.le_refl _))⟩
          case measure => simp [intOf]; omega
        · obtain rfl : k = b := by omega
          obtain ⟨t, ht⟩ : ∃ t, i + k = t := ⟨_, rfl⟩
          have htL : t < L := by have := HLL.out; omega
          have c3 : wr.cell? ⟨g0, t, none⟩ = some (.int .u32 0) := by
            have := hown.cellAt t (by omega)
            rw [wl_at us t (by rw [HUL.out]; exact htL), HU0.out t (by omega)] at this
            exact this
          have f3 : wr.frozen? ⟨g0, t, none⟩ = false := hown.frozenAt t
          obtain ⟨z, hz⟩ : ∃ z : BitVec 32, z.toNat = c := ⟨BitVec.ofNat 32 c, by rw [bv_of]; omega⟩
          have hst := val_set us t (by rw [HUL.out]; exact htL) z
          rw [HU0.out t (by omega)] at hst
          have HV' : Hid (val (us.set t z) = val (xs.take (i + 1)) * val ys) := by
            have h1 := HUV.out
            rw [ht, take_all ys k (by rw [HB.out]; omega)] at h1
            have h0 : (0 : BitVec 32).toNat = 0 := rfl
            rw [h0, Nat.mul_zero, Nat.add_zero, hz] at hst
            rw [Hid, hst, h1, HZV.out, HSX.out, Nat.add_mul, Nat.mul_assoc]
          have HUL' : Hid ((us.set t z).length = L) := by rw [Hid, List.length_set, HUL.out]
          have HU0' : Hid (∀ j, i + 1 + k ≤ j → (us.set t z)[j]?.getD 0 = 0) := fun j hj => by rw [set_other us t j z (by omega)]; exact HU0.out j (by omega)
          rw [← hz]
          have t5 : IntKind.u32.wrap (z.toNat : Int) = (z.toNat : Int) := by rw [IntKind.wrap_u32]; have := bv_lt z; omega
          have t6 : (z.toNat : Int) % 4294967296 = (z.toNat : Int) := by have := bv_lt z; omega
          have p6 : (i : Int) + (k : Int) = (t : Int) := by omega
          have q2 : (t : Int) < (L : Int) := by omega
          have q3 : (0 : Int) ≤ (t : Int) := by omega
          clear hz hst hown ht
          go_wp2
          go_roundw
          case rel =>
            obtain ⟨h1, h2⟩ := HO3.out.stored t (.int .u32 (z.toNat : Int))
            rw [wl_set] at h1
            exact ⟨i + 1, us.set t z, by omega, by go_num, HUL', HV', HU0', h1, (hbl2.grown h2 (Nat.le_trans hbl2.size (Nat.le_refl _)) (fun k hk => by cases hk; rw [HG0.out]; exact Nat.le_refl _))⟩
          case measure => simp [intOf]; omega
    · obtain rfl : i = a := by omega
      have i1 : ¬ ((i : Int) < (i : Int)) := by omega
      have HE : Hid (val zs = val xs * val ys) := by rw [Hid, HZV.out, take_all xs i (by rw [HA.out]; omega)]
      clear hown
      go_wp2_with fail
      refine (rtrim_in _ _ zs (Rw.of HO.out HZL.out)).mono ?_
      rintro e w1 ⟨v1, rfl, hr1, rfl⟩
      rw [HE.out] at hr1
      have HR1 := Hid.mk hr1
      clear hr1
      go_wp2
      go_ret
      exact ⟨_, rfl, HR1.out, hbl⟩
theorem rmul_in (W : World) (v u : Value) (A B : Nat) (hA : RN W v A) (hB : RN W u B) (ha : mny A ≤ 100000) (hb : mny B ≤ 100000) : Calls Tryz.prog 73 #[v, u] W fun e w' => ∃ v, e = .returned v ∧ RN w' v (A * B) ∧ Below W.heap.size W w' := by
  obtain ⟨xs, hx, rfl, tx⟩ := hA
  obtain ⟨ys, hy, rfl, ty⟩ := hB
  obtain ⟨p, c, rfl, hp⟩ := hx.read
  obtain ⟨q, d, rfl, hq⟩ := hy.read
  rw [← tx.many] at ha
  rw [← ty.many] at hb
  exact rmul_go W p q c d xs ys _ _ rfl rfl ha hb hp hq
end Go.Proofs.YtpimliebiapnfaaGreatDoor.N
/- The document's up, moved, down. -/
namespace Go.Proofs.YtpimliebiapnfaaGreatDoor.N
set_option linter.unusedVariables false
open Go.RowKit
theorem Rw.one (w : World) (z : BitVec 32) : Rw (w.alloc (.cells #[.int .u32 (z.toNat : Int)] 35)) (.slice (some ⟨w.heap.size, 0, none⟩) 1 1) [z] :=
  ⟨rfl, .inr ⟨w.heap.size, 1, #[.int .u32 (z.toNat : Int)], rfl, Nat.zero_le _, heap_new _ _, Nat.le_refl _, by unfold maxLen; omega, rfl, rfl⟩⟩
theorem Ow.one (w : World) (z : BitVec 32) : Ow w.heap.size (w.alloc (.cells #[.int .u32 (z.toNat : Int)] 35)) (.slice (some ⟨w.heap.size, 0, none⟩) 1 1) [z] :=
  ⟨rfl, .inr ⟨w.heap.size, 1, #[.int .u32 (z.toNat : Int)], rfl, Nat.le_refl _, heap_new _ _, Nat.le_refl _, by unfold maxLen; omega, rfl, rfl⟩⟩
theorem mny_pow (k : Nat) (h : k < 32) : mny (2 ^ k) = 1 := by
  refine mny_of _ 0 ?_ ?_
  · exact Nat.one_le_two_pow
  · rw [show (4294967296 : Nat) ^ (0 + 1) = 2 ^ 32 from rfl]
    exact Nat.pow_lt_pow_right (by omega) h
set_option maxRecDepth 100000 in
set_option maxHeartbeats 400000 in
theorem rup_in (W : World) (v : Value) (A k : Nat) (hA : RN W v A) (ha : mny A ≤ 100000) (hk : k < 32) : Calls Tryz.prog 95 #[v, .int .i64 (k : Int)] W fun e w' => ∃ v, e = .returned v ∧ RN w' v (A * 2 ^ k) ∧ Below W.heap.size W w' := by
  have hp : 2 ^ k < 4294967296 := Nat.pow_lt_pow_right (a := 2) (by omega) hk
  obtain ⟨z, hz⟩ : ∃ z : BitVec 32, z.toNat = 2 ^ k := ⟨BitVec.ofNat 32 (2 ^ k), by rw [bv_of]; exact Nat.mod_eq_of_lt hp⟩
  have hB : Below W.heap.size W (W.alloc (.cells #[.int .u32 (z.toNat : Int)] 35)) := (Below.refl _ _).alloc (Nat.le_refl _) _
  have hZ : RN (W.alloc (.cells #[.int .u32 (z.toNat : Int)] 35)) (.slice (some ⟨W.heap.size, 0, none⟩) 1 1) (2 ^ k) := ⟨[z], Rw.one W z, by rw [val_one, hz], .inr ⟨[], z, rfl, by rw [hz]; exact Nat.ne_of_gt (Nat.two_pow_pos k)⟩⟩
  have HM := Hid.mk (rmul_in _ _ _ A (2 ^ k) (hA.blk hB) hZ ha (by rw [mny_pow k hk]; omega))
  have t1 : ((k : Int)).toNat = k := by omega
  have t2 : (2 : Int) ^ k = (z.toNat : Int) := by rw [hz, Int.natCast_pow]; rfl
  have t3 : IntKind.u32.wrap (z.toNat : Int) = (z.toNat : Int) := by rw [IntKind.wrap_u32]; have := bv_lt z; omega
  have k0 : (0 : Int) ≤ (k : Int) := by omega
  have k1 : (k : Int) < 32 := by omega
  have HBB := Hid.mk hB
  obtain ⟨P, hP⟩ : ∃ P, A * 2 ^ k = P := ⟨_, rfl⟩
  rw [hP] at HM ⊢
  clear hA hZ hz hp hP hB
  go_enter Tryz.func95, Tryz.ntmps95
  go_wp2_with fail
  refine HM.out.mono ?_
  rintro e w1 ⟨v1, rfl, hr, hb⟩
  have HR := Hid.mk hr
  have HB2 := Hid.mk (bthen HBB.out hb)
  clear hr hb
  go_wp2
  go_ret
  exact ⟨_, rfl, HR.out, HB2.out⟩
set_option maxRecDepth 100000 in
set_option maxHeartbeats 400000 in
theorem rmoved_in (W : World) (v : Value) (A : Nat) (d : BitVec 32) (hA : RN W v A) (ha : mny A ≤ 100000) : Calls Tryz.prog 96 #[v, .int .u32 (d.toNat : Int)] W fun e w' => ∃ v, e = .returned v ∧ RN w' v (A * 4294967296 + d.toNat) ∧ Fresh W.heap.size v ∧ Below W.heap.size W w' := by
  obtain ⟨i0, hi, hz0, hz1, hz2⟩ := info_of info24
  have hB : Below W.heap.size W (W.alloc (.cells #[.int .u32 (d.toNat : Int)] 35)) := (Below.refl _ _).alloc (Nat.le_refl _) _
  obtain ⟨xs, hx, rfl, tx⟩ := hA
  rw [← tx.many] at ha
  have HX := Hid.mk (hx.blk hB)
  have HO := Hid.mk (Ow.one W d)
  have HBB := Hid.mk hB
  have hval : val ([d] ++ xs) = val xs * 4294967296 + d.toNat := by
    rw [val_app, val_one, List.length_singleton, Nat.pow_one, Nat.mul_comm]; omega
  have HVL := Hid.mk hval
  clear hval hB
  rcases hx.view with ⟨rfl, rfl⟩ | ⟨g, c, rfl, hc, hm, hg, hcell, -⟩
  · go_enter Tryz.func96, Tryz.ntmps96
    go_wp2_with (at_builtin; refine wpList_append_own_none rfl _ _ 45 rfl W.heap.size 35 i0 1 Tryz.underlying45 hi _ 1 (wl [d]) rfl HO.out rfl ?_)
    go_wp2_with fail
    refine (rtrim2_in _ _ [d] (Rw.of HO.out rfl)).mono ?_
    rintro e w1 ⟨v1, rfl, hr, rfl, hk1⟩
    have HR := Hid.mk hr
    have HF1 := Hid.mk (Fresh.trim (fresh_own HO.out) hk1)
    clear hr hk1
    go_wp2
    go_ret
    exact ⟨_, rfl, by rw [← HVL.out]; exact HR.out, HF1.out, HBB.out⟩
  · have HC : Hid (∀ j u, (wl xs)[j]? = some u → (W.alloc (.cells #[.int .u32 (d.toNat : Int)] 35)).cell? ((⟨g, 0, none⟩ : Addr).add j) = some u) := fun j u hu => by
      have hj : j < xs.length := by
        have := (List.getElem?_eq_some_iff.1 hu).1
        rwa [wl_len] at this
      rw [wl_at xs j hj] at hu
      rw [addr_at, Nat.zero_add, ← hu]
      exact (HBB.out.cell (p := ⟨g, j, none⟩) hg).trans (hcell j hj)
    obtain ⟨n, hn⟩ : ∃ n, xs.length = n := ⟨_, rfl⟩
    have HN := Hid.mk hn
    rw [hn] at ha ⊢
    clear hn hcell hc
    go_enter Tryz.func96, Tryz.ntmps96
    go_wp2_with (at_builtin; refine wpList_append_own _ rfl _ _ 45 rfl W.heap.size 35 i0 (.int .u32 0) 1 4 Tryz.underlying45 hi hz0 hz1 hz2 rfl (by decide) _ 1 (wl [d]) rfl HO.out ⟨g, 0, none⟩ n c (wl xs) rfl (by rw [wl_len, HN.out, Nat.mul_one]) HC.out (wl_one xs) (by unfold maxLen; omega) (by omega) (by simp) ?_; intro v2 w2 hown2 hgrow2 _)
    have HB2 : Hid (Below W.heap.size W w2) := HBB.out.grown hgrow2 (by simp) (fun k hk => by cases hk; exact Nat.le_refl _)
    have hown3 : Rw w2 v2 ([d] ++ xs) := Rw.of (n := 1 + n) (by rw [wl_app]; exact hown2) (by rw [List.length_append, HN.out, List.length_singleton])
    have HO2 := Hid.mk hown3
    have HF2 := Hid.mk (fresh_own hown2)
    clear hown2 hown3 hgrow2
    go_wp2_with fail
    refine (rtrim2_in _ _ _ HO2.out).mono ?_
    rintro e w1 ⟨v1, rfl, hr, rfl, hk1⟩
    have HR := Hid.mk hr
    have HF1 := Hid.mk (Fresh.trim HF2.out hk1)
    clear hr hk1
    go_wp2
    go_ret
    exact ⟨_, rfl, by rw [← HVL.out]; exact HR.out, HF1.out, HB2.out⟩
end Go.Proofs.YtpimliebiapnfaaGreatDoor.N