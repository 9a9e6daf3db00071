/- The document's Of. -/
import Derived.Test.YthjhemodmdficaaDoorNR4
namespace Go.Proofs.YthjhemodmdficaaDoor
set_option linter.unusedVariables false
open Go.RowKit
theorem numB_cat : ∀ (a b : List UInt8), numB (a ++ b) = numB a * 256 ^ b.length + numB b
  | [], b => by simp [numB]
  | x :: a, b => by
    rw [List.cons_append, numB, numB, numB_cat a b, List.length_append, Nat.add_mul, Nat.pow_add, Nat.mul_assoc]
    omega
/-- four bytes more, or what is left of them. -/
theorem chunk_val (l : List UInt8) (n k j m D : Nat) (hn : l.length = n) (hk : k + 4 * m = n) (hj : j ≤ k) (hD : D = numB ((l.drop j).take (k - j))) : numB (l.drop k) + 4294967296 ^ m * D = numB (l.drop j) := by
  have e : l.drop j = (l.drop j).take (k - j) ++ l.drop k := by
    have := (List.take_append_drop (k - j) (l.drop j)).symm
    rw [List.drop_drop, show j + (k - j) = k by omega] at this
    exact this
  rw [e, numB_cat, ← hD, List.length_drop, hn, show n - k = 4 * m by omega, pow4, Nat.mul_comm]
  omega
theorem chunk_next (l : List UInt8) (j i : Nat) (h : j + i < l.length) : numB ((l.drop j).take (i + 1)) = 256 * numB ((l.drop j).take i) + (l[j + i]?.getD 0).toNat := by
  have hl : i < (l.drop j).length := by rw [List.length_drop]; omega
  rw [List.take_add_one, List.getElem?_eq_getElem hl, Option.toList_some, numB_cat, List.getElem_drop, List.getElem?_eq_getElem h]
  simp [numB]
  omega
theorem strip_head (l : List UInt8) : strip l = [] ∨ ∃ x t, strip l = x :: t ∧ x.toNat ≠ 0 := by
  induction l with
  | nil => exact .inl rfl
  | cons x l ih =>
    rw [strip]
    split
    · exact ih
    · rename_i h
      exact .inr ⟨x, l, rfl, fun h0 => h (by first | exact h0 | exact UInt8.toNat_inj.1 (by simpa using h0))⟩
theorem strip_512 (l : List UInt8) (n m : Nat) (hm : n = 4 * m) : (strip l).length ≤ n ↔ numB l < 4294967296 ^ m := by
  rw [← numB_strip l, ← pow4, ← hm]
  constructor
  · intro h
    exact Nat.lt_of_lt_of_le (numB_lt _) (Nat.pow_le_pow_right (by omega) h)
  · intro h
    rcases strip_head l with e | ⟨x, t, e, hx⟩
    · rw [e]; simp
    · rw [e] at h ⊢
      apply Classical.byContradiction
      intro hn
      rw [List.length_cons] at hn
      have h1 : 256 ^ n ≤ 256 ^ t.length := Nat.pow_le_pow_right (by omega) (by omega)
      rw [numB] at h
      have h2 : 1 * 256 ^ t.length ≤ x.toNat * 256 ^ t.length := Nat.mul_le_mul_right _ (by omega)
      omega
theorem btl_lim (N : Nat) : btl N ≤ 4096 ↔ N < Lim := by
  constructor
  · intro h; exact lt_pow_of_btl N 128 h
  · intro h; exact btl_le N h
set_option maxRecDepth 100000 in
set_option maxHeartbeats 1000000 in
theorem rof_in (s : ByteArray) (hs : s.size ≤ 140737488351232) (W : World) : Calls Tryd.prog 11 #[.string s] W fun e w' => ∃ v x, e = .returned (.tuple #[v, .int .i64 x]) ∧ (numB s.data.toList < Lim → x = 0 ∧ RN w' v (numB s.data.toList)) ∧ (¬ numB s.data.toList < Lim → x = 3 ∧ RN w' v 0) ∧ Below W.heap.size W w' := by
  obtain ⟨n, hn⟩ : ∃ n, s.size = n := ⟨_, rfl⟩
  obtain ⟨l, hl⟩ : ∃ l, s.data.toList = l := ⟨_, rfl⟩
  have HLN : Hid (l.length = n) := by rw [Hid, ← hl, size_list]; exact hn
  have HIX : Hid (∀ m, m < n → ∀ W : World, (Instr.index 9 (.string s) (.int .i64 (m : Int))).run Tryd.prog W = .ok (.int .u8 ((l[m]?.getD 0).toNat : Int)) W) := fun m hm W => index_get s m _ (by omega) (by rw [hl]) W
  rw [hl]
  have HNL := Hid.mk (numB_lt l)
  rw [HLN.out] at HNL
  obtain ⟨NN, hNN⟩ : ∃ NN, numB l = NN := ⟨_, rfl⟩
  rw [hNN] at HNL ⊢
  have HNN := Hid.mk hNN
  clear hNN
  have hn2 : n ≤ 140737488351232 := by omega
  clear hl hs
  go_enter Tryd.func11, Tryd.ntmps11
  go_wp2
  go_loopw [4, 5] (fun v kv wr => ∃ (m : Nat) (ds : List (BitVec 32)), 4 * m < n + 4 ∧ kv = .int .i64 ((n : Int) - 4 * (m : Int)) ∧ Hid (ds.length = m) ∧ Hid (val ds = numB (l.drop (n - 4 * m))) ∧ Ow W.heap.size wr v ds ∧ Below W.heap.size W wr) (fun _ kv _ => (intOf kv).toNat)
  case atStart => exact ⟨0, [], by omega, by go_num, rfl, by rw [Hid, Nat.mul_zero, Nat.sub_zero, List.drop_of_length_le (by rw [HLN.out]; omega)]; rfl, Ow.nil _ _, Below.refl _ _⟩
  case round =>
    obtain ⟨m, ds, hm4, rfl, HDL, HV, hown, hbl⟩ := hrel
    have HO := Hid.mk hown
    have hsz := hbl.size
    by_cases hlt : 4 * m < n
    · obtain ⟨k, hk⟩ : ∃ k, n - 4 * m = k := ⟨_, rfl⟩
      obtain ⟨j0, hj0⟩ : ∃ j0, k - 4 = j0 := ⟨_, rfl⟩
      have hki : (n : Int) - 4 * (m : Int) = (k : Int) := by omega
      rw [hki]
      have hmx : ∀ ts t w, (Builtin.max_ ts t #[.int .i64 0, .int .i64 ((k : Int) - 4)]).run Tryd.prog w = .ok (.int .i64 (j0 : Int)) w := fun ts t w => by
        have e : (j0 : Int) = if (0 : Int) < (k : Int) - 4 then (k : Int) - 4 else 0 := by split <;> omega
        rw [e]
        simp [Builtin.max_, Builtin.max2]
      have k0 : (0 : Int) < (k : Int) := by omega
      have k1 : (k : Int) ≤ 140737488351232 := by omega
      have HCV := Hid.mk (chunk_val l n k j0 m)
      have HJ : Hid (n - 4 * (m + 1) = j0 ∧ k + 4 * m = n ∧ k = n - 4 * m) := ⟨by omega, by omega, by omega⟩
      have HKJ : Hid (k - j0 ≤ 4 ∧ j0 ≤ k) := ⟨by omega, by omega⟩
      rw [hk] at HV
      clear hown hk hj0 hki
      go_wp2
      go_loopw [6, 7] (fun dv jv wx => ∃ i : Nat, i ≤ k - j0 ∧ jv = .int .i64 ((j0 : Int) + (i : Int)) ∧ dv = .int .u32 ((numB ((l.drop j0).take i) : Nat) : Int) ∧ wx = wr) (fun _ jv _ => k - (intOf jv).toNat)
      case atStart => exact ⟨0, by omega, by go_num, rfl, rfl⟩
      case round =>
        obtain ⟨i, hi, rfl, rfl, rfl⟩ := hrel
        have hj4 := HKJ.out
        have hkn := HJ.out
        by_cases hil : j0 + i < k
        · have hix := HIX.out (j0 + i) (by omega)
          have HC := Hid.mk (chunk_next l j0 i (by rw [HLN.out]; omega))
          have hdb : numB ((l.drop j0).take i) < 256 ^ 3 := Nat.lt_of_lt_of_le (numB_lt _) (Nat.pow_le_pow_right (by omega) (by rw [List.length_take]; omega))
          have hcb := (l[j0 + i]?.getD 0).toNat_lt
          generalize (l[j0 + i]?.getD 0).toNat = c at hix HC hcb
          generalize numB ((l.drop j0).take i) = d at HC hdb
          have hij : ((j0 + i : Nat) : Int) = (j0 : Int) + (i : Int) := by omega
          rw [hij] at hix
          have t1 : (j0 : Int) + (i : Int) < (k : Int) := by omega
          have t2 : IntKind.u32.wrap (256 * (d : Int)) = 256 * (d : Int) := by rw [IntKind.wrap_u32]; omega
          have t3 : IntKind.u32.wrap (c : Int) = (c : Int) := by rw [IntKind.wrap_u32]; omega
          have t4 : IntKind.u32.wrap (256 * (d : Int) + (c : Int)) = 256 * (d : Int) + (c : Int) := by rw [IntKind.wrap_u32]; omega
          clear hij hj4 hkn
          go_wp2
          go_roundw
          case rel => exact ⟨i + 1, by omega, by go_num, by rw [HC.out]; go_num, trivial⟩
          case measure => simp [intOf]; omega
        · obtain rfl : i = k - j0 := by omega
          have hij : (j0 : Int) + ((k - j0 : Nat) : Int) = (k : Int) := by omega
          rw [hij]
          have HD := Hid.mk (HCV.out _ HLN.out hkn.2.1 hj4.2 rfl)
          have hdb : numB ((l.drop j0).take (k - j0)) < 256 ^ 4 := Nat.lt_of_lt_of_le (numB_lt _) (Nat.pow_le_pow_right (by omega) (by rw [List.length_take]; omega))
          obtain ⟨z, hz⟩ : ∃ z : BitVec 32, z.toNat = numB ((l.drop j0).take (k - j0)) := ⟨BitVec.ofNat 32 (numB ((l.drop j0).take (k - j0))), by rw [bv_of]; omega⟩
          rw [← hz] at HD ⊢
          have HN : Hid (val (ds ++ [z]) = numB (l.drop (n - 4 * (m + 1)))) := by
            rw [Hid, val_snoc, HV.out, HDL.out, HD.out, hkn.1]
          have HDL2 : Hid ((ds ++ [z]).length = m + 1) := by rw [Hid, List.length_append, List.length_singleton, HDL.out]
          have HKE : Hid ((k : Int) - 4 = (n : Int) - 4 * ((m + 1 : Nat) : Int)) := by rw [Hid]; omega
          clear hz hdb hij hil hi hkn hj4
          go_wp2_with (at_builtin; refine wpList_app1 rfl _ _ rfl W.heap.size _ ds rfl HO.out z rfl (by rw [HDL.out]; omega) hbl hsz ?_; intro v2 w2 hown2 hbl2)
          go_roundw
          case rel => exact ⟨m + 1, ds ++ [z], by omega, congrArg (Value.int .i64) HKE.out, HDL2, HN, hown2, hbl2⟩
          case measure => simp [intOf]; omega
    · have hk0 : ¬ ((0 : Int) < (n : Int) - 4 * (m : Int)) := by omega
      have hk1 : (n : Int) - 4 * (m : Int) ≤ 0 := by omega
      have HV' : Hid (val ds = NN) := by
        have := HV.out
        rw [show n - 4 * m = 0 by omega, List.drop_zero, HNN.out] at this
        exact this
      have HT : Hid (∀ W' v', RN W' v' (NN) → Calls Tryd.prog 16 #[v'] W' fun e w' => e = .returned (.int .i64 (btl (NN) : Int)) ∧ w' = W') := fun W' v' hr => rbits_in W' v' _ hr (by
        have h1 := HNL.out
        have h2 : NN < 4294967296 ^ n := Nat.lt_of_lt_of_le h1 (Nat.pow_le_pow_left (by omega) n)
        apply Classical.byContradiction
        intro hh
        have h0 : NN ≠ 0 := fun h => by rw [h, mny_zero] at hh; omega
        have h3 := (mny_ge _ h0).2
        have h4 : 256 ^ n ≤ 4294967296 ^ (n / 4 + 1) := by rw [← pow4]; exact Nat.pow_le_pow_right (by omega) (by omega)
        have h5 : 4294967296 ^ (n / 4 + 1) ≤ 4294967296 ^ (mny (NN) - 1) := Nat.pow_le_pow_right (by omega) (by omega)
        omega)
      have HBT := Hid.mk (btl_lim (NN))
      clear hown
      go_wp2_with fail
      refine (rtrim_in _ _ ds HO.out.rw).mono ?_
      rintro e w1 ⟨v1, rfl, hr1, rfl⟩
      rw [HV'.out] at hr1
      have HR1 := Hid.mk hr1
      clear hr1
      go_wp2_with fail
      refine (HT.out _ _ HR1.out).mono ?_
      rintro e w2 ⟨rfl, rfl⟩
      by_cases hb : btl NN ≤ 4096
      · have hlim := HBT.out.1 hb
        have hbi : ¬ ((4096 : Int) < (btl NN : Int)) := by omega
        have hbj : (btl NN : Int) ≤ 4096 := by omega
        generalize btl NN = bn at *
        go_wp2
        go_ret2
        exact ⟨v1, 0, rfl, fun _ => ⟨rfl, HR1.out⟩, fun h => absurd hlim h, hbl⟩
      · have hlim : ¬ NN < Lim := fun h => hb (HBT.out.2 h)
        have hbi : (4096 : Int) < (btl NN : Int) := by omega
        generalize btl NN = bn at *
        go_wp2
        go_ret2
        exact ⟨.slice none 0 0, 3, rfl, fun h => absurd h hlim, fun _ => ⟨rfl, RN.zero _⟩, hbl⟩
end Go.Proofs.YthjhemodmdficaaDoor
