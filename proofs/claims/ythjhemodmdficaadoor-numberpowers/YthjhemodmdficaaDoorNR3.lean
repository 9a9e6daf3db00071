/- The document's Cmp. -/
import Derived.Test.YthjhemodmdficaaDoorNR2
namespace Go.Proofs.YthjhemodmdficaaDoor
set_option linter.unusedVariables false
open Go.RowKit
theorem len_less {a b : List (BitVec 32)} (hb : Tr b) (h : a.length < b.length) : val a < val b := by
  have h1 := val_lt a
  have h0 : val b ≠ 0 := fun h => by
    have := hb.many
    rw [h, mny_zero] at this
    omega
  have h2 := (mny_ge (val b) h0).2
  rw [← hb.many] at h2
  have h3 : 4294967296 ^ a.length ≤ 4294967296 ^ (b.length - 1) := Nat.pow_le_pow_right (by omega) (by omega)
  omega
theorem list_same {a b : List (BitVec 32)} (hl : a.length = b.length) (h : ∀ j, j < a.length → a[j]?.getD 0 = b[j]?.getD 0) : a = b := by
  apply List.ext_getElem hl
  intro j h1 h2
  have := h j h1
  rw [List.getElem?_eq_getElem h1, List.getElem?_eq_getElem h2] at this
  exact this
def RCmp (w : World) (v u : Value) (c : Int) : Prop := Calls Tryd.prog 20 #[v, u] w fun e w' => e = .returned (.int .i64 c) ∧ ∃ n, w' = w.drewN n
set_option maxRecDepth 100000 in
set_option maxHeartbeats 400000 in
theorem rcmp_len (W : World) (p q : Option Addr) (n m c d : Nat) (hn : n ≤ maxLen) (hm : m ≤ maxLen) (hne : n ≠ m) : RCmp W (.slice p n c) (.slice q m d) (if n < m then -1 else 1) := by
  unfold maxLen at hn hm
  unfold RCmp
  have h1 : ((n : Int) == (m : Int)) = false := by rw [beq_eq_false_iff_ne]; omega
  have h2 : ((n : Int) != (m : Int)) = true := by rw [bne_iff_ne]; omega
  by_cases hlt : n < m
  · have h3 : (n : Int) < (m : Int) := by omega
    rw [if_pos hlt]
    go_enter Tryd.func20, Tryd.ntmps20
    go_wp2
    go_ret
    exact ⟨rfl, 0, rfl⟩
  · have h3 : (m : Int) ≤ (n : Int) := by omega
    rw [if_neg hlt]
    go_enter Tryd.func20, Tryd.ntmps20
    go_wp2
    go_ret
    exact ⟨rfl, 0, rfl⟩
set_option maxRecDepth 100000 in
set_option maxHeartbeats 400000 in
theorem rcmp_zero (W : World) (p q : Option Addr) (c d : Nat) : RCmp W (.slice p 0 c) (.slice q 0 d) 0 := by
  unfold RCmp
  go_enter Tryd.func20, Tryd.ntmps20
  go_wp2
  go_loopw [5] (fun k wr => k = .int .i64 (-1) ∧ wr = W) (fun _ _ => 0)
  case atStart => exact ⟨rfl, rfl⟩
  case round =>
    obtain ⟨rfl, rfl⟩ := hrel
    go_wp2
    go_ret
    exact ⟨rfl, 0, rfl⟩
set_option maxRecDepth 100000 in
set_option maxHeartbeats 1000000 in
theorem rcmp_same (W : World) (g h c d : Nat) (xs ys : List (BitVec 32)) (n : Nat) (hx : xs.length = n) (hy : ys.length = n) (hn : n ≤ maxLen) (hX : ∀ j, j < n → W.cell? ⟨g, j, none⟩ = some (.int .u32 ((xs[j]?.getD 0).toNat : Int))) (hY : ∀ j, j < n → W.cell? ⟨h, j, none⟩ = some (.int .u32 ((ys[j]?.getD 0).toNat : Int))) : RCmp W (.slice (some ⟨g, 0, none⟩) n c) (.slice (some ⟨h, 0, none⟩) n d) (cmpI (val xs) (val ys)) := by
  unfold maxLen at hn
  unfold RCmp
  have HX := Hid.mk hX
  have HY := Hid.mk hY
  have HXL := Hid.mk hx
  have HYL := Hid.mk hy
  clear hX hY hx hy
  go_enter Tryd.func20, Tryd.ntmps20
  go_wp2
  go_loopw [5] (fun k wr => ∃ (j m : Nat), j ≤ n ∧ k = .int .i64 ((j : Int) - 1) ∧ Hid (∀ i, j ≤ i → i < n → xs[i]?.getD 0 = ys[i]?.getD 0) ∧ wr = W.drewN m) (fun k _ => (intOf k + 1).toNat)
  case atStart => exact ⟨n, 0, Nat.le_refl _, by go_num, fun i h1 h2 => by omega, rfl⟩
  case round =>
    obtain ⟨j, m, hj, rfl, HE, rfl⟩ := hrel
    rcases Nat.eq_zero_or_pos j with rfl | hj0
    · have HC : Hid (cmpI (val xs) (val ys) = 0) := by
        rw [Hid, list_same (a := xs) (b := ys) (by rw [HXL.out, HYL.out]) (fun i hi => HE.out i (by omega) (by rw [← HXL.out]; exact hi)), cmpI_eq]
      go_wp2
      go_ret
      exact ⟨ret_int HC.out.symm, m, rfl⟩
    · obtain ⟨i, rfl⟩ : ∃ i, j = i + 1 := ⟨j - 1, by omega⟩
      have e1 : ((i + 1 : Nat) : Int) - 1 = (i : Int) := by omega
      have e0 : (0 : Int) ≤ (i : Int) := by omega
      have e2 : (i : Int) < (n : Int) := by omega
      have c1 : ∀ k, (W.drewN k).cell? ⟨g, i, none⟩ = some (.int .u32 ((xs[i]?.getD 0).toNat : Int)) := fun k => HX.out i (by omega)
      have c2 : ∀ k, (W.drewN k).cell? ⟨h, i, none⟩ = some (.int .u32 ((ys[i]?.getD 0).toNat : Int)) := fun k => HY.out i (by omega)
      have hlx := bv_lt (xs[i]?.getD 0)
      have hly := bv_lt (ys[i]?.getD 0)
      rw [e1]
      by_cases hq : (xs[i]?.getD 0).toNat = (ys[i]?.getD 0).toNat
      · have HE' : Hid (∀ k, i ≤ k → k < n → xs[k]?.getD 0 = ys[k]?.getD 0) := fun k h1 h2 => by
          by_cases hk : k = i
          · subst hk; exact BitVec.eq_of_toNat_eq hq
          · exact HE.out k (by omega) h2
        rw [← hq] at c2
        generalize (xs[i]?.getD 0).toNat = x at c1 c2
        clear hq
        go_upto_region 8 with fail
        go_quiet (fail)
        go_wp2
        go_roundw
        case rel => exact ⟨i, _, by omega, by go_num, HE', rfl⟩
        case measure => simp [intOf]
      · have HL : Hid ((xs[i]?.getD 0).toNat < (ys[i]?.getD 0).toNat → cmpI (val xs) (val ys) = -1) := fun hlt => cmpI_lt _ _ (val_less xs ys i (by rw [HXL.out, HYL.out]) (by rw [HXL.out]; omega) (fun k h1 h2 => HE.out k (by omega) (by rw [← HXL.out]; exact h2)) hlt)
        have HG : Hid ((ys[i]?.getD 0).toNat < (xs[i]?.getD 0).toNat → cmpI (val xs) (val ys) = 1) := fun hlt => cmpI_gt _ _ (val_less ys xs i (by rw [HXL.out, HYL.out]) (by rw [HYL.out]; omega) (fun k h1 h2 => (HE.out k (by omega) (by rw [← HYL.out]; exact h2)).symm) hlt)
        generalize (xs[i]?.getD 0).toNat = x at c1 hq HL HG
        generalize (ys[i]?.getD 0).toNat = y at c2 hq HL HG
        have q1 : ((x : Int) == (y : Int)) = false := by rw [beq_eq_false_iff_ne]; omega
        have q2 : ((x : Int) != (y : Int)) = true := by rw [bne_iff_ne]; omega
        by_cases hlt : x < y
        · have HV := Hid.mk (HL.out hlt)
          have q3 : (x : Int) < (y : Int) := by omega
          go_upto_region 8 with fail
          go_quiet (fail)
          go_upto_region 9 with fail
          go_quiet (fail)
          go_wp2
          go_ret
          exact ⟨ret_int HV.out.symm, _, by rw [drew_add, drew_add]⟩
        · have HV := Hid.mk (HG.out (by omega))
          have q3 : (y : Int) ≤ (x : Int) := by omega
          go_upto_region 8 with fail
          go_quiet (fail)
          go_upto_region 9 with fail
          go_quiet (fail)
          go_wp2
          go_ret
          exact ⟨ret_int HV.out.symm, _, by rw [drew_add, drew_add]⟩
theorem rcmp_in (W : World) (v u : Value) (A B : Nat) (hA : RN W v A) (hB : RN W u B) : Calls Tryd.prog 20 #[v, u] W fun e w' => e = .returned (.int .i64 (cmpI A B)) ∧ ∃ n, w' = W.drewN n := by
  obtain ⟨xs, hx, rfl, tx⟩ := hA
  obtain ⟨ys, hy, rfl, ty⟩ := hB
  have lens : ∀ (p q : Option Addr) (c d : Nat), xs.length ≤ maxLen → ys.length ≤ maxLen → xs.length ≠ ys.length → RCmp W (.slice p xs.length c) (.slice q ys.length d) (cmpI (val xs) (val ys)) := fun p q c d h1 h2 hne => by
    have h := rcmp_len W p q xs.length ys.length c d h1 h2 hne
    by_cases hlt : xs.length < ys.length
    · rw [if_pos hlt] at h; rw [cmpI_lt _ _ (len_less ty hlt)]; exact h
    · rw [if_neg hlt] at h; rw [cmpI_gt _ _ (len_less tx (by omega))]; exact h
  have m0 : (0 : Nat) ≤ maxLen := Nat.zero_le _
  rcases hx.view with ⟨rfl, rfl⟩ | ⟨g, c, rfl, hc, hm, hg, hcx, -⟩ <;> rcases hy.view with ⟨rfl, rfl⟩ | ⟨h, d, rfl, hd, hm2, hh, hcy, -⟩
  · exact rcmp_zero W none none 0 0
  · by_cases h0 : ys = []
    · subst h0; exact rcmp_zero W none _ 0 d
    · exact lens none _ 0 d m0 (by omega) (fun e => h0 (List.eq_nil_of_length_eq_zero e.symm))
  · by_cases h0 : xs = []
    · subst h0; exact rcmp_zero W _ none c 0
    · exact lens _ none c 0 (by omega) m0 (fun e => h0 (List.eq_nil_of_length_eq_zero e))
  · by_cases he : xs.length = ys.length
    · have h := rcmp_same W g h c d xs ys xs.length rfl he.symm (by omega) hcx (fun j hj => hcy j (by omega))
      rw [← he]
      exact h
    · exact lens _ _ c d (by omega) (by omega) he
end Go.Proofs.YthjhemodmdficaaDoor
