/- The document's Div. -/
import Derived.Test.YthjhemodmdficaaDoorNR11
namespace Go.Proofs.YthjhemodmdficaaDoor
set_option linter.unusedVariables false
open Go.RowKit
theorem below_same {w w' : World} (h : w' = w) : Below w.heap.size w w' := by rw [h]; exact Below.refl _ _
theorem below_drew {w w' : World} (h : ∃ n, w' = w.drewN n) : Below w.heap.size w w' := by
  obtain ⟨n, rfl⟩ := h
  exact below_dn w n
theorem own_blk {w w' : World} {base n : Nat} {v : Value} {xs : List Value} (hb : Below w.heap.size w w') (h : w.ownsRow base 24 1 v n xs) : w'.ownsRow base 24 1 v n xs := by
  obtain ⟨h1, ⟨h2, h3⟩ | ⟨g, cap, cur, h2, h3, h4, h5, h6, h7, h8⟩⟩ := h
  · exact ⟨h1, .inl ⟨h2, h3⟩⟩
  · exact ⟨h1, .inr ⟨g, cap, cur, h2, h3, blk hb h4, h5, h6, h7, h8⟩⟩
/-- a number that is not 0, as a row that can be read. -/
theorem RN.open {w : World} {v : Value} {N : Nat} (h : RN w v N) (h0 : N ≠ 0) : ∃ g cap ds, v = .slice (some ⟨g, 0, none⟩) (mny N) cap ∧ g < w.heap.size ∧ ds.length = mny N ∧ val ds = N ∧ ∀ j, j < mny N → w.cell? ⟨g, j, none⟩ = some (.int .u32 ((ds[j]?.getD 0).toNat : Int)) := by
  obtain ⟨ds, hr, rfl, ht⟩ := h
  rcases hr.view with ⟨rfl, rfl⟩ | ⟨g, cap, rfl, hc, hm, hg, hcell, -⟩
  · exact absurd rfl h0
  · rw [← ht.many]
    exact ⟨g, cap, ds, rfl, hg, rfl, rfl, hcell⟩
theorem Rw.two (w : World) (z y : BitVec 32) : Rw (w.alloc (.cells #[.int .u32 (z.toNat : Int), .int .u32 (y.toNat : Int)] 24)) (.slice (some ⟨w.heap.size, 0, none⟩) 2 2) [z, y] :=
  ⟨rfl, .inr ⟨w.heap.size, 2, #[.int .u32 (z.toNat : Int), .int .u32 (y.toNat : Int)], rfl, Nat.zero_le _, heap_new _ _, Nat.le_refl _, by unfold maxLen; omega, rfl, rfl⟩⟩
theorem high_step (X D b P : Nat) (hD : 0 < D) (hP : 0 < P) : (X / (P * 4294967296)) % D * 4294967296 + X / P % 4294967296 < D * 4294967296 ∧ X / P / D = X / (P * 4294967296) / D * 4294967296 + ((X / (P * 4294967296)) % D * 4294967296 + X / P % 4294967296) / D ∧ X / P % D = ((X / (P * 4294967296)) % D * 4294967296 + X / P % 4294967296) % D := by
  rw [← Nat.div_div_eq_div_mul]
  generalize X / P = Y
  have e := Nat.div_add_mod Y 4294967296
  have l := Nat.mod_lt Y (show 0 < 4294967296 by omega)
  generalize Y / 4294967296 = H at *
  generalize Y % 4294967296 = x at *
  have eH := Nat.div_add_mod H D
  have lH := Nat.mod_lt H hD
  generalize H / D = Q at *
  generalize H % D = r at *
  have hY : Y = r * 4294967296 + x + D * (Q * 4294967296) := by
    have : D * (Q * 4294967296) = D * Q * 4294967296 := (Nat.mul_assoc _ _ _).symm
    rw [this, ← e, ← eH]
    omega
  refine ⟨?_, ?_, ?_⟩
  · have : (r + 1) * 4294967296 ≤ D * 4294967296 := Nat.mul_le_mul_right _ lH
    omega
  · rw [hY, Nat.add_mul_div_left _ _ hD, Nat.add_comm]
  · rw [hY, Nat.add_mul_mod_self_left]
theorem pow_shift (i Q : Nat) : 4294967296 ^ (i + 1) * Q = 4294967296 ^ i * (Q * 4294967296) := by rw [Nat.pow_succ, Nat.mul_assoc, Nat.mul_comm 4294967296 Q]
theorem pow_shift0 (i Q : Nat) : 4294967296 ^ (i + 1) * Q = 4294967296 ^ i * (Q * 4294967296 + 0) := (pow_shift i Q).trans (by simp only [Nat.add_zero])
theorem low_guess (R D P bt : Nat) (hP : 0 < P) (hD : D < (bt + 1) * P) : R / P / (bt + 1) * D ≤ R := by
  have h1 : R / P / (bt + 1) * D ≤ R / P / (bt + 1) * ((bt + 1) * P) := Nat.mul_le_mul_left _ (Nat.le_of_lt hD)
  have h2 : R / P / (bt + 1) * ((bt + 1) * P) = R / P / (bt + 1) * (bt + 1) * P := (Nat.mul_assoc _ _ _).symm
  have h3 : R / P / (bt + 1) * (bt + 1) ≤ R / P := Nat.div_mul_le_self _ _
  have h4 : R / P / (bt + 1) * (bt + 1) * P ≤ R / P * P := Nat.mul_le_mul_right _ h3
  have h5 : R / P * P ≤ R := Nat.div_mul_le_self _ _
  omega
theorem shift_of (B : Nat) (h0 : B ≠ 0) : ∃ sh, sh < 32 ∧ 32 * mny B = btl B + sh := by
  unfold mny btl
  rw [if_neg h0, if_neg h0]
  exact ⟨32 * (Nat.log2 B / 32 + 1) - (Nat.log2 B + 1), by omega, by omega⟩
theorem mny_mul_pow (A k n : Nat) (hk : k < 32) (h : mny A ≤ n) : mny (A * 2 ^ k) ≤ n + 1 := by
  by_cases h0 : A * 2 ^ k = 0
  · rw [h0]; exact Nat.zero_le _
  · have h1 := (mny_ge _ h0).2
    have h2 := mny_lt A
    have h3 : 2 ^ k ≤ 4294967296 := Nat.pow_le_pow_right (n := 2) (by omega) (show k ≤ 32 by omega)
    have h4 : A * 2 ^ k < 4294967296 ^ (n + 1) := by
      have a1 : 4294967296 ^ mny A ≤ 4294967296 ^ n := Nat.pow_le_pow_right (by omega) h
      have a2 : A * 2 ^ k ≤ A * 4294967296 := Nat.mul_le_mul_left _ h3
      have a3 : (A + 1) * 4294967296 ≤ 4294967296 ^ n * 4294967296 := Nat.mul_le_mul_right _ (by omega)
      rw [Nat.pow_succ]
      omega
    apply Classical.byContradiction
    intro hn
    have h5 : 4294967296 ^ (n + 1) ≤ 4294967296 ^ (mny (A * 2 ^ k) - 1) := Nat.pow_le_pow_right (by omega) (by omega)
    omega
/-- the digits of what is left: as many as b has, or one more. -/
theorem rest_many (R D : Nat) (h1 : D ≤ R) (h2 : R < D * 4294967296) (h0 : D ≠ 0) : mny R = mny D ∨ mny R = mny D + 1 := by
  have a := mny_mono D R h1
  have hR : R ≠ 0 := by omega
  have b := (mny_ge R hR).2
  have c := mny_lt D
  have d : R < 4294967296 ^ (mny D + 1) := by
    rw [Nat.pow_succ]
    have h7 : D + 1 ≤ 4294967296 ^ mny D := by omega
    have h6 := Nat.mul_le_mul_right 4294967296 h7
    exact Nat.lt_of_lt_of_le h2 (Nat.le_trans (Nat.mul_le_mul_right 4294967296 (Nat.le_succ D)) h6)
  have e : ¬ mny D + 2 ≤ mny R := fun h => by
    have : 4294967296 ^ (mny D + 1) ≤ 4294967296 ^ (mny R - 1) := Nat.pow_le_pow_right (by omega) (by omega)
    omega
  omega
/-- the first digits of a row. -/
theorem top_one (ds : List (BitVec 32)) (n : Nat) (hl : ds.length = n + 1) : val ds / 4294967296 ^ n = (ds[n]?.getD 0).toNat := by
  have h := val_cut ds n (by omega)
  have hl2 := val_lt (ds.take n)
  rw [List.length_take, Nat.min_eq_left (by omega)] at hl2
  rw [List.drop_of_length_le (by omega)] at h
  rw [h, Nat.add_mul_div_left _ _ (Nat.pow_pos (by omega)), Nat.div_eq_of_lt hl2]
  simp [val]
theorem top_two (ds : List (BitVec 32)) (n : Nat) (hl : ds.length = n + 2) : val ds / 4294967296 ^ n = (ds[n + 1]?.getD 0).toNat * 4294967296 + (ds[n]?.getD 0).toNat := by
  have h := val_cut ds n (by omega)
  have hl2 := val_lt (ds.take n)
  rw [List.length_take, Nat.min_eq_left (by omega)] at hl2
  have h4 : ds.drop (n + 1) = [ds[n + 1]?.getD 0] := by
    rw [List.drop_eq_getElem_cons (by omega), List.drop_of_length_le (by omega), List.getElem?_eq_getElem (by omega)]
    rfl
  rw [h4, val_one] at h
  rw [h, Nat.add_mul_div_left _ _ (Nat.pow_pos (by omega)), Nat.div_eq_of_lt hl2]
  omega
end Go.Proofs.YthjhemodmdficaaDoor
