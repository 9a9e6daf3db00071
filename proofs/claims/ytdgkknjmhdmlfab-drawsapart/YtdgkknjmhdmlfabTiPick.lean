/- Layer 12: pick; RttBounds. -/
import Derived.Test.YtdgkknjmhdmlfabTiEx
namespace Go.Proofs.Ytdgkknjmhdmlfab
set_option linter.unusedVariables false
open Go.RowKit

/-- pick. -/
def pickR (c : Int) (n : Int) : Int := (if c < 0 then -(c + 1) else c).tmod n
theorem pickR_ge (c n : Int) : 0 ≤ pickR c n := by
  unfold pickR
  apply Int.tmod_nonneg
  split <;> omega
theorem pickR_lt (c n : Int) (h : 0 < n) : pickR c n < n := Int.tmod_lt_of_pos _ h
/-! ### how long to wait: bounds -/
theorem dn_up (x : Int) : 50 ≤ dn12 (up50 x) ∧ dn12 (up50 x) ≤ 12000 := by unfold dn12 up50; repeat' split <;> omega
theorem tmo_bd (a b c : Int) : 50 ≤ tmo a b c ∧ tmo a b c ≤ 12000 := by
  unfold tmo
  have h := dn_up (tm0 a b)
  obtain ⟨x, hx⟩ : ∃ x, dn12 (up50 (tm0 a b)) = x := ⟨_, rfl⟩
  rw [hx] at h ⊢
  have hp := two_pos c.toNat
  obtain ⟨P, hP⟩ : ∃ P, (2 : Int) ^ c.toNat = P := ⟨_, rfl⟩
  rw [hP] at hp ⊢
  have h1 : x * 1 ≤ x * P := Int.mul_le_mul_of_nonneg_left (by omega) (by omega)
  unfold dn12
  split <;> omega
theorem tmo_more (a b : Int) {c : Int} (h0 : 0 ≤ c) (h1 : c ≤ 10) : tmo a b c ≤ tmo a b (misC c) ∧ tmo a b (misC c) ≤ 2 * tmo a b c := by
  have hbd := tmo_bd a b c
  by_cases hc : c = 10
  · have : misC c = c := by unfold misC; rw [hc]; decide
    rw [this]
    omega
  · have e : misC c = c + 1 := by unfold misC; rw [if_neg (by omega)]
    rw [e]
    unfold tmo at *
    have h := dn_up (tm0 a b)
    obtain ⟨x, hx⟩ : ∃ x, dn12 (up50 (tm0 a b)) = x := ⟨_, rfl⟩
    rw [hx] at h hbd ⊢
    have hp := two_pos c.toNat
    have e2 : (2 : Int) ^ (c + 1).toNat = 2 ^ c.toNat * 2 := by rw [show (c + 1).toNat = c.toNat + 1 by omega, Int.pow_succ]
    rw [e2]
    obtain ⟨P, hP⟩ : ∃ P, (2 : Int) ^ c.toNat = P := ⟨_, rfl⟩
    rw [hP] at hp hbd ⊢
    have e3 : x * (P * 2) = x * P * 2 := (Int.mul_assoc x P 2).symm
    rw [e3]
    have h1 : x * 1 ≤ x * P := Int.mul_le_mul_of_nonneg_left (by omega) (by omega)
    obtain ⟨y, hy⟩ : ∃ y, x * P = y := ⟨_, rfl⟩
    rw [hy] at h1 hbd ⊢
    unfold dn12 at *
    repeat' split
    all_goals omega
theorem misC_bd {c : Int} (h0 : 0 ≤ c) (h1 : c ≤ 10) : 0 ≤ misC c ∧ misC c ≤ 10 := by unfold misC; split <;> omega
theorem W64.of {a : Int} (h : (Lit.int .i64 a).wf = true) : W64 a := Go.bounds_i64 h

end Go.Proofs.Ytdgkknjmhdmlfab
