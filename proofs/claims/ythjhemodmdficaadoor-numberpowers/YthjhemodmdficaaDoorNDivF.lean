/- Facts on long division: nothing of the program. -/
import Derived.Test.YthjhemodmdficaaDoorNOf
namespace Go.Proofs.YthjhemodmdficaaDoor
set_option linter.unusedVariables false
/-- a digit shifted until its greatest bit is set. -/
theorem lead_ok (d : Nat) (h0 : 0 < d) (h1 : d < 4294967296) : btl d ≤ 32 ∧ 1 ≤ btl d ∧ 2147483648 ≤ d * 2 ^ (32 - btl d) ∧ (d + 1) * 2 ^ (32 - btl d) ≤ 4294967296 := by
  have hd : d ≠ 0 := by omega
  have hb : btl d = Nat.log2 d + 1 := if_neg hd
  have a1 := Nat.log2_self_le hd
  have a2 := Nat.lt_log2_self (n := d)
  have a3 := (Nat.log2_lt hd).2 (show d < 2 ^ 32 by omega)
  rw [hb]
  refine ⟨by omega, by omega, ?_, ?_⟩
  · have h2 : 2 ^ Nat.log2 d * 2 ^ (32 - (Nat.log2 d + 1)) ≤ d * 2 ^ (32 - (Nat.log2 d + 1)) := Nat.mul_le_mul_right _ a1
    rw [← Nat.pow_add, show Nat.log2 d + (32 - (Nat.log2 d + 1)) = 31 by omega] at h2
    omega
  · have h2 : (d + 1) * 2 ^ (32 - (Nat.log2 d + 1)) ≤ 2 ^ (Nat.log2 d + 1) * 2 ^ (32 - (Nat.log2 d + 1)) := Nat.mul_le_mul_right _ a2
    rw [← Nat.pow_add, show Nat.log2 d + 1 + (32 - (Nat.log2 d + 1)) = 32 by omega] at h2
    omega
/-- what is divided by fits its digits when it is shifted. -/
theorem up_fits (P d low s M : Nat) (hM : M = low + P * d) (hl : low < P) (hs : (d + 1) * s ≤ 4294967296) (h0 : 0 < s) : M * s < P * 4294967296 ∧ P * (d * s) ≤ M * s := by
  have h1 : M + 1 ≤ P * (d + 1) := by rw [Nat.mul_add, Nat.mul_one]; omega
  have h2 : (M + 1) * s ≤ P * (d + 1) * s := Nat.mul_le_mul_right _ h1
  rw [Nat.mul_assoc, Nat.add_mul, Nat.one_mul] at h2
  have h3 : P * ((d + 1) * s) ≤ P * 4294967296 := Nat.mul_le_mul_left _ hs
  refine ⟨by omega, ?_⟩
  rw [← Nat.mul_assoc]
  exact Nat.mul_le_mul_right _ (by omega)
/-- a place of the quotient. -/
theorem div_step (X D P A x : Nat) (hP : 0 < P) (hD : 0 < D) (hA : A < P) (hR : A + P * x = X % (D * (P * 4294967296))) :
    x < D * 4294967296 ∧ A + P * (x % D) = X % (D * P) ∧ X / (D * P) = 4294967296 * (X / (D * (P * 4294967296))) + x / D := by
  have hDP : 0 < D * P := Nat.mul_pos hD hP
  have hlt : X % (D * (P * 4294967296)) < D * (P * 4294967296) := Nat.mod_lt _ (Nat.mul_pos hD (Nat.mul_pos hP (by omega)))
  have h1 : x < D * 4294967296 := by
    apply Classical.byContradiction
    intro hn
    have h2 : P * (D * 4294967296) ≤ P * x := Nat.mul_le_mul_left _ (by omega)
    have h3 : P * (D * 4294967296) = D * (P * 4294967296) := Nat.mul_left_comm _ _ _
    omega
  have hm : x % D < D := Nat.mod_lt _ hD
  have hsm : A + P * (x % D) < D * P := by
    have h2 : P * (x % D + 1) ≤ P * D := Nat.mul_le_mul_left _ hm
    rw [Nat.mul_add, Nat.mul_one, Nat.mul_comm P D] at h2
    omega
  have hX : X = D * P * (4294967296 * (X / (D * (P * 4294967296))) + x / D) + (A + P * (x % D)) := by
    have e1 := Nat.div_add_mod X (D * (P * 4294967296))
    have e2 := Nat.div_add_mod x D
    rw [← hR] at e1
    have e3 : D * P * (4294967296 * (X / (D * (P * 4294967296))) + x / D) = D * (P * 4294967296) * (X / (D * (P * 4294967296))) + P * (D * (x / D)) := by
      rw [Nat.mul_add]
      congr 1
      · rw [← Nat.mul_assoc, Nat.mul_assoc D P]
      · rw [Nat.mul_comm D P, Nat.mul_assoc]
    have e4 : P * x = P * (D * (x / D)) + P * (x % D) := by rw [← Nat.mul_add, e2]
    rw [e3]
    omega
  refine ⟨h1, ?_, ?_⟩
  · have h2 := congrArg (· % (D * P)) hX
    simp only [Nat.mul_add_mod, Nat.mod_eq_of_lt hsm] at h2
    exact h2.symm
  · have h2 := congrArg (· / (D * P)) hX
    simp only [Nat.mul_add_div hDP, Nat.div_eq_of_lt hsm, Nat.add_zero] at h2
    exact h2
theorem shifted_div (N M s : Nat) (hs : 0 < s) : N * s / (M * s) = N / M ∧ N * s % (M * s) = N % M * s ∧ N % M * s / s = N % M :=
  ⟨Nat.mul_div_mul_right _ _ hs, Nat.mul_mod_mul_right _ _ _, Nat.mul_div_cancel _ hs⟩
end Go.Proofs.YthjhemodmdficaaDoor
