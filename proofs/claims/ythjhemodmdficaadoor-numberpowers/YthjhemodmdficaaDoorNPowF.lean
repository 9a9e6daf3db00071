/- Facts on powers modulo a number. -/
import Derived.Test.YthjhemodmdficaaDoorNWide
namespace Go.Proofs.YthjhemodmdficaaDoor
set_option linter.unusedVariables false
open Go.RowKit
theorem bit_at (N k : Nat) : N / 4294967296 ^ (k / 32) % 4294967296 / 2 ^ (k % 32) % 2 = N / 2 ^ k % 2 := by
  have e : 2 ^ k = 4294967296 ^ (k / 32) * 2 ^ (k % 32) := by
    rw [show (4294967296 : Nat) = 2 ^ 32 from rfl, ← Nat.pow_mul, ← Nat.pow_add, Nat.div_add_mod]
  rw [e, ← Nat.div_div_eq_div_mul]
  generalize N / 4294967296 ^ (k / 32) = A
  have h : k % 32 < 32 := Nat.mod_lt _ (by omega)
  generalize k % 32 = r at h
  have e2 : 4294967296 = 2 ^ r * 2 ^ (31 - r) * 2 := by
    rw [← Nat.pow_add, show r + (31 - r) = 31 by omega]
  have e3 : A % 4294967296 = A % (2 ^ r * (2 ^ (31 - r) * 2)) := by rw [← Nat.mul_assoc, ← e2]
  rw [e3, Nat.mod_mul_right_div_self]
  rw [Nat.mod_mul_left_mod]
theorem and_one (q : Nat) (h : q < 4294967296) : bits .and .u32 (q : Int) 1 = ((q % 2 : Nat) : Int) := by
  have := u32_and_nat q 1 h (by omega)
  rw [Nat.and_one_is_mod] at this
  exact this
/-- the power of the first i bits. -/
def pwr (A E M n i : Nat) : Nat := A ^ (E / 2 ^ (n - i)) % M
theorem pwr_start (A E M n : Nat) (h : E < 2 ^ n) : pwr A E M n 0 = 1 % M := by
  unfold pwr
  rw [Nat.sub_zero, Nat.div_eq_of_lt h, Nat.pow_zero]
theorem pwr_end (A E M n : Nat) : pwr A E M n n = A ^ E % M := by
  unfold pwr
  rw [Nat.sub_self, Nat.pow_zero, Nat.div_one]
theorem pwr_lt (A E M n i : Nat) (h : M ≠ 0) : pwr A E M n i < M := Nat.mod_lt _ (by omega)
theorem half (E k : Nat) : E / 2 ^ k = E / 2 ^ (k + 1) + E / 2 ^ (k + 1) + E / 2 ^ k % 2 := by
  rw [Nat.pow_succ, ← Nat.div_div_eq_div_mul]
  omega
theorem pow_even (A q M : Nat) : A ^ q % M * (A ^ q % M) % M = A ^ (q + q + 0) % M := by
  rw [Nat.add_zero, Nat.pow_add, ← Nat.mul_mod]
theorem pow_odd (A q M : Nat) : (A ^ q % M * (A ^ q % M) % M) * (A % M) % M = A ^ (q + q + 1) % M := by
  rw [pow_even, Nat.add_zero, ← Nat.mul_mod, Nat.pow_succ]
theorem pwr_even (A E M n i k : Nat) (hk : n - (i + 1) = k) (hi : i < n) (hb : E / 2 ^ k % 2 = 0) : pwr A E M n i * pwr A E M n i % M = pwr A E M n (i + 1) := by
  have h := half E k
  rw [hb] at h
  unfold pwr
  rw [hk, show n - i = k + 1 by omega, h]
  exact pow_even _ _ _
theorem pwr_odd (A E M n i k : Nat) (hk : n - (i + 1) = k) (hi : i < n) (hb : E / 2 ^ k % 2 = 1) : (pwr A E M n i * pwr A E M n i % M) * (A % M) % M = pwr A E M n (i + 1) := by
  have h := half E k
  rw [hb] at h
  unfold pwr
  rw [hk, show n - i = k + 1 by omega, h]
  exact pow_odd _ _ _
theorem lt_pow_of_btl (M k : Nat) (h : btl M ≤ 32 * k) : M < 4294967296 ^ k := by
  rw [pow_bits]
  exact Nat.lt_of_lt_of_le (btl_lt M) (Nat.pow_le_pow_right (by omega) h)
theorem lim_sq (M : Nat) (h : btl M ≤ 2048) : M * M ≤ Lim := by
  have h2 := lt_pow_of_btl M 64 h
  have h4 : M * M ≤ 4294967296 ^ 64 * 4294967296 ^ 64 := Nat.mul_le_mul (Nat.le_of_lt h2) (Nat.le_of_lt h2)
  rw [← Nat.pow_add] at h4
  exact h4
end Go.Proofs.YthjhemodmdficaaDoor
