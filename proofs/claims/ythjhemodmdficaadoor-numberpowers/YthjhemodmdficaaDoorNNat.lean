/- A number as its 128 digits and how many there are. -/
import Derived.Test.YthjhemodmdficaaDoorNShift
namespace Go.Proofs.YthjhemodmdficaaDoor
set_option linter.unusedVariables false
open Go.RowKit
/-- what no number reaches. -/
def Lim : Nat := 4294967296 ^ 128
/-- how many digits a number has. -/
def mny (N : Nat) : Nat := if N = 0 then 0 else Nat.log2 N / 32 + 1
theorem pow_bits (m : Nat) : (4294967296 : Nat) ^ m = 2 ^ (32 * m) := by rw [show (4294967296 : Nat) = 2 ^ 32 from rfl, ← Nat.pow_mul]
theorem mny_of (N m : Nat) (h0 : 4294967296 ^ m ≤ N) (h1 : N < 4294967296 ^ (m + 1)) : mny N = m + 1 := by
  have hp : 0 < 4294967296 ^ m := Nat.pow_pos (by omega)
  have hN : N ≠ 0 := by omega
  unfold mny
  rw [if_neg hN]
  rw [pow_bits] at h0 h1
  have a1 := (Nat.le_log2 hN).2 h0
  have a2 := (Nat.log2_lt hN).2 h1
  omega
theorem mny_zero : mny 0 = 0 := rfl
theorem mny_lt (N : Nat) : N < 4294967296 ^ mny N := by
  unfold mny
  by_cases h : N = 0
  · rw [if_pos h, h]; simp
  · rw [if_neg h, pow_bits]
    have := Nat.lt_log2_self (n := N)
    exact Nat.lt_of_lt_of_le this (Nat.pow_le_pow_right (by omega) (by omega))
theorem mny_ge (N : Nat) (h : N ≠ 0) : 0 < mny N ∧ 4294967296 ^ (mny N - 1) ≤ N := by
  unfold mny
  rw [if_neg h, pow_bits]
  refine ⟨by omega, Nat.le_trans (Nat.pow_le_pow_right (by omega) ?_) (Nat.log2_self_le h)⟩
  omega
theorem mny_le (N : Nat) (h : N < Lim) : mny N ≤ 128 := by
  by_cases h0 : N = 0
  · rw [h0]; exact Nat.zero_le _
  · have := (mny_ge N h0).2
    apply Classical.byContradiction
    intro hn
    have h2 : Lim ≤ 4294967296 ^ (mny N - 1) := Nat.pow_le_pow_right (by omega) (by omega)
    omega
theorem mny_list (l : List (BitVec 32)) (h : l = [] ∨ ∃ a x, l = a ++ [x] ∧ x.toNat ≠ 0) : mny (val l) = l.length := by
  rcases h with rfl | ⟨a, x, rfl, hx⟩
  · rfl
  · have h1 := val_lt (a ++ [x])
    rw [List.length_append, List.length_singleton] at h1 ⊢
    refine mny_of _ _ ?_ h1
    rw [val_snoc]
    have : 4294967296 ^ a.length * 1 ≤ 4294967296 ^ a.length * x.toNat := Nat.mul_le_mul_left _ (by omega)
    omega
theorem dgs_ex : ∀ (k N : Nat), N < 4294967296 ^ k → ∃ l : List (BitVec 32), l.length = k ∧ val l = N
  | 0, N, h => ⟨[], rfl, by simp at h; exact h.symm⟩
  | k + 1, N, h => by
    obtain ⟨l, h1, h2⟩ := dgs_ex k (N / 4294967296) (by rw [Nat.pow_succ] at h; omega)
    refine ⟨BitVec.ofNat 32 N :: l, by simp [h1], ?_⟩
    rw [val, h2, bv_of]
    omega
theorem dg_ex (N : Nat) : ∃ l : List (BitVec 32), l.length = 128 ∧ (N < Lim → val l = N) := by
  by_cases h : N < Lim
  · obtain ⟨l, h1, h2⟩ := dgs_ex 128 N h
    exact ⟨l, h1, fun _ => h2⟩
  · exact ⟨List.replicate 128 0, by simp, fun h' => absurd h' h⟩
/-- its 128 digits. -/
noncomputable def dg (N : Nat) : List (BitVec 32) := Classical.choose (dg_ex N)
theorem dg_len (N : Nat) : (dg N).length = 128 := (Classical.choose_spec (dg_ex N)).1
theorem dg_val (N : Nat) (h : N < Lim) : val (dg N) = N := (Classical.choose_spec (dg_ex N)).2 h
theorem dg_of (l : List (BitVec 32)) (h : l.length = 128) : dg (val l) = l := by
  have hl : val l < Lim := by have := val_lt l; rw [h] at this; exact this
  exact val_inj _ _ (by rw [dg_len, h]) (dg_val _ hl)
/-- its cells. -/
noncomputable def natL (N : Nat) : List Value := wl (dg N) ++ [.int .i64 (mny N : Int)]
theorem natL_len (N : Nat) : (natL N).length = 129 := by rw [natL, List.length_append, wl_len, dg_len]; rfl
theorem natL_of (l : List (BitVec 32)) (h : l.length = 128) (m : Nat) (hm : mny (val l) = m) : wl l ++ [.int .i64 (m : Int)] = natL (val l) := by rw [natL, dg_of l h, hm]
theorem natL_one (N : Nat) : (natL N).toArray.all (·.oneCell') = true := by
  rw [natL]
  simp [wl, Value.oneCell']
/-- the digits above are noughts. -/
theorem val_split (l : List (BitVec 32)) (m : Nat) : val l = val (l.take m) + 4294967296 ^ (l.take m).length * val (l.drop m) := by rw [← val_app, List.take_append_drop]
theorem dg_top (N : Nat) (h : N < Lim) (j : Nat) (hj : mny N ≤ j) : val ((dg N).take j) = N := by
  have h1 := val_split (dg N) j
  rw [dg_val N h] at h1
  by_cases hjl : 128 ≤ j
  · rw [List.take_of_length_le (by rw [dg_len]; exact hjl), dg_val N h]
  · rw [List.length_take, dg_len, Nat.min_eq_left (by omega)] at h1
    have h2 := mny_lt N
    have h3 : 4294967296 ^ mny N ≤ 4294967296 ^ j := Nat.pow_le_pow_right (by omega) hj
    have h4 : val ((dg N).drop j) = 0 := by
      apply Classical.byContradiction
      intro hn
      have : 4294967296 ^ j * 1 ≤ 4294967296 ^ j * val ((dg N).drop j) := Nat.mul_le_mul_left _ (by omega)
      omega
    rw [h4] at h1
    omega
theorem natZ : natL 0 = wl (List.replicate 128 0) ++ [.int .i64 0] := by
  have h := natL_of (List.replicate 128 0) (by simp) 0 (by rw [val_zero]; rfl)
  rw [val_zero] at h
  exact h.symm
/-- what a number of digits makes. -/
noncomputable def natR (N : Nat) : Ending := if N < Lim then .returned (.tuple #[.agg (natL N).toArray, .int .i64 0]) else .returned (.tuple #[.agg (natL 0).toArray, .int .i64 3])
theorem nat_at (N j : Nat) (h : j < 128) : (natL N)[j]? = some (.int .u32 (((dg N)[j]?.getD 0).toNat : Int)) := by
  have := mid_at [] [.int .i64 (mny N : Int)] (dg N) j (by rw [dg_len]; exact h)
  simpa [natL] using this
theorem nat_many (N : Nat) : (natL N)[128]? = some (.int .i64 (mny N : Int)) := by
  rw [natL, List.getElem?_append_right (by rw [wl_len, dg_len]; omega), wl_len, dg_len]
  rfl
end Go.Proofs.YthjhemodmdficaaDoor
