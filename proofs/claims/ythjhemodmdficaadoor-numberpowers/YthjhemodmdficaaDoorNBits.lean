/- Small, Bits. -/
import Derived.Test.YthjhemodmdficaaDoorNNatOf
import Derived.Test.YthjhemodmdficaaDoorShelf
namespace Go.Proofs.YthjhemodmdficaaDoor
set_option linter.unusedVariables false
open Go.RowKit
/-- how many bits a number has. -/
def btl (N : Nat) : Nat := if N = 0 then 0 else Nat.log2 N + 1
theorem bitLenAux_eq : ∀ (f x : Nat), x < 2 ^ f → Lib.bitLenAux f x = btl x
  | 0, x, h => by simp at h; subst h; rfl
  | f + 1, x, h => by
    unfold Lib.bitLenAux
    by_cases h0 : x = 0
    · rw [if_pos h0, h0]; rfl
    · rw [if_neg h0, bitLenAux_eq f (x / 2) (by rw [Nat.pow_succ] at h; omega)]
      unfold btl
      rw [if_neg h0, Nat.log2_def x]
      by_cases h2 : 2 ≤ x
      · rw [if_pos h2, if_neg (by omega)]; omega
      · rw [if_neg h2, if_pos (by omega)]
theorem bitLen_eq (x : Nat) (h : x < 4294967296) : Lib.bitLen x = btl x := bitLenAux_eq 64 x (Nat.lt_trans h (by decide))
/-- the greatest digit. -/
theorem top_digit (N : Nat) (h : N < Lim) (M : Nat) (hM : mny N = M + 1) : ∃ low, low < 4294967296 ^ M ∧ N = low + 4294967296 ^ M * ((dg N)[M]?.getD 0).toNat ∧ 0 < ((dg N)[M]?.getD 0).toNat := by
  have hle := mny_le N h
  have h1 := dg_top N h (M + 1) (by omega)
  rw [val_take_succ _ _ (by rw [dg_len]; omega)] at h1
  have h2 := val_lt ((dg N).take M)
  rw [List.length_take, dg_len, Nat.min_eq_left (by omega)] at h2
  have hN : N ≠ 0 := fun e => by rw [e, mny_zero] at hM; omega
  have h3 := (mny_ge N hN).2
  rw [hM, Nat.add_sub_cancel] at h3
  refine ⟨_, h2, h1.symm, ?_⟩
  apply Classical.byContradiction
  intro hz
  rw [show ((dg N)[M]?.getD 0).toNat = 0 by omega, Nat.mul_zero] at h1
  omega
theorem log_top (M d low : Nat) (hd : 0 < d) (hl : low < 4294967296 ^ M) : Nat.log2 (low + 4294967296 ^ M * d) = 32 * M + Nat.log2 d := by
  have hp : 0 < 4294967296 ^ M := Nat.pow_pos (by omega)
  have hdn : d ≠ 0 := by omega
  have hN : low + 4294967296 ^ M * d ≠ 0 := by
    have : 4294967296 ^ M * 1 ≤ 4294967296 ^ M * d := Nat.mul_le_mul_left _ hd
    omega
  have a1 := Nat.log2_self_le hdn
  have a2 := Nat.lt_log2_self (n := d)
  apply Nat.le_antisymm
  · apply Nat.le_of_lt_succ
    rw [Nat.log2_lt hN, show (32 * M + Nat.log2 d).succ = 32 * M + (Nat.log2 d + 1) by omega, Nat.pow_add, ← pow_bits]
    have b1 : 4294967296 ^ M * (d + 1) ≤ 4294967296 ^ M * 2 ^ (Nat.log2 d + 1) := Nat.mul_le_mul_left _ a2
    rw [Nat.mul_add, Nat.mul_one] at b1
    omega
  · rw [Nat.le_log2 hN, Nat.pow_add, ← pow_bits]
    have b1 : 4294967296 ^ M * 2 ^ Nat.log2 d ≤ 4294967296 ^ M * d := Nat.mul_le_mul_left _ a1
    omega
theorem btl_top (N : Nat) (h : N < Lim) (M : Nat) (hM : mny N = M + 1) : 32 * M + btl ((dg N)[M]?.getD 0).toNat = btl N := by
  obtain ⟨low, h1, h2, h3⟩ := top_digit N h M hM
  have hN : N ≠ 0 := fun e => by rw [e, mny_zero] at hM; omega
  unfold btl
  rw [if_neg hN, if_neg (by omega)]
  have h4 := log_top M _ low h3 h1
  rw [← h2] at h4
  omega
theorem boxed (W : World) (L : List Value) (t : TypeId) : (W.alloc (.cells L.toArray t)).heap[W.heap.size]? = some (.cells L.toArray t (0, 0)) := heap_new _ _
set_option maxRecDepth 100000 in
set_option maxHeartbeats 1000000 in
theorem bits_in (N : Nat) (h : N < Lim) (W : World) : Calls Tryd.prog 18 #[.agg (natL N).toArray] W fun e w' => e = .returned (.int .i64 (btl N : Int)) ∧ Below W.heap.size W w' := by
  have HB := Hid.mk (boxed W (natL N) 27)
  have hmany := (cells_at HB.out (nat_many N)).1
  have hmle := mny_le N h
  by_cases h0 : mny N = 0
  · have HZ : Hid (btl N = 0) := by
      have := mny_lt N
      rw [h0] at this
      rw [Hid, show N = 0 by simpa using this]
      rfl
    rw [h0] at hmany
    go_enter Tryd.func18, Tryd.ntmps18
    go_wp2
    go_ret
    exact ⟨by rw [HZ.out]; rfl, (Below.refl _ _).alloc (Nat.le_refl _) _⟩
  · obtain ⟨M, hM⟩ : ∃ M, mny N = M + 1 := ⟨mny N - 1, by omega⟩
    have HT := Hid.mk (btl_top N h M hM)
    have hc := (cells_at HB.out (nat_at N M (by omega))).1
    rw [hM] at hmany
    have hx := bv_lt ((dg N)[M]?.getD 0)
    generalize (dg N)[M]?.getD 0 = x at hc HT hx
    have HL : Hid (∀ w : World, Calls Tryd.prog 41 #[.int .u32 (x.toNat : Int)] w fun e w' => e = .returned (.int .i64 (btl x.toNat : Int)) ∧ w' = w) := fun w => by
      have := Tryd.bits_Len32 (x.toNat : Int) w (by omega) (by omega)
      rwa [Int.toNat_natCast, bitLen_eq _ hx] at this
    have hbb : btl x.toNat ≤ 32 := by
      unfold btl
      split
      · omega
      · have := (Nat.log2_lt (n := x.toNat) (k := 32) (by assumption)).2 (by omega)
        omega
    have HB2 : Below W.heap.size W (W.alloc (.cells (natL N).toArray 27)) := (Below.refl _ _).alloc (Nat.le_refl _) _
    have e1 : ((M + 1 : Nat) : Int) - 1 = (M : Int) := by omega
    have e2 : (M : Int) + 1 - 1 = (M : Int) := by omega
    have e3 : ((M + 1 : Nat) : Int) = (M : Int) + 1 := by omega
    have hne : (((M + 1 : Nat) : Int) == 0) = false := by rw [beq_eq_false_iff_ne]; omega
    rw [e3] at hmany hne
    have hM128 : (M : Int) < 128 := by omega
    go_enter Tryd.func18, Tryd.ntmps18
    go_wp2_with fail
    go_quiet (first
      | (go_at_call 41; exact (HL.out _).mono fun _ _ hh => ⟨hh.1, _, hh.2⟩))
    go_wp2
    go_ret
    refine ⟨ret_int ?_, HB2.trans (below_le _ _ _)⟩
    have := HT.out
    omega
end Go.Proofs.YthjhemodmdficaaDoor
