/- Base32: the document's answer is the program's. -/
import Derived.Test.YtdecmbpmgnoelaaDoorGRB32
namespace Go.Proofs.YtdecmbpmgnoelaaDoor
set_option linter.unusedVariables false
open Go.RowKit
theorem bitsN_add (l : List UInt8) (a : Nat) : ∀ m k, bitsN l a (m + k) = bitsN l a m * 2 ^ k + bitsN l (a + m) k
  | m, 0 => by simp [bitsN]
  | m, k + 1 => by
    rw [← Nat.add_assoc, bitsN, bitsN_add l a m k, bitsN, Nat.pow_succ, Nat.add_assoc a m k, ← Nat.mul_assoc, Nat.mul_comm _ 2, Nat.mul_add]
    omega
theorem byte_bits (c : Nat) (h : c < 256) : 128 * (c / 128 % 2) + 64 * (c / 64 % 2) + 32 * (c / 32 % 2) + 16 * (c / 16 % 2) + 8 * (c / 8 % 2) + 4 * (c / 4 % 2) + 2 * (c / 2 % 2) + c / 1 % 2 = c := by omega
theorem bits_byte (l : List UInt8) (k : Nat) (h : k < l.length) : bitsN l (8 * k) 8 = (l[k]?.getD 0).toNat := by
  have hb := byte_bits _ (l[k]?.getD 0).toNat_lt
  have e : ∀ i, i < 8 → bitA l (8 * k + i) = (l[k]?.getD 0).toNat / 2 ^ (7 - i) % 2 := fun i hi => by
    unfold bitA
    rw [if_pos (by omega), show (8 * k + i) / 8 = k by omega, show (8 * k + i) % 8 = i by omega]
  simp only [bitsN, e 0 (by omega), e 1 (by omega), e 2 (by omega), e 3 (by omega), e 4 (by omega), e 5 (by omega), e 6 (by omega), e 7 (by omega)]
  simp only [Nat.reduceSub, Nat.reducePow]
  omega
theorem bits_all (l : List UInt8) : ∀ k, k ≤ l.length → bitsN l 0 (8 * k) = num 256 (l.take k)
  | 0, _ => rfl
  | k + 1, hk => by
    rw [show 8 * (k + 1) = 8 * k + 8 by omega, bitsN_add, bits_all l k (by omega), Nat.zero_add, bits_byte l k (by omega), List.take_add_one, List.getElem?_eq_getElem (by omega : k < l.length)]
    show _ = num 256 (l.take k ++ [l[k]])
    rw [num_snoc]
    rfl
theorem bits_zero (l : List UInt8) (a : Nat) (ha : 8 * l.length ≤ a) : ∀ m, bitsN l a m = 0
  | 0 => rfl
  | m + 1 => by rw [bitsN, bits_zero l a ha m, bitA, if_neg (by omega)]
/-- the groups of five. -/
def g32 (l : List UInt8) (k : Nat) : UInt8 := UInt8.ofNat (bitsN l (5 * k) 5)
theorem g32_nat (l : List UInt8) (k : Nat) : (g32 l k).toNat = bitsN l (5 * k) 5 := by
  have := bitsN_lt l (5 * k) 5
  rw [g32, UInt8.toNat_ofNat']
  omega
theorem g32_num (l : List UInt8) : ∀ k, num 32 ((List.range k).map (g32 l)) = bitsN l 0 (5 * k)
  | 0 => rfl
  | k + 1 => by
    rw [List.range_succ, List.map_append, List.map_singleton, num_snoc, g32_num l k, g32_nat, show 5 * (k + 1) = 5 * k + 5 by omega, bitsN_add, Nat.zero_add]
/-- Base32 tells what the document's does. -/
theorem spl_b32 (l : List UInt8) : spl 5 l = (List.range (nl l.length)).map (l32 l) := by
  obtain ⟨p, hp, hv, hl, hd⟩ := grp_ok 5 (.inr rfl) l
  have hn : nl l.length * 5 = 8 * l.length + p := by unfold nl; omega
  have e : grp 5 l = (List.range (nl l.length)).map (g32 l) := by
    refine num_inj (2 ^ 5) (nl l.length) _ _ (by omega) (by simp) hd (fun x hx => ?_) ?_
    · obtain ⟨k, _, rfl⟩ := List.mem_map.1 hx
      rw [g32_nat]
      exact bitsN_lt l (5 * k) 5
    · rw [hv]
      have h1 := g32_num l (nl l.length)
      rw [show 5 * nl l.length = 8 * l.length + p by omega, bitsN_add, bits_all l l.length (Nat.le_refl _), List.take_length, Nat.zero_add, bits_zero l (8 * l.length) (Nat.le_refl _) p, Nat.add_zero] at h1
      exact h1.symm
  rw [spl, e, List.map_map]
  rfl
end Go.Proofs.YtdecmbpmgnoelaaDoor
