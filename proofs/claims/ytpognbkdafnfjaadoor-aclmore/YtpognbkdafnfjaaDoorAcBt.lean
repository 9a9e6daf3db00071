/- Layer 13: the document's bit. -/
import Derived.Test.YtpognbkdafnfjaaDoorAcBy
namespace Go.Proofs.YtpognbkdafnfjaaDoor
set_option linter.unusedVariables false
set_option linter.unusedSimpArgs false
open Go.RowKit

theorem bit_of (x a b : Nat) (hb : b < 8) : x / 2 ^ a % 256 / 2 ^ b % 2 = (x.testBit (a + b)).toNat := by
  have h1 : (x / 2 ^ a % 2 ^ 8).testBit b = x.testBit (a + b) := by
    rw [Nat.testBit_mod_two_pow, Nat.testBit_div_two_pow]
    simp [hb, Nat.add_comm]
  rw [← h1, Nat.testBit_eq_decide_div_mod_eq]
  have := Nat.mod_two_eq_zero_or_one (x / 2 ^ a % 2 ^ 8 / 2 ^ b)
  rw [show (256 : Nat) = 2 ^ 8 from rfl]
  rcases this with h | h <;> simp [h]
theorem bw_at (x n i : Nat) (h : i < n) : (bw x n)[i]? = some (UInt8.ofNat (x / 2 ^ (8 * (n - 1 - i)) % 256)) := by
  unfold bw
  rw [List.getElem?_map, List.getElem?_range h]
  rfl
theorem byts_len (a : Ad) : (byts a).length * 8 = a.wd := by
  unfold byts Ad.wd
  split <;> simp [bw_len]
theorem byts_bit {a : Ad} (ha : a.ok) (hr : a.right) {k : Nat} (hk : k < a.wd) : ∃ c : UInt8, (byts a)[k / 8]? = some c ∧ c.toNat / 2 ^ (7 - k % 8) % 2 = (a.bt k).toNat := by
  have hm := Nat.mod_lt k (show 0 < 8 by decide)
  have hd := Nat.div_add_mod k 8
  have hv : ∀ x n i, x / 2 ^ (8 * (n - 1 - i)) % 256 / 2 ^ (7 - k % 8) % 2 = (x.testBit (8 * (n - 1 - i) + (7 - k % 8))).toNat := fun x n i => bit_of x _ _ (by omega)
  have hto : ∀ y, (UInt8.ofNat (y % 256)).toNat = y % 256 := fun y => by rw [UInt8.toNat_ofNat']; omega
  unfold byts Ad.bt
  unfold Ad.wd at hk ⊢
  cases hv6 : a.v6 with
  | true =>
    simp only [hv6, if_true] at hk ⊢
    by_cases h8 : k / 8 < 8
    · rw [List.getElem?_append_left (by rw [bw_len]; exact h8), bw_at _ _ _ h8]
      refine ⟨_, rfl, ?_⟩
      rw [hto, hv]
      unfold Ad.num
      rw [Nat.mul_comm a.hi, Nat.testBit_two_pow_mul_add _ ha.2, if_neg (by omega)]
      congr 2
      omega
    · rw [List.getElem?_append_right (by rw [bw_len]; omega), bw_len, bw_at _ _ _ (by omega)]
      refine ⟨_, rfl, ?_⟩
      rw [hto, hv]
      unfold Ad.num
      rw [Nat.mul_comm a.hi, Nat.testBit_two_pow_mul_add _ ha.2, if_pos (by omega)]
      congr 2
      omega
  | false =>
    simp only [hv6, Bool.false_eq_true, if_false] at hk ⊢
    rw [bw_at _ _ _ (by omega)]
    refine ⟨_, rfl, ?_⟩
    rw [hto, hv]
    unfold Ad.num
    rw [Nat.mul_comm a.hi, Nat.testBit_two_pow_mul_add _ ha.2, if_pos (by omega)]
    congr 2
    omega
set_option maxRecDepth 100000 in
set_option maxHeartbeats 4000000 in
theorem bit_in (W : World) (v : Bool) (h l k : Nat) (hh : h < 2 ^ 64) (hl : l < 2 ^ 64) (hr : Ad.right ⟨v, h, l⟩) (hk : k < Ad.wd ⟨v, h, l⟩) :
    Calls Tryd.prog 27 #[adV v h l, .int .i64 (k : Int)] W fun e w' => e = .returned (.int .u64 (((Ad.bt ⟨v, h, l⟩ k).toNat : Nat) : Int)) ∧ Below W.heap.size W w' := by
  have HB := Hid.mk (fun w => bytes_in w v h l)
  obtain ⟨c, hc1, hc2⟩ := byts_bit (a := ⟨v, h, l⟩) ⟨hh, hl⟩ hr hk
  have hlen := byts_len ⟨v, h, l⟩
  have hwd : Ad.wd ⟨v, h, l⟩ ≤ 128 := by unfold Ad.wd; split <;> omega
  generalize byts ⟨v, h, l⟩ = L at *
  generalize Ad.bt ⟨v, h, l⟩ k = b at *
  obtain ⟨K, hK⟩ : ∃ K, k / 8 = K := ⟨_, rfl⟩
  obtain ⟨M, hM⟩ : ∃ M, 7 - k % 8 = M := ⟨_, rfl⟩
  have hKi2 : (k : Int) / 8 = (K : Int) := by omega
  have hMi : (7 : Int) - (k : Int) % 8 = (M : Int) := by omega
  rw [hK] at hc1
  obtain ⟨hKl, hKc⟩ := List.getElem?_eq_some_iff.1 hc1
  obtain ⟨S, hS⟩ : ∃ S : ByteArray, (⟨L.toArray⟩ : ByteArray) = S := ⟨_, rfl⟩
  have hSz : K < S.size := by rw [← hS]; exact hKl
  have hget : ∀ h, S[K]'h = c := by
    intro h
    subst hS
    exact hKc
  rw [hS] at HB
  rw [hM] at hc2
  have hM7 : M ≤ 7 := by omega
  have hk128 : k < 128 := by omega
  have hSzi : (K : Int) < (S.size : Int) := by omega
  have HC2 : Hid (IntKind.u64.wrap (((c.toNat : Int) / 2 ^ M).tmod 2) = ((b.toNat : Nat) : Int)) := by
    rw [show (c.toNat : Int) / 2 ^ M = ((c.toNat / 2 ^ M : Nat) : Int) by rw [Int.natCast_ediv, Int.natCast_pow]; rfl, Int.tmod_eq_emod_of_nonneg (Int.natCast_nonneg _), IntKind.wrap_u64, ← hc2]
    unfold Hid
    omega
  clear hh hl hr hk hlen hwd hK hM hc1 hc2 hKl hKc hS
  go_enter Tryd.func27, Tryd.ntmps27
  go_wp2_with fail
  refine (HB.out _).mono ?_
  rintro e w1 ⟨rfl, hb1⟩
  go_wp2
  go_ret
  refine ⟨?_, Below.trans (by go_grown) (hb1.mono (by simp))⟩
  rw [← HC2.out]
  rfl
end Go.Proofs.YtpognbkdafnfjaaDoor
