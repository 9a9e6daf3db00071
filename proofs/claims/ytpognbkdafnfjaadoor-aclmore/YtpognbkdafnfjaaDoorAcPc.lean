/- Layer 13: piece. -/
import Derived.Test.YtpognbkdafnfjaaDoorAcW
namespace Go.Proofs.YtpognbkdafnfjaaDoor
set_option linter.unusedVariables false
open Go.RowKit

theorem bits_or_u64 (a b : Nat) (ha : a < 2 ^ 64) (hb : b < 2 ^ 64) : bits BinOp.or IntKind.u64 (a : Int) (b : Int) = ((a ||| b : Nat) : Int) := by
  have hx : a ||| b < 2 ^ 64 := Nat.or_lt_two_pow ha hb
  have h1 : (BitVec.ofInt 64 (a : Int)).toNat = a := by
    rw [BitVec.ofInt_natCast, BitVec.toNat_ofNat]; exact Nat.mod_eq_of_lt ha
  have h2 : (BitVec.ofInt 64 (b : Int)).toNat = b := by
    rw [BitVec.ofInt_natCast, BitVec.toNat_ofNat]; exact Nat.mod_eq_of_lt hb
  show IntKind.u64.wrap ((BitVec.ofInt 64 (a : Int) ||| BitVec.ofInt 64 (b : Int)).toNat : Int) = _
  rw [BitVec.toNat_or, h1, h2, wrapU hx]
theorem bits_and_u64 (a b : Nat) (ha : a < 2 ^ 64) (hb : b < 2 ^ 64) : bits BinOp.and IntKind.u64 (a : Int) (b : Int) = ((a &&& b : Nat) : Int) := by
  have hx : a &&& b < 2 ^ 64 := Nat.and_lt_two_pow _ hb
  have h1 : (BitVec.ofInt 64 (a : Int)).toNat = a := by
    rw [BitVec.ofInt_natCast, BitVec.toNat_ofNat]; exact Nat.mod_eq_of_lt ha
  have h2 : (BitVec.ofInt 64 (b : Int)).toNat = b := by
    rw [BitVec.ofInt_natCast, BitVec.toNat_ofNat]; exact Nat.mod_eq_of_lt hb
  show IntKind.u64.wrap ((BitVec.ofInt 64 (a : Int) &&& BitVec.ofInt 64 (b : Int)).toNat : Int) = _
  rw [BitVec.toNat_and, h1, h2, wrapU hx]
theorem below_dn {n : Nat} (W : World) (j : Nat) : Below n W (W.drewN j) := ⟨rfl, rfl, rfl, Nat.le_refl _, fun _ _ => rfl⟩
theorem mask_int (x k m : Nat) (hx : x < 2 ^ 64) (hm : m ≤ 16) : bits BinOp.and IntKind.u64 ((x : Int) / 2 ^ k) (IntKind.u64.wrap (IntKind.u64.wrap (2 ^ m) - 1)) = ((x / 2 ^ k % 2 ^ m : Nat) : Int) := by
  have hp := Nat.two_pow_pos m
  have hl : 2 ^ m ≤ 2 ^ 16 := Nat.pow_le_pow_right (by decide) hm
  have e1 : IntKind.u64.wrap ((2 : Int) ^ m) = ((2 ^ m : Nat) : Int) := by
    rw [← wrapU (x := 2 ^ m) (by omega), Int.natCast_pow]; rfl
  have e2 : IntKind.u64.wrap (((2 ^ m : Nat) : Int) - 1) = ((2 ^ m - 1 : Nat) : Int) := by
    rw [show (((2 ^ m : Nat) : Int) - 1) = ((2 ^ m - 1 : Nat) : Int) by omega, wrapU (by omega)]
  have e3 : (x : Int) / 2 ^ k = ((x / 2 ^ k : Nat) : Int) := by
    rw [Int.natCast_ediv, Int.natCast_pow]; rfl
  rw [e1, e2, e3, bits_and_u64 _ _ (Nat.lt_of_le_of_lt (Nat.div_le_self _ _) hx) (by omega), Nat.and_two_pow_sub_one_eq_mod]

set_option maxRecDepth 100000 in
set_option maxHeartbeats 2000000 in
theorem piece_in (w : World) (v : Bool) (h l at' many : Nat) (hh : h < 2 ^ 64) (hl : l < 2 ^ 64) (hn : at' + many ≤ Ad.wd ⟨v, h, l⟩) (hm : many ≤ 16) :
    Calls Tryd.prog 30 #[adV v h l, .int .i64 (at' : Int), .int .i64 (many : Int)] w fun e w' => e = .returned (.int .u64 ((pcs ⟨v, h, l⟩ at' many : Nat) : Int)) ∧ Below w.heap.size w w' := by
  have hwd : Ad.wd ⟨v, h, l⟩ ≤ 128 := by unfold Ad.wd; split <;> omega
  have HW := Hid.mk (fun w => width_in w v h l)
  unfold pcs
  simp only
  generalize Ad.wd ⟨v, h, l⟩ = W at *
  obtain ⟨R, hR⟩ : ∃ R, W - at' - many = R := ⟨_, rfl⟩
  obtain ⟨X, hX⟩ : ∃ X, W - at' = X := ⟨_, rfl⟩
  rw [hR]
  have hw1 : IntKind.i64.wrap ((W : Int) - at') = X := by rw [wrapI (by omega) (by omega)]; omega
  have hw2 : IntKind.i64.wrap ((X : Int) - many) = R := by rw [wrapI (by omega) (by omega)]; omega
  have hR8 : R ≤ 128 := by omega
  obtain ⟨RR, hRR⟩ : ∃ RR : Nat, (if 64 ≤ R then h / 2 ^ (R - 64) % 2 ^ many else l / 2 ^ R % 2 ^ many) = RR := ⟨_, rfl⟩
  rw [hRR]
  have HQ : Hid ((64 ≤ R → bits BinOp.and IntKind.u64 ((h : Int) / 2 ^ (R - 64)) (IntKind.u64.wrap (IntKind.u64.wrap (2 ^ many) - 1)) = (RR : Int)) ∧ (¬ 64 ≤ R → bits BinOp.and IntKind.u64 ((l : Int) / 2 ^ R) (IntKind.u64.wrap (IntKind.u64.wrap (2 ^ many) - 1)) = (RR : Int))) :=
    ⟨fun h6 => by rw [← hRR, if_pos h6, mask_int _ _ _ hh hm], fun h6 => by rw [← hRR, if_neg h6, mask_int _ _ _ hl hm]⟩
  clear hRR
  have HM := Hid.mk hm
  clear hn hwd hR hX hm
  go_enter Tryd.func30, Tryd.ntmps30
  go_upto_region 1 with fail
  go_region_held3 (fun u => u.cell? ⟨w.heap.size, 0, none⟩ = some (.bool v) ∧ u.cell? ⟨w.heap.size, 1, none⟩ = some (.int .u64 (h : Int)) ∧ u.cell? ⟨w.heap.size, 2, none⟩ = some (.int .u64 (l : Int))) (first | assumption | go_keep)
    ((go_at_call 33; refine (HW.out _).mono ?_; rintro e w' ⟨rfl, rfl⟩))
  have hm := HM.out
  by_cases h64 : 64 ≤ R
  · obtain ⟨D, hDn⟩ : ∃ D, R - 64 = D := ⟨_, rfl⟩
    have hD : ((R : Int) - 64) = (D : Int) := by omega
    go_wp2
    go_quiet (fail)
    go_wp2
    go_ret
    have hq := HQ.out.1 h64
    rw [hDn] at hq
    exact ⟨by rw [← hq]; rfl, Below.trans (by go_grown) (below_dn _ _)⟩
  · go_wp2
    go_quiet (fail)
    go_wp2
    go_ret
    have hq := HQ.out.2 h64
    exact ⟨by rw [← hq]; rfl, Below.trans (by go_grown) (below_dn _ _)⟩
end Go.Proofs.YtpognbkdafnfjaaDoor
