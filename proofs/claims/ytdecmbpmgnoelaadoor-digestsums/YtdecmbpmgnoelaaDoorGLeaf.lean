/- left, right, choice, majority, round1. -/
import Derived.Test.YtdecmbpmgnoelaaDoorGBase
namespace Go.Proofs.YtdecmbpmgnoelaaDoor
set_option linter.unusedVariables false
open Go.RowKit

theorem left_in (x : BitVec 32) (n : Nat) (h1 : 1 ≤ n) (h2 : n ≤ 31) (w : World) :
    Calls Tryd.prog 35 #[.int .u32 (x.toNat : Int), .int .i64 (n : Int)] w fun e w' => e = .returned (.int .u32 ((rol x n).toNat : Int)) ∧ ∃ j, w' = w.drewN j := by
  go_enter Tryd.func35, Tryd.ntmps35
  go_wp2
  go_quiet (fail)
  go_wp2
  go_ret
  exact ⟨ret_int (by rw [bm_shl x _ (by omega), bv_shr, bv_or]; rfl), _, rfl⟩

theorem right_in (x : BitVec 32) (n : Nat) (h1 : 1 ≤ n) (h2 : n ≤ 31) (w : World) :
    Calls Tryd.prog 38 #[.int .u32 (x.toNat : Int), .int .i64 (n : Int)] w fun e w' => e = .returned (.int .u32 ((ror x n).toNat : Int)) ∧ ∃ j, w' = w.drewN j := by
  go_enter Tryd.func38, Tryd.ntmps38
  go_wp2
  go_quiet (fail)
  go_wp2
  go_ret
  exact ⟨ret_int (by rw [bm_shl x _ (by omega), bv_shr, bv_or]; rfl), _, rfl⟩

theorem rleft_in (x : BitVec 32) (n : Nat) (h1 : 1 ≤ n) (h2 : n ≤ 31) (w : World) :
    Calls Tryd.prog 25 #[.int .u32 (x.toNat : Int), .int .i64 (n : Int)] w fun e w' => e = .returned (.int .u32 ((rol x n).toNat : Int)) ∧ ∃ j, w' = w.drewN j := by
  go_enter Tryd.func25, Tryd.ntmps25
  go_wp2
  go_quiet (fail)
  go_wp2
  go_ret
  exact ⟨ret_int (by rw [bm_shl x _ (by omega), bv_shr, bv_or]; rfl), _, rfl⟩

theorem rright_in (x : BitVec 32) (n : Nat) (h1 : 1 ≤ n) (h2 : n ≤ 31) (w : World) :
    Calls Tryd.prog 29 #[.int .u32 (x.toNat : Int), .int .i64 (n : Int)] w fun e w' => e = .returned (.int .u32 ((ror x n).toNat : Int)) ∧ ∃ j, w' = w.drewN j := by
  go_enter Tryd.func29, Tryd.ntmps29
  go_wp2
  go_quiet (fail)
  go_wp2
  go_ret
  exact ⟨ret_int (by rw [bm_shl x _ (by omega), bv_shr, bv_or]; rfl), _, rfl⟩

theorem choice_in (x y z : BitVec 32) (w : World) :
    Calls Tryd.prog 39 #[.int .u32 (x.toNat : Int), .int .u32 (y.toNat : Int), .int .u32 (z.toNat : Int)] w fun e w' => e = .returned (.int .u32 ((cho x y z).toNat : Int)) ∧ w' = w := by
  go_enter Tryd.func39, Tryd.ntmps39
  go_wp2
  go_ret
  exact ⟨ret_int (by rw [u32max, bv_not, bv_and, bv_and, bv_or]; rfl), rfl⟩
theorem majority_in (x y z : BitVec 32) (w : World) :
    Calls Tryd.prog 40 #[.int .u32 (x.toNat : Int), .int .u32 (y.toNat : Int), .int .u32 (z.toNat : Int)] w fun e w' => e = .returned (.int .u32 ((maj x y z).toNat : Int)) ∧ w' = w := by
  go_enter Tryd.func40, Tryd.ntmps40
  go_wp2
  go_ret
  exact ⟨ret_int (by rw [bv_and, bv_and, bv_and, bv_or, bv_or]; rfl), rfl⟩

/-- what SHA-1 adds in a round. -/
def f1 (i : Nat) (b c d : BitVec 32) : BitVec 32 := if i < 20 then cho b c d else if i < 40 then b ^^^ c ^^^ d else if i < 60 then maj b c d else b ^^^ c ^^^ d
def k1 (i : Nat) : BitVec 32 := if i < 20 then 0x5a827999#32 else if i < 40 then 0x6ed9eba1#32 else if i < 60 then 0x8f1bbcdc#32 else 0xca62c1d6#32
set_option maxRecDepth 100000 in
theorem round1_in (i : Nat) (hi : i < 80) (b c d : BitVec 32) (w : World) :
    Calls Tryd.prog 34 #[.int .i64 (i : Int), .int .u32 (b.toNat : Int), .int .u32 (c.toNat : Int), .int .u32 (d.toNat : Int)] w fun e w' => e = .returned (.tuple #[.int .u32 ((f1 i b c d).toNat : Int), .int .u32 ((k1 i).toNat : Int)]) ∧ w' = w := by
  unfold f1 k1
  by_cases h1 : i < 20
  · have hd : (i : Int) / 20 = 0 := by omega
    have hd' : (i : Int).tdiv 20 = 0 := by rw [Int.tdiv_eq_ediv_of_nonneg (by omega)]; exact hd
    rw [if_pos h1, if_pos h1]
    go_enter Tryd.func34, Tryd.ntmps34
    go_wp2_with fail
    refine (choice_in _ _ _ _).mono ?_
    rintro e w1 ⟨rfl, rfl⟩
    go_wp2
    go_ret2
    exact ⟨rfl, rfl⟩
  · by_cases h2 : i < 40
    · have hd : (i : Int) / 20 = 1 := by omega
      have hd' : (i : Int).tdiv 20 = 1 := by rw [Int.tdiv_eq_ediv_of_nonneg (by omega)]; exact hd
      rw [if_neg h1, if_neg h1, if_pos h2, if_pos h2]
      go_enter Tryd.func34, Tryd.ntmps34
      go_wp2
      go_ret2
      exact ⟨by rw [bv_xor, bv_xor]; rfl, rfl⟩
    · by_cases h3 : i < 60
      · have hd : (i : Int) / 20 = 2 := by omega
        have hd' : (i : Int).tdiv 20 = 2 := by rw [Int.tdiv_eq_ediv_of_nonneg (by omega)]; exact hd
        rw [if_neg h1, if_neg h1, if_neg h2, if_neg h2, if_pos h3, if_pos h3]
        go_enter Tryd.func34, Tryd.ntmps34
        go_wp2_with fail
        refine (majority_in _ _ _ _).mono ?_
        rintro e w1 ⟨rfl, rfl⟩
        go_wp2
        go_ret2
        exact ⟨rfl, rfl⟩
      · have hd : (i : Int) / 20 = 3 := by omega
        have hd' : (i : Int).tdiv 20 = 3 := by rw [Int.tdiv_eq_ediv_of_nonneg (by omega)]; exact hd
        rw [if_neg h1, if_neg h1, if_neg h2, if_neg h2, if_neg h3, if_neg h3]
        go_enter Tryd.func34, Tryd.ntmps34
        go_wp2
        go_ret2
        exact ⟨by rw [bv_xor, bv_xor]; rfl, rfl⟩

/-- how many blocks a text makes. -/
def nb (n : Nat) : Nat := (n + 8) / 64 + 1
theorem blocks_in (n : Nat) (hn : n ≤ 140737488355328) (w : World) :
    Calls Tryd.prog 19 #[.int .i64 (n : Int)] w fun e w' => e = .returned (.int .i64 ((nb n : Nat) : Int)) ∧ w' = w := by
  have hd : ((n : Int) + 8).tdiv 64 = ((n : Int) + 8) / 64 := Int.tdiv_eq_ediv_of_nonneg (by omega)
  go_enter Tryd.func19, Tryd.ntmps19
  go_wp2
  go_ret
  exact ⟨ret_int (by unfold nb; first | omega | (simp; omega)), rfl⟩
end Go.Proofs.YtdecmbpmgnoelaaDoor
