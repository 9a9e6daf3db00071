/- A string of TXT, how it is told. -/
import Derived.Test.YtkohkkakbcjgcabGreatDoorDTxtPass
namespace Go.Proofs.YtkohkkakbcjgcabGreatDoor
set_option linter.unusedVariables false
open Go.RowKit

/-- how a string tells a byte. -/
def strL (b : UInt8) : List UInt8 := if b.toNat = 34 ∨ b.toNat = 92 then [92, b] else if 32 ≤ b.toNat ∧ b.toNat ≤ 126 then [b] else [92, UInt8.ofNat (48 + b.toNat / 100), UInt8.ofNat (48 + b.toNat / 10 % 10), UInt8.ofNat (48 + b.toNat % 10)]
theorem strL_len (b : UInt8) : (strL b).length ≤ 4 ∧ 1 ≤ (strL b).length := by
  unfold strL; split
  · simp
  · split <;> simp

/-- what an append of bytes owes: the longer row, and nothing else has turned. -/
def AppB (base : Nat) (W : World) (l m : List UInt8) (e : Ending) (w' : World) : Prop :=
  (∃ v', e = .returned v' ∧ w'.ownsRow base 5 1 v' (l ++ m).length (Lib.byteCells (l ++ m))) ∧ Below base W w'
theorem appB_of {base : Nat} {W w1 : World} {v v' : Value} {l m : List UInt8} {tmp : Obj} (hrow : W.ownsRow base 5 1 v l.length (Lib.byteCells l)) (hbase : base ≤ W.heap.size)
    (hown : w1.ownsRow base 5 1 v' (l.length + m.length) (Lib.byteCells l ++ Lib.byteCells m)) (hgrow : (W.alloc tmp).grownBy w1 v.ownBlock) : AppB base W l m (.returned v') w1 := by
  refine ⟨⟨v', rfl, ?_⟩, ((Below.refl base W).alloc hbase _).grown hgrow (by simp; omega) (own_base hrow)⟩
  rw [List.length_append, byteCells_snoc]; exact hown

set_option maxRecDepth 100000 in
set_option maxHeartbeats 1000000 in
theorem strTold_in (base : Nat) (W : World) (v : Value) (l : List UInt8) (b : UInt8) (hl : l.length ≤ 4000000) (hrow : W.ownsRow base 5 1 v l.length (Lib.byteCells l)) (hbase : base ≤ W.heap.size) :
    Calls Tryz.prog 164 #[v, .int .u8 (b.toNat : Int)] W fun e w' => AppB base W l (strL b) e w' := by
  obtain ⟨i0, hi, hz0, hz1, hz2⟩ := info_parts info5
  have hb8 := b.toNat_lt
  by_cases h1 : b.toNat = 34 ∨ b.toNat = 92
  · have ht : strL b = [92, b] := if_pos h1
    have hcs : Lib.byteCells [92, b] = [.int .u8 92, .int .u8 (b.toNat : Int)] := rfl
    have hfin : ∀ v' w1, w1.ownsRow base 5 1 v' (l.length + 2) (Lib.byteCells l ++ [.int .u8 92, .int .u8 (b.toNat : Int)]) → (W.alloc (.cells #[.int .u8 92, .int .u8 (b.toNat : Int)] 5)).grownBy w1 v.ownBlock → AppB base W l (strL b) (.returned v') w1 := by
      intro v' w1 h2 h3
      rw [ht]
      exact appB_of (m := [92, b]) hrow hbase (by rw [hcs]; exact h2) h3
    have HF := Hid.mk hfin
    have hrow' := row_alloc hrow (.cells #[.int .u8 92, .int .u8 (b.toNat : Int)] 5)
    have hnew : ∀ j u, ([.int .u8 92, .int .u8 (b.toNat : Int)] : List Value)[j]? = some u → (W.alloc (.cells #[.int .u8 92, .int .u8 (b.toNat : Int)] 5)).cell? ((⟨W.heap.size, 0, none⟩ : Addr).add j) = some u := fun j u h => cells_new1 W _ 5 j u h
    have HN := Hid.mk hnew
    clear hfin ht hcs hnew
    by_cases h34 : b.toNat = 34
    · have hb1 : ((b.toNat : Int) == 34) = true := by rw [h34]; rfl
      clear h1 h34
      go_enter Tryz.func164, Tryz.ntmps164
      go_wp2_with (at_builtin; refine wpList_append_own _ rfl _ _ 100 rfl base 5 i0 (.int .u8 0) 1 1 Tryz.underlying100 hi hz0 hz1 hz2 rfl (by decide) _ _ _ rfl hrow' ⟨W.heap.size, 0, none⟩ 2 2 _ rfl rfl HN.out (by simp [Value.oneCell']) (by unfold maxLen; omega) (by omega) (by simp; omega) ?_; intro v1 w1 hown1 hgrow1 _)
      go_ret
      exact HF.out _ _ hown1 hgrow1
    · have hb0 : ((b.toNat : Int) == 34) = false := by rw [beq_eq_false_iff_ne]; omega
      have hb1 : ((b.toNat : Int) == 92) = true := by rw [beq_iff_eq]; omega
      clear h1 h34
      go_enter Tryz.func164, Tryz.ntmps164
      go_wp2_with (at_builtin; refine wpList_append_own _ rfl _ _ 100 rfl base 5 i0 (.int .u8 0) 1 1 Tryz.underlying100 hi hz0 hz1 hz2 rfl (by decide) _ _ _ rfl hrow' ⟨W.heap.size, 0, none⟩ 2 2 _ rfl rfl HN.out (by simp [Value.oneCell']) (by unfold maxLen; omega) (by omega) (by simp; omega) ?_; intro v1 w1 hown1 hgrow1 _)
      go_ret
      exact HF.out _ _ hown1 hgrow1
  · have hb0 : ((b.toNat : Int) == 34) = false := by rw [beq_eq_false_iff_ne]; omega
    have hb1 : ((b.toNat : Int) == 92) = false := by rw [beq_eq_false_iff_ne]; omega
    by_cases h2 : 32 ≤ b.toNat ∧ b.toNat ≤ 126
    · have ht : strL b = [b] := by unfold strL; rw [if_neg h1, if_pos h2]
      have hp1 : (32 : Int) ≤ (b.toNat : Int) := by omega
      have hp2 : (b.toNat : Int) ≤ 126 := by omega
      have hcs : Lib.byteCells [b] = [.int .u8 (b.toNat : Int)] := rfl
      have hfin : ∀ v' w1, w1.ownsRow base 5 1 v' (l.length + 1) (Lib.byteCells l ++ [.int .u8 (b.toNat : Int)]) → (W.alloc (.cells #[.int .u8 (b.toNat : Int)] 5)).grownBy w1 v.ownBlock → AppB base W l (strL b) (.returned v') w1 := by
        intro v' w1 h2 h3
        rw [ht]
        exact appB_of (m := [b]) hrow hbase (by rw [hcs]; exact h2) h3
      have HF := Hid.mk hfin
      have hrow' := row_alloc hrow (.cells #[.int .u8 (b.toNat : Int)] 5)
      clear hfin ht hcs h1
      go_enter Tryz.func164, Tryz.ntmps164
      go_wp2_with ((at_builtin; refine wpList_append_own _ rfl _ _ 100 rfl base 5 i0 (.int .u8 0) 1 1 Tryz.underlying100 hi hz0 hz1 hz2 rfl (by decide) _ _ _ rfl hrow' ⟨W.heap.size, 0, none⟩ 1 1 _ rfl rfl (cell_one_new _ _ _) (by simp [Value.oneCell']) (by unfold maxLen; omega) (by omega) (by simp; omega) ?_; intro v1 w1 hown1 hgrow1 _))
      go_ret
      exact HF.out _ _ hown1 hgrow1
    · have ht : strL b = [92, UInt8.ofNat (48 + b.toNat / 100), UInt8.ofNat (48 + b.toNat / 10 % 10), UInt8.ofNat (48 + b.toNat % 10)] := by unfold strL; rw [if_neg h1, if_neg h2]
      have hcs : Lib.byteCells (strL b) = [.int .u8 92, .int .u8 (48 + (b.toNat : Int) / 100), .int .u8 (48 + (b.toNat : Int) / 10 % 10), .int .u8 (48 + (b.toNat : Int) % 10)] := by
        rw [ht]
        have e1 : (UInt8.ofNat (48 + b.toNat / 100)).toNat = 48 + b.toNat / 100 := by simp; omega
        have e2 : (UInt8.ofNat (48 + b.toNat / 10 % 10)).toNat = 48 + b.toNat / 10 % 10 := by simp; omega
        have e3 : (UInt8.ofNat (48 + b.toNat % 10)).toNat = 48 + b.toNat % 10 := by simp; omega
        have c1 : (((UInt8.ofNat (48 + b.toNat / 100)).toNat : Nat) : Int) = 48 + (b.toNat : Int) / 100 := by rw [e1]; omega
        have c2 : (((UInt8.ofNat (48 + b.toNat / 10 % 10)).toNat : Nat) : Int) = 48 + (b.toNat : Int) / 10 % 10 := by rw [e2]; omega
        have c3 : (((UInt8.ofNat (48 + b.toNat % 10)).toNat : Nat) : Int) = 48 + (b.toNat : Int) % 10 := by rw [e3]; omega
        show [Value.int .u8 ((92 : UInt8).toNat : Int), Value.int .u8 ((UInt8.ofNat (48 + b.toNat / 100)).toNat : Int), Value.int .u8 ((UInt8.ofNat (48 + b.toNat / 10 % 10)).toNat : Int), Value.int .u8 ((UInt8.ofNat (48 + b.toNat % 10)).toNat : Int)] = _
        rw [c1, c2, c3]; rfl
      have hln : (strL b).length = 4 := by rw [ht]; rfl
      generalize hx1 : 48 + (b.toNat : Int) / 100 = x1 at hcs
      generalize hx2 : 48 + (b.toNat : Int) / 10 % 10 = x2 at hcs
      generalize hx3 : 48 + (b.toNat : Int) % 10 = x3 at hcs
      have hfin : ∀ v' w1, w1.ownsRow base 5 1 v' (l.length + 4) (Lib.byteCells l ++ [.int .u8 92, .int .u8 x1, .int .u8 x2, .int .u8 x3]) → (W.alloc (.cells #[.int .u8 92, .int .u8 x1, .int .u8 x2, .int .u8 x3] 5)).grownBy w1 v.ownBlock → AppB base W l (strL b) (.returned v') w1 := by
        intro v' w1 h2 h3
        exact appB_of (m := strL b) hrow hbase (by rw [hcs, hln]; exact h2) h3
      have HF := Hid.mk hfin
      have hrow' := row_alloc hrow (.cells #[.int .u8 92, .int .u8 x1, .int .u8 x2, .int .u8 x3] 5)
      have HN := Hid.mk (fun j u h => cells_new1 W #[.int .u8 92, .int .u8 x1, .int .u8 x2, .int .u8 x3] 5 j u h)
      have hnp : b.toNat < 32 ∨ (32 ≤ b.toNat ∧ 126 < b.toNat) := by omega
      clear hfin ht hcs hln h1 h2
      rcases hnp with hq | ⟨hq1, hq2⟩
      · have hp1 : ¬ (32 : Int) ≤ (b.toNat : Int) := by omega
        clear hq
        go_enter Tryz.func164, Tryz.ntmps164
        go_wp2_with (at_builtin; refine wpList_append_own _ rfl _ _ 100 rfl base 5 i0 (.int .u8 0) 1 1 Tryz.underlying100 hi hz0 hz1 hz2 rfl (by decide) _ _ _ rfl hrow' ⟨W.heap.size, 0, none⟩ 4 4 _ rfl rfl HN.out (by simp [Value.oneCell']) (by unfold maxLen; omega) (by omega) (by simp; omega) ?_; intro v1 w1 hown1 hgrow1 _)
        go_ret
        exact HF.out _ _ hown1 hgrow1
      · have hp1 : (32 : Int) ≤ (b.toNat : Int) := by omega
        have hp2 : ¬ (b.toNat : Int) ≤ 126 := by omega
        clear hq1 hq2
        go_enter Tryz.func164, Tryz.ntmps164
        go_wp2_with (at_builtin; refine wpList_append_own _ rfl _ _ 100 rfl base 5 i0 (.int .u8 0) 1 1 Tryz.underlying100 hi hz0 hz1 hz2 rfl (by decide) _ _ _ rfl hrow' ⟨W.heap.size, 0, none⟩ 4 4 _ rfl rfl HN.out (by simp [Value.oneCell']) (by unfold maxLen; omega) (by omega) (by simp; omega) ?_; intro v1 w1 hown1 hgrow1 _)
        go_ret
        exact HF.out _ _ hown1 hgrow1
end Go.Proofs.YtkohkkakbcjgcabGreatDoor
