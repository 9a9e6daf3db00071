/- appendTold: a byte as a text tells it, appended to a row of one's own. -/
import Derived.Test.YtpngjmeinlcggaaCut
namespace Go.Proofs.Ytpngjmeinlcggaa
set_option linter.unusedVariables false
open Go.RowKit

/-- how a text tells a byte. -/
def toldL (b : UInt8) : List UInt8 := if b.toNat = 46 ∨ b.toNat = 92 then [92, b] else if plainB b = true then [b] else [92, UInt8.ofNat (48 + b.toNat / 100), UInt8.ofNat (48 + b.toNat / 10 % 10), UInt8.ofNat (48 + b.toNat % 10)]
theorem toldL_len (b : UInt8) : (toldL b).length ≤ 4 ∧ 1 ≤ (toldL b).length := by
  unfold toldL; split
  · simp
  · split <;> simp

theorem cells_new (W : World) (cs : Array Value) (t : TypeId) (j : Nat) (u : Value) (h : cs.toList[j]? = some u) : (W.alloc (.cells cs t)).cell? ((⟨W.heap.size, 0, none⟩ : Addr).add j) = some u := by
  rw [add_at]
  have hh : (W.alloc (.cells cs t)).heap[W.heap.size]? = some (.cells cs t) := World.alloc_heap_new W _
  simp only [World.cell?, hh]
  simpa using h

/-- what an append of bytes owes: the longer row, and nothing else has turned. -/
def Appends (base : Nat) (W : World) (v : Value) (l m : List UInt8) (e : Ending) (w' : World) : Prop :=
  (∃ v', e = .returned v' ∧ w'.ownsRow base 5 1 v' (l ++ m).length (Lib.byteCells (l ++ m))) ∧ (∀ d, FrameD d W w') ∧ Below base W w'

theorem appends_of {base : Nat} {W w1 : World} {v v' : Value} {l m : List UInt8} {tmp : Obj} (hrow : W.ownsRow base 5 1 v l.length (Lib.byteCells l)) (hbase : base ≤ W.heap.size)
    (hown : w1.ownsRow base 5 1 v' (l.length + m.length) (Lib.byteCells l ++ Lib.byteCells m)) (hgrow : (W.alloc tmp).grownBy w1 v.ownBlock) : Appends base W v l m (.returned v') w1 := by
  refine ⟨⟨v', rfl, ?_⟩, fun d => (FrameD.alloc d W tmp).trans (FrameD.grown hgrow (row_alloc hrow tmp)), ((Below.refl base W).alloc hbase _).grown hgrow (by simp; omega) (own_base hrow)⟩
  rw [List.length_append, byteCells_snoc]; exact hown

set_option maxHeartbeats 1000000 in
theorem appendTold_in (base : Nat) (W : World) (v : Value) (l : List UInt8) (b : UInt8) (hl : l.length ≤ 4000000) (hrow : W.ownsRow base 5 1 v l.length (Lib.byteCells l)) (hbase : base ≤ W.heap.size) :
    Calls Try.prog 48 #[v, .int .u8 (b.toNat : Int)] W fun e w' => Appends base W v l (toldL b) e w' := by
  obtain ⟨i0, hi, hz0, hz1, hz2⟩ := info_parts info5
  have hb8 := b.toNat_lt
  by_cases h1 : b.toNat = 46 ∨ b.toNat = 92
  · have ht : toldL b = [92, b] := if_pos h1
    have hcs : Lib.byteCells [92, b] = [.int .u8 92, .int .u8 (b.toNat : Int)] := rfl
    have hfin : ∀ v' w1, w1.ownsRow base 5 1 v' (l.length + 2) (Lib.byteCells l ++ [.int .u8 92, .int .u8 (b.toNat : Int)]) → (W.alloc (.cells #[.int .u8 92, .int .u8 (b.toNat : Int)] 5)).grownBy w1 v.ownBlock → Appends base W v l (toldL b) (.returned v') w1 := by
      intro v' w1 h2 h3
      rw [ht]
      exact appends_of (m := [92, b]) hrow hbase (by rw [hcs]; exact h2) h3
    have HF := Hid.mk hfin
    have hrow' := row_alloc hrow (.cells #[.int .u8 92, .int .u8 (b.toNat : Int)] 5)
    have hnew : ∀ j u, ([.int .u8 92, .int .u8 (b.toNat : Int)] : List Value)[j]? = some u → (W.alloc (.cells #[.int .u8 92, .int .u8 (b.toNat : Int)] 5)).cell? ((⟨W.heap.size, 0, none⟩ : Addr).add j) = some u := fun j u h => cells_new W _ 5 j u h
    have HN := Hid.mk hnew
    clear hfin ht hcs hnew
    by_cases h46 : b.toNat = 46
    · have hb1 : ((b.toNat : Int) == 46) = true := by rw [h46]; rfl
      clear h1 h46
      go_enter Try.func48, Try.ntmps48
      go_wp2_with (at_builtin; refine wpList_append_own _ rfl _ _ 56 rfl base 5 i0 (.int .u8 0) 1 1 Try.underlying56 hi hz0 hz1 hz2 rfl (by decide) _ _ _ rfl hrow' ⟨W.heap.size, 0, none⟩ 2 2 _ rfl rfl HN.out (by simp [Value.oneCell']) (by unfold maxLen; omega) (by omega) (by simp; omega) ?_; intro v1 w1 hown1 hgrow1 _)
      go_ret
      exact HF.out _ _ hown1 hgrow1
    · have hb0 : ((b.toNat : Int) == 46) = false := by rw [beq_eq_false_iff_ne]; omega
      have hb1 : ((b.toNat : Int) == 92) = true := by rw [beq_iff_eq]; omega
      clear h1 h46
      go_enter Try.func48, Try.ntmps48
      go_wp2_with (at_builtin; refine wpList_append_own _ rfl _ _ 56 rfl base 5 i0 (.int .u8 0) 1 1 Try.underlying56 hi hz0 hz1 hz2 rfl (by decide) _ _ _ rfl hrow' ⟨W.heap.size, 0, none⟩ 2 2 _ rfl rfl HN.out (by simp [Value.oneCell']) (by unfold maxLen; omega) (by omega) (by simp; omega) ?_; intro v1 w1 hown1 hgrow1 _)
      go_ret
      exact HF.out _ _ hown1 hgrow1
  · have hb0 : ((b.toNat : Int) == 46) = false := by rw [beq_eq_false_iff_ne]; omega
    have hb1 : ((b.toNat : Int) == 92) = false := by rw [beq_eq_false_iff_ne]; omega
    by_cases h2 : plainB b = true
    · have ht : toldL b = [b] := by unfold toldL; rw [if_neg h1, if_pos h2]
      have hcs : Lib.byteCells [b] = [.int .u8 (b.toNat : Int)] := rfl
      have hfin : ∀ v' w1, w1.ownsRow base 5 1 v' (l.length + 1) (Lib.byteCells l ++ [.int .u8 (b.toNat : Int)]) → (W.alloc (.cells #[.int .u8 (b.toNat : Int)] 5)).grownBy w1 v.ownBlock → Appends base W v l (toldL b) (.returned v') w1 := by
        intro v' w1 h2 h3
        rw [ht]
        exact appends_of (m := [b]) hrow hbase (by rw [hcs]; exact h2) h3
      have HF := Hid.mk hfin
      have hrow' := row_alloc hrow (.cells #[.int .u8 (b.toNat : Int)] 5)
      clear hfin ht hcs h1
      go_enter Try.func48, Try.ntmps48
      go_wp2_with (first | (go_at_call 67; refine (plain_in b _).mono ?_; rintro e w' ⟨rfl, hww⟩; rw [hww]; clear hww; rw [h2]) | (at_builtin; refine wpList_append_own _ rfl _ _ 56 rfl base 5 i0 (.int .u8 0) 1 1 Try.underlying56 hi hz0 hz1 hz2 rfl (by decide) _ _ _ rfl hrow' ⟨W.heap.size, 0, none⟩ 1 1 _ rfl rfl (cell_one_new _ _ _) (by simp [Value.oneCell']) (by unfold maxLen; omega) (by omega) (by simp; omega) ?_; intro v1 w1 hown1 hgrow1 _))
      go_ret
      exact HF.out _ _ hown1 hgrow1
    · have h2' : plainB b = false := by simpa using h2
      have ht : toldL b = [92, UInt8.ofNat (48 + b.toNat / 100), UInt8.ofNat (48 + b.toNat / 10 % 10), UInt8.ofNat (48 + b.toNat % 10)] := by unfold toldL; rw [if_neg h1, if_neg h2]
      have hcs : Lib.byteCells (toldL b) = [.int .u8 92, .int .u8 (48 + (b.toNat : Int) / 100), .int .u8 (48 + (b.toNat : Int) / 10 % 10), .int .u8 (48 + (b.toNat : Int) % 10)] := by
        rw [ht]
        have e1 : (UInt8.ofNat (48 + b.toNat / 100)).toNat = 48 + b.toNat / 100 := by simp; omega
        have e2 : (UInt8.ofNat (48 + b.toNat / 10 % 10)).toNat = 48 + b.toNat / 10 % 10 := by simp; omega
        have e3 : (UInt8.ofNat (48 + b.toNat % 10)).toNat = 48 + b.toNat % 10 := by simp; omega
        have c1 : (((UInt8.ofNat (48 + b.toNat / 100)).toNat : Nat) : Int) = 48 + (b.toNat : Int) / 100 := by rw [e1]; omega
        have c2 : (((UInt8.ofNat (48 + b.toNat / 10 % 10)).toNat : Nat) : Int) = 48 + (b.toNat : Int) / 10 % 10 := by rw [e2]; omega
        have c3 : (((UInt8.ofNat (48 + b.toNat % 10)).toNat : Nat) : Int) = 48 + (b.toNat : Int) % 10 := by rw [e3]; omega
        show [Value.int .u8 ((92 : UInt8).toNat : Int), Value.int .u8 ((UInt8.ofNat (48 + b.toNat / 100)).toNat : Int), Value.int .u8 ((UInt8.ofNat (48 + b.toNat / 10 % 10)).toNat : Int), Value.int .u8 ((UInt8.ofNat (48 + b.toNat % 10)).toNat : Int)] = _
        rw [c1, c2, c3]; rfl
      have hln : (toldL b).length = 4 := by rw [ht]; rfl
      generalize hx1 : 48 + (b.toNat : Int) / 100 = x1 at hcs
      generalize hx2 : 48 + (b.toNat : Int) / 10 % 10 = x2 at hcs
      generalize hx3 : 48 + (b.toNat : Int) % 10 = x3 at hcs
      have hfin : ∀ v' w1, w1.ownsRow base 5 1 v' (l.length + 4) (Lib.byteCells l ++ [.int .u8 92, .int .u8 x1, .int .u8 x2, .int .u8 x3]) → (W.alloc (.cells #[.int .u8 92, .int .u8 x1, .int .u8 x2, .int .u8 x3] 5)).grownBy w1 v.ownBlock → Appends base W v l (toldL b) (.returned v') w1 := by
        intro v' w1 h2 h3
        exact appends_of (m := toldL b) hrow hbase (by rw [hcs, hln]; exact h2) h3
      have HF := Hid.mk hfin
      have hrow' := row_alloc hrow (.cells #[.int .u8 92, .int .u8 x1, .int .u8 x2, .int .u8 x3] 5)
      have HN := Hid.mk (fun j u h => cells_new W #[.int .u8 92, .int .u8 x1, .int .u8 x2, .int .u8 x3] 5 j u h)
      clear hfin ht hcs hln h1 h2
      go_enter Try.func48, Try.ntmps48
      go_wp2_with (first | (go_at_call 67; refine (plain_in b _).mono ?_; rintro e w' ⟨rfl, hww⟩; rw [hww]; clear hww; rw [h2']) | (at_builtin; refine wpList_append_own _ rfl _ _ 56 rfl base 5 i0 (.int .u8 0) 1 1 Try.underlying56 hi hz0 hz1 hz2 rfl (by decide) _ _ _ rfl hrow' ⟨W.heap.size, 0, none⟩ 4 4 _ rfl rfl HN.out (by simp [Value.oneCell']) (by unfold maxLen; omega) (by omega) (by simp; omega) ?_; intro v1 w1 hown1 hgrow1 _))
      go_ret
      exact HF.out _ _ hown1 hgrow1

end Go.Proofs.Ytpngjmeinlcggaa
