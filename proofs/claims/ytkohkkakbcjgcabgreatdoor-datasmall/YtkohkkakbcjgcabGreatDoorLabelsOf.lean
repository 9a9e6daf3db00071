/- labelsOf: the labels of a name, in a new array. -/
import Derived.Maps.AppendAt
import Derived.Lib.Buffer
import Derived.Test.YtkohkkakbcjgcabGreatDoorRight
namespace Go.Proofs.YtkohkkakbcjgcabGreatDoor
set_option linter.unusedVariables false
open Go.RowKit Go.Shelf
attribute [local go_sem] Oper.semAt_some

theorem info9 : (Tryz.prog.info? 9).map (fun i => (i.zero, i.size, i.bytes)) = some (some (.string ⟨#[]⟩), 1, 16) := by kernel_rfl

def strV (l : List UInt8) : Value := .string ⟨l.toArray⟩
def strsV (ls : List (List UInt8)) : List Value := ls.map strV
theorem strV_of (s : ByteArray) : strV s.data.toList = .string s := rfl

theorem add_at' (b j : Nat) : (⟨b, 0, none⟩ : Addr).add j = ⟨b, j, none⟩ := by
  unfold Addr.add
  by_cases h : j = 0
  · subst h; rfl
  · simp [h]

/-- v is a slice of the strings ls, its array below n₀. -/
def Strs (n₀ : Nat) (W : World) (v : Value) (ls : List (List UInt8)) : Prop :=
  (v = .slice none 0 0 ∧ ls = []) ∨ ∃ g cap, v = .slice (some ⟨g, 0, none⟩) ls.length cap ∧ g < n₀ ∧ ∀ j (h : j < ls.length), W.cell? ⟨g, j, none⟩ = some (strV ls[j])
theorem Strs.below {n₀ : Nat} {W W' : World} {v : Value} {ls : List (List UInt8)} (h : Strs n₀ W v ls) (hb : Below n₀ W W') : Strs n₀ W' v ls := by
  rcases h with h | ⟨g, cap, hv, hg, hc⟩
  · exact .inl h
  · exact .inr ⟨g, cap, hv, hg, fun j hj => (hb.cell (p := ⟨g, j, none⟩) hg).trans (hc j hj)⟩
theorem Strs.mono {n₀ n₁ : Nat} {W : World} {v : Value} {ls : List (List UInt8)} (h : Strs n₀ W v ls) (hb : n₀ ≤ n₁) : Strs n₁ W v ls := by
  rcases h with h | ⟨g, cap, hv, hg, hc⟩
  · exact .inl h
  · exact .inr ⟨g, cap, hv, by omega, hc⟩
theorem strs_of_row {n : Nat} {W : World} {e : TypeId} {v : Value} {ls : List (List UInt8)} (h : W.ownsRow n e 1 v ls.length (strsV ls)) : Strs W.heap.size W v ls := by
  rcases h.2 with ⟨hv, hl⟩ | ⟨g, cap, cur, hv, hb, hgb, hrest⟩
  · exact .inl ⟨hv, List.eq_nil_of_length_eq_zero hl⟩
  · refine .inr ⟨g, cap, hv, (Array.getElem?_eq_some_iff.1 hgb).1, fun j hj => ?_⟩
    have := Lib.cells_of_row hgb ls.length j (strV ls[j]) (by have h4 := hrest.2.2.2; rw [Nat.mul_one] at h4; rw [h4]; simp [strsV, hj])
    rwa [add_at'] at this

/-- behind an append into a variable of its own: all that the walk owes; the row lies from n₁ on. -/
theorem appended2 {W w1 : World} {n₁ B : Nat} {t e : TypeId} {size : Nat} {v v' : Value} {k m : Nat} {xs ys : List Value} {tmp : Obj}
    (hv : Boxed W B t v) (hte : t ≠ e) (hrow : W.ownsRow n₁ e size v k xs) (hn₁ : n₁ ≤ W.heap.size)
    (hown' : w1.ownsRow n₁ e size v' m ys) (hgrow : (W.alloc tmp).grownBy w1 v.ownBlock) :
    Boxed w1 B t v ∧ Boxed (w1.setCell ⟨B, 0, none⟩ v') B t v' ∧ (w1.setCell ⟨B, 0, none⟩ v').ownsRow n₁ e size v' m ys ∧ KeepsOthers W (w1.setCell ⟨B, 0, none⟩ v') ∧
      (∀ N, N ≤ n₁ → Below N W w1) := by
  have hv1 : Boxed w1 B t v := (hv.alloc tmp).kept hgrow (hv.not_row hte hrow)
  refine ⟨hv1, hv1.set v', hown'.kept (grownBy_setCell' w1 B v') (.inr (hv1.not_row hte hown').symm), ?_, ?_⟩
  · refine ((KeepsOthers.alloc W tmp).trans (KeepsOthers.of_grownBy hgrow fun j o ej hj => ?_)).trans (KeepsOthers.setCell _ _ _)
    rcases (hrow.alloc tmp).2 with ⟨rfl, _⟩ | ⟨g, cap, cur, rfl, _, hgb, _⟩
    · simp [Value.ownBlock] at ej
    · obtain rfl : g = j := by simpa [Value.ownBlock] using ej
      rw [hgb] at hj; cases hj; rfl
  · intro N hN
    refine ((Below.refl N W).alloc (by omega) tmp).grown hgrow (by simp; omega) fun j ej => ?_
    rcases hrow.2 with ⟨rfl, _⟩ | ⟨g, cap, cur, rfl, hb, _, _⟩
    · simp [Value.ownBlock] at ej
    · obtain rfl : g = j := by simpa [Value.ownBlock] using ej
      omega

end Go.Proofs.YtkohkkakbcjgcabGreatDoor
