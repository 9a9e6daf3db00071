/- The parts of a type's form. -/
import Derived.Laws.EntriesVeiled
import Derived.Test.YtkohkkakbcjgcabGreatDoorDRead
namespace Go.Proofs.YtkohkkakbcjgcabGreatDoor
set_option linter.unusedVariables false
open Go.RowKit

theorem heap_new (w : World) (o : Obj) : (w.alloc o).heap[w.heap.size]? = some o := by
  show (w.heap.push o)[w.heap.size]? = some o
  simp

theorem mkf (fn : Fn) (first cap : Array Value) (w : World) : (Instr.makeFunc fn first cap).run Tryz.prog w = .ok (.func fn first cap) w := rfl

/-- a function that captured variables. -/
abbrev fnV (k : Nat) (cap : Array Value) : Value := .func (.func k) #[] cap
abbrev boxV (b : Nat) : Value := .pointer (some ⟨b, 0, none⟩)

/-- a part of so many bytes that are a number: its four fields. -/
abbrev numP (b : Nat) : Array Value := #[fnV 83 #[boxV b], fnV 84 #[], fnV 86 #[boxV b], .bool false]
abbrev anyP : Array Value := #[fnV 120 #[], fnV 121 #[], fnV 122 #[], .bool false]

theorem numberPart_in (n : Int) (w : World) : Calls Tryz.prog 63 #[.int .i64 n] w fun e w' =>
    e = .returned (.agg (numP w.heap.size)) ∧ w'.heap[w.heap.size]? = some (.cells #[.int .i64 n] 3 (0, 0)) ∧ Below w.heap.size w w' := by
  have hmf := mkf
  go_enter Tryz.func63, Tryz.ntmps63
  go_wp2
  refine bodyPost_ret (v := .agg (numP w.heap.size)) (by simp [results, Tryz.results63, go_sem]) rfl ⟨rfl, ?_, ((Below.refl _ _).alloc (Nat.le_refl _) _).alloc (by simp) _⟩
  exact (Below.heap_alloc _ _ _ (by simp)).trans (heap_new w _)
theorem anyPart_in (w : World) : Calls Tryz.prog 72 #[] w fun e w' => e = .returned (.agg anyP) ∧ Below w.heap.size w w' := by
  have hmf := mkf
  go_enter Tryz.func72, Tryz.ntmps72
  go_wp2
  exact bodyPost_ret (v := .agg anyP) (by simp [results, Tryz.results72, go_sem]) rfl ⟨rfl, (Below.refl _ _).alloc (Nat.le_refl _) _⟩

/-- the types of the table. -/
def tabled (k : Int) : Bool := k == 1 || k == 2 || k == 5 || k == 6 || k == 15 || k == 16 || k == 28 || k == 39 || k == 43 || k == 46 || k == 47 || k == 48 || k == 50

theorem tabled_no {k : Int} (h : tabled k = false) : (k == 1) = false ∧ (k == 2) = false ∧ (k == 5) = false ∧ (k == 6) = false ∧ (k == 15) = false ∧ (k == 16) = false ∧ (k == 28) = false ∧ (k == 39) = false ∧ (k == 43) = false ∧ (k == 46) = false ∧ (k == 47) = false ∧ (k == 48) = false ∧ (k == 50) = false := by
  simp only [tabled, Bool.or_eq_false_iff] at h
  obtain ⟨⟨⟨⟨⟨⟨⟨⟨⟨⟨⟨⟨h1, h2⟩, h3⟩, h4⟩, h5⟩, h6⟩, h7⟩, h8⟩, h9⟩, h10⟩, h11⟩, h12⟩, h13⟩ := h
  exact ⟨h1, h2, h3, h4, h5, h6, h7, h8, h9, h10, h11, h12, h13⟩

theorem partsOf_other (k : Int) (hk : tabled k = false) (w : World) : Calls Tryz.prog 47 #[.int .i64 k] w fun e w' => ∃ g, w.heap.size ≤ g ∧
    e = .returned (.slice (some ⟨g, 0, none⟩) 1 1) ∧ w'.heap[g]? = some (.cells anyP 86 (0, 0)) ∧ Below w.heap.size w w' := by
  have hmf := mkf
  obtain ⟨h1, h2, h3, h4, h5, h6, h7, h8, h9, h10, h11, h12, h13⟩ := tabled_no hk
  clear hk
  go_enter Tryz.func47, Tryz.ntmps47
  go_wp2_with fail
  refine (numberPart_in _ _).mono ?_
  rintro e w1 ⟨rfl, ho1, hb1⟩
  go_wp2_with fail
  refine (numberPart_in _ _).mono ?_
  rintro e w2 ⟨rfl, ho2, hb2⟩
  go_wp2_with fail
  refine (numberPart_in _ _).mono ?_
  rintro e w3 ⟨rfl, ho3, hb3⟩
  clear ho1 ho2 ho3
  go_wp2_with fail
  refine (anyPart_in _).mono ?_
  rintro e w4 ⟨rfl, hb4⟩
  have k3 : Below w.heap.size w w3 := bth (bth hb1 hb2 hb1.size) hb3 (Nat.le_trans hb1.size hb2.size)
  have s3 := k3.size
  have k6 : Below w.heap.size w w4 := (((k3.alloc s3 _).alloc (by simp; omega) _).alloc (by simp; omega) _).trans (hb4.mono (by simp; omega))
  clear hb1 hb2 hb3 hb4
  go_wp2
  go_ret
  exact ⟨w4.heap.size, k6.size, rfl, heap_new _ _, k6.alloc k6.size _⟩
end Go.Proofs.YtkohkkakbcjgcabGreatDoor
