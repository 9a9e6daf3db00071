/- Layer 11: a key is looked up. -/
import Derived.Test.YtcebljcofkohiaaTbRow
import Derived.Defers
import Derived.Recover
import Derived.Laws.Pointers
namespace Go.Proofs.Ytcebljcofkohiaa
set_option linter.unusedVariables false
open Go.RowKit

theorem catch_idle (p q : Value) (w : World) :
    CallsD Try.prog 35 #[p, q] .returning w fun e u' w' => e = .returned (.tuple #[]) ∧ u' = .returning ∧ w' = w := by
  refine callsD_of_wpS Try.func35 rfl fun c₀ cs hu => ?_
  apply wpS_seq
  apply wpS_region
  simp [wpOpsS, go_sem, recoverD, hu, Try.ntmps35, Exit.thenS]
  refine wpS_cond (t := false) (by simp [Act.eval, Array.replicate]) ?_
  simp only [Bool.false_eq_true, if_false]
  refine wpS_of_wp (wp_skip ?_)
  cases c₀
  simp_all [bodyPostS, results, Try.results35]

/-- what the map answers. -/
theorem find_in (w : World) (T M : Nat) (k : ByteArray) (a : Option Addr) (hT3 : w.cell? ⟨T, 3, none⟩ = some (.map (some M))) (hTl : T < w.heap.size)
    (hL : ∀ o1 o2 : Obj, (Instr.lookup 56 (.map (some M)) (.string k) false).run Try.prog ((w.alloc o1).alloc o2) = .ok (.pointer a) ((w.alloc o1).alloc o2)) :
    Calls Try.prog 23 #[pt T, .string k] w fun e w' => e = .returned (.tuple #[.pointer a, .bool true]) ∧ w' = (w.alloc (.cells #[.pointer a] 52)).alloc (.cells #[.bool true] 4) := by
  have hmf : ∀ (fn : Fn) (first cap : Array Value) (w : World), (Instr.makeFunc fn first cap).run Try.prog w = .ok (.func fn first cap) w := fun _ _ _ _ => rfl
  go_enter_defers Try.func23, Try.ntmps23
  go_wp2
  refine leaves_cons (f := 35) (args := #[.pointer (some ⟨w.heap.size, 0, none⟩), .pointer (some ⟨w.heap.size + 1, 0, none⟩)]) (by simp) (by simp [go_sem]) ?_
  refine (catch_idle _ _ _).mono ?_
  rintro e u' w'' ⟨rfl, rfl, rfl⟩
  simp [Leaves, settle, results, Try.results23, go_sem]

end Go.Proofs.Ytcebljcofkohiaa
