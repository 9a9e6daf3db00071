/- Types that are none of the table: any bytes. -/
import Derived.Test.YtkohkkakbcjgcabGreatDoorDSplit2
namespace Go.Proofs.YtkohkkakbcjgcabGreatDoor
set_option linter.unusedVariables false
open Go.RowKit

theorem enters_by {f : Nat} {fn : Func} {c : Code} (hf : Tryz.prog.funcs[f]? = some fn) (hname : (fn.name == "runtime.NumGoroutine") = false) (hb : fn.body = some c) : Enters f := by
  intro args w
  have h1 : fn.name ≠ "runtime.NumGoroutine" := by simpa using hname
  simp [callFunc, hf, h1, hb]

theorem anyPass_in (W : World) (d : Nat) (s : ByteArray) (hs : s.size ≤ 2000) (h : Rd W d s) :
    Calls Tryz.prog 120 #[boxV d] W fun e w' => PassPost (some s.size) s d W w' e := by
  go_enter Tryz.func120, Tryz.ntmps120
  go_wp2_with fail
  refine (all_in W d s (by unfold maxLen; omega) h).mono ?_
  rintro e w1 ⟨rfl, rfl⟩
  go_wp2
  have e2 : s.extract s.size s.size = ⟨#[]⟩ := by apply ByteArray.ext; simp
  refine bodyPost_end (results_none rfl _ _ _) rfl ⟨Nat.le_refl _, rfl, ?_, Kept.set _ _ _ _⟩
  rw [e2]; exact h.set _

def otherPart : Part := ⟨120, #[], 121, #[], 122, #[], false⟩
def otherPf : Nat → ByteArray → Option Nat := fun _ s => some s.size

theorem one_part {W : World} {g : Nat} {p : Part} (h : W.heap[g]? = some (.cells #[fnV p.pass p.passC, fnV p.tell p.tellC, fnV p.read p.readC, .bool p.name] 86 (0, 0))) : PartsIn W g 1 (fun _ => p) := by
  refine ⟨fun _ => box_lt h, fun k hk => ?_, fun k hk => ?_, fun k hk => ?_, fun k hk => ?_⟩ <;> obtain rfl : k = 0 := by omega
  all_goals simp [World.cell?, h]

theorem parts_other (k : Int) (hk : tabled k = false) (w : World) : Calls Tryz.prog 47 #[.int .i64 k] w fun e w' => PartsPost 1 otherPf w e w' := by
  refine (partsOf_other k hk w).mono ?_
  rintro e w1 ⟨g, hg, rfl, hc, hb⟩
  refine ⟨g, fun _ => otherPart, rfl, one_part hc, fun _ _ => enters_by Tryz.func120 (by kernel_rfl) rfl, ?_, hb⟩
  intro k _ W' d s' _ _ hr hs
  exact anyPass_in W' d s' hs hr

theorem fin_other (s : ByteArray) : fin otherPf 1 s = some [s] := by
  have e1 : s.extract 0 s.size = s := by simp
  simp [fin, cutP, otherPf, e1]

theorem split_other (k : Int) (hk : 0 ≤ k ∧ k ≤ 65535) (ht : tabled k = false) (s : ByteArray) (hs : s.size ≤ 2000) (W : World) :
    Calls Tryz.prog 33 #[.int .i64 k, .string s] W fun e w' => SplitPost (some [s]) W e w' := by
  have := split_in W 1 (by omega) k hk s hs otherPf (parts_other k ht)
  rwa [fin_other] at this
end Go.Proofs.YtkohkkakbcjgcabGreatDoor
