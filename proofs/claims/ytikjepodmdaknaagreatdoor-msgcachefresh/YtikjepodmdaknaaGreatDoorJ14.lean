/- Texts of this proof, joined: RcRow. -/
import Derived.WalkKit
import Derived.WalkSpells
import Derived.WalkLawsBesides
import Derived.Maps.OwnSet
import Derived.Test.YtikjepodmdaknaaGreatDoorRows
import Derived.Test.YtikjepodmdaknaaGreatDoorJ13
set_option linter.unusedVariables false
set_option linter.unusedSimpArgs false
/- Layer 16's table: a place put into the row, taken out of it. -/
namespace Go.Proofs.YtikjepodmdaknaaGreatDoor.Rc
open Go.RowKit
abbrev pt (b : Nat) : Value := .pointer (some ⟨b, 0, none⟩)
abbrev nilP : Value := .pointer none
abbrev Ky := ByteArray × Int
abbrev kV (k : Ky) : Value := .agg #[.string k.1, .int .i64 k.2]
abbrev k0 : Value := .agg #[.string ⟨#[]⟩, .int .i64 0]
set_option maxRecDepth 100000 in
set_option maxHeartbeats 1000000 in
theorem push_in (w : World) (T E F p : Nat) (c : Int) (x y z : Value)
  (hT1 : w.cell? ⟨T, 1, none⟩ = some (pt E)) (hT2 : w.cell? ⟨T, 2, none⟩ = some (.int .i64 c))
  (hE3 : w.cell? ⟨E, 4, none⟩ = some (pt F)) (hF2 : w.cell? ⟨F, 3, none⟩ = some x)
  (hp2 : w.cell? ⟨p, 3, none⟩ = some y) (hp3 : w.cell? ⟨p, 4, none⟩ = some z)
  (fT : w.frozen? ⟨T, 2, none⟩ = false) (fE : w.frozen? ⟨E, 4, none⟩ = false) (fF : w.frozen? ⟨F, 3, none⟩ = false) (fp2 : w.frozen? ⟨p, 3, none⟩ = false) (fp3 : w.frozen? ⟨p, 4, none⟩ = false)
  (hpE : ¬ p = E) (hpF : ¬ p = F) (hpT : ¬ p = T) (hTE : ¬ T = E) (hTF : ¬ T = F) (hc : c < 1000000) (hc0 : 0 ≤ c) :
  Calls Tryz.prog 131 #[.pointer (some ⟨T, 1, none⟩), pt p] w fun e w' => e = .returned (.tuple #[]) ∧
   w' = ((((((w.setCell ⟨p, 3, none⟩ (pt E)).setCell ⟨p, 4, none⟩ (pt F)).setCell ⟨E, 4, none⟩ (pt p)).setCell ⟨F, 3, none⟩ (pt p)).setCell ⟨T, 2, none⟩ (.int .i64 (c + 1))).drew).drew := by
 have hEp : ¬ E = p := fun e => hpE e.symm
 have hFp : ¬ F = p := fun e => hpF e.symm
 have hTp : ¬ T = p := fun e => hpT e.symm
 have hET : ¬ E = T := fun e => hTE e.symm
 have hFT : ¬ F = T := fun e => hTF e.symm
 go_enter Tryz.func131, Tryz.ntmps131
 go_wp2
 go_region
 go_wp2
 go_region
 go_wp2
 go_end0
 exact ⟨rfl, rfl⟩
set_option maxRecDepth 100000 in
set_option maxHeartbeats 1000000 in
theorem take_in (w : World) (T N O p : Nat) (c : Int) (x y : Value)
  (hT2 : w.cell? ⟨T, 2, none⟩ = some (.int .i64 c))
  (hp2 : w.cell? ⟨p, 3, none⟩ = some (pt N)) (hp3 : w.cell? ⟨p, 4, none⟩ = some (pt O))
  (hN3 : w.cell? ⟨N, 4, none⟩ = some x) (hO2 : w.cell? ⟨O, 3, none⟩ = some y)
  (fT : w.frozen? ⟨T, 2, none⟩ = false) (fN : w.frozen? ⟨N, 4, none⟩ = false) (fO : w.frozen? ⟨O, 3, none⟩ = false) (fp2 : w.frozen? ⟨p, 3, none⟩ = false) (fp3 : w.frozen? ⟨p, 4, none⟩ = false)
  (hpN : ¬ p = N) (hpO : ¬ p = O) (hpT : ¬ p = T) (hTN : ¬ T = N) (hTO : ¬ T = O) (hc : c < 1000000) (hc0 : 1 ≤ c) :
  Calls Tryz.prog 130 #[.pointer (some ⟨T, 1, none⟩), pt p] w fun e w' => e = .returned (.tuple #[]) ∧
   w' = (((((w.setCell ⟨N, 4, none⟩ (pt O)).setCell ⟨O, 3, none⟩ (pt N)).setCell ⟨p, 3, none⟩ nilP).setCell ⟨p, 4, none⟩ nilP).setCell ⟨T, 2, none⟩ (.int .i64 (c - 1))).drew := by
 have hNp : ¬ N = p := fun e => hpN e.symm
 have hOp : ¬ O = p := fun e => hpO e.symm
 have hTp : ¬ T = p := fun e => hpT e.symm
 have hNT : ¬ N = T := fun e => hTN e.symm
 have hOT : ¬ O = T := fun e => hTO e.symm
 go_enter Tryz.func130, Tryz.ntmps130
 go_wp2
 go_region
 go_wp2
 go_end0
 exact ⟨rfl, rfl⟩
theorem last_in (w : World) (T E O : Nat) (hT1 : w.cell? ⟨T, 1, none⟩ = some (pt E)) (hE2 : w.cell? ⟨E, 3, none⟩ = some (pt O)) :
  Calls Tryz.prog 92 #[.pointer (some ⟨T, 1, none⟩)] w fun e w' => e = .returned (pt O) ∧ w' = w := by
 go_enter Tryz.func92, Tryz.ntmps92
 go_wp2
 go_ret
 exact ⟨rfl, rfl⟩
theorem len_in (w : World) (T : Nat) (c : Int) (hT2 : w.cell? ⟨T, 2, none⟩ = some (.int .i64 c)) :
  Calls Tryz.prog 59 #[pt T] w fun e w' => e = .returned (.int .i64 c) ∧ w' = w := by
 go_enter Tryz.func59, Tryz.ntmps59
 go_wp2
 go_ret
 exact ⟨rfl, rfl⟩
theorem sizeRow : (Tryz.prog.info? 157).map (·.size) = some 2 := by kernel_rfl
theorem results_row {fn : Func} {p : Tmp} (h : fn.results = #[.cell p 157]) {tmps : Array Value} {W : World} {b : Nat} {x y : Value} (hp : tmps.getD p undef = .pointer (some ⟨b, 0, none⟩)) (hb : W.heap[b]? = some (.cells #[x, y] 157 (0, 0))) : (results fn tmps).run Tryz.prog W = .ok (.agg #[x, y]) W := by
 have hp' : tmps[p]?.getD undef = .pointer (some ⟨b, 0, none⟩) := by simpa using hp
 have hl : (loadVar 157 ⟨b, 0, none⟩).run Tryz.prog W = .ok (.agg #[x, y]) W := run_loadVar_row W b _ _ _ (0, 0) _ hb Tryz.underlying157 rfl sizeRow
 simp only [results, h]
 simp [hp', asAddr, hl]
theorem emptyRow_in (w : World) :
  Calls Tryz.prog 87 #[] w fun e w' => e = .returned (.agg #[pt (w.heap.size + 1), .int .i64 0]) ∧
   w' = (w.alloc (.cells #[pt (w.heap.size + 1), .int .i64 0] 157)).alloc (.cells #[.string ⟨#[]⟩, .int .i64 0, nilP, pt (w.heap.size + 1), pt (w.heap.size + 1)] 166) := by
 go_enter Tryz.func87, Tryz.ntmps87
 go_wp2
 refine bodyPost_ret (results_row Tryz.results87 rfl ?_) rfl ⟨rfl, rfl⟩
 rw [Below.heap_alloc _ _ _ (by simp)]
 show (w.heap.push _)[w.heap.size]? = _
 simp
theorem new_no (w : World) (m : Int) (h : m < 1 ∨ 100000 < m) :
  Calls Tryz.prog 37 #[.int .i64 m] w fun e w' => e = .returned (.tuple #[nilP, .int .i64 1]) ∧ w' = w := by
 by_cases h1 : m < 1
 ·go_enter Tryz.func37, Tryz.ntmps37
  go_wp2
  go_ret2
  exact ⟨rfl, rfl⟩
 ·have h2 : 100000 < m := by omega
  go_enter Tryz.func37, Tryz.ntmps37
  go_wp2
  go_ret2
  exact ⟨rfl, rfl⟩
theorem new_in (w : World) (m : Int) (h1 : ¬ m < 1) (h2 : ¬ 100000 < m) :
  Calls Tryz.prog 37 #[.int .i64 m] w fun e w' => e = .returned (.tuple #[pt (w.heap.size + 3), .int .i64 0]) ∧
   w' = ((((w.alloc (.cells #[pt (w.heap.size + 1), .int .i64 0] 157)).alloc (.cells #[.string ⟨#[]⟩, .int .i64 0, nilP, pt (w.heap.size + 1), pt (w.heap.size + 1)] 166)).alloc (.map #[] 0)).alloc
    (.cells #[.int .i64 m, pt (w.heap.size + 1), .int .i64 0, .map (some (w.heap.size + 2))] 161)) := by
 have hmm := @run_makeMap Tryz.prog
 go_enter Tryz.func37, Tryz.ntmps37
 go_wp2_with fail
 refine (emptyRow_in _).mono ?_
 rintro e w1 ⟨rfl, rfl⟩
 go_wp2
 go_ret2
 exact ⟨rfl, rfl⟩
end Go.Proofs.YtikjepodmdaknaaGreatDoor.Rc
