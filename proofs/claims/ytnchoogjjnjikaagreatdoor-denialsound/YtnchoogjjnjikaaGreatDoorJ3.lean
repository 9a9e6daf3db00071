/- Texts of this proof, joined: DOther, DTold, Draft, DHex, DTypes, DAny. -/
import Derived.Test.YtnchoogjjnjikaaGreatDoorJ2
import Derived.Test.YtnchoogjjnjikaaGreatDoorShelf
import Derived.Lib.AppendStr
import Derived.Maps.AppendAt
import Derived.RangeFuncBox
import Derived.Deep.RegionLaw
import Derived.Lib.ItoaNum
import Derived.Deep.WholeRow
import Derived.Deep.Cut
import Derived.Lib.AppendIntMem
/- Types that are none of the table: any bytes. -/
namespace Go.Proofs.YtnchoogjjnjikaaGreatDoor
set_option linter.unusedVariables false
open Go.RowKit
theorem enters_by {f : Nat} {fn : Func} {c : Code} (hf : Tryz.prog.funcs[f]? = some fn) (hname : (fn.name == "runtime.NumGoroutine") = false) (hb : fn.body = some c) : Enters f := by
  intro args w
  have h1 : fn.name ≠ "runtime.NumGoroutine" := by simpa using hname
  simp [callFunc, hf, h1, hb]
theorem anyPass_in (W : World) (d : Nat) (s : ByteArray) (hs : s.size ≤ 2000) (h : Rd W d s) :
    Calls Tryz.prog 176 #[boxV d] W fun e w' => PassPost (some s.size) s d W w' e := by
  go_enter Tryz.func176, Tryz.ntmps176
  go_wp2_with fail
  refine (all_in W d s (by unfold maxLen; omega) h).mono ?_
  rintro e w1 ⟨rfl, rfl⟩
  go_wp2
  have e2 : s.extract s.size s.size = ⟨#[]⟩ := by apply ByteArray.ext; simp
  refine bodyPost_end (results_none rfl _ _ _) rfl ⟨Nat.le_refl _, rfl, ?_, Kept.set _ _ _ _⟩
  rw [e2]; exact h.set _
def otherPart : Part := ⟨176, #[], 177, #[], 179, #[], false⟩
end Go.Proofs.YtnchoogjjnjikaaGreatDoor
/- told: data as a text. -/
namespace Go.Proofs.YtnchoogjjnjikaaGreatDoor
set_option linter.unusedVariables false
open Go.RowKit
theorem row_bel {W W' : World} {n₀ n : Nat} {e : TypeId} {v : Value} {xs : List Value} (h : W.ownsRow n₀ e 1 v n xs) (hb : Below W.heap.size W W') : W'.ownsRow n₀ e 1 v n xs := by
  refine ⟨h.1, ?_⟩
  rcases h.2 with h' | ⟨g, cap, cur, hv, hb', hg, hr⟩
  · exact .inl h'
  · exact .inr ⟨g, cap, cur, hv, hb', (hb.block g (box_lt hg)).trans hg, hr⟩
theorem rowBaseB {W : World} {n₀ n : Nat} {e : TypeId} {v : Value} {xs : List Value} (h : W.ownsRow n₀ e 1 v n xs) : ∀ k, v.ownBlock = some k → n₀ ≤ k := by
  intro k e
  rcases h.2 with ⟨rfl, _⟩ | ⟨g, cap, cur, rfl, hb, _⟩
  · simp [Value.ownBlock] at e
  · obtain rfl : g = k := by simpa [Value.ownBlock] using e
    exact hb
theorem row_cell {W : World} {n₀ n c : Nat} {e : TypeId} {q : Option Addr} {ps : List ByteArray} (h : W.ownsRow n₀ e 1 (.slice q n c) n (baV ps)) (j : Nat) (hj : j < ps.length) : ∃ g, q = some ⟨g, 0, none⟩ ∧ g < W.heap.size ∧ W.cell? ⟨g, j, none⟩ = some (.string ps[j]) := by
  have hn : ps.length = n := by have := h.1; simpa [baV] using this
  rcases h.2 with ⟨_, h0⟩ | ⟨g, cap, cur, hv, _, hg, _, _, _, ht⟩
  · omega
  · cases hv
    refine ⟨g, rfl, box_lt hg, ?_⟩
    have := Lib.cells_of_row (w := W) hg n j (.string ps[j]) (by rw [Nat.mul_one] at ht; rw [ht]; simp [baV, hj])
    rwa [add_at] at this
theorem join_row {W : World} {n₀ : Nat} {v : Value} {ws : List ByteArray} (sep : ByteArray) (h : W.ownsRow n₀ 9 1 v ws.length (baV ws)) (hl : ws.length ≤ 1000000) (hj : (Lib.join (ws.map (·.data.toList)) sep.data.toList).length ≤ 140737488355328) :
    Calls Tryz.prog 56 #[v, .string sep] W fun e w' => e = .returned (.string ⟨(Lib.join (ws.map (·.data.toList)) sep.data.toList).toArray⟩) ∧ Below W.heap.size W w' := by
  rcases h.2 with ⟨rfl, h0⟩ | ⟨g, cap, cur, rfl, _, hg, hc, _, _, ht⟩
  · obtain rfl : ws = [] := List.length_eq_zero_iff.1 h0
    refine (Tryz.strings_Join_none none 0 sep W).mono ?_
    rintro e w' ⟨rfl, rfl⟩
    exact ⟨rfl, Below.refl _ _⟩
  · refine Tryz.strings_Join g 0 cap ws sep W (fun j x hx => ?_) (box_lt hg) (by omega) hc hj
    obtain ⟨hjl, he⟩ := List.getElem?_eq_some_iff.1 hx
    have := Lib.cells_of_row (w := W) hg ws.length j (.string x) (by rw [Nat.mul_one] at ht; rw [ht]; simp [baV, hx])
    rw [add_at] at this
    rw [Nat.zero_add]; exact this
end Go.Proofs.YtnchoogjjnjikaaGreatDoor
/- The draft of a name: newDraft, add, name. -/
namespace Go.Proofs.YtnchoogjjnjikaaGreatDoor
set_option linter.unusedVariables false
open Go.RowKit
structure FrameD (d : Nat) (W W' : World) : Prop where
  os : W'.os = W.os
  tape : W'.tape = W.tape
  output : W'.output = W.output
  size : W.heap.size ≤ W'.heap.size
  same : ∀ b o, W.heap[b]? = some o → b ≠ d → (∀ cs fr, o ≠ .cells cs 5 fr) → W'.heap[b]? = some o
theorem FrameD.refl (d : Nat) (W : World) : FrameD d W W := ⟨rfl, rfl, rfl, Nat.le_refl _, fun _ _ h _ _ => h⟩
theorem FrameD.trans {d : Nat} {A B C : World} (h : FrameD d A B) (k : FrameD d B C) : FrameD d A C :=
  ⟨k.os.trans h.os, k.tape.trans h.tape, k.output.trans h.output, Nat.le_trans h.size k.size, fun b o hb hd ho => k.same b o (h.same b o hb hd ho) hd ho⟩
theorem FrameD.set (d i : Nat) (W : World) (v : Value) : FrameD d W (W.setCell ⟨d, i, none⟩ v) :=
  ⟨rfl, rfl, rfl, by simp, fun b o hb hd _ => (Below.heap_setCell W ⟨d, i, none⟩ v b hd).trans hb⟩
theorem FrameD.alloc (d : Nat) (W : World) (o : Obj) : FrameD d W (W.alloc o) :=
  ⟨rfl, rfl, rfl, by simp, fun b o' hb _ _ => (Below.heap_alloc W o b (Array.getElem?_eq_some_iff.1 hb).1).trans hb⟩
theorem FrameD.grown {d : Nat} {W W' : World} {n₀ : Nat} {v : Value} {n : Nat} {xs : List Value} (h : W.grownBy W' v.ownBlock) (hr : W.ownsRow n₀ 5 1 v n xs) : FrameD d W W' := by
  refine ⟨h.os, h.tape, h.output, h.size, fun b o hb hd ho => ?_⟩
  refine (h.block b (Array.getElem?_eq_some_iff.1 hb).1 fun e => ?_).trans hb
  rcases hr.2 with ⟨rfl, _⟩ | ⟨g, cap, cur, rfl, _, hg, _⟩
  · simp [Value.ownBlock] at e
  · obtain rfl : b = g := by simpa [Value.ownBlock] using e
    rw [hg] at hb
    cases hb
    exact ho _ _ rfl
theorem byteCells_snoc (l : List UInt8) (m : List UInt8) : Lib.byteCells (l ++ m) = Lib.byteCells l ++ Lib.byteCells m := by simp [Lib.byteCells]
theorem row_form {W : World} {n₀ n : Nat} {v : Value} {xs : List Value} (h : W.ownsRow n₀ 5 1 v n xs) (hn : 0 < n) : ∃ g cap, v = .slice (some ⟨g, 0, none⟩) n cap := by
  rcases h.2 with ⟨_, h'⟩ | ⟨g, cap, cur, hv, _⟩
  · omega
  · exact ⟨g, cap, hv⟩
theorem row_alloc {W : World} {n₀ n : Nat} {v : Value} {xs : List Value} (h : W.ownsRow n₀ 5 1 v n xs) (o : Obj) : (W.alloc o).ownsRow n₀ 5 1 v n xs := h.alloc o
end Go.Proofs.YtnchoogjjnjikaaGreatDoor
/- hex: bytes as digits of four bits. -/
namespace Go.Proofs.YtnchoogjjnjikaaGreatDoor
set_option linter.unusedVariables false
open Go.RowKit
def dig (n : Nat) : UInt8 := if n < 10 then UInt8.ofNat (48 + n) else UInt8.ofNat (87 + n)
end Go.Proofs.YtnchoogjjnjikaaGreatDoor
/- TypeText, TypeOf. -/
namespace Go.Proofs.YtnchoogjjnjikaaGreatDoor
set_option linter.unusedVariables false
open Go.RowKit Go.Sort
def tabCells : List Value := [.int .i64 1, .string ⟨#[65]⟩, .int .i64 2, .string ⟨#[78, 83]⟩, .int .i64 5, .string ⟨#[67, 78, 65, 77, 69]⟩, .int .i64 6, .string ⟨#[83, 79, 65]⟩, .int .i64 15, .string ⟨#[77, 88]⟩, .int .i64 16, .string ⟨#[84, 88, 84]⟩, .int .i64 28, .string ⟨#[65, 65, 65, 65]⟩, .int .i64 39, .string ⟨#[68, 78, 65, 77, 69]⟩, .int .i64 41, .string ⟨#[79, 80, 84]⟩, .int .i64 43, .string ⟨#[68, 83]⟩, .int .i64 46, .string ⟨#[82, 82, 83, 73, 71]⟩, .int .i64 47, .string ⟨#[78, 83, 69, 67]⟩, .int .i64 48, .string ⟨#[68, 78, 83, 75, 69, 89]⟩, .int .i64 50, .string ⟨#[78, 83, 69, 67, 51]⟩, .int .i64 255, .string ⟨#[65, 78, 89]⟩]
def Types (W : World) : Prop := ∀ i v, tabCells[i]? = some v → W.cell? ⟨1, i, none⟩ = some v
theorem cell_block {w : World} {a : Addr} {v : Value} (h : w.cell? a = some v) : a.block < w.heap.size := by
  apply Classical.byContradiction
  intro hn
  have : w.heap[a.block]? = none := by simp; omega
  simp [World.cell?, this] at h
theorem Types.below {W W' : World} (h : Types W) (hb : Below W.heap.size W W') : Types W' := fun i v hv =>
  (hb.cell (p := ⟨1, i, none⟩) (cell_block (h i v hv))).trans (h i v hv)
theorem wpList_run {ops : Array Oper} {rest : List Oper} {o : Oper} {a : Act} {W : World} {Q : Exit → Act → World → Prop} {v : Value} (hgd : o.guard = none)
    (hrun : (execOp a.eval o).run Tryz.prog W = .ok (.value v) W) (h : wpList Tryz.prog ops Q rest (a.put o.dst v) W) : wpList Tryz.prog ops Q (o :: rest) a W :=
  wpList_plain hgd fun K hK => by
    unfold Oper.wp
    rw [hrun]
    exact hK _ _ h
def Pow (W : World) : Prop := Lib.TabIs Tryz.prog W "internal/strconv.uint64pow10" .u64 Lib.pow10Tab
theorem Pow.below {W W' : World} (h : Pow W) (hb : Below W.heap.size W W') : Pow W' := (Lib.tabBelow_of_tabIs h) W' hb
end Go.Proofs.YtnchoogjjnjikaaGreatDoor
/- Types that are none of the table: their text. -/
namespace Go.Proofs.YtnchoogjjnjikaaGreatDoor
set_option linter.unusedVariables false
open Go.RowKit
/-! ### Text -/
end Go.Proofs.YtnchoogjjnjikaaGreatDoor