/- Texts of this proof, joined: DOther, DTold, Draft, DHex, DTypes, DAny. -/
import Derived.Test.YtaiakpigljcjbaaGreatDoorJ2
import Derived.Test.YtaiakpigljcjbaaGreatDoorShelf
import Derived.Lib.AppendStr
import Derived.Maps.AppendAt
import Derived.RangeFuncBox
import Derived.Deep.RegionLaw
import Derived.Lib.ItoaNum
import Derived.Deep.WholeRow
import Derived.Deep.Cut
import Derived.Lib.AppendIntMem
/- Types that are none of the table: any bytes. -/
namespace Go.Proofs.YtaiakpigljcjbaaGreatDoor
set_option linter.unusedVariables false
open Go.RowKit

theorem enters_by {f : Nat} {fn : Func} {c : Code} (hf : Tryz.prog.funcs[f]? = some fn) (hname : (fn.name == "runtime.NumGoroutine") = false) (hb : fn.body = some c) : Enters f := by
  intro args w
  have h1 : fn.name ≠ "runtime.NumGoroutine" := by simpa using hname
  simp [callFunc, hf, h1, hb]

theorem anyPass_in (W : World) (d : Nat) (s : ByteArray) (hs : s.size ≤ 2000) (h : Rd W d s) :
    Calls Tryz.prog 184 #[boxV d] W fun e w' => PassPost (some s.size) s d W w' e := by
  go_enter Tryz.func184, Tryz.ntmps184
  go_wp2_with fail
  refine (all_in W d s (by unfold maxLen; omega) h).mono ?_
  rintro e w1 ⟨rfl, rfl⟩
  go_wp2
  have e2 : s.extract s.size s.size = ⟨#[]⟩ := by apply ByteArray.ext; simp
  refine bodyPost_end (results_none rfl _ _ _) rfl ⟨Nat.le_refl _, rfl, ?_, Kept.set _ _ _ _⟩
  rw [e2]; exact h.set _

def otherPart : Part := ⟨184, #[], 185, #[], 187, #[], false⟩
def otherPf : Nat → ByteArray → Option Nat := fun _ s => some s.size

theorem one_part {W : World} {g : Nat} {p : Part} (h : W.heap[g]? = some (.cells #[fnV p.pass p.passC, fnV p.tell p.tellC, fnV p.read p.readC, .bool p.name] 149 (0, 0))) : PartsIn W g 1 (fun _ => p) := by
  refine ⟨fun _ => box_lt h, fun k hk => ?_, fun k hk => ?_, fun k hk => ?_, fun k hk => ?_⟩ <;> obtain rfl : k = 0 := by omega
  all_goals simp [World.cell?, h]

theorem parts_other (k : Int) (hk : tabled k = false) (w : World) : Calls Tryz.prog 113 #[.int .i64 k] w fun e w' => PartsPost 1 otherPf w e w' := by
  refine (partsOf_other k hk w).mono ?_
  rintro e w1 ⟨g, hg, rfl, hc, hb⟩
  refine ⟨g, fun _ => otherPart, rfl, one_part hc, fun _ _ => enters_by Tryz.func184 (by kernel_rfl) rfl, ?_, hb⟩
  intro k _ W' d s' _ _ hr hs
  exact anyPass_in W' d s' hs hr

theorem fin_other (s : ByteArray) : fin otherPf 1 s = some [s] := by
  have e1 : s.extract 0 s.size = s := by simp
  simp [fin, cutP, otherPf, e1]

theorem split_other (k : Int) (hk : 0 ≤ k ∧ k ≤ 65535) (ht : tabled k = false) (s : ByteArray) (hs : s.size ≤ 2000) (W : World) :
    Calls Tryz.prog 90 #[.int .i64 k, .string s] W fun e w' => SplitPost (some [s]) W e w' := by
  have := split_in W 1 (by omega) k hk s hs otherPf (parts_other k ht)
  rwa [fin_other] at this
end Go.Proofs.YtaiakpigljcjbaaGreatDoor

/- told: data as a text. -/
namespace Go.Proofs.YtaiakpigljcjbaaGreatDoor
set_option linter.unusedVariables false
open Go.RowKit

/-- what the parts of a type's form do. -/
structure Form where
  n : Nat
  pf : Nat → ByteArray → Option Nat
  tf : Nat → ByteArray → ByteArray
  ok : Nat → ByteArray → Prop

def FormPost (F : Form) (w : World) (e : Ending) (w' : World) : Prop :=
  ∃ g P, e = .returned (.slice (some ⟨g, 0, none⟩) F.n F.n) ∧ PartsIn w' g F.n P ∧ (∀ k, k < F.n → Enters (P k).pass) ∧
    (∀ k, k < F.n → ∀ (W' : World) (d : Nat) (s' : ByteArray), Below w'.heap.size w' W' → w'.heap.size ≤ d → Rd W' d s' → s'.size ≤ 2000 →
      Calls Tryz.prog (P k).pass (#[boxV d] ++ (P k).passC) W' fun e w'' => PassPost (F.pf k s') s' d W' w'' e) ∧ Below w.heap.size w w' ∧
    (∀ k, k < F.n → Enters (P k).tell) ∧
    (∀ k, k < F.n → ∀ (W' : World) (x : ByteArray), Below w'.heap.size w' W' → F.ok k x →
      Calls Tryz.prog (P k).tell (#[.string x] ++ (P k).tellC) W' fun e w'' => e = .returned (.string (F.tf k x)) ∧ Below W'.heap.size W' w'')

theorem FormPost.parts {F : Form} {w w' : World} {e : Ending} (h : FormPost F w e w') : PartsPost F.n F.pf w e w' :=
  let ⟨g, P, h1, h2, h3, h4, h5, _, _⟩ := h
  ⟨g, P, h1, h2, h3, h4, h5⟩

/-- the words that tell pieces, from the k-th part on. -/
def words (F : Form) : Nat → List ByteArray → List ByteArray
  | _, [] => []
  | k, x :: r => if (F.tf k x).size = 0 then words F (k + 1) r else F.tf k x :: words F (k + 1) r
theorem words_snoc (F : Form) : ∀ (l : List ByteArray) (k : Nat) (x : ByteArray), words F k (l ++ [x]) = words F k l ++ (if (F.tf (k + l.length) x).size = 0 then [] else [F.tf (k + l.length) x])
  | [], k, x => by simp only [words, List.nil_append, List.length_nil, Nat.add_zero]
  | y :: l, k, x => by
    rw [List.cons_append, words, words, words_snoc F l, List.length_cons, show k + 1 + l.length = k + (l.length + 1) by omega]
    split
    · rfl
    · rfl

/-- how the loop of told stands. -/
def ToldRel (F : Form) (ps : List ByteArray) (w2 : World) (v i : Value) (wr : World) : Prop :=
  ∃ m : Nat, m ≤ F.n ∧ i = .int .i64 m ∧ wr.ownsRow w2.heap.size 9 1 v (words F 0 (ps.take m)).length (baV (words F 0 (ps.take m))) ∧ Below w2.heap.size w2 wr

theorem words_len (F : Form) : ∀ (l : List ByteArray) (k : Nat), (words F k l).length ≤ l.length
  | [], _ => by simp [words]
  | x :: r, k => by
    have := words_len F r (k + 1)
    rw [words]
    split
    · simp; omega
    · simp; omega

theorem row_bel {W W' : World} {n₀ n : Nat} {e : TypeId} {v : Value} {xs : List Value} (h : W.ownsRow n₀ e 1 v n xs) (hb : Below W.heap.size W W') : W'.ownsRow n₀ e 1 v n xs := by
  refine ⟨h.1, ?_⟩
  rcases h.2 with h' | ⟨g, cap, cur, hv, hb', hg, hr⟩
  · exact .inl h'
  · exact .inr ⟨g, cap, cur, hv, hb', (hb.block g (box_lt hg)).trans hg, hr⟩

theorem rowBaseB {W : World} {n₀ n : Nat} {e : TypeId} {v : Value} {xs : List Value} (h : W.ownsRow n₀ e 1 v n xs) : ∀ k, v.ownBlock = some k → n₀ ≤ k := by
  intro k e
  rcases h.2 with ⟨rfl, _⟩ | ⟨g, cap, cur, rfl, hb, _⟩
  · simp [Value.ownBlock] at e
  · obtain rfl : g = k := by simpa [Value.ownBlock] using e
    exact hb

theorem row_cell {W : World} {n₀ n c : Nat} {e : TypeId} {q : Option Addr} {ps : List ByteArray} (h : W.ownsRow n₀ e 1 (.slice q n c) n (baV ps)) (j : Nat) (hj : j < ps.length) : ∃ g, q = some ⟨g, 0, none⟩ ∧ g < W.heap.size ∧ W.cell? ⟨g, j, none⟩ = some (.string ps[j]) := by
  have hn : ps.length = n := by have := h.1; simpa [baV] using this
  rcases h.2 with ⟨_, h0⟩ | ⟨g, cap, cur, hv, _, hg, _, _, _, ht⟩
  · omega
  · cases hv
    refine ⟨g, rfl, box_lt hg, ?_⟩
    have := Lib.cells_of_row (w := W) hg n j (.string ps[j]) (by rw [Nat.mul_one] at ht; rw [ht]; simp [baV, hj])
    rwa [add_at] at this

theorem join_row {W : World} {n₀ : Nat} {v : Value} {ws : List ByteArray} (sep : ByteArray) (h : W.ownsRow n₀ 9 1 v ws.length (baV ws)) (hl : ws.length ≤ 1000000) (hj : (Lib.join (ws.map (·.data.toList)) sep.data.toList).length ≤ 140737488355328) :
    Calls Tryz.prog 152 #[v, .string sep] W fun e w' => e = .returned (.string ⟨(Lib.join (ws.map (·.data.toList)) sep.data.toList).toArray⟩) ∧ Below W.heap.size W w' := by
  rcases h.2 with ⟨rfl, h0⟩ | ⟨g, cap, cur, rfl, _, hg, hc, _, _, ht⟩
  · obtain rfl : ws = [] := List.length_eq_zero_iff.1 h0
    refine (Tryz.strings_Join_none none 0 sep W).mono ?_
    rintro e w' ⟨rfl, rfl⟩
    exact ⟨rfl, Below.refl _ _⟩
  · refine Tryz.strings_Join g 0 cap ws sep W (fun j x hx => ?_) (box_lt hg) (by omega) hc hj
    obtain ⟨hjl, he⟩ := List.getElem?_eq_some_iff.1 hx
    have := Lib.cells_of_row (w := W) hg ws.length j (.string x) (by rw [Nat.mul_one] at ht; rw [ht]; simp [baV, hx])
    rw [add_at] at this
    rw [Nat.zero_add]; exact this

theorem join_len (sep : List UInt8) : ∀ (ws : List ByteArray) (b : Nat), (∀ x ∈ ws, x.size ≤ b) → (Lib.join (ws.map (·.data.toList)) sep).length ≤ ws.length * (b + sep.length)
  | [], b, _ => by simp [Lib.join, List.intercalate]
  | [x], b, h => by
    have := h x (by simp)
    simp only [List.map_cons, List.map_nil, Lib.join, List.intercalate, List.intersperse]
    simp only [List.flatten_cons, List.flatten_nil, List.append_nil, size_list, List.length_cons, List.length_nil]
    omega
  | x :: y :: r, b, h => by
    have h1 := h x (by simp)
    have ih := join_len sep (y :: r) b (fun z hz => h z (by simp [hz]))
    simp only [List.map_cons, Lib.join, List.intercalate] at ih ⊢
    rw [List.intersperse_cons_cons]
    simp only [List.flatten_cons, List.length_append, size_list, List.length_cons] at ih ⊢
    rw [Nat.add_mul, Nat.one_mul]
    omega

theorem words_size (F : Form) (b : Nat) : ∀ (l : List ByteArray) (k : Nat), (∀ j (h : j < l.length), (F.tf (k + j) l[j]).size ≤ b) → ∀ x ∈ words F k l, x.size ≤ b
  | [], _, _ => by simp [words]
  | y :: r, k, h => by
    intro x hx
    have h0 := h 0 (by simp)
    have hr := words_size F b r (k + 1) (fun j hj => by
      have := h (j + 1) (by simp; omega)
      rwa [show k + (j + 1) = k + 1 + j by omega] at this)
    rw [words] at hx
    split at hx
    · exact hr x hx
    · rcases List.mem_cons.1 hx with rfl | hx
      · exact h0
      · exact hr x hx

end Go.Proofs.YtaiakpigljcjbaaGreatDoor

/- The draft of a name: newDraft, add, name. -/
namespace Go.Proofs.YtaiakpigljcjbaaGreatDoor
set_option linter.unusedVariables false
open Go.RowKit

/-- block d holds a draft: its bytes l, in a row from n₀ on, and whether a label was bad. -/
def Draft (W : World) (n₀ d : Nat) (l : List UInt8) (bad : Bool) : Prop :=
  n₀ ≤ d ∧ ∃ g cap, W.heap[d]? = some (.cells #[.slice (some ⟨g, 0, none⟩) l.length cap, .bool bad] 230 (0, 0)) ∧ W.ownsRow n₀ 5 1 (.slice (some ⟨g, 0, none⟩) l.length cap) l.length (Lib.byteCells l)

/-- what was there is there, but for block d and rows of bytes. -/
structure FrameD (d : Nat) (W W' : World) : Prop where
  os : W'.os = W.os
  tape : W'.tape = W.tape
  output : W'.output = W.output
  size : W.heap.size ≤ W'.heap.size
  same : ∀ b o, W.heap[b]? = some o → b ≠ d → (∀ cs fr, o ≠ .cells cs 5 fr) → W'.heap[b]? = some o

theorem FrameD.refl (d : Nat) (W : World) : FrameD d W W := ⟨rfl, rfl, rfl, Nat.le_refl _, fun _ _ h _ _ => h⟩
theorem FrameD.trans {d : Nat} {A B C : World} (h : FrameD d A B) (k : FrameD d B C) : FrameD d A C :=
  ⟨k.os.trans h.os, k.tape.trans h.tape, k.output.trans h.output, Nat.le_trans h.size k.size, fun b o hb hd ho => k.same b o (h.same b o hb hd ho) hd ho⟩
theorem FrameD.set (d i : Nat) (W : World) (v : Value) : FrameD d W (W.setCell ⟨d, i, none⟩ v) :=
  ⟨rfl, rfl, rfl, by simp, fun b o hb hd _ => (Below.heap_setCell W ⟨d, i, none⟩ v b hd).trans hb⟩
theorem FrameD.alloc (d : Nat) (W : World) (o : Obj) : FrameD d W (W.alloc o) :=
  ⟨rfl, rfl, rfl, by simp, fun b o' hb _ _ => (Below.heap_alloc W o b (Array.getElem?_eq_some_iff.1 hb).1).trans hb⟩
theorem FrameD.grown {d : Nat} {W W' : World} {n₀ : Nat} {v : Value} {n : Nat} {xs : List Value} (h : W.grownBy W' v.ownBlock) (hr : W.ownsRow n₀ 5 1 v n xs) : FrameD d W W' := by
  refine ⟨h.os, h.tape, h.output, h.size, fun b o hb hd ho => ?_⟩
  refine (h.block b (Array.getElem?_eq_some_iff.1 hb).1 fun e => ?_).trans hb
  rcases hr.2 with ⟨rfl, _⟩ | ⟨g, cap, cur, rfl, _, hg, _⟩
  · simp [Value.ownBlock] at e
  · obtain rfl : b = g := by simpa [Value.ownBlock] using e
    rw [hg] at hb
    cases hb
    exact ho _ _ rfl
theorem FrameD.others {d : Nat} {W W' : World} (h : FrameD d W W') {cs : Array Value} {t : TypeId} (hd : W.heap[d]? = some (.cells cs t (0, 0))) : KeepsOthers W W' :=
  ⟨h.size, fun k o hk ho => h.same k o hk (fun e => by subst e; rw [hk] at hd; cases hd; simp [Obj.isCells] at ho) (fun cs fr e => by subst e; simp [Obj.isCells] at ho)⟩
theorem FrameD.boxed {d : Nat} {W W' : World} (h : FrameD d W W') {b : Nat} {t : TypeId} {v : Value} (hb : Boxed W b t v) (hd : b ≠ d) (ht : t ≠ 5) : Boxed W' b t v :=
  h.same b _ hb hd (fun cs fr e => by cases e; exact ht rfl)

theorem byteCells_snoc (l : List UInt8) (m : List UInt8) : Lib.byteCells (l ++ m) = Lib.byteCells l ++ Lib.byteCells m := by simp [Lib.byteCells]

theorem newDraft_in (w : World) :
    Calls Tryz.prog 230 #[] w fun e w' => e = .returned (.pointer (some ⟨w.heap.size + 1, 0, none⟩)) ∧ Draft w' w.heap.size (w.heap.size + 1) [] false ∧ Below w.heap.size w w' ∧ w'.heap.size = w.heap.size + 2 := by
  obtain ⟨i0, hi, hz0, hz1, hz2⟩ := info_parts info5
  obtain ⟨M, hM⟩ : ∃ M, M = madeCells (Value.int .u8 0).cells ((255 : Int).toNat * i0.size) := ⟨_, rfl⟩
  have hMs : M.size = 255 := by rw [hM, size_madeCells, hz1]; rfl
  have hmk : ∀ W : World, (Instr.makeSlice 50 (.int .i64 0) (.int .i64 255)).run Tryz.prog W = .ok (.slice (some ⟨W.heap.size, 0, none⟩) 0 255) (W.alloc (.cells M 5)) := fun W => by
    have h := run_make (P := Tryz.prog) W 50 5 i0 (.int .u8 0) Tryz.underlying50 hi hz0 .i64 .i64 0 255 (by omega) (by omega) (by rw [hz2]; omega) (by omega)
    rw [← hM] at h
    simpa using h
  clear hM
  go_enter Tryz.func230, Tryz.ntmps230
  go_wp2
  go_ret
  refine ⟨rfl, ⟨by omega, w.heap.size, 255, ?_, ?_⟩, ((Below.refl _ _).alloc (Nat.le_refl _) _).alloc (by simp) _, by simp⟩
  · have := World.alloc_heap_new (w.alloc (.cells M 5)) (.cells #[.slice (some ⟨w.heap.size, 0, none⟩) 0 255, .bool false] 230)
    rw [World.size_alloc] at this
    exact this
  · refine ⟨rfl, .inr ⟨w.heap.size, 255, M, rfl, Nat.le_refl _, ?_, by simp, by unfold maxLen; omega, by omega, rfl⟩⟩
    exact (Below.heap_alloc _ _ _ (by simp)).trans (World.alloc_heap_new w _)

/-- what add makes of a draft. -/
def addL (l : List UInt8) (bad : Bool) (s : List UInt8) : List UInt8 := if 1 ≤ s.length ∧ s.length ≤ 63 ∧ bad = false ∧ l.length < 255 then l ++ (UInt8.ofNat s.length :: s) else l
def addBad (bad : Bool) (s : List UInt8) : Bool := bad || decide (¬ (1 ≤ s.length ∧ s.length ≤ 63))

theorem draft_cells {W : World} {d g n cap : Nat} {bad : Bool} (h : W.heap[d]? = some (.cells #[.slice (some ⟨g, 0, none⟩) n cap, .bool bad] 230 (0, 0))) :
    W.cell? ⟨d, 0, none⟩ = some (.slice (some ⟨g, 0, none⟩) n cap) ∧ W.cell? ⟨d, 1, none⟩ = some (.bool bad) ∧ W.frozen? ⟨d, 0, none⟩ = false ∧ W.frozen? ⟨d, 1, none⟩ = false := by
  refine ⟨by simp [World.cell?, h], by simp [World.cell?, h], frozen_of_row _ _ _ _ _ h, frozen_of_row _ _ _ _ _ h⟩

theorem draft_same {l : List UInt8} {bad : Bool} {s : List UInt8} (h : ¬ (1 ≤ s.length ∧ s.length ≤ 63 ∧ bad = false ∧ l.length < 255)) : addL l bad s = l := if_neg h

theorem row_set {W : World} {n₀ n d i : Nat} {v : Value} {xs : List Value} {cs : Array Value} (h : W.ownsRow n₀ 5 1 v n xs) (hd : W.heap[d]? = some (.cells cs 230 (0, 0))) (u : Value) : (W.setCell ⟨d, i, none⟩ u).ownsRow n₀ 5 1 v n xs := by
  refine ⟨h.1, ?_⟩
  rcases h.2 with h' | ⟨g, cap, cur, hv, hb, hg, hr⟩
  · exact .inl h'
  · refine .inr ⟨g, cap, cur, hv, hb, (Below.heap_setCell W ⟨d, i, none⟩ u g fun e => ?_).trans hg, hr⟩
    subst e
    rw [hg] at hd
    cases hd

theorem row_form {W : World} {n₀ n : Nat} {v : Value} {xs : List Value} (h : W.ownsRow n₀ 5 1 v n xs) (hn : 0 < n) : ∃ g cap, v = .slice (some ⟨g, 0, none⟩) n cap := by
  rcases h.2 with ⟨_, h'⟩ | ⟨g, cap, cur, hv, _⟩
  · omega
  · exact ⟨g, cap, hv⟩
theorem own_base {W : World} {n₀ n : Nat} {v : Value} {xs : List Value} (h : W.ownsRow n₀ 5 1 v n xs) : ∀ k, v.ownBlock = some k → n₀ ≤ k := by
  intro k e
  rcases h.2 with ⟨rfl, _⟩ | ⟨g, cap, cur, rfl, hb, _⟩
  · simp [Value.ownBlock] at e
  · obtain rfl : g = k := by simpa [Value.ownBlock] using e
    exact hb
theorem draft_not5 {cs : Array Value} : ∀ (cs' : Array Value) (fr : Nat × Nat), Obj.cells cs 230 (0, 0) ≠ .cells cs' 5 fr := by
  intro cs' fr e; cases e
theorem draft_not5' {cs : Array Value} {i : Nat} {v : Value} : ∀ (cs' : Array Value) (fr : Nat × Nat), Obj.cells (cs.setIfInBounds i v) 230 (0, 0) ≠ .cells cs' 5 fr := by
  intro cs' fr e; cases e

theorem row_alloc {W : World} {n₀ n : Nat} {v : Value} {xs : List Value} (h : W.ownsRow n₀ 5 1 v n xs) (o : Obj) : (W.alloc o).ownsRow n₀ 5 1 v n xs := h.alloc o

set_option maxHeartbeats 400000 in
/-- a bad label. -/
theorem add_bad (W : World) (n₀ d : Nat) (l : List UInt8) (bad : Bool) (s : ByteArray) (hm : s.size ≤ maxLen) (hd : Draft W n₀ d l bad) (h : s.size < 1 ∨ 63 < s.size) :
    Calls Tryz.prog 232 #[.pointer (some ⟨d, 0, none⟩), .string s] W fun e w' => e = .returned (.tuple #[]) ∧ Draft w' n₀ d l true ∧ FrameD d W w' ∧ Below n₀ W w' := by
  obtain ⟨hn, g, cap, hh, hrow⟩ := hd
  obtain ⟨hc0, hc1, hf0, hf1⟩ := draft_cells hh
  go_enter Tryz.func232, Tryz.ntmps232
  go_wp2_with (go_at_call 92; refine (rightLabel_no s _ hm h).mono ?_; rintro e w' ⟨rfl, rfl⟩)
  refine bodyPost_ret (results_none rfl _ _ _) rfl ⟨rfl, ⟨hn, g, cap, ?_, row_set hrow hh _⟩, FrameD.set _ _ _ _, (Below.refl _ _).setCell (p := ⟨d, 1, none⟩) hn _⟩
  exact heap_setCell_same _ _ _ _ _ _ hh

set_option maxRecDepth 100000 in
set_option maxHeartbeats 400000 in
/-- a right label, and nothing is to be done. -/
theorem add_skip (W : World) (n₀ d : Nat) (l : List UInt8) (bad : Bool) (s : ByteArray) (hd : Draft W n₀ d l bad) (hl : l.length ≤ 400) (h1 : 1 ≤ s.size) (h2 : s.size ≤ 63) (h : bad = true ∨ 255 ≤ l.length) :
    Calls Tryz.prog 232 #[.pointer (some ⟨d, 0, none⟩), .string s] W fun e w' => e = .returned (.tuple #[]) ∧ w' = W := by
  obtain ⟨hn, g, cap, hh, hrow⟩ := hd
  obtain ⟨hc0, hc1, hf0, hf1⟩ := draft_cells hh
  clear hrow hh
  cases bad with
  | true =>
    go_enter Tryz.func232, Tryz.ntmps232
    go_wp2_with (go_at_call 92; refine (rightLabel_yes s _ h1 h2).mono ?_; rintro e w' ⟨rfl, rfl⟩)
    exact bodyPost_ret (results_none rfl _ _ _) rfl ⟨rfl, rfl⟩
  | false =>
    have h' : 255 ≤ l.length := by simpa using h
    have hb : decide ((255 : Int) ≤ (l.length : Int)) = true := by simp; omega
    clear h h'
    go_enter Tryz.func232, Tryz.ntmps232
    go_wp2_with (go_at_call 92; refine (rightLabel_yes s _ h1 h2).mono ?_; rintro e w' ⟨rfl, rfl⟩)
    exact bodyPost_ret (results_none rfl _ _ _) rfl ⟨rfl, rfl⟩

set_option maxRecDepth 100000 in
set_option maxHeartbeats 1000000 in
/-- a right label, which is added. -/
theorem add_go (W : World) (n₀ d : Nat) (l : List UInt8) (s : ByteArray) (hd : Draft W n₀ d l false) (hl : l.length < 255) (h1 : 1 ≤ s.size) (h2 : s.size ≤ 63) (hn₀ : n₀ ≤ W.heap.size) :
    Calls Tryz.prog 232 #[.pointer (some ⟨d, 0, none⟩), .string s] W fun e w' => e = .returned (.tuple #[]) ∧ Draft w' n₀ d (l ++ (UInt8.ofNat s.size :: s.data.toList)) false ∧ FrameD d W w' ∧ Below n₀ W w' := by
  obtain ⟨i0, hi, hz0, hz1, hz2⟩ := info_parts info5
  obtain ⟨hn, g, cap, hh, hrow⟩ := hd
  obtain ⟨hc0, hc1, hf0, hf1⟩ := draft_cells hh
  have hb : decide ((255 : Int) ≤ (l.length : Int)) = false := by simp; omega
  go_enter Tryz.func232, Tryz.ntmps232
  have tok : True := trivial
  go_wp2_with (first
    | (go_at_call 92; refine (rightLabel_yes s _ h1 h2).mono ?_; rintro e w' ⟨rfl, hww⟩; rw [hww])
    | (at_builtin; have _t := tok; refine wpList_append_own _ rfl _ _ 50 rfl n₀ 5 i0 (.int .u8 0) 1 1 Tryz.underlying50 hi hz0 hz1 hz2 rfl (by decide) _ _ _ rfl (row_alloc hrow _) ⟨W.heap.size, 0, none⟩ 1 1 [.int .u8 (s.size : Int)] rfl rfl (cell_one_new _ _ _) (by simp [Value.oneCell']) (by unfold maxLen; omega) (by omega) (by simp; omega) ?_; intro v1 w1 hown1 hgrow1 _; obtain ⟨g1, cap1, rfl⟩ := row_form hown1 (by omega); have hf1 := (FrameD.alloc (d + 1) W _).trans (FrameD.grown (d := d + 1) hgrow1 (row_alloc hrow _)); have hh1 := hf1.same d _ hh (by omega) draft_not5; obtain ⟨hp0, hp1, hp2, hp3⟩ := draft_cells hh1; have hfa := (FrameD.alloc d W _).trans (FrameD.grown (d := d) hgrow1 (row_alloc hrow _)); have hba := ((Below.refl n₀ W).alloc hn₀ _).grown hgrow1 (by simp; omega) (own_base hrow); clear tok)
    | (at_builtin; refine Lib.wpList_append_own_string _ rfl _ _ 50 9 rfl n₀ 5 i0 Tryz.underlying50 Tryz.underlying9 hi hz0 hz1 hz2 _ _ _ rfl (row_set hown1 hh1 _) s rfl (by unfold maxLen; omega) (by omega) (by have := hba.size; simp; omega) ?_; intro v2 w2 hown2 hgrow2 _; obtain ⟨g2, cap2, rfl⟩ := row_form hown2 (by omega); have hh2 := (FrameD.grown (d := d + 1) hgrow2 (row_set hown1 hh1 _)).same d _ (heap_setCell_same _ _ _ _ _ _ hh1) (by omega) draft_not5'; obtain ⟨hq0, hq1, hq2, hq3⟩ := draft_cells hh2))
  go_end0
  have hlen : (l ++ (UInt8.ofNat s.size :: s.data.toList)).length = l.length + 1 + s.size := by
    rw [List.length_append, List.length_cons, size_list]; omega
  have h8 : (UInt8.ofNat s.size).toNat = s.size := by simp; omega
  have hcs : Lib.byteCells (l ++ (UInt8.ofNat s.size :: s.data.toList)) = Lib.byteCells l ++ [.int .u8 (s.size : Int)] ++ Lib.strCells s := by
    rw [Lib.strCells_eq]; simp [Lib.byteCells, h8]
  refine ⟨rfl, ⟨hn, g2, cap2, ?_, ?_⟩, ?_, ?_⟩
  · rw [hlen]; exact heap_setCell_same _ _ _ _ _ _ hh2
  · rw [hlen, hcs]; exact row_set hown2 hh2 _
  · exact ((hfa.trans (FrameD.set d 0 w1 _)).trans (FrameD.grown hgrow2 (row_set hown1 hh1 _))).trans (FrameD.set d 0 w2 _)
  · exact ((hba.setCell (p := ⟨d, 0, none⟩) hn _).grown hgrow2 (by have := hba.size; simp; omega) (own_base hown1)).setCell (p := ⟨d, 0, none⟩) hn _

/-- add, whatever the label is. -/
theorem add_in (W : World) (n₀ d : Nat) (l : List UInt8) (bad : Bool) (s : ByteArray) (hm : s.size ≤ maxLen) (hd : Draft W n₀ d l bad) (hl : l.length ≤ 400) (hn₀ : n₀ ≤ W.heap.size) :
    Calls Tryz.prog 232 #[.pointer (some ⟨d, 0, none⟩), .string s] W fun e w' => e = .returned (.tuple #[]) ∧ Draft w' n₀ d (addL l bad s.data.toList) (addBad bad s.data.toList) ∧ FrameD d W w' ∧ Below n₀ W w' := by
  by_cases h1 : 1 ≤ s.size ∧ s.size ≤ 63
  · have hb : addBad bad s.data.toList = bad := by simp only [addBad, size_list]; simp [h1]
    rw [hb]
    by_cases h2 : bad = true ∨ 255 ≤ l.length
    · have ha : addL l bad s.data.toList = l := if_neg (by
        rintro ⟨_, _, h3, h4⟩
        rcases h2 with h2 | h2
        · rw [h2] at h3; cases h3
        · omega)
      rw [ha]
      refine (add_skip W n₀ d l bad s hd hl h1.1 h1.2 h2).mono ?_
      rintro e w' ⟨he, rfl⟩
      exact ⟨he, hd, FrameD.refl _ _, Below.refl _ _⟩
    · have hbf : bad = false := by cases bad; rfl; simp at h2
      subst hbf
      have ha : addL l false s.data.toList = l ++ (UInt8.ofNat s.size :: s.data.toList) := by
        unfold addL; rw [size_list, if_pos ⟨h1.1, h1.2, rfl, by omega⟩]
      rw [ha]
      exact add_go W n₀ d l s hd (by omega) h1.1 h1.2 hn₀
  · have hb : addBad bad s.data.toList = true := by
      simp only [addBad, size_list, Bool.or_eq_true, decide_eq_true_iff]; exact .inr h1
    have ha : addL l bad s.data.toList = l := if_neg (by rw [size_list]; exact fun h => h1 ⟨h.1, h.2.1⟩)
    rw [hb, ha]
    exact add_bad W n₀ d l bad s hm hd (by omega)

theorem name_bad (W : World) (n₀ d : Nat) (l : List UInt8) (hd : Draft W n₀ d l true) :
    Calls Tryz.prog 233 #[.pointer (some ⟨d, 0, none⟩)] W fun e w' => e = .returned (.tuple #[.string ⟨#[]⟩, .int .i64 2]) ∧ w' = W := by
  obtain ⟨hn, g, cap, hh, hrow⟩ := hd
  obtain ⟨hc0, hc1, hf0, hf1⟩ := draft_cells hh
  clear hrow hh
  go_enter Tryz.func233, Tryz.ntmps233
  go_wp2
  go_ret2
  exact ⟨rfl, rfl⟩

theorem name_ok (W : World) (n₀ d : Nat) (l : List UInt8) (hl : l.length ≤ 400) (hd : Draft W n₀ d l false) :
    Calls Tryz.prog 233 #[.pointer (some ⟨d, 0, none⟩)] W fun e w' => e = .returned (if l.length + 1 ≤ 255 then .tuple #[.string ⟨(l ++ [0]).toArray⟩, .int .i64 0] else .tuple #[.string ⟨#[]⟩, .int .i64 3]) ∧ w' = W := by
  obtain ⟨hn, g, cap, hh, hrow⟩ := hd
  obtain ⟨hc0, hc1, hf0, hf1⟩ := draft_cells hh
  have hcv : (convert 50 9 (.slice (some ⟨g, 0, none⟩) l.length cap)).run Tryz.prog W = .ok (.string ⟨l.toArray⟩) W := by
    refine run_convert_bytes_back (P := Tryz.prog) W 50 9 5 ⟨g, 0, none⟩ cap l Tryz.underlying50 Tryz.underlying5 Tryz.underlying9 (fun j hj => ?_)
    rcases hrow.2 with ⟨h', _⟩ | ⟨g', cap', cur, hv, _, hg, _, _, _, ht⟩
    · cases h'
    · cases hv
      exact Lib.cells_of_row hg l.length j _ (by rw [Nat.mul_one] at ht; rw [ht]; simp [Lib.byteCells, hj])
  obtain ⟨t, ht⟩ : ∃ t : ByteArray, (⟨l.toArray⟩ : ByteArray) = t := ⟨_, rfl⟩
  have htz : t.size = l.length := by rw [← ht]; rfl
  have hts : t.size ≤ 400 := by omega
  have hcat : t ++ (⟨#[0]⟩ : ByteArray) = ⟨(l ++ [0]).toArray⟩ := by
    apply ba_ext
    rw [ByteArray.data_append, Array.toList_append, ← ht]
  have hcz : (⟨(l ++ [0]).toArray⟩ : ByteArray).size = l.length + 1 := by rw [ba_size]; simp
  rw [ht] at hcv
  have HC := Hid.mk' hcat
  clear hrow hh ht htz hcat
  by_cases h : l.length + 1 ≤ 255
  · rw [if_pos h]
    have hle : (⟨(l ++ [0]).toArray⟩ : ByteArray).size ≤ 255 := by rw [hcz]; exact h
    clear hcz
    go_enter Tryz.func233, Tryz.ntmps233
    go_wp2_with fail
    rw [HC.out]
    refine (limited_ok _ _ hle).mono ?_
    rintro e w' ⟨rfl, rfl⟩
    go_wp2
    go_ret2
    exact ⟨rfl, rfl⟩
  · rw [if_neg h]
    have hle : 255 < (⟨(l ++ [0]).toArray⟩ : ByteArray).size := by rw [hcz]; omega
    have hle2 : (⟨(l ++ [0]).toArray⟩ : ByteArray).size ≤ 2 * maxLen := by rw [hcz]; unfold maxLen; omega
    clear hcz
    go_enter Tryz.func233, Tryz.ntmps233
    go_wp2_with fail
    rw [HC.out]
    refine (limited_long _ _ hle2 hle).mono ?_
    rintro e w' ⟨rfl, rfl⟩
    go_wp2
    go_ret2
    exact ⟨rfl, rfl⟩

end Go.Proofs.YtaiakpigljcjbaaGreatDoor

/- hex: bytes as digits of four bits. -/
namespace Go.Proofs.YtaiakpigljcjbaaGreatDoor
set_option linter.unusedVariables false
open Go.RowKit

/-- the digit of a number below 32. -/
def dig (n : Nat) : UInt8 := if n < 10 then UInt8.ofNat (48 + n) else UInt8.ofNat (87 + n)
def hexB (b : UInt8) : List UInt8 := [dig (b.toNat / 16), dig (b.toNat % 16)]
def hexL (l : List UInt8) : List UInt8 := l.flatMap hexB
theorem hexL_snoc (l : List UInt8) (b : UInt8) : hexL (l ++ [b]) = hexL l ++ hexB b := by simp [hexL]
theorem hexL_len (l : List UInt8) : (hexL l).length = 2 * l.length := by
  induction l with
  | nil => rfl
  | cons b l ih => simp only [hexL, List.flatMap_cons, List.length_append, List.length_cons] at *; rw [ih]; simp [hexB]; omega

def digB : ByteArray := ⟨#[48, 49, 50, 51, 52, 53, 54, 55, 56, 57, 97, 98, 99, 100, 101, 102, 103, 104, 105, 106, 107, 108, 109, 110, 111, 112, 113, 114, 115, 116, 117, 118]⟩
theorem digB_at : ∀ (n : Nat) (h : n < 32), digB[n]'h = dig n := by
  have : ∀ n : Fin 32, digB[n.1]'n.2 = dig n.1 := by decide
  intro n h; exact this ⟨n, h⟩
theorem digs_at (n : Nat) (h : n < (⟨#[48, 49, 50, 51, 52, 53, 54, 55, 56, 57, 97, 98, 99, 100, 101, 102, 103, 104, 105, 106, 107, 108, 109, 110, 111, 112, 113, 114, 115, 116, 117, 118]⟩ : ByteArray).size) : (⟨#[48, 49, 50, 51, 52, 53, 54, 55, 56, 57, 97, 98, 99, 100, 101, 102, 103, 104, 105, 106, 107, 108, 109, 110, 111, 112, 113, 114, 115, 116, 117, 118]⟩ : ByteArray)[n]'h = dig n := digB_at n h

theorem bits_or_u16 (a b : Nat) (ha : a < 65536) (hb : b < 65536) : bits BinOp.or IntKind.u16 (a : Int) (b : Int) = ((a ||| b : Nat) : Int) := by
  have hx : a ||| b < 2 ^ 16 := Nat.or_lt_two_pow (by omega) (by omega)
  have h1 : (BitVec.ofInt 16 (a : Int)).toNat = a := by
    rw [BitVec.ofInt_natCast, BitVec.toNat_ofNat]; exact Nat.mod_eq_of_lt (by omega)
  have h2 : (BitVec.ofInt 16 (b : Int)).toNat = b := by
    rw [BitVec.ofInt_natCast, BitVec.toNat_ofNat]; exact Nat.mod_eq_of_lt (by omega)
  show IntKind.u16.wrap ((BitVec.ofInt 16 (a : Int) ||| BitVec.ofInt 16 (b : Int)).toNat : Int) = _
  rw [BitVec.toNat_or, h1, h2, IntKind.wrap_u16]
  omega
theorem bits_and_u16 (a b : Nat) (ha : a < 65536) (hb : b < 65536) : bits BinOp.and IntKind.u16 (a : Int) (b : Int) = ((a &&& b : Nat) : Int) := by
  have hx : a &&& b < 2 ^ 16 := Nat.and_lt_two_pow _ (by omega)
  have h1 : (BitVec.ofInt 16 (a : Int)).toNat = a := by
    rw [BitVec.ofInt_natCast, BitVec.toNat_ofNat]; exact Nat.mod_eq_of_lt (by omega)
  have h2 : (BitVec.ofInt 16 (b : Int)).toNat = b := by
    rw [BitVec.ofInt_natCast, BitVec.toNat_ofNat]; exact Nat.mod_eq_of_lt (by omega)
  show IntKind.u16.wrap ((BitVec.ofInt 16 (a : Int) &&& BitVec.ofInt 16 (b : Int)).toNat : Int) = _
  rw [BitVec.toNat_and, h1, h2, IntKind.wrap_u16]
  omega
theorem held_next (h b : Nat) (hb : b < 256) : bits BinOp.or IntKind.u16 (IntKind.u16.wrap ((h : Int) * 256)) (b : Int) = ((h % 256 * 256 + b : Nat) : Int) := by
  have e : IntKind.u16.wrap ((h : Int) * 256) = ((h % 256 * 256 : Nat) : Int) := by rw [IntKind.wrap_u16]; omega
  rw [e, bits_or_u16 _ _ (by omega) (by omega)]
  congr 1
  have := Nat.two_pow_add_eq_or_of_lt (i := 8) (b := b) (by omega) (h % 256)
  rw [show h % 256 * 256 = 2 ^ 8 * (h % 256) by omega, ← this]

/-- 'append' to a row of one's own, as one step of a region that draws. -/
theorem step_append_own {w : World} {ops : Array Oper} {o : Oper} {a : Act} {K : Act → World → Prop} {Q : Exit → Act → World → Prop} {E : Prop} (hgd : o.guard = none) (s x : Operand) (t : TypeId)
    (ho : o.op = .call { callee := .builtin .append, args := #[s, x], argTypes := #[t, t] })
    (base : Nat) (e : TypeId) (i : TypeInfo) (z : Value) (size bytes : Nat) (ht : Tryz.prog.underlying t = some (.slice e)) (hi : Tryz.prog.info? e = some i) (hz : i.zero = some z)
    (hsize : i.size = size) (hby : i.bytes = bytes) (hzs : z.cells.size = size) (hsz : 0 < size)
    (v : Value) (n : Nat) (xs : List Value) (hs : a.eval s = v) (hown : w.ownsRow base e size v n xs)
    (ad : Addr) (m c : Nat) (news : List Value) (hx : a.eval x = .slice (some ad) m c) (hl : news.length = m * size) (hnews : ∀ j u, news[j]? = some u → w.cell? (ad.add j) = some u) (h1 : ∀ u ∈ news, u.oneCell' = true)
    (h63 : n + m ≤ maxLen) (hbytes : (n + m) * bytes ≤ 140737488355328) (hbase : base ≤ w.heap.size)
    (h : ∀ v' w', w'.ownsRow base e size v' (n + m) (xs ++ news) → w.grownBy w' v.ownBlock → K (a.put o.dst v') w') :
    if Region.wanted o (yielded ops a.tmps) = true then Oper.wp Tryz.prog o a w K Q else E := by
  have hw : Region.wanted o (yielded ops a.tmps) = true := by simp [Region.wanted, hgd]
  rw [if_pos hw]
  exact wp_append_own w s x t ho base e i z size bytes ht hi hz hsize hby hzs hsz v n xs hs hown ad m c news hx hl hnews h1 h63 hbytes hbase fun v' w' h2 h3 _ => h v' w' h2 h3

set_option maxRecDepth 100000 in
set_option maxHeartbeats 4000000 in
theorem spelt4_in (s : ByteArray) (hs : s.size ≤ 2000) (w : World) :
    Calls Tryz.prog 202 #[.string s, .int .i64 4] w fun e w' => e = .returned (.string ⟨(hexL s.data.toList).toArray⟩) ∧ Below w.heap.size w w' := by
  obtain ⟨i0, hi, hz0, hz1, hz2⟩ := info_parts info5
  go_enter Tryz.func202, Tryz.ntmps202
  go_wp2
  go_loopw [5, 6, 7, 11] (fun tv hv bv i wr => ∃ (k h : Nat), k ≤ s.size ∧ h < 65536 ∧ i = .int .i64 k ∧ hv = .int .u16 h ∧ bv = .int .i64 0 ∧ wr.ownsRow w.heap.size 5 1 tv (hexL (s.data.toList.take k)).length (Lib.byteCells (hexL (s.data.toList.take k))) ∧ Below w.heap.size w wr) (fun _ _ _ i _ => s.size - (intOf i).toNat)
  case atStart => exact ⟨0, 0, Nat.zero_le _, by omega, rfl, rfl, rfl, World.ownsRow_nil .., Below.refl _ _⟩
  case round =>
    obtain ⟨wo, rfl⟩ : ∃ wo : World, wo = wr := ⟨_, rfl⟩
    obtain ⟨k, h, hk, hh, rfl, rfl, rfl, hrow, hbl⟩ := hrel
    by_cases hlt : k < s.size
    · have hb8 := s[k].toNat_lt
      have hhn := held_next h s[k].toNat (by omega)
      obtain ⟨g, hg⟩ : ∃ g : Nat, g = h % 256 * 256 + s[k].toNat := ⟨_, rfl⟩
      rw [← hg] at hhn
      have hg1 : g < 65536 := by omega
      have HG2 : Hid (g / 16 % 16 = s[k].toNat / 16) := by rw [Hid]; omega
      have HG3 : Hid (g % 16 = s[k].toNat % 16) := by rw [Hid]; omega
      have hnx : hexL (s.data.toList.take (k + 1)) = hexL (s.data.toList.take k) ++ hexB s[k] := by
        rw [List.take_succ_eq_append_getElem (by rw [size_list]; exact hlt), hexL_snoc]; rfl
      have HNX := Hid.mk hnx
      have hL := hexL_len (s.data.toList.take k)
      rw [List.length_take] at hL
      have hLl : (hexL (s.data.toList.take k)).length ≤ 4000 := by omega
      clear hnx hg hL
      generalize hexL (s.data.toList.take k) = T at hrow HNX hLl
      go_wp2
      clear hhn
      go_loopw [5, 7] (fun tv bv wr => ∃ j : Nat, j ≤ 2 ∧ bv = .int .i64 ((8 - 4 * j : Nat) : Int) ∧ wr.ownsRow w.heap.size 5 1 tv (T ++ (hexB s[k]).take j).length (Lib.byteCells (T ++ (hexB s[k]).take j)) ∧ Below w.heap.size w wr) (fun _ bv _ => (intOf bv).toNat)
      case atStart => exact ⟨0, by omega, rfl, by simpa using hrow, hbl⟩
      case round =>
        obtain ⟨j, hj, rfl, hrw, hbl2⟩ := hrel
        have hsz2 := hbl2.size
        have hw16 : IntKind.u16.wrap 16 = 16 := by rw [IntKind.wrap_u16]; rfl
        have hw15 : IntKind.u16.wrap 15 = 15 := by rw [IntKind.wrap_u16]; rfl
        have HAND : Hid (∀ x q : Nat, x < 65536 → x % 16 = q → bits BinOp.and IntKind.u16 (x : Int) 15 = (q : Int)) := by
          intro x q hx hq
          have h1 := bits_and_u16 x 15 (by omega) (by omega)
          have h2 := Nat.and_two_pow_sub_one_eq_mod x 4
          simp at h2
          rw [h2, hq] at h1
          exact h1
        rcases (show j = 0 ∨ j = 1 ∨ j = 2 by omega) with rfl | rfl | rfl
        · obtain ⟨q, hq⟩ : ∃ q, q = s[k].toNat / 16 := ⟨_, rfl⟩
          have hd1 : bits BinOp.and IntKind.u16 ((g : Int) / 16) 15 = (q : Int) := by
            rw [show ((g : Int) / 16) = ((g / 16 : Nat) : Int) by omega]
            exact HAND.out _ _ (by omega) (by rw [hq]; exact HG2.out)
          have hq16 : q < 16 := by omega
          have hq32 : (q : Int) < 32 := by omega
          have hdg := digs_at q
          have HX : Hid (T ++ (hexB s[k]).take 1 = T ++ (hexB s[k]).take 0 ++ [dig q]) := by rw [Hid, hexB, ← hq]; simp
          clear hq
          go_wp2
          go_region_law (refine step_append_own rfl (.tmp 29) (.tmp 38) 50 rfl w.heap.size 5 i0 (.int .u8 0) 1 1 Tryz.underlying50 hi hz0 hz1 hz2 rfl (by decide) _ _ _ rfl (row_alloc (W := wr.drew) hrw _) ⟨wr.heap.size, 0, none⟩ 1 1 [.int .u8 ((dig q).toNat : Int)] rfl rfl (cell_one_new _ _ _) (by simp [Value.oneCell']) (by unfold maxLen; simp; omega) (by simp; omega) (by simp; omega) ?_; intro v1 w1 hown1 hgrow1)
          go_wp2
          have hrel1 : ∃ j : Nat, j ≤ 2 ∧ Value.int .i64 4 = .int .i64 ((8 - 4 * j : Nat) : Int) ∧ w1.ownsRow w.heap.size 5 1 v1 (T ++ (hexB s[k]).take j).length (Lib.byteCells (T ++ (hexB s[k]).take j)) ∧ Below w.heap.size w w1 := by
            refine ⟨1, by omega, rfl, ?_, (hbl2.drew.alloc hsz2 _).grown hgrow1 (by simp; omega) (own_base (W := wr.drew) hrw)⟩
            rw [HX.out, List.length_append, byteCells_snoc]; exact hown1
          go_roundw
          case rel =>
            (repeat apply Exists.intro)
            exact ⟨hrel1, rfl⟩
          case measure => exact (show (4 : Nat) < 8 by omega)
        · obtain ⟨q, hq⟩ : ∃ q, q = s[k].toNat % 16 := ⟨_, rfl⟩
          have hd1 : bits BinOp.and IntKind.u16 (g : Int) 15 = (q : Int) := HAND.out _ _ (by omega) (by rw [hq]; exact HG3.out)
          have hq16 : q < 16 := by omega
          have hq32 : (q : Int) < 32 := by omega
          have hdg := digs_at q
          have HX : Hid (T ++ (hexB s[k]).take 2 = T ++ (hexB s[k]).take 1 ++ [dig q]) := by rw [Hid, hexB, ← hq]; simp
          clear hq
          go_wp2
          go_region_law (refine step_append_own rfl (.tmp 29) (.tmp 38) 50 rfl w.heap.size 5 i0 (.int .u8 0) 1 1 Tryz.underlying50 hi hz0 hz1 hz2 rfl (by decide) _ _ _ rfl (row_alloc (W := wr.drew) hrw _) ⟨wr.heap.size, 0, none⟩ 1 1 [.int .u8 ((dig q).toNat : Int)] rfl rfl (cell_one_new _ _ _) (by simp [Value.oneCell']) (by unfold maxLen; simp; omega) (by simp; omega) (by simp; omega) ?_; intro v1 w1 hown1 hgrow1)
          go_wp2
          have hrel2 : ∃ j : Nat, j ≤ 2 ∧ Value.int .i64 0 = .int .i64 ((8 - 4 * j : Nat) : Int) ∧ w1.ownsRow w.heap.size 5 1 v1 (T ++ (hexB s[k]).take j).length (Lib.byteCells (T ++ (hexB s[k]).take j)) ∧ Below w.heap.size w w1 := by
            refine ⟨2, by omega, rfl, ?_, (hbl2.drew.alloc hsz2 _).grown hgrow1 (by simp; omega) (own_base (W := wr.drew) hrw)⟩
            rw [HX.out, List.length_append, byteCells_snoc]; exact hown1
          go_roundw
          case rel =>
            (repeat apply Exists.intro)
            exact ⟨hrel2, rfl⟩
          case measure => exact (show (0 : Nat) < 4 by omega)
        · go_wp2
          refine ⟨⟨k + 1, g, by omega, hg1, by go_num, rfl, rfl, ?_, hbl2⟩, by simp [intOf]; omega⟩
          rw [HNX.out]; exact hrw
    · have hall : s.data.toList.take k = s.data.toList := List.take_of_length_le (by rw [size_list]; omega)
      rw [hall] at hrow
      clear hall
      obtain ⟨T, hT⟩ : ∃ T, hexL s.data.toList = T := ⟨_, rfl⟩
      rw [hT] at hrow
      have HT := Hid.mk hT
      clear hT
      rcases hrow.2 with ⟨rfl, h0⟩ | ⟨g', cap', cur, rfl, _, hg, _, _, _, ht⟩
      · obtain rfl : T = [] := List.length_eq_zero_iff.1 h0
        have hcv : ∀ W : World, (convert 50 9 (.slice none 0 0)).run Tryz.prog W = .ok (.string ⟨#[]⟩) W := fun W => by kernel_rfl
        go_wp2
        go_ret
        exact ⟨by rw [HT.out]; rfl, hbl⟩
      · have hcv := run_convert_bytes_back (P := Tryz.prog) wo 50 9 5 ⟨g', 0, none⟩ cap' T Tryz.underlying50 Tryz.underlying5 Tryz.underlying9 (fun j hj => Lib.cells_of_row (w := wo) hg T.length j _ (by rw [Nat.mul_one] at ht; rw [ht]; simp [Lib.byteCells, hj]))
        clear hg ht hrow
        go_wp2
        go_ret
        exact ⟨by rw [HT.out]; rfl, hbl⟩

theorem hex_in (s : ByteArray) (hs : s.size ≤ 2000) (w : World) :
    Calls Tryz.prog 163 #[.string s] w fun e w' => e = .returned (.string ⟨(hexL s.data.toList).toArray⟩) ∧ Below w.heap.size w w' := by
  go_enter Tryz.func163, Tryz.ntmps163
  go_wp2_with fail
  refine (spelt4_in s hs _).mono ?_
  rintro e w1 ⟨rfl, hb⟩
  go_wp2
  go_ret
  exact ⟨rfl, hb⟩
end Go.Proofs.YtaiakpigljcjbaaGreatDoor

/- TypeText, TypeOf. -/
namespace Go.Proofs.YtaiakpigljcjbaaGreatDoor
set_option linter.unusedVariables false
open Go.RowKit Go.Sort

/-- the types with texts of their own. -/
def tab : List (Int × List UInt8) := [(1, [65]), (2, [78, 83]), (5, [67, 78, 65, 77, 69]), (6, [83, 79, 65]), (15, [77, 88]), (16, [84, 88, 84]), (28, [65, 65, 65, 65]), (39, [68, 78, 65, 77, 69]), (41, [79, 80, 84]), (43, [68, 83]), (46, [82, 82, 83, 73, 71]), (47, [78, 83, 69, 67]), (48, [68, 78, 83, 75, 69, 89]), (50, [78, 83, 69, 67, 51]), (255, [65, 78, 89])]
/-- the cells of typeTexts. -/
def tabCells : List Value := [.int .i64 1, .string ⟨#[65]⟩, .int .i64 2, .string ⟨#[78, 83]⟩, .int .i64 5, .string ⟨#[67, 78, 65, 77, 69]⟩, .int .i64 6, .string ⟨#[83, 79, 65]⟩, .int .i64 15, .string ⟨#[77, 88]⟩, .int .i64 16, .string ⟨#[84, 88, 84]⟩, .int .i64 28, .string ⟨#[65, 65, 65, 65]⟩, .int .i64 39, .string ⟨#[68, 78, 65, 77, 69]⟩, .int .i64 41, .string ⟨#[79, 80, 84]⟩, .int .i64 43, .string ⟨#[68, 83]⟩, .int .i64 46, .string ⟨#[82, 82, 83, 73, 71]⟩, .int .i64 47, .string ⟨#[78, 83, 69, 67]⟩, .int .i64 48, .string ⟨#[68, 78, 83, 75, 69, 89]⟩, .int .i64 50, .string ⟨#[78, 83, 69, 67, 51]⟩, .int .i64 255, .string ⟨#[65, 78, 89]⟩]
/-- typeTexts lies there as its text lays it. -/
def Types (W : World) : Prop := ∀ i v, tabCells[i]? = some v → W.cell? ⟨1, i, none⟩ = some v

theorem cell_block {w : World} {a : Addr} {v : Value} (h : w.cell? a = some v) : a.block < w.heap.size := by
  apply Classical.byContradiction
  intro hn
  have : w.heap[a.block]? = none := by simp; omega
  simp [World.cell?, this] at h
theorem Types.below {W W' : World} (h : Types W) (hb : Below W.heap.size W W') : Types W' := fun i v hv =>
  (hb.cell (p := ⟨1, i, none⟩) (cell_block (h i v hv))).trans (h i v hv)

theorem types_load {W : World} (h : Types W) : (loadCells ⟨1, 0, none⟩ tabCells.length).run Tryz.prog W = .ok tabCells.toArray W :=
  run_loadCells_list (P := Tryz.prog) W ⟨1, 0, none⟩ tabCells (fun j v hv => by
    have hadd : (⟨1, 0, none⟩ : Addr).add j = ⟨1, j, none⟩ := by unfold Addr.add; split <;> simp_all
    rw [hadd]; exact h j v hv)

theorem types_agg (W : World) : (isAgg 206).run Tryz.prog W = .ok true W := by kernel_rfl
theorem types_size (W : World) : (Go.sizeOf 206).run Tryz.prog W = .ok tabCells.length W := by kernel_rfl
theorem types_var {W : World} (h : Types W) : (Instr.loadAt 206 (.pointer (some ⟨1, 0, none⟩))).run Tryz.prog W = .ok (.agg tabCells.toArray) W := by
  simp only [Instr.loadAt, Instr.sureAddr, Sem.run_bind, Sem.run_pure, Result.andThen, loadVar, types_agg, types_size, types_load h, if_true]

/-- one operation of a region that yields a value and leaves the world. -/
theorem wpList_run {ops : Array Oper} {rest : List Oper} {o : Oper} {a : Act} {W : World} {Q : Exit → Act → World → Prop} {v : Value} (hgd : o.guard = none)
    (hrun : (execOp a.eval o).run Tryz.prog W = .ok (.value v) W) (h : wpList Tryz.prog ops Q rest (a.put o.dst v) W) : wpList Tryz.prog ops Q (o :: rest) a W :=
  wpList_plain hgd fun K hK => by
    unfold Oper.wp
    rw [hrun]
    exact hK _ _ h

/-- the text of a type's own, if it has one. -/
def own? (k : Int) : Option (List UInt8) := (tab.find? (fun r => r.1 == k)).map (·.2)

theorem tab_at (k : Nat) (hk : k < 15) : ∃ kd tx, tab[k]? = some (kd, tx) ∧ own? kd = some tx ∧ (∀ W : World, (Instr.index 206 (.agg tabCells.toArray) (.int .i64 (k : Int))).run Tryz.prog W = .ok (.agg #[.int .i64 kd, .string ⟨tx.toArray⟩]) W) := by
  rcases (show k = 0 ∨ k = 1 ∨ k = 2 ∨ k = 3 ∨ k = 4 ∨ k = 5 ∨ k = 6 ∨ k = 7 ∨ k = 8 ∨ k = 9 ∨ k = 10 ∨ k = 11 ∨ k = 12 ∨ k = 13 ∨ k = 14 by omega) with rfl | rfl | rfl | rfl | rfl | rfl | rfl | rfl | rfl | rfl | rfl | rfl | rfl | rfl | rfl
  all_goals exact ⟨_, _, rfl, rfl, fun W => by kernel_rfl⟩

theorem own_all {k : Int} (h : ∀ j, j < 15 → ∀ e, tab[j]? = some e → e.1 ≠ k) : own? k = none := by
  rw [own?, Option.map_eq_none_iff, List.find?_eq_none]
  intro e he
  obtain ⟨j, hj, hje⟩ := List.getElem_of_mem he
  have := h j (by have : tab.length = 15 := rfl; omega) e (by rw [List.getElem?_eq_getElem hj, hje])
  simpa using this

theorem isType_yes {k : Int} (hk : 0 ≤ k ∧ k ≤ 65535) (w : World) : Calls Tryz.prog 109 #[.int .i64 k] w fun e w' => e = .returned (.bool true) ∧ w' = w := by
  have := isType_in k w
  rwa [show decide (0 ≤ k ∧ k ≤ 65535) = true by simp [hk]] at this

set_option maxRecDepth 100000 in
set_option maxHeartbeats 2000000 in
theorem typeText_own (k : Int) (hk : 0 ≤ k ∧ k ≤ 65535) (t : List UInt8) (ht : own? k = some t) (w : World) (hT : Types w) :
    Calls Tryz.prog 204 #[.int .i64 k] w fun e w' => e = .returned (.tuple #[.string ⟨t.toArray⟩, .int .i64 0]) ∧ Below w.heap.size w w' := by
  have HK := Hid.mk hk
  have HT := Hid.mk ht
  clear hk ht
  have HL := Hid.mk (types_var hT)
  clear hT
  go_enter Tryz.func204, Tryz.ntmps204
  go_wp2_with fail
  refine (isType_yes HK.out _).mono ?_
  rintro e w1 ⟨rfl, rfl⟩
  go_upto_region 3 with fail
  refine wp_region_lit ?_
  refine wpList_run (v := .agg tabCells.toArray) rfl ?_ ?_
  · simp only [execOp, Act.eval]
    rw [Sem.run_bind, HL.out]; rfl
  go_wp2
  go_loopw [10] (fun i wr => ∃ m : Nat, m ≤ 15 ∧ i = .int .i64 m ∧ Hid (∀ j, j < m → ∀ e, tab[j]? = some e → e.1 ≠ k) ∧ Below w1.heap.size w1 wr) (fun i _ => 15 - (intOf i).toNat)
  case atStart => exact ⟨0, by omega, rfl, fun j hj => absurd hj (by omega), Below.refl _ _⟩
  case round =>
    obtain ⟨m, hm, rfl, hno, hbl⟩ := hrel
    have hsz := hbl.size
    by_cases hlt : m < 15
    · obtain ⟨kd, tx, htab, hown, hix⟩ := tab_at m hlt
      by_cases he : kd = k
      · subst he
        have hte : t = tx := Option.some.inj (HT.out.symm.trans hown)
        subst hte
        clear hno htab hown
        go_wp2
        go_ret2
        exact ⟨rfl, hbl.alloc hsz _⟩
      · have heb : (kd == k) = false := by rw [beq_eq_false_iff_ne]; exact he
        have HN : Hid (∀ j, j < m + 1 → ∀ e, tab[j]? = some e → e.1 ≠ k) := by
          intro j hj e hje
          by_cases hjm : j = m
          · subst hjm; rw [htab] at hje; cases hje; exact he
          · exact hno.out j (by omega) e hje
        clear hno htab hown he
        go_wp2
        go_roundw
        case rel => exact ⟨m + 1, by omega, by go_num, HN, hbl.alloc hsz _⟩
        case measure => simp [intOf]; omega
    · exfalso
      have := own_all (k := k) (fun j hj => hno.out j (by omega))
      rw [HT.out] at this; cases this

/-- the table of powers of ten lies there. -/
def Pow (W : World) : Prop := Lib.TabIs Tryz.prog W "internal/strconv.uint64pow10" .u64 Lib.pow10Tab
theorem Pow.below {W W' : World} (h : Pow W) (hb : Below W.heap.size W W') : Pow W' := (Lib.tabBelow_of_tabIs h) W' hb

theorem below_grown (w : World) (k : Nat) (os : Array Obj) : Below w.heap.size w (grow (w.drewN k) os) := by
  refine ⟨rfl, rfl, rfl, by simp [grow], fun b hb => ?_⟩
  simp [grow, Array.getElem?_append_left hb]

theorem itoa_in (n : Nat) (hn : n ≤ 65535) (w : World) (hp : Pow w) : Calls Tryz.prog 186 #[.int .i64 (n : Int)] w fun e w' => e = .returned (.string ⟨(Lib.decDigits n).toArray⟩) ∧ Below w.heap.size w w' := by
  refine (Tryz.strconv_Itoa (n : Int) (by omega) (by omega) w hp).mono ?_
  rintro e w' ⟨rfl, k, os, rfl⟩
  exact ⟨by rw [Lib.itoa, if_neg (by omega)]; rfl, below_grown w k os⟩

theorem dec_len : ∀ (n k : Nat), k < 10 ^ (n + 1) → (Lib.decDigits k).length ≤ n + 1
  | 0, k, h => by rw [Lib.decDigits, dif_pos (by simpa using h)]; simp
  | n + 1, k, h => by
    rw [Lib.decDigits]
    split
    · simp
    · have h1 : k / 10 < 10 ^ (n + 1) := by rw [Nat.div_lt_iff_lt_mul (by omega)]; rw [Nat.pow_succ] at h; exact h
      have := dec_len n (k / 10) h1
      rw [List.length_append, List.length_singleton]; omega

/-- how a type is told. -/
def typeT (k : Nat) : List UInt8 := match own? (k : Int) with
  | some t => t
  | none => [84, 89, 80, 69] ++ Lib.decDigits k

set_option maxRecDepth 100000 in
set_option maxHeartbeats 2000000 in
theorem typeText_num (k : Nat) (hk : k ≤ 65535) (ht : own? (k : Int) = none) (w : World) (hT : Types w) (hP : Pow w) :
    Calls Tryz.prog 204 #[.int .i64 (k : Int)] w fun e w' => e = .returned (.tuple #[.string ⟨([84, 89, 80, 69] ++ Lib.decDigits k).toArray⟩, .int .i64 0]) ∧ Below w.heap.size w w' := by
  have HK := Hid.mk hk
  have HT := Hid.mk ht
  clear hk ht
  have HL := Hid.mk (types_var hT)
  clear hT
  have hcat : (⟨#[84, 89, 80, 69]⟩ : ByteArray) ++ ⟨(Lib.decDigits k).toArray⟩ = ⟨([84, 89, 80, 69] ++ Lib.decDigits k).toArray⟩ := by
    apply ba_ext
    rw [ByteArray.data_append, Array.toList_append]
  have HC := Hid.mk hcat
  clear hcat
  have hdl := dec_len 4 k (by have := HK.out; omega)
  have HI := Hid.mk (itoa_in k HK.out)
  generalize Lib.decDigits k = ds at HC HI hdl ⊢
  obtain ⟨u, hu⟩ : ∃ u : ByteArray, (⟨ds.toArray⟩ : ByteArray) = u := ⟨_, rfl⟩
  have huz : u.size ≤ 5 := by rw [← hu, ba_size]; exact hdl
  rw [hu] at HC HI
  have HU := Hid.mk hu
  clear hu hdl
  go_enter Tryz.func204, Tryz.ntmps204
  go_wp2_with fail
  refine (isType_yes ⟨by omega, by have := HK.out; omega⟩ _).mono ?_
  rintro e w1 ⟨rfl, rfl⟩
  go_upto_region 3 with fail
  refine wp_region_lit ?_
  refine wpList_run (v := .agg tabCells.toArray) rfl ?_ ?_
  · simp only [execOp, Act.eval]
    rw [Sem.run_bind, HL.out]; rfl
  go_wp2
  go_loopw [10] (fun i wr => ∃ m : Nat, m ≤ 15 ∧ i = .int .i64 m ∧ Below w1.heap.size w1 wr) (fun i _ => 15 - (intOf i).toNat)
  case atStart => exact ⟨0, by omega, rfl, Below.refl _ _⟩
  case round =>
    obtain ⟨m, hm, rfl, hbl⟩ := hrel
    have hsz := hbl.size
    by_cases hlt : m < 15
    · obtain ⟨kd, tx, htab, hown, hix⟩ := tab_at m hlt
      have heb : (kd == (k : Int)) = false := by
        rw [beq_eq_false_iff_ne]
        intro he
        rw [he, HT.out] at hown; cases hown
      clear htab hown
      go_wp2
      go_roundw
      case rel => exact ⟨m + 1, by omega, by go_num, hbl.alloc hsz _⟩
      case measure => simp [intOf]; omega
    · go_wp2_with fail
      refine (HI.out _ (hP.below hbl)).mono ?_
      rintro e w2 ⟨rfl, hb2⟩
      go_wp2
      go_ret2
      refine ⟨?_, hbl.trans (hb2.mono hsz)⟩
      show Ending.returned (.tuple #[.string ((⟨#[84, 89, 80, 69]⟩ : ByteArray) ++ u), .int .i64 0]) = Ending.returned (.tuple #[.string ⟨([84, 89, 80, 69] ++ ds).toArray⟩, .int .i64 0])
      rw [HC.out]

theorem typeText_in (k : Nat) (hk : k ≤ 65535) (w : World) (hT : Types w) (hP : Pow w) :
    Calls Tryz.prog 204 #[.int .i64 (k : Int)] w fun e w' => e = .returned (.tuple #[.string ⟨(typeT k).toArray⟩, .int .i64 0]) ∧ Below w.heap.size w w' := by
  unfold typeT
  cases h : own? (k : Int) with
  | some t => exact typeText_own k ⟨by omega, by omega⟩ t h w hT
  | none => exact typeText_num k hk h w hT hP
theorem typeText_no (k : Int) (hk : ¬ (0 ≤ k ∧ k ≤ 65535)) (w : World) :
    Calls Tryz.prog 204 #[.int .i64 k] w fun e w' => e = .returned (.tuple #[.string ⟨#[]⟩, .int .i64 1]) ∧ w' = w := by
  have H := Hid.mk (isType_in k)
  rw [show decide (0 ≤ k ∧ k ≤ 65535) = false by simp only [decide_eq_false_iff_not]; exact hk] at H
  clear hk
  go_enter Tryz.func204, Tryz.ntmps204
  go_wp2_with fail
  refine (H.out _).mono ?_
  rintro e w1 ⟨rfl, rfl⟩
  go_wp2
  go_ret2
  exact ⟨rfl, rfl⟩
end Go.Proofs.YtaiakpigljcjbaaGreatDoor

/- Types that are none of the table: their text. -/
namespace Go.Proofs.YtaiakpigljcjbaaGreatDoor
set_option linter.unusedVariables false
open Go.RowKit

theorem ba_app (a b : List UInt8) : (⟨a.toArray⟩ : ByteArray) ++ (⟨b.toArray⟩ : ByteArray) = ⟨(a ++ b).toArray⟩ := by
  apply ba_ext
  rw [ByteArray.data_append, Array.toList_append]

/-- how bytes of no known form are told. -/
def anyT (x : ByteArray) : List UInt8 := [92, 35, 32] ++ Lib.decDigits x.size ++ (if x.size = 0 then [] else [32] ++ hexL x.data.toList)

set_option maxRecDepth 100000 in
set_option maxHeartbeats 1000000 in
theorem anyTell_in (x : ByteArray) (hx : x.size ≤ 2000) (w : World) (hp : Pow w) :
    Calls Tryz.prog 185 #[.string x] w fun e w' => e = .returned (.string ⟨(anyT x).toArray⟩) ∧ Below w.heap.size w w' := by
  have hdl := dec_len 4 x.size (by omega)
  have HI := Hid.mk (itoa_in x.size (by omega) w hp)
  have HH := Hid.mk (hex_in x hx)
  have hhl := hexL_len x.data.toList
  rw [size_list] at hhl
  unfold anyT
  generalize Lib.decDigits x.size = ds at HI hdl ⊢
  generalize hexL x.data.toList = hs at HH hhl ⊢
  obtain ⟨u, hu⟩ : ∃ u : ByteArray, (⟨ds.toArray⟩ : ByteArray) = u := ⟨_, rfl⟩
  obtain ⟨t, ht⟩ : ∃ t : ByteArray, (⟨hs.toArray⟩ : ByteArray) = t := ⟨_, rfl⟩
  have huz : u.size ≤ 5 := by rw [← hu, ba_size]; exact hdl
  have htz : t.size ≤ 4000 := by rw [← ht, ba_size]; omega
  rw [hu] at HI
  rw [ht] at HH
  by_cases h0 : x.size = 0
  · rw [if_pos h0]
    have HR : Hid ((⟨#[92, 35, 32]⟩ : ByteArray) ++ u = ⟨([92, 35, 32] ++ ds ++ []).toArray⟩) := by
      rw [Hid, ← hu, List.append_nil]; exact ba_app [92, 35, 32] ds
    obtain rfl : x = ⟨#[]⟩ := ByteArray.ext (Array.eq_empty_of_size_eq_zero h0)
    clear hu ht
    go_enter Tryz.func185, Tryz.ntmps185
    go_wp2_with fail
    refine HI.out.mono ?_
    rintro e w1 ⟨rfl, hb1⟩
    go_wp2
    go_ret
    exact ⟨congrArg (fun b => Ending.returned (.string b)) HR.out, hb1⟩
  · rw [if_neg h0]
    have HR : Hid ((⟨#[92, 35, 32]⟩ : ByteArray) ++ u ++ ((⟨#[32]⟩ : ByteArray) ++ t) = ⟨([92, 35, 32] ++ ds ++ ([32] ++ hs)).toArray⟩) := by
      rw [Hid, ← hu, ← ht]
      have e1 := ba_app [92, 35, 32] ds
      have e2 := ba_app [32] hs
      have e3 := ba_app ([92, 35, 32] ++ ds) ([32] ++ hs)
      rw [← e3, ← e1, ← e2]
    have hne2 : (x.toList == []) = false := by
      rw [beq_eq_false_iff_ne, ByteArray.toList_eq]
      intro e; apply h0; rw [← size_list, e]; rfl
    have hne : (!x.toList.isEmpty) = true := by
      rw [ByteArray.toList_eq]
      cases hl : x.data.toList with
      | nil => exfalso; apply h0; rw [← size_list, hl]; rfl
      | cons a l => rfl
    clear hu ht
    go_enter Tryz.func185, Tryz.ntmps185
    go_wp2_with fail
    refine HI.out.mono ?_
    rintro e w1 ⟨rfl, hb1⟩
    go_wp2_with fail
    refine (HH.out _).mono ?_
    rintro e w2 ⟨rfl, hb2⟩
    go_wp2
    go_ret
    exact ⟨congrArg (fun b => Ending.returned (.string b)) HR.out, bth hb1 hb2 hb1.size⟩

def otherForm : Form := { n := 1, pf := otherPf, tf := fun _ x => ⟨(anyT x).toArray⟩, ok := fun _ x => x.size ≤ 2000 }

theorem form_other (k : Int) (hk : tabled k = false) (w : World) (hp : Pow w) : Calls Tryz.prog 113 #[.int .i64 k] w fun e w' => FormPost otherForm w e w' := by
  refine (partsOf_other k hk w).mono ?_
  rintro e w1 ⟨g, hg, rfl, hc, hb⟩
  refine ⟨g, fun _ => otherPart, rfl, one_part hc, fun _ _ => enters_by Tryz.func184 (by kernel_rfl) rfl, ?_, hb, fun _ _ => enters_by Tryz.func185 (by kernel_rfl) rfl, ?_⟩
  · intro k _ W' d s' _ _ hr hs
    exact anyPass_in W' d s' hs hr
  · intro k _ W' x hb' hx
    exact anyTell_in x hx W' ((hp.below hb).below hb')

theorem anyT_len (x : ByteArray) (hx : x.size ≤ 2000) : (anyT x).length ≤ 5000 := by
  have h1 := dec_len 4 x.size (by omega)
  have h2 := hexL_len x.data.toList
  rw [size_list] at h2
  unfold anyT
  split <;> simp <;> omega

/-! ### Text -/
end Go.Proofs.YtaiakpigljcjbaaGreatDoor
