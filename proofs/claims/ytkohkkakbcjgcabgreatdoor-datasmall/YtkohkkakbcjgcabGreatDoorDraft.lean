/- The draft of a name: newDraft, add, name. -/
import Derived.Lib.AppendStr
import Derived.Maps.AppendAt
import Derived.RangeFuncBox
import Derived.Test.YtkohkkakbcjgcabGreatDoorLowered
namespace Go.Proofs.YtkohkkakbcjgcabGreatDoor
set_option linter.unusedVariables false
open Go.RowKit

/-- block d holds a draft: its bytes l, in a row from n₀ on, and whether a label was bad. -/
def Draft (W : World) (n₀ d : Nat) (l : List UInt8) (bad : Bool) : Prop :=
  n₀ ≤ d ∧ ∃ g cap, W.heap[d]? = some (.cells #[.slice (some ⟨g, 0, none⟩) l.length cap, .bool bad] 175 (0, 0)) ∧ W.ownsRow n₀ 5 1 (.slice (some ⟨g, 0, none⟩) l.length cap) l.length (Lib.byteCells l)

/-- what was there is there, but for block d and rows of bytes. -/
structure FrameD (d : Nat) (W W' : World) : Prop where
  os : W'.os = W.os
  tape : W'.tape = W.tape
  output : W'.output = W.output
  size : W.heap.size ≤ W'.heap.size
  same : ∀ b o, W.heap[b]? = some o → b ≠ d → (∀ cs fr, o ≠ .cells cs 5 fr) → W'.heap[b]? = some o

theorem FrameD.refl (d : Nat) (W : World) : FrameD d W W := ⟨rfl, rfl, rfl, Nat.le_refl _, fun _ _ h _ _ => h⟩
theorem FrameD.trans {d : Nat} {A B C : World} (h : FrameD d A B) (k : FrameD d B C) : FrameD d A C :=
  ⟨k.os.trans h.os, k.tape.trans h.tape, k.output.trans h.output, Nat.le_trans h.size k.size, fun b o hb hd ho => k.same b o (h.same b o hb hd ho) hd ho⟩
theorem FrameD.set (d i : Nat) (W : World) (v : Value) : FrameD d W (W.setCell ⟨d, i, none⟩ v) :=
  ⟨rfl, rfl, rfl, by simp, fun b o hb hd _ => (Below.heap_setCell W ⟨d, i, none⟩ v b hd).trans hb⟩
theorem FrameD.alloc (d : Nat) (W : World) (o : Obj) : FrameD d W (W.alloc o) :=
  ⟨rfl, rfl, rfl, by simp, fun b o' hb _ _ => (Below.heap_alloc W o b (Array.getElem?_eq_some_iff.1 hb).1).trans hb⟩
theorem FrameD.grown {d : Nat} {W W' : World} {n₀ : Nat} {v : Value} {n : Nat} {xs : List Value} (h : W.grownBy W' v.ownBlock) (hr : W.ownsRow n₀ 5 1 v n xs) : FrameD d W W' := by
  refine ⟨h.os, h.tape, h.output, h.size, fun b o hb hd ho => ?_⟩
  refine (h.block b (Array.getElem?_eq_some_iff.1 hb).1 fun e => ?_).trans hb
  rcases hr.2 with ⟨rfl, _⟩ | ⟨g, cap, cur, rfl, _, hg, _⟩
  · simp [Value.ownBlock] at e
  · obtain rfl : b = g := by simpa [Value.ownBlock] using e
    rw [hg] at hb
    cases hb
    exact ho _ _ rfl
theorem FrameD.others {d : Nat} {W W' : World} (h : FrameD d W W') {cs : Array Value} {t : TypeId} (hd : W.heap[d]? = some (.cells cs t (0, 0))) : KeepsOthers W W' :=
  ⟨h.size, fun k o hk ho => h.same k o hk (fun e => by subst e; rw [hk] at hd; cases hd; simp [Obj.isCells] at ho) (fun cs fr e => by subst e; simp [Obj.isCells] at ho)⟩
theorem FrameD.boxed {d : Nat} {W W' : World} (h : FrameD d W W') {b : Nat} {t : TypeId} {v : Value} (hb : Boxed W b t v) (hd : b ≠ d) (ht : t ≠ 5) : Boxed W' b t v :=
  h.same b _ hb hd (fun cs fr e => by cases e; exact ht rfl)

theorem byteCells_snoc (l : List UInt8) (m : List UInt8) : Lib.byteCells (l ++ m) = Lib.byteCells l ++ Lib.byteCells m := by simp [Lib.byteCells]

theorem newDraft_in (w : World) :
    Calls Tryz.prog 160 #[] w fun e w' => e = .returned (.pointer (some ⟨w.heap.size + 1, 0, none⟩)) ∧ Draft w' w.heap.size (w.heap.size + 1) [] false ∧ Below w.heap.size w w' ∧ w'.heap.size = w.heap.size + 2 := by
  obtain ⟨i0, hi, hz0, hz1, hz2⟩ := info_parts info5
  obtain ⟨M, hM⟩ : ∃ M, M = madeCells (Value.int .u8 0).cells ((255 : Int).toNat * i0.size) := ⟨_, rfl⟩
  have hMs : M.size = 255 := by rw [hM, size_madeCells, hz1]; rfl
  have hmk : ∀ W : World, (Instr.makeSlice 100 (.int .i64 0) (.int .i64 255)).run Tryz.prog W = .ok (.slice (some ⟨W.heap.size, 0, none⟩) 0 255) (W.alloc (.cells M 5)) := fun W => by
    have h := run_make (P := Tryz.prog) W 100 5 i0 (.int .u8 0) Tryz.underlying100 hi hz0 .i64 .i64 0 255 (by omega) (by omega) (by rw [hz2]; omega) (by omega)
    rw [← hM] at h
    simpa using h
  clear hM
  go_enter Tryz.func160, Tryz.ntmps160
  go_wp2
  go_ret
  refine ⟨rfl, ⟨by omega, w.heap.size, 255, ?_, ?_⟩, ((Below.refl _ _).alloc (Nat.le_refl _) _).alloc (by simp) _, by simp⟩
  · have := World.alloc_heap_new (w.alloc (.cells M 5)) (.cells #[.slice (some ⟨w.heap.size, 0, none⟩) 0 255, .bool false] 175)
    rw [World.size_alloc] at this
    exact this
  · refine ⟨rfl, .inr ⟨w.heap.size, 255, M, rfl, Nat.le_refl _, ?_, by simp, by unfold maxLen; omega, by omega, rfl⟩⟩
    exact (Below.heap_alloc _ _ _ (by simp)).trans (World.alloc_heap_new w _)

/-- what add makes of a draft. -/
def addL (l : List UInt8) (bad : Bool) (s : List UInt8) : List UInt8 := if 1 ≤ s.length ∧ s.length ≤ 63 ∧ bad = false ∧ l.length < 255 then l ++ (UInt8.ofNat s.length :: s) else l
def addBad (bad : Bool) (s : List UInt8) : Bool := bad || decide (¬ (1 ≤ s.length ∧ s.length ≤ 63))

theorem draft_cells {W : World} {d g n cap : Nat} {bad : Bool} (h : W.heap[d]? = some (.cells #[.slice (some ⟨g, 0, none⟩) n cap, .bool bad] 175 (0, 0))) :
    W.cell? ⟨d, 0, none⟩ = some (.slice (some ⟨g, 0, none⟩) n cap) ∧ W.cell? ⟨d, 1, none⟩ = some (.bool bad) ∧ W.frozen? ⟨d, 0, none⟩ = false ∧ W.frozen? ⟨d, 1, none⟩ = false := by
  refine ⟨by simp [World.cell?, h], by simp [World.cell?, h], frozen_of_row _ _ _ _ _ h, frozen_of_row _ _ _ _ _ h⟩

theorem draft_same {l : List UInt8} {bad : Bool} {s : List UInt8} (h : ¬ (1 ≤ s.length ∧ s.length ≤ 63 ∧ bad = false ∧ l.length < 255)) : addL l bad s = l := if_neg h

theorem row_set {W : World} {n₀ n d i : Nat} {v : Value} {xs : List Value} {cs : Array Value} (h : W.ownsRow n₀ 5 1 v n xs) (hd : W.heap[d]? = some (.cells cs 175 (0, 0))) (u : Value) : (W.setCell ⟨d, i, none⟩ u).ownsRow n₀ 5 1 v n xs := by
  refine ⟨h.1, ?_⟩
  rcases h.2 with h' | ⟨g, cap, cur, hv, hb, hg, hr⟩
  · exact .inl h'
  · refine .inr ⟨g, cap, cur, hv, hb, (Below.heap_setCell W ⟨d, i, none⟩ u g fun e => ?_).trans hg, hr⟩
    subst e
    rw [hg] at hd
    cases hd

theorem row_form {W : World} {n₀ n : Nat} {v : Value} {xs : List Value} (h : W.ownsRow n₀ 5 1 v n xs) (hn : 0 < n) : ∃ g cap, v = .slice (some ⟨g, 0, none⟩) n cap := by
  rcases h.2 with ⟨_, h'⟩ | ⟨g, cap, cur, hv, _⟩
  · omega
  · exact ⟨g, cap, hv⟩
theorem own_base {W : World} {n₀ n : Nat} {v : Value} {xs : List Value} (h : W.ownsRow n₀ 5 1 v n xs) : ∀ k, v.ownBlock = some k → n₀ ≤ k := by
  intro k e
  rcases h.2 with ⟨rfl, _⟩ | ⟨g, cap, cur, rfl, hb, _⟩
  · simp [Value.ownBlock] at e
  · obtain rfl : g = k := by simpa [Value.ownBlock] using e
    exact hb
theorem draft_not5 {cs : Array Value} : ∀ (cs' : Array Value) (fr : Nat × Nat), Obj.cells cs 175 (0, 0) ≠ .cells cs' 5 fr := by
  intro cs' fr e; cases e
theorem draft_not5' {cs : Array Value} {i : Nat} {v : Value} : ∀ (cs' : Array Value) (fr : Nat × Nat), Obj.cells (cs.setIfInBounds i v) 175 (0, 0) ≠ .cells cs' 5 fr := by
  intro cs' fr e; cases e

theorem row_alloc {W : World} {n₀ n : Nat} {v : Value} {xs : List Value} (h : W.ownsRow n₀ 5 1 v n xs) (o : Obj) : (W.alloc o).ownsRow n₀ 5 1 v n xs := h.alloc o

set_option maxHeartbeats 400000 in
/-- a bad label. -/
theorem add_bad (W : World) (n₀ d : Nat) (l : List UInt8) (bad : Bool) (s : ByteArray) (hm : s.size ≤ maxLen) (hd : Draft W n₀ d l bad) (h : s.size < 1 ∨ 63 < s.size) :
    Calls Tryz.prog 162 #[.pointer (some ⟨d, 0, none⟩), .string s] W fun e w' => e = .returned (.tuple #[]) ∧ Draft w' n₀ d l true ∧ FrameD d W w' ∧ Below n₀ W w' := by
  obtain ⟨hn, g, cap, hh, hrow⟩ := hd
  obtain ⟨hc0, hc1, hf0, hf1⟩ := draft_cells hh
  go_enter Tryz.func162, Tryz.ntmps162
  go_wp2_with (go_at_call 181; refine (rightLabel_no s _ hm h).mono ?_; rintro e w' ⟨rfl, rfl⟩)
  refine bodyPost_ret (results_none rfl _ _ _) rfl ⟨rfl, ⟨hn, g, cap, ?_, row_set hrow hh _⟩, FrameD.set _ _ _ _, (Below.refl _ _).setCell (p := ⟨d, 1, none⟩) hn _⟩
  exact heap_setCell_same _ _ _ _ _ _ hh

set_option maxRecDepth 100000 in
set_option maxHeartbeats 400000 in
/-- a right label, and nothing is to be done. -/
theorem add_skip (W : World) (n₀ d : Nat) (l : List UInt8) (bad : Bool) (s : ByteArray) (hd : Draft W n₀ d l bad) (hl : l.length ≤ 400) (h1 : 1 ≤ s.size) (h2 : s.size ≤ 63) (h : bad = true ∨ 255 ≤ l.length) :
    Calls Tryz.prog 162 #[.pointer (some ⟨d, 0, none⟩), .string s] W fun e w' => e = .returned (.tuple #[]) ∧ w' = W := by
  obtain ⟨hn, g, cap, hh, hrow⟩ := hd
  obtain ⟨hc0, hc1, hf0, hf1⟩ := draft_cells hh
  clear hrow hh
  cases bad with
  | true =>
    go_enter Tryz.func162, Tryz.ntmps162
    go_wp2_with (go_at_call 181; refine (rightLabel_yes s _ h1 h2).mono ?_; rintro e w' ⟨rfl, rfl⟩)
    exact bodyPost_ret (results_none rfl _ _ _) rfl ⟨rfl, rfl⟩
  | false =>
    have h' : 255 ≤ l.length := by simpa using h
    have hb : decide ((255 : Int) ≤ (l.length : Int)) = true := by simp; omega
    clear h h'
    go_enter Tryz.func162, Tryz.ntmps162
    go_wp2_with (go_at_call 181; refine (rightLabel_yes s _ h1 h2).mono ?_; rintro e w' ⟨rfl, rfl⟩)
    exact bodyPost_ret (results_none rfl _ _ _) rfl ⟨rfl, rfl⟩

set_option maxRecDepth 100000 in
set_option maxHeartbeats 1000000 in
/-- a right label, which is added. -/
theorem add_go (W : World) (n₀ d : Nat) (l : List UInt8) (s : ByteArray) (hd : Draft W n₀ d l false) (hl : l.length < 255) (h1 : 1 ≤ s.size) (h2 : s.size ≤ 63) (hn₀ : n₀ ≤ W.heap.size) :
    Calls Tryz.prog 162 #[.pointer (some ⟨d, 0, none⟩), .string s] W fun e w' => e = .returned (.tuple #[]) ∧ Draft w' n₀ d (l ++ (UInt8.ofNat s.size :: s.data.toList)) false ∧ FrameD d W w' ∧ Below n₀ W w' := by
  obtain ⟨i0, hi, hz0, hz1, hz2⟩ := info_parts info5
  obtain ⟨hn, g, cap, hh, hrow⟩ := hd
  obtain ⟨hc0, hc1, hf0, hf1⟩ := draft_cells hh
  have hb : decide ((255 : Int) ≤ (l.length : Int)) = false := by simp; omega
  go_enter Tryz.func162, Tryz.ntmps162
  have tok : True := trivial
  go_wp2_with (first
    | (go_at_call 181; refine (rightLabel_yes s _ h1 h2).mono ?_; rintro e w' ⟨rfl, hww⟩; rw [hww])
    | (at_builtin; have _t := tok; refine wpList_append_own _ rfl _ _ 100 rfl n₀ 5 i0 (.int .u8 0) 1 1 Tryz.underlying100 hi hz0 hz1 hz2 rfl (by decide) _ _ _ rfl (row_alloc hrow _) ⟨W.heap.size, 0, none⟩ 1 1 [.int .u8 (s.size : Int)] rfl rfl (cell_one_new _ _ _) (by simp [Value.oneCell']) (by unfold maxLen; omega) (by omega) (by simp; omega) ?_; intro v1 w1 hown1 hgrow1 _; obtain ⟨g1, cap1, rfl⟩ := row_form hown1 (by omega); have hf1 := (FrameD.alloc (d + 1) W _).trans (FrameD.grown (d := d + 1) hgrow1 (row_alloc hrow _)); have hh1 := hf1.same d _ hh (by omega) draft_not5; obtain ⟨hp0, hp1, hp2, hp3⟩ := draft_cells hh1; have hfa := (FrameD.alloc d W _).trans (FrameD.grown (d := d) hgrow1 (row_alloc hrow _)); have hba := ((Below.refl n₀ W).alloc hn₀ _).grown hgrow1 (by simp; omega) (own_base hrow); clear tok)
    | (at_builtin; refine Lib.wpList_append_own_string _ rfl _ _ 100 9 rfl n₀ 5 i0 Tryz.underlying100 Tryz.underlying9 hi hz0 hz1 hz2 _ _ _ rfl (row_set hown1 hh1 _) s rfl (by unfold maxLen; omega) (by omega) (by have := hba.size; simp; omega) ?_; intro v2 w2 hown2 hgrow2 _; obtain ⟨g2, cap2, rfl⟩ := row_form hown2 (by omega); have hh2 := (FrameD.grown (d := d + 1) hgrow2 (row_set hown1 hh1 _)).same d _ (heap_setCell_same _ _ _ _ _ _ hh1) (by omega) draft_not5'; obtain ⟨hq0, hq1, hq2, hq3⟩ := draft_cells hh2))
  go_end0
  have hlen : (l ++ (UInt8.ofNat s.size :: s.data.toList)).length = l.length + 1 + s.size := by
    rw [List.length_append, List.length_cons, size_list]; omega
  have h8 : (UInt8.ofNat s.size).toNat = s.size := by simp; omega
  have hcs : Lib.byteCells (l ++ (UInt8.ofNat s.size :: s.data.toList)) = Lib.byteCells l ++ [.int .u8 (s.size : Int)] ++ Lib.strCells s := by
    rw [Lib.strCells_eq]; simp [Lib.byteCells, h8]
  refine ⟨rfl, ⟨hn, g2, cap2, ?_, ?_⟩, ?_, ?_⟩
  · rw [hlen]; exact heap_setCell_same _ _ _ _ _ _ hh2
  · rw [hlen, hcs]; exact row_set hown2 hh2 _
  · exact ((hfa.trans (FrameD.set d 0 w1 _)).trans (FrameD.grown hgrow2 (row_set hown1 hh1 _))).trans (FrameD.set d 0 w2 _)
  · exact ((hba.setCell (p := ⟨d, 0, none⟩) hn _).grown hgrow2 (by have := hba.size; simp; omega) (own_base hown1)).setCell (p := ⟨d, 0, none⟩) hn _

/-- add, whatever the label is. -/
theorem add_in (W : World) (n₀ d : Nat) (l : List UInt8) (bad : Bool) (s : ByteArray) (hm : s.size ≤ maxLen) (hd : Draft W n₀ d l bad) (hl : l.length ≤ 400) (hn₀ : n₀ ≤ W.heap.size) :
    Calls Tryz.prog 162 #[.pointer (some ⟨d, 0, none⟩), .string s] W fun e w' => e = .returned (.tuple #[]) ∧ Draft w' n₀ d (addL l bad s.data.toList) (addBad bad s.data.toList) ∧ FrameD d W w' ∧ Below n₀ W w' := by
  by_cases h1 : 1 ≤ s.size ∧ s.size ≤ 63
  · have hb : addBad bad s.data.toList = bad := by simp only [addBad, size_list]; simp [h1]
    rw [hb]
    by_cases h2 : bad = true ∨ 255 ≤ l.length
    · have ha : addL l bad s.data.toList = l := if_neg (by
        rintro ⟨_, _, h3, h4⟩
        rcases h2 with h2 | h2
        · rw [h2] at h3; cases h3
        · omega)
      rw [ha]
      refine (add_skip W n₀ d l bad s hd hl h1.1 h1.2 h2).mono ?_
      rintro e w' ⟨he, rfl⟩
      exact ⟨he, hd, FrameD.refl _ _, Below.refl _ _⟩
    · have hbf : bad = false := by cases bad; rfl; simp at h2
      subst hbf
      have ha : addL l false s.data.toList = l ++ (UInt8.ofNat s.size :: s.data.toList) := by
        unfold addL; rw [size_list, if_pos ⟨h1.1, h1.2, rfl, by omega⟩]
      rw [ha]
      exact add_go W n₀ d l s hd (by omega) h1.1 h1.2 hn₀
  · have hb : addBad bad s.data.toList = true := by
      simp only [addBad, size_list, Bool.or_eq_true, decide_eq_true_iff]; exact .inr h1
    have ha : addL l bad s.data.toList = l := if_neg (by rw [size_list]; exact fun h => h1 ⟨h.1, h.2.1⟩)
    rw [hb, ha]
    exact add_bad W n₀ d l bad s hm hd (by omega)

theorem name_bad (W : World) (n₀ d : Nat) (l : List UInt8) (hd : Draft W n₀ d l true) :
    Calls Tryz.prog 163 #[.pointer (some ⟨d, 0, none⟩)] W fun e w' => e = .returned (.tuple #[.string ⟨#[]⟩, .int .i64 2]) ∧ w' = W := by
  obtain ⟨hn, g, cap, hh, hrow⟩ := hd
  obtain ⟨hc0, hc1, hf0, hf1⟩ := draft_cells hh
  clear hrow hh
  go_enter Tryz.func163, Tryz.ntmps163
  go_wp2
  go_ret2
  exact ⟨rfl, rfl⟩

theorem name_ok (W : World) (n₀ d : Nat) (l : List UInt8) (hl : l.length ≤ 400) (hd : Draft W n₀ d l false) :
    Calls Tryz.prog 163 #[.pointer (some ⟨d, 0, none⟩)] W fun e w' => e = .returned (if l.length + 1 ≤ 255 then .tuple #[.string ⟨(l ++ [0]).toArray⟩, .int .i64 0] else .tuple #[.string ⟨#[]⟩, .int .i64 3]) ∧ w' = W := by
  obtain ⟨hn, g, cap, hh, hrow⟩ := hd
  obtain ⟨hc0, hc1, hf0, hf1⟩ := draft_cells hh
  have hcv : (convert 100 9 (.slice (some ⟨g, 0, none⟩) l.length cap)).run Tryz.prog W = .ok (.string ⟨l.toArray⟩) W := by
    refine run_convert_bytes_back (P := Tryz.prog) W 100 9 5 ⟨g, 0, none⟩ cap l Tryz.underlying100 Tryz.underlying5 Tryz.underlying9 (fun j hj => ?_)
    rcases hrow.2 with ⟨h', _⟩ | ⟨g', cap', cur, hv, _, hg, _, _, _, ht⟩
    · cases h'
    · cases hv
      exact Lib.cells_of_row hg l.length j _ (by rw [Nat.mul_one] at ht; rw [ht]; simp [Lib.byteCells, hj])
  obtain ⟨t, ht⟩ : ∃ t : ByteArray, (⟨l.toArray⟩ : ByteArray) = t := ⟨_, rfl⟩
  have htz : t.size = l.length := by rw [← ht]; rfl
  have hts : t.size ≤ 400 := by omega
  have hcat : t ++ (⟨#[0]⟩ : ByteArray) = ⟨(l ++ [0]).toArray⟩ := by
    apply ba_ext
    rw [ByteArray.data_append, Array.toList_append, ← ht]
  have hcz : (⟨(l ++ [0]).toArray⟩ : ByteArray).size = l.length + 1 := by rw [ba_size]; simp
  rw [ht] at hcv
  have HC := Hid.mk' hcat
  clear hrow hh ht htz hcat
  by_cases h : l.length + 1 ≤ 255
  · rw [if_pos h]
    have hle : (⟨(l ++ [0]).toArray⟩ : ByteArray).size ≤ 255 := by rw [hcz]; exact h
    clear hcz
    go_enter Tryz.func163, Tryz.ntmps163
    go_wp2_with fail
    rw [HC.out]
    refine (limited_ok _ _ hle).mono ?_
    rintro e w' ⟨rfl, rfl⟩
    go_wp2
    go_ret2
    exact ⟨rfl, rfl⟩
  · rw [if_neg h]
    have hle : 255 < (⟨(l ++ [0]).toArray⟩ : ByteArray).size := by rw [hcz]; omega
    have hle2 : (⟨(l ++ [0]).toArray⟩ : ByteArray).size ≤ 2 * maxLen := by rw [hcz]; unfold maxLen; omega
    clear hcz
    go_enter Tryz.func163, Tryz.ntmps163
    go_wp2_with fail
    rw [HC.out]
    refine (limited_long _ _ hle2 hle).mono ?_
    rintro e w' ⟨rfl, rfl⟩
    go_wp2
    go_ret2
    exact ⟨rfl, rfl⟩

end Go.Proofs.YtkohkkakbcjgcabGreatDoor
