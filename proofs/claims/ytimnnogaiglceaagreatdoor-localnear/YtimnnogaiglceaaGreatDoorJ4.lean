/- Texts of this proof, joined: DSplit2, DOther, DTold, Draft, DHex, DTypes. -/
import Derived.Test.YtimnnogaiglceaaGreatDoorJ3
import Derived.Test.YtimnnogaiglceaaGreatDoorShelf
import Derived.Lib.AppendStr
import Derived.Maps.AppendAt
import Derived.RangeFuncBox
import Derived.Test.YtimnnogaiglceaaGreatDoorJ2
import Derived.Deep.RegionLaw
import Derived.Lib.ItoaNum
import Derived.Deep.WholeRow
import Derived.Deep.Cut
import Derived.Lib.AppendIntMem
/- split, with sound around its work; Right. -/
namespace Go.Proofs.YtimnnogaiglceaaGreatDoor
set_option linter.unusedVariables false
open Go.RowKit
def SoundPost (R : Option (List ByteArray)) (b : Nat) (W : World) (e : Ending) (w' : World) : Prop := (match R with
  | some ps => e = .returned (.bool true) ∧ ∃ v, w'.ownsRow W.heap.size 9 1 v ps.length (baV ps) ∧ w'.heap[b]? = some (.cells #[v] 42 (0, 0))
  | none => e = .returned (.bool false) ∧ w'.heap[b]? = W.heap[b]?) ∧ Kept b W w'
theorem alloc_old (W : World) (o : Obj) (b : Nat) (hb : b < W.heap.size) : (W.alloc o).heap[b]? = W.heap[b]? := ((Below.refl W.heap.size W).alloc (Nat.le_refl _) o).block b hb
theorem kept_box {bp : Nat} {W w1 : World} {o : Obj} (h : Kept bp (W.alloc o) w1) (v : Value) : Kept bp W (w1.setCell ⟨W.heap.size, 0, none⟩ v) := by
  have hs := h.size
  simp at hs
  refine ⟨h.os, h.tape, h.output, by simp [World.setCell]; omega, fun b hb hd => ?_⟩
  rw [Below.heap_setCell w1 ⟨W.heap.size, 0, none⟩ v b (show b ≠ W.heap.size by omega), h.same b (by simp; omega) hd, alloc_old W o b hb]
set_option maxRecDepth 100000 in
set_option maxHeartbeats 2000000 in
theorem soundSplit_in (W : World) (bk bd bp n : Nat) (hn : n ≤ 20) (k : Int) (s : ByteArray) (hs : s.size ≤ 2000) (v0 : Value) (pf : Nat → ByteArray → Option Nat)
    (hk : W.heap[bk]? = some (.cells #[.int .i64 k] 3 (0, 0))) (hd : W.heap[bd]? = some (.cells #[.string s] 9 (0, 0))) (hp : W.heap[bp]? = some (.cells #[v0] 42 (0, 0)))
    (hparts : ∀ w, Calls Tryz.prog 106 #[.int .i64 k] w fun e w' => PartsPost n pf w e w') :
    Calls Tryz.prog 115 #[fnV 116 #[boxV bk, boxV bd, boxV bp]] W fun e w' => SoundPost (fin pf n s) bp W e w' := by
  have hmf := mkf
  have hal : ∀ o, Below W.heap.size W (W.alloc o) := fun o => (Below.refl _ _).alloc (Nat.le_refl _) o
  have HW := Hid.mk (fun (o : Obj) => split1_in (W.alloc o) bk bd bp n hn k s hs v0 pf (((hal o).block bk (box_lt hk)).trans hk) (((hal o).block bd (box_lt hd)).trans hd) (((hal o).block bp (box_lt hp)).trans hp) hparts)
  clear hparts
  obtain ⟨R, hR⟩ : ∃ R, fin pf n s = R := ⟨_, rfl⟩
  rw [hR] at HW ⊢
  clear hR
  cases R with
  | none =>
    go_enter_defers Tryz.func115, Tryz.ntmps115
    go_wp2_with fail
    refine (HW.out _).mono ?_
    rintro e w1 ⟨⟨rfl, hb⟩, hkp⟩
    have hbox : w1.heap[W.heap.size]? = some (.cells #[.bool false] 4 (0, 0)) := (hkp.same _ (by simp) (by have := box_lt hp; omega)).trans (heap_new _ _)
    go_wp2
    refine leaves_cons (f := 132) (args := #[boxV W.heap.size]) (by simp) (by simp [go_sem]) ?_
    refine (catch_panic W.heap.size w1 false hbox []).mono ?_
    rintro e u' w2 ⟨rfl, rfl, rfl⟩
    have hbp := box_lt hp
    have hs2 := box_cell (box_set hbox (.bool false))
    simp [Leaves, settle, results, Tryz.results115, go_sem, hs2]
    refine ⟨⟨rfl, ?_⟩, kept_box hkp _⟩
    rw [Below.heap_setCell w1 ⟨W.heap.size, 0, none⟩ _ bp (show bp ≠ W.heap.size by omega), hb, alloc_old W _ bp hbp]
  | some ps =>
    go_enter_defers Tryz.func115, Tryz.ntmps115
    go_wp2_with fail
    refine (HW.out _).mono ?_
    rintro e w1 ⟨⟨rfl, v, hrow, hb⟩, hkp⟩
    have hbox : w1.heap[W.heap.size]? = some (.cells #[.bool false] 4 (0, 0)) := (hkp.same _ (by simp) (by have := box_lt hp; omega)).trans (heap_new _ _)
    have hbc := box_cell hbox
    have hbf := box_frozen hbox
    go_wp2
    refine leaves_cons (f := 132) (args := #[boxV W.heap.size]) (by simp) (by simp [go_sem]) ?_
    refine (catch_idle W.heap.size _).mono ?_
    rintro e u' w2 ⟨rfl, rfl, rfl⟩
    have hbp := box_lt hp
    have hs2 := box_cell (box_set hbox (.bool true))
    simp [Leaves, settle, results, Tryz.results115, go_sem, hs2]
    refine ⟨⟨rfl, v, ?_, ?_⟩, kept_box hkp _⟩
    · refine row_down (n₁ := (W.alloc (.cells #[.bool false] 4)).heap.size) (row_kept' hrow (Kept.set _ _ _ _) (by simp)) (by simp)
    · rw [Below.heap_setCell w1 ⟨W.heap.size, 0, none⟩ _ bp (show bp ≠ W.heap.size by omega)]; exact hb
def SplitPost (R : Option (List ByteArray)) (W : World) (e : Ending) (w' : World) : Prop := (match R with
  | some ps => ∃ v, e = .returned (.tuple #[v, .bool true]) ∧ w'.ownsRow W.heap.size 9 1 v ps.length (baV ps)
  | none => e = .returned (.tuple #[.slice none 0 0, .bool false])) ∧ Below W.heap.size W w'
set_option maxRecDepth 100000 in
theorem split_long (W : World) (k : Int) (s : ByteArray) (hm : s.size ≤ maxLen) (h : decide (0 ≤ k ∧ k ≤ 65535) = false ∨ 2000 < s.size) :
    Calls Tryz.prog 104 #[.int .i64 k, .string s] W fun e w' => SplitPost none W e w' := by
  unfold maxLen at hm
  cases hd : decide (0 ≤ k ∧ k ≤ 65535) with
  | false =>
    go_enter Tryz.func104, Tryz.ntmps104
    go_wp2_with fail
    refine (isType_in k _).mono ?_
    rintro e w1 ⟨rfl, rfl⟩
    rw [hd]
    go_wp2
    refine bodyPost_ret (v := .tuple #[.slice none 0 0, .bool false]) (by simp [results, Tryz.results104, go_sem]) rfl ⟨rfl, ?_⟩
    exact (((Below.refl _ _).alloc (Nat.le_refl _) _).alloc (by simp) _).alloc (by simp; omega) _
  | true =>
    have hl : 2000 < s.size := by
      rcases h with h | h
      · rw [hd] at h; cases h
      · exact h
    clear h
    go_enter Tryz.func104, Tryz.ntmps104
    go_wp2_with fail
    refine (isType_in k _).mono ?_
    rintro e w1 ⟨rfl, rfl⟩
    rw [hd]
    go_wp2
    refine bodyPost_ret (v := .tuple #[.slice none 0 0, .bool false]) (by simp [results, Tryz.results104, go_sem]) rfl ⟨rfl, ?_⟩
    exact (((Below.refl _ _).alloc (Nat.le_refl _) _).alloc (by simp) _).alloc (by simp; omega) _
set_option maxRecDepth 100000 in
set_option maxHeartbeats 2000000 in
theorem split_in (W : World) (n : Nat) (hn : n ≤ 20) (k : Int) (hk : 0 ≤ k ∧ k ≤ 65535) (s : ByteArray) (hs : s.size ≤ 2000) (pf : Nat → ByteArray → Option Nat)
    (hparts : ∀ w, Calls Tryz.prog 106 #[.int .i64 k] w fun e w' => PartsPost n pf w e w') :
    Calls Tryz.prog 104 #[.int .i64 k, .string s] W fun e w' => SplitPost (fin pf n s) W e w' := by
  have hmf := mkf
  have hd : decide (0 ≤ k ∧ k ≤ 65535) = true := by simp [hk]
  obtain ⟨W3, hW3⟩ : ∃ W3, W3 = (((W.alloc (.cells #[.int .i64 k] 3)).alloc (.cells #[.string s] 9)).alloc (.cells #[.slice none 0 0] 42)) := ⟨_, rfl⟩
  have hk3 : W3.heap[W.heap.size]? = some (.cells #[.int .i64 k] 3 (0, 0)) := by
    rw [hW3, alloc_old _ _ _ (by simp; omega), alloc_old _ _ _ (by simp)]; exact heap_new _ _
  have hd3 : W3.heap[W.heap.size + 1]? = some (.cells #[.string s] 9 (0, 0)) := by
    rw [hW3, alloc_old _ _ _ (by simp)]
    have := heap_new (W.alloc (.cells #[.int .i64 k] 3)) (.cells #[.string s] 9)
    rwa [World.size_alloc] at this
  have hp3 : W3.heap[W.heap.size + 1 + 1]? = some (.cells #[.slice none 0 0] 42 (0, 0)) := by
    rw [hW3]
    have := heap_new ((W.alloc (.cells #[.int .i64 k] 3)).alloc (.cells #[.string s] 9)) (.cells #[.slice none 0 0] 42)
    rwa [World.size_alloc, World.size_alloc] at this
  have hsz3 : W3.heap.size = W.heap.size + 3 := by rw [hW3]; simp
  have hbl3 : Below W.heap.size W W3 := by
    rw [hW3]; exact (((Below.refl _ _).alloc (Nat.le_refl _) _).alloc (by simp) _).alloc (by simp; omega) _
  have HS := Hid.mk (soundSplit_in W3 W.heap.size (W.heap.size + 1) (W.heap.size + 1 + 1) n hn k s hs _ pf hk3 hd3 hp3 hparts)
  obtain ⟨R, hR⟩ : ∃ R, fin pf n s = R := ⟨_, rfl⟩
  rw [hR] at HS ⊢
  have HP3 := Hid.mk hp3
  clear hR hk3 hd3 hparts hp3
  have HW3 := Hid.mk hW3
  cases R with
  | none =>
    go_enter Tryz.func104, Tryz.ntmps104
    go_wp2_with fail
    refine (isType_in k _).mono ?_
    rintro e w1 ⟨rfl, rfl⟩
    rw [hd]
    go_wp2_with fail
    rw [← HW3.out]
    refine HS.out.mono ?_
    rintro e w2 ⟨⟨rfl, hb⟩, hkp⟩
    have hb2 := hb.trans HP3.out
    have hc2 := box_cell hb2
    have hf2 := box_frozen hb2
    clear hW3
    go_wp2
    have hc4 := box_cell (box_set hb2 (.slice none 0 0))
    refine bodyPost_ret (v := .tuple #[.slice none 0 0, .bool false]) (by simp [results, Tryz.results104, go_sem, hc4]) rfl ⟨rfl, ?_⟩
    exact (hbl3.trans (hkp.below (n := W.heap.size) (by omega) (by omega))).setCell (p := ⟨W.heap.size + 1 + 1, 0, none⟩) (show W.heap.size ≤ W.heap.size + 1 + 1 by omega) _
  | some ps =>
    go_enter Tryz.func104, Tryz.ntmps104
    go_wp2_with fail
    refine (isType_in k _).mono ?_
    rintro e w1 ⟨rfl, rfl⟩
    rw [hd]
    go_wp2_with fail
    rw [← HW3.out]
    refine HS.out.mono ?_
    rintro e w2 ⟨⟨rfl, v, hrow, hb2⟩, hkp⟩
    obtain ⟨q, c, hv⟩ := row_as hrow
    subst hv
    have hc2 := box_cell hb2
    have hf2 := box_frozen hb2
    clear hW3
    go_wp2
    have hc4 := box_cell (box_set hb2 (.slice q ps.length c))
    refine bodyPost_ret (v := .tuple #[.slice q ps.length c, .bool true]) (by simp [results, Tryz.results104, go_sem, hc4]) rfl ⟨⟨_, rfl, ?_⟩, ?_⟩
    · exact row_down (row_kept' hrow (Kept.set (W.heap.size + 1 + 1) 0 _ _) (by omega)) (by omega)
    · exact (hbl3.trans (hkp.below (n := W.heap.size) (by omega) (by omega))).setCell (p := ⟨W.heap.size + 1 + 1, 0, none⟩) (show W.heap.size ≤ W.heap.size + 1 + 1 by omega) _
/-! ### Right -/
theorem right_of {k : Int} {s : ByteArray} {R : Option (List ByteArray)} (h : ∀ W, Calls Tryz.prog 104 #[.int .i64 k, .string s] W fun e w' => SplitPost R W e w') (W : World) :
    Calls Tryz.prog 80 #[.int .i64 k, .string s] W fun e w' => e = .returned (.bool R.isSome) ∧ Below W.heap.size W w' := by
  have H := Hid.mk h
  clear h
  cases R with
  | none =>
    go_enter Tryz.func80, Tryz.ntmps80
    go_wp2_with fail
    refine (H.out _).mono ?_
    rintro e w1 ⟨rfl, hb⟩
    go_wp2
    go_ret
    exact ⟨rfl, hb⟩
  | some ps =>
    go_enter Tryz.func80, Tryz.ntmps80
    go_wp2_with fail
    refine (H.out _).mono ?_
    rintro e w1 ⟨⟨v, rfl, _⟩, hb⟩
    go_wp2
    go_ret
    exact ⟨rfl, hb⟩
end Go.Proofs.YtimnnogaiglceaaGreatDoor
/- Types that are none of the table: any bytes. -/
namespace Go.Proofs.YtimnnogaiglceaaGreatDoor
set_option linter.unusedVariables false
open Go.RowKit
theorem enters_by {f : Nat} {fn : Func} {c : Code} (hf : Tryz.prog.funcs[f]? = some fn) (hname : (fn.name == "runtime.NumGoroutine") = false) (hb : fn.body = some c) : Enters f := by
  intro args w
  have h1 : fn.name ≠ "runtime.NumGoroutine" := by simpa using hname
  simp [callFunc, hf, h1, hb]
theorem anyPass_in (W : World) (d : Nat) (s : ByteArray) (hs : s.size ≤ 2000) (h : Rd W d s) :
    Calls Tryz.prog 176 #[boxV d] W fun e w' => PassPost (some s.size) s d W w' e := by
  go_enter Tryz.func176, Tryz.ntmps176
  go_wp2_with fail
  refine (all_in W d s (by unfold maxLen; omega) h).mono ?_
  rintro e w1 ⟨rfl, rfl⟩
  go_wp2
  have e2 : s.extract s.size s.size = ⟨#[]⟩ := by apply ByteArray.ext; simp
  refine bodyPost_end (results_none rfl _ _ _) rfl ⟨Nat.le_refl _, rfl, ?_, Kept.set _ _ _ _⟩
  rw [e2]; exact h.set _
def otherPart : Part := ⟨176, #[], 177, #[], 179, #[], false⟩
end Go.Proofs.YtimnnogaiglceaaGreatDoor
/- told: data as a text. -/
namespace Go.Proofs.YtimnnogaiglceaaGreatDoor
set_option linter.unusedVariables false
open Go.RowKit
theorem row_bel {W W' : World} {n₀ n : Nat} {e : TypeId} {v : Value} {xs : List Value} (h : W.ownsRow n₀ e 1 v n xs) (hb : Below W.heap.size W W') : W'.ownsRow n₀ e 1 v n xs := by
  refine ⟨h.1, ?_⟩
  rcases h.2 with h' | ⟨g, cap, cur, hv, hb', hg, hr⟩
  · exact .inl h'
  · exact .inr ⟨g, cap, cur, hv, hb', (hb.block g (box_lt hg)).trans hg, hr⟩
theorem rowBaseB {W : World} {n₀ n : Nat} {e : TypeId} {v : Value} {xs : List Value} (h : W.ownsRow n₀ e 1 v n xs) : ∀ k, v.ownBlock = some k → n₀ ≤ k := by
  intro k e
  rcases h.2 with ⟨rfl, _⟩ | ⟨g, cap, cur, rfl, hb, _⟩
  · simp [Value.ownBlock] at e
  · obtain rfl : g = k := by simpa [Value.ownBlock] using e
    exact hb
theorem row_cell {W : World} {n₀ n c : Nat} {e : TypeId} {q : Option Addr} {ps : List ByteArray} (h : W.ownsRow n₀ e 1 (.slice q n c) n (baV ps)) (j : Nat) (hj : j < ps.length) : ∃ g, q = some ⟨g, 0, none⟩ ∧ g < W.heap.size ∧ W.cell? ⟨g, j, none⟩ = some (.string ps[j]) := by
  have hn : ps.length = n := by have := h.1; simpa [baV] using this
  rcases h.2 with ⟨_, h0⟩ | ⟨g, cap, cur, hv, _, hg, _, _, _, ht⟩
  · omega
  · cases hv
    refine ⟨g, rfl, box_lt hg, ?_⟩
    have := Lib.cells_of_row (w := W) hg n j (.string ps[j]) (by rw [Nat.mul_one] at ht; rw [ht]; simp [baV, hj])
    rwa [add_at] at this
theorem join_row {W : World} {n₀ : Nat} {v : Value} {ws : List ByteArray} (sep : ByteArray) (h : W.ownsRow n₀ 9 1 v ws.length (baV ws)) (hl : ws.length ≤ 1000000) (hj : (Lib.join (ws.map (·.data.toList)) sep.data.toList).length ≤ 140737488355328) :
    Calls Tryz.prog 107 #[v, .string sep] W fun e w' => e = .returned (.string ⟨(Lib.join (ws.map (·.data.toList)) sep.data.toList).toArray⟩) ∧ Below W.heap.size W w' := by
  rcases h.2 with ⟨rfl, h0⟩ | ⟨g, cap, cur, rfl, _, hg, hc, _, _, ht⟩
  · obtain rfl : ws = [] := List.length_eq_zero_iff.1 h0
    refine (Tryz.strings_Join_none none 0 sep W).mono ?_
    rintro e w' ⟨rfl, rfl⟩
    exact ⟨rfl, Below.refl _ _⟩
  · refine Tryz.strings_Join g 0 cap ws sep W (fun j x hx => ?_) (box_lt hg) (by omega) hc hj
    obtain ⟨hjl, he⟩ := List.getElem?_eq_some_iff.1 hx
    have := Lib.cells_of_row (w := W) hg ws.length j (.string x) (by rw [Nat.mul_one] at ht; rw [ht]; simp [baV, hx])
    rw [add_at] at this
    rw [Nat.zero_add]; exact this
end Go.Proofs.YtimnnogaiglceaaGreatDoor
/- The draft of a name: newDraft, add, name. -/
namespace Go.Proofs.YtimnnogaiglceaaGreatDoor
set_option linter.unusedVariables false
open Go.RowKit
structure FrameD (d : Nat) (W W' : World) : Prop where
  os : W'.os = W.os
  tape : W'.tape = W.tape
  output : W'.output = W.output
  size : W.heap.size ≤ W'.heap.size
  same : ∀ b o, W.heap[b]? = some o → b ≠ d → (∀ cs fr, o ≠ .cells cs 5 fr) → W'.heap[b]? = some o
theorem FrameD.refl (d : Nat) (W : World) : FrameD d W W := ⟨rfl, rfl, rfl, Nat.le_refl _, fun _ _ h _ _ => h⟩
theorem FrameD.trans {d : Nat} {A B C : World} (h : FrameD d A B) (k : FrameD d B C) : FrameD d A C :=
  ⟨k.os.trans h.os, k.tape.trans h.tape, k.output.trans h.output, Nat.le_trans h.size k.size, fun b o hb hd ho => k.same b o (h.same b o hb hd ho) hd ho⟩
theorem FrameD.set (d i : Nat) (W : World) (v : Value) : FrameD d W (W.setCell ⟨d, i, none⟩ v) :=
  ⟨rfl, rfl, rfl, by simp, fun b o hb hd _ => (Below.heap_setCell W ⟨d, i, none⟩ v b hd).trans hb⟩
theorem FrameD.alloc (d : Nat) (W : World) (o : Obj) : FrameD d W (W.alloc o) :=
  ⟨rfl, rfl, rfl, by simp, fun b o' hb _ _ => (Below.heap_alloc W o b (Array.getElem?_eq_some_iff.1 hb).1).trans hb⟩
theorem FrameD.grown {d : Nat} {W W' : World} {n₀ : Nat} {v : Value} {n : Nat} {xs : List Value} (h : W.grownBy W' v.ownBlock) (hr : W.ownsRow n₀ 5 1 v n xs) : FrameD d W W' := by
  refine ⟨h.os, h.tape, h.output, h.size, fun b o hb hd ho => ?_⟩
  refine (h.block b (Array.getElem?_eq_some_iff.1 hb).1 fun e => ?_).trans hb
  rcases hr.2 with ⟨rfl, _⟩ | ⟨g, cap, cur, rfl, _, hg, _⟩
  · simp [Value.ownBlock] at e
  · obtain rfl : b = g := by simpa [Value.ownBlock] using e
    rw [hg] at hb
    cases hb
    exact ho _ _ rfl
end Go.Proofs.YtimnnogaiglceaaGreatDoor
/- hex: bytes as digits of four bits. -/
namespace Go.Proofs.YtimnnogaiglceaaGreatDoor
set_option linter.unusedVariables false
open Go.RowKit
end Go.Proofs.YtimnnogaiglceaaGreatDoor
/- TypeText, TypeOf. -/
namespace Go.Proofs.YtimnnogaiglceaaGreatDoor
set_option linter.unusedVariables false
open Go.RowKit Go.Sort
def tabCells : List Value := [.int .i64 1, .string ⟨#[65]⟩, .int .i64 2, .string ⟨#[78, 83]⟩, .int .i64 5, .string ⟨#[67, 78, 65, 77, 69]⟩, .int .i64 6, .string ⟨#[83, 79, 65]⟩, .int .i64 15, .string ⟨#[77, 88]⟩, .int .i64 16, .string ⟨#[84, 88, 84]⟩, .int .i64 28, .string ⟨#[65, 65, 65, 65]⟩, .int .i64 39, .string ⟨#[68, 78, 65, 77, 69]⟩, .int .i64 41, .string ⟨#[79, 80, 84]⟩, .int .i64 43, .string ⟨#[68, 83]⟩, .int .i64 46, .string ⟨#[82, 82, 83, 73, 71]⟩, .int .i64 47, .string ⟨#[78, 83, 69, 67]⟩, .int .i64 48, .string ⟨#[68, 78, 83, 75, 69, 89]⟩, .int .i64 50, .string ⟨#[78, 83, 69, 67, 51]⟩, .int .i64 255, .string ⟨#[65, 78, 89]⟩]
def Types (W : World) : Prop := ∀ i v, tabCells[i]? = some v → W.cell? ⟨0, i, none⟩ = some v
theorem cell_block {w : World} {a : Addr} {v : Value} (h : w.cell? a = some v) : a.block < w.heap.size := by
  apply Classical.byContradiction
  intro hn
  have : w.heap[a.block]? = none := by simp; omega
  simp [World.cell?, this] at h
theorem Types.below {W W' : World} (h : Types W) (hb : Below W.heap.size W W') : Types W' := fun i v hv =>
  (hb.cell (p := ⟨0, i, none⟩) (cell_block (h i v hv))).trans (h i v hv)
def Pow (W : World) : Prop := Lib.TabIs Tryz.prog W "internal/strconv.uint64pow10" .u64 Lib.pow10Tab
theorem Pow.below {W W' : World} (h : Pow W) (hb : Below W.heap.size W W') : Pow W' := (Lib.tabBelow_of_tabIs h) W' hb
end Go.Proofs.YtimnnogaiglceaaGreatDoor