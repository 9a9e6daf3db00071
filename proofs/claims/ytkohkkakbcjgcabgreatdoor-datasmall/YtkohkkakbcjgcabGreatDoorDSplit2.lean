/- split, with sound around its work; Right. -/
import Derived.Test.YtkohkkakbcjgcabGreatDoorDSound
namespace Go.Proofs.YtkohkkakbcjgcabGreatDoor
set_option linter.unusedVariables false
open Go.RowKit

/-- what sound makes of the work of split. -/
def SoundPost (R : Option (List ByteArray)) (b : Nat) (W : World) (e : Ending) (w' : World) : Prop := (match R with
  | some ps => e = .returned (.bool true) ∧ ∃ v, w'.ownsRow W.heap.size 9 1 v ps.length (baV ps) ∧ w'.heap[b]? = some (.cells #[v] 61 (0, 0))
  | none => e = .returned (.bool false) ∧ w'.heap[b]? = W.heap[b]?) ∧ Kept b W w'

theorem alloc_old (W : World) (o : Obj) (b : Nat) (hb : b < W.heap.size) : (W.alloc o).heap[b]? = W.heap[b]? := ((Below.refl W.heap.size W).alloc (Nat.le_refl _) o).block b hb
theorem kept_box {bp : Nat} {W w1 : World} {o : Obj} (h : Kept bp (W.alloc o) w1) (v : Value) : Kept bp W (w1.setCell ⟨W.heap.size, 0, none⟩ v) := by
  have hs := h.size
  simp at hs
  refine ⟨h.os, h.tape, h.output, by simp [World.setCell]; omega, fun b hb hd => ?_⟩
  rw [Below.heap_setCell w1 ⟨W.heap.size, 0, none⟩ v b (show b ≠ W.heap.size by omega), h.same b (by simp; omega) hd, alloc_old W o b hb]

set_option maxRecDepth 100000 in
set_option maxHeartbeats 2000000 in
theorem soundSplit_in (W : World) (bk bd bp n : Nat) (hn : n ≤ 20) (k : Int) (s : ByteArray) (hs : s.size ≤ 2000) (v0 : Value) (pf : Nat → ByteArray → Option Nat)
    (hk : W.heap[bk]? = some (.cells #[.int .i64 k] 3 (0, 0))) (hd : W.heap[bd]? = some (.cells #[.string s] 9 (0, 0))) (hp : W.heap[bp]? = some (.cells #[v0] 61 (0, 0)))
    (hparts : ∀ w, Calls Tryz.prog 47 #[.int .i64 k] w fun e w' => PartsPost n pf w e w') :
    Calls Tryz.prog 52 #[fnV 54 #[boxV bk, boxV bd, boxV bp]] W fun e w' => SoundPost (fin pf n s) bp W e w' := by
  have hmf := mkf
  have hal : ∀ o, Below W.heap.size W (W.alloc o) := fun o => (Below.refl _ _).alloc (Nat.le_refl _) o
  have HW := Hid.mk (fun (o : Obj) => split1_in (W.alloc o) bk bd bp n hn k s hs v0 pf (((hal o).block bk (box_lt hk)).trans hk) (((hal o).block bd (box_lt hd)).trans hd) (((hal o).block bp (box_lt hp)).trans hp) hparts)
  clear hparts
  obtain ⟨R, hR⟩ : ∃ R, fin pf n s = R := ⟨_, rfl⟩
  rw [hR] at HW ⊢
  clear hR
  cases R with
  | none =>
    go_enter_defers Tryz.func52, Tryz.ntmps52
    go_wp2_with fail
    refine (HW.out _).mono ?_
    rintro e w1 ⟨⟨rfl, hb⟩, hkp⟩
    have hbox : w1.heap[W.heap.size]? = some (.cells #[.bool false] 4 (0, 0)) := (hkp.same _ (by simp) (by have := box_lt hp; omega)).trans (heap_new _ _)
    go_wp2
    refine leaves_cons (f := 81) (args := #[boxV W.heap.size]) (by simp) (by simp [go_sem]) ?_
    refine (catch_panic W.heap.size w1 false hbox []).mono ?_
    rintro e u' w2 ⟨rfl, rfl, rfl⟩
    have hbp := box_lt hp
    have hs2 := box_cell (box_set hbox (.bool false))
    simp [Leaves, settle, results, Tryz.results52, go_sem, hs2]
    refine ⟨⟨rfl, ?_⟩, kept_box hkp _⟩
    rw [Below.heap_setCell w1 ⟨W.heap.size, 0, none⟩ _ bp (show bp ≠ W.heap.size by omega), hb, alloc_old W _ bp hbp]
  | some ps =>
    go_enter_defers Tryz.func52, Tryz.ntmps52
    go_wp2_with fail
    refine (HW.out _).mono ?_
    rintro e w1 ⟨⟨rfl, v, hrow, hb⟩, hkp⟩
    have hbox : w1.heap[W.heap.size]? = some (.cells #[.bool false] 4 (0, 0)) := (hkp.same _ (by simp) (by have := box_lt hp; omega)).trans (heap_new _ _)
    have hbc := box_cell hbox
    have hbf := box_frozen hbox
    go_wp2
    refine leaves_cons (f := 81) (args := #[boxV W.heap.size]) (by simp) (by simp [go_sem]) ?_
    refine (catch_idle W.heap.size _).mono ?_
    rintro e u' w2 ⟨rfl, rfl, rfl⟩
    have hbp := box_lt hp
    have hs2 := box_cell (box_set hbox (.bool true))
    simp [Leaves, settle, results, Tryz.results52, go_sem, hs2]
    refine ⟨⟨rfl, v, ?_, ?_⟩, kept_box hkp _⟩
    · refine row_down (n₁ := (W.alloc (.cells #[.bool false] 4)).heap.size) (row_kept' hrow (Kept.set _ _ _ _) (by simp)) (by simp)
    · rw [Below.heap_setCell w1 ⟨W.heap.size, 0, none⟩ _ bp (show bp ≠ W.heap.size by omega)]; exact hb

/-- what split hands back. -/
def SplitPost (R : Option (List ByteArray)) (W : World) (e : Ending) (w' : World) : Prop := (match R with
  | some ps => ∃ v, e = .returned (.tuple #[v, .bool true]) ∧ w'.ownsRow W.heap.size 9 1 v ps.length (baV ps)
  | none => e = .returned (.tuple #[.slice none 0 0, .bool false])) ∧ Below W.heap.size W w'

set_option maxRecDepth 100000 in
theorem split_long (W : World) (k : Int) (s : ByteArray) (hm : s.size ≤ maxLen) (h : decide (0 ≤ k ∧ k ≤ 65535) = false ∨ 2000 < s.size) :
    Calls Tryz.prog 33 #[.int .i64 k, .string s] W fun e w' => SplitPost none W e w' := by
  unfold maxLen at hm
  cases hd : decide (0 ≤ k ∧ k ≤ 65535) with
  | false =>
    go_enter Tryz.func33, Tryz.ntmps33
    go_wp2_with fail
    refine (isType_in k _).mono ?_
    rintro e w1 ⟨rfl, rfl⟩
    rw [hd]
    go_wp2
    refine bodyPost_ret (v := .tuple #[.slice none 0 0, .bool false]) (by simp [results, Tryz.results33, go_sem]) rfl ⟨rfl, ?_⟩
    exact (((Below.refl _ _).alloc (Nat.le_refl _) _).alloc (by simp) _).alloc (by simp; omega) _
  | true =>
    have hl : 2000 < s.size := by
      rcases h with h | h
      · rw [hd] at h; cases h
      · exact h
    clear h
    go_enter Tryz.func33, Tryz.ntmps33
    go_wp2_with fail
    refine (isType_in k _).mono ?_
    rintro e w1 ⟨rfl, rfl⟩
    rw [hd]
    go_wp2
    refine bodyPost_ret (v := .tuple #[.slice none 0 0, .bool false]) (by simp [results, Tryz.results33, go_sem]) rfl ⟨rfl, ?_⟩
    exact (((Below.refl _ _).alloc (Nat.le_refl _) _).alloc (by simp) _).alloc (by simp; omega) _

set_option maxRecDepth 100000 in
set_option maxHeartbeats 2000000 in
theorem split_in (W : World) (n : Nat) (hn : n ≤ 20) (k : Int) (hk : 0 ≤ k ∧ k ≤ 65535) (s : ByteArray) (hs : s.size ≤ 2000) (pf : Nat → ByteArray → Option Nat)
    (hparts : ∀ w, Calls Tryz.prog 47 #[.int .i64 k] w fun e w' => PartsPost n pf w e w') :
    Calls Tryz.prog 33 #[.int .i64 k, .string s] W fun e w' => SplitPost (fin pf n s) W e w' := by
  have hmf := mkf
  have hd : decide (0 ≤ k ∧ k ≤ 65535) = true := by simp [hk]
  obtain ⟨W3, hW3⟩ : ∃ W3, W3 = (((W.alloc (.cells #[.int .i64 k] 3)).alloc (.cells #[.string s] 9)).alloc (.cells #[.slice none 0 0] 61)) := ⟨_, rfl⟩
  have hk3 : W3.heap[W.heap.size]? = some (.cells #[.int .i64 k] 3 (0, 0)) := by
    rw [hW3, alloc_old _ _ _ (by simp; omega), alloc_old _ _ _ (by simp)]; exact heap_new _ _
  have hd3 : W3.heap[W.heap.size + 1]? = some (.cells #[.string s] 9 (0, 0)) := by
    rw [hW3, alloc_old _ _ _ (by simp)]
    have := heap_new (W.alloc (.cells #[.int .i64 k] 3)) (.cells #[.string s] 9)
    rwa [World.size_alloc] at this
  have hp3 : W3.heap[W.heap.size + 1 + 1]? = some (.cells #[.slice none 0 0] 61 (0, 0)) := by
    rw [hW3]
    have := heap_new ((W.alloc (.cells #[.int .i64 k] 3)).alloc (.cells #[.string s] 9)) (.cells #[.slice none 0 0] 61)
    rwa [World.size_alloc, World.size_alloc] at this
  have hsz3 : W3.heap.size = W.heap.size + 3 := by rw [hW3]; simp
  have hbl3 : Below W.heap.size W W3 := by
    rw [hW3]; exact (((Below.refl _ _).alloc (Nat.le_refl _) _).alloc (by simp) _).alloc (by simp; omega) _
  have HS := Hid.mk (soundSplit_in W3 W.heap.size (W.heap.size + 1) (W.heap.size + 1 + 1) n hn k s hs _ pf hk3 hd3 hp3 hparts)
  obtain ⟨R, hR⟩ : ∃ R, fin pf n s = R := ⟨_, rfl⟩
  rw [hR] at HS ⊢
  have HP3 := Hid.mk hp3
  clear hR hk3 hd3 hparts hp3
  have HW3 := Hid.mk hW3
  cases R with
  | none =>
    go_enter Tryz.func33, Tryz.ntmps33
    go_wp2_with fail
    refine (isType_in k _).mono ?_
    rintro e w1 ⟨rfl, rfl⟩
    rw [hd]
    go_wp2_with fail
    rw [← HW3.out]
    refine HS.out.mono ?_
    rintro e w2 ⟨⟨rfl, hb⟩, hkp⟩
    have hb2 := hb.trans HP3.out
    have hc2 := box_cell hb2
    have hf2 := box_frozen hb2
    clear hW3
    go_wp2
    have hc4 := box_cell (box_set hb2 (.slice none 0 0))
    refine bodyPost_ret (v := .tuple #[.slice none 0 0, .bool false]) (by simp [results, Tryz.results33, go_sem, hc4]) rfl ⟨rfl, ?_⟩
    exact (hbl3.trans (hkp.below (n := W.heap.size) (by omega) (by omega))).setCell (p := ⟨W.heap.size + 1 + 1, 0, none⟩) (show W.heap.size ≤ W.heap.size + 1 + 1 by omega) _
  | some ps =>
    go_enter Tryz.func33, Tryz.ntmps33
    go_wp2_with fail
    refine (isType_in k _).mono ?_
    rintro e w1 ⟨rfl, rfl⟩
    rw [hd]
    go_wp2_with fail
    rw [← HW3.out]
    refine HS.out.mono ?_
    rintro e w2 ⟨⟨rfl, v, hrow, hb2⟩, hkp⟩
    obtain ⟨q, c, hv⟩ := row_as hrow
    subst hv
    have hc2 := box_cell hb2
    have hf2 := box_frozen hb2
    clear hW3
    go_wp2
    have hc4 := box_cell (box_set hb2 (.slice q ps.length c))
    refine bodyPost_ret (v := .tuple #[.slice q ps.length c, .bool true]) (by simp [results, Tryz.results33, go_sem, hc4]) rfl ⟨⟨_, rfl, ?_⟩, ?_⟩
    · exact row_down (row_kept' hrow (Kept.set (W.heap.size + 1 + 1) 0 _ _) (by omega)) (by omega)
    · exact (hbl3.trans (hkp.below (n := W.heap.size) (by omega) (by omega))).setCell (p := ⟨W.heap.size + 1 + 1, 0, none⟩) (show W.heap.size ≤ W.heap.size + 1 + 1 by omega) _

/-! ### Right -/
theorem right_of {k : Int} {s : ByteArray} {R : Option (List ByteArray)} (h : ∀ W, Calls Tryz.prog 33 #[.int .i64 k, .string s] W fun e w' => SplitPost R W e w') (W : World) :
    Calls Tryz.prog 11 #[.int .i64 k, .string s] W fun e w' => e = .returned (.bool R.isSome) ∧ Below W.heap.size W w' := by
  have H := Hid.mk h
  clear h
  cases R with
  | none =>
    go_enter Tryz.func11, Tryz.ntmps11
    go_wp2_with fail
    refine (H.out _).mono ?_
    rintro e w1 ⟨rfl, hb⟩
    go_wp2
    go_ret
    exact ⟨rfl, hb⟩
  | some ps =>
    go_enter Tryz.func11, Tryz.ntmps11
    go_wp2_with fail
    refine (H.out _).mono ?_
    rintro e w1 ⟨⟨v, rfl, _⟩, hb⟩
    go_wp2
    go_ret
    exact ⟨rfl, hb⟩
end Go.Proofs.YtkohkkakbcjgcabGreatDoor
