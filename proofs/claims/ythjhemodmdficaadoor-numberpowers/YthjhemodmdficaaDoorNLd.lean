/- A whole number loaded and stored, as one step that the walk does not look into. -/
import Derived.Test.YthjhemodmdficaaDoorNMod
namespace Go.Proofs.YthjhemodmdficaaDoor
set_option linter.unusedVariables false
open Go.RowKit
def natLoad (v : Value) : Sem Value := Instr.loadAt 27 v
def natStore (a x : Value) : Sem Unit := Instr.storeAt 27 a x
theorem loadAt_nat (v : Value) : Instr.loadAt 27 v = natLoad v := rfl
theorem storeAt_nat (a x : Value) : Instr.storeAt 27 a x = natStore a x := rfl
theorem natLoad_run {w : World} {b N : Nat} (h : w.heap[b]? = some (.cells (natL N).toArray 27 (0, 0))) : (natLoad (.pointer (some ⟨b, 0, none⟩))).run Tryd.prog w = .ok (.agg (natL N).toArray) w := nat_load h (natL_len N)
theorem natStore_run {w : World} {b N M : Nat} (h : w.heap[b]? = some (.cells (natL M).toArray 27 (0, 0))) : (natStore (.pointer (some ⟨b, 0, none⟩)) (.agg (natL N).toArray)).run Tryd.prog w = .ok () (w.setRow b (natL N).toArray) := nat_store h (natL_len M) (natL_len N) (natL_cells N)
theorem setRow_new (w : World) (L M : List Value) (t : TypeId) : (w.alloc (.cells L.toArray t)).setRow w.heap.size M.toArray = w.alloc (.cells M.toArray t) := by
  have e : ∀ (h1 h2 : Array Obj), h1 = h2 → ({ w with heap := h1 } : World) = { w with heap := h2 } := fun _ _ h => by rw [h]
  refine e _ _ ?_
  apply Array.ext_getElem?
  intro k
  show ((w.heap.push _).modify _ _)[k]? = (w.heap.push _)[k]?
  simp only [Array.getElem?_modify, Array.getElem?_push]
  by_cases hk : k = w.heap.size
  · subst hk; simp
  · simp [hk, Ne.symm hk]
theorem setRow_in (w : World) (A B : Obj) (M : Array Value) (b : Nat) (h : b < (w.alloc A).heap.size) : ((w.alloc A).alloc B).setRow b M = ((w.alloc A).setRow b M).alloc B := by
  have e : ∀ (h1 h2 : Array Obj), h1 = h2 → ({ w with heap := h1 } : World) = { w with heap := h2 } := fun _ _ h => by rw [h]
  refine e _ _ ?_
  apply Array.ext_getElem?
  intro k
  have h' : b < w.heap.size + 1 := by simpa using h
  show (((w.heap.push A).push B).modify _ _)[k]? = (((w.heap.push A).modify _ _).push B)[k]?
  simp only [Array.getElem?_modify, Array.getElem?_push, Array.size_modify, Array.size_push]
  by_cases hb : b = k
  · subst hb
    have : ¬ b = w.heap.size + 1 := by omega
    simp [this]
  · by_cases hk : k = w.heap.size + 1
    · subst hk; simp [hb]
    · simp [hb, hk]
theorem st1 (w : World) (N M : Nat) : (natStore (.pointer (some ⟨w.heap.size, 0, none⟩)) (.agg (natL N).toArray)).run Tryd.prog (w.alloc (.cells (natL M).toArray 27)) = .ok () (w.alloc (.cells (natL N).toArray 27)) := by
  rw [natStore_run (heap_new _ _), setRow_new]
theorem st2a (w : World) (N M K : Nat) : (natStore (.pointer (some ⟨w.heap.size, 0, none⟩)) (.agg (natL N).toArray)).run Tryd.prog ((w.alloc (.cells (natL M).toArray 27)).alloc (.cells (natL K).toArray 27)) = .ok () ((w.alloc (.cells (natL N).toArray 27)).alloc (.cells (natL K).toArray 27)) := by
  rw [natStore_run (two_new _ _ _ _ _).1, setRow_in _ _ _ _ _ (by simp), setRow_new]
theorem st2b (w : World) (N M K : Nat) : (natStore (.pointer (some ⟨w.heap.size + 1, 0, none⟩)) (.agg (natL N).toArray)).run Tryd.prog ((w.alloc (.cells (natL M).toArray 27)).alloc (.cells (natL K).toArray 27)) = .ok () ((w.alloc (.cells (natL M).toArray 27)).alloc (.cells (natL N).toArray 27)) := by
  rw [natStore_run (two_new _ _ _ _ _).2.1]
  have h := setRow_new (w.alloc (.cells (natL M).toArray 27)) (natL K) (natL N) 27
  rw [show (w.alloc (.cells (natL M).toArray 27)).heap.size = w.heap.size + 1 by simp] at h
  rw [h]
theorem st1d (w : World) (N M : Nat) : (natStore (.pointer (some ⟨w.heap.size, 0, none⟩)) (.agg (natL N).toArray)).run Tryd.prog (w.alloc (.cells (natL M).toArray 27)).drew = .ok () (w.alloc (.cells (natL N).toArray 27)).drew := st1 w.drew N M
theorem st2ad (w : World) (N M K : Nat) : (natStore (.pointer (some ⟨w.heap.size, 0, none⟩)) (.agg (natL N).toArray)).run Tryd.prog ((w.alloc (.cells (natL M).toArray 27)).alloc (.cells (natL K).toArray 27)).drew = .ok () ((w.alloc (.cells (natL N).toArray 27)).alloc (.cells (natL K).toArray 27)).drew := st2a w.drew N M K
theorem st2bd (w : World) (N M K : Nat) : (natStore (.pointer (some ⟨w.heap.size + 1, 0, none⟩)) (.agg (natL N).toArray)).run Tryd.prog ((w.alloc (.cells (natL M).toArray 27)).alloc (.cells (natL K).toArray 27)).drew = .ok () ((w.alloc (.cells (natL M).toArray 27)).alloc (.cells (natL N).toArray 27)).drew := st2b w.drew N M K
/-- one number's box made ahead of a call: what may be stored behind it. -/
theorem kept_one {V w2 : World} {M : Nat} (hb : Below (V.alloc (.cells (natL M).toArray 27)).drew.heap.size (V.alloc (.cells (natL M).toArray 27)).drew w2) : w2.heap[V.heap.size]? = some (.cells (natL M).toArray 27 (0, 0)) ∧ V.heap.size < w2.heap.size ∧
    (∀ o N, (natStore (.pointer (some ⟨V.heap.size, 0, none⟩)) (.agg (natL N).toArray)).run Tryd.prog (w2.alloc o) = .ok () ((w2.alloc o).setRow V.heap.size (natL N).toArray)) ∧
    (∀ N N' K, (natStore (.pointer (some ⟨w2.heap.size, 0, none⟩)) (.agg (natL N').toArray)).run Tryd.prog ((w2.alloc (.cells (natL K).toArray 27)).setRow V.heap.size (natL N).toArray) = .ok () (((w2.alloc (.cells (natL K).toArray 27)).setRow V.heap.size (natL N).toArray).setRow w2.heap.size (natL N').toArray)) := by
  have g : w2.heap[V.heap.size]? = some (.cells (natL M).toArray 27 (0, 0)) := (hb.block V.heap.size (by simp)).trans (heap_new V _)
  have lt := box_lt g
  refine ⟨g, lt, fun o N => natStore_run ((heap_alloc_old w2 o lt).trans g), fun N N' K => natStore_run (M := K) ((setRow_other _ _ _ _ (by omega)).trans (heap_new w2 _))⟩
theorem kept_two {V w2 : World} {M L : Nat} (hb : Below ((V.alloc (.cells (natL M).toArray 27)).alloc (.cells (natL L).toArray 27)).drew.heap.size ((V.alloc (.cells (natL M).toArray 27)).alloc (.cells (natL L).toArray 27)).drew w2) : w2.heap[V.heap.size]? = some (.cells (natL M).toArray 27 (0, 0)) ∧ w2.heap[V.heap.size + 1]? = some (.cells (natL L).toArray 27 (0, 0)) ∧
    (∀ N, (natStore (.pointer (some ⟨V.heap.size, 0, none⟩)) (.agg (natL N).toArray)).run Tryd.prog w2 = .ok () (w2.setRow V.heap.size (natL N).toArray)) ∧
    (∀ N, (natStore (.pointer (some ⟨V.heap.size + 1, 0, none⟩)) (.agg (natL N).toArray)).run Tryd.prog w2 = .ok () (w2.setRow (V.heap.size + 1) (natL N).toArray)) ∧
    (∀ N N', (natStore (.pointer (some ⟨V.heap.size + 1, 0, none⟩)) (.agg (natL N').toArray)).run Tryd.prog (w2.setRow V.heap.size (natL N).toArray) = .ok () ((w2.setRow V.heap.size (natL N).toArray).setRow (V.heap.size + 1) (natL N').toArray)) ∧
    (∀ N N', (natStore (.pointer (some ⟨V.heap.size, 0, none⟩)) (.agg (natL N').toArray)).run Tryd.prog (w2.setRow (V.heap.size + 1) (natL N).toArray) = .ok () ((w2.setRow (V.heap.size + 1) (natL N).toArray).setRow V.heap.size (natL N').toArray)) := by
  have g1 : w2.heap[V.heap.size]? = some (.cells (natL M).toArray 27 (0, 0)) := (hb.block V.heap.size (by simp; omega)).trans (two_new V _ _ _ _).1
  have g2 : w2.heap[V.heap.size + 1]? = some (.cells (natL L).toArray 27 (0, 0)) := (hb.block (V.heap.size + 1) (by simp)).trans (two_new V _ _ _ _).2.1
  exact ⟨g1, g2, fun N => natStore_run g1, fun N => natStore_run g2, fun N N' => natStore_run ((setRow_other _ _ _ _ (by omega)).trans g2), fun N N' => natStore_run ((setRow_other _ _ _ _ (by omega)).trans g1)⟩
theorem wk1 {p : Prop} {V w2 : World} {M : Nat} (hb : Below (V.alloc (.cells (natL M).toArray 27)).drew.heap.size (V.alloc (.cells (natL M).toArray 27)).drew w2) (k : (w2.heap[V.heap.size]? = some (.cells (natL M).toArray 27 (0, 0)) ∧ V.heap.size < w2.heap.size ∧
    (∀ o N, (natStore (.pointer (some ⟨V.heap.size, 0, none⟩)) (.agg (natL N).toArray)).run Tryd.prog (w2.alloc o) = .ok () ((w2.alloc o).setRow V.heap.size (natL N).toArray)) ∧
    (∀ N N' K, (natStore (.pointer (some ⟨w2.heap.size, 0, none⟩)) (.agg (natL N').toArray)).run Tryd.prog ((w2.alloc (.cells (natL K).toArray 27)).setRow V.heap.size (natL N).toArray) = .ok () (((w2.alloc (.cells (natL K).toArray 27)).setRow V.heap.size (natL N).toArray).setRow w2.heap.size (natL N').toArray))) → p) : p := k (kept_one hb)
theorem wk2 {p : Prop} {V w2 : World} {M L : Nat} (hb : Below ((V.alloc (.cells (natL M).toArray 27)).alloc (.cells (natL L).toArray 27)).drew.heap.size ((V.alloc (.cells (natL M).toArray 27)).alloc (.cells (natL L).toArray 27)).drew w2) (k : (w2.heap[V.heap.size]? = some (.cells (natL M).toArray 27 (0, 0)) ∧ w2.heap[V.heap.size + 1]? = some (.cells (natL L).toArray 27 (0, 0)) ∧
    (∀ N, (natStore (.pointer (some ⟨V.heap.size, 0, none⟩)) (.agg (natL N).toArray)).run Tryd.prog w2 = .ok () (w2.setRow V.heap.size (natL N).toArray)) ∧
    (∀ N, (natStore (.pointer (some ⟨V.heap.size + 1, 0, none⟩)) (.agg (natL N).toArray)).run Tryd.prog w2 = .ok () (w2.setRow (V.heap.size + 1) (natL N).toArray)) ∧
    (∀ N N', (natStore (.pointer (some ⟨V.heap.size + 1, 0, none⟩)) (.agg (natL N').toArray)).run Tryd.prog (w2.setRow V.heap.size (natL N).toArray) = .ok () ((w2.setRow V.heap.size (natL N).toArray).setRow (V.heap.size + 1) (natL N').toArray)) ∧
    (∀ N N', (natStore (.pointer (some ⟨V.heap.size, 0, none⟩)) (.agg (natL N').toArray)).run Tryd.prog (w2.setRow (V.heap.size + 1) (natL N).toArray) = .ok () ((w2.setRow (V.heap.size + 1) (natL N).toArray).setRow V.heap.size (natL N').toArray))) → p) : p := k (kept_two hb)
/-- two numbers loaded, two stored, in an order that Go leaves open. -/
theorem swap_f {X : World} {p q s t a b c d : Nat} (hp : X.heap[p]? = some (.cells (natL a).toArray 27 (0, 0))) (hq : X.heap[q]? = some (.cells (natL b).toArray 27 (0, 0))) (hs : X.heap[s]? = some (.cells (natL c).toArray 27 (0, 0))) (ht : X.heap[t]? = some (.cells (natL d).toArray 27 (0, 0))) (h1 : q ≠ s) (h2 : t ≠ s) :
    (natLoad (.pointer (some ⟨p, 0, none⟩))).run Tryd.prog X.drew = .ok (.agg (natL a).toArray) X.drew ∧ (natLoad (.pointer (some ⟨q, 0, none⟩))).run Tryd.prog X.drew = .ok (.agg (natL b).toArray) X.drew ∧
    (natLoad (.pointer (some ⟨q, 0, none⟩))).run Tryd.prog (X.drew.setRow s (natL a).toArray) = .ok (.agg (natL b).toArray) (X.drew.setRow s (natL a).toArray) ∧
    (natStore (.pointer (some ⟨s, 0, none⟩)) (.agg (natL a).toArray)).run Tryd.prog X.drew = .ok () (X.drew.setRow s (natL a).toArray) ∧
    (natStore (.pointer (some ⟨t, 0, none⟩)) (.agg (natL b).toArray)).run Tryd.prog (X.drew.setRow s (natL a).toArray) = .ok () ((X.drew.setRow s (natL a).toArray).setRow t (natL b).toArray) ∧
    ((X.drew.setRow s (natL a).toArray).setRow t (natL b).toArray).heap[s]? = some (.cells (natL a).toArray 27 (0, 0)) ∧ ((X.drew.setRow s (natL a).toArray).setRow t (natL b).toArray).heap[t]? = some (.cells (natL b).toArray 27 (0, 0)) ∧
    ∀ k, k ≠ s → k ≠ t → ((X.drew.setRow s (natL a).toArray).setRow t (natL b).toArray).heap[k]? = X.heap[k]? :=
  ⟨natLoad_run (w := X.drew) hp, natLoad_run (w := X.drew) hq, natLoad_run ((setRow_other _ _ _ _ h1).trans hq), natStore_run (w := X.drew) hs, natStore_run ((setRow_other _ _ _ _ h2).trans ht), (setRow_other _ _ _ _ (Ne.symm h2)).trans (setRow_heap X.drew _ _ _ _ _ hs), setRow_heap _ _ _ _ _ _ ((setRow_other _ _ _ _ h2).trans ht), fun k hk1 hk2 => (setRow_other _ _ _ _ hk2).trans (setRow_other _ _ _ _ hk1)⟩
def natBuild : Sem Value := Instr.build 27 #[]
theorem build_nat : Instr.build 27 #[] = natBuild := rfl
theorem build_nat' (f : Nat × Operand → Nat × Value) : Instr.build 27 (Array.map f #[]) = natBuild := by rw [Array.map_empty]; rfl
theorem natBuild_run (w : World) : natBuild.run Tryd.prog w = .ok (.agg (natL 0).toArray) w := by
  rw [natZ]; exact build26 w
theorem results_nat3 {fn : Func} {p q r : Tmp} (h : fn.results = #[.cell p 27, .cell q 27, .tmp r]) {tmps : Array Value} {W : World} {b c : Nat} {L M : List Value} {v : Value} {fz fy : Nat × Nat} (hp : tmps.getD p undef = .pointer (some ⟨b, 0, none⟩)) (hq : tmps.getD q undef = .pointer (some ⟨c, 0, none⟩)) (hr : tmps.getD r undef = v) (hb : W.heap[b]? = some (.cells L.toArray 27 fz)) (hc : W.heap[c]? = some (.cells M.toArray 27 fy)) (hs : L.length = 129) (ht : M.length = 129) :
    (results fn tmps).run Tryd.prog W = .ok (.tuple #[.agg L.toArray, .agg M.toArray, v]) W := by
  have hp' : tmps[p]?.getD undef = .pointer (some ⟨b, 0, none⟩) := by simpa using hp
  have hq' : tmps[q]?.getD undef = .pointer (some ⟨c, 0, none⟩) := by simpa using hq
  have hr' : tmps[r]?.getD undef = v := by simpa using hr
  simp only [results, h]
  simp [hp', hq', hr', asAddr, nat_loadV hb hs, nat_loadV hc ht]
end Go.Proofs.YthjhemodmdficaaDoor
