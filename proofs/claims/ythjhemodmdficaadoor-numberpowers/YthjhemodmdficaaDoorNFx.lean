/- What may be stored into boxes that were made ahead of calls; a frame of numbers that stays. -/
import Derived.Test.YthjhemodmdficaaDoorNEx
namespace Go.Proofs.YthjhemodmdficaaDoor
set_option linter.unusedVariables false
open Go.RowKit
theorem fx1 {p : Prop} {u : World} {b M : Nat} (f : u.heap[b]? = some (.cells (natL M).toArray 27 (0, 0))) (k : (b < u.heap.size ∧
    (∀ o N, (natStore (.pointer (some ⟨b, 0, none⟩)) (.agg (natL N).toArray)).run Tryd.prog (u.alloc o) = .ok () ((u.alloc o).setRow b (natL N).toArray)) ∧
    (∀ N N' K, (natStore (.pointer (some ⟨u.heap.size, 0, none⟩)) (.agg (natL N').toArray)).run Tryd.prog ((u.alloc (.cells (natL K).toArray 27)).setRow b (natL N).toArray) = .ok () (((u.alloc (.cells (natL K).toArray 27)).setRow b (natL N).toArray).setRow u.heap.size (natL N').toArray))) → p) : p := by
  have lt := box_lt f
  exact k ⟨lt, fun o N => natStore_run ((heap_alloc_old u o lt).trans f), fun N N' K => natStore_run (M := K) ((setRow_other _ _ _ _ (by omega)).trans (heap_new u _))⟩
theorem fx2 {p : Prop} {u : World} {b c M L : Nat} (f : u.heap[b]? = some (.cells (natL M).toArray 27 (0, 0))) (g : u.heap[c]? = some (.cells (natL L).toArray 27 (0, 0))) (ne : b ≠ c) (k : (
    (∀ N, (natStore (.pointer (some ⟨b, 0, none⟩)) (.agg (natL N).toArray)).run Tryd.prog u = .ok () (u.setRow b (natL N).toArray)) ∧
    (∀ N, (natStore (.pointer (some ⟨c, 0, none⟩)) (.agg (natL N).toArray)).run Tryd.prog u = .ok () (u.setRow c (natL N).toArray)) ∧
    (∀ N N', (natStore (.pointer (some ⟨c, 0, none⟩)) (.agg (natL N').toArray)).run Tryd.prog (u.setRow b (natL N).toArray) = .ok () ((u.setRow b (natL N).toArray).setRow c (natL N').toArray)) ∧
    (∀ N N', (natStore (.pointer (some ⟨b, 0, none⟩)) (.agg (natL N').toArray)).run Tryd.prog (u.setRow c (natL N).toArray) = .ok () ((u.setRow c (natL N).toArray).setRow b (natL N').toArray))) → p) : p :=
  k ⟨fun N => natStore_run f, fun N => natStore_run g, fun N N' => natStore_run ((setRow_other _ _ _ _ (Ne.symm ne)).trans g), fun N N' => natStore_run ((setRow_other _ _ _ _ ne).trans f)⟩
/-- a box made ahead of a call is there behind it. -/
theorem kp1 {p : Prop} {V u : World} {o : Obj} (hb : Below (V.alloc o).heap.size (V.alloc o) u) (k : u.heap[V.heap.size]? = some o → p) : p :=
  k ((hb.block V.heap.size (by simp)).trans (heap_new V o))
theorem kp1d {p : Prop} {V u : World} {o : Obj} (hb : Below (V.alloc o).drew.heap.size (V.alloc o).drew u) (k : u.heap[V.heap.size]? = some o → p) : p :=
  k ((hb.block V.heap.size (by simp)).trans (heap_new V o))
theorem kp2 {p : Prop} {V u : World} {M L : Nat} (hb : Below ((V.alloc (.cells (natL M).toArray 27)).alloc (.cells (natL L).toArray 27)).heap.size ((V.alloc (.cells (natL M).toArray 27)).alloc (.cells (natL L).toArray 27)) u) (k : u.heap[V.heap.size]? = some (.cells (natL M).toArray 27 (0, 0)) → u.heap[V.heap.size + 1]? = some (.cells (natL L).toArray 27 (0, 0)) → p) : p :=
  k ((hb.block V.heap.size (by simp; omega)).trans (two_new V _ _ _ _).1) ((hb.block (V.heap.size + 1) (by simp)).trans (two_new V _ _ _ _).2.1)
theorem kp2d {p : Prop} {V u : World} {M L : Nat} (hb : Below ((V.alloc (.cells (natL M).toArray 27)).alloc (.cells (natL L).toArray 27)).drew.heap.size ((V.alloc (.cells (natL M).toArray 27)).alloc (.cells (natL L).toArray 27)).drew u) (k : u.heap[V.heap.size]? = some (.cells (natL M).toArray 27 (0, 0)) → u.heap[V.heap.size + 1]? = some (.cells (natL L).toArray 27 (0, 0)) → p) : p :=
  k ((hb.block V.heap.size (by simp; omega)).trans (two_new V _ _ _ _).1) ((hb.block (V.heap.size + 1) (by simp)).trans (two_new V _ _ _ _).2.1)
/-- an older one, too. -/
theorem kpo {V u : World} {o o' : Obj} {b : Nat} (h : V.heap[b]? = some o') (hb : Below (V.alloc o).heap.size (V.alloc o) u) : u.heap[b]? = some o' :=
  (hb.block b (by have := box_lt h; simp; omega)).trans ((heap_alloc_old V o (box_lt h)).trans h)
theorem Has.lt {w : World} : ∀ {l : List (Nat × Nat)}, Has w l → ∀ p ∈ l, p.1 < w.heap.size
  | [], _, _, h => by cases h
  | q :: l, h, p, hp => by
    rcases List.mem_cons.1 hp with rfl | hp
    · exact box_lt h.1
    · exact Has.lt h.2 p hp
theorem Has.set {w : World} {b : Nat} {x : Array Value} : ∀ {l : List (Nat × Nat)}, Has w l → (∀ p ∈ l, p.1 < b) → Has (w.setRow b x) l
  | [], _, _ => trivial
  | q :: l, h, hl => ⟨(setRow_other _ _ _ _ (Nat.ne_of_lt (hl q (List.mem_cons_self ..)))).trans h.1, Has.set h.2 fun p hp => hl p (List.mem_cons_of_mem _ hp)⟩
/-- numbers in boxes below n, that stay. -/
structure Fr (W : World) (n : Nat) (l : List (Nat × Nat)) (w : World) : Prop where
  has : Has w l
  bel : Below W.heap.size W w
  lt : ∀ p ∈ l, p.1 < n
  sz : n ≤ w.heap.size
  ge : W.heap.size ≤ n
theorem Fr.start {W w : World} {l : List (Nat × Nat)} (h : Has w l) (hb : Below W.heap.size W w) : Fr W w.heap.size l w := ⟨h, hb, h.lt, Nat.le_refl _, hb.size⟩
theorem Has.drew {w : World} : ∀ {l : List (Nat × Nat)}, Has w l → Has w.drew l
  | [], _ => trivial
  | _ :: _, h => ⟨h.1, Has.drew h.2⟩
theorem Fr.drew {W w : World} {n : Nat} {l : List (Nat × Nat)} (h : Fr W n l w) : Fr W n l w.drew := ⟨h.has.drew, h.bel.drew, h.lt, h.sz, h.ge⟩
theorem Fr.blk {W w w' : World} {n : Nat} {l : List (Nat × Nat)} (h : Fr W n l w) (hb : Below w.heap.size w w') : Fr W n l w' := ⟨h.has.blk hb, bthen h.bel hb, h.lt, Nat.le_trans h.sz hb.size, h.ge⟩
theorem Fr.alloc {W w : World} {n : Nat} {l : List (Nat × Nat)} {o : Obj} (h : Fr W n l w) : Fr W n l (w.alloc o) := h.blk ((Below.refl _ _).alloc (Nat.le_refl _) _)
theorem Fr.set {W w : World} {n : Nat} {l : List (Nat × Nat)} {b : Nat} {x : Array Value} (h : Fr W n l w) (hb : n ≤ b) : Fr W n l (w.setRow b x) :=
  ⟨h.has.set fun p hp => Nat.lt_of_lt_of_le (h.lt p hp) hb, below_row h.bel (Nat.le_trans h.ge hb) _, h.lt, by simpa using h.sz, h.ge⟩
theorem Fr.setAt {W w u : World} {n : Nat} {l : List (Nat × Nat)} {x : Array Value} (hu : Fr W n l u) (h : Fr W n l w) : Fr W n l (w.setRow u.heap.size x) := h.set hu.sz
theorem Fr.setAt1 {W w u : World} {n : Nat} {l : List (Nat × Nat)} {x : Array Value} (hu : Fr W n l u) (h : Fr W n l w) : Fr W n l (w.setRow (u.heap.size + 1) x) := h.set (Nat.le_succ_of_le hu.sz)
end Go.Proofs.YthjhemodmdficaaDoor
