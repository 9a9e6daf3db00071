/- Layer 11: one more value behind a row of one's own that lies in a box. -/
import Derived.Maps.AppendAt
import Derived.Lib.Buffer
import Derived.Test.YtcebljcofkohiaaTbAll
namespace Go.Proofs.Ytcebljcofkohiaa
set_option linter.unusedVariables false
open Go.RowKit Go.Shelf
open Go.MapKept Go.WideMaps

theorem row_far {W : World} {base e size k : Nat} {v : Value} {xs : List Value} (hr : W.ownsRow base e size v k xs) {b : Nat} {c : Array Value} {t : TypeId} {f : Nat × Nat} (hb : W.heap[b]? = some (.cells c t f)) (hte : t ≠ e) : some b ≠ v.ownBlock := by
  intro h
  rcases hr.2 with ⟨rfl, _⟩ | ⟨g, cap, cur, rfl, _, hg, _⟩
  · simp [Value.ownBlock] at h
  · obtain rfl : b = g := by simpa [Value.ownBlock] using h
    rw [hg] at hb
    cases hb
    exact hte rfl
theorem row_base {W : World} {base e size k : Nat} {v : Value} {xs : List Value} (hr : W.ownsRow base e size v k xs) {b : Nat} (h : some b = v.ownBlock) : base ≤ b := by
  rcases hr.2 with ⟨rfl, _⟩ | ⟨g, cap, cur, rfl, hb, _⟩
  · simp [Value.ownBlock] at h
  · obtain rfl : b = g := by simpa [Value.ownBlock] using h
    exact hb

theorem row_shape {W : World} {base e size k : Nat} {v : Value} {xs : List Value} (h : W.ownsRow base e size v k xs) : ∃ q cap, v = .slice q k cap := by
  rcases h.2 with ⟨rfl, rfl⟩ | ⟨g, cap, cur, hv, _⟩
  · exact ⟨none, 0, rfl⟩
  · exact ⟨_, _, hv⟩

/-- a row with something in it: where it lies, what its cells hold. -/
theorem row_cells {W : World} {base e k : Nat} {v : Value} {xs : List Value} (h : W.ownsRow base e 1 v k xs) (hk : 0 < k) : ∃ g cap, v = .slice (some ⟨g, 0, none⟩) k cap ∧ base ≤ g ∧ g < W.heap.size ∧ ∀ j u, xs[j]? = some u → W.cell? ⟨g, j, none⟩ = some u := by
  rcases h.2 with ⟨_, h0⟩ | ⟨g, cap, cur, hv, hb, hg, _, _, _, ht⟩
  · omega
  · refine ⟨g, cap, hv, hb, blk_lt hg, fun j u hu => ?_⟩
    rw [← ht, List.getElem?_take] at hu
    split at hu
    · rw [cell_of_row _ _ _ _ _ _ hg]
      simpa using hu
    · cases hu

/-- behind one value more. -/
structure App1 (W w1 : World) (n₁ B : Nat) (t e : TypeId) (v v' : Value) (k : Nat) (ys : List Value) : Prop where
  box : Boxed w1 B t v
  box' : Boxed (w1.setCell ⟨B, 0, none⟩ v') B t v'
  row : (w1.setCell ⟨B, 0, none⟩ v').ownsRow n₁ e 1 v' (k + 1) ys
  others : KeepsOthers W (w1.setCell ⟨B, 0, none⟩ v')
  same : ∀ b, b < W.heap.size → b ≠ B → some b ≠ v.ownBlock → (w1.setCell ⟨B, 0, none⟩ v').heap[b]? = W.heap[b]?
  os : (w1.setCell ⟨B, 0, none⟩ v').os = W.os
  tape : (w1.setCell ⟨B, 0, none⟩ v').tape = W.tape
  output : (w1.setCell ⟨B, 0, none⟩ v').output = W.output
  size : W.heap.size ≤ (w1.setCell ⟨B, 0, none⟩ v').heap.size
theorem App1.below {W w1 : World} {n₁ B : Nat} {t e : TypeId} {v v' : Value} {k : Nat} {xs ys : List Value} (h : App1 W w1 n₁ B t e v v' k ys) (hr : W.ownsRow n₁ e 1 v k xs) {N : Nat} (hN : N ≤ n₁) (hB : N ≤ B) (hW : N ≤ W.heap.size) : Below N W (w1.setCell ⟨B, 0, none⟩ v') :=
  ⟨h.os, h.tape, h.output, h.size, fun b hb => h.same b (by omega) (by omega) (fun e => by have := row_base hr e; omega)⟩

theorem app1 {W : World} {n₁ B : Nat} {t e : TypeId} {z v x : Value} {bytes k : Nat} {xs : List Value} (hv : Boxed W B t v) (hte : t ≠ e) (hrow : W.ownsRow n₁ e 1 v k xs) (hn : n₁ ≤ W.heap.size)
    (ht : Try.prog.underlying t = some (.slice e)) (hinfo : (Try.prog.info? e).map (fun i => (i.zero, i.size, i.bytes)) = some (some z, 1, bytes)) (hz : z.cells.size = 1) (hx : x.oneCell' = true) (hk : k ≤ 1000000) (hby : bytes ≤ 64) :
    ∃ g cap w1, (Builtin.append_ #[t, t] t #[v, .slice (some ⟨W.heap.size, 0, none⟩) 1 1]).run Try.prog (W.alloc (.cells #[x] e (0, 0))).drew = .ok (.slice (some ⟨g, 0, none⟩) (k + 1) cap) w1 ∧ App1 W w1 n₁ B t e v (.slice (some ⟨g, 0, none⟩) (k + 1) cap) k (xs ++ [x]) := by
  obtain ⟨i0, hi, hz0, hz1, hz2⟩ := info_parts hinfo
  have hm : (k + 1) * bytes ≤ 140737488355328 := by
    have : (k + 1) * bytes ≤ 1000001 * 64 := Nat.mul_le_mul (by omega) hby
    omega
  obtain ⟨v', w1, hrun, hown', hg0, _⟩ := run_append_own (P := Try.prog) (W.alloc (.cells #[x] e (0, 0))).drew n₁ t t e i0 z 1 bytes ht hi hz0 hz1 hz2 hz (by decide) v k xs (hrow.alloc _) ⟨W.heap.size, 0, none⟩ 1 1 [x] rfl (cell_one_new _ _ _) (by simp [hx]) (by unfold maxLen; omega) hm (by simp [World.drew]; omega)
  have hgrow : (W.alloc (.cells #[x] e (0, 0))).grownBy w1 v.ownBlock := ⟨hg0.os, hg0.tape, hg0.output, hg0.size, hg0.block⟩
  obtain ⟨g, cap, rfl⟩ := ownsRow_succ hown'
  have hv1 : Boxed w1 B t v := (hv.alloc _).kept hgrow (hv.not_row hte hrow)
  refine ⟨g, cap, w1, hrun, hv1, hv1.set _, hown'.kept (grownBy_setCell' w1 B _) (.inr (hv1.not_row hte hown').symm), ?_, ?_, hgrow.os, hgrow.tape, hgrow.output, ?_⟩
  · refine ((KeepsOthers.alloc W _).trans (KeepsOthers.of_grownBy hgrow fun j o ej hj => ?_)).trans (KeepsOthers.setCell _ _ _)
    rcases (hrow.alloc (.cells #[x] e (0, 0))).2 with ⟨rfl, _⟩ | ⟨g, cap, cur, rfl, _, hgb, _⟩
    · simp [Value.ownBlock] at ej
    · obtain rfl : g = j := by simpa [Value.ownBlock] using ej
      rw [hgb] at hj; cases hj; rfl
  · intro b hb hB ho
    rw [Below.heap_setCell _ _ _ _ hB, hgrow.block b (by simp; omega) ho, Below.heap_alloc _ _ _ hb]
  · have := hgrow.size
    simp [World.setCell] at this ⊢
    omega

end Go.Proofs.Ytcebljcofkohiaa
