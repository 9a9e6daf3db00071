/- Layer 12: Swap of a timer's plan. -/
import Derived.Test.YtdgkknjmhdmlfaaTiSwap
namespace Go.Proofs.Ytdgkknjmhdmlfaa
set_option linter.unusedVariables false
open Go.RowKit
open Go.MapKept Go.WideMaps

theorem cell_of_heap {w : World} {b i : Nat} {c : Array Value} {t : TypeId} {f : Nat × Nat} {v : Value} (h : w.heap[b]? = some (.cells c t f)) (hc : c[i]? = some v) : w.cell? ⟨b, i, none⟩ = some v := by rw [cell_of_row _ _ _ _ _ _ h]; exact hc

theorem swap_in {N : Nat} {w : World} {T M : Nat} {v : Value} {xs : List En} (h : TmA N w T M v xs) (i j : Nat) (hi : i < xs.length) (hj : j < xs.length) :
    Calls Try.prog 64 #[pt T, .int .i64 (i : Int), .int .i64 (j : Int)] w fun e w' => e = .returned (.tuple #[]) ∧ TmA N w' T M v (sw xs i j) ∧ Fr N w w' := by
  obtain ⟨g, cap, cur, rfl, hNg, hg, hc1, hc2, hc3, hc4⟩ := h.at (by omega)
  obtain ⟨a0, a1⟩ := at_cell hg hc4 i hi
  obtain ⟨b0, b1⟩ := at_cell hg hc4 j hj
  have hgT : ¬ g = T := fun e => by subst e; rw [h.tb] at hg; cases hg
  have hgM : ¬ g = M := fun e => by
    subst e
    obtain ⟨es, cl, hm⟩ := h.mp.isMap
    rw [hm] at hg; cases hg
  have hTM : ¬ T = M := fun e => by
    subst e
    obtain ⟨es, cl, hm⟩ := h.mp.isMap
    have := h.tb
    rw [hm] at this; cases this
  obtain ⟨cu1, hg1, hs1, ht1⟩ := row_put hg hc4 i hi xs[j]
  obtain ⟨cu2, hg2, hs2, ht2⟩ := row_put (xs := xs.set i xs[j]) hg1 (by simpa using ht1) j (by simpa using hj) xs[i]
  have hsw : (xs.set i xs[j]).set j xs[i] = sw xs i j := by unfold sw; rw [getD_lt hi, getD_lt hj]
  rw [hsw] at ht2
  obtain ⟨U, hU⟩ : ∃ U, (((w.setCell ⟨g, i * 2, none⟩ (.int .i64 xs[j].1)).setCell ⟨g, i * 2 + 1, none⟩ (.int .i64 xs[j].2)).setCell ⟨g, j * 2, none⟩ (.int .i64 xs[i].1)).setCell ⟨g, j * 2 + 1, none⟩ (.int .i64 xs[i].2) = U := ⟨_, rfl⟩
  rw [hU] at hg2
  have fU : Fr N w U := by
    rw [← hU]
    have e1 := Fr.set (i := i * 2) (Fr.refl N w) hg (.inr rfl) hNg (.int .i64 xs[j].1)
    have e2 := Fr.set (i := i * 2 + 1) e1 (heap_set_same hg _ _) (.inr rfl) hNg (.int .i64 xs[j].2)
    have e3 := Fr.set (i := j * 2) e2 hg1 (.inr rfl) hNg (.int .i64 xs[i].1)
    exact Fr.set (i := j * 2 + 1) e3 (heap_set_same hg1 _ _) (.inr rfl) hNg (.int .i64 xs[i].2)
  have hT2 : U.heap[T]? = some (.cells #[.slice (some ⟨g, 0, none⟩) xs.length cap, .map (some M)] 69 (0, 0)) := by
    rw [← hU]
    have hTg : T ≠ g := fun e => hgT e.symm
    rw [Below.heap_setCell _ _ _ _ hTg, Below.heap_setCell _ _ _ _ hTg, Below.heap_setCell _ _ _ _ hTg, Below.heap_setCell _ _ _ _ hTg]
    exact h.tb
  have hM2 : U.heap[M]? = w.heap[M]? := by
    rw [← hU]
    have hMg : M ≠ g := fun e => hgM e.symm
    rw [Below.heap_setCell _ _ _ _ hMg, Below.heap_setCell _ _ _ _ hMg, Below.heap_setCell _ _ _ _ hMg, Below.heap_setCell _ _ _ _ hMg]
  obtain ⟨D, hD, hP⟩ := h.mp.same (w' := U.drew.drew) hM2
  have hl := h.len
  have wi := h.rng _ (List.getElem_mem hi)
  have wj := h.rng _ (List.getElem_mem hj)
  have hmx : xs.length + 1 < maxLen := by unfold maxLen; omega
  obtain ⟨U2, r1, hD1, t1⟩ := hD.store keyed Try.underlying64 (by omega) (Go.Maps.keyOf_int_mk Try.underlying3 wj.1.wf) (val := .int .i64 (i : Int)) (plainElem_int Try.underlying3 (Go.WalkArith.wf_i64 (by omega)))
  obtain ⟨U3, r2, hD2, t2⟩ := World.ownsMap.store (w := U2.drew) hD1 keyed Try.underlying64 (by omega) (Go.Maps.keyOf_int_mk Try.underlying3 wi.1.wf) (val := .int .i64 (j : Int)) (plainElem_int Try.underlying3 (Go.WalkArith.wf_i64 (by omega)))
  have g1 := t1.grown
  have g2 := t2.grown
  have hne : ∀ b, ¬ b = M → some b ≠ some M := fun b hb e => hb (Option.some.inj e)
  have kT1 : U2.heap[T]? = U.heap[T]? := g1.block T (blk_lt hT2) (hne T hTM)
  have kg1 : U2.heap[g]? = U.heap[g]? := g1.block g (blk_lt hg2) (hne g hgM)
  have kT2 : U3.heap[T]? = U2.heap[T]? := g2.block T (blk_lt (kT1.trans hT2)) (hne T hTM)
  have kg2 : U3.heap[g]? = U2.heap[g]? := g2.block g (blk_lt (kg1.trans hg2)) (hne g hgM)
  have ec := at_cell (xs := sw xs i j) hg2 (by rw [sw_len]; simpa using ht2)
  have ei := (ec i (by rw [sw_len]; exact hi)).1
  have ej := (ec j (by rw [sw_len]; exact hj)).1
  have hei : ((sw xs i j)[i]'(by rw [sw_len]; exact hi)).1 = xs[j].1 := by
    rw [sw_get xs i j i hi hj]
    by_cases e : i = j
    · simp [e]
    · simp [e]
  have hej : ((sw xs i j)[j]'(by rw [sw_len]; exact hj)).1 = xs[i].1 := by rw [sw_get xs i j j hi hj]; simp
  rw [hei] at ei
  rw [hej] at ej
  refine (swap_walk (U1 := U.drew) (U2 := U2) (U3 := U3) hi hj h.len h.c0 h.c1 a0 a1 b0 b1 hgT (frozen_of hg _) (frozen_of hg _) (frozen_of hg _) (frozen_of hg _) (by rw [hU]) (cell_of_heap hT2 rfl) (cell_of_heap hT2 rfl) ei r1 (cell_of_heap (kT1.trans hT2) rfl) (cell_of_heap (kT1.trans hT2) rfl) ((World.cell?_of_block kg1).trans ej) r2).mono ?_
  rintro e w' ⟨rfl, rfl⟩
  have hperm := sw_perm xs i j hi hj
  refine ⟨rfl, ⟨h.nT, h.nM, kT2.trans (kT1.trans ?_), ⟨fl_len _, .inr ⟨g, cap, cu2, by rw [sw_len], hNg, kg2.trans (kg1.trans hg2), by rw [sw_len]; exact hc1, hc2, by omega, by rw [sw_len]; simpa using ht2⟩⟩, shrink hD2 (hP.swap hD.isMap h.nd i j hi hj), (hperm.map _).nodup_iff.2 h.nd, fun e he => h.rng e (hperm.mem_iff.1 he), by rw [sw_len]; exact h.len⟩, ?_⟩
  · exact hT2
  · exact Fr.turned (Fr.drew (Fr.turned fU.drew.drew t1 h.nM)) t2 h.nM

end Go.Proofs.Ytdgkknjmhdmlfaa
