/- Layer 12: the plan's Len, Less. -/
import Derived.BigRegion
import Derived.Test.YtdgkknjmhdmlfaaTiBase
namespace Go.Proofs.Ytdgkknjmhdmlfaa
set_option linter.unusedVariables false
open Go.RowKit
open Go.MapKept Go.WideMaps

theorem plen_in {N : Nat} {w : World} {T M : Nat} {v : Value} {xs : List En} (h : TmA N w T M v xs) :
    Calls Try.prog 34 #[pt T] w fun e w' => e = .returned (.int .i64 (xs.length : Int)) ∧ w' = w := by
  obtain ⟨q, cap, hv⟩ : ∃ q cap, v = .slice q xs.length cap := by
    rcases h.row.2 with ⟨h1, h2⟩ | ⟨g, cap, cur, h1, _⟩
    · exact ⟨none, 0, by rw [h1, h2]⟩
    · exact ⟨_, _, h1⟩
  have c0 := h.c0
  rw [hv] at c0
  clear h hv
  go_enter Try.func34, Try.ntmps34
  go_wp2
  go_ret
  exact ⟨rfl, rfl⟩

/-- does one come ahead of another one? -/
def lt (a b : En) : Prop := a.2 < b.2 ∨ a.2 = b.2 ∧ a.1 < b.1
instance (a b : En) : Decidable (lt a b) := by unfold lt; infer_instance

set_option maxRecDepth 100000 in
set_option maxHeartbeats 4000000 in
theorem less_in {N : Nat} {w : World} {T M : Nat} {v : Value} {xs : List En} (h : TmA N w T M v xs) (i j : Nat) (hi : i < xs.length) (hj : j < xs.length) :
    Calls Try.prog 61 #[pt T, .int .i64 (i : Int), .int .i64 (j : Int)] w fun e w' => e = .returned (.bool (decide (lt xs[i] xs[j]))) ∧ Below w.heap.size w w' := by
  obtain ⟨g, cap, cur, rfl, hNg, hg, hc1, hc2, hc3, hc4⟩ := h.at (by omega)
  have c0 := h.c0
  obtain ⟨a0, a1⟩ := at_cell hg hc4 i hi
  obtain ⟨b0, b1⟩ := at_cell hg hc4 j hj
  have hl := h.len
  obtain ⟨n, hn⟩ : ∃ n, xs.length = n := ⟨_, rfl⟩
  obtain ⟨⟨ai, at'⟩, hA⟩ : ∃ a, xs[i] = a := ⟨_, rfl⟩
  obtain ⟨⟨bi, bt⟩, hB⟩ : ∃ a, xs[j] = a := ⟨_, rfl⟩
  rw [hA] at a0 a1 ⊢
  rw [hB] at b0 b1 ⊢
  rw [hn] at hi hj c0 hl
  simp only at a0 a1 b0 b1
  have hgw : g < w.heap.size := blk_lt hg
  have hTw : T < w.heap.size := blk_lt h.tb
  clear h hg hc4 hA hB hc3 hn
  by_cases hne : at' = bt
  · subst hne
    have hr : decide (lt (ai, at') (bi, at')) = decide (ai < bi) := by simp [lt]
    rw [hr]
    clear hr
    go_enter Try.func61, Try.ntmps61
    go_wp2
    go_region
    all_goals
      go_wp2
      go_ret
      exact ⟨rfl, (((Below.refl _ _).alloc (Nat.le_refl _) _).alloc (by simp) _).drew⟩
  · have hr : decide (lt (ai, at') (bi, bt)) = decide (at' < bt) := by simp [lt, hne]
    rw [hr]
    clear hr
    have hne2 : (at' != bt) = true := by simp [hne]
    go_enter Try.func61, Try.ntmps61
    go_wp2
    go_region
    all_goals
      go_wp2
      go_ret
      exact ⟨rfl, (((Below.refl _ _).alloc (Nat.le_refl _) _).alloc (by simp) _).drew⟩

end Go.Proofs.Ytdgkknjmhdmlfaa
