/- Layer 12: the plan's Swap. -/
import Derived.Test.YtdgkknjmhdmlfaaTiLeaf
namespace Go.Proofs.Ytdgkknjmhdmlfaa
set_option linter.unusedVariables false
open Go.RowKit
open Go.MapKept Go.WideMaps

/-- two entries change their places. -/
def sw (xs : List En) (i j : Nat) : List En := (xs.set i (xs.getD j (0, 0))).set j (xs.getD i (0, 0))
theorem getD_lt {xs : List En} {i : Nat} (h : i < xs.length) : xs.getD i (0, 0) = xs[i] := by simp [List.getD, List.getElem?_eq_getElem h]
theorem sw_len (xs : List En) (i j : Nat) : (sw xs i j).length = xs.length := by simp [sw]
theorem sw_get (xs : List En) (i j k : Nat) (hi : i < xs.length) (hj : j < xs.length) (hk : k < (sw xs i j).length) : (sw xs i j)[k] = if k = j then xs[i] else if k = i then xs[j] else xs[k]'(by simpa [sw_len] using hk) := by
  have e : (sw xs i j)[k] = if j = k then xs.getD i (0, 0) else if i = k then xs.getD j (0, 0) else xs[k]'(by simpa [sw_len] using hk) := by
    simp only [sw, List.getElem_set]
  rw [e, getD_lt hi, getD_lt hj]
  simp only [eq_comm (a := j), eq_comm (a := i)]
theorem sw_perm (xs : List En) (i j : Nat) (hi : i < xs.length) (hj : j < xs.length) : (sw xs i j).Perm xs := by
  unfold sw
  rw [getD_lt hi, getD_lt hj]
  by_cases h : i = j
  · subst h
    simp
  · exact List.set_set_perm hi hj

theorem nd_ne {xs : List En} (nd : (xs.map Prod.fst).Nodup) {a b : Nat} (ha : a < xs.length) (hb : b < xs.length) (hab : a ≠ b) : xs[a].1 ≠ xs[b].1 := by
  have hm : ∀ k (hk : k < xs.length), (xs.map Prod.fst)[k]'(by simpa using hk) = xs[k].1 := fun k hk => List.getElem_map _
  rw [← hm a ha, ← hm b hb]
  rcases Nat.lt_or_gt_of_ne hab with h | h
  · exact List.pairwise_iff_getElem.1 nd a b (by simpa using ha) (by simpa using hb) h
  · exact (List.pairwise_iff_getElem.1 nd b a (by simpa using hb) (by simpa using ha) h).symm
theorem row_put {w : World} {g : Nat} {cur : Array Value} {xs : List En} (hg : w.heap[g]? = some (.cells cur 74 (0, 0))) (ht : cur.toList.take (xs.length * 2) = fl xs) (i : Nat) (hi : i < xs.length) (e : En) :
    ∃ cur', ((w.setCell ⟨g, i * 2, none⟩ (.int .i64 e.1)).setCell ⟨g, i * 2 + 1, none⟩ (.int .i64 e.2)).heap[g]? = some (.cells cur' 74 (0, 0)) ∧ cur'.size = cur.size ∧ cur'.toList.take (xs.length * 2) = fl (xs.set i e) := by
  refine ⟨_, heap_set_same (heap_set_same hg _ _) _ _, by simp, ?_⟩
  rw [fl_set xs i e hi, ← ht]
  simp [List.take_set]

/-- the places behind a swap. -/
theorem Plcs.swap {D : DataW Unit} {xs : List En} (h : Plcs D xs) (hm : Go.Maps.IsMap D) (nd : (xs.map Prod.fst).Nodup) (i j : Nat) (hi : i < xs.length) (hj : j < xs.length) :
    Plcs ((D.put (il xs[j].1) (.lit (.int .i64 (i : Int)))).put (il xs[i].1) (.lit (.int .i64 (j : Int)))) (sw xs i j) := by
  have ne : ∀ a b (ha : a < xs.length) (hb : b < xs.length), a ≠ b → il xs[a].1 ≠ il xs[b].1 := fun a b ha hb hab e => by
    exact nd_ne nd ha hb hab (il_inj e)
  have hm1 : Go.Maps.IsMap (D.put (il xs[j].1) (.lit (.int .i64 (i : Int)))) := hm.put _ _
  refine ⟨fun k hk z => ?_, fun k hk z => ?_⟩
  · have hk' : k < xs.length := by simpa [sw_len] using hk
    rw [sw_get xs i j k hi hj hk]
    by_cases h1 : k = j
    · rw [if_pos h1, h1]
      exact Go.Maps.atKey_put_same (k := il _) hm1 trivial _ _
    · rw [if_neg h1]
      by_cases h2 : k = i
      · rw [if_pos h2, Go.Maps.atKey_put_other (ne j i hj hi (fun e => h1 (h2.trans e.symm))), h2]
        exact Go.Maps.atKey_put_same (k := il _) hm trivial _ _
      · rw [if_neg h2, Go.Maps.atKey_put_other (ne k i hk' hi h2), Go.Maps.atKey_put_other (ne k j hk' hj h1)]
        exact h.yes k hk' z
  · have hk' : ∀ e ∈ xs, e.1 ≠ k := fun e he => hk e ((sw_perm xs i j hi hj).mem_iff.2 he)
    rw [Go.Maps.atKey_put_other (fun e => hk' _ (List.getElem_mem hi) (il_inj e).symm), Go.Maps.atKey_put_other (fun e => hk' _ (List.getElem_mem hj) (il_inj e).symm)]
    exact h.no k hk' z

set_option maxRecDepth 100000 in
set_option maxHeartbeats 8000000 in
theorem swap_walk {w U1 U2 U3 : World} {T M g cap n : Nat} {i j : Nat} {ai at' bi bt : Int} (hi : i < n) (hj : j < n) (hn : n ≤ 1000)
    (c0 : w.cell? ⟨T, 0, none⟩ = some (.slice (some ⟨g, 0, none⟩) n cap)) (c1 : w.cell? ⟨T, 1, none⟩ = some (.map (some M)))
    (a0 : w.cell? ⟨g, i * 2, none⟩ = some (.int .i64 ai)) (a1 : w.cell? ⟨g, i * 2 + 1, none⟩ = some (.int .i64 at'))
    (b0 : w.cell? ⟨g, j * 2, none⟩ = some (.int .i64 bi)) (b1 : w.cell? ⟨g, j * 2 + 1, none⟩ = some (.int .i64 bt))
    (hgT : ¬ g = T) (f0 : w.frozen? ⟨g, i * 2, none⟩ = false) (f1 : w.frozen? ⟨g, i * 2 + 1, none⟩ = false) (f2 : w.frozen? ⟨g, j * 2, none⟩ = false) (f3 : w.frozen? ⟨g, j * 2 + 1, none⟩ = false)
    (hU1 : ((((w.setCell ⟨g, i * 2, none⟩ (.int .i64 bi)).setCell ⟨g, i * 2 + 1, none⟩ (.int .i64 bt)).setCell ⟨g, j * 2, none⟩ (.int .i64 ai)).setCell ⟨g, j * 2 + 1, none⟩ (.int .i64 at')).drew = U1)
    (u0 : U1.cell? ⟨T, 0, none⟩ = some (.slice (some ⟨g, 0, none⟩) n cap)) (u1 : U1.cell? ⟨T, 1, none⟩ = some (.map (some M))) (p0 : U1.cell? ⟨g, i * 2, none⟩ = some (.int .i64 bi))
    (m1 : (Instr.mapUpdate 64 (.map (some M)) (.int .i64 bi) (.int .i64 (i : Int))).run Try.prog U1.drew = .ok () U2)
    (v0 : U2.cell? ⟨T, 0, none⟩ = some (.slice (some ⟨g, 0, none⟩) n cap)) (v1 : U2.cell? ⟨T, 1, none⟩ = some (.map (some M))) (q0 : U2.cell? ⟨g, j * 2, none⟩ = some (.int .i64 ai))
    (m2 : (Instr.mapUpdate 64 (.map (some M)) (.int .i64 ai) (.int .i64 (j : Int))).run Try.prog U2.drew = .ok () U3) :
    Calls Try.prog 64 #[pt T, .int .i64 (i : Int), .int .i64 (j : Int)] w fun e w' => e = .returned (.tuple #[]) ∧ w' = U3 := by
  have hTg : ¬ T = g := fun e => hgT e.symm
  by_cases hij : i = j
  · subst hij
    obtain rfl : bi = ai := by rw [a0] at b0; simpa using b0.symm
    obtain rfl : bt = at' := by rw [a1] at b1; simpa using b1.symm
    go_enter Try.func64, Try.ntmps64
    go_wp2
    go_region
    clear c0 c1 a0 a1 b0 b1 f0 f1 f2 f3 hU1
    go_wp2
    go_region
    clear m1 u0 u1 p0
    go_wp2
    go_region
    go_wp2
    go_end0
    exact ⟨rfl, rfl⟩
  · have hji : ¬ j = i := fun e => hij e.symm
    have d1 : ¬ i * 2 = j * 2 := by omega
    have d2 : ¬ i * 2 = j * 2 + 1 := by omega
    have d3 : ¬ i * 2 + 1 = j * 2 := by omega
    have d4 : ¬ i * 2 + 1 = j * 2 + 1 := by omega
    go_enter Try.func64, Try.ntmps64
    go_wp2
    go_region
    clear c0 c1 a0 a1 b0 b1 f0 f1 f2 f3 hU1
    go_wp2
    go_region
    clear m1 u0 u1 p0
    go_wp2
    go_region
    go_wp2
    go_end0
    exact ⟨rfl, rfl⟩

end Go.Proofs.Ytdgkknjmhdmlfaa
