/- Layer 12: the plan's Push, Pop. -/
import Derived.Maps.AppendAt
import Derived.OwnWalk
import Derived.Test.YtdgkknjmhdmlfaaTiSwp
namespace Go.Proofs.Ytdgkknjmhdmlfaa
set_option linter.unusedVariables false
open Go.RowKit
open Go.MapKept Go.WideMaps

theorem infoE : (Try.prog.info? 74).map (fun i => (i.zero, i.size, i.bytes)) = some (some (.agg #[.int .i64 0, .int .i64 0]), 2, 16) := by kernel_rfl
def eApp (a : Array Value) : Sem Value := Builtin.append_ #[65, 65] 65 a
theorem app_e (a : Array Value) : Builtin.append_ #[65, 65] 65 a = eApp a := rfl
theorem row_base {W : World} {base e size k : Nat} {v : Value} {xs : List Value} (hr : W.ownsRow base e size v k xs) {b : Nat} (h : some b = v.ownBlock) : base ≤ b := by
  rcases hr.2 with ⟨rfl, _⟩ | ⟨g, cap, cur, rfl, hb, _⟩
  · simp [Value.ownBlock] at h
  · obtain rfl : b = g := by simpa [Value.ownBlock] using h
    exact hb
theorem row_far {W : World} {base e size k : Nat} {v : Value} {xs : List Value} (hr : W.ownsRow base e size v k xs) {b : Nat} (h : ∀ c f, W.heap[b]? ≠ some (.cells c e f)) : some b ≠ v.ownBlock := by
  intro hh
  rcases hr.2 with ⟨rfl, _⟩ | ⟨g, cap, cur, rfl, _, hg, _⟩
  · simp [Value.ownBlock] at hh
  · obtain rfl : b = g := by simpa [Value.ownBlock] using hh
    exact h _ _ hg
theorem Fr.grown {N : Nat} {a w w' : World} {v : Value} {k : Nat} {l : List Value} (h : Fr N a w) (hr : w.ownsRow N 74 2 v k l) (hN : N ≤ w.heap.size) (hg : w.grownBy w' v.ownBlock) : Fr N a w' := by
  refine h.trans ⟨(Below.refl N w).grown hg hN (fun k e => row_base hr e.symm), fun b c t f hb h1 h2 => ?_⟩
  rw [hg.block b (blk_lt hb) (row_far hr (fun c' f' e => by rw [hb] at e; cases e; exact h2 rfl))]
  exact hb

/-- one entry more. -/
theorem eapp {W : World} {N : Nat} {v : Value} {k : Nat} {l : List Value} (hr : W.ownsRow N 74 2 v k l) (hk : k ≤ 1000) (hN : N ≤ W.heap.size) (e : En) :
    ∃ v' w', (eApp #[v, .slice (some ⟨W.heap.size, 0, none⟩) 1 1]).run Try.prog (W.alloc (.cells #[.int .i64 e.1, .int .i64 e.2] 74 (0, 0))).drew = .ok v' w' ∧ w'.ownsRow N 74 2 v' (k + 1) (l ++ fl [e]) ∧
      (W.alloc (.cells #[.int .i64 e.1, .int .i64 e.2] 74 (0, 0))).grownBy w' v.ownBlock := by
  obtain ⟨i0, hi, hz0, hz1, hz2⟩ := info_parts infoE
  have hnew := heap_alloc_last W (.cells #[.int .i64 e.1, .int .i64 e.2] 74 (0, 0))
  obtain ⟨v', w', h1, h2, h3, _⟩ := run_append_own (P := Try.prog) (W.alloc (.cells #[.int .i64 e.1, .int .i64 e.2] 74 (0, 0))).drew N 65 65 74 i0 _ 2 16 Try.underlying65 hi hz0 hz1 hz2 rfl (by decide) v k l (hr.alloc _) ⟨W.heap.size, 0, none⟩ 1 1 (fl [e]) rfl (fun j u hu => by
      have hj : j < 2 := by
        have := (List.getElem?_eq_some_iff.1 hu).1
        simpa [fl] using this
      have hc : ∀ i, (⟨W.heap.size, 0, none⟩ : Addr).add i = ⟨W.heap.size, i, none⟩ := fun i => by
        unfold Addr.add
        by_cases h : i = 0
        · subst h; rfl
        · simp [h]
      rw [hc]
      refine cell_of_heap (w := W.alloc (.cells #[.int .i64 e.1, .int .i64 e.2] 74 (0, 0))) hnew ?_
      rw [← hu]
      rcases (by omega : j = 0 ∨ j = 1) with rfl | rfl <;> rfl) (by simp [fl, Value.oneCell']) (by unfold maxLen; omega) (by omega) (by simp [World.drew]; omega)
  exact ⟨v', w', h1, h2, ⟨h3.os, h3.tape, h3.output, h3.size, h3.block⟩⟩

/-- the places behind one entry more. -/
theorem Plcs.push {D : DataW Unit} {xs : List En} (h : Plcs D xs) (hm : Go.Maps.IsMap D) (e : En) (hk : ∀ x ∈ xs, x.1 ≠ e.1) : Plcs (D.put (il e.1) (.lit (.int .i64 (xs.length : Int)))) (xs ++ [e]) := by
  refine ⟨fun k hk' z => ?_, fun k hk' z => ?_⟩
  · by_cases hlt : k < xs.length
    · have e1 : (xs ++ [e])[k] = xs[k] := List.getElem_append_left hlt
      rw [e1, Go.Maps.atKey_put_other (fun e' => hk _ (List.getElem_mem hlt) (il_inj e'))]
      exact h.yes k hlt z
    · obtain rfl : k = xs.length := by simp at hk'; omega
      have e1 : (xs ++ [e])[xs.length] = e := by simp
      rw [e1]
      exact Go.Maps.atKey_put_same (k := il _) hm trivial _ _
  · rw [Go.Maps.atKey_put_other (fun e' => hk' e (by simp) (il_inj e').symm)]
    exact h.no k (fun x hx => hk' x (by simp [hx])) z
theorem Plcs.pop {D : DataW Unit} {xs : List En} {e : En} (h : Plcs D (xs ++ [e])) (hk : ∀ x ∈ xs, x.1 ≠ e.1) : Plcs (D.del (il e.1)) xs := by
  refine ⟨fun k hk' z => ?_, fun k hk' z => ?_⟩
  · rw [Go.Maps.atKey_del_other (fun e' => hk _ (List.getElem_mem hk') (il_inj e'))]
    have := h.yes k (by simp; omega) z
    rwa [List.getElem_append_left hk'] at this
  · by_cases he : k = e.1
    · subst he
      exact Go.Maps.atKey_del_same _
    · rw [Go.Maps.atKey_del_other (fun e' => he (il_inj e'))]
      exact h.no k (fun x hx => by
        rcases List.mem_append.1 hx with hx | hx
        · exact hk' x hx
        · simp at hx; subst hx; exact fun e' => he e'.symm) z

theorem assertE (a b : Int) (w : World) : (Instr.typeAssert (.iface 74 (.agg #[.int .i64 a, .int .i64 b])) 20 74 false).run Try.prog w = .ok (.agg #[.int .i64 a, .int .i64 b]) w := by kernel_rfl
section
attribute [local go_sem ↓] app_e
set_option maxRecDepth 100000 in
set_option maxHeartbeats 4000000 in
theorem push_walk {w U2 U4 : World} {T M n : Nat} {q : Option Addr} {cap : Nat} {v' : Value} {id at' : Int} (hn : n ≤ 1000)
    (hT : T < w.heap.size) (c0 : w.cell? ⟨T, 0, none⟩ = some (.slice q n cap)) (c1 : w.cell? ⟨T, 1, none⟩ = some (.map (some M)))
    (m1 : (Instr.mapUpdate 64 (.map (some M)) (.int .i64 id) (.int .i64 (n : Int))).run Try.prog (w.alloc (.cells #[.int .i64 id, .int .i64 at'] 74)).drew = .ok () U2)
    (d0 : U2.cell? ⟨T, 0, none⟩ = some (.slice q n cap)) (e0 : U2.cell? ⟨w.heap.size, 0, none⟩ = some (.int .i64 id)) (e1 : U2.cell? ⟨w.heap.size, 1, none⟩ = some (.int .i64 at')) (hT2 : T < U2.heap.size)
    (r2 : (eApp #[.slice q n cap, .slice (some ⟨U2.heap.size, 0, none⟩) 1 1]).run Try.prog (U2.alloc (.cells #[.int .i64 id, .int .i64 at'] 74)).drew = .ok v' U4)
    (f0 : U4.frozen? ⟨T, 0, none⟩ = false) (x0 : U4.cell? ⟨T, 0, none⟩ = some (.slice q n cap)) (hv' : ∃ q n c, v' = .slice q n c) :
    Calls Try.prog 63 #[pt T, .iface 74 (.agg #[.int .i64 id, .int .i64 at'])] w fun e w' => e = .returned (.tuple #[]) ∧ w' = U4.setCell ⟨T, 0, none⟩ v' := by
  obtain ⟨qv, nv, cv, rfl⟩ := hv'
  have hta := assertE id at' w
  have hTne : ¬ T = w.heap.size := by omega
  have hTne2 : ¬ T = U2.heap.size := by omega
  go_enter Try.func63, Try.ntmps63
  go_wp2
  go_region
  clear c0 c1 m1
  go_wp2
  go_region
  go_wp2
  go_end0
  exact ⟨rfl, rfl⟩
end

theorem TmA.noT {N : Nat} {w : World} {T M : Nat} {v : Value} {xs : List En} (h : TmA N w T M v xs) : ¬ T = M := fun e => by
  subst e
  obtain ⟨es, cl, hm⟩ := h.mp.isMap
  have := h.tb
  rw [hm] at this; cases this
theorem TmA.shape {N : Nat} {w : World} {T M : Nat} {v : Value} {xs : List En} (h : TmA N w T M v xs) : ∃ q cap, v = .slice q xs.length cap := by
  rcases h.row.2 with ⟨h1, h2⟩ | ⟨g, cap, cur, h1, _⟩
  · exact ⟨none, 0, by rw [h1, h2]⟩
  · exact ⟨_, _, h1⟩

theorem push_in {N : Nat} {w : World} {T M : Nat} {v : Value} {xs : List En} (h : TmA N w T M v xs) (e : En) (hk : ∀ x ∈ xs, x.1 ≠ e.1) (w1 : W64 e.1) (w2 : W64 e.2) (hl : xs.length < 1000) :
    Calls Try.prog 63 #[pt T, .iface 74 (.agg #[.int .i64 e.1, .int .i64 e.2])] w fun r w' => r = .returned (.tuple #[]) ∧ (∃ v', TmA N w' T M v' (xs ++ [e])) ∧ Fr N w w' := by
  obtain ⟨q, cap, rfl⟩ := h.shape
  have hTM := h.noT
  have hTw := blk_lt h.tb
  have b1 : Below w.heap.size w (w.alloc (.cells #[.int .i64 e.1, .int .i64 e.2] 74 (0, 0))) := (Below.refl _ _).alloc (Nat.le_refl _) _
  have h1 := h.blk b1
  have f1 : Fr N w (w.alloc (.cells #[.int .i64 e.1, .int .i64 e.2] 74 (0, 0))) := (Fr.refl N w).alloc h.base _
  have hB := heap_alloc_last w (.cells #[.int .i64 e.1, .int .i64 e.2] 74 (0, 0))
  obtain ⟨D, hD, hP⟩ := h1.mp.same (w' := (w.alloc (.cells #[.int .i64 e.1, .int .i64 e.2] 74 (0, 0))).drew) rfl
  obtain ⟨U2, r1, hD1, t1⟩ := hD.store keyed Try.underlying64 (by unfold maxLen; omega) (Go.Maps.keyOf_int_mk Try.underlying3 w1.wf) (val := .int .i64 (xs.length : Int)) (plainElem_int Try.underlying3 (Go.WalkArith.wf_i64 (by omega)))
  have g1 := t1.grown
  have hne : ∀ b, ¬ b = M → some b ≠ some M := fun b hb e => hb (Option.some.inj e)
  have kT : U2.heap[T]? = some (.cells #[.slice q xs.length cap, .map (some M)] 69 (0, 0)) := (g1.block T (blk_lt h1.tb) (hne T hTM)).trans h1.tb
  have hMw := h.mp.lt
  have kB : U2.heap[w.heap.size]? = some (.cells #[.int .i64 e.1, .int .i64 e.2] 74 (0, 0)) := (g1.block _ (blk_lt hB) (hne _ (by omega))).trans hB
  have kR : U2.ownsRow N 74 2 (.slice q xs.length cap) xs.length (fl xs) := by
    have := h1.row
    obtain ⟨hl, h0 | ⟨g, cap, cur, hv, hg0, hg, r⟩⟩ := this
    · exact ⟨hl, .inl h0⟩
    · refine ⟨hl, .inr ⟨g, cap, cur, hv, hg0, (g1.block g (blk_lt hg) (hne g ?_)).trans hg, r⟩⟩
      intro e; subst e
      obtain ⟨es, cl, hm⟩ := h1.mp.isMap
      rw [hm] at hg; cases hg
  have f2 : Fr N w U2 := Fr.turned f1.drew t1 h.nM
  have hN2 : N ≤ U2.heap.size := Nat.le_trans h.nT (Nat.le_of_lt (blk_lt kT))
  obtain ⟨v', U4, r2, hR4, g2⟩ := eapp kR (by omega) hN2 e
  have f3 : Fr N w (U2.alloc (.cells #[.int .i64 e.1, .int .i64 e.2] 74 (0, 0))) := f2.alloc hN2 _
  have kR3 : (U2.alloc (.cells #[.int .i64 e.1, .int .i64 e.2] 74 (0, 0))).ownsRow N 74 2 (.slice q xs.length cap) xs.length (fl xs) := kR.alloc _
  have f4 : Fr N w U4 := f3.grown kR3 (Nat.le_trans hN2 (by simp)) g2
  have kT3 : (U2.alloc (.cells #[.int .i64 e.1, .int .i64 e.2] 74 (0, 0))).heap[T]? = some (.cells #[.slice q xs.length cap, .map (some M)] 69 (0, 0)) := (Below.heap_alloc _ _ _ (blk_lt kT)).trans kT
  have kT4 : U4.heap[T]? = some (.cells #[.slice q xs.length cap, .map (some M)] 69 (0, 0)) := (g2.block T (blk_lt kT3) (row_far kR3 (fun c f e => by rw [kT3] at e; cases e))).trans kT3
  have hM2 : M < U2.heap.size := hD1.lt
  have kM4 : U4.heap[M]? = U2.heap[M]? := by
    obtain ⟨es, cl, hm, _⟩ := hD1
    have hm3 : (U2.alloc (.cells #[.int .i64 e.1, .int .i64 e.2] 74 (0, 0))).heap[M]? = some (.map es cl) := (Below.heap_alloc _ _ _ hM2).trans hm
    exact (g2.block M (blk_lt hm3) (row_far kR3 (fun c f e => by rw [hm3] at e; cases e))).trans (hm3.trans hm.symm)
  have hv' : ∃ q n c, v' = .slice q n c := by
    rcases hR4.2 with ⟨h1, h2⟩ | ⟨g, cap, cur, h1, _⟩
    · exact ⟨none, 0, 0, h1⟩
    · exact ⟨_, _, _, h1⟩
  refine (push_walk (by omega) hTw h.c0 h.c1 r1 (cell_of_heap kT rfl) (cell_of_heap kB rfl) (cell_of_heap kB rfl) (blk_lt kT) r2 (frozen_of kT4 _) (cell_of_heap kT4 rfl) hv').mono ?_
  rintro r w' ⟨rfl, rfl⟩
  have hTv : some T ≠ v'.ownBlock := row_far hR4 (fun c f e => by rw [kT4] at e; cases e)
  refine ⟨rfl, ⟨v', ⟨h.nT, h.nM, ?_, ?_, ?_, ?_, ?_, by simp; omega⟩⟩, Fr.set f4 kT4 (.inl rfl) h.nT _⟩
  · rw [heap_set_same kT4]; rfl
  · rw [List.length_append, fl_app]
    obtain ⟨hl, h0 | ⟨g, cap, cur, hv, hg0, hg, r⟩⟩ := hR4
    · exact ⟨hl, .inl h0⟩
    · refine ⟨hl, .inr ⟨g, cap, cur, hv, hg0, (Below.heap_setCell _ _ _ _ ?_).trans hg, r⟩⟩
      intro e'
      subst hv
      exact hTv (by simp [Value.ownBlock, e'])
  · have hs := shrink (xs := xs ++ [e]) hD1 (hP.push hD.isMap e hk)
    exact hs.same ((Below.heap_setCell _ _ _ _ (fun e => hTM e.symm)).trans kM4)
  · rw [List.map_append, List.nodup_append]
    refine ⟨h.nd, by simp, fun a ha b hb => ?_⟩
    obtain ⟨x, hx, rfl⟩ := List.mem_map.1 ha
    simp at hb
    subst hb
    exact hk x hx
  · intro x hx
    rcases List.mem_append.1 hx with hx | hx
    · exact h.rng x hx
    · simp at hx; subst hx; exact ⟨w1, w2⟩

set_option maxRecDepth 100000 in
set_option maxHeartbeats 4000000 in
theorem pop_walk {w U2 : World} {T M g n cap : Nat} {id at' : Int} (hn : n < 1000) (hc : n + 1 ≤ cap) (hcm : cap ≤ 9223372036854775807)
    (hT : T < w.heap.size) (hg : g < w.heap.size) (c0 : w.cell? ⟨T, 0, none⟩ = some (.slice (some ⟨g, 0, none⟩) (n + 1) cap)) (c1 : w.cell? ⟨T, 1, none⟩ = some (.map (some M)))
    (a0 : w.cell? ⟨g, n * 2, none⟩ = some (.int .i64 id)) (a1 : w.cell? ⟨g, n * 2 + 1, none⟩ = some (.int .i64 at')) (f0 : w.frozen? ⟨T, 0, none⟩ = false)
    (m1 : (Builtin.delete_ #[64, 3] 0 #[.map (some M), .int .i64 id]).run Try.prog ((w.setCell ⟨T, 0, none⟩ (.slice (some ⟨g, 0, none⟩) n cap)).alloc (.cells #[.int .i64 id, .int .i64 at'] 74)).drew = .ok (.tuple #[]) U2)
    (e0 : U2.cell? ⟨w.heap.size, 0, none⟩ = some (.int .i64 id)) (e1 : U2.cell? ⟨w.heap.size, 1, none⟩ = some (.int .i64 at')) :
    Calls Try.prog 62 #[pt T] w fun e w' => e = .returned (.iface 74 (.agg #[.int .i64 id, .int .i64 at'])) ∧ w' = U2 := by
  have hTne : ¬ T = w.heap.size := by omega
  have hTn2 : ¬ w.heap.size = T := by omega
  have hgne : ¬ g = w.heap.size := by omega
  go_enter Try.func62, Try.ntmps62
  go_wp2
  go_region
  go_wp2
  go_ret
  exact ⟨rfl, rfl⟩

theorem pop_in {N : Nat} {w : World} {T M : Nat} {v : Value} {xs : List En} {e : En} (h : TmA N w T M v (xs ++ [e])) :
    Calls Try.prog 62 #[pt T] w fun r w' => r = .returned (.iface 74 (.agg #[.int .i64 e.1, .int .i64 e.2])) ∧ (∃ v', TmA N w' T M v' xs) ∧ Fr N w w' := by
  have hle : (xs ++ [e]).length = xs.length + 1 := by simp
  obtain ⟨g, cap, cur, rfl, hNg, hg, hc1, hc2, hc3, hc4⟩ := h.at (by omega)
  have hget : (xs ++ [e])[xs.length] = e := by simp
  obtain ⟨a0, a1⟩ := at_cell hg hc4 xs.length (by omega)
  rw [hget] at a0 a1
  have hTM := h.noT
  have hgT : ¬ g = T := fun e => by subst e; rw [h.tb] at hg; cases hg
  have hTw := blk_lt h.tb
  have hgw := blk_lt hg
  have hMw := h.mp.lt
  have hnd := h.nd
  rw [List.map_append, List.nodup_append] at hnd
  have hk : ∀ x ∈ xs, x.1 ≠ e.1 := fun x hx => hnd.2.2 _ (List.mem_map_of_mem hx) _ (by simp)
  obtain ⟨U, hU⟩ : ∃ U, (w.setCell ⟨T, 0, none⟩ (.slice (some ⟨g, 0, none⟩) xs.length cap)).alloc (.cells #[.int .i64 e.1, .int .i64 e.2] 74 (0, 0)) = U := ⟨_, rfl⟩
  have hsz : (w.setCell ⟨T, 0, none⟩ (.slice (some ⟨g, 0, none⟩) xs.length cap)).heap.size = w.heap.size := by simp [World.setCell]
  have uT : U.heap[T]? = some (.cells #[.slice (some ⟨g, 0, none⟩) xs.length cap, .map (some M)] 69 (0, 0)) := by
    rw [← hU, Below.heap_alloc _ _ _ (by omega), heap_set_same h.tb]; rfl
  have ug : U.heap[g]? = some (.cells cur 74 (0, 0)) := by
    rw [← hU, Below.heap_alloc _ _ _ (by omega), Below.heap_setCell _ _ _ _ hgT]; exact hg
  have uM : U.heap[M]? = w.heap[M]? := by
    rw [← hU, Below.heap_alloc _ _ _ (by omega), Below.heap_setCell _ _ _ _ (fun e => hTM e.symm)]
  have uB : U.heap[w.heap.size]? = some (.cells #[.int .i64 e.1, .int .i64 e.2] 74 (0, 0)) := by
    rw [← hU]
    have := heap_alloc_last (w.setCell ⟨T, 0, none⟩ (.slice (some ⟨g, 0, none⟩) xs.length cap)) (.cells #[.int .i64 e.1, .int .i64 e.2] 74 (0, 0))
    rwa [hsz] at this
  have fU : Fr N w U := by
    rw [← hU]
    exact (Fr.set (i := 0) (Fr.refl N w) h.tb (.inl rfl) h.nT _).alloc (by rw [hsz]; exact h.base) _
  obtain ⟨D, hD, hP⟩ := h.mp.same (w' := U.drew) uM
  have we := h.rng e (by simp)
  obtain ⟨U2, r1, hD1, t1⟩ := hD.drop keyed Try.underlying64 (Go.Maps.keyOf_int_mk Try.underlying3 we.1.wf) 0
  have g1 := t1.grown
  have hne : ∀ b, ¬ b = M → some b ≠ some M := fun b hb e => hb (Option.some.inj e)
  have hgM : ¬ g = M := fun e => by
    subst e
    obtain ⟨es, cl, hm⟩ := h.mp.isMap
    rw [hm] at hg; cases hg
  have kT := (g1.block T (blk_lt uT) (hne T hTM)).trans uT
  have kg := (g1.block g (blk_lt ug) (hne g hgM)).trans ug
  have kB := (g1.block _ (blk_lt uB) (hne _ (by omega))).trans uB
  have hl := h.len
  rw [hle] at hl hc1
  have hc0 := h.c0
  rw [hle] at hc0
  have hcm : cap ≤ 9223372036854775807 := by unfold maxLen at hc2; omega
  refine (pop_walk (by omega) hc1 hcm hTw hgw hc0 h.c1 a0 a1 (frozen_of h.tb _) (by rw [hU]; exact r1) (cell_of_heap kB rfl) (cell_of_heap kB rfl)).mono ?_
  rintro r w' ⟨rfl, rfl⟩
  refine ⟨rfl, ⟨_, ⟨h.nT, h.nM, kT, ⟨fl_len _, .inr ⟨g, cap, cur, rfl, hNg, kg, by omega, hc2, hc3, ?_⟩⟩, shrink hD1 (hP.pop hk), hnd.1, fun x hx => h.rng x (by simp [hx]), by omega⟩⟩, Fr.turned fU.drew t1 h.nM⟩
  rw [hle, fl_app] at hc4
  have := congrArg (List.take (xs.length * 2)) hc4
  rw [List.take_take, Nat.min_eq_left (by omega), List.take_left' (fl_len xs)] at this
  exact this

end Go.Proofs.Ytdgkknjmhdmlfaa
