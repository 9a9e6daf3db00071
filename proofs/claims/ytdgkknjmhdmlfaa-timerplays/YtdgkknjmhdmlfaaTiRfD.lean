/- Layer 12: the document's timer: Due. -/
import Derived.Test.YtdgkknjmhdmlfaaTiRfT
namespace Go.Proofs.Ytdgkknjmhdmlfaa
set_option linter.unusedVariables false
set_option linter.unusedSimpArgs false
open Go.RowKit

/-- behind the document's Due. -/
def XDueP (w : World) (X : Nat) (L : List En) (now : Int) (e : Ending) (w' : World) : Prop :=
  ∃ (v : Value) (ds rest : List En), e = .returned v ∧ w'.ownsRow w.heap.size 3 1 v ds.length (ic (ds.map Prod.fst)) ∧ RefT w' X rest ∧ ds ++ rest = L ∧ (∀ d ∈ ds, d.2 ≤ now) ∧ (∀ e r, rest = e :: r → now < e.2) ∧ Ko X w w'

theorem RefT.grown {w w' : World} {X : Nat} {L : List En} {B k : Nat} {v : Value} {l : List Value} (h : RefT w X L) (hr : w.ownsRow B 3 1 v k l) (hg : w.grownBy w' v.ownBlock) : RefT w' X L := by
  obtain ⟨u, h1, h2⟩ := h
  refine ⟨u, (hg.block X (blk_lt h1) (row_far hr (fun c f e => by rw [h1] at e; cases e))).trans h1, h2.same fun g c hgg => ?_⟩
  exact (hg.block g (blk_lt hgg) (row_far hr (fun c f e => by rw [hgg] at e; cases e))).trans hgg
theorem row_ko {w w' : World} {X base k : Nat} {v : Value} {l : List Value} {L : List En} (hr : w.ownsRow base 3 1 v k l) (hR : RefT w X L) (ho : Ko X w w') : w'.ownsRow base 3 1 v k l := by
  obtain ⟨u, hX, _⟩ := hR
  obtain ⟨hl, h0 | ⟨g, cap, cur, hv, hb, hg, r⟩⟩ := hr
  · exact ⟨hl, .inl h0⟩
  · exact ⟨hl, .inr ⟨g, cap, cur, hv, hb, (ho.same g (blk_lt hg) (fun e => by rw [e, hX] at hg; cases hg)).trans hg, r⟩⟩

section
attribute [local go_sem ↓] app_i
set_option maxRecDepth 100000 in
set_option maxHeartbeats 4000000 in
theorem xdue_in {w : World} {X : Nat} {L : List En} (h : RefT w X L) (hl : L.length ≤ 1000) (now : Int) :
    Calls Try.prog 18 #[pt X, .int .i64 now] w (XDueP w X L now) := by
  have H0 := Hid.mk h
  have HL := Hid.mk hl
  have HXw : Hid (X < w.heap.size) := by
    obtain ⟨v, h1, _⟩ := h
    exact blk_lt h1
  clear h hl
  go_enter Try.func18, Try.ntmps18
  go_wp2
  go_loopw [5] (fun v5 wr => ∃ (ds rest : List En), wr.ownsRow w.heap.size 3 1 v5 ds.length (ic (ds.map Prod.fst)) ∧ RefT wr X rest ∧ ds ++ rest = L ∧ (∀ d ∈ ds, d.2 ≤ now) ∧ Ko X w wr) (fun v5 _ => 1000 - lenOf v5)
  case atStart => exact ⟨[], L, World.ownsRow_nil .., H0.out, rfl, by simp, Ko.refl _ _⟩
  case round =>
    obtain ⟨ds, rest, hrow, hR, hsum, hds, hK⟩ := hrel
    obtain ⟨q, cap, hX, hI, hc1, hc2, hcell⟩ := hR.len
    have c0 : wr.cell? ⟨X, 0, none⟩ = some (.slice q rest.length cap) := cell_of_heap hX rfl
    cases rest with
    | nil =>
      have HR : Hid (∃ (ds rest : List En), wr.ownsRow w.heap.size 3 1 u5 ds.length (ic (ds.map Prod.fst)) ∧ RefT wr X rest ∧ ds ++ rest = L ∧ (∀ d ∈ ds, d.2 ≤ now) ∧ (∀ e r, rest = e :: r → now < e.2) ∧ Ko X w wr) := ⟨ds, [], hrow, hR, hsum, hds, fun e r h => (by cases h), hK⟩
      simp only [List.length_nil] at c0
      clear hrow hR hsum hds hK hX hI hcell hc1
      go_wp2
      go_ret
      obtain ⟨ds, rest, hR⟩ := HR.out
      exact ⟨_, ds, rest, rfl, hR⟩
    | cons x rest =>
      obtain ⟨xi, xa⟩ := x
      obtain ⟨g, off, hq, cI, cA⟩ := hcell 0 (by simp)
      simp only [List.getElem_cons_zero, Nat.zero_mul, Nat.add_zero] at cI cA
      simp only [List.length_cons] at c0 hc1
      obtain ⟨n, hn⟩ : ∃ n, rest.length = n := ⟨_, rfl⟩
      rw [hn] at c0 hc1
      have hz : (0 : Int) < ((n + 1 : Nat) : Int) := by omega
      by_cases hle : xa ≤ now
      · have hlen : ds.length < 1000 ∧ n < 1000 := by
          have e1 := congrArg List.length hsum
          rw [List.length_append, List.length_cons, hn] at e1
          have := HL.out
          omega
        obtain ⟨hl1, hl2⟩ := hlen
        have hsz : w.heap.size ≤ wr.heap.size := hK.size
        obtain ⟨v3, w3, r3, row3, gr3⟩ := iapp hrow (by omega) hsz xi
        have hba : Below wr.heap.size wr (wr.alloc (.cells #[.int .i64 xi] 3 (0, 0))) := (Below.refl _ _).alloc (Nat.le_refl _) _
        have far : ∀ (b : Nat) (c : Array Value) (t : TypeId), wr.heap[b]? = some (.cells c t (0, 0)) → t ≠ 3 → w3.heap[b]? = some (.cells c t (0, 0)) := fun b c t hb ht => by
          have hb1 := (hba.block b (blk_lt hb)).trans hb
          exact (gr3.block b (blk_lt hb1) (row_far (hrow.alloc _) (fun c' f' e => by rw [hb1] at e; cases e; exact ht rfl))).trans hb1
        have hX3 := far X _ _ hX (by decide)
        rw [List.length_cons, hn] at hX3
        have hI3 : ItAt w3 (.slice q (n + 1) cap) ((xi, xa) :: rest) := by
          have := hI.same (w' := w3) fun g c hg => far g c _ hg (by decide)
          rwa [List.length_cons, hn] at this
        have hK3 : Ko X w w3 := by
          refine ⟨gr3.os.trans hK.os, gr3.tape.trans hK.tape, gr3.output.trans hK.output, Nat.le_trans hsz (Nat.le_trans (by simp) gr3.size), fun b hb hbX => ?_⟩
          rw [gr3.block b (by simp; omega) (fun e => by have := row_base hrow e; omega), Below.heap_alloc _ _ _ (by omega)]
          exact hK.same b hb hbX
        have hI4 := hI3.drop (i := 1) (by simp)
        simp only [List.drop_succ_cons, List.drop_zero, Nat.add_sub_cancel] at hI4
        have e0 : w3.cell? ⟨X, 0, none⟩ = some (.slice q (n + 1) cap) := cell_of_heap hX3 rfl
        have ef : w3.frozen? ⟨X, 0, none⟩ = false := frozen_of hX3 0
        have HR : Hid (∃ (ds' rest' : List En), (w3.setCell ⟨X, 0, none⟩ (.slice (mv q cap 1) n (cap - 1))).ownsRow w.heap.size 3 1 v3 ds'.length (ic (ds'.map Prod.fst)) ∧ RefT (w3.setCell ⟨X, 0, none⟩ (.slice (mv q cap 1) n (cap - 1))) X rest' ∧ ds' ++ rest' = L ∧ (∀ d ∈ ds', d.2 ≤ now) ∧ Ko X w (w3.setCell ⟨X, 0, none⟩ (.slice (mv q cap 1) n (cap - 1)))) := by
          have hk4 := Ko.set X w3 (.slice (mv q cap 1) n (cap - 1))
          refine ⟨ds ++ [(xi, xa)], rest, ?_, ⟨_, by rw [heap_set_same hX3]; rfl, hI4.same fun g c hg => ?_⟩, by rw [← hsum]; simp, fun d hd => ?_, hK3.trans hk4⟩
          · refine row_ko (L := (xi, xa) :: rest) ?_ ⟨_, hX3, hI3⟩ hk4
            rw [List.map_append, List.length_append]
            simp only [List.map_cons, List.map_nil, ic_app]
            exact row3
          · rw [Below.heap_setCell _ _ _ _ (fun e => by
              obtain rfl : g = X := e
              rw [hX3] at hg; cases hg)]
            exact hg
          · rcases List.mem_append.1 hd with hd | hd
            · exact hds d hd
            · simp at hd; subst hd; exact hle
        have hv3l : ∃ q3 c3, v3 = .slice q3 (ds.length + 1) c3 := row_slice row3
        obtain ⟨q3, c3, rfl⟩ := hv3l
        obtain ⟨q5, c5, hu5⟩ := row_slice hrow
        subst hu5
        subst hq
        clear hrow hR hsum hds hK hX hI hcell hn hsz row3 gr3 hba far hX3 hI3 hK3 hI4
        by_cases hcc : cap = 1
        · have hn0 : n = 0 := by omega
          subst hcc
          subst hn0
          unfold mv at HR
          simp only [if_true] at HR
          go_wp2
          go_roundw
          case rel => exact HR.out
          case measure => simp [lenOf]; omega
        · unfold mv at HR
          rw [if_neg hcc] at HR
          simp only [Option.map_some] at HR
          rw [add_off] at HR
          have hcl : 1 < cap := by omega
          go_wp2
          go_roundw
          case rel => exact HR.out
          case measure => simp [lenOf]; omega
      · have HR : Hid (∃ (ds rest : List En), wr.ownsRow w.heap.size 3 1 u5 ds.length (ic (ds.map Prod.fst)) ∧ RefT wr X rest ∧ ds ++ rest = L ∧ (∀ d ∈ ds, d.2 ≤ now) ∧ (∀ e r, rest = e :: r → now < e.2) ∧ Ko X w wr) := ⟨ds, (xi, xa) :: rest, hrow, hR, hsum, hds, fun e r h => (by cases h; simp only; omega), hK⟩
        subst hq
        clear hrow hR hsum hds hK hX hI hcell hn
        go_wp2
        go_ret
        obtain ⟨ds, rest, hR⟩ := HR.out
        exact ⟨_, ds, rest, rfl, hR⟩
end
end Go.Proofs.Ytdgkknjmhdmlfaa
