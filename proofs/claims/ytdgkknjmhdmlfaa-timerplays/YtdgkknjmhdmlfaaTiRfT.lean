/- Layer 12: the document's timer: a list in memory. -/
import Derived.Laws.AppendOwnNone
import Derived.Deep.RegionHeld3
import Derived.Test.YtdgkknjmhdmlfaaTiArg
namespace Go.Proofs.Ytdgkknjmhdmlfaa
set_option linter.unusedVariables false
set_option linter.unusedSimpArgs false
open Go.RowKit

/-- items in a slice. -/
def ItAt (w : World) (v : Value) (L : List En) : Prop := ∃ q cap, v = .slice q L.length cap ∧ L.length ≤ cap ∧ cap ≤ 9223372036854775807 ∧ (q = none → cap = 0) ∧
  ∀ j (h : j < L.length), ∃ g off c, q = some ⟨g, off, none⟩ ∧ w.heap[g]? = some (.cells c 40 (0, 0)) ∧ c[off + j * 2]? = some (.int .i64 L[j].1) ∧ c[off + j * 2 + 1]? = some (.int .i64 L[j].2)
theorem ItAt.same {w w' : World} {v : Value} {L : List En} (h : ItAt w v L) (hs : ∀ (g : Nat) (c : Array Value), w.heap[g]? = some (.cells c 40 (0, 0)) → w'.heap[g]? = some (.cells c 40 (0, 0))) : ItAt w' v L := by
  obtain ⟨q, cap, h1, h2, h3, h0, h4⟩ := h
  refine ⟨q, cap, h1, h2, h3, h0, fun j hj => ?_⟩
  obtain ⟨g, off, c, e, hg, c0, c1⟩ := h4 j hj
  exact ⟨g, off, c, e, hs g c hg, c0, c1⟩
theorem ItAt.below {w w' : World} {v : Value} {L : List En} (h : ItAt w v L) (hb : Below w.heap.size w w') : ItAt w' v L := h.same fun g c hg => (hb.block g (blk_lt hg)).trans hg
theorem ItAt.take {w : World} {q : Option Addr} {n cap i : Nat} {L : List En} (h : ItAt w (.slice q n cap) L) (hi : i ≤ L.length) : ItAt w (.slice q i cap) (L.take i) := by
  obtain ⟨q', cap', h1, h2, h3, h0, h4⟩ := h
  cases h1
  refine ⟨q, cap, by rw [List.length_take, Nat.min_eq_left hi], by rw [List.length_take]; omega, h3, h0, fun j hj => ?_⟩
  rw [List.length_take] at hj
  obtain ⟨g, off, c, e, hg, c0, c1⟩ := h4 j (by omega)
  exact ⟨g, off, c, e, hg, by rw [List.getElem_take]; exact c0, by rw [List.getElem_take]; exact c1⟩
/-- the address of what lies from i on. -/
def mv (q : Option Addr) (cap i : Nat) : Option Addr := if cap = i then q else q.map (·.add (i * 2))
theorem ItAt.drop {w : World} {q : Option Addr} {n cap i : Nat} {L : List En} (h : ItAt w (.slice q n cap) L) (hi : i ≤ L.length) : ItAt w (.slice (mv q cap i) (n - i) (cap - i)) (L.drop i) := by
  obtain ⟨q', cap', h1, h2, h3, h0, h4⟩ := h
  cases h1
  refine ⟨_, _, by rw [List.length_drop], by rw [List.length_drop]; omega, by omega, fun e => ?_, fun j hj => ?_⟩
  · unfold mv at e
    split at e
    · have := h0 e; omega
    · cases q with
      | none => have := h0 rfl; omega
      | some a => simp at e
  · rw [List.length_drop] at hj
    obtain ⟨g, off, c, e, hg, c0, c1⟩ := h4 (i + j) (by omega)
    subst e
    have hc : ¬ cap = i := by omega
    refine ⟨g, off + i * 2, c, ?_, hg, ?_, ?_⟩
    · unfold mv
      rw [if_neg hc]
      simp only [Option.map_some]
      rw [add_off]
    · rw [List.getElem_drop, show off + i * 2 + j * 2 = off + (i + j) * 2 by omega]; exact c0
    · rw [List.getElem_drop, show off + i * 2 + j * 2 + 1 = off + (i + j) * 2 + 1 by omega]; exact c1
theorem ItAt.of_row {w : World} {base : Nat} {v : Value} {L : List En} (h : w.ownsRow base 40 2 v L.length (fl L)) : ItAt w v L := by
  rcases h.2 with ⟨rfl, h0⟩ | ⟨g, cap, cur, rfl, hb, hg, hc, hm, hs, ht⟩
  · exact ⟨none, 0, by rw [h0], by omega, by omega, fun _ => rfl, fun j hj => by omega⟩
  · refine ⟨some ⟨g, 0, none⟩, cap, rfl, hc, by unfold maxLen at hm; omega, (fun e => by cases e), fun j hj => ⟨g, 0, cur, rfl, hg, ?_, ?_⟩⟩
    · have := (fl_get L j hj).1
      rw [← ht, List.getElem?_take, if_pos (by omega)] at this
      rw [Nat.zero_add]; simpa using this
    · have := (fl_get L j hj).2
      rw [← ht, List.getElem?_take, if_pos (by omega)] at this
      rw [Nat.zero_add]; simpa using this
theorem infoJ : (Try.prog.info? 40).map (fun i => (i.zero, i.size, i.bytes)) = some (some (.agg #[.int .i64 0, .int .i64 0]), 2, 16) := by kernel_rfl
def jApp (a : Array Value) : Sem Value := Builtin.append_ #[27, 27] 27 a
theorem app_j (a : Array Value) : Builtin.append_ #[27, 27] 27 a = jApp a := rfl
theorem fl_one (L : List En) : ∀ u ∈ fl L, u.oneCell' = true := by
  induction L with
  | nil => simp [fl]
  | cons e r ih =>
    intro u hu
    simp only [fl, List.mem_cons] at hu
    rcases hu with rfl | rfl | hu
    · rfl
    · rfl
    · exact ih u hu
theorem fl_at : ∀ (L : List En) (j : Nat) (u : Value), (fl L)[j]? = some u → ∃ i, ∃ h : i < L.length, (j = i * 2 ∧ u = .int .i64 L[i].1) ∨ (j = i * 2 + 1 ∧ u = .int .i64 L[i].2)
  | [], j, u, h => by simp [fl] at h
  | e :: r, 0, u, h => ⟨0, by simp, .inl ⟨rfl, by simpa [fl] using h.symm⟩⟩
  | e :: r, 1, u, h => ⟨0, by simp, .inr ⟨rfl, by simpa [fl] using h.symm⟩⟩
  | e :: r, j + 2, u, h => by
    obtain ⟨i, hi, hh⟩ := fl_at r j u (by simpa [fl] using h)
    refine ⟨i + 1, by simpa using hi, ?_⟩
    simp only [List.getElem_cons_succ]
    rcases hh with ⟨rfl, h2⟩ | ⟨rfl, h2⟩
    · exact .inl ⟨by omega, h2⟩
    · exact .inr ⟨by omega, h2⟩
theorem japp {W : World} {base n : Nat} {v vx : Value} {xs : List Value} {L : List En} (hown : W.ownsRow base 40 2 v n xs) (hsrc : ItAt W vx L) (hn : n ≤ 10000) (hl : L.length ≤ 10000) (hb : base ≤ W.heap.size) :
    ∃ v' w', (jApp #[v, vx]).run Try.prog W = .ok v' w' ∧ w'.ownsRow base 40 2 v' (n + L.length) (xs ++ fl L) ∧ W.grownBy w' v.ownBlock := by
  obtain ⟨i0, hi, hz0, hz1, hz2⟩ := info_parts infoJ
  obtain ⟨q, cap, rfl, h2, h3, h0, h4⟩ := hsrc
  cases q with
  | none =>
    have hc := h0 rfl
    have hu : L.length = 0 := by omega
    obtain rfl : L = [] := List.eq_nil_of_length_eq_zero hu
    obtain rfl : cap = 0 := hc
    refine ⟨v, W, run_append_owned_none (P := Try.prog) (w := W) base 27 27 40 i0 2 Try.underlying27 hi v n xs hown, by simpa [fl] using hown, ?_⟩
    exact ⟨rfl, rfl, rfl, Nat.le_refl _, fun _ _ _ => rfl⟩
  | some ad =>
    obtain ⟨v', w', h1, h2, h3, _⟩ := run_append_own (P := Try.prog) W base 27 27 40 i0 _ 2 16 Try.underlying27 hi hz0 hz1 hz2 rfl (by decide) v n xs hown ad L.length cap (fl L) (fl_len L) (fun j u hu => by
      obtain ⟨i, hi, hh⟩ := fl_at L j u hu
      obtain ⟨g, off, c, e, hg, c0, c1⟩ := h4 i hi
      cases e
      rw [add_off]
      rcases hh with ⟨rfl, rfl⟩ | ⟨rfl, rfl⟩
      · exact cell_of_heap hg c0
      · exact cell_of_heap hg (by rw [← Nat.add_assoc]; exact c1)) (fl_one L) (by unfold maxLen; omega) (by omega) hb
    exact ⟨v', w', h1, h2, h3⟩

/-- other blocks stay. -/
structure Ko (X : Nat) (w w' : World) : Prop where
  os : w'.os = w.os
  tape : w'.tape = w.tape
  output : w'.output = w.output
  size : w.heap.size ≤ w'.heap.size
  same : ∀ b, b < w.heap.size → b ≠ X → w'.heap[b]? = w.heap[b]?
theorem Ko.refl (X : Nat) (w : World) : Ko X w w := ⟨rfl, rfl, rfl, Nat.le_refl _, fun _ _ _ => rfl⟩
theorem Ko.trans {X : Nat} {a b c : World} (h : Ko X a b) (k : Ko X b c) : Ko X a c := ⟨k.os.trans h.os, k.tape.trans h.tape, k.output.trans h.output, Nat.le_trans h.size k.size, fun i hi hx => (k.same i (Nat.lt_of_lt_of_le hi h.size) hx).trans (h.same i hi hx)⟩
theorem Ko.of_below {X : Nat} {w w' : World} (h : Below w.heap.size w w') : Ko X w w' := ⟨h.os, h.tape, h.output, h.size, fun b hb _ => h.block b hb⟩
theorem Ko.set (X : Nat) (w : World) (v : Value) : Ko X w (w.setCell ⟨X, 0, none⟩ v) := ⟨rfl, rfl, rfl, by simp [World.setCell], fun b _ hb => Below.heap_setCell _ _ _ _ hb⟩
theorem Ko.below {X N : Nat} {w w' : World} (h : Ko X w w') (hN : N ≤ X) (hw : N ≤ w.heap.size) : Below N w w' := ⟨h.os, h.tape, h.output, h.size, fun b hb => h.same b (by omega) (by omega)⟩
/-- the document's timer in memory. -/
def RefT (w : World) (X : Nat) (L : List En) : Prop := ∃ v, w.heap[X]? = some (.cells #[v] 29 (0, 0)) ∧ ItAt w v L
theorem RefT.below {w w' : World} {X : Nat} {L : List En} (h : RefT w X L) (hb : Below w.heap.size w w') : RefT w' X L := by
  obtain ⟨v, h1, h2⟩ := h
  exact ⟨v, (hb.block X (blk_lt h1)).trans h1, h2.below hb⟩
theorem RefT.fr {N : Nat} {w w' : World} {X : Nat} {L : List En} (h : RefT w X L) (f : Fr N w w') : RefT w' X L := by
  obtain ⟨v, h1, h2⟩ := h
  exact ⟨v, f.typ _ _ _ _ h1 (by decide) (by decide), h2.same fun g c hg => f.typ _ _ _ _ hg (by decide) (by decide)⟩
theorem Tk.ko {N : Nat} {w w' : World} {T X : Nat} {xs L : List En} (h : Tk N w T xs) (hR : RefT w X L) (k : Ko X w w') : Tk N w' T xs := by
  obtain ⟨M, v, h, hh⟩ := h
  obtain ⟨vx, hX, _⟩ := hR
  have nX : ∀ b c t f, w.heap[b]? = some (.cells c t f) → t ≠ 29 → b ≠ X := fun b c t f hb ht e => by rw [e, hX] at hb; cases hb; exact ht rfl
  refine ⟨M, v, ⟨h.nT, h.nM, (k.same T (blk_lt h.tb) (nX _ _ _ _ h.tb (by decide))).trans h.tb, ?_, ?_, h.nd, h.rng, h.len⟩, hh⟩
  · obtain ⟨hl, h0 | ⟨g, cap, cur, hv, hb, hg, r⟩⟩ := h.row
    · exact ⟨hl, .inl h0⟩
    · exact ⟨hl, .inr ⟨g, cap, cur, hv, hb, (k.same g (blk_lt hg) (nX _ _ _ _ hg (by decide))).trans hg, r⟩⟩
  · obtain ⟨es, cl, hm⟩ := h.mp.isMap
    exact h.mp.same (k.same M (blk_lt hm) (fun e => by rw [e, hX] at hm; cases hm))

theorem before_in (w : World) (a b : En) :
    Calls Try.prog 32 #[.agg #[.int .i64 a.1, .int .i64 a.2], .agg #[.int .i64 b.1, .int .i64 b.2]] w fun e w' => e = .returned (.bool (decide (lt a b))) ∧ Below w.heap.size w w' := by
  obtain ⟨a1, a2⟩ := a
  obtain ⟨b1, b2⟩ := b
  simp only
  by_cases h1 : a2 < b2
  · have hd : decide (lt (a1, a2) (b1, b2)) = true := decide_eq_true (.inl h1)
    rw [hd]
    clear hd
    go_enter Try.func32, Try.ntmps32
    go_wp2
    go_ret
    exact ⟨rfl, ((Below.refl _ _).alloc (Nat.le_refl _) _).alloc (by simp) _⟩
  · by_cases h2 : a2 = b2
    · subst h2
      have hd : decide (lt (a1, a2) (b1, a2)) = decide (a1 < b1) := by simp [lt]
      rw [hd]
      clear hd
      go_enter Try.func32, Try.ntmps32
      go_wp2
      go_ret
      exact ⟨rfl, ((Below.refl _ _).alloc (Nat.le_refl _) _).alloc (by simp) _⟩
    · have hd : decide (lt (a1, a2) (b1, b2)) = false := by simp [lt, h1, h2]
      have h3 : (a2 == b2) = false := by simp [h2]
      rw [hd]
      clear hd
      go_enter Try.func32, Try.ntmps32
      go_wp2
      go_ret
      exact ⟨rfl, ((Below.refl _ _).alloc (Nat.le_refl _) _).alloc (by simp) _⟩

/-- where an entry is put, or taken out: behind the two appends. -/
theorem two_apps {w : World} {X : Nat} {A1 A2 : List En} {q : Option Addr} {n cap : Nat} {q1 q2 : Value} (hX : w.heap[X]? = some (.cells #[.slice q n cap] 29 (0, 0))) (h1 : ItAt w q1 A1) (h2 : ItAt w q2 A2) (l1 : A1.length ≤ 1000) (l2 : A2.length ≤ 1000) :
    ∃ v1 w1 v2 w2, (jApp #[.slice none 0 0, q1]).run Try.prog w = .ok v1 w1 ∧ (jApp #[v1, q2]).run Try.prog w1 = .ok v2 w2 ∧ Ko X w w1 ∧ w1.heap[X]? = w.heap[X]? ∧ w2.heap[X]? = w.heap[X]? ∧ RefT (w2.setCell ⟨X, 0, none⟩ v2) X (A1 ++ A2) ∧ Ko X w (w2.setCell ⟨X, 0, none⟩ v2) ∧ (∃ q n c, v1 = .slice q n c) ∧ (∃ q n c, v2 = .slice q n c) := by
  obtain ⟨v1, w1, r1, o1, g1⟩ := japp (base := w.heap.size) (World.ownsRow_nil (w := w) ..) h1 (by omega) (by omega) (Nat.le_refl _)
  have b1 : Below w.heap.size w w1 := (Below.refl _ _).grown g1 (Nat.le_refl _) (fun k e => by cases e)
  rw [Nat.zero_add, List.nil_append] at o1
  obtain ⟨v2, w2, r2, o2, g2⟩ := japp o1 (h2.below b1) (by omega) (by omega) b1.size
  have b2 : Below w.heap.size w w2 := b1.trans ((Below.refl _ _).grown g2 b1.size (fun k e => row_base o1 e.symm))
  have hX2 := b2.block X (blk_lt hX)
  rw [← fl_app, ← List.length_append] at o2
  refine ⟨v1, w1, v2, w2, r1, r2, Ko.of_below b1, b1.block X (blk_lt hX), hX2, ⟨v2, ?_, ?_⟩, (Ko.of_below b2).trans (Ko.set X w2 v2), ?_, ?_⟩
  · rw [heap_set_same (hX2.trans hX)]; rfl
  · refine (ItAt.of_row o2).same fun g c hg => ?_
    rw [Below.heap_setCell _ _ _ _ (fun e => by
      obtain rfl : g = X := e
      rw [hX2.trans hX] at hg; cases hg)]
    exact hg
  · obtain ⟨q, c, h⟩ := row_slice o1; exact ⟨q, _, c, h⟩
  · obtain ⟨q, c, h⟩ := row_slice o2; exact ⟨q, _, c, h⟩

theorem RefT.len {w : World} {X : Nat} {L : List En} (h : RefT w X L) : ∃ q cap, w.heap[X]? = some (.cells #[.slice q L.length cap] 29 (0, 0)) ∧ ItAt w (.slice q L.length cap) L ∧ L.length ≤ cap ∧ cap ≤ 9223372036854775807 ∧ ∀ j (h : j < L.length), ∃ g off, q = some ⟨g, off, none⟩ ∧ w.cell? ⟨g, off + j * 2, none⟩ = some (.int .i64 L[j].1) ∧ w.cell? ⟨g, off + j * 2 + 1, none⟩ = some (.int .i64 L[j].2) := by
  obtain ⟨v, h1, h2⟩ := h
  have h2' := h2
  obtain ⟨q, cap, rfl, hl, hm, h0, h4⟩ := h2
  refine ⟨q, cap, h1, h2', hl, hm, fun j hj => ?_⟩
  obtain ⟨g, off, c, e, hg, c0, c1⟩ := h4 j hj
  exact ⟨g, off, e, cell_of_heap hg c0, cell_of_heap hg c1⟩

section
attribute [local go_sem ↓] app_j
set_option maxRecDepth 100000 in
set_option maxHeartbeats 4000000 in
theorem xcancel_in {w : World} {X : Nat} {L : List En} (h : RefT w X L) (hl : L.length ≤ 1000) (nd : (L.map Prod.fst).Nodup) (id : Int) :
    Calls Try.prog 15 #[pt X, .int .i64 id] w fun e w' => e = .returned (.bool (decide (∃ e ∈ L, e.1 = id))) ∧ RefT w' X (wo L id) ∧ Ko X w w' := by
  obtain ⟨q, cap, hX, hI, hc1, hc2, hcell⟩ := h.len
  have c0 : w.cell? ⟨X, 0, none⟩ = some (.slice q L.length cap) := cell_of_heap hX rfl
  have f0 := frozen_of hX 0
  obtain ⟨n, hn⟩ : ∃ n, L.length = n := ⟨_, rfl⟩
  rw [hn] at hc1 c0 hX hI hl
  obtain ⟨bb, hbb⟩ : ∃ b, decide (∃ e ∈ L, e.1 = id) = b := ⟨_, rfl⟩
  rw [hbb]
  have HC := Hid.mk hcell
  have HH : Hid (RefT w X L ∧ w.heap[X]? = some (.cells #[.slice q n cap] 29 (0, 0)) ∧ ItAt w (.slice q n cap) L ∧ L.length = n ∧ decide (∃ e ∈ L, e.1 = id) = bb ∧ (L.map Prod.fst).Nodup) := ⟨h, hX, hI, hn, hbb, nd⟩
  clear h hX hI hcell hn hbb nd
  go_enter Try.func15, Try.ntmps15
  go_wp2
  go_loopw [5] (fun iv wr => ∃ i : Nat, i ≤ n ∧ iv = .int .i64 (i : Int) ∧ (∀ j (hj : j < L.length), j < i → L[j].1 ≠ id) ∧ wr = w) (fun iv _ => n - (intOf iv).toNat)
  case atStart => exact ⟨0, Nat.zero_le _, rfl, fun j _ h => by omega, rfl⟩
  case round =>
    obtain ⟨i, hi, rfl, hno, hw⟩ := hrel
    have hw2 := hw.symm
    clear hw
    subst hw2
    by_cases hlt : i < n
    · have y1 : (i : Int) < (n : Int) := by omega
      have hiL : i < L.length := by rw [HH.out.2.2.2.1]; exact hlt
      obtain ⟨g, off, hq, cI, _⟩ := HC.out i hiL
      obtain ⟨xi, hxi⟩ : ∃ x, L[i].1 = x := ⟨_, rfl⟩
      rw [hxi] at cI
      by_cases hid : xi = id
      · have hid2 : (xi == id) = true := by simp [hid]
        have hb1 : bb = true := by rw [← HH.out.2.2.2.2.1]; exact decide_eq_true ⟨L[i], List.getElem_mem hiL, hxi.trans hid⟩
        have hwo : wo L id = L.take i ++ L.drop (i + 1) := by rw [← hid, ← hxi]; exact wo_at HH.out.2.2.2.2.2 hiL
        obtain ⟨v1, w1, v2, w2, r1, r2, k1, x1, x2, hR, hK, ⟨qa, na, ca, rfl⟩, ⟨qb, nb, cb, rfl⟩⟩ := two_apps HH.out.2.1 (HH.out.2.2.1.take (i := i) (by omega)) (HH.out.2.2.1.drop (i := i + 1) (by omega)) (by rw [List.length_take]; omega) (by rw [List.length_drop]; have := HH.out.2.2.2.1; omega)
        have d0 : w1.cell? ⟨X, 0, none⟩ = some (.slice q n cap) := (World.cell?_of_block x1).trans c0
        have e0 : w2.cell? ⟨X, 0, none⟩ = some (.slice q n cap) := (World.cell?_of_block x2).trans c0
        have ef : w2.frozen? ⟨X, 0, none⟩ = false := frozen_of (x2.trans HH.out.2.1) 0
        have HR : Hid (RefT (w2.setCell ⟨X, 0, none⟩ (.slice qb nb cb)) X (wo L id) ∧ Ko X w (w2.setCell ⟨X, 0, none⟩ (.slice qb nb cb))) := ⟨by rw [hwo]; exact hR, hK⟩
        subst hb1
        clear hno hR hK k1 x1 x2 hwo hid hxi
        subst hq
        have hic : i ≤ cap := by omega
        have hic2 : i + 1 ≤ n := hlt
        by_cases hcc : cap = i + 1
        · unfold mv at r2
          rw [if_pos hcc] at r2
          have hn1 : n = i + 1 := by omega
          subst hcc
          subst hn1
          simp only [Nat.sub_self] at r2
          go_wp2
          go_ret
          exact ⟨rfl, HR.out⟩
        · unfold mv at r2
          rw [if_neg hcc] at r2
          simp only [Option.map_some] at r2
          rw [add_off] at r2
          have hcl : i + 1 < cap := by omega
          go_wp2
          go_ret
          exact ⟨rfl, HR.out⟩
      · have hid2 : (xi == id) = false := by simp [hid]
        have HN : Hid (∀ j (hj : j < L.length), j < i + 1 → L[j].1 ≠ id) := fun j hj hji => by
          by_cases e : j = i
          · subst e; rw [hxi]; exact hid
          · exact hno j hj (by omega)
        clear hno hid hxi
        subst hq
        go_wp2
        go_roundw
        case rel => exact ⟨i + 1, hlt, by go_num, HN.out, by first | rfl | trivial⟩
        case measure => simp [intOf]; omega
    · have y1 : ¬ (i : Int) < (n : Int) := by omega
      have hall : ∀ e ∈ L, e.1 ≠ id := fun e he => by
        obtain ⟨j, hj, rfl⟩ := List.getElem_of_mem he
        exact hno j hj (by have := HH.out.2.2.2.1; omega)
      have hb1 : bb = false := by rw [← HH.out.2.2.2.2.1]; exact decide_eq_false (fun ⟨e, he, h⟩ => hall e he h)
      have HR : Hid (RefT w X (wo L id)) := by unfold Hid; rw [wo_none hall]; exact HH.out.1
      subst hb1
      clear hno hall
      go_wp2
      go_ret
      exact ⟨rfl, HR.out, Ko.refl _ _⟩
end
end Go.Proofs.Ytdgkknjmhdmlfaa
