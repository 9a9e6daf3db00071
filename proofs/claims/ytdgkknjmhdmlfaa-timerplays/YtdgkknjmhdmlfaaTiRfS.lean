/- Layer 12: the document's timer: Set. -/
import Derived.Test.YtdgkknjmhdmlfaaTiRfD
namespace Go.Proofs.Ytdgkknjmhdmlfaa
set_option linter.unusedVariables false
set_option linter.unusedSimpArgs false
open Go.RowKit

theorem ItAt.one (w : World) (e : En) : ItAt (w.alloc (.cells #[.int .i64 e.1, .int .i64 e.2] 40 (0, 0))) (.slice (some ⟨w.heap.size, 0, none⟩) 1 1) [e] := by
  refine ⟨_, _, rfl, by simp, by omega, (fun h => by cases h), fun j hj => ⟨w.heap.size, 0, _, rfl, heap_alloc_last _ _, ?_, ?_⟩⟩
  · obtain rfl : j = 0 := by simp at hj; omega
    rfl
  · obtain rfl : j = 0 := by simp at hj; omega
    rfl
theorem ins_ord {L : List En} {x : En} {k : Nat} (hL : L.Pairwise lt) (hk : k ≤ L.length) (h1 : ∀ j (hj : j < L.length), j < k → lt L[j] x) (h2 : ∀ (hj : k < L.length), lt x L[k]) : (L.take k ++ [x] ++ L.drop k).Pairwise lt := by
  have hlow : ∀ a ∈ L.take k, lt a x := fun a ha => by
    obtain ⟨j, hj, rfl⟩ := List.getElem_of_mem ha
    rw [List.length_take] at hj
    rw [List.getElem_take]
    exact h1 j (by omega) (by omega)
  have hup : ∀ b ∈ L.drop k, lt x b := fun b hb => by
    obtain ⟨j, hj, rfl⟩ := List.getElem_of_mem hb
    rw [List.length_drop] at hj
    rw [List.getElem_drop]
    have hx := h2 (by omega)
    cases j with
    | zero => exact hx
    | succ j => exact lt_trans hx (List.pairwise_iff_getElem.1 hL k (k + (j + 1)) (by omega) (by omega) (by omega))
  rw [List.append_assoc, List.pairwise_append]
  refine ⟨hL.sublist (List.take_sublist _ _), ?_, fun a ha b hb => ?_⟩
  · rw [List.singleton_append, List.pairwise_cons]
    exact ⟨hup, hL.sublist (List.drop_sublist _ _)⟩
  · rcases List.mem_append.1 hb with hb | hb
    · simp at hb; subst hb; exact hlow a ha
    · exact lt_trans (hlow a ha) (hup b hb)
theorem ins_perm (L : List En) (x : En) (k : Nat) : (L.take k ++ [x] ++ L.drop k).Perm (x :: L) := by
  rw [List.append_assoc, List.singleton_append]
  refine List.perm_middle.trans ?_
  rw [List.take_append_drop]
theorem three_apps {w : World} {X : Nat} {A1 A2 : List En} {q : Option Addr} {n cap : Nat} {q1 q2 : Value} (x : En) (hX : w.heap[X]? = some (.cells #[.slice q n cap] 29 (0, 0))) (h1 : ItAt w q1 A1) (h2 : ItAt w q2 A2) (l1 : A1.length ≤ 1000) (l2 : A2.length ≤ 1000) :
    ∃ v1 w1 v2 w2 v3 w3, (jApp #[.slice none 0 0, q1]).run Try.prog w = .ok v1 w1 ∧ (jApp #[v1, .slice (some ⟨w1.heap.size, 0, none⟩) 1 1]).run Try.prog (w1.alloc (.cells #[.int .i64 x.1, .int .i64 x.2] 40 (0, 0))) = .ok v2 w2 ∧ (jApp #[v2, q2]).run Try.prog w2 = .ok v3 w3 ∧
      Below w.heap.size w w1 ∧ Below w.heap.size w w2 ∧ Below w.heap.size w w3 ∧ RefT (w3.setCell ⟨X, 0, none⟩ v3) X (A1 ++ [x] ++ A2) ∧ Ko X w (w3.setCell ⟨X, 0, none⟩ v3) ∧ (∃ q n c, v1 = .slice q n c) ∧ (∃ q n c, v2 = .slice q n c) ∧ (∃ q n c, v3 = .slice q n c) := by
  obtain ⟨v1, w1, r1, o1, g1⟩ := japp (base := w.heap.size) (World.ownsRow_nil (w := w) ..) h1 (by omega) (by omega) (Nat.le_refl _)
  have b1 : Below w.heap.size w w1 := (Below.refl _ _).grown g1 (Nat.le_refl _) (fun k e => by cases e)
  rw [Nat.zero_add, List.nil_append] at o1
  obtain ⟨v2, w2, r2, o2, g2⟩ := japp (o1.alloc (.cells #[.int .i64 x.1, .int .i64 x.2] 40 (0, 0))) (ItAt.one w1 x) (by omega) (by simp) (Nat.le_trans b1.size (by simp))
  have b2 : Below w.heap.size w w2 := (b1.alloc b1.size _).grown g2 (Nat.le_trans b1.size (by simp)) (fun k e => row_base o1 e.symm)
  rw [← fl_app, ← List.length_append] at o2
  obtain ⟨v3, w3, r3, o3, g3⟩ := japp o2 (h2.below b2) (by simp; omega) (by omega) b2.size
  have b3 : Below w.heap.size w w3 := b2.trans ((Below.refl _ _).grown g3 b2.size (fun k e => row_base o2 e.symm))
  have hX3 := b3.block X (blk_lt hX)
  rw [← fl_app, ← List.length_append] at o3
  refine ⟨v1, w1, v2, w2, v3, w3, r1, r2, r3, b1, b2, b3, ⟨v3, ?_, ?_⟩, (Ko.of_below b3).trans (Ko.set X w3 v3), ?_, ?_, ?_⟩
  · rw [heap_set_same (hX3.trans hX)]; rfl
  · refine (ItAt.of_row o3).same fun g c hg => ?_
    rw [Below.heap_setCell _ _ _ _ (fun e => by
      obtain rfl : g = X := e
      rw [hX3.trans hX] at hg; cases hg)]
    exact hg
  · obtain ⟨q, c, h⟩ := row_slice o1; exact ⟨q, _, c, h⟩
  · obtain ⟨q, c, h⟩ := row_slice o2; exact ⟨q, _, c, h⟩
  · obtain ⟨q, c, h⟩ := row_slice o3; exact ⟨q, _, c, h⟩

theorem xset_no (w : World) (X : Nat) (id at' : Int) (h : at' < 0) :
    Calls Try.prog 13 #[pt X, .int .i64 id, .int .i64 at'] w fun e w' => e = .returned (.bool false) ∧ w' = w := by
  go_enter Try.func13, Try.ntmps13
  go_wp2
  go_ret
  exact ⟨rfl, rfl⟩

def XSetP (w : World) (X : Nat) (L : List En) (id at' : Int) (e : Ending) (w' : World) : Prop :=
  e = .returned (.bool true) ∧ (∃ L', RefT w' X L' ∧ L'.Pairwise lt ∧ L'.Perm ((id, at') :: wo L id)) ∧ Ko X w w'

section
attribute [local go_sem ↓] app_j
set_option maxRecDepth 100000 in
set_option maxHeartbeats 8000000 in
theorem xset_in {w : World} {X : Nat} {L : List En} (h : RefT w X L) (hl : L.length ≤ 999) (nd : (L.map Prod.fst).Nodup) (ho : L.Pairwise lt) (id at' : Int) (h0 : ¬ at' < 0) :
    Calls Try.prog 13 #[pt X, .int .i64 id, .int .i64 at'] w (XSetP w X L id at') := by
  have HC := Hid.mk (xcancel_in h (by omega) nd id)
  obtain ⟨db, hdb⟩ : ∃ d, decide (∃ e ∈ L, e.1 = id) = d := ⟨_, rfl⟩
  rw [hdb] at HC
  have HM : Hid ((wo L id).Pairwise lt ∧ (wo L id).length ≤ 999 ∧ ∀ e ∈ wo L id, e.1 ≠ id) := ⟨ho.sublist List.filter_sublist, Nat.le_trans (List.length_filter_le _ _) hl, fun e he => by simpa using (List.mem_filter.1 he).2⟩
  obtain ⟨M, hM⟩ : ∃ M, wo L id = M := ⟨_, rfl⟩
  rw [hM] at HC HM
  have HMq := Hid.mk hM
  clear h hl nd ho hdb hM
  go_enter Try.func13, Try.ntmps13
  go_wp2_with fail
  refine HC.out.mono ?_
  rintro e w1 ⟨rfl, hR1, hK1⟩
  obtain ⟨B, hB⟩ : ∃ B, w1.heap.size = B := ⟨_, rfl⟩
  obtain ⟨V, hV⟩ : ∃ V, w1.alloc (.cells #[.int .i64 id, .int .i64 at'] 40) = V := ⟨_, rfl⟩
  have bV : Below w1.heap.size w1 V := by rw [← hV]; exact (Below.refl _ _).alloc (Nat.le_refl _) _
  have hBV : V.heap[B]? = some (.cells #[.int .i64 id, .int .i64 at'] 40 (0, 0)) := by rw [← hB, ← hV]; exact heap_alloc_last _ _
  obtain ⟨n, hn⟩ : ∃ n, M.length = n := ⟨_, rfl⟩
  obtain ⟨q, cap, hX, hI, hc1, hc2, hcell⟩ := (hR1.below bV).len
  rw [hn] at hX hI hc1
  have HH : Hid (V.heap[X]? = some (.cells #[.slice q n cap] 29 (0, 0)) ∧ ItAt V (.slice q n cap) M ∧ M.length = n ∧ V.heap[B]? = some (.cells #[.int .i64 id, .int .i64 at'] 40 (0, 0)) ∧ Ko X w V) := ⟨hX, hI, hn, hBV, hK1.trans (Ko.of_below bV)⟩
  have hn9 : n ≤ 999 := by rw [← hn]; exact HM.out.2.1
  have HCl := Hid.mk hcell
  have HE := Hid.mk (And.intro hB hV)
  clear hR1 hK1 hB hV bV hBV hX hI hcell hn
  go_upto_region 5 with fail
  rw [HE.out.2, HE.out.1]
  go_wp2
  go_loopw [8] (fun kv wr => ∃ k : Nat, k ≤ n ∧ kv = .int .i64 (k : Int) ∧ (∀ j (hj : j < M.length), j < k → lt M[j] (id, at')) ∧ Below V.heap.size V wr) (fun kv _ => n - (intOf kv).toNat)
  case atStart => exact ⟨0, Nat.zero_le _, rfl, fun j _ h => by omega, Below.refl _ _⟩
  case round =>
    obtain ⟨k, hk, rfl, hno, hbw⟩ := hrel
    have hXr := (hbw.block X (blk_lt HH.out.1)).trans HH.out.1
    have hBr := (hbw.block B (blk_lt HH.out.2.2.2.1)).trans HH.out.2.2.2.1
    have c0 : wr.cell? ⟨X, 0, none⟩ = some (.slice q n cap) := cell_of_heap hXr rfl
    have d0 : wr.cell? ⟨B, 0, none⟩ = some (.int .i64 id) := cell_of_heap hBr rfl
    have d1 : wr.cell? ⟨B, 1, none⟩ = some (.int .i64 at') := cell_of_heap hBr rfl
    by_cases hlt : k < n
    · have y1 : (k : Int) < (n : Int) := by omega
      have hkM : k < M.length := by rw [HH.out.2.2.1]; exact hlt
      obtain ⟨g, off, hq, cI, cA⟩ := HCl.out k hkM
      subst hq
      have cI2 := (hbw.cell (p := ⟨g, off + k * 2, none⟩) (lt_of_cell cI)).trans cI
      have cA2 := (hbw.cell (p := ⟨g, off + k * 2 + 1, none⟩) (lt_of_cell cA)).trans cA
      have HBf := Hid.mk (fun w => before_in w M[k] (id, at'))
      obtain ⟨bb, hbb⟩ : ∃ b, decide (lt M[k] (id, at')) = b := ⟨_, rfl⟩
      rw [hbb] at HBf
      obtain ⟨⟨xi, xa⟩, hxx⟩ : ∃ x, M[k] = x := ⟨_, rfl⟩
      rw [hxx] at cI2 cA2 HBf hbb
      simp only at cI2 cA2 HBf
      have HXX := Hid.mk (And.intro hxx hbb)
      have HNo := Hid.mk (And.intro hno hbw)
      have HS : Hid (∀ u u' : World, (u.cell? ⟨X, 0, none⟩ = some (.slice (some ⟨g, off, none⟩) n cap) ∧ u.cell? ⟨g, off + k * 2, none⟩ = some (.int .i64 xi) ∧ u.cell? ⟨g, off + k * 2 + 1, none⟩ = some (.int .i64 xa) ∧ u.cell? ⟨B, 0, none⟩ = some (.int .i64 id) ∧ u.cell? ⟨B, 1, none⟩ = some (.int .i64 at')) → Below u.heap.size u u' → u'.cell? ⟨X, 0, none⟩ = some (.slice (some ⟨g, off, none⟩) n cap) ∧ u'.cell? ⟨g, off + k * 2, none⟩ = some (.int .i64 xi) ∧ u'.cell? ⟨g, off + k * 2 + 1, none⟩ = some (.int .i64 xa) ∧ u'.cell? ⟨B, 0, none⟩ = some (.int .i64 id) ∧ u'.cell? ⟨B, 1, none⟩ = some (.int .i64 at')) := fun u u' h hb => ⟨(hb.cell (p := ⟨X, 0, none⟩) (lt_of_cell h.1)).trans h.1, (hb.cell (p := ⟨g, off + k * 2, none⟩) (lt_of_cell h.2.1)).trans h.2.1, (hb.cell (p := ⟨g, off + k * 2 + 1, none⟩) (lt_of_cell h.2.2.1)).trans h.2.2.1, (hb.cell (p := ⟨B, 0, none⟩) (lt_of_cell h.2.2.2.1)).trans h.2.2.2.1, (hb.cell (p := ⟨B, 1, none⟩) (lt_of_cell h.2.2.2.2)).trans h.2.2.2.2⟩
      have hS0 : wr.cell? ⟨X, 0, none⟩ = some (.slice (some ⟨g, off, none⟩) n cap) ∧ wr.cell? ⟨g, off + k * 2, none⟩ = some (.int .i64 xi) ∧ wr.cell? ⟨g, off + k * 2 + 1, none⟩ = some (.int .i64 xa) ∧ wr.cell? ⟨B, 0, none⟩ = some (.int .i64 id) ∧ wr.cell? ⟨B, 1, none⟩ = some (.int .i64 at') := ⟨c0, cI2, cA2, d0, d1⟩
      clear cI cA hXr hBr hno hbw hxx hbb
      go_wp2
      go_region_held3 (fun u => u.cell? ⟨X, 0, none⟩ = some (.slice (some ⟨g, off, none⟩) n cap) ∧ u.cell? ⟨g, off + k * 2, none⟩ = some (.int .i64 xi) ∧ u.cell? ⟨g, off + k * 2 + 1, none⟩ = some (.int .i64 xa) ∧ u.cell? ⟨B, 0, none⟩ = some (.int .i64 id) ∧ u.cell? ⟨B, 1, none⟩ = some (.int .i64 at')) (first | assumption | exact hS0)
        (first | (go_at_call 32; refine (HBf.out _).mono ?_; rintro e u ⟨rfl, hb2⟩; have hS2 := HS.out _ _ hS0 (((Below.refl _ _).drew).trans hb2)))
      all_goals
        have hbu : Below V.heap.size V u := HNo.out.2.trans ((((Below.refl _ _).drew).trans hb2).mono HNo.out.2.size)
        have hno := HNo.out.1
        have hbb := HXX.out.2
        have hxx := HXX.out.1
        clear hb2 hS2 hS0
        cases bb with
        | true =>
          have HR : Hid ((∀ j (hj : j < M.length), j < k + 1 → lt M[j] (id, at')) ∧ Below V.heap.size V u) := ⟨fun j hj hjk => by
            by_cases e : j = k
            · subst e; rw [hxx]; exact of_decide_eq_true hbb
            · exact hno j hj (by omega), hbu⟩
          clear hno hbu hbb hxx c0 d0 d1 cI2 cA2
          go_wp2
          go_roundw
          case rel => exact ⟨k + 1, hlt, by go_num, HR.out⟩
          case measure => simp [intOf]; omega
        | false =>
          have hXu := (hbu.block X (blk_lt HH.out.1)).trans HH.out.1
          have hBu := (hbu.block B (blk_lt HH.out.2.2.2.1)).trans HH.out.2.2.2.1
          have hIu := HH.out.2.1.below hbu
          have hord : (M.take k ++ [(id, at')] ++ M.drop k).Pairwise lt := ins_ord HM.out.1 (by rw [HH.out.2.2.1]; omega) hno (fun hj => by
              have hx : ¬ lt M[k] (id, at') := by rw [hxx]; exact of_decide_eq_false hbb
              refine Classical.byContradiction fun hn2 => ?_
              have he := lt_total hx hn2
              exact HM.out.2.2 _ (List.getElem_mem hj) (by rw [he]))
          obtain ⟨v1, p1, v2, p2, v3, p3, r1, r2, r3, b1, b2, b3, hR, hK, ⟨qa, na, ca, rfl⟩, ⟨qb, nb, cb, rfl⟩, ⟨qc, nc, cc, rfl⟩⟩ := three_apps (id, at') hXu (hIu.take (i := k) (by rw [HH.out.2.2.1]; omega)) (hIu.drop (i := k) (by rw [HH.out.2.2.1]; omega)) (by rw [List.length_take]; omega) (by rw [List.length_drop, HH.out.2.2.1]; omega)
          have x0 : u.cell? ⟨X, 0, none⟩ = some (.slice (some ⟨g, off, none⟩) n cap) := cell_of_heap hXu rfl
          have x2 : p2.cell? ⟨X, 0, none⟩ = some (.slice (some ⟨g, off, none⟩) n cap) := cell_of_heap ((b2.block X (blk_lt hXu)).trans hXu) rfl
          have x3 : p3.cell? ⟨X, 0, none⟩ = some (.slice (some ⟨g, off, none⟩) n cap) := cell_of_heap ((b3.block X (blk_lt hXu)).trans hXu) rfl
          have xf : p3.frozen? ⟨X, 0, none⟩ = false := frozen_of ((b3.block X (blk_lt hXu)).trans hXu) 0
          have z0 : p1.cell? ⟨B, 0, none⟩ = some (.int .i64 id) := cell_of_heap ((b1.block B (blk_lt hBu)).trans hBu) rfl
          have z1 : p1.cell? ⟨B, 1, none⟩ = some (.int .i64 at') := cell_of_heap ((b1.block B (blk_lt hBu)).trans hBu) rfl
          have HR : Hid (XSetP w X L id at' (.returned (.bool true)) (p3.setCell ⟨X, 0, none⟩ (.slice qc nc cc))) := by
            refine ⟨rfl, ⟨_, hR, hord, ?_⟩, (HH.out.2.2.2.2.trans ⟨hbu.os, hbu.tape, hbu.output, hbu.size, fun b hb _ => hbu.block b hb⟩).trans hK⟩
            rw [HMq.out]
            exact ins_perm M _ k
          simp only at r2
          clear hXu hBu hIu hord b1 b2 b3 hR hK hno hbu hbb hxx c0 d0 d1 cI2 cA2
          have hcc : ¬ cap = k := by omega
          unfold mv at r3
          rw [if_neg hcc] at r3
          simp only [Option.map_some] at r3
          rw [add_off] at r3
          have hcl : k < cap := by omega
          go_wp2
          go_ret
          exact HR.out
    · have y1 : ¬ (k : Int) < (n : Int) := by omega
      have HB2 := Hid.mk hbw
      clear hXr hBr
      go_wp2
      go_region
      all_goals
        obtain ⟨u, hu⟩ : ∃ u, wr.drew = u := ⟨_, rfl⟩
        have hbu : Below V.heap.size V u := by rw [← hu]; exact hbw.drew
        rw [hu]
        clear hu hbw c0 d0 d1 HB2
        have hXu := (hbu.block X (blk_lt HH.out.1)).trans HH.out.1
        have hBu := (hbu.block B (blk_lt HH.out.2.2.2.1)).trans HH.out.2.2.2.1
        have hIu := HH.out.2.1.below hbu
        have hord : (M.take k ++ [(id, at')] ++ M.drop k).Pairwise lt := ins_ord HM.out.1 (by rw [HH.out.2.2.1]; omega) hno (fun hj => by have := HH.out.2.2.1; omega)
        obtain ⟨v1, p1, v2, p2, v3, p3, r1, r2, r3, b1, b2, b3, hR, hK, ⟨qa, na, ca, rfl⟩, ⟨qb, nb, cb, rfl⟩, ⟨qc, nc, cc, rfl⟩⟩ := three_apps (id, at') hXu (hIu.take (i := k) (by rw [HH.out.2.2.1]; omega)) (hIu.drop (i := k) (by rw [HH.out.2.2.1]; omega)) (by rw [List.length_take]; omega) (by rw [List.length_drop, HH.out.2.2.1]; omega)
        have x0 : u.cell? ⟨X, 0, none⟩ = some (.slice q n cap) := cell_of_heap hXu rfl
        have x2 : p2.cell? ⟨X, 0, none⟩ = some (.slice q n cap) := cell_of_heap ((b2.block X (blk_lt hXu)).trans hXu) rfl
        have x3 : p3.cell? ⟨X, 0, none⟩ = some (.slice q n cap) := cell_of_heap ((b3.block X (blk_lt hXu)).trans hXu) rfl
        have xf : p3.frozen? ⟨X, 0, none⟩ = false := frozen_of ((b3.block X (blk_lt hXu)).trans hXu) 0
        have z0 : p1.cell? ⟨B, 0, none⟩ = some (.int .i64 id) := cell_of_heap ((b1.block B (blk_lt hBu)).trans hBu) rfl
        have z1 : p1.cell? ⟨B, 1, none⟩ = some (.int .i64 at') := cell_of_heap ((b1.block B (blk_lt hBu)).trans hBu) rfl
        have HR : Hid (XSetP w X L id at' (.returned (.bool true)) (p3.setCell ⟨X, 0, none⟩ (.slice qc nc cc))) := by
          refine ⟨rfl, ⟨_, hR, hord, ?_⟩, (HH.out.2.2.2.2.trans ⟨hbu.os, hbu.tape, hbu.output, hbu.size, fun b hb _ => hbu.block b hb⟩).trans hK⟩
          rw [HMq.out]
          exact ins_perm M _ k
        simp only at r2
        clear hXu hBu hIu hord b1 b2 b3 hR hK hno hbu
        by_cases hcc : cap = k
        · unfold mv at r3
          rw [if_pos hcc] at r3
          have hnk : n = k := by omega
          subst hcc
          subst hnk
          simp only [Nat.sub_self] at r3
          go_wp2
          go_ret
          exact HR.out
        · unfold mv at r3
          rw [if_neg hcc] at r3
          have hcl : k < cap := by omega
          go_wp2
          go_ret
          exact HR.out
end
end Go.Proofs.Ytdgkknjmhdmlfaa
