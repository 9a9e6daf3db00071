/- Texts of this proof, joined: ZNs, ZWay, ZCalls, GBase, GLeaf, GWord. -/
import Derived.Test.YtaiakpigljcjbaaGreatDoorJ12
import Derived.Test.YtaiakpigljcjbaaGreatDoorJ13
import Derived.WalkKit
import Derived.WalkSpells
import Derived.WalkLawsBesides
import Derived.BigQuiet
import Derived.Deep.WholeRow
import Derived.Deep.Cut
import Derived.Laws.BitsAllLaws
import Derived.Test.YtaiakpigljcjbaaGreatDoorRows
/- single and nsecs of sets that all count. -/
namespace Go.Proofs.YtaiakpigljcjbaaGreatDoor
set_option linter.unusedVariables false
set_option linter.unusedSimpArgs false
open Go.RowKit
attribute [local go_sem ↓] storeAt_lk loadAt_lk
attribute [local go_sem ↓] loadAt_st storeAt_st
set_option maxRecDepth 100000 in
set_option maxHeartbeats 2000000 in
theorem single_in (d sa s : ByteArray) (g cap : Nat) (W : World) (hd : W.cell? ⟨g, 0, none⟩ = some (.string d)) (hg : g < W.heap.size) (hu : Hid (∀ w, Calls Tryz.prog 28 #[.string s, .string sa] w fun e w' => e = .returned (.bool true) ∧ Below w.heap.size w w')) (hs : Hid (∀ w, Calls Tryz.prog 11 #[.string s] w fun e w' => e = .returned (.bool true) ∧ Below w.heap.size w w')) (hr : Hid (∀ w, Calls Tryz.prog 124 #[.int .i64 47, .string d] w fun e w' => e = .returned (.bool true) ∧ Below w.heap.size w w')) :
    Calls Tryz.prog 66 #[.agg #[.string s, .int .i64 47, .int .i64 1, .int .i64 0, .slice (some ⟨g, 0, none⟩) 1 cap, .slice none 0 0], .int .i64 47, .string sa] W fun e w' => e = .returned (.bool true) ∧ Below W.heap.size W w' := by
  have HR : Hid (∀ w, Below W.heap.size W w → Calls Tryz.prog 89 #[.agg #[.string s, .int .i64 47, .int .i64 1, .int .i64 0, .slice (some ⟨g, 0, none⟩) 1 cap, .slice none 0 0]] w fun e w' => e = .returned (.bool true) ∧ Below w.heap.size w w') := fun w hb => rright_in d s g cap w ((hb.cell (p := ⟨g, 0, none⟩) hg).trans hd) (Nat.lt_of_lt_of_le hg hb.size) hs hr
  clear hd hs hr
  obtain ⟨V, hV, F⟩ : ∃ V, W.alloc (Obj.cells #[.string s, .int .i64 47, .int .i64 1, .int .i64 0, .slice (some ⟨g, 0, none⟩) 1 cap, .slice none 0 0] 37 (0, 0)) = V ∧ Fm W [(W.heap.size, Obj.cells #[.string s, .int .i64 47, .int .i64 1, .int .i64 0, .slice (some ⟨g, 0, none⟩) 1 cap, .slice none 0 0] 37 (0, 0))] V := ⟨_, rfl, Fm.box1 W _⟩
  have HCe : Hid (∀ w, Fm W [(W.heap.size, Obj.cells #[.string s, .int .i64 47, .int .i64 1, .int .i64 0, .slice (some ⟨g, 0, none⟩) 1 cap, .slice none 0 0] 37 (0, 0))] w → w.cell? ⟨W.heap.size, 0, none⟩ = some (.string s) ∧ w.cell? ⟨W.heap.size, 1, none⟩ = some (.int .i64 47) ∧ w.cell? ⟨W.heap.size, 2, none⟩ = some (.int .i64 1) ∧ w.cell? ⟨W.heap.size, 3, none⟩ = some (.int .i64 0) ∧ w.cell? ⟨W.heap.size, 4, none⟩ = some (.slice (some ⟨g, 0, none⟩) 1 cap) ∧ w.cell? ⟨W.heap.size, 5, none⟩ = some (.slice none 0 0)) := fun w h => ⟨(cells_at (h.get 0 rfl) rfl).1, (cells_at (h.get 0 rfl) rfl).1, (cells_at (h.get 0 rfl) rfl).1, (cells_at (h.get 0 rfl) rfl).1, (cells_at (h.get 0 rfl) rfl).1, (cells_at (h.get 0 rfl) rfl).1⟩
  obtain ⟨q0, q1, q2, q3, q4, q5⟩ := HCe.out _ F
  go_enter Tryz.func66, Tryz.ntmps66
  go_wp2_with fail
  refine (hu.out _).mono ?_
  rintro e w1 ⟨rfl, hb⟩
  replace F := F.blk hb
  clear hb hV q0 q1 q2 q3 q4 q5
  have l1 := stLoad_run (F.get 0 rfl)
  go_wp2_with fail
  refine (HR.out _ F.bel).mono ?_
  rintro e w2 ⟨rfl, hb⟩
  replace F := F.blk hb
  clear hb l1
  go_wp2
  go_ret
  exact ⟨rfl, F.bel⟩
theorem stLoad_mid {W : World} {g o : Nat} {x0 x1 x2 x3 x4 x5 : Value} (h0 : W.cell? ⟨g, o, none⟩ = some x0) (h1 : W.cell? ⟨g, o + 1, none⟩ = some x1) (h2 : W.cell? ⟨g, o + 2, none⟩ = some x2) (h3 : W.cell? ⟨g, o + 3, none⟩ = some x3) (h4 : W.cell? ⟨g, o + 4, none⟩ = some x4) (h5 : W.cell? ⟨g, o + 5, none⟩ = some x5) : (stLoad (.pointer (some ⟨g, o, none⟩))).run Tryz.prog W = .ok (.agg #[x0, x1, x2, x3, x4, x5]) W := by
  refine run_loadAt_mid W g o _ [x0, x1, x2, x3, x4, x5] _ (fun j v hv => ?_) Tryz.underlying37 rfl (by exact sizeSt)
  match j, hv with
  | 0, hv => cases hv; exact h0
  | 1, hv => cases hv; exact h1
  | 2, hv => cases hv; exact h2
  | 3, hv => cases hv; exact h3
  | 4, hv => cases hv; exact h4
  | 5, hv => cases hv; exact h5
theorem stStore_run {W : World} {b : Nat} {x0 x1 x2 x3 x4 x5 y0 y1 y2 y3 y4 y5 : Value} (h : W.heap[b]? = some (.cells #[y0, y1, y2, y3, y4, y5] 37 (0, 0))) (h0 : x0.oneCell' = true) (h1 : x1.oneCell' = true) (h2 : x2.oneCell' = true) (h3 : x3.oneCell' = true) (h4 : x4.oneCell' = true) (h5 : x5.oneCell' = true) : (stStore (.pointer (some ⟨b, 0, none⟩)) (.agg #[x0, x1, x2, x3, x4, x5])).run Tryz.prog W = .ok () (W.setRow b #[x0, x1, x2, x3, x4, x5]) := by
  unfold stStore
  simp only [Instr.storeAt, Instr.sureAddr, Sem.run_bind, Sem.run_pure, Result.andThen]
  exact run_storeVar_row W b _ _ _ _ h sizeSt rfl (by simp [h0, h1, h2, h3, h4, h5])
theorem stst1 (w : World) (x0 x1 x2 x3 x4 x5 y0 y1 y2 y3 y4 y5 : Value) (h0 : x0.oneCell' = true) (h1 : x1.oneCell' = true) (h2 : x2.oneCell' = true) (h3 : x3.oneCell' = true) (h4 : x4.oneCell' = true) (h5 : x5.oneCell' = true) : (stStore (.pointer (some ⟨w.heap.size, 0, none⟩)) (.agg #[x0, x1, x2, x3, x4, x5])).run Tryz.prog (w.alloc (Obj.cells #[y0, y1, y2, y3, y4, y5] 37 (0, 0))) = .ok () (w.alloc (Obj.cells #[x0, x1, x2, x3, x4, x5] 37 (0, 0))) := by
  rw [stStore_run (heap_new _ _) h0 h1 h2 h3 h4 h5]
  exact congrArg (Result.ok ()) (setRow_new w [y0, y1, y2, y3, y4, y5] [x0, x1, x2, x3, x4, x5] 37)
def nsStore (a x : Value) : Sem Unit := Instr.storeAt 90 a x
theorem storeAt_ns (a x : Value) : Instr.storeAt 90 a x = nsStore a x := rfl
theorem sizeNs : (Tryz.prog.info? 90).map (·.size) = some 2 := by kernel_rfl
theorem nsStore_run {W : World} {b : Nat} {x0 x1 y0 y1 : Value} (h : W.heap[b]? = some (.cells #[y0, y1] 90 (0, 0))) (h0 : x0.oneCell' = true) (h1 : x1.oneCell' = true) : (nsStore (.pointer (some ⟨b, 0, none⟩)) (.agg #[x0, x1])).run Tryz.prog W = .ok () (W.setRow b #[x0, x1]) := by
  unfold nsStore
  simp only [Instr.storeAt, Instr.sureAddr, Sem.run_bind, Sem.run_pure, Result.andThen]
  exact run_storeVar_row W b _ _ _ _ h sizeNs rfl (by simp [h0, h1])
theorem nsst1 (w : World) (x0 x1 y0 y1 : Value) (h0 : x0.oneCell' = true) (h1 : x1.oneCell' = true) : (nsStore (.pointer (some ⟨w.heap.size, 0, none⟩)) (.agg #[x0, x1])).run Tryz.prog (w.alloc (Obj.cells #[y0, y1] 90 (0, 0))) = .ok () (w.alloc (Obj.cells #[x0, x1] 90 (0, 0))) := by
  rw [nsStore_run (heap_new _ _) h0 h1]
  exact congrArg (Result.ok ()) (setRow_new w [y0, y1] [x0, x1] 90)
attribute [local go_sem ↓] storeAt_ns
/-- a link whose types lie in a block of ints. -/
def LkT (W : World) (k : Lk) (a b c : Value) : Prop := a = .string (nm k.o) ∧ b = .string (nm k.x) ∧ IntsT W c k.t
theorem LkT.at {W : World} {k : Lk} {a b c : Value} (h : LkT W k a b c) : LkAt W k a b c := ⟨h.1, h.2.1, h.2.2.1⟩
theorem LkT.blk {W W' : World} {k : Lk} {a b c : Value} (h : LkT W k a b c) (hb : Below W.heap.size W W') : LkT W' k a b c := ⟨h.1, h.2.1, h.2.2.below hb⟩
theorem ty_ne : (3 : TypeId) ≠ 95 := by decide
theorem LkT.grown {z w4 : World} {tmp : Obj} {u : Value} {n₀ n : Nat} {xs : List Value} {k : Lk} {a b c : Value} (h : LkT z k a b c) (hrow : z.ownsRow n₀ 95 3 u n xs) (hg : (z.alloc tmp).grownBy w4 u.ownBlock) : LkT w4 k a b c := by
  obtain ⟨h1, h2, ⟨q, cc, hv, hc⟩, h4⟩ := h
  have hblk : ∀ g o m d, c = .slice (some ⟨g, o, none⟩) m d → w4.heap[g]? = z.heap[g]? := fun g o m d hcv => by
    obtain ⟨cs, fz, hgg⟩ := h4 g o m d hcv
    have hlt := box_lt hgg
    have hal : (z.alloc tmp).heap[g]? = z.heap[g]? := ((Below.refl z.heap.size z).alloc (Nat.le_refl _) tmp).block g hlt
    refine (hg.block g (by simp; omega) fun e => ?_).trans hal
    rcases hrow.2 with ⟨rfl, _⟩ | ⟨g', cap, cur, rfl, _, hg', _⟩
    · simp [Value.ownBlock] at e
    · simp only [Value.ownBlock, Option.some.injEq] at e
      subst e
      rw [hgg] at hg'
      simp only [Option.some.injEq, Obj.cells.injEq] at hg'
      exact ty_ne hg'.2.1
  have hsz : z.heap.size ≤ w4.heap.size := Nat.le_trans (by simp) hg.size
  refine ⟨h1, h2, ⟨q, cc, hv, fun j hj => ?_⟩, fun g o m d hcv => ?_⟩
  · obtain ⟨g, hq, hgl, hcell⟩ := hc j hj
    refine ⟨g, hq, Nat.lt_of_lt_of_le hgl hsz, ?_⟩
    rw [hq] at hv
    exact (World.cell?_of_block (a := ⟨g, j, none⟩) (hblk g 0 _ _ hv)).trans hcell
  · obtain ⟨cs, fz, hgg⟩ := h4 g o m d hcv
    exact ⟨cs, fz, (hblk g o m d hcv).trans hgg⟩
theorem row_blk {w w' : World} {n : Nat} {e : TypeId} {sz : Nat} {v : Value} {k : Nat} {xs : List Value} (h : w.ownsRow n e sz v k xs) (hb : Below w.heap.size w w') : w'.ownsRow n e sz v k xs := by
  refine ⟨h.1, ?_⟩
  rcases h.2 with h' | ⟨g', cap', cur, hv, hb', hg', hr⟩
  · exact .inl h'
  · exact .inr ⟨g', cap', cur, hv, hb', (hb.block g' (box_lt hg')).trans hg', hr⟩
/-- a set that counts: its link, its datum. -/
structure Gd where
  k : Lk
  d : ByteArray
def Gd.Ok (g : Gd) : Prop := g.k.Ok ∧ (∀ w, Calls Tryz.prog 67 #[.string g.d] w fun e w' => (∃ tv, e = .returned (.tuple #[.agg #[.string (nm g.k.x), tv], .int .i64 0]) ∧ IntsT w' tv g.k.t) ∧ Below w.heap.size w w') ∧ (∀ w, Calls Tryz.prog 124 #[.int .i64 47, .string g.d] w fun e w' => e = .returned (.bool true) ∧ Below w.heap.size w w')
def StAt (W : World) (v : Value) (l : List Gd) : Prop := ∃ q cap, v = .slice q l.length cap ∧ ∀ j (h : j < l.length), ∃ b g c, q = some ⟨b, 0, none⟩ ∧ b < W.heap.size ∧ W.cell? ⟨b, j * 6, none⟩ = some (.string (nm l[j].k.o)) ∧ W.cell? ⟨b, j * 6 + 1, none⟩ = some (.int .i64 47) ∧ W.cell? ⟨b, j * 6 + 2, none⟩ = some (.int .i64 1) ∧ W.cell? ⟨b, j * 6 + 3, none⟩ = some (.int .i64 0) ∧ W.cell? ⟨b, j * 6 + 4, none⟩ = some (.slice (some ⟨g, 0, none⟩) 1 c) ∧ W.cell? ⟨b, j * 6 + 5, none⟩ = some (.slice none 0 0) ∧ g < W.heap.size ∧ W.cell? ⟨g, 0, none⟩ = some (.string l[j].d)
theorem StAt.blk {W W' : World} {v : Value} {l : List Gd} (h : StAt W v l) (hb : Below W.heap.size W W') : StAt W' v l := by
  obtain ⟨q, cap, hv, hc⟩ := h
  refine ⟨q, cap, hv, fun j hj => ?_⟩
  obtain ⟨b, g, c, hq, hbb, h0, h1, h2, h3, h4, h5, hg, h6⟩ := hc j hj
  exact ⟨b, g, c, hq, Nat.lt_of_lt_of_le hbb hb.size, (hb.cell (p := ⟨b, j * 6, none⟩) hbb).trans h0, (hb.cell (p := ⟨b, j * 6 + 1, none⟩) hbb).trans h1, (hb.cell (p := ⟨b, j * 6 + 2, none⟩) hbb).trans h2, (hb.cell (p := ⟨b, j * 6 + 3, none⟩) hbb).trans h3, (hb.cell (p := ⟨b, j * 6 + 4, none⟩) hbb).trans h4, (hb.cell (p := ⟨b, j * 6 + 5, none⟩) hbb).trans h5, Nat.lt_of_lt_of_le hg hb.size, (hb.cell (p := ⟨g, 0, none⟩) hg).trans h6⟩
/-- the cells of links. -/
def lkC : List (Value × Value × Value) → List Value
  | [] => []
  | (a, b, c) :: r => a :: b :: c :: lkC r
theorem lkC_len : ∀ l, (lkC l).length = l.length * 3
  | [] => rfl
  | (a, b, c) :: r => by rw [lkC]; simp only [List.length_cons]; rw [lkC_len r]; omega
theorem lkC_app : ∀ (l m : List (Value × Value × Value)), lkC (l ++ m) = lkC l ++ lkC m
  | [], _ => rfl
  | (a, b, c) :: r, m => by rw [List.cons_append, lkC, lkC, lkC_app r m]; rfl
theorem lkC_at : ∀ (l : List (Value × Value × Value)) (j : Nat) (h : j < l.length), (lkC l)[j * 3]? = some l[j].1 ∧ (lkC l)[j * 3 + 1]? = some l[j].2.1 ∧ (lkC l)[j * 3 + 2]? = some l[j].2.2
  | (a, b, c) :: r, 0, _ => ⟨rfl, rfl, rfl⟩
  | (a, b, c) :: r, j + 1, h => by
    have := lkC_at r j (by simpa using h)
    rw [lkC]
    simp only [List.getElem_cons_succ]
    rw [show (j + 1) * 3 = j * 3 + 1 + 1 + 1 by omega]
    simpa using this
theorem chAt_of {W : World} {n₀ : Nat} {v : Value} {ks : List Lk} {rows : List (Value × Value × Value)} (h : W.ownsRow n₀ 95 3 v ks.length (lkC rows)) (hl : rows.length = ks.length) (hr : ∀ j (h1 : j < rows.length) (h2 : j < ks.length), LkAt W ks[j] rows[j].1 rows[j].2.1 rows[j].2.2) : ChAt W v ks := by
  rcases h.2 with ⟨rfl, h0⟩ | ⟨g, cap, cur, rfl, _, hg, _, _, _, ht⟩
  · exact ⟨none, 0, by rw [h0], fun j hj => by omega⟩
  · refine ⟨_, cap, rfl, fun j hj => ?_⟩
    have hj' : j < rows.length := by omega
    obtain ⟨c0, c1, c2⟩ := lkC_at rows j hj'
    have hcell : ∀ i u, (lkC rows)[i]? = some u → W.cell? ⟨g, i, none⟩ = some u := fun i u hu => by
      have hlt : i < ks.length * 3 := by
        have := (List.getElem?_eq_some_iff.1 hu).1
        rw [lkC_len] at this
        omega
      unfold World.cell?
      simp only [hg]
      rw [← ht] at hu
      rw [List.getElem?_take_of_lt hlt] at hu
      simpa using hu
    exact ⟨g, _, _, _, rfl, box_lt hg, hcell _ _ c0, hcell _ _ c1, hcell _ _ c2, hr j hj' hj⟩
/-- links in a row, their types in blocks of ints. -/
def ChT (W : World) (v : Value) (ks : List Lk) : Prop := ∃ (n₀ : Nat) (rows : List (Value × Value × Value)), rows.length = ks.length ∧ W.ownsRow n₀ 95 3 v ks.length (lkC rows) ∧ ∀ j (h1 : j < rows.length) (h2 : j < ks.length), LkT W ks[j] rows[j].1 rows[j].2.1 rows[j].2.2
theorem ChT.at {W : World} {v : Value} {ks : List Lk} (h : ChT W v ks) : ChAt W v ks := by
  obtain ⟨n₀, rows, h1, h2, h3⟩ := h
  exact chAt_of h2 h1 fun j a b => (h3 j a b).at
theorem ChT.blk {W W' : World} {v : Value} {ks : List Lk} (h : ChT W v ks) (hb : Below W.heap.size W W') : ChT W' v ks := by
  obtain ⟨n₀, rows, h1, h2, h3⟩ := h
  exact ⟨n₀, rows, h1, row_blk h2 hb, fun j a b => (h3 j a b).blk hb⟩
theorem LkT.row {W : World} {k : Lk} {a b c : Value} {p : Nat} {L z : Array Value} {t : TypeId} (h : LkT W k a b c) (hp : W.heap[p]? = some (.cells L t (0, 0))) (ht : t ≠ 3) : LkT (W.setRow p z) k a b c := by
  obtain ⟨h1, h2, ⟨q, cc, hv, hc⟩, h4⟩ := h
  have hblk : ∀ g o m d, c = .slice (some ⟨g, o, none⟩) m d → (W.setRow p z).heap[g]? = W.heap[g]? := fun g o m d hcv => by
    obtain ⟨cs, fz, hgg⟩ := h4 g o m d hcv
    refine setRow_other _ _ _ _ fun e => ?_
    subst e
    rw [hgg] at hp
    simp only [Option.some.injEq, Obj.cells.injEq] at hp
    exact ht hp.2.1.symm
  refine ⟨h1, h2, ⟨q, cc, hv, fun j hj => ?_⟩, fun g o m d hcv => ?_⟩
  · obtain ⟨g, hq, hgl, hcell⟩ := hc j hj
    refine ⟨g, hq, ?_, ?_⟩
    · rw [hq] at hv
      obtain ⟨cs, fz, hgg⟩ := h4 g 0 _ _ hv
      exact box_lt ((hblk g 0 _ _ hv).trans hgg)
    · rw [hq] at hv
      exact (World.cell?_of_block (a := ⟨g, j, none⟩) (hblk g 0 _ _ hv)).trans hcell
  · obtain ⟨cs, fz, hgg⟩ := h4 g o m d hcv
    exact ⟨cs, fz, (hblk g o m d hcv).trans hgg⟩
theorem ChT.row {W : World} {v : Value} {ks : List Lk} {p : Nat} {L z : Array Value} {t : TypeId} (h : ChT W v ks) (hp : W.heap[p]? = some (.cells L t (0, 0))) (ht : t ≠ 3) (hu : t ≠ 95) : ChT (W.setRow p z) v ks := by
  obtain ⟨n₀, rows, h1, h2, h3⟩ := h
  refine ⟨n₀, rows, h1, ⟨h2.1, ?_⟩, fun j a b => (h3 j a b).row hp ht⟩
  rcases h2.2 with h' | ⟨g', cap', cur, hv, hb', hg', hr⟩
  · exact .inl h'
  · refine .inr ⟨g', cap', cur, hv, hb', (setRow_other _ _ _ _ fun e => ?_).trans hg', hr⟩
    subst e
    rw [hg'] at hp
    simp only [Option.some.injEq, Obj.cells.injEq] at hp
    exact hu hp.2.1.symm
theorem three_new (w : World) (a b c : Value) (t : TypeId) : ∀ j u, [a, b, c][j]? = some u → (w.alloc (.cells #[a, b, c] t)).cell? ((⟨w.heap.size, 0, none⟩ : Addr).add j) = some u := by
  intro j u hj
  rw [add_at']
  exact (cells_at (heap_new w (.cells #[a, b, c] t)) (by simpa using hj)).1
theorem info_lk : (Tryz.prog.info? 95).map (fun i => (i.zero, i.size, i.bytes)) = some (some (.agg #[.string ⟨#[]⟩, .string ⟨#[]⟩, .slice none 0 0]), 3, 56) := by kernel_rfl
set_option maxRecDepth 100000 in
set_option maxHeartbeats 2000000 in
theorem nsecs_in (l : List Gd) (ap : List (List UInt8)) (hap : OkN ap) (hl : l.length ≤ 100000) (hok : ∀ g ∈ l, g.Ok) (hun : ∀ g ∈ l, undB g.k.o ap = true) (v : Value) (W : World) (h : StAt W v l) :
    Calls Tryz.prog 49 #[v, .string (nm ap)] W fun e w' => (∃ cv, e = .returned cv ∧ ChT w' cv (l.map (·.k))) ∧ Below W.heap.size W w' := by
  obtain ⟨q, cap, rfl, hc⟩ := id h
  have HC := Hid.mk hc
  obtain ⟨m, hm⟩ : ∃ m, l.length = m := ⟨_, rfl⟩
  have HM := Hid.mk hm
  have HSi : Hid (∀ gd ∈ l, ∀ w g c, w.cell? ⟨g, 0, none⟩ = some (.string gd.d) → g < w.heap.size → Calls Tryz.prog 66 #[.agg #[.string (nm gd.k.o), .int .i64 47, .int .i64 1, .int .i64 0, .slice (some ⟨g, 0, none⟩) 1 c, .slice none 0 0], .int .i64 47, .string (nm ap)] w fun e w' => e = .returned (.bool true) ∧ Below w.heap.size w w') := fun gd hgd w g c hd hg => single_in gd.d (nm ap) (nm gd.k.o) g c w hd hg (Hid.mk fun w => by have := under_yes gd.k.o ap (hok gd hgd).1.1 hap w; rwa [hun gd hgd] at this) (Hid.mk (right_yes gd.k.o (hok gd hgd).1.1)) (Hid.mk (hok gd hgd).2.2)
  have HNs : Hid (∀ gd ∈ l, ∀ w, Calls Tryz.prog 67 #[.string gd.d] w fun e w' => (∃ tv, e = .returned (.tuple #[.agg #[.string (nm gd.k.x), tv], .int .i64 0]) ∧ IntsT w' tv gd.k.t) ∧ Below w.heap.size w w') := fun gd hgd => (hok gd hgd).2.1
  have HEnd : Hid (∀ (w : World) (cv : Value) (rows : List (Value × Value × Value)), rows.length = m → w.ownsRow W.heap.size 95 3 cv m (lkC rows) → (∀ j (h1 : j < rows.length) (h2 : j < l.length), LkT w l[j].k rows[j].1 rows[j].2.1 rows[j].2.2) → ChT w cv (l.map (·.k))) := fun w cv rows h1 h2 h3 => ⟨W.heap.size, rows, by rw [List.length_map, hm]; exact h1, by rw [List.length_map, hm]; exact h2, fun j a b => by rw [List.getElem_map]; exact h3 j a (by simpa using b)⟩
  rw [hm] at hl ⊢
  generalize nm ap = sa at HSi ⊢
  obtain ⟨i0, hi0, hz0, hz1, hz2⟩ := info_parts info_lk
  clear hm hok hun h hc hap
  go_enter Tryz.func49, Tryz.ntmps49
  go_wp2_with fail
  go_loopw [5, 12] (fun cv iv wr => ∃ (i : Nat) (rows : List (Value × Value × Value)), i ≤ m ∧ iv = .int .i64 (i : Int) ∧ Hid (rows.length = i) ∧ Hid (wr.ownsRow W.heap.size 95 3 cv i (lkC rows)) ∧ Hid (∀ j (h1 : j < rows.length) (h2 : j < l.length), LkT wr l[j].k rows[j].1 rows[j].2.1 rows[j].2.2) ∧ Below W.heap.size W wr) (fun _ iv _ => m - (intOf iv).toNat)
  case atStart => exact ⟨0, [], Nat.zero_le _, rfl, rfl, World.ownsRow_nil _ _ _ _, fun j h1 => absurd h1 (Nat.not_lt_zero _), Below.refl _ _⟩
  case round =>
    obtain ⟨i, rows, hi, rfl, hrl, hrow, hlk, hbl⟩ := hrel
    by_cases hlt : i < m
    · have hil : i < l.length := by rw [HM.out]; exact hlt
      obtain ⟨b, g, c, rfl, hbb, h0, h1, h2, h3, h4, h5, hg, h6⟩ := HC.out i hil
      obtain ⟨kk, hkk⟩ : ∃ kk, l[i] = kk := ⟨_, rfl⟩
      have hmem : kk ∈ l := by rw [← hkk]; exact List.getElem_mem _
      rw [hkk] at h0 h6
      have HS1 := Hid.mk (HSi.out kk hmem)
      have HN1 := Hid.mk (HNs.out kk hmem)
      have HKK : Hid (∃ h, l[i]'h = kk) := ⟨hil, hkk⟩
      have hi' : (i : Int) < (m : Int) := by omega
      clear hil hkk hmem
      have k0 := (hbl.cell (p := ⟨b, i * 6, none⟩) hbb).trans h0
      have k1 := (hbl.cell (p := ⟨b, i * 6 + 1, none⟩) hbb).trans h1
      have k2 := (hbl.cell (p := ⟨b, i * 6 + 2, none⟩) hbb).trans h2
      have k3 := (hbl.cell (p := ⟨b, i * 6 + 3, none⟩) hbb).trans h3
      have k4 := (hbl.cell (p := ⟨b, i * 6 + 4, none⟩) hbb).trans h4
      have k5 := (hbl.cell (p := ⟨b, i * 6 + 5, none⟩) hbb).trans h5
      have ld := stLoad_mid k0 k1 k2 k3 k4 k5
      have st := stst1 wr (.string (nm kk.k.o)) (.int .i64 47) (.int .i64 1) (.int .i64 0) (.slice (some ⟨g, 0, none⟩) 1 c) (.slice none 0 0) (.string ⟨#[]⟩) (.int .i64 0) (.int .i64 0) (.int .i64 0) (.slice none 0 0) (.slice none 0 0) rfl rfl rfl rfl rfl rfl
      have H6 := Hid.mk h6
      clear h0 h1 h2 h3 h4 h5 k0 k1 k2 k3 k4 k5 h6
      go_upto_region 5 with fail
      have F := (Fm.start wr).new (Obj.cells #[.string (nm kk.k.o), .int .i64 47, .int .i64 1, .int .i64 0, .slice (some ⟨g, 0, none⟩) 1 c, .slice none 0 0] 37 (0, 0))
      clear ld st
      generalize wr.alloc (Obj.cells #[.string (nm kk.k.o), .int .i64 47, .int .i64 1, .int .i64 0, .slice (some ⟨g, 0, none⟩) 1 c, .slice none 0 0] 37 (0, 0)) = z at F ⊢
      generalize hb7 : wr.heap.size = b7 at F ⊢
      have l7 := stLoad_run (F.get 0 rfl)
      have hz := bthen hbl F.bel
      go_wp2_with fail
      refine (HS1.out _ _ _ ((hz.cell (p := ⟨g, 0, none⟩) hg).trans H6.out) (Nat.lt_of_lt_of_le hg hz.size)).mono ?_
      rintro e w2 ⟨rfl, hb⟩
      replace F := F.blk hb
      clear hb l7 hz
      have hz := bthen hbl F.bel
      have q4 : w2.cell? ⟨b7, 4, none⟩ = some (.slice (some ⟨g, 0, none⟩) 1 c) := (cells_at (F.get 0 rfl) rfl).1
      have q6 : w2.cell? ⟨g, 0, none⟩ = some (.string kk.d) := (hz.cell (p := ⟨g, 0, none⟩) hg).trans H6.out
      go_wp2_with fail
      refine (HN1.out _).mono ?_
      rintro e w3 ⟨⟨tv, rfl, hin⟩, hb⟩
      replace F := F.blk hb
      clear hb q4 q6 hz
      obtain ⟨tq, tc, htv, _⟩ := id hin.1
      subst htv
      have st := nsst1 w3 (.string (nm kk.k.x)) (.slice tq kk.k.t.length tc) (.string ⟨#[]⟩) (.slice none 0 0) rfl rfl
      go_upto_region 7 with fail
      have hA := (Below.refl w3.heap.size w3).alloc (Nat.le_refl _) (Obj.cells #[.string (nm kk.k.x), .slice tq kk.k.t.length tc] 90 (0, 0))
      replace hin := hin.below hA
      replace F := F.new (Obj.cells #[.string (nm kk.k.x), .slice tq kk.k.t.length tc] 90 (0, 0))
      clear st hA
      generalize w3.alloc (Obj.cells #[.string (nm kk.k.x), .slice tq kk.k.t.length tc] 90 (0, 0)) = z3 at F hin ⊢
      generalize w3.heap.size = b8 at F ⊢
      have q0 : z3.cell? ⟨b7, 0, none⟩ = some (.string (nm kk.k.o)) := (cells_at (F.get 1 rfl) rfl).1
      have p0 : z3.cell? ⟨b8, 0, none⟩ = some (.string (nm kk.k.x)) := (cells_at (F.get 0 rfl) rfl).1
      have p1 : z3.cell? ⟨b8, 1, none⟩ = some (.slice tq kk.k.t.length tc) := (cells_at (F.get 0 rfl) rfl).1
      have hrow' := row_blk hrow.out F.bel
      have hlk' : Hid (∀ j (h1 : j < rows.length) (h2 : j < l.length), LkT z3 l[j].k rows[j].1 rows[j].2.1 rows[j].2.2) := fun j h1 h2 => (hlk.out j h1 h2).blk F.bel
      have hbz := bthen hbl F.bel
      have hsz0 := hbz.size
      have HIN := Hid.mk hin
      have hil' : i ≤ 100000 := by omega
      clear F hin hlk hrow
      go_wp2_with (at_builtin; refine wpList_append_own _ rfl _ _ 70 rfl W.heap.size 95 i0 (.agg #[.string ⟨#[]⟩, .string ⟨#[]⟩, .slice none 0 0]) 3 56 Tryz.underlying70 hi0 hz0 hz1 hz2 rfl (by decide) _ _ _ rfl (hrow'.alloc _) ⟨z3.heap.size, 0, none⟩ 1 1 [.string (nm kk.k.o), .string (nm kk.k.x), .slice tq kk.k.t.length tc] rfl rfl (three_new _ _ _ _ _) (by simp [Value.oneCell']) (by unfold maxLen; omega) (by omega) (by simp; omega) ?_; intro v1 w4 hown4 hgrow4 _)
      have hgr : (z3.alloc (.cells #[.string (nm kk.k.o), .string (nm kk.k.x), .slice tq kk.k.t.length tc] 95)).grownBy w4 u5.ownBlock := hgrow4
      have hB4 : Below W.heap.size W w4 := (hbz.alloc hsz0 _).grown hgr (by simp; omega) (fun j ej => by
        rcases hrow'.2 with ⟨h0, _⟩ | ⟨g', cap', cur, h0, hb', _⟩
        · rw [h0] at ej; cases ej
        · rw [h0] at ej; cases ej; exact hb')
      have HO4 : Hid (w4.ownsRow W.heap.size 95 3 v1 (i + 1) (lkC (rows ++ [(.string (nm kk.k.o), .string (nm kk.k.x), .slice tq kk.k.t.length tc)]))) := by rw [Hid, lkC_app]; exact hown4
      have HK4 : Hid (∀ j (h1 : j < (rows ++ [(Value.string (nm kk.k.o), Value.string (nm kk.k.x), Value.slice tq kk.k.t.length tc)]).length) (h2 : j < l.length), LkT w4 l[j].k (rows ++ [(Value.string (nm kk.k.o), Value.string (nm kk.k.x), Value.slice tq kk.k.t.length tc)])[j].1 (rows ++ [(Value.string (nm kk.k.o), Value.string (nm kk.k.x), Value.slice tq kk.k.t.length tc)])[j].2.1 (rows ++ [(Value.string (nm kk.k.o), Value.string (nm kk.k.x), Value.slice tq kk.k.t.length tc)])[j].2.2) := fun j h1 h2 => by
        by_cases hj : j < rows.length
        · rw [List.getElem_append_left hj]
          exact (hlk'.out j hj h2).grown hrow' hgr
        · have hji : j = i := by
            have := hrl.out
            simp only [List.length_append, List.length_cons, List.length_nil] at h1
            omega
          subst hji
          obtain ⟨h3, h4⟩ := HKK.out
          rw [List.getElem_append_right (by omega)]
          simp only [hrl.out, Nat.sub_self, List.getElem_cons_zero]
          rw [h4]
          exact LkT.grown ⟨rfl, rfl, HIN.out⟩ hrow' hgr
      have HR4 : Hid ((rows ++ [(Value.string (nm kk.k.o), Value.string (nm kk.k.x), Value.slice tq kk.k.t.length tc)]).length = i + 1) := by rw [Hid, List.length_append, hrl.out]; rfl
      clear hgr hgrow4 hown4 hlk' hrow' HKK HIN hbz
      go_roundw
      case rel => exact ⟨i + 1, _, by omega, by go_num, HR4, HO4, HK4, hB4⟩
      case measure => simp [intOf]; omega
    · obtain rfl : i = m := by omega
      have hE := Hid.mk (HEnd.out wr _ rows hrl.out hrow.out hlk.out)
      go_wp2
      go_ret
      exact ⟨⟨_, rfl, hE.out⟩, hbl⟩
end Go.Proofs.YtaiakpigljcjbaaGreatDoor

/- wayOf, Name, Type, Wild by NSEC. -/
namespace Go.Proofs.YtaiakpigljcjbaaGreatDoor
set_option linter.unusedVariables false
set_option linter.unusedSimpArgs false
open Go.RowKit
attribute [local go_sem ↓] storeAt_lk loadAt_lk
def wyStore (a x : Value) : Sem Unit := Instr.storeAt 54 a x
theorem storeAt_wy (a x : Value) : Instr.storeAt 54 a x = wyStore a x := rfl
theorem sizeWy : (Tryz.prog.info? 54).map (·.size) = some 4 := by kernel_rfl
theorem wyStore_run {W : World} {b : Nat} {x0 x1 x2 x3 y0 y1 y2 y3 : Value} (h : W.heap[b]? = some (.cells #[y0, y1, y2, y3] 54 (0, 0))) (h0 : x0.oneCell' = true) (h1 : x1.oneCell' = true) (h2 : x2.oneCell' = true) (h3 : x3.oneCell' = true) : (wyStore (.pointer (some ⟨b, 0, none⟩)) (.agg #[x0, x1, x2, x3])).run Tryz.prog W = .ok () (W.setRow b #[x0, x1, x2, x3]) := by
  unfold wyStore
  simp only [Instr.storeAt, Instr.sureAddr, Sem.run_bind, Sem.run_pure, Result.andThen]
  exact run_storeVar_row W b _ _ _ _ h sizeWy rfl (by simp [h0, h1, h2, h3])
theorem wy_loadV {W : World} {b : Nat} {x y z t : Value} (h : W.heap[b]? = some (.cells #[x, y, z, t] 54 (0, 0))) : (loadVar 54 ⟨b, 0, none⟩).run Tryz.prog W = .ok (.agg #[x, y, z, t]) W :=
  run_loadVar_row W b _ _ _ (0, 0) _ h Tryz.underlying54 rfl sizeWy
theorem results_wy {fn : Func} {p : Tmp} (h : fn.results = #[.cell p 54]) {tmps : Array Value} {W : World} {b : Nat} {x y z t : Value} (hp : tmps.getD p undef = .pointer (some ⟨b, 0, none⟩)) (hb : W.heap[b]? = some (.cells #[x, y, z, t] 54 (0, 0))) : (results fn tmps).run Tryz.prog W = .ok (.agg #[x, y, z, t]) W := by
  have hp' : tmps[p]?.getD undef = .pointer (some ⟨b, 0, none⟩) := by simpa using hp
  simp only [results, h]
  simp [hp', asAddr, wy_loadV hb]
attribute [local go_sem ↓] storeAt_wy
set_option maxRecDepth 100000 in
set_option maxHeartbeats 2000000 in
theorem wayOf_in (l : List Gd) (ap : List (List UInt8)) (hap : OkN ap) (hl : l.length ≤ 100000) (h0 : l ≠ []) (hok : ∀ g ∈ l, g.Ok) (hun : ∀ g ∈ l, undB g.k.o ap = true) (v : Value) (W : World) (h : StAt W v l) : Calls Tryz.prog 29 #[v, .string (nm ap)] W fun e w' => (∃ cv, e = .returned (.agg #[.func (.func 50) #[cv] #[], .func (.func 51) #[cv] #[], .func (.func 52) #[cv] #[], .func (.func 53) #[cv] #[]]) ∧ ChT w' cv (l.map (·.k))) ∧ Below W.heap.size W w' := by
  have HN : Hid (∀ w, Below W.heap.size W w → Calls Tryz.prog 49 #[v, .string (nm ap)] w fun e w' => (∃ cv, e = .returned cv ∧ ChT w' cv (l.map (·.k))) ∧ Below w.heap.size w w') := fun w hb => nsecs_in l ap hap hl hok hun v w (h.blk hb)
  have hlen : 0 < (l.map (·.k)).length := by rw [List.length_map]; exact List.length_pos_iff.2 h0
  generalize l.map (·.k) = ks at HN hlen ⊢
  obtain ⟨q, cap, hv, _⟩ := id h
  clear hl h0 hok hun h hap
  subst hv
  generalize l.length = m at HN ⊢
  obtain ⟨V, hV, F⟩ : ∃ V, W.alloc (Obj.cells #[Value.nilFunc, Value.nilFunc, Value.nilFunc, Value.nilFunc] 54 (0, 0)) = V ∧ Fm W [(W.heap.size, Obj.cells #[Value.nilFunc, Value.nilFunc, Value.nilFunc, Value.nilFunc] 54 (0, 0))] V := ⟨_, rfl, Fm.box1 W _⟩
  have mf := mkf
  go_enter Tryz.func29, Tryz.ntmps29
  go_upto_region 1 with fail
  clear hV
  go_wp2_with fail
  refine (HN.out _ F.bel).mono ?_
  rintro e w1 ⟨⟨cv, rfl, hch⟩, hb⟩
  replace F := F.blk hb
  clear hb
  obtain ⟨q2, c2, hcv, _⟩ := id hch.at
  obtain ⟨m2, hm2⟩ : ∃ m2, ks.length = m2 := ⟨_, rfl⟩
  rw [hm2] at hlen hcv
  have HCH := Hid.mk hch
  have hm0 : (0 : Int) < (m2 : Int) := by omega
  have hd0 : decide ((0 : Int) < (m2 : Int)) = true := decide_eq_true hm0
  have hlen2 : decide (0 < m2) = true := decide_eq_true hlen
  clear hm2 hch
  subst hcv
  have s4 := wyStore_run (x0 := .func (.func 50) #[.slice q2 m2 c2] #[]) (x1 := .func (.func 51) #[.slice q2 m2 c2] #[]) (x2 := .func (.func 52) #[.slice q2 m2 c2] #[]) (x3 := .func (.func 53) #[.slice q2 m2 c2] #[]) (F.get 0 rfl) rfl rfl rfl rfl
  have F4 := F.put 0 #[.func (.func 50) #[.slice q2 m2 c2] #[], .func (.func 51) #[.slice q2 m2 c2] #[], .func (.func 52) #[.slice q2 m2 c2] #[], .func (.func 53) #[.slice q2 m2 c2] #[]] rfl
  go_wp2
  refine bodyPost_ret (results_wy Tryz.results29 rfl (F4.get 0 rfl)) rfl ⟨⟨_, rfl, ?_⟩, F4.bel⟩
  exact HCH.out.row (F.get 0 rfl) (by decide) (by decide)
end Go.Proofs.YtaiakpigljcjbaaGreatDoor

/- Name, Type, Wild by NSEC. -/
namespace Go.Proofs.YtaiakpigljcjbaaGreatDoor
set_option linter.unusedVariables false
set_option linter.unusedSimpArgs false
open Go.RowKit
attribute [local go_sem ↓] storeAt_lk loadAt_lk
theorem chOk_of {l : List Gd} (hl : l.length ≤ 100000) (hok : ∀ g ∈ l, g.Ok) : ChOk (l.map (·.k)) := ⟨by rw [List.length_map]; exact hl, fun k hk => by
  obtain ⟨g, hg, rfl⟩ := List.mem_map.1 hk
  exact (hok g hg).1⟩
theorem way_f0 (a b c d : Value) (w : World) : (Instr.field 54 (.agg #[a, b, c, d]) 0).run Tryz.prog w = .ok a w := by kernel_rfl
theorem way_f1 (a b c d : Value) (w : World) : (Instr.field 54 (.agg #[a, b, c, d]) 1).run Tryz.prog w = .ok b w := by kernel_rfl
theorem way_f2 (a b c d : Value) (w : World) : (Instr.field 54 (.agg #[a, b, c, d]) 2).run Tryz.prog w = .ok c w := by kernel_rfl
set_option maxRecDepth 100000 in
set_option maxHeartbeats 2000000 in
theorem name_in (ap n : List (List UInt8)) (hn : OkN n) (hu : undB n ap = true) (l : List Gd) (hap : OkN ap) (hl : l.length ≤ 100000) (h0 : l ≠ []) (hok : ∀ g ∈ l, g.Ok) (hun : ∀ g ∈ l, undB g.k.o ap = true) (v : Value) (W : World) (h : StAt W v l) : Calls Tryz.prog 15 #[v, .string (nm n), .string (nm ap)] W fun e w' => e = .returned (.int .i64 (nameR (l.map (·.k)) n)) ∧ Below W.heap.size W w' := by
  have HW : Hid (∀ w, Below W.heap.size W w → Calls Tryz.prog 29 #[v, .string (nm ap)] w fun e w' => (∃ cv, e = .returned (.agg #[.func (.func 50) #[cv] #[], .func (.func 51) #[cv] #[], .func (.func 52) #[cv] #[], .func (.func 53) #[cv] #[]]) ∧ ChT w' cv (l.map (·.k))) ∧ Below w.heap.size w w') := fun w hb => wayOf_in l ap hap hl h0 hok hun v w (h.blk hb)
  have hko := chOk_of hl hok
  have HU : Hid (∀ w, Calls Tryz.prog 28 #[.string (nm n), .string (nm ap)] w fun e w' => e = .returned (.bool true) ∧ Below w.heap.size w w') := fun w => by have := under_yes n ap hn hap w; rwa [hu] at this
  have g0 := way_f0
  have g1 := way_f1
  have g2 := way_f2
  obtain ⟨q, cap, hv, _⟩ := id h
  clear hl h0 hok hun h
  subst hv
  generalize l.map (·.k) = ks at *
  generalize l.length = m at HW ⊢
  have F := Fm.start W
  have HN : Hid (∀ w cv, ChT w cv ks → Calls Tryz.prog 50 #[cv, .string (nm n)] w fun e w' => e = .returned (.int .i64 (nameR ks n)) ∧ Below w.heap.size w w') := fun w cv hc => noName_in ks n hko hn cv w hc.at
  generalize nameR ks n = R at HN ⊢
  generalize nm n = sn at HU HN ⊢
  generalize nm ap = sa at HU HW ⊢
  go_enter Tryz.func15, Tryz.ntmps15
  go_wp2_with fail
  refine (HU.out _).mono ?_
  rintro e u1 ⟨rfl, hb⟩
  replace F := F.blk hb
  clear hb
  go_wp2_with fail
  refine (HW.out _ F.bel).mono ?_
  rintro e u2 ⟨⟨cv, rfl, hch⟩, hb⟩
  replace F := F.blk hb
  clear hb
  go_wp2_with fail
  refine (HN.out _ _ hch).mono ?_
  rintro e u3 ⟨rfl, hb⟩
  replace F := F.blk hb
  clear hb
  go_wp2
  go_ret
  exact ⟨rfl, F.bel⟩
set_option maxRecDepth 100000 in
set_option maxHeartbeats 2000000 in
theorem type_in (ap n : List (List UInt8)) (kind : Int) (hk : 0 ≤ kind ∧ kind ≤ 65535) (hn : OkN n) (hu : undB n ap = true) (l : List Gd) (hap : OkN ap) (hl : l.length ≤ 100000) (h0 : l ≠ []) (hok : ∀ g ∈ l, g.Ok) (hun : ∀ g ∈ l, undB g.k.o ap = true) (v : Value) (W : World) (h : StAt W v l) : Calls Tryz.prog 16 #[v, .string (nm n), .int .i64 kind, .string (nm ap)] W fun e w' => e = .returned (.int .i64 (typeR (l.map (·.k)) n kind)) ∧ Below W.heap.size W w' := by
  have HW : Hid (∀ w, Below W.heap.size W w → Calls Tryz.prog 29 #[v, .string (nm ap)] w fun e w' => (∃ cv, e = .returned (.agg #[.func (.func 50) #[cv] #[], .func (.func 51) #[cv] #[], .func (.func 52) #[cv] #[], .func (.func 53) #[cv] #[]]) ∧ ChT w' cv (l.map (·.k))) ∧ Below w.heap.size w w') := fun w hb => wayOf_in l ap hap hl h0 hok hun v w (h.blk hb)
  have hko := chOk_of hl hok
  have HU : Hid (∀ w, Calls Tryz.prog 28 #[.string (nm n), .string (nm ap)] w fun e w' => e = .returned (.bool true) ∧ Below w.heap.size w w') := fun w => by have := under_yes n ap hn hap w; rwa [hu] at this
  have g0 := way_f0
  have g1 := way_f1
  have g2 := way_f2
  obtain ⟨q, cap, hv, _⟩ := id h
  clear hl h0 hok hun h
  subst hv
  generalize l.map (·.k) = ks at *
  generalize l.length = m at HW ⊢
  have F := Fm.start W
  have HN : Hid (∀ w cv, ChT w cv ks → Calls Tryz.prog 51 #[cv, .string (nm n), .int .i64 kind] w fun e w' => e = .returned (.int .i64 (typeR ks n kind)) ∧ Below w.heap.size w w') := fun w cv hc => noType_in ks n kind hko hn cv w hc.at
  have hd1 : decide (kind < 0) = false := decide_eq_false (by omega)
  have hd2 : decide (65535 < kind) = false := decide_eq_false (by omega)
  clear hk
  generalize typeR ks n kind = R at HN ⊢
  generalize nm n = sn at HU HN ⊢
  generalize nm ap = sa at HU HW ⊢
  go_enter Tryz.func16, Tryz.ntmps16
  go_wp2_with fail
  refine (HU.out _).mono ?_
  rintro e u1 ⟨rfl, hb⟩
  replace F := F.blk hb
  clear hb
  go_wp2_with fail
  refine (HW.out _ F.bel).mono ?_
  rintro e u2 ⟨⟨cv, rfl, hch⟩, hb⟩
  replace F := F.blk hb
  clear hb
  go_wp2_with fail
  refine (HN.out _ _ hch).mono ?_
  rintro e u3 ⟨rfl, hb⟩
  replace F := F.blk hb
  clear hb
  go_wp2
  go_ret
  exact ⟨rfl, F.bel⟩
set_option maxRecDepth 100000 in
set_option maxHeartbeats 2000000 in
theorem below_in (n e : List (List UInt8)) (hn : OkN n) (he : OkN e) (hu : undB n e = true) (hq : eqB n e = false) (W : World) : Calls Tryz.prog 30 #[.string (nm n), .string (nm e)] W fun e w' => e = .returned (.bool true) ∧ Below W.heap.size W w' := by
  have HU : Hid (∀ w, Calls Tryz.prog 28 #[.string (nm n), .string (nm e)] w fun e w' => e = .returned (.bool true) ∧ Below w.heap.size w w') := fun w => by have := under_yes n e hn he w; rwa [hu] at this
  have HE : Hid (∀ w, Calls Tryz.prog 12 #[.string (nm n), .string (nm e)] w fun e w' => e = .returned (.bool false) ∧ Below w.heap.size w w') := fun w => by have := equal_yes n e hn he w; rwa [hq] at this
  generalize nm n = sn at HU HE ⊢
  generalize nm e = se at HU HE ⊢
  have F := Fm.start W
  go_enter Tryz.func30, Tryz.ntmps30
  go_wp2_with fail
  refine (HU.out _).mono ?_
  rintro e u1 ⟨rfl, hb⟩
  replace F := F.blk hb
  clear hb
  go_wp2_with fail
  refine (HE.out _).mono ?_
  rintro e u2 ⟨rfl, hb⟩
  replace F := F.blk hb
  clear hb
  go_wp2
  go_ret
  exact ⟨rfl, F.bel⟩
set_option maxRecDepth 100000 in
set_option maxHeartbeats 2000000 in
theorem wild_in (ap n en : List (List UInt8)) (hn : OkN n) (hen : OkN en) (hu : undB n en = true) (hq : eqB n en = false) (hue : undB en ap = true) (l : List Gd) (hap : OkN ap) (hl : l.length ≤ 100000) (h0 : l ≠ []) (hok : ∀ g ∈ l, g.Ok) (hun : ∀ g ∈ l, undB g.k.o ap = true) (v : Value) (W : World) (h : StAt W v l) : Calls Tryz.prog 17 #[v, .string (nm n), .string (nm en), .string (nm ap)] W fun e w' => e = .returned (.int .i64 (nearR (l.map (·.k)) n en)) ∧ Below W.heap.size W w' := by
  have HW : Hid (∀ w, Below W.heap.size W w → Calls Tryz.prog 29 #[v, .string (nm ap)] w fun e w' => (∃ cv, e = .returned (.agg #[.func (.func 50) #[cv] #[], .func (.func 51) #[cv] #[], .func (.func 52) #[cv] #[], .func (.func 53) #[cv] #[]]) ∧ ChT w' cv (l.map (·.k))) ∧ Below w.heap.size w w') := fun w hb => wayOf_in l ap hap hl h0 hok hun v w (h.blk hb)
  have hko := chOk_of hl hok
  have HB := Hid.mk (below_in n en hn hen hu hq)
  have HU : Hid (∀ w, Calls Tryz.prog 28 #[.string (nm en), .string (nm ap)] w fun e w' => e = .returned (.bool true) ∧ Below w.heap.size w w') := fun w => by have := under_yes en ap hen hap w; rwa [hue] at this
  have g0 := way_f0
  have g1 := way_f1
  have g2 := way_f2
  obtain ⟨q, cap, hv, _⟩ := id h
  clear hl h0 hok hun h
  subst hv
  generalize l.map (·.k) = ks at *
  generalize l.length = m at HW ⊢
  have F := Fm.start W
  have HN : Hid (∀ w cv, ChT w cv ks → Calls Tryz.prog 52 #[cv, .string (nm n), .string (nm en)] w fun e w' => e = .returned (.int .i64 (nearR ks n en)) ∧ Below w.heap.size w w') := fun w cv hc => noNear_in ks n en hko hn hen cv w hc.at
  generalize nearR ks n en = R at HN ⊢
  generalize nm n = sn at HB HN ⊢
  generalize nm en = se at HB HU HN ⊢
  generalize nm ap = sa at HU HW ⊢
  go_enter Tryz.func17, Tryz.ntmps17
  go_wp2_with fail
  refine (HB.out _).mono ?_
  rintro e u1 ⟨rfl, hb⟩
  replace F := F.blk hb
  clear hb
  go_wp2_with fail
  refine (HU.out _).mono ?_
  rintro e u1' ⟨rfl, hb⟩
  replace F := F.blk hb
  clear hb
  go_wp2_with fail
  refine (HW.out _ F.bel).mono ?_
  rintro e u2 ⟨⟨cv, rfl, hch⟩, hb⟩
  replace F := F.blk hb
  clear hb
  go_wp2_with fail
  refine (HN.out _ _ hch).mono ?_
  rintro e u3 ⟨rfl, hb⟩
  replace F := F.blk hb
  clear hb
  go_wp2
  go_ret
  exact ⟨rfl, F.bel⟩
end Go.Proofs.YtaiakpigljcjbaaGreatDoor

/- Layer 4's ground: words of 32 bits as the program's numbers; the small functions. -/
namespace Go.Proofs.YtaiakpigljcjbaaGreatDoor.G
set_option linter.unusedVariables false
open Go.RowKit

theorem size_list (s : ByteArray) : s.data.toList.length = s.size := rfl
theorem ba_ext {s t : ByteArray} (h : s.data.toList = t.data.toList) : s = t := by
  cases s; cases t; congr; exact Array.toList_inj.1 h
theorem ba_size (l : List UInt8) : (ByteArray.mk l.toArray).size = l.length := rfl
theorem getElem_list (s : ByteArray) (k : Nat) (h : k < s.size) : s.data.toList[k]'(by rw [size_list]; exact h) = s[k] := rfl
theorem heap_new (w : World) (o : Obj) : (w.alloc o).heap[w.heap.size]? = some o := by
  show (w.heap.push o)[w.heap.size]? = some o
  simp
theorem box_lt {W : World} {b : Nat} {o : Obj} (h : W.heap[b]? = some o) : b < W.heap.size := (Array.getElem?_eq_some_iff.1 h).1
theorem bthen {w w1 w2 : World} (h : Below w.heap.size w w1) (k : Below w1.heap.size w1 w2) : Below w.heap.size w w2 := h.trans (k.mono h.size)
theorem ret_int {k : IntKind} {a b : Int} (h : a = b) : Ending.returned (.int k a) = .returned (.int k b) := by rw [h]
theorem cell_block {w : World} {a : Addr} {v : Value} (h : w.cell? a = some v) : a.block < w.heap.size := by
  apply Classical.byContradiction
  intro hn
  have : w.heap[a.block]? = none := by simp; omega
  simp [World.cell?, this] at h

/-- the words turned, chosen, outvoted. -/
def rol (x : BitVec 32) (n : Nat) : BitVec 32 := x <<< n ||| x >>> (32 - n)
def ror (x : BitVec 32) (n : Nat) : BitVec 32 := x >>> n ||| x <<< (32 - n)
def cho (e x y : BitVec 32) : BitVec 32 := (e &&& x) ||| (~~~e &&& y)
def maj (x y z : BitVec 32) : BitVec 32 := (x &&& y) ||| (x &&& z) ||| (y &&& z)

theorem Hid.mk {p : Prop} (h : p) : Hid p := h
theorem Hid.out {p : Prop} (h : Hid p) : p := h
theorem bv_lt (x : BitVec 32) : x.toNat < 4294967296 := x.isLt
theorem bv_or (x y : BitVec 32) : bits .or .u32 (x.toNat : Int) (y.toNat : Int) = ((x ||| y).toNat : Int) := by
  rw [u32_or_nat _ _ (bv_lt x) (bv_lt y), BitVec.toNat_or]
theorem bv_and (x y : BitVec 32) : bits .and .u32 (x.toNat : Int) (y.toNat : Int) = ((x &&& y).toNat : Int) := by
  rw [u32_and_nat _ _ (bv_lt x) (bv_lt y), BitVec.toNat_and]
theorem bv_xor (x y : BitVec 32) : bits .xor .u32 (x.toNat : Int) (y.toNat : Int) = ((x ^^^ y).toNat : Int) := by
  rw [u32_xor_nat _ _ (bv_lt x) (bv_lt y), BitVec.toNat_xor]
theorem bv_not (x : BitVec 32) : bits .xor .u32 4294967295 (x.toNat : Int) = ((~~~x).toNat : Int) := by
  have : ((4294967295#32).toNat : Int) = 4294967295 := rfl
  rw [← this, bv_xor]
  congr 2
theorem bv_add (x y : BitVec 32) : IntKind.u32.wrap ((x.toNat : Int) + (y.toNat : Int)) = ((x + y).toNat : Int) := by
  rw [IntKind.wrap_u32, BitVec.toNat_add]
  omega
theorem bv_shl (x : BitVec 32) (n : Nat) (h : n < 32) : IntKind.u32.wrap ((x.toNat : Int) * 2 ^ n) = ((x <<< n).toNat : Int) := by
  rw [IntKind.wrap_u32, BitVec.toNat_shiftLeft, Nat.shiftLeft_eq, show ((x.toNat : Int) * 2 ^ n) = ((x.toNat * 2 ^ n : Nat) : Int) by rw [Int.natCast_mul, Int.natCast_pow]; rfl]
  generalize x.toNat * 2 ^ n = m
  omega
theorem bv_shr (x : BitVec 32) (n : Nat) : (x.toNat : Int) / 2 ^ n = ((x >>> n).toNat : Int) := by
  rw [BitVec.toNat_ushiftRight, Nat.shiftRight_eq_div_pow, Int.natCast_ediv, Int.natCast_pow]
  rfl
theorem bm_add (x y : BitVec 32) : ((x.toNat : Int) + (y.toNat : Int)) % 4294967296 = ((x + y).toNat : Int) := by
  rw [BitVec.toNat_add]
  omega
theorem bm_shl (x : BitVec 32) (n : Nat) (h : n < 32) : (x.toNat : Int) * 2 ^ n % 4294967296 = ((x <<< n).toNat : Int) := by
  rw [← bv_shl x n h, IntKind.wrap_u32]
theorem u32max : IntKind.u32.max = 4294967295 := by decide
theorem cells_put {W : World} {b j : Nat} {cs : Array Value} {t : TypeId} (h : W.heap[b]? = some (.cells cs t (0, 0))) (u : Value) : (W.setCell ⟨b, j, none⟩ u).heap[b]? = some (.cells (cs.setIfInBounds j u) t (0, 0)) := by
  simp only [World.setCell, Array.getElem?_modify, h]
  rfl
theorem cells_at {W : World} {b j : Nat} {cs : Array Value} {t : TypeId} {v : Value} (h : W.heap[b]? = some (.cells cs t (0, 0))) (hj : cs[j]? = some v) : W.cell? ⟨b, j, none⟩ = some v ∧ W.frozen? ⟨b, j, none⟩ = false := by
  simp [World.cell?, World.frozen?, h, hj]
theorem below_dn (w : World) (j : Nat) : Below w.heap.size w (w.drewN j) := ⟨rfl, rfl, rfl, Nat.le_refl _, fun _ _ => rfl⟩
theorem drew_add (w : World) (n m : Nat) : (w.drewN n).drewN m = w.drewN (n + m) := by simp [World.drewN, Nat.add_assoc]
end Go.Proofs.YtaiakpigljcjbaaGreatDoor.G

/- left, right, choice, majority, round1. -/
namespace Go.Proofs.YtaiakpigljcjbaaGreatDoor.G
set_option linter.unusedVariables false
open Go.RowKit

theorem left_in (x : BitVec 32) (n : Nat) (h1 : 1 ≤ n) (h2 : n ≤ 31) (w : World) :
    Calls Tryz.prog 87 #[.int .u32 (x.toNat : Int), .int .i64 (n : Int)] w fun e w' => e = .returned (.int .u32 ((rol x n).toNat : Int)) ∧ ∃ j, w' = w.drewN j := by
  go_enter Tryz.func87, Tryz.ntmps87
  go_wp2
  go_quiet (fail)
  go_wp2
  go_ret
  exact ⟨ret_int (by rw [bm_shl x _ (by omega), bv_shr, bv_or]; rfl), _, rfl⟩

theorem rleft_in (x : BitVec 32) (n : Nat) (h1 : 1 ≤ n) (h2 : n ≤ 31) (w : World) :
    Calls Tryz.prog 37 #[.int .u32 (x.toNat : Int), .int .i64 (n : Int)] w fun e w' => e = .returned (.int .u32 ((rol x n).toNat : Int)) ∧ ∃ j, w' = w.drewN j := by
  go_enter Tryz.func37, Tryz.ntmps37
  go_wp2
  go_quiet (fail)
  go_wp2
  go_ret
  exact ⟨ret_int (by rw [bm_shl x _ (by omega), bv_shr, bv_or]; rfl), _, rfl⟩

theorem choice_in (x y z : BitVec 32) (w : World) :
    Calls Tryz.prog 104 #[.int .u32 (x.toNat : Int), .int .u32 (y.toNat : Int), .int .u32 (z.toNat : Int)] w fun e w' => e = .returned (.int .u32 ((cho x y z).toNat : Int)) ∧ w' = w := by
  go_enter Tryz.func104, Tryz.ntmps104
  go_wp2
  go_ret
  exact ⟨ret_int (by rw [u32max, bv_not, bv_and, bv_and, bv_or]; rfl), rfl⟩
theorem majority_in (x y z : BitVec 32) (w : World) :
    Calls Tryz.prog 105 #[.int .u32 (x.toNat : Int), .int .u32 (y.toNat : Int), .int .u32 (z.toNat : Int)] w fun e w' => e = .returned (.int .u32 ((maj x y z).toNat : Int)) ∧ w' = w := by
  go_enter Tryz.func105, Tryz.ntmps105
  go_wp2
  go_ret
  exact ⟨ret_int (by rw [bv_and, bv_and, bv_and, bv_or, bv_or]; rfl), rfl⟩

/-- what SHA-1 adds in a round. -/
def f1 (i : Nat) (b c d : BitVec 32) : BitVec 32 := if i < 20 then cho b c d else if i < 40 then b ^^^ c ^^^ d else if i < 60 then maj b c d else b ^^^ c ^^^ d
def k1 (i : Nat) : BitVec 32 := if i < 20 then 0x5a827999#32 else if i < 40 then 0x6ed9eba1#32 else if i < 60 then 0x8f1bbcdc#32 else 0xca62c1d6#32
set_option maxRecDepth 100000 in
theorem round1_in (i : Nat) (hi : i < 80) (b c d : BitVec 32) (w : World) :
    Calls Tryz.prog 86 #[.int .i64 (i : Int), .int .u32 (b.toNat : Int), .int .u32 (c.toNat : Int), .int .u32 (d.toNat : Int)] w fun e w' => e = .returned (.tuple #[.int .u32 ((f1 i b c d).toNat : Int), .int .u32 ((k1 i).toNat : Int)]) ∧ w' = w := by
  unfold f1 k1
  by_cases h1 : i < 20
  · have hd : (i : Int) / 20 = 0 := by omega
    have hd' : (i : Int).tdiv 20 = 0 := by rw [Int.tdiv_eq_ediv_of_nonneg (by omega)]; exact hd
    rw [if_pos h1, if_pos h1]
    go_enter Tryz.func86, Tryz.ntmps86
    go_wp2_with fail
    refine (choice_in _ _ _ _).mono ?_
    rintro e w1 ⟨rfl, rfl⟩
    go_wp2
    go_ret2
    exact ⟨rfl, rfl⟩
  · by_cases h2 : i < 40
    · have hd : (i : Int) / 20 = 1 := by omega
      have hd' : (i : Int).tdiv 20 = 1 := by rw [Int.tdiv_eq_ediv_of_nonneg (by omega)]; exact hd
      rw [if_neg h1, if_neg h1, if_pos h2, if_pos h2]
      go_enter Tryz.func86, Tryz.ntmps86
      go_wp2
      go_ret2
      exact ⟨by rw [bv_xor, bv_xor]; rfl, rfl⟩
    · by_cases h3 : i < 60
      · have hd : (i : Int) / 20 = 2 := by omega
        have hd' : (i : Int).tdiv 20 = 2 := by rw [Int.tdiv_eq_ediv_of_nonneg (by omega)]; exact hd
        rw [if_neg h1, if_neg h1, if_neg h2, if_neg h2, if_pos h3, if_pos h3]
        go_enter Tryz.func86, Tryz.ntmps86
        go_wp2_with fail
        refine (majority_in _ _ _ _).mono ?_
        rintro e w1 ⟨rfl, rfl⟩
        go_wp2
        go_ret2
        exact ⟨rfl, rfl⟩
      · have hd : (i : Int) / 20 = 3 := by omega
        have hd' : (i : Int).tdiv 20 = 3 := by rw [Int.tdiv_eq_ediv_of_nonneg (by omega)]; exact hd
        rw [if_neg h1, if_neg h1, if_neg h2, if_neg h2, if_neg h3, if_neg h3]
        go_enter Tryz.func86, Tryz.ntmps86
        go_wp2
        go_ret2
        exact ⟨by rw [bv_xor, bv_xor]; rfl, rfl⟩

/-- how many blocks a text makes. -/
def nb (n : Nat) : Nat := (n + 8) / 64 + 1
theorem blocks_in (n : Nat) (hn : n ≤ 140737488355328) (w : World) :
    Calls Tryz.prog 60 #[.int .i64 (n : Int)] w fun e w' => e = .returned (.int .i64 ((nb n : Nat) : Int)) ∧ w' = w := by
  have hd : ((n : Int) + 8).tdiv 64 = ((n : Int) + 8) / 64 := Int.tdiv_eq_ediv_of_nonneg (by omega)
  go_enter Tryz.func60, Tryz.ntmps60
  go_wp2
  go_ret
  exact ⟨ret_int (by unfold nb; first | omega | (simp; omega)), rfl⟩
end Go.Proofs.YtaiakpigljcjbaaGreatDoor.G

/- A block's words. -/
namespace Go.Proofs.YtaiakpigljcjbaaGreatDoor.G
set_option linter.unusedVariables false
open Go.RowKit

/-- the cells of bytes, of words. -/
def bc (l : List UInt8) : Array Value := (l.map fun c => Value.int .u8 (c.toNat : Int)).toArray
def wc (l : List (BitVec 32)) : Array Value := (l.map fun x => Value.int .u32 (x.toNat : Int)).toArray
theorem bc_size (l : List UInt8) : (bc l).size = l.length := by simp [bc]
theorem wc_size (l : List (BitVec 32)) : (wc l).size = l.length := by simp [wc]
theorem bc_at (l : List UInt8) (k : Nat) : (bc l)[k]? = l[k]?.map fun c => Value.int .u8 (c.toNat : Int) := by simp [bc]
theorem wc_at (l : List (BitVec 32)) (k : Nat) : (wc l)[k]? = l[k]?.map fun x => Value.int .u32 (x.toNat : Int) := by simp [wc]

/-- four bytes as a word, the greatest first. -/
def w4 (a b c d : UInt8) : BitVec 32 := BitVec.ofNat 32 (a.toNat * 16777216 + b.toNat * 65536 + c.toNat * 256 + d.toNat)
def wd (l : List UInt8) (i : Nat) : BitVec 32 := w4 (l[4 * i]?.getD 0) (l[4 * i + 1]?.getD 0) (l[4 * i + 2]?.getD 0) (l[4 * i + 3]?.getD 0)

theorem or_sum (i a b : Nat) (h : b < 2 ^ i) : 2 ^ i * a ||| b = 2 ^ i * a + b := (Nat.two_pow_add_eq_or_of_lt h a).symm
theorem or4 (a b c d : Nat) (ha : a < 256) (hb : b < 256) (hc : c < 256) (hd : d < 256) :
    bits .or .u32 (bits .or .u32 (bits .or .u32 ((a : Int) * 16777216) ((b : Int) * 65536)) ((c : Int) * 256)) (d : Int) = ((a * 16777216 + b * 65536 + c * 256 + d : Nat) : Int) := by
  have e1 : a * 16777216 ||| b * 65536 = a * 16777216 + b * 65536 := by
    have := or_sum 24 a (b * 65536) (by omega); simp only [Nat.reducePow] at this; rw [Nat.mul_comm a]; exact this
  have e2 : (a * 16777216 + b * 65536) ||| c * 256 = a * 16777216 + b * 65536 + c * 256 := by
    have := or_sum 16 (a * 256 + b) (c * 256) (by omega); simp only [Nat.reducePow] at this
    rwa [show 65536 * (a * 256 + b) = a * 16777216 + b * 65536 by omega] at this
  have e3 : (a * 16777216 + b * 65536 + c * 256) ||| d = a * 16777216 + b * 65536 + c * 256 + d := by
    have := or_sum 8 (a * 65536 + b * 256 + c) d (by omega); simp only [Nat.reducePow] at this
    rwa [show 256 * (a * 65536 + b * 256 + c) = a * 16777216 + b * 65536 + c * 256 by omega] at this
  rw [show ((a : Int) * 16777216) = ((a * 16777216 : Nat) : Int) by omega, show ((b : Int) * 65536) = ((b * 65536 : Nat) : Int) by omega, show ((c : Int) * 256) = ((c * 256 : Nat) : Int) by omega]
  rw [u32_or_nat _ _ (by omega) (by omega), e1, u32_or_nat _ _ (by omega) (by omega), e2, u32_or_nat _ _ (by omega) (by omega), e3]
theorem w4_nat (a b c d : UInt8) : (w4 a b c d).toNat = a.toNat * 16777216 + b.toNat * 65536 + c.toNat * 256 + d.toNat := by
  have := a.toNat_lt
  have := b.toNat_lt
  have := c.toNat_lt
  have := d.toNat_lt
  unfold w4
  rw [BitVec.toNat_ofNat]
  omega

theorem word_in (W : World) (b : Nat) (l : List UInt8) (hl : l.length = 64) (h : W.heap[b]? = some (.cells (bc l) 83 (0, 0))) (i : Nat) (hi : i < 16) :
    Calls Tryz.prog 103 #[.pointer (some ⟨b, 0, none⟩), .int .i64 (i : Int)] W fun e w' => e = .returned (.int .u32 ((wd l i).toNat : Int)) ∧ ∃ j, w' = W.drewN j := by
  have get : ∀ k, k < 64 → W.cell? ⟨b, k, none⟩ = some (.int .u8 ((l[k]?.getD 0).toNat : Int)) := fun k hk =>
    (cells_at h (by rw [bc_at, List.getElem?_eq_getElem (by omega)]; rfl)).1
  have c0 := get (4 * i) (by omega)
  have c1 := get (4 * i + 1) (by omega)
  have c2 := get (4 * i + 2) (by omega)
  have c3 := get (4 * i + 3) (by omega)
  unfold wd
  generalize l[4 * i]?.getD 0 = x0 at c0 ⊢
  generalize l[4 * i + 1]?.getD 0 = x1 at c1 ⊢
  generalize l[4 * i + 2]?.getD 0 = x2 at c2 ⊢
  generalize l[4 * i + 3]?.getD 0 = x3 at c3 ⊢
  clear get h hl
  have p0 := x0.toNat_lt
  have p1 := x1.toNat_lt
  have p2 := x2.toNat_lt
  have p3 := x3.toNat_lt
  go_enter Tryz.func103, Tryz.ntmps103
  go_wp2
  go_quiet (fail)
  go_wp2
  go_ret
  exact ⟨ret_int (by rw [w4_nat]; exact or4 _ _ _ _ p0 p1 p2 p3), _, rfl⟩

theorem index_const (s : ByteArray) (k : Nat) (h : k < s.size) (W : World) : (Instr.index 9 (.string s) (.int .i64 (k : Int))).run Tryz.prog W = .ok (.int .u8 (s[k].toNat : Int)) W := by
  rw [run_index_string _ _ _ _ _ Tryz.underlying9]
  simp [h]
theorem index_get (s : ByteArray) (k : Nat) (x : UInt8) (h : k < s.size) (hx : s.data.toList[k]?.getD 0 = x) (W : World) : (Instr.index 9 (.string s) (.int .i64 (k : Int))).run Tryz.prog W = .ok (.int .u8 (x.toNat : Int)) W := by
  rw [index_const s k h, ← hx, List.getElem?_eq_getElem (by rw [size_list]; exact h)]
  rfl
theorem rword_in (s : ByteArray) (a : Nat) (h : a + 3 < s.size) (hs : s.size ≤ 281474976710656) (W : World) :
    Calls Tryz.prog 36 #[.string s, .int .i64 (a : Int)] W fun e w' => e = .returned (.int .u32 ((w4 (s.data.toList[a]?.getD 0) (s.data.toList[a + 1]?.getD 0) (s.data.toList[a + 2]?.getD 0) (s.data.toList[a + 3]?.getD 0)).toNat : Int)) ∧ ∃ j, w' = W.drewN j := by
  obtain ⟨x0, h0⟩ : ∃ x, s.data.toList[a]?.getD 0 = x := ⟨_, rfl⟩
  obtain ⟨x1, h1⟩ : ∃ x, s.data.toList[a + 1]?.getD 0 = x := ⟨_, rfl⟩
  obtain ⟨x2, h2⟩ : ∃ x, s.data.toList[a + 2]?.getD 0 = x := ⟨_, rfl⟩
  obtain ⟨x3, h3⟩ : ∃ x, s.data.toList[a + 3]?.getD 0 = x := ⟨_, rfl⟩
  have j0 : ∀ W : World, (Instr.index 9 (.string s) (.int .i64 (a : Int))).run Tryz.prog W = .ok (.int .u8 (x0.toNat : Int)) W := index_get s a x0 (by omega) h0
  have j1 : ∀ W : World, (Instr.index 9 (.string s) (.int .i64 ((a : Int) + 1))).run Tryz.prog W = .ok (.int .u8 (x1.toNat : Int)) W := fun W => by have := index_get s (a + 1) x1 (by omega) h1 W; rwa [Int.natCast_add] at this
  have j2 : ∀ W : World, (Instr.index 9 (.string s) (.int .i64 ((a : Int) + 2))).run Tryz.prog W = .ok (.int .u8 (x2.toNat : Int)) W := fun W => by have := index_get s (a + 2) x2 (by omega) h2 W; rwa [Int.natCast_add] at this
  have j3 : ∀ W : World, (Instr.index 9 (.string s) (.int .i64 ((a : Int) + 3))).run Tryz.prog W = .ok (.int .u8 (x3.toNat : Int)) W := fun W => by have := index_get s (a + 3) x3 (by omega) h3 W; rwa [Int.natCast_add] at this
  rw [h0, h1, h2, h3]
  clear h0 h1 h2 h3
  have p0 := x0.toNat_lt
  have p1 := x1.toNat_lt
  have p2 := x2.toNat_lt
  have p3 := x3.toNat_lt
  go_enter Tryz.func36, Tryz.ntmps36
  go_wp2
  go_quiet (fail)
  go_wp2
  go_ret
  refine ⟨ret_int ?_, _, rfl⟩
  rw [w4_nat]
  omega
end Go.Proofs.YtaiakpigljcjbaaGreatDoor.G
