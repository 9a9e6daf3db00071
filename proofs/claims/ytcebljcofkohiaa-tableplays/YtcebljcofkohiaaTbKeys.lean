/- Layer 11: Keys. -/
import Derived.Test.YtcebljcofkohiaaTbApp
namespace Go.Proofs.Ytcebljcofkohiaa
set_option linter.unusedVariables false
open Go.RowKit Go.Shelf
open Go.MapKept Go.WideMaps
attribute [local go_sem] Oper.semAt_some

theorem infoS : (Try.prog.info? 9).map (fun i => (i.zero, i.size, i.bytes)) = some (some (.string ⟨#[]⟩), 1, 16) := by kernel_rfl
def kApp (a : Array Value) : Sem Value := Builtin.append_ #[42, 42] 42 a
theorem app_k (a : Array Value) : Builtin.append_ #[42, 42] 42 a = kApp a := rfl
attribute [local go_sem ↓] app_k
abbrev strC (l : List ByteArray) : List Value := l.map Value.string

theorem all1_stops (F : Fence) (n : Nat) (h6 : F.fn 38) (hro : F.round = none) (hn : 1 ≤ n) {w : World} {T E M : Nat} {most : Int} {nn : Nat} {L : List Ent} (h : Tab w T E M most nn L) (Bn : Nat) (hBn : w.heap[Bn]? = some (.cells #[.pointer (some ⟨T, 1, none⟩)] 76 (0, 0))) (S : Nat → Prop) (hS : ∀ b, b = Bn ∨ b = T ∨ b ∈ E :: bs L → S b) :
    SeqStopsK F n Try.prog 38 #[pt Bn] (fun x : Fin L.length => #[pt (atR E L x.1)]) (KeepB S) (fun ys => ys = List.finRange L.length) (fun pre => pre <+: List.finRange L.length) L.length w :=
  fun l J Jx W hW _ _ hY h0 => all1_in F n h6 hro hn l Bn T E M most L S hS J Jx hY W ((hW.block _ (blk_lt hBn)).trans hBn) ((hW.block _ (blk_lt h.tb)).trans h.tb) (h.row.same fun b hb => hW.block b (h.row.plc b hb).lt) h0

set_option maxRecDepth 100000 in
set_option maxHeartbeats 1000000 in
theorem keys_in {w : World} {T E M : Nat} {most : Int} {nn : Nat} {L : List Ent} (h : Tab w T E M most nn L) :
    Calls Try.prog 19 #[pt T] w fun e w' => (∃ v, e = .returned v ∧ w'.ownsRow w.heap.size 9 1 v L.length (strC (ks L))) ∧ Below w.heap.size w w' := by
  obtain ⟨i0, hi, hz0, hz1, hz2⟩ := info_parts infoS
  have c2 := h.c2
  have hlen := h.len
  refine (callsIn_wide (n := 5)).1 ?_
  refine callsIn_of_wp_marks Try.func19 rfl trivial ?_ rfl
  simp only [Try.ntmps19, List.size_toArray, List.length_cons, List.length_nil, Nat.reduceAdd, Nat.reduceSub, Array.replicate_succ, Array.replicate_zero, List.push_toArray, List.append_toArray, List.nil_append, List.cons_append]
  gi_wp2_with (first
    | (gi_at_make; refine wpListIn_make_own _ rfl _ _ 42 rfl w.heap.size 9 i0 (.string ⟨#[]⟩) 1 Try.underlying42 hi hz0 hz1 .i64 .i64 _ L.length rfl rfl rfl (by rw [hz2]; omega) (by unfold maxLen; omega) (Nat.le_refl _) ?_; intro w1 hrow1 hg1)
    | (refine ⟨trivial, ?_⟩; gi_at_call 31; refine (callsIn_wide.2 (all_in _ _)).mono ?_; rintro e w' ⟨rfl, rfl⟩))
  have hB1 : Below w.heap.size w w1 := (Below.refl _ _).grown hg1 (Nat.le_refl _) (fun k e => by cases e)
  have hsz1 : w.heap.size < w1.heap.size := by
    rcases hrow1.2 with ⟨hx, _⟩ | ⟨g, cap, cur, hv, hge, hgc, _⟩
    · cases hx
    · cases hv; exact blk_lt hgc
  obtain ⟨w2, hw2⟩ : ∃ w2, ((w1.alloc (Obj.cells #[Value.slice (some ⟨w.heap.size, 0, none⟩) 0 L.length] 42)).alloc (Obj.cells #[Value.pointer (some ⟨T, 1, none⟩)] 76)) = w2 := ⟨_, rfl⟩
  have hb2 : Below w1.heap.size w1 w2 := by rw [← hw2]; exact ((Below.refl _ _).alloc (Nat.le_refl _) _).alloc (by simp) _
  have hs2 : w2.heap.size = w1.heap.size + 2 := by rw [← hw2]; simp
  have hv2 : w2.heap[w1.heap.size]? = some (.cells #[.slice (some ⟨w.heap.size, 0, none⟩) 0 L.length] 42 (0, 0)) := by
    rw [← hw2, Below.heap_alloc _ _ _ (by simp)]
    exact heap_alloc_last _ _
  have hn2 : w2.heap[w1.heap.size + 1]? = some (.cells #[.pointer (some ⟨T, 1, none⟩)] 76 (0, 0)) := by
    rw [← hw2]
    have := heap_alloc_last (w1.alloc (Obj.cells #[Value.slice (some ⟨w.heap.size, 0, none⟩) 0 L.length] 42)) (Obj.cells #[Value.pointer (some ⟨T, 1, none⟩)] 76)
    simpa using this
  have h1 := h.blk hB1
  have h2 : Tab w2 T E M most nn L := h1.blk hb2
  have hrow2 : w2.ownsRow w.heap.size 9 1 (.slice (some ⟨w.heap.size, 0, none⟩) 0 L.length) 0 [] := by rw [← hw2]; exact (hrow1.alloc _).alloc _
  rw [hw2]
  have HT2 := Hid.mk h2
  have hBB : Below w.heap.size w w2 := hB1.trans (hb2.mono (by omega))
  refine wpIn_rangeFunc_ownF rfl (by omega) (gf := 38) (lb := #[pt (w1.heap.size + 1)]) rfl trivial (enters_of Try.func38 (by kernel_rfl) rfl)
    (all1_stops Fence.wide (5 - 1) trivial rfl (by omega) h2 (w1.heap.size + 1) hn2 (fun b => b < w.heap.size ∨ b = w1.heap.size + 1) (fun b hb => by
      rcases hb with hb | hb | hb
      · exact .inr hb
      · exact .inl (by rw [hb]; exact blk_lt h.tb)
      · exact .inl (h.row.plc b hb).lt)) KeepB.t KeepB.b (Below.refl _ _) (fun _ => rfl)
    (fun (pre : List (Fin L.length)) W => (∃ v, Boxed W w1.heap.size 42 v ∧ W.ownsRow w.heap.size 9 1 v pre.length (strC (pre.map fun i => (L[i.1]'i.2).k)) ∧ True) ∧ (w1.heap.size + 2 ≤ W.heap.size ∧ Below w.heap.size w W) ∧ W.heap[w1.heap.size + 1]? = some (.cells #[.pointer (some ⟨T, 1, none⟩)] 76 (0, 0)))
    (fun c pre W => False)
    ?hI ?hIx ?h0 (fun x => { tmps := #[pt T, undef, .slice none 0 0, .pointer (some ⟨w1.heap.size, 0, none⟩), pt (atR E L x.1), pt T, .pointer (some ⟨T, 0, none⟩), .pointer (some ⟨T, 1, none⟩), .pointer (some ⟨T, 2, none⟩), .int .i64 (L.length : Int), .slice (some ⟨w.heap.size, 0, none⟩) 0 L.length, pt T, .pointer (some ⟨T, 0, none⟩), .pointer (some ⟨T, 1, none⟩), .func (.func 38) #[] #[pt (w1.heap.size + 1)], pt (atR E L x.1), undef, undef, undef, undef, undef, undef, undef, undef], defers := [] }) ?assign ?body ?done ?stop
  case hI =>
    refine OwnFrom.and (Own.from (holdsRow_own w.heap.size w1.heap.size 42 9 1 (fun pre : List (Fin L.length) => pre.length) (fun pre => strC (pre.map fun i => (L[i.1]'i.2).k)) (fun _ _ => True)) _) (OwnFrom.and (OwnFrom.and ?_ (ownFrom_below (Nat.le_refl _) (by omega))) ?_)
    · intro s A B row hs hg hr
      exact Nat.le_trans hs hg.size
    · intro s A B row hs hg hr
      exact (hg.block _ (blk_lt hs) (fun e => by
        obtain ⟨_, o, ho, ho2⟩ := hr _ e.symm
        rw [hs] at ho
        cases ho
        cases ho2)).trans hs
  case hIx => exact fun c => ownFrom_pure _ _
  case h0 => exact ⟨⟨_, hv2, hrow2, trivial⟩, ⟨by omega, hBB⟩, hn2⟩
  case assign =>
    intro l x W K hK
    gi_wp2
    exact hK
  case body =>
    rintro l pre x W ⟨⟨v, hv, hrow, -⟩, ⟨hs, hb⟩, hBn⟩ hpl
    have hmo : Try.prog.follows Departure.mixedOrders = true := by kernel_rfl
    have ck : W.cell? ⟨atR E L x.1, 0, none⟩ = some (.string (L[x.1]'x.2).k) := by
      have e1 := h.row.key (L[x.1]'x.2) (List.getElem_mem _)
      rw [← atR_get E L x.1 x.2] at e1
      exact (hb.cell (p := ⟨atR E L x.1, 0, none⟩) (h.row.plc _ (atR_mem E L x.1)).lt).trans e1
    obtain ⟨q0, cap0, rfl⟩ := row_shape hrow
    have cv := hv.cell
    have fv := hv.frozen
    obtain ⟨g, cap, w3, hap, A⟩ := app1 (x := .string (L[x.1]'x.2).k) hv (by decide) hrow (by omega) Try.underlying42 infoS rfl rfl (by omega) (by decide)
    rw [app_k] at hap
    have cv3 := A.box.cell
    have fv3 := A.box.frozen
    have HA := Hid.mk A
    have HR := Hid.mk hrow
    clear A hrow
    gi_wp2
    have hl1 : w1.heap.size < W.heap.size := by omega
    have hl2 : ¬ w1.heap.size = W.heap.size := by omega
    have hl3 : ¬ W.heap.size = w1.heap.size := by omega
    have ha1 : atR E L x.1 < W.heap.size := Nat.lt_of_lt_of_le (h.row.plc _ (atR_mem E L x.1)).lt hb.size
    have ha2 : ¬ atR E L x.1 = W.heap.size := by omega
    clear hs2 hw2
    gi_region_with_o (fail)
    all_goals
      have A := HA.out
      refine ⟨A.others, ?_, ⟨_, A.box', ?_, trivial⟩, ?_, ?_⟩
      · intro b c t f hS hbc
        rcases hS with hS | rfl
        · exact ((A.below HR.out (Nat.le_refl _) (by omega) (by omega)).block b hS).trans hbc
        · exact (A.same _ (blk_lt hBn) (by omega) (row_far HR.out hBn (by decide))).trans hbc
      · have := A.row
        rw [List.length_append, List.map_append, strC, List.map_append]
        exact this
      · exact ⟨Nat.le_trans hs A.size, hb.trans (A.below HR.out (Nat.le_refl _) (by omega) (by omega))⟩
      · exact (A.same _ (blk_lt hBn) (by omega) (row_far HR.out hBn (by decide))).trans hBn
  case done =>
    rintro D ys W hD rfl ⟨⟨v, hv, hrow, -⟩, ⟨hs, hb⟩, hBn⟩ hK
    have hc := hv.cell
    have hks : strC ((List.finRange L.length).map fun i => (L[i.1]'i.2).k) = strC (ks L) := by
      congr 1
      apply List.ext_getElem
      · simp [ks]
      · intro i h1 h2
        simp [ks]
    have hwD : w.heap.size ≤ D := by omega
    clear hs2 hw2
    gi_wp2
    refine ⟨by simp, .inl ⟨_, _, rfl, run_takeDeferred hK, ?_⟩⟩
    refine ⟨_, results_tmp rfl _ _ _, ⟨v, rfl, ?_⟩, hb.trans (belowK_b (w := w) (Nat.le_refl _) W D _ _ hwD hK rfl rfl)⟩
    rw [hks, List.length_finRange] at hrow
    exact ownsRow_putObj hrow _ hK rfl
  case stop =>
    rintro D c pre W _ _ h _
    exact h.elim
end Go.Proofs.Ytcebljcofkohiaa
