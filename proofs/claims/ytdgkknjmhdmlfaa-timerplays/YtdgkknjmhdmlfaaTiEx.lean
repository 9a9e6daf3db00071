/- Layer 12: the chapter's examples. -/
import Derived.Test.YtdgkknjmhdmlfaaTiDraw
import Derived.Test.YtdgkknjmhdmlfaaTiRtt
namespace Go.Proofs.Ytdgkknjmhdmlfaa
set_option linter.unusedVariables false
open Go.RowKit
open Go.MapKept Go.WideMaps

/-- what is in order is in one order. -/
theorem ord_eq {a b : List En} (ha : a.Pairwise lt) (hb : b.Pairwise lt) (hp : a.Perm b) : a = b :=
  List.Perm.eq_of_pairwise (le := lt) (fun x y _ _ h1 h2 => absurd h2 (lt_asymm h1)) ha hb hp
theorem perm_wo {xs ys : List En} (h : xs.Perm ys) (id : Int) : (wo xs id).Perm (wo ys id) := h.filter _
/-- the draws' row, behind calls on a timer. -/
def DrR (N : Nat) (w : World) (B : Nat) (us : List Int) : Prop := ∃ v, w.heap[B]? = some (.cells #[v] 81 (0, 0)) ∧ w.ownsRow N 59 1 v us.length (uc us)
theorem DrR.fr {N N' : Nat} {w w' : World} {B : Nat} {us : List Int} (h : DrR N w B us) (f : Fr N' w w') : DrR N w' B us := by
  obtain ⟨v, h1, h2⟩ := h
  exact ⟨v, f.typ _ _ _ _ h1 (by decide) (by decide), f.row h2 (by decide) (by decide)⟩
theorem DrR.below {N : Nat} {w w' : World} {B : Nat} {us : List Int} (h : DrR N w B us) (f : Below w.heap.size w w') : DrR N w' B us := by
  obtain ⟨v, h1, h2⟩ := h
  exact ⟨v, (f.block _ (blk_lt h1)).trans h1, row_below h2 f⟩
theorem DrR.dr {N : Nat} {w : World} {B : Nat} {us : List Int} (h : DrR N w B us) (hr : ∀ u ∈ us, 0 ≤ u ∧ u < 18446744073709551616) : DrT 81 w B [B] us := by
  obtain ⟨v, h1, h2⟩ := h
  refine ⟨v, h1, Nums.of_row h2 hr, fun b hb _ => ?_, by simp⟩
  obtain rfl : b = B := by simpa using hb
  intro a n c e
  subst e
  exact fun e' => row_far h2 (b := b) (fun c f hh => by rw [h1] at hh; cases hh) (by simp [Value.ownBlock, e'])

theorem ex_three {ys : List En} (hp : ys.Perm [(1, 20), (2, 30)]) (hh : Hp ys ys.length) : nx ys = (1, 20, true) := by
  have hl := hp.length_eq
  match ys, hl with
  | [x, y], _ =>
    have h1 := hh 1 (by decide) (by simp)
    have hm : x ∈ [((1 : Int), (20 : Int)), (2, 30)] := hp.mem_iff.1 (by simp)
    simp at hm
    rcases hm with rfl | rfl
    · rfl
    · exfalso
      have hy := (hp.symm.mem_iff (a := ((1 : Int), (20 : Int)))).1 (by simp)
      simp at hy
      subst hy
      exact h1 (by unfold lt; decide)
theorem ex_due {ys ds rest : List En} (hp : ys.Perm [(1, 20), (2, 30)]) (hI : DueI ys ds rest 40) (hr : ∀ e ∈ rest, (40 : Int) < e.2) : ds = [(1, 20), (2, 30)] ∧ rest = [] := by
  have hP := hI.perm.trans hp
  have h0 : rest = [] := by
    cases rest with
    | nil => rfl
    | cons e r =>
      exfalso
      have h1 := hr e (by simp)
      have h2 : e ∈ [((1 : Int), (20 : Int)), (2, 30)] := hP.mem_iff.1 (by simp)
      simp at h2
      rcases h2 with rfl | rfl <;> simp at h1
  subst h0
  rw [List.append_nil] at hP
  refine ⟨ord_eq hI.ord ?_ hP, rfl⟩
  simp [lt]

theorem nums79 (w : World) : Nums (w.alloc (.cells #[.int .u64 7, .int .u64 9] 59)) (.slice (some ⟨w.heap.size, 0, none⟩) 2 2) [7, 9] := by
  have hn := heap_alloc_last w (.cells #[.int .u64 7, .int .u64 9] 59 (0, 0))
  refine ⟨⟨some ⟨w.heap.size, 0, none⟩, 2, rfl, by decide, by decide, (fun e => by cases e), fun j hj => ⟨w.heap.size, 0, rfl, by simp, ?_⟩⟩, by decide⟩
  have : j = 0 ∨ j = 1 := by simp at hj; omega
  rcases this with rfl | rfl
  · exact cell_of_heap hn rfl
  · exact cell_of_heap hn rfl

theorem ex_smp1 (w : World) : Calls Try.prog 20 #[rt 0 0 0, .int .i64 100] w fun e w' => e = .returned (rt 100 50 0) ∧ Below w.heap.size w w' := by
  have h := sample_in w 0 0 0 100
  have e1 : smpA (wn 0 1000000) (wn 0 1000000) (wn 100 1000000) = 100 := by decide
  have e2 : smpB (wn 0 1000000) (wn 0 1000000) (wn 100 1000000) = 50 := by decide
  rwa [e1, e2] at h
theorem ex_smp2 (w : World) : Calls Try.prog 20 #[rt 100 50 0, .int .i64 180] w fun e w' => e = .returned (rt 110 57 0) ∧ Below w.heap.size w w' := by
  have h := sample_in w 100 50 0 180
  have e1 : smpA (wn 100 1000000) (wn 50 1000000) (wn 180 1000000) = 110 := by decide
  have e2 : smpB (wn 100 1000000) (wn 50 1000000) (wn 180 1000000) = 57 := by decide
  rwa [e1, e2] at h
theorem ex_tm1 (w : World) : Calls Try.prog 24 #[rt 0 0 0] w fun e w' => e = .returned (.int .i64 376) ∧ Below w.heap.size w w' := by
  have h := timeout_in w 0 0 0
  rwa [show tmo (wn 0 1000000) (wn 0 1000000) (wn 0 10) = 376 by decide] at h
theorem ex_tm2 (w : World) : Calls Try.prog 24 #[rt 100 50 0] w fun e w' => e = .returned (.int .i64 300) ∧ Below w.heap.size w w' := by
  have h := timeout_in w 100 50 0
  rwa [show tmo (wn 100 1000000) (wn 50 1000000) (wn 0 10) = 300 by decide] at h
theorem ex_tm3 (w : World) : Calls Try.prog 24 #[rt 110 57 1] w fun e w' => e = .returned (.int .i64 676) ∧ Below w.heap.size w w' := by
  have h := timeout_in w 110 57 1
  rwa [show tmo (wn 110 1000000) (wn 57 1000000) (wn 1 10) = 676 by decide] at h
theorem ex_mis (w : World) : Calls Try.prog 22 #[rt 110 57 0] w fun e w' => e = .returned (rt 110 57 1) ∧ Below w.heap.size w w' := by
  have h := miss_in w 110 57 0
  rwa [show wn 110 1000000 = 110 by decide, show wn 57 1000000 = 57 by decide, show misC (wn 0 10) = 1 by decide] at h
theorem ex_nd (ys : List En) (h : ys.Perm [((1 : Int), (50 : Int))]) : ys = [(1, 50)] := List.perm_singleton.1 h

set_option maxRecDepth 100000 in
set_option maxHeartbeats 8000000 in
theorem examples_in (W : World) :
    Calls Try.prog 9 #[] W fun e w' => e = .returned (.bool true) ∧ Below W.heap.size W w' := by
  go_enter Try.func9, Try.ntmps9
  go_wp2_with fail
  refine (new_in W W.heap.size (Nat.le_refl _)).mono ?_
  rintro e w1 ⟨rfl, t1, b1⟩
  obtain ⟨T, hT⟩ : ∃ T, W.heap.size + 1 = T := ⟨_, rfl⟩
  rw [hT] at t1 ⊢
  clear hT
  have hb1 : Below w1.heap.size w1 (w1.alloc (.cells #[.int .u64 7, .int .u64 9] 59)) := (Below.refl _ _).alloc (Nat.le_refl _) _
  have HB1 := Hid.mk (And.intro t1 (And.intro b1 hb1))
  clear t1 b1 hb1
  go_wp2_with fail
  refine (newdraws_in (nums79 w1) (by decide)).mono ?_
  rintro e w2 ⟨v2, B, rfl, hB0, hB, hr2, b2⟩
  have t2 : Tk W.heap.size w2 T [] := (HB1.out.1.blk HB1.out.2.2).blk b2
  have B2 : Below W.heap.size W w2 := (HB1.out.2.1.trans (HB1.out.2.2.mono HB1.out.2.1.size)).trans (b2.mono (by have := HB1.out.2.1.size; simp; omega))
  have d2 : DrR (w1.alloc (.cells #[.int .u64 7, .int .u64 9] 59)).heap.size w2 B [7, 9] := ⟨v2, hB, hr2⟩
  have HWB : Hid (W.heap.size ≤ B) := by have := HB1.out.2.1.size; unfold Hid; simp at hB0; omega
  have H2 := Hid.mk (And.intro t2 (And.intro B2 d2))
  clear t2 B2 d2 HB1 b2 hr2 hB hB0
  obtain ⟨L, hL⟩ : ∃ L, (w1.alloc (.cells #[.int .u64 7, .int .u64 9] 59)).heap.size = L := ⟨_, rfl⟩
  rw [hL] at H2
  clear hL
  go_wp2_with fail
  refine (set_in H2.out.1 1 50 (by decide) (by unfold W64; decide) (by unfold W64; decide) (by simp)).mono ?_
  rintro e w3 ⟨rfl, ⟨y1, t3, p3⟩, f3⟩
  have H3 : Hid (Tk W.heap.size w3 T y1 ∧ Below W.heap.size W w3 ∧ DrR L w3 B [7, 9] ∧ y1.Perm [(1, 50)]) := ⟨t3, H2.out.2.1.trans f3.bel, H2.out.2.2.fr f3, p3⟩
  clear t3 p3 f3 H2
  go_wp2_with fail
  refine (set_in H3.out.1 2 30 (by decide) (by unfold W64; decide) (by unfold W64; decide) (by rw [H3.out.2.2.2.length_eq]; decide)).mono ?_
  rintro e w4 ⟨rfl, ⟨y2, t4, p4⟩, f4⟩
  have H4 : Hid (Tk W.heap.size w4 T y2 ∧ Below W.heap.size W w4 ∧ DrR L w4 B [7, 9] ∧ y2.Perm [(2, 30), (1, 50)]) := ⟨t4, H3.out.2.1.trans f4.bel, H3.out.2.2.1.fr f4, p4.trans ((perm_wo H3.out.2.2.2 2).cons _)⟩
  clear t4 p4 f4 H3
  go_wp2_with fail
  refine (set_in H4.out.1 1 20 (by decide) (by unfold W64; decide) (by unfold W64; decide) (by rw [H4.out.2.2.2.length_eq]; decide)).mono ?_
  rintro e w5 ⟨rfl, ⟨y3, t5, p5⟩, f5⟩
  have H5 : Hid (Tk W.heap.size w5 T y3 ∧ Below W.heap.size W w5 ∧ DrR L w5 B [7, 9] ∧ y3.Perm [(1, 20), (2, 30)]) := ⟨t5, H4.out.2.1.trans f5.bel, H4.out.2.2.1.fr f5, p5.trans ((perm_wo H4.out.2.2.2 1).cons _)⟩
  clear t5 p5 f5 H4
  have hnx : nx y3 = (1, 20, true) := by
    obtain ⟨M, v, hm, hh⟩ := H5.out.1
    exact ex_three H5.out.2.2.2 hh
  have HN := Hid.mk (next_in H5.out.1)
  rw [hnx] at HN
  simp only at HN
  clear hnx
  go_wp2_with fail
  refine HN.out.mono ?_
  rintro e w6 ⟨rfl, b6⟩
  have H6 : Hid (Tk W.heap.size w6 T y3 ∧ Below W.heap.size W w6 ∧ DrR L w6 B [7, 9] ∧ y3.Perm [(1, 20), (2, 30)]) := ⟨H5.out.1.blk b6, H5.out.2.1.trans (b6.mono H5.out.1.base), H5.out.2.2.1.below b6, H5.out.2.2.2⟩
  clear b6 H5 HN
  go_wp2_with fail
  refine (due_in H6.out.1 40 (by unfold W64; decide)).mono ?_
  rintro e w7 ⟨v7, ds, rest, rfl, r7, t7, i7, l7, f7⟩
  obtain ⟨rfl, rfl⟩ := ex_due H6.out.2.2.2 i7 l7
  obtain ⟨g, cap, hv7, hg, c0, c1⟩ : ∃ g cap, v7 = .slice (some ⟨g, 0, none⟩) 2 cap ∧ g < w7.heap.size ∧ w7.cell? ⟨g, 0, none⟩ = some (.int .i64 1) ∧ w7.cell? ⟨g, 1, none⟩ = some (.int .i64 2) := by
    rcases r7.2 with ⟨_, h⟩ | ⟨g, cap, cur, hv, hb, hg, _, _, _, ht⟩
    · simp at h
    · refine ⟨g, cap, hv, blk_lt hg, cell_of_heap hg ?_, cell_of_heap hg ?_⟩
      · have := congrArg (fun l => l[0]?) ht
        simpa [ic] using this
      · have := congrArg (fun l => l[1]?) ht
        simpa [ic] using this
  subst hv7
  have H7 : Hid (Tk W.heap.size w7 T [] ∧ Below W.heap.size W w7 ∧ DrR L w7 B [7, 9]) := ⟨t7, H6.out.2.1.trans f7.bel, H6.out.2.2.1.fr f7⟩
  clear r7 t7 i7 l7 f7 H6
  have HC7 := Hid.mk (And.intro hg (And.intro c0 c1))
  clear hg c0 c1
  go_wp2_with fail
  refine (ex_smp1 w7).mono ?_
  rintro e w8 ⟨rfl, b8⟩
  obtain ⟨R, hR⟩ : ∃ R, w8.heap.size = R := ⟨_, rfl⟩
  obtain ⟨V8, hV8⟩ : ∃ V, w8.alloc (.cells #[.int .i64 100, .int .i64 50, .int .i64 0] 46) = V := ⟨_, rfl⟩
  have bV8 : Below w8.heap.size w8 V8 := by rw [← hV8]; exact (Below.refl _ _).alloc (Nat.le_refl _) _
  have b78 : Below w7.heap.size w7 V8 := b8.trans (bV8.mono b8.size)
  have rR : V8.heap[R]? = some (.cells #[.int .i64 100, .int .i64 50, .int .i64 0] 46 (0, 0)) := by rw [← hR, ← hV8]; exact heap_alloc_last _ _
  have H8 : Hid (Tk W.heap.size V8 T [] ∧ Below W.heap.size W V8 ∧ DrR L V8 B [7, 9] ∧ V8.heap[R]? = some (.cells #[.int .i64 100, .int .i64 50, .int .i64 0] 46 (0, 0)) ∧ g < V8.heap.size ∧ V8.cell? ⟨g, 0, none⟩ = some (.int .i64 1) ∧ V8.cell? ⟨g, 1, none⟩ = some (.int .i64 2)) :=
    ⟨H7.out.1.blk b78, H7.out.2.1.trans (b78.mono H7.out.1.base), H7.out.2.2.below b78, rR, Nat.lt_of_lt_of_le HC7.out.1 b78.size, (b78.cell (p := ⟨g, 0, none⟩) HC7.out.1).trans HC7.out.2.1, (b78.cell (p := ⟨g, 1, none⟩) HC7.out.1).trans HC7.out.2.2⟩
  have HVR := Hid.mk (And.intro hR hV8)
  clear b8 bV8 b78 rR H7 HC7 hR hV8
  go_wp2_with fail
  rw [HVR.out.2, HVR.out.1]
  refine (ex_smp2 V8).mono ?_
  rintro e w9 ⟨rfl, b9⟩
  obtain ⟨S, hS⟩ : ∃ S, w9.heap.size = S := ⟨_, rfl⟩
  obtain ⟨V9, hV9⟩ : ∃ V, w9.alloc (.cells #[.int .i64 110, .int .i64 57, .int .i64 0] 46) = V := ⟨_, rfl⟩
  have bV9 : Below w9.heap.size w9 V9 := by rw [← hV9]; exact (Below.refl _ _).alloc (Nat.le_refl _) _
  have b89 : Below V8.heap.size V8 V9 := b9.trans (bV9.mono b9.size)
  have rS : V9.heap[S]? = some (.cells #[.int .i64 110, .int .i64 57, .int .i64 0] 46 (0, 0)) := by rw [← hS, ← hV9]; exact heap_alloc_last _ _
  have rR : V9.heap[R]? = some (.cells #[.int .i64 100, .int .i64 50, .int .i64 0] 46 (0, 0)) := (b89.block R (blk_lt H8.out.2.2.2.1)).trans H8.out.2.2.2.1
  have H9 : Hid (Tk W.heap.size V9 T [] ∧ Below W.heap.size W V9 ∧ DrR L V9 B [7, 9]) := ⟨H8.out.1.blk b89, H8.out.2.1.trans (b89.mono H8.out.1.base), H8.out.2.2.1.below b89⟩
  have c0 : V9.cell? ⟨g, 0, none⟩ = some (.int .i64 1) := (b89.cell (p := ⟨g, 0, none⟩) H8.out.2.2.2.2.1).trans H8.out.2.2.2.2.2.1
  have c1 : V9.cell? ⟨g, 1, none⟩ = some (.int .i64 2) := (b89.cell (p := ⟨g, 1, none⟩) H8.out.2.2.2.2.1).trans H8.out.2.2.2.2.2.2
  have HRS := Hid.mk (And.intro rR rS)
  have HVS := Hid.mk (And.intro hS hV9)
  clear bV9 b89 b9 rS rR hS hV9
  go_upto_region 12 with fail
  rw [HVS.out.2, HVS.out.1]
  go_wp2_with fail
  refine (tlen_in H9.out.1).mono ?_
  rintro e w10 ⟨rfl, rfl⟩
  clear c0 c1
  go_wp2_with fail
  refine (set_no _ T 1 (-1) (by decide)).mono ?_
  rintro e w11 ⟨rfl, rfl⟩
  go_wp2_with fail
  refine (ex_tm1 _).mono ?_
  rintro e w12 ⟨rfl, b12⟩
  have r12 := (b12.block R (blk_lt HRS.out.1)).trans HRS.out.1
  have r0 : w12.cell? ⟨R, 0, none⟩ = some (.int .i64 100) := cell_of_heap r12 rfl
  have r1 : w12.cell? ⟨R, 1, none⟩ = some (.int .i64 50) := cell_of_heap r12 rfl
  have r2 : w12.cell? ⟨R, 2, none⟩ = some (.int .i64 0) := cell_of_heap r12 rfl
  have HB12 := Hid.mk b12
  clear b12 r12
  go_wp2_with fail
  refine (ex_tm2 _).mono ?_
  rintro e w13 ⟨rfl, b13⟩
  have s12 := (HB12.out.block S (blk_lt HRS.out.2)).trans HRS.out.2
  have s13 := (b13.block S (blk_lt s12)).trans s12
  have s0 : w13.cell? ⟨S, 0, none⟩ = some (.int .i64 110) := cell_of_heap s13 rfl
  have s1 : w13.cell? ⟨S, 1, none⟩ = some (.int .i64 57) := cell_of_heap s13 rfl
  have s2 : w13.cell? ⟨S, 2, none⟩ = some (.int .i64 0) := cell_of_heap s13 rfl
  have HB13 := Hid.mk b13
  clear b13 s12 s13 r0 r1 r2
  go_wp2_with fail
  refine (ex_mis _).mono ?_
  rintro e w14 ⟨rfl, b14⟩
  have HB14 := Hid.mk b14
  clear b14 s0 s1 s2
  go_wp2_with fail
  refine (ex_tm3 _).mono ?_
  rintro e w15 ⟨rfl, b15⟩
  have d15 := (((H9.out.2.2.below HB12.out).below HB13.out).below HB14.out).below b15
  have D15 := Hid.mk (d15.dr (by decide))
  have bb : Below W.heap.size W w15 := ((H9.out.2.1.trans (HB12.out.mono H9.out.1.base)).trans (HB13.out.mono (Nat.le_trans H9.out.1.base HB12.out.size))).trans ((HB14.out.trans (b15.mono HB14.out.size)).mono (Nat.le_trans H9.out.1.base (Nat.le_trans HB12.out.size HB13.out.size)))
  have hWB : W.heap.size ≤ B := HWB.out
  have HBB := Hid.mk (And.intro bb hWB)
  clear b15 d15 bb hWB
  go_wp2_with fail
  refine (dnext_in D15.out 5 (by decide)).mono ?_
  rintro e w16 ⟨rfl, d16, o16⟩
  have D16 := Hid.mk (And.intro d16 o16)
  rw [show nxv [7, 9] 5 = 2 by decide]
  clear d16 o16
  go_wp2_with fail
  refine (dnext_in D16.out.1 0 (by decide)).mono ?_
  rintro e w17 ⟨rfl, d17, o17⟩
  have D17 := Hid.mk (And.intro d17 o17)
  rw [show nxv (nxt [7, 9] 5) 0 = 0 by decide]
  clear d17 o17
  go_wp2_with fail
  refine (dnext_in D17.out.1 5 (by decide)).mono ?_
  rintro e w18 ⟨rfl, d18, o18⟩
  have D18 := Hid.mk (And.intro d18 o18)
  rw [show nxv (nxt (nxt [7, 9] 5) 0) 5 = 4 by decide]
  clear d18 o18
  go_wp2_with fail
  refine (dnext_in D18.out.1 5 (by decide)).mono ?_
  rintro e w19 ⟨rfl, d19, o19⟩
  rw [show nxv (nxt (nxt (nxt [7, 9] 5) 0) 5) 5 = 0 by decide]
  have HE : Hid (Below W.heap.size W w19) := (((HBB.out.1.trans (D16.out.2.below HBB.out.2)).trans (D17.out.2.below HBB.out.2)).trans (D18.out.2.below HBB.out.2)).trans (o19.below HBB.out.2)
  clear d19 o19
  go_wp2
  go_ret
  exact ⟨rfl, HE.out⟩
end Go.Proofs.Ytdgkknjmhdmlfaa
