/- Parse: the name that a text tells, or why it tells none. -/
import Derived.Test.YtpngjmeinlcggaaToks
namespace Go.Proofs.Ytpngjmeinlcggaa
set_option linter.unusedVariables false
open Go.RowKit Go.Shelf
attribute [local go_sem] Oper.semAt_some

/-- a draft behind some labels. -/
def stOf (ls : List (List UInt8)) : List UInt8 × Bool := ls.foldl (fun st l => (addL st.1 st.2 l, addBad st.2 l)) ([], false)
theorem stOf_snoc (ls : List (List UInt8)) (l : List UInt8) : stOf (ls ++ [l]) = (addL (stOf ls).1 (stOf ls).2 l, addBad (stOf ls).2 l) := by simp [stOf]
theorem addL_len (l : List UInt8) (bad : Bool) (s : List UInt8) (h : l.length ≤ 318) : (addL l bad s).length ≤ 318 := by
  unfold addL; split
  · rename_i h'; simp; omega
  · exact h
theorem stOf_len (ls : List (List UInt8)) : (stOf ls).1.length ≤ 318 := by
  have : ∀ (ls : List (List UInt8)) (st : List UInt8 × Bool), st.1.length ≤ 318 → (ls.foldl (fun st l => (addL st.1 st.2 l, addBad st.2 l)) st).1.length ≤ 318 := by
    intro ls
    induction ls with
    | nil => intro st h; exact h
    | cons l ls ih => intro st h; exact ih _ (addL_len _ _ _ h)
  exact this ls ([], false) (by simp)

/-- the name of a draft, or why it is none. -/
def nmR (st : List UInt8 × Bool) : List UInt8 × Nat := if st.2 = true then ([], 2) else if st.1.length + 1 ≤ 255 then (st.1 ++ [0], 0) else ([], 3)
def resV (r : List UInt8 × Nat) : Value := .tuple #[.string ⟨r.1.toArray⟩, .int .i64 (r.2 : Int)]

theorem name_in (W : World) (n₀ d : Nat) (l : List UInt8) (bad : Bool) (hl : l.length ≤ 400) (hd : Draft W n₀ d l bad) :
    Calls Try.prog 40 #[.pointer (some ⟨d, 0, none⟩)] W fun e w' => e = .returned (resV (nmR (l, bad))) ∧ w' = W := by
  cases bad with
  | true => exact name_bad W n₀ d l hd
  | false =>
    have h := name_ok W n₀ d l hl hd
    by_cases hc : l.length + 1 ≤ 255
    · rw [if_pos hc] at h
      have e : nmR (l, false) = (l ++ [0], 0) := by simp only [nmR]; rw [if_neg (by simp), if_pos hc]
      rw [e]; exact h
    · rw [if_neg hc] at h
      have e : nmR (l, false) = ([], 3) := by simp only [nmR]; rw [if_neg (by simp), if_neg hc]
      rw [e]; exact h

theorem Draft.grown {W W' : World} {row : Option Nat} {n₀ d : Nat} {l : List UInt8} {bad : Bool} (h : Draft W n₀ d l bad) (hg : W.grownBy W' row) (hr : ∀ r, row = some r → ∃ o : Obj, W.heap[r]? = some o ∧ o.isCells = false) : Draft W' n₀ d l bad := by
  have keep : ∀ (b : Nat) (cs : Array Value) (t : TypeId) (fr : Nat × Nat), W.heap[b]? = some (.cells cs t fr) → W'.heap[b]? = some (.cells cs t fr) := by
    intro b cs t fr hb
    refine (hg.block b (Array.getElem?_eq_some_iff.1 hb).1 fun e => ?_).trans hb
    obtain ⟨o, ho, hc⟩ := hr b e.symm
    rw [hb] at ho; cases ho; simp [Obj.isCells] at hc
  obtain ⟨hn, g, cap, hh, hrow⟩ := h
  refine ⟨hn, g, cap, keep _ _ _ _ hh, hrow.1, ?_⟩
  rcases hrow.2 with h' | ⟨g', cap', cur, hv, hb, hgb, hrest⟩
  · exact .inl h'
  · exact .inr ⟨g', cap', cur, hv, hb, keep _ _ _ _ hgb, hrest⟩
theorem draft_own {β : Type} (n₀ d : Nat) (l : β → List UInt8) (bad : β → Bool) : Own (fun s W => Draft W n₀ d (l s) (bad s)) := fun s W W' row hs hg hr => hs.grown hg hr

/-- what Parse makes of a text. -/
def parseR (l : List UInt8) : List UInt8 × Nat := if l = [46] then ([0], 0) else if l = [] then ([], 7) else match toks (l.length + 1) l with | none => ([], 7) | some ls => nmR (stOf ls)

theorem parse_dot (w : World) :
    Calls Try.prog 18 #[.string ⟨#[46]⟩] w fun e w' => e = .returned (resV ([0], 0)) ∧ Below w.heap.size w w' := by
  go_enter Try.func18, Try.ntmps18
  go_wp2
  refine bodyPost_ret (v := .tuple #[.string ⟨#[0]⟩, .int .i64 0]) (by simp [results, Try.results18, go_sem]) rfl ⟨rfl, ?_⟩
  exact ((Below.refl _ _).alloc (Nat.le_refl _) _).alloc (by simp) _

theorem parse_none (w : World) :
    Calls Try.prog 18 #[.string ⟨#[]⟩] w fun e w' => e = .returned (resV ([], 7)) ∧ Below w.heap.size w w' := by
  go_enter Try.func18, Try.ntmps18
  go_wp2
  refine bodyPost_ret (v := .tuple #[.string ⟨#[]⟩, .int .i64 7]) (by simp [results, Try.results18, go_sem]) rfl ⟨rfl, ?_⟩
  exact ((Below.refl _ _).alloc (Nat.le_refl _) _).alloc (by simp) _

set_option maxRecDepth 100000 in
set_option maxHeartbeats 1000000 in
theorem parse_go (s : ByteArray) (hs : s.size ≤ maxLen) (h1 : s.data.toList ≠ [46]) (h2 : s.data.toList ≠ []) (w : World) :
    Calls Try.prog 18 #[.string s] w fun e w' => e = .returned (resV (parseR s.data.toList)) ∧ Below w.heap.size w w' := by
  have hd1 : (s.toList == [46]) = false := by rw [beq_eq_false_iff_ne, ByteArray.toList_eq]; exact h1
  have hd2 : s.toList.isEmpty = false := by
    rw [ByteArray.toList_eq]
    cases hl : s.data.toList with
    | nil => exact absurd hl h2
    | cons c t => rfl
  have hpr : parseR s.data.toList = match toks (s.size + 1) s.data.toList with | none => ([], 7) | some ls => nmR (stOf ls) := by
    unfold parseR; rw [if_neg h1, if_neg h2]; rfl
  have hp7 : Hid (toks (s.size + 1) s.data.toList = none → parseR s.data.toList = ([], 7)) := fun h => by rw [hpr, h]
  have hp0 : Hid (∀ ls, toks (s.size + 1) s.data.toList = some ls → parseR s.data.toList = nmR (stOf ls)) := fun ls h => by rw [hpr, h]
  clear hpr h1 h2
  refine (callsIn_wide (n := 6)).1 ?_
  refine callsIn_of_wp_marks Try.func18 rfl trivial ?_ rfl
  simp only [Try.ntmps18, List.size_toArray, List.length_cons, List.length_nil, Nat.reduceAdd, Nat.reduceSub, Array.replicate_succ, Array.replicate_zero, List.push_toArray, List.append_toArray, List.nil_append, List.cons_append]
  gi_wp2_with fail
  refine ⟨trivial, ?_⟩
  refine (callsIn_wide.2 (newDraft_in _)).mono ?_
  rintro e w1 ⟨rfl, hdr1, hb1, hz1⟩
  rw [World.size_alloc, World.size_alloc] at hdr1 hb1 hz1
  have hbx0 : Boxed w1 w.heap.size 9 (.string ⟨#[]⟩) := (hb1.block _ (by omega)).trans ((Boxed.new w _ _).alloc _)
  have hbx1 : Boxed w1 (w.heap.size + 1) 26 (.int .i64 0) := by
    refine (hb1.block _ (by omega)).trans ?_
    have := Boxed.new (w.alloc (.cells #[.string ⟨#[]⟩] 9)) 26 (.int .i64 0)
    rwa [World.size_alloc] at this
  have hbw1 : Below w.heap.size w w1 := (((Below.refl _ _).alloc (Nat.le_refl _) _).alloc (by simp) _).trans (hb1.mono (by omega))
  have HZ := Hid.mk hz1
  clear hb1
  gi_wp2_with fail
  refine ⟨trivial, ?_⟩
  refine (callsIn_wide.2 (eachTold_in _ _)).mono ?_
  rintro e w2 ⟨rfl, hw2⟩
  simp only [World.size_alloc, hz1]
  obtain ⟨W0, hW0⟩ : ∃ W0, (w1.alloc (.cells #[.pointer (some ⟨w.heap.size + 1 + 1 + 1, 0, none⟩)] 52)).alloc (.cells #[.string s] 9) = W0 := ⟨_, rfl⟩
  have hsz0 : W0.heap.size = w.heap.size + 6 := by rw [← hW0]; simp; have := HZ.out; omega
  have hx0 : Boxed W0 w.heap.size 9 (.string ⟨#[]⟩) := by rw [← hW0]; exact (hbx0.alloc _).alloc _
  have hx1 : Boxed W0 (w.heap.size + 1) 26 (.int .i64 0) := by rw [← hW0]; exact (hbx1.alloc _).alloc _
  have hx4 : Boxed W0 (w.heap.size + 1 + 1 + 2) 52 (.pointer (some ⟨w.heap.size + 1 + 1 + 1, 0, none⟩)) := by
    rw [← hW0, ← HZ.out]; exact (Boxed.new _ _ _).alloc _
  have hx5 : Boxed W0 (w.heap.size + 1 + 1 + 2 + 1) 9 (.string s) := by
    rw [← hW0]
    have := Boxed.new (w1.alloc (.cells #[.pointer (some ⟨w.heap.size + 1 + 1 + 1, 0, none⟩)] 52)) 9 (.string s)
    rw [World.size_alloc, HZ.out] at this
    exact this
  have hdr0 : Draft W0 (w.heap.size + 1 + 1) (w.heap.size + 1 + 1 + 1) [] false := by
    rw [← hW0]
    exact (hdr1.grown (World.grownBy_alloc _ _ none) (fun r e => by cases e)).grown (World.grownBy_alloc _ _ none) (fun r e => by cases e)
  have hB0 : Below w.heap.size w W0 := by
    rw [← hW0]; exact (hbw1.alloc hbw1.size _).alloc (by have := hbw1.size; simp; omega) _
  rw [hW0] at hw2
  subst hw2
  clear hdr1 hbx0 hbx1 hbw1 hz1
  gi_wp2_with fail
  clear hW0 HZ
  refine wpIn_rangeFunc_ownF rfl (by omega) (gf := 64) (lb := #[.pointer (some ⟨w.heap.size + 1 + 1 + 2 + 1, 0, none⟩)]) rfl trivial (enters_of Try.func64 (by kernel_rfl) rfl)
    (eachTold_stops (6 - 1) (by omega) (w.heap.size + 1 + 1 + 2 + 1) s hs _ hx5.lt hx5.cell) (fun _ _ => trivial) (fun _ _ _ _ _ _ _ _ => trivial) (Below.refl _ _) (fun _ => rfl)
    (fun pre W => ((Boxed W w.heap.size 9 (.string ⟨#[]⟩) ∧ Boxed W (w.heap.size + 1) 26 (.int .i64 0)) ∧ (Boxed W (w.heap.size + 1 + 1 + 2) 52 (.pointer (some ⟨w.heap.size + 1 + 1 + 1, 0, none⟩)) ∧ Draft W (w.heap.size + 1 + 1) (w.heap.size + 1 + 1 + 1) (stOf (tokL pre)).1 (stOf (tokL pre)).2) ∧ AllT pre) ∧ (w.heap.size + 6 ≤ W.heap.size ∧ Below w.heap.size w W))
    (fun j pre W => ((Boxed W w.heap.size 9 (.string ⟨#[]⟩) ∧ Boxed W (w.heap.size + 1) 26 (.int .i64 7)) ∧ (j = .ret ∧ ∃ x, pre.getLast? = some x ∧ x.1.2 = false)) ∧ Below w.heap.size w W)
    ?hI ?hIx ?h0 (fun x => { tmps := #[.string s, undef, .pointer (some ⟨w.heap.size, 0, none⟩), .pointer (some ⟨w.heap.size + 1, 0, none⟩), .pointer (some ⟨w.heap.size + 1 + 1 + 2, 0, none⟩), .string x.1.1, .bool x.1.2, .string s, .bool false, .string s, .bool false, .pointer (some ⟨w.heap.size + 1 + 1 + 1, 0, none⟩), .string s, .func (.func 64) #[] #[.pointer (some ⟨w.heap.size + 1 + 1 + 2 + 1, 0, none⟩)], .string x.1.1, .bool x.1.2, undef, undef, undef, undef, undef, undef, undef, undef, undef], defers := [] }) ?assign ?body ?done ?stop
  case hI =>
    refine OwnFrom.and (OwnFrom.and (OwnFrom.and (Own.from (boxed_own _ _ _) _) (Own.from (boxed_own _ _ _) _)) (OwnFrom.and (OwnFrom.and (Own.from (boxed_own _ _ _) _) (Own.from (draft_own _ _ _ _) _)) (ownFrom_pure _ _))) (OwnFrom.and ?_ (ownFrom_below (Nat.le_refl _) (by omega)))
    intro s A B row hs hg hr
    exact Nat.le_trans hs hg.size
  case hIx =>
    intro j
    exact OwnFrom.and (OwnFrom.and (OwnFrom.and (Own.from (boxed_own _ _ _) _) (Own.from (boxed_own _ _ _) _)) (ownFrom_pure _ _)) (ownFrom_below (Nat.le_refl _) (by omega))
  case h0 =>
    exact ⟨⟨⟨hx0, hx1⟩, ⟨hx4, hdr0⟩, by simp [AllT]⟩, by omega, hB0⟩
  case assign =>
    intro l x W K hK
    gi_wp2
    exact hK
  case body =>
    rintro l pre ⟨⟨xb, xo⟩, hxz⟩ W ⟨⟨⟨h0, h1⟩, ⟨h4, hd⟩, hat⟩, hle, hB⟩ _
    clear hx0 hx1 hx4 hx5 hdr0 hB0
    have hc0 := h0.cell
    have hf0 := h0.frozen
    have hc1 := h1.cell
    have hf1 := h1.frozen
    have hc4 := h4.cell
    dsimp only at hxz
    cases xo with
    | false =>
      gi_wp2
      refine ⟨(KeepsOthers.setCell _ _ _).trans (KeepsOthers.setCell _ _ _), ⟨⟨(h0.set _).other (by omega) _, (h1.other (by omega) _).set _⟩, rfl, ⟨(xb, false), hxz⟩, by simp, rfl⟩, (hB.setCell (p := ⟨w.heap.size, 0, none⟩) (by simp) _).setCell (p := ⟨w.heap.size + 1, 0, none⟩) (by simp) _⟩
    | true =>
      gi_wp2_with fail
      refine ⟨trivial, ?_⟩
      refine (CallsIn.inRound l (callsIn_wide.2 (add_in W (w.heap.size + 1 + 1) (w.heap.size + 1 + 1 + 1) _ _ xb (by unfold maxLen; omega) hd (by have := stOf_len (tokL pre); omega) (by omega)))).mono ?_
      rintro e w3 ⟨rfl, hD3, hF3, hB3⟩
      gi_wp2
      obtain ⟨_, g, cap, hh, _⟩ := hd
      refine ⟨hF3.others hh, trivial, ⟨⟨hF3.boxed h0 (by omega) (by decide), hF3.boxed h1 (by omega) (by decide)⟩, ⟨hF3.boxed h4 (by omega) (by decide), ?_⟩, ?_⟩, by have := hF3.size; omega, hB.trans (hB3.mono (by omega))⟩
      · rw [tokL_snoc, stOf_snoc]; exact hD3
      · intro x hx
        rcases List.mem_append.1 hx with h' | h'
        · exact hat x h'
        · simp at h'; subst h'; rfl
  case done =>
    rintro D ys W hD hS ⟨⟨⟨h0, h1⟩, ⟨h4, hd⟩, hat⟩, hle, hB⟩ hK
    clear hx0 hx1 hx4 hx5 hdr0 hB0
    have hpe := Hid.mk (hp0.out _ (hS hat))
    clear hS hp0 hp7
    have hc0 := h0.cell
    have hf0 := h0.frozen
    have hc1 := h1.cell
    have hf1 := h1.frozen
    have hc4 := h4.cell
    generalize hst : stOf (tokL ys) = st at hd hpe
    have hlen : st.1.length ≤ 400 := by rw [← hst]; have := stOf_len (tokL ys); omega
    clear hst
    have hnm := name_in W _ _ st.1 st.2 hlen hd
    have HN := Hid.mk hnm
    clear hnm hd hlen
    gi_wp2_with fail
    refine ⟨trivial, ?_⟩
    refine (callsIn_wide.2 HN.out).mono ?_
    rintro e w3 ⟨rfl, hw3⟩
    rw [hw3]
    clear hw3
    dsimp only [resV]
    gi_wp2
    obtain ⟨⟨r1, r2⟩, hr⟩ : ∃ r, nmR (st.1, st.2) = r := ⟨_, rfl⟩
    have hpe' : parseR s.data.toList = (r1, r2) := hpe.out.trans hr
    rw [hr]
    dsimp only
    have hK' := ((KeepsOthers.setCell W ⟨w.heap.size, 0, none⟩ (.string ⟨r1.toArray⟩)).trans (KeepsOthers.setCell _ ⟨w.heap.size + 1, 0, none⟩ (.int .i64 (r2 : Int)))).same D _ hK rfl
    refine ⟨by simp, .inl ⟨_, _, rfl, run_takeDeferred hK', ?_⟩⟩
    have hy0 := (h0.set (.string ⟨r1.toArray⟩)).other (B' := w.heap.size + 1) (by omega) (.int .i64 (r2 : Int))
    have hy1 := (h1.other (B' := w.heap.size) (by omega) (.string ⟨r1.toArray⟩)).set (.int .i64 (r2 : Int))
    have hk0 := cell_kept hy0.cell (grownBy_putObj' _ D (.deferred none)) (fun r e => by cases e; exact ⟨_, hK', rfl⟩)
    have hk1 := cell_kept hy1.cell (grownBy_putObj' _ D (.deferred none)) (fun r e => by cases e; exact ⟨_, hK', rfl⟩)
    refine ⟨.tuple #[.string ⟨r1.toArray⟩, .int .i64 (r2 : Int)], ?_, by rw [hpe']; rfl, ((hB.setCell (p := ⟨w.heap.size, 0, none⟩) (by simp) _).setCell (p := ⟨w.heap.size + 1, 0, none⟩) (by simp) _).trans (belowK_b (w := w) (Nat.le_refl _) _ D _ _ (by omega) hK' rfl rfl)⟩
    simp [results, Try.f18, go_sem, hk0, hk1]
  case stop =>
    rintro D j pre W hD hS ⟨⟨⟨h0, h1⟩, rfl, x, hx, hxf⟩, hB⟩ hK
    have hpe := Hid.mk (hp7.out (hS x hx hxf))
    clear hS hp0 hp7
    have hc0 := h0.cell
    have hc1 := h1.cell
    gi_wp2
    refine ⟨by simp, .inl ⟨_, _, rfl, run_takeDeferred hK, ?_⟩⟩
    have hk0 := cell_kept hc0 (grownBy_putObj' _ D (.deferred none)) (fun r e => by cases e; exact ⟨_, hK, rfl⟩)
    have hk1 := cell_kept hc1 (grownBy_putObj' _ D (.deferred none)) (fun r e => by cases e; exact ⟨_, hK, rfl⟩)
    refine ⟨.tuple #[.string ⟨#[]⟩, .int .i64 7], ?_, by rw [hpe.out]; rfl, hB.trans (belowK_b (w := w) (Nat.le_refl _) W D _ _ (by omega) hK rfl rfl)⟩
    simp [results, Try.f18, go_sem, hk0, hk1]
theorem parse_in (s : ByteArray) (hs : s.size ≤ maxLen) (w : World) :
    Calls Try.prog 18 #[.string s] w fun e w' => e = .returned (resV (parseR s.data.toList)) ∧ Below w.heap.size w w' := by
  by_cases h1 : s.data.toList = [46]
  · have e : s = ⟨#[46]⟩ := ba_ext h1
    subst e
    exact parse_dot w
  · by_cases h2 : s.data.toList = []
    · have e : s = ⟨#[]⟩ := ba_ext h2
      subst e
      exact parse_none w
    · exact parse_go s hs h1 h2 w

end Go.Proofs.Ytpngjmeinlcggaa
