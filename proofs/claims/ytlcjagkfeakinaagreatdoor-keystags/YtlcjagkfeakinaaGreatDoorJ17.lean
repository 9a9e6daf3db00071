/- Texts of this proof, joined: Parse, Kin, Kin2, OfLabels, RefOf, Cased. -/
import Derived.Test.YtlcjagkfeakinaaGreatDoorJ16
import Derived.Test.YtlcjagkfeakinaaGreatDoorJ15
import Derived.Test.YtlcjagkfeakinaaGreatDoorJ4
import Derived.Lib.ConvBytes
/- Parse: the name that a text tells, or why it tells none. -/
namespace Go.Proofs.YtlcjagkfeakinaaGreatDoor
set_option linter.unusedVariables false
set_option maxRecDepth 100000
open Go.RowKit Go.Shelf
attribute [local go_sem] Oper.semAt_some

/-- a draft behind some labels. -/
def stOf (ls : List (List UInt8)) : List UInt8 × Bool := ls.foldl (fun st l => (addL st.1 st.2 l, addBad st.2 l)) ([], false)
theorem stOf_snoc (ls : List (List UInt8)) (l : List UInt8) : stOf (ls ++ [l]) = (addL (stOf ls).1 (stOf ls).2 l, addBad (stOf ls).2 l) := by simp [stOf]
theorem addL_len (l : List UInt8) (bad : Bool) (s : List UInt8) (h : l.length ≤ 318) : (addL l bad s).length ≤ 318 := by
  unfold addL; split
  · rename_i h'; simp; omega
  · exact h
theorem stOf_len (ls : List (List UInt8)) : (stOf ls).1.length ≤ 318 := by
  have : ∀ (ls : List (List UInt8)) (st : List UInt8 × Bool), st.1.length ≤ 318 → (ls.foldl (fun st l => (addL st.1 st.2 l, addBad st.2 l)) st).1.length ≤ 318 := by
    intro ls
    induction ls with
    | nil => intro st h; exact h
    | cons l ls ih => intro st h; exact ih _ (addL_len _ _ _ h)
  exact this ls ([], false) (by simp)

/-- the name of a draft, or why it is none. -/
def nmR (st : List UInt8 × Bool) : List UInt8 × Nat := if st.2 = true then ([], 2) else if st.1.length + 1 ≤ 255 then (st.1 ++ [0], 0) else ([], 3)
def resV (r : List UInt8 × Nat) : Value := .tuple #[.string ⟨r.1.toArray⟩, .int .i64 (r.2 : Int)]

theorem name_in (W : World) (n₀ d : Nat) (l : List UInt8) (bad : Bool) (hl : l.length ≤ 400) (hd : Draft W n₀ d l bad) :
    Calls Tryz.prog 233 #[.pointer (some ⟨d, 0, none⟩)] W fun e w' => e = .returned (resV (nmR (l, bad))) ∧ w' = W := by
  cases bad with
  | true => exact name_bad W n₀ d l hd
  | false =>
    have h := name_ok W n₀ d l hl hd
    by_cases hc : l.length + 1 ≤ 255
    · rw [if_pos hc] at h
      have e : nmR (l, false) = (l ++ [0], 0) := by simp only [nmR]; rw [if_neg (by simp), if_pos hc]
      rw [e]; exact h
    · rw [if_neg hc] at h
      have e : nmR (l, false) = ([], 3) := by simp only [nmR]; rw [if_neg (by simp), if_neg hc]
      rw [e]; exact h

theorem Draft.grown {W W' : World} {row : Option Nat} {n₀ d : Nat} {l : List UInt8} {bad : Bool} (h : Draft W n₀ d l bad) (hg : W.grownBy W' row) (hr : ∀ r, row = some r → ∃ o : Obj, W.heap[r]? = some o ∧ o.isCells = false) : Draft W' n₀ d l bad := by
  have keep : ∀ (b : Nat) (cs : Array Value) (t : TypeId) (fr : Nat × Nat), W.heap[b]? = some (.cells cs t fr) → W'.heap[b]? = some (.cells cs t fr) := by
    intro b cs t fr hb
    refine (hg.block b (Array.getElem?_eq_some_iff.1 hb).1 fun e => ?_).trans hb
    obtain ⟨o, ho, hc⟩ := hr b e.symm
    rw [hb] at ho; cases ho; simp [Obj.isCells] at hc
  obtain ⟨hn, g, cap, hh, hrow⟩ := h
  refine ⟨hn, g, cap, keep _ _ _ _ hh, hrow.1, ?_⟩
  rcases hrow.2 with h' | ⟨g', cap', cur, hv, hb, hgb, hrest⟩
  · exact .inl h'
  · exact .inr ⟨g', cap', cur, hv, hb, keep _ _ _ _ hgb, hrest⟩
theorem draft_own {β : Type} (n₀ d : Nat) (l : β → List UInt8) (bad : β → Bool) : Own (fun s W => Draft W n₀ d (l s) (bad s)) := fun s W W' row hs hg hr => hs.grown hg hr

/-- what Parse makes of a text. -/
def parseR (l : List UInt8) : List UInt8 × Nat := if l = [46] then ([0], 0) else if l = [] then ([], 7) else match toks (l.length + 1) l with | none => ([], 7) | some ls => nmR (stOf ls)

theorem parse_dot (w : World) :
    Calls Tryz.prog 205 #[.string ⟨#[46]⟩] w fun e w' => e = .returned (resV ([0], 0)) ∧ Below w.heap.size w w' := by
  go_enter Tryz.func205, Tryz.ntmps205
  go_wp2
  refine bodyPost_ret (v := .tuple #[.string ⟨#[0]⟩, .int .i64 0]) (by simp [results, Tryz.results205, go_sem]) rfl ⟨rfl, ?_⟩
  exact ((Below.refl _ _).alloc (Nat.le_refl _) _).alloc (by simp) _

theorem parse_none (w : World) :
    Calls Tryz.prog 205 #[.string ⟨#[]⟩] w fun e w' => e = .returned (resV ([], 7)) ∧ Below w.heap.size w w' := by
  go_enter Tryz.func205, Tryz.ntmps205
  go_wp2
  refine bodyPost_ret (v := .tuple #[.string ⟨#[]⟩, .int .i64 7]) (by simp [results, Tryz.results205, go_sem]) rfl ⟨rfl, ?_⟩
  exact ((Below.refl _ _).alloc (Nat.le_refl _) _).alloc (by simp) _

set_option maxRecDepth 100000 in
set_option maxHeartbeats 1000000 in
theorem parse_go (s : ByteArray) (hs : s.size ≤ maxLen) (h1 : s.data.toList ≠ [46]) (h2 : s.data.toList ≠ []) (w : World) :
    Calls Tryz.prog 205 #[.string s] w fun e w' => e = .returned (resV (parseR s.data.toList)) ∧ Below w.heap.size w w' := by
  have hd1 : (s.toList == [46]) = false := by rw [beq_eq_false_iff_ne, ByteArray.toList_eq]; exact h1
  have hd2 : s.toList.isEmpty = false := by
    rw [ByteArray.toList_eq]
    cases hl : s.data.toList with
    | nil => exact absurd hl h2
    | cons c t => rfl
  have hpr : parseR s.data.toList = match toks (s.size + 1) s.data.toList with | none => ([], 7) | some ls => nmR (stOf ls) := by
    unfold parseR; rw [if_neg h1, if_neg h2]; rfl
  have hp7 : Hid (toks (s.size + 1) s.data.toList = none → parseR s.data.toList = ([], 7)) := fun h => by rw [hpr, h]
  have hp0 : Hid (∀ ls, toks (s.size + 1) s.data.toList = some ls → parseR s.data.toList = nmR (stOf ls)) := fun ls h => by rw [hpr, h]
  clear hpr h1 h2
  refine (callsIn_wide (n := 6)).1 ?_
  refine callsIn_of_wp_marks Tryz.func205 rfl trivial ?_ rfl
  simp only [Tryz.ntmps205, List.size_toArray, List.length_cons, List.length_nil, Nat.reduceAdd, Nat.reduceSub, Array.replicate_succ, Array.replicate_zero, List.push_toArray, List.append_toArray, List.nil_append, List.cons_append]
  gi_wp2_with fail
  refine ⟨trivial, ?_⟩
  refine (callsIn_wide.2 (newDraft_in _)).mono ?_
  rintro e w1 ⟨rfl, hdr1, hb1, hz1⟩
  rw [World.size_alloc, World.size_alloc] at hdr1 hb1 hz1
  have hbx0 : Boxed w1 w.heap.size 9 (.string ⟨#[]⟩) := (hb1.block _ (by omega)).trans ((Boxed.new w _ _).alloc _)
  have hbx1 : Boxed w1 (w.heap.size + 1) 25 (.int .i64 0) := by
    refine (hb1.block _ (by omega)).trans ?_
    have := Boxed.new (w.alloc (.cells #[.string ⟨#[]⟩] 9)) 25 (.int .i64 0)
    rwa [World.size_alloc] at this
  have hbw1 : Below w.heap.size w w1 := (((Below.refl _ _).alloc (Nat.le_refl _) _).alloc (by simp) _).trans (hb1.mono (by omega))
  have HZ := Hid.mk hz1
  clear hb1
  gi_wp2_with fail
  refine ⟨trivial, ?_⟩
  refine (callsIn_wide.2 (eachTold_in _ _)).mono ?_
  rintro e w2 ⟨rfl, hw2⟩
  simp only [World.size_alloc, hz1]
  obtain ⟨W0, hW0⟩ : ∃ W0, (w1.alloc (.cells #[.pointer (some ⟨w.heap.size + 1 + 1 + 1, 0, none⟩)] 226)).alloc (.cells #[.string s] 9) = W0 := ⟨_, rfl⟩
  have hsz0 : W0.heap.size = w.heap.size + 6 := by rw [← hW0]; simp; have := HZ.out; omega
  have hx0 : Boxed W0 w.heap.size 9 (.string ⟨#[]⟩) := by rw [← hW0]; exact (hbx0.alloc _).alloc _
  have hx1 : Boxed W0 (w.heap.size + 1) 25 (.int .i64 0) := by rw [← hW0]; exact (hbx1.alloc _).alloc _
  have hx4 : Boxed W0 (w.heap.size + 1 + 1 + 2) 226 (.pointer (some ⟨w.heap.size + 1 + 1 + 1, 0, none⟩)) := by
    rw [← hW0, ← HZ.out]; exact (Boxed.new _ _ _).alloc _
  have hx5 : Boxed W0 (w.heap.size + 1 + 1 + 2 + 1) 9 (.string s) := by
    rw [← hW0]
    have := Boxed.new (w1.alloc (.cells #[.pointer (some ⟨w.heap.size + 1 + 1 + 1, 0, none⟩)] 226)) 9 (.string s)
    rw [World.size_alloc, HZ.out] at this
    exact this
  have hdr0 : Draft W0 (w.heap.size + 1 + 1) (w.heap.size + 1 + 1 + 1) [] false := by
    rw [← hW0]
    exact (hdr1.grown (World.grownBy_alloc _ _ none) (fun r e => by cases e)).grown (World.grownBy_alloc _ _ none) (fun r e => by cases e)
  have hB0 : Below w.heap.size w W0 := by
    rw [← hW0]; exact (hbw1.alloc hbw1.size _).alloc (by have := hbw1.size; simp; omega) _
  rw [hW0] at hw2
  subst hw2
  clear hdr1 hbx0 hbx1 hbw1 hz1
  gi_wp2_with fail
  clear hW0 HZ
  refine wpIn_rangeFunc_ownF rfl (by omega) (gf := 251) (lb := #[.pointer (some ⟨w.heap.size + 1 + 1 + 2 + 1, 0, none⟩)]) rfl trivial (enters_of Tryz.func251 (by kernel_rfl) rfl)
    (eachTold_stops (6 - 1) (by omega) (w.heap.size + 1 + 1 + 2 + 1) s hs _ hx5.lt hx5.cell) (fun _ _ => trivial) (fun _ _ _ _ _ _ _ _ => trivial) (Below.refl _ _) (fun _ => rfl)
    (fun pre W => ((Boxed W w.heap.size 9 (.string ⟨#[]⟩) ∧ Boxed W (w.heap.size + 1) 25 (.int .i64 0)) ∧ (Boxed W (w.heap.size + 1 + 1 + 2) 226 (.pointer (some ⟨w.heap.size + 1 + 1 + 1, 0, none⟩)) ∧ Draft W (w.heap.size + 1 + 1) (w.heap.size + 1 + 1 + 1) (stOf (tokL pre)).1 (stOf (tokL pre)).2) ∧ AllT pre) ∧ (w.heap.size + 6 ≤ W.heap.size ∧ Below w.heap.size w W))
    (fun j pre W => ((Boxed W w.heap.size 9 (.string ⟨#[]⟩) ∧ Boxed W (w.heap.size + 1) 25 (.int .i64 7)) ∧ (j = .ret ∧ ∃ x, pre.getLast? = some x ∧ x.1.2 = false)) ∧ Below w.heap.size w W)
    ?hI ?hIx ?h0 (fun x => { tmps := #[.string s, undef, .pointer (some ⟨w.heap.size, 0, none⟩), .pointer (some ⟨w.heap.size + 1, 0, none⟩), .pointer (some ⟨w.heap.size + 1 + 1 + 2, 0, none⟩), .string x.1.1, .bool x.1.2, .string s, .bool false, .string s, .bool false, .pointer (some ⟨w.heap.size + 1 + 1 + 1, 0, none⟩), .string s, .func (.func 251) #[] #[.pointer (some ⟨w.heap.size + 1 + 1 + 2 + 1, 0, none⟩)], .string x.1.1, .bool x.1.2, undef, undef, undef, undef, undef, undef, undef, undef, undef], defers := [] }) ?assign ?body ?done ?stop
  case hI =>
    refine OwnFrom.and (OwnFrom.and (OwnFrom.and (Own.from (boxed_own _ _ _) _) (Own.from (boxed_own _ _ _) _)) (OwnFrom.and (OwnFrom.and (Own.from (boxed_own _ _ _) _) (Own.from (draft_own _ _ _ _) _)) (ownFrom_pure _ _))) (OwnFrom.and ?_ (ownFrom_below (Nat.le_refl _) (by omega)))
    intro s A B row hs hg hr
    exact Nat.le_trans hs hg.size
  case hIx =>
    intro j
    exact OwnFrom.and (OwnFrom.and (OwnFrom.and (Own.from (boxed_own _ _ _) _) (Own.from (boxed_own _ _ _) _)) (ownFrom_pure _ _)) (ownFrom_below (Nat.le_refl _) (by omega))
  case h0 =>
    exact ⟨⟨⟨hx0, hx1⟩, ⟨hx4, hdr0⟩, by simp [AllT]⟩, by omega, hB0⟩
  case assign =>
    intro l x W K hK
    gi_wp2
    exact hK
  case body =>
    rintro l pre ⟨⟨xb, xo⟩, hxz⟩ W ⟨⟨⟨h0, h1⟩, ⟨h4, hd⟩, hat⟩, hle, hB⟩ _
    clear hx0 hx1 hx4 hx5 hdr0 hB0
    have hc0 := h0.cell
    have hf0 := h0.frozen
    have hc1 := h1.cell
    have hf1 := h1.frozen
    have hc4 := h4.cell
    dsimp only at hxz
    cases xo with
    | false =>
      gi_wp2
      refine ⟨(KeepsOthers.setCell _ _ _).trans (KeepsOthers.setCell _ _ _), ⟨⟨(h0.set _).other (by omega) _, (h1.other (by omega) _).set _⟩, rfl, ⟨(xb, false), hxz⟩, by simp, rfl⟩, (hB.setCell (p := ⟨w.heap.size, 0, none⟩) (by simp) _).setCell (p := ⟨w.heap.size + 1, 0, none⟩) (by simp) _⟩
    | true =>
      gi_wp2_with fail
      refine ⟨trivial, ?_⟩
      refine (CallsIn.inRound l (callsIn_wide.2 (add_in W (w.heap.size + 1 + 1) (w.heap.size + 1 + 1 + 1) _ _ xb (by unfold maxLen; omega) hd (by have := stOf_len (tokL pre); omega) (by omega)))).mono ?_
      rintro e w3 ⟨rfl, hD3, hF3, hB3⟩
      gi_wp2
      obtain ⟨_, g, cap, hh, _⟩ := hd
      refine ⟨hF3.others hh, trivial, ⟨⟨hF3.boxed h0 (by omega) (by decide), hF3.boxed h1 (by omega) (by decide)⟩, ⟨hF3.boxed h4 (by omega) (by decide), ?_⟩, ?_⟩, by have := hF3.size; omega, hB.trans (hB3.mono (by omega))⟩
      · rw [tokL_snoc, stOf_snoc]; exact hD3
      · intro x hx
        rcases List.mem_append.1 hx with h' | h'
        · exact hat x h'
        · simp at h'; subst h'; rfl
  case done =>
    rintro D ys W hD hS ⟨⟨⟨h0, h1⟩, ⟨h4, hd⟩, hat⟩, hle, hB⟩ hK
    clear hx0 hx1 hx4 hx5 hdr0 hB0
    have hpe := Hid.mk (hp0.out _ (hS hat))
    clear hS hp0 hp7
    have hc0 := h0.cell
    have hf0 := h0.frozen
    have hc1 := h1.cell
    have hf1 := h1.frozen
    have hc4 := h4.cell
    generalize hst : stOf (tokL ys) = st at hd hpe
    have hlen : st.1.length ≤ 400 := by rw [← hst]; have := stOf_len (tokL ys); omega
    clear hst
    have hnm := name_in W _ _ st.1 st.2 hlen hd
    have HN := Hid.mk hnm
    clear hnm hd hlen
    gi_wp2_with fail
    refine ⟨trivial, ?_⟩
    refine (callsIn_wide.2 HN.out).mono ?_
    rintro e w3 ⟨rfl, hw3⟩
    rw [hw3]
    clear hw3
    dsimp only [resV]
    gi_wp2
    obtain ⟨⟨r1, r2⟩, hr⟩ : ∃ r, nmR (st.1, st.2) = r := ⟨_, rfl⟩
    have hpe' : parseR s.data.toList = (r1, r2) := hpe.out.trans hr
    rw [hr]
    dsimp only
    have hK' := ((KeepsOthers.setCell W ⟨w.heap.size, 0, none⟩ (.string ⟨r1.toArray⟩)).trans (KeepsOthers.setCell _ ⟨w.heap.size + 1, 0, none⟩ (.int .i64 (r2 : Int)))).same D _ hK rfl
    refine ⟨by simp, .inl ⟨_, _, rfl, run_takeDeferred hK', ?_⟩⟩
    have hy0 := (h0.set (.string ⟨r1.toArray⟩)).other (B' := w.heap.size + 1) (by omega) (.int .i64 (r2 : Int))
    have hy1 := (h1.other (B' := w.heap.size) (by omega) (.string ⟨r1.toArray⟩)).set (.int .i64 (r2 : Int))
    have hk0 := cell_kept hy0.cell (grownBy_putObj' _ D (.deferred none)) (fun r e => by cases e; exact ⟨_, hK', rfl⟩)
    have hk1 := cell_kept hy1.cell (grownBy_putObj' _ D (.deferred none)) (fun r e => by cases e; exact ⟨_, hK', rfl⟩)
    refine ⟨.tuple #[.string ⟨r1.toArray⟩, .int .i64 (r2 : Int)], ?_, by rw [hpe']; rfl, ((hB.setCell (p := ⟨w.heap.size, 0, none⟩) (by simp) _).setCell (p := ⟨w.heap.size + 1, 0, none⟩) (by simp) _).trans (belowK_b (w := w) (Nat.le_refl _) _ D _ _ (by omega) hK' rfl rfl)⟩
    simp [results, Tryz.f205, go_sem, hk0, hk1]
  case stop =>
    rintro D j pre W hD hS ⟨⟨⟨h0, h1⟩, rfl, x, hx, hxf⟩, hB⟩ hK
    have hpe := Hid.mk (hp7.out (hS x hx hxf))
    clear hS hp0 hp7
    have hc0 := h0.cell
    have hc1 := h1.cell
    gi_wp2
    refine ⟨by simp, .inl ⟨_, _, rfl, run_takeDeferred hK, ?_⟩⟩
    have hk0 := cell_kept hc0 (grownBy_putObj' _ D (.deferred none)) (fun r e => by cases e; exact ⟨_, hK, rfl⟩)
    have hk1 := cell_kept hc1 (grownBy_putObj' _ D (.deferred none)) (fun r e => by cases e; exact ⟨_, hK, rfl⟩)
    refine ⟨.tuple #[.string ⟨#[]⟩, .int .i64 7], ?_, by rw [hpe.out]; rfl, hB.trans (belowK_b (w := w) (Nat.le_refl _) W D _ _ (by omega) hK rfl rfl)⟩
    simp [results, Tryz.f205, go_sem, hk0, hk1]
theorem parse_in (s : ByteArray) (hs : s.size ≤ maxLen) (w : World) :
    Calls Tryz.prog 205 #[.string s] w fun e w' => e = .returned (resV (parseR s.data.toList)) ∧ Below w.heap.size w w' := by
  by_cases h1 : s.data.toList = [46]
  · have e : s = ⟨#[46]⟩ := ba_ext h1
    subst e
    exact parse_dot w
  · by_cases h2 : s.data.toList = []
    · have e : s = ⟨#[]⟩ := ba_ext h2
      subst e
      exact parse_none w
    · exact parse_go s hs h1 h2 w

end Go.Proofs.YtlcjagkfeakinaaGreatDoor

/- withoutFirst, Parent, Common, Child, Moved. -/
namespace Go.Proofs.YtlcjagkfeakinaaGreatDoor
set_option linter.unusedVariables false
open Go.RowKit Go.Shelf
attribute [local go_sem] Oper.semAt_some

theorem flat_drop_nm (p q : List (List UInt8)) : (nm (p ++ q)).extract (flat p).length (nm (p ++ q)).size = nm q := by
  apply ba_ext
  rw [Lib.extract_data, nm_list, nm_list, nmL, flat_append, List.append_assoc, List.drop_left]
  exact List.take_of_length_le (by rw [nm_size, flat_append]; simp; omega)

theorem keepsOthers_below {W W' : World} (h : Below W.heap.size W W') : KeepsOthers W W' :=
  ⟨h.size, fun k o hk _ => (h.block k (Array.getElem?_eq_some_iff.1 hk).1).trans hk⟩

theorem stop_drop {ls : List (List UInt8)} {N : Nat} (ho : OkN ls) {pre : List (Lab N)} (hsq : Seq (nm ls) (labs pre)) (hpl : Placed pre) {c : Nat} (hlen : pre.length = c + 1) :
    (nm ls).extract ((pre.getLast?.map (fun x => x.1.1)).getD 0) (nm ls).size = nm (ls.drop c) := by
  rcases List.eq_nil_or_concat pre with rfl | ⟨q, x, rfl⟩
  · simp at hlen
  · rw [List.concat_eq_append] at *
    have hq : q.length = c := by simpa using hlen
    obtain ⟨r, hr⟩ := hsq.of_name ho
    rw [labs_snoc, List.append_assoc] at hr
    have hx : x.1.1 = (flat (labs q)).length := by have := hpl q.length (by simp); simpa using this
    have hd : ls.drop c = [x.1.2.data.toList] ++ r := by
      rw [← hr, List.drop_append_of_le_length (by simp [labs]; omega), List.drop_of_length_le (by simp [labs]; omega)]; rfl
    rw [hd]
    simp only [List.getLast?_append, List.getLast?_singleton, Option.some_or, Option.map_some, Option.getD_some]
    rw [hx, ← hr]
    exact flat_drop_nm _ _

end Go.Proofs.YtlcjagkfeakinaaGreatDoor

/- Parent, Common, Child, Moved. -/
namespace Go.Proofs.YtlcjagkfeakinaaGreatDoor
set_option linter.unusedVariables false
open Go.RowKit

theorem empty_ba : (⟨#[]⟩ : ByteArray) = ⟨([] : List UInt8).toArray⟩ := rfl

/-! ### Common -/
def comN (a b : List (List UInt8)) : List (List UInt8) := a.drop (a.length - shEnd (lowN a) (lowN b))

theorem cpl_le : ∀ (a b : List (List UInt8)), cpl a b ≤ a.length ∧ cpl a b ≤ b.length
  | [], b => by simp [cpl]
  | a :: a', [] => by simp [cpl]
  | a :: a', b :: b' => by
    have := cpl_le a' b'
    unfold cpl
    split <;> simp <;> omega
theorem shEnd_le (a b : List (List UInt8)) : shEnd a b ≤ a.length ∧ shEnd a b ≤ b.length := by
  have := cpl_le a.reverse b.reverse; simpa [shEnd] using this

/-! ### Parent -/
theorem okNil : OkN [] := ⟨by simp, by simp [flat]⟩
theorem nm_not_root {l : List UInt8} {ls : List (List UInt8)} (h : OkN (l :: ls)) : ((nm (l :: ls)).toList == [0]) = false := by
  rw [beq_eq_false_iff_ne, ByteArray.toList_eq, nm_list]
  intro e
  have := congrArg List.length e
  have h1 := h.lab l (by simp)
  simp [nmL, flat] at this

/-! ### Moved -/
/-- the labels of a ahead of those that it has of b, and behind them c. -/
def mvN (a b c : List (List UInt8)) : List (List UInt8) := a.take (a.length - b.length) ++ c

/-! ### what 'under' says of the labels -/
theorem cpl_full : ∀ (a b : List (List UInt8)), cpl a b = b.length ↔ b <+: a
  | [], [] => by simp [cpl]
  | [], b :: b' => by simp [cpl]
  | a :: a', [] => by simp [cpl]
  | a :: a', b :: b' => by
    unfold cpl
    split
    · rename_i e; subst e
      rw [List.cons_prefix_cons, List.length_cons, Nat.add_right_cancel_iff, cpl_full a' b']; simp
    · rename_i e
      rw [List.cons_prefix_cons]
      constructor
      · intro h; simp at h
      · intro h; exact absurd h.1.symm e

theorem undB_iff (a b : List (List UInt8)) : undB a b = true ↔ lowN b <:+ lowN a := by
  rw [undB, decide_eq_true_iff, shEnd, ← List.reverse_prefix, ← cpl_full, List.length_reverse, lowN_length]

theorem lowN_append (a b : List (List UInt8)) : lowN (a ++ b) = lowN a ++ lowN b := by simp [lowN]

/-- where a is under b: its own labels, and those that are b's. -/
theorem und_split {a b : List (List UInt8)} (h : undB a b = true) : b.length ≤ a.length ∧ lowN (a.drop (a.length - b.length)) = lowN b := by
  obtain ⟨p, hp⟩ := (undB_iff a b).1 h
  have hl : p.length + b.length = a.length := by have := congrArg List.length hp; simpa [lowN_length] using this
  refine ⟨by omega, ?_⟩
  have : lowN (a.drop (a.length - b.length)) = (lowN a).drop (a.length - b.length) := by simp [lowN]
  rw [this, ← hp, List.drop_append_of_le_length (by omega), List.drop_of_length_le (by omega), List.nil_append]

theorem und_bytes {a b : List (List UInt8)} (c : List (List UInt8)) (h : undB a b = true) :
    (nm a).extract 0 ((nm a).size - (nm b).size) ++ nm c = nm (mvN a b c) ∧ (nm a).size - (nm b).size = (flat (a.take (a.length - b.length))).length ∧ (nm b).size ≤ (nm a).size := by
  obtain ⟨h1, h2⟩ := und_split h
  have h3 : (flat (a.drop (a.length - b.length))).length = (flat b).length := by rw [← flat_low_length, h2, flat_low_length]
  have h4 : flat a = flat (a.take (a.length - b.length)) ++ flat (a.drop (a.length - b.length)) := by rw [← flat_append, List.take_append_drop]
  have h5 : (nm a).size - (nm b).size = (flat (a.take (a.length - b.length))).length := by
    rw [nm_size, nm_size, h4, List.length_append, h3]; omega
  refine ⟨?_, h5, by rw [nm_size, nm_size, h4, List.length_append, h3]; omega⟩
  apply ba_ext
  rw [ByteArray.data_append, Array.toList_append, Lib.extract_data, h5, nm_list, nm_list, nm_list, mvN, nmL, h4, List.append_assoc, Nat.sub_zero, List.drop_zero, List.take_left, nmL, nmL, flat_append, List.append_assoc]

end Go.Proofs.YtlcjagkfeakinaaGreatDoor

/- Labels and Of. -/
namespace Go.Proofs.YtlcjagkfeakinaaGreatDoor
set_option linter.unusedVariables false
/-- what Of makes of labels: the name, or why there is none. -/
def ofR (ls : List (List UInt8)) : List UInt8 × Nat := nmR (stOf ls)

theorem stOf_take (ls : List (List UInt8)) (k : Nat) (h : k < ls.length) : stOf (ls.take (k + 1)) = (addL (stOf (ls.take k)).1 (stOf (ls.take k)).2 ls[k], addBad (stOf (ls.take k)).2 ls[k]) := by
  rw [List.take_succ_eq_append_getElem h, stOf_snoc]

theorem snocInd {α : Type} {P : List α → Prop} (h0 : P []) (h1 : ∀ ls l, P ls → P (ls ++ [l])) : ∀ ls, P ls := by
  have h : ∀ ls : List α, P ls.reverse := by
    intro ls
    induction ls with
    | nil => exact h0
    | cons l ls ih => rw [List.reverse_cons]; exact h1 _ _ ih
  intro ls
  have := h ls.reverse
  rwa [List.reverse_reverse] at this

/-! ### what Of says of right labels -/
theorem stOf_right : ∀ (ls : List (List UInt8)), (∀ l ∈ ls, 1 ≤ l.length ∧ l.length ≤ 63) → (stOf ls).2 = false ∧ ((flat ls).length ≤ 254 → (stOf ls).1 = flat ls) ∧ (254 < (flat ls).length → 254 < (stOf ls).1.length) := by
  refine snocInd (fun _ => ⟨rfl, fun _ => rfl, fun h => by simp [flat] at h⟩) ?_
  · intro ls l ih h
    have ih' := ih (fun x hx => h x (by simp [hx]))
    have hl := h l (by simp)
    rw [stOf_snoc, flat_snoc]
    obtain ⟨h1, h2, h3⟩ := ih'
    have hb : addBad (stOf ls).2 l = false := by rw [h1]; simp [addBad, hl]
    refine ⟨hb, fun hf => ?_, fun hf => ?_⟩
    · have hf' : (flat ls).length ≤ 254 := by simp at hf; omega
      have := h2 hf'
      simp only [h1, addL, this]
      rw [if_pos ⟨hl.1, hl.2, trivial, by omega⟩]
    · by_cases hf' : (flat ls).length ≤ 254
      · have := h2 hf'
        simp only [h1, addL, this]
        rw [if_pos ⟨hl.1, hl.2, trivial, by omega⟩]
        exact hf
      · have := h3 (by omega)
        simp only [addL]
        split
        · simp; omega
        · exact this

theorem ofR_right {ls : List (List UInt8)} (h : ∀ l ∈ ls, 1 ≤ l.length ∧ l.length ≤ 63) : ofR ls = if (nm ls).size ≤ 255 then (nmL ls, 0) else ([], 3) := by
  obtain ⟨h1, h2, h3⟩ := stOf_right ls h
  unfold ofR nmR
  rw [if_neg (by rw [h1]; simp), nm_size]
  by_cases hf : (flat ls).length ≤ 254
  · rw [h2 hf, if_pos (by omega), if_pos (by omega)]; rfl
  · have := h3 (by omega)
    rw [if_neg (by omega), if_neg (by omega)]

end Go.Proofs.YtlcjagkfeakinaaGreatDoor

/- The document's own Of (guidepostref01). -/
namespace Go.Proofs.YtlcjagkfeakinaaGreatDoor
set_option linter.unusedVariables false
set_option maxRecDepth 100000
open Go.RowKit

def goodL (l : List UInt8) : Prop := 1 ≤ l.length ∧ l.length ≤ 63

theorem toBA (l : List UInt8) : ∃ s : ByteArray, strV l = .string s ∧ s.data.toList = l ∧ s.size = l.length := ⟨⟨l.toArray⟩, rfl, rfl, rfl⟩

end Go.Proofs.YtlcjagkfeakinaaGreatDoor

/- Cased. -/
namespace Go.Proofs.YtlcjagkfeakinaaGreatDoor
set_option linter.unusedVariables false
set_option maxRecDepth 100000
open Go.RowKit

def isLow (b : UInt8) : Bool := decide (97 ≤ b.toNat ∧ b.toNat ≤ 122)
def cnt (l : List UInt8) : Nat := (l.filter isLow).length
def bitAt (bits k : Nat) : Bool := decide (bits / 2 ^ (k % 64) % 2 = 1)
def casB (bits k : Nat) (b : UInt8) : UInt8 := if isLow b = true ∧ bitAt bits k = true then UInt8.ofNat (b.toNat - 32) else b
/-- the bytes with their letters as bits says, k letters having come. -/
def casGo (bits : Nat) : Nat → List UInt8 → List UInt8
  | _, [] => []
  | k, b :: t => casB bits k b :: casGo bits (if isLow b = true then k + 1 else k) t

theorem cnt_snoc (l : List UInt8) (b : UInt8) : cnt (l ++ [b]) = cnt l + if isLow b = true then 1 else 0 := by
  unfold cnt; rw [List.filter_append]
  by_cases h : isLow b = true <;> simp [h]
theorem cnt_le (l : List UInt8) : cnt l ≤ l.length := List.length_filter_le _ _
theorem cnt_cons (b : UInt8) (l : List UInt8) : cnt (b :: l) = (if isLow b = true then 1 else 0) + cnt l := by
  unfold cnt
  by_cases h : isLow b = true
  · simp [h]; omega
  · simp [h]
theorem casGo_snoc (bits : Nat) : ∀ (l : List UInt8) (k : Nat) (b : UInt8), casGo bits k (l ++ [b]) = casGo bits k l ++ [casB bits (k + cnt l) b]
  | [], k, b => by simp [casGo, cnt]
  | c :: l, k, b => by
    rw [List.cons_append, casGo, casGo_snoc bits l, casGo, cnt_cons]
    by_cases h : isLow c = true
    · simp [h]; congr 1; omega
    · simp [h]
theorem casGo_length (bits : Nat) : ∀ (l : List UInt8) (k : Nat), (casGo bits k l).length = l.length
  | [], k => rfl
  | c :: l, k => by simp [casGo, casGo_length bits l]

def casTo (bits : Nat) (l : List UInt8) (k : Nat) : List UInt8 := casGo bits 0 (l.take k) ++ l.drop k
theorem casTo_zero (bits : Nat) (l : List UInt8) : casTo bits l 0 = l := by simp [casTo, casGo]
theorem casTo_all (bits : Nat) (l : List UInt8) (k : Nat) (h : l.length ≤ k) : casTo bits l k = casGo bits 0 l := by simp [casTo, List.take_of_length_le h, List.drop_of_length_le h]
theorem casTo_length (bits : Nat) (l : List UInt8) (k : Nat) : (casTo bits l k).length = l.length := by simp [casTo, casGo_length]; omega
theorem casTo_get (bits : Nat) (l : List UInt8) (k : Nat) (h : k < l.length) : (casTo bits l k)[k]'(by rw [casTo_length]; exact h) = l[k] := by
  have h1 : (casGo bits 0 (l.take k)).length = k := by rw [casGo_length]; simp; omega
  unfold casTo
  rw [List.getElem_append_right (by omega)]
  simp [h1]
theorem casTo_succ (bits : Nat) (l : List UInt8) (k : Nat) (h : k < l.length) : (casTo bits l k).set k (casB bits (cnt (l.take k)) l[k]) = casTo bits l (k + 1) := by
  have h1 : (casGo bits 0 (l.take k)).length = k := by rw [casGo_length]; simp; omega
  unfold casTo
  rw [List.set_append_right _ _ (by omega), h1, Nat.sub_self, List.drop_eq_getElem_cons h, List.take_succ_eq_append_getElem h, List.set_cons_zero, casGo_snoc, Nat.zero_add, List.append_assoc]
  rfl
theorem casTo_same (bits : Nat) (l : List UInt8) (k : Nat) (h : k < l.length) (he : casB bits (cnt (l.take k)) l[k] = l[k]) : casTo bits l (k + 1) = casTo bits l k := by
  rw [← casTo_succ bits l k h, he]
  have := casTo_get bits l k h
  conv => lhs; rw [← this]
  exact List.set_getElem_self _
theorem set_self (l : List UInt8) (k : Nat) (h : k < l.length) : l.set k l[k] = l := List.set_getElem_self h

theorem bit_test (x m : Nat) (h : x < 18446744073709551616) : (Go.bits BinOp.and IntKind.u64 ((x : Int) / 2 ^ (m % 64)) 1 == 1) = bitAt x m := by
  have e : ((x : Int) / 2 ^ (m % 64)) = ((x / 2 ^ (m % 64) : Nat) : Int) := by
    rw [Int.natCast_ediv, Int.natCast_pow]; rfl
  have hle : x / 2 ^ (m % 64) ≤ x := Nat.div_le_self _ _
  rw [e, bitAt]
  generalize x / 2 ^ (m % 64) = y at hle ⊢
  rw [and_one_u64 _ (by omega) (by omega), Bool.eq_iff_iff, beq_iff_eq, decide_eq_true_iff]
  omega

theorem bytesWorld_bytes (w : World) (s : ByteArray) : BytesAt (Lib.bytesWorld w 5 s) w.heap.size s.data.toList := by
  intro j hj
  refine ⟨?_, ?_⟩
  · rw [Lib.bytesWorld_cell w 5 s j (by rw [size_list] at hj; exact hj)]
    rw [show s.data.toList.getD j 0 = s.data.toList[j] by rw [List.getD_eq_getElem?_getD, List.getElem?_eq_getElem hj]; rfl]
  · have hj' : j < s.size := by rw [size_list] at hj; exact hj
    have hc : s.size ≤ (Lib.bytesCells w 5 s).size := by simp [Lib.bytesCells]
    simp [World.frozen?, Lib.bytesWorld_at_new]
    omega

theorem below_bytes (w : World) (s : ByteArray) : Below w.heap.size w (Lib.bytesWorld w 5 s) :=
  ⟨rfl, rfl, rfl, by rw [Lib.bytesWorld_size]; omega, fun k hk => Lib.bytesWorld_at_old w 5 s k hk⟩

end Go.Proofs.YtlcjagkfeakinaaGreatDoor
