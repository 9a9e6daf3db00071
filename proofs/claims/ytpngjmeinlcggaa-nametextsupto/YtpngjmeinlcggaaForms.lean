/- Labels: the row of labels is its owner's; and the law's own 'texts'. -/
import Derived.Test.YtpngjmeinlcggaaRefMake
import Derived.Test.YtpngjmeinlcggaaKin2
namespace Go.Proofs.Ytpngjmeinlcggaa
set_option linter.unusedVariables false
open Go.RowKit Go.Shelf
attribute [local go_sem] Oper.semAt_some

theorem row_from {W : World} {n₀ n₁ n : Nat} {e : TypeId} {v : Value} {xs : List Value} (h : W.ownsRow n₁ e 1 v n xs) (hn : n₀ ≤ n₁) : W.ownsRow n₀ e 1 v n xs := by
  refine ⟨h.1, ?_⟩
  rcases h.2 with h' | ⟨g, cap, cur, hv, hb', hr⟩
  · exact .inl h'
  · exact .inr ⟨g, cap, cur, hv, by omega, hr⟩

set_option maxRecDepth 100000 in
set_option maxHeartbeats 1000000 in
theorem labelsOf_own (ls : List (List UInt8)) (ho : OkN ls) (w : World) :
    Calls Try.prog 41 #[.string (nm ls)] w fun e w' => (∃ v, e = .returned v ∧ w'.ownsRow w.heap.size 9 1 v ls.length (strsV ls)) ∧ Below w.heap.size w w' := by
  have hsz : (nm ls).size ≤ 255 := by rw [nm_size]; have := ho.len; omega
  obtain ⟨i0, hi, hz0, hz1, hz2⟩ := info_parts info9
  refine (callsIn_wide (n := 5)).1 ?_
  refine callsIn_of_wp_marks Try.func41 rfl trivial ?_ rfl
  simp only [Try.ntmps41, List.size_toArray, List.length_cons, List.length_nil, Nat.reduceAdd, Nat.reduceSub, Array.replicate_succ, Array.replicate_zero, List.push_toArray, List.append_toArray, List.nil_append, List.cons_append]
  gi_wp2_with (refine ⟨trivial, ?_⟩; gi_at_call 43; refine (callsIn_wide.2 (eachLabel_in _ _)).mono ?_; rintro e w' ⟨rfl, rfl⟩)
  have hs : ((w.alloc (.cells #[.slice none 0 0] 22)).alloc (.cells #[.string (nm ls)] 9)).cell? ⟨w.heap.size + 1, 0, none⟩ = some (.string (nm ls)) := by
    have := (Boxed.new (w.alloc (.cells #[.slice none 0 0] 22)) 9 (.string (nm ls))).cell
    rwa [World.size_alloc] at this
  refine wpIn_rangeFunc_ownF rfl (by omega) (gf := 62) (lb := #[.pointer (some ⟨w.heap.size + 1, 0, none⟩)]) rfl trivial (enters_of Try.func62 (by kernel_rfl) rfl)
    (eachLabel_stops Fence.wide (5 - 1) trivial rfl (by omega) (w.heap.size + 1) (nm ls) hsz _ (by simp) hs) KeepCell.t KeepCell.b (Below.refl _ _) (fun _ => rfl)
    (fun pre W => (∃ v, Boxed W w.heap.size 22 v ∧ W.ownsRow (w.heap.size + 2) 9 1 v (labs pre).length (strsV (labs pre)) ∧ True) ∧ (w.heap.size + 2 ≤ W.heap.size ∧ Below w.heap.size w W))
    (fun c pre W => False)
    ?hI ?hIx ?h0 (fun x => { tmps := #[.string (nm ls), undef, .slice none 0 0, .pointer (some ⟨w.heap.size, 0, none⟩), undef, .string x.1.2, .string (nm ls), .func (.func 62) #[] #[.pointer (some ⟨w.heap.size + 1, 0, none⟩)], .int .i64 (x.1.1 : Int), .string x.1.2, undef, undef, undef, undef, undef], defers := [] }) ?assign ?body ?done ?stop
  case hI =>
    refine OwnFrom.and (Own.from (holdsRow_own (w.heap.size + 2) w.heap.size 22 9 1 (fun pre => (labs pre).length) (fun pre => strsV (labs pre)) (fun _ _ => True)) _) (OwnFrom.and ?_ (ownFrom_below (Nat.le_refl _) (by simp; omega)))
    intro s A B row hs hg hr
    exact Nat.le_trans hs hg.size
  case hIx => exact fun c => ownFrom_pure _ _
  case h0 =>
    exact ⟨⟨.slice none 0 0, (Boxed.new _ _ _).alloc _, World.ownsRow_nil .., trivial⟩, by simp, ((Below.refl _ _).alloc (Nat.le_refl _) _).alloc (by simp) _⟩
  case assign =>
    intro l x W K hK
    gi_wp2
    exact hK
  case body =>
    rintro l pre x W ⟨⟨v, hv, hrow, -⟩, hle, hB⟩ hpl
    have hx1 := x.2.1
    have hx2 := x.2.2
    have hc := hv.cell
    gi_wp2_with (gi_at_builtin; refine wpListIn_append_own _ rfl _ _ 22 rfl (w.heap.size + 2) 9 i0 (.string ⟨#[]⟩) 1 16 Try.underlying22 hi hz0 hz1 hz2 rfl (by decide) _ _ _ rfl (hrow.alloc _) ⟨W.heap.size, 0, none⟩ 1 1 [.string x.1.2] rfl rfl (cell_one_new _ _ _) (by simp [Value.oneCell']) (by simp [labs]; unfold maxLen; omega) (by simp [labs]; omega) (by simp; omega) ?_; intro v' w1 hown' hgrow _; obtain ⟨g', cap', rfl⟩ := ownsRow_succ hown'; obtain ⟨hv1, hv2, hr2, hk2, hb2⟩ := appended2 hv (by decide) hrow (by omega) hown' hgrow; have hc1 := hv1.cell; have hf1 := hv1.frozen)
    refine ⟨hk2, KeepCell.t (KeepCell.below (hb2 (w.heap.size + 2) (Nat.le_refl _)) (by omega)) (KeepCell.setCell _ _ (by omega)), ⟨_, hv2, ?_, trivial⟩, ?_, ?_⟩
    · rw [labs_snoc, List.length_append]
      simpa [strsV, strV_of] using hr2
    · have := (hb2 0 (Nat.zero_le _)).size; simp; omega
    · exact hB.trans ((hb2 w.heap.size (by omega)).setCell (p := ⟨w.heap.size, 0, none⟩) (Nat.le_refl _) _)
  case done =>
    rintro D ys W hD ⟨hsq, hpl, hen⟩ ⟨⟨v, hv, hrow, -⟩, hle, hB⟩ hK
    have hc := hv.cell
    have hys : labs ys = ls := hsq.all_name ho hen
    gi_wp2
    refine ⟨by simp, .inl ⟨_, _, rfl, run_takeDeferred hK, ?_⟩⟩
    refine ⟨_, results_tmp rfl _ _ _, ⟨v, rfl, ?_⟩, hB.trans (belowK_b (w := w) (Nat.le_refl _) W D _ _ (by simp at hD; omega) hK rfl rfl)⟩
    rw [hys] at hrow
    exact row_from (ownsRow_putObj hrow _ hK rfl) (by omega)
  case stop =>
    rintro D c pre W _ _ h _
    exact h.elim

theorem labels_own (ls : List (List UInt8)) (ho : OkN ls) (w : World) :
    Calls Try.prog 14 #[.string (nm ls)] w fun e w' => (∃ v, e = .returned v ∧ w'.ownsRow w.heap.size 9 1 v ls.length (strsV ls)) ∧ Below w.heap.size w w' := by
  have hz : (nm ls).size ≤ 255 := by rw [nm_size]; have := ho.len; omega
  go_enter Try.func14, Try.ntmps14
  go_wp2_with fail
  refine (right_yes ls ho _).mono ?_
  rintro e w1 ⟨rfl, hb1⟩
  go_wp2_with fail
  refine (clone_in _ _ hz).mono ?_
  rintro e w2 ⟨rfl, hb2⟩
  go_wp2_with fail
  refine (labelsOf_own ls ho _).mono ?_
  rintro e w3 ⟨⟨v, rfl, hv⟩, hb3⟩
  go_wp2
  go_ret
  exact ⟨⟨v, rfl, row_from hv (Nat.le_trans hb1.size hb2.size)⟩, bthen hb1 (bthen hb2 hb3)⟩

theorem low_yes (ls : List (List UInt8)) (ho : OkN ls) (w : World) :
    Calls Try.prog 16 #[.string (nm ls)] w fun e w' => e = .returned (.string (nm (lowN ls))) ∧ Below w.heap.size w w' := by
  go_enter Try.func16, Try.ntmps16
  go_wp2_with fail
  refine (right_yes ls ho _).mono ?_
  rintro e w1 ⟨rfl, hb1⟩
  go_wp2_with fail
  refine (lowered_nm ls ho _).mono ?_
  rintro e w2 ⟨rfl, hb2⟩
  go_wp2
  go_ret
  exact ⟨rfl, bthen hb1 hb2⟩
theorem low_no (s : ByteArray) (hs : s.size ≤ maxLen) (h : ¬ IsName s) (w : World) :
    Calls Try.prog 16 #[.string s] w fun e w' => e = .returned (.string s) ∧ Below w.heap.size w w' := by
  go_enter Try.func16, Try.ntmps16
  go_wp2_with fail
  refine (right_no s h hs _).mono ?_
  rintro e w1 ⟨rfl, hb1⟩
  go_wp2
  go_ret
  exact ⟨rfl, hb1⟩

/-- two lists of texts that are the same. -/
theorem texts_same (a1 a2 : Option Addr) (c1 c2 : Nat) (ls : List (List UInt8)) (w : World) (hn : ls.length ≤ maxLen)
    (h1 : ∀ j (h : j < ls.length), ∃ b off, a1 = some ⟨b, off, none⟩ ∧ w.cell? ⟨b, off + j, none⟩ = some (strV ls[j]))
    (h2 : ∀ j (h : j < ls.length), ∃ b off, a2 = some ⟨b, off, none⟩ ∧ w.cell? ⟨b, off + j, none⟩ = some (strV ls[j])) :
    Calls Try.prog 13 #[.slice a1 ls.length c1, .slice a2 ls.length c2] w fun e w' => e = .returned (.bool true) ∧ Below w.heap.size w w' := by
  unfold maxLen at hn
  go_enter Try.func13, Try.ntmps13
  go_wp2
  go_loopw [5] (fun i wr => ∃ k : Nat, k ≤ ls.length ∧ i = .int .i64 k ∧ ∃ n, wr = w.drewN n) (fun i _ => ls.length - (intOf i).toNat)
  case atStart => exact ⟨0, Nat.zero_le _, rfl, 0, rfl⟩
  case round =>
    obtain ⟨k, hk, rfl, n, rfl⟩ := hrel
    by_cases hlt : k < ls.length
    · obtain ⟨b, off, rfl, hc1⟩ := h1 k hlt
      obtain ⟨b2, off2, rfl, hc2⟩ := h2 k hlt
      obtain ⟨s, hs1, hs2, hs3⟩ := toBA ls[k]
      rw [hs1] at hc1 hc2
      have hss : (s.toList == s.toList) = true := by simp
      clear hs1 hs2 hs3 h1 h2
      go_wp2
      go_quiet (fail)
      go_wp2
      go_roundw
      case rel => exact ⟨k + 1, by omega, by go_num, _, rfl⟩
      case measure => simp [intOf]; omega
    · go_wp2
      go_ret
      exact ⟨rfl, below_drewN (Below.refl _ _) n⟩

theorem add_on (b off j : Nat) : (⟨b, off, none⟩ : Addr).add j = ⟨b, off + j, none⟩ := by
  unfold Addr.add
  by_cases h : j = 0
  · subst h; rfl
  · simp [h]

/-- 'append(nil, more...)' of texts that came in. -/
theorem wpList_append_in {W : World} {ops : Array Oper} {rest : List Oper} {o : Oper} {a : Act} {Q : Exit → Act → World → Prop} (hgd : o.guard = none) (s x : Operand)
    (ho : o.op = .call { callee := .builtin .append, args := #[s, x], argTypes := #[22, 22] })
    (a0 : Option Addr) (c : Nat) (ls : List (List UInt8)) (hs : a.eval s = .slice none 0 0) (hx : a.eval x = .slice a0 ls.length c) (hl : ls.length * 16 ≤ 140737488355328)
    (hin : (a0 = none ∧ ls = [] ∧ c = 0) ∨ ∃ ad, a0 = some ad ∧ (ls ≠ [] → ∃ b off, ad = ⟨b, off, none⟩ ∧ b < W.heap.size ∧ ∀ j (h : j < ls.length), W.cell? ⟨b, off + j, none⟩ = some (strV ls[j])))
    (h : ∀ v' w', w'.ownsRow W.heap.size 9 1 v' ls.length (strsV ls) → Below W.heap.size W w' → wpList Try.prog ops Q rest (a.put o.dst v') w') : wpList Try.prog ops Q (o :: rest) a W := by
  obtain ⟨i0, hi, hz0, hz1, hz2⟩ := info_parts info9
  rcases hin with ⟨rfl, rfl, rfl⟩ | ⟨ad, rfl, hc⟩
  · refine wpList_append_own_none hgd s x 22 ho W.heap.size 9 i0 1 Try.underlying22 hi _ 0 [] hs (World.ownsRow_nil ..) hx ?_
    exact h _ W (World.ownsRow_nil ..) (Below.refl _ _)
  · refine wpList_append_own W hgd s x 22 ho W.heap.size 9 i0 (.string ⟨#[]⟩) 1 16 Try.underlying22 hi hz0 hz1 hz2 rfl (by decide) _ 0 [] hs (World.ownsRow_nil ..) ad ls.length c (strsV ls) hx (by rw [strsV_len]; omega) ?_ (strs_one ls) (by unfold maxLen; omega) (by omega) (Nat.le_refl _) ?_
    · intro j u hu
      obtain ⟨hj, he⟩ := List.getElem?_eq_some_iff.1 hu
      have hj' : j < ls.length := by simpa [strsV] using hj
      obtain ⟨b, off, rfl, _, hc'⟩ := hc (by intro e; subst e; simp at hj')
      rw [add_on, hc' j hj', ← he]; simp [strsV]
    · intro v' w' h1 h2 _
      exact h v' w' (by simpa using h1) ((Below.refl _ W).grown h2 (Nat.le_refl _) (by intro k e; simp [Value.ownBlock] at e))

theorem Strs.cells {n : Nat} {W : World} {q : Option Addr} {c : Nat} {ls : List (List UInt8)} (h : Strs n W (.slice q ls.length c) ls) : ∀ j (h : j < ls.length), ∃ b off, q = some ⟨b, off, none⟩ ∧ W.cell? ⟨b, off + j, none⟩ = some (strV ls[j]) := by
  intro j hj
  rcases h with ⟨_, rfl⟩ | ⟨g, cap, hv, hg, hc⟩
  · simp at hj
  · cases hv; exact ⟨g, 0, rfl, by rw [Nat.zero_add]; exact hc j hj⟩

/-- so many cells of block g that may be written. -/
def Free (W : World) (g n : Nat) : Prop := ∀ j, j < n → (∃ u, W.cell? ⟨g, j, none⟩ = some u) ∧ W.frozen? ⟨g, j, none⟩ = false
theorem Free.set {W : World} {g n : Nat} (h : Free W g n) (k : Nat) (u : Value) : Free (W.setCell ⟨g, k, none⟩ u) g n := by
  intro j hj
  obtain ⟨⟨v, hv⟩, hf⟩ := h j hj
  refine ⟨?_, by rw [World.frozen?_setCell]; exact hf⟩
  by_cases e : k = j
  · subst e
    exact ⟨u, World.cell?_setCell_same' _ _ _ (by rw [hv]; rfl)⟩
  · exact ⟨v, by rw [World.cell?_setCell_other (h := by intro e'; cases e'; exact e rfl)]; exact hv⟩
theorem free_of_row {W : World} {n₀ n : Nat} {e : TypeId} {v : Value} {xs : List Value} (h : W.ownsRow n₀ e 1 v n xs) : ∃ q c, v = .slice q n c ∧ (0 < n → ∃ g, q = some ⟨g, 0, none⟩ ∧ n₀ ≤ g ∧ Free W g n) := by
  rcases h.2 with ⟨rfl, rfl⟩ | ⟨g, cap, cur, rfl, hb, hg, hc, _, hs, _⟩
  · exact ⟨none, 0, rfl, fun h => absurd h (by omega)⟩
  · refine ⟨_, cap, rfl, fun _ => ⟨g, rfl, hb, fun j hj => ⟨?_, ?_⟩⟩⟩
    · have hj' : j < cur.size := by omega
      exact ⟨cur[j], by simp [World.cell?, hg, hj']⟩
    · simp [World.frozen?, hg]

theorem rOf_zero (a0 : Option Addr) (c : Nat) (w : World) :
    Calls Try.prog 12 #[.slice a0 0 c] w fun e w' => e = .returned (resV (ofR [])) ∧ Below w.heap.size w w' := by
  go_enter Try.func12, Try.ntmps12
  go_wp2
  go_loop [6] (fun i => i = .int .i64 0) (fun i => 0)
  case atStart => rfl
  case round =>
    obtain rfl := hrel
    go_wp2
    go_loopw [4, 5, 7] (fun sv lv i wr => sv = .string ⟨#[]⟩ ∧ lv = .bool false ∧ i = .int .i64 0 ∧ wr = w) (fun _ _ i _ => 0)
    case atStart => exact ⟨rfl, rfl, rfl, rfl⟩
    case round =>
      obtain ⟨rfl, rfl, rfl, rfl⟩ := hrel
      go_wp2
      go_ret2
      exact ⟨rfl, Below.refl _ _⟩

theorem stOf_good : ∀ ls : List (List UInt8), (stOf ls).2 = false → ∀ l ∈ ls, goodL l := by
  refine snocInd (fun _ l hl => by simp at hl) ?_
  intro ls l ih h
  rw [stOf_snoc] at h
  simp only [addBad, Bool.or_eq_false_iff, decide_eq_false_iff_not, Classical.not_not] at h
  intro x hx
  rcases List.mem_append.1 hx with hx | hx
  · exact ih h.1 x hx
  · simp only [List.mem_singleton] at hx; subst hx; exact h.2

/-- the two ways to make a name of labels answer the same. -/
theorem ofR_rofR (ls : List (List UInt8)) : rofR ls = ofR ls := by
  unfold rofR
  split
  · rfl
  · rename_i h
    have hb : (stOf ls).2 = true := by
      cases hc : (stOf ls).2 with
      | true => rfl
      | false => exact absurd (stOf_good ls hc) h
    rw [ofR, nmR, if_pos hb]
end Go.Proofs.Ytpngjmeinlcggaa
