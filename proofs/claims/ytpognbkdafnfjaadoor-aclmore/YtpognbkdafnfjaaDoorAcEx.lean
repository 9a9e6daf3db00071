/- Layer 13: the chapter's examples. -/
import Derived.Test.YtpognbkdafnfjaaDoorAcPr
import Derived.Test.YtpognbkdafnfjaaDoorAcNw
namespace Go.Proofs.YtpognbkdafnfjaaDoor
set_option linter.unusedVariables false
set_option linter.unusedSimpArgs false
open Go.RowKit

theorem sizeRl : (Tryd.prog.info? 36).map (·.size) = some 5 := by kernel_rfl
theorem results_rl {fn : Func} {p : Tmp} (h : fn.results = #[.cell p 36]) {tmps : Array Value} {W : World} {b : Nat} {x y z u s : Value} (hp : tmps.getD p undef = .pointer (some ⟨b, 0, none⟩)) (hb : W.heap[b]? = some (.cells #[x, y, z, u, s] 36 (0, 0))) : (results fn tmps).run Tryd.prog W = .ok (.agg #[x, y, z, u, s]) W := by
  have hp' : tmps[p]?.getD undef = .pointer (some ⟨b, 0, none⟩) := by simpa using hp
  have hl : (loadVar 36 ⟨b, 0, none⟩).run Tryd.prog W = .ok (.agg #[x, y, z, u, s]) W := run_loadVar_row W b _ _ _ (0, 0) _ hb Tryd.underlying36 rfl sizeRl
  simp only [results, h]
  simp [hp', asAddr, hl]
set_option maxRecDepth 100000 in
theorem rule_in (w : World) (lo : Nat) (n act : Int) : Calls Tryd.prog 18 #[.int .u64 (lo : Int), .int .i64 n, .int .i64 act] w fun e w' => e = .returned (rlV false 0 lo n act) ∧ w' = w.alloc (rlO false 0 lo n act) := by
  go_enter Tryd.func18, Tryd.ntmps18
  go_wp2
  exact bodyPost_ret (results_rl Tryd.results18 rfl (heap_alloc_last _ _)) rfl ⟨rfl, rfl⟩
def rlC (r : Rl) : List Value := [.bool r.p.v6, .int .u64 (r.p.hi : Int), .int .u64 (r.p.lo : Int), .int .i64 r.n, .int .i64 r.act]
def rsC (rs : List Rl) : List Value := rs.flatMap rlC
theorem rsC_len (rs : List Rl) : (rsC rs).length = rs.length * 5 := by
  induction rs with
  | nil => rfl
  | cons r rs ih =>
    unfold rsC at ih ⊢
    rw [List.flatMap_cons, List.length_append, ih, List.length_cons]
    show 5 + _ = _
    omega
theorem rsC_at : ∀ (rs : List Rl) (j : Nat) (hj : j < rs.length) (i : Nat), i < 5 → (rsC rs)[j * 5 + i]? = (rlC rs[j])[i]?
  | r :: rs, 0, _, i, hi => by
    unfold rsC
    rw [List.flatMap_cons, Nat.zero_mul, Nat.zero_add, List.getElem?_append_left (show i < 5 from hi)]
    rfl
  | r :: rs, j + 1, hj, i, hi => by
    have ih := rsC_at rs j (by simpa using hj) i hi
    unfold rsC at ih ⊢
    rw [List.flatMap_cons, List.getElem?_append_right (show 5 ≤ _ by omega), show (j + 1) * 5 + i - (rlC r).length = j * 5 + i by show _ - 5 = _; omega, ih]
    rfl
theorem rls_cells {w : World} {b off : Nat} {rs : List Rl} (hb : b < w.heap.size) (h : ∀ k (x : Value), (rsC rs)[k]? = some x → w.cell? ⟨b, off + k, none⟩ = some x) : RlsAt w (some ⟨b, off, none⟩) rs := fun j hj => by
  have e := fun i hi => rsC_at rs j hj i hi
  refine ⟨b, off, rfl, hb, ?_, ?_, ?_, ?_, ?_⟩
  · exact h _ _ ((e 0 (by omega)).trans rfl)
  · rw [Nat.add_assoc]; exact h _ _ ((e 1 (by omega)).trans rfl)
  · rw [Nat.add_assoc]; exact h _ _ ((e 2 (by omega)).trans rfl)
  · rw [Nat.add_assoc]; exact h _ _ ((e 3 (by omega)).trans rfl)
  · rw [Nat.add_assoc]; exact h _ _ ((e 4 (by omega)).trans rfl)
theorem rls_heap {w : World} {b : Nat} {rs : List Rl} {t : TypeId} (h : w.heap[b]? = some (.cells (rsC rs).toArray t (0, 0))) : RlsAt w (some ⟨b, 0, none⟩) rs :=
  rls_cells (Array.getElem?_eq_some_iff.1 h).1 (fun k x hx => by rw [Nat.zero_add]; exact cell_of_heap h (by simpa using hx))
def exR0 : Rl := ⟨⟨false, 0, 167837696⟩, 8, 1⟩
def exR1 : Rl := ⟨⟨false, 0, 167772160⟩, 8, 1⟩
def exR2 : Rl := ⟨⟨false, 0, 167837696⟩, 16, 3⟩
theorem ex_txt : txt ⟨false, 0, 3221225985⟩ = [49, 57, 50, 46, 48, 46, 50, 46, 49] := by decide +kernel
theorem ex_prs : prs [58, 58, 49] = none := by decide +kernel
theorem ex_no : ¬ OkRs [exR0] := fun h => absurd (h.1 exR0 (by simp)) (by decide +kernel)
theorem ex_ok : OkRs [exR1, exR2] := ⟨by
  intro r hr
  simp at hr
  rcases hr with rfl | rfl <;> decide +kernel, by
  simp
  decide +kernel⟩
theorem ex_f1 : Fnd [exR1, exR2] ⟨false, 0, 167838211⟩ ⟨3, exR2.p, 16, true⟩ := .inr ⟨exR2, by simp, by decide +kernel, by
  intro r hr _
  simp at hr
  rcases hr with rfl | rfl <;> decide, rfl⟩
theorem ex_f2 : Fnd [exR1, exR2] ⟨false, 0, 167903232⟩ ⟨1, exR1.p, 8, true⟩ := .inr ⟨exR1, by simp, by decide +kernel, by
  intro r hr hh
  simp at hr
  rcases hr with rfl | rfl
  · decide
  · exact absurd hh (by decide +kernel), rfl⟩
theorem ex_f3 : Fnd [exR1, exR2] ⟨false, 0, 184549376⟩ noRes := .inl ⟨by
  intro r hr
  simp at hr
  rcases hr with rfl | rfl <;> decide +kernel, rfl⟩
theorem ex_ok_uniq {a : Ad} {x y : Res} (hx : Fnd [exR1, exR2] a x) (hy : Fnd [exR1, exR2] a y) : x = y := Fnd.uniq ex_ok hx hy
theorem Tr.zero {N : Nat} {w : World} {X : Nat} {D : Nd} {A : Bool → List Bool → Int} (h : Tr N w X D A) : Tr 0 w X D A :=
  ⟨h.root, h.up, fun v q p hp => ⟨Nat.zero_le _, (h.old v q p hp).2⟩, h.inj, h.cel, h.fro, h.zer⟩
theorem ex_rok : ∀ r ∈ [exR1, exR2], r.ok := by
  intro r hr
  simp at hr
  rcases hr with rfl | rfl
  · exact ⟨by decide, by decide, by decide⟩
  · exact ⟨by decide, by decide, by decide⟩

set_option maxRecDepth 100000 in
set_option maxHeartbeats 8000000 in
theorem examples_in (W : World) (hG : AG W) : Calls Tryd.prog 8 #[] W fun e w' => e = .returned (.bool true) ∧ Below W.heap.size W w' := by
  have HT : Hid (Calls Tryd.prog 15 #[adV false 0 3221225985] W fun e w' => e = .returned (.tuple #[.string ⟨#[49, 57, 50, 46, 48, 46, 50, 46, 49]⟩, .int .i64 0]) ∧ Below W.heap.size W w') := by
    have := text_in W false 0 3221225985 (by decide) (by decide) hG
    rw [if_pos (by decide), ex_txt] at this
    exact this
  have HP : Hid (∀ w, Below W.heap.size W w → Calls Tryd.prog 16 #[.string ⟨#[58, 58, 49]⟩] w fun e w' => e = .returned (.tuple #[adV false 0 0, .int .i64 7]) ∧ Below w.heap.size w w') := fun w hb => by
    have := parse_in ⟨#[58, 58, 49]⟩ (by decide) w (hG.below hb)
    rw [show (⟨#[58, 58, 49]⟩ : ByteArray).data.toList = [58, 58, 49] from rfl, ex_prs] at this
    exact this
  have HRU := Hid.mk rule_in
  clear hG
  go_enter Tryd.func8, Tryd.ntmps8
  go_wp2_with fail
  refine HT.out.mono ?_
  rintro e w1 ⟨rfl, hb1⟩
  go_wp2_with fail
  refine (HP.out _ hb1).mono ?_
  rintro e w2 ⟨rfl, hb2⟩
  replace hb2 := hb1.trans (hb2.mono hb1.size)
  clear hb1
  go_wp2_with fail
  refine (HRU.out _ 167837696 8 1).mono ?_
  rintro e w3 ⟨rfl, rfl⟩
  have HN1 : Hid (∀ (V : World) (b : Nat), b = V.heap.size → Calls Tryd.prog 9 #[.slice (some ⟨b, 0, none⟩) 1 1] (V.alloc (.cells #[.bool false, .int .u64 0, .int .u64 167837696, .int .i64 8, .int .i64 1] 36 (0, 0))) fun e w' => e = .returned (.tuple #[.pointer none, .int .i64 12]) ∧ Below (V.heap.size + 1) (V.alloc (.cells #[.bool false, .int .u64 0, .int .u64 167837696, .int .i64 8, .int .i64 1] 36 (0, 0))) w') := fun V b hb => by
    subst hb
    have hat : RlsAt (V.alloc (.cells #[.bool false, .int .u64 0, .int .u64 167837696, .int .i64 8, .int .i64 1] 36 (0, 0))) (some ⟨V.heap.size, 0, none⟩) [exR0] := rls_heap (heap_alloc_last _ _)
    refine (new_in _ _ 1 [exR0] hat (by intro r hr; simp at hr; subst hr; exact ⟨by decide, by decide, by decide⟩) (by decide) (by decide)).mono ?_
    rintro e w' ⟨hb, h | h⟩
    · exact absurd h.1 ex_no
    · exact ⟨h.2, by simpa using hb⟩
  have HN2 : Hid (∀ (V : World) (b : Nat), b = V.heap.size → Calls Tryd.prog 9 #[.slice (some ⟨b, 0, none⟩) 2 2] (V.alloc (.cells #[.bool false, .int .u64 0, .int .u64 167772160, .int .i64 8, .int .i64 1, .bool false, .int .u64 0, .int .u64 167837696, .int .i64 16, .int .i64 3] 36 (0, 0))) fun e w' => ∃ X D, e = .returned (.tuple #[pt X, .int .i64 0]) ∧ Tr 0 w' X D (look [exR1, exR2]) ∧ Below (V.heap.size + 1) (V.alloc (.cells #[.bool false, .int .u64 0, .int .u64 167772160, .int .i64 8, .int .i64 1, .bool false, .int .u64 0, .int .u64 167837696, .int .i64 16, .int .i64 3] 36 (0, 0))) w') := fun V b hb => by
    subst hb
    have hat : RlsAt (V.alloc (.cells #[.bool false, .int .u64 0, .int .u64 167772160, .int .i64 8, .int .i64 1, .bool false, .int .u64 0, .int .u64 167837696, .int .i64 16, .int .i64 3] 36 (0, 0))) (some ⟨V.heap.size, 0, none⟩) [exR1, exR2] := rls_heap (heap_alloc_last _ _)
    refine (new_in _ _ 2 [exR1, exR2] hat ex_rok (by decide) (by decide)).mono ?_
    rintro e w' ⟨hb, h | h⟩
    · obtain ⟨_, D, he, hT, _⟩ := h
      exact ⟨_, D, he, hT.zero, by simpa using hb⟩
    · exact absurd ex_ok h.1
  have HF : Hid (∀ (w : World) X D (lo : Nat) (res : Res), lo < 2 ^ 64 → Tr 0 w X D (look [exR1, exR2]) → Fnd [exR1, exR2] ⟨false, 0, lo⟩ res → Calls Tryd.prog 11 #[pt X, adV false 0 lo] w fun e w' => e = .returned (resV res) ∧ Below w.heap.size w w') := fun w X D lo res hlo hT hF => by
    refine (find_in hT ex_ok.1 ex_rok false 0 lo (by decide) hlo).mono ?_
    rintro e w' ⟨res', h1, h2, h3⟩
    rw [ex_ok_uniq h1 hF] at h2
    exact ⟨h2, h3⟩
  go_wp2_with fail
  refine (HN1.out _ _ (by simp)).mono ?_
  rintro e w3 ⟨rfl, hb3⟩
  replace hb3 : Below W.heap.size W w3 := by
    have h0 : Below W.heap.size W (((w2.alloc (.cells #[.bool false, .int .u64 0, .int .u64 0] 32 (0, 0))).alloc (rlO false 0 167837696 8 1)).alloc (.cells #[.bool false, .int .u64 0, .int .u64 167837696, .int .i64 8, .int .i64 1] 36 (0, 0))) := hb2.trans (by have := hb2.size; go_grown)
    exact h0.trans (hb3.mono (by have := hb2.size; simp; omega))
  obtain ⟨b2, hb2'⟩ : ∃ b2, w2.heap.size = b2 := ⟨_, rfl⟩
  rw [hb2']
  clear hb2 hb2'
  go_wp2_with fail
  refine (HRU.out _ 167772160 8 1).mono ?_
  rintro e w4 ⟨rfl, rfl⟩
  go_wp2_with fail
  refine (HRU.out _ 167837696 16 3).mono ?_
  rintro e w4 ⟨rfl, rfl⟩
  go_wp2_with fail
  refine (HN2.out _ _ (by simp)).mono ?_
  rintro e w4 ⟨X, D, rfl, T, hb4⟩
  replace hb4 : Below W.heap.size W w4 := by
    have h0 : Below W.heap.size W (((w3.alloc (rlO false 0 167772160 8 1)).alloc (rlO false 0 167837696 16 3)).alloc (.cells #[.bool false, .int .u64 0, .int .u64 167772160, .int .i64 8, .int .i64 1, .bool false, .int .u64 0, .int .u64 167837696, .int .i64 16, .int .i64 3] 36 (0, 0))) := hb3.trans (by have := hb3.size; go_grown)
    exact h0.trans (hb4.mono (by have := hb3.size; simp; omega))
  obtain ⟨b3, hb3'⟩ : ∃ b3, w3.heap.size = b3 := ⟨_, rfl⟩
  rw [hb3']
  clear hb3 hb3' HT HP HRU HN1 HN2
  have HF1 : Hid (Calls Tryd.prog 11 #[pt X, .agg #[.bool false, .int .u64 0, .int .u64 167838211]] w4 fun e w' => e = .returned (.tuple #[.int .i64 3, .agg #[.bool false, .int .u64 0, .int .u64 167837696, .int .i64 16], .bool true]) ∧ Below w4.heap.size w4 w') := HF.out _ X D 167838211 _ (by decide) T ex_f1
  go_wp2_with fail
  refine HF1.out.mono ?_
  rintro e w5 ⟨rfl, hb5⟩
  have T5 := T.blk hb5
  replace hb5 := hb4.trans (hb5.mono hb4.size)
  have T5a : Tr 0 (w5.alloc (.cells #[.bool false, .int .u64 0, .int .u64 167837696, .int .i64 16] 34 (0, 0))) X D (look [exR1, exR2]) := T5.blk (by go_grown)
  have hb5a : Below W.heap.size W (w5.alloc (.cells #[.bool false, .int .u64 0, .int .u64 167837696, .int .i64 16] 34 (0, 0))) := hb5.alloc hb5.size _
  have HF2 : Hid (Calls Tryd.prog 11 #[pt X, .agg #[.bool false, .int .u64 0, .int .u64 167903232]] _ fun e w' => e = .returned (.tuple #[.int .i64 1, .agg #[.bool false, .int .u64 0, .int .u64 167772160, .int .i64 8], .bool true]) ∧ Below _ _ w') := HF.out _ X D 167903232 _ (by decide) T5a ex_f2
  clear T T5 hb4 hb5 HF1
  go_wp2_with fail
  refine HF2.out.mono ?_
  rintro e w6 ⟨rfl, hb6⟩
  have T6 := T5a.blk hb6
  replace hb6 := hb5a.trans (hb6.mono hb5a.size)
  have T6a : Tr 0 (w6.alloc (.cells #[.bool false, .int .u64 0, .int .u64 167772160, .int .i64 8] 34 (0, 0))) X D (look [exR1, exR2]) := T6.blk (by go_grown)
  have hb6a : Below W.heap.size W (w6.alloc (.cells #[.bool false, .int .u64 0, .int .u64 167772160, .int .i64 8] 34 (0, 0))) := hb6.alloc hb6.size _
  have HF3 : Hid (Calls Tryd.prog 11 #[pt X, .agg #[.bool false, .int .u64 0, .int .u64 184549376]] _ fun e w' => e = .returned (.tuple #[.int .i64 2, .agg #[.bool false, .int .u64 0, .int .u64 0, .int .i64 0], .bool false]) ∧ Below _ _ w') := HF.out _ X D 184549376 _ (by decide) T6a ex_f3
  obtain ⟨b5, hb5'⟩ : ∃ b5, w5.heap.size = b5 := ⟨_, rfl⟩
  rw [hb5']
  clear T5a T6 hb5a hb6 HF2 HF T6a hb5'
  go_wp2_with fail
  refine HF3.out.mono ?_
  rintro e w7 ⟨rfl, hb7⟩
  replace hb7 := hb6a.trans (hb7.mono hb6a.size)
  obtain ⟨b6, hb6'⟩ : ∃ b6, w6.heap.size = b6 := ⟨_, rfl⟩
  rw [hb6']
  clear hb6a hb6' HF3
  go_wp2
  go_ret
  exact ⟨rfl, hb7.alloc hb7.size _⟩
end Go.Proofs.YtpognbkdafnfjaaDoor
