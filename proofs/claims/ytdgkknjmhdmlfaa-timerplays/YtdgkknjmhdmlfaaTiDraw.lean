/- Layer 12: drawn numbers. -/
import Derived.Laws.AppendOwnNone
import Derived.Test.YtdgkknjmhdmlfaaTiDue
namespace Go.Proofs.Ytdgkknjmhdmlfaa
set_option linter.unusedVariables false
open Go.RowKit
open Go.MapKept Go.WideMaps

/-- numbers of 64 bits that lie in a slice. -/
structure Nums (w : World) (v : Value) (us : List Int) : Prop where
  at' : ∃ q cap, v = .slice q us.length cap ∧ us.length ≤ cap ∧ cap ≤ 9223372036854775807 ∧ (q = none → cap = 0) ∧ ∀ j (h : j < us.length), ∃ g off, q = some ⟨g, off, none⟩ ∧ g < w.heap.size ∧ w.cell? ⟨g, off + j, none⟩ = some (.int .u64 us[j])
  rng : ∀ u ∈ us, 0 ≤ u ∧ u < 18446744073709551616
theorem Nums.below {w w' : World} {v : Value} {us : List Int} (h : Nums w v us) (hb : Below w.heap.size w w') : Nums w' v us := by
  obtain ⟨q, cap, h1, h2, h3, h0, h4⟩ := h.at'
  refine ⟨⟨q, cap, h1, h2, h3, h0, fun j hj => ?_⟩, h.rng⟩
  obtain ⟨g, off, e, hg, hc⟩ := h4 j hj
  exact ⟨g, off, e, Nat.lt_of_lt_of_le hg hb.size, (hb.cell (p := ⟨g, off + j, none⟩) hg).trans hc⟩
/-- what a draw yields. -/
def drw (u n : Int) : Int := u % n

set_option maxRecDepth 100000 in
theorem dleft_in {w : World} {B : Nat} {v : Value} {us : List Int} (hB : w.heap[B]? = some (.cells #[v] 81 (0, 0))) (h : Nums w v us) :
    Calls Try.prog 27 #[pt B] w fun e w' => e = .returned (.int .i64 (us.length : Int)) ∧ w' = w := by
  obtain ⟨q, cap, rfl, h2, h3, h0, h4⟩ := h.at'
  have c0 : w.cell? ⟨B, 0, none⟩ = some (.slice q us.length cap) := cell_of_heap hB rfl
  clear hB h h4 h0
  go_enter Try.func27, Try.ntmps27
  go_wp2
  go_ret
  exact ⟨rfl, rfl⟩

/-! ### copies -/
theorem infoU : (Try.prog.info? 59).map (fun i => (i.zero, i.size, i.bytes)) = some (some (.int .u64 0), 1, 8) := by kernel_rfl
def uApp (a : Array Value) : Sem Value := Builtin.append_ #[53, 53] 53 a
theorem app_u (a : Array Value) : Builtin.append_ #[53, 53] 53 a = uApp a := rfl
def uc (l : List Int) : List Value := l.map fun n => .int .u64 n
theorem add_off (b off j : Nat) : (⟨b, off, none⟩ : Addr).add j = ⟨b, off + j, none⟩ := by
  unfold Addr.add
  by_cases h : j = 0
  · subst h; rfl
  · simp [h]
theorem uapp {W : World} {base n : Nat} {v vx : Value} {xs : List Value} {us : List Int} (hown : W.ownsRow base 59 1 v n xs) (hsrc : Nums W vx us) (hn : n ≤ 1000) (hl : (n + us.length) * 8 ≤ 140737488355328) (hb : base ≤ W.heap.size) :
    ∃ v' w', (uApp #[v, vx]).run Try.prog W = .ok v' w' ∧ w'.ownsRow base 59 1 v' (n + us.length) (xs ++ uc us) ∧ W.grownBy w' v.ownBlock := by
  obtain ⟨i0, hi, hz0, hz1, hz2⟩ := info_parts infoU
  obtain ⟨q, cap, rfl, h2, h3, h0, h4⟩ := hsrc.at'
  cases q with
  | none =>
    have hc := h0 rfl
    have hu : us.length = 0 := by omega
    obtain rfl : us = [] := List.eq_nil_of_length_eq_zero hu
    obtain rfl : cap = 0 := hc
    refine ⟨v, W, run_append_owned_none (P := Try.prog) (w := W) base 53 53 59 i0 1 Try.underlying53 hi v n xs hown, by simpa [uc] using hown, ?_⟩
    exact ⟨rfl, rfl, rfl, Nat.le_refl _, fun _ _ _ => rfl⟩
  | some ad =>
    obtain ⟨v', w', h1, h2, h3, _⟩ := run_append_own (P := Try.prog) W base 53 53 59 i0 _ 1 8 Try.underlying53 hi hz0 hz1 hz2 rfl (by decide) v n xs hown ad us.length cap (uc us) (by simp [uc]) (fun j u hu => by
      obtain ⟨hj, hv⟩ := List.getElem?_eq_some_iff.1 hu
      have hj' : j < us.length := by simpa [uc] using hj
      obtain ⟨g, off, e, _, hc⟩ := h4 j hj'
      cases e
      rw [add_off, hc, ← hv]
      simp [uc]) (fun u hu => by
        obtain ⟨x, _, rfl⟩ := List.mem_map.1 hu
        rfl) (by unfold maxLen; omega) (by omega) hb
    exact ⟨v', w', h1, h2, h3⟩
theorem Nums.of_row {W : World} {base : Nat} {v : Value} {us : List Int} (h : W.ownsRow base 59 1 v us.length (uc us)) (hr : ∀ u ∈ us, 0 ≤ u ∧ u < 18446744073709551616) : Nums W v us := by
  refine ⟨?_, hr⟩
  rcases h.2 with ⟨rfl, h0⟩ | ⟨g, cap, cur, rfl, hb, hg, hc, hm, hs, ht⟩
  · exact ⟨none, 0, by rw [h0], by omega, by omega, fun _ => rfl, fun j hj => by omega⟩
  · refine ⟨some ⟨g, 0, none⟩, cap, rfl, hc, by unfold maxLen at hm; omega, (fun e => by cases e), fun j hj => ⟨g, 0, rfl, blk_lt hg, ?_⟩⟩
    have h1 : (uc us)[j]? = some (.int .u64 us[j]) := by simp [uc, hj]
    rw [← ht, List.getElem?_take, if_pos (by omega)] at h1
    rw [Nat.zero_add]
    exact cell_of_heap hg (by simpa using h1)

theorem eqNil_yes (w : World) : (Go.binOp .eql 53 (.slice none 0 0) (.slice none 0 0)).run Try.prog w = .ok (.bool true) w := by kernel_rfl
theorem eqNil_no (a : Addr) (n cap : Nat) (w : World) : (Go.binOp .eql 53 (.slice (some a) n cap) (.slice none 0 0)).run Try.prog w = .ok (.bool false) w := by kernel_rfl
section
attribute [local go_sem ↓] app_u
set_option maxRecDepth 100000 in
theorem clone_in {w : World} {v : Value} {us : List Int} (h : Nums w v us) (hl : us.length * 8 ≤ 140737488355328) :
    Calls Try.prog 41 #[v] w fun e w' => ∃ v', e = .returned v' ∧ w'.ownsRow w.heap.size 59 1 v' us.length (uc us) ∧ Below w.heap.size w w' := by
  obtain ⟨q, cap, rfl, h2, h3, h0, h4⟩ := h.at'
  cases q with
  | none =>
    have hc := h0 rfl
    have hu : us.length = 0 := by omega
    obtain rfl : us = [] := List.eq_nil_of_length_eq_zero hu
    obtain rfl : cap = 0 := hc
    clear h h4 h0
    have hq := eqNil_yes w
    go_enter Try.func41, Try.ntmps41
    go_wp2
    go_ret
    exact ⟨_, rfl, World.ownsRow_nil .., Below.refl _ _⟩
  | some ad =>
    have hb : Below w.heap.size w (w.alloc (.cells #[] 59 (0, 0))) := (Below.refl _ _).alloc (Nat.le_refl _) _
    have hrow : (w.alloc (.cells #[] 59 (0, 0))).ownsRow w.heap.size 59 1 (.slice (some ⟨w.heap.size, 0, none⟩) 0 0) 0 [] :=
      ⟨rfl, .inr ⟨w.heap.size, 0, #[], rfl, Nat.le_refl _, heap_alloc_last _ _, Nat.le_refl _, by decide, rfl, rfl⟩⟩
    obtain ⟨v', w', r1, hr1, g1⟩ := uapp hrow (h.below hb) (by omega) (by omega) (by simp)
    have HR : Hid (w'.ownsRow w.heap.size 59 1 v' us.length (uc us) ∧ Below w.heap.size w w') := by
      refine ⟨by simpa using hr1, hb.grown g1 (by simp) (fun k e => ?_)⟩
      cases e
      exact Nat.le_refl _
    clear h h4 h0 hb hrow hr1 g1
    have hq := eqNil_no ad us.length cap w
    go_enter Try.func41, Try.ntmps41
    go_wp2
    go_ret
    exact ⟨_, rfl, HR.out⟩
end

theorem newdraws_in {w : World} {v : Value} {us : List Int} (h : Nums w v us) (hl : us.length * 8 ≤ 140737488355328) :
    Calls Try.prog 26 #[v] w fun e w' => ∃ v' B, e = .returned (pt B) ∧ w.heap.size ≤ B ∧ w'.heap[B]? = some (.cells #[v'] 81 (0, 0)) ∧ w'.ownsRow w.heap.size 59 1 v' us.length (uc us) ∧ Below w.heap.size w w' := by
  have HC := Hid.mk (clone_in h hl)
  clear h
  go_enter Try.func26, Try.ntmps26
  go_wp2_with fail
  refine HC.out.mono ?_
  rintro e w1 ⟨v', rfl, r1, b1⟩
  have HR : Hid ((w1.alloc (.cells #[v'] 81 (0, 0))).ownsRow w.heap.size 59 1 v' us.length (uc us) ∧ Below w.heap.size w (w1.alloc (.cells #[v'] 81 (0, 0))) ∧ w.heap.size ≤ w1.heap.size) := ⟨r1.alloc _, b1.alloc b1.size _, b1.size⟩
  obtain ⟨q, cap, rfl⟩ := row_slice r1
  clear r1 b1
  go_wp2
  go_ret
  exact ⟨_, w1.heap.size, rfl, HR.out.2.2, heap_alloc_last _ _, HR.out.1, HR.out.2.1⟩

/-! ### draws in a box -/
/-- one box may turn. -/
structure Only (B : Nat) (w w' : World) : Prop where
  os : w'.os = w.os
  tape : w'.tape = w.tape
  output : w'.output = w.output
  size : w'.heap.size = w.heap.size
  same : ∀ b, b ≠ B → w'.heap[b]? = w.heap[b]?
theorem Only.refl (B : Nat) (w : World) : Only B w w := ⟨rfl, rfl, rfl, rfl, fun _ _ => rfl⟩
theorem Only.set (B : Nat) (w : World) (v : Value) : Only B w (w.setCell ⟨B, 0, none⟩ v) := ⟨rfl, rfl, rfl, by simp [World.setCell], fun b hb => Below.heap_setCell _ _ _ _ hb⟩
theorem Only.below {B N : Nat} {w w' : World} (h : Only B w w') (hN : N ≤ B) : Below N w w' := ⟨h.os, h.tape, h.output, by rw [h.size]; exact Nat.le_refl _, fun b hb => h.same b (by omega)⟩
/-- the slice lies in another block. -/
def Apart (v : Value) (B : Nat) : Prop := ∀ a n c, v = .slice (some a) n c → a.block ≠ B
theorem Nums.only {w w' : World} {B : Nat} {v : Value} {us : List Int} (h : Nums w v us) (ho : Only B w w') (ha : us ≠ [] → Apart v B) : Nums w' v us := by
  obtain ⟨q, cap, h1, h2, h3, h0, h4⟩ := h.at'
  refine ⟨⟨q, cap, h1, h2, h3, h0, fun j hj => ?_⟩, h.rng⟩
  obtain ⟨g, off, e, hg, hc⟩ := h4 j hj
  have hgB : g ≠ B := ha (fun e0 => by rw [e0] at hj; simp at hj) ⟨g, off, none⟩ _ _ (by rw [h1, e])
  exact ⟨g, off, e, by rw [ho.size]; exact hg, (World.cell?_of_block (ho.same g hgB)).trans hc⟩
/-- draws in their box, apart from some boxes, that one among them. -/
def DrT (t : TypeId) (w : World) (B : Nat) (av : List Nat) (us : List Int) : Prop := ∃ v, w.heap[B]? = some (.cells #[v] t (0, 0)) ∧ Nums w v us ∧ (∀ b ∈ av, us ≠ [] → Apart v b) ∧ B ∈ av
theorem DrT.below {t : TypeId} {w w' : World} {B : Nat} {av : List Nat} {us : List Int} (h : DrT t w B av us) (hb : Below w.heap.size w w') : DrT t w' B av us := by
  obtain ⟨v, hB, hN, ha, hi⟩ := h
  exact ⟨v, (hb.block B (blk_lt hB)).trans hB, hN.below hb, ha, hi⟩
theorem DrT.only {t : TypeId} {w w' : World} {B C : Nat} {av : List Nat} {us : List Int} (h : DrT t w B av us) (ho : Only C w w') (hC : C ∈ av) (hne : B ≠ C) : DrT t w' B av us := by
  obtain ⟨v, hB, hN, ha, hi⟩ := h
  exact ⟨v, (ho.same B hne).trans hB, hN.only ho (ha C hC), ha, hi⟩
def nxv (us : List Int) (n : Int) : Int := if n < 1 then 0 else match us with | [] => 0 | u :: _ => drw u n
def nxt (us : List Int) (n : Int) : List Int := if n < 1 then us else us.tail

/-! ### Next -/
set_option maxRecDepth 100000 in
theorem dnext_no (w : World) (B : Nat) (n : Int) (h : n < 1) :
    Calls Try.prog 28 #[pt B, .int .i64 n] w fun e w' => e = .returned (.int .i64 0) ∧ w' = w := by
  go_enter Try.func28, Try.ntmps28
  go_wp2
  go_ret
  exact ⟨rfl, rfl⟩
set_option maxRecDepth 100000 in
theorem dnext_nil {w : World} {B : Nat} {v : Value} (hB : w.heap[B]? = some (.cells #[v] 81 (0, 0))) (h : Nums w v []) (n : Int) :
    Calls Try.prog 28 #[pt B, .int .i64 n] w fun e w' => e = .returned (.int .i64 0) ∧ w' = w := by
  obtain ⟨q, cap, rfl, h2, h3, h0, h4⟩ := h.at'
  have c0 : w.cell? ⟨B, 0, none⟩ = some (.slice q 0 cap) := cell_of_heap hB rfl
  clear hB h h4 h0
  by_cases hn : n < 1
  · exact dnext_no w B n hn
  · go_enter Try.func28, Try.ntmps28
    go_wp2
    go_ret
    exact ⟨rfl, rfl⟩
set_option maxRecDepth 100000 in
set_option maxHeartbeats 1000000 in
theorem dnext_yes {w : World} {B : Nat} {v : Value} {u : Int} {us : List Int} (hB : w.heap[B]? = some (.cells #[v] 81 (0, 0))) (h : Nums w v (u :: us)) (n : Int) (h1 : ¬ n < 1) (hn : n ≤ 9223372036854775807) :
    Calls Try.prog 28 #[pt B, .int .i64 n] w fun e w' => e = .returned (.int .i64 (drw u n)) ∧ ∃ v', w' = w.setCell ⟨B, 0, none⟩ v' ∧ Nums w v' us ∧ ∀ b, Apart v b → Apart v' b := by
  obtain ⟨q, cap, rfl, h2, h3, h0, h4⟩ := h.at'
  have c0 : w.cell? ⟨B, 0, none⟩ = some (.slice q (us.length + 1) cap) := cell_of_heap hB rfl
  have f0 := frozen_of hB 0
  obtain ⟨g, off, rfl, hg, a0⟩ := h4 0 (by simp)
  simp only [List.getElem_cons_zero, Nat.add_zero] at a0
  have hr := h.rng u (by simp)
  have hr0 : 0 ≤ u := hr.1
  have hr1 : u < 18446744073709551616 := hr.2
  have hm0 : 0 ≤ u % n := Int.emod_nonneg _ (by omega)
  have hm1 : u % n < n := Int.emod_lt_of_pos _ (by omega)
  simp only [List.length_cons] at h2
  have htail : ∀ j (hj : j < us.length), w.cell? ⟨g, off + 1 + j, none⟩ = some (.int .u64 us[j]) := fun j hj => by
    obtain ⟨g', off', e, _, hc⟩ := h4 (j + 1) (by simpa using hj)
    cases e
    rw [show off + 1 + j = off + (j + 1) by omega]
    simpa using hc
  have hrest : ∀ x ∈ us, 0 ≤ x ∧ x < 18446744073709551616 := fun x hx => h.rng x (by simp [hx])
  have HT := Hid.mk (And.intro htail (And.intro hrest hg))
  obtain ⟨k, hk⟩ : ∃ k, us.length = k := ⟨_, rfl⟩
  rw [hk] at c0 h2
  have hz : (((k + 1 : Nat) : Int) == 0) = false := by simp; omega
  have HK := Hid.mk hk
  have hw : n % 18446744073709551616 = n := by omega
  clear h h4 h0 htail hrest hr hB hk
  unfold drw
  by_cases hc : cap = 1
  · have hk0 : k = 0 := by omega
    subst hk0
    subst hc
    go_enter Try.func28, Try.ntmps28
    go_wp2
    go_ret
    refine ⟨rfl, _, rfl, ⟨⟨some ⟨g, off, none⟩, 0, by rw [HK.out], by rw [HK.out]; exact Nat.le_refl _, by omega, (fun e => by cases e), fun j hj => by rw [HK.out] at hj; omega⟩, HT.out.2.1⟩, fun b hb a n c e => by cases e; exact hb _ _ _ rfl⟩
  · have hc1 : 1 < cap := by omega
    go_enter Try.func28, Try.ntmps28
    go_wp2
    go_ret
    refine ⟨rfl, _, rfl, ⟨⟨some ⟨g, off + 1, none⟩, cap - 1, by rw [HK.out], by rw [HK.out]; omega, by omega, (fun e => by cases e), fun j hj => ⟨g, off + 1, rfl, HT.out.2.2, HT.out.1 j hj⟩⟩, HT.out.2.1⟩, fun b hb a n c e => by cases e; exact hb ⟨g, off, none⟩ _ _ rfl⟩

theorem dnext_in {w : World} {B : Nat} {av : List Nat} {us : List Int} (h : DrT 81 w B av us) (n : Int) (hn : n ≤ 9223372036854775807) :
    Calls Try.prog 28 #[pt B, .int .i64 n] w fun e w' => e = .returned (.int .i64 (nxv us n)) ∧ DrT 81 w' B av (nxt us n) ∧ Only B w w' := by
  obtain ⟨v, hB, hN, hav, hin⟩ := h
  by_cases h1 : n < 1
  · have e1 : nxv us n = 0 := if_pos h1
    have e2 : nxt us n = us := if_pos h1
    rw [e1, e2]
    refine (dnext_no w B n h1).mono ?_
    rintro e w' ⟨rfl, rfl⟩
    exact ⟨rfl, ⟨v, hB, hN, hav, hin⟩, Only.refl _ _⟩
  · cases us with
    | nil =>
      have e1 : nxv [] n = 0 := if_neg h1
      have e2 : nxt [] n = [] := if_neg h1
      rw [e1, e2]
      refine (dnext_nil hB hN n).mono ?_
      rintro e w' ⟨rfl, rfl⟩
      exact ⟨rfl, ⟨v, hB, hN, hav, hin⟩, Only.refl _ _⟩
    | cons u us =>
      have e1 : nxv (u :: us) n = drw u n := if_neg h1
      have e2 : nxt (u :: us) n = us := if_neg h1
      rw [e1, e2]
      refine (dnext_yes hB hN n h1 hn).mono ?_
      rintro e w' ⟨rfl, v', rfl, hN', hap⟩
      have hO : Only B w (w.setCell ⟨B, 0, none⟩ v') := Only.set _ _ _
      exact ⟨rfl, ⟨v', by rw [heap_set_same hB]; rfl, hN'.only hO (fun _ => hap B (hav B hin (by simp))), fun b hb _ => hap b (hav b hb (by simp)), hin⟩, hO⟩

end Go.Proofs.Ytdgkknjmhdmlfaa
