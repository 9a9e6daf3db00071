/- Layer 12: the document's drawn numbers. -/
import Derived.Test.YtdgkknjmhdmlfaaTiDraw
namespace Go.Proofs.Ytdgkknjmhdmlfaa
set_option linter.unusedVariables false
open Go.RowKit
open Go.MapKept Go.WideMaps

set_option maxRecDepth 100000 in
theorem xnext_no (w : World) (B : Nat) (n : Int) (h : n < 1) :
    Calls Try.prog 29 #[pt B, .int .i64 n] w fun e w' => e = .returned (.int .i64 0) ∧ w' = w := by
  go_enter Try.func29, Try.ntmps29
  go_wp2
  go_ret
  exact ⟨rfl, rfl⟩
set_option maxRecDepth 100000 in
theorem xnext_nil {w : World} {B : Nat} {v : Value} (hB : w.heap[B]? = some (.cells #[v] 58 (0, 0))) (h : Nums w v []) (n : Int) :
    Calls Try.prog 29 #[pt B, .int .i64 n] w fun e w' => e = .returned (.int .i64 0) ∧ w' = w := by
  obtain ⟨q, cap, rfl, h2, h3, h0, h4⟩ := h.at'
  have c0 : w.cell? ⟨B, 0, none⟩ = some (.slice q 0 cap) := cell_of_heap hB rfl
  clear hB h h4 h0
  by_cases hn : n < 1
  · exact xnext_no w B n hn
  · go_enter Try.func29, Try.ntmps29
    go_wp2
    go_ret
    exact ⟨rfl, rfl⟩
set_option maxRecDepth 100000 in
set_option maxHeartbeats 1000000 in
theorem xnext_yes {w : World} {B : Nat} {v : Value} {u : Int} {us : List Int} (hB : w.heap[B]? = some (.cells #[v] 58 (0, 0))) (h : Nums w v (u :: us)) (n : Int) (h1 : ¬ n < 1) (hn : n ≤ 9223372036854775807) :
    Calls Try.prog 29 #[pt B, .int .i64 n] w fun e w' => e = .returned (.int .i64 (drw u n)) ∧ ∃ v', w' = w.setCell ⟨B, 0, none⟩ v' ∧ Nums w v' us ∧ ∀ b, Apart v b → Apart v' b := by
  obtain ⟨q, cap, rfl, h2, h3, h0, h4⟩ := h.at'
  have c0 : w.cell? ⟨B, 0, none⟩ = some (.slice q (us.length + 1) cap) := cell_of_heap hB rfl
  have f0 := frozen_of hB 0
  obtain ⟨g, off, rfl, hg, a0⟩ := h4 0 (by simp)
  simp only [List.getElem_cons_zero, Nat.add_zero] at a0
  have hr := h.rng u (by simp)
  have hr0 : 0 ≤ u := hr.1
  have hr1 : u < 18446744073709551616 := hr.2
  have hm0 : 0 ≤ u % n := Int.emod_nonneg _ (by omega)
  have hm1 : u % n < n := Int.emod_lt_of_pos _ (by omega)
  simp only [List.length_cons] at h2
  have htail : ∀ j (hj : j < us.length), w.cell? ⟨g, off + 1 + j, none⟩ = some (.int .u64 us[j]) := fun j hj => by
    obtain ⟨g', off', e, _, hc⟩ := h4 (j + 1) (by simpa using hj)
    cases e
    rw [show off + 1 + j = off + (j + 1) by omega]
    simpa using hc
  have hrest : ∀ x ∈ us, 0 ≤ x ∧ x < 18446744073709551616 := fun x hx => h.rng x (by simp [hx])
  have HT := Hid.mk (And.intro htail (And.intro hrest hg))
  obtain ⟨k, hk⟩ : ∃ k, us.length = k := ⟨_, rfl⟩
  rw [hk] at c0 h2
  have hz : (((k + 1 : Nat) : Int) == 0) = false := by simp; omega
  have HK := Hid.mk hk
  have hw : n % 18446744073709551616 = n := by omega
  clear h h4 h0 htail hrest hr hB hk
  unfold drw
  by_cases hc : cap = 1
  · have hk0 : k = 0 := by omega
    subst hk0
    subst hc
    go_enter Try.func29, Try.ntmps29
    go_wp2
    go_ret
    refine ⟨rfl, _, rfl, ⟨⟨some ⟨g, off, none⟩, 0, by rw [HK.out], by rw [HK.out]; exact Nat.le_refl _, by omega, (fun e => by cases e), fun j hj => by rw [HK.out] at hj; omega⟩, HT.out.2.1⟩, fun b hb a n c e => by cases e; exact hb _ _ _ rfl⟩
  · have hc1 : 1 < cap := by omega
    go_enter Try.func29, Try.ntmps29
    go_wp2
    go_ret
    refine ⟨rfl, _, rfl, ⟨⟨some ⟨g, off + 1, none⟩, cap - 1, by rw [HK.out], by rw [HK.out]; omega, by omega, (fun e => by cases e), fun j hj => ⟨g, off + 1, rfl, HT.out.2.2, HT.out.1 j hj⟩⟩, HT.out.2.1⟩, fun b hb a n c e => by cases e; exact hb ⟨g, off, none⟩ _ _ rfl⟩

theorem xnext_in {w : World} {B : Nat} {av : List Nat} {us : List Int} (h : DrT 58 w B av us) (n : Int) (hn : n ≤ 9223372036854775807) :
    Calls Try.prog 29 #[pt B, .int .i64 n] w fun e w' => e = .returned (.int .i64 (nxv us n)) ∧ DrT 58 w' B av (nxt us n) ∧ Only B w w' := by
  obtain ⟨v, hB, hN, hav, hin⟩ := h
  by_cases h1 : n < 1
  · have e1 : nxv us n = 0 := if_pos h1
    have e2 : nxt us n = us := if_pos h1
    rw [e1, e2]
    refine (xnext_no w B n h1).mono ?_
    rintro e w' ⟨rfl, rfl⟩
    exact ⟨rfl, ⟨v, hB, hN, hav, hin⟩, Only.refl _ _⟩
  · cases us with
    | nil =>
      have e1 : nxv [] n = 0 := if_neg h1
      have e2 : nxt [] n = [] := if_neg h1
      rw [e1, e2]
      refine (xnext_nil hB hN n).mono ?_
      rintro e w' ⟨rfl, rfl⟩
      exact ⟨rfl, ⟨v, hB, hN, hav, hin⟩, Only.refl _ _⟩
    | cons u us =>
      have e1 : nxv (u :: us) n = drw u n := if_neg h1
      have e2 : nxt (u :: us) n = us := if_neg h1
      rw [e1, e2]
      refine (xnext_yes hB hN n h1 hn).mono ?_
      rintro e w' ⟨rfl, v', rfl, hN', hap⟩
      have hO : Only B w (w.setCell ⟨B, 0, none⟩ v') := Only.set _ _ _
      exact ⟨rfl, ⟨v', by rw [heap_set_same hB]; rfl, hN'.only hO (fun _ => hap B (hav B hin (by simp))), fun b hb _ => hap b (hav b hb (by simp)), hin⟩, hO⟩

end Go.Proofs.Ytdgkknjmhdmlfaa
