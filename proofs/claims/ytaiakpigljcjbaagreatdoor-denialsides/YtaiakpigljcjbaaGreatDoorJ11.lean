/- Texts of this proof, joined: Cmp, Facts, Order, ZBtw, ZFm, ZRr. -/
import Derived.Test.YtaiakpigljcjbaaGreatDoorJ10
import Derived.Deep.WholeRow
/- cmp.Compare of texts; compareStrays; Compare. -/
namespace Go.Proofs.YtaiakpigljcjbaaGreatDoor
set_option linter.unusedVariables false
open Go.RowKit
def cmpL (a b : List UInt8) : Int := if Op.bytesLess a b = true then -1 else if a = b then 0 else 1
theorem cmpStr_in (x y : ByteArray) (w : World) :
    Calls Tryz.prog 45 #[.string x, .string y] w fun e w' => e = .returned (.int .i64 (cmpL x.data.toList y.data.toList)) ∧ w' = w := by
  rw [← ByteArray.toList_eq, ← ByteArray.toList_eq]
  by_cases h1 : Op.bytesLess x.toList y.toList = true
  · have hp : cmpL x.toList y.toList = -1 := by simp [cmpL, h1]
    rw [hp]; clear hp
    go_enter Tryz.func45, Tryz.ntmps45
    go_wp2_with (go_at_call 65; refine (isNaNStr_in _ _).mono ?_; rintro e w' ⟨rfl, rfl⟩)
    go_ret
    exact ⟨rfl, rfl⟩
  · have h1' : Op.bytesLess x.toList y.toList = false := by simpa using h1
    by_cases h2 : x.toList = y.toList
    · have hp : cmpL x.toList y.toList = 0 := by unfold cmpL; rw [if_neg h1, if_pos h2]
      rw [hp]; clear hp h1
      have h2' : (x.toList == y.toList) = true := by simpa using h2
      clear h2
      go_enter Tryz.func45, Tryz.ntmps45
      go_wp2_with (go_at_call 65; refine (isNaNStr_in _ _).mono ?_; rintro e w' ⟨rfl, rfl⟩)
      go_ret
      exact ⟨rfl, rfl⟩
    · have hp : cmpL x.toList y.toList = 1 := by simp [cmpL, h1', h2]
      rw [hp]; clear hp h1
      have h2' : (x.toList == y.toList) = false := by simpa using h2
      clear h2
      go_enter Tryz.func45, Tryz.ntmps45
      go_wp2_with (go_at_call 65; refine (isNaNStr_in _ _).mono ?_; rintro e w' ⟨rfl, rfl⟩)
      go_ret
      exact ⟨rfl, rfl⟩
/-! ### of which one is no name -/
def cmpR : List (List UInt8) → List (List UInt8) → Int
  | [], [] => 0
  | [], _ :: _ => -1
  | _ :: _, [] => 1
  | x :: xs, y :: ys => if x = y then cmpR xs ys else cmpL x y
def cmpN (a b : List (List UInt8)) : Int := cmpR (lowN a).reverse (lowN b).reverse
theorem cmpR_short : ∀ (a b : List (List UInt8)), cpl a b = a.length ∨ cpl a b = b.length → cmpR a b = cmpI a.length b.length
  | [], [], _ => by simp [cmpR, cmpI]
  | [], b :: b', _ => by simp [cmpR, cmpI] <;> omega
  | a :: a', [], _ => by simp [cmpR, cmpI] <;> omega
  | a :: a', b :: b', h => by
    unfold cpl at h
    split at h
    · rename_i e
      subst e
      have := cmpR_short a' b' (by simpa using h)
      simp only [cmpR, if_true, this, cmpI, List.length_cons]
      split <;> split <;> (try split) <;> omega
    · simp at h
theorem cmpR_diff : ∀ (a b : List (List UInt8)) (h1 : cpl a b < a.length) (h2 : cpl a b < b.length), cmpR a b = cmpL a[cpl a b] b[cpl a b]
  | [], b, h1, _ => by simp at h1
  | a :: a', [], _, h2 => by simp at h2
  | a :: a', b :: b', h1, h2 => by
    by_cases e : a = b
    · subst e
      have hc : cpl (a :: a') (a :: b') = cpl a' b' + 1 := by simp [cpl]
      have := cmpR_diff a' b' (by rw [hc] at h1; simpa using h1) (by rw [hc] at h2; simpa using h2)
      simp only [cmpR, if_true, this, hc, List.getElem_cons_succ]
    · have hc : cpl (a :: a') (b :: b') = 0 := by simp [cpl, e]
      simp only [cmpR, e, if_false, hc, List.getElem_cons_zero]
theorem cmpN_short {a b : List (List UInt8)} (h : shEnd (lowN a) (lowN b) = (lowN a).length ∨ shEnd (lowN a) (lowN b) = (lowN b).length) : cmpN a b = cmpI (lowN a).length (lowN b).length := by
  have := cmpR_short (lowN a).reverse (lowN b).reverse (by simpa [shEnd] using h)
  simpa [cmpN] using this
theorem cmpN_diff {a b : List (List UInt8)} (h1 : shEnd (lowN a) (lowN b) < (lowN a).length) (h2 : shEnd (lowN a) (lowN b) < (lowN b).length) :
    cmpN a b = cmpL ((lowN a)[(lowN a).length - 1 - shEnd (lowN a) (lowN b)]'(by omega)) ((lowN b)[(lowN b).length - 1 - shEnd (lowN a) (lowN b)]'(by omega)) := by
  have := cmpR_diff (lowN a).reverse (lowN b).reverse (by simpa [shEnd] using h1) (by simpa [shEnd] using h2)
  rw [List.getElem_reverse, List.getElem_reverse] at this
  exact this
set_option maxHeartbeats 1000000 in
theorem compare_yes (a b : List (List UInt8)) (ha : OkN a) (hb : OkN b) (w : World) :
    Calls Tryz.prog 25 #[.string (nm a), .string (nm b)] w fun e w' => e = .returned (.int .i64 (cmpN a b)) ∧ Below w.heap.size w w' := by
  have hca := ha.low.count
  have hcb := hb.low.count
  have hle := shEnd_le (lowN a) (lowN b)
  by_cases hA : shEnd (lowN a) (lowN b) = (lowN a).length
  · have HF := Hid.mk (cmpN_short (.inl hA))
    have ht : ((shEnd (lowN a) (lowN b) : Int) == ((lowN a).length : Int)) = true := by rw [hA]; simp
    clear hA hle
    go_enter Tryz.func25, Tryz.ntmps25
    go_wp2_with fail
    refine (right_yes a ha _).mono ?_
    rintro e w1 ⟨rfl, hb1⟩
    go_wp2_with fail
    refine (right_yes b hb _).mono ?_
    rintro e w2 ⟨rfl, hb2⟩
    go_wp2_with fail
    refine (lowered_nm a ha _).mono ?_
    rintro e w3 ⟨rfl, hb3⟩
    go_wp2_with fail
    refine (labelsOf_in (lowN a) ha.low _).mono ?_
    rintro e w4 ⟨⟨va, rfl, hva⟩, hb4⟩
    go_wp2_with fail
    refine (lowered_nm b hb _).mono ?_
    rintro e w5 ⟨rfl, hb5⟩
    go_wp2_with fail
    refine (labelsOf_in (lowN b) hb.low _).mono ?_
    rintro e w6 ⟨⟨vb, rfl, hvb⟩, hb6⟩
    have hva6 := (hva.below (bthen hb5 hb6)).mono (bthen hb5 hb6).size
    clear hva
    obtain ⟨q, c, hq⟩ := hva6.form
    subst hq
    obtain ⟨q', c', hq'⟩ := hvb.form
    subst hq'
    go_wp2_with fail
    refine (sharedEnd_in _ _ (lowN a) (lowN b) _ _ (by omega) (by omega) hva6 hvb).mono ?_
    rintro e w7 ⟨rfl, hb7⟩
    clear hva6 hvb
    go_wp2_with fail
    refine (cmpInt_in _ _ _).mono ?_
    rintro e w8 ⟨rfl, rfl⟩
    go_wp2
    go_ret
    exact ⟨by rw [HF.out]; rfl, bthen hb1 (bthen hb2 (bthen hb3 (bthen hb4 (bthen hb5 (bthen hb6 hb7)))))⟩
  · by_cases hB : shEnd (lowN a) (lowN b) = (lowN b).length
    · have HF := Hid.mk (cmpN_short (.inr hB))
      have ht : ((shEnd (lowN a) (lowN b) : Int) == ((lowN a).length : Int)) = false := by rw [beq_eq_false_iff_ne]; omega
      have ht2 : ((shEnd (lowN a) (lowN b) : Int) == ((lowN b).length : Int)) = true := by rw [hB]; simp
      clear hA hB hle
      go_enter Tryz.func25, Tryz.ntmps25
      go_wp2_with fail
      refine (right_yes a ha _).mono ?_
      rintro e w1 ⟨rfl, hb1⟩
      go_wp2_with fail
      refine (right_yes b hb _).mono ?_
      rintro e w2 ⟨rfl, hb2⟩
      go_wp2_with fail
      refine (lowered_nm a ha _).mono ?_
      rintro e w3 ⟨rfl, hb3⟩
      go_wp2_with fail
      refine (labelsOf_in (lowN a) ha.low _).mono ?_
      rintro e w4 ⟨⟨va, rfl, hva⟩, hb4⟩
      go_wp2_with fail
      refine (lowered_nm b hb _).mono ?_
      rintro e w5 ⟨rfl, hb5⟩
      go_wp2_with fail
      refine (labelsOf_in (lowN b) hb.low _).mono ?_
      rintro e w6 ⟨⟨vb, rfl, hvb⟩, hb6⟩
      have hva6 := (hva.below (bthen hb5 hb6)).mono (bthen hb5 hb6).size
      clear hva
      obtain ⟨q, c, hq⟩ := hva6.form
      subst hq
      obtain ⟨q', c', hq'⟩ := hvb.form
      subst hq'
      go_wp2_with fail
      refine (sharedEnd_in _ _ (lowN a) (lowN b) _ _ (by omega) (by omega) hva6 hvb).mono ?_
      rintro e w7 ⟨rfl, hb7⟩
      clear hva6 hvb
      go_wp2_with fail
      refine (cmpInt_in _ _ _).mono ?_
      rintro e w8 ⟨rfl, rfl⟩
      go_wp2
      go_ret
      exact ⟨by rw [HF.out]; rfl, bthen hb1 (bthen hb2 (bthen hb3 (bthen hb4 (bthen hb5 (bthen hb6 hb7)))))⟩
    · have hla : shEnd (lowN a) (lowN b) < (lowN a).length := by omega
      have hlb : shEnd (lowN a) (lowN b) < (lowN b).length := by omega
      have HF := Hid.mk (cmpN_diff hla hlb)
      have ht : ((shEnd (lowN a) (lowN b) : Int) == ((lowN a).length : Int)) = false := by rw [beq_eq_false_iff_ne]; omega
      have ht2 : ((shEnd (lowN a) (lowN b) : Int) == ((lowN b).length : Int)) = false := by rw [beq_eq_false_iff_ne]; omega
      clear hA hB hle
      go_enter Tryz.func25, Tryz.ntmps25
      go_wp2_with fail
      refine (right_yes a ha _).mono ?_
      rintro e w1 ⟨rfl, hb1⟩
      go_wp2_with fail
      refine (right_yes b hb _).mono ?_
      rintro e w2 ⟨rfl, hb2⟩
      go_wp2_with fail
      refine (lowered_nm a ha _).mono ?_
      rintro e w3 ⟨rfl, hb3⟩
      go_wp2_with fail
      refine (labelsOf_in (lowN a) ha.low _).mono ?_
      rintro e w4 ⟨⟨va, rfl, hva⟩, hb4⟩
      go_wp2_with fail
      refine (lowered_nm b hb _).mono ?_
      rintro e w5 ⟨rfl, hb5⟩
      go_wp2_with fail
      refine (labelsOf_in (lowN b) hb.low _).mono ?_
      rintro e w6 ⟨⟨vb, rfl, hvb⟩, hb6⟩
      have hva6 := (hva.below (bthen hb5 hb6)).mono (bthen hb5 hb6).size
      clear hva
      obtain ⟨ga, ca, hva, hga, hcla⟩ : ∃ g cap, va = .slice (some ⟨g, 0, none⟩) (lowN a).length cap ∧ g < w6.heap.size ∧ ∀ j (h : j < (lowN a).length), w6.cell? ⟨g, j, none⟩ = some (strV (lowN a)[j]) := by
        rcases hva6 with ⟨_, h⟩ | h
        · rw [h] at hla; simp at hla
        · exact h
      obtain ⟨gb, cb, hvb', hgb, hclb⟩ : ∃ g cap, vb = .slice (some ⟨g, 0, none⟩) (lowN b).length cap ∧ g < w6.heap.size ∧ ∀ j (h : j < (lowN b).length), w6.cell? ⟨g, j, none⟩ = some (strV (lowN b)[j]) := by
        rcases hvb with ⟨_, h⟩ | h
        · rw [h] at hlb; simp at hlb
        · exact h
      subst hva
      subst hvb'
      go_wp2_with fail
      refine (sharedEnd_in _ _ (lowN a) (lowN b) _ _ (by omega) (by omega) hva6 hvb).mono ?_
      rintro e w7 ⟨rfl, hb7⟩
      clear hva6 hvb
      obtain ⟨x, hxl, hc1⟩ : ∃ x : ByteArray, Hid (x.data.toList = (lowN a)[(lowN a).length - 1 - shEnd (lowN a) (lowN b)]'(by omega)) ∧ w7.cell? ⟨ga, (lowN a).length - 1 - shEnd (lowN a) (lowN b), none⟩ = some (.string x) :=
        ⟨⟨((lowN a)[(lowN a).length - 1 - shEnd (lowN a) (lowN b)]'(by omega)).toArray⟩, rfl, (hb7.cell (p := ⟨ga, _, none⟩) hga).trans (hcla _ (by omega))⟩
      obtain ⟨y, hyl, hc2⟩ : ∃ x : ByteArray, Hid (x.data.toList = (lowN b)[(lowN b).length - 1 - shEnd (lowN a) (lowN b)]'(by omega)) ∧ w7.cell? ⟨gb, (lowN b).length - 1 - shEnd (lowN a) (lowN b), none⟩ = some (.string x) :=
        ⟨⟨((lowN b)[(lowN b).length - 1 - shEnd (lowN a) (lowN b)]'(by omega)).toArray⟩, rfl, (hb7.cell (p := ⟨gb, _, none⟩) hgb).trans (hclb _ (by omega))⟩
      clear hcla hclb
      have hw1 : IntKind.i64.wrap (((lowN a).length : Int) - 1) = ((lowN a).length : Int) - 1 := by rw [IntKind.wrap_i64]; omega
      have hw2 : IntKind.i64.wrap (((lowN a).length : Int) - 1 - (shEnd (lowN a) (lowN b) : Int)) = (((lowN a).length - 1 - shEnd (lowN a) (lowN b) : Nat) : Int) := by rw [IntKind.wrap_i64]; omega
      have hv1 : IntKind.i64.wrap (((lowN b).length : Int) - 1) = ((lowN b).length : Int) - 1 := by rw [IntKind.wrap_i64]; omega
      have hv2 : IntKind.i64.wrap (((lowN b).length : Int) - 1 - (shEnd (lowN a) (lowN b) : Int)) = (((lowN b).length - 1 - shEnd (lowN a) (lowN b) : Nat) : Int) := by rw [IntKind.wrap_i64]; omega
      have hi1 : (lowN a).length - 1 - shEnd (lowN a) (lowN b) < (lowN a).length := by omega
      have hi2 : (lowN b).length - 1 - shEnd (lowN a) (lowN b) < (lowN b).length := by omega
      go_wp2
      go_quiet ((go_at_call 45; exact Calls.quiet_of_same (cmpStr_in _ _ _)))
      go_wp2
      go_ret
      exact ⟨by rw [HF.out, hxl.out, hyl.out]; rfl, bthen hb1 (bthen hb2 (bthen hb3 (bthen hb4 (bthen hb5 (bthen hb6 (below_drewN hb7 _))))))⟩
end Go.Proofs.YtaiakpigljcjbaaGreatDoor
/- What the shared end of two names says of 'under', 'common' and the order. -/
namespace Go.Proofs.YtaiakpigljcjbaaGreatDoor
set_option linter.unusedVariables false
theorem flat_drop_le (ls : List (List UInt8)) (k : Nat) : (flat (ls.drop k)).length ≤ (flat ls).length := by
  have : flat ls = flat (ls.take k) ++ flat (ls.drop k) := by rw [← flat_append, List.take_append_drop]
  rw [this, List.length_append]; omega
theorem OkN.drop {ls : List (List UInt8)} (h : OkN ls) (k : Nat) : OkN (ls.drop k) :=
  ⟨fun l hl => h.lab l (List.mem_of_mem_drop hl), by have := flat_drop_le ls k; have := h.len; omega⟩
theorem ok_com {a b : List (List UInt8)} (h : OkN a) : OkN (comN a b) := h.drop _
end Go.Proofs.YtaiakpigljcjbaaGreatDoor
/- The order of names: it is one. -/
namespace Go.Proofs.YtaiakpigljcjbaaGreatDoor
set_option linter.unusedVariables false
open Go.RowKit
/-! ### the order of bytes -/
theorem less_irrefl : ∀ a : List UInt8, Op.bytesLess a a = false
  | [] => rfl
  | a :: x => by simp [Op.bytesLess, less_irrefl x]
theorem less_trans : ∀ a b c : List UInt8, Op.bytesLess a b = true → Op.bytesLess b c = true → Op.bytesLess a c = true
  | _, [], _, h, _ => by cases ‹List UInt8› <;> simp [Op.bytesLess] at h
  | _, _ :: _, [], _, h => by simp [Op.bytesLess] at h
  | [], _ :: _, _ :: _, _, _ => rfl
  | a :: x, b :: y, c :: z, h1, h2 => by
    simp only [Op.bytesLess, Bool.or_eq_true, Bool.and_eq_true, decide_eq_true_iff, beq_iff_eq, UInt8.lt_iff_toNat_lt] at h1 h2 ⊢
    rcases h1 with h1 | ⟨rfl, h1⟩
    · rcases h2 with h2 | ⟨rfl, h2⟩
      · left; omega
      · left; exact h1
    · rcases h2 with h2 | ⟨rfl, h2⟩
      · left; exact h2
      · right; exact ⟨rfl, less_trans x y z h1 h2⟩
theorem less_total : ∀ a b : List UInt8, Op.bytesLess a b = false → Op.bytesLess b a = false → a = b
  | [], [], _, _ => rfl
  | [], _ :: _, h, _ => by simp [Op.bytesLess] at h
  | _ :: _, [], _, h => by simp [Op.bytesLess] at h
  | a :: x, b :: y, h1, h2 => by
    simp only [Op.bytesLess, Bool.or_eq_false_iff, Bool.and_eq_false_iff, decide_eq_false_iff_not, beq_eq_false_iff_ne, UInt8.lt_iff_toNat_lt] at h1 h2
    have e : a = b := UInt8.toNat_inj.1 (by omega)
    subst e
    have h1' : Op.bytesLess x y = false := by rcases h1.2 with h | h; exact absurd rfl h; exact h
    have h2' : Op.bytesLess y x = false := by rcases h2.2 with h | h; exact absurd rfl h; exact h
    rw [less_total x y h1' h2']
theorem less_asymm {a b : List UInt8} (h : Op.bytesLess a b = true) : Op.bytesLess b a = false := by
  cases h' : Op.bytesLess b a with
  | false => rfl
  | true => have := less_trans a b a h h'; rw [less_irrefl] at this; cases this
theorem cmpL_zero {a b : List UInt8} (h : cmpL a b = 0) : a = b := by
  unfold cmpL at h
  split at h
  · cases h
  · split at h
    · assumption
    · cases h
theorem cmpL_anti (a b : List UInt8) : cmpL b a = - cmpL a b := by
  unfold cmpL
  by_cases h1 : Op.bytesLess a b = true
  · have h2 := less_asymm h1
    have hne : ¬ b = a := by intro e; subst e; rw [less_irrefl] at h1; cases h1
    rw [if_neg (by rw [h2]; simp), if_neg hne, if_pos h1]; rfl
  · rw [if_neg h1]
    by_cases he : a = b
    · subst he; rw [if_neg h1]; simp
    · rw [if_neg he]
      have : Op.bytesLess b a = true := by
        cases h' : Op.bytesLess b a with
        | true => rfl
        | false => exact absurd (less_total a b (by simpa using h1) h') he
      rw [if_pos this]
/-! ### the order of labels, the last one first -/
theorem cmpR_refl : ∀ a : List (List UInt8), cmpR a a = 0
  | [] => rfl
  | a :: x => by simp [cmpR, cmpR_refl x]
theorem cmpR_zero : ∀ {a b : List (List UInt8)}, cmpR a b = 0 → a = b
  | [], [], _ => rfl
  | [], _ :: _, h => by simp [cmpR] at h
  | _ :: _, [], h => by simp [cmpR] at h
  | a :: x, b :: y, h => by
    unfold cmpR at h
    split at h
    · rename_i e; rw [e, cmpR_zero h]
    · rename_i e; exact absurd (cmpL_zero h) e
theorem cmpR_anti : ∀ a b : List (List UInt8), cmpR b a = - cmpR a b
  | [], [] => rfl
  | [], _ :: _ => rfl
  | _ :: _, [] => rfl
  | a :: x, b :: y => by
    by_cases e : a = b
    · subst e; simp [cmpR, cmpR_anti x y]
    · have e' : ¬ b = a := fun h => e h.symm
      simp only [cmpR, e, e', if_false]; exact cmpL_anti a b
/-! ### of any texts -/
end Go.Proofs.YtaiakpigljcjbaaGreatDoor
/- inGap, Between. -/
namespace Go.Proofs.YtaiakpigljcjbaaGreatDoor
set_option linter.unusedVariables false
open Go.RowKit
def gapB (x y z : Int) : Bool := if z < 0 then decide (0 < x) && decide (y < 0) else decide (0 < x) || decide (y < 0)
set_option maxRecDepth 100000 in
set_option maxHeartbeats 1000000 in
theorem gap_in (x y z : Int) (W : World) : Calls Tryz.prog 24 #[.int .i64 x, .int .i64 y, .int .i64 z] W fun e w' => e = .returned (.bool (gapB x y z)) ∧ w' = W := by
  unfold gapB
  by_cases h1 : z < 0
  · rw [if_pos h1]
    have d1 : decide (z < 0) = true := decide_eq_true h1
    by_cases h2 : 0 < x
    · have d2 : decide (0 < x) = true := decide_eq_true h2
      rw [d2, Bool.true_and]
      generalize hD : decide (y < 0) = D
      go_enter Tryz.func24, Tryz.ntmps24
      go_wp2
      go_ret
      exact ⟨by first | rfl | simp [hD], rfl⟩
    · have d2 : decide (0 < x) = false := decide_eq_false h2
      rw [d2, Bool.false_and]
      generalize hD : decide (y < 0) = D
      go_enter Tryz.func24, Tryz.ntmps24
      go_wp2
      go_ret
      exact ⟨by first | rfl | simp [hD], rfl⟩
  · rw [if_neg h1]
    have d1 : decide (z < 0) = false := decide_eq_false h1
    by_cases h2 : 0 < x
    · have d2 : decide (0 < x) = true := decide_eq_true h2
      rw [d2, Bool.true_or]
      generalize hD : decide (y < 0) = D
      go_enter Tryz.func24, Tryz.ntmps24
      go_wp2
      go_ret
      exact ⟨by first | rfl | simp [hD], rfl⟩
    · have d2 : decide (0 < x) = false := decide_eq_false h2
      rw [d2, Bool.false_or]
      generalize hD : decide (y < 0) = D
      go_enter Tryz.func24, Tryz.ntmps24
      go_wp2
      go_ret
      exact ⟨by first | rfl | simp [hD], rfl⟩
def btwB (a n b : List (List UInt8)) : Bool := gapB (cmpN n a) (cmpN n b) (cmpN a b)
set_option maxRecDepth 100000 in
set_option maxHeartbeats 1000000 in
theorem btw_yes (a n b : List (List UInt8)) (ha : OkN a) (hn : OkN n) (hb : OkN b) (W : World) : Calls Tryz.prog 10 #[.string (nm a), .string (nm n), .string (nm b)] W fun e w' => e = .returned (.bool (btwB a n b)) ∧ Below W.heap.size W w' := by
  have R1 := Hid.mk (right_yes a ha)
  have R2 := Hid.mk (right_yes n hn)
  have R3 := Hid.mk (right_yes b hb)
  have C1 := Hid.mk (compare_yes n a hn ha)
  have C2 := Hid.mk (compare_yes n b hn hb)
  have C3 := Hid.mk (compare_yes a b ha hb)
  have HG := Hid.mk (gap_in (cmpN n a) (cmpN n b) (cmpN a b))
  unfold btwB
  generalize gapB (cmpN n a) (cmpN n b) (cmpN a b) = D at HG ⊢
  generalize cmpN n a = x at C1 HG
  generalize cmpN n b = y at C2 HG
  generalize cmpN a b = z at C3 HG
  generalize nm a = sa at *
  generalize nm n = sn at *
  generalize nm b = sb at *
  clear ha hn hb
  go_enter Tryz.func10, Tryz.ntmps10
  go_wp2_with fail
  refine (R1.out _).mono ?_
  rintro e w1 ⟨rfl, b1⟩
  go_wp2_with fail
  refine (R2.out _).mono ?_
  rintro e w2 ⟨rfl, b2⟩
  go_wp2_with fail
  refine (R3.out _).mono ?_
  rintro e w3 ⟨rfl, b3⟩
  go_wp2_with fail
  refine (C1.out _).mono ?_
  rintro e w4 ⟨rfl, b4⟩
  go_wp2_with fail
  refine (C2.out _).mono ?_
  rintro e w5 ⟨rfl, b5⟩
  go_wp2_with fail
  refine (C3.out _).mono ?_
  rintro e w6 ⟨rfl, b6⟩
  go_wp2_with fail
  refine (HG.out _).mono ?_
  rintro e w7 ⟨rfl, rfl⟩
  go_wp2
  go_ret
  exact ⟨rfl, bthen (bthen (bthen (bthen (bthen b1 b2) b3) b4) b5) b6⟩
end Go.Proofs.YtaiakpigljcjbaaGreatDoor
/- Boxes of one's own that stay; a link loaded and stored as one step. -/
namespace Go.Proofs.YtaiakpigljcjbaaGreatDoor
set_option linter.unusedVariables false
open Go.RowKit
theorem below_row {B : Nat} {a w : World} (h : Below B a w) {b : Nat} (hb : B ≤ b) (cs : Array Value) : Below B a (w.setRow b cs) :=
  ⟨h.os, h.tape, h.output, by simpa [World.setRow] using h.size, fun k hk => (setRow_other w b k cs (by omega)).trans (h.block k hk)⟩
theorem setRow_new (w : World) (L M : List Value) (t : TypeId) : (w.alloc (.cells L.toArray t)).setRow w.heap.size M.toArray = w.alloc (.cells M.toArray t) := by
  have e : ∀ (h1 h2 : Array Obj), h1 = h2 → ({ w with heap := h1 } : World) = { w with heap := h2 } := fun _ _ h => by rw [h]
  refine e _ _ ?_
  apply Array.ext_getElem?
  intro k
  show ((w.heap.push _).modify _ _)[k]? = (w.heap.push _)[k]?
  simp only [Array.getElem?_modify, Array.getElem?_push]
  by_cases hk : k = w.heap.size
  · subst hk; simp
  · simp [hk, Ne.symm hk]
structure Fm (W : World) (l : List (Nat × Obj)) (w : World) : Prop where
  has : ∀ (i b : Nat) (o : Obj), l[i]? = some (b, o) → w.heap[b]? = some o
  own : ∀ p ∈ l, W.heap.size ≤ p.1
  nd : (l.map Prod.fst).Nodup
  bel : Below W.heap.size W w
theorem Fm.start (W : World) : Fm W [] W := ⟨fun _ _ _ h => by simp at h, fun _ h => by simp at h, by simp, Below.refl _ _⟩
theorem Fm.get {W w : World} {l : List (Nat × Obj)} (h : Fm W l w) (i : Nat) {b : Nat} {o : Obj} (e : l[i]? = some (b, o)) : w.heap[b]? = some o := h.has i b o e
theorem Fm.drew {W w : World} {l : List (Nat × Obj)} (h : Fm W l w) : Fm W l w.drew := ⟨h.has, h.own, h.nd, h.bel.drew⟩
theorem Fm.blk {W w w' : World} {l : List (Nat × Obj)} (h : Fm W l w) (hb : Below w.heap.size w w') : Fm W l w' :=
  ⟨fun i b o e => (hb.block _ (box_lt (h.has i b o e))).trans (h.has i b o e), h.own, h.nd, bthen h.bel hb⟩
theorem Fm.alloc {W w : World} {l : List (Nat × Obj)} (h : Fm W l w) (o : Obj) : Fm W l (w.alloc o) := h.blk ((Below.refl _ _).alloc (Nat.le_refl _) _)
theorem Fm.new {W w : World} {l : List (Nat × Obj)} (h : Fm W l w) (o : Obj) : Fm W ((w.heap.size, o) :: l) (w.alloc o) where
  has := fun i b o' e => by
    cases i with
    | zero =>
      simp only [List.getElem?_cons_zero, Option.some.injEq, Prod.mk.injEq] at e
      obtain ⟨rfl, rfl⟩ := e
      exact heap_new _ _
    | succ i => exact (h.alloc o).has i b o' (by simpa using e)
  own := fun p hp => by
    rcases List.mem_cons.1 hp with rfl | hp
    · exact h.bel.size
    · exact h.own p hp
  nd := by
    rw [List.map_cons, List.nodup_cons]
    refine ⟨fun hm => ?_, h.nd⟩
    obtain ⟨p, hp, e⟩ := List.mem_map.1 hm
    obtain ⟨i, hi⟩ := List.getElem?_of_mem hp
    have := box_lt (h.has i p.1 p.2 hi)
    omega
  bel := (h.alloc o).bel
theorem Fm.lt {W w : World} {l : List (Nat × Obj)} (h : Fm W l w) (i : Nat) {b : Nat} {o : Obj} (e : l[i]? = some (b, o)) : b < w.heap.size := box_lt (h.get i e)
theorem Fm.put {W w : World} {l : List (Nat × Obj)} (h : Fm W l w) (i : Nat) {b : Nat} {L : Array Value} {t : TypeId} (x : Array Value) (e : l[i]? = some (b, .cells L t (0, 0))) : Fm W (l.set i (b, .cells x t (0, 0))) (w.setRow b x) where
  has := fun j b' o' e' => by
    by_cases hij : i = j
    · subst hij
      have hl : i < l.length := (List.getElem?_eq_some_iff.1 e).1
      rw [List.getElem?_set_self hl] at e'
      simp only [Option.some.injEq, Prod.mk.injEq] at e'
      obtain ⟨rfl, rfl⟩ := e'
      exact setRow_heap _ _ _ _ _ _ (h.get i e)
    · rw [List.getElem?_set_ne hij] at e'
      have hne : b ≠ b' := by
        intro hb
        have h1 : (l.map Prod.fst)[i]? = some b := by rw [List.getElem?_map, e]; rfl
        have h2 : (l.map Prod.fst)[j]? = some b := by rw [List.getElem?_map, e', hb]; rfl
        obtain ⟨l1, g1⟩ := List.getElem?_eq_some_iff.1 h1
        obtain ⟨l2, g2⟩ := List.getElem?_eq_some_iff.1 h2
        rcases Nat.lt_or_gt_of_ne hij with hh | hh
        · exact List.pairwise_iff_getElem.1 h.nd i j l1 l2 hh (g1.trans g2.symm)
        · exact List.pairwise_iff_getElem.1 h.nd j i l2 l1 hh (g2.trans g1.symm)
      exact (setRow_other _ _ _ _ (Ne.symm hne)).trans (h.get j e')
  own := fun p hp => by
    rcases List.mem_or_eq_of_mem_set hp with hp | rfl
    · exact h.own p hp
    · exact h.own (b, .cells L t (0, 0)) (List.mem_of_getElem? e)
  nd := by
    have : (l.set i (b, Obj.cells x t (0, 0))).map Prod.fst = l.map Prod.fst := by
      rw [List.map_set]
      have h1 : (l.map Prod.fst)[i]? = some b := by rw [List.getElem?_map, e]; rfl
      obtain ⟨l1, g1⟩ := List.getElem?_eq_some_iff.1 h1
      rw [← g1, List.set_getElem_self]
    rw [this]
    exact h.nd
  bel := below_row h.bel (h.own _ (List.mem_of_getElem? e)) _
theorem Fm.box1 (W : World) (o1 : Obj) : Fm W [(W.heap.size, o1)] (W.alloc o1) := (Fm.start W).new o1
def lkStore (a x : Value) : Sem Unit := Instr.storeAt 95 a x
theorem storeAt_lk (a x : Value) : Instr.storeAt 95 a x = lkStore a x := rfl
def lkLoad (a : Value) : Sem Value := Instr.loadAt 95 a
theorem loadAt_lk (a : Value) : Instr.loadAt 95 a = lkLoad a := rfl
theorem sizeLk : (Tryz.prog.info? 95).map (·.size) = some 3 := by kernel_rfl
theorem lkStore_run {W : World} {b : Nat} {x y z x' y' z' : Value} (h : W.heap[b]? = some (.cells #[x, y, z] 95 (0, 0))) (h1 : x'.oneCell' = true) (h2 : y'.oneCell' = true) (h3 : z'.oneCell' = true) : (lkStore (.pointer (some ⟨b, 0, none⟩)) (.agg #[x', y', z'])).run Tryz.prog W = .ok () (W.setRow b #[x', y', z']) := by
  unfold lkStore
  simp only [Instr.storeAt, Instr.sureAddr, Sem.run_bind, Sem.run_pure, Result.andThen]
  exact run_storeVar_row W b _ _ _ _ h sizeLk rfl (by simp [h1, h2, h3])
theorem lk_loadV {W : World} {b : Nat} {x y z : Value} (h : W.heap[b]? = some (.cells #[x, y, z] 95 (0, 0))) : (loadVar 95 ⟨b, 0, none⟩).run Tryz.prog W = .ok (.agg #[x, y, z]) W :=
  run_loadVar_row W b _ _ _ (0, 0) _ h Tryz.underlying95 rfl sizeLk
theorem lkLoad_run {W : World} {b : Nat} {x y z : Value} (h : W.heap[b]? = some (.cells #[x, y, z] 95 (0, 0))) : (lkLoad (.pointer (some ⟨b, 0, none⟩))).run Tryz.prog W = .ok (.agg #[x, y, z]) W := by
  unfold lkLoad
  simp only [Instr.loadAt, Instr.sureAddr, Sem.run_bind, Sem.run_pure, Result.andThen]
  exact lk_loadV h
theorem results_lk_tmp {fn : Func} {p u : Tmp} (h : fn.results = #[.cell p 95, .tmp u]) {tmps : Array Value} {W : World} {b : Nat} {x y z v : Value} (hp : tmps.getD p undef = .pointer (some ⟨b, 0, none⟩)) (hv : tmps.getD u undef = v) (hb : W.heap[b]? = some (.cells #[x, y, z] 95 (0, 0))) : (results fn tmps).run Tryz.prog W = .ok (.tuple #[.agg #[x, y, z], v]) W := by
  have hp' : tmps[p]?.getD undef = .pointer (some ⟨b, 0, none⟩) := by simpa using hp
  have hv' : tmps[u]?.getD undef = v := by simpa using hv
  simp only [results, h]
  simp [hp', hv', asAddr, lk_loadV hb]
attribute [local go_sem ↓] storeAt_lk loadAt_lk
theorem lkst1 (w : World) (x y z x' y' z' : Value) (h1 : x.oneCell' = true) (h2 : y.oneCell' = true) (h3 : z.oneCell' = true) : (lkStore (.pointer (some ⟨w.heap.size, 0, none⟩)) (.agg #[x, y, z])).run Tryz.prog (w.alloc (Obj.cells #[x', y', z'] 95 (0, 0))) = .ok () (w.alloc (Obj.cells #[x, y, z] 95 (0, 0))) := by
  rw [lkStore_run (heap_new _ _) h1 h2 h3]
  exact congrArg (Result.ok ()) (setRow_new w [x', y', z'] [x, y, z] 95)
structure Lk where
  o : List (List UInt8)
  x : List (List UInt8)
  t : List Int
def Lk.Ok (k : Lk) : Prop := OkN k.o ∧ OkN k.x ∧ k.t.length ≤ 1000000
def LkAt (W : World) (k : Lk) (a b c : Value) : Prop := a = .string (nm k.o) ∧ b = .string (nm k.x) ∧ IntsAt W c k.t
theorem LkAt.blk {W W' : World} {k : Lk} {a b c : Value} (h : LkAt W k a b c) (hb : Below W.heap.size W W') : LkAt W' k a b c := ⟨h.1, h.2.1, h.2.2.below hb⟩
theorem LkAt.one {W : World} {k : Lk} {a b c : Value} (h : LkAt W k a b c) : a.oneCell' = true ∧ b.oneCell' = true ∧ c.oneCell' = true := by
  obtain ⟨rfl, rfl, q, cc, rfl, _⟩ := h
  exact ⟨rfl, rfl, rfl⟩
end Go.Proofs.YtaiakpigljcjbaaGreatDoor
/- rrset.Right of a set of NSEC. -/
namespace Go.Proofs.YtaiakpigljcjbaaGreatDoor
set_option linter.unusedVariables false
set_option linter.unusedSimpArgs false
open Go.RowKit
attribute [local go_sem ↓] storeAt_lk loadAt_lk
def stLoad (a : Value) : Sem Value := Instr.loadAt 37 a
theorem loadAt_st (a : Value) : Instr.loadAt 37 a = stLoad a := rfl
def stStore (a x : Value) : Sem Unit := Instr.storeAt 37 a x
theorem storeAt_st (a x : Value) : Instr.storeAt 37 a x = stStore a x := rfl
theorem sizeSt : (Tryz.prog.info? 37).map (·.size) = some 6 := by kernel_rfl
theorem stLoad_run {W : World} {b : Nat} {x0 x1 x2 x3 x4 x5 : Value} (h : W.heap[b]? = some (.cells #[x0, x1, x2, x3, x4, x5] 37 (0, 0))) : (stLoad (.pointer (some ⟨b, 0, none⟩))).run Tryz.prog W = .ok (.agg #[x0, x1, x2, x3, x4, x5]) W := by
  unfold stLoad
  simp only [Instr.loadAt, Instr.sureAddr, Sem.run_bind, Sem.run_pure, Result.andThen]
  exact run_loadVar_row W b _ _ _ (0, 0) _ h Tryz.underlying37 rfl sizeSt
attribute [local go_sem ↓] loadAt_st storeAt_st
set_option maxRecDepth 100000 in
set_option maxHeartbeats 1000000 in
theorem ins1_in (v : Value) (W : World) : Calls Tryz.prog 209 #[v, .int .i64 0, .int .i64 1] W fun e w' => e = .returned (.tuple #[]) ∧ w' = W := by
  go_enter Tryz.func209, Tryz.ntmps209
  go_wp2_with fail
  go_loopw [6] (fun iv wr => iv = .int .i64 1 ∧ wr = W) (fun _ _ => 0)
  case atStart => exact ⟨by first | rfl | go_num, rfl⟩
  case round =>
    obtain ⟨rfl, rfl⟩ := hrel
    go_wp2
    exact bodyPost_end (results_none rfl _ _ _) rfl ⟨rfl, rfl⟩
set_option maxRecDepth 100000 in
set_option maxHeartbeats 1000000 in
theorem pdq1_in (v : Value) (k : Int) (W : World) : Calls Tryz.prog 189 #[v, .int .i64 0, .int .i64 1, .int .i64 k] W fun e w' => e = .returned (.tuple #[]) ∧ w' = W := by
  have HI := Hid.mk (ins1_in v)
  go_enter Tryz.func189, Tryz.ntmps189
  go_wp2_with fail
  go_loopw [1, 2] (fun av bv wr => av = .int .i64 0 ∧ bv = .int .i64 1 ∧ wr = W) (fun _ _ _ => 0)
  case atStart => exact ⟨rfl, rfl, rfl⟩
  case round =>
    obtain ⟨rfl, rfl, rfl⟩ := hrel
    go_wp2_with fail
    refine (HI.out _).mono ?_
    rintro e w1 ⟨rfl, rfl⟩
    go_wp2
    exact bodyPost_ret (results_none rfl _ _ _) rfl ⟨rfl, rfl⟩
set_option maxRecDepth 100000 in
set_option maxHeartbeats 1000000 in
theorem sort1_in (q : Option Addr) (c : Nat) (W : World) : Calls Tryz.prog 143 #[.slice q 1 c] W fun e w' => e = .returned (.tuple #[]) ∧ w' = W := by
  have HL := Hid.mk (Tryz.bits_Len 1 · (by omega) (by omega))
  have HP := Hid.mk fun k => pdq1_in (.slice q 1 c) k
  go_enter Tryz.func143, Tryz.ntmps143
  go_wp2_with fail
  refine (HL.out _).mono ?_
  rintro e w1 ⟨rfl, rfl⟩
  go_wp2_with fail
  refine (HP.out _ _).mono ?_
  rintro e w2 ⟨rfl, rfl⟩
  go_wp2
  exact bodyPost_end (results_none rfl _ _ _) rfl ⟨rfl, rfl⟩
set_option maxRecDepth 100000 in
set_option maxHeartbeats 1000000 in
theorem compact1_in (q : Option Addr) (c : Nat) (W : World) : Calls Tryz.prog 125 #[.slice q 1 c] W fun e w' => e = .returned (.slice q 1 c) ∧ w' = W := by
  go_enter Tryz.func125, Tryz.ntmps125
  go_wp2
  go_ret
  exact ⟨rfl, rfl⟩
set_option maxRecDepth 100000 in
set_option maxHeartbeats 1000000 in
theorem nothers_in (W : World) : Calls Tryz.prog 188 #[.int .i64 47] W fun e w' => e = .returned (.bool false) ∧ w' = W := by
  go_enter Tryz.func188, Tryz.ntmps188
  go_wp2
  go_ret
  exact ⟨rfl, rfl⟩
set_option maxRecDepth 100000 in
set_option maxHeartbeats 1000000 in
theorem lower47_in (d : ByteArray) (W : World) : Calls Tryz.prog 142 #[.int .i64 47, .string d] W fun e w' => e = .returned (.string d) ∧ w' = W := by
  have HI := Hid.mk nothers_in
  go_enter Tryz.func142, Tryz.ntmps142
  go_wp2_with fail
  refine (HI.out _).mono ?_
  rintro e w1 ⟨rfl, rfl⟩
  go_wp2
  go_ret
  exact ⟨rfl, rfl⟩
set_option maxRecDepth 100000 in
set_option maxHeartbeats 1000000 in
theorem fitsA_in (W : World) : Calls Tryz.prog 123 #[.int .i64 1, .int .i64 16] W fun e w' => e = .returned (.bool true) ∧ w' = W := by
  go_enter Tryz.func123, Tryz.ntmps123
  go_wp2
  go_ret
  exact ⟨rfl, rfl⟩
set_option maxRecDepth 100000 in
set_option maxHeartbeats 1000000 in
theorem fitsB_in (W : World) : Calls Tryz.prog 123 #[.int .i64 0, .int .i64 31] W fun e w' => e = .returned (.bool true) ∧ w' = W := by
  go_enter Tryz.func123, Tryz.ntmps123
  go_wp2
  go_ret
  exact ⟨rfl, rfl⟩
set_option maxRecDepth 100000 in
set_option maxHeartbeats 1000000 in
theorem makes_in (W : World) : Calls Tryz.prog 122 #[.int .i64 47] W fun e w' => e = .returned (.bool true) ∧ w' = W := by
  go_enter Tryz.func122, Tryz.ntmps122
  go_wp2
  go_ret
  exact ⟨rfl, rfl⟩
set_option maxRecDepth 100000 in
set_option maxHeartbeats 2000000 in
theorem rhead_in (s : ByteArray) (g cap : Nat) (W : World) (hs : Hid (∀ w, Calls Tryz.prog 11 #[.string s] w fun e w' => e = .returned (.bool true) ∧ Below w.heap.size w w')) : Calls Tryz.prog 106 #[.agg #[.string s, .int .i64 47, .int .i64 1, .int .i64 0, .slice (some ⟨g, 0, none⟩) 1 cap, .slice none 0 0]] W fun e w' => e = .returned (.bool true) ∧ Below W.heap.size W w' := by
  have HM := Hid.mk makes_in
  have HA := Hid.mk fitsA_in
  have HB := Hid.mk fitsB_in
  obtain ⟨V, hV, F⟩ : ∃ V, W.alloc (Obj.cells #[.string s, .int .i64 47, .int .i64 1, .int .i64 0, .slice (some ⟨g, 0, none⟩) 1 cap, .slice none 0 0] 37 (0, 0)) = V ∧ Fm W [(W.heap.size, Obj.cells #[.string s, .int .i64 47, .int .i64 1, .int .i64 0, .slice (some ⟨g, 0, none⟩) 1 cap, .slice none 0 0] 37 (0, 0))] V := ⟨_, rfl, Fm.box1 W _⟩
  have HCe : Hid (∀ w, Fm W [(W.heap.size, Obj.cells #[.string s, .int .i64 47, .int .i64 1, .int .i64 0, .slice (some ⟨g, 0, none⟩) 1 cap, .slice none 0 0] 37 (0, 0))] w → w.cell? ⟨W.heap.size, 0, none⟩ = some (.string s) ∧ w.cell? ⟨W.heap.size, 1, none⟩ = some (.int .i64 47) ∧ w.cell? ⟨W.heap.size, 2, none⟩ = some (.int .i64 1) ∧ w.cell? ⟨W.heap.size, 3, none⟩ = some (.int .i64 0) ∧ w.cell? ⟨W.heap.size, 4, none⟩ = some (.slice (some ⟨g, 0, none⟩) 1 cap) ∧ w.cell? ⟨W.heap.size, 5, none⟩ = some (.slice none 0 0)) := fun w h => ⟨(cells_at (h.get 0 rfl) rfl).1, (cells_at (h.get 0 rfl) rfl).1, (cells_at (h.get 0 rfl) rfl).1, (cells_at (h.get 0 rfl) rfl).1, (cells_at (h.get 0 rfl) rfl).1, (cells_at (h.get 0 rfl) rfl).1⟩
  obtain ⟨q0, q1, q2, q3, q4, q5⟩ := HCe.out _ F
  go_enter Tryz.func106, Tryz.ntmps106
  go_wp2_with fail
  refine (hs.out _).mono ?_
  rintro e w1 ⟨rfl, hb⟩
  replace F := F.blk hb
  clear hb hV q0 q1 q2 q3 q4 q5
  obtain ⟨q0, q1, q2, q3, q4, q5⟩ := HCe.out _ F
  go_wp2_with fail
  refine (HM.out _).mono ?_
  rintro e w2 ⟨rfl, rfl⟩
  go_wp2_with fail
  refine (HA.out _).mono ?_
  rintro e w3 ⟨rfl, rfl⟩
  go_wp2_with fail
  refine (HB.out _).mono ?_
  rintro e w4 ⟨rfl, rfl⟩
  go_wp2
  go_ret
  exact ⟨rfl, F.bel⟩
set_option maxRecDepth 100000 in
set_option maxHeartbeats 2000000 in
theorem rsigs_in (s : ByteArray) (g cap : Nat) (W : World) : Calls Tryz.prog 108 #[.agg #[.string s, .int .i64 47, .int .i64 1, .int .i64 0, .slice (some ⟨g, 0, none⟩) 1 cap, .slice none 0 0]] W fun e w' => e = .returned (.bool true) ∧ Below W.heap.size W w' := by
  obtain ⟨V, hV, F⟩ : ∃ V, W.alloc (Obj.cells #[.string s, .int .i64 47, .int .i64 1, .int .i64 0, .slice (some ⟨g, 0, none⟩) 1 cap, .slice none 0 0] 37 (0, 0)) = V ∧ Fm W [(W.heap.size, Obj.cells #[.string s, .int .i64 47, .int .i64 1, .int .i64 0, .slice (some ⟨g, 0, none⟩) 1 cap, .slice none 0 0] 37 (0, 0))] V := ⟨_, rfl, Fm.box1 W _⟩
  have HCe : Hid (∀ w, Fm W [(W.heap.size, Obj.cells #[.string s, .int .i64 47, .int .i64 1, .int .i64 0, .slice (some ⟨g, 0, none⟩) 1 cap, .slice none 0 0] 37 (0, 0))] w → w.cell? ⟨W.heap.size, 0, none⟩ = some (.string s) ∧ w.cell? ⟨W.heap.size, 1, none⟩ = some (.int .i64 47) ∧ w.cell? ⟨W.heap.size, 2, none⟩ = some (.int .i64 1) ∧ w.cell? ⟨W.heap.size, 3, none⟩ = some (.int .i64 0) ∧ w.cell? ⟨W.heap.size, 4, none⟩ = some (.slice (some ⟨g, 0, none⟩) 1 cap) ∧ w.cell? ⟨W.heap.size, 5, none⟩ = some (.slice none 0 0)) := fun w h => ⟨(cells_at (h.get 0 rfl) rfl).1, (cells_at (h.get 0 rfl) rfl).1, (cells_at (h.get 0 rfl) rfl).1, (cells_at (h.get 0 rfl) rfl).1, (cells_at (h.get 0 rfl) rfl).1, (cells_at (h.get 0 rfl) rfl).1⟩
  obtain ⟨q0, q1, q2, q3, q4, q5⟩ := HCe.out _ F
  go_enter Tryz.func108, Tryz.ntmps108
  go_wp2_with fail
  go_loopw [14] (fun iv wr => iv = .int .i64 0 ∧ Fm W [(W.heap.size, Obj.cells #[.string s, .int .i64 47, .int .i64 1, .int .i64 0, .slice (some ⟨g, 0, none⟩) 1 cap, .slice none 0 0] 37 (0, 0))] wr) (fun _ _ => 0)
  case atStart => exact ⟨rfl, by first | exact F | (rw [hV]; exact F)⟩
  case round =>
    obtain ⟨rfl, Fr⟩ := hrel
    go_wp2
    go_ret
    exact ⟨rfl, Fr.bel⟩
set_option maxRecDepth 100000 in
set_option maxHeartbeats 2000000 in
theorem inord_in (d : ByteArray) (s : ByteArray) (g cap : Nat) (W : World) (hd : W.cell? ⟨g, 0, none⟩ = some (.string d)) (hg : g < W.heap.size) : Calls Tryz.prog 126 #[.agg #[.string s, .int .i64 47, .int .i64 1, .int .i64 0, .slice (some ⟨g, 0, none⟩) 1 cap, .slice none 0 0]] W fun e w' => (∃ q c, e = .returned (.slice q 1 c)) ∧ Below W.heap.size W w' := by
  have HL := Hid.mk (lower47_in d)
  have HS := Hid.mk sort1_in
  have HD := Hid.mk hd
  clear hd
  obtain ⟨V, hV, F⟩ : ∃ V, W.alloc (Obj.cells #[.string s, .int .i64 47, .int .i64 1, .int .i64 0, .slice (some ⟨g, 0, none⟩) 1 cap, .slice none 0 0] 37 (0, 0)) = V ∧ Fm W [(W.heap.size, Obj.cells #[.string s, .int .i64 47, .int .i64 1, .int .i64 0, .slice (some ⟨g, 0, none⟩) 1 cap, .slice none 0 0] 37 (0, 0))] V := ⟨_, rfl, Fm.box1 W _⟩
  have HCe : Hid (∀ w, Fm W [(W.heap.size, Obj.cells #[.string s, .int .i64 47, .int .i64 1, .int .i64 0, .slice (some ⟨g, 0, none⟩) 1 cap, .slice none 0 0] 37 (0, 0))] w → w.cell? ⟨W.heap.size, 0, none⟩ = some (.string s) ∧ w.cell? ⟨W.heap.size, 1, none⟩ = some (.int .i64 47) ∧ w.cell? ⟨W.heap.size, 2, none⟩ = some (.int .i64 1) ∧ w.cell? ⟨W.heap.size, 3, none⟩ = some (.int .i64 0) ∧ w.cell? ⟨W.heap.size, 4, none⟩ = some (.slice (some ⟨g, 0, none⟩) 1 cap) ∧ w.cell? ⟨W.heap.size, 5, none⟩ = some (.slice none 0 0)) := fun w h => ⟨(cells_at (h.get 0 rfl) rfl).1, (cells_at (h.get 0 rfl) rfl).1, (cells_at (h.get 0 rfl) rfl).1, (cells_at (h.get 0 rfl) rfl).1, (cells_at (h.get 0 rfl) rfl).1, (cells_at (h.get 0 rfl) rfl).1⟩
  obtain ⟨q0, q1, q2, q3, q4, q5⟩ := HCe.out _ F
  obtain ⟨i0, hi, hz0, hz1, hz2⟩ := info_parts info9
  go_enter Tryz.func126, Tryz.ntmps126
  go_wp2_with fail
  go_loopw [3, 9] (fun lv iv wr => ((iv = .int .i64 0 ∧ lv = .slice none 0 0) ∨ (iv = .int .i64 1 ∧ ∃ q c, lv = .slice q 1 c)) ∧ Fm W [(W.heap.size, Obj.cells #[.string s, .int .i64 47, .int .i64 1, .int .i64 0, .slice (some ⟨g, 0, none⟩) 1 cap, .slice none 0 0] 37 (0, 0))] wr) (fun _ iv _ => 1 - (intOf iv).toNat)
  case atStart => exact ⟨.inl ⟨rfl, rfl⟩, by first | exact F | (rw [hV]; exact F)⟩
  case round =>
    obtain ⟨hh, Fr⟩ := hrel
    clear q0 q1 q2 q3 q4 q5 F hV
    rcases hh with ⟨rfl, rfl⟩ | ⟨rfl, q, c, rfl⟩
    · obtain ⟨q0, q1, q2, q3, q4, q5⟩ := HCe.out _ Fr
      have kd : wr.cell? ⟨g, 0, none⟩ = some (.string d) := (Fr.bel.cell (p := ⟨g, 0, none⟩) hg).trans HD.out
      go_wp2_with fail
      refine (HL.out _).mono ?_
      rintro e w1 ⟨rfl, rfl⟩
      have hrow : w1.ownsRow W.heap.size 9 1 (.slice none 0 0) 0 [] := World.ownsRow_nil w1 W.heap.size _ _
      go_wp2_with (at_builtin; refine wpList_append_own _ rfl _ _ 35 rfl W.heap.size 9 i0 (.string ⟨#[]⟩) 1 16 Tryz.underlying35 hi hz0 hz1 hz2 rfl (by decide) _ _ _ rfl (hrow.alloc _) ⟨w1.heap.size, 0, none⟩ 1 1 [.string d] rfl rfl (cell_one_new _ _ _) (by simp [Value.oneCell']) (by unfold maxLen; omega) (by omega) (by have := Fr.bel.size; simp; omega) ?_; intro v1 w3 hown3 hgrow3 _)
      have hB3 : Below w1.heap.size w1 w3 := ((Below.refl w1.heap.size w1).alloc (Nat.le_refl _) _).grown hgrow3 (by simp) (fun j ej => by have ej' : (none : Option Nat) = some j := ej; cases ej')
      obtain ⟨q, c, hv1⟩ := row_as hown3
      have F3 := Fr.blk hB3
      subst hv1
      clear hgrow3 hown3 hB3 hrow
      go_roundw
      case rel => exact ⟨.inr ⟨by first | rfl | go_num, _, _, rfl⟩, F3⟩
      case measure => simp [intOf]
    · go_wp2_with fail
      refine (HS.out _ _ _).mono ?_
      rintro e w1 ⟨rfl, rfl⟩
      go_wp2
      go_ret
      exact ⟨⟨q, c, rfl⟩, Fr.bel⟩
set_option maxRecDepth 100000 in
set_option maxHeartbeats 2000000 in
theorem rdata_in (d : ByteArray) (s : ByteArray) (g cap : Nat) (W : World) (hd : W.cell? ⟨g, 0, none⟩ = some (.string d)) (hg : g < W.heap.size) (hr : Hid (∀ w, Calls Tryz.prog 124 #[.int .i64 47, .string d] w fun e w' => e = .returned (.bool true) ∧ Below w.heap.size w w')) : Calls Tryz.prog 107 #[.agg #[.string s, .int .i64 47, .int .i64 1, .int .i64 0, .slice (some ⟨g, 0, none⟩) 1 cap, .slice none 0 0]] W fun e w' => e = .returned (.bool true) ∧ Below W.heap.size W w' := by
  have HI : Hid (∀ w, Below W.heap.size W w → Calls Tryz.prog 126 #[.agg #[.string s, .int .i64 47, .int .i64 1, .int .i64 0, .slice (some ⟨g, 0, none⟩) 1 cap, .slice none 0 0]] w fun e w' => (∃ q c, e = .returned (.slice q 1 c)) ∧ Below w.heap.size w w') := fun w hb => inord_in d s g cap w ((hb.cell (p := ⟨g, 0, none⟩) hg).trans hd) (Nat.lt_of_lt_of_le hg hb.size)
  have HCo := Hid.mk compact1_in
  have HD := Hid.mk hd
  clear hd
  obtain ⟨V, hV, F⟩ : ∃ V, W.alloc (Obj.cells #[.string s, .int .i64 47, .int .i64 1, .int .i64 0, .slice (some ⟨g, 0, none⟩) 1 cap, .slice none 0 0] 37 (0, 0)) = V ∧ Fm W [(W.heap.size, Obj.cells #[.string s, .int .i64 47, .int .i64 1, .int .i64 0, .slice (some ⟨g, 0, none⟩) 1 cap, .slice none 0 0] 37 (0, 0))] V := ⟨_, rfl, Fm.box1 W _⟩
  have HCe : Hid (∀ w, Fm W [(W.heap.size, Obj.cells #[.string s, .int .i64 47, .int .i64 1, .int .i64 0, .slice (some ⟨g, 0, none⟩) 1 cap, .slice none 0 0] 37 (0, 0))] w → w.cell? ⟨W.heap.size, 0, none⟩ = some (.string s) ∧ w.cell? ⟨W.heap.size, 1, none⟩ = some (.int .i64 47) ∧ w.cell? ⟨W.heap.size, 2, none⟩ = some (.int .i64 1) ∧ w.cell? ⟨W.heap.size, 3, none⟩ = some (.int .i64 0) ∧ w.cell? ⟨W.heap.size, 4, none⟩ = some (.slice (some ⟨g, 0, none⟩) 1 cap) ∧ w.cell? ⟨W.heap.size, 5, none⟩ = some (.slice none 0 0)) := fun w h => ⟨(cells_at (h.get 0 rfl) rfl).1, (cells_at (h.get 0 rfl) rfl).1, (cells_at (h.get 0 rfl) rfl).1, (cells_at (h.get 0 rfl) rfl).1, (cells_at (h.get 0 rfl) rfl).1, (cells_at (h.get 0 rfl) rfl).1⟩
  obtain ⟨q0, q1, q2, q3, q4, q5⟩ := HCe.out _ F
  go_enter Tryz.func107, Tryz.ntmps107
  go_wp2_with fail
  go_loopw [18] (fun iv wr => (iv = .int .i64 0 ∨ iv = .int .i64 1) ∧ Fm W [(W.heap.size, Obj.cells #[.string s, .int .i64 47, .int .i64 1, .int .i64 0, .slice (some ⟨g, 0, none⟩) 1 cap, .slice none 0 0] 37 (0, 0))] wr) (fun iv _ => 1 - (intOf iv).toNat)
  case atStart => exact ⟨.inl rfl, by first | exact F | (rw [hV]; exact F)⟩
  case round =>
    obtain ⟨hh, Fr⟩ := hrel
    clear q0 q1 q2 q3 q4 q5 F hV
    obtain ⟨q0, q1, q2, q3, q4, q5⟩ := HCe.out _ Fr
    rcases hh with rfl | rfl
    · have kd : wr.cell? ⟨g, 0, none⟩ = some (.string d) := (Fr.bel.cell (p := ⟨g, 0, none⟩) hg).trans HD.out
      go_wp2_with fail
      refine (hr.out _).mono ?_
      rintro e w1 ⟨rfl, hb⟩
      replace Fr := Fr.blk hb
      clear hb kd q0 q1 q2 q3 q4 q5
      go_wp2
      go_roundw
      case rel => exact ⟨.inr (by first | rfl | go_num), Fr⟩
      case measure => simp [intOf]
    · have HS2 : Hid (∀ w, Fm W [(W.heap.size, Obj.cells #[.string s, .int .i64 47, .int .i64 1, .int .i64 0, .slice (some ⟨g, 0, none⟩) 1 cap, .slice none 0 0] 37 (0, 0))] w → Fm W [(W.heap.size, Obj.cells #[.string s, .int .i64 47, .int .i64 1, .int .i64 0, .slice (some ⟨g, 0, none⟩) 1 cap, .slice none 0 0] 37 (0, 0))] w ∧ (stLoad (.pointer (some ⟨W.heap.size, 0, none⟩))).run Tryz.prog w = .ok (.agg #[.string s, .int .i64 47, .int .i64 1, .int .i64 0, .slice (some ⟨g, 0, none⟩) 1 cap, .slice none 0 0]) w ∧ w.cell? ⟨W.heap.size, 4, none⟩ = some (.slice (some ⟨g, 0, none⟩) 1 cap)) := fun w h => ⟨h, stLoad_run (h.get 0 rfl), (cells_at (h.get 0 rfl) rfl).1⟩
      go_upto_region 9 with fail
      have hS0 := HS2.out _ Fr
      clear q0 q1 q2 q3 q4 q5
      have Fd := Fr.drew
      go_region_held3 (fun w => Fm W [(W.heap.size, Obj.cells #[.string s, .int .i64 47, .int .i64 1, .int .i64 0, .slice (some ⟨g, 0, none⟩) 1 cap, .slice none 0 0] 37 (0, 0))] w ∧ (stLoad (.pointer (some ⟨W.heap.size, 0, none⟩))).run Tryz.prog w = .ok (.agg #[.string s, .int .i64 47, .int .i64 1, .int .i64 0, .slice (some ⟨g, 0, none⟩) 1 cap, .slice none 0 0]) w ∧ w.cell? ⟨W.heap.size, 4, none⟩ = some (.slice (some ⟨g, 0, none⟩) 1 cap))
        (first | assumption | (apply HS2.out; first | assumption | (apply Fm.drew; assumption)))
        (first
          | (go_at_call 126; with_reducible refine (HI.out _ (Fm.bel (by first | assumption | (apply Fm.drew; assumption)))).mono ?_; rintro e w2 ⟨⟨q2, c2, rfl⟩, hb2⟩; have F2 := Fm.blk (by first | assumption | (apply Fm.drew; assumption)) hb2; have hs2 := HS2.out _ F2)
          | (go_at_call 125; with_reducible refine (HCo.out _ _ _).mono ?_; rintro e w3 ⟨rfl, rfl⟩))
      go_wp2
      go_ret
      exact ⟨rfl, F2.bel⟩
set_option maxRecDepth 100000 in
set_option maxHeartbeats 2000000 in
theorem rright_in (d : ByteArray) (s : ByteArray) (g cap : Nat) (W : World) (hd : W.cell? ⟨g, 0, none⟩ = some (.string d)) (hg : g < W.heap.size) (hs : Hid (∀ w, Calls Tryz.prog 11 #[.string s] w fun e w' => e = .returned (.bool true) ∧ Below w.heap.size w w')) (hr : Hid (∀ w, Calls Tryz.prog 124 #[.int .i64 47, .string d] w fun e w' => e = .returned (.bool true) ∧ Below w.heap.size w w')) : Calls Tryz.prog 89 #[.agg #[.string s, .int .i64 47, .int .i64 1, .int .i64 0, .slice (some ⟨g, 0, none⟩) 1 cap, .slice none 0 0]] W fun e w' => e = .returned (.bool true) ∧ Below W.heap.size W w' := by
  have H1 : Hid (∀ w, Calls Tryz.prog 106 #[.agg #[.string s, .int .i64 47, .int .i64 1, .int .i64 0, .slice (some ⟨g, 0, none⟩) 1 cap, .slice none 0 0]] w fun e w' => e = .returned (.bool true) ∧ Below w.heap.size w w') := fun w => rhead_in s g cap w hs
  have H2 : Hid (∀ w, Below W.heap.size W w → Calls Tryz.prog 107 #[.agg #[.string s, .int .i64 47, .int .i64 1, .int .i64 0, .slice (some ⟨g, 0, none⟩) 1 cap, .slice none 0 0]] w fun e w' => e = .returned (.bool true) ∧ Below w.heap.size w w') := fun w hb => rdata_in d s g cap w ((hb.cell (p := ⟨g, 0, none⟩) hg).trans hd) (Nat.lt_of_lt_of_le hg hb.size) hr
  have H3 : Hid (∀ w, Calls Tryz.prog 108 #[.agg #[.string s, .int .i64 47, .int .i64 1, .int .i64 0, .slice (some ⟨g, 0, none⟩) 1 cap, .slice none 0 0]] w fun e w' => e = .returned (.bool true) ∧ Below w.heap.size w w') := fun w => rsigs_in s g cap w
  clear hd hs hr
  obtain ⟨V, hV, F⟩ : ∃ V, W.alloc (Obj.cells #[.string s, .int .i64 47, .int .i64 1, .int .i64 0, .slice (some ⟨g, 0, none⟩) 1 cap, .slice none 0 0] 37 (0, 0)) = V ∧ Fm W [(W.heap.size, Obj.cells #[.string s, .int .i64 47, .int .i64 1, .int .i64 0, .slice (some ⟨g, 0, none⟩) 1 cap, .slice none 0 0] 37 (0, 0))] V := ⟨_, rfl, Fm.box1 W _⟩
  have l1 := stLoad_run (F.get 0 rfl)
  go_enter Tryz.func89, Tryz.ntmps89
  go_wp2_with fail
  refine (H1.out _).mono ?_
  rintro e w1 ⟨rfl, hb⟩
  replace F := F.blk hb
  clear hb l1 hV
  have l1 := stLoad_run (F.get 0 rfl)
  go_wp2_with fail
  refine (H2.out _ F.bel).mono ?_
  rintro e w2 ⟨rfl, hb⟩
  replace F := F.blk hb
  clear hb l1
  have l1 := stLoad_run (F.get 0 rfl)
  go_wp2_with fail
  refine (H3.out _).mono ?_
  rintro e w3 ⟨rfl, hb⟩
  replace F := F.blk hb
  clear hb l1
  have l1 := stLoad_run (F.get 0 rfl)
  go_wp2
  go_ret
  exact ⟨rfl, F.bel⟩
end Go.Proofs.YtaiakpigljcjbaaGreatDoor