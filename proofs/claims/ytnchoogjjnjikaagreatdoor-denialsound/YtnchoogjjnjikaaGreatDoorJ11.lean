/- Texts of this proof, joined: Kin2, Cmp, Facts, Order, ZBtw, ZFm. -/
import Derived.Test.YtnchoogjjnjikaaGreatDoorJ10
import Derived.Deep.WholeRow
/- Parent, Common, Child, Moved. -/
namespace Go.Proofs.YtnchoogjjnjikaaGreatDoor
set_option linter.unusedVariables false
open Go.RowKit
/-! ### Common -/
def comN (a b : List (List UInt8)) : List (List UInt8) := a.drop (a.length - shEnd (lowN a) (lowN b))
theorem cpl_le : ∀ (a b : List (List UInt8)), cpl a b ≤ a.length ∧ cpl a b ≤ b.length
  | [], b => by simp [cpl]
  | a :: a', [] => by simp [cpl]
  | a :: a', b :: b' => by
    have := cpl_le a' b'
    unfold cpl
    split <;> simp <;> omega
theorem shEnd_le (a b : List (List UInt8)) : shEnd a b ≤ a.length ∧ shEnd a b ≤ b.length := by
  have := cpl_le a.reverse b.reverse; simpa [shEnd] using this
set_option maxHeartbeats 400000 in
theorem common_yes (a b : List (List UInt8)) (ha : OkN a) (hb : OkN b) (w : World) :
    Calls Tryz.prog 95 #[.string (nm a), .string (nm b)] w fun e w' => e = .returned (.tuple #[.string (nm (comN a b)), .int .i64 0]) ∧ Below w.heap.size w w' := by
  have hca := ha.low.count
  have hcb := hb.low.count
  have hla := lowN_length a
  have HL := Hid.mk hla
  have hle := (shEnd_le (lowN a) (lowN b)).1
  have hle' : shEnd (lowN a) (lowN b) ≤ a.length := by rw [← hla]; exact hle
  have hw1 : (((lowN a).length : Int) - (shEnd (lowN a) (lowN b) : Int)) = ((a.length - shEnd (lowN a) (lowN b) : Nat) : Int) := by rw [hla]; omega
  have HW := Hid.mk hw1
  clear hla hle hw1
  go_enter Tryz.func95, Tryz.ntmps95
  go_wp2_with fail
  refine (right_yes a ha _).mono ?_
  rintro e w1 ⟨rfl, hb1⟩
  go_wp2_with fail
  refine (right_yes b hb _).mono ?_
  rintro e w2 ⟨rfl, hb2⟩
  go_wp2_with fail
  refine (lowered_nm a ha _).mono ?_
  rintro e w3 ⟨rfl, hb3⟩
  go_wp2_with fail
  refine (labelsOf_in (lowN a) ha.low _).mono ?_
  rintro e w4 ⟨⟨va, rfl, hva⟩, hb4⟩
  go_wp2_with fail
  refine (lowered_nm b hb _).mono ?_
  rintro e w5 ⟨rfl, hb5⟩
  go_wp2_with fail
  refine (labelsOf_in (lowN b) hb.low _).mono ?_
  rintro e w6 ⟨⟨vb, rfl, hvb⟩, hb6⟩
  have hva6 := (hva.below (bthen hb5 hb6)).mono (bthen hb5 hb6).size
  clear hva
  obtain ⟨q, c, hq⟩ := hva6.form
  subst hq
  go_wp2_with fail
  refine (sharedEnd_in _ _ (lowN a) (lowN b) _ _ (by omega) (by omega) hva6 hvb).mono ?_
  rintro e w7 ⟨rfl, hb7⟩
  clear hva6 hvb
  have hle2 : shEnd (lowN a) (lowN b) ≤ (lowN a).length := by rw [HL.out]; exact hle'
  go_wp2_with fail
  rw [HW.out]
  refine (withoutFirst_in a ha _ (by omega) _).mono ?_
  rintro e w8 ⟨rfl, hb8⟩
  go_wp2
  go_ret2
  exact ⟨rfl, bthen hb1 (bthen hb2 (bthen hb3 (bthen hb4 (bthen hb5 (bthen hb6 (bthen hb7 hb8))))))⟩
/-! ### Parent -/
/-! ### Moved -/
/-! ### what 'under' says of the labels -/
theorem cpl_full : ∀ (a b : List (List UInt8)), cpl a b = b.length ↔ b <+: a
  | [], [] => by simp [cpl]
  | [], b :: b' => by simp [cpl]
  | a :: a', [] => by simp [cpl]
  | a :: a', b :: b' => by
    unfold cpl
    split
    · rename_i e; subst e
      rw [List.cons_prefix_cons, List.length_cons, Nat.add_right_cancel_iff, cpl_full a' b']; simp
    · rename_i e
      rw [List.cons_prefix_cons]
      constructor
      · intro h; simp at h
      · intro h; exact absurd h.1.symm e
theorem undB_iff (a b : List (List UInt8)) : undB a b = true ↔ lowN b <:+ lowN a := by
  rw [undB, decide_eq_true_iff, shEnd, ← List.reverse_prefix, ← cpl_full, List.length_reverse, lowN_length]
end Go.Proofs.YtnchoogjjnjikaaGreatDoor
/- cmp.Compare of texts; compareStrays; Compare. -/
namespace Go.Proofs.YtnchoogjjnjikaaGreatDoor
set_option linter.unusedVariables false
open Go.RowKit
def cmpL (a b : List UInt8) : Int := if Op.bytesLess a b = true then -1 else if a = b then 0 else 1
theorem cmpStr_in (x y : ByteArray) (w : World) :
    Calls Tryz.prog 32 #[.string x, .string y] w fun e w' => e = .returned (.int .i64 (cmpL x.data.toList y.data.toList)) ∧ w' = w := by
  rw [← ByteArray.toList_eq, ← ByteArray.toList_eq]
  by_cases h1 : Op.bytesLess x.toList y.toList = true
  · have hp : cmpL x.toList y.toList = -1 := by simp [cmpL, h1]
    rw [hp]; clear hp
    go_enter Tryz.func32, Tryz.ntmps32
    go_wp2_with (go_at_call 53; refine (isNaNStr_in _ _).mono ?_; rintro e w' ⟨rfl, rfl⟩)
    go_ret
    exact ⟨rfl, rfl⟩
  · have h1' : Op.bytesLess x.toList y.toList = false := by simpa using h1
    by_cases h2 : x.toList = y.toList
    · have hp : cmpL x.toList y.toList = 0 := by unfold cmpL; rw [if_neg h1, if_pos h2]
      rw [hp]; clear hp h1
      have h2' : (x.toList == y.toList) = true := by simpa using h2
      clear h2
      go_enter Tryz.func32, Tryz.ntmps32
      go_wp2_with (go_at_call 53; refine (isNaNStr_in _ _).mono ?_; rintro e w' ⟨rfl, rfl⟩)
      go_ret
      exact ⟨rfl, rfl⟩
    · have hp : cmpL x.toList y.toList = 1 := by simp [cmpL, h1', h2]
      rw [hp]; clear hp h1
      have h2' : (x.toList == y.toList) = false := by simpa using h2
      clear h2
      go_enter Tryz.func32, Tryz.ntmps32
      go_wp2_with (go_at_call 53; refine (isNaNStr_in _ _).mono ?_; rintro e w' ⟨rfl, rfl⟩)
      go_ret
      exact ⟨rfl, rfl⟩
/-! ### of which one is no name -/
def cmpR : List (List UInt8) → List (List UInt8) → Int
  | [], [] => 0
  | [], _ :: _ => -1
  | _ :: _, [] => 1
  | x :: xs, y :: ys => if x = y then cmpR xs ys else cmpL x y
def cmpN (a b : List (List UInt8)) : Int := cmpR (lowN a).reverse (lowN b).reverse
theorem cmpR_short : ∀ (a b : List (List UInt8)), cpl a b = a.length ∨ cpl a b = b.length → cmpR a b = cmpI a.length b.length
  | [], [], _ => by simp [cmpR, cmpI]
  | [], b :: b', _ => by simp [cmpR, cmpI] <;> omega
  | a :: a', [], _ => by simp [cmpR, cmpI] <;> omega
  | a :: a', b :: b', h => by
    unfold cpl at h
    split at h
    · rename_i e
      subst e
      have := cmpR_short a' b' (by simpa using h)
      simp only [cmpR, if_true, this, cmpI, List.length_cons]
      split <;> split <;> (try split) <;> omega
    · simp at h
theorem cmpR_diff : ∀ (a b : List (List UInt8)) (h1 : cpl a b < a.length) (h2 : cpl a b < b.length), cmpR a b = cmpL a[cpl a b] b[cpl a b]
  | [], b, h1, _ => by simp at h1
  | a :: a', [], _, h2 => by simp at h2
  | a :: a', b :: b', h1, h2 => by
    by_cases e : a = b
    · subst e
      have hc : cpl (a :: a') (a :: b') = cpl a' b' + 1 := by simp [cpl]
      have := cmpR_diff a' b' (by rw [hc] at h1; simpa using h1) (by rw [hc] at h2; simpa using h2)
      simp only [cmpR, if_true, this, hc, List.getElem_cons_succ]
    · have hc : cpl (a :: a') (b :: b') = 0 := by simp [cpl, e]
      simp only [cmpR, e, if_false, hc, List.getElem_cons_zero]
theorem cmpN_short {a b : List (List UInt8)} (h : shEnd (lowN a) (lowN b) = (lowN a).length ∨ shEnd (lowN a) (lowN b) = (lowN b).length) : cmpN a b = cmpI (lowN a).length (lowN b).length := by
  have := cmpR_short (lowN a).reverse (lowN b).reverse (by simpa [shEnd] using h)
  simpa [cmpN] using this
theorem cmpN_diff {a b : List (List UInt8)} (h1 : shEnd (lowN a) (lowN b) < (lowN a).length) (h2 : shEnd (lowN a) (lowN b) < (lowN b).length) :
    cmpN a b = cmpL ((lowN a)[(lowN a).length - 1 - shEnd (lowN a) (lowN b)]'(by omega)) ((lowN b)[(lowN b).length - 1 - shEnd (lowN a) (lowN b)]'(by omega)) := by
  have := cmpR_diff (lowN a).reverse (lowN b).reverse (by simpa [shEnd] using h1) (by simpa [shEnd] using h2)
  rw [List.getElem_reverse, List.getElem_reverse] at this
  exact this
set_option maxHeartbeats 1000000 in
theorem compare_yes (a b : List (List UInt8)) (ha : OkN a) (hb : OkN b) (w : World) :
    Calls Tryz.prog 17 #[.string (nm a), .string (nm b)] w fun e w' => e = .returned (.int .i64 (cmpN a b)) ∧ Below w.heap.size w w' := by
  have hca := ha.low.count
  have hcb := hb.low.count
  have hle := shEnd_le (lowN a) (lowN b)
  by_cases hA : shEnd (lowN a) (lowN b) = (lowN a).length
  · have HF := Hid.mk (cmpN_short (.inl hA))
    have ht : ((shEnd (lowN a) (lowN b) : Int) == ((lowN a).length : Int)) = true := by rw [hA]; simp
    clear hA hle
    go_enter Tryz.func17, Tryz.ntmps17
    go_wp2_with fail
    refine (right_yes a ha _).mono ?_
    rintro e w1 ⟨rfl, hb1⟩
    go_wp2_with fail
    refine (right_yes b hb _).mono ?_
    rintro e w2 ⟨rfl, hb2⟩
    go_wp2_with fail
    refine (lowered_nm a ha _).mono ?_
    rintro e w3 ⟨rfl, hb3⟩
    go_wp2_with fail
    refine (labelsOf_in (lowN a) ha.low _).mono ?_
    rintro e w4 ⟨⟨va, rfl, hva⟩, hb4⟩
    go_wp2_with fail
    refine (lowered_nm b hb _).mono ?_
    rintro e w5 ⟨rfl, hb5⟩
    go_wp2_with fail
    refine (labelsOf_in (lowN b) hb.low _).mono ?_
    rintro e w6 ⟨⟨vb, rfl, hvb⟩, hb6⟩
    have hva6 := (hva.below (bthen hb5 hb6)).mono (bthen hb5 hb6).size
    clear hva
    obtain ⟨q, c, hq⟩ := hva6.form
    subst hq
    obtain ⟨q', c', hq'⟩ := hvb.form
    subst hq'
    go_wp2_with fail
    refine (sharedEnd_in _ _ (lowN a) (lowN b) _ _ (by omega) (by omega) hva6 hvb).mono ?_
    rintro e w7 ⟨rfl, hb7⟩
    clear hva6 hvb
    go_wp2_with fail
    refine (cmpInt_in _ _ _).mono ?_
    rintro e w8 ⟨rfl, rfl⟩
    go_wp2
    go_ret
    exact ⟨by rw [HF.out]; rfl, bthen hb1 (bthen hb2 (bthen hb3 (bthen hb4 (bthen hb5 (bthen hb6 hb7)))))⟩
  · by_cases hB : shEnd (lowN a) (lowN b) = (lowN b).length
    · have HF := Hid.mk (cmpN_short (.inr hB))
      have ht : ((shEnd (lowN a) (lowN b) : Int) == ((lowN a).length : Int)) = false := by rw [beq_eq_false_iff_ne]; omega
      have ht2 : ((shEnd (lowN a) (lowN b) : Int) == ((lowN b).length : Int)) = true := by rw [hB]; simp
      clear hA hB hle
      go_enter Tryz.func17, Tryz.ntmps17
      go_wp2_with fail
      refine (right_yes a ha _).mono ?_
      rintro e w1 ⟨rfl, hb1⟩
      go_wp2_with fail
      refine (right_yes b hb _).mono ?_
      rintro e w2 ⟨rfl, hb2⟩
      go_wp2_with fail
      refine (lowered_nm a ha _).mono ?_
      rintro e w3 ⟨rfl, hb3⟩
      go_wp2_with fail
      refine (labelsOf_in (lowN a) ha.low _).mono ?_
      rintro e w4 ⟨⟨va, rfl, hva⟩, hb4⟩
      go_wp2_with fail
      refine (lowered_nm b hb _).mono ?_
      rintro e w5 ⟨rfl, hb5⟩
      go_wp2_with fail
      refine (labelsOf_in (lowN b) hb.low _).mono ?_
      rintro e w6 ⟨⟨vb, rfl, hvb⟩, hb6⟩
      have hva6 := (hva.below (bthen hb5 hb6)).mono (bthen hb5 hb6).size
      clear hva
      obtain ⟨q, c, hq⟩ := hva6.form
      subst hq
      obtain ⟨q', c', hq'⟩ := hvb.form
      subst hq'
      go_wp2_with fail
      refine (sharedEnd_in _ _ (lowN a) (lowN b) _ _ (by omega) (by omega) hva6 hvb).mono ?_
      rintro e w7 ⟨rfl, hb7⟩
      clear hva6 hvb
      go_wp2_with fail
      refine (cmpInt_in _ _ _).mono ?_
      rintro e w8 ⟨rfl, rfl⟩
      go_wp2
      go_ret
      exact ⟨by rw [HF.out]; rfl, bthen hb1 (bthen hb2 (bthen hb3 (bthen hb4 (bthen hb5 (bthen hb6 hb7)))))⟩
    · have hla : shEnd (lowN a) (lowN b) < (lowN a).length := by omega
      have hlb : shEnd (lowN a) (lowN b) < (lowN b).length := by omega
      have HF := Hid.mk (cmpN_diff hla hlb)
      have ht : ((shEnd (lowN a) (lowN b) : Int) == ((lowN a).length : Int)) = false := by rw [beq_eq_false_iff_ne]; omega
      have ht2 : ((shEnd (lowN a) (lowN b) : Int) == ((lowN b).length : Int)) = false := by rw [beq_eq_false_iff_ne]; omega
      clear hA hB hle
      go_enter Tryz.func17, Tryz.ntmps17
      go_wp2_with fail
      refine (right_yes a ha _).mono ?_
      rintro e w1 ⟨rfl, hb1⟩
      go_wp2_with fail
      refine (right_yes b hb _).mono ?_
      rintro e w2 ⟨rfl, hb2⟩
      go_wp2_with fail
      refine (lowered_nm a ha _).mono ?_
      rintro e w3 ⟨rfl, hb3⟩
      go_wp2_with fail
      refine (labelsOf_in (lowN a) ha.low _).mono ?_
      rintro e w4 ⟨⟨va, rfl, hva⟩, hb4⟩
      go_wp2_with fail
      refine (lowered_nm b hb _).mono ?_
      rintro e w5 ⟨rfl, hb5⟩
      go_wp2_with fail
      refine (labelsOf_in (lowN b) hb.low _).mono ?_
      rintro e w6 ⟨⟨vb, rfl, hvb⟩, hb6⟩
      have hva6 := (hva.below (bthen hb5 hb6)).mono (bthen hb5 hb6).size
      clear hva
      obtain ⟨ga, ca, hva, hga, hcla⟩ : ∃ g cap, va = .slice (some ⟨g, 0, none⟩) (lowN a).length cap ∧ g < w6.heap.size ∧ ∀ j (h : j < (lowN a).length), w6.cell? ⟨g, j, none⟩ = some (strV (lowN a)[j]) := by
        rcases hva6 with ⟨_, h⟩ | h
        · rw [h] at hla; simp at hla
        · exact h
      obtain ⟨gb, cb, hvb', hgb, hclb⟩ : ∃ g cap, vb = .slice (some ⟨g, 0, none⟩) (lowN b).length cap ∧ g < w6.heap.size ∧ ∀ j (h : j < (lowN b).length), w6.cell? ⟨g, j, none⟩ = some (strV (lowN b)[j]) := by
        rcases hvb with ⟨_, h⟩ | h
        · rw [h] at hlb; simp at hlb
        · exact h
      subst hva
      subst hvb'
      go_wp2_with fail
      refine (sharedEnd_in _ _ (lowN a) (lowN b) _ _ (by omega) (by omega) hva6 hvb).mono ?_
      rintro e w7 ⟨rfl, hb7⟩
      clear hva6 hvb
      obtain ⟨x, hxl, hc1⟩ : ∃ x : ByteArray, Hid (x.data.toList = (lowN a)[(lowN a).length - 1 - shEnd (lowN a) (lowN b)]'(by omega)) ∧ w7.cell? ⟨ga, (lowN a).length - 1 - shEnd (lowN a) (lowN b), none⟩ = some (.string x) :=
        ⟨⟨((lowN a)[(lowN a).length - 1 - shEnd (lowN a) (lowN b)]'(by omega)).toArray⟩, rfl, (hb7.cell (p := ⟨ga, _, none⟩) hga).trans (hcla _ (by omega))⟩
      obtain ⟨y, hyl, hc2⟩ : ∃ x : ByteArray, Hid (x.data.toList = (lowN b)[(lowN b).length - 1 - shEnd (lowN a) (lowN b)]'(by omega)) ∧ w7.cell? ⟨gb, (lowN b).length - 1 - shEnd (lowN a) (lowN b), none⟩ = some (.string x) :=
        ⟨⟨((lowN b)[(lowN b).length - 1 - shEnd (lowN a) (lowN b)]'(by omega)).toArray⟩, rfl, (hb7.cell (p := ⟨gb, _, none⟩) hgb).trans (hclb _ (by omega))⟩
      clear hcla hclb
      have hw1 : IntKind.i64.wrap (((lowN a).length : Int) - 1) = ((lowN a).length : Int) - 1 := by rw [IntKind.wrap_i64]; omega
      have hw2 : IntKind.i64.wrap (((lowN a).length : Int) - 1 - (shEnd (lowN a) (lowN b) : Int)) = (((lowN a).length - 1 - shEnd (lowN a) (lowN b) : Nat) : Int) := by rw [IntKind.wrap_i64]; omega
      have hv1 : IntKind.i64.wrap (((lowN b).length : Int) - 1) = ((lowN b).length : Int) - 1 := by rw [IntKind.wrap_i64]; omega
      have hv2 : IntKind.i64.wrap (((lowN b).length : Int) - 1 - (shEnd (lowN a) (lowN b) : Int)) = (((lowN b).length - 1 - shEnd (lowN a) (lowN b) : Nat) : Int) := by rw [IntKind.wrap_i64]; omega
      have hi1 : (lowN a).length - 1 - shEnd (lowN a) (lowN b) < (lowN a).length := by omega
      have hi2 : (lowN b).length - 1 - shEnd (lowN a) (lowN b) < (lowN b).length := by omega
      go_wp2
      go_quiet ((go_at_call 32; exact Calls.quiet_of_same (cmpStr_in _ _ _)))
      go_wp2
      go_ret
      exact ⟨by rw [HF.out, hxl.out, hyl.out]; rfl, bthen hb1 (bthen hb2 (bthen hb3 (bthen hb4 (bthen hb5 (bthen hb6 (below_drewN hb7 _))))))⟩
end Go.Proofs.YtnchoogjjnjikaaGreatDoor
/- What the shared end of two names says of 'under', 'common' and the order. -/
namespace Go.Proofs.YtnchoogjjnjikaaGreatDoor
set_option linter.unusedVariables false
theorem flat_drop_le (ls : List (List UInt8)) (k : Nat) : (flat (ls.drop k)).length ≤ (flat ls).length := by
  have : flat ls = flat (ls.take k) ++ flat (ls.drop k) := by rw [← flat_append, List.take_append_drop]
  rw [this, List.length_append]; omega
theorem OkN.drop {ls : List (List UInt8)} (h : OkN ls) (k : Nat) : OkN (ls.drop k) :=
  ⟨fun l hl => h.lab l (List.mem_of_mem_drop hl), by have := flat_drop_le ls k; have := h.len; omega⟩
theorem ok_com {a b : List (List UInt8)} (h : OkN a) : OkN (comN a b) := h.drop _
end Go.Proofs.YtnchoogjjnjikaaGreatDoor
/- The order of names: it is one. -/
namespace Go.Proofs.YtnchoogjjnjikaaGreatDoor
set_option linter.unusedVariables false
open Go.RowKit
/-! ### the order of bytes -/
theorem less_irrefl : ∀ a : List UInt8, Op.bytesLess a a = false
  | [] => rfl
  | a :: x => by simp [Op.bytesLess, less_irrefl x]
theorem less_trans : ∀ a b c : List UInt8, Op.bytesLess a b = true → Op.bytesLess b c = true → Op.bytesLess a c = true
  | _, [], _, h, _ => by cases ‹List UInt8› <;> simp [Op.bytesLess] at h
  | _, _ :: _, [], _, h => by simp [Op.bytesLess] at h
  | [], _ :: _, _ :: _, _, _ => rfl
  | a :: x, b :: y, c :: z, h1, h2 => by
    simp only [Op.bytesLess, Bool.or_eq_true, Bool.and_eq_true, decide_eq_true_iff, beq_iff_eq, UInt8.lt_iff_toNat_lt] at h1 h2 ⊢
    rcases h1 with h1 | ⟨rfl, h1⟩
    · rcases h2 with h2 | ⟨rfl, h2⟩
      · left; omega
      · left; exact h1
    · rcases h2 with h2 | ⟨rfl, h2⟩
      · left; exact h2
      · right; exact ⟨rfl, less_trans x y z h1 h2⟩
theorem less_total : ∀ a b : List UInt8, Op.bytesLess a b = false → Op.bytesLess b a = false → a = b
  | [], [], _, _ => rfl
  | [], _ :: _, h, _ => by simp [Op.bytesLess] at h
  | _ :: _, [], _, h => by simp [Op.bytesLess] at h
  | a :: x, b :: y, h1, h2 => by
    simp only [Op.bytesLess, Bool.or_eq_false_iff, Bool.and_eq_false_iff, decide_eq_false_iff_not, beq_eq_false_iff_ne, UInt8.lt_iff_toNat_lt] at h1 h2
    have e : a = b := UInt8.toNat_inj.1 (by omega)
    subst e
    have h1' : Op.bytesLess x y = false := by rcases h1.2 with h | h; exact absurd rfl h; exact h
    have h2' : Op.bytesLess y x = false := by rcases h2.2 with h | h; exact absurd rfl h; exact h
    rw [less_total x y h1' h2']
theorem less_asymm {a b : List UInt8} (h : Op.bytesLess a b = true) : Op.bytesLess b a = false := by
  cases h' : Op.bytesLess b a with
  | false => rfl
  | true => have := less_trans a b a h h'; rw [less_irrefl] at this; cases this
theorem cmpL_zero {a b : List UInt8} (h : cmpL a b = 0) : a = b := by
  unfold cmpL at h
  split at h
  · cases h
  · split at h
    · assumption
    · cases h
theorem cmpL_anti (a b : List UInt8) : cmpL b a = - cmpL a b := by
  unfold cmpL
  by_cases h1 : Op.bytesLess a b = true
  · have h2 := less_asymm h1
    have hne : ¬ b = a := by intro e; subst e; rw [less_irrefl] at h1; cases h1
    rw [if_neg (by rw [h2]; simp), if_neg hne, if_pos h1]; rfl
  · rw [if_neg h1]
    by_cases he : a = b
    · subst he; rw [if_neg h1]; simp
    · rw [if_neg he]
      have : Op.bytesLess b a = true := by
        cases h' : Op.bytesLess b a with
        | true => rfl
        | false => exact absurd (less_total a b (by simpa using h1) h') he
      rw [if_pos this]
theorem cmpL_le {a b : List UInt8} : cmpL a b ≤ 0 ↔ (Op.bytesLess a b = true ∨ a = b) := by
  unfold cmpL
  split
  · simp [*]
  · split
    · simp [*]
    · rename_i h1 h2; simp [h1, h2]
theorem cmpL_trans {a b c : List UInt8} (h1 : cmpL a b ≤ 0) (h2 : cmpL b c ≤ 0) : cmpL a c ≤ 0 := by
  rw [cmpL_le] at *
  rcases h1 with h1 | rfl
  · rcases h2 with h2 | rfl
    · exact .inl (less_trans _ _ _ h1 h2)
    · exact .inl h1
  · exact h2
theorem cmpL_sign (a b : List UInt8) : cmpL a b = -1 ∨ cmpL a b = 0 ∨ cmpL a b = 1 := by
  unfold cmpL; split
  · simp
  · split <;> simp
/-! ### the order of labels, the last one first -/
theorem cmpR_refl : ∀ a : List (List UInt8), cmpR a a = 0
  | [] => rfl
  | a :: x => by simp [cmpR, cmpR_refl x]
theorem cmpR_zero : ∀ {a b : List (List UInt8)}, cmpR a b = 0 → a = b
  | [], [], _ => rfl
  | [], _ :: _, h => by simp [cmpR] at h
  | _ :: _, [], h => by simp [cmpR] at h
  | a :: x, b :: y, h => by
    unfold cmpR at h
    split at h
    · rename_i e; rw [e, cmpR_zero h]
    · rename_i e; exact absurd (cmpL_zero h) e
theorem cmpR_anti : ∀ a b : List (List UInt8), cmpR b a = - cmpR a b
  | [], [] => rfl
  | [], _ :: _ => rfl
  | _ :: _, [] => rfl
  | a :: x, b :: y => by
    by_cases e : a = b
    · subst e; simp [cmpR, cmpR_anti x y]
    · have e' : ¬ b = a := fun h => e h.symm
      simp only [cmpR, e, e', if_false]; exact cmpL_anti a b
theorem cmpR_sign : ∀ a b : List (List UInt8), cmpR a b = -1 ∨ cmpR a b = 0 ∨ cmpR a b = 1
  | [], [] => by simp [cmpR]
  | [], _ :: _ => by simp [cmpR]
  | _ :: _, [] => by simp [cmpR]
  | a :: x, b :: y => by
    by_cases e : a = b
    · subst e; simp only [cmpR, if_true]; exact cmpR_sign x y
    · simp only [cmpR, e, if_false]; exact cmpL_sign a b
theorem cmpR_trans : ∀ {a b c : List (List UInt8)}, cmpR a b ≤ 0 → cmpR b c ≤ 0 → cmpR a c ≤ 0
  | [], _, [], _, _ => by simp [cmpR]
  | [], _, _ :: _, _, _ => by simp [cmpR]
  | _ :: _, [], _, h, _ => by simp [cmpR] at h
  | _ :: _, _ :: _, [], _, h => by simp [cmpR] at h
  | a :: x, b :: y, c :: z, h1, h2 => by
    by_cases e1 : a = b
    · subst e1
      simp only [cmpR, if_true] at h1
      by_cases e2 : a = c
      · subst e2
        simp only [cmpR, if_true] at h2 ⊢
        exact cmpR_trans h1 h2
      · simp only [cmpR, e2, if_false] at h2 ⊢
        exact h2
    · simp only [cmpR, e1, if_false] at h1
      by_cases e2 : b = c
      · subst e2
        simp only [cmpR, e1, if_false]
        exact h1
      · simp only [cmpR, e2, if_false] at h2
        have h3 := cmpL_trans h1 h2
        by_cases e3 : a = c
        · subst e3
          have := cmpL_anti a b
          have h4 : cmpL a b = 0 := by omega
          exact absurd (cmpL_zero h4) e1
        · simp only [cmpR, e3, if_false]; exact h3
/-! ### of any texts -/
end Go.Proofs.YtnchoogjjnjikaaGreatDoor
/- inGap, Between. -/
namespace Go.Proofs.YtnchoogjjnjikaaGreatDoor
set_option linter.unusedVariables false
open Go.RowKit
def gapB (x y z : Int) : Bool := if z < 0 then decide (0 < x) && decide (y < 0) else decide (0 < x) || decide (y < 0)
set_option maxRecDepth 100000 in
set_option maxHeartbeats 1000000 in
theorem gap_in (x y z : Int) (W : World) : Calls Tryz.prog 104 #[.int .i64 x, .int .i64 y, .int .i64 z] W fun e w' => e = .returned (.bool (gapB x y z)) ∧ w' = W := by
  unfold gapB
  by_cases h1 : z < 0
  · rw [if_pos h1]
    have d1 : decide (z < 0) = true := decide_eq_true h1
    by_cases h2 : 0 < x
    · have d2 : decide (0 < x) = true := decide_eq_true h2
      rw [d2, Bool.true_and]
      generalize hD : decide (y < 0) = D
      go_enter Tryz.func104, Tryz.ntmps104
      go_wp2
      go_ret
      exact ⟨by first | rfl | simp [hD], rfl⟩
    · have d2 : decide (0 < x) = false := decide_eq_false h2
      rw [d2, Bool.false_and]
      generalize hD : decide (y < 0) = D
      go_enter Tryz.func104, Tryz.ntmps104
      go_wp2
      go_ret
      exact ⟨by first | rfl | simp [hD], rfl⟩
  · rw [if_neg h1]
    have d1 : decide (z < 0) = false := decide_eq_false h1
    by_cases h2 : 0 < x
    · have d2 : decide (0 < x) = true := decide_eq_true h2
      rw [d2, Bool.true_or]
      generalize hD : decide (y < 0) = D
      go_enter Tryz.func104, Tryz.ntmps104
      go_wp2
      go_ret
      exact ⟨by first | rfl | simp [hD], rfl⟩
    · have d2 : decide (0 < x) = false := decide_eq_false h2
      rw [d2, Bool.false_or]
      generalize hD : decide (y < 0) = D
      go_enter Tryz.func104, Tryz.ntmps104
      go_wp2
      go_ret
      exact ⟨by first | rfl | simp [hD], rfl⟩
def btwB (a n b : List (List UInt8)) : Bool := gapB (cmpN n a) (cmpN n b) (cmpN a b)
set_option maxRecDepth 100000 in
set_option maxHeartbeats 1000000 in
theorem btw_yes (a n b : List (List UInt8)) (ha : OkN a) (hn : OkN n) (hb : OkN b) (W : World) : Calls Tryz.prog 98 #[.string (nm a), .string (nm n), .string (nm b)] W fun e w' => e = .returned (.bool (btwB a n b)) ∧ Below W.heap.size W w' := by
  have R1 := Hid.mk (right_yes a ha)
  have R2 := Hid.mk (right_yes n hn)
  have R3 := Hid.mk (right_yes b hb)
  have C1 := Hid.mk (compare_yes n a hn ha)
  have C2 := Hid.mk (compare_yes n b hn hb)
  have C3 := Hid.mk (compare_yes a b ha hb)
  have HG := Hid.mk (gap_in (cmpN n a) (cmpN n b) (cmpN a b))
  unfold btwB
  generalize gapB (cmpN n a) (cmpN n b) (cmpN a b) = D at HG ⊢
  generalize cmpN n a = x at C1 HG
  generalize cmpN n b = y at C2 HG
  generalize cmpN a b = z at C3 HG
  generalize nm a = sa at *
  generalize nm n = sn at *
  generalize nm b = sb at *
  clear ha hn hb
  go_enter Tryz.func98, Tryz.ntmps98
  go_wp2_with fail
  refine (R1.out _).mono ?_
  rintro e w1 ⟨rfl, b1⟩
  go_wp2_with fail
  refine (R2.out _).mono ?_
  rintro e w2 ⟨rfl, b2⟩
  go_wp2_with fail
  refine (R3.out _).mono ?_
  rintro e w3 ⟨rfl, b3⟩
  go_wp2_with fail
  refine (C1.out _).mono ?_
  rintro e w4 ⟨rfl, b4⟩
  go_wp2_with fail
  refine (C2.out _).mono ?_
  rintro e w5 ⟨rfl, b5⟩
  go_wp2_with fail
  refine (C3.out _).mono ?_
  rintro e w6 ⟨rfl, b6⟩
  go_wp2_with fail
  refine (HG.out _).mono ?_
  rintro e w7 ⟨rfl, rfl⟩
  go_wp2
  go_ret
  exact ⟨rfl, bthen (bthen (bthen (bthen (bthen b1 b2) b3) b4) b5) b6⟩
end Go.Proofs.YtnchoogjjnjikaaGreatDoor
/- Boxes of one's own that stay; a link loaded and stored as one step. -/
namespace Go.Proofs.YtnchoogjjnjikaaGreatDoor
set_option linter.unusedVariables false
open Go.RowKit
theorem below_row {B : Nat} {a w : World} (h : Below B a w) {b : Nat} (hb : B ≤ b) (cs : Array Value) : Below B a (w.setRow b cs) :=
  ⟨h.os, h.tape, h.output, by simpa [World.setRow] using h.size, fun k hk => (setRow_other w b k cs (by omega)).trans (h.block k hk)⟩
theorem setRow_new (w : World) (L M : List Value) (t : TypeId) : (w.alloc (.cells L.toArray t)).setRow w.heap.size M.toArray = w.alloc (.cells M.toArray t) := by
  have e : ∀ (h1 h2 : Array Obj), h1 = h2 → ({ w with heap := h1 } : World) = { w with heap := h2 } := fun _ _ h => by rw [h]
  refine e _ _ ?_
  apply Array.ext_getElem?
  intro k
  show ((w.heap.push _).modify _ _)[k]? = (w.heap.push _)[k]?
  simp only [Array.getElem?_modify, Array.getElem?_push]
  by_cases hk : k = w.heap.size
  · subst hk; simp
  · simp [hk, Ne.symm hk]
structure Fm (W : World) (l : List (Nat × Obj)) (w : World) : Prop where
  has : ∀ (i b : Nat) (o : Obj), l[i]? = some (b, o) → w.heap[b]? = some o
  own : ∀ p ∈ l, W.heap.size ≤ p.1
  nd : (l.map Prod.fst).Nodup
  bel : Below W.heap.size W w
theorem Fm.start (W : World) : Fm W [] W := ⟨fun _ _ _ h => by simp at h, fun _ h => by simp at h, by simp, Below.refl _ _⟩
theorem Fm.get {W w : World} {l : List (Nat × Obj)} (h : Fm W l w) (i : Nat) {b : Nat} {o : Obj} (e : l[i]? = some (b, o)) : w.heap[b]? = some o := h.has i b o e
theorem Fm.drew {W w : World} {l : List (Nat × Obj)} (h : Fm W l w) : Fm W l w.drew := ⟨h.has, h.own, h.nd, h.bel.drew⟩
theorem Fm.blk {W w w' : World} {l : List (Nat × Obj)} (h : Fm W l w) (hb : Below w.heap.size w w') : Fm W l w' :=
  ⟨fun i b o e => (hb.block _ (box_lt (h.has i b o e))).trans (h.has i b o e), h.own, h.nd, bthen h.bel hb⟩
theorem Fm.alloc {W w : World} {l : List (Nat × Obj)} (h : Fm W l w) (o : Obj) : Fm W l (w.alloc o) := h.blk ((Below.refl _ _).alloc (Nat.le_refl _) _)
theorem Fm.new {W w : World} {l : List (Nat × Obj)} (h : Fm W l w) (o : Obj) : Fm W ((w.heap.size, o) :: l) (w.alloc o) where
  has := fun i b o' e => by
    cases i with
    | zero =>
      simp only [List.getElem?_cons_zero, Option.some.injEq, Prod.mk.injEq] at e
      obtain ⟨rfl, rfl⟩ := e
      exact heap_new _ _
    | succ i => exact (h.alloc o).has i b o' (by simpa using e)
  own := fun p hp => by
    rcases List.mem_cons.1 hp with rfl | hp
    · exact h.bel.size
    · exact h.own p hp
  nd := by
    rw [List.map_cons, List.nodup_cons]
    refine ⟨fun hm => ?_, h.nd⟩
    obtain ⟨p, hp, e⟩ := List.mem_map.1 hm
    obtain ⟨i, hi⟩ := List.getElem?_of_mem hp
    have := box_lt (h.has i p.1 p.2 hi)
    omega
  bel := (h.alloc o).bel
theorem Fm.lt {W w : World} {l : List (Nat × Obj)} (h : Fm W l w) (i : Nat) {b : Nat} {o : Obj} (e : l[i]? = some (b, o)) : b < w.heap.size := box_lt (h.get i e)
theorem Fm.put {W w : World} {l : List (Nat × Obj)} (h : Fm W l w) (i : Nat) {b : Nat} {L : Array Value} {t : TypeId} (x : Array Value) (e : l[i]? = some (b, .cells L t (0, 0))) : Fm W (l.set i (b, .cells x t (0, 0))) (w.setRow b x) where
  has := fun j b' o' e' => by
    by_cases hij : i = j
    · subst hij
      have hl : i < l.length := (List.getElem?_eq_some_iff.1 e).1
      rw [List.getElem?_set_self hl] at e'
      simp only [Option.some.injEq, Prod.mk.injEq] at e'
      obtain ⟨rfl, rfl⟩ := e'
      exact setRow_heap _ _ _ _ _ _ (h.get i e)
    · rw [List.getElem?_set_ne hij] at e'
      have hne : b ≠ b' := by
        intro hb
        have h1 : (l.map Prod.fst)[i]? = some b := by rw [List.getElem?_map, e]; rfl
        have h2 : (l.map Prod.fst)[j]? = some b := by rw [List.getElem?_map, e', hb]; rfl
        obtain ⟨l1, g1⟩ := List.getElem?_eq_some_iff.1 h1
        obtain ⟨l2, g2⟩ := List.getElem?_eq_some_iff.1 h2
        rcases Nat.lt_or_gt_of_ne hij with hh | hh
        · exact List.pairwise_iff_getElem.1 h.nd i j l1 l2 hh (g1.trans g2.symm)
        · exact List.pairwise_iff_getElem.1 h.nd j i l2 l1 hh (g2.trans g1.symm)
      exact (setRow_other _ _ _ _ (Ne.symm hne)).trans (h.get j e')
  own := fun p hp => by
    rcases List.mem_or_eq_of_mem_set hp with hp | rfl
    · exact h.own p hp
    · exact h.own (b, .cells L t (0, 0)) (List.mem_of_getElem? e)
  nd := by
    have : (l.set i (b, Obj.cells x t (0, 0))).map Prod.fst = l.map Prod.fst := by
      rw [List.map_set]
      have h1 : (l.map Prod.fst)[i]? = some b := by rw [List.getElem?_map, e]; rfl
      obtain ⟨l1, g1⟩ := List.getElem?_eq_some_iff.1 h1
      rw [← g1, List.set_getElem_self]
    rw [this]
    exact h.nd
  bel := below_row h.bel (h.own _ (List.mem_of_getElem? e)) _
theorem Fm.box1 (W : World) (o1 : Obj) : Fm W [(W.heap.size, o1)] (W.alloc o1) := (Fm.start W).new o1
def lkStore (a x : Value) : Sem Unit := Instr.storeAt 98 a x
theorem storeAt_lk (a x : Value) : Instr.storeAt 98 a x = lkStore a x := rfl
def lkLoad (a : Value) : Sem Value := Instr.loadAt 98 a
theorem loadAt_lk (a : Value) : Instr.loadAt 98 a = lkLoad a := rfl
theorem sizeLk : (Tryz.prog.info? 98).map (·.size) = some 3 := by kernel_rfl
theorem lkStore_run {W : World} {b : Nat} {x y z x' y' z' : Value} (h : W.heap[b]? = some (.cells #[x, y, z] 98 (0, 0))) (h1 : x'.oneCell' = true) (h2 : y'.oneCell' = true) (h3 : z'.oneCell' = true) : (lkStore (.pointer (some ⟨b, 0, none⟩)) (.agg #[x', y', z'])).run Tryz.prog W = .ok () (W.setRow b #[x', y', z']) := by
  unfold lkStore
  simp only [Instr.storeAt, Instr.sureAddr, Sem.run_bind, Sem.run_pure, Result.andThen]
  exact run_storeVar_row W b _ _ _ _ h sizeLk rfl (by simp [h1, h2, h3])
theorem lk_loadV {W : World} {b : Nat} {x y z : Value} (h : W.heap[b]? = some (.cells #[x, y, z] 98 (0, 0))) : (loadVar 98 ⟨b, 0, none⟩).run Tryz.prog W = .ok (.agg #[x, y, z]) W :=
  run_loadVar_row W b _ _ _ (0, 0) _ h Tryz.underlying98 rfl sizeLk
theorem lkLoad_run {W : World} {b : Nat} {x y z : Value} (h : W.heap[b]? = some (.cells #[x, y, z] 98 (0, 0))) : (lkLoad (.pointer (some ⟨b, 0, none⟩))).run Tryz.prog W = .ok (.agg #[x, y, z]) W := by
  unfold lkLoad
  simp only [Instr.loadAt, Instr.sureAddr, Sem.run_bind, Sem.run_pure, Result.andThen]
  exact lk_loadV h
theorem results_lk_tmp {fn : Func} {p u : Tmp} (h : fn.results = #[.cell p 98, .tmp u]) {tmps : Array Value} {W : World} {b : Nat} {x y z v : Value} (hp : tmps.getD p undef = .pointer (some ⟨b, 0, none⟩)) (hv : tmps.getD u undef = v) (hb : W.heap[b]? = some (.cells #[x, y, z] 98 (0, 0))) : (results fn tmps).run Tryz.prog W = .ok (.tuple #[.agg #[x, y, z], v]) W := by
  have hp' : tmps[p]?.getD undef = .pointer (some ⟨b, 0, none⟩) := by simpa using hp
  have hv' : tmps[u]?.getD undef = v := by simpa using hv
  simp only [results, h]
  simp [hp', hv', asAddr, lk_loadV hb]
attribute [local go_sem ↓] storeAt_lk loadAt_lk
theorem lkst1 (w : World) (x y z x' y' z' : Value) (h1 : x.oneCell' = true) (h2 : y.oneCell' = true) (h3 : z.oneCell' = true) : (lkStore (.pointer (some ⟨w.heap.size, 0, none⟩)) (.agg #[x, y, z])).run Tryz.prog (w.alloc (Obj.cells #[x', y', z'] 98 (0, 0))) = .ok () (w.alloc (Obj.cells #[x, y, z] 98 (0, 0))) := by
  rw [lkStore_run (heap_new _ _) h1 h2 h3]
  exact congrArg (Result.ok ()) (setRow_new w [x', y', z'] [x, y, z] 98)
structure Lk where
  o : List (List UInt8)
  x : List (List UInt8)
  t : List Int
def Lk.Ok (k : Lk) : Prop := OkN k.o ∧ OkN k.x ∧ k.t.length ≤ 1000000
def LkAt (W : World) (k : Lk) (a b c : Value) : Prop := a = .string (nm k.o) ∧ b = .string (nm k.x) ∧ IntsAt W c k.t
theorem LkAt.blk {W W' : World} {k : Lk} {a b c : Value} (h : LkAt W k a b c) (hb : Below W.heap.size W W') : LkAt W' k a b c := ⟨h.1, h.2.1, h.2.2.below hb⟩
theorem LkAt.one {W : World} {k : Lk} {a b c : Value} (h : LkAt W k a b c) : a.oneCell' = true ∧ b.oneCell' = true ∧ c.oneCell' = true := by
  obtain ⟨rfl, rfl, q, cc, rfl, _⟩ := h
  exact ⟨rfl, rfl, rfl⟩
end Go.Proofs.YtnchoogjjnjikaaGreatDoor