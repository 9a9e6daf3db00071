/- cmp.Compare of texts; compareStrays; Compare. -/
import Derived.Test.YtpngjmeinlcggaaKin2
namespace Go.Proofs.Ytpngjmeinlcggaa
set_option linter.unusedVariables false
open Go.RowKit

def cmpL (a b : List UInt8) : Int := if Op.bytesLess a b = true then -1 else if a = b then 0 else 1

theorem cmpStr_in (x y : ByteArray) (w : World) :
    Calls Try.prog 57 #[.string x, .string y] w fun e w' => e = .returned (.int .i64 (cmpL x.data.toList y.data.toList)) ∧ w' = w := by
  rw [← ByteArray.toList_eq, ← ByteArray.toList_eq]
  by_cases h1 : Op.bytesLess x.toList y.toList = true
  · have hp : cmpL x.toList y.toList = -1 := by simp [cmpL, h1]
    rw [hp]; clear hp
    go_enter Try.func57, Try.ntmps57
    go_wp2_with (go_at_call 69; refine (isNaNStr_in _ _).mono ?_; rintro e w' ⟨rfl, rfl⟩)
    go_ret
    exact ⟨rfl, rfl⟩
  · have h1' : Op.bytesLess x.toList y.toList = false := by simpa using h1
    by_cases h2 : x.toList = y.toList
    · have hp : cmpL x.toList y.toList = 0 := by unfold cmpL; rw [if_neg h1, if_pos h2]
      rw [hp]; clear hp h1
      have h2' : (x.toList == y.toList) = true := by simpa using h2
      clear h2
      go_enter Try.func57, Try.ntmps57
      go_wp2_with (go_at_call 69; refine (isNaNStr_in _ _).mono ?_; rintro e w' ⟨rfl, rfl⟩)
      go_ret
      exact ⟨rfl, rfl⟩
    · have hp : cmpL x.toList y.toList = 1 := by simp [cmpL, h1', h2]
      rw [hp]; clear hp h1
      have h2' : (x.toList == y.toList) = false := by simpa using h2
      clear h2
      go_enter Try.func57, Try.ntmps57
      go_wp2_with (go_at_call 69; refine (isNaNStr_in _ _).mono ?_; rintro e w' ⟨rfl, rfl⟩)
      go_ret
      exact ⟨rfl, rfl⟩

/-! ### of which one is no name -/
theorem strays_left (a : List (List UInt8)) (ha : OkN a) (t : ByteArray) (w : World) :
    Calls Try.prog 55 #[.string (nm a), .string t] w fun e w' => e = .returned (.int .i64 1) ∧ Below w.heap.size w w' := by
  go_enter Try.func55, Try.ntmps55
  go_wp2_with fail
  refine (right_yes a ha _).mono ?_
  rintro e w1 ⟨rfl, hb1⟩
  go_wp2
  go_ret
  exact ⟨rfl, hb1⟩
theorem strays_right (s : ByteArray) (hs : s.size ≤ maxLen) (hn : ¬ IsName s) (b : List (List UInt8)) (hb : OkN b) (w : World) :
    Calls Try.prog 55 #[.string s, .string (nm b)] w fun e w' => e = .returned (.int .i64 (-1)) ∧ Below w.heap.size w w' := by
  go_enter Try.func55, Try.ntmps55
  go_wp2_with fail
  refine (right_no s hn hs _).mono ?_
  rintro e w1 ⟨rfl, hb1⟩
  go_wp2_with fail
  refine (right_yes b hb _).mono ?_
  rintro e w2 ⟨rfl, hb2⟩
  go_wp2
  go_ret
  exact ⟨rfl, bthen hb1 hb2⟩
theorem strays_both (s t : ByteArray) (hs : s.size ≤ maxLen) (hn : ¬ IsName s) (ht : t.size ≤ maxLen) (hm : ¬ IsName t) (w : World) :
    Calls Try.prog 55 #[.string s, .string t] w fun e w' => e = .returned (.int .i64 (cmpL s.data.toList t.data.toList)) ∧ Below w.heap.size w w' := by
  go_enter Try.func55, Try.ntmps55
  go_wp2_with fail
  refine (right_no s hn hs _).mono ?_
  rintro e w1 ⟨rfl, hb1⟩
  go_wp2_with fail
  refine (right_no t hm ht _).mono ?_
  rintro e w2 ⟨rfl, hb2⟩
  go_wp2_with fail
  refine (cmpStr_in s t _).mono ?_
  rintro e w3 ⟨rfl, rfl⟩
  go_wp2
  go_ret
  exact ⟨rfl, bthen hb1 hb2⟩

/-- the order of two lists of labels, the last label first. -/
def cmpR : List (List UInt8) → List (List UInt8) → Int
  | [], [] => 0
  | [], _ :: _ => -1
  | _ :: _, [] => 1
  | x :: xs, y :: ys => if x = y then cmpR xs ys else cmpL x y
def cmpN (a b : List (List UInt8)) : Int := cmpR (lowN a).reverse (lowN b).reverse

theorem cmpR_short : ∀ (a b : List (List UInt8)), cpl a b = a.length ∨ cpl a b = b.length → cmpR a b = cmpI a.length b.length
  | [], [], _ => by simp [cmpR, cmpI]
  | [], b :: b', _ => by simp [cmpR, cmpI] <;> omega
  | a :: a', [], _ => by simp [cmpR, cmpI] <;> omega
  | a :: a', b :: b', h => by
    unfold cpl at h
    split at h
    · rename_i e
      subst e
      have := cmpR_short a' b' (by simpa using h)
      simp only [cmpR, if_true, this, cmpI, List.length_cons]
      split <;> split <;> (try split) <;> omega
    · simp at h
theorem cmpR_diff : ∀ (a b : List (List UInt8)) (h1 : cpl a b < a.length) (h2 : cpl a b < b.length), cmpR a b = cmpL a[cpl a b] b[cpl a b]
  | [], b, h1, _ => by simp at h1
  | a :: a', [], _, h2 => by simp at h2
  | a :: a', b :: b', h1, h2 => by
    by_cases e : a = b
    · subst e
      have hc : cpl (a :: a') (a :: b') = cpl a' b' + 1 := by simp [cpl]
      have := cmpR_diff a' b' (by rw [hc] at h1; simpa using h1) (by rw [hc] at h2; simpa using h2)
      simp only [cmpR, if_true, this, hc, List.getElem_cons_succ]
    · have hc : cpl (a :: a') (b :: b') = 0 := by simp [cpl, e]
      simp only [cmpR, e, if_false, hc, List.getElem_cons_zero]

theorem cmpN_short {a b : List (List UInt8)} (h : shEnd (lowN a) (lowN b) = (lowN a).length ∨ shEnd (lowN a) (lowN b) = (lowN b).length) : cmpN a b = cmpI (lowN a).length (lowN b).length := by
  have := cmpR_short (lowN a).reverse (lowN b).reverse (by simpa [shEnd] using h)
  simpa [cmpN] using this
theorem cmpN_diff {a b : List (List UInt8)} (h1 : shEnd (lowN a) (lowN b) < (lowN a).length) (h2 : shEnd (lowN a) (lowN b) < (lowN b).length) :
    cmpN a b = cmpL ((lowN a)[(lowN a).length - 1 - shEnd (lowN a) (lowN b)]'(by omega)) ((lowN b)[(lowN b).length - 1 - shEnd (lowN a) (lowN b)]'(by omega)) := by
  have := cmpR_diff (lowN a).reverse (lowN b).reverse (by simpa [shEnd] using h1) (by simpa [shEnd] using h2)
  rw [List.getElem_reverse, List.getElem_reverse] at this
  exact this

set_option maxHeartbeats 1000000 in
theorem compare_yes (a b : List (List UInt8)) (ha : OkN a) (hb : OkN b) (w : World) :
    Calls Try.prog 30 #[.string (nm a), .string (nm b)] w fun e w' => e = .returned (.int .i64 (cmpN a b)) ∧ Below w.heap.size w w' := by
  have hca := ha.low.count
  have hcb := hb.low.count
  have hle := shEnd_le (lowN a) (lowN b)
  by_cases hA : shEnd (lowN a) (lowN b) = (lowN a).length
  · have HF := Hid.mk (cmpN_short (.inl hA))
    have ht : ((shEnd (lowN a) (lowN b) : Int) == ((lowN a).length : Int)) = true := by rw [hA]; simp
    clear hA hle
    go_enter Try.func30, Try.ntmps30
    go_wp2_with fail
    refine (right_yes a ha _).mono ?_
    rintro e w1 ⟨rfl, hb1⟩
    go_wp2_with fail
    refine (right_yes b hb _).mono ?_
    rintro e w2 ⟨rfl, hb2⟩
    go_wp2_with fail
    refine (lowered_nm a ha _).mono ?_
    rintro e w3 ⟨rfl, hb3⟩
    go_wp2_with fail
    refine (labelsOf_in (lowN a) ha.low _).mono ?_
    rintro e w4 ⟨⟨va, rfl, hva⟩, hb4⟩
    go_wp2_with fail
    refine (lowered_nm b hb _).mono ?_
    rintro e w5 ⟨rfl, hb5⟩
    go_wp2_with fail
    refine (labelsOf_in (lowN b) hb.low _).mono ?_
    rintro e w6 ⟨⟨vb, rfl, hvb⟩, hb6⟩
    have hva6 := (hva.below (bthen hb5 hb6)).mono (bthen hb5 hb6).size
    clear hva
    obtain ⟨q, c, hq⟩ := hva6.form
    subst hq
    obtain ⟨q', c', hq'⟩ := hvb.form
    subst hq'
    go_wp2_with fail
    refine (sharedEnd_in _ _ (lowN a) (lowN b) _ _ (by omega) (by omega) hva6 hvb).mono ?_
    rintro e w7 ⟨rfl, hb7⟩
    clear hva6 hvb
    go_wp2_with fail
    refine (cmpInt_in _ _ _).mono ?_
    rintro e w8 ⟨rfl, rfl⟩
    go_wp2
    go_ret
    exact ⟨by rw [HF.out]; rfl, bthen hb1 (bthen hb2 (bthen hb3 (bthen hb4 (bthen hb5 (bthen hb6 hb7)))))⟩
  · by_cases hB : shEnd (lowN a) (lowN b) = (lowN b).length
    · have HF := Hid.mk (cmpN_short (.inr hB))
      have ht : ((shEnd (lowN a) (lowN b) : Int) == ((lowN a).length : Int)) = false := by rw [beq_eq_false_iff_ne]; omega
      have ht2 : ((shEnd (lowN a) (lowN b) : Int) == ((lowN b).length : Int)) = true := by rw [hB]; simp
      clear hA hB hle
      go_enter Try.func30, Try.ntmps30
      go_wp2_with fail
      refine (right_yes a ha _).mono ?_
      rintro e w1 ⟨rfl, hb1⟩
      go_wp2_with fail
      refine (right_yes b hb _).mono ?_
      rintro e w2 ⟨rfl, hb2⟩
      go_wp2_with fail
      refine (lowered_nm a ha _).mono ?_
      rintro e w3 ⟨rfl, hb3⟩
      go_wp2_with fail
      refine (labelsOf_in (lowN a) ha.low _).mono ?_
      rintro e w4 ⟨⟨va, rfl, hva⟩, hb4⟩
      go_wp2_with fail
      refine (lowered_nm b hb _).mono ?_
      rintro e w5 ⟨rfl, hb5⟩
      go_wp2_with fail
      refine (labelsOf_in (lowN b) hb.low _).mono ?_
      rintro e w6 ⟨⟨vb, rfl, hvb⟩, hb6⟩
      have hva6 := (hva.below (bthen hb5 hb6)).mono (bthen hb5 hb6).size
      clear hva
      obtain ⟨q, c, hq⟩ := hva6.form
      subst hq
      obtain ⟨q', c', hq'⟩ := hvb.form
      subst hq'
      go_wp2_with fail
      refine (sharedEnd_in _ _ (lowN a) (lowN b) _ _ (by omega) (by omega) hva6 hvb).mono ?_
      rintro e w7 ⟨rfl, hb7⟩
      clear hva6 hvb
      go_wp2_with fail
      refine (cmpInt_in _ _ _).mono ?_
      rintro e w8 ⟨rfl, rfl⟩
      go_wp2
      go_ret
      exact ⟨by rw [HF.out]; rfl, bthen hb1 (bthen hb2 (bthen hb3 (bthen hb4 (bthen hb5 (bthen hb6 hb7)))))⟩
    · have hla : shEnd (lowN a) (lowN b) < (lowN a).length := by omega
      have hlb : shEnd (lowN a) (lowN b) < (lowN b).length := by omega
      have HF := Hid.mk (cmpN_diff hla hlb)
      have ht : ((shEnd (lowN a) (lowN b) : Int) == ((lowN a).length : Int)) = false := by rw [beq_eq_false_iff_ne]; omega
      have ht2 : ((shEnd (lowN a) (lowN b) : Int) == ((lowN b).length : Int)) = false := by rw [beq_eq_false_iff_ne]; omega
      clear hA hB hle
      go_enter Try.func30, Try.ntmps30
      go_wp2_with fail
      refine (right_yes a ha _).mono ?_
      rintro e w1 ⟨rfl, hb1⟩
      go_wp2_with fail
      refine (right_yes b hb _).mono ?_
      rintro e w2 ⟨rfl, hb2⟩
      go_wp2_with fail
      refine (lowered_nm a ha _).mono ?_
      rintro e w3 ⟨rfl, hb3⟩
      go_wp2_with fail
      refine (labelsOf_in (lowN a) ha.low _).mono ?_
      rintro e w4 ⟨⟨va, rfl, hva⟩, hb4⟩
      go_wp2_with fail
      refine (lowered_nm b hb _).mono ?_
      rintro e w5 ⟨rfl, hb5⟩
      go_wp2_with fail
      refine (labelsOf_in (lowN b) hb.low _).mono ?_
      rintro e w6 ⟨⟨vb, rfl, hvb⟩, hb6⟩
      have hva6 := (hva.below (bthen hb5 hb6)).mono (bthen hb5 hb6).size
      clear hva
      obtain ⟨ga, ca, hva, hga, hcla⟩ : ∃ g cap, va = .slice (some ⟨g, 0, none⟩) (lowN a).length cap ∧ g < w6.heap.size ∧ ∀ j (h : j < (lowN a).length), w6.cell? ⟨g, j, none⟩ = some (strV (lowN a)[j]) := by
        rcases hva6 with ⟨_, h⟩ | h
        · rw [h] at hla; simp at hla
        · exact h
      obtain ⟨gb, cb, hvb', hgb, hclb⟩ : ∃ g cap, vb = .slice (some ⟨g, 0, none⟩) (lowN b).length cap ∧ g < w6.heap.size ∧ ∀ j (h : j < (lowN b).length), w6.cell? ⟨g, j, none⟩ = some (strV (lowN b)[j]) := by
        rcases hvb with ⟨_, h⟩ | h
        · rw [h] at hlb; simp at hlb
        · exact h
      subst hva
      subst hvb'
      go_wp2_with fail
      refine (sharedEnd_in _ _ (lowN a) (lowN b) _ _ (by omega) (by omega) hva6 hvb).mono ?_
      rintro e w7 ⟨rfl, hb7⟩
      clear hva6 hvb
      obtain ⟨x, hxl, hc1⟩ : ∃ x : ByteArray, Hid (x.data.toList = (lowN a)[(lowN a).length - 1 - shEnd (lowN a) (lowN b)]'(by omega)) ∧ w7.cell? ⟨ga, (lowN a).length - 1 - shEnd (lowN a) (lowN b), none⟩ = some (.string x) :=
        ⟨⟨((lowN a)[(lowN a).length - 1 - shEnd (lowN a) (lowN b)]'(by omega)).toArray⟩, rfl, (hb7.cell (p := ⟨ga, _, none⟩) hga).trans (hcla _ (by omega))⟩
      obtain ⟨y, hyl, hc2⟩ : ∃ x : ByteArray, Hid (x.data.toList = (lowN b)[(lowN b).length - 1 - shEnd (lowN a) (lowN b)]'(by omega)) ∧ w7.cell? ⟨gb, (lowN b).length - 1 - shEnd (lowN a) (lowN b), none⟩ = some (.string x) :=
        ⟨⟨((lowN b)[(lowN b).length - 1 - shEnd (lowN a) (lowN b)]'(by omega)).toArray⟩, rfl, (hb7.cell (p := ⟨gb, _, none⟩) hgb).trans (hclb _ (by omega))⟩
      clear hcla hclb
      have hw1 : IntKind.i64.wrap (((lowN a).length : Int) - 1) = ((lowN a).length : Int) - 1 := by rw [IntKind.wrap_i64]; omega
      have hw2 : IntKind.i64.wrap (((lowN a).length : Int) - 1 - (shEnd (lowN a) (lowN b) : Int)) = (((lowN a).length - 1 - shEnd (lowN a) (lowN b) : Nat) : Int) := by rw [IntKind.wrap_i64]; omega
      have hv1 : IntKind.i64.wrap (((lowN b).length : Int) - 1) = ((lowN b).length : Int) - 1 := by rw [IntKind.wrap_i64]; omega
      have hv2 : IntKind.i64.wrap (((lowN b).length : Int) - 1 - (shEnd (lowN a) (lowN b) : Int)) = (((lowN b).length - 1 - shEnd (lowN a) (lowN b) : Nat) : Int) := by rw [IntKind.wrap_i64]; omega
      have hi1 : (lowN a).length - 1 - shEnd (lowN a) (lowN b) < (lowN a).length := by omega
      have hi2 : (lowN b).length - 1 - shEnd (lowN a) (lowN b) < (lowN b).length := by omega
      go_wp2
      go_quiet ((go_at_call 57; exact Calls.quiet_of_same (cmpStr_in _ _ _)))
      go_wp2
      go_ret
      exact ⟨by rw [HF.out, hxl.out, hyl.out]; rfl, bthen hb1 (bthen hb2 (bthen hb3 (bthen hb4 (bthen hb5 (bthen hb6 (below_drewN hb7 _))))))⟩

theorem compare_no (s t : ByteArray) (hs : s.size ≤ maxLen) (ht : t.size ≤ maxLen) (h : ¬ (IsName s ∧ IsName t)) (r : Int)
    (hr : ∀ w, Calls Try.prog 55 #[.string s, .string t] w fun e w' => e = .returned (.int .i64 r) ∧ Below w.heap.size w w') (w : World) :
    Calls Try.prog 30 #[.string s, .string t] w fun e w' => e = .returned (.int .i64 r) ∧ Below w.heap.size w w' := by
  have HR : Hid _ := hr
  clear hr
  by_cases h1 : IsName s
  · have h2 : ¬ IsName t := fun h2 => h ⟨h1, h2⟩
    obtain ⟨a, ha, rfl⟩ := h1
    go_enter Try.func30, Try.ntmps30
    go_wp2_with fail
    refine (right_yes a ha _).mono ?_
    rintro e w1 ⟨rfl, hb1⟩
    go_wp2_with fail
    refine (right_no t h2 ht _).mono ?_
    rintro e w2 ⟨rfl, hb2⟩
    go_wp2_with fail
    refine (HR.out _).mono ?_
    rintro e w3 ⟨rfl, hb3⟩
    go_wp2
    go_ret
    exact ⟨rfl, bthen hb1 (bthen hb2 hb3)⟩
  · go_enter Try.func30, Try.ntmps30
    go_wp2_with fail
    refine (right_no s h1 hs _).mono ?_
    rintro e w1 ⟨rfl, hb1⟩
    go_wp2_with fail
    refine (HR.out _).mono ?_
    rintro e w3 ⟨rfl, hb3⟩
    go_wp2
    go_ret
    exact ⟨rfl, bthen hb1 hb3⟩

end Go.Proofs.Ytpngjmeinlcggaa
