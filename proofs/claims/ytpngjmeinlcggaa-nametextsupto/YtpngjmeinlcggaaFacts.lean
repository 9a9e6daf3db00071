/- What the shared end of two names says of 'under', 'common' and the order. -/
import Derived.Test.YtpngjmeinlcggaaCmp
namespace Go.Proofs.Ytpngjmeinlcggaa
set_option linter.unusedVariables false

theorem cpl_comm : ∀ (a b : List (List UInt8)), cpl a b = cpl b a
  | [], [] => rfl
  | [], _ :: _ => rfl
  | _ :: _, [] => rfl
  | a :: a', b :: b' => by
    simp only [cpl, cpl_comm a' b', eq_comm]
theorem cpl_take : ∀ (a b : List (List UInt8)), a.take (cpl a b) = b.take (cpl a b)
  | [], [] => rfl
  | [], _ :: _ => rfl
  | _ :: _, [] => rfl
  | a :: a', b :: b' => by
    by_cases h : a = b
    · subst h; simp [cpl, cpl_take a' b']
    · simp [cpl, h]
theorem cpl_ge : ∀ (a b c : List (List UInt8)), c <+: a → c <+: b → c.length ≤ cpl a b
  | _, _, [], _, _ => by simp
  | [], _, c :: c', h, _ => by simp at h
  | a :: a', [], c :: c', _, h => by simp at h
  | a :: a', b :: b', c :: c', h1, h2 => by
    obtain ⟨rfl, h1'⟩ := List.cons_prefix_cons.1 h1
    obtain ⟨rfl, h2'⟩ := List.cons_prefix_cons.1 h2
    have := cpl_ge a' b' c' h1' h2'
    simp [cpl, this]

theorem comN_rev (a b : List (List UInt8)) : (lowN (comN a b)).reverse = (lowN a).reverse.take (cpl (lowN a).reverse (lowN b).reverse) := by
  have h : lowN (comN a b) = (lowN a).drop (a.length - shEnd (lowN a) (lowN b)) := by simp [comN, lowN]
  have hl := (shEnd_le (lowN a) (lowN b)).1
  rw [lowN_length] at hl
  rw [h, List.reverse_drop, lowN_length, shEnd] at *
  congr 1; omega

theorem comN_len (a b : List (List UInt8)) : (comN a b).length = shEnd (lowN a) (lowN b) := by
  have hl := (shEnd_le (lowN a) (lowN b)).1
  rw [lowN_length] at hl
  simp [comN]; omega

theorem com_eq (a b : List (List UInt8)) : eqB (comN a b) (comN b a) = true := by
  rw [eqB, decide_eq_true_iff]
  apply List.reverse_inj.1
  rw [comN_rev, comN_rev, cpl_comm (lowN b).reverse, cpl_take]

theorem und_rev (a b : List (List UInt8)) : undB a b = true ↔ (lowN b).reverse <+: (lowN a).reverse := by
  rw [undB_iff, List.reverse_prefix]

theorem und_com_left (a b : List (List UInt8)) : undB a (comN a b) = true := by
  rw [und_rev, comN_rev]; exact List.take_prefix _ _
theorem und_com_right (a b : List (List UInt8)) : undB b (comN a b) = true := by
  rw [und_rev, comN_rev, cpl_take]; exact List.take_prefix _ _
theorem und_com_of (a b c : List (List UInt8)) (h1 : undB a c = true) (h2 : undB b c = true) : undB (comN a b) c = true := by
  rw [und_rev] at *
  rw [comN_rev]
  have := cpl_ge _ _ _ h1 h2
  exact List.prefix_take_iff.2 ⟨h1, this⟩
theorem und_iff_com (a b : List (List UInt8)) : undB a b = eqB b (comN a b) := by
  rw [Bool.eq_iff_iff]
  constructor
  · intro h
    rw [eqB, decide_eq_true_iff]
    apply List.reverse_inj.1
    rw [comN_rev]
    have h' := (und_rev a b).1 h
    have hk : cpl (lowN a).reverse (lowN b).reverse = (lowN b).reverse.length := (cpl_full _ _).2 h'
    rw [hk]; exact List.prefix_iff_eq_take.1 h'
  · intro h
    rw [eqB, decide_eq_true_iff] at h
    rw [und_rev, h, comN_rev]; exact List.take_prefix _ _
theorem und_len {a b : List (List UInt8)} (h : undB a b = true) : b.length ≤ a.length := (und_split h).1
theorem und_cmp {a b : List (List UInt8)} (h : undB a b = true) : 0 ≤ cmpN a b := by
  have hl := und_len h
  rw [undB, decide_eq_true_iff] at h
  rw [cmpN_short (.inr (by rw [h, lowN_length])), lowN_length, lowN_length, cmpI]
  split
  · omega
  · split <;> omega
theorem cmp_child (l : List UInt8) (a : List (List UInt8)) : cmpN (l :: a) a = 1 := by
  have h : undB (l :: a) a = true := by
    rw [undB_iff]; exact List.suffix_cons _ _
  rw [undB, decide_eq_true_iff] at h
  rw [cmpN_short (.inr (by rw [h, lowN_length])), lowN_length, lowN_length, cmpI, List.length_cons, if_neg (by omega), if_pos (by omega)]
theorem und_child (l : List UInt8) (a : List (List UInt8)) : undB (l :: a) a = true := by
  rw [undB_iff]; exact List.suffix_cons _ _
theorem not_und_child (l : List UInt8) (a : List (List UInt8)) : undB a (l :: a) = false := by
  cases h : undB a (l :: a) with
  | false => rfl
  | true => have := und_len h; rw [List.length_cons] at this; omega

theorem flat_drop_le (ls : List (List UInt8)) (k : Nat) : (flat (ls.drop k)).length ≤ (flat ls).length := by
  have : flat ls = flat (ls.take k) ++ flat (ls.drop k) := by rw [← flat_append, List.take_append_drop]
  rw [this, List.length_append]; omega
theorem OkN.drop {ls : List (List UInt8)} (h : OkN ls) (k : Nat) : OkN (ls.drop k) :=
  ⟨fun l hl => h.lab l (List.mem_of_mem_drop hl), by have := flat_drop_le ls k; have := h.len; omega⟩
theorem ok_com {a b : List (List UInt8)} (h : OkN a) : OkN (comN a b) := h.drop _

end Go.Proofs.Ytpngjmeinlcggaa
