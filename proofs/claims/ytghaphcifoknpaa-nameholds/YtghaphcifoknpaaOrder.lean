/- The order of names: it is one. -/
import Derived.Test.YtghaphcifoknpaaFacts
namespace Go.Proofs.Ytghaphcifoknpaa
set_option linter.unusedVariables false
open Go.RowKit

/-! ### the order of bytes -/
theorem less_irrefl : ∀ a : List UInt8, Op.bytesLess a a = false
  | [] => rfl
  | a :: x => by simp [Op.bytesLess, less_irrefl x]
theorem less_trans : ∀ a b c : List UInt8, Op.bytesLess a b = true → Op.bytesLess b c = true → Op.bytesLess a c = true
  | _, [], _, h, _ => by cases ‹List UInt8› <;> simp [Op.bytesLess] at h
  | _, _ :: _, [], _, h => by simp [Op.bytesLess] at h
  | [], _ :: _, _ :: _, _, _ => rfl
  | a :: x, b :: y, c :: z, h1, h2 => by
    simp only [Op.bytesLess, Bool.or_eq_true, Bool.and_eq_true, decide_eq_true_iff, beq_iff_eq, UInt8.lt_iff_toNat_lt] at h1 h2 ⊢
    rcases h1 with h1 | ⟨rfl, h1⟩
    · rcases h2 with h2 | ⟨rfl, h2⟩
      · left; omega
      · left; exact h1
    · rcases h2 with h2 | ⟨rfl, h2⟩
      · left; exact h2
      · right; exact ⟨rfl, less_trans x y z h1 h2⟩
theorem less_total : ∀ a b : List UInt8, Op.bytesLess a b = false → Op.bytesLess b a = false → a = b
  | [], [], _, _ => rfl
  | [], _ :: _, h, _ => by simp [Op.bytesLess] at h
  | _ :: _, [], _, h => by simp [Op.bytesLess] at h
  | a :: x, b :: y, h1, h2 => by
    simp only [Op.bytesLess, Bool.or_eq_false_iff, Bool.and_eq_false_iff, decide_eq_false_iff_not, beq_eq_false_iff_ne, UInt8.lt_iff_toNat_lt] at h1 h2
    have e : a = b := UInt8.toNat_inj.1 (by omega)
    subst e
    have h1' : Op.bytesLess x y = false := by rcases h1.2 with h | h; exact absurd rfl h; exact h
    have h2' : Op.bytesLess y x = false := by rcases h2.2 with h | h; exact absurd rfl h; exact h
    rw [less_total x y h1' h2']
theorem less_asymm {a b : List UInt8} (h : Op.bytesLess a b = true) : Op.bytesLess b a = false := by
  cases h' : Op.bytesLess b a with
  | false => rfl
  | true => have := less_trans a b a h h'; rw [less_irrefl] at this; cases this

theorem cmpL_refl (a : List UInt8) : cmpL a a = 0 := by simp [cmpL, less_irrefl]
theorem cmpL_zero {a b : List UInt8} (h : cmpL a b = 0) : a = b := by
  unfold cmpL at h
  split at h
  · cases h
  · split at h
    · assumption
    · cases h
theorem cmpL_anti (a b : List UInt8) : cmpL b a = - cmpL a b := by
  unfold cmpL
  by_cases h1 : Op.bytesLess a b = true
  · have h2 := less_asymm h1
    have hne : ¬ b = a := by intro e; subst e; rw [less_irrefl] at h1; cases h1
    rw [if_neg (by rw [h2]; simp), if_neg hne, if_pos h1]; rfl
  · rw [if_neg h1]
    by_cases he : a = b
    · subst he; rw [if_neg h1]; simp
    · rw [if_neg he]
      have : Op.bytesLess b a = true := by
        cases h' : Op.bytesLess b a with
        | true => rfl
        | false => exact absurd (less_total a b (by simpa using h1) h') he
      rw [if_pos this]
theorem cmpL_le {a b : List UInt8} : cmpL a b ≤ 0 ↔ (Op.bytesLess a b = true ∨ a = b) := by
  unfold cmpL
  split
  · simp [*]
  · split
    · simp [*]
    · rename_i h1 h2; simp [h1, h2]
theorem cmpL_trans {a b c : List UInt8} (h1 : cmpL a b ≤ 0) (h2 : cmpL b c ≤ 0) : cmpL a c ≤ 0 := by
  rw [cmpL_le] at *
  rcases h1 with h1 | rfl
  · rcases h2 with h2 | rfl
    · exact .inl (less_trans _ _ _ h1 h2)
    · exact .inl h1
  · exact h2
theorem cmpL_sign (a b : List UInt8) : cmpL a b = -1 ∨ cmpL a b = 0 ∨ cmpL a b = 1 := by
  unfold cmpL; split
  · simp
  · split <;> simp

/-! ### the order of labels, the last one first -/
theorem cmpR_refl : ∀ a : List (List UInt8), cmpR a a = 0
  | [] => rfl
  | a :: x => by simp [cmpR, cmpR_refl x]
theorem cmpR_zero : ∀ {a b : List (List UInt8)}, cmpR a b = 0 → a = b
  | [], [], _ => rfl
  | [], _ :: _, h => by simp [cmpR] at h
  | _ :: _, [], h => by simp [cmpR] at h
  | a :: x, b :: y, h => by
    unfold cmpR at h
    split at h
    · rename_i e; rw [e, cmpR_zero h]
    · rename_i e; exact absurd (cmpL_zero h) e
theorem cmpR_anti : ∀ a b : List (List UInt8), cmpR b a = - cmpR a b
  | [], [] => rfl
  | [], _ :: _ => rfl
  | _ :: _, [] => rfl
  | a :: x, b :: y => by
    by_cases e : a = b
    · subst e; simp [cmpR, cmpR_anti x y]
    · have e' : ¬ b = a := fun h => e h.symm
      simp only [cmpR, e, e', if_false]; exact cmpL_anti a b
theorem cmpR_sign : ∀ a b : List (List UInt8), cmpR a b = -1 ∨ cmpR a b = 0 ∨ cmpR a b = 1
  | [], [] => by simp [cmpR]
  | [], _ :: _ => by simp [cmpR]
  | _ :: _, [] => by simp [cmpR]
  | a :: x, b :: y => by
    by_cases e : a = b
    · subst e; simp only [cmpR, if_true]; exact cmpR_sign x y
    · simp only [cmpR, e, if_false]; exact cmpL_sign a b
theorem cmpR_trans : ∀ {a b c : List (List UInt8)}, cmpR a b ≤ 0 → cmpR b c ≤ 0 → cmpR a c ≤ 0
  | [], _, [], _, _ => by simp [cmpR]
  | [], _, _ :: _, _, _ => by simp [cmpR]
  | _ :: _, [], _, h, _ => by simp [cmpR] at h
  | _ :: _, _ :: _, [], _, h => by simp [cmpR] at h
  | a :: x, b :: y, c :: z, h1, h2 => by
    by_cases e1 : a = b
    · subst e1
      simp only [cmpR, if_true] at h1
      by_cases e2 : a = c
      · subst e2
        simp only [cmpR, if_true] at h2 ⊢
        exact cmpR_trans h1 h2
      · simp only [cmpR, e2, if_false] at h2 ⊢
        exact h2
    · simp only [cmpR, e1, if_false] at h1
      by_cases e2 : b = c
      · subst e2
        simp only [cmpR, e1, if_false]
        exact h1
      · simp only [cmpR, e2, if_false] at h2
        have h3 := cmpL_trans h1 h2
        by_cases e3 : a = c
        · subst e3
          have := cmpL_anti a b
          have h4 : cmpL a b = 0 := by omega
          exact absurd (cmpL_zero h4) e1
        · simp only [cmpR, e3, if_false]; exact h3

/-! ### of any texts -/
abbrev Key := Option (List (List UInt8)) × List UInt8
def cmpK (p q : Key) : Int := match p.1, q.1 with
  | some a, some b => cmpR a b
  | some _, none => 1
  | none, some _ => -1
  | none, none => cmpL p.2 q.2
/-- k is by what the text s is ordered. -/
def HasKey (s : ByteArray) (k : Key) : Prop := k.2 = s.data.toList ∧ ((∃ ls, OkN ls ∧ s = nm ls ∧ k.1 = some (lowN ls).reverse) ∨ (¬ IsName s ∧ k.1 = none))
theorem has_key (s : ByteArray) : ∃ k, HasKey s k := by
  by_cases h : IsName s
  · obtain ⟨ls, ho, hs⟩ := h
    exact ⟨(some (lowN ls).reverse, s.data.toList), rfl, .inl ⟨ls, ho, hs, rfl⟩⟩
  · exact ⟨(none, s.data.toList), rfl, .inr ⟨h, rfl⟩⟩

theorem cmpK_refl (p : Key) : cmpK p p = 0 := by
  obtain ⟨p1, p2⟩ := p
  cases p1 with
  | none => exact cmpL_refl _
  | some a => exact cmpR_refl _
theorem cmpK_anti (p q : Key) : cmpK q p = - cmpK p q := by
  obtain ⟨p1, p2⟩ := p
  obtain ⟨q1, q2⟩ := q
  cases p1 <;> cases q1
  · exact cmpL_anti _ _
  · rfl
  · rfl
  · exact cmpR_anti _ _
theorem cmpK_sign (p q : Key) : cmpK p q = -1 ∨ cmpK p q = 0 ∨ cmpK p q = 1 := by
  obtain ⟨p1, p2⟩ := p
  obtain ⟨q1, q2⟩ := q
  cases p1 <;> cases q1
  · exact cmpL_sign _ _
  · exact .inl rfl
  · exact .inr (.inr rfl)
  · exact cmpR_sign _ _
theorem cmpK_trans {p q r : Key} (h1 : cmpK p q ≤ 0) (h2 : cmpK q r ≤ 0) : cmpK p r ≤ 0 := by
  obtain ⟨p1, p2⟩ := p
  obtain ⟨q1, q2⟩ := q
  obtain ⟨r1, r2⟩ := r
  cases p1 <;> cases q1 <;> cases r1
  · exact cmpL_trans h1 h2
  · exact (by decide : (-1 : Int) ≤ 0)
  · exact absurd h2 (by show ¬ (1 : Int) ≤ 0; decide)
  · exact (by decide : (-1 : Int) ≤ 0)
  · exact absurd h1 (by show ¬ (1 : Int) ≤ 0; decide)
  · exact absurd h1 (by show ¬ (1 : Int) ≤ 0; decide)
  · exact absurd h2 (by show ¬ (1 : Int) ≤ 0; decide)
  · exact cmpR_trans h1 h2

theorem compare_any {s t : ByteArray} (hs : s.size ≤ maxLen) (ht : t.size ≤ maxLen) {p q : Key} (hp : HasKey s p) (hq : HasKey t q) (w : World) :
    Calls Try.prog 30 #[.string s, .string t] w fun e w' => e = .returned (.int .i64 (cmpK p q)) ∧ Below w.heap.size w w' := by
  obtain ⟨p1, p2⟩ := p
  obtain ⟨q1, q2⟩ := q
  obtain ⟨e1, hp⟩ := hp
  obtain ⟨e2, hq⟩ := hq
  dsimp only at e1 e2 hp hq
  subst e1
  subst e2
  rcases hp with ⟨a, ha, rfl, rfl⟩ | ⟨hn, rfl⟩
  · rcases hq with ⟨b, hb, rfl, rfl⟩ | ⟨hm, rfl⟩
    · exact compare_yes a b ha hb w
    · exact compare_no _ t hs ht (fun h => hm h.2) 1 (strays_left a ha t) w
  · rcases hq with ⟨b, hb, rfl, rfl⟩ | ⟨hm, rfl⟩
    · exact compare_no s _ hs ht (fun h => hn h.1) (-1) (strays_right s hs hn b hb) w
    · exact compare_no s t hs ht (fun h => hn h.1) _ (strays_both s t hs hn ht hm) w

/-- Equal, of any two texts: the same where the order is none, of names. -/
theorem equal_any {s t : ByteArray} (hs : s.size ≤ maxLen) (ht : t.size ≤ maxLen) {p q : Key} (hp : HasKey s p) (hq : HasKey t q) : ∃ b : Bool, (b = true → cmpK p q = 0) ∧ (cmpK p q = 0 → b = true ∨ s = t) ∧
    ∀ w, Calls Try.prog 28 #[.string s, .string t] w fun e w' => e = .returned (.bool b) ∧ Below w.heap.size w w' := by
  obtain ⟨p1, p2⟩ := p
  obtain ⟨q1, q2⟩ := q
  obtain ⟨e1, hp⟩ := hp
  obtain ⟨e2, hq⟩ := hq
  dsimp only at e1 e2 hp hq
  subst e1
  subst e2
  rcases hp with ⟨a, ha, rfl, rfl⟩ | ⟨hn, rfl⟩
  · rcases hq with ⟨b, hb, rfl, rfl⟩ | ⟨hm, rfl⟩
    · refine ⟨eqB a b, fun h => ?_, fun h => .inl ?_, equal_yes a b ha hb⟩
      · rw [eqB, decide_eq_true_iff] at h
        show cmpR _ _ = 0
        rw [h]; exact cmpR_refl _
      · rw [eqB, decide_eq_true_iff]
        exact List.reverse_inj.1 (cmpR_zero h)
    · exact ⟨false, fun h => (by cases h), fun h => absurd h (by show ¬ (1 : Int) = 0; decide), equal_no _ t hs ht (fun h => hm h.2)⟩
  · rcases hq with ⟨b, hb, rfl, rfl⟩ | ⟨hm, rfl⟩
    · exact ⟨false, fun h => (by cases h), fun h => absurd h (by show ¬ (-1 : Int) = 0; decide), equal_no s _ hs ht (fun h => hn h.1)⟩
    · exact ⟨false, fun h => (by cases h), fun h => .inr (ba_ext (cmpL_zero h)), equal_no s t hs ht (fun h => hn h.1)⟩

end Go.Proofs.Ytghaphcifoknpaa
