/- Texts of this proof, joined: Order, ZBtw, ZFm, ZRr, ZLink. -/
import Derived.Test.YtaiakpigljcjbaaGreatDoorJ11
import Derived.Deep.WholeRow
import Derived.Test.YtaiakpigljcjbaaGreatDoorJ10
/- The order of names: it is one. -/
namespace Go.Proofs.YtaiakpigljcjbaaGreatDoor
set_option linter.unusedVariables false
open Go.RowKit

/-! ### the order of bytes -/
theorem less_irrefl : ∀ a : List UInt8, Op.bytesLess a a = false
  | [] => rfl
  | a :: x => by simp [Op.bytesLess, less_irrefl x]
theorem less_trans : ∀ a b c : List UInt8, Op.bytesLess a b = true → Op.bytesLess b c = true → Op.bytesLess a c = true
  | _, [], _, h, _ => by cases ‹List UInt8› <;> simp [Op.bytesLess] at h
  | _, _ :: _, [], _, h => by simp [Op.bytesLess] at h
  | [], _ :: _, _ :: _, _, _ => rfl
  | a :: x, b :: y, c :: z, h1, h2 => by
    simp only [Op.bytesLess, Bool.or_eq_true, Bool.and_eq_true, decide_eq_true_iff, beq_iff_eq, UInt8.lt_iff_toNat_lt] at h1 h2 ⊢
    rcases h1 with h1 | ⟨rfl, h1⟩
    · rcases h2 with h2 | ⟨rfl, h2⟩
      · left; omega
      · left; exact h1
    · rcases h2 with h2 | ⟨rfl, h2⟩
      · left; exact h2
      · right; exact ⟨rfl, less_trans x y z h1 h2⟩
theorem less_total : ∀ a b : List UInt8, Op.bytesLess a b = false → Op.bytesLess b a = false → a = b
  | [], [], _, _ => rfl
  | [], _ :: _, h, _ => by simp [Op.bytesLess] at h
  | _ :: _, [], _, h => by simp [Op.bytesLess] at h
  | a :: x, b :: y, h1, h2 => by
    simp only [Op.bytesLess, Bool.or_eq_false_iff, Bool.and_eq_false_iff, decide_eq_false_iff_not, beq_eq_false_iff_ne, UInt8.lt_iff_toNat_lt] at h1 h2
    have e : a = b := UInt8.toNat_inj.1 (by omega)
    subst e
    have h1' : Op.bytesLess x y = false := by rcases h1.2 with h | h; exact absurd rfl h; exact h
    have h2' : Op.bytesLess y x = false := by rcases h2.2 with h | h; exact absurd rfl h; exact h
    rw [less_total x y h1' h2']
theorem less_asymm {a b : List UInt8} (h : Op.bytesLess a b = true) : Op.bytesLess b a = false := by
  cases h' : Op.bytesLess b a with
  | false => rfl
  | true => have := less_trans a b a h h'; rw [less_irrefl] at this; cases this

theorem cmpL_refl (a : List UInt8) : cmpL a a = 0 := by simp [cmpL, less_irrefl]
theorem cmpL_zero {a b : List UInt8} (h : cmpL a b = 0) : a = b := by
  unfold cmpL at h
  split at h
  · cases h
  · split at h
    · assumption
    · cases h
theorem cmpL_anti (a b : List UInt8) : cmpL b a = - cmpL a b := by
  unfold cmpL
  by_cases h1 : Op.bytesLess a b = true
  · have h2 := less_asymm h1
    have hne : ¬ b = a := by intro e; subst e; rw [less_irrefl] at h1; cases h1
    rw [if_neg (by rw [h2]; simp), if_neg hne, if_pos h1]; rfl
  · rw [if_neg h1]
    by_cases he : a = b
    · subst he; rw [if_neg h1]; simp
    · rw [if_neg he]
      have : Op.bytesLess b a = true := by
        cases h' : Op.bytesLess b a with
        | true => rfl
        | false => exact absurd (less_total a b (by simpa using h1) h') he
      rw [if_pos this]
theorem cmpL_le {a b : List UInt8} : cmpL a b ≤ 0 ↔ (Op.bytesLess a b = true ∨ a = b) := by
  unfold cmpL
  split
  · simp [*]
  · split
    · simp [*]
    · rename_i h1 h2; simp [h1, h2]
theorem cmpL_trans {a b c : List UInt8} (h1 : cmpL a b ≤ 0) (h2 : cmpL b c ≤ 0) : cmpL a c ≤ 0 := by
  rw [cmpL_le] at *
  rcases h1 with h1 | rfl
  · rcases h2 with h2 | rfl
    · exact .inl (less_trans _ _ _ h1 h2)
    · exact .inl h1
  · exact h2
theorem cmpL_sign (a b : List UInt8) : cmpL a b = -1 ∨ cmpL a b = 0 ∨ cmpL a b = 1 := by
  unfold cmpL; split
  · simp
  · split <;> simp

/-! ### the order of labels, the last one first -/
theorem cmpR_refl : ∀ a : List (List UInt8), cmpR a a = 0
  | [] => rfl
  | a :: x => by simp [cmpR, cmpR_refl x]
theorem cmpR_zero : ∀ {a b : List (List UInt8)}, cmpR a b = 0 → a = b
  | [], [], _ => rfl
  | [], _ :: _, h => by simp [cmpR] at h
  | _ :: _, [], h => by simp [cmpR] at h
  | a :: x, b :: y, h => by
    unfold cmpR at h
    split at h
    · rename_i e; rw [e, cmpR_zero h]
    · rename_i e; exact absurd (cmpL_zero h) e
theorem cmpR_anti : ∀ a b : List (List UInt8), cmpR b a = - cmpR a b
  | [], [] => rfl
  | [], _ :: _ => rfl
  | _ :: _, [] => rfl
  | a :: x, b :: y => by
    by_cases e : a = b
    · subst e; simp [cmpR, cmpR_anti x y]
    · have e' : ¬ b = a := fun h => e h.symm
      simp only [cmpR, e, e', if_false]; exact cmpL_anti a b
theorem cmpR_sign : ∀ a b : List (List UInt8), cmpR a b = -1 ∨ cmpR a b = 0 ∨ cmpR a b = 1
  | [], [] => by simp [cmpR]
  | [], _ :: _ => by simp [cmpR]
  | _ :: _, [] => by simp [cmpR]
  | a :: x, b :: y => by
    by_cases e : a = b
    · subst e; simp only [cmpR, if_true]; exact cmpR_sign x y
    · simp only [cmpR, e, if_false]; exact cmpL_sign a b
theorem cmpR_trans : ∀ {a b c : List (List UInt8)}, cmpR a b ≤ 0 → cmpR b c ≤ 0 → cmpR a c ≤ 0
  | [], _, [], _, _ => by simp [cmpR]
  | [], _, _ :: _, _, _ => by simp [cmpR]
  | _ :: _, [], _, h, _ => by simp [cmpR] at h
  | _ :: _, _ :: _, [], _, h => by simp [cmpR] at h
  | a :: x, b :: y, c :: z, h1, h2 => by
    by_cases e1 : a = b
    · subst e1
      simp only [cmpR, if_true] at h1
      by_cases e2 : a = c
      · subst e2
        simp only [cmpR, if_true] at h2 ⊢
        exact cmpR_trans h1 h2
      · simp only [cmpR, e2, if_false] at h2 ⊢
        exact h2
    · simp only [cmpR, e1, if_false] at h1
      by_cases e2 : b = c
      · subst e2
        simp only [cmpR, e1, if_false]
        exact h1
      · simp only [cmpR, e2, if_false] at h2
        have h3 := cmpL_trans h1 h2
        by_cases e3 : a = c
        · subst e3
          have := cmpL_anti a b
          have h4 : cmpL a b = 0 := by omega
          exact absurd (cmpL_zero h4) e1
        · simp only [cmpR, e3, if_false]; exact h3

/-! ### of any texts -/
abbrev Key := Option (List (List UInt8)) × List UInt8
def cmpK (p q : Key) : Int := match p.1, q.1 with
  | some a, some b => cmpR a b
  | some _, none => 1
  | none, some _ => -1
  | none, none => cmpL p.2 q.2
/-- k is by what the text s is ordered. -/
def HasKey (s : ByteArray) (k : Key) : Prop := k.2 = s.data.toList ∧ ((∃ ls, OkN ls ∧ s = nm ls ∧ k.1 = some (lowN ls).reverse) ∨ (¬ IsName s ∧ k.1 = none))
theorem has_key (s : ByteArray) : ∃ k, HasKey s k := by
  by_cases h : IsName s
  · obtain ⟨ls, ho, hs⟩ := h
    exact ⟨(some (lowN ls).reverse, s.data.toList), rfl, .inl ⟨ls, ho, hs, rfl⟩⟩
  · exact ⟨(none, s.data.toList), rfl, .inr ⟨h, rfl⟩⟩

theorem cmpK_refl (p : Key) : cmpK p p = 0 := by
  obtain ⟨p1, p2⟩ := p
  cases p1 with
  | none => exact cmpL_refl _
  | some a => exact cmpR_refl _
theorem cmpK_anti (p q : Key) : cmpK q p = - cmpK p q := by
  obtain ⟨p1, p2⟩ := p
  obtain ⟨q1, q2⟩ := q
  cases p1 <;> cases q1
  · exact cmpL_anti _ _
  · rfl
  · rfl
  · exact cmpR_anti _ _
theorem cmpK_sign (p q : Key) : cmpK p q = -1 ∨ cmpK p q = 0 ∨ cmpK p q = 1 := by
  obtain ⟨p1, p2⟩ := p
  obtain ⟨q1, q2⟩ := q
  cases p1 <;> cases q1
  · exact cmpL_sign _ _
  · exact .inl rfl
  · exact .inr (.inr rfl)
  · exact cmpR_sign _ _
theorem cmpK_trans {p q r : Key} (h1 : cmpK p q ≤ 0) (h2 : cmpK q r ≤ 0) : cmpK p r ≤ 0 := by
  obtain ⟨p1, p2⟩ := p
  obtain ⟨q1, q2⟩ := q
  obtain ⟨r1, r2⟩ := r
  cases p1 <;> cases q1 <;> cases r1
  · exact cmpL_trans h1 h2
  · exact (by decide : (-1 : Int) ≤ 0)
  · exact absurd h2 (by show ¬ (1 : Int) ≤ 0; decide)
  · exact (by decide : (-1 : Int) ≤ 0)
  · exact absurd h1 (by show ¬ (1 : Int) ≤ 0; decide)
  · exact absurd h1 (by show ¬ (1 : Int) ≤ 0; decide)
  · exact absurd h2 (by show ¬ (1 : Int) ≤ 0; decide)
  · exact cmpR_trans h1 h2

theorem compare_any {s t : ByteArray} (hs : s.size ≤ maxLen) (ht : t.size ≤ maxLen) {p q : Key} (hp : HasKey s p) (hq : HasKey t q) (w : World) :
    Calls Tryz.prog 25 #[.string s, .string t] w fun e w' => e = .returned (.int .i64 (cmpK p q)) ∧ Below w.heap.size w w' := by
  obtain ⟨p1, p2⟩ := p
  obtain ⟨q1, q2⟩ := q
  obtain ⟨e1, hp⟩ := hp
  obtain ⟨e2, hq⟩ := hq
  dsimp only at e1 e2 hp hq
  subst e1
  subst e2
  rcases hp with ⟨a, ha, rfl, rfl⟩ | ⟨hn, rfl⟩
  · rcases hq with ⟨b, hb, rfl, rfl⟩ | ⟨hm, rfl⟩
    · exact compare_yes a b ha hb w
    · exact compare_no _ t hs ht (fun h => hm h.2) 1 (strays_left a ha t) w
  · rcases hq with ⟨b, hb, rfl, rfl⟩ | ⟨hm, rfl⟩
    · exact compare_no s _ hs ht (fun h => hn h.1) (-1) (strays_right s hs hn b hb) w
    · exact compare_no s t hs ht (fun h => hn h.1) _ (strays_both s t hs hn ht hm) w

/-- Equal, of any two texts: the same where the order is none, of names. -/
theorem equal_any {s t : ByteArray} (hs : s.size ≤ maxLen) (ht : t.size ≤ maxLen) {p q : Key} (hp : HasKey s p) (hq : HasKey t q) : ∃ b : Bool, (b = true → cmpK p q = 0) ∧ (cmpK p q = 0 → b = true ∨ s = t) ∧
    ∀ w, Calls Tryz.prog 12 #[.string s, .string t] w fun e w' => e = .returned (.bool b) ∧ Below w.heap.size w w' := by
  obtain ⟨p1, p2⟩ := p
  obtain ⟨q1, q2⟩ := q
  obtain ⟨e1, hp⟩ := hp
  obtain ⟨e2, hq⟩ := hq
  dsimp only at e1 e2 hp hq
  subst e1
  subst e2
  rcases hp with ⟨a, ha, rfl, rfl⟩ | ⟨hn, rfl⟩
  · rcases hq with ⟨b, hb, rfl, rfl⟩ | ⟨hm, rfl⟩
    · refine ⟨eqB a b, fun h => ?_, fun h => .inl ?_, equal_yes a b ha hb⟩
      · rw [eqB, decide_eq_true_iff] at h
        show cmpR _ _ = 0
        rw [h]; exact cmpR_refl _
      · rw [eqB, decide_eq_true_iff]
        exact List.reverse_inj.1 (cmpR_zero h)
    · exact ⟨false, fun h => (by cases h), fun h => absurd h (by show ¬ (1 : Int) = 0; decide), equal_no _ t hs ht (fun h => hm h.2)⟩
  · rcases hq with ⟨b, hb, rfl, rfl⟩ | ⟨hm, rfl⟩
    · exact ⟨false, fun h => (by cases h), fun h => absurd h (by show ¬ (-1 : Int) = 0; decide), equal_no s _ hs ht (fun h => hn h.1)⟩
    · exact ⟨false, fun h => (by cases h), fun h => .inr (ba_ext (cmpL_zero h)), equal_no s t hs ht (fun h => hn h.1)⟩

end Go.Proofs.YtaiakpigljcjbaaGreatDoor

/- inGap, Between. -/
namespace Go.Proofs.YtaiakpigljcjbaaGreatDoor
set_option linter.unusedVariables false
open Go.RowKit
/-- is something in a gap? -/
def gapB (x y z : Int) : Bool := if z < 0 then decide (0 < x) && decide (y < 0) else decide (0 < x) || decide (y < 0)
set_option maxRecDepth 100000 in
set_option maxHeartbeats 1000000 in
theorem gap_in (x y z : Int) (W : World) : Calls Tryz.prog 24 #[.int .i64 x, .int .i64 y, .int .i64 z] W fun e w' => e = .returned (.bool (gapB x y z)) ∧ w' = W := by
  unfold gapB
  by_cases h1 : z < 0
  · rw [if_pos h1]
    have d1 : decide (z < 0) = true := decide_eq_true h1
    by_cases h2 : 0 < x
    · have d2 : decide (0 < x) = true := decide_eq_true h2
      rw [d2, Bool.true_and]
      generalize hD : decide (y < 0) = D
      go_enter Tryz.func24, Tryz.ntmps24
      go_wp2
      go_ret
      exact ⟨by first | rfl | simp [hD], rfl⟩
    · have d2 : decide (0 < x) = false := decide_eq_false h2
      rw [d2, Bool.false_and]
      generalize hD : decide (y < 0) = D
      go_enter Tryz.func24, Tryz.ntmps24
      go_wp2
      go_ret
      exact ⟨by first | rfl | simp [hD], rfl⟩
  · rw [if_neg h1]
    have d1 : decide (z < 0) = false := decide_eq_false h1
    by_cases h2 : 0 < x
    · have d2 : decide (0 < x) = true := decide_eq_true h2
      rw [d2, Bool.true_or]
      generalize hD : decide (y < 0) = D
      go_enter Tryz.func24, Tryz.ntmps24
      go_wp2
      go_ret
      exact ⟨by first | rfl | simp [hD], rfl⟩
    · have d2 : decide (0 < x) = false := decide_eq_false h2
      rw [d2, Bool.false_or]
      generalize hD : decide (y < 0) = D
      go_enter Tryz.func24, Tryz.ntmps24
      go_wp2
      go_ret
      exact ⟨by first | rfl | simp [hD], rfl⟩
/-- is a name between two? -/
def btwB (a n b : List (List UInt8)) : Bool := gapB (cmpN n a) (cmpN n b) (cmpN a b)
set_option maxRecDepth 100000 in
set_option maxHeartbeats 1000000 in
theorem btw_yes (a n b : List (List UInt8)) (ha : OkN a) (hn : OkN n) (hb : OkN b) (W : World) : Calls Tryz.prog 10 #[.string (nm a), .string (nm n), .string (nm b)] W fun e w' => e = .returned (.bool (btwB a n b)) ∧ Below W.heap.size W w' := by
  have R1 := Hid.mk (right_yes a ha)
  have R2 := Hid.mk (right_yes n hn)
  have R3 := Hid.mk (right_yes b hb)
  have C1 := Hid.mk (compare_yes n a hn ha)
  have C2 := Hid.mk (compare_yes n b hn hb)
  have C3 := Hid.mk (compare_yes a b ha hb)
  have HG := Hid.mk (gap_in (cmpN n a) (cmpN n b) (cmpN a b))
  unfold btwB
  generalize gapB (cmpN n a) (cmpN n b) (cmpN a b) = D at HG ⊢
  generalize cmpN n a = x at C1 HG
  generalize cmpN n b = y at C2 HG
  generalize cmpN a b = z at C3 HG
  generalize nm a = sa at *
  generalize nm n = sn at *
  generalize nm b = sb at *
  clear ha hn hb
  go_enter Tryz.func10, Tryz.ntmps10
  go_wp2_with fail
  refine (R1.out _).mono ?_
  rintro e w1 ⟨rfl, b1⟩
  go_wp2_with fail
  refine (R2.out _).mono ?_
  rintro e w2 ⟨rfl, b2⟩
  go_wp2_with fail
  refine (R3.out _).mono ?_
  rintro e w3 ⟨rfl, b3⟩
  go_wp2_with fail
  refine (C1.out _).mono ?_
  rintro e w4 ⟨rfl, b4⟩
  go_wp2_with fail
  refine (C2.out _).mono ?_
  rintro e w5 ⟨rfl, b5⟩
  go_wp2_with fail
  refine (C3.out _).mono ?_
  rintro e w6 ⟨rfl, b6⟩
  go_wp2_with fail
  refine (HG.out _).mono ?_
  rintro e w7 ⟨rfl, rfl⟩
  go_wp2
  go_ret
  exact ⟨rfl, bthen (bthen (bthen (bthen (bthen b1 b2) b3) b4) b5) b6⟩
set_option maxRecDepth 100000 in
set_option maxHeartbeats 1000000 in
theorem btw_no (s t u : ByteArray) (hs : s.size ≤ maxLen) (ht : t.size ≤ maxLen) (hu : u.size ≤ maxLen) (h : ¬ (IsName s ∧ IsName t ∧ IsName u)) (W : World) : Calls Tryz.prog 10 #[.string s, .string t, .string u] W fun e w' => e = .returned (.bool false) ∧ Below W.heap.size W w' := by
  have HR : ∀ x : ByteArray, x.size ≤ maxLen → ∃ D : Bool, (D = true ↔ IsName x) ∧ ∀ w, Calls Tryz.prog 11 #[.string x] w fun e w' => e = .returned (.bool D) ∧ Below w.heap.size w w' := fun x hx => by
    by_cases hn : IsName x
    · obtain ⟨ls, ho, rfl⟩ := hn
      exact ⟨true, ⟨fun _ => ⟨ls, ho, rfl⟩, fun _ => rfl⟩, right_yes ls ho⟩
    · exact ⟨false, ⟨fun h => by simp at h, fun h => absurd h hn⟩, fun w => right_no x hn hx w⟩
  obtain ⟨A, hA, R1⟩ := HR s hs
  obtain ⟨B, hB, R2⟩ := HR t ht
  obtain ⟨C, hC, R3⟩ := HR u hu
  have H1 := Hid.mk R1
  have H2 := Hid.mk R2
  have H3 := Hid.mk R3
  have hno : ¬ (A = true ∧ B = true ∧ C = true) := fun ⟨a, b, c⟩ => h ⟨hA.1 a, hB.1 b, hC.1 c⟩
  clear hA hB hC R1 R2 R3 HR h hs ht hu
  cases A with
  | false =>
    go_enter Tryz.func10, Tryz.ntmps10
    go_wp2_with fail
    refine (H1.out _).mono ?_
    rintro e w1 ⟨rfl, b1⟩
    go_wp2
    go_ret
    exact ⟨rfl, b1⟩
  | true =>
    cases B with
    | false =>
      go_enter Tryz.func10, Tryz.ntmps10
      go_wp2_with fail
      refine (H1.out _).mono ?_
      rintro e w1 ⟨rfl, b1⟩
      go_wp2_with fail
      refine (H2.out _).mono ?_
      rintro e w2 ⟨rfl, b2⟩
      go_wp2
      go_ret
      exact ⟨rfl, bthen b1 b2⟩
    | true =>
      cases C with
      | true => exact absurd ⟨rfl, rfl, rfl⟩ hno
      | false =>
        go_enter Tryz.func10, Tryz.ntmps10
        go_wp2_with fail
        refine (H1.out _).mono ?_
        rintro e w1 ⟨rfl, b1⟩
        go_wp2_with fail
        refine (H2.out _).mono ?_
        rintro e w2 ⟨rfl, b2⟩
        go_wp2_with fail
        refine (H3.out _).mono ?_
        rintro e w3 ⟨rfl, b3⟩
        go_wp2
        go_ret
        exact ⟨rfl, bthen (bthen b1 b2) b3⟩
end Go.Proofs.YtaiakpigljcjbaaGreatDoor

/- Boxes of one's own that stay; a link loaded and stored as one step. -/
namespace Go.Proofs.YtaiakpigljcjbaaGreatDoor
set_option linter.unusedVariables false
open Go.RowKit
theorem below_row {B : Nat} {a w : World} (h : Below B a w) {b : Nat} (hb : B ≤ b) (cs : Array Value) : Below B a (w.setRow b cs) :=
  ⟨h.os, h.tape, h.output, by simpa [World.setRow] using h.size, fun k hk => (setRow_other w b k cs (by omega)).trans (h.block k hk)⟩
theorem setRow_new (w : World) (L M : List Value) (t : TypeId) : (w.alloc (.cells L.toArray t)).setRow w.heap.size M.toArray = w.alloc (.cells M.toArray t) := by
  have e : ∀ (h1 h2 : Array Obj), h1 = h2 → ({ w with heap := h1 } : World) = { w with heap := h2 } := fun _ _ h => by rw [h]
  refine e _ _ ?_
  apply Array.ext_getElem?
  intro k
  show ((w.heap.push _).modify _ _)[k]? = (w.heap.push _)[k]?
  simp only [Array.getElem?_modify, Array.getElem?_push]
  by_cases hk : k = w.heap.size
  · subst hk; simp
  · simp [hk, Ne.symm hk]
/-- boxes of one's own, that stay. -/
structure Fm (W : World) (l : List (Nat × Obj)) (w : World) : Prop where
  has : ∀ (i b : Nat) (o : Obj), l[i]? = some (b, o) → w.heap[b]? = some o
  own : ∀ p ∈ l, W.heap.size ≤ p.1
  nd : (l.map Prod.fst).Nodup
  bel : Below W.heap.size W w
theorem Fm.start (W : World) : Fm W [] W := ⟨fun _ _ _ h => by simp at h, fun _ h => by simp at h, by simp, Below.refl _ _⟩
theorem Fm.get {W w : World} {l : List (Nat × Obj)} (h : Fm W l w) (i : Nat) {b : Nat} {o : Obj} (e : l[i]? = some (b, o)) : w.heap[b]? = some o := h.has i b o e
theorem Fm.drew {W w : World} {l : List (Nat × Obj)} (h : Fm W l w) : Fm W l w.drew := ⟨h.has, h.own, h.nd, h.bel.drew⟩
theorem Fm.blk {W w w' : World} {l : List (Nat × Obj)} (h : Fm W l w) (hb : Below w.heap.size w w') : Fm W l w' :=
  ⟨fun i b o e => (hb.block _ (box_lt (h.has i b o e))).trans (h.has i b o e), h.own, h.nd, bthen h.bel hb⟩
theorem Fm.alloc {W w : World} {l : List (Nat × Obj)} (h : Fm W l w) (o : Obj) : Fm W l (w.alloc o) := h.blk ((Below.refl _ _).alloc (Nat.le_refl _) _)
theorem Fm.new {W w : World} {l : List (Nat × Obj)} (h : Fm W l w) (o : Obj) : Fm W ((w.heap.size, o) :: l) (w.alloc o) where
  has := fun i b o' e => by
    cases i with
    | zero =>
      simp only [List.getElem?_cons_zero, Option.some.injEq, Prod.mk.injEq] at e
      obtain ⟨rfl, rfl⟩ := e
      exact heap_new _ _
    | succ i => exact (h.alloc o).has i b o' (by simpa using e)
  own := fun p hp => by
    rcases List.mem_cons.1 hp with rfl | hp
    · exact h.bel.size
    · exact h.own p hp
  nd := by
    rw [List.map_cons, List.nodup_cons]
    refine ⟨fun hm => ?_, h.nd⟩
    obtain ⟨p, hp, e⟩ := List.mem_map.1 hm
    obtain ⟨i, hi⟩ := List.getElem?_of_mem hp
    have := box_lt (h.has i p.1 p.2 hi)
    omega
  bel := (h.alloc o).bel
theorem Fm.old {W w : World} {l : List (Nat × Obj)} (h : Fm W l w) {b : Nat} {o : Obj} (e : W.heap[b]? = some o) : w.heap[b]? = some o := (h.bel.block _ (box_lt e)).trans e
theorem Fm.lt {W w : World} {l : List (Nat × Obj)} (h : Fm W l w) (i : Nat) {b : Nat} {o : Obj} (e : l[i]? = some (b, o)) : b < w.heap.size := box_lt (h.get i e)
theorem Fm.put {W w : World} {l : List (Nat × Obj)} (h : Fm W l w) (i : Nat) {b : Nat} {L : Array Value} {t : TypeId} (x : Array Value) (e : l[i]? = some (b, .cells L t (0, 0))) : Fm W (l.set i (b, .cells x t (0, 0))) (w.setRow b x) where
  has := fun j b' o' e' => by
    by_cases hij : i = j
    · subst hij
      have hl : i < l.length := (List.getElem?_eq_some_iff.1 e).1
      rw [List.getElem?_set_self hl] at e'
      simp only [Option.some.injEq, Prod.mk.injEq] at e'
      obtain ⟨rfl, rfl⟩ := e'
      exact setRow_heap _ _ _ _ _ _ (h.get i e)
    · rw [List.getElem?_set_ne hij] at e'
      have hne : b ≠ b' := by
        intro hb
        have h1 : (l.map Prod.fst)[i]? = some b := by rw [List.getElem?_map, e]; rfl
        have h2 : (l.map Prod.fst)[j]? = some b := by rw [List.getElem?_map, e', hb]; rfl
        obtain ⟨l1, g1⟩ := List.getElem?_eq_some_iff.1 h1
        obtain ⟨l2, g2⟩ := List.getElem?_eq_some_iff.1 h2
        rcases Nat.lt_or_gt_of_ne hij with hh | hh
        · exact List.pairwise_iff_getElem.1 h.nd i j l1 l2 hh (g1.trans g2.symm)
        · exact List.pairwise_iff_getElem.1 h.nd j i l2 l1 hh (g2.trans g1.symm)
      exact (setRow_other _ _ _ _ (Ne.symm hne)).trans (h.get j e')
  own := fun p hp => by
    rcases List.mem_or_eq_of_mem_set hp with hp | rfl
    · exact h.own p hp
    · exact h.own (b, .cells L t (0, 0)) (List.mem_of_getElem? e)
  nd := by
    have : (l.set i (b, Obj.cells x t (0, 0))).map Prod.fst = l.map Prod.fst := by
      rw [List.map_set]
      have h1 : (l.map Prod.fst)[i]? = some b := by rw [List.getElem?_map, e]; rfl
      obtain ⟨l1, g1⟩ := List.getElem?_eq_some_iff.1 h1
      rw [← g1, List.set_getElem_self]
    rw [this]
    exact h.nd
  bel := below_row h.bel (h.own _ (List.mem_of_getElem? e)) _
theorem Fm.box1 (W : World) (o1 : Obj) : Fm W [(W.heap.size, o1)] (W.alloc o1) := (Fm.start W).new o1
theorem Fm.box2 (W : World) (o1 o2 : Obj) : Fm W [(W.heap.size + 1, o2), (W.heap.size, o1)] ((W.alloc o1).alloc o2) := by
  have h := (Fm.box1 W o1).new o2
  rwa [show (W.alloc o1).heap.size = W.heap.size + 1 by simp] at h
theorem Fm.box3 (W : World) (o1 o2 o3 : Obj) : Fm W [(W.heap.size + 2, o3), (W.heap.size + 1, o2), (W.heap.size, o1)] (((W.alloc o1).alloc o2).alloc o3) := by
  have h := (Fm.box2 W o1 o2).new o3
  rwa [show ((W.alloc o1).alloc o2).heap.size = W.heap.size + 2 by simp] at h
theorem Fm.box4 (W : World) (o1 o2 o3 o4 : Obj) : Fm W [(W.heap.size + 3, o4), (W.heap.size + 2, o3), (W.heap.size + 1, o2), (W.heap.size, o1)] ((((W.alloc o1).alloc o2).alloc o3).alloc o4) := by
  have h := (Fm.box3 W o1 o2 o3).new o4
  rwa [show (((W.alloc o1).alloc o2).alloc o3).heap.size = W.heap.size + 3 by simp] at h
/-- a box that was made ahead of calls, and is stored into behind them. -/
theorem Fm.late {W V w : World} {l : List (Nat × Obj)} (hV : Fm W l V) (h : Fm W l w) {A x : Array Value} {t : TypeId} (e : w.heap[V.heap.size]? = some (.cells A t (0, 0))) : Fm W ((V.heap.size, .cells x t (0, 0)) :: l) (w.setRow V.heap.size x) where
  has := fun i b o e' => by
    cases i with
    | zero =>
      simp only [List.getElem?_cons_zero, Option.some.injEq, Prod.mk.injEq] at e'
      obtain ⟨rfl, rfl⟩ := e'
      exact setRow_heap _ _ _ _ _ _ e
    | succ i =>
      have e'' : l[i]? = some (b, o) := by simpa using e'
      have := hV.lt i e''
      exact (setRow_other _ _ _ _ (by omega)).trans (h.get i e'')
  own := fun p hp => by
    rcases List.mem_cons.1 hp with rfl | hp
    · exact hV.bel.size
    · exact h.own p hp
  nd := (hV.new (.cells A t (0, 0))).nd
  bel := below_row h.bel hV.bel.size _
theorem Fm.swap {W w : World} {x y : Nat × Obj} {l : List (Nat × Obj)} (h : Fm W (x :: y :: l) w) : Fm W (y :: x :: l) w where
  has := fun i b o e => by
    match i, e with
    | 0, e => exact h.has 1 b o (by simpa using e)
    | 1, e => exact h.has 0 b o (by simpa using e)
    | i + 2, e => exact h.has (i + 2) b o (by simpa using e)
  own := fun p hp => h.own p (by simp only [List.mem_cons] at hp ⊢; rcases hp with h | h | h <;> simp [h])
  nd := by
    have := h.nd
    simp only [List.map_cons, List.nodup_cons, List.mem_cons, not_or] at this ⊢
    exact ⟨⟨fun e => this.1.1 e.symm, this.2.1⟩, this.1.2, this.2.2⟩
  bel := h.bel
theorem Fm.setO {W V w : World} {l : List (Nat × Obj)} (hV : Fm W l V) (h : Fm W l w) (x : Array Value) : Fm W l (w.setRow V.heap.size x) where
  has := fun i b o e => by
    have := hV.lt i e
    exact (setRow_other _ _ _ _ (by omega)).trans (h.get i e)
  own := h.own
  nd := h.nd
  bel := below_row h.bel hV.bel.size _
def lkStore (a x : Value) : Sem Unit := Instr.storeAt 95 a x
theorem storeAt_lk (a x : Value) : Instr.storeAt 95 a x = lkStore a x := rfl
def lkLoad (a : Value) : Sem Value := Instr.loadAt 95 a
theorem loadAt_lk (a : Value) : Instr.loadAt 95 a = lkLoad a := rfl
theorem sizeLk : (Tryz.prog.info? 95).map (·.size) = some 3 := by kernel_rfl
theorem lkStore_run {W : World} {b : Nat} {x y z x' y' z' : Value} (h : W.heap[b]? = some (.cells #[x, y, z] 95 (0, 0))) (h1 : x'.oneCell' = true) (h2 : y'.oneCell' = true) (h3 : z'.oneCell' = true) : (lkStore (.pointer (some ⟨b, 0, none⟩)) (.agg #[x', y', z'])).run Tryz.prog W = .ok () (W.setRow b #[x', y', z']) := by
  unfold lkStore
  simp only [Instr.storeAt, Instr.sureAddr, Sem.run_bind, Sem.run_pure, Result.andThen]
  exact run_storeVar_row W b _ _ _ _ h sizeLk rfl (by simp [h1, h2, h3])
theorem lk_loadV {W : World} {b : Nat} {x y z : Value} (h : W.heap[b]? = some (.cells #[x, y, z] 95 (0, 0))) : (loadVar 95 ⟨b, 0, none⟩).run Tryz.prog W = .ok (.agg #[x, y, z]) W :=
  run_loadVar_row W b _ _ _ (0, 0) _ h Tryz.underlying95 rfl sizeLk
theorem lkLoad_run {W : World} {b : Nat} {x y z : Value} (h : W.heap[b]? = some (.cells #[x, y, z] 95 (0, 0))) : (lkLoad (.pointer (some ⟨b, 0, none⟩))).run Tryz.prog W = .ok (.agg #[x, y, z]) W := by
  unfold lkLoad
  simp only [Instr.loadAt, Instr.sureAddr, Sem.run_bind, Sem.run_pure, Result.andThen]
  exact lk_loadV h
theorem results_lk_tmp {fn : Func} {p u : Tmp} (h : fn.results = #[.cell p 95, .tmp u]) {tmps : Array Value} {W : World} {b : Nat} {x y z v : Value} (hp : tmps.getD p undef = .pointer (some ⟨b, 0, none⟩)) (hv : tmps.getD u undef = v) (hb : W.heap[b]? = some (.cells #[x, y, z] 95 (0, 0))) : (results fn tmps).run Tryz.prog W = .ok (.tuple #[.agg #[x, y, z], v]) W := by
  have hp' : tmps[p]?.getD undef = .pointer (some ⟨b, 0, none⟩) := by simpa using hp
  have hv' : tmps[u]?.getD undef = v := by simpa using hv
  simp only [results, h]
  simp [hp', hv', asAddr, lk_loadV hb]
theorem results_lk {fn : Func} {p : Tmp} (h : fn.results = #[.cell p 95]) {tmps : Array Value} {W : World} {b : Nat} {x y z : Value} (hp : tmps.getD p undef = .pointer (some ⟨b, 0, none⟩)) (hb : W.heap[b]? = some (.cells #[x, y, z] 95 (0, 0))) : (results fn tmps).run Tryz.prog W = .ok (.agg #[x, y, z]) W := by
  have hp' : tmps[p]?.getD undef = .pointer (some ⟨b, 0, none⟩) := by simpa using hp
  simp only [results, h]
  simp [hp', asAddr, lk_loadV hb]
attribute [local go_sem ↓] storeAt_lk loadAt_lk
theorem lkst1 (w : World) (x y z x' y' z' : Value) (h1 : x.oneCell' = true) (h2 : y.oneCell' = true) (h3 : z.oneCell' = true) : (lkStore (.pointer (some ⟨w.heap.size, 0, none⟩)) (.agg #[x, y, z])).run Tryz.prog (w.alloc (Obj.cells #[x', y', z'] 95 (0, 0))) = .ok () (w.alloc (Obj.cells #[x, y, z] 95 (0, 0))) := by
  rw [lkStore_run (heap_new _ _) h1 h2 h3]
  exact congrArg (Result.ok ()) (setRow_new w [x', y', z'] [x, y, z] 95)
/-- a link: its name, the next one, its types. -/
structure Lk where
  o : List (List UInt8)
  x : List (List UInt8)
  t : List Int
def Lk.Ok (k : Lk) : Prop := OkN k.o ∧ OkN k.x ∧ k.t.length ≤ 1000000
/-- its three cells. -/
def LkAt (W : World) (k : Lk) (a b c : Value) : Prop := a = .string (nm k.o) ∧ b = .string (nm k.x) ∧ IntsAt W c k.t
theorem LkAt.blk {W W' : World} {k : Lk} {a b c : Value} (h : LkAt W k a b c) (hb : Below W.heap.size W W') : LkAt W' k a b c := ⟨h.1, h.2.1, h.2.2.below hb⟩
theorem LkAt.one {W : World} {k : Lk} {a b c : Value} (h : LkAt W k a b c) : a.oneCell' = true ∧ b.oneCell' = true ∧ c.oneCell' = true := by
  obtain ⟨rfl, rfl, q, cc, rfl, _⟩ := h
  exact ⟨rfl, rfl, rfl⟩
end Go.Proofs.YtaiakpigljcjbaaGreatDoor

/- rrset.Right of a set of NSEC. -/
namespace Go.Proofs.YtaiakpigljcjbaaGreatDoor
set_option linter.unusedVariables false
set_option linter.unusedSimpArgs false
open Go.RowKit
attribute [local go_sem ↓] storeAt_lk loadAt_lk
def stLoad (a : Value) : Sem Value := Instr.loadAt 37 a
theorem loadAt_st (a : Value) : Instr.loadAt 37 a = stLoad a := rfl
def stStore (a x : Value) : Sem Unit := Instr.storeAt 37 a x
theorem storeAt_st (a x : Value) : Instr.storeAt 37 a x = stStore a x := rfl
theorem sizeSt : (Tryz.prog.info? 37).map (·.size) = some 6 := by kernel_rfl
theorem stLoad_run {W : World} {b : Nat} {x0 x1 x2 x3 x4 x5 : Value} (h : W.heap[b]? = some (.cells #[x0, x1, x2, x3, x4, x5] 37 (0, 0))) : (stLoad (.pointer (some ⟨b, 0, none⟩))).run Tryz.prog W = .ok (.agg #[x0, x1, x2, x3, x4, x5]) W := by
  unfold stLoad
  simp only [Instr.loadAt, Instr.sureAddr, Sem.run_bind, Sem.run_pure, Result.andThen]
  exact run_loadVar_row W b _ _ _ (0, 0) _ h Tryz.underlying37 rfl sizeSt
attribute [local go_sem ↓] loadAt_st storeAt_st
set_option maxRecDepth 100000 in
set_option maxHeartbeats 1000000 in
theorem ins1_in (v : Value) (W : World) : Calls Tryz.prog 209 #[v, .int .i64 0, .int .i64 1] W fun e w' => e = .returned (.tuple #[]) ∧ w' = W := by
  go_enter Tryz.func209, Tryz.ntmps209
  go_wp2_with fail
  go_loopw [6] (fun iv wr => iv = .int .i64 1 ∧ wr = W) (fun _ _ => 0)
  case atStart => exact ⟨by first | rfl | go_num, rfl⟩
  case round =>
    obtain ⟨rfl, rfl⟩ := hrel
    go_wp2
    exact bodyPost_end (results_none rfl _ _ _) rfl ⟨rfl, rfl⟩
set_option maxRecDepth 100000 in
set_option maxHeartbeats 1000000 in
theorem pdq1_in (v : Value) (k : Int) (W : World) : Calls Tryz.prog 189 #[v, .int .i64 0, .int .i64 1, .int .i64 k] W fun e w' => e = .returned (.tuple #[]) ∧ w' = W := by
  have HI := Hid.mk (ins1_in v)
  go_enter Tryz.func189, Tryz.ntmps189
  go_wp2_with fail
  go_loopw [1, 2] (fun av bv wr => av = .int .i64 0 ∧ bv = .int .i64 1 ∧ wr = W) (fun _ _ _ => 0)
  case atStart => exact ⟨rfl, rfl, rfl⟩
  case round =>
    obtain ⟨rfl, rfl, rfl⟩ := hrel
    go_wp2_with fail
    refine (HI.out _).mono ?_
    rintro e w1 ⟨rfl, rfl⟩
    go_wp2
    exact bodyPost_ret (results_none rfl _ _ _) rfl ⟨rfl, rfl⟩
set_option maxRecDepth 100000 in
set_option maxHeartbeats 1000000 in
theorem sort1_in (q : Option Addr) (c : Nat) (W : World) : Calls Tryz.prog 143 #[.slice q 1 c] W fun e w' => e = .returned (.tuple #[]) ∧ w' = W := by
  have HL := Hid.mk (Tryz.bits_Len 1 · (by omega) (by omega))
  have HP := Hid.mk fun k => pdq1_in (.slice q 1 c) k
  go_enter Tryz.func143, Tryz.ntmps143
  go_wp2_with fail
  refine (HL.out _).mono ?_
  rintro e w1 ⟨rfl, rfl⟩
  go_wp2_with fail
  refine (HP.out _ _).mono ?_
  rintro e w2 ⟨rfl, rfl⟩
  go_wp2
  exact bodyPost_end (results_none rfl _ _ _) rfl ⟨rfl, rfl⟩
set_option maxRecDepth 100000 in
set_option maxHeartbeats 1000000 in
theorem compact1_in (q : Option Addr) (c : Nat) (W : World) : Calls Tryz.prog 125 #[.slice q 1 c] W fun e w' => e = .returned (.slice q 1 c) ∧ w' = W := by
  go_enter Tryz.func125, Tryz.ntmps125
  go_wp2
  go_ret
  exact ⟨rfl, rfl⟩
set_option maxRecDepth 100000 in
set_option maxHeartbeats 1000000 in
theorem nothers_in (W : World) : Calls Tryz.prog 188 #[.int .i64 47] W fun e w' => e = .returned (.bool false) ∧ w' = W := by
  go_enter Tryz.func188, Tryz.ntmps188
  go_wp2
  go_ret
  exact ⟨rfl, rfl⟩
set_option maxRecDepth 100000 in
set_option maxHeartbeats 1000000 in
theorem lower47_in (d : ByteArray) (W : World) : Calls Tryz.prog 142 #[.int .i64 47, .string d] W fun e w' => e = .returned (.string d) ∧ w' = W := by
  have HI := Hid.mk nothers_in
  go_enter Tryz.func142, Tryz.ntmps142
  go_wp2_with fail
  refine (HI.out _).mono ?_
  rintro e w1 ⟨rfl, rfl⟩
  go_wp2
  go_ret
  exact ⟨rfl, rfl⟩
set_option maxRecDepth 100000 in
set_option maxHeartbeats 1000000 in
theorem fitsA_in (W : World) : Calls Tryz.prog 123 #[.int .i64 1, .int .i64 16] W fun e w' => e = .returned (.bool true) ∧ w' = W := by
  go_enter Tryz.func123, Tryz.ntmps123
  go_wp2
  go_ret
  exact ⟨rfl, rfl⟩
set_option maxRecDepth 100000 in
set_option maxHeartbeats 1000000 in
theorem fitsB_in (W : World) : Calls Tryz.prog 123 #[.int .i64 0, .int .i64 31] W fun e w' => e = .returned (.bool true) ∧ w' = W := by
  go_enter Tryz.func123, Tryz.ntmps123
  go_wp2
  go_ret
  exact ⟨rfl, rfl⟩
set_option maxRecDepth 100000 in
set_option maxHeartbeats 1000000 in
theorem makes_in (W : World) : Calls Tryz.prog 122 #[.int .i64 47] W fun e w' => e = .returned (.bool true) ∧ w' = W := by
  go_enter Tryz.func122, Tryz.ntmps122
  go_wp2
  go_ret
  exact ⟨rfl, rfl⟩
set_option maxRecDepth 100000 in
set_option maxHeartbeats 2000000 in
theorem rhead_in (s : ByteArray) (g cap : Nat) (W : World) (hs : Hid (∀ w, Calls Tryz.prog 11 #[.string s] w fun e w' => e = .returned (.bool true) ∧ Below w.heap.size w w')) : Calls Tryz.prog 106 #[.agg #[.string s, .int .i64 47, .int .i64 1, .int .i64 0, .slice (some ⟨g, 0, none⟩) 1 cap, .slice none 0 0]] W fun e w' => e = .returned (.bool true) ∧ Below W.heap.size W w' := by
  have HM := Hid.mk makes_in
  have HA := Hid.mk fitsA_in
  have HB := Hid.mk fitsB_in
  obtain ⟨V, hV, F⟩ : ∃ V, W.alloc (Obj.cells #[.string s, .int .i64 47, .int .i64 1, .int .i64 0, .slice (some ⟨g, 0, none⟩) 1 cap, .slice none 0 0] 37 (0, 0)) = V ∧ Fm W [(W.heap.size, Obj.cells #[.string s, .int .i64 47, .int .i64 1, .int .i64 0, .slice (some ⟨g, 0, none⟩) 1 cap, .slice none 0 0] 37 (0, 0))] V := ⟨_, rfl, Fm.box1 W _⟩
  have HCe : Hid (∀ w, Fm W [(W.heap.size, Obj.cells #[.string s, .int .i64 47, .int .i64 1, .int .i64 0, .slice (some ⟨g, 0, none⟩) 1 cap, .slice none 0 0] 37 (0, 0))] w → w.cell? ⟨W.heap.size, 0, none⟩ = some (.string s) ∧ w.cell? ⟨W.heap.size, 1, none⟩ = some (.int .i64 47) ∧ w.cell? ⟨W.heap.size, 2, none⟩ = some (.int .i64 1) ∧ w.cell? ⟨W.heap.size, 3, none⟩ = some (.int .i64 0) ∧ w.cell? ⟨W.heap.size, 4, none⟩ = some (.slice (some ⟨g, 0, none⟩) 1 cap) ∧ w.cell? ⟨W.heap.size, 5, none⟩ = some (.slice none 0 0)) := fun w h => ⟨(cells_at (h.get 0 rfl) rfl).1, (cells_at (h.get 0 rfl) rfl).1, (cells_at (h.get 0 rfl) rfl).1, (cells_at (h.get 0 rfl) rfl).1, (cells_at (h.get 0 rfl) rfl).1, (cells_at (h.get 0 rfl) rfl).1⟩
  obtain ⟨q0, q1, q2, q3, q4, q5⟩ := HCe.out _ F
  go_enter Tryz.func106, Tryz.ntmps106
  go_wp2_with fail
  refine (hs.out _).mono ?_
  rintro e w1 ⟨rfl, hb⟩
  replace F := F.blk hb
  clear hb hV q0 q1 q2 q3 q4 q5
  obtain ⟨q0, q1, q2, q3, q4, q5⟩ := HCe.out _ F
  go_wp2_with fail
  refine (HM.out _).mono ?_
  rintro e w2 ⟨rfl, rfl⟩
  go_wp2_with fail
  refine (HA.out _).mono ?_
  rintro e w3 ⟨rfl, rfl⟩
  go_wp2_with fail
  refine (HB.out _).mono ?_
  rintro e w4 ⟨rfl, rfl⟩
  go_wp2
  go_ret
  exact ⟨rfl, F.bel⟩
set_option maxRecDepth 100000 in
set_option maxHeartbeats 2000000 in
theorem rsigs_in (s : ByteArray) (g cap : Nat) (W : World) : Calls Tryz.prog 108 #[.agg #[.string s, .int .i64 47, .int .i64 1, .int .i64 0, .slice (some ⟨g, 0, none⟩) 1 cap, .slice none 0 0]] W fun e w' => e = .returned (.bool true) ∧ Below W.heap.size W w' := by
  obtain ⟨V, hV, F⟩ : ∃ V, W.alloc (Obj.cells #[.string s, .int .i64 47, .int .i64 1, .int .i64 0, .slice (some ⟨g, 0, none⟩) 1 cap, .slice none 0 0] 37 (0, 0)) = V ∧ Fm W [(W.heap.size, Obj.cells #[.string s, .int .i64 47, .int .i64 1, .int .i64 0, .slice (some ⟨g, 0, none⟩) 1 cap, .slice none 0 0] 37 (0, 0))] V := ⟨_, rfl, Fm.box1 W _⟩
  have HCe : Hid (∀ w, Fm W [(W.heap.size, Obj.cells #[.string s, .int .i64 47, .int .i64 1, .int .i64 0, .slice (some ⟨g, 0, none⟩) 1 cap, .slice none 0 0] 37 (0, 0))] w → w.cell? ⟨W.heap.size, 0, none⟩ = some (.string s) ∧ w.cell? ⟨W.heap.size, 1, none⟩ = some (.int .i64 47) ∧ w.cell? ⟨W.heap.size, 2, none⟩ = some (.int .i64 1) ∧ w.cell? ⟨W.heap.size, 3, none⟩ = some (.int .i64 0) ∧ w.cell? ⟨W.heap.size, 4, none⟩ = some (.slice (some ⟨g, 0, none⟩) 1 cap) ∧ w.cell? ⟨W.heap.size, 5, none⟩ = some (.slice none 0 0)) := fun w h => ⟨(cells_at (h.get 0 rfl) rfl).1, (cells_at (h.get 0 rfl) rfl).1, (cells_at (h.get 0 rfl) rfl).1, (cells_at (h.get 0 rfl) rfl).1, (cells_at (h.get 0 rfl) rfl).1, (cells_at (h.get 0 rfl) rfl).1⟩
  obtain ⟨q0, q1, q2, q3, q4, q5⟩ := HCe.out _ F
  go_enter Tryz.func108, Tryz.ntmps108
  go_wp2_with fail
  go_loopw [14] (fun iv wr => iv = .int .i64 0 ∧ Fm W [(W.heap.size, Obj.cells #[.string s, .int .i64 47, .int .i64 1, .int .i64 0, .slice (some ⟨g, 0, none⟩) 1 cap, .slice none 0 0] 37 (0, 0))] wr) (fun _ _ => 0)
  case atStart => exact ⟨rfl, by first | exact F | (rw [hV]; exact F)⟩
  case round =>
    obtain ⟨rfl, Fr⟩ := hrel
    go_wp2
    go_ret
    exact ⟨rfl, Fr.bel⟩
set_option maxRecDepth 100000 in
set_option maxHeartbeats 2000000 in
theorem inord_in (d : ByteArray) (s : ByteArray) (g cap : Nat) (W : World) (hd : W.cell? ⟨g, 0, none⟩ = some (.string d)) (hg : g < W.heap.size) : Calls Tryz.prog 126 #[.agg #[.string s, .int .i64 47, .int .i64 1, .int .i64 0, .slice (some ⟨g, 0, none⟩) 1 cap, .slice none 0 0]] W fun e w' => (∃ q c, e = .returned (.slice q 1 c)) ∧ Below W.heap.size W w' := by
  have HL := Hid.mk (lower47_in d)
  have HS := Hid.mk sort1_in
  have HD := Hid.mk hd
  clear hd
  obtain ⟨V, hV, F⟩ : ∃ V, W.alloc (Obj.cells #[.string s, .int .i64 47, .int .i64 1, .int .i64 0, .slice (some ⟨g, 0, none⟩) 1 cap, .slice none 0 0] 37 (0, 0)) = V ∧ Fm W [(W.heap.size, Obj.cells #[.string s, .int .i64 47, .int .i64 1, .int .i64 0, .slice (some ⟨g, 0, none⟩) 1 cap, .slice none 0 0] 37 (0, 0))] V := ⟨_, rfl, Fm.box1 W _⟩
  have HCe : Hid (∀ w, Fm W [(W.heap.size, Obj.cells #[.string s, .int .i64 47, .int .i64 1, .int .i64 0, .slice (some ⟨g, 0, none⟩) 1 cap, .slice none 0 0] 37 (0, 0))] w → w.cell? ⟨W.heap.size, 0, none⟩ = some (.string s) ∧ w.cell? ⟨W.heap.size, 1, none⟩ = some (.int .i64 47) ∧ w.cell? ⟨W.heap.size, 2, none⟩ = some (.int .i64 1) ∧ w.cell? ⟨W.heap.size, 3, none⟩ = some (.int .i64 0) ∧ w.cell? ⟨W.heap.size, 4, none⟩ = some (.slice (some ⟨g, 0, none⟩) 1 cap) ∧ w.cell? ⟨W.heap.size, 5, none⟩ = some (.slice none 0 0)) := fun w h => ⟨(cells_at (h.get 0 rfl) rfl).1, (cells_at (h.get 0 rfl) rfl).1, (cells_at (h.get 0 rfl) rfl).1, (cells_at (h.get 0 rfl) rfl).1, (cells_at (h.get 0 rfl) rfl).1, (cells_at (h.get 0 rfl) rfl).1⟩
  obtain ⟨q0, q1, q2, q3, q4, q5⟩ := HCe.out _ F
  obtain ⟨i0, hi, hz0, hz1, hz2⟩ := info_parts info9
  go_enter Tryz.func126, Tryz.ntmps126
  go_wp2_with fail
  go_loopw [3, 9] (fun lv iv wr => ((iv = .int .i64 0 ∧ lv = .slice none 0 0) ∨ (iv = .int .i64 1 ∧ ∃ q c, lv = .slice q 1 c)) ∧ Fm W [(W.heap.size, Obj.cells #[.string s, .int .i64 47, .int .i64 1, .int .i64 0, .slice (some ⟨g, 0, none⟩) 1 cap, .slice none 0 0] 37 (0, 0))] wr) (fun _ iv _ => 1 - (intOf iv).toNat)
  case atStart => exact ⟨.inl ⟨rfl, rfl⟩, by first | exact F | (rw [hV]; exact F)⟩
  case round =>
    obtain ⟨hh, Fr⟩ := hrel
    clear q0 q1 q2 q3 q4 q5 F hV
    rcases hh with ⟨rfl, rfl⟩ | ⟨rfl, q, c, rfl⟩
    · obtain ⟨q0, q1, q2, q3, q4, q5⟩ := HCe.out _ Fr
      have kd : wr.cell? ⟨g, 0, none⟩ = some (.string d) := (Fr.bel.cell (p := ⟨g, 0, none⟩) hg).trans HD.out
      go_wp2_with fail
      refine (HL.out _).mono ?_
      rintro e w1 ⟨rfl, rfl⟩
      have hrow : w1.ownsRow W.heap.size 9 1 (.slice none 0 0) 0 [] := World.ownsRow_nil w1 W.heap.size _ _
      go_wp2_with (at_builtin; refine wpList_append_own _ rfl _ _ 35 rfl W.heap.size 9 i0 (.string ⟨#[]⟩) 1 16 Tryz.underlying35 hi hz0 hz1 hz2 rfl (by decide) _ _ _ rfl (hrow.alloc _) ⟨w1.heap.size, 0, none⟩ 1 1 [.string d] rfl rfl (cell_one_new _ _ _) (by simp [Value.oneCell']) (by unfold maxLen; omega) (by omega) (by have := Fr.bel.size; simp; omega) ?_; intro v1 w3 hown3 hgrow3 _)
      have hB3 : Below w1.heap.size w1 w3 := ((Below.refl w1.heap.size w1).alloc (Nat.le_refl _) _).grown hgrow3 (by simp) (fun j ej => by have ej' : (none : Option Nat) = some j := ej; cases ej')
      obtain ⟨q, c, hv1⟩ := row_as hown3
      have F3 := Fr.blk hB3
      subst hv1
      clear hgrow3 hown3 hB3 hrow
      go_roundw
      case rel => exact ⟨.inr ⟨by first | rfl | go_num, _, _, rfl⟩, F3⟩
      case measure => simp [intOf]
    · go_wp2_with fail
      refine (HS.out _ _ _).mono ?_
      rintro e w1 ⟨rfl, rfl⟩
      go_wp2
      go_ret
      exact ⟨⟨q, c, rfl⟩, Fr.bel⟩
set_option maxRecDepth 100000 in
set_option maxHeartbeats 2000000 in
theorem rdata_in (d : ByteArray) (s : ByteArray) (g cap : Nat) (W : World) (hd : W.cell? ⟨g, 0, none⟩ = some (.string d)) (hg : g < W.heap.size) (hr : Hid (∀ w, Calls Tryz.prog 124 #[.int .i64 47, .string d] w fun e w' => e = .returned (.bool true) ∧ Below w.heap.size w w')) : Calls Tryz.prog 107 #[.agg #[.string s, .int .i64 47, .int .i64 1, .int .i64 0, .slice (some ⟨g, 0, none⟩) 1 cap, .slice none 0 0]] W fun e w' => e = .returned (.bool true) ∧ Below W.heap.size W w' := by
  have HI : Hid (∀ w, Below W.heap.size W w → Calls Tryz.prog 126 #[.agg #[.string s, .int .i64 47, .int .i64 1, .int .i64 0, .slice (some ⟨g, 0, none⟩) 1 cap, .slice none 0 0]] w fun e w' => (∃ q c, e = .returned (.slice q 1 c)) ∧ Below w.heap.size w w') := fun w hb => inord_in d s g cap w ((hb.cell (p := ⟨g, 0, none⟩) hg).trans hd) (Nat.lt_of_lt_of_le hg hb.size)
  have HCo := Hid.mk compact1_in
  have HD := Hid.mk hd
  clear hd
  obtain ⟨V, hV, F⟩ : ∃ V, W.alloc (Obj.cells #[.string s, .int .i64 47, .int .i64 1, .int .i64 0, .slice (some ⟨g, 0, none⟩) 1 cap, .slice none 0 0] 37 (0, 0)) = V ∧ Fm W [(W.heap.size, Obj.cells #[.string s, .int .i64 47, .int .i64 1, .int .i64 0, .slice (some ⟨g, 0, none⟩) 1 cap, .slice none 0 0] 37 (0, 0))] V := ⟨_, rfl, Fm.box1 W _⟩
  have HCe : Hid (∀ w, Fm W [(W.heap.size, Obj.cells #[.string s, .int .i64 47, .int .i64 1, .int .i64 0, .slice (some ⟨g, 0, none⟩) 1 cap, .slice none 0 0] 37 (0, 0))] w → w.cell? ⟨W.heap.size, 0, none⟩ = some (.string s) ∧ w.cell? ⟨W.heap.size, 1, none⟩ = some (.int .i64 47) ∧ w.cell? ⟨W.heap.size, 2, none⟩ = some (.int .i64 1) ∧ w.cell? ⟨W.heap.size, 3, none⟩ = some (.int .i64 0) ∧ w.cell? ⟨W.heap.size, 4, none⟩ = some (.slice (some ⟨g, 0, none⟩) 1 cap) ∧ w.cell? ⟨W.heap.size, 5, none⟩ = some (.slice none 0 0)) := fun w h => ⟨(cells_at (h.get 0 rfl) rfl).1, (cells_at (h.get 0 rfl) rfl).1, (cells_at (h.get 0 rfl) rfl).1, (cells_at (h.get 0 rfl) rfl).1, (cells_at (h.get 0 rfl) rfl).1, (cells_at (h.get 0 rfl) rfl).1⟩
  obtain ⟨q0, q1, q2, q3, q4, q5⟩ := HCe.out _ F
  go_enter Tryz.func107, Tryz.ntmps107
  go_wp2_with fail
  go_loopw [18] (fun iv wr => (iv = .int .i64 0 ∨ iv = .int .i64 1) ∧ Fm W [(W.heap.size, Obj.cells #[.string s, .int .i64 47, .int .i64 1, .int .i64 0, .slice (some ⟨g, 0, none⟩) 1 cap, .slice none 0 0] 37 (0, 0))] wr) (fun iv _ => 1 - (intOf iv).toNat)
  case atStart => exact ⟨.inl rfl, by first | exact F | (rw [hV]; exact F)⟩
  case round =>
    obtain ⟨hh, Fr⟩ := hrel
    clear q0 q1 q2 q3 q4 q5 F hV
    obtain ⟨q0, q1, q2, q3, q4, q5⟩ := HCe.out _ Fr
    rcases hh with rfl | rfl
    · have kd : wr.cell? ⟨g, 0, none⟩ = some (.string d) := (Fr.bel.cell (p := ⟨g, 0, none⟩) hg).trans HD.out
      go_wp2_with fail
      refine (hr.out _).mono ?_
      rintro e w1 ⟨rfl, hb⟩
      replace Fr := Fr.blk hb
      clear hb kd q0 q1 q2 q3 q4 q5
      go_wp2
      go_roundw
      case rel => exact ⟨.inr (by first | rfl | go_num), Fr⟩
      case measure => simp [intOf]
    · have HS2 : Hid (∀ w, Fm W [(W.heap.size, Obj.cells #[.string s, .int .i64 47, .int .i64 1, .int .i64 0, .slice (some ⟨g, 0, none⟩) 1 cap, .slice none 0 0] 37 (0, 0))] w → Fm W [(W.heap.size, Obj.cells #[.string s, .int .i64 47, .int .i64 1, .int .i64 0, .slice (some ⟨g, 0, none⟩) 1 cap, .slice none 0 0] 37 (0, 0))] w ∧ (stLoad (.pointer (some ⟨W.heap.size, 0, none⟩))).run Tryz.prog w = .ok (.agg #[.string s, .int .i64 47, .int .i64 1, .int .i64 0, .slice (some ⟨g, 0, none⟩) 1 cap, .slice none 0 0]) w ∧ w.cell? ⟨W.heap.size, 4, none⟩ = some (.slice (some ⟨g, 0, none⟩) 1 cap)) := fun w h => ⟨h, stLoad_run (h.get 0 rfl), (cells_at (h.get 0 rfl) rfl).1⟩
      go_upto_region 9 with fail
      have hS0 := HS2.out _ Fr
      clear q0 q1 q2 q3 q4 q5
      have Fd := Fr.drew
      go_region_held3 (fun w => Fm W [(W.heap.size, Obj.cells #[.string s, .int .i64 47, .int .i64 1, .int .i64 0, .slice (some ⟨g, 0, none⟩) 1 cap, .slice none 0 0] 37 (0, 0))] w ∧ (stLoad (.pointer (some ⟨W.heap.size, 0, none⟩))).run Tryz.prog w = .ok (.agg #[.string s, .int .i64 47, .int .i64 1, .int .i64 0, .slice (some ⟨g, 0, none⟩) 1 cap, .slice none 0 0]) w ∧ w.cell? ⟨W.heap.size, 4, none⟩ = some (.slice (some ⟨g, 0, none⟩) 1 cap))
        (first | assumption | (apply HS2.out; first | assumption | (apply Fm.drew; assumption)))
        (first
          | (go_at_call 126; with_reducible refine (HI.out _ (Fm.bel (by first | assumption | (apply Fm.drew; assumption)))).mono ?_; rintro e w2 ⟨⟨q2, c2, rfl⟩, hb2⟩; have F2 := Fm.blk (by first | assumption | (apply Fm.drew; assumption)) hb2; have hs2 := HS2.out _ F2)
          | (go_at_call 125; with_reducible refine (HCo.out _ _ _).mono ?_; rintro e w3 ⟨rfl, rfl⟩))
      go_wp2
      go_ret
      exact ⟨rfl, F2.bel⟩
set_option maxRecDepth 100000 in
set_option maxHeartbeats 2000000 in
theorem rright_in (d : ByteArray) (s : ByteArray) (g cap : Nat) (W : World) (hd : W.cell? ⟨g, 0, none⟩ = some (.string d)) (hg : g < W.heap.size) (hs : Hid (∀ w, Calls Tryz.prog 11 #[.string s] w fun e w' => e = .returned (.bool true) ∧ Below w.heap.size w w')) (hr : Hid (∀ w, Calls Tryz.prog 124 #[.int .i64 47, .string d] w fun e w' => e = .returned (.bool true) ∧ Below w.heap.size w w')) : Calls Tryz.prog 89 #[.agg #[.string s, .int .i64 47, .int .i64 1, .int .i64 0, .slice (some ⟨g, 0, none⟩) 1 cap, .slice none 0 0]] W fun e w' => e = .returned (.bool true) ∧ Below W.heap.size W w' := by
  have H1 : Hid (∀ w, Calls Tryz.prog 106 #[.agg #[.string s, .int .i64 47, .int .i64 1, .int .i64 0, .slice (some ⟨g, 0, none⟩) 1 cap, .slice none 0 0]] w fun e w' => e = .returned (.bool true) ∧ Below w.heap.size w w') := fun w => rhead_in s g cap w hs
  have H2 : Hid (∀ w, Below W.heap.size W w → Calls Tryz.prog 107 #[.agg #[.string s, .int .i64 47, .int .i64 1, .int .i64 0, .slice (some ⟨g, 0, none⟩) 1 cap, .slice none 0 0]] w fun e w' => e = .returned (.bool true) ∧ Below w.heap.size w w') := fun w hb => rdata_in d s g cap w ((hb.cell (p := ⟨g, 0, none⟩) hg).trans hd) (Nat.lt_of_lt_of_le hg hb.size) hr
  have H3 : Hid (∀ w, Calls Tryz.prog 108 #[.agg #[.string s, .int .i64 47, .int .i64 1, .int .i64 0, .slice (some ⟨g, 0, none⟩) 1 cap, .slice none 0 0]] w fun e w' => e = .returned (.bool true) ∧ Below w.heap.size w w') := fun w => rsigs_in s g cap w
  clear hd hs hr
  obtain ⟨V, hV, F⟩ : ∃ V, W.alloc (Obj.cells #[.string s, .int .i64 47, .int .i64 1, .int .i64 0, .slice (some ⟨g, 0, none⟩) 1 cap, .slice none 0 0] 37 (0, 0)) = V ∧ Fm W [(W.heap.size, Obj.cells #[.string s, .int .i64 47, .int .i64 1, .int .i64 0, .slice (some ⟨g, 0, none⟩) 1 cap, .slice none 0 0] 37 (0, 0))] V := ⟨_, rfl, Fm.box1 W _⟩
  have l1 := stLoad_run (F.get 0 rfl)
  go_enter Tryz.func89, Tryz.ntmps89
  go_wp2_with fail
  refine (H1.out _).mono ?_
  rintro e w1 ⟨rfl, hb⟩
  replace F := F.blk hb
  clear hb l1 hV
  have l1 := stLoad_run (F.get 0 rfl)
  go_wp2_with fail
  refine (H2.out _ F.bel).mono ?_
  rintro e w2 ⟨rfl, hb⟩
  replace F := F.blk hb
  clear hb l1
  have l1 := stLoad_run (F.get 0 rfl)
  go_wp2_with fail
  refine (H3.out _).mono ?_
  rintro e w3 ⟨rfl, hb⟩
  replace F := F.blk hb
  clear hb l1
  have l1 := stLoad_run (F.get 0 rfl)
  go_wp2
  go_ret
  exact ⟨rfl, F.bel⟩
end Go.Proofs.YtaiakpigljcjbaaGreatDoor

/- A link: covers, encloser, noType. -/
namespace Go.Proofs.YtaiakpigljcjbaaGreatDoor
set_option linter.unusedVariables false
set_option linter.unusedSimpArgs false
open Go.RowKit
attribute [local go_sem ↓] storeAt_lk loadAt_lk
/-- does a link cover a name? -/
def covB (k : Lk) (n : List (List UInt8)) : Bool := btwB k.o n k.x && (!(delB k.t || hasB k.t 39) || !undB n k.o)
/-- the nearest name above that is there. -/
def encN (k : Lk) (n : List (List UInt8)) : List (List UInt8) := if (nm (comN n k.o)).size < (nm (comN n k.x)).size then comN n k.x else comN n k.o
set_option maxRecDepth 100000 in
set_option maxHeartbeats 2000000 in
theorem covers_gen (so sn sx : ByteArray) (q : Option Addr) (m cc : Nat) (B D H U : Bool) (W : World) (hB : Hid (∀ w, Calls Tryz.prog 10 #[.string so, .string sn, .string sx] w fun e w' => e = .returned (.bool B) ∧ Below w.heap.size w w')) (hD : Hid (∀ w, Below W.heap.size W w → Calls Tryz.prog 97 #[.slice q m cc] w fun e w' => e = .returned (.bool D) ∧ w' = w)) (hH : Hid (∀ w, Below W.heap.size W w → Calls Tryz.prog 98 #[.slice q m cc, .int .i64 39] w fun e w' => e = .returned (.bool H) ∧ w' = w)) (hU : Hid (∀ w, Calls Tryz.prog 28 #[.string sn, .string so] w fun e w' => e = .returned (.bool U) ∧ Below w.heap.size w w')) :
    Calls Tryz.prog 74 #[.agg #[.string so, .string sx, .slice q m cc], .string sn] W fun e w' => e = .returned (.bool (B && (!(D || H) || !U))) ∧ Below W.heap.size W w' := by
  obtain ⟨V, hV, F⟩ : ∃ V, W.alloc (Obj.cells #[.string so, .string sx, .slice q m cc] 95 (0, 0)) = V ∧ Fm W [(W.heap.size, Obj.cells #[.string so, .string sx, .slice q m cc] 95 (0, 0))] V := ⟨_, rfl, Fm.box1 W _⟩
  have HCe : Hid (∀ w, Fm W [(W.heap.size, Obj.cells #[.string so, .string sx, .slice q m cc] 95 (0, 0))] w → w.cell? ⟨W.heap.size, 0, none⟩ = some (.string so) ∧ w.cell? ⟨W.heap.size, 1, none⟩ = some (.string sx) ∧ w.cell? ⟨W.heap.size, 2, none⟩ = some (.slice q m cc)) := fun w h => ⟨(cells_at (h.get 0 rfl) rfl).1, (cells_at (h.get 0 rfl) rfl).1, (cells_at (h.get 0 rfl) rfl).1⟩
  obtain ⟨q0, q1, q2⟩ := HCe.out _ F
  go_enter Tryz.func74, Tryz.ntmps74
  go_wp2_with fail
  refine (hB.out _).mono ?_
  rintro e w1 ⟨rfl, hb⟩
  replace F := F.blk hb
  clear hb q0 q1 q2
  obtain ⟨q0, q1, q2⟩ := HCe.out _ F
  clear hV
  cases B with
  | false =>
    go_wp2
    go_ret
    exact ⟨rfl, F.bel⟩
  | true =>
    go_wp2_with fail
    refine (hD.out _ F.bel).mono ?_
    rintro e w2 ⟨rfl, rfl⟩
    cases D with
    | true =>
      go_wp2_with fail
      refine (hU.out _).mono ?_
      rintro e w3 ⟨rfl, hb⟩
      replace F := F.blk hb
      clear hb q0 q1 q2
      obtain ⟨q0, q1, q2⟩ := HCe.out _ F
      go_wp2
      go_ret
      exact ⟨by simp, F.bel⟩
    | false =>
      go_wp2_with fail
      refine (hH.out _ F.bel).mono ?_
      rintro e w3 ⟨rfl, rfl⟩
      cases H with
      | false =>
        go_wp2
        go_ret
        exact ⟨by simp, F.bel⟩
      | true =>
        go_wp2_with fail
        refine (hU.out _).mono ?_
        rintro e w4 ⟨rfl, hb⟩
        replace F := F.blk hb
        clear hb q0 q1 q2
        obtain ⟨q0, q1, q2⟩ := HCe.out _ F
        go_wp2
        go_ret
        exact ⟨by simp, F.bel⟩
theorem covers_in (k : Lk) (a b c : Value) (n : List (List UInt8)) (hk : k.Ok) (hn : OkN n) (W : World) (h : LkAt W k a b c) : Calls Tryz.prog 74 #[.agg #[a, b, c], .string (nm n)] W fun e w' => e = .returned (.bool (covB k n)) ∧ Below W.heap.size W w' := by
  obtain ⟨rfl, rfl, hc⟩ := h
  obtain ⟨q, cc, rfl, _⟩ := id hc
  exact covers_gen _ _ _ q _ cc _ _ _ _ W (Hid.mk (btw_yes k.o n k.x hk.1 hn hk.2.1)) (Hid.mk fun w hb => del_in w _ k.t hk.2.2 (hc.below hb)) (Hid.mk fun w hb => has_in w _ k.t 39 hk.2.2 (hc.below hb)) (Hid.mk (under_yes n k.o hn hk.1))
set_option maxRecDepth 100000 in
set_option maxHeartbeats 2000000 in
theorem encl_gen (so sn sx c1 c2 : ByteArray) (q : Option Addr) (m cc : Nat) (W : World) (h1 : Hid (∀ w, Calls Tryz.prog 94 #[.string sn, .string so] w fun e w' => e = .returned (.tuple #[.string c1, .int .i64 0]) ∧ Below w.heap.size w w')) (h2 : Hid (∀ w, Calls Tryz.prog 94 #[.string sn, .string sx] w fun e w' => e = .returned (.tuple #[.string c2, .int .i64 0]) ∧ Below w.heap.size w w')) :
    Calls Tryz.prog 70 #[.agg #[.string so, .string sx, .slice q m cc], .string sn] W fun e w' => e = .returned (.string (if c1.size < c2.size then c2 else c1)) ∧ Below W.heap.size W w' := by
  obtain ⟨V, hV, F⟩ : ∃ V, W.alloc (Obj.cells #[.string so, .string sx, .slice q m cc] 95 (0, 0)) = V ∧ Fm W [(W.heap.size, Obj.cells #[.string so, .string sx, .slice q m cc] 95 (0, 0))] V := ⟨_, rfl, Fm.box1 W _⟩
  have HCe : Hid (∀ w, Fm W [(W.heap.size, Obj.cells #[.string so, .string sx, .slice q m cc] 95 (0, 0))] w → w.cell? ⟨W.heap.size, 0, none⟩ = some (.string so) ∧ w.cell? ⟨W.heap.size, 1, none⟩ = some (.string sx) ∧ w.cell? ⟨W.heap.size, 2, none⟩ = some (.slice q m cc)) := fun w h => ⟨(cells_at (h.get 0 rfl) rfl).1, (cells_at (h.get 0 rfl) rfl).1, (cells_at (h.get 0 rfl) rfl).1⟩
  obtain ⟨q0, q1, q2⟩ := HCe.out _ F
  by_cases hlt : c1.size < c2.size
  · rw [if_pos hlt]
    have hd : decide ((c1.size : Int) < (c2.size : Int)) = true := decide_eq_true (by omega)
    go_enter Tryz.func70, Tryz.ntmps70
    go_wp2_with fail
    refine (h1.out _).mono ?_
    rintro e w1 ⟨rfl, hb⟩
    replace F := F.blk hb
    clear hb q0 q1 q2
    obtain ⟨q0, q1, q2⟩ := HCe.out _ F
    clear hV
    go_wp2_with fail
    refine (h2.out _).mono ?_
    rintro e w2 ⟨rfl, hb⟩
    replace F := F.blk hb
    clear hb q0 q1 q2
    obtain ⟨q0, q1, q2⟩ := HCe.out _ F
    go_wp2
    go_ret
    exact ⟨rfl, F.bel⟩
  · rw [if_neg hlt]
    have hd : decide ((c1.size : Int) < (c2.size : Int)) = false := decide_eq_false (by omega)
    go_enter Tryz.func70, Tryz.ntmps70
    go_wp2_with fail
    refine (h1.out _).mono ?_
    rintro e w1 ⟨rfl, hb⟩
    replace F := F.blk hb
    clear hb q0 q1 q2
    obtain ⟨q0, q1, q2⟩ := HCe.out _ F
    clear hV
    go_wp2_with fail
    refine (h2.out _).mono ?_
    rintro e w2 ⟨rfl, hb⟩
    replace F := F.blk hb
    clear hb q0 q1 q2
    obtain ⟨q0, q1, q2⟩ := HCe.out _ F
    go_wp2
    go_ret
    exact ⟨rfl, F.bel⟩
theorem encN_ok {k : Lk} {n : List (List UInt8)} (hn : OkN n) : OkN (encN k n) := by
  unfold encN
  split
  · exact ok_com hn
  · exact ok_com hn
theorem encl_in (k : Lk) (a b c : Value) (n : List (List UInt8)) (hk : k.Ok) (hn : OkN n) (W : World) (h : LkAt W k a b c) : Calls Tryz.prog 70 #[.agg #[a, b, c], .string (nm n)] W fun e w' => e = .returned (.string (nm (encN k n))) ∧ Below W.heap.size W w' := by
  obtain ⟨rfl, rfl, hc⟩ := h
  obtain ⟨q, cc, rfl, _⟩ := id hc
  have := encl_gen (nm k.o) (nm n) (nm k.x) _ _ q k.t.length cc W (Hid.mk (common_yes n k.o hn hk.1)) (Hid.mk (common_yes n k.x hn hk.2.1))
  rwa [show (if (nm (comN n k.o)).size < (nm (comN n k.x)).size then nm (comN n k.x) else nm (comN n k.o)) = nm (encN k n) by unfold encN; split <;> rfl] at this
set_option maxRecDepth 100000 in
set_option maxHeartbeats 2000000 in
theorem ntype_gen (so sx : ByteArray) (q : Option Addr) (m cc : Nat) (k : Int) (R D : Bool) (W : World) (hR : (so.toList == [0]) = R) (h1 : Hid (∀ w, Below W.heap.size W w → Calls Tryz.prog 95 #[.slice q m cc, .int .i64 k, .bool R] w fun e w' => e = .returned (.bool D) ∧ w' = w)) :
    Calls Tryz.prog 72 #[.agg #[.string so, .string sx, .slice q m cc], .int .i64 k] W fun e w' => e = .returned (.int .i64 (if D then 1 else 0)) ∧ Below W.heap.size W w' := by
  obtain ⟨V, hV, F⟩ : ∃ V, W.alloc (Obj.cells #[.string so, .string sx, .slice q m cc] 95 (0, 0)) = V ∧ Fm W [(W.heap.size, Obj.cells #[.string so, .string sx, .slice q m cc] 95 (0, 0))] V := ⟨_, rfl, Fm.box1 W _⟩
  have HCe : Hid (∀ w, Fm W [(W.heap.size, Obj.cells #[.string so, .string sx, .slice q m cc] 95 (0, 0))] w → w.cell? ⟨W.heap.size, 0, none⟩ = some (.string so) ∧ w.cell? ⟨W.heap.size, 1, none⟩ = some (.string sx) ∧ w.cell? ⟨W.heap.size, 2, none⟩ = some (.slice q m cc)) := fun w h => ⟨(cells_at (h.get 0 rfl) rfl).1, (cells_at (h.get 0 rfl) rfl).1, (cells_at (h.get 0 rfl) rfl).1⟩
  obtain ⟨q0, q1, q2⟩ := HCe.out _ F
  go_enter Tryz.func72, Tryz.ntmps72
  go_wp2_with fail
  refine (h1.out _ F.bel).mono ?_
  rintro e w1 ⟨rfl, rfl⟩
  cases D with
  | true =>
    go_wp2
    go_ret
    exact ⟨rfl, F.bel⟩
  | false =>
    go_wp2
    go_ret
    exact ⟨rfl, F.bel⟩
theorem ntype_in (k : Lk) (a b c : Value) (kind : Int) (hk : k.Ok) (W : World) (h : LkAt W k a b c) : Calls Tryz.prog 72 #[.agg #[a, b, c], .int .i64 kind] W fun e w' => e = .returned (.int .i64 (if lackB k.t kind ((nm k.o).toList == [0]) then 1 else 0)) ∧ Below W.heap.size W w' := by
  obtain ⟨rfl, rfl, hc⟩ := h
  obtain ⟨q, cc, rfl, _⟩ := id hc
  exact ntype_gen _ _ q _ cc kind _ _ W rfl (Hid.mk fun w hb => lack_in w _ k.t kind _ hk.2.2 (hc.below hb))
end Go.Proofs.YtaiakpigljcjbaaGreatDoor
