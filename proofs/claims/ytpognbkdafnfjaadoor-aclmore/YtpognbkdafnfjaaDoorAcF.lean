/- Layer 13: addresses, their bits, prefixes: facts alone. -/
import Derived.WalkKit
import Derived.WalkSpells
import Derived.WalkLawsBesides
import Derived.Below
import Derived.Laws.AppendOwn
import Derived.Test.YtpognbkdafnfjaaDoorRows
namespace Go.Proofs.YtpognbkdafnfjaaDoor
set_option linter.unusedVariables false

/-- an address: of V6, its upper and its lower word. -/
structure Ad where
  v6 : Bool
  hi : Nat
  lo : Nat
deriving DecidableEq
/-- its words are words. -/
def Ad.ok (a : Ad) : Prop := a.hi < 2 ^ 64 ∧ a.lo < 2 ^ 64
instance (a : Ad) : Decidable a.ok := inferInstanceAs (Decidable (_ ∧ _))
/-- it is an address. -/
def Ad.right (a : Ad) : Prop := a.v6 = true ∨ (a.hi = 0 ∧ a.lo < 2 ^ 32)
instance (a : Ad) : Decidable a.right := inferInstanceAs (Decidable (_ ∨ _))
def Ad.wd (a : Ad) : Nat := if a.v6 then 128 else 32
/-- as one number. -/
def Ad.num (a : Ad) : Nat := a.hi * 2 ^ 64 + a.lo
/-- its k-th bit, from the first one on. -/
def Ad.bt (a : Ad) (k : Nat) : Bool := a.num.testBit (a.wd - 1 - k)
def clr (n k : Nat) : Nat := n / 2 ^ k * 2 ^ k
/-- its first n bits alone. -/
def Ad.fst (a : Ad) (n : Nat) : Ad := ⟨a.v6, clr a.hi (a.wd - n - 64), clr a.lo (a.wd - n)⟩

theorem Ad.eta {a : Ad} {v : Bool} (h : a.v6 = v) : a = ⟨v, a.hi, a.lo⟩ := by subst h; rfl
theorem clr_zero (n : Nat) : clr n 0 = n := by simp [clr]
theorem clr_le (n k : Nat) : clr n k ≤ n := Nat.div_mul_le_self _ _
theorem clr_big {n k : Nat} (h : n < 2 ^ k) : clr n k = 0 := by simp [clr, Nat.div_eq_of_lt h]
theorem clr_div (n k : Nat) : clr n k / 2 ^ k = n / 2 ^ k := by
  unfold clr
  exact Nat.mul_div_cancel _ (Nat.two_pow_pos k)
theorem clr_eq {n m k : Nat} : clr n k = clr m k ↔ n / 2 ^ k = m / 2 ^ k := by
  constructor
  · intro h
    rw [← clr_div n k, h, clr_div]
  · intro h
    unfold clr
    rw [h]
theorem div_bits {n m k : Nat} : n / 2 ^ k = m / 2 ^ k ↔ ∀ i, k ≤ i → n.testBit i = m.testBit i := by
  constructor
  · intro h i hi
    have h1 : (n / 2 ^ k).testBit (i - k) = n.testBit (i - k + k) := Nat.testBit_div_two_pow ..
    have h2 : (m / 2 ^ k).testBit (i - k) = m.testBit (i - k + k) := Nat.testBit_div_two_pow ..
    rw [show i - k + k = i by omega] at h1 h2
    rw [← h1, ← h2, h]
  · intro h
    apply Nat.eq_of_testBit_eq
    intro i
    rw [Nat.testBit_div_two_pow, Nat.testBit_div_two_pow]
    exact h _ (by omega)
theorem clr_bits {n m k : Nat} : clr n k = clr m k ↔ ∀ i, k ≤ i → n.testBit i = m.testBit i := clr_eq.trans div_bits

theorem Ad.num_lt {a : Ad} (h : a.ok) : a.num < 2 ^ 128 := by
  obtain ⟨h1, h2⟩ := h
  unfold Ad.num
  omega
theorem Ad.num_wd {a : Ad} (h : a.ok) (hr : a.right) : a.num < 2 ^ a.wd := by
  unfold Ad.wd
  split
  · exact Ad.num_lt h
  · rcases hr with h' | ⟨h1, h2⟩
    · contradiction
    · unfold Ad.num
      omega
theorem Ad.fst_ok {a : Ad} (h : a.ok) (n : Nat) : (a.fst n).ok := ⟨Nat.lt_of_le_of_lt (clr_le _ _) h.1, Nat.lt_of_le_of_lt (clr_le _ _) h.2⟩
theorem Ad.fst_right {a : Ad} (h : a.right) (n : Nat) : (a.fst n).right := by
  unfold Ad.right at h ⊢
  simp only [Ad.fst]
  rcases h with h | ⟨h1, h2⟩
  · exact .inl h
  · refine .inr ⟨?_, Nat.lt_of_le_of_lt (clr_le a.lo (a.wd - n)) h2⟩
    have := clr_le a.hi (a.wd - n - 64)
    omega
theorem wd_v6 {a b : Ad} (h : a.v6 = b.v6) : a.wd = b.wd := by unfold Ad.wd; rw [h]
theorem Ad.fst_v6 (a : Ad) (n : Nat) : (a.fst n).v6 = a.v6 := by simp only [Ad.fst]
theorem Ad.fst_wd (a : Ad) (n : Nat) : (a.fst n).wd = a.wd := wd_v6 (Ad.fst_v6 a n)
theorem clr_word (W h l r : Nat) (hl : l < 2 ^ W) : clr h (r - W) * 2 ^ W + clr l r = clr (h * 2 ^ W + l) r := by
  by_cases hr : W ≤ r
  · obtain ⟨k, rfl⟩ : ∃ k, r = k + W := ⟨r - W, by omega⟩
    rw [Nat.add_sub_cancel]
    have h0 : clr l (k + W) = 0 := clr_big (Nat.lt_of_lt_of_le hl (Nat.pow_le_pow_right (by decide) (by omega)))
    rw [h0, Nat.add_zero]
    unfold clr
    rw [Nat.pow_add, Nat.mul_comm (2 ^ k) (2 ^ W), ← Nat.div_div_eq_div_mul, Nat.add_comm (h * 2 ^ W), Nat.add_mul_div_right _ _ (Nat.two_pow_pos W), Nat.div_eq_of_lt hl, Nat.zero_add]
    rw [Nat.mul_assoc, Nat.mul_comm (2 ^ k) (2 ^ W)]
  · rw [show r - W = 0 by omega, clr_zero]
    unfold clr
    obtain ⟨d, rfl⟩ : ∃ d, W = d + r := ⟨W - r, by omega⟩
    rw [Nat.pow_add, ← Nat.mul_assoc, Nat.add_comm (h * 2 ^ d * 2 ^ r) l, Nat.add_mul_div_right _ _ (Nat.two_pow_pos r), Nat.add_mul]
    exact Nat.add_comm _ _
theorem Ad.fst_num {a : Ad} (h : a.ok) (n : Nat) : (a.fst n).num = clr a.num (a.wd - n) := clr_word 64 a.hi a.lo (a.wd - n) h.2
theorem Ad.ext_num {a b : Ad} (ha : a.ok) (hb : b.ok) (hv : a.v6 = b.v6) (h : a.num = b.num) : a = b := by
  obtain ⟨v, x, y⟩ := a
  obtain ⟨v', x', y'⟩ := b
  obtain ⟨h1, h2⟩ := ha
  obtain ⟨h3, h4⟩ := hb
  simp only [Ad.num] at *
  subst hv
  obtain rfl : x = x' := by omega
  obtain rfl : y = y' := by omega
  rfl
/-- a right prefix: a's bits behind the first n are 0. -/
def okP (a : Ad) (n : Nat) : Prop := a.right ∧ n ≤ a.wd ∧ a.fst n = a
instance (a : Ad) (n : Nat) : Decidable (okP a n) := inferInstanceAs (Decidable (_ ∧ _))
def holds (p : Ad) (n : Nat) (a : Ad) : Prop := okP p n ∧ a.right ∧ p.v6 = a.v6 ∧ a.fst n = p
instance (p : Ad) (n : Nat) (a : Ad) : Decidable (holds p n a) := inferInstanceAs (Decidable (_ ∧ _))
theorem fst_bits {a b : Ad} (ha : a.ok) (hb : b.ok) (hra : a.right) (hrb : b.right) (hv : a.v6 = b.v6) {n : Nat} (hn : n ≤ a.wd) : a.fst n = b.fst n ↔ ∀ k, k < n → a.bt k = b.bt k := by
  have hw := wd_v6 hv
  have h1 : a.fst n = b.fst n ↔ clr a.num (a.wd - n) = clr b.num (a.wd - n) := by
    constructor
    · intro h
      rw [← Ad.fst_num ha, h, Ad.fst_num hb, hw]
    · intro h
      refine Ad.ext_num (Ad.fst_ok ha n) (Ad.fst_ok hb n) hv ?_
      rw [Ad.fst_num ha, Ad.fst_num hb, ← hw, h]
  rw [h1, clr_bits]
  constructor
  · intro h k hk
    unfold Ad.bt
    rw [← hw]
    exact h _ (by omega)
  · intro h i hi
    by_cases hlt : i < a.wd
    · have := h (a.wd - 1 - i) (by omega)
      unfold Ad.bt at this
      rw [← hw, show a.wd - 1 - (a.wd - 1 - i) = i by omega] at this
      exact this
    · have e1 := Nat.testBit_lt_two_pow (Nat.lt_of_lt_of_le (Ad.num_wd ha hra) (Nat.pow_le_pow_right (by decide) (show a.wd ≤ i by omega)))
      have e2 := Nat.testBit_lt_two_pow (Nat.lt_of_lt_of_le (Ad.num_wd hb hrb) (Nat.pow_le_pow_right (by decide) (show b.wd ≤ i by omega)))
      rw [e1, e2]
theorem fst_self {a : Ad} (ha : a.ok) (hr : a.right) {n : Nat} (hn : n ≤ a.wd) : a.fst n = a ↔ ∀ k, n ≤ k → k < a.wd → a.bt k = false := by
  have h1 : a.fst n = a ↔ clr a.num (a.wd - n) = a.num := by
    constructor
    · intro h
      rw [← Ad.fst_num ha, h]
    · intro h
      exact Ad.ext_num (Ad.fst_ok ha n) ha rfl (by rw [Ad.fst_num ha, h])
  rw [h1]
  constructor
  · intro h k hk hlt
    unfold Ad.bt
    rw [← h]
    unfold clr
    rw [Nat.testBit_mul_two_pow]
    simp only [Bool.and_eq_false_imp, decide_eq_true_eq]
    intro h'
    omega
  · intro h
    apply Nat.eq_of_testBit_eq
    intro i
    unfold clr
    rw [Nat.testBit_mul_two_pow, Nat.testBit_div_two_pow]
    by_cases hi : a.wd - n ≤ i
    · rw [show i - (a.wd - n) + (a.wd - n) = i by omega]
      simp [hi]
    · have := h (a.wd - 1 - i) (by omega) (by omega)
      unfold Ad.bt at this
      rw [show a.wd - 1 - (a.wd - 1 - i) = i by omega] at this
      simp [hi, this]
/-- the way of an address's first n bits. -/
def pth (a : Ad) (n : Nat) : List Bool := (List.range n).map a.bt
theorem pth_len (a : Ad) (n : Nat) : (pth a n).length = n := by simp [pth]
theorem pth_zero (a : Ad) : pth a 0 = [] := rfl
theorem pth_succ (a : Ad) (n : Nat) : pth a (n + 1) = pth a n ++ [a.bt n] := by simp [pth, List.range_succ]
theorem pth_eq {a b : Ad} {n : Nat} : pth a n = pth b n ↔ ∀ k, k < n → a.bt k = b.bt k := by
  unfold pth
  rw [List.map_inj_left]
  simp
theorem pth_inj {a b : Ad} {n m : Nat} (ha : a.ok) (hb : b.ok) (h1 : okP a n) (h2 : okP b m) (hv : a.v6 = b.v6) (h : pth a n = pth b m) : a = b ∧ n = m := by
  obtain rfl : n = m := by have := congrArg List.length h; rwa [pth_len, pth_len] at this
  refine ⟨?_, rfl⟩
  rw [← h1.2.2, ← h2.2.2]
  exact (fst_bits ha hb h1.1 h2.1 hv h1.2.1).2 (pth_eq.1 h)
theorem fst_fst (a : Ad) (n : Nat) : (a.fst n).fst n = a.fst n := by
  unfold Ad.fst
  simp only [Ad.wd]
  congr 1
  · exact clr_eq.2 (clr_div _ _)
  · exact clr_eq.2 (clr_div _ _)
theorem okP_fst {a : Ad} (hr : a.right) {n : Nat} (hn : n ≤ a.wd) : okP (a.fst n) n := ⟨Ad.fst_right hr n, hn, fst_fst a n⟩
theorem pth_fst {a : Ad} (ha : a.ok) (hr : a.right) {n : Nat} (hn : n ≤ a.wd) : pth (a.fst n) n = pth a n := by
  rw [pth_eq]
  exact (fst_bits (Ad.fst_ok ha n) ha (Ad.fst_right hr n) hr rfl hn).1 (fst_fst a n)
theorem holds_iff {p a : Ad} {n : Nat} (hp : p.ok) (ha : a.ok) : holds p n a ↔ okP p n ∧ a.right ∧ p.v6 = a.v6 ∧ pth p n = pth a n := by
  constructor
  · rintro ⟨h1, h2, h3, h4⟩
    refine ⟨h1, h2, h3, ?_⟩
    rw [← h4]
    exact pth_fst ha h2 (by rw [← wd_v6 h3]; exact h1.2.1)
  · rintro ⟨h1, h2, h3, h4⟩
    refine ⟨h1, h2, h3, ?_⟩
    rw [← h1.2.2]
    exact ((fst_bits hp ha h1.1 h2 h3 h1.2.1).2 (pth_eq.1 h4)).symm
end Go.Proofs.YtpognbkdafnfjaaDoor
