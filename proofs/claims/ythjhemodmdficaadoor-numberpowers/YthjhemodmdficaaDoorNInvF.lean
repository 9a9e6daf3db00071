/- Facts on Euclid's steps: what stands while a number's inverse is looked for. -/
import Derived.Test.YthjhemodmdficaaDoorNPow
namespace Go.Proofs.YthjhemodmdficaaDoor
set_option linter.unusedVariables false
open Go.RowKit
theorem mod_cancel {x y c M : Nat} (h : (x + c) % M = (y + c) % M) : x % M = y % M := by
  have h1 : ((x : Int) + (c : Int)) % (M : Int) = ((y : Int) + (c : Int)) % (M : Int) := by exact_mod_cast congrArg (Nat.cast : Nat → Int) h
  have h2 := (Int.emod_add_cancel_right (c : Int)).1 h1
  exact_mod_cast h2
/-- what stands ahead of a step: g and l are what is divided, f and n their factors without signs, b whether g's is below 0. -/
structure Euc (A M g l f n : Nat) (b : Bool) : Prop where
  gpos : 0 < g
  gcd : Nat.gcd g l = Nat.gcd M A
  tot : f * l + n * g = M
  less : l < g
  npos : 0 < n
  pos : b = true → (g + f * A) % M = 0 ∧ n * A % M = l % M
  neg : b = false → f * A % M = g % M ∧ (l + n * A) % M = 0
theorem euc_start (A M : Nat) (hM : M ≠ 0) : Euc A M M (A % M) 0 1 true where
  gpos := by omega
  gcd := by rw [Nat.gcd_comm M (A % M), ← Nat.gcd_rec]
  tot := by omega
  less := Nat.mod_lt _ (by omega)
  npos := by omega
  pos := fun _ => ⟨by simp, by simp⟩
  neg := fun h => by cases h
theorem euc_step (A M g l f n : Nat) (b : Bool) (h : Euc A M g l f n b) (hl : 0 < l) : Euc A M l (g % l) n (g / l * n + f) (!b) where
  gpos := hl
  gcd := by rw [← h.gcd, Nat.gcd_comm l (g % l), ← Nat.gcd_rec, Nat.gcd_comm]
  tot := by
    have e := Nat.div_add_mod g l
    have t := h.tot
    have : (g / l * n + f) * l = n * (l * (g / l)) + f * l := by
      rw [Nat.add_mul, Nat.mul_comm (g / l) n, Nat.mul_assoc, Nat.mul_comm (g / l) l]
    rw [this, ← Nat.add_assoc, ← Nat.mul_add, Nat.add_comm (g % l), e]
    omega
  less := Nat.mod_lt _ hl
  npos := by
    have h1 : 0 < g / l := Nat.div_pos (Nat.le_of_lt h.less) hl
    have h2 := Nat.mul_pos h1 h.npos
    omega
  pos := fun hb => by
    have hb' : b = false := by cases b <;> simp_all
    obtain ⟨p1, p2⟩ := h.neg hb'
    refine ⟨p2, ?_⟩
    have e := Nat.div_add_mod g l
    -- (q n + f) A ≡ g - q l
    generalize g / l = q at *
    generalize g % l = r at *
    have a1 : (q * n + f) * A + q * l = q * (l + n * A) + f * A := by
      rw [Nat.add_mul, Nat.mul_add, Nat.mul_assoc]; omega
    have a2 : (q * (l + n * A) + f * A) % M = g % M := by
      rw [Nat.add_mod, Nat.mul_mod, p2, Nat.mul_zero, Nat.zero_mod, Nat.zero_add, Nat.mod_mod, p1]
    rw [← a1, ← e, Nat.mul_comm l q, Nat.add_comm (q * l) r] at a2
    have a3 : ((q * n + f) * A + q * l) % M = (r + q * l) % M := a2
    exact mod_cancel a3
  neg := fun hb => by
    have hb' : b = true := by cases b <;> simp_all
    obtain ⟨p1, p2⟩ := h.pos hb'
    refine ⟨p2, ?_⟩
    have e := Nat.div_add_mod g l
    generalize g / l = q at *
    generalize g % l = r at *
    have a1 : r + (q * n + f) * A + q * l = (g + f * A) + q * (n * A) := by
      rw [Nat.add_mul, Nat.mul_assoc, ← e, Nat.mul_comm l q]; omega
    have a2 : ((g + f * A) + q * (n * A)) % M = (0 + q * l) % M := by
      rw [Nat.add_mod, p1, Nat.mul_mod, p2, ← Nat.mul_mod, Nat.zero_add, Nat.zero_add, Nat.mod_mod]
    rw [← a1] at a2
    have a3 := mod_cancel a2
    have a4 : (r + (q * n + f) * A) % M = 0 % M := a3
    rw [a4, Nat.zero_mod]
theorem Euc.le {A M g l f n : Nat} {b : Bool} (h : Euc A M g l f n b) : n ≤ M ∧ (0 < l → f ≤ M) := by
  have t := h.tot
  have g0 := h.gpos
  constructor
  · have : n * 1 ≤ n * g := Nat.mul_le_mul_left _ g0
    omega
  · intro hl
    have : f * 1 ≤ f * l := Nat.mul_le_mul_left _ hl
    omega
theorem Euc.gle {A M g l f n : Nat} {b : Bool} (h : Euc A M g l f n b) : g ≤ M ∧ l < M := by
  have t := h.tot
  have : 1 * g ≤ n * g := Nat.mul_le_mul_right _ h.npos
  have := h.less
  omega
theorem euc_more (A M g l f n : Nat) (b : Bool) (h : Euc A M g l f n b) (hl : 0 < l) : g / l * n + f ≤ M ∧ n ≤ M := ⟨(euc_step A M g l f n b h hl).le.1, h.le.1⟩
/-- the inverse, or that there is none. -/
def InvIs (A M I : Nat) (v : Int) : Prop := (v = 0 ∧ I < M ∧ A * I % M = 1 % M) ∨ (v = 13 ∧ I = 0 ∧ Nat.gcd M A ≠ 1)
theorem euc_none (A M g f n : Nat) (b : Bool) (h : Euc A M g 0 f n b) (h1 : g ≠ 1) : InvIs A M 0 13 := by
  refine Or.inr ⟨rfl, rfl, ?_⟩
  rw [← h.gcd, Nat.gcd_zero_right]
  exact h1
theorem euc_above (A M f n : Nat) (h : Euc A M 1 0 f n false) (hM : M ≠ 0) : InvIs A M (f % M) 0 := by
  obtain ⟨p1, p2⟩ := h.neg rfl
  refine Or.inl ⟨rfl, Nat.mod_lt _ (by omega), ?_⟩
  rw [Nat.mul_mod, Nat.mod_mod, ← Nat.mul_mod, Nat.mul_comm]
  exact p1
theorem euc_below (A M f n : Nat) (h : Euc A M 1 0 f n true) (hf : f ≤ M) (hM : M ≠ 0) : InvIs A M ((M - f) % M) 0 := by
  obtain ⟨p1, p2⟩ := h.pos rfl
  refine Or.inl ⟨rfl, Nat.mod_lt _ (by omega), ?_⟩
  rw [Nat.mul_mod, Nat.mod_mod, ← Nat.mul_mod, Nat.mul_comm]
  refine mod_cancel (c := f * A) ?_
  rw [← Nat.add_mul, Nat.sub_add_cancel hf, Nat.mul_comm, Nat.mul_mod_left, p1]
theorem inv_one {A M I : Nat} {v : Int} (h : InvIs A M I v) : ∀ {J : Nat} {u : Int}, InvIs A M J u → (v = u ∧ I = J) := by
  intro J u k
  have cop : ∀ K, A * K % M = 1 % M → Nat.gcd M A = 1 := fun K hK => by
    have d1 : Nat.gcd M A ∣ M := Nat.gcd_dvd_left _ _
    have d2 : Nat.gcd M A ∣ A * K := Nat.dvd_trans (Nat.gcd_dvd_right _ _) (Nat.dvd_mul_right _ _)
    have d3 : Nat.gcd M A ∣ A * K % M := (Nat.dvd_mod_iff d1).2 d2
    rw [hK] at d3
    have d4 := (Nat.dvd_mod_iff d1).1 d3
    exact Nat.dvd_one.1 d4
  rcases h with ⟨a1, a2, a3⟩ | ⟨a1, a2, a3⟩ <;> rcases k with ⟨b1, b2, b3⟩ | ⟨b1, b2, b3⟩
  · refine ⟨by rw [a1, b1], ?_⟩
    have e : ∀ x y, x < M → A * x % M = 1 % M → A * y % M = 1 % M → x = y % M := fun x y hx h1 h2 => by
      have q : x * (A * y) % M = y * (A * x) % M := by rw [Nat.mul_left_comm, Nat.mul_left_comm y, Nat.mul_comm x y]
      rw [Nat.mul_mod, h2, Nat.mul_mod y, h1, ← Nat.mul_mod, ← Nat.mul_mod, Nat.mul_one, Nat.mul_one, Nat.mod_eq_of_lt hx] at q
      exact q
    have := e I J a2 a3 b3
    rw [Nat.mod_eq_of_lt b2] at this
    exact this
  · exact absurd (cop I a3) b3
  · exact absurd (cop J b3) a3
  · exact ⟨by rw [a1, b1], by rw [a2, b2]⟩
end Go.Proofs.YthjhemodmdficaaDoor
