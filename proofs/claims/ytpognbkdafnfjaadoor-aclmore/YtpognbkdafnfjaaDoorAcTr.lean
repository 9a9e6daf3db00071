/- Layer 13: a tree of bits in memory: facts alone. -/
import Derived.Test.YtpognbkdafnfjaaDoorAcW
namespace Go.Proofs.YtpognbkdafnfjaaDoor
set_option linter.unusedVariables false
open Go.RowKit

abbrev Nd := Bool → List Bool → Option (Nat × Nat)
def pO : Option (Nat × Nat) → Value
  | none => .pointer none
  | some p => .pointer (some ⟨p.1, p.2, none⟩)
/-- what lies where: D tells where the node at the end of a way of bits lies, A the action there. -/
structure Tr (N : Nat) (w : World) (X : Nat) (D : Nd) (A : Bool → List Bool → Int) : Prop where
  root : ∀ v, D v [] = some (X, if v then 3 else 0)
  up : ∀ v q b, D v q = none → D v (q ++ [b]) = none
  old : ∀ v q p, D v q = some p → N ≤ p.1 ∧ p.1 < w.heap.size
  inj : ∀ v q p v' q' p' i i', D v q = some p → D v' q' = some p' → p.1 = p'.1 → i < 3 → i' < 3 → p.2 + i = p'.2 + i' → v = v' ∧ q = q'
  cel : ∀ v q p, D v q = some p → (∀ b : Bool, w.cell? ⟨p.1, p.2 + b.toNat, none⟩ = some (pO (D v (q ++ [b])))) ∧ w.cell? ⟨p.1, p.2 + 2, none⟩ = some (.int .i64 (A v q))
  fro : ∀ v q p i, D v q = some p → w.frozen? ⟨p.1, i, none⟩ = false
  zer : ∀ v q, D v q = none → A v q = 0
theorem Tr.blk {N : Nat} {w w' : World} {X : Nat} {D : Nd} {A : Bool → List Bool → Int} (h : Tr N w X D A) (hb : Below w.heap.size w w') : Tr N w' X D A where
  root := h.root
  up := h.up
  old := fun v q p hp => ⟨(h.old v q p hp).1, Nat.lt_of_lt_of_le (h.old v q p hp).2 hb.size⟩
  inj := h.inj
  cel := fun v q p hp => ⟨fun b => (hb.cell (p := ⟨p.1, p.2 + b.toNat, none⟩) (h.old v q p hp).2).trans ((h.cel v q p hp).1 b), (hb.cell (p := ⟨p.1, p.2 + 2, none⟩) (h.old v q p hp).2).trans (h.cel v q p hp).2⟩
  fro := fun v q p i hp => (hb.frozen (p := ⟨p.1, i, none⟩) (h.old v q p hp).2).trans (h.fro v q p i hp)
  zer := h.zer
theorem Tr.none_app {N : Nat} {w : World} {X : Nat} {D : Nd} {A : Bool → List Bool → Int} (h : Tr N w X D A) {v : Bool} {q : List Bool} (hq : D v q = none) (r : List Bool) : D v (q ++ r) = none := by
  induction r generalizing q with
  | nil => simpa using hq
  | cons b r ih =>
    have := ih (h.up v q b hq)
    rwa [List.append_assoc] at this
theorem pth_app (a : Ad) (n m : Nat) : ∃ r, pth a (n + m) = pth a n ++ r := by
  induction m with
  | zero => exact ⟨[], by simp⟩
  | succ m ih =>
    obtain ⟨r, hr⟩ := ih
    exact ⟨r ++ [a.bt (n + m)], by rw [← Nat.add_assoc, pth_succ, hr, List.append_assoc]⟩
theorem Tr.none_pth {N : Nat} {w : World} {X : Nat} {D : Nd} {A : Bool → List Bool → Int} (h : Tr N w X D A) {v : Bool} {a : Ad} {n : Nat} (hq : D v (pth a n) = none) (k : Nat) (hk : n ≤ k) : A v (pth a k) = 0 := by
  obtain ⟨r, hr⟩ := pth_app a n (k - n)
  rw [show n + (k - n) = k by omega] at hr
  apply h.zer
  rw [hr]
  exact h.none_app hq r
theorem app_ne (q : List Bool) (b : Bool) : q ++ [b] ≠ q := fun e => by
  have := congrArg List.length e
  simp at this
theorem app_inj {q q' : List Bool} {b b' : Bool} (h : q ++ [b] = q' ++ [b']) : q = q' ∧ b = b' := by
  have := List.append_inj' h rfl
  exact ⟨this.1, by simpa using this.2⟩
theorem cell_set_o {w : World} {b i b' i' : Nat} {v : Value} (h : b' = b → i' ≠ i) : (w.setCell ⟨b', i', none⟩ v).cell? ⟨b, i, none⟩ = w.cell? ⟨b, i, none⟩ :=
  World.cell?_setCell_other _ _ _ _ (fun e => by cases e; exact h rfl rfl)
theorem frozen_set (w : World) (p a : Addr) (v : Value) : (w.setCell p v).frozen? a = w.frozen? a := by simp
theorem size_set (w : World) (p : Addr) (v : Value) : (w.setCell p v).heap.size = w.heap.size := by simp [World.setCell]
/-- an action is laid. -/
theorem Tr.act {N : Nat} {w : World} {X : Nat} {D : Nd} {A : Bool → List Bool → Int} (h : Tr N w X D A) {v : Bool} {q : List Bool} {p : Nat × Nat} (hp : D v q = some p) (act : Int) :
    Tr N (w.setCell ⟨p.1, p.2 + 2, none⟩ (.int .i64 act)) X D (fun v' q' => if v' = v ∧ q' = q then act else A v' q') where
  root := h.root
  up := h.up
  old := fun v' q' p' hp' => by rw [size_set]; exact h.old v' q' p' hp'
  inj := h.inj
  cel := fun v' q' p' hp' => by
    refine ⟨fun b => ?_, ?_⟩
    · rw [cell_set_o (fun e e2 => ?_)]
      · exact (h.cel v' q' p' hp').1 b
      · have hb : b.toNat < 2 := by cases b <;> decide
        obtain ⟨rfl, rfl⟩ := h.inj v q p v' q' p' 2 b.toNat hp hp' e (by decide) (by omega) e2
        rw [hp] at hp'
        cases hp'
        omega
    · by_cases e : v' = v ∧ q' = q
      · obtain ⟨rfl, rfl⟩ := e
        rw [hp] at hp'
        cases hp'
        rw [if_pos ⟨rfl, rfl⟩]
        exact World.cell?_setCell_same _ _ _ (h.cel _ _ _ hp).2
      · rw [if_neg e, cell_set_o (fun e1 e2 => ?_)]
        · exact (h.cel v' q' p' hp').2
        · obtain ⟨rfl, rfl⟩ := h.inj v q p v' q' p' 2 2 hp hp' e1 (by decide) (by decide) e2
          exact e ⟨rfl, rfl⟩
  fro := fun v' q' p' i hp' => by rw [frozen_set]; exact h.fro v' q' p' i hp'
  zer := fun v' q' hn => by
    rw [if_neg]
    · exact h.zer v' q' hn
    · rintro ⟨rfl, rfl⟩
      rw [hp] at hn
      cases hn
abbrev nodeO : Obj := .cells #[.pointer none, .pointer none, .int .i64 0] 54 (0, 0)
/-- a node is made. -/
theorem Tr.grow {N : Nat} {w : World} {X : Nat} {D : Nd} {A : Bool → List Bool → Int} (h : Tr N w X D A) (hN : N ≤ w.heap.size) {v : Bool} {q : List Bool} {p : Nat × Nat} (hp : D v q = some p) (b : Bool) (hn : D v (q ++ [b]) = none) :
    Tr N ((w.alloc nodeO).setCell ⟨p.1, p.2 + b.toNat, none⟩ (.pointer (some ⟨w.heap.size, 0, none⟩))) X (fun v' q' => if v' = v ∧ q' = q ++ [b] then some (w.heap.size, 0) else D v' q') A where
  root := fun v' => by
    rw [if_neg (by rintro ⟨_, e⟩; simp at e)]
    exact h.root v'
  up := fun v' q' b' hq' => by
    split at hq'
    · cases hq'
    · rename_i hne
      rw [if_neg]
      · exact h.up v' q' b' hq'
      · rintro ⟨rfl, e⟩
        obtain ⟨rfl, rfl⟩ := app_inj e
        rw [hp] at hq'
        cases hq'
  old := fun v' q' p' hp' => by
    rw [size_set]
    split at hp'
    · cases hp'
      exact ⟨hN, by simp⟩
    · have := h.old v' q' p' hp'
      exact ⟨this.1, by simp; omega⟩
  inj := fun v1 q1 p1 v2 q2 p2 i i' h1 h2 e hi hi' ei => by
    split at h1
    · rename_i e1
      cases h1
      split at h2
      · rename_i e2
        exact ⟨e1.1.trans e2.1.symm, e1.2.trans e2.2.symm⟩
      · have := (h.old v2 q2 p2 h2).2
        simp only at e
        omega
    · split at h2
      · cases h2
        have := (h.old v1 q1 p1 h1).2
        simp only at e
        omega
      · exact h.inj v1 q1 p1 v2 q2 p2 i i' h1 h2 e hi hi' ei
  cel := fun v' q' p' hp' => by
    have hpl := (h.old v q p hp).2
    have hbt : b.toNat < 2 := by cases b <;> decide
    split at hp'
    · rename_i e
      obtain ⟨rfl, rfl⟩ := e
      cases hp'
      have hh := heap_alloc_last w nodeO
      refine ⟨fun c => ?_, ?_⟩
      · rw [cell_set_o (fun e => by simp only at e; omega), if_neg (fun e => absurd e.2 (app_ne _ _)), h.up _ _ c hn]
        cases c
        · exact cell_of_heap hh rfl
        · exact cell_of_heap hh rfl
      · rw [cell_set_o (fun e => by simp only at e; omega), h.zer _ _ hn]
        exact cell_of_heap hh rfl
    · rename_i hne
      have hpl' := (h.old v' q' p' hp').2
      have hal : ∀ i, (w.alloc nodeO).cell? ⟨p'.1, i, none⟩ = w.cell? ⟨p'.1, i, none⟩ := fun i => ((Below.refl w.heap.size w).alloc (Nat.le_refl _) nodeO).cell (p := ⟨p'.1, i, none⟩) hpl'
      refine ⟨fun c => ?_, ?_⟩
      · by_cases e : v' = v ∧ q' ++ [c] = q ++ [b]
        · obtain ⟨rfl, e⟩ := e
          obtain ⟨rfl, rfl⟩ := app_inj e
          rw [hp] at hp'
          cases hp'
          rw [if_pos ⟨rfl, rfl⟩]
          exact World.cell?_setCell_same _ _ _ ((hal _).trans ((h.cel _ _ _ hp).1 c))
        · rw [if_neg e, cell_set_o (fun e1 e2 => ?_), hal]
          · exact (h.cel v' q' p' hp').1 c
          · have hct : c.toNat < 2 := by cases c <;> decide
            obtain ⟨rfl, rfl⟩ := h.inj v q p v' q' p' b.toNat c.toNat hp hp' e1 (by omega) (by omega) e2
            rw [hp] at hp'
            cases hp'
            refine e ⟨rfl, ?_⟩
            cases b <;> cases c <;> first | rfl | (simp at e2)
      · rw [cell_set_o (fun e1 e2 => ?_), hal]
        · exact (h.cel v' q' p' hp').2
        · obtain ⟨rfl, rfl⟩ := h.inj v q p v' q' p' b.toNat 2 hp hp' e1 (by omega) (by decide) e2
          rw [hp] at hp'
          cases hp'
          omega
  fro := fun v' q' p' i hp' => by
    rw [frozen_set]
    split at hp'
    · cases hp'
      have hh := heap_alloc_last w nodeO
      unfold World.frozen?
      rw [show (⟨w.heap.size, i, none⟩ : Addr).block = w.heap.size from rfl, hh]
      simp
    · rw [((Below.refl w.heap.size w).alloc (Nat.le_refl _) nodeO).frozen (p := ⟨p'.1, i, none⟩) (h.old v' q' p' hp').2]
      exact h.fro v' q' p' i hp'
  zer := fun v' q' hq' => by
    split at hq'
    · cases hq'
    · exact h.zer v' q' hq'
/-- a tree of nothing. -/
def D0 (X : Nat) : Nd := fun v q => if q = [] then some (X, if v then 3 else 0) else none
abbrev aclO : Obj := .cells #[.pointer none, .pointer none, .int .i64 0, .pointer none, .pointer none, .int .i64 0] 56 (0, 0)
theorem Tr.new {N : Nat} (w : World) (hN : N ≤ w.heap.size) : Tr N (w.alloc aclO) w.heap.size (D0 w.heap.size) (fun _ _ => 0) where
  root := fun v => if_pos rfl
  up := fun v q b _ => if_neg (by simp)
  old := fun v q p hp => by
    unfold D0 at hp
    split at hp
    · cases hp
      exact ⟨hN, by simp⟩
    · cases hp
  inj := fun v q p v' q' p' i i' h1 h2 _ hi hi' e => by
    unfold D0 at h1 h2
    split at h1
    · split at h2
      · rename_i e1 e2
        subst e1 e2
        cases h1
        cases h2
        cases v <;> cases v' <;> simp at e ⊢ <;> omega
      · cases h2
    · cases h1
  cel := fun v q p hp => by
    unfold D0 at hp
    split at hp
    · rename_i e
      subst e
      cases hp
      have hh := heap_alloc_last w aclO
      refine ⟨fun b => ?_, ?_⟩
      · rw [show D0 w.heap.size v ([] ++ [b]) = none from if_neg (by simp)]
        cases v <;> cases b <;> exact cell_of_heap hh rfl
      · cases v <;> exact cell_of_heap hh rfl
    · cases hp
  fro := fun v q p i hp => by
    unfold D0 at hp
    split at hp
    · cases hp
      have hh := heap_alloc_last w aclO
      unfold World.frozen?
      rw [show (⟨w.heap.size, i, none⟩ : Addr).block = w.heap.size from rfl, hh]
      simp
    · cases hp
  zer := fun _ _ _ => rfl
theorem pcs_bit {a : Ad} (ha : a.ok) {k : Nat} (hk : k < a.wd) : pcs a k 1 = (a.bt k).toNat := by
  have h1 : ∀ n i : Nat, n / 2 ^ i % 2 ^ 1 = (n.testBit i).toNat := fun n i => by
    rw [Nat.testBit_eq_decide_div_mod_eq, Nat.pow_one]
    have := Nat.mod_two_eq_zero_or_one (n / 2 ^ i)
    rcases this with h | h <;> simp [h]
  unfold pcs Ad.bt
  rw [show a.wd - k - 1 = a.wd - 1 - k by omega]
  split
  · rename_i h64
    rw [h1]
    unfold Ad.num
    rw [Nat.mul_comm, Nat.testBit_two_pow_mul_add _ ha.2, if_neg (by omega)]
  · rename_i h64
    rw [h1]
    unfold Ad.num
    rw [Nat.mul_comm, Nat.testBit_two_pow_mul_add _ ha.2, if_pos (by omega)]
end Go.Proofs.YtpognbkdafnfjaaDoor
