/- Layer 12: heaps in lists: facts alone. -/
import Derived.Test.YtdgkknjmhdmlfaaTiPush
namespace Go.Proofs.Ytdgkknjmhdmlfaa
set_option linter.unusedVariables false

def A (xs : List En) (i : Nat) : En := xs.getD i (0, 0)
theorem A_lt {xs : List En} {i : Nat} (h : i < xs.length) : A xs i = xs[i] := getD_lt h
theorem A_sw {xs : List En} {i j : Nat} (k : Nat) (hi : i < xs.length) (hj : j < xs.length) : A (sw xs i j) k = if k = j then A xs i else if k = i then A xs j else A xs k := by
  by_cases hk : k < xs.length
  · rw [A_lt (by rw [sw_len]; exact hk), sw_get xs i j k hi hj, A_lt hi, A_lt hj, A_lt hk]
  · rw [if_neg (by omega), if_neg (by omega)]
    unfold A
    simp only [List.getD]
    rw [List.getElem?_eq_none (by rw [sw_len]; omega), List.getElem?_eq_none (by omega)]
theorem lt_asymm {a b : En} (h : lt a b) : ¬ lt b a := by unfold lt at *; omega
theorem lt_irrefl (a : En) : ¬ lt a a := by unfold lt; omega
theorem le_trans {a b c : En} (h : ¬ lt b a) (k : ¬ lt c b) : ¬ lt c a := by unfold lt at *; omega
theorem lt_trans {a b c : En} (h : lt a b) (k : lt b c) : lt a c := by unfold lt at *; omega
theorem lt_total {a b : En} (h : ¬ lt a b) (k : ¬ lt b a) : a = b := by
  obtain ⟨a1, a2⟩ := a
  obtain ⟨b1, b2⟩ := b
  unfold lt at *
  simp only at h k
  have h1 : a1 = b1 := by omega
  have h2 : a2 = b2 := by omega
  rw [h1, h2]
def par (k : Nat) : Nat := (k - 1) / 2
/-- the first n are a heap. -/
def Hp (xs : List En) (n : Nat) : Prop := ∀ k, 0 < k → k < n → ¬ lt (A xs k) (A xs (par k))
/-- .. but at j, which may be too early. -/
structure UpI (xs : List En) (n j : Nat) : Prop where
  a : ∀ k, 0 < k → k < n → k ≠ j → ¬ lt (A xs k) (A xs (par k))
  b : ∀ c, 0 < c → c < n → par c = j → 0 < j → ¬ lt (A xs c) (A xs (par j))
theorem UpI.step {xs : List En} {n j : Nat} (h : UpI xs n j) (hj0 : 0 < j) (hj : j < n) (hn : n ≤ xs.length) (hl : lt (A xs j) (A xs (par j))) : UpI (sw xs (par j) j) n (par j) := by
  have hp : par j < j := by unfold par; omega
  have hi : par j < xs.length := by omega
  have hjx : j < xs.length := by omega
  refine ⟨fun k hk0 hkn hki => ?_, fun c hc0 hcn hpc hi0 => ?_⟩
  · have hpk : par k < k := by unfold par; omega
    rw [A_sw _ hi hjx, A_sw _ hi hjx]
    by_cases h1 : k = j
    · rw [if_pos h1, h1, if_neg (by omega), if_pos rfl]
      exact lt_asymm hl
    · rw [if_neg h1, if_neg hki]
      by_cases h2 : par k = j
      · rw [if_pos h2]
        exact h.b k hk0 hkn h2 hj0
      · rw [if_neg h2]
        have h3 := h.a k hk0 hkn h1
        by_cases h4 : par k = par j
        · rw [if_pos h4]
          rw [h4] at h3
          exact le_trans (lt_asymm hl) h3
        · rw [if_neg h4]
          exact h3
  · have hpp : par (par j) < par j := by unfold par at *; omega
    have h3 := h.a (par j) hi0 (by omega) (by omega)
    rw [A_sw _ hi hjx, A_sw _ hi hjx, if_neg (by omega : ¬ par (par j) = j), if_neg (by omega : ¬ par (par j) = par j)]
    by_cases h1 : c = j
    · rw [if_pos h1]
      exact h3
    · rw [if_neg h1, if_neg (by intro e; rw [e] at hpc; omega)]
      have h4 := h.a c hc0 hcn h1
      rw [hpc] at h4
      exact le_trans h3 h4
theorem UpI.done {xs : List En} {n j : Nat} (h : UpI xs n j) (hd : j = 0 ∨ ¬ lt (A xs j) (A xs (par j))) : Hp xs n := fun k hk0 hkn => by
  by_cases e : k = j
  · subst e
    rcases hd with h0 | h0
    · omega
    · exact h0
  · exact h.a k hk0 hkn e

/-- a heap but at i, which may be too early or too late; i is i0, or has come down from there. -/
structure DnI (xs : List En) (n i0 i : Nat) : Prop where
  a : ∀ k, 0 < k → k < n → k ≠ i → par k ≠ i → ¬ lt (A xs k) (A xs (par k))
  b : ∀ c, 0 < c → c < n → par c = i → 0 < i → ¬ lt (A xs c) (A xs (par i))
  c : i ≠ i0 → 0 < i → ¬ lt (A xs i) (A xs (par i))
  d : i0 ≤ i
theorem DnI.step {xs : List En} {n i0 i j : Nat} (h : DnI xs n i0 i) (hj : j < n) (hj0 : 0 < j) (hpj : par j = i) (hn : n ≤ xs.length) (hl : lt (A xs j) (A xs i)) (hs : ∀ c, 0 < c → c < n → par c = i → ¬ lt (A xs c) (A xs j)) : DnI (sw xs i j) n i0 j := by
  have hij : i < j := by unfold par at hpj; omega
  have hi : i < xs.length := by omega
  have hjx : j < xs.length := by omega
  refine ⟨fun k hk0 hkn hkj hpk => ?_, fun c hc0 hcn hpc _ => ?_, fun _ _ => ?_, by have := h.d; omega⟩
  · rw [A_sw _ hi hjx, A_sw _ hi hjx, if_neg hkj, if_neg hpk]
    by_cases h1 : k = i
    · have hpi : par k < k := by unfold par; omega
      rw [if_pos h1, if_neg (by omega)]
      subst h1
      exact h.b j hj0 hj hpj hk0
    · rw [if_neg h1]
      by_cases h2 : par k = i
      · rw [if_pos h2]
        exact hs k hk0 hkn h2
      · rw [if_neg h2]
        exact h.a k hk0 hkn h1 h2
  · have hcj : j < c := by unfold par at hpc; omega
    rw [A_sw _ hi hjx, A_sw _ hi hjx, if_neg (by omega), if_neg (by omega), hpj, if_neg (by omega), if_pos rfl]
    have := h.a c hc0 hcn (by omega) (by omega)
    rwa [hpc] at this
  · rw [A_sw _ hi hjx, A_sw _ hi hjx, if_pos rfl, hpj, if_neg (by omega), if_pos rfl]
    exact lt_asymm hl
/-- it came down: a heap. -/
theorem DnI.done {xs : List En} {n i0 i : Nat} (h : DnI xs n i0 i) (hc : ∀ c, 0 < c → c < n → par c = i → ¬ lt (A xs c) (A xs i)) (hne : i ≠ i0) : Hp xs n := fun k hk0 hkn => by
  by_cases h1 : k = i
  · subst h1
    exact h.c hne hk0
  · by_cases h2 : par k = i
    · rw [h2]
      exact hc k hk0 hkn h2
    · exact h.a k hk0 hkn h1 h2
/-- it did not: it may be too early. -/
theorem DnI.still {xs : List En} {n i : Nat} (h : DnI xs n i i) (hc : ∀ c, 0 < c → c < n → par c = i → ¬ lt (A xs c) (A xs i)) : UpI xs n i :=
  ⟨fun k hk0 hkn h1 => by
    by_cases h2 : par k = i
    · rw [h2]
      exact hc k hk0 hkn h2
    · exact h.a k hk0 hkn h1 h2, h.b⟩
/-- a heap in which one entry is turned. -/
theorem Hp.turn {xs : List En} {n i : Nat} (h : Hp xs n) (hi : i < xs.length) (e : En) : DnI (xs.set i e) n i i := by
  have he : ∀ k, k ≠ i → A (xs.set i e) k = A xs k := fun k hk => by
    unfold A
    simp [List.getD, Ne.symm hk]
  refine ⟨fun k hk0 hkn h1 h2 => ?_, fun c hc0 hcn hpc hi0 => ?_, fun h => absurd rfl h, Nat.le_refl _⟩
  · rw [he k h1, he _ h2]
    exact h k hk0 hkn
  · have hci : i < c := by unfold par at hpc; omega
    have hpi : par i < i := by unfold par; omega
    rw [he c (by omega), he _ (by omega)]
    have e1 := h c hc0 hcn
    rw [hpc] at e1
    exact le_trans (h i hi0 (by omega)) e1
theorem Hp.mono {xs : List En} {n m : Nat} (h : Hp xs n) (hm : m ≤ n) : Hp xs m := fun k hk0 hkm => h k hk0 (by omega)

/-- the same entries, those from n on where they were. -/
structure Sw (xs ys : List En) (n : Nat) : Prop where
  perm : ys.Perm xs
  rest : ∀ k, n ≤ k → A ys k = A xs k
theorem Sw.refl (xs : List En) (n : Nat) : Sw xs xs n := ⟨List.Perm.refl _, fun _ _ => rfl⟩
theorem Sw.trans {xs ys zs : List En} {n : Nat} (h : Sw xs ys n) (k : Sw ys zs n) : Sw xs zs n := ⟨k.perm.trans h.perm, fun i hi => (k.rest i hi).trans (h.rest i hi)⟩
theorem Sw.swap {xs : List En} {i j n : Nat} (hi : i < n) (hj : j < n) (hn : n ≤ xs.length) : Sw xs (sw xs i j) n :=
  ⟨sw_perm xs i j (by omega) (by omega), fun k hk => by rw [A_sw _ (by omega) (by omega), if_neg (by omega), if_neg (by omega)]⟩
theorem Sw.len {xs ys : List En} {n : Nat} (h : Sw xs ys n) : ys.length = xs.length := h.perm.length_eq

/-- the first of a heap is the least. -/
theorem Hp.least {xs : List En} (h : Hp xs xs.length) : ∀ k, k < xs.length → ¬ lt (A xs k) (A xs 0)
  | 0, _ => lt_irrefl _
  | k + 1, hk => by
    have h1 := h (k + 1) (by omega) hk
    have hp : par (k + 1) < k + 1 := by unfold par; omega
    exact le_trans (Hp.least h (par (k + 1)) (by omega)) h1
  termination_by k => k

end Go.Proofs.Ytdgkknjmhdmlfaa
