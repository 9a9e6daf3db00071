/- The bits of letters of five, as the document's Unbase32 takes them: nothing of the program. -/
import Derived.Test.YtdecmbpmgnoelaaDoorGRFact5
namespace Go.Proofs.YtdecmbpmgnoelaaDoor
set_option linter.unusedVariables false
/-- the bit at place k of letters of five bits. -/
def b5 (l : List UInt8) (k : Nat) : UInt8 := UInt8.ofNat ((cnt (l[k / 5]?.getD 0)).toNat / 2 ^ (4 - k % 5) % 2)
theorem b5_nat (l : List UInt8) (k : Nat) : (b5 l k).toNat = (cnt (l[k / 5]?.getD 0)).toNat / 2 ^ (4 - k % 5) % 2 := by
  rw [b5, UInt8.toNat_ofNat']; omega
theorem b5_lt (l : List UInt8) (k : Nat) : (b5 l k).toNat < 2 := by rw [b5_nat]; omega
/-- m bits from a place on, as a number. -/
def acc5 (l : List UInt8) (a : Nat) : Nat → Nat
  | 0 => 0
  | m + 1 => 2 * acc5 l a m + (b5 l (a + m)).toNat
theorem acc5_lt (l : List UInt8) (a : Nat) : ∀ m, acc5 l a m < 2 ^ m
  | 0 => by simp [acc5]
  | m + 1 => by have := acc5_lt l a m; have := b5_lt l (a + m); rw [acc5, Nat.pow_succ]; omega
theorem acc5_add (l : List UInt8) (a : Nat) : ∀ m k, acc5 l a (m + k) = acc5 l a m * 2 ^ k + acc5 l (a + m) k
  | m, 0 => by simp [acc5]
  | m, k + 1 => by
    rw [← Nat.add_assoc, acc5, acc5_add l a m k, acc5, Nat.pow_succ, Nat.add_assoc a m k, ← Nat.mul_assoc, Nat.mul_comm _ 2, Nat.mul_add]
    omega
theorem five_bits (c : Nat) (h : c < 32) : 16 * (c / 16 % 2) + 8 * (c / 8 % 2) + 4 * (c / 4 % 2) + 2 * (c / 2 % 2) + c / 1 % 2 = c := by omega
theorem acc5_five (l : List UInt8) (k : Nat) (h : (cnt (l[k]?.getD 0)).toNat < 32) : acc5 l (5 * k) 5 = (cnt (l[k]?.getD 0)).toNat := by
  have hb := five_bits _ h
  have e : ∀ i, i < 5 → (b5 l (5 * k + i)).toNat = (cnt (l[k]?.getD 0)).toNat / 2 ^ (4 - i) % 2 := fun i hi => by
    rw [b5_nat, show (5 * k + i) / 5 = k by omega, show (5 * k + i) % 5 = i by omega]
  simp only [acc5, e 0 (by omega), e 1 (by omega), e 2 (by omega), e 3 (by omega), e 4 (by omega)]
  simp only [Nat.reduceSub, Nat.reducePow]
  omega
theorem acc5_all (l : List UInt8) (h : ∀ j, j < l.length → (cnt (l[j]?.getD 0)).toNat < 32) : ∀ k, k ≤ l.length → acc5 l 0 (5 * k) = num 32 ((l.map cnt).take k)
  | 0, _ => rfl
  | k + 1, hk => by
    rw [show 5 * (k + 1) = 5 * k + 5 by omega, acc5_add, acc5_all l h k (by omega), Nat.zero_add, acc5_five l k (h k (by omega)), List.take_add_one, List.getElem?_map, List.getElem?_eq_getElem (by omega : k < l.length)]
    show _ = num 32 ((l.map cnt).take k ++ [cnt l[k]])
    rw [num_snoc]
    rfl
/-- the bytes while the first k bits are in. -/
def o5 (l : List UInt8) (k j : Nat) : UInt8 := UInt8.ofNat (acc5 l (8 * j) (min 8 (k - 8 * j)))
theorem o5_nat (l : List UInt8) (k j : Nat) : (o5 l k j).toNat = acc5 l (8 * j) (min 8 (k - 8 * j)) := by
  have h1 := acc5_lt l (8 * j) (min 8 (k - 8 * j))
  have h2 : 2 ^ min 8 (k - 8 * j) ≤ 2 ^ 8 := Nat.pow_le_pow_right (by omega) (by omega)
  rw [o5, UInt8.toNat_ofNat']
  omega
theorem o5_zero (l : List UInt8) (n : Nat) : (List.range n).map (o5 l 0) = List.replicate n 0 := by
  apply List.ext_getElem
  · simp
  · intro k h1 h2
    rw [List.getElem_map, List.getElem_replicate]
    rw [o5, Nat.zero_sub, Nat.min_eq_right (Nat.zero_le _)]
    rfl
theorem o5_next (l : List UInt8) (n k : Nat) (h : k < 8 * n) : ((List.range n).map (o5 l k)).set (k / 8) (UInt8.ofNat (2 * (o5 l k (k / 8)).toNat + (b5 l k).toNat)) = (List.range n).map (o5 l (k + 1)) := by
  apply List.ext_getElem
  · simp
  · intro j h1 h2
    rw [List.getElem_set, List.getElem_map, List.getElem_map]
    simp only [List.getElem_range]
    rw [List.length_map, List.length_range] at h2
    by_cases e : k / 8 = j
    · rw [if_pos e]
      subst e
      rw [o5_nat, o5, show min 8 (k + 1 - 8 * (k / 8)) = min 8 (k - 8 * (k / 8)) + 1 by omega, acc5, show 8 * (k / 8) + min 8 (k - 8 * (k / 8)) = k by omega]
    · rw [if_neg e, o5, o5]
      congr 2
      omega
theorem o5_at (l : List UInt8) (n k : Nat) (h : k < 8 * n) : ((List.range n).map (o5 l k))[k / 8]?.getD 0 = o5 l k (k / 8) := by
  rw [List.getElem?_map, List.getElem?_range (by omega)]
  rfl
theorem o5_small (l : List UInt8) (k : Nat) : 2 * (o5 l k (k / 8)).toNat + (b5 l k).toNat < 256 := by
  have h1 := acc5_lt l (8 * (k / 8)) (min 8 (k - 8 * (k / 8)))
  have h2 : 2 ^ min 8 (k - 8 * (k / 8)) ≤ 2 ^ 7 := Nat.pow_le_pow_right (by omega) (by omega)
  have h3 := b5_lt l k
  rw [o5_nat]
  omega
theorem o5_num (l : List UInt8) (n : Nat) : ∀ j, j ≤ n → num 256 (((List.range n).map (o5 l (8 * n))).take j) = acc5 l 0 (8 * j)
  | 0, _ => rfl
  | j + 1, hj => by
    rw [List.take_add_one, List.getElem?_map, List.getElem?_range (by omega)]
    show num 256 (((List.range n).map (o5 l (8 * n))).take j ++ [o5 l (8 * n) j]) = _
    rw [num_snoc, o5_num l n j (by omega), o5_nat, show 8 * (j + 1) = 8 * j + 8 by omega, acc5_add, Nat.zero_add, show min 8 (8 * n - 8 * j) = 8 by omega]
theorem acc5_zero (l : List UInt8) (a : Nat) : ∀ m, (∀ k, a ≤ k → k < a + m → (b5 l k).toNat = 0) → acc5 l a m = 0
  | 0, _ => rfl
  | m + 1, h => by rw [acc5, acc5_zero l a m (fun k h1 h2 => h k h1 (by omega)), h (a + m) (by omega) (by omega)]
theorem acc5_pos (l : List UInt8) (a : Nat) : ∀ m k, a ≤ k → k < a + m → (b5 l k).toNat ≠ 0 → acc5 l a m ≠ 0
  | 0, k, h1, h2, _ => by omega
  | m + 1, k, h1, h2, h => by
    rw [acc5]
    by_cases e : k = a + m
    · subst e; omega
    · have := acc5_pos l a m k h1 (by omega) h; omega
/-- what the document's Unbase32 answers. -/
def RunF (l : List UInt8) (e : Ending) : Prop :=
  ((∃ j, j < l.length ∧ 32 ≤ (cnt (l[j]?.getD 0)).toNat) ∧ e = .returned (.tuple #[.string ⟨#[]⟩, .bool false])) ∨
  ((∀ j, j < l.length → (cnt (l[j]?.getD 0)).toNat < 32) ∧ (5 ≤ 5 * l.length % 8 ∨ ∃ k, 8 * (5 * l.length / 8) ≤ k ∧ k < 5 * l.length ∧ (b5 l k).toNat ≠ 0) ∧ e = .returned (.tuple #[.string ⟨#[]⟩, .bool false])) ∨
  ((∀ j, j < l.length → (cnt (l[j]?.getD 0)).toNat < 32) ∧ 5 * l.length % 8 < 5 ∧ (∀ k, 8 * (5 * l.length / 8) ≤ k → k < 5 * l.length → (b5 l k).toNat = 0) ∧ e = .returned (.tuple #[.string ⟨((List.range (5 * l.length / 8)).map (o5 l (8 * (5 * l.length / 8)))).toArray⟩, .bool true]))
theorem rg_five (l : List UInt8) (hall : ∀ j, j < l.length → (cnt (l[j]?.getD 0)).toNat < 32) :
    (rg 5 8 (l.map cnt)).2.2 = 5 * l.length % 8 ∧ (rg 5 8 (l.map cnt)).2.1 = acc5 l (8 * (5 * l.length / 8)) (5 * l.length % 8) ∧ (rg 5 8 (l.map cnt)).1 = (List.range (5 * l.length / 8)).map (o5 l (8 * (5 * l.length / 8))) := by
  have hm : ∀ x ∈ l.map cnt, x.toNat < 2 ^ 5 := fun x hx => by
    obtain ⟨c, hc, rfl⟩ := List.mem_map.1 hx
    obtain ⟨j, hj, hje⟩ := List.getElem_of_mem hc
    have := hall j hj
    rw [List.getElem?_eq_getElem hj, hje] at this
    exact this
  obtain ⟨hk, ho⟩ := rg_ok 5 8 (by omega) (l.map cnt) hm
  generalize (rg 5 8 (l.map cnt)).1 = made at hk ho ⊢
  generalize (rg 5 8 (l.map cnt)).2.1 = rest at hk ho ⊢
  generalize (rg 5 8 (l.map cnt)).2.2 = over at hk ho ⊢
  have hl := hk.len
  rw [List.length_map] at hl
  have hov : over = 5 * l.length % 8 := by omega
  subst hov
  have hml : made.length = 5 * l.length / 8 := by omega
  have hn := acc5_all l hall l.length (Nat.le_refl _)
  rw [List.take_of_length_le (by rw [List.length_map]; omega)] at hn
  have hv : num 256 made * 2 ^ (5 * l.length % 8) + rest = num 32 (l.map cnt) := hk.val
  have hsp := acc5_add l 0 (8 * (5 * l.length / 8)) (5 * l.length % 8)
  rw [show 8 * (5 * l.length / 8) + 5 * l.length % 8 = 5 * l.length by omega, hn, ← hv, Nat.zero_add] at hsp
  have hlow : rest < 2 ^ (5 * l.length % 8) := hk.low
  have hlow2 := acc5_lt l (8 * (5 * l.length / 8)) (5 * l.length % 8)
  have hon := o5_num l (5 * l.length / 8) (5 * l.length / 8) (Nat.le_refl _)
  rw [List.take_of_length_le (by simp)] at hon
  generalize acc5 l (8 * (5 * l.length / 8)) (5 * l.length % 8) = r2 at hsp hlow2 ⊢
  generalize acc5 l 0 (8 * (5 * l.length / 8)) = A at hsp hon
  generalize 2 ^ (5 * l.length % 8) = D at hsp hlow hlow2
  have hD : 0 < D := by omega
  have hr : rest = r2 := by
    have h1 := congrArg (· % D) hsp
    simp only [Nat.mul_comm _ D, Nat.mul_add_mod] at h1
    rwa [Nat.mod_eq_of_lt hlow, Nat.mod_eq_of_lt hlow2] at h1
  have ha : num 256 made = A := by
    have h1 : num 256 made * D = A * D := by omega
    exact Nat.eq_of_mul_eq_mul_right hD h1
  refine ⟨rfl, hr, ?_⟩
  refine num_inj (2 ^ 8) (5 * l.length / 8) _ _ hml (by simp) hk.dig (byte_lt _) ?_
  exact ha.trans hon.symm
/-- Unbase32 reads what the document's does. -/
theorem run_unb (l : List UInt8) (e : Ending) (h : RunF l e) : (∃ r, uns 5 l = some r ∧ e = .returned (.tuple #[.string ⟨r.toArray⟩, .bool true])) ∨ (uns 5 l = none ∧ e = .returned (.tuple #[.string ⟨#[]⟩, .bool false])) := by
  have hmem : (∀ j, j < l.length → (cnt (l[j]?.getD 0)).toNat < 32) → ∀ c ∈ l, (cnt c).toNat < 2 ^ 5 := fun hall c hc => by
    obtain ⟨j, hj, hje⟩ := List.getElem_of_mem hc
    have := hall j hj
    rw [List.getElem?_eq_getElem hj, hje] at this
    exact this
  rcases h with ⟨⟨j, hj, hbad⟩, rfl⟩ | ⟨hall, hod, rfl⟩ | ⟨hall, hlow, hz, rfl⟩
  · refine .inr ⟨?_, rfl⟩
    unfold uns
    rw [if_neg]
    intro ha
    have := ha (l[j]?.getD 0) (by rw [List.getElem?_eq_getElem hj]; exact List.getElem_mem _)
    omega
  · refine .inr ⟨?_, rfl⟩
    obtain ⟨g1, g2, g3⟩ := rg_five l hall
    unfold uns
    rw [if_pos (hmem hall), g1, g2, if_pos]
    rcases hod with h5 | ⟨k, k1, k2, k3⟩
    · exact .inl h5
    · exact .inr (acc5_pos l _ _ k k1 (by omega) k3)
  · obtain ⟨g1, g2, g3⟩ := rg_five l hall
    refine .inl ⟨_, ?_, rfl⟩
    unfold uns
    rw [if_pos (hmem hall), g1, g2, g3, if_neg]
    rintro (h5 | hne)
    · omega
    · exact hne (acc5_zero l _ _ fun k k1 k2 => hz k k1 (by omega))
end Go.Proofs.YtdecmbpmgnoelaaDoor
