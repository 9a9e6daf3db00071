/- Texts of this proof, joined: DTyFacts, DTxtTell, DTxtTell2, DTxtTell3, DExA, DTxtForm. -/
import Derived.Test.YtdhcbaennpediaaGreatDoorJ7
import Derived.Test.YtdhcbaennpediaaGreatDoorJ6
import Derived.Test.YtdhcbaennpediaaGreatDoorJ5
import Derived.Test.YtdhcbaennpediaaGreatDoorJ9
/- Lists of types as bytes: windows of bits. Nothing here speaks of the program. -/
namespace Go.Proofs.YtdhcbaennpediaaGreatDoor
set_option linter.unusedVariables false
open Go.RowKit

theorem bit_tb (b : List UInt8) (n : Nat) : bitAt b n = (b.getD (n / 8) 0).toNat.testBit (7 - n % 8) := by
  rw [bitAt, Nat.testBit_eq_decide_div_mod_eq, Bool.eq_iff_iff, beq_iff_eq, decide_eq_true_iff]
theorem getD_far (b : List UInt8) (j : Nat) (h : b.length ≤ j) : b.getD j 0 = 0 := by
  rw [List.getD_eq_getElem?_getD, List.getElem?_eq_none h]; rfl
theorem bit_far (b : List UInt8) (n : Nat) (h : b.length ≤ n / 8) : bitAt b n = false := by
  rw [bit_tb, getD_far b _ h]
  exact Nat.zero_testBit _

theorem filter_low (p : Nat → Bool) (k : Nat) (h : ∀ i, k ≤ i → p i = false) : ∀ n, k ≤ n → (List.range n).filter p = (List.range k).filter p := by
  intro n hn
  obtain ⟨j, rfl⟩ : ∃ j, n = k + j := ⟨n - k, by omega⟩
  clear hn
  induction j with
  | zero => rfl
  | succ j ih => rw [show k + (j + 1) = (k + j) + 1 by omega, List.range_succ, List.filter_append, ih]; simp [h (k + j) (by omega)]
theorem filter_one (p : Nat → Bool) (k : Nat) (hk : p k = true) (h : ∀ i, k < i → p i = false) (n : Nat) (hn : k < n) : (List.range n).filter p = (List.range k).filter p ++ [k] := by
  rw [filter_low p (k + 1) (fun i hi => h i (by omega)) n (by omega), List.range_succ, List.filter_append]
  simp [hk]
theorem bitsL_all (w : Nat) (b : List UInt8) (h : b.length ≤ 32) : bitsL w b (8 * b.length) = bitsL w b 256 := by
  unfold bitsL
  rw [filter_low _ (8 * b.length) (fun i hi => bit_far b i (by omega)) 256 (by omega)]
theorem mem_bits {w : Nat} {b : List UInt8} {n x : Nat} : x ∈ bitsL w b n ↔ ∃ i, i < n ∧ bitAt b i = true ∧ x = w * 256 + i := by
  unfold bitsL
  simp only [List.mem_map, List.mem_filter, List.mem_range]
  constructor
  · rintro ⟨i, ⟨h1, h2⟩, rfl⟩; exact ⟨i, h1, h2, rfl⟩
  · rintro ⟨i, h1, h2, rfl⟩; exact ⟨i, ⟨h1, h2⟩, rfl⟩

/-- a bit more. -/
def padB (b : List UInt8) (k : Nat) : List UInt8 := b ++ List.replicate (k / 8 + 1 - b.length) 0
def setB (b : List UInt8) (k : Nat) : List UInt8 := (padB b k).set (k / 8) (UInt8.ofNat ((b.getD (k / 8) 0).toNat ||| 2 ^ (7 - k % 8)))
theorem padB_len (b : List UInt8) (k : Nat) : (padB b k).length = max b.length (k / 8 + 1) := by simp [padB]; omega
theorem setB_len (b : List UInt8) (k : Nat) : (setB b k).length = max b.length (k / 8 + 1) := by simp [setB, padB_len]
theorem padB_get (b : List UInt8) (k j : Nat) : (padB b k).getD j 0 = b.getD j 0 := by
  unfold padB
  rw [List.getD_eq_getElem?_getD, List.getD_eq_getElem?_getD, List.getElem?_append]
  split
  · rfl
  · rename_i h
    rw [List.getElem?_eq_none (l := b) (by omega), List.getElem?_replicate]
    split <;> rfl
theorem or_lt (a k : Nat) (h : a < 256) : a ||| 2 ^ (7 - k % 8) < 256 := by
  have : 2 ^ (7 - k % 8) < 2 ^ 8 := Nat.pow_lt_pow_right (by omega) (by omega)
  exact Nat.or_lt_two_pow (n := 8) h this
theorem setB_get (b : List UInt8) (k j : Nat) : ((setB b k).getD j 0).toNat = if j = k / 8 then (b.getD j 0).toNat ||| 2 ^ (7 - k % 8) else (b.getD j 0).toNat := by
  unfold setB
  rw [List.getD_eq_getElem?_getD, List.getElem?_set]
  have hu := (b.getD (k / 8) 0).toNat_lt
  by_cases h : k / 8 = j
  · rw [if_pos h, if_pos h.symm, if_pos (by rw [padB_len]; omega)]
    subst h
    rw [Option.getD_some, UInt8.toNat_ofNat', Nat.mod_eq_of_lt (or_lt _ k (by omega))]
  · rw [if_neg h, if_neg (fun e => h e.symm), ← List.getD_eq_getElem?_getD, padB_get]
theorem setB_bit (b : List UInt8) (k i : Nat) : bitAt (setB b k) i = (bitAt b i || decide (i = k)) := by
  rw [bit_tb, bit_tb, setB_get]
  by_cases h : i / 8 = k / 8
  · rw [if_pos h, Nat.testBit_or, Nat.testBit_two_pow]
    congr 1
    by_cases e : i = k
    · subst e; simp
    · have : ¬ (7 - k % 8 = 7 - i % 8) := by omega
      simp [e, this]
  · rw [if_neg h]
    have : ¬ i = k := fun e => h (by rw [e])
    simp [this]

theorem last_bit {b : List UInt8} (h : lastOk b = true) : ∃ i, b.length = i / 8 + 1 ∧ bitAt b i = true := by
  unfold lastOk at h
  cases hl : b.getLast? with
  | none => rw [hl] at h; cases h
  | some c =>
    rw [hl] at h
    simp only [bne_iff_ne, ne_eq] at h
    have hb0 : b ≠ [] := fun e => by rw [e] at hl; cases hl
    have hlen : 0 < b.length := List.length_pos_iff.2 hb0
    have hc : b.getD (b.length - 1) 0 = c := by
      rw [List.getD_eq_getElem?_getD, ← List.getLast?_eq_getElem?, hl]; rfl
    have hcn : c.toNat ≠ 0 := fun e => h (UInt8.toNat_inj.1 (by rw [e]; rfl))
    obtain ⟨t, ht⟩ := Nat.exists_testBit_of_ne_zero hcn
    have ht8 : t < 8 := by
      apply Decidable.byContradiction
      intro hge
      have := c.toNat_lt
      have h2 : c.toNat < 2 ^ t := Nat.lt_of_lt_of_le (by omega : c.toNat < 2 ^ 8) (Nat.pow_le_pow_right (by omega) (by omega))
      rw [Nat.testBit_lt_two_pow h2] at ht
      cases ht
    refine ⟨8 * (b.length - 1) + (7 - t), by omega, ?_⟩
    rw [bit_tb, show (8 * (b.length - 1) + (7 - t)) / 8 = b.length - 1 by omega, show 7 - (8 * (b.length - 1) + (7 - t)) % 8 = t by omega, hc]
    exact ht
theorem bits_ext {b c : List UInt8} (hb : lastOk b = true) (hc : lastOk c = true) (h : ∀ i, bitAt b i = bitAt c i) : b = c := by
  have hg : ∀ j, b.getD j 0 = c.getD j 0 := by
    intro j
    apply UInt8.toNat_inj.1
    apply Nat.eq_of_testBit_eq
    intro t
    by_cases ht : t < 8
    · have := h (8 * j + (7 - t))
      rw [bit_tb, bit_tb, show (8 * j + (7 - t)) / 8 = j by omega, show 7 - (8 * j + (7 - t)) % 8 = t by omega] at this
      exact this
    · have h1 := (b.getD j 0).toNat_lt
      have h2 := (c.getD j 0).toNat_lt
      have hp : 2 ^ 8 ≤ 2 ^ t := Nat.pow_le_pow_right (by omega) (by omega)
      rw [Nat.testBit_lt_two_pow (by omega), Nat.testBit_lt_two_pow (by omega)]
  obtain ⟨i, hi, hbi⟩ := last_bit hb
  obtain ⟨j, hj, hcj⟩ := last_bit hc
  have l1 : ¬ c.length ≤ i / 8 := fun hl => by rw [h i, bit_far c i hl] at hbi; cases hbi
  have l2 : ¬ b.length ≤ j / 8 := fun hl => by rw [← h j, bit_far b j hl] at hcj; cases hcj
  apply List.ext_getElem (by omega)
  intro n h1 h2
  have := hg n
  rwa [List.getD_eq_getElem?_getD, List.getD_eq_getElem?_getD, List.getElem?_eq_getElem h1, List.getElem?_eq_getElem h2] at this
theorem setB_last (b : List UInt8) (k : Nat) (h : b.length ≤ k / 8 + 1) : lastOk (setB b k) = true := by
  have hl := setB_len b k
  have hg := setB_get b k (k / 8)
  rw [if_pos rfl] at hg
  have hne : ((setB b k).getD (k / 8) 0).toNat ≠ 0 := by
    rw [hg]
    intro e
    have := congrArg (fun x => x.testBit (7 - k % 8)) e
    simp [Nat.testBit_or] at this
  unfold lastOk
  rw [List.getLast?_eq_getElem?, hl, show max b.length (k / 8 + 1) - 1 = k / 8 by omega, List.getElem?_eq_getElem (by omega)]
  rw [List.getD_eq_getElem?_getD, List.getElem?_eq_getElem (by omega), Option.getD_some] at hne
  simp only [bne_iff_ne, ne_eq]
  intro e
  rw [e] at hne
  exact hne rfl
theorem setB_bits (w : Nat) (b : List UInt8) (k : Nat) (hk : k < 256) (h : ∀ i, bitAt b i = true → i < k) : bitsL w (setB b k) 256 = bitsL w b 256 ++ [w * 256 + k] := by
  have hb : ∀ i, k ≤ i → bitAt b i = false := fun i hi => by
    cases e : bitAt b i with
    | false => rfl
    | true => have := h i e; omega
  unfold bitsL
  rw [filter_one (fun i => bitAt (setB b k) i) k (by rw [setB_bit]; simp) (fun i hi => by rw [setB_bit, hb i (by omega)]; simp; omega) 256 hk]
  rw [filter_low (fun i => bitAt b i) k hb 256 (by omega), List.map_append]
  congr 2
  apply List.filter_congr
  intro i hi
  rw [setB_bit]
  have : ¬ i = k := by have := List.mem_range.1 hi; omega
  simp [this]

/-! ### windows -/
abbrev Win := Nat × List UInt8
def encW : List Win → List UInt8
  | [] => []
  | p :: r => UInt8.ofNat p.1 :: UInt8.ofNat p.2.length :: (p.2 ++ encW r)
def OkW : Int → List Win → Prop
  | _, [] => True
  | last, p :: r => last < (p.1 : Int) ∧ p.1 ≤ 255 ∧ p.2.length ≤ 32 ∧ lastOk p.2 = true ∧ OkW p.1 r
def tysW : List Win → List Nat
  | [] => []
  | p :: r => bitsL p.1 p.2 256 ++ tysW r
theorem encW_app : ∀ (a b : List Win), encW (a ++ b) = encW a ++ encW b
  | [], b => rfl
  | p :: a, b => by simp [encW, encW_app a b]
theorem tysW_app : ∀ (a b : List Win), tysW (a ++ b) = tysW a ++ tysW b
  | [], b => rfl
  | p :: a, b => by simp [tysW, tysW_app a b]
theorem lastOk_ne {b : List UInt8} (h : lastOk b = true) : 1 ≤ b.length := by
  obtain ⟨i, hi, _⟩ := last_bit h
  omega

theorem ty_enc : ∀ (ws : List Win) (last : Int) (n : Nat), OkW last ws → (encW ws).length < n → tyGo n last ⟨(encW ws).toArray⟩ = some (tysW ws)
  | [], last, 0, _, h => by simp [encW] at h
  | [], last, n + 1, _, _ => by rw [tyGo, dif_neg (by rw [ba_size]; simp [encW])]; rfl
  | p :: r, last, 0, _, h => by simp at h
  | p :: r, last, n + 1, ⟨h1, h2, h3, h4, h5⟩, h => by
    have h6 := lastOk_ne h4
    have e : encW (p :: r) = UInt8.ofNat p.1 :: UInt8.ofNat p.2.length :: (p.2 ++ encW r) := rfl
    have h0 : 0 < (⟨(encW (p :: r)).toArray⟩ : ByteArray).size := by rw [ba_size, e]; simp
    have hu : (UInt8.ofNat p.2.length).toNat = p.2.length := by rw [UInt8.toNat_ofNat']; omega
    have hw : (UInt8.ofNat p.1).toNat = p.1 := by rw [UInt8.toNat_ofNat']; omega
    have hg : (⟨(encW (p :: r)).toArray⟩ : ByteArray)[0] = UInt8.ofNat p.1 := by rw [← getElem_list _ _ h0]; rfl
    have x1 : (⟨(encW (p :: r)).toArray⟩ : ByteArray).extract 1 (⟨(encW (p :: r)).toArray⟩ : ByteArray).size = ⟨(UInt8.ofNat p.2.length :: (p.2 ++ encW r)).toArray⟩ := by
      apply ba_ext
      rw [Lib.extract_data, ba_toList, e, ba_size, ba_toList, List.drop_succ_cons, List.drop_zero]
      exact List.take_of_length_le (by simp)
    have x2 : ((⟨(encW (p :: r)).toArray⟩ : ByteArray).extract 2 (1 + p.2.length + 1)).data.toList = p.2 := by
      rw [Lib.extract_data, ba_toList, e, List.drop_succ_cons, List.drop_succ_cons, List.drop_zero, show 1 + p.2.length + 1 - 2 = p.2.length by omega, List.take_left' rfl]
    have x3 : (⟨(encW (p :: r)).toArray⟩ : ByteArray).extract (1 + p.2.length + 1) (⟨(encW (p :: r)).toArray⟩ : ByteArray).size = ⟨(encW r).toArray⟩ := by
      apply ba_ext
      rw [Lib.extract_data, ba_toList, e, ba_size, ba_toList, show 1 + p.2.length + 1 = p.2.length + 1 + 1 by omega, List.drop_succ_cons, List.drop_succ_cons, List.drop_left' rfl]
      exact List.take_of_length_le (by simp)
    have ih := ty_enc r p.1 n h5 (by rw [e] at h; simp at h; omega)
    rw [tyGo, dif_pos h0, x1, cnt_cons, hu, if_pos (by simp)]
    simp only
    rw [hg, hw, x2, x3, if_pos ⟨h1, by omega, h4⟩, ih]
    simp only [Option.map_some, tysW]
    rw [show 1 + p.2.length - 1 = p.2.length by omega, bitsL_all _ _ h3]
theorem ty_dec : ∀ (n : Nat) (last : Int) (s : ByteArray) (l : List Nat), tyGo n last s = some l → ∃ ws, OkW last ws ∧ s = ⟨(encW ws).toArray⟩ ∧ l = tysW ws
  | 0, last, s, l, h => by cases h
  | n + 1, last, s, l, h => by
    rw [tyGo] at h
    split at h
    · rename_i h0
      cases hc : cntK (s.extract 1 s.size) with
      | none => rw [hc] at h; cases h
      | some m =>
        rw [hc] at h
        simp only at h
        split at h
        · rename_i hcond
          obtain ⟨h1, h2, h3⟩ := hcond
          rw [Option.map_eq_some_iff] at h
          obtain ⟨q, hq, rfl⟩ := h
          obtain ⟨ws, hok, hs, rfl⟩ := ty_dec n _ _ q hq
          have hm := cnt_le hc
          have hz : (s.extract 1 s.size).size = s.size - 1 := by rw [ByteArray.size_extract]; omega
          have hbl : (s.extract 2 (m + 1)).data.toList.length = m - 1 := by rw [size_list, ByteArray.size_extract]; omega
          have hu := s[0].toNat_lt
          refine ⟨(s[0].toNat, (s.extract 2 (m + 1)).data.toList) :: ws, ⟨h1, by omega, by rw [hbl]; omega, h3, hok⟩, ?_, ?_⟩
          · obtain ⟨b, r, hbr, hb, hmb⟩ := cnt_pos hc
            apply ba_ext
            rw [ba_toList, encW, hbl, UInt8.ofNat_toNat]
            have d0 : s.data.toList = s[0] :: s.data.toList.drop 1 := by
              rw [← getElem_list s 0 h0]
              exact (List.drop_eq_getElem_cons (i := 0) (by rw [size_list]; exact h0))
            have d1 : s.data.toList.drop 1 = b :: r := by
              have := congrArg (fun x : ByteArray => x.data.toList) hbr
              simp only [Lib.extract_data] at this
              rw [List.take_of_length_le (by rw [List.length_drop, size_list]; omega)] at this
              exact this
            have hmb' : UInt8.ofNat (m - 1) = b := by rw [hmb, Nat.add_sub_cancel_left, UInt8.ofNat_toNat]
            have d2 : s.data.toList.drop 2 = r := by
              rw [show (2 : Nat) = 1 + 1 by omega, ← List.drop_drop, d1]; rfl
            have d3 : (s.extract 2 (m + 1)).data.toList = r.take (m - 1) := by
              rw [Lib.extract_data, d2, show m + 1 - 2 = m - 1 by omega]
            have d4 : encW ws = r.drop (m - 1) := by
              have := congrArg (fun x : ByteArray => x.data.toList) hs
              simp only [Lib.extract_data] at this
              rw [List.take_of_length_le (by rw [List.length_drop, size_list]; omega), show m + 1 = 2 + (m - 1) by omega, ← List.drop_drop, d2] at this
              exact this.symm
            rw [hmb', d3, d4, List.take_append_drop, ← d1, ← d0]
          · rw [tysW, ← bitsL_all _ _ (by simp only; rw [hbl]; omega), hbl]
        · cases h
    · rename_i h0
      cases h
      exact ⟨[], trivial, ba_empty s (by omega), rfl⟩

/-! ### uniqueness -/
theorem ty_mem : ∀ {ws : List Win} {last : Int} {x : Nat}, OkW last ws → x ∈ tysW ws → last < ((x / 256 : Nat) : Int) ∧ x ≤ 65535
  | [], _, _, _, h => by cases h
  | p :: r, last, x, ⟨h1, h2, h3, h4, h5⟩, h => by
    rw [tysW, List.mem_append] at h
    rcases h with h | h
    · obtain ⟨i, hi, _, rfl⟩ := mem_bits.1 h
      rw [show (p.1 * 256 + i) / 256 = p.1 by omega]
      exact ⟨h1, by omega⟩
    · have := ty_mem h5 h
      exact ⟨by omega, this.2⟩
theorem bits_head {w : Nat} {b : List UInt8} (h : lastOk b = true) (h3 : b.length ≤ 32) : ∃ x r, bitsL w b 256 = x :: r := by
  obtain ⟨i, hi, hb⟩ := last_bit h
  cases hl : bitsL w b 256 with
  | cons x r => exact ⟨x, r, rfl⟩
  | nil =>
    have : w * 256 + i ∈ bitsL w b 256 := mem_bits.2 ⟨i, by omega, hb, rfl⟩
    rw [hl] at this
    cases this
theorem bits_filter {w : Nat} {b : List UInt8} {r : List Win} {last : Int} (h : OkW (w : Int) r) : (bitsL w b 256 ++ tysW r).filter (fun x => decide (x / 256 = w)) = bitsL w b 256 ∧ (bitsL w b 256 ++ tysW r).filter (fun x => !decide (x / 256 = w)) = tysW r := by
  have ha : ∀ x ∈ bitsL w b 256, x / 256 = w := fun x hx => by
    obtain ⟨i, hi, _, rfl⟩ := mem_bits.1 hx
    omega
  have hb : ∀ x ∈ tysW r, ¬ x / 256 = w := fun x hx => by
    have := (ty_mem h hx).1
    omega
  rw [List.filter_append, List.filter_append]
  constructor
  · rw [List.filter_eq_self.2 (fun x hx => by simp [ha x hx]), List.filter_eq_nil_iff.2 (fun x hx => by simp [hb x hx]), List.append_nil]
  · rw [List.filter_eq_nil_iff.2 (fun x hx => by simp [ha x hx]), List.filter_eq_self.2 (fun x hx => by simp [hb x hx]), List.nil_append]
theorem bits_inj {w : Nat} {b c : List UInt8} (hb : lastOk b = true) (hc : lastOk c = true) (lb : b.length ≤ 32) (lc : c.length ≤ 32) (h : bitsL w b 256 = bitsL w c 256) : b = c := by
  apply bits_ext hb hc
  have key : ∀ (b c : List UInt8), b.length ≤ 32 → bitsL w b 256 = bitsL w c 256 → ∀ i, bitAt b i = true → bitAt c i = true := by
    intro b c lb h i hi
    have hl : i < 256 := by
      apply Decidable.byContradiction
      intro hge
      rw [bit_far b i (by omega)] at hi
      cases hi
    have : w * 256 + i ∈ bitsL w c 256 := by rw [← h]; exact mem_bits.2 ⟨i, hl, hi, rfl⟩
    obtain ⟨j, _, hj, e⟩ := mem_bits.1 this
    obtain rfl : i = j := by omega
    exact hj
  intro i
  cases h1 : bitAt b i with
  | true => rw [key b c lb h i h1]
  | false =>
    cases h2 : bitAt c i with
    | false => rfl
    | true => rw [key c b lc h.symm i h2] at h1; cases h1
theorem win_inj : ∀ (a b : List Win) (la lb : Int), OkW la a → OkW lb b → tysW a = tysW b → a = b
  | [], [], _, _, _, _, _ => rfl
  | [], q :: s, _, _, _, ⟨_, _, h3, h4, _⟩, h => by
    obtain ⟨x, r, e⟩ := bits_head (w := q.1) h4 h3
    rw [tysW, tysW, e] at h
    cases h
  | p :: r, [], _, _, ⟨_, _, h3, h4, _⟩, _, h => by
    obtain ⟨x, r, e⟩ := bits_head (w := p.1) h4 h3
    rw [tysW, tysW, e] at h
    cases h
  | p :: r, q :: s, la, lb, ⟨h1, h2, h3, h4, h5⟩, ⟨k1, k2, k3, k4, k5⟩, h => by
    rw [tysW, tysW] at h
    have hw : p.1 = q.1 := by
      obtain ⟨x, r', e⟩ := bits_head (w := p.1) h4 h3
      obtain ⟨y, s', f⟩ := bits_head (w := q.1) k4 k3
      have hx : x ∈ bitsL p.1 p.2 256 := by rw [e]; simp
      have hy : y ∈ bitsL q.1 q.2 256 := by rw [f]; simp
      rw [e, f] at h
      obtain rfl : x = y := by simp at h; exact h.1
      obtain ⟨i, hi, _, rfl⟩ := mem_bits.1 hx
      obtain ⟨j, hj, _, e'⟩ := mem_bits.1 hy
      omega
    obtain ⟨w, b⟩ := p
    obtain ⟨w', c⟩ := q
    simp only at hw h h3 h4 h5 k3 k4 k5
    subst hw
    obtain ⟨f1, f2⟩ := bits_filter (b := b) (last := la) h5
    obtain ⟨g1, g2⟩ := bits_filter (b := c) (last := la) k5
    rw [h] at f1 f2
    have hbc := bits_inj h4 k4 h3 k3 (f1.symm.trans g1)
    subst hbc
    rw [win_inj r s _ _ h5 k5 (f2.symm.trans g2)]

/-! ### one type more -/
def addT (ws : List Win) (k : Nat) : List Win := match ws.getLast? with
  | some p => if p.1 = k / 256 then ws.dropLast ++ [(p.1, setB p.2 (k % 256))] else ws ++ [(k / 256, setB [] (k % 256))]
  | none => [(k / 256, setB [] (k % 256))]
theorem okW_snoc : ∀ (ws : List Win) (last : Int) (p : Win), OkW last ws → (∀ q ∈ ws, q.1 < p.1) → last < (p.1 : Int) → p.1 ≤ 255 → p.2.length ≤ 32 → lastOk p.2 = true → OkW last (ws ++ [p])
  | [], last, p, _, _, h1, h2, h3, h4 => ⟨h1, h2, h3, h4, trivial⟩
  | q :: r, last, p, ⟨k1, k2, k3, k4, k5⟩, hq, h1, h2, h3, h4 => ⟨k1, k2, k3, k4, okW_snoc r q.1 p k5 (fun x hx => hq x (by simp [hx])) (by have := hq q (by simp); omega) h2 h3 h4⟩
theorem okW_parts : ∀ (ws : List Win) (last : Int) (p : Win), OkW last (ws ++ [p]) → OkW last ws ∧ (∀ q ∈ ws, q.1 < p.1) ∧ last < (p.1 : Int) ∧ p.1 ≤ 255 ∧ p.2.length ≤ 32 ∧ lastOk p.2 = true
  | [], last, p, ⟨h1, h2, h3, h4, _⟩ => ⟨trivial, by simp, h1, h2, h3, h4⟩
  | q :: r, last, p, ⟨k1, k2, k3, k4, k5⟩ => by
    obtain ⟨a1, a2, a3, a4, a5, a6⟩ := okW_parts r q.1 p k5
    refine ⟨⟨k1, k2, k3, k4, a1⟩, fun x hx => ?_, by omega, a4, a5, a6⟩
    rcases List.mem_cons.1 hx with rfl | hx
    · omega
    · exact a2 x hx
theorem setB_nil_len (k : Nat) (h : k < 256) : (setB [] k).length ≤ 32 := by rw [setB_len]; simp; omega
theorem new_ok (k : Nat) (hk : k ≤ 65535) : lastOk (setB [] (k % 256)) = true ∧ bitsL (k / 256) (setB [] (k % 256)) 256 = [k] := by
  refine ⟨setB_last [] _ (by simp), ?_⟩
  rw [setB_bits (k / 256) [] (k % 256) (by omega) (fun i hi => by rw [bit_far [] i (by simp)] at hi; cases hi)]
  have : bitsL (k / 256) [] 256 = [] := by
    unfold bitsL
    rw [filter_low _ 0 (fun i _ => bit_far [] i (by simp)) 256 (by omega)]
    rfl
  rw [this, List.nil_append, show k / 256 * 256 + k % 256 = k by omega]
theorem addT_ok (ws : List Win) (k : Nat) (hk : k ≤ 65535) (h : OkW (-1) ws) (hl : ∀ x ∈ tysW ws, x < k) : OkW (-1) (addT ws k) ∧ tysW (addT ws k) = tysW ws ++ [k] := by
  obtain ⟨n1, n2⟩ := new_ok k hk
  rcases List.eq_nil_or_concat ws with rfl | ⟨r, p, rfl⟩
  · refine ⟨⟨by simp only; omega, by simp only; omega, setB_nil_len _ (by omega), n1, trivial⟩, ?_⟩
    show bitsL (k / 256) (setB [] (k % 256)) 256 ++ [] = [k]
    rw [n2, List.append_nil]
  · rw [List.concat_eq_append] at h hl ⊢
    obtain ⟨a1, a2, a3, a4, a5, a6⟩ := okW_parts r _ p h
    have hbit : ∀ i, bitAt p.2 i = true → p.1 * 256 + i < k := fun i hi => by
      have hi2 : i < 256 := by
        apply Decidable.byContradiction
        intro hge
        rw [bit_far p.2 i (by omega)] at hi
        cases hi
      apply hl
      rw [tysW_app, List.mem_append]
      right
      rw [tysW, tysW, List.append_nil]
      exact mem_bits.2 ⟨i, hi2, hi, rfl⟩
    obtain ⟨i, hi, hb⟩ := last_bit a6
    have hik := hbit i hb
    unfold addT
    rw [List.getLast?_concat]
    simp only
    split
    · rename_i hw
      rw [List.dropLast_concat]
      have hkm : ∀ j, bitAt p.2 j = true → j < k % 256 := fun j hj => by have := hbit j hj; omega
      have hm := hkm i hb
      refine ⟨okW_snoc r _ _ a1 a2 a3 a4 (by simp only; rw [setB_len]; omega) (setB_last _ _ (by omega)), ?_⟩
      rw [tysW_app, tysW_app, List.append_assoc]
      congr 1
      simp only [tysW, List.append_nil]
      rw [setB_bits p.1 p.2 (k % 256) (by omega) hkm, show p.1 * 256 + k % 256 = k by omega]
    · rename_i hw
      refine ⟨okW_snoc _ _ _ h (fun q hq => ?_) (by simp only; omega) (by simp only; omega) (setB_nil_len _ (by omega)) n1, ?_⟩
      · simp only
        rcases List.mem_append.1 hq with hq | hq
        · have := a2 q hq
          omega
        · simp only [List.mem_singleton] at hq
          subst hq
          omega
      · rw [tysW_app (r ++ [p])]
        congr 1
        show bitsL (k / 256) (setB [] (k % 256)) 256 ++ [] = [k]
        rw [n2, List.append_nil]
/-- types that rise. -/
def Rise : Int → List Nat → Prop
  | _, [] => True
  | last, k :: r => last < (k : Int) ∧ k ≤ 65535 ∧ Rise k r
theorem addAll_ok : ∀ (l : List Nat) (ws : List Win) (last : Int), OkW (-1) ws → (∀ x ∈ tysW ws, (x : Int) ≤ last) → Rise last l → OkW (-1) (l.foldl addT ws) ∧ tysW (l.foldl addT ws) = tysW ws ++ l
  | [], ws, last, h, _, _ => ⟨h, by simp⟩
  | k :: r, ws, last, h, hl, ⟨h1, h2, h3⟩ => by
    obtain ⟨a1, a2⟩ := addT_ok ws k h2 h (fun x hx => by have := hl x hx; omega)
    obtain ⟨b1, b2⟩ := addAll_ok r (addT ws k) k a1 (fun x hx => by
      rw [a2, List.mem_append] at hx
      rcases hx with hx | hx
      · have := hl x hx; omega
      · simp only [List.mem_singleton] at hx; omega) h3
    exact ⟨b1, by rw [List.foldl_cons, b2, a2]; simp⟩
theorem rise_of : ∀ (l : List Nat) (last : Int), l.Pairwise (· < ·) → (∀ x ∈ l, last < (x : Int) ∧ x ≤ 65535) → Rise last l
  | [], _, _, _ => trivial
  | k :: r, last, hp, hm => by
    have hk := hm k (by simp)
    rw [List.pairwise_cons] at hp
    exact ⟨hk.1, hk.2, rise_of r k hp.2 (fun x hx => ⟨by have := hp.1 x hx; omega, (hm x (by simp [hx])).2⟩)⟩
theorem bits_pw (w : Nat) (b : List UInt8) (n : Nat) : (bitsL w b n).Pairwise (· < ·) := by
  unfold bitsL
  refine List.Pairwise.map _ (fun a b (h : a < b) => by omega) (List.Pairwise.filter _ List.pairwise_lt_range)
theorem ty_pw : ∀ (ws : List Win) (last : Int), OkW last ws → (tysW ws).Pairwise (· < ·)
  | [], _, _ => List.Pairwise.nil
  | p :: r, last, ⟨h1, h2, h3, h4, h5⟩ => by
    rw [tysW, List.pairwise_append]
    refine ⟨bits_pw _ _ _, ty_pw r _ h5, fun a ha b hb => ?_⟩
    obtain ⟨i, hi, _, rfl⟩ := mem_bits.1 ha
    have := (ty_mem h5 hb).1
    omega

/-- a list of types as bytes. -/
def encT (l : List Nat) : List UInt8 := encW (l.foldl addT [])
/-- types that were read rise, and are put down as they were. -/
theorem typesR_back {s : ByteArray} {l : List Nat} (h : typesR s = some l) : Rise (-1) l ∧ s = ⟨(encT l).toArray⟩ := by
  obtain ⟨ws, hok, hs, hl⟩ := ty_dec _ _ _ _ h
  have hr : Rise (-1) l := by
    rw [hl]
    exact rise_of _ _ (ty_pw ws _ hok) (fun x hx => ⟨by have := (ty_mem hok hx).1; omega, (ty_mem hok hx).2⟩)
  refine ⟨hr, ?_⟩
  obtain ⟨a1, a2⟩ := addAll_ok l [] (-1) trivial (by simp [tysW]) hr
  have := win_inj _ _ _ _ a1 hok (by rw [a2, ← hl]; rfl)
  rw [encT, this]
  exact hs
/-- types that rise are read as they are. -/
theorem typesR_enc {l : List Nat} (h : Rise (-1) l) : typesR ⟨(encT l).toArray⟩ = some l := by
  obtain ⟨a1, a2⟩ := addAll_ok l [] (-1) trivial (by simp [tysW]) h
  unfold typesR encT
  rw [ty_enc _ _ _ a1 (by rw [ba_size]; omega), a2]
  rfl
end Go.Proofs.YtdhcbaennpediaaGreatDoor

/- A string of TXT, how it is told. -/
namespace Go.Proofs.YtdhcbaennpediaaGreatDoor
set_option linter.unusedVariables false
open Go.RowKit

/-- how a string tells a byte. -/
def strL (b : UInt8) : List UInt8 := if b.toNat = 34 ∨ b.toNat = 92 then [92, b] else if 32 ≤ b.toNat ∧ b.toNat ≤ 126 then [b] else [92, UInt8.ofNat (48 + b.toNat / 100), UInt8.ofNat (48 + b.toNat / 10 % 10), UInt8.ofNat (48 + b.toNat % 10)]
theorem strL_len (b : UInt8) : (strL b).length ≤ 4 ∧ 1 ≤ (strL b).length := by
  unfold strL; split
  · simp
  · split <;> simp

/-- what an append of bytes owes: the longer row, and nothing else has turned. -/
def AppB (base : Nat) (W : World) (l m : List UInt8) (e : Ending) (w' : World) : Prop :=
  (∃ v', e = .returned v' ∧ w'.ownsRow base 5 1 v' (l ++ m).length (Lib.byteCells (l ++ m))) ∧ Below base W w'
theorem appB_of {base : Nat} {W w1 : World} {v v' : Value} {l m : List UInt8} {tmp : Obj} (hrow : W.ownsRow base 5 1 v l.length (Lib.byteCells l)) (hbase : base ≤ W.heap.size)
    (hown : w1.ownsRow base 5 1 v' (l.length + m.length) (Lib.byteCells l ++ Lib.byteCells m)) (hgrow : (W.alloc tmp).grownBy w1 v.ownBlock) : AppB base W l m (.returned v') w1 := by
  refine ⟨⟨v', rfl, ?_⟩, ((Below.refl base W).alloc hbase _).grown hgrow (by simp; omega) (own_base hrow)⟩
  rw [List.length_append, byteCells_snoc]; exact hown

set_option maxRecDepth 100000 in
set_option maxHeartbeats 1000000 in
theorem strTold_in (base : Nat) (W : World) (v : Value) (l : List UInt8) (b : UInt8) (hl : l.length ≤ 4000000) (hrow : W.ownsRow base 5 1 v l.length (Lib.byteCells l)) (hbase : base ≤ W.heap.size) :
    Calls Tryz.prog 174 #[v, .int .u8 (b.toNat : Int)] W fun e w' => AppB base W l (strL b) e w' := by
  obtain ⟨i0, hi, hz0, hz1, hz2⟩ := info_parts info5
  have hb8 := b.toNat_lt
  by_cases h1 : b.toNat = 34 ∨ b.toNat = 92
  · have ht : strL b = [92, b] := if_pos h1
    have hcs : Lib.byteCells [92, b] = [.int .u8 92, .int .u8 (b.toNat : Int)] := rfl
    have hfin : ∀ v' w1, w1.ownsRow base 5 1 v' (l.length + 2) (Lib.byteCells l ++ [.int .u8 92, .int .u8 (b.toNat : Int)]) → (W.alloc (.cells #[.int .u8 92, .int .u8 (b.toNat : Int)] 5)).grownBy w1 v.ownBlock → AppB base W l (strL b) (.returned v') w1 := by
      intro v' w1 h2 h3
      rw [ht]
      exact appB_of (m := [92, b]) hrow hbase (by rw [hcs]; exact h2) h3
    have HF := Hid.mk hfin
    have hrow' := row_alloc hrow (.cells #[.int .u8 92, .int .u8 (b.toNat : Int)] 5)
    have hnew : ∀ j u, ([.int .u8 92, .int .u8 (b.toNat : Int)] : List Value)[j]? = some u → (W.alloc (.cells #[.int .u8 92, .int .u8 (b.toNat : Int)] 5)).cell? ((⟨W.heap.size, 0, none⟩ : Addr).add j) = some u := fun j u h => cells_new1 W _ 5 j u h
    have HN := Hid.mk hnew
    clear hfin ht hcs hnew
    by_cases h34 : b.toNat = 34
    · have hb1 : ((b.toNat : Int) == 34) = true := by rw [h34]; rfl
      clear h1 h34
      go_enter Tryz.func174, Tryz.ntmps174
      go_wp2_with (at_builtin; refine wpList_append_own _ rfl _ _ 118 rfl base 5 i0 (.int .u8 0) 1 1 Tryz.underlying118 hi hz0 hz1 hz2 rfl (by decide) _ _ _ rfl hrow' ⟨W.heap.size, 0, none⟩ 2 2 _ rfl rfl HN.out (by simp [Value.oneCell']) (by unfold maxLen; omega) (by omega) (by simp; omega) ?_; intro v1 w1 hown1 hgrow1 _)
      go_ret
      exact HF.out _ _ hown1 hgrow1
    · have hb0 : ((b.toNat : Int) == 34) = false := by rw [beq_eq_false_iff_ne]; omega
      have hb1 : ((b.toNat : Int) == 92) = true := by rw [beq_iff_eq]; omega
      clear h1 h34
      go_enter Tryz.func174, Tryz.ntmps174
      go_wp2_with (at_builtin; refine wpList_append_own _ rfl _ _ 118 rfl base 5 i0 (.int .u8 0) 1 1 Tryz.underlying118 hi hz0 hz1 hz2 rfl (by decide) _ _ _ rfl hrow' ⟨W.heap.size, 0, none⟩ 2 2 _ rfl rfl HN.out (by simp [Value.oneCell']) (by unfold maxLen; omega) (by omega) (by simp; omega) ?_; intro v1 w1 hown1 hgrow1 _)
      go_ret
      exact HF.out _ _ hown1 hgrow1
  · have hb0 : ((b.toNat : Int) == 34) = false := by rw [beq_eq_false_iff_ne]; omega
    have hb1 : ((b.toNat : Int) == 92) = false := by rw [beq_eq_false_iff_ne]; omega
    by_cases h2 : 32 ≤ b.toNat ∧ b.toNat ≤ 126
    · have ht : strL b = [b] := by unfold strL; rw [if_neg h1, if_pos h2]
      have hp1 : (32 : Int) ≤ (b.toNat : Int) := by omega
      have hp2 : (b.toNat : Int) ≤ 126 := by omega
      have hcs : Lib.byteCells [b] = [.int .u8 (b.toNat : Int)] := rfl
      have hfin : ∀ v' w1, w1.ownsRow base 5 1 v' (l.length + 1) (Lib.byteCells l ++ [.int .u8 (b.toNat : Int)]) → (W.alloc (.cells #[.int .u8 (b.toNat : Int)] 5)).grownBy w1 v.ownBlock → AppB base W l (strL b) (.returned v') w1 := by
        intro v' w1 h2 h3
        rw [ht]
        exact appB_of (m := [b]) hrow hbase (by rw [hcs]; exact h2) h3
      have HF := Hid.mk hfin
      have hrow' := row_alloc hrow (.cells #[.int .u8 (b.toNat : Int)] 5)
      clear hfin ht hcs h1
      go_enter Tryz.func174, Tryz.ntmps174
      go_wp2_with ((at_builtin; refine wpList_append_own _ rfl _ _ 118 rfl base 5 i0 (.int .u8 0) 1 1 Tryz.underlying118 hi hz0 hz1 hz2 rfl (by decide) _ _ _ rfl hrow' ⟨W.heap.size, 0, none⟩ 1 1 _ rfl rfl (cell_one_new _ _ _) (by simp [Value.oneCell']) (by unfold maxLen; omega) (by omega) (by simp; omega) ?_; intro v1 w1 hown1 hgrow1 _))
      go_ret
      exact HF.out _ _ hown1 hgrow1
    · have ht : strL b = [92, UInt8.ofNat (48 + b.toNat / 100), UInt8.ofNat (48 + b.toNat / 10 % 10), UInt8.ofNat (48 + b.toNat % 10)] := by unfold strL; rw [if_neg h1, if_neg h2]
      have hcs : Lib.byteCells (strL b) = [.int .u8 92, .int .u8 (48 + (b.toNat : Int) / 100), .int .u8 (48 + (b.toNat : Int) / 10 % 10), .int .u8 (48 + (b.toNat : Int) % 10)] := by
        rw [ht]
        have e1 : (UInt8.ofNat (48 + b.toNat / 100)).toNat = 48 + b.toNat / 100 := by simp; omega
        have e2 : (UInt8.ofNat (48 + b.toNat / 10 % 10)).toNat = 48 + b.toNat / 10 % 10 := by simp; omega
        have e3 : (UInt8.ofNat (48 + b.toNat % 10)).toNat = 48 + b.toNat % 10 := by simp; omega
        have c1 : (((UInt8.ofNat (48 + b.toNat / 100)).toNat : Nat) : Int) = 48 + (b.toNat : Int) / 100 := by rw [e1]; omega
        have c2 : (((UInt8.ofNat (48 + b.toNat / 10 % 10)).toNat : Nat) : Int) = 48 + (b.toNat : Int) / 10 % 10 := by rw [e2]; omega
        have c3 : (((UInt8.ofNat (48 + b.toNat % 10)).toNat : Nat) : Int) = 48 + (b.toNat : Int) % 10 := by rw [e3]; omega
        show [Value.int .u8 ((92 : UInt8).toNat : Int), Value.int .u8 ((UInt8.ofNat (48 + b.toNat / 100)).toNat : Int), Value.int .u8 ((UInt8.ofNat (48 + b.toNat / 10 % 10)).toNat : Int), Value.int .u8 ((UInt8.ofNat (48 + b.toNat % 10)).toNat : Int)] = _
        rw [c1, c2, c3]; rfl
      have hln : (strL b).length = 4 := by rw [ht]; rfl
      generalize hx1 : 48 + (b.toNat : Int) / 100 = x1 at hcs
      generalize hx2 : 48 + (b.toNat : Int) / 10 % 10 = x2 at hcs
      generalize hx3 : 48 + (b.toNat : Int) % 10 = x3 at hcs
      have hfin : ∀ v' w1, w1.ownsRow base 5 1 v' (l.length + 4) (Lib.byteCells l ++ [.int .u8 92, .int .u8 x1, .int .u8 x2, .int .u8 x3]) → (W.alloc (.cells #[.int .u8 92, .int .u8 x1, .int .u8 x2, .int .u8 x3] 5)).grownBy w1 v.ownBlock → AppB base W l (strL b) (.returned v') w1 := by
        intro v' w1 h2 h3
        exact appB_of (m := strL b) hrow hbase (by rw [hcs, hln]; exact h2) h3
      have HF := Hid.mk hfin
      have hrow' := row_alloc hrow (.cells #[.int .u8 92, .int .u8 x1, .int .u8 x2, .int .u8 x3] 5)
      have HN := Hid.mk (fun j u h => cells_new1 W #[.int .u8 92, .int .u8 x1, .int .u8 x2, .int .u8 x3] 5 j u h)
      have hnp : b.toNat < 32 ∨ (32 ≤ b.toNat ∧ 126 < b.toNat) := by omega
      clear hfin ht hcs hln h1 h2
      rcases hnp with hq | ⟨hq1, hq2⟩
      · have hp1 : ¬ (32 : Int) ≤ (b.toNat : Int) := by omega
        clear hq
        go_enter Tryz.func174, Tryz.ntmps174
        go_wp2_with (at_builtin; refine wpList_append_own _ rfl _ _ 118 rfl base 5 i0 (.int .u8 0) 1 1 Tryz.underlying118 hi hz0 hz1 hz2 rfl (by decide) _ _ _ rfl hrow' ⟨W.heap.size, 0, none⟩ 4 4 _ rfl rfl HN.out (by simp [Value.oneCell']) (by unfold maxLen; omega) (by omega) (by simp; omega) ?_; intro v1 w1 hown1 hgrow1 _)
        go_ret
        exact HF.out _ _ hown1 hgrow1
      · have hp1 : (32 : Int) ≤ (b.toNat : Int) := by omega
        have hp2 : ¬ (b.toNat : Int) ≤ 126 := by omega
        clear hq1 hq2
        go_enter Tryz.func174, Tryz.ntmps174
        go_wp2_with (at_builtin; refine wpList_append_own _ rfl _ _ 118 rfl base 5 i0 (.int .u8 0) 1 1 Tryz.underlying118 hi hz0 hz1 hz2 rfl (by decide) _ _ _ rfl hrow' ⟨W.heap.size, 0, none⟩ 4 4 _ rfl rfl HN.out (by simp [Value.oneCell']) (by unfold maxLen; omega) (by omega) (by simp; omega) ?_; intro v1 w1 hown1 hgrow1 _)
        go_ret
        exact HF.out _ _ hown1 hgrow1
end Go.Proofs.YtdhcbaennpediaaGreatDoor

/- Strings of TXT, how they are told. -/
namespace Go.Proofs.YtdhcbaennpediaaGreatDoor
set_option linter.unusedVariables false
open Go.RowKit

def strLs (l : List UInt8) : List UInt8 := l.flatMap strL
theorem strLs_snoc (l : List UInt8) (b : UInt8) : strLs (l ++ [b]) = strLs l ++ strL b := by simp [strLs]
theorem strLs_len (l : List UInt8) : (strLs l).length ≤ 4 * l.length := by
  induction l with
  | nil => simp [strLs]
  | cons b l ih =>
    have := (strL_len b).1
    simp only [strLs, List.flatMap_cons, List.length_append, List.length_cons] at *
    omega
/-- a string between its signs. -/
def strT (l : List UInt8) : List UInt8 := 34 :: strLs l ++ [34]

theorem row_one (W : World) (v : Value) : (W.alloc (.cells #[v] 5)).ownsRow W.heap.size 5 1 (.slice (some ⟨W.heap.size, 0, none⟩) 1 1) 1 [v] :=
  ⟨rfl, .inr ⟨W.heap.size, 1, #[v], rfl, Nat.le_refl _, heap_new _ _, Nat.le_refl _, by unfold maxLen; omega, rfl, rfl⟩⟩

theorem row_back {w : World} {base : Nat} {v : Value} {n : Nat} {l : List UInt8} {xs : List Value} (h : w.ownsRow base 5 1 v n xs) (hn : n = l.length) (hx : xs = Lib.byteCells l) : (convert 118 9 v).run Tryz.prog w = .ok (.string ⟨l.toArray⟩) w := by
  subst hn
  subst hx
  rcases h.2 with ⟨rfl, h0⟩ | ⟨g', cap', cur, rfl, _, hg, _, _, _, ht⟩
  · obtain rfl : l = [] := List.length_eq_zero_iff.1 h0
    kernel_rfl
  · exact run_convert_bytes_back (P := Tryz.prog) w 118 9 5 ⟨g', 0, none⟩ cap' l Tryz.underlying118 Tryz.underlying5 Tryz.underlying9 (fun j hj => Lib.cells_of_row (w := w) hg l.length j _ (by rw [Nat.mul_one] at ht; rw [ht]; simp [Lib.byteCells, hj]))

set_option maxRecDepth 100000 in
set_option maxHeartbeats 1000000 in
theorem tellString_in (s : ByteArray) (hs : s.size ≤ 255) (w : World) :
    Calls Tryz.prog 155 #[.string s] w fun e w' => e = .returned (.string ⟨(strT s.data.toList).toArray⟩) ∧ Below w.heap.size w w' := by
  obtain ⟨i0, hi, hz0, hz1, hz2⟩ := info_parts info5
  go_enter Tryz.func155, Tryz.ntmps155
  go_wp2
  go_loopw [3, 8] (fun v i wr => ∃ k : Nat, k ≤ s.size ∧ i = .int .i64 k ∧ wr.ownsRow w.heap.size 5 1 v (34 :: strLs (s.data.toList.take k)).length (Lib.byteCells (34 :: strLs (s.data.toList.take k))) ∧ w.heap.size ≤ wr.heap.size ∧ Below w.heap.size w wr) (fun _ i _ => s.size - (intOf i).toNat)
  case atStart => exact ⟨0, Nat.zero_le _, rfl, row_one w _, by simp, (Below.refl _ _).alloc (Nat.le_refl _) _⟩
  case round =>
    obtain ⟨k, hk, rfl, hrow, hsz, hbl⟩ := hrel
    have hL := strLs_len (s.data.toList.take k)
    rw [List.length_take, size_list] at hL
    by_cases hlt : k < s.size
    · have hnx : 34 :: strLs (s.data.toList.take (k + 1)) = (34 :: strLs (s.data.toList.take k)) ++ strL s[k] := by
        rw [List.take_succ_eq_append_getElem (by rw [size_list]; exact hlt), strLs_snoc]; rfl
      have HNX := Hid.mk hnx
      have hTl : (34 :: strLs (s.data.toList.take k)).length ≤ 2000 := by simp; omega
      clear hnx hL
      generalize (34 :: strLs (s.data.toList.take k)) = T at hrow HNX hTl
      obtain ⟨q, cap, rfl⟩ := row_slice' hrow
      have HA := Hid.mk (strTold_in w.heap.size wr _ T s[k] (by omega) hrow hsz)
      go_wp2_with fail
      refine HA.out.mono ?_
      rintro e w1 ⟨⟨v1, rfl, hown1⟩, hb1⟩
      have hrelN : ∃ j : Nat, j ≤ s.size ∧ Value.int .i64 ((k : Int) + 1) = .int .i64 j ∧ w1.ownsRow w.heap.size 5 1 v1 (34 :: strLs (s.data.toList.take j)).length (Lib.byteCells (34 :: strLs (s.data.toList.take j))) ∧ w.heap.size ≤ w1.heap.size ∧ Below w.heap.size w w1 :=
        ⟨k + 1, by omega, by go_num, by rw [HNX.out]; exact hown1, Nat.le_trans hsz hb1.size, hbl.trans hb1⟩
      go_wp2
      exact ⟨hrelN, by simp [intOf]; omega⟩
    · have hall : s.data.toList.take k = s.data.toList := List.take_of_length_le (by rw [size_list]; omega)
      rw [hall] at hrow hL
      have hTl : (34 :: strLs s.data.toList).length ≤ 2000 := by simp; omega
      have HT : Hid (strT s.data.toList = (34 :: strLs s.data.toList) ++ [34]) := rfl
      clear hall hL
      generalize (34 :: strLs s.data.toList) = T at hrow hTl HT
      obtain ⟨q, cap, rfl⟩ := row_slice' hrow
      go_wp2_with (at_builtin; refine wpList_append_own _ rfl _ _ 118 rfl w.heap.size 5 i0 (.int .u8 0) 1 1 Tryz.underlying118 hi hz0 hz1 hz2 rfl (by decide) _ _ _ rfl (hrow.alloc _) ⟨wr.heap.size, 0, none⟩ 1 1 [.int .u8 34] rfl rfl (cell_one_new _ _ _) (by simp [Value.oneCell']) (by unfold maxLen; omega) (by omega) (by simp; omega) ?_; intro v1 w1 hown1 hgrow1 _; have hcv := row_back (l := T ++ [34]) hown1 (by simp) (by rw [byteCells_snoc]; rfl))
      have hb1 : Below w.heap.size wr w1 := ((Below.refl _ _).alloc hsz _).grown hgrow1 (by simp; omega) (own_base hrow)
      go_ret
      exact ⟨by rw [HT.out]; rfl, hbl.trans hb1⟩
end Go.Proofs.YtdhcbaennpediaaGreatDoor

/- TXT: how it is told, whole. -/
namespace Go.Proofs.YtdhcbaennpediaaGreatDoor
set_option linter.unusedVariables false
open Go.RowKit

/-- the strings of a piece. -/
def spl : Nat → ByteArray → List ByteArray
  | 0, _ => []
  | n + 1, s => if h : 0 < s.size then s.extract 1 (1 + s[0].toNat) :: spl n (s.extract (1 + s[0].toNat) s.size) else []
theorem spl_end (n : Nat) (s : ByteArray) (h : s.size = 0) : spl (n + 1) s = [] := by rw [spl, dif_neg (by omega)]
theorem spl_go (n : Nat) (s : ByteArray) (h : 0 < s.size) : spl (n + 1) s = s.extract 1 (1 + s[0].toNat) :: spl n (s.extract (1 + s[0].toNat) s.size) := by rw [spl, dif_pos h]

def strB (s : ByteArray) : ByteArray := ⟨(strT s.data.toList).toArray⟩
/-- how a piece of TXT is told. -/
def txtT (s : ByteArray) : List UInt8 := Lib.join (((spl (s.size + 1) s).map strB).map (·.data.toList)) [32]

theorem strB_size (s : ByteArray) (h : s.size ≤ 255) : (strB s).size ≤ 1100 := by
  have := strLs_len s.data.toList
  rw [size_list] at this
  rw [strB, ba_size, strT]
  simp
  omega

set_option maxRecDepth 100000 in
set_option maxHeartbeats 1000000 in
theorem tellStrings_in (s : ByteArray) (hs : s.size ≤ 2000) (hok : moreOk (s.size + 1) s = true) (W : World) :
    Calls Tryz.prog 113 #[.string s] W fun e w' => e = .returned (.string ⟨(txtT s).toArray⟩) ∧ Below W.heap.size W w' := by
  obtain ⟨i0, hi, hz0, hz1, hz2⟩ := info_parts info9
  obtain ⟨A, hA⟩ : ∃ A, (spl (s.size + 1) s).map strB = A := ⟨_, rfl⟩
  have hT : txtT s = Lib.join (A.map (·.data.toList)) [32] := by rw [txtT, hA]
  rw [hT]
  have HA := Hid.mk hA
  have HOK := Hid.mk hok
  clear hok hA hT
  go_enter Tryz.func113, Tryz.ntmps113
  go_wp2
  go_loopw [4] (fun v wr => ∃ (ws : List ByteArray) (x : ByteArray) (n : Nat), Rd wr W.heap.size x ∧ x.size < n ∧ ws.length + x.size ≤ 2000 ∧ wr.ownsRow (W.heap.size + 1) 9 1 v ws.length (baV ws) ∧ Hid (∀ y ∈ ws, y.size ≤ 1100) ∧ Hid (moreOk n x = true) ∧ Hid (ws ++ (spl n x).map strB = A) ∧ W.heap.size + 1 ≤ wr.heap.size ∧ Below W.heap.size W wr) (fun _ wr => rdLen wr W.heap.size)
  case atStart => exact ⟨[], s, s.size + 1, heap_new _ _, by omega, by simpa using hs, World.ownsRow_nil .., Hid.mk (fun y hy => absurd hy (by simp)), HOK, HA, by simp, (Below.refl _ _).alloc (Nat.le_refl _) _⟩
  case round =>
    obtain ⟨ws, x, n, hrd, hxn, hwx, hrow, HY, HM, HS, hsz, hbl⟩ := hrel
    obtain ⟨n, rfl⟩ : ∃ m, n = m + 1 := ⟨n - 1, by omega⟩
    have HLn := Hid.mk hrd.len
    have hcl := hrd.cell
    obtain ⟨q, cap, rfl⟩ := row_as hrow
    by_cases hx0 : 0 < x.size
    · obtain ⟨hn1, hn2⟩ := ne_text x hx0
      have hxf : 1 + x[0].toNat ≤ x.size := by
        by_cases hxf : 1 + x[0].toNat ≤ x.size
        · exact hxf
        · have := HM.out
          rw [more_no n x hx0 (by omega)] at this
          cases this
      have hb8 := x[0].toNat_lt
      have HC := Hid.mk (counted_yes wr W.heap.size x (by unfold maxLen; omega) hrd hx0 hxf)
      have hez : (x.extract (1 + x[0].toNat) x.size).size < x.size := by rw [ByteArray.size_extract]; omega
      have hyz : (x.extract 1 (1 + x[0].toNat)).size ≤ 255 := by rw [ByteArray.size_extract]; omega
      have hr1 := hrd.set (x.extract (1 + x[0].toNat) x.size)
      have hk1 := Kept.set W.heap.size 0 wr (.string (x.extract (1 + x[0].toNat) x.size))
      have HM1 : Hid (moreOk n (x.extract (1 + x[0].toNat) x.size) = true) := by
        rw [Hid, ← more_go n x hx0 hxf]; exact HM.out
      have HS1 : Hid (ws ++ (x.extract 1 (1 + x[0].toNat) :: spl n (x.extract (1 + x[0].toNat) x.size)).map strB = A) := by
        rw [Hid, ← spl_go n x hx0]; exact HS.out
      clear hxf HM HS
      generalize x.extract (1 + x[0].toNat) x.size = x1 at HC hez hr1 hk1 HM1 HS1
      generalize x.extract 1 (1 + x[0].toNat) = y at HC hyz HS1
      have HT := Hid.mk (tellString_in y hyz)
      have hst : strB y = ⟨(strT y.data.toList).toArray⟩ := rfl
      have HYZ := Hid.mk (strB_size y hyz)
      have HS2 : Hid (ws ++ (strB y :: (spl n x1).map strB) = A) := HS1
      rw [← hst] at HT
      clear HS1
      generalize strB y = sy at HT HYZ hst HS2
      clear hst
      go_wp2_with fail
      refine HC.out.mono ?_
      rintro e w1 ⟨rfl, rfl⟩
      go_wp2_with fail
      refine (HT.out _).mono ?_
      rintro e w2 ⟨rfl, hb2⟩
      have hrd2 := hr1.below hb2
      have hrow2 := row_bel (row_kept' hrow hk1 (by omega)) hb2
      have hsz2 : W.heap.size + 1 ≤ w2.heap.size := Nat.le_trans (Nat.le_trans hsz hk1.size) hb2.size
      have hbl1 : Below W.heap.size W _ := hbl.trans (hk1.below (Nat.le_refl _) (by omega))
      have hbl2 : Below W.heap.size W w2 := hbl1.trans (hb2.mono (Nat.le_trans (by omega) hk1.size))
      clear hrow
      go_wp2_with (at_builtin; refine wpList_append_own _ rfl _ _ 84 rfl (W.heap.size + 1) 9 i0 (.string ⟨#[]⟩) 1 16 Tryz.underlying84 hi hz0 hz1 hz2 rfl (by decide) _ _ _ rfl (hrow2.alloc _) ⟨w2.heap.size, 0, none⟩ 1 1 [.string sy] rfl rfl (cell_one_new _ _ _) (by simp [Value.oneCell']) (by unfold maxLen; omega) (by omega) (by simp; omega) ?_; intro v1 w3 hown3 hgrow3 _)
      have hb3 : Below (W.heap.size + 1) w2 w3 := ((Below.refl _ w2).alloc hsz2 _).grown hgrow3 (by simp; omega) (rowBaseB hrow2)
      have hrd3 := hrd2.belowTo hb3 (by omega)
      have HLT : Hid (rdLen w3 W.heap.size < rdLen wr W.heap.size) := by
        rw [Hid, HLn.out, hrd3.len]; exact hez
      have hrelN : ∃ (ws : List ByteArray) (x : ByteArray) (n : Nat), Rd w3 W.heap.size x ∧ x.size < n ∧ ws.length + x.size ≤ 2000 ∧ w3.ownsRow (W.heap.size + 1) 9 1 v1 ws.length (baV ws) ∧ Hid (∀ y ∈ ws, y.size ≤ 1100) ∧ Hid (moreOk n x = true) ∧ Hid (ws ++ (spl n x).map strB = A) ∧ W.heap.size + 1 ≤ w3.heap.size ∧ Below W.heap.size W w3 := by
        refine ⟨ws ++ [sy], x1, n, hrd3, by omega, by simp; omega, ?_, Hid.mk (fun z hz => ?_), HM1, ?_, Nat.le_trans hsz2 hb3.size, hbl2.trans (hb3.mono (by omega))⟩
        · rw [List.length_append, baV, List.map_append]; exact hown3
        · rcases List.mem_append.1 hz with h | h
          · exact HY.out z h
          · rw [List.mem_singleton.1 h]; exact HYZ.out
        · rw [Hid, List.append_assoc]; exact HS2.out
      go_wp2
      go_roundw
      case rel => exact hrelN
      case measure => exact HLT.out
    · have hxe := ba_empty x (by omega)
      subst hxe
      have hwA : ws = A := by
        have := HS.out
        rw [spl_end n _ rfl] at this
        simpa using this
      subst hwA
      have hjl := join_len [32] ws 1100 HY.out
      have hwl : ws.length * (1100 + [(32 : UInt8)].length) ≤ 140737488355328 := by
        refine Nat.le_trans (Nat.mul_le_mul_right _ (show ws.length ≤ 2000 by omega)) (by decide)
      have HJ := Hid.mk (join_row ⟨#[32]⟩ hrow (by omega) (Nat.le_trans hjl hwl))
      clear hjl hwl hrow
      go_wp2_with fail
      refine HJ.out.mono ?_
      rintro e w3 ⟨rfl, hb3⟩
      go_wp2
      go_ret
      exact ⟨rfl, hbl.trans (hb3.mono (by omega))⟩
end Go.Proofs.YtdhcbaennpediaaGreatDoor

/- The chapter's two readings of A. -/
namespace Go.Proofs.YtdhcbaennpediaaGreatDoor
set_option linter.unusedVariables false
open Go.RowKit

def dmOf (t : ByteArray) : Nat → ByteArray → Prop := fun k s => k = 0 → s = t
def rfOf (t x : ByteArray) : Nat → ByteArray → Option (ByteArray × ByteArray) := fun _ _ => some (x, restB t)

theorem jn_one (x : ByteArray) : jn [x] = x := by
  apply ba_ext
  show Lib.join [x.data.toList] [] = x.data.toList
  exact Lib.join_one _ _

theorem readA_in (t : ByteArray) (ht : t.size ≤ 1000) (gs : List ByteArray) (ns : List Nat) (hlen : gs.length = ns.length) (h4 : ns.length = 4)
    (hok : ∀ j (h1 : j < gs.length) (h2 : j < ns.length), gs[j].size ≤ 1000 ∧ ns[j] < 256 ∧ Lib.parseIntB 64 gs[j].data.toList = .ok (ns[j] : Int))
    (hws : (wordB t).size ≤ 1000) (hrs : (restB t).size ≤ 1000) (hgs : Lib.splitB ⟨#[46]⟩ 0 (min 5 ((wordB t).size + 1) - 1) (wordB t) = gs) (W : World) (hG : Glob W) :
    Calls Tryz.prog 32 #[.int .i64 1, .string t] W fun e w' => e = .returned (if (⟨(aT ⟨(ns.map UInt8.ofNat).toArray⟩).toArray⟩ : ByteArray) = t then .tuple #[.string ⟨(ns.map UInt8.ofNat).toArray⟩, .int .i64 0] else .tuple #[.string ⟨#[]⟩, .int .i64 7]) ∧ Below W.heap.size W w' := by
  obtain ⟨x, hx⟩ : ∃ x : ByteArray, (⟨(ns.map UInt8.ofNat).toArray⟩ : ByteArray) = x := ⟨_, rfl⟩
  have hxz : x.size = 4 := by rw [← hx, ba_size, List.length_map, h4]
  have hU := understood_in W 1 (by omega) 1 t (by omega) (dmOf t) (fun _ => rfl) (rfOf t x) hG (fun k s q hq hs => by
      cases hq
      exact ⟨by show x.size ≤ _; omega, by show (restB t).size ≤ _; omega⟩) (fun k s q _ _ h => absurd h (by omega)) (fun w hGw => by
      refine (partsOf_A w).mono ?_
      rintro e w1 ⟨g, b, hg, hgb, rfl, hc, hbx, hb⟩
      refine ⟨g, fun _ => aPart b, rfl, hg, one_part hc, fun _ _ => enters_by Tryz.func107 (by kernel_rfl) rfl, ?_, hb⟩
      intro k hk W' d s' hkp hd hGK hr hs' hdm
      obtain rfl : k = 0 := by omega
      obtain rfl := hdm rfl
      have := grpRead_ok W' b d (by omega) (hbx.kept hkp (by omega)) s' hr ht hGK gs ns hlen (by omega) hok hws hgs
      rw [hx] at this
      exact this)
  have hrp : readP (rfOf t x) 1 0 t = some [x] := rfl
  rw [hrp] at hU
  have h := read_of (t := ⟨(aT x).toArray⟩) (by omega) hU (fun w hb => by
    rw [jn_one]
    exact told_A x hxz w (hG.below hb).pow)
  rw [jn_one] at h
  rw [hx]
  exact h
end Go.Proofs.YtdhcbaennpediaaGreatDoor

/- The form of TXT: split, told, read. -/
namespace Go.Proofs.YtdhcbaennpediaaGreatDoor
set_option linter.unusedVariables false
open Go.RowKit

abbrev txtP : Array Value := #[fnV 112 #[], fnV 113 #[], fnV 114 #[], .bool false]
theorem stringsPart_in (w : World) : Calls Tryz.prog 84 #[] w fun e w' => e = .returned (.agg txtP) ∧ Below w.heap.size w w' := by
  have hmf := mkf
  go_enter Tryz.func84, Tryz.ntmps84
  go_wp2
  exact bodyPost_ret (v := .agg txtP) (by simp [results, Tryz.results84, go_sem]) rfl ⟨rfl, by first | exact (Below.refl _ _).alloc (Nat.le_refl _) _ | exact Below.refl _ _⟩

set_option maxRecDepth 100000 in
theorem partsOf_T (w : World) : Calls Tryz.prog 65 #[.int .i64 16] w fun e w' => ∃ g, w.heap.size ≤ g ∧
    e = .returned (.slice (some ⟨g, 0, none⟩) 1 1) ∧ w'.heap[g]? = some (.cells txtP 128 (0, 0)) ∧ Below w.heap.size w w' := by
  have hmf := mkf
  go_enter Tryz.func65, Tryz.ntmps65
  go_wp2_with fail
  refine (numberPart_in _ _).mono ?_
  rintro e w1 ⟨rfl, ho1, hb1⟩
  go_wp2_with fail
  refine (numberPart_in _ _).mono ?_
  rintro e w2 ⟨rfl, ho2, hb2⟩
  go_wp2_with fail
  refine (numberPart_in _ _).mono ?_
  rintro e w3 ⟨rfl, ho3, hb3⟩
  clear ho1 ho2 ho3
  go_wp2_with fail
  refine (stringsPart_in _).mono ?_
  rintro e w4 ⟨rfl, hb4⟩
  have k3 : Below w.heap.size w w3 := bth (bth hb1 hb2 hb1.size) hb3 (Nat.le_trans hb1.size hb2.size)
  have s3 := k3.size
  have k6 : Below w.heap.size w w4 := (((k3.alloc s3 _).alloc (by simp; omega) _).alloc (by simp; omega) _).trans (hb4.mono (by simp; omega))
  clear hb1 hb2 hb3 hb4
  go_wp2
  go_ret
  exact ⟨w4.heap.size, k6.size, rfl, heap_new _ _, k6.alloc k6.size _⟩

def txtPart : Part := ⟨112, #[], 113, #[], 114, #[], false⟩
def txtForm : Form := { n := 1, pf := txtPf, tf := fun _ x => ⟨(txtT x).toArray⟩, ok := fun _ x => x.size ≤ 2000 ∧ moreOk (x.size + 1) x = true }

theorem form_T (w : World) : Calls Tryz.prog 65 #[.int .i64 16] w fun e w' => FormPost txtForm w e w' := by
  refine (partsOf_T w).mono ?_
  rintro e w1 ⟨g, hg, rfl, hc, hb⟩
  refine ⟨g, fun _ => txtPart, rfl, one_part hc, fun _ _ => enters_by Tryz.func112 (by kernel_rfl) rfl, ?_, hb, fun _ _ => enters_by Tryz.func113 (by kernel_rfl) rfl, ?_⟩
  · intro k _ W' d s' hb' _ hr hs
    exact passStrings_in W' d s' hs hr
  · intro k _ W' x hb' hx
    exact tellStrings_in x hx.1 hx.2 W'

theorem partsT (w : World) : Calls Tryz.prog 65 #[.int .i64 16] w fun e w' => PartsPost 1 txtPf w e w' := by
  refine (partsOf_T w).mono ?_
  rintro e w1 ⟨g, hg, rfl, hc, hb⟩
  refine ⟨g, fun _ => txtPart, rfl, one_part hc, fun _ _ => enters_by Tryz.func112 (by kernel_rfl) rfl, ?_, hb⟩
  intro k _ W' d s' hb' _ hr hs
  exact passStrings_in W' d s' hs hr

theorem fin_T (s : ByteArray) (h0 : 0 < s.size) (h : moreOk (s.size + 1) s = true) : fin txtPf 1 s = some [s] := by
  have e1 : s.extract 0 s.size = s := by simp
  simp [fin, cutP, txtPf, h0, h, e1]
theorem fin_T_no (s : ByteArray) (h : ¬ (0 < s.size ∧ moreOk (s.size + 1) s = true)) : fin txtPf 1 s = none := by
  have : txtPf 0 s = none := if_neg h
  simp only [fin, cutP, this]

theorem split_T (s : ByteArray) (hs : s.size ≤ 2000) (h0 : 0 < s.size) (h : moreOk (s.size + 1) s = true) (W : World) : Calls Tryz.prog 36 #[.int .i64 16, .string s] W fun e w' => SplitPost (some [s]) W e w' := by
  have := split_in W 1 (by omega) 16 (by omega) s hs txtPf (fun w => (partsT w).mono fun e w' h => h)
  rwa [fin_T s h0 h] at this
theorem split_T_no (s : ByteArray) (hs : s.size ≤ 2000) (h : ¬ (0 < s.size ∧ moreOk (s.size + 1) s = true)) (W : World) : Calls Tryz.prog 36 #[.int .i64 16, .string s] W fun e w' => SplitPost none W e w' := by
  have := split_in W 1 (by omega) 16 (by omega) s hs txtPf (fun w => (partsT w).mono fun e w' h => h)
  rwa [fin_T_no s h] at this

theorem told_T (s : ByteArray) (hs : s.size ≤ 2000) (h0 : 0 < s.size) (hm : moreOk (s.size + 1) s = true) (hl : (txtT s).length ≤ 100000) (hpos : (txtT s).length ≠ 0) (W : World) :
    Calls Tryz.prog 60 #[.int .i64 16, .string s] W fun e w' => e = .returned (.tuple #[.string ⟨(txtT s).toArray⟩, .bool true]) ∧ Below W.heap.size W w' := by
  have h := told_in txtForm (by decide) 16 s [s] rfl (fun j hj => by
      have : j = 0 := by simpa using hj
      subst this; exact ⟨hs, hm⟩) (fun j hj => by
      have : j = 0 := by simpa using hj
      subst this
      show (⟨(txtT s).toArray⟩ : ByteArray).size ≤ 100000
      rw [ba_size]; omega) W (split_T s hs h0 hm) (fun w hb => form_T w)
  have hw : words txtForm 0 [s] = [⟨(txtT s).toArray⟩] := by
    have : ¬ (⟨(txtT s).toArray⟩ : ByteArray).size = 0 := by rw [ba_size]; exact hpos
    simp only [words]
    exact if_neg this
  rw [hw] at h
  have hj : Lib.join ([(⟨(txtT s).toArray⟩ : ByteArray)].map (·.data.toList)) [32] = txtT s := Lib.join_one _ _
  rw [hj] at h
  exact h

/-- strings that are told well are read. -/
theorem readT_in (l s t p : List UInt8) (hl : l.length ≤ 900) (h1 : rsGo (l.length + 1) [] l = some (s, t)) (hs : s.length ≤ 255) (hm : RsM t p) (hok : moreOk ((⟨(cntd s ++ p).toArray⟩ : ByteArray).size + 1) ⟨(cntd s ++ p).toArray⟩ = true)
    (htl : (txtT ⟨(cntd s ++ p).toArray⟩).length ≤ 100000) (htp : (txtT ⟨(cntd s ++ p).toArray⟩).length ≠ 0) (W : World) (hG : Glob W) :
    Calls Tryz.prog 32 #[.int .i64 16, .string ⟨(34 :: l).toArray⟩] W fun e w' => e = .returned (if (⟨(txtT ⟨(cntd s ++ p).toArray⟩).toArray⟩ : ByteArray) = ⟨(34 :: l).toArray⟩ then .tuple #[.string ⟨(cntd s ++ p).toArray⟩, .int .i64 0] else .tuple #[.string ⟨#[]⟩, .int .i64 7]) ∧ Below W.heap.size W w' := by
  have hsl := rs_len _ _ _ _ h1
  simp only [List.length_nil, Nat.zero_add] at hsl
  have hpl := rsM_len hm
  have hz : (⟨(cntd s ++ p).toArray⟩ : ByteArray).size = s.length + 1 + p.length := by rw [ba_size]; simp [cntd]; omega
  obtain ⟨x, hx⟩ : ∃ x : ByteArray, (⟨(cntd s ++ p).toArray⟩ : ByteArray) = x := ⟨_, rfl⟩
  rw [hx] at hz hok htl htp ⊢
  have hU := understood_in W 1 (by omega) 16 ⟨(34 :: l).toArray⟩ (by rw [ba_size]; simp; omega) (dmOf ⟨(34 :: l).toArray⟩) (fun _ => rfl) (fun _ _ => some (x, ⟨#[]⟩)) hG (fun k s q hq hs => by
      cases hq
      exact ⟨by show x.size ≤ _; omega, by show (⟨#[]⟩ : ByteArray).size ≤ _; exact Nat.zero_le _⟩) (fun k s q _ _ h => absurd h (by omega)) (fun w hGw => by
      refine (partsOf_T w).mono ?_
      rintro e w1 ⟨g, hg, rfl, hc, hb⟩
      refine ⟨g, fun _ => txtPart, rfl, hg, one_part hc, fun _ _ => enters_by Tryz.func114 (by kernel_rfl) rfl, ?_, hb⟩
      intro k hk W' d s' hkp hd hGK hr hs' hdm
      obtain rfl : k = 0 := by omega
      obtain rfl := hdm rfl
      have := readStrings_in W' d l s t p (by omega) hr h1 hs hm
      rw [hx] at this
      exact this)
  have hrp : readP (fun _ _ => some (x, ⟨#[]⟩)) 1 0 (⟨(34 :: l).toArray⟩ : ByteArray) = some [x] := rfl
  rw [hrp] at hU
  have h := read_of (t := ⟨(txtT x).toArray⟩) (by omega) hU (fun w hb => by
    rw [jn_one]
    exact told_T x (by omega) (by omega) hok htl htp w)
  rw [jn_one] at h
  exact h
end Go.Proofs.YtdhcbaennpediaaGreatDoor
