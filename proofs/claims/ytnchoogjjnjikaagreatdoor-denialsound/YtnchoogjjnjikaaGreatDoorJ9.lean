/- Texts of this proof, joined: DBytes, DKey, DTyFacts, DTyAdd, DTyAdd2. -/
import Derived.Test.YtnchoogjjnjikaaGreatDoorJ4
import Derived.Deep.RegionHeld3
import Derived.Test.YtnchoogjjnjikaaGreatDoorJ8
import Derived.Test.YtnchoogjjnjikaaGreatDoorJ6
import Derived.BigRegion
/- bytesOf: a number as one, two or four bytes. -/
namespace Go.Proofs.YtnchoogjjnjikaaGreatDoor
set_option linter.unusedVariables false
set_option linter.unusedSimpArgs false
open Go.RowKit
theorem cells_put {W : World} {b j : Nat} {cs : Array Value} {t : TypeId} (h : W.heap[b]? = some (.cells cs t (0, 0))) (u : Value) : (W.setCell ⟨b, j, none⟩ u).heap[b]? = some (.cells (cs.setIfInBounds j u) t (0, 0)) := by
  simp only [World.setCell, Array.getElem?_modify, h]
  rfl
theorem cells_at {W : World} {b j : Nat} {cs : Array Value} {t : TypeId} {v : Value} (h : W.heap[b]? = some (.cells cs t (0, 0))) (hj : cs[j]? = some v) : W.cell? ⟨b, j, none⟩ = some v ∧ W.frozen? ⟨b, j, none⟩ = false := by
  simp [World.cell?, World.frozen?, h, hj]
theorem wrapu8 (x : Int) (q : Nat) (h : x = (q : Int)) : IntKind.u8.wrap x = (((UInt8.ofNat q).toNat : Nat) : Int) := by
  rw [IntKind.wrap_u8, UInt8.toNat_ofNat', h]
  omega
end Go.Proofs.YtnchoogjjnjikaaGreatDoor
/- DNSKEY: taken apart, and put together. -/
namespace Go.Proofs.YtnchoogjjnjikaaGreatDoor
set_option linter.unusedVariables false
open Go.RowKit
theorem row_lit (W : World) (ps : List ByteArray) (h : ps.length ≤ maxLen) (h0 : 0 < ps.length) : (W.alloc (.cells (baV ps).toArray 9)).ownsRow W.heap.size 9 1 (.slice (some ⟨W.heap.size, 0, none⟩) ps.length ps.length) ps.length (baV ps) := by
  refine ⟨by simp [baV], .inr ⟨W.heap.size, ps.length, (baV ps).toArray, rfl, Nat.le_refl _, heap_new _ _, Nat.le_refl _, h, by simp [baV], ?_⟩⟩
  rw [Nat.mul_one, List.toList_toArray, List.take_of_length_le (by simp [baV])]
end Go.Proofs.YtnchoogjjnjikaaGreatDoor
/- Lists of types as bytes: windows of bits. Nothing here speaks of the program. -/
namespace Go.Proofs.YtnchoogjjnjikaaGreatDoor
set_option linter.unusedVariables false
open Go.RowKit
theorem bit_tb (b : List UInt8) (n : Nat) : bitAt b n = (b.getD (n / 8) 0).toNat.testBit (7 - n % 8) := by
  rw [bitAt, Nat.testBit_eq_decide_div_mod_eq, Bool.eq_iff_iff, beq_iff_eq, decide_eq_true_iff]
theorem getD_far (b : List UInt8) (j : Nat) (h : b.length ≤ j) : b.getD j 0 = 0 := by
  rw [List.getD_eq_getElem?_getD, List.getElem?_eq_none h]; rfl
theorem bit_far (b : List UInt8) (n : Nat) (h : b.length ≤ n / 8) : bitAt b n = false := by
  rw [bit_tb, getD_far b _ h]
  exact Nat.zero_testBit _
theorem filter_low (p : Nat → Bool) (k : Nat) (h : ∀ i, k ≤ i → p i = false) : ∀ n, k ≤ n → (List.range n).filter p = (List.range k).filter p := by
  intro n hn
  obtain ⟨j, rfl⟩ : ∃ j, n = k + j := ⟨n - k, by omega⟩
  clear hn
  induction j with
  | zero => rfl
  | succ j ih => rw [show k + (j + 1) = (k + j) + 1 by omega, List.range_succ, List.filter_append, ih]; simp [h (k + j) (by omega)]
theorem filter_one (p : Nat → Bool) (k : Nat) (hk : p k = true) (h : ∀ i, k < i → p i = false) (n : Nat) (hn : k < n) : (List.range n).filter p = (List.range k).filter p ++ [k] := by
  rw [filter_low p (k + 1) (fun i hi => h i (by omega)) n (by omega), List.range_succ, List.filter_append]
  simp [hk]
theorem bitsL_all (w : Nat) (b : List UInt8) (h : b.length ≤ 32) : bitsL w b (8 * b.length) = bitsL w b 256 := by
  unfold bitsL
  rw [filter_low _ (8 * b.length) (fun i hi => bit_far b i (by omega)) 256 (by omega)]
theorem mem_bits {w : Nat} {b : List UInt8} {n x : Nat} : x ∈ bitsL w b n ↔ ∃ i, i < n ∧ bitAt b i = true ∧ x = w * 256 + i := by
  unfold bitsL
  simp only [List.mem_map, List.mem_filter, List.mem_range]
  constructor
  · rintro ⟨i, ⟨h1, h2⟩, rfl⟩; exact ⟨i, h1, h2, rfl⟩
  · rintro ⟨i, h1, h2, rfl⟩; exact ⟨i, ⟨h1, h2⟩, rfl⟩
def padB (b : List UInt8) (k : Nat) : List UInt8 := b ++ List.replicate (k / 8 + 1 - b.length) 0
def setB (b : List UInt8) (k : Nat) : List UInt8 := (padB b k).set (k / 8) (UInt8.ofNat ((b.getD (k / 8) 0).toNat ||| 2 ^ (7 - k % 8)))
theorem padB_len (b : List UInt8) (k : Nat) : (padB b k).length = max b.length (k / 8 + 1) := by simp [padB]; omega
theorem setB_len (b : List UInt8) (k : Nat) : (setB b k).length = max b.length (k / 8 + 1) := by simp [setB, padB_len]
theorem padB_get (b : List UInt8) (k j : Nat) : (padB b k).getD j 0 = b.getD j 0 := by
  unfold padB
  rw [List.getD_eq_getElem?_getD, List.getD_eq_getElem?_getD, List.getElem?_append]
  split
  · rfl
  · rename_i h
    rw [List.getElem?_eq_none (l := b) (by omega), List.getElem?_replicate]
    split <;> rfl
theorem or_lt (a k : Nat) (h : a < 256) : a ||| 2 ^ (7 - k % 8) < 256 := by
  have : 2 ^ (7 - k % 8) < 2 ^ 8 := Nat.pow_lt_pow_right (by omega) (by omega)
  exact Nat.or_lt_two_pow (n := 8) h this
theorem setB_get (b : List UInt8) (k j : Nat) : ((setB b k).getD j 0).toNat = if j = k / 8 then (b.getD j 0).toNat ||| 2 ^ (7 - k % 8) else (b.getD j 0).toNat := by
  unfold setB
  rw [List.getD_eq_getElem?_getD, List.getElem?_set]
  have hu := (b.getD (k / 8) 0).toNat_lt
  by_cases h : k / 8 = j
  · rw [if_pos h, if_pos h.symm, if_pos (by rw [padB_len]; omega)]
    subst h
    rw [Option.getD_some, UInt8.toNat_ofNat', Nat.mod_eq_of_lt (or_lt _ k (by omega))]
  · rw [if_neg h, if_neg (fun e => h e.symm), ← List.getD_eq_getElem?_getD, padB_get]
theorem setB_bit (b : List UInt8) (k i : Nat) : bitAt (setB b k) i = (bitAt b i || decide (i = k)) := by
  rw [bit_tb, bit_tb, setB_get]
  by_cases h : i / 8 = k / 8
  · rw [if_pos h, Nat.testBit_or, Nat.testBit_two_pow]
    congr 1
    by_cases e : i = k
    · subst e; simp
    · have : ¬ (7 - k % 8 = 7 - i % 8) := by omega
      simp [e, this]
  · rw [if_neg h]
    have : ¬ i = k := fun e => h (by rw [e])
    simp [this]
theorem last_bit {b : List UInt8} (h : lastOk b = true) : ∃ i, b.length = i / 8 + 1 ∧ bitAt b i = true := by
  unfold lastOk at h
  cases hl : b.getLast? with
  | none => rw [hl] at h; cases h
  | some c =>
    rw [hl] at h
    simp only [bne_iff_ne, ne_eq] at h
    have hb0 : b ≠ [] := fun e => by rw [e] at hl; cases hl
    have hlen : 0 < b.length := List.length_pos_iff.2 hb0
    have hc : b.getD (b.length - 1) 0 = c := by
      rw [List.getD_eq_getElem?_getD, ← List.getLast?_eq_getElem?, hl]; rfl
    have hcn : c.toNat ≠ 0 := fun e => h (UInt8.toNat_inj.1 (by rw [e]; rfl))
    obtain ⟨t, ht⟩ := Nat.exists_testBit_of_ne_zero hcn
    have ht8 : t < 8 := by
      apply Decidable.byContradiction
      intro hge
      have := c.toNat_lt
      have h2 : c.toNat < 2 ^ t := Nat.lt_of_lt_of_le (by omega : c.toNat < 2 ^ 8) (Nat.pow_le_pow_right (by omega) (by omega))
      rw [Nat.testBit_lt_two_pow h2] at ht
      cases ht
    refine ⟨8 * (b.length - 1) + (7 - t), by omega, ?_⟩
    rw [bit_tb, show (8 * (b.length - 1) + (7 - t)) / 8 = b.length - 1 by omega, show 7 - (8 * (b.length - 1) + (7 - t)) % 8 = t by omega, hc]
    exact ht
theorem setB_last (b : List UInt8) (k : Nat) (h : b.length ≤ k / 8 + 1) : lastOk (setB b k) = true := by
  have hl := setB_len b k
  have hg := setB_get b k (k / 8)
  rw [if_pos rfl] at hg
  have hne : ((setB b k).getD (k / 8) 0).toNat ≠ 0 := by
    rw [hg]
    intro e
    have := congrArg (fun x => x.testBit (7 - k % 8)) e
    simp [Nat.testBit_or] at this
  unfold lastOk
  rw [List.getLast?_eq_getElem?, hl, show max b.length (k / 8 + 1) - 1 = k / 8 by omega, List.getElem?_eq_getElem (by omega)]
  rw [List.getD_eq_getElem?_getD, List.getElem?_eq_getElem (by omega), Option.getD_some] at hne
  simp only [bne_iff_ne, ne_eq]
  intro e
  rw [e] at hne
  exact hne rfl
theorem setB_bits (w : Nat) (b : List UInt8) (k : Nat) (hk : k < 256) (h : ∀ i, bitAt b i = true → i < k) : bitsL w (setB b k) 256 = bitsL w b 256 ++ [w * 256 + k] := by
  have hb : ∀ i, k ≤ i → bitAt b i = false := fun i hi => by
    cases e : bitAt b i with
    | false => rfl
    | true => have := h i e; omega
  unfold bitsL
  rw [filter_one (fun i => bitAt (setB b k) i) k (by rw [setB_bit]; simp) (fun i hi => by rw [setB_bit, hb i (by omega)]; simp; omega) 256 hk]
  rw [filter_low (fun i => bitAt b i) k hb 256 (by omega), List.map_append]
  congr 2
  apply List.filter_congr
  intro i hi
  rw [setB_bit]
  have : ¬ i = k := by have := List.mem_range.1 hi; omega
  simp [this]
/-! ### windows -/
abbrev Win := Nat × List UInt8
def encW : List Win → List UInt8
  | [] => []
  | p :: r => UInt8.ofNat p.1 :: UInt8.ofNat p.2.length :: (p.2 ++ encW r)
def OkW : Int → List Win → Prop
  | _, [] => True
  | last, p :: r => last < (p.1 : Int) ∧ p.1 ≤ 255 ∧ p.2.length ≤ 32 ∧ lastOk p.2 = true ∧ OkW p.1 r
def tysW : List Win → List Nat
  | [] => []
  | p :: r => bitsL p.1 p.2 256 ++ tysW r
theorem encW_app : ∀ (a b : List Win), encW (a ++ b) = encW a ++ encW b
  | [], b => rfl
  | p :: a, b => by simp [encW, encW_app a b]
theorem tysW_app : ∀ (a b : List Win), tysW (a ++ b) = tysW a ++ tysW b
  | [], b => rfl
  | p :: a, b => by simp [tysW, tysW_app a b]
theorem lastOk_ne {b : List UInt8} (h : lastOk b = true) : 1 ≤ b.length := by
  obtain ⟨i, hi, _⟩ := last_bit h
  omega
theorem ty_enc : ∀ (ws : List Win) (last : Int) (n : Nat), OkW last ws → (encW ws).length < n → tyGo n last ⟨(encW ws).toArray⟩ = some (tysW ws)
  | [], last, 0, _, h => by simp [encW] at h
  | [], last, n + 1, _, _ => by rw [tyGo, dif_neg (by rw [ba_size]; simp [encW])]; rfl
  | p :: r, last, 0, _, h => by simp at h
  | p :: r, last, n + 1, ⟨h1, h2, h3, h4, h5⟩, h => by
    have h6 := lastOk_ne h4
    have e : encW (p :: r) = UInt8.ofNat p.1 :: UInt8.ofNat p.2.length :: (p.2 ++ encW r) := rfl
    have h0 : 0 < (⟨(encW (p :: r)).toArray⟩ : ByteArray).size := by rw [ba_size, e]; simp
    have hu : (UInt8.ofNat p.2.length).toNat = p.2.length := by rw [UInt8.toNat_ofNat']; omega
    have hw : (UInt8.ofNat p.1).toNat = p.1 := by rw [UInt8.toNat_ofNat']; omega
    have hg : (⟨(encW (p :: r)).toArray⟩ : ByteArray)[0] = UInt8.ofNat p.1 := by rw [← getElem_list _ _ h0]; rfl
    have x1 : (⟨(encW (p :: r)).toArray⟩ : ByteArray).extract 1 (⟨(encW (p :: r)).toArray⟩ : ByteArray).size = ⟨(UInt8.ofNat p.2.length :: (p.2 ++ encW r)).toArray⟩ := by
      apply ba_ext
      rw [Lib.extract_data, ba_toList, e, ba_size, ba_toList, List.drop_succ_cons, List.drop_zero]
      exact List.take_of_length_le (by simp)
    have x2 : ((⟨(encW (p :: r)).toArray⟩ : ByteArray).extract 2 (1 + p.2.length + 1)).data.toList = p.2 := by
      rw [Lib.extract_data, ba_toList, e, List.drop_succ_cons, List.drop_succ_cons, List.drop_zero, show 1 + p.2.length + 1 - 2 = p.2.length by omega, List.take_left' rfl]
    have x3 : (⟨(encW (p :: r)).toArray⟩ : ByteArray).extract (1 + p.2.length + 1) (⟨(encW (p :: r)).toArray⟩ : ByteArray).size = ⟨(encW r).toArray⟩ := by
      apply ba_ext
      rw [Lib.extract_data, ba_toList, e, ba_size, ba_toList, show 1 + p.2.length + 1 = p.2.length + 1 + 1 by omega, List.drop_succ_cons, List.drop_succ_cons, List.drop_left' rfl]
      exact List.take_of_length_le (by simp)
    have ih := ty_enc r p.1 n h5 (by rw [e] at h; simp at h; omega)
    rw [tyGo, dif_pos h0, x1, cnt_cons, hu, if_pos (by simp)]
    simp only
    rw [hg, hw, x2, x3, if_pos ⟨h1, by omega, h4⟩, ih]
    simp only [Option.map_some, tysW]
    rw [show 1 + p.2.length - 1 = p.2.length by omega, bitsL_all _ _ h3]
/-! ### uniqueness -/
theorem bits_head {w : Nat} {b : List UInt8} (h : lastOk b = true) (h3 : b.length ≤ 32) : ∃ x r, bitsL w b 256 = x :: r := by
  obtain ⟨i, hi, hb⟩ := last_bit h
  cases hl : bitsL w b 256 with
  | cons x r => exact ⟨x, r, rfl⟩
  | nil =>
    have : w * 256 + i ∈ bitsL w b 256 := mem_bits.2 ⟨i, by omega, hb, rfl⟩
    rw [hl] at this
    cases this
/-! ### one type more -/
def addT (ws : List Win) (k : Nat) : List Win := match ws.getLast? with
  | some p => if p.1 = k / 256 then ws.dropLast ++ [(p.1, setB p.2 (k % 256))] else ws ++ [(k / 256, setB [] (k % 256))]
  | none => [(k / 256, setB [] (k % 256))]
theorem okW_snoc : ∀ (ws : List Win) (last : Int) (p : Win), OkW last ws → (∀ q ∈ ws, q.1 < p.1) → last < (p.1 : Int) → p.1 ≤ 255 → p.2.length ≤ 32 → lastOk p.2 = true → OkW last (ws ++ [p])
  | [], last, p, _, _, h1, h2, h3, h4 => ⟨h1, h2, h3, h4, trivial⟩
  | q :: r, last, p, ⟨k1, k2, k3, k4, k5⟩, hq, h1, h2, h3, h4 => ⟨k1, k2, k3, k4, okW_snoc r q.1 p k5 (fun x hx => hq x (by simp [hx])) (by have := hq q (by simp); omega) h2 h3 h4⟩
theorem okW_parts : ∀ (ws : List Win) (last : Int) (p : Win), OkW last (ws ++ [p]) → OkW last ws ∧ (∀ q ∈ ws, q.1 < p.1) ∧ last < (p.1 : Int) ∧ p.1 ≤ 255 ∧ p.2.length ≤ 32 ∧ lastOk p.2 = true
  | [], last, p, ⟨h1, h2, h3, h4, _⟩ => ⟨trivial, by simp, h1, h2, h3, h4⟩
  | q :: r, last, p, ⟨k1, k2, k3, k4, k5⟩ => by
    obtain ⟨a1, a2, a3, a4, a5, a6⟩ := okW_parts r q.1 p k5
    refine ⟨⟨k1, k2, k3, k4, a1⟩, fun x hx => ?_, by omega, a4, a5, a6⟩
    rcases List.mem_cons.1 hx with rfl | hx
    · omega
    · exact a2 x hx
theorem setB_nil_len (k : Nat) (h : k < 256) : (setB [] k).length ≤ 32 := by rw [setB_len]; simp; omega
theorem new_ok (k : Nat) (hk : k ≤ 65535) : lastOk (setB [] (k % 256)) = true ∧ bitsL (k / 256) (setB [] (k % 256)) 256 = [k] := by
  refine ⟨setB_last [] _ (by simp), ?_⟩
  rw [setB_bits (k / 256) [] (k % 256) (by omega) (fun i hi => by rw [bit_far [] i (by simp)] at hi; cases hi)]
  have : bitsL (k / 256) [] 256 = [] := by
    unfold bitsL
    rw [filter_low _ 0 (fun i _ => bit_far [] i (by simp)) 256 (by omega)]
    rfl
  rw [this, List.nil_append, show k / 256 * 256 + k % 256 = k by omega]
theorem addT_ok (ws : List Win) (k : Nat) (hk : k ≤ 65535) (h : OkW (-1) ws) (hl : ∀ x ∈ tysW ws, x < k) : OkW (-1) (addT ws k) ∧ tysW (addT ws k) = tysW ws ++ [k] := by
  obtain ⟨n1, n2⟩ := new_ok k hk
  rcases List.eq_nil_or_concat ws with rfl | ⟨r, p, rfl⟩
  · refine ⟨⟨by simp only; omega, by simp only; omega, setB_nil_len _ (by omega), n1, trivial⟩, ?_⟩
    show bitsL (k / 256) (setB [] (k % 256)) 256 ++ [] = [k]
    rw [n2, List.append_nil]
  · rw [List.concat_eq_append] at h hl ⊢
    obtain ⟨a1, a2, a3, a4, a5, a6⟩ := okW_parts r _ p h
    have hbit : ∀ i, bitAt p.2 i = true → p.1 * 256 + i < k := fun i hi => by
      have hi2 : i < 256 := by
        apply Decidable.byContradiction
        intro hge
        rw [bit_far p.2 i (by omega)] at hi
        cases hi
      apply hl
      rw [tysW_app, List.mem_append]
      right
      rw [tysW, tysW, List.append_nil]
      exact mem_bits.2 ⟨i, hi2, hi, rfl⟩
    obtain ⟨i, hi, hb⟩ := last_bit a6
    have hik := hbit i hb
    unfold addT
    rw [List.getLast?_concat]
    simp only
    split
    · rename_i hw
      rw [List.dropLast_concat]
      have hkm : ∀ j, bitAt p.2 j = true → j < k % 256 := fun j hj => by have := hbit j hj; omega
      have hm := hkm i hb
      refine ⟨okW_snoc r _ _ a1 a2 a3 a4 (by simp only; rw [setB_len]; omega) (setB_last _ _ (by omega)), ?_⟩
      rw [tysW_app, tysW_app, List.append_assoc]
      congr 1
      simp only [tysW, List.append_nil]
      rw [setB_bits p.1 p.2 (k % 256) (by omega) hkm, show p.1 * 256 + k % 256 = k by omega]
    · rename_i hw
      refine ⟨okW_snoc _ _ _ h (fun q hq => ?_) (by simp only; omega) (by simp only; omega) (setB_nil_len _ (by omega)) n1, ?_⟩
      · simp only
        rcases List.mem_append.1 hq with hq | hq
        · have := a2 q hq
          omega
        · simp only [List.mem_singleton] at hq
          subst hq
          omega
      · rw [tysW_app (r ++ [p])]
        congr 1
        show bitsL (k / 256) (setB [] (k % 256)) 256 ++ [] = [k]
        rw [n2, List.append_nil]
def Rise : Int → List Nat → Prop
  | _, [] => True
  | last, k :: r => last < (k : Int) ∧ k ≤ 65535 ∧ Rise k r
theorem addAll_ok : ∀ (l : List Nat) (ws : List Win) (last : Int), OkW (-1) ws → (∀ x ∈ tysW ws, (x : Int) ≤ last) → Rise last l → OkW (-1) (l.foldl addT ws) ∧ tysW (l.foldl addT ws) = tysW ws ++ l
  | [], ws, last, h, _, _ => ⟨h, by simp⟩
  | k :: r, ws, last, h, hl, ⟨h1, h2, h3⟩ => by
    obtain ⟨a1, a2⟩ := addT_ok ws k h2 h (fun x hx => by have := hl x hx; omega)
    obtain ⟨b1, b2⟩ := addAll_ok r (addT ws k) k a1 (fun x hx => by
      rw [a2, List.mem_append] at hx
      rcases hx with hx | hx
      · have := hl x hx; omega
      · simp only [List.mem_singleton] at hx; omega) h3
    exact ⟨b1, by rw [List.foldl_cons, b2, a2]; simp⟩
theorem rise_of : ∀ (l : List Nat) (last : Int), l.Pairwise (· < ·) → (∀ x ∈ l, last < (x : Int) ∧ x ≤ 65535) → Rise last l
  | [], _, _, _ => trivial
  | k :: r, last, hp, hm => by
    have hk := hm k (by simp)
    rw [List.pairwise_cons] at hp
    exact ⟨hk.1, hk.2, rise_of r k hp.2 (fun x hx => ⟨by have := hp.1 x hx; omega, (hm x (by simp [hx])).2⟩)⟩
def encT (l : List Nat) : List UInt8 := encW (l.foldl addT [])
theorem typesR_enc {l : List Nat} (h : Rise (-1) l) : typesR ⟨(encT l).toArray⟩ = some l := by
  obtain ⟨a1, a2⟩ := addAll_ok l [] (-1) trivial (by simp [tysW]) h
  unfold typesR encT
  rw [ty_enc _ _ _ a1 (by rw [ba_size]; omega), a2]
  rfl
end Go.Proofs.YtnchoogjjnjikaaGreatDoor
/- typeList.add: one type more. -/
namespace Go.Proofs.YtnchoogjjnjikaaGreatDoor
set_option linter.unusedVariables false
open Go.RowKit
def TL (W : World) (d : Nat) (L : List UInt8) (b : Nat) (last : Int) : Prop :=
  ∃ v, W.heap[d]? = some (.cells #[v, .int .i64 (b : Int), .int .i64 last] 91 (0, 0)) ∧ W.ownsRow (d + 1) 5 1 v L.length (Lib.byteCells L)
theorem newTypeList_in (w : World) : Calls Tryz.prog 59 #[] w fun e w' => e = .returned (boxV w.heap.size) ∧ TL w' w.heap.size [] 0 (-1) ∧ Below w.heap.size w w' := by
  go_enter Tryz.func59, Tryz.ntmps59
  go_wp2
  go_ret
  exact ⟨rfl, ⟨.slice none 0 0, heap_new _ _, World.ownsRow_nil ..⟩, (Below.refl _ _).alloc (Nat.le_refl _) _⟩
def slLen : Option Value → Nat
  | some (.slice _ n _) => n
  | _ => 0
theorem and255 (k : Nat) (hk : k ≤ 65535) : Go.bits BinOp.and IntKind.i64 (k : Int) 255 = ((k % 256 : Nat) : Int) := by
  have h1 : (BitVec.ofInt 64 (k : Int)).toNat = k := by
    rw [BitVec.ofInt_natCast, BitVec.toNat_ofNat]; exact Nat.mod_eq_of_lt (by omega)
  show IntKind.i64.wrap ((BitVec.ofInt 64 (k : Int) &&& BitVec.ofInt 64 (255 : Int)).toNat : Int) = _
  rw [BitVec.toNat_and, h1, show (BitVec.ofInt 64 (255 : Int)).toNat = 255 from rfl, show (255 : Nat) = 2 ^ 8 - 1 by decide, Nat.and_two_pow_sub_one_eq_mod k 8, IntKind.wrap_i64]
  omega
set_option maxRecDepth 10000 in
theorem add_no (W : World) (d : Nat) (L : List UInt8) (b : Nat) (last k : Int) (h : TL W d L b last) (hk : ¬ ((0 ≤ k ∧ k ≤ 65535) ∧ last < k)) :
    Calls Tryz.prog 60 #[boxV d, .int .i64 k] W fun e w' => e = .panicked mustV ∧ w' = W := by
  obtain ⟨v, hh, hrow⟩ := h
  obtain ⟨c2, _⟩ := cells_at (v := .int .i64 last) (j := 2) hh rfl
  by_cases h1 : 0 ≤ k ∧ k ≤ 65535
  · have hd : decide (0 ≤ k ∧ k ≤ 65535) = true := by simp [h1]
    have h2 : decide (last < k) = false := by
      rw [decide_eq_false_iff_not]
      exact fun e => hk ⟨h1, e⟩
    clear hk
    go_enter Tryz.func60, Tryz.ntmps60
    go_wp2_with fail
    refine (isType_in k _).mono ?_
    rintro e w1 ⟨rfl, rfl⟩
    rw [hd]
    go_wp2_with fail
    refine (must_no _).mono ?_
    rintro e w2 ⟨rfl, rfl⟩
    go_wp2
    exact ⟨rfl, rfl, rfl⟩
  · have hd : decide (0 ≤ k ∧ k ≤ 65535) = false := by simp; omega
    clear hk
    go_enter Tryz.func60, Tryz.ntmps60
    go_wp2_with fail
    refine (isType_in k _).mono ?_
    rintro e w1 ⟨rfl, rfl⟩
    rw [hd]
    go_wp2_with fail
    refine (must_no _).mono ?_
    rintro e w2 ⟨rfl, rfl⟩
    go_wp2
    exact ⟨rfl, rfl, rfl⟩
def addTail (L1 : List UInt8) (b1 k : Nat) : List UInt8 :=
  let L2 := L1 ++ List.replicate (b1 + k % 256 / 8 + 1 - L1.length) 0
  let L3 := L2.set (b1 + k % 256 / 8) (UInt8.ofNat ((L2.getD (b1 + k % 256 / 8) 0).toNat ||| 2 ^ (7 - k % 8)))
  L3.set (b1 - 1) (UInt8.ofNat (L3.length - b1))
theorem byte_cell {W : World} {base n c g : Nat} {l : List UInt8} (h : W.ownsRow base 5 1 (.slice (some ⟨g, 0, none⟩) n c) n (Lib.byteCells l)) (j : Nat) (hj : j < l.length) : W.cell? ⟨g, j, none⟩ = some (.int .u8 (l[j].toNat : Int)) := by
  have hn : l.length = n := by have := h.1; simpa [Lib.byteCells] using this
  rcases h.2 with ⟨_, h0⟩ | ⟨g', cap, cur, hv, _, hg, _, _, _, ht⟩
  · omega
  · cases hv
    have := Lib.cells_of_row (w := W) hg n j (.int .u8 (l[j].toNat : Int)) (by rw [Nat.mul_one] at ht; rw [ht]; simp [Lib.byteCells, hj])
    rwa [add_at] at this
theorem byteCells_set (l : List UInt8) (j : Nat) (b : UInt8) : (Lib.byteCells l).set j (.int .u8 (b.toNat : Int)) = Lib.byteCells (l.set j b) := by simp [Lib.byteCells, List.map_set]
theorem or_u8 (a c : Nat) (ha : a < 256) (hc : c < 256) : Go.bits BinOp.or IntKind.u8 (a : Int) (c : Int) = (((UInt8.ofNat (a ||| c)).toNat : Nat) : Int) := by
  have h1 : (BitVec.ofInt 8 (a : Int)).toNat = a := by
    rw [BitVec.ofInt_natCast, BitVec.toNat_ofNat]; exact Nat.mod_eq_of_lt (by omega)
  have h2 : (BitVec.ofInt 8 (c : Int)).toNat = c := by
    rw [BitVec.ofInt_natCast, BitVec.toNat_ofNat]; exact Nat.mod_eq_of_lt (by omega)
  show IntKind.u8.wrap ((BitVec.ofInt 8 (a : Int) ||| BitVec.ofInt 8 (c : Int)).toNat : Int) = _
  rw [BitVec.toNat_or, h1, h2, IntKind.wrap_u8, UInt8.toNat_ofNat']
  omega
theorem pow_lt8 (k : Nat) : 2 ^ (7 - k % 8) < 256 := Nat.lt_of_lt_of_le (Nat.pow_lt_pow_right (by omega) (by omega : 7 - k % 8 < 8)) (by decide)
set_option maxRecDepth 100000 in
set_option maxHeartbeats 2000000 in
theorem add_same (W : World) (d : Nat) (L : List UInt8) (b : Nat) (last : Int) (k : Nat) (h : TL W d L b last) (hk : k ≤ 65535) (hl : last < (k : Int)) (hL : L.length ≤ 10000) (hb1 : 1 ≤ b) (hb : b ≤ L.length) (hw : ((k / 256 : Nat) : Int) = last / 256) (hl0 : -1 ≤ last) :
    Calls Tryz.prog 60 #[boxV d, .int .i64 (k : Int)] W fun e w' => e = .returned (.tuple #[]) ∧ TL w' d (addTail L b k) b k ∧ Below d W w' := by
  obtain ⟨v, hh, hrow⟩ := h
  obtain ⟨i0, hi, hz0, hz1, hz2⟩ := info_parts info5
  have hmo : Tryz.prog.follows Departure.mixedOrders = true := by kernel_rfl
  have hd : decide (0 ≤ (k : Int) ∧ (k : Int) ≤ 65535) = true := by simp; omega
  obtain ⟨c2, _⟩ := cells_at (v := .int .i64 last) (j := 2) hh rfl
  obtain ⟨c1, _⟩ := cells_at (v := .int .i64 (b : Int)) (j := 1) hh rfl
  have hand := and255 k hk
  have hdl := box_lt hh
  obtain ⟨qv, cv, hqv⟩ := row_as hrow
  subst hqv
  obtain ⟨A, hA⟩ : ∃ A, A = b + k % 256 / 8 := ⟨_, rfl⟩
  have hwb : ((k : Int) / 256 != last / 256) = false := by rw [bne_eq_false_iff_eq]; omega
  clear hw
  have HAi : Hid ((b : Int) + (k : Int) % 256 / 8 = (A : Int)) := by rw [Hid]; omega
  have HA := Hid.mk hA
  have hA1 : A ≤ b + 31 := by omega
  have hA2 : b ≤ A := by omega
  clear hA
  go_enter Tryz.func60, Tryz.ntmps60
  go_wp2_with fail
  refine (isType_in k _).mono ?_
  rintro e w1 ⟨rfl, rfl⟩
  rw [hd]
  go_wp2_with fail
  refine (must_yes _).mono ?_
  rintro e w2 ⟨rfl, rfl⟩
  have HROW := Hid.mk hrow
  have HHH := Hid.mk hh
  clear hrow hh
  go_wp2
  rw [HAi.out]
  go_loopw [] (fun wr => ∃ n : Nat, L.length + n ≤ 10100 ∧ (n = 0 ∨ L.length + n ≤ A + 1) ∧ TL wr d (L ++ List.replicate n 0) b last ∧ Below d w2 wr ∧ d < wr.heap.size) (fun wr => A + 1 - slLen (wr.cell? ⟨d, 0, none⟩))
  case atStart => exact ⟨0, by omega, .inl rfl, ⟨_, HHH.out, by simpa using HROW.out⟩, Below.refl _ _, hdl⟩
  case round =>
    obtain ⟨n, hn, hn2, ⟨v, hh, hrow⟩, hbl, hdr⟩ := hrel
    obtain ⟨qw, cw, hqw⟩ := row_as hrow
    subst hqw
    have hlen : (L ++ List.replicate n 0).length = L.length + n := by simp
    rw [hlen] at hh hrow
    obtain ⟨c0, f0⟩ := cells_at (v := .slice qw (L.length + n) cw) (j := 0) hh rfl
    by_cases hlt : L.length + n ≤ A
    · have HL : Hid (∀ (G : Prop) (v1 : Value) (w3 : World), w3.ownsRow (d + 1) 5 1 v1 (L.length + n + 1) (Lib.byteCells (L ++ List.replicate n 0) ++ [.int .u8 0]) → (wr.alloc (.cells #[.int .u8 0] 5)).grownBy w3 (Value.slice qw (L.length + n) cw).ownBlock →
          (∀ q c, v1 = .slice q (L.length + n + 1) c → w3.heap[d]? = some (.cells #[.slice qw (L.length + n) cw, .int .i64 (b : Int), .int .i64 last] 91 (0, 0)) → w3.cell? ⟨d, 0, none⟩ = some (.slice qw (L.length + n) cw) → w3.frozen? ⟨d, 0, none⟩ = false → Below d w2 w3 → G) → G) := by
        intro G v1 w3 ho hg hG
        obtain ⟨q, c, hv⟩ := row_as ho
        have hne : some d ≠ (Value.slice qw (L.length + n) cw).ownBlock := fun e => by have := rowBaseB hrow d e.symm; omega
        have h3 := (hg.block d (by simp; omega) hne).trans ((alloc_old _ _ _ hdr).trans hh)
        obtain ⟨e1, e2⟩ := cells_at (v := .slice qw (L.length + n) cw) (j := 0) h3 rfl
        exact hG q c hv h3 e1 e2 ((hbl.alloc (by omega) _).grown hg (by simp; omega) (fun k hk => by have := rowBaseB hrow k hk; omega))
      go_wp2_with (at_builtin; refine wpList_append_own _ rfl _ _ 58 rfl (d + 1) 5 i0 (.int .u8 0) 1 1 Tryz.underlying58 hi hz0 hz1 hz2 rfl (by decide) _ _ _ rfl (row_alloc hrow _) ⟨wr.heap.size, 0, none⟩ 1 1 [.int .u8 0] rfl rfl (cell_one_new _ _ _) (by simp [Value.oneCell']) (by unfold maxLen; omega) (by omega) (by simp; omega) ?_; intro v1 w3 hown3 hgrow3 _; refine HL.out _ v1 w3 hown3 hgrow3 ?_; intro q3 cc3 hv3 hh3 c03 f03 hb3; subst hv3)
      have HST := Hid.mk (cells_put (j := 0) hh3 (.slice q3 (L.length + n + 1) cc3))
      have HSZ : Hid (d < w3.heap.size) := Nat.lt_of_lt_of_le hdl hb3.size
      have HRR : Hid (w3.ownsRow (d + 1) 5 1 (.slice q3 (L.length + n + 1) cc3) (L ++ List.replicate (n + 1) 0).length (Lib.byteCells (L ++ List.replicate (n + 1) 0))) := by
        have e1 : L ++ List.replicate (n + 1) (0 : UInt8) = (L ++ List.replicate n 0) ++ [0] := by rw [List.replicate_succ', List.append_assoc]
        have e2 : ((L ++ List.replicate n (0 : UInt8)) ++ [0]).length = L.length + n + 1 := by simp; omega
        rw [Hid, e1, byteCells_snoc, e2]
        exact hown3
      have HM1 : Hid (slLen (wr.cell? ⟨d, 0, none⟩) = L.length + n) := by rw [Hid, c0]; rfl
      clear hown3 hgrow3 HL hrow
      have HLT : Hid (A + 1 - slLen ((w3.setCell ⟨d, 0, none⟩ (.slice q3 (L.length + n + 1) cc3)).cell? ⟨d, 0, none⟩) < A + 1 - slLen (wr.cell? ⟨d, 0, none⟩)) := by
        rw [Hid, HM1.out, (cells_at (v := .slice q3 (L.length + n + 1) cc3) (j := 0) HST.out rfl).1]
        simp only [slLen]
        omega
      have hrelN : ∃ n' : Nat, L.length + n' ≤ 10100 ∧ (n' = 0 ∨ L.length + n' ≤ A + 1) ∧ TL (w3.setCell ⟨d, 0, none⟩ (.slice q3 (L.length + n + 1) cc3)) d (L ++ List.replicate n' 0) b last ∧ Below d w2 (w3.setCell ⟨d, 0, none⟩ (.slice q3 (L.length + n + 1) cc3)) ∧ d < (w3.setCell ⟨d, 0, none⟩ (.slice q3 (L.length + n + 1) cc3)).heap.size :=
        ⟨n + 1, by omega, .inr (by omega), ⟨_, HST.out, ownsRow_setCell_below HRR.out (a := ⟨d, 0, none⟩) (Nat.lt_succ_self d) _⟩, hb3.setCell (p := ⟨d, 0, none⟩) (Nat.le_refl _) _, by simp [World.setCell]; exact HSZ.out⟩
      go_wp2
      go_roundw
      case rel => exact hrelN
      case measure => exact HLT.out
    · have hn3 : n = A + 1 - L.length := by omega
      have hAl : A < (L ++ List.replicate n 0).length := by rw [hlen]; omega
      obtain ⟨g, cap, hgc⟩ := row_form hrow (by omega)
      cases hgc
      have HTL : Hid (addTail L b k = (((L ++ List.replicate n 0).set A (UInt8.ofNat ((L ++ List.replicate n (0 : UInt8))[A].toNat ||| 2 ^ (7 - k % 8)))).set (b - 1) (UInt8.ofNat (L.length + n - b)))) := by
        rw [Hid, addTail, ← HA.out, ← hn3, List.length_set, hlen, List.getD_eq_getElem?_getD, List.getElem?_eq_getElem hAl]
        rfl
      have hAc := byte_cell hrow A hAl
      obtain ⟨hAf, hgl, hgb⟩ := row_frozen (j := A) hrow (by omega)
      have hx := (L ++ List.replicate n (0 : UInt8))[A].toNat_lt
      have hst1 := row_store (j := A) hrow (by omega) (.int .u8 (((UInt8.ofNat ((L ++ List.replicate n (0 : UInt8))[A].toNat ||| 2 ^ (7 - k % 8))).toNat : Nat) : Int))
      rw [byteCells_set] at hst1
      have hor := or_u8 (L ++ List.replicate n (0 : UInt8))[A].toNat (2 ^ (7 - k % 8)) (by omega) (pow_lt8 k)
      have hAi0 : (0 : Int) ≤ (A : Int) := by omega
      have hAi1 : (A : Int) < ((L.length + n : Nat) : Int) := by omega
      have hdg : d ≠ g := by omega
      have hor3 : Go.bits BinOp.or IntKind.u8 ((L ++ List.replicate n (0 : UInt8))[A].toNat : Int) (2 ^ (7 - k % 8) % 256) = (((UInt8.ofNat ((L ++ List.replicate n (0 : UInt8))[A].toNat ||| 2 ^ (7 - k % 8))).toNat : Nat) : Int) := by
        have e : ((2 : Int) ^ (7 - k % 8) % 256) = ((2 ^ (7 - k % 8) : Nat) : Int) := by
          have hpw := pow_lt8 k
          have e2 : (2 : Int) ^ (7 - k % 8) = ((2 ^ (7 - k % 8) : Nat) : Int) := by push_cast; rfl
          rw [e2]
          generalize 2 ^ (7 - k % 8) = q at hpw
          omega
        rw [e]
        exact hor
      have hr0 : (0 : Int) ≤ 7 - (k : Int).tmod 8 := by rw [Int.tmod_eq_emod_of_nonneg (by omega)]; omega
      clear hlen hor
      generalize (L ++ List.replicate n (0 : UInt8))[A].toNat = x at hAc hx hst1 hor3 HTL
      generalize L ++ List.replicate n (0 : UInt8) = L2 at hst1 hrow hAl HTL
      have HST1 := Hid.mk hst1
      have HRW := Hid.mk hrow
      clear hst1 hrow hn2 hn3 hlt
      go_wp2
      have HOR := Hid.mk hor3
      clear hor3
      go_region
      rw [HOR.out]
      obtain ⟨y, hy⟩ : ∃ y, (UInt8.ofNat (x ||| 2 ^ (7 - k % 8))) = y := ⟨_, rfl⟩
      rw [hy] at HST1 HTL ⊢
      obtain ⟨W5, hW5⟩ : ∃ W5, W5 = (wr.setCell ⟨g, A, none⟩ (.int .u8 (y.toNat : Int))).drew := ⟨_, rfl⟩
      rw [← hW5]
      have hh5 : W5.heap[d]? = some (.cells #[.slice (some ⟨g, 0, none⟩) (L.length + n) cw, .int .i64 (b : Int), .int .i64 last] 91 (0, 0)) := by
        rw [hW5]
        exact (Below.heap_setCell wr ⟨g, A, none⟩ _ d hdg).trans hh
      have hrow5 : W5.ownsRow (d + 1) 5 1 (.slice (some ⟨g, 0, none⟩) (L.length + n) cw) (L.length + n) (Lib.byteCells (L2.set A y)) := by rw [hW5]; exact HST1.out
      have hbl5 : Below d w2 W5 := by rw [hW5]; exact (hbl.setCell (p := ⟨g, A, none⟩) (by simp; omega) _).drew
      obtain ⟨e0, _⟩ := cells_at (v := .slice (some ⟨g, 0, none⟩) (L.length + n) cw) (j := 0) hh5 rfl
      obtain ⟨e1, _⟩ := cells_at (v := .int .i64 (b : Int)) (j := 1) hh5 rfl
      obtain ⟨e2, f2⟩ := cells_at (v := .int .i64 last) (j := 2) hh5 rfl
      have hL2 : (L2.set A y).length = L.length + n := by
        have := hrow5.1
        simpa [Lib.byteCells] using this
      have hbc := byte_cell hrow5 (b - 1) (by omega)
      obtain ⟨hbf, _, _⟩ := row_frozen (j := b - 1) hrow5 (by omega)
      have hst2 := row_store (j := b - 1) hrow5 (by omega) (.int .u8 (((UInt8.ofNat (L.length + n - b)).toNat : Nat) : Int))
      rw [byteCells_set] at hst2
      have HST2 := Hid.mk hst2
      have HH5 := Hid.mk hh5
      have HL2 := Hid.mk hL2
      have hbi : ((b : Int) - 1) = ((b - 1 : Nat) : Int) := by omega
      have hbi0 : (0 : Int) ≤ (b : Int) - 1 := by omega
      have hbi1 : (b : Int) - 1 < ((L.length + n : Nat) : Int) := by omega
      have hcvb : IntKind.u8.wrap (((L.length + n : Nat) : Int) - (b : Int)) = (((UInt8.ofNat (L.length + n - b)).toNat : Nat) : Int) := wrapu8 _ _ (by omega)
      generalize (L2.set A y)[b - 1]'(by omega) = z at hbc
      clear hst2 hrow5 hh5 hL2 HST1 HRW HOR hW5 hh hAc hAf c0 f0
      have HVL : Hid (((L.length : Int) + (n : Int) - (b : Int)) % 256 = (((UInt8.ofNat (L.length + n - b)).toNat : Nat) : Int)) := by
        rw [Hid, UInt8.toNat_ofNat']
        omega
      go_wp2
      go_region
      rw [HVL.out]
      obtain ⟨W6, hW6⟩ : ∃ W6, W6 = (W5.setCell ⟨g, b - 1, none⟩ (.int .u8 (((UInt8.ofNat (L.length + n - b)).toNat : Nat) : Int))).drew := ⟨_, rfl⟩
      rw [← hW6]
      have hh6 : W6.heap[d]? = some (.cells #[.slice (some ⟨g, 0, none⟩) (L.length + n) cw, .int .i64 (b : Int), .int .i64 last] 91 (0, 0)) := by
        rw [hW6]
        exact (Below.heap_setCell W5 ⟨g, b - 1, none⟩ _ d hdg).trans HH5.out
      have hrow6 : W6.ownsRow (d + 1) 5 1 (.slice (some ⟨g, 0, none⟩) (L.length + n) cw) (addTail L b k).length (Lib.byteCells (addTail L b k)) := by
        rw [HTL.out, List.length_set, HL2.out, hW6]
        exact HST2.out
      have hbl6 : Below d w2 W6 := by rw [hW6]; exact (hbl5.setCell (p := ⟨g, b - 1, none⟩) (by simp; omega) _).drew
      have hlt6 : (addTail L b k).length = L.length + n := by rw [HTL.out, List.length_set, HL2.out]
      obtain ⟨c62, f62⟩ := cells_at (v := .int .i64 last) (j := 2) hh6 rfl
      have HP6 := Hid.mk (cells_put (j := 2) hh6 (.int .i64 (k : Int)))
      have HR6 := Hid.mk hrow6
      have HT6 := Hid.mk hlt6
      clear hrow6 hh6 hW6 hlt6 HTL e0 e1 e2 f2 hbc hbf
      go_wp2
      refine bodyPost_end (results_none rfl _ _ _) rfl ⟨rfl, ⟨_, HP6.out, ?_⟩, hbl6.setCell (p := ⟨d, 2, none⟩) (Nat.le_refl _) _⟩
      exact ownsRow_setCell_below HR6.out (a := ⟨d, 2, none⟩) (Nat.lt_succ_self d) _
end Go.Proofs.YtnchoogjjnjikaaGreatDoor
/- typeList.add: one type more, in a new window. -/
namespace Go.Proofs.YtnchoogjjnjikaaGreatDoor
set_option linter.unusedVariables false
open Go.RowKit
set_option maxRecDepth 100000 in
set_option maxHeartbeats 2000000 in
theorem add_new (W : World) (d : Nat) (L : List UInt8) (b : Nat) (last : Int) (k : Nat) (h : TL W d L b last) (hk : k ≤ 65535) (hl : last < (k : Int)) (hL0 : L.length ≤ 9900) (hw : ¬ ((k / 256 : Nat) : Int) = last / 256) (hl0 : -1 ≤ last) :
    Calls Tryz.prog 60 #[boxV d, .int .i64 (k : Int)] W fun e w' => e = .returned (.tuple #[]) ∧ TL w' d (addTail (L ++ [UInt8.ofNat (k / 256), 0]) (L.length + 2) k) (L.length + 2) k ∧ Below d W w' := by
  obtain ⟨L1, hL1⟩ : ∃ L1, L ++ [UInt8.ofNat (k / 256), 0] = L1 := ⟨_, rfl⟩
  obtain ⟨b1, hb1e⟩ : ∃ b1, L.length + 2 = b1 := ⟨_, rfl⟩
  have hL1l : L1.length = b1 := by rw [← hL1, ← hb1e]; simp
  have hL : L1.length ≤ 10000 := by omega
  have hb1 : 1 ≤ b1 := by omega
  have hb : b1 ≤ L1.length := by omega
  rw [hL1, hb1e]
  have HL1 := Hid.mk hL1
  have HB1E := Hid.mk hb1e
  have HL1L := Hid.mk hL1l
  obtain ⟨A, hA⟩ : ∃ A, A = b1 + k % 256 / 8 := ⟨_, rfl⟩
  have HAi : Hid ((b1 : Int) + (k : Int) % 256 / 8 = (A : Int)) := by rw [Hid]; omega
  have HA := Hid.mk hA
  have hA1 : A ≤ b1 + 31 := by omega
  have hA2 : b1 ≤ A := by omega
  have HCA : Hid ((L.length : Int) + 2 = (b1 : Int)) := by rw [Hid]; omega
  clear hA hL1 hb1e hL1l
  obtain ⟨v, hh, hrow⟩ := h
  obtain ⟨i0, hi, hz0, hz1, hz2⟩ := info_parts info5
  have hmo : Tryz.prog.follows Departure.mixedOrders = true := by kernel_rfl
  have hd : decide (0 ≤ (k : Int) ∧ (k : Int) ≤ 65535) = true := by simp; omega
  obtain ⟨c2, _⟩ := cells_at (v := .int .i64 last) (j := 2) hh rfl
  have hand := and255 k hk
  have hdl := box_lt hh
  obtain ⟨qv, cv, hqv⟩ := row_as hrow
  subst hqv
  obtain ⟨c0, f0⟩ := cells_at (v := .slice qv L.length cv) (j := 0) hh rfl
  have hwb : ((k : Int) / 256 != last / 256) = true := by rw [bne_iff_ne]; omega
  have hu8 : IntKind.u8.wrap ((k : Int) / 256) = (((UInt8.ofNat (k / 256)).toNat : Nat) : Int) := wrapu8 _ _ (by omega)
  clear hw
  have HL : Hid (∀ (G : Prop) (v1 : Value) (w3 : World) (o : Obj), w3.ownsRow (d + 1) 5 1 v1 (L.length + 2) (Lib.byteCells L ++ [.int .u8 (((UInt8.ofNat (k / 256)).toNat : Nat) : Int), .int .u8 0]) → (W.alloc o).grownBy w3 (Value.slice qv L.length cv).ownBlock →
      (∀ q c, v1 = .slice q (L.length + 2) c → w3.cell? ⟨d, 0, none⟩ = some (.slice qv L.length cv) → w3.frozen? ⟨d, 0, none⟩ = false → Below d W w3 →
        (∀ u, (w3.setCell ⟨d, 0, none⟩ u).cell? ⟨d, 0, none⟩ = some u) → (∀ u, (w3.setCell ⟨d, 0, none⟩ u).cell? ⟨d, 1, none⟩ = some (.int .i64 (b : Int))) → (∀ u, (w3.setCell ⟨d, 0, none⟩ u).frozen? ⟨d, 1, none⟩ = false) →
        (∀ u x, ((w3.setCell ⟨d, 0, none⟩ u).setCell ⟨d, 1, none⟩ x).cell? ⟨d, 1, none⟩ = some x) → (∀ u x, ((w3.setCell ⟨d, 0, none⟩ u).setCell ⟨d, 1, none⟩ x).heap[d]? = some (.cells #[u, x, .int .i64 last] 91 (0, 0))) → G) → G) := by
    intro G v1 w3 o ho hg hG
    obtain ⟨q, c, hv⟩ := row_as ho
    have hne : some d ≠ (Value.slice qv L.length cv).ownBlock := fun e => by have := rowBaseB hrow d e.symm; omega
    have h3 := (hg.block d (by simp; omega) hne).trans ((alloc_old _ _ _ hdl).trans hh)
    obtain ⟨e1, e2⟩ := cells_at (v := .slice qv L.length cv) (j := 0) h3 rfl
    have p1 := fun u => cells_put (j := 0) h3 u
    have p2 := fun u x => cells_put (j := 1) (p1 u) x
    exact hG q c hv e1 e2 (((Below.refl _ _).alloc (by omega) _).grown hg (by simp; omega) (fun k hk => by have := rowBaseB hrow k hk; omega)) (fun u => (cells_at (p1 u) rfl).1) (fun u => (cells_at (p1 u) rfl).1) (fun u => (cells_at (v := .int .i64 (b : Int)) (p1 u) rfl).2) (fun u x => (cells_at (p2 u x) rfl).1) (fun u x => p2 u x)
  go_enter Tryz.func60, Tryz.ntmps60
  go_wp2_with fail
  refine (isType_in k _).mono ?_
  rintro e w1 ⟨rfl, rfl⟩
  rw [hd]
  go_wp2_with fail
  refine (must_yes _).mono ?_
  rintro e w2 ⟨rfl, rfl⟩
  have hrwA : ∀ o, (w2.alloc o).ownsRow (d + 1) 5 1 (.slice qv L.length cv) L.length (Lib.byteCells L) := fun o => row_alloc hrow o
  have HHH := Hid.mk hh
  clear hrow hh
  go_wp2_with (at_builtin; refine wpList_append_own _ rfl _ _ 58 rfl (d + 1) 5 i0 (.int .u8 0) 1 1 Tryz.underlying58 hi hz0 hz1 hz2 rfl (by decide) _ _ _ rfl (hrwA _) ⟨w2.heap.size, 0, none⟩ 2 2 [.int .u8 (((UInt8.ofNat (k / 256)).toNat : Nat) : Int), .int .u8 0] rfl rfl (fun j u hj => cells_new1 _ _ _ j u hj) (by simp [Value.oneCell']) (by unfold maxLen; omega) (by omega) (by simp; omega) ?_; intro v1 w3 hown3 hgrow3 _; refine HL.out _ v1 w3 _ hown3 hgrow3 ?_; intro q3 cc3 hv3 c03 f03 hb3 g1 g2 g3 g4 g5; subst hv3)
  rw [HCA.out, HAi.out]
  obtain ⟨W2, hW2⟩ : ∃ W2, W2 = ((w3.setCell ⟨d, 0, none⟩ (.slice q3 (L.length + 2) cc3)).setCell ⟨d, 1, none⟩ (.int .i64 (b1 : Int))) := ⟨_, rfl⟩
  rw [← hW2]
  have HTL2 : Hid (TL W2 d L1 b1 last) := by
    refine ⟨.slice q3 (L.length + 2) cc3, by rw [hW2]; exact g5 _ _, ?_⟩
    rw [hW2, HL1L.out, ← HL1.out]
    have hx := ownsRow_setCell_below (ownsRow_setCell_below hown3 (a := ⟨d, 0, none⟩) (Nat.lt_succ_self d) (.slice q3 (L.length + 2) cc3)) (a := ⟨d, 1, none⟩) (Nat.lt_succ_self d) (.int .i64 (b1 : Int))
    rw [byteCells_snoc, ← HB1E.out]
    rw [← HB1E.out] at hx
    exact hx
  have HB2 : Hid (Below d w2 W2) := by
    rw [Hid, hW2]
    exact (hb3.setCell (p := ⟨d, 0, none⟩) (Nat.le_refl _) _).setCell (p := ⟨d, 1, none⟩) (Nat.le_refl _) _
  have hdl2 : d < W2.heap.size := Nat.lt_of_lt_of_le hdl HB2.out.size
  clear hown3 hgrow3 HL hrwA HHH hW2 c0 f0 c2 c03 f03 hb3 g1 g2 g3 g4 g5 hu8
  go_loopw [] (fun wr => ∃ n : Nat, L1.length + n ≤ 10100 ∧ (n = 0 ∨ L1.length + n ≤ A + 1) ∧ TL wr d (L1 ++ List.replicate n 0) b1 last ∧ Below d W2 wr ∧ d < wr.heap.size) (fun wr => A + 1 - slLen (wr.cell? ⟨d, 0, none⟩))
  case atStart => exact ⟨0, by omega, .inl rfl, by simpa using HTL2.out, Below.refl _ _, hdl2⟩
  case round =>
    obtain ⟨n, hn, hn2, ⟨v, hh, hrow⟩, hbl, hdr⟩ := hrel
    obtain ⟨qw, cw, hqw⟩ := row_as hrow
    subst hqw
    have hlen : (L1 ++ List.replicate n 0).length = L1.length + n := by simp
    rw [hlen] at hh hrow
    obtain ⟨c0, f0⟩ := cells_at (v := .slice qw (L1.length + n) cw) (j := 0) hh rfl
    by_cases hlt : L1.length + n ≤ A
    · have HL : Hid (∀ (G : Prop) (v1 : Value) (w3 : World), w3.ownsRow (d + 1) 5 1 v1 (L1.length + n + 1) (Lib.byteCells (L1 ++ List.replicate n 0) ++ [.int .u8 0]) → (wr.alloc (.cells #[.int .u8 0] 5)).grownBy w3 (Value.slice qw (L1.length + n) cw).ownBlock →
          (∀ q c, v1 = .slice q (L1.length + n + 1) c → w3.heap[d]? = some (.cells #[.slice qw (L1.length + n) cw, .int .i64 (b1 : Int), .int .i64 last] 91 (0, 0)) → w3.cell? ⟨d, 0, none⟩ = some (.slice qw (L1.length + n) cw) → w3.frozen? ⟨d, 0, none⟩ = false → Below d W2 w3 → G) → G) := by
        intro G v1 w3 ho hg hG
        obtain ⟨q, c, hv⟩ := row_as ho
        have hne : some d ≠ (Value.slice qw (L1.length + n) cw).ownBlock := fun e => by have := rowBaseB hrow d e.symm; omega
        have h3 := (hg.block d (by simp; omega) hne).trans ((alloc_old _ _ _ hdr).trans hh)
        obtain ⟨e1, e2⟩ := cells_at (v := .slice qw (L1.length + n) cw) (j := 0) h3 rfl
        exact hG q c hv h3 e1 e2 ((hbl.alloc (by omega) _).grown hg (by simp; omega) (fun k hk => by have := rowBaseB hrow k hk; omega))
      go_wp2_with (at_builtin; refine wpList_append_own _ rfl _ _ 58 rfl (d + 1) 5 i0 (.int .u8 0) 1 1 Tryz.underlying58 hi hz0 hz1 hz2 rfl (by decide) _ _ _ rfl (row_alloc hrow _) ⟨wr.heap.size, 0, none⟩ 1 1 [.int .u8 0] rfl rfl (cell_one_new _ _ _) (by simp [Value.oneCell']) (by unfold maxLen; omega) (by omega) (by simp; omega) ?_; intro v1 w3 hown3 hgrow3 _; refine HL.out _ v1 w3 hown3 hgrow3 ?_; intro q3 cc3 hv3 hh3 c03 f03 hb3; subst hv3)
      have HST := Hid.mk (cells_put (j := 0) hh3 (.slice q3 (L1.length + n + 1) cc3))
      have HSZ : Hid (d < w3.heap.size) := Nat.lt_of_lt_of_le hdl2 hb3.size
      have HRR : Hid (w3.ownsRow (d + 1) 5 1 (.slice q3 (L1.length + n + 1) cc3) (L1 ++ List.replicate (n + 1) 0).length (Lib.byteCells (L1 ++ List.replicate (n + 1) 0))) := by
        have e1 : L1 ++ List.replicate (n + 1) (0 : UInt8) = (L1 ++ List.replicate n 0) ++ [0] := by rw [List.replicate_succ', List.append_assoc]
        have e2 : ((L1 ++ List.replicate n (0 : UInt8)) ++ [0]).length = L1.length + n + 1 := by simp; omega
        rw [Hid, e1, byteCells_snoc, e2]
        exact hown3
      have HM1 : Hid (slLen (wr.cell? ⟨d, 0, none⟩) = L1.length + n) := by rw [Hid, c0]; rfl
      clear hown3 hgrow3 HL hrow
      have HLT : Hid (A + 1 - slLen ((w3.setCell ⟨d, 0, none⟩ (.slice q3 (L1.length + n + 1) cc3)).cell? ⟨d, 0, none⟩) < A + 1 - slLen (wr.cell? ⟨d, 0, none⟩)) := by
        rw [Hid, HM1.out, (cells_at (v := .slice q3 (L1.length + n + 1) cc3) (j := 0) HST.out rfl).1]
        simp only [slLen]
        omega
      have hrelN : ∃ n' : Nat, L1.length + n' ≤ 10100 ∧ (n' = 0 ∨ L1.length + n' ≤ A + 1) ∧ TL (w3.setCell ⟨d, 0, none⟩ (.slice q3 (L1.length + n + 1) cc3)) d (L1 ++ List.replicate n' 0) b1 last ∧ Below d W2 (w3.setCell ⟨d, 0, none⟩ (.slice q3 (L1.length + n + 1) cc3)) ∧ d < (w3.setCell ⟨d, 0, none⟩ (.slice q3 (L1.length + n + 1) cc3)).heap.size :=
        ⟨n + 1, by omega, .inr (by omega), ⟨_, HST.out, ownsRow_setCell_below HRR.out (a := ⟨d, 0, none⟩) (Nat.lt_succ_self d) _⟩, hb3.setCell (p := ⟨d, 0, none⟩) (Nat.le_refl _) _, by simp [World.setCell]; exact HSZ.out⟩
      go_wp2
      go_roundw
      case rel => exact hrelN
      case measure => exact HLT.out
    · have hn3 : n = A + 1 - L1.length := by omega
      have hAl : A < (L1 ++ List.replicate n 0).length := by rw [hlen]; omega
      obtain ⟨g, cap, hgc⟩ := row_form hrow (by omega)
      cases hgc
      have HTL : Hid (addTail L1 b1 k = (((L1 ++ List.replicate n 0).set A (UInt8.ofNat ((L1 ++ List.replicate n (0 : UInt8))[A].toNat ||| 2 ^ (7 - k % 8)))).set (b1 - 1) (UInt8.ofNat (L1.length + n - b1)))) := by
        rw [Hid, addTail, ← HA.out, ← hn3, List.length_set, hlen, List.getD_eq_getElem?_getD, List.getElem?_eq_getElem hAl]
        rfl
      have hAc := byte_cell hrow A hAl
      obtain ⟨hAf, hgl, hgb⟩ := row_frozen (j := A) hrow (by omega)
      have hx := (L1 ++ List.replicate n (0 : UInt8))[A].toNat_lt
      have hst1 := row_store (j := A) hrow (by omega) (.int .u8 (((UInt8.ofNat ((L1 ++ List.replicate n (0 : UInt8))[A].toNat ||| 2 ^ (7 - k % 8))).toNat : Nat) : Int))
      rw [byteCells_set] at hst1
      have hor := or_u8 (L1 ++ List.replicate n (0 : UInt8))[A].toNat (2 ^ (7 - k % 8)) (by omega) (pow_lt8 k)
      have hAi0 : (0 : Int) ≤ (A : Int) := by omega
      have hAi1 : (A : Int) < ((L1.length + n : Nat) : Int) := by omega
      have hdg : d ≠ g := by omega
      have hor3 : Go.bits BinOp.or IntKind.u8 ((L1 ++ List.replicate n (0 : UInt8))[A].toNat : Int) (2 ^ (7 - k % 8) % 256) = (((UInt8.ofNat ((L1 ++ List.replicate n (0 : UInt8))[A].toNat ||| 2 ^ (7 - k % 8))).toNat : Nat) : Int) := by
        have e : ((2 : Int) ^ (7 - k % 8) % 256) = ((2 ^ (7 - k % 8) : Nat) : Int) := by
          have hpw := pow_lt8 k
          have e2 : (2 : Int) ^ (7 - k % 8) = ((2 ^ (7 - k % 8) : Nat) : Int) := by push_cast; rfl
          rw [e2]
          generalize 2 ^ (7 - k % 8) = q at hpw
          omega
        rw [e]
        exact hor
      have hr0 : (0 : Int) ≤ 7 - (k : Int).tmod 8 := by rw [Int.tmod_eq_emod_of_nonneg (by omega)]; omega
      clear hlen hor
      generalize (L1 ++ List.replicate n (0 : UInt8))[A].toNat = x at hAc hx hst1 hor3 HTL
      generalize L1 ++ List.replicate n (0 : UInt8) = L2 at hst1 hrow hAl HTL
      have HST1 := Hid.mk hst1
      have HRW := Hid.mk hrow
      clear hst1 hrow hn2 hn3 hlt
      go_wp2
      have HOR := Hid.mk hor3
      clear hor3
      go_region
      rw [HOR.out]
      obtain ⟨y, hy⟩ : ∃ y, (UInt8.ofNat (x ||| 2 ^ (7 - k % 8))) = y := ⟨_, rfl⟩
      rw [hy] at HST1 HTL ⊢
      obtain ⟨W5, hW5⟩ : ∃ W5, W5 = (wr.setCell ⟨g, A, none⟩ (.int .u8 (y.toNat : Int))).drew := ⟨_, rfl⟩
      rw [← hW5]
      have hh5 : W5.heap[d]? = some (.cells #[.slice (some ⟨g, 0, none⟩) (L1.length + n) cw, .int .i64 (b1 : Int), .int .i64 last] 91 (0, 0)) := by
        rw [hW5]
        exact (Below.heap_setCell wr ⟨g, A, none⟩ _ d hdg).trans hh
      have hrow5 : W5.ownsRow (d + 1) 5 1 (.slice (some ⟨g, 0, none⟩) (L1.length + n) cw) (L1.length + n) (Lib.byteCells (L2.set A y)) := by rw [hW5]; exact HST1.out
      have hbl5 : Below d W2 W5 := by rw [hW5]; exact (hbl.setCell (p := ⟨g, A, none⟩) (by simp; omega) _).drew
      obtain ⟨e0, _⟩ := cells_at (v := .slice (some ⟨g, 0, none⟩) (L1.length + n) cw) (j := 0) hh5 rfl
      obtain ⟨e1, _⟩ := cells_at (v := .int .i64 (b1 : Int)) (j := 1) hh5 rfl
      obtain ⟨e2, f2⟩ := cells_at (v := .int .i64 last) (j := 2) hh5 rfl
      have hL2 : (L2.set A y).length = L1.length + n := by
        have := hrow5.1
        simpa [Lib.byteCells] using this
      have hbc := byte_cell hrow5 (b1 - 1) (by omega)
      obtain ⟨hbf, _, _⟩ := row_frozen (j := b1 - 1) hrow5 (by omega)
      have hst2 := row_store (j := b1 - 1) hrow5 (by omega) (.int .u8 (((UInt8.ofNat (L1.length + n - b1)).toNat : Nat) : Int))
      rw [byteCells_set] at hst2
      have HST2 := Hid.mk hst2
      have HH5 := Hid.mk hh5
      have HL2 := Hid.mk hL2
      have hbi : ((b1 : Int) - 1) = ((b1 - 1 : Nat) : Int) := by omega
      have hbi0 : (0 : Int) ≤ (b1 : Int) - 1 := by omega
      have hbi1 : (b1 : Int) - 1 < ((L1.length + n : Nat) : Int) := by omega
      have hcvb : IntKind.u8.wrap (((L1.length + n : Nat) : Int) - (b1 : Int)) = (((UInt8.ofNat (L1.length + n - b1)).toNat : Nat) : Int) := wrapu8 _ _ (by omega)
      generalize (L2.set A y)[b1 - 1]'(by omega) = z at hbc
      clear hst2 hrow5 hh5 hL2 HST1 HRW HOR hW5 hh hAc hAf c0 f0
      have HVL : Hid (((L1.length : Int) + (n : Int) - (b1 : Int)) % 256 = (((UInt8.ofNat (L1.length + n - b1)).toNat : Nat) : Int)) := by
        rw [Hid, UInt8.toNat_ofNat']
        omega
      go_wp2
      go_region
      rw [HVL.out]
      obtain ⟨W6, hW6⟩ : ∃ W6, W6 = (W5.setCell ⟨g, b1 - 1, none⟩ (.int .u8 (((UInt8.ofNat (L1.length + n - b1)).toNat : Nat) : Int))).drew := ⟨_, rfl⟩
      rw [← hW6]
      have hh6 : W6.heap[d]? = some (.cells #[.slice (some ⟨g, 0, none⟩) (L1.length + n) cw, .int .i64 (b1 : Int), .int .i64 last] 91 (0, 0)) := by
        rw [hW6]
        exact (Below.heap_setCell W5 ⟨g, b1 - 1, none⟩ _ d hdg).trans HH5.out
      have hrow6 : W6.ownsRow (d + 1) 5 1 (.slice (some ⟨g, 0, none⟩) (L1.length + n) cw) (addTail L1 b1 k).length (Lib.byteCells (addTail L1 b1 k)) := by
        rw [HTL.out, List.length_set, HL2.out, hW6]
        exact HST2.out
      have hbl6 : Below d W2 W6 := by rw [hW6]; exact (hbl5.setCell (p := ⟨g, b1 - 1, none⟩) (by simp; omega) _).drew
      have hlt6 : (addTail L1 b1 k).length = L1.length + n := by rw [HTL.out, List.length_set, HL2.out]
      obtain ⟨c62, f62⟩ := cells_at (v := .int .i64 last) (j := 2) hh6 rfl
      have HP6 := Hid.mk (cells_put (j := 2) hh6 (.int .i64 (k : Int)))
      have HR6 := Hid.mk hrow6
      have HT6 := Hid.mk hlt6
      clear hrow6 hh6 hW6 hlt6 HTL e0 e1 e2 f2 hbc hbf
      go_wp2
      refine bodyPost_end (results_none rfl _ _ _) rfl ⟨rfl, ⟨_, HP6.out, ?_⟩, HB2.out.trans (hbl6.setCell (p := ⟨d, 2, none⟩) (Nat.le_refl _) _)⟩
      exact ownsRow_setCell_below HR6.out (a := ⟨d, 2, none⟩) (Nat.lt_succ_self d) _
end Go.Proofs.YtnchoogjjnjikaaGreatDoor