/- Texts of this proof, joined: DBytes, DKey, DTyFacts, DTyAdd, DTyAdd2, DTyEnc. -/
import Derived.Test.YtaiakpigljcjbaaGreatDoorJ4
import Derived.Deep.RegionHeld3
import Derived.Test.YtaiakpigljcjbaaGreatDoorJ8
import Derived.Test.YtaiakpigljcjbaaGreatDoorJ6
import Derived.BigRegion
/- bytesOf: a number as one, two or four bytes. -/
namespace Go.Proofs.YtaiakpigljcjbaaGreatDoor
set_option linter.unusedVariables false
set_option linter.unusedSimpArgs false
open Go.RowKit
theorem cells_put {W : World} {b j : Nat} {cs : Array Value} {t : TypeId} (h : W.heap[b]? = some (.cells cs t (0, 0))) (u : Value) : (W.setCell ⟨b, j, none⟩ u).heap[b]? = some (.cells (cs.setIfInBounds j u) t (0, 0)) := by
  simp only [World.setCell, Array.getElem?_modify, h]
  rfl
theorem cells_at {W : World} {b j : Nat} {cs : Array Value} {t : TypeId} {v : Value} (h : W.heap[b]? = some (.cells cs t (0, 0))) (hj : cs[j]? = some v) : W.cell? ⟨b, j, none⟩ = some v ∧ W.frozen? ⟨b, j, none⟩ = false := by
  simp [World.cell?, World.frozen?, h, hj]
end Go.Proofs.YtaiakpigljcjbaaGreatDoor
/- DNSKEY: taken apart, and put together. -/
namespace Go.Proofs.YtaiakpigljcjbaaGreatDoor
set_option linter.unusedVariables false
open Go.RowKit
end Go.Proofs.YtaiakpigljcjbaaGreatDoor
/- Lists of types as bytes: windows of bits. Nothing here speaks of the program. -/
namespace Go.Proofs.YtaiakpigljcjbaaGreatDoor
set_option linter.unusedVariables false
open Go.RowKit
theorem bit_tb (b : List UInt8) (n : Nat) : bitAt b n = (b.getD (n / 8) 0).toNat.testBit (7 - n % 8) := by
  rw [bitAt, Nat.testBit_eq_decide_div_mod_eq, Bool.eq_iff_iff, beq_iff_eq, decide_eq_true_iff]
theorem getD_far (b : List UInt8) (j : Nat) (h : b.length ≤ j) : b.getD j 0 = 0 := by
  rw [List.getD_eq_getElem?_getD, List.getElem?_eq_none h]; rfl
theorem bit_far (b : List UInt8) (n : Nat) (h : b.length ≤ n / 8) : bitAt b n = false := by
  rw [bit_tb, getD_far b _ h]
  exact Nat.zero_testBit _
theorem filter_low (p : Nat → Bool) (k : Nat) (h : ∀ i, k ≤ i → p i = false) : ∀ n, k ≤ n → (List.range n).filter p = (List.range k).filter p := by
  intro n hn
  obtain ⟨j, rfl⟩ : ∃ j, n = k + j := ⟨n - k, by omega⟩
  clear hn
  induction j with
  | zero => rfl
  | succ j ih => rw [show k + (j + 1) = (k + j) + 1 by omega, List.range_succ, List.filter_append, ih]; simp [h (k + j) (by omega)]
theorem filter_one (p : Nat → Bool) (k : Nat) (hk : p k = true) (h : ∀ i, k < i → p i = false) (n : Nat) (hn : k < n) : (List.range n).filter p = (List.range k).filter p ++ [k] := by
  rw [filter_low p (k + 1) (fun i hi => h i (by omega)) n (by omega), List.range_succ, List.filter_append]
  simp [hk]
theorem mem_bits {w : Nat} {b : List UInt8} {n x : Nat} : x ∈ bitsL w b n ↔ ∃ i, i < n ∧ bitAt b i = true ∧ x = w * 256 + i := by
  unfold bitsL
  simp only [List.mem_map, List.mem_filter, List.mem_range]
  constructor
  · rintro ⟨i, ⟨h1, h2⟩, rfl⟩; exact ⟨i, h1, h2, rfl⟩
  · rintro ⟨i, h1, h2, rfl⟩; exact ⟨i, ⟨h1, h2⟩, rfl⟩
def padB (b : List UInt8) (k : Nat) : List UInt8 := b ++ List.replicate (k / 8 + 1 - b.length) 0
def setB (b : List UInt8) (k : Nat) : List UInt8 := (padB b k).set (k / 8) (UInt8.ofNat ((b.getD (k / 8) 0).toNat ||| 2 ^ (7 - k % 8)))
theorem padB_len (b : List UInt8) (k : Nat) : (padB b k).length = max b.length (k / 8 + 1) := by simp [padB]; omega
theorem setB_len (b : List UInt8) (k : Nat) : (setB b k).length = max b.length (k / 8 + 1) := by simp [setB, padB_len]
theorem padB_get (b : List UInt8) (k j : Nat) : (padB b k).getD j 0 = b.getD j 0 := by
  unfold padB
  rw [List.getD_eq_getElem?_getD, List.getD_eq_getElem?_getD, List.getElem?_append]
  split
  · rfl
  · rename_i h
    rw [List.getElem?_eq_none (l := b) (by omega), List.getElem?_replicate]
    split <;> rfl
theorem or_lt (a k : Nat) (h : a < 256) : a ||| 2 ^ (7 - k % 8) < 256 := by
  have : 2 ^ (7 - k % 8) < 2 ^ 8 := Nat.pow_lt_pow_right (by omega) (by omega)
  exact Nat.or_lt_two_pow (n := 8) h this
theorem setB_get (b : List UInt8) (k j : Nat) : ((setB b k).getD j 0).toNat = if j = k / 8 then (b.getD j 0).toNat ||| 2 ^ (7 - k % 8) else (b.getD j 0).toNat := by
  unfold setB
  rw [List.getD_eq_getElem?_getD, List.getElem?_set]
  have hu := (b.getD (k / 8) 0).toNat_lt
  by_cases h : k / 8 = j
  · rw [if_pos h, if_pos h.symm, if_pos (by rw [padB_len]; omega)]
    subst h
    rw [Option.getD_some, UInt8.toNat_ofNat', Nat.mod_eq_of_lt (or_lt _ k (by omega))]
  · rw [if_neg h, if_neg (fun e => h e.symm), ← List.getD_eq_getElem?_getD, padB_get]
theorem setB_bit (b : List UInt8) (k i : Nat) : bitAt (setB b k) i = (bitAt b i || decide (i = k)) := by
  rw [bit_tb, bit_tb, setB_get]
  by_cases h : i / 8 = k / 8
  · rw [if_pos h, Nat.testBit_or, Nat.testBit_two_pow]
    congr 1
    by_cases e : i = k
    · subst e; simp
    · have : ¬ (7 - k % 8 = 7 - i % 8) := by omega
      simp [e, this]
  · rw [if_neg h]
    have : ¬ i = k := fun e => h (by rw [e])
    simp [this]
theorem last_bit {b : List UInt8} (h : lastOk b = true) : ∃ i, b.length = i / 8 + 1 ∧ bitAt b i = true := by
  unfold lastOk at h
  cases hl : b.getLast? with
  | none => rw [hl] at h; cases h
  | some c =>
    rw [hl] at h
    simp only [bne_iff_ne, ne_eq] at h
    have hb0 : b ≠ [] := fun e => by rw [e] at hl; cases hl
    have hlen : 0 < b.length := List.length_pos_iff.2 hb0
    have hc : b.getD (b.length - 1) 0 = c := by
      rw [List.getD_eq_getElem?_getD, ← List.getLast?_eq_getElem?, hl]; rfl
    have hcn : c.toNat ≠ 0 := fun e => h (UInt8.toNat_inj.1 (by rw [e]; rfl))
    obtain ⟨t, ht⟩ := Nat.exists_testBit_of_ne_zero hcn
    have ht8 : t < 8 := by
      apply Decidable.byContradiction
      intro hge
      have := c.toNat_lt
      have h2 : c.toNat < 2 ^ t := Nat.lt_of_lt_of_le (by omega : c.toNat < 2 ^ 8) (Nat.pow_le_pow_right (by omega) (by omega))
      rw [Nat.testBit_lt_two_pow h2] at ht
      cases ht
    refine ⟨8 * (b.length - 1) + (7 - t), by omega, ?_⟩
    rw [bit_tb, show (8 * (b.length - 1) + (7 - t)) / 8 = b.length - 1 by omega, show 7 - (8 * (b.length - 1) + (7 - t)) % 8 = t by omega, hc]
    exact ht
theorem setB_last (b : List UInt8) (k : Nat) (h : b.length ≤ k / 8 + 1) : lastOk (setB b k) = true := by
  have hl := setB_len b k
  have hg := setB_get b k (k / 8)
  rw [if_pos rfl] at hg
  have hne : ((setB b k).getD (k / 8) 0).toNat ≠ 0 := by
    rw [hg]
    intro e
    have := congrArg (fun x => x.testBit (7 - k % 8)) e
    simp [Nat.testBit_or] at this
  unfold lastOk
  rw [List.getLast?_eq_getElem?, hl, show max b.length (k / 8 + 1) - 1 = k / 8 by omega, List.getElem?_eq_getElem (by omega)]
  rw [List.getD_eq_getElem?_getD, List.getElem?_eq_getElem (by omega), Option.getD_some] at hne
  simp only [bne_iff_ne, ne_eq]
  intro e
  rw [e] at hne
  exact hne rfl
theorem setB_bits (w : Nat) (b : List UInt8) (k : Nat) (hk : k < 256) (h : ∀ i, bitAt b i = true → i < k) : bitsL w (setB b k) 256 = bitsL w b 256 ++ [w * 256 + k] := by
  have hb : ∀ i, k ≤ i → bitAt b i = false := fun i hi => by
    cases e : bitAt b i with
    | false => rfl
    | true => have := h i e; omega
  unfold bitsL
  rw [filter_one (fun i => bitAt (setB b k) i) k (by rw [setB_bit]; simp) (fun i hi => by rw [setB_bit, hb i (by omega)]; simp; omega) 256 hk]
  rw [filter_low (fun i => bitAt b i) k hb 256 (by omega), List.map_append]
  congr 2
  apply List.filter_congr
  intro i hi
  rw [setB_bit]
  have : ¬ i = k := by have := List.mem_range.1 hi; omega
  simp [this]
/-! ### windows -/
abbrev Win := Nat × List UInt8
def encW : List Win → List UInt8
  | [] => []
  | p :: r => UInt8.ofNat p.1 :: UInt8.ofNat p.2.length :: (p.2 ++ encW r)
def OkW : Int → List Win → Prop
  | _, [] => True
  | last, p :: r => last < (p.1 : Int) ∧ p.1 ≤ 255 ∧ p.2.length ≤ 32 ∧ lastOk p.2 = true ∧ OkW p.1 r
def tysW : List Win → List Nat
  | [] => []
  | p :: r => bitsL p.1 p.2 256 ++ tysW r
theorem encW_app : ∀ (a b : List Win), encW (a ++ b) = encW a ++ encW b
  | [], b => rfl
  | p :: a, b => by simp [encW, encW_app a b]
theorem tysW_app : ∀ (a b : List Win), tysW (a ++ b) = tysW a ++ tysW b
  | [], b => rfl
  | p :: a, b => by simp [tysW, tysW_app a b]
/-! ### uniqueness -/
/-! ### one type more -/
def addT (ws : List Win) (k : Nat) : List Win := match ws.getLast? with
  | some p => if p.1 = k / 256 then ws.dropLast ++ [(p.1, setB p.2 (k % 256))] else ws ++ [(k / 256, setB [] (k % 256))]
  | none => [(k / 256, setB [] (k % 256))]
theorem okW_snoc : ∀ (ws : List Win) (last : Int) (p : Win), OkW last ws → (∀ q ∈ ws, q.1 < p.1) → last < (p.1 : Int) → p.1 ≤ 255 → p.2.length ≤ 32 → lastOk p.2 = true → OkW last (ws ++ [p])
  | [], last, p, _, _, h1, h2, h3, h4 => ⟨h1, h2, h3, h4, trivial⟩
  | q :: r, last, p, ⟨k1, k2, k3, k4, k5⟩, hq, h1, h2, h3, h4 => ⟨k1, k2, k3, k4, okW_snoc r q.1 p k5 (fun x hx => hq x (by simp [hx])) (by have := hq q (by simp); omega) h2 h3 h4⟩
theorem okW_parts : ∀ (ws : List Win) (last : Int) (p : Win), OkW last (ws ++ [p]) → OkW last ws ∧ (∀ q ∈ ws, q.1 < p.1) ∧ last < (p.1 : Int) ∧ p.1 ≤ 255 ∧ p.2.length ≤ 32 ∧ lastOk p.2 = true
  | [], last, p, ⟨h1, h2, h3, h4, _⟩ => ⟨trivial, by simp, h1, h2, h3, h4⟩
  | q :: r, last, p, ⟨k1, k2, k3, k4, k5⟩ => by
    obtain ⟨a1, a2, a3, a4, a5, a6⟩ := okW_parts r q.1 p k5
    refine ⟨⟨k1, k2, k3, k4, a1⟩, fun x hx => ?_, by omega, a4, a5, a6⟩
    rcases List.mem_cons.1 hx with rfl | hx
    · omega
    · exact a2 x hx
theorem setB_nil_len (k : Nat) (h : k < 256) : (setB [] k).length ≤ 32 := by rw [setB_len]; simp; omega
theorem new_ok (k : Nat) (hk : k ≤ 65535) : lastOk (setB [] (k % 256)) = true ∧ bitsL (k / 256) (setB [] (k % 256)) 256 = [k] := by
  refine ⟨setB_last [] _ (by simp), ?_⟩
  rw [setB_bits (k / 256) [] (k % 256) (by omega) (fun i hi => by rw [bit_far [] i (by simp)] at hi; cases hi)]
  have : bitsL (k / 256) [] 256 = [] := by
    unfold bitsL
    rw [filter_low _ 0 (fun i _ => bit_far [] i (by simp)) 256 (by omega)]
    rfl
  rw [this, List.nil_append, show k / 256 * 256 + k % 256 = k by omega]
theorem addT_ok (ws : List Win) (k : Nat) (hk : k ≤ 65535) (h : OkW (-1) ws) (hl : ∀ x ∈ tysW ws, x < k) : OkW (-1) (addT ws k) ∧ tysW (addT ws k) = tysW ws ++ [k] := by
  obtain ⟨n1, n2⟩ := new_ok k hk
  rcases List.eq_nil_or_concat ws with rfl | ⟨r, p, rfl⟩
  · refine ⟨⟨by simp only; omega, by simp only; omega, setB_nil_len _ (by omega), n1, trivial⟩, ?_⟩
    show bitsL (k / 256) (setB [] (k % 256)) 256 ++ [] = [k]
    rw [n2, List.append_nil]
  · rw [List.concat_eq_append] at h hl ⊢
    obtain ⟨a1, a2, a3, a4, a5, a6⟩ := okW_parts r _ p h
    have hbit : ∀ i, bitAt p.2 i = true → p.1 * 256 + i < k := fun i hi => by
      have hi2 : i < 256 := by
        apply Decidable.byContradiction
        intro hge
        rw [bit_far p.2 i (by omega)] at hi
        cases hi
      apply hl
      rw [tysW_app, List.mem_append]
      right
      rw [tysW, tysW, List.append_nil]
      exact mem_bits.2 ⟨i, hi2, hi, rfl⟩
    obtain ⟨i, hi, hb⟩ := last_bit a6
    have hik := hbit i hb
    unfold addT
    rw [List.getLast?_concat]
    simp only
    split
    · rename_i hw
      rw [List.dropLast_concat]
      have hkm : ∀ j, bitAt p.2 j = true → j < k % 256 := fun j hj => by have := hbit j hj; omega
      have hm := hkm i hb
      refine ⟨okW_snoc r _ _ a1 a2 a3 a4 (by simp only; rw [setB_len]; omega) (setB_last _ _ (by omega)), ?_⟩
      rw [tysW_app, tysW_app, List.append_assoc]
      congr 1
      simp only [tysW, List.append_nil]
      rw [setB_bits p.1 p.2 (k % 256) (by omega) hkm, show p.1 * 256 + k % 256 = k by omega]
    · rename_i hw
      refine ⟨okW_snoc _ _ _ h (fun q hq => ?_) (by simp only; omega) (by simp only; omega) (setB_nil_len _ (by omega)) n1, ?_⟩
      · simp only
        rcases List.mem_append.1 hq with hq | hq
        · have := a2 q hq
          omega
        · simp only [List.mem_singleton] at hq
          subst hq
          omega
      · rw [tysW_app (r ++ [p])]
        congr 1
        show bitsL (k / 256) (setB [] (k % 256)) 256 ++ [] = [k]
        rw [n2, List.append_nil]
end Go.Proofs.YtaiakpigljcjbaaGreatDoor
/- typeList.add: one type more. -/
namespace Go.Proofs.YtaiakpigljcjbaaGreatDoor
set_option linter.unusedVariables false
open Go.RowKit
def addTail (L1 : List UInt8) (b1 k : Nat) : List UInt8 :=
  let L2 := L1 ++ List.replicate (b1 + k % 256 / 8 + 1 - L1.length) 0
  let L3 := L2.set (b1 + k % 256 / 8) (UInt8.ofNat ((L2.getD (b1 + k % 256 / 8) 0).toNat ||| 2 ^ (7 - k % 8)))
  L3.set (b1 - 1) (UInt8.ofNat (L3.length - b1))
end Go.Proofs.YtaiakpigljcjbaaGreatDoor
/- typeList.add: one type more, in a new window. -/
namespace Go.Proofs.YtaiakpigljcjbaaGreatDoor
set_option linter.unusedVariables false
open Go.RowKit
end Go.Proofs.YtaiakpigljcjbaaGreatDoor
/- bytesOfTypes: a list of types as bytes. -/
namespace Go.Proofs.YtaiakpigljcjbaaGreatDoor
set_option linter.unusedVariables false
open Go.RowKit
theorem addTail_eq (p0 bs : List UInt8) (c0 : UInt8) (b k : Nat) (hb : b = p0.length + 1) : addTail (p0 ++ c0 :: bs) b k = p0 ++ UInt8.ofNat (setB bs (k % 256)).length :: setB bs (k % 256) := by
  subst hb
  have hm : k % 256 % 8 = k % 8 := by omega
  have e2 : (p0 ++ c0 :: bs) ++ List.replicate (p0.length + 1 + k % 256 / 8 + 1 - (p0 ++ c0 :: bs).length) (0 : UInt8) = p0 ++ c0 :: padB bs (k % 256) := by
    rw [padB, List.append_assoc, List.cons_append, List.length_append, List.length_cons]
    rw [show p0.length + 1 + k % 256 / 8 + 1 - (p0.length + (bs.length + 1)) = k % 256 / 8 + 1 - bs.length by omega]
  have e3 : (p0 ++ c0 :: padB bs (k % 256)).getD (p0.length + 1 + k % 256 / 8) 0 = bs.getD (k % 256 / 8) 0 := by
    rw [← padB_get bs (k % 256) (k % 256 / 8), List.getD_eq_getElem?_getD, List.getD_eq_getElem?_getD, List.getElem?_append_right (by omega), show p0.length + 1 + k % 256 / 8 - p0.length = k % 256 / 8 + 1 by omega, List.getElem?_cons_succ]
  have e4 : (p0 ++ c0 :: padB bs (k % 256)).set (p0.length + 1 + k % 256 / 8) (UInt8.ofNat ((bs.getD (k % 256 / 8) 0).toNat ||| 2 ^ (7 - k % 8))) = p0 ++ c0 :: setB bs (k % 256) := by
    rw [List.set_append_right _ _ (by omega), show p0.length + 1 + k % 256 / 8 - p0.length = k % 256 / 8 + 1 by omega, List.set_cons_succ, setB, hm]
  unfold addTail
  simp only
  rw [e2, e3, e4, show p0.length + 1 - 1 = p0.length by omega, List.set_append_right _ _ (Nat.le_refl _), Nat.sub_self, List.set_cons_zero]
  rw [show (p0 ++ c0 :: setB bs (k % 256)).length - (p0.length + 1) = (setB bs (k % 256)).length by simp; omega]
structure Enc (ws : List Win) (L : List UInt8) (b : Nat) (last : Int) : Prop where
  bytes : L = encW ws
  ok : OkW (-1) ws
  low : -1 ≤ last
  high : last ≤ 65535
  le : ∀ x ∈ tysW ws, (x : Int) ≤ last
  none : ws = [] → last = -1
  some : ∀ r p, ws = r ++ [p] → b = (encW r).length + 2 ∧ ((p.1 : Nat) : Int) = last / 256
theorem Enc.nil : Enc [] [] 0 (-1) := ⟨rfl, trivial, by omega, by omega, by simp [tysW], fun _ => rfl, fun r p h => by simp at h⟩
theorem encW_snoc (r : List Win) (p : Win) : encW (r ++ [p]) = encW r ++ UInt8.ofNat p.1 :: UInt8.ofNat p.2.length :: p.2 := by rw [encW_app]; simp [encW]
theorem encW_len : ∀ (ws : List Win) (last : Int), OkW last ws → -1 ≤ last → last ≤ 255 → ((encW ws).length : Int) ≤ 34 * (255 - last)
  | [], last, _, h, h' => by simp [encW]; omega
  | p :: r, last, ⟨h1, h2, h3, h4, h5⟩, hl, _ => by
    have := encW_len r p.1 h5 (by omega) (by omega)
    simp [encW]
    omega
theorem Enc.len {ws : List Win} {L : List UInt8} {b : Nat} {last : Int} (h : Enc ws L b last) : L.length ≤ 8704 := by
  have := encW_len ws (-1) h.ok (by omega) (by omega)
  rw [h.bytes]
  omega
theorem Enc.next {ws : List Win} {L : List UInt8} {b : Nat} {last : Int} (h : Enc ws L b last) (k : Nat) (hk : k ≤ 65535) (hl : last < (k : Int)) (b' : Nat) (hb : ∀ r p, addT ws k = r ++ [p] → b' = (encW r).length + 2 ∧ p.1 = k / 256) (L' : List UInt8) (hL : L' = encW (addT ws k)) : Enc (addT ws k) L' b' k := by
  obtain ⟨a1, a2⟩ := addT_ok ws k hk h.ok (fun x hx => by have := h.le x hx; omega)
  refine ⟨hL, a1, by omega, by omega, fun x hx => ?_, fun e => ?_, fun r p e => ?_⟩
  · rw [a2, List.mem_append] at hx
    rcases hx with hx | hx
    · have := h.le x hx; omega
    · simp only [List.mem_singleton] at hx; omega
  · rw [e] at a2
    have := congrArg List.length a2
    simp [tysW] at this
  · obtain ⟨c1, c2⟩ := hb r p e
    exact ⟨c1, by rw [c2]; omega⟩
theorem snoc_inj {r r' : List Win} {p p' : Win} (h : r ++ [p] = r' ++ [p']) : r = r' ∧ p = p' := by
  have := List.append_inj' h rfl
  exact ⟨this.1, by simpa using this.2⟩
theorem Enc.same {ws : List Win} {L : List UInt8} {b : Nat} {last : Int} (h : Enc ws L b last) (k : Nat) (hk : k ≤ 65535) (hl : last < (k : Int)) (hw : ((k / 256 : Nat) : Int) = last / 256) : 1 ≤ b ∧ b ≤ L.length ∧ Enc (addT ws k) (addTail L b k) b k := by
  have hlow := h.low
  rcases List.eq_nil_or_concat ws with rfl | ⟨r, p, rfl⟩
  · have := h.none rfl
    omega
  · rw [List.concat_eq_append] at h ⊢
    obtain ⟨hb, hp⟩ := h.some r p rfl
    have hL := h.bytes
    rw [encW_snoc] at hL
    have hpk : p.1 = k / 256 := by omega
    have ha : addT (r ++ [p]) k = r ++ [(p.1, setB p.2 (k % 256))] := by
      unfold addT
      rw [List.getLast?_concat]
      simp only
      rw [if_pos hpk, List.dropLast_concat]
    refine ⟨by omega, by rw [hL, hb]; simp, h.next k hk hl b (fun r' p' e => ?_) _ ?_⟩
    · rw [ha] at e
      obtain ⟨rfl, rfl⟩ := snoc_inj e
      exact ⟨hb, hpk⟩
    · rw [ha, encW_snoc, hL]
      have := addTail_eq (encW r ++ [UInt8.ofNat p.1]) p.2 (UInt8.ofNat p.2.length) b k (by rw [hb]; simp)
      simp only [List.append_assoc, List.cons_append, List.nil_append] at this ⊢
      exact this
theorem Enc.new {ws : List Win} {L : List UInt8} {b : Nat} {last : Int} (h : Enc ws L b last) (k : Nat) (hk : k ≤ 65535) (hl : last < (k : Int)) (hw : ¬ ((k / 256 : Nat) : Int) = last / 256) : Enc (addT ws k) (addTail (L ++ [UInt8.ofNat (k / 256), 0]) (L.length + 2) k) (L.length + 2) k := by
  have ha : addT ws k = ws ++ [(k / 256, setB [] (k % 256))] := by
    rcases List.eq_nil_or_concat ws with rfl | ⟨r, p, rfl⟩
    · rfl
    · rw [List.concat_eq_append] at h ⊢
      obtain ⟨hb, hp⟩ := h.some r p rfl
      unfold addT
      rw [List.getLast?_concat]
      simp only
      rw [if_neg (by omega)]
  refine h.next k hk hl _ (fun r' p' e => ?_) _ ?_
  · rw [ha] at e
    obtain ⟨rfl, rfl⟩ := snoc_inj e
    exact ⟨by rw [h.bytes], rfl⟩
  · rw [ha, encW_snoc, ← h.bytes]
    have := addTail_eq (L ++ [UInt8.ofNat (k / 256)]) [] 0 (L.length + 2) k (by simp)
    simp only [List.append_assoc, List.cons_append, List.nil_append] at this ⊢
    exact this
def IntsAt (W : World) (v : Value) (l : List Int) : Prop := ∃ q c, v = .slice q l.length c ∧ ∀ j (h : j < l.length), ∃ g, q = some ⟨g, 0, none⟩ ∧ g < W.heap.size ∧ W.cell? ⟨g, j, none⟩ = some (.int .i64 l[j])
end Go.Proofs.YtaiakpigljcjbaaGreatDoor