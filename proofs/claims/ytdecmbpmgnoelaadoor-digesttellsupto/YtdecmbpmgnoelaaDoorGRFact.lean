/- Hex and Unhex: the document's answers are the program's. -/
import Derived.Test.YtdecmbpmgnoelaaDoorGRUnhex
namespace Go.Proofs.YtdecmbpmgnoelaaDoor
set_option linter.unusedVariables false
open Go.RowKit
/-- a byte's two groups of four bits. -/
def h2 (c : UInt8) : List UInt8 := [UInt8.ofNat (c.toNat / 16), UInt8.ofNat (c.toNat % 16)]
theorem h2_num (c : UInt8) (A : Nat) : (h2 c).foldl (fun a x => a * 16 + x.toNat) A = A * 256 + c.toNat := by
  have := c.toNat_lt
  simp only [h2, List.foldl_cons, List.foldl_nil, UInt8.toNat_ofNat']
  omega
theorem flat_num : ∀ (l : List UInt8) (A : Nat), (l.flatMap h2).foldl (fun a x => a * 16 + x.toNat) A = l.foldl (fun a x => a * 256 + x.toNat) A
  | [], A => rfl
  | c :: l, A => by rw [List.flatMap_cons, List.foldl_append, h2_num, flat_num l, List.foldl_cons]
theorem h2_dig (l : List UInt8) : ∀ x ∈ l.flatMap h2, x.toNat < 2 ^ 4 := by
  intro x hx
  obtain ⟨c, _, hc⟩ := List.mem_flatMap.1 hx
  have := c.toNat_lt
  simp only [h2, List.mem_cons, List.not_mem_nil, or_false] at hc
  rcases hc with rfl | rfl
  · rw [UInt8.toNat_ofNat']; omega
  · rw [UInt8.toNat_ofNat']; omega
theorem h2_len : ∀ l : List UInt8, (l.flatMap h2).length = 2 * l.length
  | [] => rfl
  | c :: l => by rw [List.flatMap_cons, List.length_append, h2_len l, List.length_cons]; show 2 + _ = _; omega
theorem grp_hex (l : List UInt8) : grp 4 l = l.flatMap h2 := by
  obtain ⟨p, hp, hv, hl, hd⟩ := grp_ok 4 (.inl rfl) l
  have hp0 : p = 0 := by omega
  subst hp0
  refine num_inj (2 ^ 4) (2 * l.length) _ _ (by omega) (h2_len l) hd (h2_dig l) ?_
  rw [hv, Nat.pow_zero, Nat.mul_one]
  exact (flat_num l 0).symm
theorem map_flat (l : List UInt8) : (l.flatMap h2).map ltr = l.flatMap hx := by
  induction l with
  | nil => rfl
  | cons c l ih => rw [List.flatMap_cons, List.map_append, ih, List.flatMap_cons]; rfl
/-- Hex tells what the document's does. -/
theorem spl_hex (l : List UInt8) : spl 4 l = l.flatMap hx := by
  rw [spl, grp_hex, map_flat]

/-- pairs of groups as a number. -/
theorem pair_num (l : List UInt8) (h : ∀ j, j < 2 * (l.length / 2) → (cnt (l[j]?.getD 0)).toNat < 16) : ∀ k, k ≤ l.length / 2 → num 256 ((List.range k).map (prs l)) = num 16 ((l.map cnt).take (2 * k))
  | 0, _ => rfl
  | k + 1, hk => by
    have h1 := h (2 * k) (by omega)
    have h3 := h (2 * k + 1) (by omega)
    have e : (l.map cnt).take (2 * (k + 1)) = ((l.map cnt).take (2 * k) ++ [cnt (l[2 * k]?.getD 0)]) ++ [cnt (l[2 * k + 1]?.getD 0)] := by
      rw [show 2 * (k + 1) = 2 * k + 1 + 1 by omega, List.take_add_one, List.take_add_one, List.getElem?_map, List.getElem?_map, List.getElem?_eq_getElem (by omega : 2 * k < l.length), List.getElem?_eq_getElem (by omega : 2 * k + 1 < l.length)]
      rfl
    rw [List.range_succ, List.map_append, List.map_singleton, num_snoc, pair_num l h k (by omega), e, num_snoc, num_snoc, prs, UInt8.toNat_ofNat']
    omega
/-- Unhex reads what the document's does. -/
theorem run_uns (l : List UInt8) (e : Ending) (h : RunE l e) : (∃ r, uns 4 l = some r ∧ e = .returned (.tuple #[.string ⟨r.toArray⟩, .bool true])) ∨ (uns 4 l = none ∧ e = .returned (.tuple #[.string ⟨#[]⟩, .bool false])) := by
  rcases h with ⟨⟨j, hj, hbad⟩, rfl⟩ | ⟨hall, hod, rfl⟩ | ⟨hall, hev, rfl⟩
  · refine .inr ⟨?_, rfl⟩
    unfold uns
    rw [if_neg]
    intro ha
    have hjl : j < l.length := by omega
    have := ha (l[j]?.getD 0) (by rw [List.getElem?_eq_getElem hjl]; exact List.getElem_mem _)
    omega
  · refine .inr ⟨?_, rfl⟩
    unfold uns
    by_cases ha : ∀ c ∈ l, (cnt c).toNat < 2 ^ 4
    · rw [if_pos ha]
      obtain ⟨hk, ho⟩ := rg_ok 4 8 (by omega) (l.map cnt) (fun x hx => by obtain ⟨c, hc, rfl⟩ := List.mem_map.1 hx; exact ha c hc)
      have hl := hk.len
      rw [List.length_map] at hl
      rw [if_pos (.inl (by omega))]
    · rw [if_neg ha]
  · refine .inl ⟨_, ?_, rfl⟩
    have ha : ∀ c ∈ l, (cnt c).toNat < 2 ^ 4 := fun c hc => by
      obtain ⟨j, hj, hje⟩ := List.getElem_of_mem hc
      have := hall j (by omega)
      rw [List.getElem?_eq_getElem hj, hje] at this
      exact this
    have hm : ∀ x ∈ l.map cnt, x.toNat < 2 ^ 4 := fun x hx => by obtain ⟨c, hc, rfl⟩ := List.mem_map.1 hx; exact ha c hc
    unfold uns
    rw [if_pos ha]
    obtain ⟨hk, ho⟩ := rg_ok 4 8 (by omega) (l.map cnt) hm
    generalize (rg 4 8 (l.map cnt)).1 = made at hk ho ⊢
    generalize (rg 4 8 (l.map cnt)).2.1 = rest at hk ho ⊢
    generalize (rg 4 8 (l.map cnt)).2.2 = over at hk ho ⊢
    have hl := hk.len
    rw [List.length_map] at hl
    obtain rfl : over = 0 := by omega
    have hr : rest = 0 := by have := hk.low; simpa using this
    subst hr
    rw [if_neg (by omega)]
    congr 1
    have hv := hk.val
    rw [Nat.pow_zero, Nat.mul_one, Nat.add_zero] at hv
    refine num_inj (2 ^ 8) (l.length / 2) _ _ (by omega) (by simp) hk.dig (byte_lt _) ?_
    rw [hv]
    have hp := pair_num l hall (l.length / 2) (Nat.le_refl _)
    rw [List.take_of_length_le (by rw [List.length_map]; omega)] at hp
    exact hp.symm
end Go.Proofs.YtdecmbpmgnoelaaDoor
