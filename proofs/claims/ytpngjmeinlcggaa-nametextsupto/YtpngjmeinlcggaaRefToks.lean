/- The labels that a text tells, as the document goes over it, against those of Toks: the same but for labels that are too long. -/
import Derived.Test.YtpngjmeinlcggaaForms
import Derived.Test.YtpngjmeinlcggaaToks
namespace Go.Proofs.Ytpngjmeinlcggaa
set_option linter.unusedVariables false

/-- the labels that a text tells, behind ls and the label lab that has begun, if it isn't empty. -/
def rt : Nat → List (List UInt8) → List UInt8 → List UInt8 → Option (List (List UInt8))
  | 0, _, _, _ => none
  | n + 1, ls, lab, l => match l with
    | [] => some (if lab = [] then ls else ls ++ [lab])
    | c :: t => if c.toNat = 46 then (if lab = [] then none else rt n (ls ++ [lab]) [] t) else
      if (tb (c :: t)).2 = 0 then none else rt n ls (lab ++ [(tb (c :: t)).1]) ((c :: t).drop (tb (c :: t)).2)

theorem drop_lt {l : List UInt8} {n k : Nat} (h : l.length < n + 1) (hk : 0 < k) (hl : l ≠ []) : (l.drop k).length < n := by
  have := List.length_pos_iff.2 hl
  rw [List.length_drop]; omega

theorem rt_fuel : ∀ (n m : Nat) (ls : List (List UInt8)) (lab l : List UInt8), l.length < n → l.length < m → rt n ls lab l = rt m ls lab l
  | 0, _, _, _, _, h, _ => absurd h (by omega)
  | _, 0, _, _, _, _, h => absurd h (by omega)
  | n + 1, m + 1, ls, lab, [], _, _ => rfl
  | n + 1, m + 1, ls, lab, c :: t, h, h' => by
    rw [rt, rt]
    split
    · split
      · rfl
      · exact rt_fuel n m _ _ _ (by simp at h; omega) (by simp at h'; omega)
    · split
      · rfl
      · rename_i h2
        exact rt_fuel n m _ _ _ (drop_lt h (by omega) (by simp)) (drop_lt h' (by omega) (by simp))

def cutG : Nat → List UInt8 → List UInt8 → Option (List UInt8 × List UInt8)
  | 0, _, _ => none
  | n + 1, acc, l => match l with
    | [] => some (acc, [])
    | c :: t => if c.toNat = 46 then some (acc, c :: t) else
      if (tb (c :: t)).2 = 0 then none else cutG n (acc ++ [(tb (c :: t)).1]) ((c :: t).drop (tb (c :: t)).2)

theorem cutG_fuel : ∀ (n m : Nat) (lab l : List UInt8), l.length < n → l.length < m → cutG n lab l = cutG m lab l
  | 0, _, _, _, h, _ => absurd h (by omega)
  | _, 0, _, _, _, h => absurd h (by omega)
  | n + 1, m + 1, lab, [], _, _ => rfl
  | n + 1, m + 1, lab, c :: t, h, h' => by
    rw [cutG, cutG]
    split
    · rfl
    · split
      · rfl
      · rename_i h2
        exact cutG_fuel n m _ _ (drop_lt h (by omega) (by simp)) (drop_lt h' (by omega) (by simp))

theorem take_snoc64 (acc : List UInt8) (b : UInt8) : (if (acc.take 64).length ≤ 63 then acc.take 64 ++ [b] else acc.take 64) = (acc ++ [b]).take 64 := by
  by_cases h : acc.length ≤ 63
  · rw [if_pos (by simp; omega), List.take_of_length_le (by omega), List.take_of_length_le (by simp; omega)]
  · rw [if_neg (by simp; omega), List.take_append_of_le_length (by omega)]

theorem cutF_G : ∀ (n : Nat) (acc l : List UInt8), cutF n (acc.take 64) l = (cutG n acc l).map fun r => (r.1.take 64, r.2)
  | 0, _, _ => rfl
  | n + 1, acc, [] => rfl
  | n + 1, acc, c :: t => by
    rw [cutF, cutG]
    split
    · rfl
    · split
      · rfl
      · rw [take_snoc64, cutF_G n]

theorem cutG_rest : ∀ (n : Nat) (acc l : List UInt8) (r : List UInt8 × List UInt8), cutG n acc l = some r → r.2.length ≤ l.length ∧ acc.length ≤ r.1.length ∧ (r.2 = [] ∨ ∃ c t, r.2 = c :: t ∧ c.toNat = 46)
  | 0, _, _, _, h => by cases h
  | n + 1, acc, [], r, h => by cases h; exact ⟨by simp, by simp, .inl rfl⟩
  | n + 1, acc, c :: t, r, h => by
    rw [cutG] at h
    split at h
    · rename_i h1
      cases h; exact ⟨Nat.le_refl _, Nat.le_refl _, .inr ⟨c, t, rfl, h1⟩⟩
    · split at h
      · cases h
      · obtain ⟨h1, h2, h3⟩ := cutG_rest n _ _ r h
        refine ⟨Nat.le_trans h1 (by simp), by simp at h2; omega, h3⟩

theorem rt_cut : ∀ (n : Nat) (ls : List (List UInt8)) (lab l : List UInt8), lab ≠ [] → l.length < n →
    rt n ls lab l = (cutG n lab l).bind fun r => match r.2 with | [] => some (ls ++ [r.1]) | _ :: t => rt n (ls ++ [r.1]) [] t
  | 0, _, _, _, _, h => absurd h (by omega)
  | n + 1, ls, lab, [], hl, _ => by rw [rt, cutG, if_neg hl]; rfl
  | n + 1, ls, lab, c :: t, hl, h => by
    rw [rt, cutG]
    by_cases h1 : c.toNat = 46
    · rw [if_pos h1, if_pos h1, if_neg hl]
      show _ = rt (n + 1) (ls ++ [lab]) [] t
      exact rt_fuel _ _ _ _ _ (by simp at h; omega) (by simp at h; omega)
    · rw [if_neg h1, if_neg h1]
      by_cases h2 : (tb (c :: t)).2 = 0
      · rw [if_pos h2, if_pos h2]; rfl
      · rw [if_neg h2, if_neg h2]
        have hlt := drop_lt h (Nat.pos_of_ne_zero h2) (by simp)
        rw [rt_cut n _ _ _ (by simp) hlt]
        cases hc : cutG n (lab ++ [(tb (c :: t)).1]) ((c :: t).drop (tb (c :: t)).2) with
        | none => rfl
        | some r =>
          have hr := (cutG_rest _ _ _ _ hc).1
          obtain ⟨r1, r2⟩ := r
          simp only [Option.bind_some]
          cases r2 with
          | nil => rfl
          | cons c' t' =>
            have h5 := Nat.lt_of_le_of_lt hr hlt
            simp only [List.length_cons] at h5
            exact rt_fuel _ _ _ _ _ (by omega) (by omega)

def toksG : Nat → List UInt8 → Option (List (List UInt8))
  | 0, _ => none
  | n + 1, l => match l with
    | [] => some []
    | c :: t => if c.toNat = 46 then none else (cutG ((c :: t).length + 1) [] (c :: t)).bind fun r => (toksG n (trimD r.2)).map fun ls => r.1 :: ls

theorem toks_G : ∀ (n : Nat) (l : List UInt8), toks n l = (toksG n l).map fun ls => ls.map fun x => x.take 64
  | 0, _ => rfl
  | n + 1, [] => rfl
  | n + 1, c :: t => by
    have hg := cutF_G ((c :: t).length + 1) [] (c :: t)
    rw [List.take_nil] at hg
    rw [toks, toksG, cutB]
    split
    · split
      · rfl
      · rename_i h1 h2
        rw [if_neg h2, hg] at h1
        simp only [Option.map_map, Option.map_eq_none_iff] at h1
        rw [h1]; rfl
    · rename_i r h1
      split at h1
      · cases h1
      · rename_i h2
        rw [if_neg h2]
        rw [hg] at h1
        cases hc : cutG ((c :: t).length + 1) [] (c :: t) with
        | none => rw [hc] at h1; cases h1
        | some q =>
          rw [hc] at h1
          simp only [Option.map_some, Option.some.injEq] at h1
          subst h1
          simp only [Option.bind_some, toks_G n, Option.map_map]
          rfl

theorem rt_toks : ∀ (k : Nat) (l : List UInt8), l.length < k → ∀ (n : Nat) (ls : List (List UInt8)), l.length < n → rt n ls [] l = (toksG k l).map fun x => ls ++ x
  | 0, _, h, _, _, _ => absurd h (by omega)
  | _, _, _, 0, _, h => absurd h (by omega)
  | k + 1, [], _, n + 1, ls, _ => by simp [rt, toksG]
  | k + 1, c :: t, hk, n + 1, ls, hn => by
    rw [rt, toksG]
    by_cases h1 : c.toNat = 46
    · rw [if_pos h1, if_pos h1]; rfl
    · rw [if_neg h1, if_neg h1, cutG, if_neg h1]
      by_cases h2 : (tb (c :: t)).2 = 0
      · rw [if_pos h2, if_pos h2]; rfl
      · rw [if_neg h2, if_neg h2]
        have hlt := drop_lt hn (Nat.pos_of_ne_zero h2) (by simp)
        have hlk := drop_lt hk (Nat.pos_of_ne_zero h2) (by simp)
        rw [rt_cut n _ _ _ (by simp) hlt, cutG_fuel n (c :: t).length _ _ hlt (drop_lt (Nat.lt_succ_self _) (Nat.pos_of_ne_zero h2) (by simp))]
        cases hc : cutG (c :: t).length ([] ++ [(tb (c :: t)).1]) ((c :: t).drop (tb (c :: t)).2) with
        | none => rfl
        | some r =>
          obtain ⟨hr, _, hr3⟩ := cutG_rest _ _ _ _ hc
          obtain ⟨r1, r2⟩ := r
          simp only [Option.bind_some]
          cases r2 with
          | nil =>
            have : toksG k (trimD []) = some [] := by
              obtain ⟨k, rfl⟩ : ∃ j, k = j + 1 := ⟨k - 1, by simp at hk; omega⟩
              rfl
            rw [this]; rfl
          | cons c' t' =>
            have htr : trimD (c' :: t') = t' := by
              rcases hr3 with hr3 | ⟨c2, t2, hr3, hc'⟩
              · cases hr3
              · cases hr3
                have : c' = 46 := UInt8.toNat_inj.1 (by rw [hc']; rfl)
                subst this
                rfl
            have h5 := Nat.lt_of_le_of_lt hr hlt
            have h6 := Nat.lt_of_le_of_lt hr hlk
            simp only [List.length_cons] at h5 h6
            rw [htr]
            show rt n (ls ++ [r1]) [] t' = _
            rw [rt_toks k t' (by omega) n _ (by omega), Option.map_map]
            simp [Function.comp_def]

theorem toksG_ne {n : Nat} {l : List UInt8} (h : l ≠ []) : toksG n l ≠ some [] := by
  cases n with
  | zero => intro e; cases e
  | succ n =>
    cases l with
    | nil => exact absurd rfl h
    | cons c t =>
      rw [toksG]
      split
      · intro e; cases e
      · intro e
        rw [Option.bind_eq_some_iff] at e
        obtain ⟨r, _, e⟩ := e
        rw [Option.map_eq_some_iff] at e
        obtain ⟨_, _, e⟩ := e
        cases e

theorem ofR_take (ls : List (List UInt8)) : ofR (ls.map fun x => x.take 64) = ofR ls := by
  rw [← ofR_rofR, ← ofR_rofR]
  by_cases hg : ∀ l ∈ ls, goodL l
  · have : ls.map (fun x => x.take 64) = ls := by
      conv => rhs; rw [← List.map_id ls]
      exact List.map_congr_left fun l hl => by rw [List.take_of_length_le (by have := (hg l hl).2; omega)]; rfl
    rw [this]
  · rw [rofR, rofR, if_neg hg, if_neg]
    intro h
    apply hg
    intro l hl
    have := h _ (List.mem_map_of_mem hl)
    unfold goodL at this ⊢
    rw [List.length_take] at this
    omega

/-- what the document's Parse makes of a text. -/
def rparseR (l : List UInt8) : List UInt8 × Nat := if l = [46] then ([0], 0) else match rt (l.length + 1) [] [] l with
  | none => ([], 7)
  | some ls => if ls = [] then ([], 7) else ofR ls

theorem parse_same (l : List UInt8) : parseR l = rparseR l := by
  unfold parseR rparseR
  by_cases h1 : l = [46]
  · rw [if_pos h1, if_pos h1]
  · rw [if_neg h1, if_neg h1]
    by_cases h2 : l = []
    · subst h2; rfl
    · rw [if_neg h2, rt_toks (l.length + 1) l (by omega) _ _ (by omega), toks_G]
      cases hc : toksG (l.length + 1) l with
      | none => rfl
      | some ls =>
        have hne : ls ≠ [] := fun e => toksG_ne h2 (by rw [hc, e])
        simp only [Option.map_some, List.nil_append]
        rw [if_neg hne]
        exact ofR_take ls

end Go.Proofs.Ytpngjmeinlcggaa
