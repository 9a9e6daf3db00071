/- What regrouping makes, as numbers; what is told is read again. Nothing here speaks of the program. -/
import Derived.Test.YtdecmbpmgnoelaaDoorGReg
namespace Go.Proofs.YtdecmbpmgnoelaaDoor
set_option linter.unusedVariables false

/-- digits of a base as a number. -/
def num (b : Nat) (l : List UInt8) : Nat := l.foldl (fun a x => a * b + x.toNat) 0
theorem num_snoc (b : Nat) (l : List UInt8) (x : UInt8) : num b (l ++ [x]) = num b l * b + x.toNat := by simp [num]
/-- what holds of bits in hand. -/
structure Ok (to : Nat) (V B : Nat) (made : List UInt8) (rest over : Nat) : Prop where
  val : num (2 ^ to) made * 2 ^ over + rest = V
  len : made.length * to + over = B
  low : rest < 2 ^ over
  dig : ∀ x ∈ made, x.toNat < 2 ^ to
theorem fin_ok (to V B : Nat) (ht : 1 ≤ to ∧ to ≤ 8) : ∀ (over : Nat) (made : List UInt8) (rest : Nat), Ok to V B made rest over → Ok to V B (fin to made rest over).1 (fin to made rest over).2.1 (fin to made rest over).2.2 ∧ (fin to made rest over).2.2 < to := by
  intro over
  induction over using Nat.strongRecOn with
  | ind over ih =>
    intro made rest h
    by_cases hge : to ≤ over
    · obtain ⟨o, rfl⟩ : ∃ o, over = o + to := ⟨over - to, by omega⟩
      rw [fin_step to made rest o (by omega)]
      have hdiv : rest / 2 ^ o < 2 ^ to := by
        have h1 := h.low
        rw [Nat.pow_add] at h1
        exact Nat.div_lt_of_lt_mul h1
      have h8 : 2 ^ to ≤ 2 ^ 8 := Nat.pow_le_pow_right (by omega) ht.2
      have hy : (UInt8.ofNat (rest / 2 ^ o)).toNat = rest / 2 ^ o := by
        rw [UInt8.toNat_ofNat']
        exact Nat.mod_eq_of_lt (by omega)
      refine ih o (by omega) _ _ ⟨?_, ?_, Nat.mod_lt _ (Nat.two_pow_pos o), ?_⟩
      · rw [num_snoc, hy, Nat.add_mul, Nat.mul_assoc, ← Nat.pow_add, Nat.add_comm to o, Nat.add_assoc, Nat.mul_comm (rest / 2 ^ o), Nat.div_add_mod]
        exact h.val
      · rw [List.length_append, Nat.add_mul]
        have := h.len
        simp only [List.length_singleton, Nat.one_mul]
        omega
      · intro x hx
        rcases List.mem_append.1 hx with hx | hx
        · exact h.dig x hx
        · rw [List.mem_singleton.1 hx, hy]; exact hdiv
    · rw [fin_end to made rest over (by omega)]
      exact ⟨h, by show over < to; omega⟩
theorem rgs_ok (fr to : Nat) (ht : 1 ≤ to ∧ to ≤ 8) (V B : Nat) (st : List UInt8 × Nat × Nat) (g : UInt8) (hg : g.toNat < 2 ^ fr) (h : Ok to V B st.1 st.2.1 st.2.2) :
    Ok to (V * 2 ^ fr + g.toNat) (B + fr) (rgs fr to st g).1 (rgs fr to st g).2.1 (rgs fr to st g).2.2 ∧ (rgs fr to st g).2.2 < to := by
  refine fin_ok to _ _ ht _ _ _ ⟨?_, ?_, ?_, h.dig⟩
  · rw [← h.val, Nat.pow_add, ← Nat.mul_assoc, Nat.add_mul]
    omega
  · have := h.len; omega
  · have h1 : st.2.1 + 1 ≤ 2 ^ st.2.2 := h.low
    have h2 := Nat.mul_le_mul_right (2 ^ fr) h1
    rw [Nat.pow_add]
    rw [Nat.add_mul] at h2
    omega
theorem fold_ok (fr to : Nat) (ht : 1 ≤ to ∧ to ≤ 8) : ∀ (gs : List UInt8) (V B : Nat) (st : List UInt8 × Nat × Nat), (∀ x ∈ gs, x.toNat < 2 ^ fr) → Ok to V B st.1 st.2.1 st.2.2 → st.2.2 < to →
    Ok to (gs.foldl (fun a x => a * 2 ^ fr + x.toNat) V) (B + fr * gs.length) (gs.foldl (rgs fr to) st).1 (gs.foldl (rgs fr to) st).2.1 (gs.foldl (rgs fr to) st).2.2 ∧ (gs.foldl (rgs fr to) st).2.2 < to
  | [], V, B, st, _, h, ho => ⟨h, ho⟩
  | g :: gs, V, B, st, hs, h, ho => by
    obtain ⟨h1, h2⟩ := rgs_ok fr to ht V B st g (hs g (by simp)) h
    have := fold_ok fr to ht gs _ _ (rgs fr to st g) (fun x hx => hs x (by simp [hx])) h1 h2
    rw [List.foldl_cons, List.foldl_cons, List.length_cons]
    rwa [show B + fr * (gs.length + 1) = B + fr + fr * gs.length by rw [Nat.mul_add]; omega]
theorem rg_ok (fr to : Nat) (ht : 1 ≤ to ∧ to ≤ 8) (gs : List UInt8) (hs : ∀ x ∈ gs, x.toNat < 2 ^ fr) : Ok to (num (2 ^ fr) gs) (fr * gs.length) (rg fr to gs).1 (rg fr to gs).2.1 (rg fr to gs).2.2 ∧ (rg fr to gs).2.2 < to := by
  have := fold_ok fr to ht gs 0 0 ([], 0, 0) hs ⟨by simp [num], by simp, by simp, by simp⟩ (by show 0 < to; omega)
  rwa [Nat.zero_add] at this
theorem byte_lt (l : List UInt8) : ∀ x ∈ l, x.toNat < 2 ^ 8 := fun x _ => x.toNat_lt

/-- the letters. -/
def lettersL : List UInt8 := [48, 49, 50, 51, 52, 53, 54, 55, 56, 57, 97, 98, 99, 100, 101, 102, 103, 104, 105, 106, 107, 108, 109, 110, 111, 112, 113, 114, 115, 116, 117, 118]
def ltr (x : UInt8) : UInt8 := lettersL[x.toNat]?.getD 0
/-- the groups that are told. -/
def grp (w : Nat) (s : List UInt8) : List UInt8 := (rg 8 w s).1 ++ if 0 < (rg 8 w s).2.2 then [UInt8.ofNat ((rg 8 w s).2.1 * 2 ^ (w - (rg 8 w s).2.2))] else []
/-- bytes told by letters of w bits. -/
def spl (w : Nat) (s : List UInt8) : List UInt8 := (grp w s).map ltr
/-- what letters of w bits tell. -/
def uns (w : Nat) (t : List UInt8) : Option (List UInt8) := if ∀ c ∈ t, (cnt c).toNat < 2 ^ w then (if w ≤ (rg w 8 (t.map cnt)).2.2 ∨ (rg w 8 (t.map cnt)).2.1 ≠ 0 then none else some (rg w 8 (t.map cnt)).1) else none
theorem grp_ok (w : Nat) (hw : w = 4 ∨ w = 5) (s : List UInt8) : ∃ p, p < w ∧ num (2 ^ w) (grp w s) = num (2 ^ 8) s * 2 ^ p ∧ (grp w s).length * w = 8 * s.length + p ∧ ∀ x ∈ grp w s, x.toNat < 2 ^ w := by
  obtain ⟨h, ho⟩ := rg_ok 8 w (by omega) s (byte_lt s)
  unfold grp
  generalize (rg 8 w s).1 = made at h ho ⊢
  generalize (rg 8 w s).2.1 = rest at h ho ⊢
  generalize (rg 8 w s).2.2 = over at h ho ⊢
  by_cases hz : 0 < over
  · rw [if_pos hz]
    have hsum : 2 ^ over * 2 ^ (w - over) = 2 ^ w := by rw [← Nat.pow_add]; congr 1; omega
    have hlt : rest * 2 ^ (w - over) < 2 ^ w := by
      rw [← hsum]
      exact Nat.mul_lt_mul_of_pos_right h.low (Nat.two_pow_pos _)
    have h8 : 2 ^ w ≤ 2 ^ 8 := Nat.pow_le_pow_right (by omega) (by omega)
    have hy : (UInt8.ofNat (rest * 2 ^ (w - over))).toNat = rest * 2 ^ (w - over) := by
      rw [UInt8.toNat_ofNat']
      exact Nat.mod_eq_of_lt (by omega)
    refine ⟨w - over, by omega, ?_, ?_, ?_⟩
    · rw [num_snoc, hy, ← h.val, Nat.add_mul, Nat.mul_assoc, hsum]
    · rw [List.length_append, Nat.add_mul]
      have := h.len
      simp only [List.length_singleton, Nat.one_mul]
      omega
    · intro x hx
      rcases List.mem_append.1 hx with hx | hx
      · exact h.dig x hx
      · rw [List.mem_singleton.1 hx, hy]; exact hlt
  · rw [if_neg hz, List.append_nil]
    obtain rfl : over = 0 := by omega
    have hr : rest = 0 := by have := h.low; simpa using this
    refine ⟨0, by omega, ?_, ?_, h.dig⟩
    · have := h.val
      rw [hr] at this
      simpa using this
    · have := h.len
      omega
theorem num_inj (b : Nat) : ∀ (n : Nat) (l m : List UInt8), l.length = n → m.length = n → (∀ x ∈ l, x.toNat < b) → (∀ x ∈ m, x.toNat < b) → num b l = num b m → l = m
  | 0, l, m, hl, hm, _, _, _ => by rw [List.eq_nil_of_length_eq_zero hl, List.eq_nil_of_length_eq_zero hm]
  | n + 1, l, m, hl, hm, h1, h2, h => by
    obtain ⟨l', x, rfl⟩ : ∃ l' x, l = l' ++ [x] := ⟨l.dropLast, l.getLast (by intro e; rw [e] at hl; cases hl), (List.dropLast_concat_getLast _).symm⟩
    obtain ⟨m', y, rfl⟩ : ∃ m' y, m = m' ++ [y] := ⟨m.dropLast, m.getLast (by intro e; rw [e] at hm; cases hm), (List.dropLast_concat_getLast _).symm⟩
    rw [num_snoc, num_snoc] at h
    have hx := h1 x (by simp)
    have hy := h2 y (by simp)
    have hb : 0 < b := by omega
    have e1 : num b l' = num b m' := by
      have a1 : (num b l' * b + x.toNat) / b = num b l' := by rw [Nat.mul_comm, Nat.mul_add_div hb, Nat.div_eq_of_lt hx, Nat.add_zero]
      have a2 : (num b m' * b + y.toNat) / b = num b m' := by rw [Nat.mul_comm, Nat.mul_add_div hb, Nat.div_eq_of_lt hy, Nat.add_zero]
      rw [← a1, ← a2, h]
    have e2 : x = y := by
      rw [e1] at h
      exact UInt8.toNat_inj.1 (by omega)
    rw [e2, num_inj b n l' m' (by simp at hl; exact hl) (by simp at hm; exact hm) (fun z hz => h1 z (by simp [hz])) (fun z hz => h2 z (by simp [hz])) e1]
theorem cnt_ltr (x : UInt8) (h : x.toNat < 32) : cnt (ltr x) = x := by
  obtain ⟨n, hn⟩ : ∃ n, x.toNat = n := ⟨_, rfl⟩
  have hx : x = UInt8.ofNat n := by rw [← hn, UInt8.ofNat_toNat]
  subst hx
  rw [hn] at h
  clear hn
  revert n
  decide
/-- what is told is read again. -/
theorem uns_spl (w : Nat) (hw : w = 4 ∨ w = 5) (s : List UInt8) : uns w (spl w s) = some s := by
  obtain ⟨p, hp, hv, hl, hd⟩ := grp_ok w hw s
  have hm : (spl w s).map cnt = grp w s := by
    unfold spl
    rw [List.map_map]
    conv => rhs; rw [← List.map_id (grp w s)]
    apply List.map_congr_left
    intro x hx
    have h1 := hd x hx
    have h2 : 2 ^ w ≤ 2 ^ 5 := Nat.pow_le_pow_right (by omega) (by omega)
    exact cnt_ltr x (by omega)
  have hall : ∀ c ∈ spl w s, (cnt c).toNat < 2 ^ w := by
    intro c hc
    have : cnt c ∈ (spl w s).map cnt := List.mem_map_of_mem hc
    rw [hm] at this
    exact hd _ this
  unfold uns
  rw [if_pos hall, hm]
  obtain ⟨h, ho⟩ := rg_ok w 8 (by omega) (grp w s) hd
  generalize (rg w 8 (grp w s)).1 = made at h ho ⊢
  generalize (rg w 8 (grp w s)).2.1 = rest at h ho ⊢
  generalize (rg w 8 (grp w s)).2.2 = over at h ho ⊢
  have hlen := h.len
  have hlow := h.low
  have hval := h.val
  rw [Nat.mul_comm w, hl] at hlen
  have e1 : over = p := by omega
  have e2 : made.length = s.length := by omega
  subst e1
  rw [hv] at hval
  have hpos := Nat.two_pow_pos over
  have e3 : rest = 0 := by
    have a : (num (2 ^ 8) made * 2 ^ over + rest) % 2 ^ over = rest := by rw [Nat.add_comm, Nat.add_mul_mod_self_right, Nat.mod_eq_of_lt hlow]
    rw [hval, Nat.mul_mod_left] at a
    exact a.symm
  subst e3
  rw [if_neg (by omega)]
  congr 1
  refine num_inj (2 ^ 8) s.length made s e2 rfl h.dig (byte_lt s) ?_
  exact Nat.eq_of_mul_eq_mul_right hpos (by simpa using hval)
theorem spl_len (w : Nat) (hw : w = 4 ∨ w = 5) (s : List UInt8) : ∃ p, p < w ∧ (spl w s).length * w = 8 * s.length + p := by
  obtain ⟨p, hp, _, hl, _⟩ := grp_ok w hw s
  exact ⟨p, hp, by rw [spl, List.length_map]; exact hl⟩
end Go.Proofs.YtdecmbpmgnoelaaDoor
