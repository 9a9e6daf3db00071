/- A name's text tells it again; with any letters a name is the same. -/
import Derived.Test.YtghaphcifoknpaaText
import Derived.Test.YtghaphcifoknpaaParse
import Derived.Test.YtghaphcifoknpaaCased
import Derived.Test.YtghaphcifoknpaaOfLabels
namespace Go.Proofs.Ytghaphcifoknpaa
set_option linter.unusedVariables false

/-! ### the text tells it again -/
theorem tb_told (b : UInt8) (r : List UInt8) : tb (toldL b ++ r) = (b, (toldL b).length) ∧ (∃ c t, toldL b = c :: t ∧ c.toNat ≠ 46) := by
  have hb := b.toNat_lt
  unfold toldL
  by_cases h1 : b.toNat = 46 ∨ b.toNat = 92
  · rw [if_pos h1]
    have hd : digitB b = false := by simp [digitB]; omega
    refine ⟨?_, 92, [b], rfl, by decide⟩
    simp [tb, hd]
  · rw [if_neg h1]
    by_cases h2 : plainB b = true
    · rw [if_pos h2]
      refine ⟨?_, b, [], rfl, by omega⟩
      have h92 : b.toNat ≠ 92 := by omega
      simp [tb, h2, h92]
    · rw [if_neg h2]
      refine ⟨?_, 92, _, rfl, by decide⟩
      have e1 : (UInt8.ofNat (48 + b.toNat / 100)).toNat = 48 + b.toNat / 100 := by simp; omega
      have e2 : (UInt8.ofNat (48 + b.toNat / 10 % 10)).toNat = 48 + b.toNat / 10 % 10 := by simp; omega
      have e3 : (UInt8.ofNat (48 + b.toNat % 10)).toNat = 48 + b.toNat % 10 := by simp; omega
      have d1 : digitB (UInt8.ofNat (48 + b.toNat / 100)) = true := by rw [digitB, e1]; simp; omega
      have d2 : digitB (UInt8.ofNat (48 + b.toNat / 10 % 10)) = true := by rw [digitB, e2]; simp; omega
      have d3 : digitB (UInt8.ofNat (48 + b.toNat % 10)) = true := by rw [digitB, e3]; simp; omega
      have hn : num3 (UInt8.ofNat (48 + b.toNat / 100)) (UInt8.ofNat (48 + b.toNat / 10 % 10)) (UInt8.ofNat (48 + b.toNat % 10)) = b.toNat := by
        rw [num3, e1, e2, e3]; omega
      have hle : b.toNat ≤ 255 := by omega
      generalize UInt8.ofNat (48 + b.toNat / 100) = x at *
      generalize UInt8.ofNat (48 + b.toNat / 10 % 10) = y at *
      generalize UInt8.ofNat (48 + b.toNat % 10) = z at *
      simp [tb, d1, d2, d3, hn, hle]

theorem cutF_told : ∀ (l : List UInt8) (n : Nat) (acc r : List UInt8), (toldS l).length < n → acc.length + l.length ≤ 64 → cutF n acc (toldS l ++ (46 :: r)) = some (acc ++ l, 46 :: r)
  | [], n, acc, r, hn, _ => by
    obtain ⟨n, rfl⟩ : ∃ m, n = m + 1 := ⟨n - 1, by omega⟩
    simp [toldS, cutF]
  | b :: l, n, acc, r, hn, ha => by
    obtain ⟨n, rfl⟩ : ∃ m, n = m + 1 := ⟨n - 1, by omega⟩
    have hs : toldS (b :: l) = toldL b ++ toldS l := by simp [toldS]
    obtain ⟨h1, c, t, hc, hc46⟩ := tb_told b (toldS l ++ (46 :: r))
    have hlen := (toldL_len b).2
    rw [hs, List.append_assoc]
    rw [hs, List.length_append] at hn
    have hL : toldL b ++ (toldS l ++ (46 :: r)) = c :: (t ++ (toldS l ++ (46 :: r))) := by rw [hc]; rfl
    have step : cutF (n + 1) acc (toldL b ++ (toldS l ++ (46 :: r))) = cutF n (if acc.length ≤ 63 then acc ++ [b] else acc) ((toldL b ++ (toldS l ++ (46 :: r))).drop (toldL b).length) := by
      rw [hL] at h1 ⊢
      rw [cutF, if_neg hc46, h1]
      dsimp only
      rw [if_neg (by omega)]
    rw [step, List.drop_left]
    simp only [List.length_cons] at ha
    rw [if_pos (by omega), cutF_told l n (acc ++ [b]) r (by omega) (by simp; omega)]
    simp

theorem cutB_told {l : List UInt8} (h1 : 1 ≤ l.length) (h2 : l.length ≤ 63) (r : List UInt8) : cutB (toldS l ++ (46 :: r)) = some (l, r) := by
  cases l with
  | nil => simp at h1
  | cons b l =>
    have hs : toldS (b :: l) = toldL b ++ toldS l := by simp [toldS]
    obtain ⟨_, c, t, hc, hc46⟩ := tb_told b []
    have hL : toldS (b :: l) ++ (46 :: r) = c :: (t ++ toldS l ++ (46 :: r)) := by rw [hs, hc]; simp
    have hcut := cutF_told (b :: l) ((toldS (b :: l) ++ (46 :: r)).length + 1) [] r (by simp; omega) (by simp at h2 ⊢; omega)
    rw [hL] at hcut ⊢
    show (if c.toNat = 46 then none else (cutF ((c :: (t ++ toldS l ++ (46 :: r))).length + 1) [] (c :: (t ++ toldS l ++ (46 :: r)))).map fun q => (q.1, trimD q.2)) = _
    rw [if_neg hc46, hcut]
    simp [trimD]

theorem toks_txt : ∀ (ls : List (List UInt8)) (n : Nat), (∀ l ∈ ls, 1 ≤ l.length ∧ l.length ≤ 63) → (txt ls).length < n → toks n (txt ls) = some ls
  | [], n, _, hn => by
    obtain ⟨n, rfl⟩ : ∃ m, n = m + 1 := ⟨n - 1, by omega⟩
    rfl
  | l :: ls, n, h, hn => by
    obtain ⟨n, rfl⟩ : ∃ m, n = m + 1 := ⟨n - 1, by omega⟩
    have hl := h l (by simp)
    have hc := cutB_told hl.1 hl.2 (txt ls)
    have hx : txt (l :: ls) = toldS l ++ (46 :: txt ls) := rfl
    have hlen : (txt ls).length < n := by rw [hx, List.length_append, List.length_cons] at hn; omega
    rw [← hx] at hc
    have ih := toks_txt ls n (fun x hx => h x (by simp [hx])) hlen
    cases ht : txt (l :: ls) with
    | nil => have := txt_pos (ls := l :: ls) (by simp); rw [ht] at this; simp at this
    | cons c t =>
      rw [ht] at hc
      rw [toks, hc]
      dsimp only
      rw [ih]; rfl

theorem txt_not_dot {ls : List (List UInt8)} (h : ∀ l ∈ ls, 1 ≤ l.length ∧ l.length ≤ 63) (hne : ls ≠ []) : txt ls ≠ [46] := by
  cases ls with
  | nil => exact absurd rfl hne
  | cons l ls =>
    intro e
    have hl := h l (by simp)
    have hc := cutB_told hl.1 hl.2 (txt ls)
    have hx : txt (l :: ls) = toldS l ++ (46 :: txt ls) := rfl
    rw [← hx, e] at hc
    simp [cutB] at hc

/-- the text of a name tells the name. -/
theorem parse_txt {ls : List (List UInt8)} (ho : OkN ls) : parseR (txtN ls) = (nmL ls, 0) := by
  by_cases h : ls = []
  · subst h; rfl
  · have hne : txt ls ≠ [] := fun e => by have := txt_pos h; rw [e] at this; simp at this
    unfold txtN parseR
    rw [if_neg h, if_neg (txt_not_dot ho.lab h), if_neg hne, toks_txt ls _ ho.lab (by omega)]
    have := ofR_right ho.lab
    rw [if_pos (by rw [nm_size]; have := ho.len; omega)] at this
    exact this

/-! ### with any letters it is the same -/
theorem casGo_append (bits : Nat) : ∀ (l r : List UInt8) (k : Nat), casGo bits k (l ++ r) = casGo bits k l ++ casGo bits (k + cnt l) r
  | [], r, k => by simp [casGo, cnt]
  | b :: l, r, k => by
    rw [List.cons_append, casGo, casGo, casGo_append bits l r, cnt_cons]
    by_cases h : isLow b = true
    · simp [h]; congr 1; omega
    · simp [h]

theorem casB_low {b : UInt8} (h : lowB b = b) (bits k : Nat) : lowB (casB bits k b) = b := by
  unfold casB
  split
  · rename_i hc
    have hb := hc.1
    simp only [isLow, decide_eq_true_iff] at hb
    have e : (UInt8.ofNat (b.toNat - 32)).toNat = b.toNat - 32 := by simp; omega
    apply UInt8.toNat_inj.1
    rw [lowB_toNat, e, if_pos (by omega)]; omega
  · exact h
theorem casGo_low (bits : Nat) : ∀ (l : List UInt8) (k : Nat), l.map lowB = l → (casGo bits k l).map lowB = l
  | [], _, _ => rfl
  | b :: l, k, h => by
    simp only [List.map_cons, List.cons.injEq] at h
    simp only [casGo, List.map_cons, casB_low h.1, casGo_low bits l _ h.2]
theorem casB_len {n : Nat} (h : n ≤ 63) (bits k : Nat) : casB bits k (UInt8.ofNat n) = UInt8.ofNat n ∧ isLow (UInt8.ofNat n) = false := by
  have e : (UInt8.ofNat n).toNat = n := by simp; omega
  have hl : isLow (UInt8.ofNat n) = false := by simp only [isLow, e, decide_eq_false_iff_not]; omega
  refine ⟨?_, hl⟩
  unfold casB; rw [hl, if_neg (by simp)]

/-- the labels, their letters as bits says. -/
def casN (bits : Nat) : Nat → List (List UInt8) → List (List UInt8)
  | _, [] => []
  | k, l :: ls => casGo bits k l :: casN bits (k + cnt l) ls

theorem casGo_flat (bits : Nat) : ∀ (ls : List (List UInt8)) (k : Nat) (r : List UInt8), (∀ l ∈ ls, l.length ≤ 63) → ∃ j, casGo bits k (flat ls ++ r) = flat (casN bits k ls) ++ casGo bits j r
  | [], k, r, _ => ⟨k, rfl⟩
  | l :: ls, k, r, h => by
    have hl := h l (by simp)
    obtain ⟨j, hj⟩ := casGo_flat bits ls (k + cnt l) r (fun x hx => h x (by simp [hx]))
    refine ⟨j, ?_⟩
    have hc := casB_len hl bits k
    simp only [flat, casN, List.cons_append, casGo, hc.1, hc.2, casGo_length]
    rw [List.append_assoc, casGo_append, if_neg (by simp), hj]
    simp

theorem casN_len (bits : Nat) : ∀ (ls : List (List UInt8)) (k : Nat), (flat (casN bits k ls)).length = (flat ls).length ∧ (∀ l ∈ casN bits k ls, ∃ m ∈ ls, l.length = m.length)
  | [], _ => ⟨rfl, by simp [casN]⟩
  | l :: ls, k => by
    have ih := casN_len bits ls (k + cnt l)
    refine ⟨?_, ?_⟩
    · simp [casN, flat, casGo_length, ih.1]
    · intro x hx
      simp only [casN, List.mem_cons] at hx
      rcases hx with rfl | hx
      · exact ⟨l, by simp, casGo_length _ _ _⟩
      · obtain ⟨m, hm, e⟩ := ih.2 x hx
        exact ⟨m, by simp [hm], e⟩

theorem casN_low (bits : Nat) : ∀ (ls : List (List UInt8)) (k : Nat), lowN ls = ls → lowN (casN bits k ls) = ls
  | [], _, _ => rfl
  | l :: ls, k, h => by
    have h' : l.map lowB = l ∧ lowN ls = ls := by simpa [lowN] using h
    have ih := casN_low bits ls (k + cnt l) h'.2
    show (casGo bits k l).map lowB :: lowN (casN bits (k + cnt l) ls) = _
    rw [casGo_low bits l k h'.1, ih]

theorem lowB_idem (b : UInt8) : lowB (lowB b) = lowB b := by
  apply UInt8.toNat_inj.1
  rw [lowB_toNat, lowB_toNat]
  split
  · rw [if_neg (by omega)]
  · rfl
theorem lowN_idem (ls : List (List UInt8)) : lowN (lowN ls) = lowN ls := by
  simp [lowN, lowB_idem]

/-- a name with its letters great or small is a name, and the same. -/
theorem cas_name {ls : List (List UInt8)} (ho : OkN ls) (bits : Nat) : ∃ cs, OkN cs ∧ lowN cs = lowN ls ∧ (⟨(casGo bits 0 (nm (lowN ls)).data.toList).toArray⟩ : ByteArray) = nm cs := by
  refine ⟨casN bits 0 (lowN ls), ?_, ?_, ?_⟩
  · have h := casN_len bits (lowN ls) 0
    refine ⟨fun l hl => ?_, by rw [h.1]; exact ho.low.len⟩
    obtain ⟨m, hm, e⟩ := h.2 l hl
    rw [e]; exact ho.low.lab m hm
  · exact casN_low bits _ 0 (lowN_idem ls)
  · apply ba_ext
    rw [ba_toList, nm_list, nm_list, nmL, nmL]
    obtain ⟨j, hj⟩ := casGo_flat bits (lowN ls) 0 [0] (fun l hl => (ho.low.lab l hl).2)
    rw [hj]
    rfl

end Go.Proofs.Ytghaphcifoknpaa
