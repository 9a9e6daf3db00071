/- Texts of this proof, joined: DFacts, DTyFacts, DTxtTell, DTxtTell2. -/
import Derived.Test.YtdhcbaennpediaaGreatDoorJ6
/- The forms of types, on bytes alone: data fall into pieces just if they are right pieces, put one behind the other. -/
namespace Go.Proofs.YtdhcbaennpediaaGreatDoor
set_option linter.unusedVariables false
open Go.RowKit

theorem ba_of (x : ByteArray) : (⟨x.data.toList.toArray⟩ : ByteArray) = x := by apply ba_ext; rfl
theorem app_list (x y : ByteArray) : (x ++ y).data.toList = x.data.toList ++ y.data.toList := by rw [ByteArray.data_append, Array.toList_append]
theorem app_size (x y : ByteArray) : (x ++ y).size = x.size + y.size := by rw [← size_list, app_list, List.length_append, size_list, size_list]
theorem app_first (x y : ByteArray) : (x ++ y).extract 0 x.size = x := by
  apply ba_ext
  rw [Lib.extract_data, app_list, List.drop_zero, Nat.sub_zero, ← size_list, List.take_left']
  rfl
theorem app_rest (x y : ByteArray) : (x ++ y).extract x.size (x ++ y).size = y := by
  apply ba_ext
  rw [Lib.extract_data, app_list, app_size, ← size_list x, List.drop_left' rfl]
  exact List.take_of_length_le (by rw [size_list, size_list]; omega)
theorem app_empty (x : ByteArray) : x ++ (⟨#[]⟩ : ByteArray) = x := by
  apply ba_ext
  rw [app_list]; simp
theorem empty_app (x : ByteArray) : (⟨#[]⟩ : ByteArray) ++ x = x := by
  apply ba_ext
  rw [app_list]; simp
theorem split_at (s : ByteArray) (m : Nat) (hm : m ≤ s.size) : s = s.extract 0 m ++ s.extract m s.size := by
  apply ba_ext
  rw [app_list, Lib.extract_data, Lib.extract_data, List.drop_zero, Nat.sub_zero]
  rw [show (s.data.toList.drop m).take (s.size - m) = s.data.toList.drop m from List.take_of_length_le (by rw [List.length_drop, size_list]; exact Nat.le_refl _)]
  exact (List.take_append_drop m _).symm
theorem cut_all (s : ByteArray) : s.extract 0 s.size = s := by simp

/-- pieces, one behind the other. -/
def cat : List ByteArray → ByteArray
  | [] => ⟨#[]⟩
  | x :: xs => x ++ cat xs
theorem cat_list : ∀ xs : List ByteArray, (cat xs).data.toList = xs.flatMap (·.data.toList)
  | [] => rfl
  | x :: xs => by rw [cat, app_list, cat_list xs, List.flatMap_cons]
theorem cat_one (x : ByteArray) : cat [x] = x := app_empty x
theorem join_nil : ∀ l : List (List UInt8), Lib.join l [] = l.flatten
  | [] => rfl
  | [x] => by rw [Lib.join_one]; simp
  | x :: y :: r => by
    have ih := join_nil (y :: r)
    simp only [Lib.join, List.intercalate] at ih ⊢
    rw [List.intersperse_cons_cons, List.flatten_cons, List.flatten_cons, ih]
    simp
theorem cat_join (xs : List ByteArray) : (⟨(Lib.join (xs.map (·.data.toList)) []).toArray⟩ : ByteArray) = cat xs := by
  apply ba_ext
  rw [cat_list, ba_toList, join_nil, List.flatMap_def]

/-! ### bytes behind their number -/
theorem cnt_nil : cntK ⟨#[]⟩ = none := rfl
theorem cnt_cons (b : UInt8) (r : List UInt8) : cntK ⟨(b :: r).toArray⟩ = if b.toNat ≤ r.length then some (1 + b.toNat) else none := by
  have h0 : 0 < (⟨(b :: r).toArray⟩ : ByteArray).size := by rw [ba_size]; simp
  have hb : (⟨(b :: r).toArray⟩ : ByteArray)[0] = b := by rw [← getElem_list _ _ h0]; rfl
  unfold cntK
  rw [dif_pos h0, hb, ba_size, List.length_cons]
  by_cases h : b.toNat ≤ r.length
  · rw [if_pos h, if_pos (by omega)]
  · rw [if_neg h, if_neg (by omega)]
theorem cnt_le {s : ByteArray} {m : Nat} (h : cntK s = some m) : 1 ≤ m ∧ m ≤ s.size ∧ m ≤ 256 := by
  unfold cntK at h
  split at h
  · rename_i h0
    have hu := s[0].toNat_lt
    split at h
    · cases h; omega
    · cases h
  · cases h
theorem list_cases (s : ByteArray) : s = ⟨#[]⟩ ∨ ∃ b r, s = ⟨(b :: r).toArray⟩ := by
  cases hl : s.data.toList with
  | nil => exact .inl (ba_ext hl)
  | cons b r => exact .inr ⟨b, r, ba_ext hl⟩
theorem cnt_pos {s : ByteArray} {m : Nat} (h : cntK s = some m) : ∃ b r, s = ⟨(b :: r).toArray⟩ ∧ b.toNat ≤ r.length ∧ m = 1 + b.toNat := by
  rcases list_cases s with rfl | ⟨b, r, rfl⟩
  · cases h
  · rw [cnt_cons] at h
    split at h
    · rename_i hb
      cases h
      exact ⟨b, r, rfl, hb, rfl⟩
    · cases h
theorem mk_app (a b : List UInt8) : (⟨a.toArray⟩ : ByteArray) ++ (⟨b.toArray⟩ : ByteArray) = ⟨(a ++ b).toArray⟩ := by apply ba_ext; rw [app_list]
theorem cnt_app {x : ByteArray} (h : cntK x = some x.size) (t : ByteArray) : cntK (x ++ t) = some x.size := by
  obtain ⟨b, r, rfl, hb, hm⟩ := cnt_pos h
  rw [← ba_of t, mk_app, List.cons_append, cnt_cons, if_pos (by simp; omega), hm]
theorem cnt_cut {s : ByteArray} {m : Nat} (h : cntK s = some m) : cntK (s.extract 0 m) = some (s.extract 0 m).size := by
  obtain ⟨b, r, rfl, hb, rfl⟩ := cnt_pos h
  have hx : (⟨(b :: r).toArray⟩ : ByteArray).extract 0 (1 + b.toNat) = ⟨(b :: r.take b.toNat).toArray⟩ := by
    apply ba_ext
    rw [Lib.extract_data, List.drop_zero, Nat.sub_zero, Nat.add_comm, ba_toList, ba_toList, List.take_succ_cons]
  rw [hx, cnt_cons, ba_size, List.length_cons, List.length_take, Nat.min_eq_left hb, if_pos (Nat.le_refl _), Nat.add_comm]

/-! ### names -/
theorem nmGo_le : ∀ (n : Nat) (s : ByteArray) (m : Nat), nmGo n s = some m → 1 ≤ m ∧ m ≤ s.size
  | 0, s, m, h => by cases h
  | n + 1, s, m, h => by
    rw [nmGo] at h
    cases hc : cntK s with
    | none => rw [hc] at h; cases h
    | some j =>
      rw [hc] at h
      have hj := cnt_le hc
      simp only at h
      split at h
      · cases h; omega
      · rw [Option.map_eq_some_iff] at h
        obtain ⟨q, hq, rfl⟩ := h
        have := nmGo_le n _ q hq
        rw [ByteArray.size_extract] at this
        omega
theorem drop_cons (b : UInt8) (l t : List UInt8) (n : Nat) (h : n = l.length) : (⟨(b :: (l ++ t)).toArray⟩ : ByteArray).extract (1 + n) (⟨(b :: (l ++ t)).toArray⟩ : ByteArray).size = ⟨t.toArray⟩ := by
  subst h
  apply ba_ext
  rw [Lib.extract_data, ba_toList, ba_size, Nat.add_comm, List.drop_succ_cons, List.drop_left' rfl, ba_toList]
  exact List.take_of_length_le (by simp)
theorem nmGo_flat : ∀ (ls : List (List UInt8)) (t : List UInt8) (n : Nat), (∀ l ∈ ls, 1 ≤ l.length ∧ l.length ≤ 63) → ls.length < n → nmGo n ⟨(flat ls ++ 0 :: t).toArray⟩ = some ((flat ls).length + 1)
  | [], t, 0, _, h => by simp at h
  | [], t, n + 1, _, _ => by
    rw [nmGo, show flat [] ++ 0 :: t = 0 :: t from rfl, cnt_cons, if_pos (by simp)]
    rfl
  | l :: ls, t, 0, _, h => by simp at h
  | l :: ls, t, n + 1, hl, h => by
    have hl1 := hl l (by simp)
    have hu : (UInt8.ofNat l.length).toNat = l.length := by rw [UInt8.toNat_ofNat']; omega
    have ih := nmGo_flat ls t n (fun x hx => hl x (by simp [hx])) (by simp at h; omega)
    have e : flat (l :: ls) ++ 0 :: t = UInt8.ofNat l.length :: (l ++ (flat ls ++ 0 :: t)) := by simp [flat]
    rw [nmGo, e, cnt_cons, hu, if_pos (by simp)]
    simp only
    rw [if_neg (by omega), drop_cons _ l (flat ls ++ 0 :: t) l.length rfl, ih]
    simp [flat]; omega
theorem flat_long : ∀ (ls : List (List UInt8)), ls.length ≤ (flat ls).length
  | [] => by simp
  | l :: ls => by have := flat_long ls; simp [flat]; omega
theorem name_app {x : ByteArray} (h : IsName x) (t : ByteArray) : nameK (x ++ t) = some x.size := by
  have h' := h
  obtain ⟨ls, ho, rfl⟩ := h
  have e : nm ls ++ t = ⟨(flat ls ++ 0 :: t.data.toList).toArray⟩ := by
    apply ba_ext
    rw [app_list, nm_list, nmL]; simp
  have hg := nmGo_flat ls t.data.toList ((nm ls ++ t).size + 1) ho.lab (by have := flat_long ls; rw [app_size, nm_size]; omega)
  rw [← e] at hg
  unfold nameK
  rw [hg, ← nm_size]
  simp only
  rw [if_pos (by rw [app_first]; exact h')]
theorem nameK_ok {s : ByteArray} {m : Nat} (h : nameK s = some m) : m ≤ s.size ∧ IsName (s.extract 0 m) := by
  unfold nameK at h
  cases hg : nmGo (s.size + 1) s with
  | none => rw [hg] at h; cases h
  | some j =>
    rw [hg] at h
    simp only at h
    split at h
    · cases h
      exact ⟨(nmGo_le _ _ _ hg).2, by assumption⟩
    · cases h

/-! ### pieces -/
def Good : PK → ByteArray → Prop
  | .num n, x => x.size = n
  | .grp c w _ _, x => x.size = c * w
  | .name, x => IsName x
  | .type, x => x.size = 2
  | .hex, x => 0 < x.size
  | .salt, x => cntK x = some x.size
  | .hash, x => cntK x = some x.size ∧ 1 < x.size
  | .types, x => (typesR x).isSome = true
  | .any, x => True
  | .strs, x => txtPf 0 x = some x.size
/-- a part that ends by itself. -/
def delim : PK → Bool
  | .hex | .types | .any | .strs => false
  | _ => true

theorem take_ok {n m : Nat} {s : ByteArray} (h : takeK n s = some m) : m ≤ s.size ∧ (s.extract 0 m).size = n := by
  unfold takeK at h
  split at h
  · cases h
    rw [ByteArray.size_extract]
    omega
  · cases h
theorem take_app {n : Nat} {x : ByteArray} (h : x.size = n) (t : ByteArray) : takeK n (x ++ t) = some x.size := by
  unfold takeK
  rw [if_pos (by rw [app_size]; omega), h]

theorem pass_good (p : PK) (s : ByteArray) (m : Nat) (h : passK p s = some m) : m ≤ s.size ∧ Good p (s.extract 0 m) := by
  cases p with
  | num n => exact take_ok h
  | grp c w b sep => exact take_ok h
  | name => exact nameK_ok h
  | type => exact take_ok h
  | hex =>
    simp only [passK] at h
    split at h
    · cases h
      rw [cut_all]
      exact ⟨Nat.le_refl _, by assumption⟩
    · cases h
  | salt => exact ⟨(cnt_le h).2.1, cnt_cut h⟩
  | hash =>
    simp only [passK, hashK] at h
    cases hc : cntK s with
    | none => rw [hc] at h; cases h
    | some j =>
      rw [hc] at h
      simp only at h
      split at h
      · cases h
        have := cnt_le hc
        refine ⟨this.2.1, cnt_cut hc, ?_⟩
        rw [ByteArray.size_extract]
        omega
      · cases h
  | types =>
    simp only [passK] at h
    split at h
    · cases h
      rw [cut_all]
      exact ⟨Nat.le_refl _, by assumption⟩
    · cases h
  | any =>
    cases h
    exact ⟨Nat.le_refl _, trivial⟩
  | strs =>
    have h' : txtPf 0 s = some m := h
    have hm : m = s.size := by
      unfold txtPf at h'
      split at h'
      · cases h'; rfl
      · cases h'
    subst hm
    rw [cut_all]
    exact ⟨Nat.le_refl _, h'⟩
theorem good_app (p : PK) (hp : delim p = true) (x : ByteArray) (h : Good p x) (t : ByteArray) : passK p (x ++ t) = some x.size := by
  cases p with
  | num n => exact take_app h t
  | grp c w b sep => exact take_app h t
  | name => exact name_app h t
  | type => exact take_app h t
  | salt => exact cnt_app h t
  | hash =>
    simp only [passK, hashK]
    rw [cnt_app h.1 t]
    simp only
    rw [if_pos h.2]
  | hex => cases hp
  | types => cases hp
  | any => cases hp
  | strs => cases hp
theorem good_self (p : PK) (x : ByteArray) (h : Good p x) : passK p x = some x.size := by
  cases hp : delim p with
  | true =>
    have := good_app p hp x h ⟨#[]⟩
    rwa [app_empty] at this
  | false =>
    cases p with
    | hex => exact if_pos h
    | types => exact if_pos h
    | any => rfl
    | strs => exact h
    | num n => cases hp
    | grp c w b sep => cases hp
    | name => cases hp
    | type => cases hp
    | salt => cases hp
    | hash => cases hp

def AllGood : List PK → List ByteArray → Prop
  | [], [] => True
  | p :: ps, x :: xs => Good p x ∧ AllGood ps xs
  | _, _ => False
theorem AllGood.len : ∀ {F : List PK} {xs : List ByteArray}, AllGood F xs → xs.length = F.length
  | [], [], _ => rfl
  | p :: F, x :: xs, h => by have := AllGood.len h.2; simp [this]
  | [], _ :: _, h => h.elim
  | _ :: _, [], h => h.elim

noncomputable def cutF : List PK → ByteArray → Option (List ByteArray × ByteArray)
  | [], s => some ([], s)
  | p :: F, s => match passK p s with
    | none => none
    | some m => (cutF F (s.extract m s.size)).map fun r => (s.extract 0 m :: r.1, r.2)
theorem cutF_sound : ∀ (F : List PK) (s : ByteArray) (r : List ByteArray × ByteArray), cutF F s = some r → s = cat r.1 ++ r.2 ∧ AllGood F r.1
  | [], s, r, h => by cases h; exact ⟨(empty_app s).symm, trivial⟩
  | p :: F, s, r, h => by
    rw [cutF] at h
    cases hp : passK p s with
    | none => rw [hp] at h; cases h
    | some m =>
      rw [hp] at h
      simp only [Option.map_eq_some_iff] at h
      obtain ⟨q, hq, rfl⟩ := h
      obtain ⟨h1, h2⟩ := cutF_sound F _ q hq
      obtain ⟨hm, hg⟩ := pass_good p s m hp
      refine ⟨?_, hg, h2⟩
      conv => lhs; rw [split_at s m hm, h1]
      show s.extract 0 m ++ (cat q.1 ++ q.2) = (s.extract 0 m ++ cat q.1) ++ q.2
      rw [ByteArray.append_assoc]
/-- all but the last part end by themselves. -/
def delims : List PK → Bool
  | [] => true
  | [_] => true
  | p :: F => delim p && delims F
theorem cutF_cat : ∀ (F : List PK) (xs : List ByteArray), delims F = true → AllGood F xs → cutF F (cat xs) = some (xs, ⟨#[]⟩)
  | [], [], _, _ => rfl
  | [], _ :: _, _, h => h.elim
  | _ :: _, [], _, h => h.elim
  | [p], x :: xs, _, h => by
    obtain ⟨h1, h2⟩ := h
    cases xs with
    | cons y ys => exact h2.elim
    | nil =>
      rw [cat_one, cutF, good_self p x h1]
      simp only [cutF, Option.map_some]
      rw [cut_all, end_cut]
  | p :: q :: F, x :: xs, hd, h => by
    obtain ⟨h1, h2⟩ := h
    rw [show delims (p :: q :: F) = (delim p && delims (q :: F)) from rfl, Bool.and_eq_true] at hd
    rw [cutF, cat, good_app p hd.1 x h1]
    simp only
    rw [app_first, app_rest, cutF_cat (q :: F) xs hd.2 h2]
    rfl

theorem cutP_eq : ∀ (F : List PK) (pf : Nat → ByteArray → Option Nat) (k : Nat) (s : ByteArray), (∀ j p, F[j]? = some p → pf (k + j) = passK p) → cutP pf F.length k s = cutF F s
  | [], pf, k, s, _ => rfl
  | p :: F, pf, k, s, h => by
    have h0 : pf k = passK p := h 0 p rfl
    rw [List.length_cons, cutP, cutF, h0]
    cases passK p s with
    | none => rfl
    | some m =>
      simp only
      rw [cutP_eq F pf (k + 1) _ (fun j q hj => by rw [show k + 1 + j = k + (j + 1) by omega]; exact h (j + 1) q hj)]

noncomputable def pfK (F : List PK) : Nat → ByteArray → Option Nat := fun j s => match F[j]? with
  | some p => passK p s
  | none => none
theorem form_delims (k : Int) : delims (formOf k) = true := by
  unfold formOf
  repeat' split
  all_goals rfl
theorem form_len (k : Int) : (formOf k).length ≤ 20 ∧ 1 ≤ (formOf k).length := by
  unfold formOf
  repeat' split
  all_goals simp

/-- data in pieces. -/
noncomputable def splitR (k : Int) (s : ByteArray) : Option (List ByteArray) := if (0 ≤ k ∧ k ≤ 65535) ∧ s.size ≤ 2000 then fin (pfK (formOf k)) (formOf k).length s else none
theorem fin_eq (F : List PK) (s : ByteArray) : fin (pfK F) F.length s = match cutF F s with
    | none => none
    | some r => if r.2.size = 0 then some r.1 else none := by
  unfold fin
  rw [cutP_eq F (pfK F) 0 s (fun j p hj => by funext x; rw [Nat.zero_add, pfK, hj])]
  cases cutF F s <;> rfl
theorem split_iff (k : Int) (s : ByteArray) (xs : List ByteArray) : splitR k s = some xs ↔ (0 ≤ k ∧ k ≤ 65535) ∧ s.size ≤ 2000 ∧ s = cat xs ∧ AllGood (formOf k) xs := by
  unfold splitR
  constructor
  · intro h
    split at h
    · rename_i hk
      rw [fin_eq] at h
      cases hc : cutF (formOf k) s with
      | none => rw [hc] at h; cases h
      | some r =>
        rw [hc] at h
        simp only at h
        split at h
        · rename_i h0
          cases h
          obtain ⟨h1, h2⟩ := cutF_sound _ _ _ hc
          refine ⟨hk.1, hk.2, ?_, h2⟩
          rw [ba_empty _ h0, app_empty] at h1
          exact h1
        · cases h
    · cases h
  · rintro ⟨hk, hs, rfl, hg⟩
    rw [if_pos ⟨hk, hs⟩, fin_eq, cutF_cat _ _ (form_delims k) hg]
    rfl
theorem split_none (k : Int) (s : ByteArray) (h : ¬ ((0 ≤ k ∧ k ≤ 65535) ∧ s.size ≤ 2000)) : splitR k s = none := if_neg h
end Go.Proofs.YtdhcbaennpediaaGreatDoor

/- Lists of types as bytes: windows of bits. Nothing here speaks of the program. -/
namespace Go.Proofs.YtdhcbaennpediaaGreatDoor
set_option linter.unusedVariables false
open Go.RowKit

theorem bit_tb (b : List UInt8) (n : Nat) : bitAt b n = (b.getD (n / 8) 0).toNat.testBit (7 - n % 8) := by
  rw [bitAt, Nat.testBit_eq_decide_div_mod_eq, Bool.eq_iff_iff, beq_iff_eq, decide_eq_true_iff]
theorem getD_far (b : List UInt8) (j : Nat) (h : b.length ≤ j) : b.getD j 0 = 0 := by
  rw [List.getD_eq_getElem?_getD, List.getElem?_eq_none h]; rfl
theorem bit_far (b : List UInt8) (n : Nat) (h : b.length ≤ n / 8) : bitAt b n = false := by
  rw [bit_tb, getD_far b _ h]
  exact Nat.zero_testBit _

theorem filter_low (p : Nat → Bool) (k : Nat) (h : ∀ i, k ≤ i → p i = false) : ∀ n, k ≤ n → (List.range n).filter p = (List.range k).filter p := by
  intro n hn
  obtain ⟨j, rfl⟩ : ∃ j, n = k + j := ⟨n - k, by omega⟩
  clear hn
  induction j with
  | zero => rfl
  | succ j ih => rw [show k + (j + 1) = (k + j) + 1 by omega, List.range_succ, List.filter_append, ih]; simp [h (k + j) (by omega)]
theorem filter_one (p : Nat → Bool) (k : Nat) (hk : p k = true) (h : ∀ i, k < i → p i = false) (n : Nat) (hn : k < n) : (List.range n).filter p = (List.range k).filter p ++ [k] := by
  rw [filter_low p (k + 1) (fun i hi => h i (by omega)) n (by omega), List.range_succ, List.filter_append]
  simp [hk]
theorem bitsL_all (w : Nat) (b : List UInt8) (h : b.length ≤ 32) : bitsL w b (8 * b.length) = bitsL w b 256 := by
  unfold bitsL
  rw [filter_low _ (8 * b.length) (fun i hi => bit_far b i (by omega)) 256 (by omega)]
theorem mem_bits {w : Nat} {b : List UInt8} {n x : Nat} : x ∈ bitsL w b n ↔ ∃ i, i < n ∧ bitAt b i = true ∧ x = w * 256 + i := by
  unfold bitsL
  simp only [List.mem_map, List.mem_filter, List.mem_range]
  constructor
  · rintro ⟨i, ⟨h1, h2⟩, rfl⟩; exact ⟨i, h1, h2, rfl⟩
  · rintro ⟨i, h1, h2, rfl⟩; exact ⟨i, ⟨h1, h2⟩, rfl⟩

/-- a bit more. -/
def padB (b : List UInt8) (k : Nat) : List UInt8 := b ++ List.replicate (k / 8 + 1 - b.length) 0
def setB (b : List UInt8) (k : Nat) : List UInt8 := (padB b k).set (k / 8) (UInt8.ofNat ((b.getD (k / 8) 0).toNat ||| 2 ^ (7 - k % 8)))
theorem padB_len (b : List UInt8) (k : Nat) : (padB b k).length = max b.length (k / 8 + 1) := by simp [padB]; omega
theorem setB_len (b : List UInt8) (k : Nat) : (setB b k).length = max b.length (k / 8 + 1) := by simp [setB, padB_len]
theorem padB_get (b : List UInt8) (k j : Nat) : (padB b k).getD j 0 = b.getD j 0 := by
  unfold padB
  rw [List.getD_eq_getElem?_getD, List.getD_eq_getElem?_getD, List.getElem?_append]
  split
  · rfl
  · rename_i h
    rw [List.getElem?_eq_none (l := b) (by omega), List.getElem?_replicate]
    split <;> rfl
theorem or_lt (a k : Nat) (h : a < 256) : a ||| 2 ^ (7 - k % 8) < 256 := by
  have : 2 ^ (7 - k % 8) < 2 ^ 8 := Nat.pow_lt_pow_right (by omega) (by omega)
  exact Nat.or_lt_two_pow (n := 8) h this
theorem setB_get (b : List UInt8) (k j : Nat) : ((setB b k).getD j 0).toNat = if j = k / 8 then (b.getD j 0).toNat ||| 2 ^ (7 - k % 8) else (b.getD j 0).toNat := by
  unfold setB
  rw [List.getD_eq_getElem?_getD, List.getElem?_set]
  have hu := (b.getD (k / 8) 0).toNat_lt
  by_cases h : k / 8 = j
  · rw [if_pos h, if_pos h.symm, if_pos (by rw [padB_len]; omega)]
    subst h
    rw [Option.getD_some, UInt8.toNat_ofNat', Nat.mod_eq_of_lt (or_lt _ k (by omega))]
  · rw [if_neg h, if_neg (fun e => h e.symm), ← List.getD_eq_getElem?_getD, padB_get]
theorem setB_bit (b : List UInt8) (k i : Nat) : bitAt (setB b k) i = (bitAt b i || decide (i = k)) := by
  rw [bit_tb, bit_tb, setB_get]
  by_cases h : i / 8 = k / 8
  · rw [if_pos h, Nat.testBit_or, Nat.testBit_two_pow]
    congr 1
    by_cases e : i = k
    · subst e; simp
    · have : ¬ (7 - k % 8 = 7 - i % 8) := by omega
      simp [e, this]
  · rw [if_neg h]
    have : ¬ i = k := fun e => h (by rw [e])
    simp [this]

theorem last_bit {b : List UInt8} (h : lastOk b = true) : ∃ i, b.length = i / 8 + 1 ∧ bitAt b i = true := by
  unfold lastOk at h
  cases hl : b.getLast? with
  | none => rw [hl] at h; cases h
  | some c =>
    rw [hl] at h
    simp only [bne_iff_ne, ne_eq] at h
    have hb0 : b ≠ [] := fun e => by rw [e] at hl; cases hl
    have hlen : 0 < b.length := List.length_pos_iff.2 hb0
    have hc : b.getD (b.length - 1) 0 = c := by
      rw [List.getD_eq_getElem?_getD, ← List.getLast?_eq_getElem?, hl]; rfl
    have hcn : c.toNat ≠ 0 := fun e => h (UInt8.toNat_inj.1 (by rw [e]; rfl))
    obtain ⟨t, ht⟩ := Nat.exists_testBit_of_ne_zero hcn
    have ht8 : t < 8 := by
      apply Decidable.byContradiction
      intro hge
      have := c.toNat_lt
      have h2 : c.toNat < 2 ^ t := Nat.lt_of_lt_of_le (by omega : c.toNat < 2 ^ 8) (Nat.pow_le_pow_right (by omega) (by omega))
      rw [Nat.testBit_lt_two_pow h2] at ht
      cases ht
    refine ⟨8 * (b.length - 1) + (7 - t), by omega, ?_⟩
    rw [bit_tb, show (8 * (b.length - 1) + (7 - t)) / 8 = b.length - 1 by omega, show 7 - (8 * (b.length - 1) + (7 - t)) % 8 = t by omega, hc]
    exact ht
theorem bits_ext {b c : List UInt8} (hb : lastOk b = true) (hc : lastOk c = true) (h : ∀ i, bitAt b i = bitAt c i) : b = c := by
  have hg : ∀ j, b.getD j 0 = c.getD j 0 := by
    intro j
    apply UInt8.toNat_inj.1
    apply Nat.eq_of_testBit_eq
    intro t
    by_cases ht : t < 8
    · have := h (8 * j + (7 - t))
      rw [bit_tb, bit_tb, show (8 * j + (7 - t)) / 8 = j by omega, show 7 - (8 * j + (7 - t)) % 8 = t by omega] at this
      exact this
    · have h1 := (b.getD j 0).toNat_lt
      have h2 := (c.getD j 0).toNat_lt
      have hp : 2 ^ 8 ≤ 2 ^ t := Nat.pow_le_pow_right (by omega) (by omega)
      rw [Nat.testBit_lt_two_pow (by omega), Nat.testBit_lt_two_pow (by omega)]
  obtain ⟨i, hi, hbi⟩ := last_bit hb
  obtain ⟨j, hj, hcj⟩ := last_bit hc
  have l1 : ¬ c.length ≤ i / 8 := fun hl => by rw [h i, bit_far c i hl] at hbi; cases hbi
  have l2 : ¬ b.length ≤ j / 8 := fun hl => by rw [← h j, bit_far b j hl] at hcj; cases hcj
  apply List.ext_getElem (by omega)
  intro n h1 h2
  have := hg n
  rwa [List.getD_eq_getElem?_getD, List.getD_eq_getElem?_getD, List.getElem?_eq_getElem h1, List.getElem?_eq_getElem h2] at this
theorem setB_last (b : List UInt8) (k : Nat) (h : b.length ≤ k / 8 + 1) : lastOk (setB b k) = true := by
  have hl := setB_len b k
  have hg := setB_get b k (k / 8)
  rw [if_pos rfl] at hg
  have hne : ((setB b k).getD (k / 8) 0).toNat ≠ 0 := by
    rw [hg]
    intro e
    have := congrArg (fun x => x.testBit (7 - k % 8)) e
    simp [Nat.testBit_or] at this
  unfold lastOk
  rw [List.getLast?_eq_getElem?, hl, show max b.length (k / 8 + 1) - 1 = k / 8 by omega, List.getElem?_eq_getElem (by omega)]
  rw [List.getD_eq_getElem?_getD, List.getElem?_eq_getElem (by omega), Option.getD_some] at hne
  simp only [bne_iff_ne, ne_eq]
  intro e
  rw [e] at hne
  exact hne rfl
theorem setB_bits (w : Nat) (b : List UInt8) (k : Nat) (hk : k < 256) (h : ∀ i, bitAt b i = true → i < k) : bitsL w (setB b k) 256 = bitsL w b 256 ++ [w * 256 + k] := by
  have hb : ∀ i, k ≤ i → bitAt b i = false := fun i hi => by
    cases e : bitAt b i with
    | false => rfl
    | true => have := h i e; omega
  unfold bitsL
  rw [filter_one (fun i => bitAt (setB b k) i) k (by rw [setB_bit]; simp) (fun i hi => by rw [setB_bit, hb i (by omega)]; simp; omega) 256 hk]
  rw [filter_low (fun i => bitAt b i) k hb 256 (by omega), List.map_append]
  congr 2
  apply List.filter_congr
  intro i hi
  rw [setB_bit]
  have : ¬ i = k := by have := List.mem_range.1 hi; omega
  simp [this]

/-! ### windows -/
abbrev Win := Nat × List UInt8
def encW : List Win → List UInt8
  | [] => []
  | p :: r => UInt8.ofNat p.1 :: UInt8.ofNat p.2.length :: (p.2 ++ encW r)
def OkW : Int → List Win → Prop
  | _, [] => True
  | last, p :: r => last < (p.1 : Int) ∧ p.1 ≤ 255 ∧ p.2.length ≤ 32 ∧ lastOk p.2 = true ∧ OkW p.1 r
def tysW : List Win → List Nat
  | [] => []
  | p :: r => bitsL p.1 p.2 256 ++ tysW r
theorem encW_app : ∀ (a b : List Win), encW (a ++ b) = encW a ++ encW b
  | [], b => rfl
  | p :: a, b => by simp [encW, encW_app a b]
theorem tysW_app : ∀ (a b : List Win), tysW (a ++ b) = tysW a ++ tysW b
  | [], b => rfl
  | p :: a, b => by simp [tysW, tysW_app a b]
theorem lastOk_ne {b : List UInt8} (h : lastOk b = true) : 1 ≤ b.length := by
  obtain ⟨i, hi, _⟩ := last_bit h
  omega

theorem ty_enc : ∀ (ws : List Win) (last : Int) (n : Nat), OkW last ws → (encW ws).length < n → tyGo n last ⟨(encW ws).toArray⟩ = some (tysW ws)
  | [], last, 0, _, h => by simp [encW] at h
  | [], last, n + 1, _, _ => by rw [tyGo, dif_neg (by rw [ba_size]; simp [encW])]; rfl
  | p :: r, last, 0, _, h => by simp at h
  | p :: r, last, n + 1, ⟨h1, h2, h3, h4, h5⟩, h => by
    have h6 := lastOk_ne h4
    have e : encW (p :: r) = UInt8.ofNat p.1 :: UInt8.ofNat p.2.length :: (p.2 ++ encW r) := rfl
    have h0 : 0 < (⟨(encW (p :: r)).toArray⟩ : ByteArray).size := by rw [ba_size, e]; simp
    have hu : (UInt8.ofNat p.2.length).toNat = p.2.length := by rw [UInt8.toNat_ofNat']; omega
    have hw : (UInt8.ofNat p.1).toNat = p.1 := by rw [UInt8.toNat_ofNat']; omega
    have hg : (⟨(encW (p :: r)).toArray⟩ : ByteArray)[0] = UInt8.ofNat p.1 := by rw [← getElem_list _ _ h0]; rfl
    have x1 : (⟨(encW (p :: r)).toArray⟩ : ByteArray).extract 1 (⟨(encW (p :: r)).toArray⟩ : ByteArray).size = ⟨(UInt8.ofNat p.2.length :: (p.2 ++ encW r)).toArray⟩ := by
      apply ba_ext
      rw [Lib.extract_data, ba_toList, e, ba_size, ba_toList, List.drop_succ_cons, List.drop_zero]
      exact List.take_of_length_le (by simp)
    have x2 : ((⟨(encW (p :: r)).toArray⟩ : ByteArray).extract 2 (1 + p.2.length + 1)).data.toList = p.2 := by
      rw [Lib.extract_data, ba_toList, e, List.drop_succ_cons, List.drop_succ_cons, List.drop_zero, show 1 + p.2.length + 1 - 2 = p.2.length by omega, List.take_left' rfl]
    have x3 : (⟨(encW (p :: r)).toArray⟩ : ByteArray).extract (1 + p.2.length + 1) (⟨(encW (p :: r)).toArray⟩ : ByteArray).size = ⟨(encW r).toArray⟩ := by
      apply ba_ext
      rw [Lib.extract_data, ba_toList, e, ba_size, ba_toList, show 1 + p.2.length + 1 = p.2.length + 1 + 1 by omega, List.drop_succ_cons, List.drop_succ_cons, List.drop_left' rfl]
      exact List.take_of_length_le (by simp)
    have ih := ty_enc r p.1 n h5 (by rw [e] at h; simp at h; omega)
    rw [tyGo, dif_pos h0, x1, cnt_cons, hu, if_pos (by simp)]
    simp only
    rw [hg, hw, x2, x3, if_pos ⟨h1, by omega, h4⟩, ih]
    simp only [Option.map_some, tysW]
    rw [show 1 + p.2.length - 1 = p.2.length by omega, bitsL_all _ _ h3]
theorem ty_dec : ∀ (n : Nat) (last : Int) (s : ByteArray) (l : List Nat), tyGo n last s = some l → ∃ ws, OkW last ws ∧ s = ⟨(encW ws).toArray⟩ ∧ l = tysW ws
  | 0, last, s, l, h => by cases h
  | n + 1, last, s, l, h => by
    rw [tyGo] at h
    split at h
    · rename_i h0
      cases hc : cntK (s.extract 1 s.size) with
      | none => rw [hc] at h; cases h
      | some m =>
        rw [hc] at h
        simp only at h
        split at h
        · rename_i hcond
          obtain ⟨h1, h2, h3⟩ := hcond
          rw [Option.map_eq_some_iff] at h
          obtain ⟨q, hq, rfl⟩ := h
          obtain ⟨ws, hok, hs, rfl⟩ := ty_dec n _ _ q hq
          have hm := cnt_le hc
          have hz : (s.extract 1 s.size).size = s.size - 1 := by rw [ByteArray.size_extract]; omega
          have hbl : (s.extract 2 (m + 1)).data.toList.length = m - 1 := by rw [size_list, ByteArray.size_extract]; omega
          have hu := s[0].toNat_lt
          refine ⟨(s[0].toNat, (s.extract 2 (m + 1)).data.toList) :: ws, ⟨h1, by omega, by rw [hbl]; omega, h3, hok⟩, ?_, ?_⟩
          · obtain ⟨b, r, hbr, hb, hmb⟩ := cnt_pos hc
            apply ba_ext
            rw [ba_toList, encW, hbl, UInt8.ofNat_toNat]
            have d0 : s.data.toList = s[0] :: s.data.toList.drop 1 := by
              rw [← getElem_list s 0 h0]
              exact (List.drop_eq_getElem_cons (i := 0) (by rw [size_list]; exact h0))
            have d1 : s.data.toList.drop 1 = b :: r := by
              have := congrArg (fun x : ByteArray => x.data.toList) hbr
              simp only [Lib.extract_data] at this
              rw [List.take_of_length_le (by rw [List.length_drop, size_list]; omega)] at this
              exact this
            have hmb' : UInt8.ofNat (m - 1) = b := by rw [hmb, Nat.add_sub_cancel_left, UInt8.ofNat_toNat]
            have d2 : s.data.toList.drop 2 = r := by
              rw [show (2 : Nat) = 1 + 1 by omega, ← List.drop_drop, d1]; rfl
            have d3 : (s.extract 2 (m + 1)).data.toList = r.take (m - 1) := by
              rw [Lib.extract_data, d2, show m + 1 - 2 = m - 1 by omega]
            have d4 : encW ws = r.drop (m - 1) := by
              have := congrArg (fun x : ByteArray => x.data.toList) hs
              simp only [Lib.extract_data] at this
              rw [List.take_of_length_le (by rw [List.length_drop, size_list]; omega), show m + 1 = 2 + (m - 1) by omega, ← List.drop_drop, d2] at this
              exact this.symm
            rw [hmb', d3, d4, List.take_append_drop, ← d1, ← d0]
          · rw [tysW, ← bitsL_all _ _ (by simp only; rw [hbl]; omega), hbl]
        · cases h
    · rename_i h0
      cases h
      exact ⟨[], trivial, ba_empty s (by omega), rfl⟩

/-! ### uniqueness -/
theorem ty_mem : ∀ {ws : List Win} {last : Int} {x : Nat}, OkW last ws → x ∈ tysW ws → last < ((x / 256 : Nat) : Int) ∧ x ≤ 65535
  | [], _, _, _, h => by cases h
  | p :: r, last, x, ⟨h1, h2, h3, h4, h5⟩, h => by
    rw [tysW, List.mem_append] at h
    rcases h with h | h
    · obtain ⟨i, hi, _, rfl⟩ := mem_bits.1 h
      rw [show (p.1 * 256 + i) / 256 = p.1 by omega]
      exact ⟨h1, by omega⟩
    · have := ty_mem h5 h
      exact ⟨by omega, this.2⟩
theorem bits_head {w : Nat} {b : List UInt8} (h : lastOk b = true) (h3 : b.length ≤ 32) : ∃ x r, bitsL w b 256 = x :: r := by
  obtain ⟨i, hi, hb⟩ := last_bit h
  cases hl : bitsL w b 256 with
  | cons x r => exact ⟨x, r, rfl⟩
  | nil =>
    have : w * 256 + i ∈ bitsL w b 256 := mem_bits.2 ⟨i, by omega, hb, rfl⟩
    rw [hl] at this
    cases this
theorem bits_filter {w : Nat} {b : List UInt8} {r : List Win} {last : Int} (h : OkW (w : Int) r) : (bitsL w b 256 ++ tysW r).filter (fun x => decide (x / 256 = w)) = bitsL w b 256 ∧ (bitsL w b 256 ++ tysW r).filter (fun x => !decide (x / 256 = w)) = tysW r := by
  have ha : ∀ x ∈ bitsL w b 256, x / 256 = w := fun x hx => by
    obtain ⟨i, hi, _, rfl⟩ := mem_bits.1 hx
    omega
  have hb : ∀ x ∈ tysW r, ¬ x / 256 = w := fun x hx => by
    have := (ty_mem h hx).1
    omega
  rw [List.filter_append, List.filter_append]
  constructor
  · rw [List.filter_eq_self.2 (fun x hx => by simp [ha x hx]), List.filter_eq_nil_iff.2 (fun x hx => by simp [hb x hx]), List.append_nil]
  · rw [List.filter_eq_nil_iff.2 (fun x hx => by simp [ha x hx]), List.filter_eq_self.2 (fun x hx => by simp [hb x hx]), List.nil_append]
theorem bits_inj {w : Nat} {b c : List UInt8} (hb : lastOk b = true) (hc : lastOk c = true) (lb : b.length ≤ 32) (lc : c.length ≤ 32) (h : bitsL w b 256 = bitsL w c 256) : b = c := by
  apply bits_ext hb hc
  have key : ∀ (b c : List UInt8), b.length ≤ 32 → bitsL w b 256 = bitsL w c 256 → ∀ i, bitAt b i = true → bitAt c i = true := by
    intro b c lb h i hi
    have hl : i < 256 := by
      apply Decidable.byContradiction
      intro hge
      rw [bit_far b i (by omega)] at hi
      cases hi
    have : w * 256 + i ∈ bitsL w c 256 := by rw [← h]; exact mem_bits.2 ⟨i, hl, hi, rfl⟩
    obtain ⟨j, _, hj, e⟩ := mem_bits.1 this
    obtain rfl : i = j := by omega
    exact hj
  intro i
  cases h1 : bitAt b i with
  | true => rw [key b c lb h i h1]
  | false =>
    cases h2 : bitAt c i with
    | false => rfl
    | true => rw [key c b lc h.symm i h2] at h1; cases h1
theorem win_inj : ∀ (a b : List Win) (la lb : Int), OkW la a → OkW lb b → tysW a = tysW b → a = b
  | [], [], _, _, _, _, _ => rfl
  | [], q :: s, _, _, _, ⟨_, _, h3, h4, _⟩, h => by
    obtain ⟨x, r, e⟩ := bits_head (w := q.1) h4 h3
    rw [tysW, tysW, e] at h
    cases h
  | p :: r, [], _, _, ⟨_, _, h3, h4, _⟩, _, h => by
    obtain ⟨x, r, e⟩ := bits_head (w := p.1) h4 h3
    rw [tysW, tysW, e] at h
    cases h
  | p :: r, q :: s, la, lb, ⟨h1, h2, h3, h4, h5⟩, ⟨k1, k2, k3, k4, k5⟩, h => by
    rw [tysW, tysW] at h
    have hw : p.1 = q.1 := by
      obtain ⟨x, r', e⟩ := bits_head (w := p.1) h4 h3
      obtain ⟨y, s', f⟩ := bits_head (w := q.1) k4 k3
      have hx : x ∈ bitsL p.1 p.2 256 := by rw [e]; simp
      have hy : y ∈ bitsL q.1 q.2 256 := by rw [f]; simp
      rw [e, f] at h
      obtain rfl : x = y := by simp at h; exact h.1
      obtain ⟨i, hi, _, rfl⟩ := mem_bits.1 hx
      obtain ⟨j, hj, _, e'⟩ := mem_bits.1 hy
      omega
    obtain ⟨w, b⟩ := p
    obtain ⟨w', c⟩ := q
    simp only at hw h h3 h4 h5 k3 k4 k5
    subst hw
    obtain ⟨f1, f2⟩ := bits_filter (b := b) (last := la) h5
    obtain ⟨g1, g2⟩ := bits_filter (b := c) (last := la) k5
    rw [h] at f1 f2
    have hbc := bits_inj h4 k4 h3 k3 (f1.symm.trans g1)
    subst hbc
    rw [win_inj r s _ _ h5 k5 (f2.symm.trans g2)]

/-! ### one type more -/
def addT (ws : List Win) (k : Nat) : List Win := match ws.getLast? with
  | some p => if p.1 = k / 256 then ws.dropLast ++ [(p.1, setB p.2 (k % 256))] else ws ++ [(k / 256, setB [] (k % 256))]
  | none => [(k / 256, setB [] (k % 256))]
theorem okW_snoc : ∀ (ws : List Win) (last : Int) (p : Win), OkW last ws → (∀ q ∈ ws, q.1 < p.1) → last < (p.1 : Int) → p.1 ≤ 255 → p.2.length ≤ 32 → lastOk p.2 = true → OkW last (ws ++ [p])
  | [], last, p, _, _, h1, h2, h3, h4 => ⟨h1, h2, h3, h4, trivial⟩
  | q :: r, last, p, ⟨k1, k2, k3, k4, k5⟩, hq, h1, h2, h3, h4 => ⟨k1, k2, k3, k4, okW_snoc r q.1 p k5 (fun x hx => hq x (by simp [hx])) (by have := hq q (by simp); omega) h2 h3 h4⟩
theorem okW_parts : ∀ (ws : List Win) (last : Int) (p : Win), OkW last (ws ++ [p]) → OkW last ws ∧ (∀ q ∈ ws, q.1 < p.1) ∧ last < (p.1 : Int) ∧ p.1 ≤ 255 ∧ p.2.length ≤ 32 ∧ lastOk p.2 = true
  | [], last, p, ⟨h1, h2, h3, h4, _⟩ => ⟨trivial, by simp, h1, h2, h3, h4⟩
  | q :: r, last, p, ⟨k1, k2, k3, k4, k5⟩ => by
    obtain ⟨a1, a2, a3, a4, a5, a6⟩ := okW_parts r q.1 p k5
    refine ⟨⟨k1, k2, k3, k4, a1⟩, fun x hx => ?_, by omega, a4, a5, a6⟩
    rcases List.mem_cons.1 hx with rfl | hx
    · omega
    · exact a2 x hx
theorem setB_nil_len (k : Nat) (h : k < 256) : (setB [] k).length ≤ 32 := by rw [setB_len]; simp; omega
theorem new_ok (k : Nat) (hk : k ≤ 65535) : lastOk (setB [] (k % 256)) = true ∧ bitsL (k / 256) (setB [] (k % 256)) 256 = [k] := by
  refine ⟨setB_last [] _ (by simp), ?_⟩
  rw [setB_bits (k / 256) [] (k % 256) (by omega) (fun i hi => by rw [bit_far [] i (by simp)] at hi; cases hi)]
  have : bitsL (k / 256) [] 256 = [] := by
    unfold bitsL
    rw [filter_low _ 0 (fun i _ => bit_far [] i (by simp)) 256 (by omega)]
    rfl
  rw [this, List.nil_append, show k / 256 * 256 + k % 256 = k by omega]
theorem addT_ok (ws : List Win) (k : Nat) (hk : k ≤ 65535) (h : OkW (-1) ws) (hl : ∀ x ∈ tysW ws, x < k) : OkW (-1) (addT ws k) ∧ tysW (addT ws k) = tysW ws ++ [k] := by
  obtain ⟨n1, n2⟩ := new_ok k hk
  rcases List.eq_nil_or_concat ws with rfl | ⟨r, p, rfl⟩
  · refine ⟨⟨by simp only; omega, by simp only; omega, setB_nil_len _ (by omega), n1, trivial⟩, ?_⟩
    show bitsL (k / 256) (setB [] (k % 256)) 256 ++ [] = [k]
    rw [n2, List.append_nil]
  · rw [List.concat_eq_append] at h hl ⊢
    obtain ⟨a1, a2, a3, a4, a5, a6⟩ := okW_parts r _ p h
    have hbit : ∀ i, bitAt p.2 i = true → p.1 * 256 + i < k := fun i hi => by
      have hi2 : i < 256 := by
        apply Decidable.byContradiction
        intro hge
        rw [bit_far p.2 i (by omega)] at hi
        cases hi
      apply hl
      rw [tysW_app, List.mem_append]
      right
      rw [tysW, tysW, List.append_nil]
      exact mem_bits.2 ⟨i, hi2, hi, rfl⟩
    obtain ⟨i, hi, hb⟩ := last_bit a6
    have hik := hbit i hb
    unfold addT
    rw [List.getLast?_concat]
    simp only
    split
    · rename_i hw
      rw [List.dropLast_concat]
      have hkm : ∀ j, bitAt p.2 j = true → j < k % 256 := fun j hj => by have := hbit j hj; omega
      have hm := hkm i hb
      refine ⟨okW_snoc r _ _ a1 a2 a3 a4 (by simp only; rw [setB_len]; omega) (setB_last _ _ (by omega)), ?_⟩
      rw [tysW_app, tysW_app, List.append_assoc]
      congr 1
      simp only [tysW, List.append_nil]
      rw [setB_bits p.1 p.2 (k % 256) (by omega) hkm, show p.1 * 256 + k % 256 = k by omega]
    · rename_i hw
      refine ⟨okW_snoc _ _ _ h (fun q hq => ?_) (by simp only; omega) (by simp only; omega) (setB_nil_len _ (by omega)) n1, ?_⟩
      · simp only
        rcases List.mem_append.1 hq with hq | hq
        · have := a2 q hq
          omega
        · simp only [List.mem_singleton] at hq
          subst hq
          omega
      · rw [tysW_app (r ++ [p])]
        congr 1
        show bitsL (k / 256) (setB [] (k % 256)) 256 ++ [] = [k]
        rw [n2, List.append_nil]
/-- types that rise. -/
def Rise : Int → List Nat → Prop
  | _, [] => True
  | last, k :: r => last < (k : Int) ∧ k ≤ 65535 ∧ Rise k r
theorem addAll_ok : ∀ (l : List Nat) (ws : List Win) (last : Int), OkW (-1) ws → (∀ x ∈ tysW ws, (x : Int) ≤ last) → Rise last l → OkW (-1) (l.foldl addT ws) ∧ tysW (l.foldl addT ws) = tysW ws ++ l
  | [], ws, last, h, _, _ => ⟨h, by simp⟩
  | k :: r, ws, last, h, hl, ⟨h1, h2, h3⟩ => by
    obtain ⟨a1, a2⟩ := addT_ok ws k h2 h (fun x hx => by have := hl x hx; omega)
    obtain ⟨b1, b2⟩ := addAll_ok r (addT ws k) k a1 (fun x hx => by
      rw [a2, List.mem_append] at hx
      rcases hx with hx | hx
      · have := hl x hx; omega
      · simp only [List.mem_singleton] at hx; omega) h3
    exact ⟨b1, by rw [List.foldl_cons, b2, a2]; simp⟩
theorem rise_of : ∀ (l : List Nat) (last : Int), l.Pairwise (· < ·) → (∀ x ∈ l, last < (x : Int) ∧ x ≤ 65535) → Rise last l
  | [], _, _, _ => trivial
  | k :: r, last, hp, hm => by
    have hk := hm k (by simp)
    rw [List.pairwise_cons] at hp
    exact ⟨hk.1, hk.2, rise_of r k hp.2 (fun x hx => ⟨by have := hp.1 x hx; omega, (hm x (by simp [hx])).2⟩)⟩
theorem bits_pw (w : Nat) (b : List UInt8) (n : Nat) : (bitsL w b n).Pairwise (· < ·) := by
  unfold bitsL
  refine List.Pairwise.map _ (fun a b (h : a < b) => by omega) (List.Pairwise.filter _ List.pairwise_lt_range)
theorem ty_pw : ∀ (ws : List Win) (last : Int), OkW last ws → (tysW ws).Pairwise (· < ·)
  | [], _, _ => List.Pairwise.nil
  | p :: r, last, ⟨h1, h2, h3, h4, h5⟩ => by
    rw [tysW, List.pairwise_append]
    refine ⟨bits_pw _ _ _, ty_pw r _ h5, fun a ha b hb => ?_⟩
    obtain ⟨i, hi, _, rfl⟩ := mem_bits.1 ha
    have := (ty_mem h5 hb).1
    omega

/-- a list of types as bytes. -/
def encT (l : List Nat) : List UInt8 := encW (l.foldl addT [])
/-- types that were read rise, and are put down as they were. -/
theorem typesR_back {s : ByteArray} {l : List Nat} (h : typesR s = some l) : Rise (-1) l ∧ s = ⟨(encT l).toArray⟩ := by
  obtain ⟨ws, hok, hs, hl⟩ := ty_dec _ _ _ _ h
  have hr : Rise (-1) l := by
    rw [hl]
    exact rise_of _ _ (ty_pw ws _ hok) (fun x hx => ⟨by have := (ty_mem hok hx).1; omega, (ty_mem hok hx).2⟩)
  refine ⟨hr, ?_⟩
  obtain ⟨a1, a2⟩ := addAll_ok l [] (-1) trivial (by simp [tysW]) hr
  have := win_inj _ _ _ _ a1 hok (by rw [a2, ← hl]; rfl)
  rw [encT, this]
  exact hs
/-- types that rise are read as they are. -/
theorem typesR_enc {l : List Nat} (h : Rise (-1) l) : typesR ⟨(encT l).toArray⟩ = some l := by
  obtain ⟨a1, a2⟩ := addAll_ok l [] (-1) trivial (by simp [tysW]) h
  unfold typesR encT
  rw [ty_enc _ _ _ a1 (by rw [ba_size]; omega), a2]
  rfl
end Go.Proofs.YtdhcbaennpediaaGreatDoor

/- A string of TXT, how it is told. -/
namespace Go.Proofs.YtdhcbaennpediaaGreatDoor
set_option linter.unusedVariables false
open Go.RowKit

/-- how a string tells a byte. -/
def strL (b : UInt8) : List UInt8 := if b.toNat = 34 ∨ b.toNat = 92 then [92, b] else if 32 ≤ b.toNat ∧ b.toNat ≤ 126 then [b] else [92, UInt8.ofNat (48 + b.toNat / 100), UInt8.ofNat (48 + b.toNat / 10 % 10), UInt8.ofNat (48 + b.toNat % 10)]
theorem strL_len (b : UInt8) : (strL b).length ≤ 4 ∧ 1 ≤ (strL b).length := by
  unfold strL; split
  · simp
  · split <;> simp

/-- what an append of bytes owes: the longer row, and nothing else has turned. -/
def AppB (base : Nat) (W : World) (l m : List UInt8) (e : Ending) (w' : World) : Prop :=
  (∃ v', e = .returned v' ∧ w'.ownsRow base 5 1 v' (l ++ m).length (Lib.byteCells (l ++ m))) ∧ Below base W w'
theorem appB_of {base : Nat} {W w1 : World} {v v' : Value} {l m : List UInt8} {tmp : Obj} (hrow : W.ownsRow base 5 1 v l.length (Lib.byteCells l)) (hbase : base ≤ W.heap.size)
    (hown : w1.ownsRow base 5 1 v' (l.length + m.length) (Lib.byteCells l ++ Lib.byteCells m)) (hgrow : (W.alloc tmp).grownBy w1 v.ownBlock) : AppB base W l m (.returned v') w1 := by
  refine ⟨⟨v', rfl, ?_⟩, ((Below.refl base W).alloc hbase _).grown hgrow (by simp; omega) (own_base hrow)⟩
  rw [List.length_append, byteCells_snoc]; exact hown

set_option maxRecDepth 100000 in
set_option maxHeartbeats 1000000 in
theorem strTold_in (base : Nat) (W : World) (v : Value) (l : List UInt8) (b : UInt8) (hl : l.length ≤ 4000000) (hrow : W.ownsRow base 5 1 v l.length (Lib.byteCells l)) (hbase : base ≤ W.heap.size) :
    Calls Tryz.prog 174 #[v, .int .u8 (b.toNat : Int)] W fun e w' => AppB base W l (strL b) e w' := by
  obtain ⟨i0, hi, hz0, hz1, hz2⟩ := info_parts info5
  have hb8 := b.toNat_lt
  by_cases h1 : b.toNat = 34 ∨ b.toNat = 92
  · have ht : strL b = [92, b] := if_pos h1
    have hcs : Lib.byteCells [92, b] = [.int .u8 92, .int .u8 (b.toNat : Int)] := rfl
    have hfin : ∀ v' w1, w1.ownsRow base 5 1 v' (l.length + 2) (Lib.byteCells l ++ [.int .u8 92, .int .u8 (b.toNat : Int)]) → (W.alloc (.cells #[.int .u8 92, .int .u8 (b.toNat : Int)] 5)).grownBy w1 v.ownBlock → AppB base W l (strL b) (.returned v') w1 := by
      intro v' w1 h2 h3
      rw [ht]
      exact appB_of (m := [92, b]) hrow hbase (by rw [hcs]; exact h2) h3
    have HF := Hid.mk hfin
    have hrow' := row_alloc hrow (.cells #[.int .u8 92, .int .u8 (b.toNat : Int)] 5)
    have hnew : ∀ j u, ([.int .u8 92, .int .u8 (b.toNat : Int)] : List Value)[j]? = some u → (W.alloc (.cells #[.int .u8 92, .int .u8 (b.toNat : Int)] 5)).cell? ((⟨W.heap.size, 0, none⟩ : Addr).add j) = some u := fun j u h => cells_new1 W _ 5 j u h
    have HN := Hid.mk hnew
    clear hfin ht hcs hnew
    by_cases h34 : b.toNat = 34
    · have hb1 : ((b.toNat : Int) == 34) = true := by rw [h34]; rfl
      clear h1 h34
      go_enter Tryz.func174, Tryz.ntmps174
      go_wp2_with (at_builtin; refine wpList_append_own _ rfl _ _ 118 rfl base 5 i0 (.int .u8 0) 1 1 Tryz.underlying118 hi hz0 hz1 hz2 rfl (by decide) _ _ _ rfl hrow' ⟨W.heap.size, 0, none⟩ 2 2 _ rfl rfl HN.out (by simp [Value.oneCell']) (by unfold maxLen; omega) (by omega) (by simp; omega) ?_; intro v1 w1 hown1 hgrow1 _)
      go_ret
      exact HF.out _ _ hown1 hgrow1
    · have hb0 : ((b.toNat : Int) == 34) = false := by rw [beq_eq_false_iff_ne]; omega
      have hb1 : ((b.toNat : Int) == 92) = true := by rw [beq_iff_eq]; omega
      clear h1 h34
      go_enter Tryz.func174, Tryz.ntmps174
      go_wp2_with (at_builtin; refine wpList_append_own _ rfl _ _ 118 rfl base 5 i0 (.int .u8 0) 1 1 Tryz.underlying118 hi hz0 hz1 hz2 rfl (by decide) _ _ _ rfl hrow' ⟨W.heap.size, 0, none⟩ 2 2 _ rfl rfl HN.out (by simp [Value.oneCell']) (by unfold maxLen; omega) (by omega) (by simp; omega) ?_; intro v1 w1 hown1 hgrow1 _)
      go_ret
      exact HF.out _ _ hown1 hgrow1
  · have hb0 : ((b.toNat : Int) == 34) = false := by rw [beq_eq_false_iff_ne]; omega
    have hb1 : ((b.toNat : Int) == 92) = false := by rw [beq_eq_false_iff_ne]; omega
    by_cases h2 : 32 ≤ b.toNat ∧ b.toNat ≤ 126
    · have ht : strL b = [b] := by unfold strL; rw [if_neg h1, if_pos h2]
      have hp1 : (32 : Int) ≤ (b.toNat : Int) := by omega
      have hp2 : (b.toNat : Int) ≤ 126 := by omega
      have hcs : Lib.byteCells [b] = [.int .u8 (b.toNat : Int)] := rfl
      have hfin : ∀ v' w1, w1.ownsRow base 5 1 v' (l.length + 1) (Lib.byteCells l ++ [.int .u8 (b.toNat : Int)]) → (W.alloc (.cells #[.int .u8 (b.toNat : Int)] 5)).grownBy w1 v.ownBlock → AppB base W l (strL b) (.returned v') w1 := by
        intro v' w1 h2 h3
        rw [ht]
        exact appB_of (m := [b]) hrow hbase (by rw [hcs]; exact h2) h3
      have HF := Hid.mk hfin
      have hrow' := row_alloc hrow (.cells #[.int .u8 (b.toNat : Int)] 5)
      clear hfin ht hcs h1
      go_enter Tryz.func174, Tryz.ntmps174
      go_wp2_with ((at_builtin; refine wpList_append_own _ rfl _ _ 118 rfl base 5 i0 (.int .u8 0) 1 1 Tryz.underlying118 hi hz0 hz1 hz2 rfl (by decide) _ _ _ rfl hrow' ⟨W.heap.size, 0, none⟩ 1 1 _ rfl rfl (cell_one_new _ _ _) (by simp [Value.oneCell']) (by unfold maxLen; omega) (by omega) (by simp; omega) ?_; intro v1 w1 hown1 hgrow1 _))
      go_ret
      exact HF.out _ _ hown1 hgrow1
    · have ht : strL b = [92, UInt8.ofNat (48 + b.toNat / 100), UInt8.ofNat (48 + b.toNat / 10 % 10), UInt8.ofNat (48 + b.toNat % 10)] := by unfold strL; rw [if_neg h1, if_neg h2]
      have hcs : Lib.byteCells (strL b) = [.int .u8 92, .int .u8 (48 + (b.toNat : Int) / 100), .int .u8 (48 + (b.toNat : Int) / 10 % 10), .int .u8 (48 + (b.toNat : Int) % 10)] := by
        rw [ht]
        have e1 : (UInt8.ofNat (48 + b.toNat / 100)).toNat = 48 + b.toNat / 100 := by simp; omega
        have e2 : (UInt8.ofNat (48 + b.toNat / 10 % 10)).toNat = 48 + b.toNat / 10 % 10 := by simp; omega
        have e3 : (UInt8.ofNat (48 + b.toNat % 10)).toNat = 48 + b.toNat % 10 := by simp; omega
        have c1 : (((UInt8.ofNat (48 + b.toNat / 100)).toNat : Nat) : Int) = 48 + (b.toNat : Int) / 100 := by rw [e1]; omega
        have c2 : (((UInt8.ofNat (48 + b.toNat / 10 % 10)).toNat : Nat) : Int) = 48 + (b.toNat : Int) / 10 % 10 := by rw [e2]; omega
        have c3 : (((UInt8.ofNat (48 + b.toNat % 10)).toNat : Nat) : Int) = 48 + (b.toNat : Int) % 10 := by rw [e3]; omega
        show [Value.int .u8 ((92 : UInt8).toNat : Int), Value.int .u8 ((UInt8.ofNat (48 + b.toNat / 100)).toNat : Int), Value.int .u8 ((UInt8.ofNat (48 + b.toNat / 10 % 10)).toNat : Int), Value.int .u8 ((UInt8.ofNat (48 + b.toNat % 10)).toNat : Int)] = _
        rw [c1, c2, c3]; rfl
      have hln : (strL b).length = 4 := by rw [ht]; rfl
      generalize hx1 : 48 + (b.toNat : Int) / 100 = x1 at hcs
      generalize hx2 : 48 + (b.toNat : Int) / 10 % 10 = x2 at hcs
      generalize hx3 : 48 + (b.toNat : Int) % 10 = x3 at hcs
      have hfin : ∀ v' w1, w1.ownsRow base 5 1 v' (l.length + 4) (Lib.byteCells l ++ [.int .u8 92, .int .u8 x1, .int .u8 x2, .int .u8 x3]) → (W.alloc (.cells #[.int .u8 92, .int .u8 x1, .int .u8 x2, .int .u8 x3] 5)).grownBy w1 v.ownBlock → AppB base W l (strL b) (.returned v') w1 := by
        intro v' w1 h2 h3
        exact appB_of (m := strL b) hrow hbase (by rw [hcs, hln]; exact h2) h3
      have HF := Hid.mk hfin
      have hrow' := row_alloc hrow (.cells #[.int .u8 92, .int .u8 x1, .int .u8 x2, .int .u8 x3] 5)
      have HN := Hid.mk (fun j u h => cells_new1 W #[.int .u8 92, .int .u8 x1, .int .u8 x2, .int .u8 x3] 5 j u h)
      have hnp : b.toNat < 32 ∨ (32 ≤ b.toNat ∧ 126 < b.toNat) := by omega
      clear hfin ht hcs hln h1 h2
      rcases hnp with hq | ⟨hq1, hq2⟩
      · have hp1 : ¬ (32 : Int) ≤ (b.toNat : Int) := by omega
        clear hq
        go_enter Tryz.func174, Tryz.ntmps174
        go_wp2_with (at_builtin; refine wpList_append_own _ rfl _ _ 118 rfl base 5 i0 (.int .u8 0) 1 1 Tryz.underlying118 hi hz0 hz1 hz2 rfl (by decide) _ _ _ rfl hrow' ⟨W.heap.size, 0, none⟩ 4 4 _ rfl rfl HN.out (by simp [Value.oneCell']) (by unfold maxLen; omega) (by omega) (by simp; omega) ?_; intro v1 w1 hown1 hgrow1 _)
        go_ret
        exact HF.out _ _ hown1 hgrow1
      · have hp1 : (32 : Int) ≤ (b.toNat : Int) := by omega
        have hp2 : ¬ (b.toNat : Int) ≤ 126 := by omega
        clear hq1 hq2
        go_enter Tryz.func174, Tryz.ntmps174
        go_wp2_with (at_builtin; refine wpList_append_own _ rfl _ _ 118 rfl base 5 i0 (.int .u8 0) 1 1 Tryz.underlying118 hi hz0 hz1 hz2 rfl (by decide) _ _ _ rfl hrow' ⟨W.heap.size, 0, none⟩ 4 4 _ rfl rfl HN.out (by simp [Value.oneCell']) (by unfold maxLen; omega) (by omega) (by simp; omega) ?_; intro v1 w1 hown1 hgrow1 _)
        go_ret
        exact HF.out _ _ hown1 hgrow1
end Go.Proofs.YtdhcbaennpediaaGreatDoor

/- Strings of TXT, how they are told. -/
namespace Go.Proofs.YtdhcbaennpediaaGreatDoor
set_option linter.unusedVariables false
open Go.RowKit

def strLs (l : List UInt8) : List UInt8 := l.flatMap strL
theorem strLs_snoc (l : List UInt8) (b : UInt8) : strLs (l ++ [b]) = strLs l ++ strL b := by simp [strLs]
theorem strLs_len (l : List UInt8) : (strLs l).length ≤ 4 * l.length := by
  induction l with
  | nil => simp [strLs]
  | cons b l ih =>
    have := (strL_len b).1
    simp only [strLs, List.flatMap_cons, List.length_append, List.length_cons] at *
    omega
/-- a string between its signs. -/
def strT (l : List UInt8) : List UInt8 := 34 :: strLs l ++ [34]

theorem row_one (W : World) (v : Value) : (W.alloc (.cells #[v] 5)).ownsRow W.heap.size 5 1 (.slice (some ⟨W.heap.size, 0, none⟩) 1 1) 1 [v] :=
  ⟨rfl, .inr ⟨W.heap.size, 1, #[v], rfl, Nat.le_refl _, heap_new _ _, Nat.le_refl _, by unfold maxLen; omega, rfl, rfl⟩⟩

theorem row_back {w : World} {base : Nat} {v : Value} {n : Nat} {l : List UInt8} {xs : List Value} (h : w.ownsRow base 5 1 v n xs) (hn : n = l.length) (hx : xs = Lib.byteCells l) : (convert 118 9 v).run Tryz.prog w = .ok (.string ⟨l.toArray⟩) w := by
  subst hn
  subst hx
  rcases h.2 with ⟨rfl, h0⟩ | ⟨g', cap', cur, rfl, _, hg, _, _, _, ht⟩
  · obtain rfl : l = [] := List.length_eq_zero_iff.1 h0
    kernel_rfl
  · exact run_convert_bytes_back (P := Tryz.prog) w 118 9 5 ⟨g', 0, none⟩ cap' l Tryz.underlying118 Tryz.underlying5 Tryz.underlying9 (fun j hj => Lib.cells_of_row (w := w) hg l.length j _ (by rw [Nat.mul_one] at ht; rw [ht]; simp [Lib.byteCells, hj]))

set_option maxRecDepth 100000 in
set_option maxHeartbeats 1000000 in
theorem tellString_in (s : ByteArray) (hs : s.size ≤ 255) (w : World) :
    Calls Tryz.prog 155 #[.string s] w fun e w' => e = .returned (.string ⟨(strT s.data.toList).toArray⟩) ∧ Below w.heap.size w w' := by
  obtain ⟨i0, hi, hz0, hz1, hz2⟩ := info_parts info5
  go_enter Tryz.func155, Tryz.ntmps155
  go_wp2
  go_loopw [3, 8] (fun v i wr => ∃ k : Nat, k ≤ s.size ∧ i = .int .i64 k ∧ wr.ownsRow w.heap.size 5 1 v (34 :: strLs (s.data.toList.take k)).length (Lib.byteCells (34 :: strLs (s.data.toList.take k))) ∧ w.heap.size ≤ wr.heap.size ∧ Below w.heap.size w wr) (fun _ i _ => s.size - (intOf i).toNat)
  case atStart => exact ⟨0, Nat.zero_le _, rfl, row_one w _, by simp, (Below.refl _ _).alloc (Nat.le_refl _) _⟩
  case round =>
    obtain ⟨k, hk, rfl, hrow, hsz, hbl⟩ := hrel
    have hL := strLs_len (s.data.toList.take k)
    rw [List.length_take, size_list] at hL
    by_cases hlt : k < s.size
    · have hnx : 34 :: strLs (s.data.toList.take (k + 1)) = (34 :: strLs (s.data.toList.take k)) ++ strL s[k] := by
        rw [List.take_succ_eq_append_getElem (by rw [size_list]; exact hlt), strLs_snoc]; rfl
      have HNX := Hid.mk hnx
      have hTl : (34 :: strLs (s.data.toList.take k)).length ≤ 2000 := by simp; omega
      clear hnx hL
      generalize (34 :: strLs (s.data.toList.take k)) = T at hrow HNX hTl
      obtain ⟨q, cap, rfl⟩ := row_slice' hrow
      have HA := Hid.mk (strTold_in w.heap.size wr _ T s[k] (by omega) hrow hsz)
      go_wp2_with fail
      refine HA.out.mono ?_
      rintro e w1 ⟨⟨v1, rfl, hown1⟩, hb1⟩
      have hrelN : ∃ j : Nat, j ≤ s.size ∧ Value.int .i64 ((k : Int) + 1) = .int .i64 j ∧ w1.ownsRow w.heap.size 5 1 v1 (34 :: strLs (s.data.toList.take j)).length (Lib.byteCells (34 :: strLs (s.data.toList.take j))) ∧ w.heap.size ≤ w1.heap.size ∧ Below w.heap.size w w1 :=
        ⟨k + 1, by omega, by go_num, by rw [HNX.out]; exact hown1, Nat.le_trans hsz hb1.size, hbl.trans hb1⟩
      go_wp2
      exact ⟨hrelN, by simp [intOf]; omega⟩
    · have hall : s.data.toList.take k = s.data.toList := List.take_of_length_le (by rw [size_list]; omega)
      rw [hall] at hrow hL
      have hTl : (34 :: strLs s.data.toList).length ≤ 2000 := by simp; omega
      have HT : Hid (strT s.data.toList = (34 :: strLs s.data.toList) ++ [34]) := rfl
      clear hall hL
      generalize (34 :: strLs s.data.toList) = T at hrow hTl HT
      obtain ⟨q, cap, rfl⟩ := row_slice' hrow
      go_wp2_with (at_builtin; refine wpList_append_own _ rfl _ _ 118 rfl w.heap.size 5 i0 (.int .u8 0) 1 1 Tryz.underlying118 hi hz0 hz1 hz2 rfl (by decide) _ _ _ rfl (hrow.alloc _) ⟨wr.heap.size, 0, none⟩ 1 1 [.int .u8 34] rfl rfl (cell_one_new _ _ _) (by simp [Value.oneCell']) (by unfold maxLen; omega) (by omega) (by simp; omega) ?_; intro v1 w1 hown1 hgrow1 _; have hcv := row_back (l := T ++ [34]) hown1 (by simp) (by rw [byteCells_snoc]; rfl))
      have hb1 : Below w.heap.size wr w1 := ((Below.refl _ _).alloc hsz _).grown hgrow1 (by simp; omega) (own_base hrow)
      go_ret
      exact ⟨by rw [HT.out]; rfl, hbl.trans hb1⟩
end Go.Proofs.YtdhcbaennpediaaGreatDoor
