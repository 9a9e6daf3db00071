/- The forms of types, on bytes alone: data fall into pieces just if they are right pieces, put one behind the other. -/
import Derived.Test.YtkohkkakbcjgcabGreatDoorDForm
namespace Go.Proofs.YtkohkkakbcjgcabGreatDoor
set_option linter.unusedVariables false
open Go.RowKit

theorem ba_of (x : ByteArray) : (⟨x.data.toList.toArray⟩ : ByteArray) = x := by apply ba_ext; rfl
theorem app_list (x y : ByteArray) : (x ++ y).data.toList = x.data.toList ++ y.data.toList := by rw [ByteArray.data_append, Array.toList_append]
theorem app_size (x y : ByteArray) : (x ++ y).size = x.size + y.size := by rw [← size_list, app_list, List.length_append, size_list, size_list]
theorem app_first (x y : ByteArray) : (x ++ y).extract 0 x.size = x := by
  apply ba_ext
  rw [Lib.extract_data, app_list, List.drop_zero, Nat.sub_zero, ← size_list, List.take_left']
  rfl
theorem app_rest (x y : ByteArray) : (x ++ y).extract x.size (x ++ y).size = y := by
  apply ba_ext
  rw [Lib.extract_data, app_list, app_size, ← size_list x, List.drop_left' rfl]
  exact List.take_of_length_le (by rw [size_list, size_list]; omega)
theorem app_empty (x : ByteArray) : x ++ (⟨#[]⟩ : ByteArray) = x := by
  apply ba_ext
  rw [app_list]; simp
theorem empty_app (x : ByteArray) : (⟨#[]⟩ : ByteArray) ++ x = x := by
  apply ba_ext
  rw [app_list]; simp
theorem split_at (s : ByteArray) (m : Nat) (hm : m ≤ s.size) : s = s.extract 0 m ++ s.extract m s.size := by
  apply ba_ext
  rw [app_list, Lib.extract_data, Lib.extract_data, List.drop_zero, Nat.sub_zero]
  rw [show (s.data.toList.drop m).take (s.size - m) = s.data.toList.drop m from List.take_of_length_le (by rw [List.length_drop, size_list]; exact Nat.le_refl _)]
  exact (List.take_append_drop m _).symm
theorem cut_all (s : ByteArray) : s.extract 0 s.size = s := by simp

/-- pieces, one behind the other. -/
def cat : List ByteArray → ByteArray
  | [] => ⟨#[]⟩
  | x :: xs => x ++ cat xs
theorem cat_list : ∀ xs : List ByteArray, (cat xs).data.toList = xs.flatMap (·.data.toList)
  | [] => rfl
  | x :: xs => by rw [cat, app_list, cat_list xs, List.flatMap_cons]
theorem cat_one (x : ByteArray) : cat [x] = x := app_empty x
theorem join_nil : ∀ l : List (List UInt8), Lib.join l [] = l.flatten
  | [] => rfl
  | [x] => by rw [Lib.join_one]; simp
  | x :: y :: r => by
    have ih := join_nil (y :: r)
    simp only [Lib.join, List.intercalate] at ih ⊢
    rw [List.intersperse_cons_cons, List.flatten_cons, List.flatten_cons, ih]
    simp
theorem cat_join (xs : List ByteArray) : (⟨(Lib.join (xs.map (·.data.toList)) []).toArray⟩ : ByteArray) = cat xs := by
  apply ba_ext
  rw [cat_list, ba_toList, join_nil, List.flatMap_def]

/-! ### bytes behind their number -/
theorem cnt_nil : cntK ⟨#[]⟩ = none := rfl
theorem cnt_cons (b : UInt8) (r : List UInt8) : cntK ⟨(b :: r).toArray⟩ = if b.toNat ≤ r.length then some (1 + b.toNat) else none := by
  have h0 : 0 < (⟨(b :: r).toArray⟩ : ByteArray).size := by rw [ba_size]; simp
  have hb : (⟨(b :: r).toArray⟩ : ByteArray)[0] = b := by rw [← getElem_list _ _ h0]; rfl
  unfold cntK
  rw [dif_pos h0, hb, ba_size, List.length_cons]
  by_cases h : b.toNat ≤ r.length
  · rw [if_pos h, if_pos (by omega)]
  · rw [if_neg h, if_neg (by omega)]
theorem cnt_le {s : ByteArray} {m : Nat} (h : cntK s = some m) : 1 ≤ m ∧ m ≤ s.size ∧ m ≤ 256 := by
  unfold cntK at h
  split at h
  · rename_i h0
    have hu := s[0].toNat_lt
    split at h
    · cases h; omega
    · cases h
  · cases h
theorem list_cases (s : ByteArray) : s = ⟨#[]⟩ ∨ ∃ b r, s = ⟨(b :: r).toArray⟩ := by
  cases hl : s.data.toList with
  | nil => exact .inl (ba_ext hl)
  | cons b r => exact .inr ⟨b, r, ba_ext hl⟩
theorem cnt_pos {s : ByteArray} {m : Nat} (h : cntK s = some m) : ∃ b r, s = ⟨(b :: r).toArray⟩ ∧ b.toNat ≤ r.length ∧ m = 1 + b.toNat := by
  rcases list_cases s with rfl | ⟨b, r, rfl⟩
  · cases h
  · rw [cnt_cons] at h
    split at h
    · rename_i hb
      cases h
      exact ⟨b, r, rfl, hb, rfl⟩
    · cases h
theorem mk_app (a b : List UInt8) : (⟨a.toArray⟩ : ByteArray) ++ (⟨b.toArray⟩ : ByteArray) = ⟨(a ++ b).toArray⟩ := by apply ba_ext; rw [app_list]
theorem cnt_app {x : ByteArray} (h : cntK x = some x.size) (t : ByteArray) : cntK (x ++ t) = some x.size := by
  obtain ⟨b, r, rfl, hb, hm⟩ := cnt_pos h
  rw [← ba_of t, mk_app, List.cons_append, cnt_cons, if_pos (by simp; omega), hm]
theorem cnt_cut {s : ByteArray} {m : Nat} (h : cntK s = some m) : cntK (s.extract 0 m) = some (s.extract 0 m).size := by
  obtain ⟨b, r, rfl, hb, rfl⟩ := cnt_pos h
  have hx : (⟨(b :: r).toArray⟩ : ByteArray).extract 0 (1 + b.toNat) = ⟨(b :: r.take b.toNat).toArray⟩ := by
    apply ba_ext
    rw [Lib.extract_data, List.drop_zero, Nat.sub_zero, Nat.add_comm, ba_toList, ba_toList, List.take_succ_cons]
  rw [hx, cnt_cons, ba_size, List.length_cons, List.length_take, Nat.min_eq_left hb, if_pos (Nat.le_refl _), Nat.add_comm]

/-! ### names -/
theorem nmGo_le : ∀ (n : Nat) (s : ByteArray) (m : Nat), nmGo n s = some m → 1 ≤ m ∧ m ≤ s.size
  | 0, s, m, h => by cases h
  | n + 1, s, m, h => by
    rw [nmGo] at h
    cases hc : cntK s with
    | none => rw [hc] at h; cases h
    | some j =>
      rw [hc] at h
      have hj := cnt_le hc
      simp only at h
      split at h
      · cases h; omega
      · rw [Option.map_eq_some_iff] at h
        obtain ⟨q, hq, rfl⟩ := h
        have := nmGo_le n _ q hq
        rw [ByteArray.size_extract] at this
        omega
theorem drop_cons (b : UInt8) (l t : List UInt8) (n : Nat) (h : n = l.length) : (⟨(b :: (l ++ t)).toArray⟩ : ByteArray).extract (1 + n) (⟨(b :: (l ++ t)).toArray⟩ : ByteArray).size = ⟨t.toArray⟩ := by
  subst h
  apply ba_ext
  rw [Lib.extract_data, ba_toList, ba_size, Nat.add_comm, List.drop_succ_cons, List.drop_left' rfl, ba_toList]
  exact List.take_of_length_le (by simp)
theorem nmGo_flat : ∀ (ls : List (List UInt8)) (t : List UInt8) (n : Nat), (∀ l ∈ ls, 1 ≤ l.length ∧ l.length ≤ 63) → ls.length < n → nmGo n ⟨(flat ls ++ 0 :: t).toArray⟩ = some ((flat ls).length + 1)
  | [], t, 0, _, h => by simp at h
  | [], t, n + 1, _, _ => by
    rw [nmGo, show flat [] ++ 0 :: t = 0 :: t from rfl, cnt_cons, if_pos (by simp)]
    rfl
  | l :: ls, t, 0, _, h => by simp at h
  | l :: ls, t, n + 1, hl, h => by
    have hl1 := hl l (by simp)
    have hu : (UInt8.ofNat l.length).toNat = l.length := by rw [UInt8.toNat_ofNat']; omega
    have ih := nmGo_flat ls t n (fun x hx => hl x (by simp [hx])) (by simp at h; omega)
    have e : flat (l :: ls) ++ 0 :: t = UInt8.ofNat l.length :: (l ++ (flat ls ++ 0 :: t)) := by simp [flat]
    rw [nmGo, e, cnt_cons, hu, if_pos (by simp)]
    simp only
    rw [if_neg (by omega), drop_cons _ l (flat ls ++ 0 :: t) l.length rfl, ih]
    simp [flat]; omega
theorem flat_long : ∀ (ls : List (List UInt8)), ls.length ≤ (flat ls).length
  | [] => by simp
  | l :: ls => by have := flat_long ls; simp [flat]; omega
theorem name_app {x : ByteArray} (h : IsName x) (t : ByteArray) : nameK (x ++ t) = some x.size := by
  have h' := h
  obtain ⟨ls, ho, rfl⟩ := h
  have e : nm ls ++ t = ⟨(flat ls ++ 0 :: t.data.toList).toArray⟩ := by
    apply ba_ext
    rw [app_list, nm_list, nmL]; simp
  have hg := nmGo_flat ls t.data.toList ((nm ls ++ t).size + 1) ho.lab (by have := flat_long ls; rw [app_size, nm_size]; omega)
  rw [← e] at hg
  unfold nameK
  rw [hg, ← nm_size]
  simp only
  rw [if_pos (by rw [app_first]; exact h')]
theorem nameK_ok {s : ByteArray} {m : Nat} (h : nameK s = some m) : m ≤ s.size ∧ IsName (s.extract 0 m) := by
  unfold nameK at h
  cases hg : nmGo (s.size + 1) s with
  | none => rw [hg] at h; cases h
  | some j =>
    rw [hg] at h
    simp only at h
    split at h
    · cases h
      exact ⟨(nmGo_le _ _ _ hg).2, by assumption⟩
    · cases h

/-! ### pieces -/
def Good : PK → ByteArray → Prop
  | .num n, x => x.size = n
  | .grp c w _ _, x => x.size = c * w
  | .name, x => IsName x
  | .type, x => x.size = 2
  | .hex, x => 0 < x.size
  | .salt, x => cntK x = some x.size
  | .hash, x => cntK x = some x.size ∧ 1 < x.size
  | .types, x => (typesR x).isSome = true
  | .any, x => True
  | .strs, x => txtPf 0 x = some x.size
/-- a part that ends by itself. -/
def delim : PK → Bool
  | .hex | .types | .any | .strs => false
  | _ => true

theorem take_ok {n m : Nat} {s : ByteArray} (h : takeK n s = some m) : m ≤ s.size ∧ (s.extract 0 m).size = n := by
  unfold takeK at h
  split at h
  · cases h
    rw [ByteArray.size_extract]
    omega
  · cases h
theorem take_app {n : Nat} {x : ByteArray} (h : x.size = n) (t : ByteArray) : takeK n (x ++ t) = some x.size := by
  unfold takeK
  rw [if_pos (by rw [app_size]; omega), h]

theorem pass_good (p : PK) (s : ByteArray) (m : Nat) (h : passK p s = some m) : m ≤ s.size ∧ Good p (s.extract 0 m) := by
  cases p with
  | num n => exact take_ok h
  | grp c w b sep => exact take_ok h
  | name => exact nameK_ok h
  | type => exact take_ok h
  | hex =>
    simp only [passK] at h
    split at h
    · cases h
      rw [cut_all]
      exact ⟨Nat.le_refl _, by assumption⟩
    · cases h
  | salt => exact ⟨(cnt_le h).2.1, cnt_cut h⟩
  | hash =>
    simp only [passK, hashK] at h
    cases hc : cntK s with
    | none => rw [hc] at h; cases h
    | some j =>
      rw [hc] at h
      simp only at h
      split at h
      · cases h
        have := cnt_le hc
        refine ⟨this.2.1, cnt_cut hc, ?_⟩
        rw [ByteArray.size_extract]
        omega
      · cases h
  | types =>
    simp only [passK] at h
    split at h
    · cases h
      rw [cut_all]
      exact ⟨Nat.le_refl _, by assumption⟩
    · cases h
  | any =>
    cases h
    exact ⟨Nat.le_refl _, trivial⟩
  | strs =>
    have h' : txtPf 0 s = some m := h
    have hm : m = s.size := by
      unfold txtPf at h'
      split at h'
      · cases h'; rfl
      · cases h'
    subst hm
    rw [cut_all]
    exact ⟨Nat.le_refl _, h'⟩
theorem good_app (p : PK) (hp : delim p = true) (x : ByteArray) (h : Good p x) (t : ByteArray) : passK p (x ++ t) = some x.size := by
  cases p with
  | num n => exact take_app h t
  | grp c w b sep => exact take_app h t
  | name => exact name_app h t
  | type => exact take_app h t
  | salt => exact cnt_app h t
  | hash =>
    simp only [passK, hashK]
    rw [cnt_app h.1 t]
    simp only
    rw [if_pos h.2]
  | hex => cases hp
  | types => cases hp
  | any => cases hp
  | strs => cases hp
theorem good_self (p : PK) (x : ByteArray) (h : Good p x) : passK p x = some x.size := by
  cases hp : delim p with
  | true =>
    have := good_app p hp x h ⟨#[]⟩
    rwa [app_empty] at this
  | false =>
    cases p with
    | hex => exact if_pos h
    | types => exact if_pos h
    | any => rfl
    | strs => exact h
    | num n => cases hp
    | grp c w b sep => cases hp
    | name => cases hp
    | type => cases hp
    | salt => cases hp
    | hash => cases hp

def AllGood : List PK → List ByteArray → Prop
  | [], [] => True
  | p :: ps, x :: xs => Good p x ∧ AllGood ps xs
  | _, _ => False
theorem AllGood.len : ∀ {F : List PK} {xs : List ByteArray}, AllGood F xs → xs.length = F.length
  | [], [], _ => rfl
  | p :: F, x :: xs, h => by have := AllGood.len h.2; simp [this]
  | [], _ :: _, h => h.elim
  | _ :: _, [], h => h.elim

noncomputable def cutF : List PK → ByteArray → Option (List ByteArray × ByteArray)
  | [], s => some ([], s)
  | p :: F, s => match passK p s with
    | none => none
    | some m => (cutF F (s.extract m s.size)).map fun r => (s.extract 0 m :: r.1, r.2)
theorem cutF_sound : ∀ (F : List PK) (s : ByteArray) (r : List ByteArray × ByteArray), cutF F s = some r → s = cat r.1 ++ r.2 ∧ AllGood F r.1
  | [], s, r, h => by cases h; exact ⟨(empty_app s).symm, trivial⟩
  | p :: F, s, r, h => by
    rw [cutF] at h
    cases hp : passK p s with
    | none => rw [hp] at h; cases h
    | some m =>
      rw [hp] at h
      simp only [Option.map_eq_some_iff] at h
      obtain ⟨q, hq, rfl⟩ := h
      obtain ⟨h1, h2⟩ := cutF_sound F _ q hq
      obtain ⟨hm, hg⟩ := pass_good p s m hp
      refine ⟨?_, hg, h2⟩
      conv => lhs; rw [split_at s m hm, h1]
      show s.extract 0 m ++ (cat q.1 ++ q.2) = (s.extract 0 m ++ cat q.1) ++ q.2
      rw [ByteArray.append_assoc]
/-- all but the last part end by themselves. -/
def delims : List PK → Bool
  | [] => true
  | [_] => true
  | p :: F => delim p && delims F
theorem cutF_cat : ∀ (F : List PK) (xs : List ByteArray), delims F = true → AllGood F xs → cutF F (cat xs) = some (xs, ⟨#[]⟩)
  | [], [], _, _ => rfl
  | [], _ :: _, _, h => h.elim
  | _ :: _, [], _, h => h.elim
  | [p], x :: xs, _, h => by
    obtain ⟨h1, h2⟩ := h
    cases xs with
    | cons y ys => exact h2.elim
    | nil =>
      rw [cat_one, cutF, good_self p x h1]
      simp only [cutF, Option.map_some]
      rw [cut_all, end_cut]
  | p :: q :: F, x :: xs, hd, h => by
    obtain ⟨h1, h2⟩ := h
    rw [show delims (p :: q :: F) = (delim p && delims (q :: F)) from rfl, Bool.and_eq_true] at hd
    rw [cutF, cat, good_app p hd.1 x h1]
    simp only
    rw [app_first, app_rest, cutF_cat (q :: F) xs hd.2 h2]
    rfl

theorem cutP_eq : ∀ (F : List PK) (pf : Nat → ByteArray → Option Nat) (k : Nat) (s : ByteArray), (∀ j p, F[j]? = some p → pf (k + j) = passK p) → cutP pf F.length k s = cutF F s
  | [], pf, k, s, _ => rfl
  | p :: F, pf, k, s, h => by
    have h0 : pf k = passK p := h 0 p rfl
    rw [List.length_cons, cutP, cutF, h0]
    cases passK p s with
    | none => rfl
    | some m =>
      simp only
      rw [cutP_eq F pf (k + 1) _ (fun j q hj => by rw [show k + 1 + j = k + (j + 1) by omega]; exact h (j + 1) q hj)]

noncomputable def pfK (F : List PK) : Nat → ByteArray → Option Nat := fun j s => match F[j]? with
  | some p => passK p s
  | none => none
theorem form_delims (k : Int) : delims (formOf k) = true := by
  unfold formOf
  repeat' split
  all_goals rfl
theorem form_len (k : Int) : (formOf k).length ≤ 20 ∧ 1 ≤ (formOf k).length := by
  unfold formOf
  repeat' split
  all_goals simp

/-- data in pieces. -/
noncomputable def splitR (k : Int) (s : ByteArray) : Option (List ByteArray) := if (0 ≤ k ∧ k ≤ 65535) ∧ s.size ≤ 2000 then fin (pfK (formOf k)) (formOf k).length s else none
theorem fin_eq (F : List PK) (s : ByteArray) : fin (pfK F) F.length s = match cutF F s with
    | none => none
    | some r => if r.2.size = 0 then some r.1 else none := by
  unfold fin
  rw [cutP_eq F (pfK F) 0 s (fun j p hj => by funext x; rw [Nat.zero_add, pfK, hj])]
  cases cutF F s <;> rfl
theorem split_iff (k : Int) (s : ByteArray) (xs : List ByteArray) : splitR k s = some xs ↔ (0 ≤ k ∧ k ≤ 65535) ∧ s.size ≤ 2000 ∧ s = cat xs ∧ AllGood (formOf k) xs := by
  unfold splitR
  constructor
  · intro h
    split at h
    · rename_i hk
      rw [fin_eq] at h
      cases hc : cutF (formOf k) s with
      | none => rw [hc] at h; cases h
      | some r =>
        rw [hc] at h
        simp only at h
        split at h
        · rename_i h0
          cases h
          obtain ⟨h1, h2⟩ := cutF_sound _ _ _ hc
          refine ⟨hk.1, hk.2, ?_, h2⟩
          rw [ba_empty _ h0, app_empty] at h1
          exact h1
        · cases h
    · cases h
  · rintro ⟨hk, hs, rfl, hg⟩
    rw [if_pos ⟨hk, hs⟩, fin_eq, cutF_cat _ _ (form_delims k) hg]
    rfl
theorem split_none (k : Int) (s : ByteArray) (h : ¬ ((0 ≤ k ∧ k ≤ 65535) ∧ s.size ≤ 2000)) : splitR k s = none := if_neg h
end Go.Proofs.YtkohkkakbcjgcabGreatDoor
