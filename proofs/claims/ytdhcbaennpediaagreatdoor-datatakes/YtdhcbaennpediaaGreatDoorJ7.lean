/- Texts of this proof, joined: DFacts, DNmRel, DTyOf, DRefF, Shared, Under. -/
import Derived.Test.YtdhcbaennpediaaGreatDoorJ6
import Derived.Test.YtdhcbaennpediaaGreatDoorJ5
import Derived.Deep.QuietTactic
import Derived.BigQuiet
import Derived.Test.YtdhcbaennpediaaGreatDoorJ2
/- The forms of types, on bytes alone: data fall into pieces just if they are right pieces, put one behind the other. -/
namespace Go.Proofs.YtdhcbaennpediaaGreatDoor
set_option linter.unusedVariables false
open Go.RowKit

theorem ba_of (x : ByteArray) : (⟨x.data.toList.toArray⟩ : ByteArray) = x := by apply ba_ext; rfl
theorem app_list (x y : ByteArray) : (x ++ y).data.toList = x.data.toList ++ y.data.toList := by rw [ByteArray.data_append, Array.toList_append]
theorem app_size (x y : ByteArray) : (x ++ y).size = x.size + y.size := by rw [← size_list, app_list, List.length_append, size_list, size_list]
theorem app_first (x y : ByteArray) : (x ++ y).extract 0 x.size = x := by
  apply ba_ext
  rw [Lib.extract_data, app_list, List.drop_zero, Nat.sub_zero, ← size_list, List.take_left']
  rfl
theorem app_rest (x y : ByteArray) : (x ++ y).extract x.size (x ++ y).size = y := by
  apply ba_ext
  rw [Lib.extract_data, app_list, app_size, ← size_list x, List.drop_left' rfl]
  exact List.take_of_length_le (by rw [size_list, size_list]; omega)
theorem app_empty (x : ByteArray) : x ++ (⟨#[]⟩ : ByteArray) = x := by
  apply ba_ext
  rw [app_list]; simp
theorem empty_app (x : ByteArray) : (⟨#[]⟩ : ByteArray) ++ x = x := by
  apply ba_ext
  rw [app_list]; simp
theorem split_at (s : ByteArray) (m : Nat) (hm : m ≤ s.size) : s = s.extract 0 m ++ s.extract m s.size := by
  apply ba_ext
  rw [app_list, Lib.extract_data, Lib.extract_data, List.drop_zero, Nat.sub_zero]
  rw [show (s.data.toList.drop m).take (s.size - m) = s.data.toList.drop m from List.take_of_length_le (by rw [List.length_drop, size_list]; exact Nat.le_refl _)]
  exact (List.take_append_drop m _).symm
theorem cut_all (s : ByteArray) : s.extract 0 s.size = s := by simp

/-- pieces, one behind the other. -/
def cat : List ByteArray → ByteArray
  | [] => ⟨#[]⟩
  | x :: xs => x ++ cat xs
theorem cat_list : ∀ xs : List ByteArray, (cat xs).data.toList = xs.flatMap (·.data.toList)
  | [] => rfl
  | x :: xs => by rw [cat, app_list, cat_list xs, List.flatMap_cons]
theorem cat_one (x : ByteArray) : cat [x] = x := app_empty x
theorem join_nil : ∀ l : List (List UInt8), Lib.join l [] = l.flatten
  | [] => rfl
  | [x] => by rw [Lib.join_one]; simp
  | x :: y :: r => by
    have ih := join_nil (y :: r)
    simp only [Lib.join, List.intercalate] at ih ⊢
    rw [List.intersperse_cons_cons, List.flatten_cons, List.flatten_cons, ih]
    simp
theorem cat_join (xs : List ByteArray) : (⟨(Lib.join (xs.map (·.data.toList)) []).toArray⟩ : ByteArray) = cat xs := by
  apply ba_ext
  rw [cat_list, ba_toList, join_nil, List.flatMap_def]

/-! ### bytes behind their number -/
theorem cnt_nil : cntK ⟨#[]⟩ = none := rfl
theorem cnt_cons (b : UInt8) (r : List UInt8) : cntK ⟨(b :: r).toArray⟩ = if b.toNat ≤ r.length then some (1 + b.toNat) else none := by
  have h0 : 0 < (⟨(b :: r).toArray⟩ : ByteArray).size := by rw [ba_size]; simp
  have hb : (⟨(b :: r).toArray⟩ : ByteArray)[0] = b := by rw [← getElem_list _ _ h0]; rfl
  unfold cntK
  rw [dif_pos h0, hb, ba_size, List.length_cons]
  by_cases h : b.toNat ≤ r.length
  · rw [if_pos h, if_pos (by omega)]
  · rw [if_neg h, if_neg (by omega)]
theorem cnt_le {s : ByteArray} {m : Nat} (h : cntK s = some m) : 1 ≤ m ∧ m ≤ s.size ∧ m ≤ 256 := by
  unfold cntK at h
  split at h
  · rename_i h0
    have hu := s[0].toNat_lt
    split at h
    · cases h; omega
    · cases h
  · cases h
theorem list_cases (s : ByteArray) : s = ⟨#[]⟩ ∨ ∃ b r, s = ⟨(b :: r).toArray⟩ := by
  cases hl : s.data.toList with
  | nil => exact .inl (ba_ext hl)
  | cons b r => exact .inr ⟨b, r, ba_ext hl⟩
theorem cnt_pos {s : ByteArray} {m : Nat} (h : cntK s = some m) : ∃ b r, s = ⟨(b :: r).toArray⟩ ∧ b.toNat ≤ r.length ∧ m = 1 + b.toNat := by
  rcases list_cases s with rfl | ⟨b, r, rfl⟩
  · cases h
  · rw [cnt_cons] at h
    split at h
    · rename_i hb
      cases h
      exact ⟨b, r, rfl, hb, rfl⟩
    · cases h
theorem mk_app (a b : List UInt8) : (⟨a.toArray⟩ : ByteArray) ++ (⟨b.toArray⟩ : ByteArray) = ⟨(a ++ b).toArray⟩ := by apply ba_ext; rw [app_list]
theorem cnt_app {x : ByteArray} (h : cntK x = some x.size) (t : ByteArray) : cntK (x ++ t) = some x.size := by
  obtain ⟨b, r, rfl, hb, hm⟩ := cnt_pos h
  rw [← ba_of t, mk_app, List.cons_append, cnt_cons, if_pos (by simp; omega), hm]
theorem cnt_cut {s : ByteArray} {m : Nat} (h : cntK s = some m) : cntK (s.extract 0 m) = some (s.extract 0 m).size := by
  obtain ⟨b, r, rfl, hb, rfl⟩ := cnt_pos h
  have hx : (⟨(b :: r).toArray⟩ : ByteArray).extract 0 (1 + b.toNat) = ⟨(b :: r.take b.toNat).toArray⟩ := by
    apply ba_ext
    rw [Lib.extract_data, List.drop_zero, Nat.sub_zero, Nat.add_comm, ba_toList, ba_toList, List.take_succ_cons]
  rw [hx, cnt_cons, ba_size, List.length_cons, List.length_take, Nat.min_eq_left hb, if_pos (Nat.le_refl _), Nat.add_comm]

/-! ### names -/
theorem nmGo_le : ∀ (n : Nat) (s : ByteArray) (m : Nat), nmGo n s = some m → 1 ≤ m ∧ m ≤ s.size
  | 0, s, m, h => by cases h
  | n + 1, s, m, h => by
    rw [nmGo] at h
    cases hc : cntK s with
    | none => rw [hc] at h; cases h
    | some j =>
      rw [hc] at h
      have hj := cnt_le hc
      simp only at h
      split at h
      · cases h; omega
      · rw [Option.map_eq_some_iff] at h
        obtain ⟨q, hq, rfl⟩ := h
        have := nmGo_le n _ q hq
        rw [ByteArray.size_extract] at this
        omega
theorem drop_cons (b : UInt8) (l t : List UInt8) (n : Nat) (h : n = l.length) : (⟨(b :: (l ++ t)).toArray⟩ : ByteArray).extract (1 + n) (⟨(b :: (l ++ t)).toArray⟩ : ByteArray).size = ⟨t.toArray⟩ := by
  subst h
  apply ba_ext
  rw [Lib.extract_data, ba_toList, ba_size, Nat.add_comm, List.drop_succ_cons, List.drop_left' rfl, ba_toList]
  exact List.take_of_length_le (by simp)
theorem nmGo_flat : ∀ (ls : List (List UInt8)) (t : List UInt8) (n : Nat), (∀ l ∈ ls, 1 ≤ l.length ∧ l.length ≤ 63) → ls.length < n → nmGo n ⟨(flat ls ++ 0 :: t).toArray⟩ = some ((flat ls).length + 1)
  | [], t, 0, _, h => by simp at h
  | [], t, n + 1, _, _ => by
    rw [nmGo, show flat [] ++ 0 :: t = 0 :: t from rfl, cnt_cons, if_pos (by simp)]
    rfl
  | l :: ls, t, 0, _, h => by simp at h
  | l :: ls, t, n + 1, hl, h => by
    have hl1 := hl l (by simp)
    have hu : (UInt8.ofNat l.length).toNat = l.length := by rw [UInt8.toNat_ofNat']; omega
    have ih := nmGo_flat ls t n (fun x hx => hl x (by simp [hx])) (by simp at h; omega)
    have e : flat (l :: ls) ++ 0 :: t = UInt8.ofNat l.length :: (l ++ (flat ls ++ 0 :: t)) := by simp [flat]
    rw [nmGo, e, cnt_cons, hu, if_pos (by simp)]
    simp only
    rw [if_neg (by omega), drop_cons _ l (flat ls ++ 0 :: t) l.length rfl, ih]
    simp [flat]; omega
theorem flat_long : ∀ (ls : List (List UInt8)), ls.length ≤ (flat ls).length
  | [] => by simp
  | l :: ls => by have := flat_long ls; simp [flat]; omega
theorem name_app {x : ByteArray} (h : IsName x) (t : ByteArray) : nameK (x ++ t) = some x.size := by
  have h' := h
  obtain ⟨ls, ho, rfl⟩ := h
  have e : nm ls ++ t = ⟨(flat ls ++ 0 :: t.data.toList).toArray⟩ := by
    apply ba_ext
    rw [app_list, nm_list, nmL]; simp
  have hg := nmGo_flat ls t.data.toList ((nm ls ++ t).size + 1) ho.lab (by have := flat_long ls; rw [app_size, nm_size]; omega)
  rw [← e] at hg
  unfold nameK
  rw [hg, ← nm_size]
  simp only
  rw [if_pos (by rw [app_first]; exact h')]
theorem nameK_ok {s : ByteArray} {m : Nat} (h : nameK s = some m) : m ≤ s.size ∧ IsName (s.extract 0 m) := by
  unfold nameK at h
  cases hg : nmGo (s.size + 1) s with
  | none => rw [hg] at h; cases h
  | some j =>
    rw [hg] at h
    simp only at h
    split at h
    · cases h
      exact ⟨(nmGo_le _ _ _ hg).2, by assumption⟩
    · cases h

/-! ### pieces -/
def Good : PK → ByteArray → Prop
  | .num n, x => x.size = n
  | .grp c w _ _, x => x.size = c * w
  | .name, x => IsName x
  | .type, x => x.size = 2
  | .hex, x => 0 < x.size
  | .salt, x => cntK x = some x.size
  | .hash, x => cntK x = some x.size ∧ 1 < x.size
  | .types, x => (typesR x).isSome = true
  | .any, x => True
  | .strs, x => txtPf 0 x = some x.size
/-- a part that ends by itself. -/
def delim : PK → Bool
  | .hex | .types | .any | .strs => false
  | _ => true

theorem take_ok {n m : Nat} {s : ByteArray} (h : takeK n s = some m) : m ≤ s.size ∧ (s.extract 0 m).size = n := by
  unfold takeK at h
  split at h
  · cases h
    rw [ByteArray.size_extract]
    omega
  · cases h
theorem take_app {n : Nat} {x : ByteArray} (h : x.size = n) (t : ByteArray) : takeK n (x ++ t) = some x.size := by
  unfold takeK
  rw [if_pos (by rw [app_size]; omega), h]

theorem pass_good (p : PK) (s : ByteArray) (m : Nat) (h : passK p s = some m) : m ≤ s.size ∧ Good p (s.extract 0 m) := by
  cases p with
  | num n => exact take_ok h
  | grp c w b sep => exact take_ok h
  | name => exact nameK_ok h
  | type => exact take_ok h
  | hex =>
    simp only [passK] at h
    split at h
    · cases h
      rw [cut_all]
      exact ⟨Nat.le_refl _, by assumption⟩
    · cases h
  | salt => exact ⟨(cnt_le h).2.1, cnt_cut h⟩
  | hash =>
    simp only [passK, hashK] at h
    cases hc : cntK s with
    | none => rw [hc] at h; cases h
    | some j =>
      rw [hc] at h
      simp only at h
      split at h
      · cases h
        have := cnt_le hc
        refine ⟨this.2.1, cnt_cut hc, ?_⟩
        rw [ByteArray.size_extract]
        omega
      · cases h
  | types =>
    simp only [passK] at h
    split at h
    · cases h
      rw [cut_all]
      exact ⟨Nat.le_refl _, by assumption⟩
    · cases h
  | any =>
    cases h
    exact ⟨Nat.le_refl _, trivial⟩
  | strs =>
    have h' : txtPf 0 s = some m := h
    have hm : m = s.size := by
      unfold txtPf at h'
      split at h'
      · cases h'; rfl
      · cases h'
    subst hm
    rw [cut_all]
    exact ⟨Nat.le_refl _, h'⟩
theorem good_app (p : PK) (hp : delim p = true) (x : ByteArray) (h : Good p x) (t : ByteArray) : passK p (x ++ t) = some x.size := by
  cases p with
  | num n => exact take_app h t
  | grp c w b sep => exact take_app h t
  | name => exact name_app h t
  | type => exact take_app h t
  | salt => exact cnt_app h t
  | hash =>
    simp only [passK, hashK]
    rw [cnt_app h.1 t]
    simp only
    rw [if_pos h.2]
  | hex => cases hp
  | types => cases hp
  | any => cases hp
  | strs => cases hp
theorem good_self (p : PK) (x : ByteArray) (h : Good p x) : passK p x = some x.size := by
  cases hp : delim p with
  | true =>
    have := good_app p hp x h ⟨#[]⟩
    rwa [app_empty] at this
  | false =>
    cases p with
    | hex => exact if_pos h
    | types => exact if_pos h
    | any => rfl
    | strs => exact h
    | num n => cases hp
    | grp c w b sep => cases hp
    | name => cases hp
    | type => cases hp
    | salt => cases hp
    | hash => cases hp

def AllGood : List PK → List ByteArray → Prop
  | [], [] => True
  | p :: ps, x :: xs => Good p x ∧ AllGood ps xs
  | _, _ => False
theorem AllGood.len : ∀ {F : List PK} {xs : List ByteArray}, AllGood F xs → xs.length = F.length
  | [], [], _ => rfl
  | p :: F, x :: xs, h => by have := AllGood.len h.2; simp [this]
  | [], _ :: _, h => h.elim
  | _ :: _, [], h => h.elim

noncomputable def cutF : List PK → ByteArray → Option (List ByteArray × ByteArray)
  | [], s => some ([], s)
  | p :: F, s => match passK p s with
    | none => none
    | some m => (cutF F (s.extract m s.size)).map fun r => (s.extract 0 m :: r.1, r.2)
theorem cutF_sound : ∀ (F : List PK) (s : ByteArray) (r : List ByteArray × ByteArray), cutF F s = some r → s = cat r.1 ++ r.2 ∧ AllGood F r.1
  | [], s, r, h => by cases h; exact ⟨(empty_app s).symm, trivial⟩
  | p :: F, s, r, h => by
    rw [cutF] at h
    cases hp : passK p s with
    | none => rw [hp] at h; cases h
    | some m =>
      rw [hp] at h
      simp only [Option.map_eq_some_iff] at h
      obtain ⟨q, hq, rfl⟩ := h
      obtain ⟨h1, h2⟩ := cutF_sound F _ q hq
      obtain ⟨hm, hg⟩ := pass_good p s m hp
      refine ⟨?_, hg, h2⟩
      conv => lhs; rw [split_at s m hm, h1]
      show s.extract 0 m ++ (cat q.1 ++ q.2) = (s.extract 0 m ++ cat q.1) ++ q.2
      rw [ByteArray.append_assoc]
/-- all but the last part end by themselves. -/
def delims : List PK → Bool
  | [] => true
  | [_] => true
  | p :: F => delim p && delims F
theorem cutF_cat : ∀ (F : List PK) (xs : List ByteArray), delims F = true → AllGood F xs → cutF F (cat xs) = some (xs, ⟨#[]⟩)
  | [], [], _, _ => rfl
  | [], _ :: _, _, h => h.elim
  | _ :: _, [], _, h => h.elim
  | [p], x :: xs, _, h => by
    obtain ⟨h1, h2⟩ := h
    cases xs with
    | cons y ys => exact h2.elim
    | nil =>
      rw [cat_one, cutF, good_self p x h1]
      simp only [cutF, Option.map_some]
      rw [cut_all, end_cut]
  | p :: q :: F, x :: xs, hd, h => by
    obtain ⟨h1, h2⟩ := h
    rw [show delims (p :: q :: F) = (delim p && delims (q :: F)) from rfl, Bool.and_eq_true] at hd
    rw [cutF, cat, good_app p hd.1 x h1]
    simp only
    rw [app_first, app_rest, cutF_cat (q :: F) xs hd.2 h2]
    rfl

theorem cutP_eq : ∀ (F : List PK) (pf : Nat → ByteArray → Option Nat) (k : Nat) (s : ByteArray), (∀ j p, F[j]? = some p → pf (k + j) = passK p) → cutP pf F.length k s = cutF F s
  | [], pf, k, s, _ => rfl
  | p :: F, pf, k, s, h => by
    have h0 : pf k = passK p := h 0 p rfl
    rw [List.length_cons, cutP, cutF, h0]
    cases passK p s with
    | none => rfl
    | some m =>
      simp only
      rw [cutP_eq F pf (k + 1) _ (fun j q hj => by rw [show k + 1 + j = k + (j + 1) by omega]; exact h (j + 1) q hj)]

noncomputable def pfK (F : List PK) : Nat → ByteArray → Option Nat := fun j s => match F[j]? with
  | some p => passK p s
  | none => none
theorem form_delims (k : Int) : delims (formOf k) = true := by
  unfold formOf
  repeat' split
  all_goals rfl
theorem form_len (k : Int) : (formOf k).length ≤ 20 ∧ 1 ≤ (formOf k).length := by
  unfold formOf
  repeat' split
  all_goals simp

/-- data in pieces. -/
noncomputable def splitR (k : Int) (s : ByteArray) : Option (List ByteArray) := if (0 ≤ k ∧ k ≤ 65535) ∧ s.size ≤ 2000 then fin (pfK (formOf k)) (formOf k).length s else none
theorem fin_eq (F : List PK) (s : ByteArray) : fin (pfK F) F.length s = match cutF F s with
    | none => none
    | some r => if r.2.size = 0 then some r.1 else none := by
  unfold fin
  rw [cutP_eq F (pfK F) 0 s (fun j p hj => by funext x; rw [Nat.zero_add, pfK, hj])]
  cases cutF F s <;> rfl
theorem split_iff (k : Int) (s : ByteArray) (xs : List ByteArray) : splitR k s = some xs ↔ (0 ≤ k ∧ k ≤ 65535) ∧ s.size ≤ 2000 ∧ s = cat xs ∧ AllGood (formOf k) xs := by
  unfold splitR
  constructor
  · intro h
    split at h
    · rename_i hk
      rw [fin_eq] at h
      cases hc : cutF (formOf k) s with
      | none => rw [hc] at h; cases h
      | some r =>
        rw [hc] at h
        simp only at h
        split at h
        · rename_i h0
          cases h
          obtain ⟨h1, h2⟩ := cutF_sound _ _ _ hc
          refine ⟨hk.1, hk.2, ?_, h2⟩
          rw [ba_empty _ h0, app_empty] at h1
          exact h1
        · cases h
    · cases h
  · rintro ⟨hk, hs, rfl, hg⟩
    rw [if_pos ⟨hk, hs⟩, fin_eq, cutF_cat _ _ (form_delims k) hg]
    rfl
theorem split_none (k : Int) (s : ByteArray) (h : ¬ ((0 ≤ k ∧ k ≤ 65535) ∧ s.size ≤ 2000)) : splitR k s = none := if_neg h
end Go.Proofs.YtdhcbaennpediaaGreatDoor

/- How data go past a name. -/
namespace Go.Proofs.YtdhcbaennpediaaGreatDoor
set_option linter.unusedVariables false
open Go.RowKit

/-- how the loop of passName stands: x is left, lab is the label that came last. -/
def NmRel (R : Option Nat) (s x lab : ByteArray) : Prop :=
  x.size ≤ s.size ∧ x = s.extract (s.size - x.size) s.size ∧ ∃ n, x.size < n ∧ R = if lab.size = 0 then some (s.size - x.size) else (nmGo n x).map (· + (s.size - x.size))

theorem cntK_le {s : ByteArray} {m : Nat} (h : cntK s = some m) : 1 ≤ m ∧ m ≤ s.size := by
  unfold cntK at h
  split at h
  · split at h
    · cases h; omega
    · cases h
  · cases h
theorem nmRel_at {R : Option Nat} {s x lab : ByteArray} {m : Nat} (h : cntK x = some m) (hx : x.size ≤ s.size) (he : x = s.extract (s.size - x.size) s.size) (n : Nat) (hn : x.size < n) (hR : R = (nmGo n x).map (· + (s.size - x.size))) :
    NmRel R s (x.extract m x.size) (x.extract 1 m) := by
  obtain ⟨h1, hm⟩ := cntK_le h
  obtain ⟨n, rfl⟩ : ∃ j, n = j + 1 := ⟨n - 1, by omega⟩
  have hz : (x.extract m x.size).size = x.size - m := by rw [ByteArray.size_extract]; omega
  have hl : (x.extract 1 m).size = m - 1 := by rw [ByteArray.size_extract]; omega
  refine ⟨by omega, ?_, n, by omega, ?_⟩
  · rw [hz]
    conv => lhs; rw [he]
    rw [ByteArray.size_extract, ByteArray.extract_extract]
    congr 1 <;> omega
  · rw [hR, nmGo, h, hl, hz]
    simp only
    by_cases e : m = 1
    · rw [if_pos e, if_pos (by omega), Option.map_some]; congr 1; omega
    · rw [if_neg e, if_neg (by omega), Option.map_map]
      congr 1
      funext j
      simp only [Function.comp]
      omega
theorem nmRel_first {s : ByteArray} {m : Nat} (h : cntK s = some m) : NmRel (nmGo (s.size + 1) s) s (s.extract m s.size) (s.extract 1 m) := by
  refine nmRel_at (lab := s) h (Nat.le_refl _) ?_ (s.size + 1) (by omega) ?_
  · simp
  · simp
theorem nmRel_step {R : Option Nat} {s x lab : ByteArray} {m : Nat} (h : NmRel R s x lab) (hl : lab.size ≠ 0) (hc : cntK x = some m) : NmRel R s (x.extract m x.size) (x.extract 1 m) := by
  obtain ⟨h1, h2, n, hn, hR⟩ := h
  rw [if_neg hl] at hR
  exact nmRel_at (lab := lab) hc h1 h2 n hn hR
theorem nmRel_none {R : Option Nat} {s x lab : ByteArray} (h : NmRel R s x lab) (hl : lab.size ≠ 0) (hc : cntK x = none) : R = none := by
  obtain ⟨h1, h2, n, hn, hR⟩ := h
  obtain ⟨n, rfl⟩ : ∃ j, n = j + 1 := ⟨n - 1, by omega⟩
  rw [if_neg hl, nmGo, hc] at hR
  exact hR
theorem nmRel_end {R : Option Nat} {s x lab : ByteArray} (h : NmRel R s x lab) (hl : lab.size = 0) : R = some (s.size - x.size) ∧ x.size ≤ s.size ∧ x = s.extract (s.size - x.size) s.size := by
  obtain ⟨h1, h2, n, hn, hR⟩ := h
  rw [if_pos hl] at hR
  exact ⟨hR, h1, h2⟩
theorem nmGo_none {s : ByteArray} (h : cntK s = none) : nameK s = none := by
  unfold nameK
  rw [nmGo, h]
theorem nameK_none {s : ByteArray} (h : nmGo (s.size + 1) s = none) : nameK s = none := by
  unfold nameK
  rw [h]
theorem nameK_yes {s : ByteArray} {m : Nat} (h : nmGo (s.size + 1) s = some m) (hn : IsName (s.extract 0 m)) : nameK s = some m := by
  unfold nameK
  rw [h]
  exact if_pos hn
theorem nameK_no {s : ByteArray} {m : Nat} (h : nmGo (s.size + 1) s = some m) (hn : ¬ IsName (s.extract 0 m)) : nameK s = none := by
  unfold nameK
  rw [h]
  exact if_neg hn
theorem right_is (s : ByteArray) (h : IsName s) (w : World) : Calls Tryz.prog 152 #[.string s] w fun e w' => e = .returned (.bool true) ∧ Below w.heap.size w w' := by
  obtain ⟨ls, ho, rfl⟩ := h
  exact right_yes ls ho w

set_option maxHeartbeats 1000000 in
theorem passName_in (W : World) (d : Nat) (s : ByteArray) (hs : s.size ≤ 2000) (h : Rd W d s) :
    Calls Tryz.prog 109 #[boxV d] W fun e w' => PassPost (nameK s) s d W w' e := by
  have hc := h.cell
  have HC := Hid.mk (counted_post W d s hs h)
  cases hcn : cntK s with
  | none =>
    rw [hcn] at HC
    have HN := Hid.mk (nmGo_none hcn)
    clear hcn
    go_enter Tryz.func109, Tryz.ntmps109
    go_wp2_with fail
    refine HC.out.mono ?_
    rintro e w1 ⟨rfl, hk1⟩
    go_wp2
    rw [HN.out]
    exact ⟨rfl, rfl, hk1⟩
  | some m =>
    rw [hcn] at HC
    have HN := Hid.mk (nmRel_first hcn)
    clear hcn
    go_enter Tryz.func109, Tryz.ntmps109
    go_wp2_with fail
    refine HC.out.mono ?_
    rintro e w1 ⟨h1, hm, h256, rfl, hr1, hk1⟩
    go_wp2
    go_loopw [3] (fun lv wr => ∃ (x lab : ByteArray), lv = .string lab ∧ Rd wr d x ∧ x.size ≤ 2000 ∧ Kept d W wr ∧ Hid (NmRel (nmGo (s.size + 1) s) s x lab)) (fun _ wr => rdLen wr d)
    case atStart => exact ⟨_, _, rfl, hr1, by rw [ByteArray.size_extract]; omega, hk1, HN⟩
    case round =>
      obtain ⟨x, lab, rfl, hrd, hx, hkp, HX⟩ := hrel
      have HLn := Hid.mk hrd.len
      by_cases hl0 : 0 < lab.size
      · obtain ⟨hn1, hn2⟩ := ne_text lab hl0
        have hn3 := ne_bne lab hl0
        have HC2 := Hid.mk (counted_post wr d x hx hrd)
        cases hcx : cntK x with
        | none =>
          rw [hcx] at HC2
          have HE := Hid.mk (nameK_none (nmRel_none HX.out (by omega) hcx))
          clear hcx
          go_wp2_with fail
          refine HC2.out.mono ?_
          rintro e w2 ⟨rfl, hk2⟩
          go_wp2
          rw [HE.out]
          exact ⟨rfl, rfl, hkp.trans hk2⟩
        | some j =>
          rw [hcx] at HC2
          have HS := Hid.mk (nmRel_step HX.out (by omega) hcx)
          clear hcx
          go_wp2_with fail
          refine HC2.out.mono ?_
          rintro e w2 ⟨hj1, hj, hj3, rfl, hr2, hk2⟩
          have hez : (x.extract j x.size).size = x.size - j := by rw [ByteArray.size_extract]; omega
          have HLT : Hid (rdLen w2 d < rdLen wr d) := by
            rw [Hid, HLn.out, hr2.len, hez]; omega
          have hrelN : ∃ (x' lab' : ByteArray), Value.string (x.extract 1 j) = .string lab' ∧ Rd w2 d x' ∧ x'.size ≤ 2000 ∧ Kept d W w2 ∧ Hid (NmRel (nmGo (s.size + 1) s) s x' lab') :=
            ⟨_, _, rfl, hr2, by omega, hkp.trans hk2, HS⟩
          go_wp2
          exact ⟨hrelN, HLT.out⟩
      · obtain rfl := ba_empty lab (by omega)
        obtain ⟨hR, hxs, hxe⟩ := nmRel_end HX.out rfl
        have HR := Hid.mk hR
        have HXE := Hid.mk hxe
        have hcl := hrd.cell
        have hw1 : IntKind.i64.wrap ((s.size : Int) - (x.size : Int)) = ((s.size - x.size : Nat) : Int) := by rw [IntKind.wrap_i64]; omega
        have hzx : (s.extract 0 (s.size - x.size)).size ≤ maxLen := by rw [ByteArray.size_extract]; unfold maxLen; omega
        clear hR hxe
        by_cases hnm : IsName (s.extract 0 (s.size - x.size))
        · have HRt := Hid.mk (right_is _ hnm)
          have HNK := Hid.mk (nameK_yes HR.out hnm)
          clear hnm
          go_wp2_with fail
          refine (HRt.out _).mono ?_
          rintro e w3 ⟨rfl, hb3⟩
          go_wp2_with fail
          refine (must_yes _).mono ?_
          rintro e w4 ⟨rfl, rfl⟩
          go_wp2
          refine bodyPost_end (results_none rfl _ _ _) rfl ?_
          rw [HNK.out]
          exact ⟨by omega, rfl, by rw [← HXE.out]; exact hrd.below hb3, hkp.trans (Kept.of_below hb3)⟩
        · have HRt := Hid.mk (right_no _ hnm hzx)
          have HNK := Hid.mk (nameK_no HR.out hnm)
          clear hnm
          go_wp2_with fail
          refine (HRt.out _).mono ?_
          rintro e w3 ⟨rfl, hb3⟩
          go_wp2_with fail
          refine (must_no _).mono ?_
          rintro e w4 ⟨rfl, rfl⟩
          go_wp2
          rw [HNK.out]
          exact ⟨rfl, rfl, hkp.trans (Kept.of_below hb3)⟩
end Go.Proofs.YtdhcbaennpediaaGreatDoor

/- typesOf: the list of types that bytes put down. -/
namespace Go.Proofs.YtdhcbaennpediaaGreatDoor
set_option linter.unusedVariables false
open Go.RowKit

theorem info3 : (Tryz.prog.info? 3).map (fun i => (i.zero, i.size, i.bytes)) = some (some (.int .i64 0), 1, 8) := by kernel_rfl
def intsV (l : List Nat) : List Value := l.map fun n => .int .i64 ((n : Nat) : Int)

def TyRel (R : Option (List Nat)) (last : Int) (l : List Nat) (x : ByteArray) : Prop := ∃ n, x.size < n ∧ R = (tyGo n last x).map (l ++ ·)
theorem tyRel_first (s : ByteArray) : TyRel (typesR s) (-1) [] s := by
  refine ⟨s.size + 1, by omega, ?_⟩
  unfold typesR
  cases tyGo (s.size + 1) (-1) s <;> rfl
theorem tyRel_end {R : Option (List Nat)} {last : Int} {l : List Nat} {x : ByteArray} (h : TyRel R last l x) (h0 : x.size = 0) : R = some l := by
  obtain ⟨n, hn, hR⟩ := h
  obtain ⟨n, rfl⟩ : ∃ j, n = j + 1 := ⟨n - 1, by omega⟩
  rw [tyGo, dif_neg (by omega)] at hR
  simpa using hR
theorem tyRel_none {R : Option (List Nat)} {last : Int} {l : List Nat} {x : ByteArray} (h : TyRel R last l x) (h0 : 0 < x.size) (hc : cntK (x.extract 1 x.size) = none) : R = none := by
  obtain ⟨n, hn, hR⟩ := h
  obtain ⟨n, rfl⟩ : ∃ j, n = j + 1 := ⟨n - 1, by omega⟩
  rw [tyGo, dif_pos h0, hc] at hR
  exact hR
theorem tyRel_bad {R : Option (List Nat)} {last : Int} {l : List Nat} {x : ByteArray} {m : Nat} (h : TyRel R last l x) (h0 : 0 < x.size) (hc : cntK (x.extract 1 x.size) = some m) (hb : ¬ (last < (x[0].toNat : Int) ∧ m ≤ 33 ∧ lastOk (x.extract 2 (m + 1)).data.toList = true)) : R = none := by
  obtain ⟨n, hn, hR⟩ := h
  obtain ⟨n, rfl⟩ : ∃ j, n = j + 1 := ⟨n - 1, by omega⟩
  rw [tyGo, dif_pos h0, hc] at hR
  simp only [if_neg hb] at hR
  exact hR
theorem tyRel_step {R : Option (List Nat)} {last : Int} {l : List Nat} {x : ByteArray} {m : Nat} (h : TyRel R last l x) (h0 : 0 < x.size) (hc : cntK (x.extract 1 x.size) = some m) (hb : last < (x[0].toNat : Int) ∧ m ≤ 33 ∧ lastOk (x.extract 2 (m + 1)).data.toList = true) :
    TyRel R (x[0].toNat : Int) (l ++ bitsL x[0].toNat (x.extract 2 (m + 1)).data.toList (8 * (m - 1))) (x.extract (m + 1) x.size) := by
  obtain ⟨n, hn, hR⟩ := h
  obtain ⟨n, rfl⟩ : ∃ j, n = j + 1 := ⟨n - 1, by omega⟩
  rw [tyGo, dif_pos h0, hc] at hR
  simp only [if_pos hb, Option.map_map] at hR
  refine ⟨n, by rw [ByteArray.size_extract]; omega, ?_⟩
  rw [hR]
  congr 1
  funext r
  simp

theorem bitsL_zero (w : Nat) (b : List UInt8) : bitsL w b 0 = [] := rfl
theorem bitsL_succ (w : Nat) (b : List UInt8) (n : Nat) : bitsL w b (n + 1) = bitsL w b n ++ (if bitAt b n then [w * 256 + n] else []) := by
  unfold bitsL
  rw [List.range_succ, List.filter_append, List.map_append]
  congr 1
  cases h : bitAt b n <;> simp [h]
theorem bitsL_len (w : Nat) (b : List UInt8) (n : Nat) : (bitsL w b n).length ≤ n := by
  unfold bitsL
  rw [List.length_map]
  refine Nat.le_trans (List.length_filter_le _ _) ?_
  simp
theorem last_at (b : ByteArray) (h : 0 < b.size) : lastOk b.data.toList = (b[b.size - 1] != 0) := by
  have e : b.data.toList.getLast? = some b[b.size - 1] := by
    rw [List.getLast?_eq_getElem?, size_list, List.getElem?_eq_getElem (by rw [size_list]; omega)]
    rfl
  rw [lastOk, e]
theorem bit_at (b : ByteArray) (n : Nat) (h : n / 8 < b.size) : bitAt b.data.toList n = (b[n / 8].toNat / 2 ^ (7 - n % 8) % 2 == 1) := by
  have e : b.data.toList.getD (n / 8) 0 = b[n / 8] := by
    rw [List.getD_eq_getElem?_getD, List.getElem?_eq_getElem (by rw [size_list]; exact h)]
    rfl
  rw [bitAt, e]

theorem and1_u8 (a : Nat) (ha : a < 256) : Go.bits BinOp.and IntKind.u8 (a : Int) 1 = ((a % 2 : Nat) : Int) := by
  have h1 : (BitVec.ofInt 8 (a : Int)).toNat = a := by
    rw [BitVec.ofInt_natCast, BitVec.toNat_ofNat]; exact Nat.mod_eq_of_lt (by omega)
  show IntKind.u8.wrap ((BitVec.ofInt 8 (a : Int) &&& BitVec.ofInt 8 (1 : Int)).toNat : Int) = _
  rw [BitVec.toNat_and, h1, show (BitVec.ofInt 8 (1 : Int)).toNat = 1 from rfl, Nat.and_one_is_mod, IntKind.wrap_u8]
  omega
theorem bit_walk (b : ByteArray) (n : Nat) (h : n / 8 < b.size) : (Go.bits BinOp.and IntKind.u8 ((b[n / 8].toNat : Int) / 2 ^ (7 - n % 8)) 1 == 1) = bitAt b.data.toList n := by
  have hu := b[n / 8].toNat_lt
  have e : ((b[n / 8].toNat : Int) / 2 ^ (7 - n % 8)) = ((b[n / 8].toNat / 2 ^ (7 - n % 8) : Nat) : Int) := by push_cast; rfl
  have hq : b[n / 8].toNat / 2 ^ (7 - n % 8) < 256 := Nat.lt_of_le_of_lt (Nat.div_le_self _ _) (by omega)
  rw [bit_at b n h, e, and1_u8 _ hq, Bool.eq_iff_iff, beq_iff_eq, beq_iff_eq]
  omega

/-- what typesOf hands back. -/
def TyPost (R : Option (List Nat)) (W : World) (e : Ending) (w' : World) : Prop := (match R with
  | some l => ∃ v, e = .returned v ∧ w'.ownsRow W.heap.size 3 1 v l.length (intsV l)
  | none => e = .panicked mustV) ∧ Below W.heap.size W w'

theorem cut_two (x : ByteArray) (m : Nat) (hm : m ≤ x.size - 1) (h0 : 0 < x.size) : (x.extract 1 x.size).extract 1 m = x.extract 2 (m + 1) ∧ (x.extract 1 x.size).extract m (x.extract 1 x.size).size = x.extract (m + 1) x.size := by
  constructor
  · rw [ByteArray.extract_extract]
    congr 1
    omega
  · rw [ByteArray.size_extract, ByteArray.extract_extract]
    congr 1 <;> omega
theorem len_le_ty {R : Option (List Nat)} {l : List Nat} : l.length ≤ 100000 → (intsV l).length ≤ 100000 := by simp [intsV]

set_option maxRecDepth 100000 in
set_option maxHeartbeats 4000000 in
theorem typesOf_in (W : World) (s : ByteArray) (hs : s.size ≤ 2000) :
    Calls Tryz.prog 41 #[.string s] W fun e w' => TyPost (typesR s) W e w' := by
  obtain ⟨i0, hi, hz0, hz1, hz2⟩ := info_parts info3
  have HF := Hid.mk (tyRel_first s)
  obtain ⟨R, hR⟩ : ∃ R, typesR s = R := ⟨_, rfl⟩
  rw [hR] at HF ⊢
  clear hR
  go_enter Tryz.func41, Tryz.ntmps41
  go_wp2
  go_loopw [4, 5] (fun lv tv wr => ∃ (l : List Nat) (last : Int) (x : ByteArray), tv = .int .i64 last ∧ -1 ≤ last ∧ last ≤ 255 ∧ wr.ownsRow (W.heap.size + 1) 3 1 lv l.length (intsV l) ∧ l.length + 8 * x.size ≤ 16000 ∧ Rd wr W.heap.size x ∧ x.size ≤ 2000 ∧ Hid (TyRel R last l x) ∧ Below W.heap.size W wr ∧ W.heap.size + 1 ≤ wr.heap.size) (fun _ _ wr => rdLen wr W.heap.size)
  case atStart => exact ⟨[], -1, s, rfl, by omega, by omega, World.ownsRow_nil .., by simp; omega, heap_new _ _, hs, HF, (Below.refl _ _).alloc (Nat.le_refl _) _, by simp⟩
  case round =>
    obtain ⟨l, last, x, rfl, hl1, hl2, hrow, hll, hrd, hx, HX, hbl, hsz⟩ := hrel
    have HLn := Hid.mk hrd.len
    have hcl := hrd.cell
    by_cases h0 : 0 < x.size
    · obtain ⟨hn1, hn2⟩ := ne_text x h0
      have hn3 := ne_bne x h0
      have T1 := Hid.mk (take_yes wr W.heap.size 1 x (by unfold maxLen; omega) hrd (by omega))
      have HN := Hid.mk (number_one x h0)
      have hr1 := hrd.set (x.extract 1 x.size)
      have hk1 := Kept.set W.heap.size 0 wr (.string (x.extract 1 x.size))
      have hxz : (x.extract 1 x.size).size = x.size - 1 := by rw [ByteArray.size_extract]; omega
      have HC := Hid.mk (counted_post _ W.heap.size (x.extract 1 x.size) (by omega) hr1)
      have hb0 := x[0].toNat_lt
      cases hcn : cntK (x.extract 1 x.size) with
      | none =>
        rw [hcn] at HC
        have HRn := Hid.mk (tyRel_none HX.out h0 hcn)
        clear hcn
        go_wp2_with fail
        refine T1.out.mono ?_
        rintro e w1 ⟨rfl, rfl⟩
        go_wp2_with fail
        refine (HN.out _).mono ?_
        rintro e w2 ⟨rfl, rfl⟩
        go_wp2_with fail
        refine HC.out.mono ?_
        rintro e w3 ⟨rfl, hk3⟩
        go_wp2
        rw [HRn.out]
        refine ⟨rfl, rfl, hbl.trans ((hk1.trans hk3).below (Nat.le_refl _) (by omega))⟩
      | some m =>
        rw [hcn] at HC
        obtain ⟨hm1, hm⟩ := cntK_le hcn
        rw [hxz] at hm
        have he12 := cut_two x m hm h0
        have HC2 : Hid (Calls Tryz.prog 67 #[boxV W.heap.size] (wr.setCell ⟨W.heap.size, 0, none⟩ (.string (x.extract 1 x.size))) fun e w' => e = .returned (.string (x.extract 2 (m + 1))) ∧ Rd w' W.heap.size (x.extract (m + 1) x.size) ∧ Kept W.heap.size wr w') := by
          refine HC.out.mono ?_
          rintro e w' ⟨_, _, _, he, hr, hk⟩
          rw [he12.1] at he
          rw [he12.2] at hr
          exact ⟨he, hr, hk1.trans hk⟩
        have hbz : (x.extract 2 (m + 1)).size = m - 1 := by rw [ByteArray.size_extract]; omega
        have hxr : (x.extract (m + 1) x.size).size = x.size - (m + 1) := by rw [ByteArray.size_extract]; omega
        have HST := Hid.mk (tyRel_step HX.out h0 hcn)
        have HBD := Hid.mk (tyRel_bad HX.out h0 hcn)
        clear HC hr1 hk1 he12 hcn hxz
        generalize x.extract 2 (m + 1) = bits at HC2 hbz HST HBD
        generalize x.extract (m + 1) x.size = rest at HC2 hxr HST
        generalize x.extract 1 x.size = x1 at T1 HC2
        generalize x[0].toNat = wn at HN HST HBD hb0
        go_wp2_with fail
        refine T1.out.mono ?_
        rintro e w1 ⟨rfl, rfl⟩
        go_wp2_with fail
        refine (HN.out _).mono ?_
        rintro e w2 ⟨rfl, rfl⟩
        go_wp2_with fail
        refine HC2.out.mono ?_
        rintro e w3 ⟨rfl, hr3, hk3⟩
        have hbl3 : Below W.heap.size W w3 := hbl.trans (hk3.below (Nat.le_refl _) (by omega))
        have hsz3 : W.heap.size + 1 ≤ w3.heap.size := Nat.le_trans hsz hk3.size
        have hrow3 := row_kept' hrow hk3 (by omega)
        have HLN3 : Hid (rdLen w3 W.heap.size = rest.size) := hr3.len
        clear T1 HN HC2 hrow hrd hbl hk3 hcl
        have HBZ := Hid.mk hbz
        have HXR := Hid.mk hxr
        have hbb : bits.size ≤ 2000 := by omega
        have hrb : rest.size ≤ 2000 := by omega
        clear hbz hxr
        by_cases c1 : last < (wn : Int)
        · by_cases c2 : 0 < bits.size
          · obtain ⟨hm1b, hm2b⟩ := ne_text bits c2
            have hm3b := ne_bne bits c2
            have hwb : IntKind.i64.wrap ((bits.size : Int) - 1) = ((bits.size - 1 : Nat) : Int) := by rw [IntKind.wrap_i64]; omega
            have hib : bits.size - 1 < bits.size := by omega
            by_cases c3 : bits.size ≤ 32
            · have hla := last_at bits c2
              by_cases c4 : bits[bits.size - 1].toNat = 0
              · have hne : ((bits[bits.size - 1].toNat : Int) != 0) = false := by rw [c4]; rfl
                have HRN : Hid (R = none) := by
                  refine HBD.out ?_
                  rintro ⟨_, _, h3⟩
                  rw [hla, bne_iff_ne] at h3
                  exact h3 (UInt8.toNat_inj.1 c4)
                clear HST HBD hla c4
                go_wp2_with fail
                refine (must_no _).mono ?_
                rintro e w4 ⟨rfl, rfl⟩
                go_wp2
                rw [HRN.out]
                exact ⟨rfl, rfl, hbl3⟩
              · have hne : ((bits[bits.size - 1].toNat : Int) != 0) = true := by rw [bne_iff_ne]; omega
                have hcond : last < (wn : Int) ∧ m ≤ 33 ∧ lastOk bits.data.toList = true := by
                  refine ⟨c1, by have := HBZ.out; omega, ?_⟩
                  rw [hla, bne_iff_ne]
                  intro e
                  rw [e] at c4
                  exact c4 rfl
                have HST2 := Hid.mk (HST.out hcond)
                have hw8 : IntKind.i64.wrap (8 * (bits.size : Int)) = ((8 * bits.size : Nat) : Int) := by rw [IntKind.wrap_i64]; omega
                clear HST HBD hla hcond c4
                go_wp2_with fail
                refine (must_yes _).mono ?_
                rintro e w4 ⟨rfl, rfl⟩
                go_wp2
                go_loopw [4, 47] (fun lv iv wr2 => ∃ n : Nat, n ≤ 8 * bits.size ∧ iv = .int .i64 n ∧ wr2.ownsRow (W.heap.size + 1) 3 1 lv (l ++ bitsL wn bits.data.toList n).length (intsV (l ++ bitsL wn bits.data.toList n)) ∧ Below (W.heap.size + 1) w4 wr2 ∧ W.heap.size + 1 ≤ wr2.heap.size) (fun _ iv _ => 8 * bits.size - (intOf iv).toNat)
                case atStart => exact ⟨0, by omega, rfl, by rw [bitsL_zero, List.append_nil]; exact hrow3, Below.refl _ _, hsz3⟩
                case round =>
                  obtain ⟨n, hn, rfl, hrw, hbl4, hsz4⟩ := hrel
                  by_cases hlt : n < 8 * bits.size
                  · have hidx : n / 8 < bits.size := by omega
                    have hbw := bit_walk bits n hidx
                    have hor := or_low wn n (by omega) (by omega)
                    have hlb := bitsL_len wn bits.data.toList n
                    have hLL : (l ++ bitsL wn bits.data.toList n).length ≤ 17000 := by rw [List.length_append]; omega
                    have HNX := Hid.mk (bitsL_succ wn bits.data.toList n)
                    cases hbt : bitAt bits.data.toList n with
                    | true =>
                      rw [hbt] at hbw HNX
                      have HNL : Hid (l ++ bitsL wn bits.data.toList (n + 1) = (l ++ bitsL wn bits.data.toList n) ++ [wn * 256 + n]) := by
                        rw [Hid, HNX.out, List.append_assoc]; rfl
                      clear hbt HNX hlb
                      generalize l ++ bitsL wn bits.data.toList n = L at hrw hLL HNL
                      go_wp2_with (at_builtin; refine wpList_append_own _ rfl _ _ 48 rfl (W.heap.size + 1) 3 i0 (.int .i64 0) 1 8 Tryz.underlying48 hi hz0 hz1 hz2 rfl (by decide) _ _ _ rfl (hrw.alloc _) ⟨wr.heap.size, 0, none⟩ 1 1 [.int .i64 ((wn * 256 + n : Nat) : Int)] rfl rfl (cell_one_new _ _ _) (by simp [Value.oneCell']) (by unfold maxLen; omega) (by omega) (by simp; omega) ?_; intro v1 w5 hown5 hgrow5 _)
                      have hb5 : Below (W.heap.size + 1) w4 w5 := (hbl4.alloc hsz4 _).grown hgrow5 (by simp; omega) (rowBaseB hrw)
                      have hs5 : W.heap.size + 1 ≤ w5.heap.size := Nat.le_trans hsz3 hb5.size
                      go_roundw
                      case rel =>
                        refine ⟨n + 1, by omega, by go_num, ?_, hb5, hs5⟩
                        rw [HNL.out, List.length_append, intsV, List.map_append]; exact hown5
                      case measure => simp [intOf]; omega
                    | false =>
                      rw [hbt] at hbw HNX
                      have HNL : Hid (l ++ bitsL wn bits.data.toList (n + 1) = l ++ bitsL wn bits.data.toList n) := by
                        rw [Hid, HNX.out]; simp
                      clear hbt HNX hlb
                      generalize l ++ bitsL wn bits.data.toList n = L at hrw hLL HNL
                      go_wp2
                      exact ⟨⟨n + 1, by omega, by go_num, by rw [HNL.out]; exact hrw, hbl4, hsz4⟩, by simp [intOf]; omega⟩
                  · obtain rfl : n = 8 * bits.size := by omega
                    have hlb := bitsL_len wn bits.data.toList (8 * bits.size)
                    have hr5 : Rd wr W.heap.size rest := (hbl4.block _ (by omega)).trans hr3
                    have HL5 := Hid.mk hr5.len
                    have hbl5 : Below W.heap.size W wr := hbl3.trans (hbl4.mono (by omega))
                    have hlen5 : (l ++ bitsL wn bits.data.toList (8 * bits.size)).length + 8 * rest.size ≤ 16000 := by
                      have := HBZ.out
                      have := HXR.out
                      rw [List.length_append]; omega
                    have HT5 : Hid (TyRel R (wn : Int) (l ++ bitsL wn bits.data.toList (8 * bits.size)) rest) := by
                      rw [Hid, HBZ.out]; exact HST2.out
                    have HM5 : Hid (rest.size < x.size) := by have := HXR.out; rw [Hid]; omega
                    clear hlb HST2 hr3 hrow3 hne hwb hw8 HBZ HXR
                    generalize l ++ bitsL wn bits.data.toList (8 * bits.size) = L at hrw hlen5 HT5
                    go_wp2
                    refine ⟨⟨L, wn, rest, rfl, by omega, by omega, hrw, hlen5, hr5, hrb, HT5, hbl5, hsz4⟩, ?_⟩
                    rw [HL5.out, HLn.out]; exact HM5.out
            · have HRN : Hid (R = none) := HBD.out (fun h => by have := HBZ.out; omega)
              clear HST HBD
              go_wp2_with fail
              refine (must_no _).mono ?_
              rintro e w4 ⟨rfl, rfl⟩
              go_wp2
              rw [HRN.out]
              exact ⟨rfl, rfl, hbl3⟩
          · obtain rfl := ba_empty bits (by omega)
            have HRN : Hid (R = none) := HBD.out (fun h => by have := h.2.2; cases this)
            clear HST HBD
            go_wp2_with fail
            refine (must_no _).mono ?_
            rintro e w4 ⟨rfl, rfl⟩
            go_wp2
            rw [HRN.out]
            exact ⟨rfl, rfl, hbl3⟩
        · have HRN : Hid (R = none) := HBD.out (fun h => c1 h.1)
          clear HST HBD
          go_wp2_with fail
          refine (must_no _).mono ?_
          rintro e w4 ⟨rfl, rfl⟩
          go_wp2
          rw [HRN.out]
          exact ⟨rfl, rfl, hbl3⟩
    · obtain rfl := ba_empty x (by omega)
      have HRE := Hid.mk (tyRel_end HX.out rfl)
      obtain ⟨q, c, hv⟩ := row_as hrow
      subst hv
      go_wp2
      go_ret
      rw [HRE.out]
      exact ⟨⟨_, rfl, row_down hrow (by omega)⟩, hbl⟩
end Go.Proofs.YtdhcbaennpediaaGreatDoor

/- The document's own reader, on bytes alone: what its steps say of data in pieces. -/
namespace Go.Proofs.YtdhcbaennpediaaGreatDoor
set_option linter.unusedVariables false
open Go.RowKit

/-- so many bytes, or none; what is left. -/
def tkS (n : Nat) (s : ByteArray) : ByteArray := if n ≤ s.size then s.extract 0 n else ⟨#[]⟩
def tkR (n : Nat) (s : ByteArray) : ByteArray := if n ≤ s.size then s.extract n s.size else ⟨#[]⟩
theorem tkR_le (n : Nat) (s : ByteArray) : (tkR n s).size ≤ s.size := by
  unfold tkR
  split
  · rw [ByteArray.size_extract]; omega
  · exact Nat.zero_le _
theorem tkS_le (n : Nat) (s : ByteArray) : (tkS n s).size ≤ n ∧ (tkS n s).size ≤ s.size := by
  unfold tkS
  split
  · rw [ByteArray.size_extract]; omega
  · exact ⟨Nat.zero_le _, Nat.zero_le _⟩

/-- one step of the document's reader: a part of kind p of what is left; bad stays bad. -/
structure Stp (p : PK) (r : ByteArray) (b : Bool) (s r' : ByteArray) (b' : Bool) : Prop where
  none : passK p r = none → b' = true
  keep : b = true → b' = true
  some : ∀ m, passK p r = some m → b = false → s = r.extract 0 m ∧ r' = r.extract m r.size ∧ b' = false

theorem Stp.or {p : PK} {r s r' : ByteArray} {b b' : Bool} (h : Stp p r b s r' b') (c : Bool) : Stp p r (b || c) s r' (b' || c) := by
  refine ⟨fun e => by rw [h.none e]; rfl, fun e => ?_, fun m e hb => ?_⟩
  · cases c with
    | true => simp
    | false => rw [Bool.or_false] at e ⊢; exact h.keep e
  · cases c with
    | true => simp at hb
    | false =>
      rw [Bool.or_false] at hb ⊢
      exact h.some m e hb

inductive Chn : List PK → ByteArray → Bool → List ByteArray → ByteArray → Bool → Prop
  | nil {r : ByteArray} {b : Bool} : Chn [] r b [] r b
  | cons {p : PK} {ps : List PK} {r s r1 r' : ByteArray} {b b1 b' : Bool} {ss : List ByteArray} : Stp p r b s r1 b1 → Chn ps r1 b1 ss r' b' → Chn (p :: ps) r b (s :: ss) r' b'

theorem Chn.keep {ps : List PK} {r r' : ByteArray} {b b' : Bool} {ss : List ByteArray} (h : Chn ps r b ss r' b') : b = true → b' = true := by
  induction h with
  | nil => exact id
  | cons h1 _ ih => exact fun e => ih (h1.keep e)
theorem Chn.cut {ps : List PK} {r r' : ByteArray} {b b' : Bool} {ss : List ByteArray} (h : Chn ps r b ss r' b') (hb : b = false) : (b' = false ∧ cutF ps r = Option.some (ss, r')) ∨ (b' = true ∧ cutF ps r = Option.none) := by
  induction h with
  | nil => exact .inl ⟨hb, rfl⟩
  | @cons p ps r s r1 r' b b1 b' ss h1 h2 ih =>
    cases hp : passK p r with
    | none =>
      right
      refine ⟨h2.keep (h1.none hp), ?_⟩
      rw [cutF, hp]
    | some m =>
      obtain ⟨e1, e2, e3⟩ := h1.some m hp hb
      rcases ih e3 with ⟨k1, k2⟩ | ⟨k1, k2⟩
      · left
        refine ⟨k1, ?_⟩
        rw [cutF, hp]
        simp only
        rw [← e2, k2, ← e1]
        rfl
      · right
        refine ⟨k1, ?_⟩
        rw [cutF, hp]
        simp only
        rw [← e2, k2]
        rfl
/-- the document's reader ends well just if the data are of the type, and then it has their pieces. -/
theorem Chn.split {k : Int} {d r' : ByteArray} {b' : Bool} {ss : List ByteArray} (hk : 0 ≤ k ∧ k ≤ 65535) (h : Chn (formOf k) d false ss r' b') :
    (b' = false ∧ r'.size = 0 ∧ d.size ≤ 2000 ∧ splitR k d = Option.some ss) ∨ ((b' = true ∨ 0 < r'.size ∨ 2000 < d.size) ∧ splitR k d = Option.none) := by
  by_cases hd : d.size ≤ 2000
  · have e : splitR k d = fin (pfK (formOf k)) (formOf k).length d := if_pos ⟨hk, hd⟩
    rw [fin_eq] at e
    rcases h.cut rfl with ⟨h1, h2⟩ | ⟨h1, h2⟩
    · rw [h2] at e
      simp only at e
      by_cases h0 : r'.size = 0
      · left
        rw [if_pos h0] at e
        exact ⟨h1, h0, hd, e⟩
      · right
        rw [if_neg h0] at e
        exact ⟨.inr (.inl (by omega)), e⟩
    · right
      rw [h2] at e
      exact ⟨.inl h1, e⟩
  · right
    exact ⟨.inr (.inr (by omega)), split_none k d (fun h => hd h.2)⟩

theorem stp_take (p : PK) (n : Nat) (hp : ∀ x, passK p x = takeK n x) (s : ByteArray) (b : Bool) : Stp p s b (tkS n s) (tkR n s) (b || decide (s.size < n)) := by
  refine ⟨fun e => ?_, fun e => by rw [e]; rfl, fun m e hb => ?_⟩
  · rw [hp, takeK] at e
    split at e
    · cases e
    · rw [decide_eq_true (by omega)]; simp
  · rw [hp, takeK] at e
    split at e
    · rename_i h
      cases e
      refine ⟨by rw [tkS, if_pos h], by rw [tkR, if_pos h], ?_⟩
      rw [hb, decide_eq_false (by omega)]; rfl
    · cases e
theorem stp_num (n : Nat) (s : ByteArray) (b : Bool) : Stp (.num n) s b (tkS n s) (tkR n s) (b || decide (s.size < n)) := stp_take _ n (fun _ => rfl) s b
theorem stp_type (s : ByteArray) (b : Bool) : Stp .type s b (tkS 2 s) (tkR 2 s) (b || decide (s.size < 2)) := stp_take _ 2 (fun _ => rfl) s b
theorem stp_all (s : ByteArray) (b : Bool) : Stp .hex s b s ⟨#[]⟩ (b || decide (s.size < 1)) := by
  refine ⟨fun e => ?_, fun e => by rw [e]; rfl, fun m e hb => ?_⟩
  · simp only [passK] at e
    split at e
    · cases e
    · rw [decide_eq_true (by omega)]; simp
  · simp only [passK] at e
    split at e
    · cases e
      refine ⟨by rw [cut_all], by rw [end_cut], ?_⟩
      rw [hb, decide_eq_false (by omega)]; rfl
    · cases e

/-- where the document looks for a name's end: n lies at a label of each name that the bytes open with. -/
def OnWay (r : ByteArray) (n : Nat) : Prop := ∀ ls t, OkN ls → r = nm ls ++ t → ∃ p q, ls = p ++ q ∧ n = (flat p).length
theorem onWay_first (r : ByteArray) : OnWay r 0 := fun ls t _ _ => ⟨[], ls, rfl, rfl⟩
theorem at_way {p q : List (List UInt8)} {t : ByteArray} : (nm (p ++ q) ++ t).data.toList[(flat p).length]? = some (match q with | [] => 0 | l :: _ => UInt8.ofNat l.length) := by
  rw [app_list, nm_list, nmL, flat_append]
  cases q with
  | nil => simp [flat]
  | cons l q => simp [flat]
theorem onWay_at {r : ByteArray} {n : Nat} (h : OnWay r n) {ls : List (List UInt8)} {t : ByteArray} (ho : OkN ls) (e : r = nm ls ++ t) : ∃ hn : n < r.size, (r[n].toNat ≤ 63 ∧ (r[n].toNat = 0 → n = (flat ls).length)) := by
  obtain ⟨p, q, rfl, rfl⟩ := h ls t ho e
  have ha := at_way (p := p) (q := q) (t := t)
  rw [← e] at ha
  obtain ⟨hl, hx⟩ := List.getElem?_eq_some_iff.1 ha
  have hl' : (flat p).length < r.size := by rw [← size_list]; exact hl
  refine ⟨hl', ?_⟩
  rw [getElem_list _ _ hl'] at hx
  rw [hx]
  cases q with
  | nil => exact ⟨by simp, fun _ => by rw [List.append_nil]⟩
  | cons l q =>
    have hm := ho.lab l (by simp)
    have hu : (UInt8.ofNat l.length).toNat = l.length := by rw [UInt8.toNat_ofNat']; omega
    simp only
    rw [hu]
    exact ⟨hm.2, fun h0 => by omega⟩
theorem onWay_next {r : ByteArray} {n : Nat} (h : OnWay r n) (hn : n < r.size) (h0 : r[n].toNat ≠ 0) : OnWay r (n + 1 + r[n].toNat) := by
  intro ls t ho e
  obtain ⟨p, q, rfl, rfl⟩ := h ls t ho e
  have ha := at_way (p := p) (q := q) (t := t)
  rw [← e] at ha
  obtain ⟨hl, hx⟩ := List.getElem?_eq_some_iff.1 ha
  rw [getElem_list _ _ hn] at hx
  cases q with
  | nil => rw [hx] at h0; exact absurd rfl h0
  | cons l q =>
    have hm := ho.lab l (by simp)
    have hu : (UInt8.ofNat l.length).toNat = l.length := by rw [UInt8.toNat_ofNat']; omega
    refine ⟨p ++ [l], q, by simp, ?_⟩
    rw [hx]
    simp only
    rw [hu, flat_append]
    simp [flat]; omega
/-- the end of the way. -/
theorem stp_name {r : ByteArray} {n : Nat} (h : OnWay r n) (hend : ∀ hn : n < r.size, r[n].toNat = 0 ∨ 63 < r[n].toNat) (b c : Bool) (hc : c = true ↔ IsName (tkS (n + 1) r)) :
    Stp .name r b (tkS (n + 1) r) (tkR (n + 1) r) ((b || decide (r.size < n + 1)) || !c) := by
  have key : ∀ m, nameK r = Option.some m → m = n + 1 ∧ n + 1 ≤ r.size ∧ c = true := by
    intro m hm
    obtain ⟨h1, ls, ho, e⟩ := nameK_ok hm
    have hr := split_at r m h1
    rw [e] at hr
    obtain ⟨hn, h2, h3⟩ := onWay_at h ho hr
    have hn0 := hend hn
    have hfl := h3 (by omega)
    have hsz : m = (nm ls).size := by
      rw [← e, ByteArray.size_extract]; omega
    rw [nm_size, ← hfl] at hsz
    subst hsz
    refine ⟨rfl, h1, hc.2 ?_⟩
    rw [tkS, if_pos h1, e]
    exact ⟨ls, ho, rfl⟩
  refine ⟨fun e => ?_, fun e => by rw [e]; rfl, fun m e hb => ?_⟩
  · cases c with
    | false => simp
    | true =>
      have hn := hc.1 rfl
      by_cases hs : n + 1 ≤ r.size
      · exfalso
        rw [tkS, if_pos hs] at hn
        have := name_app hn (r.extract (n + 1) r.size)
        rw [← split_at r (n + 1) hs] at this
        have e' : nameK r = Option.none := e
        rw [e'] at this
        cases this
      · rw [decide_eq_true (by omega)]; simp
  · obtain ⟨rfl, h2, h3⟩ := key m e
    refine ⟨by rw [tkS, if_pos h2], by rw [tkR, if_pos h2], ?_⟩
    rw [hb, h3, decide_eq_false (by omega)]; rfl
/-- bytes behind their number. -/
theorem stp_salt (r : ByteArray) (b : Bool) : Stp .salt r b (⟨(UInt8.ofNat (numB (tkS 1 r).data.toList) :: (tkS (numB (tkS 1 r).data.toList) (tkR 1 r)).data.toList).toArray⟩) (tkR (numB (tkS 1 r).data.toList) (tkR 1 r)) ((b || decide (r.size < 1)) || decide ((tkR 1 r).size < numB (tkS 1 r).data.toList)) := by
  refine ⟨fun e => ?_, fun e => by rw [e]; rfl, fun m e hb => ?_⟩
  · have e' : cntK r = Option.none := e
    rcases list_cases r with rfl | ⟨x, l, rfl⟩
    · simp [ba_size]
    · rw [cnt_cons] at e'
      split at e'
      · cases e'
      · rename_i hx
        have h1 : (tkS 1 ⟨(x :: l).toArray⟩).data.toList = [x] := by
          rw [tkS, if_pos (by rw [ba_size]; simp), Lib.extract_data]; simp
        have h2 : (tkR 1 ⟨(x :: l).toArray⟩).size = l.length := by
          rw [tkR, if_pos (by rw [ba_size]; simp), ByteArray.size_extract, ba_size]; simp
        rw [h1, h2, show numB [x] = x.toNat by simp [numB], decide_eq_true (show l.length < x.toNat by omega)]
        simp
  · have e' : cntK r = Option.some m := e
    obtain ⟨x, l, rfl, hx, rfl⟩ := cnt_pos e'
    have hsz : (⟨(x :: l).toArray⟩ : ByteArray).size = l.length + 1 := by rw [ba_size]; simp
    have h1 : (tkS 1 ⟨(x :: l).toArray⟩).data.toList = [x] := by
      rw [tkS, if_pos (by omega), Lib.extract_data]; simp
    have h2 : tkR 1 ⟨(x :: l).toArray⟩ = ⟨l.toArray⟩ := by
      rw [tkR, if_pos (by omega)]
      apply ba_ext
      rw [Lib.extract_data, hsz]; simp
    have h3 : numB [x] = x.toNat := by simp [numB]
    have h4 : (⟨l.toArray⟩ : ByteArray).size = l.length := ba_size l
    rw [h1, h2, h3, tkS, tkR, if_pos (by omega), if_pos (by omega), hb, decide_eq_false (by omega), decide_eq_false (by omega)]
    refine ⟨?_, ?_, rfl⟩
    · apply ba_ext
      rw [Lib.extract_data, Lib.extract_data, UInt8.ofNat_toNat, show 1 + x.toNat - 0 = x.toNat + 1 by omega]
      simp
    · apply ba_ext
      rw [Lib.extract_data, Lib.extract_data, hsz, h4, Nat.add_comm 1]
      simp
theorem cnt_num {r : ByteArray} {m : Nat} (h : cntK r = Option.some m) : m = 1 + numB (tkS 1 r).data.toList := by
  obtain ⟨x, l, rfl, hx, rfl⟩ := cnt_pos h
  have h1 : (tkS 1 ⟨(x :: l).toArray⟩).data.toList = [x] := by
    rw [tkS, if_pos (by rw [ba_size]; simp), Lib.extract_data]; simp
  rw [h1]
  simp [numB]
theorem stp_hash {r s r' : ByteArray} {b b' : Bool} (H : Stp .salt r b s r' b') : Stp .hash r b s r' (b' || decide (numB (tkS 1 r).data.toList = 0)) := by
  refine ⟨fun e => ?_, fun e => by rw [H.keep e]; rfl, fun m e hb => ?_⟩
  · have e' : hashK r = Option.none := e
    unfold hashK at e'
    cases hc : cntK r with
    | none => rw [H.none hc]; rfl
    | some m =>
      rw [hc] at e'
      simp only at e'
      split at e'
      · cases e'
      · have := cnt_num hc
        rw [decide_eq_true (by omega), Bool.or_true]
  · have e' : hashK r = Option.some m := e
    unfold hashK at e'
    cases hc : cntK r with
    | none => rw [hc] at e'; cases e'
    | some j =>
      rw [hc] at e'
      simp only at e'
      split at e'
      · cases e'
        have := cnt_num hc
        obtain ⟨k1, k2, k3⟩ := H.some m hc hb
        exact ⟨k1, k2, by rw [k3, decide_eq_false (by omega)]; rfl⟩
      · cases e'
end Go.Proofs.YtdhcbaennpediaaGreatDoor

/- sharedEnd: how many of the last labels of two lists are the same. -/
namespace Go.Proofs.YtdhcbaennpediaaGreatDoor
set_option linter.unusedVariables false
open Go.RowKit

/-- how many of the first are the same. -/
def cpl : List (List UInt8) → List (List UInt8) → Nat
  | x :: xs, y :: ys => if x = y then cpl xs ys + 1 else 0
  | _, _ => 0
def shEnd (a b : List (List UInt8)) : Nat := cpl a.reverse b.reverse

theorem cpl_nil_right (a : List (List UInt8)) : cpl a [] = 0 := by cases a <;> rfl
theorem cpl_at : ∀ (a b : List (List UInt8)) (k : Nat), k ≤ a.length → k ≤ b.length → (∀ i, i < k → a[i]? = b[i]?) → (∀ (h1 : k < a.length) (h2 : k < b.length), a[k] ≠ b[k]) → cpl a b = k
  | [], b, k, ha, hb, he, hn => by simp at ha; subst ha; rfl
  | a :: a', [], k, ha, hb, he, hn => by simp at hb; subst hb; rfl
  | a :: a', b :: b', 0, ha, hb, he, hn => by
    have := hn (by simp) (by simp)
    simp at this
    simp [cpl, this]
  | a :: a', b :: b', k + 1, ha, hb, he, hn => by
    have h0 := he 0 (by omega)
    simp at h0
    subst h0
    have := cpl_at a' b' k (by simpa using ha) (by simpa using hb) (fun i hi => by simpa using he (i + 1) (by omega)) (fun h1 h2 => hn (by simpa using h1) (by simpa using h2))
    simp [cpl, this]

theorem shEnd_at (a b : List (List UInt8)) (k : Nat) (ha : k ≤ a.length) (hb : k ≤ b.length) (he : ∀ i, i < k → ∀ (h1 : a.length - 1 - i < a.length) (h2 : b.length - 1 - i < b.length), a[a.length - 1 - i] = b[b.length - 1 - i])
    (hn : ∀ (h1 : k < a.length) (h2 : k < b.length), a[a.length - 1 - k] ≠ b[b.length - 1 - k]) : shEnd a b = k := by
  refine cpl_at _ _ k (by simpa using ha) (by simpa using hb) (fun i hi => ?_) (fun h1 h2 => ?_)
  · rw [List.getElem?_eq_getElem (by simp; omega), List.getElem?_eq_getElem (by simp; omega), List.getElem_reverse, List.getElem_reverse]
    exact congrArg some (he i hi (by omega) (by omega))
  · rw [List.getElem_reverse, List.getElem_reverse]
    exact hn (by simpa using h1) (by simpa using h2)

theorem shEnd_nil_left (b : List (List UInt8)) : shEnd [] b = 0 := rfl
theorem shEnd_nil_right (a : List (List UInt8)) : shEnd a [] = 0 := cpl_nil_right _

end Go.Proofs.YtdhcbaennpediaaGreatDoor

/- under, Under, Equal. -/
namespace Go.Proofs.YtdhcbaennpediaaGreatDoor
set_option linter.unusedVariables false
open Go.RowKit

theorem bcell {W w1 : World} (hb : Below W.heap.size W w1) : (∀ b o, b < W.heap.size → w1.cell? ⟨b, o, none⟩ = W.cell? ⟨b, o, none⟩) ∧ (∀ b o, b < W.heap.size → w1.frozen? ⟨b, o, none⟩ = W.frozen? ⟨b, o, none⟩) :=
  ⟨fun b o h => hb.cell (p := ⟨b, o, none⟩) h, fun b o h => hb.frozen (p := ⟨b, o, none⟩) h⟩
theorem bthen {w w1 w2 : World} (h : Below w.heap.size w w1) (k : Below w1.heap.size w1 w2) : Below w.heap.size w w2 := h.trans (k.mono h.size)

theorem Strs.form {n₀ : Nat} {W : World} {v : Value} {ls : List (List UInt8)} (h : Strs n₀ W v ls) : ∃ q c, v = .slice q ls.length c := by
  rcases h with ⟨rfl, rfl⟩ | ⟨g, cap, hv, _⟩
  · exact ⟨none, 0, rfl⟩
  · exact ⟨_, _, hv⟩

theorem OkN.count {ls : List (List UInt8)} (h : OkN ls) : ls.length ≤ 127 := by
  have := flat_count ls (fun l hl => (h.lab l hl).1); have := h.len; omega
theorem lowN_length (ls : List (List UInt8)) : (lowN ls).length = ls.length := by simp [lowN]

/-- a ends with all labels of b, letters aside. -/
def undB (a b : List (List UInt8)) : Bool := decide (shEnd (lowN a) (lowN b) = b.length)

theorem nm_inj {a b : List (List UInt8)} (ha : OkN a) (hb : OkN b) (h : nm a = nm b) : a = b := by
  have h1 : Seq (nm b) a := ⟨by rw [← h, nm_list]; exact List.prefix_append _ _, fun l hl => ⟨(ha.lab l hl).1, by have := (ha.lab l hl).2; omega⟩⟩
  have h2 : Ends (nm b) (flat a).length := fun hl => by
    left
    have : (flat a).length < (nm a).size := by rw [nm_size]; omega
    have e := nm_get_end a this
    simp only [← h]; exact e
  exact h1.all_name hb h2

def eqB (a b : List (List UInt8)) : Bool := decide (lowN a = lowN b)

end Go.Proofs.YtdhcbaennpediaaGreatDoor
