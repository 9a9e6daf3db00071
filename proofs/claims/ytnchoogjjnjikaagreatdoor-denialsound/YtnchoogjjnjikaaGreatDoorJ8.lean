/- Texts of this proof, joined: DFacts, DSplitA, DJoin, DSmallF, DLower, DLower2. -/
import Derived.Test.YtnchoogjjnjikaaGreatDoorJ5
import Derived.Test.YtnchoogjjnjikaaGreatDoorJ7
import Derived.BigRegion
import Derived.Test.YtnchoogjjnjikaaGreatDoorJ2
/- The forms of types, on bytes alone: data fall into pieces just if they are right pieces, put one behind the other. -/
namespace Go.Proofs.YtnchoogjjnjikaaGreatDoor
set_option linter.unusedVariables false
open Go.RowKit
theorem ba_of (x : ByteArray) : (⟨x.data.toList.toArray⟩ : ByteArray) = x := by apply ba_ext; rfl
theorem app_list (x y : ByteArray) : (x ++ y).data.toList = x.data.toList ++ y.data.toList := by rw [ByteArray.data_append, Array.toList_append]
theorem app_size (x y : ByteArray) : (x ++ y).size = x.size + y.size := by rw [← size_list, app_list, List.length_append, size_list, size_list]
theorem app_first (x y : ByteArray) : (x ++ y).extract 0 x.size = x := by
  apply ba_ext
  rw [Lib.extract_data, app_list, List.drop_zero, Nat.sub_zero, ← size_list, List.take_left']
  rfl
theorem app_rest (x y : ByteArray) : (x ++ y).extract x.size (x ++ y).size = y := by
  apply ba_ext
  rw [Lib.extract_data, app_list, app_size, ← size_list x, List.drop_left' rfl]
  exact List.take_of_length_le (by rw [size_list, size_list]; omega)
theorem app_empty (x : ByteArray) : x ++ (⟨#[]⟩ : ByteArray) = x := by
  apply ba_ext
  rw [app_list]; simp
theorem empty_app (x : ByteArray) : (⟨#[]⟩ : ByteArray) ++ x = x := by
  apply ba_ext
  rw [app_list]; simp
theorem split_at (s : ByteArray) (m : Nat) (hm : m ≤ s.size) : s = s.extract 0 m ++ s.extract m s.size := by
  apply ba_ext
  rw [app_list, Lib.extract_data, Lib.extract_data, List.drop_zero, Nat.sub_zero]
  rw [show (s.data.toList.drop m).take (s.size - m) = s.data.toList.drop m from List.take_of_length_le (by rw [List.length_drop, size_list]; exact Nat.le_refl _)]
  exact (List.take_append_drop m _).symm
theorem cut_all (s : ByteArray) : s.extract 0 s.size = s := by simp
def cat : List ByteArray → ByteArray
  | [] => ⟨#[]⟩
  | x :: xs => x ++ cat xs
theorem cat_list : ∀ xs : List ByteArray, (cat xs).data.toList = xs.flatMap (·.data.toList)
  | [] => rfl
  | x :: xs => by rw [cat, app_list, cat_list xs, List.flatMap_cons]
theorem cat_one (x : ByteArray) : cat [x] = x := app_empty x
theorem join_nil : ∀ l : List (List UInt8), Lib.join l [] = l.flatten
  | [] => rfl
  | [x] => by rw [Lib.join_one]; simp
  | x :: y :: r => by
    have ih := join_nil (y :: r)
    simp only [Lib.join, List.intercalate] at ih ⊢
    rw [List.intersperse_cons_cons, List.flatten_cons, List.flatten_cons, ih]
    simp
theorem cat_join (xs : List ByteArray) : (⟨(Lib.join (xs.map (·.data.toList)) []).toArray⟩ : ByteArray) = cat xs := by
  apply ba_ext
  rw [cat_list, ba_toList, join_nil, List.flatMap_def]
/-! ### bytes behind their number -/
theorem cnt_cons (b : UInt8) (r : List UInt8) : cntK ⟨(b :: r).toArray⟩ = if b.toNat ≤ r.length then some (1 + b.toNat) else none := by
  have h0 : 0 < (⟨(b :: r).toArray⟩ : ByteArray).size := by rw [ba_size]; simp
  have hb : (⟨(b :: r).toArray⟩ : ByteArray)[0] = b := by rw [← getElem_list _ _ h0]; rfl
  unfold cntK
  rw [dif_pos h0, hb, ba_size, List.length_cons]
  by_cases h : b.toNat ≤ r.length
  · rw [if_pos h, if_pos (by omega)]
  · rw [if_neg h, if_neg (by omega)]
theorem cnt_le {s : ByteArray} {m : Nat} (h : cntK s = some m) : 1 ≤ m ∧ m ≤ s.size ∧ m ≤ 256 := by
  unfold cntK at h
  split at h
  · rename_i h0
    have hu := s[0].toNat_lt
    split at h
    · cases h; omega
    · cases h
  · cases h
theorem list_cases (s : ByteArray) : s = ⟨#[]⟩ ∨ ∃ b r, s = ⟨(b :: r).toArray⟩ := by
  cases hl : s.data.toList with
  | nil => exact .inl (ba_ext hl)
  | cons b r => exact .inr ⟨b, r, ba_ext hl⟩
theorem cnt_pos {s : ByteArray} {m : Nat} (h : cntK s = some m) : ∃ b r, s = ⟨(b :: r).toArray⟩ ∧ b.toNat ≤ r.length ∧ m = 1 + b.toNat := by
  rcases list_cases s with rfl | ⟨b, r, rfl⟩
  · cases h
  · rw [cnt_cons] at h
    split at h
    · rename_i hb
      cases h
      exact ⟨b, r, rfl, hb, rfl⟩
    · cases h
theorem mk_app (a b : List UInt8) : (⟨a.toArray⟩ : ByteArray) ++ (⟨b.toArray⟩ : ByteArray) = ⟨(a ++ b).toArray⟩ := by apply ba_ext; rw [app_list]
theorem cnt_app {x : ByteArray} (h : cntK x = some x.size) (t : ByteArray) : cntK (x ++ t) = some x.size := by
  obtain ⟨b, r, rfl, hb, hm⟩ := cnt_pos h
  rw [← ba_of t, mk_app, List.cons_append, cnt_cons, if_pos (by simp; omega), hm]
theorem cnt_cut {s : ByteArray} {m : Nat} (h : cntK s = some m) : cntK (s.extract 0 m) = some (s.extract 0 m).size := by
  obtain ⟨b, r, rfl, hb, rfl⟩ := cnt_pos h
  have hx : (⟨(b :: r).toArray⟩ : ByteArray).extract 0 (1 + b.toNat) = ⟨(b :: r.take b.toNat).toArray⟩ := by
    apply ba_ext
    rw [Lib.extract_data, List.drop_zero, Nat.sub_zero, Nat.add_comm, ba_toList, ba_toList, List.take_succ_cons]
  rw [hx, cnt_cons, ba_size, List.length_cons, List.length_take, Nat.min_eq_left hb, if_pos (Nat.le_refl _), Nat.add_comm]
/-! ### names -/
theorem nmGo_le : ∀ (n : Nat) (s : ByteArray) (m : Nat), nmGo n s = some m → 1 ≤ m ∧ m ≤ s.size
  | 0, s, m, h => by cases h
  | n + 1, s, m, h => by
    rw [nmGo] at h
    cases hc : cntK s with
    | none => rw [hc] at h; cases h
    | some j =>
      rw [hc] at h
      have hj := cnt_le hc
      simp only at h
      split at h
      · cases h; omega
      · rw [Option.map_eq_some_iff] at h
        obtain ⟨q, hq, rfl⟩ := h
        have := nmGo_le n _ q hq
        rw [ByteArray.size_extract] at this
        omega
theorem drop_cons (b : UInt8) (l t : List UInt8) (n : Nat) (h : n = l.length) : (⟨(b :: (l ++ t)).toArray⟩ : ByteArray).extract (1 + n) (⟨(b :: (l ++ t)).toArray⟩ : ByteArray).size = ⟨t.toArray⟩ := by
  subst h
  apply ba_ext
  rw [Lib.extract_data, ba_toList, ba_size, Nat.add_comm, List.drop_succ_cons, List.drop_left' rfl, ba_toList]
  exact List.take_of_length_le (by simp)
theorem nmGo_flat : ∀ (ls : List (List UInt8)) (t : List UInt8) (n : Nat), (∀ l ∈ ls, 1 ≤ l.length ∧ l.length ≤ 63) → ls.length < n → nmGo n ⟨(flat ls ++ 0 :: t).toArray⟩ = some ((flat ls).length + 1)
  | [], t, 0, _, h => by simp at h
  | [], t, n + 1, _, _ => by
    rw [nmGo, show flat [] ++ 0 :: t = 0 :: t from rfl, cnt_cons, if_pos (by simp)]
    rfl
  | l :: ls, t, 0, _, h => by simp at h
  | l :: ls, t, n + 1, hl, h => by
    have hl1 := hl l (by simp)
    have hu : (UInt8.ofNat l.length).toNat = l.length := by rw [UInt8.toNat_ofNat']; omega
    have ih := nmGo_flat ls t n (fun x hx => hl x (by simp [hx])) (by simp at h; omega)
    have e : flat (l :: ls) ++ 0 :: t = UInt8.ofNat l.length :: (l ++ (flat ls ++ 0 :: t)) := by simp [flat]
    rw [nmGo, e, cnt_cons, hu, if_pos (by simp)]
    simp only
    rw [if_neg (by omega), drop_cons _ l (flat ls ++ 0 :: t) l.length rfl, ih]
    simp [flat]; omega
theorem flat_long : ∀ (ls : List (List UInt8)), ls.length ≤ (flat ls).length
  | [] => by simp
  | l :: ls => by have := flat_long ls; simp [flat]; omega
theorem name_app {x : ByteArray} (h : IsName x) (t : ByteArray) : nameK (x ++ t) = some x.size := by
  have h' := h
  obtain ⟨ls, ho, rfl⟩ := h
  have e : nm ls ++ t = ⟨(flat ls ++ 0 :: t.data.toList).toArray⟩ := by
    apply ba_ext
    rw [app_list, nm_list, nmL]; simp
  have hg := nmGo_flat ls t.data.toList ((nm ls ++ t).size + 1) ho.lab (by have := flat_long ls; rw [app_size, nm_size]; omega)
  rw [← e] at hg
  unfold nameK
  rw [hg, ← nm_size]
  simp only
  rw [if_pos (by rw [app_first]; exact h')]
theorem nameK_ok {s : ByteArray} {m : Nat} (h : nameK s = some m) : m ≤ s.size ∧ IsName (s.extract 0 m) := by
  unfold nameK at h
  cases hg : nmGo (s.size + 1) s with
  | none => rw [hg] at h; cases h
  | some j =>
    rw [hg] at h
    simp only at h
    split at h
    · cases h
      exact ⟨(nmGo_le _ _ _ hg).2, by assumption⟩
    · cases h
/-! ### pieces -/
def Good : PK → ByteArray → Prop
  | .num n, x => x.size = n
  | .grp c w _ _, x => x.size = c * w
  | .name, x => IsName x
  | .type, x => x.size = 2
  | .hex, x => 0 < x.size
  | .salt, x => cntK x = some x.size
  | .hash, x => cntK x = some x.size ∧ 1 < x.size
  | .types, x => (typesR x).isSome = true
  | .any, x => True
  | .strs, x => txtPf 0 x = some x.size
def delim : PK → Bool
  | .hex | .types | .any | .strs => false
  | _ => true
theorem take_ok {n m : Nat} {s : ByteArray} (h : takeK n s = some m) : m ≤ s.size ∧ (s.extract 0 m).size = n := by
  unfold takeK at h
  split at h
  · cases h
    rw [ByteArray.size_extract]
    omega
  · cases h
theorem take_app {n : Nat} {x : ByteArray} (h : x.size = n) (t : ByteArray) : takeK n (x ++ t) = some x.size := by
  unfold takeK
  rw [if_pos (by rw [app_size]; omega), h]
theorem pass_good (p : PK) (s : ByteArray) (m : Nat) (h : passK p s = some m) : m ≤ s.size ∧ Good p (s.extract 0 m) := by
  cases p with
  | num n => exact take_ok h
  | grp c w b sep => exact take_ok h
  | name => exact nameK_ok h
  | type => exact take_ok h
  | hex =>
    simp only [passK] at h
    split at h
    · cases h
      rw [cut_all]
      exact ⟨Nat.le_refl _, by assumption⟩
    · cases h
  | salt => exact ⟨(cnt_le h).2.1, cnt_cut h⟩
  | hash =>
    simp only [passK, hashK] at h
    cases hc : cntK s with
    | none => rw [hc] at h; cases h
    | some j =>
      rw [hc] at h
      simp only at h
      split at h
      · cases h
        have := cnt_le hc
        refine ⟨this.2.1, cnt_cut hc, ?_⟩
        rw [ByteArray.size_extract]
        omega
      · cases h
  | types =>
    simp only [passK] at h
    split at h
    · cases h
      rw [cut_all]
      exact ⟨Nat.le_refl _, by assumption⟩
    · cases h
  | any =>
    cases h
    exact ⟨Nat.le_refl _, trivial⟩
  | strs =>
    have h' : txtPf 0 s = some m := h
    have hm : m = s.size := by
      unfold txtPf at h'
      split at h'
      · cases h'; rfl
      · cases h'
    subst hm
    rw [cut_all]
    exact ⟨Nat.le_refl _, h'⟩
theorem good_app (p : PK) (hp : delim p = true) (x : ByteArray) (h : Good p x) (t : ByteArray) : passK p (x ++ t) = some x.size := by
  cases p with
  | num n => exact take_app h t
  | grp c w b sep => exact take_app h t
  | name => exact name_app h t
  | type => exact take_app h t
  | salt => exact cnt_app h t
  | hash =>
    simp only [passK, hashK]
    rw [cnt_app h.1 t]
    simp only
    rw [if_pos h.2]
  | hex => cases hp
  | types => cases hp
  | any => cases hp
  | strs => cases hp
theorem good_self (p : PK) (x : ByteArray) (h : Good p x) : passK p x = some x.size := by
  cases hp : delim p with
  | true =>
    have := good_app p hp x h ⟨#[]⟩
    rwa [app_empty] at this
  | false =>
    cases p with
    | hex => exact if_pos h
    | types => exact if_pos h
    | any => rfl
    | strs => exact h
    | num n => cases hp
    | grp c w b sep => cases hp
    | name => cases hp
    | type => cases hp
    | salt => cases hp
    | hash => cases hp
def AllGood : List PK → List ByteArray → Prop
  | [], [] => True
  | p :: ps, x :: xs => Good p x ∧ AllGood ps xs
  | _, _ => False
theorem AllGood.len : ∀ {F : List PK} {xs : List ByteArray}, AllGood F xs → xs.length = F.length
  | [], [], _ => rfl
  | p :: F, x :: xs, h => by have := AllGood.len h.2; simp [this]
  | [], _ :: _, h => h.elim
  | _ :: _, [], h => h.elim
noncomputable def cutF : List PK → ByteArray → Option (List ByteArray × ByteArray)
  | [], s => some ([], s)
  | p :: F, s => match passK p s with
    | none => none
    | some m => (cutF F (s.extract m s.size)).map fun r => (s.extract 0 m :: r.1, r.2)
theorem cutF_sound : ∀ (F : List PK) (s : ByteArray) (r : List ByteArray × ByteArray), cutF F s = some r → s = cat r.1 ++ r.2 ∧ AllGood F r.1
  | [], s, r, h => by cases h; exact ⟨(empty_app s).symm, trivial⟩
  | p :: F, s, r, h => by
    rw [cutF] at h
    cases hp : passK p s with
    | none => rw [hp] at h; cases h
    | some m =>
      rw [hp] at h
      simp only [Option.map_eq_some_iff] at h
      obtain ⟨q, hq, rfl⟩ := h
      obtain ⟨h1, h2⟩ := cutF_sound F _ q hq
      obtain ⟨hm, hg⟩ := pass_good p s m hp
      refine ⟨?_, hg, h2⟩
      conv => lhs; rw [split_at s m hm, h1]
      show s.extract 0 m ++ (cat q.1 ++ q.2) = (s.extract 0 m ++ cat q.1) ++ q.2
      rw [ByteArray.append_assoc]
def delims : List PK → Bool
  | [] => true
  | [_] => true
  | p :: F => delim p && delims F
theorem cutF_cat : ∀ (F : List PK) (xs : List ByteArray), delims F = true → AllGood F xs → cutF F (cat xs) = some (xs, ⟨#[]⟩)
  | [], [], _, _ => rfl
  | [], _ :: _, _, h => h.elim
  | _ :: _, [], _, h => h.elim
  | [p], x :: xs, _, h => by
    obtain ⟨h1, h2⟩ := h
    cases xs with
    | cons y ys => exact h2.elim
    | nil =>
      rw [cat_one, cutF, good_self p x h1]
      simp only [cutF, Option.map_some]
      rw [cut_all, end_cut]
  | p :: q :: F, x :: xs, hd, h => by
    obtain ⟨h1, h2⟩ := h
    rw [show delims (p :: q :: F) = (delim p && delims (q :: F)) from rfl, Bool.and_eq_true] at hd
    rw [cutF, cat, good_app p hd.1 x h1]
    simp only
    rw [app_first, app_rest, cutF_cat (q :: F) xs hd.2 h2]
    rfl
theorem cutP_eq : ∀ (F : List PK) (pf : Nat → ByteArray → Option Nat) (k : Nat) (s : ByteArray), (∀ j p, F[j]? = some p → pf (k + j) = passK p) → cutP pf F.length k s = cutF F s
  | [], pf, k, s, _ => rfl
  | p :: F, pf, k, s, h => by
    have h0 : pf k = passK p := h 0 p rfl
    rw [List.length_cons, cutP, cutF, h0]
    cases passK p s with
    | none => rfl
    | some m =>
      simp only
      rw [cutP_eq F pf (k + 1) _ (fun j q hj => by rw [show k + 1 + j = k + (j + 1) by omega]; exact h (j + 1) q hj)]
noncomputable def pfK (F : List PK) : Nat → ByteArray → Option Nat := fun j s => match F[j]? with
  | some p => passK p s
  | none => none
theorem form_delims (k : Int) : delims (formOf k) = true := by
  unfold formOf
  repeat' split
  all_goals rfl
theorem form_len (k : Int) : (formOf k).length ≤ 20 ∧ 1 ≤ (formOf k).length := by
  unfold formOf
  repeat' split
  all_goals simp
noncomputable def splitR (k : Int) (s : ByteArray) : Option (List ByteArray) := if (0 ≤ k ∧ k ≤ 65535) ∧ s.size ≤ 2000 then fin (pfK (formOf k)) (formOf k).length s else none
theorem fin_eq (F : List PK) (s : ByteArray) : fin (pfK F) F.length s = match cutF F s with
    | none => none
    | some r => if r.2.size = 0 then some r.1 else none := by
  unfold fin
  rw [cutP_eq F (pfK F) 0 s (fun j p hj => by funext x; rw [Nat.zero_add, pfK, hj])]
  cases cutF F s <;> rfl
theorem split_iff (k : Int) (s : ByteArray) (xs : List ByteArray) : splitR k s = some xs ↔ (0 ≤ k ∧ k ≤ 65535) ∧ s.size ≤ 2000 ∧ s = cat xs ∧ AllGood (formOf k) xs := by
  unfold splitR
  constructor
  · intro h
    split at h
    · rename_i hk
      rw [fin_eq] at h
      cases hc : cutF (formOf k) s with
      | none => rw [hc] at h; cases h
      | some r =>
        rw [hc] at h
        simp only at h
        split at h
        · rename_i h0
          cases h
          obtain ⟨h1, h2⟩ := cutF_sound _ _ _ hc
          refine ⟨hk.1, hk.2, ?_, h2⟩
          rw [ba_empty _ h0, app_empty] at h1
          exact h1
        · cases h
    · cases h
  · rintro ⟨hk, hs, rfl, hg⟩
    rw [if_pos ⟨hk, hs⟩, fin_eq, cutF_cat _ _ (form_delims k) hg]
    rfl
theorem split_none (k : Int) (s : ByteArray) (h : ¬ ((0 ≤ k ∧ k ≤ 65535) ∧ s.size ≤ 2000)) : splitR k s = none := if_neg h
end Go.Proofs.YtnchoogjjnjikaaGreatDoor
/- split and Right, of every type. -/
namespace Go.Proofs.YtnchoogjjnjikaaGreatDoor
set_option linter.unusedVariables false
open Go.RowKit
theorem raw_all (k : Int) (w : World) : Calls Tryz.prog 91 #[.int .i64 k] w fun e w' => RawPost (formOf k) w e w' := by
  unfold formOf
  split
  · rename_i h; subst h; exact raw_A w
  · split
    · rename_i h; subst h; exact raw_AAAA w
    · split
      · rename_i h; exact raw_name k h w
      · split
        · rename_i h; subst h; exact raw_SOA w
        · split
          · rename_i h; subst h; exact raw_MX w
          · split
            · rename_i h; subst h; exact raw_TXT w
            · split
              · rename_i h
                rcases h with rfl | rfl
                · exact raw_DS w
                · exact raw_KEY w
              · split
                · rename_i h; subst h; exact raw_SIG w
                · split
                  · rename_i h; subst h; exact raw_NSEC w
                  · split
                    · rename_i h; subst h; exact raw_NSEC3 w
                    · refine raw_any k ?_ w
                      simp only [tabled, Bool.or_eq_false_iff, beq_eq_false_iff_ne]
                      omega
theorem typesPass_in (W : World) (d : Nat) (s : ByteArray) (hs : s.size ≤ 2000) (h : Rd W d s) :
    Calls Tryz.prog 164 #[boxV d] W fun e w' => PassPost (if (typesR s).isSome then some s.size else none) s d W w' e := by
  have T := Hid.mk (all_in W d s (by unfold maxLen; omega) h)
  have hr1 := Hid.mk (h.set ⟨#[]⟩)
  have hk1 := Hid.mk (Kept.set d 0 W (.string ⟨#[]⟩))
  have HT := Hid.mk (fun w => typesOf_in w s hs)
  have hec := Hid.mk (end_cut s)
  cases hr : typesR s with
  | some l =>
    rw [hr] at HT
    go_enter Tryz.func164, Tryz.ntmps164
    go_wp2_with fail
    refine T.out.mono ?_
    rintro e w1 ⟨rfl, rfl⟩
    go_wp2_with fail
    refine (HT.out _).mono ?_
    rintro e w2 ⟨⟨v, rfl, _⟩, hb2⟩
    go_wp2
    refine bodyPost_end (results_none rfl _ _ _) rfl ⟨Nat.le_refl _, rfl, ?_, hk1.out.trans (Kept.of_below hb2)⟩
    rw [hec.out]; exact hr1.out.below hb2
  | none =>
    rw [hr] at HT
    go_enter Tryz.func164, Tryz.ntmps164
    go_wp2_with fail
    refine T.out.mono ?_
    rintro e w1 ⟨rfl, rfl⟩
    go_wp2_with fail
    refine (HT.out _).mono ?_
    rintro e w2 ⟨rfl, hb2⟩
    go_wp2
    exact ⟨rfl, rfl, hk1.out.trans (Kept.of_below hb2)⟩
theorem grpPassG_in (W : World) (b d c wd bs : Nat) (sp : UInt8) (hb : GrpB W b c wd bs sp) (hn : c * wd ≤ 100) (hc : c ≤ 100) (hw : wd ≤ 100) (s : ByteArray) (hs : s.size ≤ 2000) (h : Rd W d s) :
    Calls Tryz.prog 143 #[boxV d, boxV b, boxV (b + 1)] W fun e w' => PassPost (takeK (c * wd) s) s d W w' e := by
  have c0 := box_cell hb.cnt
  have c1 := box_cell hb.wid
  have hm : IntKind.i64.wrap ((c : Int) * (wd : Int)) = ((c * wd : Nat) : Int) := by rw [IntKind.wrap_i64, Int.natCast_mul]; omega
  have T := Hid.mk (take_post W d (c * wd) s hs hn h)
  have hmul : (c : Int) * (wd : Int) = ((c * wd : Nat) : Int) := by rw [Int.natCast_mul]
  cases hr : takeK (c * wd) s with
  | some m =>
    rw [hr] at T
    clear hr
    generalize c * wd = q at hm T hmul hn
    go_enter Tryz.func143, Tryz.ntmps143
    go_wp2_with fail
    refine T.out.mono ?_
    rintro e w1 ⟨hm, rfl, hr1, hk1⟩
    go_wp2
    exact bodyPost_end (results_none rfl _ _ _) rfl ⟨hm, rfl, hr1, hk1⟩
  | none =>
    rw [hr] at T
    clear hr
    generalize c * wd = q at hm T hmul hn
    go_enter Tryz.func143, Tryz.ntmps143
    go_wp2_with fail
    refine T.out.mono ?_
    rintro e w1 ⟨rfl, hk1⟩
    go_wp2
    exact ⟨rfl, rfl, hk1⟩
theorem GrpB.below {W W' : World} {b c wd bs : Nat} {sp : UInt8} (h : GrpB W b c wd bs sp) (k : Below W.heap.size W W') : GrpB W' b c wd bs sp :=
  ⟨(k.block _ (box_lt h.cnt)).trans h.cnt, (k.block _ (box_lt h.wid)).trans h.wid, (k.block _ (box_lt h.bas)).trans h.bas, (k.block _ (box_lt h.btw)).trans h.btw⟩
theorem pass_in (n₀ : Nat) (w' W' : World) (p : Part) (k : PK) (hp : PartIs n₀ w' p k) (hg : ∀ c w b s, k = .grp c w b s → c ≤ 100 ∧ w ≤ 100) (hb : Below w'.heap.size w' W') (d : Nat) (s : ByteArray) (hr : Rd W' d s) (hs : s.size ≤ 2000) :
    Calls Tryz.prog p.pass (#[boxV d] ++ p.passC) W' fun e w'' => PassPost (passK k s) s d W' w'' e := by
  cases k with
  | num n =>
    obtain ⟨b, _, rfl, hn, ho⟩ := hp
    exact numPass_in W' b d n hn ((hb.block _ (box_lt ho)).trans ho) s hs hr
  | grp c w b sp =>
    obtain ⟨x, _, rfl, hn, ho⟩ := hp
    obtain ⟨hc, hw⟩ := hg c w b sp rfl
    exact grpPassG_in W' x d c w b sp (ho.below hb) hn hc hw s hs hr
  | name => obtain rfl := hp; exact passName_in W' d s hs hr
  | type => obtain rfl := hp; exact typePass_in W' d s hs hr
  | hex => obtain rfl := hp; exact hexPass_in W' d s hs hr
  | salt => obtain rfl := hp; exact saltPass_in W' d s hs hr
  | hash => obtain rfl := hp; exact hashPass_in W' d s hs hr
  | types => obtain rfl := hp; exact typesPass_in W' d s hs hr
  | any => obtain rfl := hp; exact anyPass_in W' d s hs hr
  | strs => obtain rfl := hp; exact passStrings_in W' d s hs hr
theorem pass_enters (n₀ : Nat) (w' : World) (p : Part) (k : PK) (hp : PartIs n₀ w' p k) : Enters p.pass := by
  cases k with
  | num n => obtain ⟨b, _, rfl, _⟩ := hp; exact enters_by Tryz.func137 (by kernel_rfl) rfl
  | grp c w b sp => obtain ⟨x, _, rfl, _⟩ := hp; exact enters_by Tryz.func143 (by kernel_rfl) rfl
  | name => obtain rfl := hp; exact enters_by Tryz.func147 (by kernel_rfl) rfl
  | type => obtain rfl := hp; exact enters_by Tryz.func158 (by kernel_rfl) rfl
  | hex => obtain rfl := hp; exact enters_by Tryz.func153 (by kernel_rfl) rfl
  | salt => obtain rfl := hp; exact enters_by Tryz.func167 (by kernel_rfl) rfl
  | hash => obtain rfl := hp; exact enters_by Tryz.func171 (by kernel_rfl) rfl
  | types => obtain rfl := hp; exact enters_by Tryz.func164 (by kernel_rfl) rfl
  | any => obtain rfl := hp; exact enters_by Tryz.func176 (by kernel_rfl) rfl
  | strs => obtain rfl := hp; exact enters_by Tryz.func150 (by kernel_rfl) rfl
theorem form_grp (k : Int) : ∀ p ∈ formOf k, ∀ c w b s, p = PK.grp c w b s → c ≤ 100 ∧ w ≤ 100 := by
  unfold formOf
  repeat' split
  all_goals
    intro p hp c w b s e
    subst e
    simp at hp
    try omega
theorem parts_all (k : Int) (w : World) : Calls Tryz.prog 91 #[.int .i64 k] w fun e w' => PartsPost (formOf k).length (pfK (formOf k)) w e w' := by
  refine (raw_all k w).mono ?_
  rintro e w' ⟨g, ps, rfl, hg, hc, hp, hb⟩
  have hl := hp.len
  refine ⟨g, fun j => ps.getD j default, rfl, by rw [← hl]; exact parts_in hc, ?_, ?_, hb⟩
  · intro j hj
    exact pass_enters _ _ _ _ (hp.at j _ (List.getElem?_eq_getElem hj))
  · intro j hj W' d s' hb' _ hr hs
    have hpf : pfK (formOf k) j s' = passK (formOf k)[j] s' := by
      unfold pfK
      rw [List.getElem?_eq_getElem hj]
    rw [hpf]
    exact pass_in _ _ _ _ _ (hp.at j _ (List.getElem?_eq_getElem hj)) (form_grp k _ (List.getElem_mem hj)) hb' d s' hr hs
theorem split_all (k : Int) (s : ByteArray) (hm : s.size ≤ maxLen) (W : World) : Calls Tryz.prog 57 #[.int .i64 k, .string s] W fun e w' => SplitPost (splitR k s) W e w' := by
  by_cases h : (0 ≤ k ∧ k ≤ 65535) ∧ s.size ≤ 2000
  · rw [splitR, if_pos h]
    exact split_in W (formOf k).length (form_len k).1 k h.1 s h.2 _ (parts_all k)
  · rw [split_none k s h]
    refine split_long W k s hm ?_
    by_cases hk : 0 ≤ k ∧ k ≤ 65535
    · exact .inr (by apply Decidable.byContradiction; intro hl; exact h ⟨hk, by omega⟩)
    · exact .inl (by simp; omega)
theorem right_all (k : Int) (s : ByteArray) (hm : s.size ≤ maxLen) (W : World) : Calls Tryz.prog 182 #[.int .i64 k, .string s] W fun e w' => e = .returned (.bool (splitR k s).isSome) ∧ Below W.heap.size W w' :=
  right_of (split_all k s hm) W
end Go.Proofs.YtnchoogjjnjikaaGreatDoor
/- joined: data of pieces that are put down; slices.Equal. -/
namespace Go.Proofs.YtnchoogjjnjikaaGreatDoor
set_option linter.unusedVariables false
open Go.RowKit
def TextsAt (W : World) (v : Value) (l : List ByteArray) : Prop := ∃ q c, v = .slice q l.length c ∧ ∀ j (h : j < l.length), ∃ g, q = some ⟨g, 0, none⟩ ∧ g < W.heap.size ∧ W.cell? ⟨g, j, none⟩ = some (.string l[j])
theorem texts_of_row {W : World} {n₀ : Nat} {e : TypeId} {v : Value} {l : List ByteArray} (h : W.ownsRow n₀ e 1 v l.length (baV l)) : TextsAt W v l := by
  obtain ⟨q, c, rfl⟩ := row_as h
  exact ⟨q, c, rfl, fun j hj => row_cell h j hj⟩
theorem ba_ne {x y : ByteArray} (h : x ≠ y) : (x.toList == y.toList) = false ∧ (x.toList != y.toList) = true := by
  have hn : ¬ x.toList = y.toList := fun e => h (ba_ext (by rw [← ByteArray.toList_eq, ← ByteArray.toList_eq]; exact e))
  exact ⟨by simpa using hn, by simpa using hn⟩
set_option maxRecDepth 100000 in
set_option maxHeartbeats 2000000 in
theorem equal_in (W : World) (va vb : Value) (a b : List ByteArray) (ha : TextsAt W va a) (hb : TextsAt W vb b) (hla : a.length ≤ 1000) (hlb : b.length ≤ 1000) :
    Calls Tryz.prog 58 #[va, vb] W fun e w' => e = .returned (.bool (decide (a = b))) ∧ Below W.heap.size W w' := by
  obtain ⟨qa, ca, rfl, hca⟩ := ha
  obtain ⟨qb, cb, rfl, hcb⟩ := hb
  have hmo : Tryz.prog.follows Departure.mixedOrders = true := by kernel_rfl
  obtain ⟨D, hDe⟩ : ∃ D, decide (a = b) = D := ⟨_, rfl⟩
  rw [hDe]
  have HDE := Hid.mk hDe
  clear hDe
  by_cases hn : a.length = b.length
  · have HCA := Hid.mk hca
    have HCB := Hid.mk hcb
    have HN := Hid.mk hn
    have hnb : ((a.length : Int) != (b.length : Int)) = false := by rw [hn]; simp
    clear hca hcb hn
    go_enter Tryz.func58, Tryz.ntmps58
    go_wp2
    go_loopw [13] (fun iv wr => ∃ m : Nat, m ≤ a.length ∧ iv = .int .i64 m ∧ Hid (a.take m = b.take m) ∧ Below W.heap.size W wr) (fun iv _ => a.length - (intOf iv).toNat)
    case atStart => exact ⟨0, Nat.zero_le _, rfl, rfl, Below.refl _ _⟩
    case round =>
      obtain ⟨m, hm, rfl, HE, hbl⟩ := hrel
      by_cases hlt : m < a.length
      · have hltb : m < b.length := by have := HN.out; omega
        obtain ⟨ga, hqa, hga, hxa⟩ := HCA.out m hlt
        obtain ⟨gb, hqb, hgb, hxb⟩ := HCB.out m hltb
        subst hqa hqb
        have cA := (hbl.cell (p := ⟨ga, m, none⟩) hga).trans hxa
        have cB := (hbl.cell (p := ⟨gb, m, none⟩) hgb).trans hxb
        have hi0 : (0 : Int) ≤ (m : Int) := by omega
        have hi1 : (m : Int) < (a.length : Int) := by omega
        have hi2 : (m : Int) < (b.length : Int) := by omega
        have HTA : Hid (a.take (m + 1) = a.take m ++ [a[m]]) := List.take_succ_eq_append_getElem hlt
        have HTB : Hid (b.take (m + 1) = b.take m ++ [b[m]]) := List.take_succ_eq_append_getElem hltb
        have HNE : Hid (a[m] ≠ b[m] → a ≠ b) := by
          intro h e
          subst e
          exact h rfl
        clear hxa hxb
        generalize a[m] = x at cA HTA HNE
        generalize b[m] = y at cB HTB HNE
        by_cases hxy : x = y
        · subst hxy
          have hs1 : (x.toList == x.toList) = true := by simp
          have hs2 : (x.toList != x.toList) = false := by simp
          have HNX : Hid (a.take (m + 1) = b.take (m + 1)) := by rw [Hid, HTA.out, HTB.out, HE.out]
          go_wp2
          go_region
          go_wp2
          exact ⟨⟨m + 1, by omega, by go_num, HNX, hbl.drew⟩, by simp [intOf]; omega⟩
        · obtain ⟨hs1, hs2⟩ := ba_ne hxy
          have HD : Hid (D = false) := by rw [Hid, ← HDE.out, decide_eq_false_iff_not]; exact HNE.out hxy
          clear hxy
          go_wp2
          go_region
          go_wp2
          go_ret
          exact ⟨by rw [HD.out]; rfl, hbl.drew⟩
      · obtain rfl : m = a.length := by omega
        have hab : a = b := by
          have := HE.out
          rw [List.take_length] at this
          rw [HN.out, List.take_length] at this
          exact this
        have HD : Hid (D = true) := by rw [Hid, ← HDE.out, decide_eq_true_iff]; exact hab
        clear hab
        go_wp2
        go_ret
        exact ⟨by rw [HD.out]; rfl, hbl⟩
  · have HD : Hid (D = false) := by rw [Hid, ← HDE.out, decide_eq_false_iff_not]; exact fun e => hn (by rw [e])
    have hnb : ((a.length : Int) != (b.length : Int)) = true := by rw [bne_iff_ne]; omega
    clear hn
    go_enter Tryz.func58, Tryz.ntmps58
    go_wp2
    go_ret
    exact ⟨by rw [HD.out]; rfl, Below.refl _ _⟩
def PutPost (R : Option (List ByteArray)) (W : World) (e : Ending) (w' : World) : Prop := (match R with
  | some ps => ∃ v, e = .returned v ∧ w'.ownsRow W.heap.size 9 1 v ps.length (baV ps)
  | none => e = .panicked mustV) ∧ Below W.heap.size W w'
set_option maxRecDepth 100000 in
theorem joined1_in (W : World) (bf bp f : Nat) (caps : Array Value) (hen : Enters f) (R : Option (List ByteArray)) (v0 : Value) (hf : W.heap[bf]? = some (.cells #[fnV f caps] 66 (0, 0))) (hp : W.heap[bp]? = some (.cells #[v0] 24 (0, 0)))
    (hput : Calls Tryz.prog f caps W fun e w' => PutPost R W e w') :
    Calls Tryz.prog 55 #[boxV bf, boxV bp] W fun e w' => WorkPost R bp W e w' := by
  have cf := box_cell hf
  have HP := Hid.mk hput
  have hent := hen
  dsimp only [Enters] at hent
  clear hput
  cases R with
  | none =>
    go_enter Tryz.func55, Tryz.ntmps55
    go_wp2_with fail
    refine HP.out.mono ?_
    rintro e w1 ⟨rfl, hb1⟩
    go_wp2
    exact ⟨rfl, ⟨rfl, hb1.block bp (box_lt hp)⟩, Kept.of_below hb1⟩
  | some ps =>
    go_enter Tryz.func55, Tryz.ntmps55
    go_wp2_with fail
    refine HP.out.mono ?_
    rintro e w1 ⟨⟨v, rfl, hrow⟩, hb1⟩
    obtain ⟨q, c, hv⟩ := row_as hrow
    subst hv
    have hp1 := (hb1.block bp (box_lt hp)).trans hp
    have cp1 := box_cell hp1
    have fp1 := box_frozen hp1
    go_wp2
    refine bodyPost_end (results_none rfl _ _ _) rfl ⟨⟨rfl, _, ?_, box_set hp1 _⟩, (Kept.of_below hb1).trans (Kept.set _ _ _ _)⟩
    exact row_kept' hrow (Kept.set _ _ _ _) (box_lt hp)
set_option maxRecDepth 100000 in
set_option maxHeartbeats 2000000 in
theorem soundJoin_in (W : World) (bf bp f : Nat) (caps : Array Value) (hen : Enters f) (R : Option (List ByteArray)) (v0 : Value) (hf : W.heap[bf]? = some (.cells #[fnV f caps] 66 (0, 0))) (hp : W.heap[bp]? = some (.cells #[v0] 24 (0, 0)))
    (hput : ∀ W', Below W.heap.size W W' → Calls Tryz.prog f caps W' fun e w' => PutPost R W' e w') :
    Calls Tryz.prog 54 #[fnV 55 #[boxV bf, boxV bp]] W fun e w' => SoundPost R bp W e w' := by
  have hmf := mkf
  have hal : ∀ o, Below W.heap.size W (W.alloc o) := fun o => (Below.refl _ _).alloc (Nat.le_refl _) o
  have HW := Hid.mk (fun (o : Obj) => joined1_in (W.alloc o) bf bp f caps hen R v0 (((hal o).block bf (box_lt hf)).trans hf) (((hal o).block bp (box_lt hp)).trans hp) (hput _ (hal o)))
  clear hput
  cases R with
  | none =>
    go_enter_defers Tryz.func54, Tryz.ntmps54
    go_wp2_with fail
    refine (HW.out _).mono ?_
    rintro e w1 ⟨⟨rfl, hb⟩, hkp⟩
    have hbox : w1.heap[W.heap.size]? = some (.cells #[.bool false] 4 (0, 0)) := (hkp.same _ (by simp) (by have := box_lt hp; omega)).trans (heap_new _ _)
    go_wp2
    refine leaves_cons (f := 84) (args := #[boxV W.heap.size]) (by simp) (by simp [go_sem]) ?_
    refine (catch_panic W.heap.size w1 false hbox []).mono ?_
    rintro e u' w2 ⟨rfl, rfl, rfl⟩
    have hbp := box_lt hp
    have hs2 := box_cell (box_set hbox (.bool false))
    simp [Leaves, settle, results, Tryz.results54, go_sem, hs2]
    refine ⟨⟨rfl, ?_⟩, kept_box hkp _⟩
    rw [Below.heap_setCell w1 ⟨W.heap.size, 0, none⟩ _ bp (show bp ≠ W.heap.size by omega), hb, alloc_old W _ bp hbp]
  | some ps =>
    go_enter_defers Tryz.func54, Tryz.ntmps54
    go_wp2_with fail
    refine (HW.out _).mono ?_
    rintro e w1 ⟨⟨rfl, v, hrow, hb⟩, hkp⟩
    have hbox : w1.heap[W.heap.size]? = some (.cells #[.bool false] 4 (0, 0)) := (hkp.same _ (by simp) (by have := box_lt hp; omega)).trans (heap_new _ _)
    have hbc := box_cell hbox
    have hbf := box_frozen hbox
    go_wp2
    refine leaves_cons (f := 84) (args := #[boxV W.heap.size]) (by simp) (by simp [go_sem]) ?_
    refine (catch_idle W.heap.size _).mono ?_
    rintro e u' w2 ⟨rfl, rfl, rfl⟩
    have hbp := box_lt hp
    have hs2 := box_cell (box_set hbox (.bool true))
    simp [Leaves, settle, results, Tryz.results54, go_sem, hs2]
    refine ⟨⟨rfl, v, ?_, ?_⟩, kept_box hkp _⟩
    · refine row_down (n₁ := (W.alloc (.cells #[.bool false] 4)).heap.size) (row_kept' hrow (Kept.set _ _ _ _) (by simp)) (by simp)
    · rw [Below.heap_setCell w1 ⟨W.heap.size, 0, none⟩ _ bp (show bp ≠ W.heap.size by omega)]; exact hb
noncomputable def joinR (k : Int) (R : Option (List ByteArray)) : Option ByteArray := match R with
  | none => none
  | some ps => if splitR k (cat ps) = some ps then some (cat ps) else none
def strOf (r : Option ByteArray) : ByteArray := r.getD ⟨#[]⟩
def errOf (r : Option ByteArray) : Int := if r.isSome then 0 else 6
set_option maxRecDepth 100000 in
set_option maxHeartbeats 2000000 in
theorem joined_in (W : World) (k : Int) (f : Nat) (caps : Array Value) (hen : Enters f) (R : Option (List ByteArray)) (hsz : ∀ ps, R = some ps → ps.length ≤ 20 ∧ (cat ps).size ≤ 1000000)
    (hput : ∀ W', Below W.heap.size W W' → Calls Tryz.prog f caps W' fun e w' => PutPost R W' e w') :
    Calls Tryz.prog 33 #[.int .i64 k, fnV f caps] W fun e w' => e = .returned (.tuple #[.string (strOf (joinR k R)), .int .i64 (errOf (joinR k R))]) ∧ Below W.heap.size W w' := by
  have hmf := mkf
  obtain ⟨W2, hW2⟩ : ∃ W2, W2 = (W.alloc (.cells #[fnV f caps] 66)).alloc (.cells #[.slice none 0 0] 24) := ⟨_, rfl⟩
  have hf2 : W2.heap[W.heap.size]? = some (.cells #[fnV f caps] 66 (0, 0)) := by
    rw [hW2, alloc_old _ _ _ (by simp)]; exact heap_new _ _
  have hp2 : W2.heap[W.heap.size + 1]? = some (.cells #[.slice none 0 0] 24 (0, 0)) := by
    rw [hW2]
    have := heap_new (W.alloc (.cells #[fnV f caps] 66)) (.cells #[.slice none 0 0] 24)
    rwa [World.size_alloc] at this
  have hsz2 : W2.heap.size = W.heap.size + 2 := by rw [hW2]; simp
  have hbl2 : Below W.heap.size W W2 := by
    rw [hW2]; exact ((Below.refl _ _).alloc (Nat.le_refl _) _).alloc (by simp) _
  have HS := Hid.mk (soundJoin_in W2 W.heap.size (W.heap.size + 1) f caps hen R _ hf2 hp2 (fun W' hb => hput W' (bth hbl2 hb hbl2.size)))
  have HP2 := Hid.mk hp2
  have HW2 := Hid.mk hW2
  have HSZ := Hid.mk hsz2
  clear hf2 hput hp2 hW2 hsz2
  cases R with
  | none =>
    go_enter Tryz.func33, Tryz.ntmps33
    go_wp2_with fail
    rw [← HW2.out]
    refine HS.out.mono ?_
    rintro e w2 ⟨⟨rfl, hb⟩, hkp⟩
    go_wp2
    go_ret2
    exact ⟨rfl, hbl2.trans (hkp.below (n := W.heap.size) (by omega) (by have := HSZ.out; omega))⟩
  | some ps =>
    obtain ⟨hpl, hcz⟩ := hsz ps rfl
    have HSP := Hid.mk (split_all k (cat ps) (by unfold maxLen; omega))
    have hjl : (Lib.join (ps.map (·.data.toList)) []).length ≤ 1000000 := by
      have h1 := hcz
      rw [← cat_join, ba_size] at h1
      exact h1
    have HJL := Hid.mk hjl
    obtain ⟨J, hJ⟩ : ∃ J, joinR k (some ps) = J := ⟨_, rfl⟩
    rw [hJ]
    have HJ := Hid.mk hJ
    clear hJ hjl hsz
    go_enter Tryz.func33, Tryz.ntmps33
    go_wp2_with fail
    rw [← HW2.out]
    refine HS.out.mono ?_
    rintro e w2 ⟨⟨rfl, v, hrow, hb⟩, hkp⟩
    obtain ⟨q, c, hv⟩ := row_as hrow
    subst hv
    have hc2 := box_cell hb
    have hbl3 : Below W.heap.size W w2 := hbl2.trans (hkp.below (n := W.heap.size) (by omega) (by have := HSZ.out; omega))
    have HJO := Hid.mk (join_row ⟨#[]⟩ hrow (by omega) (by
      show (Lib.join (ps.map (·.data.toList)) []).length ≤ _
      have := HJL.out; omega))
    have hcj : (⟨(Lib.join (ps.map (·.data.toList)) (⟨#[]⟩ : ByteArray).data.toList).toArray⟩ : ByteArray) = cat ps := by rw [← cat_join]
    rw [hcj] at HJO
    clear hcj
    go_wp2_with fail
    refine HJO.out.mono ?_
    rintro e w3 ⟨rfl, hb3⟩
    have hb4 := (hb3.block _ (box_lt hb)).trans hb
    have hc3 := box_cell hb4
    have hrow3 := row_bel hrow hb3
    have hbl4 : Below W.heap.size W w3 := bth hbl3 hb3 hbl3.size
    cases hsp : splitR k (cat ps) with
    | none =>
      rw [hsp] at HSP
      have HJN : Hid (J = none) := by rw [Hid, ← HJ.out, joinR, if_neg (by rw [hsp]; simp)]
      clear hsp
      go_wp2_with fail
      refine (HSP.out _).mono ?_
      rintro e w4 ⟨rfl, hb5⟩
      go_wp2
      go_ret2
      exact ⟨by rw [HJN.out]; rfl, bth hbl4 hb5 hbl4.size⟩
    | some qs =>
      rw [hsp] at HSP
      have hql : qs.length ≤ 20 := by
        have := ((split_iff k _ qs).1 hsp).2.2.2.len
        have := (form_len k).1
        omega
      have HJN : Hid (J = if qs = ps then some (cat ps) else none) := by
        rw [Hid, ← HJ.out, joinR, hsp]
        by_cases e : qs = ps
        · rw [if_pos e, e, if_pos rfl]
        · rw [if_neg e, if_neg (fun h => e (Option.some.inj h))]
      clear hsp
      go_wp2_with fail
      refine (HSP.out _).mono ?_
      rintro e w4 ⟨⟨v5, rfl, hrow5⟩, hb5⟩
      have hta := texts_of_row hrow5
      have htb := texts_of_row (row_bel hrow3 hb5)
      have hc5 := box_cell ((hb5.block _ (box_lt hb4)).trans hb4)
      have HEQ := Hid.mk (equal_in w4 _ _ qs ps hta htb (by omega) (by omega))
      obtain ⟨q5, c5, hv5⟩ := row_as hrow5
      subst hv5
      have hbl5 : Below W.heap.size W w4 := bth hbl4 hb5 hbl4.size
      clear hta htb
      by_cases heq : qs = ps
      · rw [if_pos heq] at HJN
        rw [show decide (qs = ps) = true by simp [heq]] at HEQ
        clear heq
        go_wp2_with fail
        refine HEQ.out.mono ?_
        rintro e w6 ⟨rfl, hb6⟩
        go_wp2
        go_ret2
        exact ⟨by rw [HJN.out]; rfl, bth hbl5 hb6 hbl5.size⟩
      · rw [if_neg heq] at HJN
        rw [show decide (qs = ps) = false by simp [heq]] at HEQ
        clear heq
        go_wp2_with fail
        refine HEQ.out.mono ?_
        rintro e w6 ⟨rfl, hb6⟩
        go_wp2
        go_ret2
        exact ⟨by rw [HJN.out]; rfl, bth hbl5 hb6 hbl5.size⟩
end Go.Proofs.YtnchoogjjnjikaaGreatDoor
/- Small letters in the names of data, on bytes alone. -/
namespace Go.Proofs.YtnchoogjjnjikaaGreatDoor
set_option linter.unusedVariables false
open Go.RowKit
end Go.Proofs.YtnchoogjjnjikaaGreatDoor
/- Names and Lower, of every type. -/
namespace Go.Proofs.YtnchoogjjnjikaaGreatDoor
set_option linter.unusedVariables false
open Go.RowKit
theorem row_store {W : World} {base n cap g j : Nat} {e : TypeId} {xs : List Value} (h : W.ownsRow base e 1 (.slice (some ⟨g, 0, none⟩) n cap) n xs) (hn : 0 < n) (u : Value) : (W.setCell ⟨g, j, none⟩ u).ownsRow base e 1 (.slice (some ⟨g, 0, none⟩) n cap) n (xs.set j u) := by
  obtain ⟨h1, h2⟩ := h
  refine ⟨by rw [List.length_set]; exact h1, ?_⟩
  rcases h2 with ⟨_, h0⟩ | ⟨g', cap', cur, hv, hb, hg, hc, hm, hz, ht⟩
  · omega
  · cases hv
    have hs : (W.setCell ⟨g, j, none⟩ u).heap[g]? = some (.cells (cur.setIfInBounds j u) e (0, 0)) := by
      simp only [World.setCell, Array.getElem?_modify, hg]
      rfl
    refine .inr ⟨g, cap, _, rfl, hb, hs, hc, hm, by simpa using hz, ?_⟩
    rw [← ht, Array.toList_setIfInBounds, List.take_set]
theorem row_frozen {W : World} {base n cap g j : Nat} {e : TypeId} {xs : List Value} (h : W.ownsRow base e 1 (.slice (some ⟨g, 0, none⟩) n cap) n xs) (hn : 0 < n) : W.frozen? ⟨g, j, none⟩ = false ∧ g < W.heap.size ∧ base ≤ g := by
  rcases h.2 with ⟨_, h0⟩ | ⟨g', cap', cur, hv, hb, hg, _⟩
  · omega
  · cases hv
    exact ⟨by simp [World.frozen?, hg], box_lt hg, hb⟩
end Go.Proofs.YtnchoogjjnjikaaGreatDoor
/- Lower, of every type. -/
namespace Go.Proofs.YtnchoogjjnjikaaGreatDoor
set_option linter.unusedVariables false
open Go.RowKit
theorem row_at {W : World} {n₀ n c g : Nat} {e : TypeId} {ps : List ByteArray} (h : W.ownsRow n₀ e 1 (.slice (some ⟨g, 0, none⟩) n c) n (baV ps)) (j : Nat) (x : ByteArray) (hj : ps[j]? = some x) : W.cell? ⟨g, j, none⟩ = some (.string x) := by
  obtain ⟨hl, hx⟩ := List.getElem?_eq_some_iff.1 hj
  obtain ⟨g', hg', _, hc⟩ := row_cell h j hl
  cases hg'
  rw [hc, hx]
end Go.Proofs.YtnchoogjjnjikaaGreatDoor