/- Texts of this proof, joined: McAf, McAg, McFa, McRn, McAp, McFc. -/
import Derived.Test.YtikjepodmdaknaaGreatDoorJ28
import Derived.Test.YtikjepodmdaknaaGreatDoorJ32
import Derived.Lib.ConvBytes
import Derived.Lib.SlBytesConst
import Derived.Test.YtikjepodmdaknaaGreatDoorJ2
import Derived.Test.YtikjepodmdaknaaGreatDoorJ33
import Derived.Laws.OwnMore
set_option linter.unusedVariables false
set_option linter.unusedSimpArgs false
/- Layer 17: what is told at one time. Facts alone. -/
namespace Go.Proofs.YtikjepodmdaknaaGreatDoor.Mc
open Go.RowKit
open Go.Proofs.YtikjepodmdaknaaGreatDoor.Rc (Ky AL Ev foundA getA toldE timB over getR without putR tim_iff getR_cons getR_without getR_without_same getR_put_same)
section
variable {now : Int}
def Sm (now : Int) (A B : AL) : Prop := ∀ k, foundA A k now = foundA B k now
theorem Sm.refl (A : AL) : Sm now A A := fun _ => rfl
theorem Sm.symm {A B : AL} (h : Sm now A B) : Sm now B A := fun k => (h k).symm
theorem Sm.trans {A B C : AL} (h : Sm now A B) (h' : Sm now B C) : Sm now A C := fun k => (h k).trans (h' k)
theorem sm_get (A : AL) (k : Ky) : Sm now (getA A k now) A := by
 intro j
 by_cases ht : timB now = true
 ·unfold Rc.foundA Rc.getA
  simp only [if_pos ht]
  cases h : getR A k with
  | none => rfl
  | some v =>
   by_cases e : j = k
   ·subst e
    rw [h]
    cases ho : over v now with
    | true =>
     simp only [ho, if_true]
     rw [getR_without_same]
    | false =>
     simp only [ho, Bool.false_eq_true, if_false]
     rw [getR_cons, if_pos rfl]
     simp only [ho, Bool.false_eq_true, if_false]
   ·have e2 : getR (if over v now = true then without A k else (k, v) :: without A k) j = getR A j := by
     split
     ·exact getR_without e
     ·rw [getR_cons, if_neg (fun e' => e e'.symm)]
      exact getR_without e
    simp only [e2]
 ·unfold Rc.foundA
  rw [if_neg ht, if_neg ht]
theorem fnd_sm : ∀ {ks : List Ky} {A B : AL} {ls : List Lk} {t : Int}, Sm now A B → (fndA now A ks ls t).2 = (fndA now B ks ls t).2 ∧ Sm now (fndA now A ks ls t).1 A
 | [], A, B, ls, t, h => ⟨rfl, Sm.refl _⟩
 | k :: ks, A, B, ls, t, h => by
  unfold fndA
  have e := h k
  cases hf : foundA A k now with
  | none =>
   rw [hf] at e
   rw [← e]
   exact ⟨rfl, sm_get A k⟩
  | some x =>
   rw [hf] at e
   rw [← e]
   obtain ⟨h1, h2⟩ := fnd_sm (ks := ks) (ls := ls ++ [⟨k, x.ve⟩]) (t := min t (toldE x now).s.tl) (((sm_get A k).trans h).trans (sm_get B k).symm)
   exact ⟨h1, h2.trans (sm_get A k)⟩
theorem fol_sm {un : Int} : ∀ {ls : List Lk} {A B : AL} {ss : List Sv}, Sm now A B → (folA now un A ls ss).2 = (folA now un B ls ss).2 ∧ Sm now (folA now un A ls ss).1 A
 | [], A, B, ss, h => ⟨rfl, Sm.refl _⟩
 | l :: ls, A, B, ss, h => by
  unfold folA
  have e := h (Rc.keyS l.k.1 l.k.2)
  cases hf : foundA A (Rc.keyS l.k.1 l.k.2) now with
  | none =>
   rw [hf] at e
   rw [← e]
   exact ⟨rfl, sm_get A _⟩
  | some x =>
   rw [hf] at e
   rw [← e]
   by_cases hv : x.ve = l.ve
   ·simp only [if_pos hv]
    obtain ⟨h1, h2⟩ := fol_sm (un := un) (ls := ls) (ss := ss ++ [tellS x now un]) (((sm_get A (Rc.keyS l.k.1 l.k.2)).trans h).trans (sm_get B (Rc.keyS l.k.1 l.k.2)).symm)
    exact ⟨h1, h2.trans (sm_get A _)⟩
   ·simp only [if_neg hv]
    exact ⟨trivial, sm_get A _⟩
theorem tel_sm {A B : AL} (h : Sm now A B) (y : Kn) : (telA A y now).2 = (telA B y now).2 ∧ Sm now (telA A y now).1 A := by
 unfold telA
 by_cases hy : y.un ≤ now
 ·simp only [if_pos hy]
  exact ⟨trivial, Sm.refl _⟩
 simp only [if_neg hy]
 obtain ⟨e1, s1⟩ := fol_sm (un := y.un) (ls := y.a) (ss := []) h
 obtain ⟨e1', s1'⟩ := fol_sm (un := y.un) (ls := y.a) (ss := []) h.symm
 generalize hA : folA now y.un A y.a [] = rA at e1 s1 e1'
 generalize hB : folA now y.un B y.a [] = rB at e1 s1' e1'
 obtain ⟨A1, oA⟩ := rA
 obtain ⟨B1, oB⟩ := rB
 obtain rfl : oA = oB := e1
 cases oA with
 | none => exact ⟨rfl, s1⟩
 | some ss =>
  obtain ⟨e2, s2⟩ := fol_sm (un := y.un) (ls := y.b) (ss := []) (show Sm now A1 B1 from (s1.trans h).trans s1'.symm)
  dsimp only
  generalize folA now y.un A1 y.b [] = qA at e2 s2
  generalize folA now y.un B1 y.b [] = qB at e2
  obtain ⟨A2, pA⟩ := qA
  obtain ⟨B2, pB⟩ := qB
  obtain rfl : pA = pB := e2
  cases pA with
  | none => exact ⟨rfl, s2.trans s1⟩
  | some ts => exact ⟨rfl, s2.trans s1⟩
theorem lrn_sm {A B : AL} (h : Sm now A B) (kind : Int) (x : An) : Sm now (lrnA A kind x now).1 A := by
 unfold lrnA
 obtain ⟨_, s1⟩ := fnd_sm (ks := keysOf x.a) (ls := []) (t := 604800) (Sm.refl (now := now) A)
 generalize fndA now A (keysOf x.a) [] 604800 = r at s1
 obtain ⟨A1, o⟩ := r
 cases o with
 | none => exact s1
 | some p =>
  obtain ⟨ls, t1⟩ := p
  dsimp only
  obtain ⟨_, s2⟩ := fnd_sm (ks := keysOf x.b) (ls := []) (t := t1) (Sm.refl (now := now) A1)
  generalize fndA now A1 (keysOf x.b) [] t1 = r2 at s2
  obtain ⟨A2, o2⟩ := r2
  cases o2 with
  | none => exact s2.trans s1
  | some p2 => exact s2.trans s1
def Good (now : Int) (A : AL) (ls : List Lk) : Prop := ∀ l ∈ ls, Rc.keyS l.k.1 l.k.2 = l.k ∧ ∃ x, foundA A l.k now = some x ∧ x.ve = l.ve
theorem Good.sm {A B : AL} {ls : List Lk} (h : Good now A ls) (hs : Sm now A B) : Good now B ls := fun l hl => by
 obtain ⟨e, x, h1, h2⟩ := h l hl
 exact ⟨e, x, (hs l.k).symm.trans h1, h2⟩
theorem fnd_good : ∀ {ks : List Ky} {A A' : AL} {ls ls' : List Lk} {t t' : Int}, (∀ k ∈ ks, Rc.keyS k.1 k.2 = k) → Good now A ls → fndA now A ks ls t = (A', some (ls', t')) → Good now A ls'
 | [], A, A', ls, ls', t, t', hk, h, e => by
  unfold fndA at e
  cases e
  exact h
 | k :: ks, A, A', ls, ls', t, t', hk, h, e => by
  unfold fndA at e
  cases hf : foundA A k now with
  | none => rw [hf] at e; cases e
  | some x =>
   rw [hf] at e
   have hs := sm_get (now := now) A k
   refine (fnd_good (fun j hj => hk j (List.mem_cons_of_mem _ hj)) ?_ e).sm hs
   intro l hl
   rcases List.mem_append.1 hl with h1 | h1
   ·obtain ⟨e1, y, h2, h3⟩ := h l h1
    exact ⟨e1, y, (hs l.k).trans h2, h3⟩
   ·obtain rfl : l = ⟨k, x.ve⟩ := by simpa using h1
    exact ⟨hk k (List.mem_cons_self ..), x, (hs k).trans hf, rfl⟩
theorem fol_good {un : Int} : ∀ {ls : List Lk} {A : AL} {ss : List Sv}, Good now A ls → ∃ A' ss', folA now un A ls ss = (A', some ss') ∧ ss'.length = ss.length + ls.length
 | [], A, ss, h => ⟨A, ss, rfl, rfl⟩
 | l :: ls, A, ss, h => by
  obtain ⟨e, x, h1, h2⟩ := h l (List.mem_cons_self ..)
  have hs := sm_get (now := now) A l.k
  obtain ⟨A', ss', h3, h4⟩ := fol_good (un := un) (ls := ls) (A := getA A l.k now) (ss := ss ++ [tellS x now un]) (Good.sm (fun l' hl' => h l' (List.mem_cons_of_mem _ hl')) hs.symm)
  refine ⟨A', ss', ?_, by rw [h4]; simp; omega⟩
  unfold folA
  rw [e, h1]
  simp only [if_pos h2]
  exact h3
theorem keys_low (l : List Sv) : ∀ k ∈ keysOf l, Rc.keyS k.1 k.2 = k := fun k hk => by
 unfold keysOf at hk
 obtain ⟨s, _, rfl⟩ := List.mem_map.1 hk
 unfold Rc.keyS
 simp only [low_low]
theorem keys_len (l : List Sv) : (keysOf l).length = l.length := by unfold keysOf; rw [List.length_map]
theorem tel_lrn {A A1 : AL} {kind : Int} {x : An} {y : Kn} (h : lrnA A kind x now = (A1, some y)) (hy : ¬ y.un ≤ now) : ∃ A2 z, telA A1 y now = (A2, some z) ∧ z.rc = x.rc ∧ z.se = x.se ∧ z.a.length = x.a.length := by
 have hsm := lrn_sm (Sm.refl (now := now) A) kind x
 rw [h] at hsm
 unfold lrnA at h
 obtain ⟨_, s1⟩ := fnd_sm (ks := keysOf x.a) (ls := []) (t := 604800) (Sm.refl (now := now) A)
 cases e1 : fndA now A (keysOf x.a) [] 604800 with
 | mk B1 o =>
 rw [e1] at h s1
 cases o with
 | none => cases h
 | some p =>
  obtain ⟨ls, t1⟩ := p
  dsimp only at h
  have g1 := fnd_good (keys_low x.a) (fun l hl => by cases hl) e1
  have n1 := fndA_len e1
  cases e2 : fndA now B1 (keysOf x.b) [] t1 with
  | mk B2 o2 =>
  rw [e2] at h
  cases o2 with
  | none => cases h
  | some p2 =>
   obtain ⟨ms, t2⟩ := p2
   dsimp only at h
   have g2 := fnd_good (keys_low x.b) (fun l hl => by cases hl) e2
   simp only [Prod.mk.injEq, Option.some.injEq] at h
   obtain ⟨rfl, rfl⟩ := h
   unfold telA
   rw [if_neg hy]
   dsimp only
   obtain ⟨A2, ss, h3, h4⟩ := fol_good (un := _) (ss := []) (g1.sm hsm.symm)
   obtain ⟨_, s3⟩ := fol_sm (ls := ls) (ss := []) (un := endN now (if denB x.a kind = true then min t2 (minM x.b) else t2) x.un) (Sm.refl (now := now) B2)
   rw [h3] at s3
   obtain ⟨A3, ts, h5, h6⟩ := fol_good (un := endN now (if denB x.a kind = true then min t2 (minM x.b) else t2) x.un) (ss := []) ((g2.sm s1).sm (hsm.symm.trans s3.symm))
   rw [h3]
   dsimp only
   rw [h5]
   refine ⟨_, _, rfl, rfl, rfl, ?_⟩
   show ss.length = _
   rw [h4, n1, keys_len]
   simp
end
end Go.Proofs.YtikjepodmdaknaaGreatDoor.Mc
/- Layer 17: two questions side by side. Facts alone. -/
namespace Go.Proofs.YtikjepodmdaknaaGreatDoor.Mc
open Go.RowKit
open Go.Proofs.YtikjepodmdaknaaGreatDoor.Rc (Ky AL Ev foundA getA toldE timB over getR without putR tim_iff getR_cons getR_without getR_without_same getR_put_same getR_split)
section
variable {now : Int} {A A3 : AL} {L L3 : KL} {q q0 : Qn} {x : An} {m : Nat}
theorem got_cases (A : AL) (L : KL) (q : Qn) (ht : timB now = true) :
  (getR L (Rc.keyS q.nm q.ty) = none ∧ gotA A L q now = (A, L, none)) ∨
  (∃ y, getR L (Rc.keyS q.nm q.ty) = some y ∧ (telA A y now).2 = none ∧ gotA A L q now = ((telA A y now).1, without L (Rc.keyS q.nm q.ty), none)) ∨
  (∃ y z, getR L (Rc.keyS q.nm q.ty) = some y ∧ (telA A y now).2 = some z ∧ gotA A L q now = ((telA A y now).1, (Rc.keyS q.nm q.ty, y) :: without L (Rc.keyS q.nm q.ty), some z)) := by
 cases h : getR L (Rc.keyS q.nm q.ty) with
 | none => exact .inl ⟨rfl, got_n ht h⟩
 | some y =>
  cases ho : (telA A y now).2 with
  | none => exact .inr (.inl ⟨y, rfl, ho, got_no ht h (Prod.ext rfl ho)⟩)
  | some z => exact .inr (.inr ⟨y, z, rfl, ho, got_yes ht h (Prod.ext rfl ho)⟩)
theorem got_sm (ht : timB now = true) : Sm now (gotA A L q now).1 A := by
 rcases got_cases A L q ht with ⟨_, e⟩ | ⟨y, _, _, e⟩ | ⟨y, z, _, _, e⟩
 ·rw [e]; exact Sm.refl _
 ·rw [e]; exact (tel_sm (Sm.refl A) y).2
 ·rw [e]; exact (tel_sm (Sm.refl A) y).2
theorem got_ne (ht : timB now = true) {k : Ky} (hk : k ≠ Rc.keyS q.nm q.ty) : getR (gotA A L q now).2.1 k = getR L k := by
 rcases got_cases A L q ht with ⟨_, e⟩ | ⟨y, _, _, e⟩ | ⟨y, z, _, _, e⟩
 ·rw [e]
 ·rw [e]; exact getR_without hk
 ·rw [e]
  show getR ((Rc.keyS q.nm q.ty, y) :: without L (Rc.keyS q.nm q.ty)) k = _
  rw [getR_cons, if_neg (fun e' => hk e'.symm)]
  exact getR_without hk
theorem without_len (L : KL) (k : Ky) : (without L k).length ≤ L.length := by unfold Rc.without; exact List.length_filter_le _ _
theorem got_len (ht : timB now = true) : (gotA A L q now).2.1.length ≤ L.length := by
 rcases got_cases A L q ht with ⟨_, e⟩ | ⟨y, _, _, e⟩ | ⟨y, z, h, _, e⟩
 ·rw [e]; exact Nat.le_refl _
 ·rw [e]; exact without_len _ _
 ·rw [e]
  have := getR_split h
  show ((Rc.keyS q.nm q.ty, y) :: without L (Rc.keyS q.nm q.ty)).length ≤ _
  simpa using this
theorem put_cases (m : Nat) (A : AL) (L : KL) (q : Qn) (x : An) (now : Int) :
  (putA m A L q x now = ((lrnA A q.ty x now).1, without L (Rc.keyS q.nm q.ty), false)) ∨
  (∃ y, (lrnA A q.ty x now).2 = some y ∧ ¬ y.un ≤ now ∧ putA m A L q x now = ((lrnA A q.ty x now).1, putR m L (Rc.keyS q.nm q.ty) y, true)) := by
 cases h : (lrnA A q.ty x now).2 with
 | none => exact .inl (put_no1 (Prod.ext rfl h))
 | some y =>
  by_cases hy : y.un ≤ now
  ·exact .inl (put_no2 (Prod.ext rfl h) hy)
  ·exact .inr ⟨y, rfl, hy, put_yes (Prod.ext rfl h) hy⟩
theorem putA_sm : Sm now (putA m A L q x now).1 A := by
 rcases put_cases m A L q x now with e | ⟨y, _, _, e⟩
 ·rw [e]; exact lrn_sm (Sm.refl A) _ _
 ·rw [e]; exact lrn_sm (Sm.refl A) _ _
theorem putA_ne (hL : L.length < m) {k : Ky} (hk : k ≠ Rc.keyS q.nm q.ty) : getR (putA m A L q x now).2.1 k = getR L k := by
 rcases put_cases m A L q x now with e | ⟨y, _, _, e⟩
 ·rw [e]; exact getR_without hk
 ·rw [e]
  show getR (putR m L (Rc.keyS q.nm q.ty) y) k = _
  unfold Rc.putR
  rw [List.take_of_length_le (by have := without_len L (Rc.keyS q.nm q.ty); simp; omega), getR_cons, if_neg (fun e' => hk e'.symm)]
  exact getR_without hk
theorem putA_len : (putA m A L q x now).2.1.length ≤ L.length + 1 := by
 rcases put_cases m A L q x now with e | ⟨y, _, _, e⟩
 ·rw [e]; exact Nat.le_succ_of_le (without_len _ _)
 ·rw [e]
  show (putR m L (Rc.keyS q.nm q.ty) y).length ≤ _
  unfold Rc.putR
  have := without_len L (Rc.keyS q.nm q.ty)
  simp [List.length_take]
  omega
theorem ap_keep (ht : timB now = true) (hm : 1 ≤ m) (A : AL) (L : KL) (q : Qn) (x : An) :
  ((putA m A L q x now).2.2 = false ∧ (gotA (putA m A L q x now).1 (putA m A L q x now).2.1 q now).2.2 = none) ∨
  ((putA m A L q x now).2.2 = true ∧ ∃ z, (gotA (putA m A L q x now).1 (putA m A L q x now).2.1 q now).2.2 = some z ∧ z.rc = x.rc ∧ z.se = x.se ∧ z.a.length = x.a.length) := by
 rcases put_cases m A L q x now with e | ⟨y, h, hy, e⟩
 ·rw [e]
  refine .inl ⟨rfl, ?_⟩
  show (gotA _ (without L (Rc.keyS q.nm q.ty)) q now).2.2 = none
  rw [got_n ht getR_without_same]
 ·rw [e]
  refine .inr ⟨rfl, ?_⟩
  obtain ⟨A2, z, h1, h2⟩ := tel_lrn (Prod.ext rfl h) hy
  show ∃ z, (gotA _ (putR m L (Rc.keyS q.nm q.ty) y) q now).2.2 = some z ∧ _
  rw [got_yes ht (getR_put_same hm) h1]
  exact ⟨z, rfl, h2⟩
theorem ap_again (ht : timB now = true) (hs : Sm now A3 A) (hL : getR L3 (Rc.keyS q0.nm q0.ty) = getR (gotA A L q0 now).2.1 (Rc.keyS q0.nm q0.ty)) : (gotA A3 L3 q0 now).2.2 = (gotA A L q0 now).2.2 := by
 rcases got_cases A L q0 ht with ⟨h, e⟩ | ⟨y, h, h2, e⟩ | ⟨y, z, h, h2, e⟩
 ·rw [e] at hL ⊢
  rw [got_n ht (hL.trans h)]
 ·rw [e] at hL ⊢
  rw [got_n ht (hL.trans getR_without_same)]
 ·rw [e] at hL ⊢
  have h3 : getR L3 (Rc.keyS q0.nm q0.ty) = some y := by
   rw [hL]
   show getR ((Rc.keyS q0.nm q0.ty, y) :: without L (Rc.keyS q0.nm q0.ty)) (Rc.keyS q0.nm q0.ty) = _
   rw [getR_cons, if_pos rfl]
  have h4 : (telA A3 y now).2 = some z := (tel_sm hs y).1.trans h2
  rw [got_yes ht h3 (Prod.ext rfl h4)]
theorem low_alike {a b : ByteArray} (h : lowF a = lowF b) : lowA a = lowA b := by
 have e : ∀ s, lowA (lowF s) = lowA s := fun s => by
  by_cases hn : IsName s
  ·unfold lowF
   rw [if_pos hn, lowA_lowA]
  ·rw [lowF_no hn]
 rw [← e a, ← e b, h]
theorem key_alike {a b : Qn} (h : Rc.keyS a.nm a.ty = Rc.keyS b.nm b.ty) : lowA a.nm = lowA b.nm ∧ a.ty = b.ty := by
 unfold Rc.keyS at h
 simp only [Prod.mk.injEq] at h
 exact ⟨low_alike h.1, h.2⟩
end
end Go.Proofs.YtikjepodmdaknaaGreatDoor.Mc
/- Layer 17: what is told is there. Facts alone. -/
namespace Go.Proofs.YtikjepodmdaknaaGreatDoor.Mc
open Go.RowKit
open Go.Proofs.YtikjepodmdaknaaGreatDoor.Rc (Ky AL Ev EvI foundA getA toldE timB over getR without putR tim_iff getR_mem found_is over_lt told_ok sameS_tl SvI)
section
variable {now un : Int} {n : Nat}
def Of (now un : Int) (n : Nat) (A : AL) (s : Sv) : Prop := ∃ ev, foundA A (Rc.keyS s.nm s.ty) now = some ev ∧ s = tellS ev now un ∧ EvI n ev ∧ now < ev.un
theorem of_found {A B : AL} (hA : ∀ p ∈ A, p.1 = Rc.keyS p.2.s.nm p.2.s.ty ∧ EvI n p.2) (hs : Sm now B A) {k : Ky} {x : Ev} (h : foundA B k now = some x) : Of now un n A (tellS x now un) := by
 have h' := (hs k).symm.trans h
 obtain ⟨_, hg, ho⟩ := found_is h'
 obtain ⟨hk, hI⟩ := hA _ (getR_mem hg)
 refine ⟨x, ?_, rfl, hI, over_lt ho⟩
 show foundA A (Rc.keyS x.s.nm x.s.ty) now = some x
 rw [← hk]
 exact h'
theorem fol_of {A : AL} (hA : ∀ p ∈ A, p.1 = Rc.keyS p.2.s.nm p.2.s.ty ∧ EvI n p.2) : ∀ {ls : List Lk} {B B' : AL} {ss ss' : List Sv}, Sm now B A → (∀ s ∈ ss, Of now un n A s) → folA now un B ls ss = (B', some ss') → ∀ s ∈ ss', Of now un n A s
 | [], B, B', ss, ss', hs, h, e => by
  unfold folA at e
  cases e
  exact h
 | l :: ls, B, B', ss, ss', hs, h, e => by
  unfold folA at e
  cases hf : foundA B (Rc.keyS l.k.1 l.k.2) now with
  | none => rw [hf] at e; cases e
  | some x =>
   rw [hf] at e
   by_cases hv : x.ve = l.ve
   ·simp only [if_pos hv] at e
    refine fol_of hA ((sm_get B _).trans hs) (fun s hss => ?_) e
    rcases List.mem_append.1 hss with h1 | h1
    ·exact h s h1
    ·obtain rfl := List.mem_singleton.1 h1
     exact of_found hA hs hf
   ·simp only [if_neg hv] at e
    cases e
theorem tel_of {A : AL} {y : Kn} {x : An} (hA : ∀ p ∈ A, p.1 = Rc.keyS p.2.s.nm p.2.s.ty ∧ EvI n p.2) (h : (telA A y now).2 = some x) : now < y.un ∧ x.un = y.un ∧ ∀ s ∈ x.a ++ x.b, Of now y.un n A s := by
 unfold telA at h
 by_cases hy : y.un ≤ now
 ·rw [if_pos hy] at h; cases h
 rw [if_neg hy] at h
 cases e1 : folA now y.un A y.a [] with
 | mk A1 o1 =>
 rw [e1] at h
 cases o1 with
 | none => cases h
 | some ss =>
  dsimp only at h
  have s1 := (fol_sm (un := y.un) (ls := y.a) (ss := []) (Sm.refl (now := now) A)).2
  rw [e1] at s1
  cases e2 : folA now y.un A1 y.b [] with
  | mk A2 o2 =>
  rw [e2] at h
  cases o2 with
  | none => cases h
  | some ts =>
   dsimp only at h
   obtain rfl := Option.some.inj h
   refine ⟨by omega, rfl, fun s hs => ?_⟩
   rcases List.mem_append.1 hs with h1 | h1
   ·exact fol_of hA (Sm.refl _) (fun s hs => by cases hs) e1 s h1
   ·exact fol_of hA s1 (fun s hs => by cases hs) e2 s h1
theorem fr_got {A : AL} {L : KL} {q : Qn} {x : An} (hA : ∀ p ∈ A, p.1 = Rc.keyS p.2.s.nm p.2.s.ty ∧ EvI n p.2) (ht : timB now = true) (h : (gotA A L q now).2.2 = some x) : now < x.un ∧ ∀ s ∈ x.a ++ x.b, Of now x.un n A s := by
 rcases got_cases A L q ht with ⟨_, e⟩ | ⟨y, _, _, e⟩ | ⟨y, z, _, h2, e⟩
 ·rw [e] at h; cases h
 ·rw [e] at h; cases h
 ·rw [e] at h
  obtain rfl := Option.some.inj h
  obtain ⟨h3, h4, h5⟩ := tel_of hA h2
  rw [h4]
  exact ⟨h3, h5⟩
theorem Of.all {A : AL} {s : Sv} (h : Of now un n A s) (h0 : 0 ≤ now) (hu : now < un) : ∃ ev, foundA A (Rc.keyS s.nm s.ty) now = some ev ∧ SvI s ∧ SvI (toldE ev now).s ∧ sameS (toldE ev now).s s = true ∧ s.tl ≤ (toldE ev now).s.tl ∧ 1 ≤ s.tl := by
 obtain ⟨ev, h1, rfl, h3, h4⟩ := h
 obtain ⟨h5, h6⟩ := told_ok h3 h0 h4
 have hu2 := h3.un
 have e1 : (toldE ev now).s.tl = min (ev.un - now) 604800 := rfl
 have e2 : (tellS ev now un).tl = min (toldE ev now).s.tl (un - now) := rfl
 refine ⟨ev, h1, ⟨⟨h6.sv.nm, h6.sv.ds, h6.sv.sg⟩, h6.ty, h6.cl, ?_⟩, h6, ?_, ?_, ?_⟩
 ·show I64 (tellS ev now un).tl
  unfold I64
  rw [e2, e1]
  omega
 ·exact sameS_tl h5 (by show 0 ≤ min (toldE ev now).s.tl (un - now); rw [e1]; omega) (by show min (toldE ev now).s.tl (un - now) < _; rw [e1]; omega)
 ·rw [e2, e1]; omega
 ·rw [e2, e1]; omega
end
end Go.Proofs.YtikjepodmdaknaaGreatDoor.Mc
/- Layer 17: a question's name, small letters. -/
namespace Go.Proofs.YtikjepodmdaknaaGreatDoor.Mc
open Go.RowKit
theorem rn_bytes (w : World) (s : ByteArray) : BytesAt (Lib.bytesWorld w 5 s) w.heap.size s.data.toList := by
 intro j hj
 refine ⟨?_, ?_⟩
 ·rw [Lib.bytesWorld_cell w 5 s j (by rw [size_list] at hj; exact hj)]
  rw [show s.data.toList.getD j 0 = s.data.toList[j] by rw [List.getD_eq_getElem?_getD, List.getElem?_eq_getElem hj]; rfl]
 ·have hj' : j < s.size := by rw [size_list] at hj; exact hj
  have hc : s.size ≤ (Lib.bytesCells w 5 s).size := by simp [Lib.bytesCells]
  simp [World.frozen?, Lib.bytesWorld_at_new]
  omega
theorem rn_below (w : World) (s : ByteArray) : Below w.heap.size w (Lib.bytesWorld w 5 s) :=
 ⟨rfl, rfl, rfl, by rw [Lib.bytesWorld_size]; omega, fun k hk => Lib.bytesWorld_at_old w 5 s k hk⟩
set_option maxRecDepth 100000 in
set_option maxHeartbeats 4000000 in
theorem rrn_in (q : Qn) (hq : q.nm.size ≤ maxLen) (w : World) : Calls Tryz.prog 34 #[.agg (qC q).toArray] w fun e w' => e = .returned (.string (lowA q.nm)) ∧ Below w.heap.size w w' := by
 obtain ⟨s, hs⟩ : ∃ s, q.nm = s := ⟨_, rfl⟩
 have hcv := fun W : World => Lib.run_convert_string_bytes (P := Tryz.prog) W 9 151 5 s Tryz.underlying9 Tryz.underlying151 Tryz.underlying5
 obtain ⟨N, hN⟩ : ∃ N, w.heap.size = N := ⟨_, rfl⟩
 obtain ⟨V, hV⟩ : ∃ V, w.alloc (.cells #[.string q.nm, .int .i64 q.ty, .int .i64 q.cl] 64) = V := ⟨_, rfl⟩
 have bV : Below w.heap.size w V := by rw [← hV]; exact (Below.refl _ _).alloc (Nat.le_refl _) _
 have gV : V.heap[N]? = some (.cells #[.string q.nm, .int .i64 q.ty, .int .i64 q.cl] 64 (0, 0)) := by rw [← hV, ← hN]; exact heap_alloc_new w _
 have c0 : V.cell? ⟨N, 0, none⟩ = some (.string s) := by rw [So.cell_blk gV, ← hs]; rfl
 obtain ⟨G, hG⟩ : ∃ G, V.heap.size = G := ⟨_, rfl⟩
 obtain ⟨Z, hZ⟩ : ∃ Z, Lib.bytesWorld V 5 s = Z := ⟨_, rfl⟩
 have hby0 := rn_bytes V s
 have hbe0 : Below w.heap.size w (Lib.bytesWorld V 5 s) := bV.trans ((rn_below V s).mono bV.size)
 rw [hZ, hG] at hby0
 rw [hZ] at hbe0
 have hGw : w.heap.size ≤ G := by rw [← hG]; exact bV.size
 obtain ⟨cap, hcap⟩ : ∃ cap, grownCap V s.size 0 5 = cap := ⟨_, rfl⟩
 have hcv1 := hcv V
 rw [hG, hZ, hcap] at hcv1
 have HV := Hid.mk hV
 have HB0 := Hid.mk (And.intro hby0 hbe0)
 have hsz : s.size ≤ maxLen := by rw [← hs]; exact hq
 unfold lowA
 rw [hs]
 clear hcv hV bV gV hby0 hbe0 hZ hcap hG hq
 go_enter Tryz.func34, Tryz.ntmps34
 go_upto_region 1 with fail
 (try rw [hN])
 rw [HV.out]
 clear hN
 go_wp2_with fail
 go_loopw [4] (fun i wr => ∃ k : Nat, k ≤ s.size ∧ i = .int .i64 (k : Int) ∧ Hid (BytesAt wr G (lowTo s.data.toList k) ∧ Below w.heap.size w wr)) (fun i _ => s.size - (intOf i).toNat)
 case atStart => exact ⟨0, Nat.zero_le _, rfl, by rw [lowTo_zero]; exact HB0.out⟩
 case round =>
  obtain ⟨k, hk, rfl, HJ⟩ := hrel
  clear hcv1 c0
  by_cases hlt : k < s.size
  ·have hlt' : k < s.data.toList.length := by rw [size_list]; exact hlt
   have hj := HJ.out.1 k (by rw [lowTo_length]; exact hlt')
   rw [lowTo_get _ _ hlt'] at hj
   obtain ⟨hc, hf⟩ := hj
   have hn := HJ.out.1.set k (lowB s.data.toList[k])
   rw [lowTo_succ _ _ hlt'] at hn
   have hsame : lowB s.data.toList[k] = s.data.toList[k] → lowTo s.data.toList (k + 1) = lowTo s.data.toList k := fun e => by
    rw [← lowTo_succ _ _ hlt', e]
    have h1 := lowTo_get s.data.toList k hlt'
    have h2 : k < (lowTo s.data.toList k).length := by rw [lowTo_length]; exact hlt'
    have : (lowTo s.data.toList k).set k ((lowTo s.data.toList k)[k]'h2) = lowTo s.data.toList k := List.set_getElem_self ..
    rwa [h1] at this
   have HN := Hid.mk hn
   have HS := Hid.mk hsame
   clear hn hsame
   generalize s.data.toList[k] = c at hc HN HS
   have hc8 := c.toNat_lt
   have hlz : (k : Int) < (s.size : Int) := by omega
   have hlz0 : (0 : Int) ≤ (k : Int) := by omega
   have wi : IntKind.i64.wrap ((k : Int) + 1) = ((k + 1 : Nat) : Int) := by unfold maxLen at hsz; rw [IntKind.wrap_i64]; omega
   have hbl := HJ.out.2
   by_cases h1 : (c.toNat : Int) ≥ 65
   ·by_cases h2 : (c.toNat : Int) ≤ 90
    ·have hcb : ((lowB c).toNat : Int) = (c.toNat : Int) + 32 := by
      rw [lowB_toNat, if_pos ⟨by omega, by omega⟩]
      omega
     have wc : IntKind.u8.wrap ((c.toNat : Int) + 32) = ((lowB c).toNat : Int) := by rw [IntKind.wrap_u8]; omega
     have HN2 := Hid.mk (And.intro HN.out (hbl.setCell (p := ⟨G, k, none⟩) hGw (.int .u8 ((lowB c).toNat : Int))))
     clear hcb hbl
     go_wp2
     go_roundw
     case rel => exact ⟨k + 1, by omega, by first | rfl | go_num, HN2.out⟩
     case measure => simp [intOf]; omega
    ·have e : lowB c = c := by
      unfold lowB
      rw [if_neg (by omega)]
     have HE : Hid (BytesAt wr G (lowTo s.data.toList (k + 1)) ∧ Below w.heap.size w wr) := by rw [HS.out e]; exact HJ.out
     clear e hbl
     go_wp2
     go_roundw
     case rel => exact ⟨k + 1, by omega, by first | rfl | go_num, HE.out⟩
     case measure => simp [intOf]; omega
   ·have e : lowB c = c := by
     unfold lowB
     rw [if_neg (by omega)]
    have HE : Hid (BytesAt wr G (lowTo s.data.toList (k + 1)) ∧ Below w.heap.size w wr) := by rw [HS.out e]; exact HJ.out
    clear e hbl
    go_wp2
    go_roundw
    case rel => exact ⟨k + 1, by omega, by first | rfl | go_num, HE.out⟩
    case measure => simp [intOf]; omega
  ·have hfin : lowTo s.data.toList k = s.data.toList.map lowB := lowTo_all _ _ (by rw [size_list]; omega)
   have hby := HJ.out.1
   rw [hfin] at hby
   have hcv := run_convert_bytes_back (P := Tryz.prog) wr 151 9 5 ⟨G, 0, none⟩ cap (s.data.toList.map lowB) Tryz.underlying151 Tryz.underlying5 Tryz.underlying9 (fun j hj => by rw [add_at]; exact (hby j hj).1)
   rw [List.length_map, size_list] at hcv
   have hlz : ¬ (k : Int) < (s.size : Int) := by omega
   have hbl := HJ.out.2
   clear hfin hby
   go_wp2
   go_ret
   exact ⟨rfl, hbl⟩
end Go.Proofs.YtikjepodmdaknaaGreatDoor.Mc
/- Layer 17: MsgcacheApart: its calls. -/
namespace Go.Proofs.YtikjepodmdaknaaGreatDoor.Mc
open Go.RowKit
open Go.Proofs.YtikjepodmdaknaaGreatDoor.Rc (pt nilP Ky blk_lt AL Ev EvI timB RCA FrC SvI putOk refused putX putR getR verC aput_in anew_in keyS pickR pickR_ge pickR_lt without add_off cellB seLoad load_all ShC)
def Obs (o : Option An) (ok : Bool) (rc se : Int) (n : Nat) : Prop := (o = none ∧ ok = false ∧ rc = 0 ∧ se = 0 ∧ n = 0) ∨ (∃ z, o = some z ∧ ok = true ∧ rc = z.rc ∧ se = z.se ∧ n = z.a.length)
theorem Obs.same {o : Option An} {ok ok' : Bool} {rc rc' se se' : Int} {n n' : Nat} (h : Obs o ok rc se n) (h' : Obs o ok' rc' se' n') : ok = ok' ∧ rc = rc' ∧ n = n' := by
 rcases h with ⟨rfl, rfl, rfl, rfl, rfl⟩ | ⟨z, rfl, rfl, rfl, rfl, rfl⟩
 ·rcases h' with ⟨_, rfl, rfl, rfl, rfl⟩ | ⟨z, e, _⟩
  ·exact ⟨rfl, rfl, rfl⟩
  ·cases e
 ·rcases h' with ⟨e, _⟩ | ⟨z', e, rfl, rfl, rfl, rfl⟩
  ·cases e
  ·cases e; exact ⟨rfl, rfl, rfl⟩
def AS (W w : World) (C T X U i : Nat) (A : AL) (L : KL) : Prop := ∃ n n2 ver, n ≤ 60 ∧ n2 ≤ i ∧ L.length ≤ i ∧ MS W w C T 1000 n ver A X U 1000 n2 L
section
variable {W w w' : World} {C T X U i : Nat} {A : AL} {L : KL} {now : Int}
theorem AS.blk (h : AS W w C T X U i A L) (hb : Below w.heap.size w w') : AS W w' C T X U i A L := by
 obtain ⟨n, n2, ver, h1, h2, h3, h4⟩ := h
 exact ⟨n, n2, ver, h1, h2, h3, h4.blk hb⟩
theorem AS.bel (h : AS W w C T X U i A L) : Below W.heap.size W w := by
 obtain ⟨n, n2, ver, h1, h2, h3, h4⟩ := h
 exact h4.bel
theorem as_get (h : AS W w C T X U i A L) (ht : timB now = true) (q : Qn) (hq : QnI q) :
  Calls Tryz.prog 29 #[pt X, .agg (qC q).toArray, .int .i64 now] w fun e w' => (∃ (rc se un : Int) (q1 : Option Addr) (n1 c1 : Nat) (q2 : Option Addr) (n2 c2 : Nat) (ok : Bool), e = .returned (.tuple #[.agg #[.int .i64 rc, .int .i64 se, .slice q1 n1 c1, .slice q2 n2 c2, .int .i64 un], .bool ok]) ∧ Hid (Obs (gotA A L q now).2.2 ok rc se n1)) ∧ AS W w' C T X U i (gotA A L q now).1 (gotA A L q now).2.1 ∧ FrM w w' := by
 obtain ⟨n, n2, ver, h1, h2, h3, h4⟩ := h
 refine (mget_in h4 q hq.nm hq.ty now).mono ?_
 rintro e w' ⟨hf, hm, hp⟩
 have hl : (gotA A L q now).2.1.length ≤ i := Nat.le_trans (got_len ht) h3
 refine ⟨?_, ⟨n, n2, ver, h1, h2, hl, hm⟩, hf⟩
 rcases hp with ⟨e1, e2⟩ | ⟨x, q1, c1, q2, c2, e1, e2, _, _⟩
 ·exact ⟨0, 0, 0, none, 0, 0, none, 0, 0, false, e2, .inl ⟨e1, rfl, rfl, rfl, rfl⟩⟩
 ·exact ⟨x.rc, x.se, x.un, q1, _, c1, q2, _, c2, true, e2, .inr ⟨x, e1, rfl, rfl, rfl, rfl⟩⟩
theorem as_put (h : AS W w C T X U i A L) (ht : timB now = true) (hi : i ≤ 60) (d : Dd) (hd : DdI d) (p : Pl) (hc1 : d.x.a.length ≤ p.c1 ∧ p.c1 ≤ maxLen) (hc2 : d.x.b.length ≤ p.c2 ∧ p.c2 ≤ maxLen) (h1 : LAt W w T p.q1 d.x.a) (h2 : LAt W w T p.q2 d.x.b) :
  Calls Tryz.prog 27 #[pt X, .agg (qC d.q).toArray, .agg (aC d.x p.q1 p.c1 p.q2 p.c2).toArray, .int .i64 now] w fun e w' => ∃ (kept : Bool) (z : Int) (A' : AL) (L' : KL), e = .returned (.tuple #[.bool kept, .int .i64 z]) ∧ AS W w' C T X U (i + 1) A' L' ∧ FrM w w' ∧ Hid (Sm now A' A ∧ (∀ k, k ≠ Rc.keyS d.q.nm d.q.ty → getR L' k = getR L k) ∧
   ((z = 1 ∧ kept = false) ∨ (z = 0 ∧ kept = false ∧ (gotA A' L' d.q now).2.2 = none) ∨ (z = 0 ∧ kept = true ∧ ∃ y, (gotA A' L' d.q now).2.2 = some y ∧ y.rc = d.x.rc ∧ y.se = d.x.se ∧ y.a.length = d.x.a.length))) := by
 obtain ⟨n, n2, ver, e1, e2, e3, e4⟩ := h
 refine (mput_in e4 (by omega) (Nat.lt_of_le_of_lt (show n2 ≤ 60 by omega) (by decide)) d.q hd.q.nm hd.q.ty d.x p.q1 p.c1 p.q2 p.c2 hc1 hc2 h1 h2 hd.a hd.b now).mono ?_
 rintro e w' ⟨hf, hp⟩
 rcases hp with ⟨_, h3, h4⟩ | ⟨_, h3, n3, h4, h5⟩
 ·exact ⟨false, 1, A, L, h3, ⟨n, n2, ver, e1, by omega, by omega, h4⟩, hf, Sm.refl _, fun _ _ => rfl, .inl ⟨rfl, rfl⟩⟩
 ·refine ⟨_, 0, _, _, h3, ⟨n, n3, ver, e1, by omega, Nat.le_trans putA_len (by omega), h5⟩, hf, putA_sm, fun k hk => putA_ne (by omega) hk, ?_⟩
  rcases ap_keep ht (show 1 ≤ 1000 by omega) A L d.q d.x with ⟨a1, a2⟩ | ⟨a1, a2⟩
  ·exact .inr (.inl ⟨rfl, a1, a2⟩)
  ·exact .inr (.inr ⟨rfl, a1, a2⟩)
def AS0 (W w : World) (C T X U i : Nat) : Prop := ∃ n ver A, n ≤ i ∧ MS W w C T 1000 n ver A X U 1000 0 []
theorem AS0.bel (h : AS0 W w C T X U i) : Below W.heap.size W w := by
 obtain ⟨n, ver, A, h1, h2⟩ := h
 exact h2.bel
theorem AS0.as (h : AS0 W w C T X U i) (hi : i ≤ 60) : ∃ A, AS W w C T X U 0 A [] := by
 obtain ⟨n, ver, A, h1, h2⟩ := h
 exact ⟨A, n, 0, ver, by omega, Nat.le_refl _, Nat.le_refl _, h2⟩
theorem as0_put (h : AS0 W w C T X U i) (hi : i ≤ 60) (s : Sv) (hs : SvI s) (qd : Option Addr) (cd : Nat) (qg : Option Addr) (cg : Nat) (hat : SvAt w s qd cd qg cg) :
  Calls Tryz.prog 13 #[pt C, .agg (svC s qd cd qg cg).toArray, .int .i64 3, .int .i64 0, .int .i64 now] w fun e w' => (∃ v, e = .returned v) ∧ AS0 W w' C T X U (i + 1) := by
 obtain ⟨n, ver, A, h1, h2⟩ := h
 refine (aput_in h2.rc (by omega) s hs qd cd qg cg hat 3 0 now).mono ?_
 rintro e w' ⟨hp, hf⟩
 rcases hp with ⟨_, e1, e2⟩ | ⟨_, _, e1, e2⟩ | ⟨_, _, e1, e2⟩
 ·exact ⟨⟨_, e1⟩, n, _, _, by omega, h2.rcop hf e2⟩
 ·exact ⟨⟨_, e1⟩, n, _, _, by omega, h2.rcop hf e2⟩
 ·exact ⟨⟨_, e1⟩, n + 1, _, _, by omega, h2.rcop hf e2⟩
end
def qnLoad (a : Value) : Sem Value := Instr.loadAt 64 a
theorem loadAt_qn (a : Value) : Instr.loadAt 64 a = qnLoad a := rfl
def ddLoad (a : Value) : Sem Value := Instr.loadAt 67 a
theorem loadAt_dd (a : Value) : Instr.loadAt 67 a = ddLoad a := rfl
theorem lat_ss {W W' w : World} {T : Nat} {q : Option Addr} {l : List Sv} (h : SsAt W q l) (hb : Below W.heap.size W W') : LAt W' w T q l := fun j s hs => by
 have hj : j < l.length := (List.getElem?_eq_some_iff.1 hs).1
 obtain ⟨b, off, qd, cd, qg, cg, e, h0, h1, h2⟩ := h j hj
 have e1 : l[j] = s := by rw [List.getElem?_eq_getElem hj] at hs; exact Option.some.inj hs
 rw [e1] at h1 h2
 refine ⟨b, off, qd, cd, qg, cg, e, fun w' _ hb' => ⟨h2.blk (hb.trans (hb'.mono hb.size)), fun k hk => ?_⟩⟩
 exact ((hb.trans (hb'.mono hb.size)).cell (p := ⟨b, off + j * 6 + k, none⟩) h0).trans (h1 k hk)
theorem dd_loads {w : World} {b o : Nat} {d : Dd} {p : Pl} (h : ∀ k, k < 16 → w.cell? ⟨b, o + k, none⟩ = (ddC d p)[k]?) :
  (ddLoad (.pointer (some ⟨b, o, none⟩))).run Tryz.prog w = .ok (.agg (ddC d p).toArray) w ∧
  (seLoad (.pointer (some ⟨b, o + 2, none⟩))).run Tryz.prog w = .ok (.agg (svC d.s p.qd p.cd p.qg p.cg).toArray) w ∧
  (qnLoad (.pointer (some ⟨b, o + 8, none⟩))).run Tryz.prog w = .ok (.agg (qC d.q).toArray) w ∧
  w.cell? ⟨b, o + 9, none⟩ = some (.int .i64 d.q.ty) := by
 refine ⟨?_, ?_, ?_, h 9 (by omega)⟩
 ·refine load_all (n := 16) w b o (ddC d p) rfl (by kernel_rfl) (by kernel_rfl) fun i v hv => ?_
  rw [h i (List.getElem?_eq_some_iff.1 hv).1]
  exact hv
 ·refine load_all (n := 6) w b (o + 2) (svC d.s p.qd p.cd p.qg p.cg) rfl (by kernel_rfl) (by kernel_rfl) fun i v hv => ?_
  have hi : i < 6 := (List.getElem?_eq_some_iff.1 hv).1
  rw [Nat.add_assoc, h (2 + i) (by omega), Nat.add_comm 2 i, ← hv]
  match i, hi with
  | 0, _ => rfl
  | 1, _ => rfl
  | 2, _ => rfl
  | 3, _ => rfl
  | 4, _ => rfl
  | 5, _ => rfl
 ·refine load_all (n := 3) w b (o + 8) (qC d.q) rfl (by kernel_rfl) (by kernel_rfl) fun i v hv => ?_
  have hi : i < 3 := (List.getElem?_eq_some_iff.1 hv).1
  rw [Nat.add_assoc, h (8 + i) (by omega), Nat.add_comm 8 i, ← hv]
  match i, hi with
  | 0, _ => rfl
  | 1, _ => rfl
  | 2, _ => rfl
theorem dd_box {w : World} {D : Nat} {d : Dd} {p : Pl} {f : Nat × Nat} (h : w.heap[D]? = some (.cells (ddC d p).toArray 67 f)) : (qnLoad (.pointer (some ⟨D, 8, none⟩))).run Tryz.prog w = .ok (.agg (qC d.q).toArray) w ∧ w.cell? ⟨D, 9, none⟩ = some (.int .i64 d.q.ty) ∧ w.cell? ⟨D, 11, none⟩ = some (.int .i64 d.x.rc) ∧ w.cell? ⟨D, 12, none⟩ = some (.int .i64 d.x.se) ∧ w.cell? ⟨D, 13, none⟩ = some (.slice p.q1 d.x.a.length p.c1) ∧ w.cell? ⟨D, 14, none⟩ = some (.slice p.q2 d.x.b.length p.c2) ∧ w.cell? ⟨D, 15, none⟩ = some (.int .i64 d.x.un) := by
 have hc : ∀ k, k < 16 → w.cell? ⟨D, 0 + k, none⟩ = (ddC d p)[k]? := fun k hk => by rw [So.cell_blk h, Nat.zero_add, List.getElem?_toArray]
 have := (dd_loads hc).2.2.1
 rw [Nat.zero_add] at this
 exact ⟨this, hc 9 (by omega), hc 11 (by omega), hc 12 (by omega), hc 13 (by omega), hc 14 (by omega), hc 15 (by omega)⟩
theorem dd_given {W : World} {q : Option Addr} {l : List Dd} (h : DdsAt W q l) (hin : ∀ d ∈ l, DdI d) (i : Nat) (hi : i < l.length) : ∃ (b off : Nat) (d : Dd) (p : Pl), q = some ⟨b, off, none⟩ ∧ DdI d ∧ l[i]? = some d ∧ DdAt W d p ∧ ∀ w, Below W.heap.size W w → ∀ k, k < 16 → w.cell? ⟨b, off + i * 16 + k, none⟩ = (ddC d p)[k]? := by
 obtain ⟨b, off, p, e, h0, h1, h2⟩ := h i hi
 exact ⟨b, off, l[i], p, e, hin _ (List.getElem_mem hi), List.getElem?_eq_getElem hi, h2, fun w hb k hk => (hb.cell (p := ⟨b, off + i * 16 + k, none⟩) h0).trans (h1 k hk)⟩
end Go.Proofs.YtikjepodmdaknaaGreatDoor.Mc
/- Layer 17: rows of sets put together, beside both caches. -/
namespace Go.Proofs.YtikjepodmdaknaaGreatDoor.Mc
open Go.RowKit
open Go.Proofs.YtikjepodmdaknaaGreatDoor.Rc (pt nilP Ky blk_lt cell_same AL Ev EvI timB RCA FrC SvI seLoad)
theorem ms_keepS {W w w' : World} {C T m n : Nat} {ver : Int} {A : AL} {X U m2 n2 : Nat} {L : KL} (h : MS W w C T m n ver A X U m2 n2 L) (hc : ∀ (b : Nat) (c : Array Value) (t : TypeId) (f : Nat × Nat), w.heap[b]? = some (.cells c t f) → t ≠ 34 → w'.heap[b]? = some (.cells c t f)) (hm' : ∀ (b : Nat) es cl, w.heap[b]? = some (.map es cl) → w'.heap[b]? = some (.map es cl)) (hb : Below W.heap.size W w') : MS W w' C T m n ver A X U m2 n2 L := by
 obtain ⟨l, hm, e⟩ := h.mc
 obtain ⟨M1, M2, a1, a2, a3⟩ := h.ap
 obtain ⟨lr, Q, hr, er⟩ := h.rc.ex
 obtain ⟨E1, K1, L1, o1, f1⟩ := hr.tab
 obtain ⟨E2, K2, L2, o2, f2⟩ := hm.tab
 have hs : ∀ {b : Nat} {c : Array Value} {t : TypeId} {f : Nat × Nat}, w.heap[b]? = some (.cells c t f) → t ≠ 34 → w'.heap[b]? = w.heap[b]? := fun {b c t f} hb ht => (hc _ _ _ _ hb ht).trans hb.symm
 refine ⟨rca_keepS h.rc hc hm' hb, ⟨l, ⟨hc _ _ _ _ hm.bx (by decide), hm.own, ⟨E2, K2, L2, ⟨o2.tab.same fun b hb2 => ?_, o2.own, hb⟩, f2⟩, fun p hp => ?_, hm.ok, hm.len, hm.mb⟩, e⟩, M1, M2, (cell_same (hs o1.tab.tb (by decide))).trans a1, (cell_same (hs o2.tab.tb (by decide))).trans a2, a3⟩
 ·rcases hb2 with rfl | rfl | rfl | hb2
  ·exact hs o2.tab.tb (by decide)
  ·obtain ⟨es, cl, hx⟩ := o2.tab.mp.isMap
   exact (hm' _ _ _ hx).trans hx.symm
  ·obtain ⟨c, hx, _⟩ := o2.tab.row.plc b (by simp)
   exact hs hx (by decide)
  ·obtain ⟨c, hx, _⟩ := o2.tab.row.plc b (List.mem_cons_of_mem _ hb2)
   exact hs hx (by decide)
 ·obtain ⟨k1, k2, k3, k4, k5, k6, k7⟩ := hm.kn p hp
  exact ⟨k1, k2, k3, k4, k5, ⟨own_same k6.own fun b c f _ hb => hs hb (by decide)⟩, ⟨own_same k7.own fun b c f _ hb => hs hb (by decide)⟩⟩
theorem st_cat {w : World} {N : Nat} {v x : Value} {L M : List Sv} (h : StRow w N v L) (hN : N ≤ w.heap.size) (hl : L.length ≤ 1000) (h2 : StRow w N x M) (hl2 : M.length ≤ 1000) :
  ∃ v' w', (aSt #[v, x]).run Tryz.prog w = .ok v' w' ∧ StRow w' N v' (L ++ M) ∧ Below N w w' ∧ (∀ b, b < w.heap.size → v.ownBlock ≠ some b → w'.heap[b]? = w.heap[b]?) ∧ (∀ (b : Nat) (c : Array Value) (t : TypeId) (f : Nat × Nat), w.heap[b]? = some (.cells c t f) → t ≠ 34 → w'.heap[b]? = some (.cells c t f)) ∧ (∀ (b : Nat) es cl, w.heap[b]? = some (.map es cl) → w'.heap[b]? = some (.map es cl)) := by
 obtain ⟨rows, h1, h2', h3, h4⟩ := h.ex
 obtain ⟨rowsM, m1, m2, m3, m4⟩ := h2.ex
 obtain ⟨i0, hi0, hz0, hz1, hz2⟩ := info_p infoSt
 have hones : ∀ u ∈ rowsM.flatten, u.oneCell' = true := fun u hu => by
  obtain ⟨r, hr, hur⟩ := List.mem_flatten.1 hu
  obtain ⟨j, hj, rfl⟩ := List.getElem_of_mem hr
  obtain ⟨q1, c1, q2, c2, e, _⟩ := m3 j _ (List.getElem?_eq_getElem (by omega))
  rw [List.getElem?_eq_getElem hj] at e
  rw [Option.some.inj e] at hur
  exact Rc.sv_ones _ q1 c1 q2 c2 u hur
 have m4' := m4
 obtain ⟨_, ⟨rfl, h0⟩ | ⟨g, cap', cur, rfl, hg0, hg, hn, hm, hs, ht⟩⟩ := m4'
 ·have hM : M = [] := List.length_eq_zero_iff.1 h0
  subst hM
  refine ⟨v, w, run_append_owned_none (P := Tryz.prog) w N 65 65 34 i0 6 Tryz.underlying65 hi0 v L.length rows.flatten h4, by rw [List.append_nil]; exact h, Below.refl _ _, fun _ _ _ => rfl, fun _ _ _ _ hb _ => hb, fun _ _ _ hb => hb⟩
 obtain ⟨v', w', hrun, hown, hgr, _, hat⟩ := run_append_own_at (P := Tryz.prog) w N 65 65 34 i0 _ 6 88 Tryz.underlying65 hi0 hz0 hz1 hz2 rfl (by decide) v L.length rows.flatten h4 ⟨g, 0, none⟩ M.length cap' rowsM.flatten (by rw [flat_len m2, m1]) (fun j u hu => by
  rw [So.add_of, Nat.zero_add, So.cell_blk hg, ← hu, ← ht, List.getElem?_take, if_pos (by
   have := (List.getElem?_eq_some_iff.1 hu).1
   rw [flat_len m2, m1] at this
   exact this), Array.getElem?_toList]) hones (by unfold maxLen; omega) (by omega) hN
 have hst : ∀ {b : Nat} {c : Array Value} {t : TypeId} {f : Nat × Nat}, w.heap[b]? = some (.cells c t f) → t ≠ 34 → w'.heap[b]? = w.heap[b]? := fun {b c t f} hb ht => hgr.block b (blk_lt hb) (fun e => by
  obtain ⟨_, _, c', hc⟩ := own_lt h4 e.symm
  rw [hb] at hc
  simp at hc
  exact ht hc.2.1)
 have hto : ∀ {s : Sv} {q1 : Option Addr} {c1 : Nat} {q2 : Option Addr} {c2 : Nat}, Rc.Told w N s q1 c1 q2 c2 → Rc.Told w' N s q1 c1 q2 c2 := fun h => ⟨own_same h.d fun b c f _ hb => hst hb (by decide), own_same h.g fun b c f _ hb => hst hb (by decide)⟩
 refine ⟨v', w', hrun, ⟨rows ++ rowsM, by simp [h1, m1], fun r hr => ?_, fun j y hy => ?_, ?_⟩, (Below.refl _ _).grown hgr hN (fun b hb => (own_lt h4 hb).2.1), fun b hb hne => hgr.block b hb (fun e => hne e.symm), fun b c t f hb ht => (hst hb ht).trans hb, fun b es cl hb => (hgr.block b (blk_lt hb) (fun e => ?_)).trans hb⟩
 ·rcases List.mem_append.1 hr with hr | hr
  ·exact h2' r hr
  ·exact m2 r hr
 ·by_cases hj : j < L.length
  ·rw [List.getElem?_append_left hj] at hy
   obtain ⟨a1, a2, a3, a4, a5, a6⟩ := h3 j y hy
   exact ⟨a1, a2, a3, a4, by rw [List.getElem?_append_left (by omega)]; exact a5, hto a6⟩
  ·rw [List.getElem?_append_right (by omega)] at hy
   obtain ⟨a1, a2, a3, a4, a5, a6⟩ := m3 (j - L.length) y hy
   exact ⟨a1, a2, a3, a4, by rw [List.getElem?_append_right (by omega), h1]; exact a5, hto a6⟩
 ·rw [List.length_append, List.flatten_append]
  exact hown
 ·obtain ⟨_, _, c', hc⟩ := own_lt h4 e.symm
  rw [hb] at hc
  simp at hc
end Go.Proofs.YtikjepodmdaknaaGreatDoor.Mc
