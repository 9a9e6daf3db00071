/- Texts of this proof, joined: SoW, So1, So2, So3. -/
import Derived.Test.YtdlcldjlfhmlgaaGreatDoorJ10
import Derived.BigRegion
import Derived.Deep.RegionHeld3
import Derived.Test.YtdlcldjlfhmlgaaGreatDoorJ13
set_option linter.unusedVariables false
set_option linter.unusedSimpArgs false
/- Exchanges in a row, on lists. -/
namespace Go.Proofs.YtdlcldjlfhmlgaaGreatDoor.So
variable {α : Type}
def sw (l : List α) (i j : Nat) : List α := match l[i]?, l[j]? with
 | some x, some y => (l.set i y).set j x
 | _, _ => l
def swN (l : List α) (a b : Nat) : Nat → List α
 | 0 => l
 | k + 1 => sw (swN l a b k) (a + k) (b + k)
theorem sw_len (l : List α) (i j : Nat) : (sw l i j).length = l.length := by
 unfold sw
 split <;> simp
theorem swN_len (l : List α) (a b : Nat) : ∀ k, (swN l a b k).length = l.length
 | 0 => rfl
 | k + 1 => by rw [swN, sw_len, swN_len l a b k]
theorem sw_eq (l : List α) (i j : Nat) (hi : i < l.length) (hj : j < l.length) : sw l i j = (l.set i l[j]).set j l[i] := by
 unfold sw
 rw [List.getElem?_eq_getElem hi, List.getElem?_eq_getElem hj]
theorem sw_get (l : List α) (i j : Nat) (hi : i < l.length) (hj : j < l.length) (x : Nat) : (sw l i j)[x]? = if x = j then l[i]? else if x = i then l[j]? else l[x]? := by
 rw [sw_eq l i j hi hj]
 by_cases h1 : x = j
 ·subst h1
  rw [if_pos rfl, List.getElem?_set_self (by simpa using hj), List.getElem?_eq_getElem hi]
 ·rw [if_neg h1, List.getElem?_set_ne (fun e => h1 e.symm)]
  by_cases h2 : x = i
  ·subst h2
   rw [if_pos rfl, List.getElem?_set_self hi, List.getElem?_eq_getElem hj]
  ·rw [if_neg h2, List.getElem?_set_ne (fun e => h2 e.symm)]
theorem swN_get (l : List α) (a b : Nat) : ∀ k, a + k ≤ b → b + k ≤ l.length → ∀ x, (swN l a b k)[x]? = if a ≤ x ∧ x < a + k then l[x - a + b]? else if b ≤ x ∧ x < b + k then l[x - b + a]? else l[x]?
 | 0, h1, h2, x => by
  rw [if_neg (by omega), if_neg (by omega)]; rfl
 | k + 1, h1, h2, x => by
  have ih := swN_get l a b k (by omega) (by omega)
  rw [swN, sw_get _ _ _ (by rw [swN_len]; omega) (by rw [swN_len]; omega), ih, ih, ih]
  by_cases e1 : x = b + k
  ·subst e1
   rw [if_pos rfl, if_neg (by omega), if_neg (by omega), if_neg (by omega), if_pos (by omega), show b + k - b + a = a + k by omega]
  ·rw [if_neg e1]
   by_cases e2 : x = a + k
   ·subst e2
    rw [if_pos rfl, if_neg (by omega), if_neg (by omega), if_pos (by omega), show a + k - a + b = b + k by omega]
   ·rw [if_neg e2]
    by_cases e3 : a ≤ x ∧ x < a + k
    ·rw [if_pos e3, if_pos (by omega)]
    ·rw [if_neg e3]
     by_cases e4 : b ≤ x ∧ x < b + k
     ·rw [if_pos e4, if_neg (by omega), if_pos (by omega)]
     ·rw [if_neg e4, if_neg (by omega), if_neg (by omega)]
theorem swN_parts (X A M B Y : List α) (h : A.length = B.length) : swN (X ++ A ++ M ++ B ++ Y) X.length (X.length + A.length + M.length) A.length = X ++ B ++ M ++ A ++ Y := by
 apply List.ext_getElem?
 intro x
 rw [swN_get _ _ _ _ (by omega) (by simp; omega)]
 simp only [List.append_assoc]
 simp only [List.getElem?_append]
 repeat' split
 all_goals first | rfl | (exfalso; omega) | (congr 1; omega)
theorem rot_a (P L1 L2 R Q : List α) (h : L1.length = R.length) : swN (P ++ (L1 ++ L2) ++ R ++ Q) P.length (P.length + (L1 ++ L2).length) R.length = (P ++ R) ++ L2 ++ L1 ++ Q := by
 have := swN_parts P L1 L2 R Q h
 rw [List.length_append, ← Nat.add_assoc, ← h]
 simp only [List.append_assoc] at this ⊢
 exact this
theorem rot_b (P L R1 R2 Q : List α) (h : L.length = R2.length) : swN (P ++ L ++ (R1 ++ R2) ++ Q) P.length (P.length + L.length + R1.length) L.length = P ++ R2 ++ R1 ++ (L ++ Q) := by
 have := swN_parts P L R1 R2 Q h
 simp only [List.append_assoc] at this ⊢
 exact this
theorem rot_c (P L R Q : List α) (h : L.length = R.length) : swN (P ++ L ++ R ++ Q) P.length (P.length + L.length) L.length = P ++ R ++ L ++ Q := by
 have := swN_parts P L [] R Q h
 simp only [List.append_assoc, List.nil_append, List.length_nil, Nat.add_zero] at this ⊢
 exact this
theorem sw_right (A : List α) (x y : α) (B : List α) : sw (A ++ x :: y :: B) A.length (A.length + 1) = A ++ y :: x :: B := by
 have h1 : (A ++ x :: y :: B)[A.length]? = some x := by simp
 have h2 : (A ++ x :: y :: B)[A.length + 1]? = some y := by rw [List.getElem?_append_right (by omega)]; simp
 unfold sw
 rw [h1, h2]
 simp only
 rw [List.set_append_right _ _ (by omega), List.set_append_right _ _ (by omega)]
 simp
theorem sw_comm (l : List α) (i j : Nat) : sw l i j = sw l j i := by
 by_cases hi : i < l.length
 ·by_cases hj : j < l.length
  ·by_cases e : i = j
   ·rw [e]
   ·rw [sw_eq l i j hi hj, sw_eq l j i hj hi, List.set_comm _ _ e]
  ·unfold sw; rw [List.getElem?_eq_none (i := j) (by omega)]; cases l[i]? <;> rfl
 ·unfold sw; rw [List.getElem?_eq_none (i := i) (by omega)]; cases l[j]? <;> rfl
end Go.Proofs.YtdlcldjlfhmlgaaGreatDoor.So
/- slices.swapRangeCmpFunc, slices.rotateCmpFunc at sets. -/
namespace Go.Proofs.YtdlcldjlfhmlgaaGreatDoor.So
open Go.RowKit
attribute [local go_sem ↓] loadAt_st storeAt_st
abbrev cmpV : Value := .func (.func 56) #[] #[]
abbrev rowV (g n cap : Nat) : Value := .slice (some ⟨g, 0, none⟩) n cap
def Did (g : Nat) (W : World) (l : List El) (w' : World) : Prop := SRow w' g l ∧ Ofs g W w'
theorem sw_ok {l : List El} (h : ∀ e ∈ l, e.ok) (i j : Nat) : ∀ e ∈ sw l i j, e.ok := by
 unfold sw
 split
 ·rename_i x y hx hy
  intro e he
  rcases List.mem_or_eq_of_mem_set he with he | rfl
  ·rcases List.mem_or_eq_of_mem_set he with he | rfl
   ·exact h e he
   ·exact h _ (List.mem_of_getElem? hy)
  ·exact h _ (List.mem_of_getElem? hx)
 ·exact h
theorem swN_ok {l : List El} (h : ∀ e ∈ l, e.ok) (a b : Nat) : ∀ k, ∀ e ∈ swN l a b k, e.ok
 | 0 => h
 | k + 1 => sw_ok (swN_ok h a b k) _ _
theorem swap_facts {w : World} {g : Nat} {l : List El} (h : SRow w g l) (ho : ∀ e ∈ l, e.ok) {p q : Nat} (hp : p < l.length) (hq : q < l.length) :
  ∃ (x y : El) (w2 : World), Hid (x.ok ∧ y.ok) ∧ (stLoad (.pointer (some ⟨g, p * 6, none⟩))).run Tryz.prog w = .ok (.agg x.c.toArray) w ∧ (stLoad (.pointer (some ⟨g, q * 6, none⟩))).run Tryz.prog w = .ok (.agg y.c.toArray) w ∧
   (stStore (.pointer (some ⟨g, p * 6, none⟩)) (.agg y.c.toArray)).run Tryz.prog w = .ok () (stPut w g p y) ∧
   (stStore (.pointer (some ⟨g, q * 6, none⟩)) (.agg x.c.toArray)).run Tryz.prog (stPut w g p y) = .ok () w2 ∧
   Hid (SRow w2 g (sw l p q) ∧ Ofs g w w2) := by
 have hx := ho l[p] (List.getElem_mem hp)
 have hy := ho l[q] (List.getElem_mem hq)
 have h2 := h.put p hp l[q]
 have hq2 : q < (l.set p l[q]).length := by simpa using hq
 refine ⟨l[p], l[q], stPut (stPut w g p l[q]) g q l[p], ⟨hx, hy⟩, h.load p hp, h.load q hq, h.store p hp hy, h2.store q hq2 hx, ?_, ((Ofs.refl _ _).put p _).put q _⟩
 have := h2.put q hq2 l[p]
 rw [sw_eq l p q hp hq]
 exact this
theorem Did.refl {g : Nat} {W : World} {l : List El} (h : SRow W g l) : Did g W l W := ⟨h, Ofs.refl _ _⟩
set_option maxRecDepth 100000 in
set_option maxHeartbeats 2000000 in
theorem swapRange_in (W : World) (g cap a b k : Nat) (l : List El) (h : SRow W g l) (ho : ∀ e ∈ l, e.ok) (h1 : a + k ≤ b) (h2 : b + k ≤ l.length) (hl : l.length ≤ 1000) :
  Calls Tryz.prog 173 #[rowV g l.length cap, .int .i64 (a : Int), .int .i64 (b : Int), .int .i64 (k : Int), cmpV] W fun e w' => e = .returned (.tuple #[]) ∧ Did g W (swN l a b k) w' := by
 have HO := Hid.mk ho
 have H0 := Hid.mk (Did.refl h)
 obtain ⟨n, hn⟩ : ∃ n, l.length = n := ⟨_, rfl⟩
 have HN := Hid.mk hn
 rw [hn] at h2 hl ⊢
 clear ho h hn
 go_enter Tryz.func173, Tryz.ntmps173
 go_wp2
 go_loopw [10] (fun iv wr => ∃ i : Nat, i ≤ k ∧ iv = .int .i64 (i : Int) ∧ Hid (Did g W (swN l a b i) wr)) (fun iv _ => k - (intOf iv).toNat)
 case atStart => exact ⟨0, Nat.zero_le _, rfl, H0.out⟩
 case round =>
  obtain ⟨i, hi, rfl, HD⟩ := hrel
  by_cases hlt : i < k
  ·have hlz : (i : Int) < (k : Int) := by omega
   obtain ⟨p, hp⟩ : ∃ p, a + i = p := ⟨_, rfl⟩
   obtain ⟨q, hq⟩ : ∃ q, b + i = q := ⟨_, rfl⟩
   have wp : IntKind.i64.wrap ((a : Int) + (i : Int)) = (p : Int) := by rw [IntKind.wrap_i64]; omega
   have wq : IntKind.i64.wrap ((b : Int) + (i : Int)) = (q : Int) := by rw [IntKind.wrap_i64]; omega
   have pz : (p : Int) < (n : Int) := by omega
   have qz : (q : Int) < (n : Int) := by omega
   obtain ⟨x, y, w2, HX, lp, lq, sp, sq, HW⟩ := swap_facts (w := wr.drew) HD.out.1 (swN_ok HO.out a b i) (p := p) (q := q) (by rw [swN_len, HN.out]; omega) (by rw [swN_len, HN.out]; omega)
   have HP : Hid (a + i = p ∧ b + i = q) := ⟨hp, hq⟩
   clear hp hq
   obtain ⟨cx, hcx⟩ : ∃ c, x.c.toArray = c := ⟨_, rfl⟩
   obtain ⟨cy, hcy⟩ : ∃ c, y.c.toArray = c := ⟨_, rfl⟩
   rw [hcx] at lp sq
   rw [hcy] at lq sp
   clear hcx hcy
   go_wp2_with fail
   go_region
   have HR : Hid (Did g W (swN l a b (i + 1)) w2) := by
    refine ⟨?_, HD.out.2.trans ⟨HW.out.2.os, HW.out.2.tape, HW.out.2.output, HW.out.2.size, HW.out.2.same⟩⟩
    rw [swN, HP.out.1, HP.out.2]
    exact HW.out.1
   all_goals (go_wp2; go_roundw)
   case rel => exact ⟨i + 1, by omega, by go_num, HR⟩
   case measure => simp [intOf]; omega
  ·obtain rfl : i = k := by omega
   go_wp2
   exact bodyPost_end (results_none rfl _ _ _) rfl ⟨rfl, HD.out⟩
theorem Did.trans {g : Nat} {A B C : World} {l m : List El} (h : Did g A l B) (k : Did g B m C) : Did g A m C := ⟨k.1, h.2.trans k.2⟩
set_option maxRecDepth 100000 in
set_option maxHeartbeats 2000000 in
theorem rotate_in (W : World) (g cap : Nat) (A U V B : List El) (h : SRow W g (A ++ U ++ V ++ B)) (ho : ∀ e ∈ A ++ U ++ V ++ B, e.ok) (hu : 0 < U.length) (hv : 0 < V.length) (n a m b : Nat) (hn : (A ++ U ++ V ++ B).length = n) (ha : A.length = a) (hm : a + U.length = m) (hb : m + V.length = b) (hl : n ≤ 1000) :
  Calls Tryz.prog 148 #[rowV g n cap, .int .i64 (a : Int), .int .i64 (m : Int), .int .i64 (b : Int), cmpV] W fun e w' => e = .returned (.tuple #[]) ∧ Did g W (A ++ V ++ U ++ B) w' := by
 have hT : (A ++ V ++ U ++ B).length = n := by rw [← hn]; simp only [List.length_append]; omega
 have hbn : b ≤ n := by rw [← hn]; simp only [List.length_append]; omega
 obtain ⟨T, hTe⟩ : ∃ T, A ++ V ++ U ++ B = T := ⟨_, rfl⟩
 have H0 : Hid (∃ P L R Q : List El, P ++ R ++ L ++ Q = T ∧ P.length + L.length = m ∧ L.length = m - a ∧ R.length = b - m ∧ 0 < L.length ∧ 0 < R.length ∧ (∀ e ∈ P ++ L ++ R ++ Q, e.ok) ∧ (P ++ L ++ R ++ Q).length = n ∧ Did g W (P ++ L ++ R ++ Q) W) :=
  ⟨A, U, V, B, hTe, by omega, by omega, by omega, hu, hv, ho, hn, Did.refl h⟩
 rw [hTe]
 have wi : IntKind.i64.wrap ((m : Int) - (a : Int)) = ((m - a : Nat) : Int) := by rw [IntKind.wrap_i64]; omega
 have wj : IntKind.i64.wrap ((b : Int) - (m : Int)) = ((b - m : Nat) : Int) := by rw [IntKind.wrap_i64]; omega
 have hmn : m ≤ b := by omega
 clear h ho hu hv hn ha hm hb hT hTe
 generalize m - a = i0 at wi H0
 generalize b - m = j0 at wj H0
 have HS := Hid.mk fun (w : World) (l : List El) (h : SRow w g l) (ho : ∀ e ∈ l, e.ok) (hn : l.length = n) (p q k : Nat) (h1 : p + k ≤ q) (h2 : q + k ≤ n) => (hn ▸ swapRange_in w g cap p q k l h ho h1 (hn ▸ h2) (hn ▸ hl) : Calls Tryz.prog 173 #[rowV g n cap, .int .i64 (p : Int), .int .i64 (q : Int), .int .i64 (k : Int), cmpV] w fun e w' => e = .returned (.tuple #[]) ∧ Did g w (swN l p q k) w')
 go_enter Tryz.func148, Tryz.ntmps148
 go_wp2
 go_loopw [10, 11] (fun iv jv wr => ∃ i j : Nat, iv = .int .i64 (i : Int) ∧ jv = .int .i64 (j : Int) ∧ Hid (∃ P L R Q : List El, P ++ R ++ L ++ Q = T ∧ P.length + L.length = m ∧ L.length = i ∧ R.length = j ∧ 0 < L.length ∧ 0 < R.length ∧ (∀ e ∈ P ++ L ++ R ++ Q, e.ok) ∧ (P ++ L ++ R ++ Q).length = n ∧ Did g W (P ++ L ++ R ++ Q) wr)) (fun iv jv _ => (intOf iv).toNat + (intOf jv).toNat)
 case atStart => exact ⟨i0, j0, rfl, rfl, H0.out⟩
 case round =>
  obtain ⟨i, j, rfl, rfl, HD⟩ := hrel
  obtain ⟨P, L, R, Q, hT, hm, hL, hR, l0, r0, ho, hn, hd⟩ := HD.out
  have hnn := hn
  simp only [List.length_append] at hnn
  have him : i ≤ m := by omega
  have hi0 : 0 < i := by omega
  have hj0 : 0 < j := by omega
  have hjn : m + j ≤ n := by omega
  have wmi : IntKind.i64.wrap ((m : Int) - (i : Int)) = ((m - i : Nat) : Int) := by rw [IntKind.wrap_i64]; omega
  have wmj : IntKind.i64.wrap ((m : Int) + (j : Int)) = ((m + j : Nat) : Int) := by rw [IntKind.wrap_i64]; omega
  rcases Nat.lt_trichotomy i j with hij | hij | hij
  ·have e1 : ((i : Int) != (j : Int)) = true := by simp; omega
   have e2 : ¬ (j : Int) < (i : Int) := by omega
   have wji : IntKind.i64.wrap ((j : Int) - (i : Int)) = ((j - i : Nat) : Int) := by rw [IntKind.wrap_i64]; omega
   have wmji : IntKind.i64.wrap (((m + j : Nat) : Int) - (i : Int)) = ((m + j - i : Nat) : Int) := by rw [IntKind.wrap_i64]; omega
   have HC := Hid.mk (HS.out wr _ hd.1 ho hn (m - i) (m + j - i) i (by omega) (by omega))
   have HR : Hid (∀ w', Did g wr (swN (P ++ L ++ R ++ Q) (m - i) (m + j - i) i) w' → ∃ P L R Q : List El, P ++ R ++ L ++ Q = T ∧ P.length + L.length = m ∧ L.length = i ∧ R.length = j - i ∧ 0 < L.length ∧ 0 < R.length ∧ (∀ e ∈ P ++ L ++ R ++ Q, e.ok) ∧ (P ++ L ++ R ++ Q).length = n ∧ Did g W (P ++ L ++ R ++ Q) w') := by
    intro w' hw'
    have h1 : (R.take (j - i)).length = j - i := by simp; omega
    have h2 : (R.drop (j - i)).length = i := by simp; omega
    have e := rot_b P L (R.take (j - i)) (R.drop (j - i)) Q (by omega)
    rw [List.take_append_drop, h1, hL, show P.length = m - i by omega, show m - i + i + (j - i) = m + j - i by omega] at e
    rw [e] at hw'
    refine ⟨P, R.drop (j - i), R.take (j - i), L ++ Q, ?_, by omega, h2, h1, by omega, by omega, ?_, ?_, hd.trans hw'⟩
    ·rw [← hT]
     conv => rhs; rw [← List.take_append_drop (j - i) R]
     simp only [List.append_assoc]
    ·intro x hx
     refine ho x ?_
     conv => rw [← List.take_append_drop (j - i) R]
     simp only [List.mem_append] at hx ⊢
     rcases hx with ((hx | hx) | hx) | hx | hx <;> simp [hx]
    ·simp only [List.length_append]; omega
   clear hT hm hL hR l0 r0 ho hn hd HD hnn
   generalize m + j - i = mji at wmji HC HR
   generalize m + j = mj at wmj wmji
   generalize m - i = mi at wmi HC HR
   have hji : i < j := hij
   go_wp2_with fail
   refine HC.out.mono ?_
   rintro e w1 ⟨rfl, hw1⟩
   have HF := Hid.mk (HR.out _ hw1)
   go_wp2
   go_roundw
   case rel => exact ⟨i, j - i, rfl, rfl, HF.out⟩
   case measure => simp [intOf]; omega
  ·subst hij
   have e1 : ((i : Int) != (i : Int)) = false := by simp
   have HC := Hid.mk (HS.out wr _ hd.1 ho hn (m - i) m i (by omega) (by omega))
   have HR : Hid (∀ w', Did g wr (swN (P ++ L ++ R ++ Q) (m - i) m i) w' → Did g W T w') := by
    intro w' hw'
    have e := rot_c P L R Q (by omega)
    rw [hL, show P.length = m - i by omega, show m - i + i = m by omega] at e
    rw [e, hT] at hw'
    exact hd.trans hw'
   clear hT hm hL hR l0 r0 ho hn hd HD hnn
   generalize m - i = mi at wmi HC HR
   go_wp2_with fail
   refine HC.out.mono ?_
   rintro e w1 ⟨rfl, hw1⟩
   have HF := Hid.mk (HR.out _ hw1)
   go_wp2
   exact bodyPost_end (results_none rfl _ _ _) rfl ⟨rfl, HF.out⟩
  ·have e1 : ((i : Int) != (j : Int)) = true := by simp; omega
   have e2 : (j : Int) < (i : Int) := by omega
   have wji : IntKind.i64.wrap ((i : Int) - (j : Int)) = ((i - j : Nat) : Int) := by rw [IntKind.wrap_i64]; omega
   have HC := Hid.mk (HS.out wr _ hd.1 ho hn (m - i) m j (by omega) (by omega))
   have HR : Hid (∀ w', Did g wr (swN (P ++ L ++ R ++ Q) (m - i) m j) w' → ∃ P L R Q : List El, P ++ R ++ L ++ Q = T ∧ P.length + L.length = m ∧ L.length = i - j ∧ R.length = j ∧ 0 < L.length ∧ 0 < R.length ∧ (∀ e ∈ P ++ L ++ R ++ Q, e.ok) ∧ (P ++ L ++ R ++ Q).length = n ∧ Did g W (P ++ L ++ R ++ Q) w') := by
    intro w' hw'
    have h1 : (L.take j).length = j := by simp; omega
    have h2 : (L.drop j).length = i - j := by simp; omega
    have e := rot_a P (L.take j) (L.drop j) R Q (by omega)
    rw [List.take_append_drop, hR, hL, show P.length = m - i by omega, show m - i + i = m by omega] at e
    rw [e] at hw'
    refine ⟨P ++ R, L.drop j, L.take j, Q, ?_, by rw [List.length_append]; omega, h2, h1, by omega, by omega, ?_, ?_, hd.trans hw'⟩
    ·rw [← hT]
     conv => rhs; rw [← List.take_append_drop j L]
     simp only [List.append_assoc]
    ·intro x hx
     refine ho x ?_
     conv => rw [← List.take_append_drop j L]
     simp only [List.mem_append] at hx ⊢
     rcases hx with (((hx | hx) | hx) | hx) | hx <;> simp [hx]
    ·simp only [List.length_append]; omega
   clear hT hm hL hR l0 r0 ho hn hd HD hnn
   generalize m - i = mi at wmi HC HR
   go_wp2_with fail
   refine HC.out.mono ?_
   rintro e w1 ⟨rfl, hw1⟩
   have HF := Hid.mk (HR.out _ hw1)
   go_wp2
   go_roundw
   case rel => exact ⟨i - j, j, rfl, rfl, HF.out⟩
   case measure => simp [intOf]; omega
end Go.Proofs.YtdlcldjlfhmlgaaGreatDoor.So
/- slices.insertionSortCmpFunc at sets. -/
namespace Go.Proofs.YtdlcldjlfhmlgaaGreatDoor.So
open Go.RowKit
set_option maxRecDepth 100000 in
set_option maxHeartbeats 1000000 in
theorem cmp_in (x y : El) (hx : x.ok) (hy : y.ok) (W : World) : Calls Tryz.prog 56 #[.agg x.c.toArray, .agg y.c.toArray] W fun e w' => e = .returned (.int .i64 (cmpN x.ls y.ls)) ∧ Below W.heap.size W w' := by
 have HC := Hid.mk (compare_yes x.ls y.ls hx.nm hy.nm)
 simp only [El.c]
 generalize x.dv = d1
 generalize x.sv = s1
 generalize y.dv = d2
 generalize y.sv = s2
 go_enter Tryz.func56, Tryz.ntmps56
 go_wp2_with fail
 refine (HC.out _).mono ?_
 rintro e w1 ⟨rfl, hb1⟩
 go_wp2
 go_ret
 refine ⟨rfl, Below.trans (((Below.refl _ _).alloc (Nat.le_refl _) _).alloc (by simp) _) (hb1.mono (by simp; omega))⟩
theorem Did.drew {g : Nat} {W w : World} {l : List El} (h : Did g W l w) : Did g W l w.drew := ⟨h.1.drew, h.2.drew⟩
theorem Did.blk {g : Nat} {W w w' : World} {l : List El} (h : Did g W l w) (hb : Below w.heap.size w w') : Did g W l w' := ⟨h.1.blk hb, h.2.blk hb⟩
theorem two_held {g : Nat} {W : World} {l : List El} {p q : Nat} (hp : p < l.length) (hq : q < l.length) (ho : ∀ e ∈ l, e.ok) : ∃ (K : World → Prop) (cx cy : Array Value), Hid (∀ w, K w → Did g W l w) ∧ Hid (∀ w, Did g W l w → K w) ∧ Hid (∀ w, K w → K w.drew) ∧ Hid (∀ w w', K w → Below w.heap.size w w' → K w') ∧
  Hid (∀ w, K w → K w ∧ (stLoad (.pointer (some ⟨g, p * 6, none⟩))).run Tryz.prog w = .ok (.agg cx) w ∧ (stLoad (.pointer (some ⟨g, q * 6, none⟩))).run Tryz.prog w = .ok (.agg cy) w) ∧
  Hid (∀ w, Calls Tryz.prog 56 #[.agg cx, .agg cy] w fun e w' => e = .returned (.int .i64 (cmpN l[p].ls l[q].ls)) ∧ Below w.heap.size w w') :=
 ⟨fun w => Did g W l w, l[p].c.toArray, l[q].c.toArray, fun _ h => h, fun _ h => h, fun _ h => h.drew, fun _ _ h hb => h.blk hb, fun w h => ⟨h, h.1.load p hp, h.1.load q hq⟩, fun w => cmp_in _ _ (ho _ (List.getElem_mem hp)) (ho _ (List.getElem_mem hq)) w⟩
attribute [local go_sem ↓] loadAt_st storeAt_st
set_option maxRecDepth 100000 in
set_option maxHeartbeats 2000000 in
theorem insertion_in (W : World) (g cap : Nat) (A S B : List El) (h : SRow W g (A ++ S ++ B)) (ho : ∀ e ∈ A ++ S ++ B, e.ok) (n a b : Nat) (hn : (A ++ S ++ B).length = n) (ha : A.length = a) (hb : a + S.length = b) (hl : n ≤ 1000) :
  Calls Tryz.prog 120 #[rowV g n cap, .int .i64 (a : Int), .int .i64 (b : Int), cmpV] W fun e w' => e = .returned (.tuple #[]) ∧ Did g W (A ++ isort lt S ++ B) w' := by
 have hbn : b ≤ n := by rw [← hn]; simp only [List.length_append]; omega
 have H0 : Hid (∃ k, a + k = a + 1 ∧ Did g W (A ++ isort lt (S.take k) ++ S.drop k ++ B) W) := by
  refine ⟨1, rfl, ?_⟩
  cases S with
  | nil => simpa [isort] using Did.refl h
  | cons s S => simpa [isort_one] using Did.refl h
 have HN : Hid ((A ++ S ++ B).length = n ∧ A.length = a ∧ a + S.length = b ∧ ∀ e ∈ A ++ S ++ B, e.ok) := ⟨hn, ha, hb, ho⟩
 have wa : IntKind.i64.wrap ((a : Int) + 1) = ((a + 1 : Nat) : Int) := by rw [IntKind.wrap_i64]; omega
 have hab : a ≤ b := by omega
 clear h ho hn ha hb
 go_enter Tryz.func120, Tryz.ntmps120
 go_wp2
 go_loopw [8] (fun iv wr => ∃ i : Nat, iv = .int .i64 (i : Int) ∧ i ≤ b + 1 ∧ a < i ∧ Hid (∃ k, a + k = i ∧ Did g W (A ++ isort lt (S.take k) ++ S.drop k ++ B) wr)) (fun iv _ => b + 1 - (intOf iv).toNat)
 case atStart => exact ⟨a + 1, rfl, by omega, by omega, H0.out⟩
 case round =>
  obtain ⟨i, rfl, hi, hai, HD⟩ := hrel
  by_cases hlt : i < b
  ·have hlz : (i : Int) < (b : Int) := by omega
   obtain ⟨k, hk, hd⟩ := HD.out
   obtain ⟨hn, ha, hb, ho⟩ := HN.out
   have hkS : k < S.length := by omega
   obtain ⟨x, hx⟩ : ∃ x, S[k] = x := ⟨_, rfl⟩
   obtain ⟨R, hR⟩ : ∃ R, S.drop (k + 1) ++ B = R := ⟨_, rfl⟩
   obtain ⟨I, hI⟩ : ∃ I, isort lt (S.take k) = I := ⟨_, rfl⟩
   have hIl : I.length + a = i := by rw [← hI, isort_len, List.length_take]; omega
   have hIr : Ris lt I := hI ▸ isort_ris wo _
   have hxok : x.ok := ho x (by rw [← hx]; simp only [List.mem_append]; exact .inl (.inr (List.getElem_mem hkS)))
   have hIok : ∀ e ∈ I, e.ok := fun e he => ho e (by
    rw [← hI, (isort_perm _).mem_iff] at he
    simp only [List.mem_append]; exact .inl (.inr (List.mem_of_mem_take he)))
   have hAok : ∀ e ∈ A, e.ok := fun e he => ho e (by simp [he])
   have hRok : ∀ e ∈ R, e.ok := fun e he => ho e (by
    rw [← hR] at he
    rcases List.mem_append.1 he with he | he
    ·simp only [List.mem_append]; exact .inl (.inr (List.mem_of_mem_drop he))
    ·simp [he])
   have hd0 : Did g W (A ++ I ++ x :: ([] ++ R)) wr := by
    rw [hI] at hd
    have e : S.drop k = x :: S.drop (k + 1) := by rw [← hx]; exact List.drop_eq_getElem_cons hkS
    rw [e] at hd
    simpa [← hR, List.append_assoc] using hd
   have hRl : A.length + I.length + 1 + R.length = n := by
    rw [← hn, ← hR]; simp only [List.length_append, List.length_drop]; omega
   have FIN : Hid (∀ (P Q : List El) (w : World), P ++ Q = I → (∀ q ∈ Q, lt x q = true) → (∀ p ∈ P, lt x p = false) → Did g W (A ++ P ++ x :: (Q ++ R)) w → ∃ k, a + k = i + 1 ∧ Did g W (A ++ isort lt (S.take k) ++ S.drop k ++ B) w) := by
    intro P Q w hPQ hq hp hw
    refine ⟨k + 1, by omega, ?_⟩
    have e1 : isort lt (S.take (k + 1)) = P ++ x :: Q := by
     rw [List.take_succ_eq_append_getElem hkS, hx, isort_snoc wo, hI, ← hPQ, ins_right P Q x hq hp]
    rw [e1]
    have e2 : A ++ P ++ x :: (Q ++ R) = A ++ (P ++ x :: Q) ++ S.drop (k + 1) ++ B := by rw [← hR]; simp [List.append_assoc]
    rw [← e2]; exact hw
   have HI0 : Hid (∃ P Q : List El, P.length + a = i ∧ P ++ Q = I ∧ (∀ q ∈ Q, lt x q = true) ∧ Did g W (A ++ P ++ x :: (Q ++ R)) wr) := ⟨I, [], hIl, by simp, by simp, hd0⟩
   have HA : Hid (A.length = a ∧ (∀ e ∈ A, e.ok) ∧ x.ok ∧ (∀ e ∈ I, e.ok) ∧ (∀ e ∈ R, e.ok) ∧ A.length + I.length + 1 + R.length = n ∧ Ris lt I ∧ I.length + a = i) := ⟨ha, hAok, hxok, hIok, hRok, hRl, hIr, hIl⟩
   clear hk hd hn ha hb ho hkS hx hR hI hIl hIr hxok hIok hAok hRok hd0 hRl HD
   go_wp2
   go_loopw [9] (fun jv wr => ∃ j : Nat, jv = .int .i64 (j : Int) ∧ a ≤ j ∧ j ≤ i ∧ Hid (∃ P Q : List El, P.length + a = j ∧ P ++ Q = I ∧ (∀ q ∈ Q, lt x q = true) ∧ Did g W (A ++ P ++ x :: (Q ++ R)) wr)) (fun jv _ => (intOf jv).toNat)
   case atStart => exact ⟨i, rfl, by omega, Nat.le_refl _, HI0.out⟩
   case round =>
    obtain ⟨j, rfl, haj, hji, HD⟩ := hrel
    obtain ⟨P, Q, hP, hPQ, hq, hd⟩ := HD.out
    by_cases hja : a < j
    ·obtain ⟨ha, hAok, hxok, hIok, hRok, hRl, hIr, hIl⟩ := HA.out
     obtain ⟨P', p, rfl⟩ : ∃ P' p, P = P' ++ [p] := by
      rcases List.eq_nil_or_concat P with rfl | ⟨P', p, rfl⟩
      ·simp at hP; omega
      ·exact ⟨P', p, by simp⟩
     obtain ⟨jp, hjp⟩ : ∃ jp, j = jp + 1 := ⟨j - 1, by omega⟩
     have hPl : A.length + P'.length = jp := by simp at hP; omega
     have hpok : p.ok := hIok p (by rw [← hPQ]; simp)
     have hll : (A ++ (P' ++ [p]) ++ x :: (Q ++ R)).length = n := by
      have := congrArg List.length hPQ
      simp only [List.length_append, List.length_cons, List.length_nil] at this ⊢
      omega
     have hok : ∀ e ∈ A ++ (P' ++ [p]) ++ x :: (Q ++ R), e.ok := by
      intro e he
      have hPQ' : ∀ z, z ∈ P' ++ [p] ∨ z ∈ Q → z.ok := fun z hz => hIok z (by rw [← hPQ]; exact List.mem_append.2 hz)
      simp only [List.mem_append, List.mem_cons] at he
      rcases he with (he | he) | rfl | he | he
      ·exact hAok e he
      ·exact hPQ' e (.inl (by simpa using he))
      ·exact hxok
      ·exact hPQ' e (.inr he)
      ·exact hRok e he
     have hj1 : (A ++ (P' ++ [p]) ++ x :: (Q ++ R))[j]'(by omega) = x := by
      rw [List.getElem_append_right (by simp; omega)]
      simp [show j - (A.length + (P'.length + 1)) = 0 by omega]
     have hj0 : (A ++ (P' ++ [p]) ++ x :: (Q ++ R))[jp]'(by omega) = p := by
      rw [List.getElem_append_left (by simp; omega), List.getElem_append_right (by omega), List.getElem_append_right (by omega)]
      simp [show jp - A.length - P'.length = 0 by omega]
     obtain ⟨K, cx, cp, KD, KI, kd, kb, HS2, HC⟩ := two_held (g := g) (W := W) (l := A ++ (P' ++ [p]) ++ x :: (Q ++ R)) (p := j) (q := jp) (by omega) (by omega) hok
     rw [hj1, hj0] at HC
     obtain ⟨c, hc⟩ : ∃ c, cmpN x.ls p.ls = c := ⟨_, rfl⟩
     rw [hc] at HC
     have wj : IntKind.i64.wrap ((j : Int) - 1) = (jp : Int) := by rw [IntKind.wrap_i64]; omega
     have jz : (j : Int) < (n : Int) := by omega
     have jz0 : (jp : Int) < (n : Int) := by omega
     have jaz : (a : Int) < (j : Int) := by omega
     have HJ : Hid (j = jp + 1 ∧ j < n ∧ jp < n) := ⟨hjp, by omega, by omega⟩
     have jaz' : decide ((j : Int) > (a : Int)) = true := decide_eq_true jaz
     have hK := KI.out _ hd
     have HF : Hid (cmpN x.ls p.ls = c ∧ P'.length + 1 + a = j ∧ P' ++ [p] ++ Q = I ∧ (∀ q ∈ Q, lt x q = true) ∧ (∀ e ∈ A ++ (P' ++ [p]) ++ x :: (Q ++ R), e.ok) ∧ (A ++ (P' ++ [p]) ++ x :: (Q ++ R)).length = n ∧ A.length + P'.length = jp) := ⟨hc, by simpa using hP, hPQ, hq, hok, hll, hPl⟩
     clear hj1 hj0 hjp hc hd hok hll hPl hpok hIl hIr hRl hRok hIok hxok hAok ha hq hPQ hP HD
     have hS0 := HS2.out _ hK
     by_cases hcz : c < 0
     ·go_wp2_with fail
      go_region_held3 (fun w => K w ∧ (stLoad (.pointer (some ⟨g, j * 6, none⟩))).run Tryz.prog w = .ok (.agg cx) w ∧ (stLoad (.pointer (some ⟨g, jp * 6, none⟩))).run Tryz.prog w = .ok (.agg cp) w)
       (first | assumption | (apply HS2.out; repeat (first | assumption | apply kd.out)))
       ((go_at_call 56; refine (HC.out _).mono ?_; rintro e w2 ⟨rfl, hb2⟩; have K2 := kb.out _ _ (by repeat (first | assumption | apply kd.out)) hb2; have hs2 := HS2.out _ K2))
      obtain ⟨hcc, hP, hPQ, hq, hok, hll, hPl⟩ := HF.out
      have hd2 := KD.out _ K2
      obtain ⟨x', y', w3, HX, lp, lq, sp, sq, HW⟩ := swap_facts (w := w2.drew) hd2.1 hok (p := j) (q := jp) (by rw [hll]; exact HJ.out.2.1) (by rw [hll]; exact HJ.out.2.2)
      have HR : Hid (∃ P Q : List El, P.length + a = jp ∧ P ++ Q = I ∧ (∀ q ∈ Q, lt x q = true) ∧ Did g W (A ++ P ++ x :: (Q ++ R)) w3) := by
       refine ⟨P', p :: Q, by have := HJ.out.1; omega, by rw [← hPQ]; simp, ?_, ?_, hd2.2.drew.trans HW.out.2⟩
       ·intro z hz
        rcases List.mem_cons.1 hz with rfl | hz
        ·exact lt_true.2 (by rw [hcc]; exact hcz)
        ·exact hq z hz
       ·have e := HW.out.1
        have e2 := sw_right (A ++ P') p x (Q ++ R)
        rw [List.length_append, hPl, ← HJ.out.1, sw_comm] at e2
        have e3 : A ++ (P' ++ [p]) ++ x :: (Q ++ R) = A ++ P' ++ p :: x :: (Q ++ R) := by simp
        rw [e3, e2] at e
        exact e
      clear hcc hP hPQ hq hok hll hPl hd2
      generalize x'.c.toArray = c1 at lp sq
      generalize y'.c.toArray = c2 at lq sp
      generalize stPut w2.drew g j y' = w4 at sp sq
      clear hs2 hS0
      go_wp2_with fail
      go_region
      all_goals (go_wp2; go_roundw)
      case rel => exact ⟨jp, rfl, by have := HJ.out.1; omega, by have := HJ.out.1; omega, HR⟩
      case measure => simp [intOf]; have := HJ.out.1; omega
     ·go_wp2_with fail
      go_region_held3 (fun w => K w ∧ (stLoad (.pointer (some ⟨g, j * 6, none⟩))).run Tryz.prog w = .ok (.agg cx) w ∧ (stLoad (.pointer (some ⟨g, jp * 6, none⟩))).run Tryz.prog w = .ok (.agg cp) w)
       (first | assumption | (apply HS2.out; repeat (first | assumption | apply kd.out)))
       ((go_at_call 56; refine (HC.out _).mono ?_; rintro e w2 ⟨rfl, hb2⟩; have K2 := kb.out _ _ (by repeat (first | assumption | apply kd.out)) hb2; have hs2 := HS2.out _ K2))
      obtain ⟨hcc, hP, hPQ, hq, hok, hll, hPl⟩ := HF.out
      have HG := Hid.mk (FIN.out _ Q _ hPQ hq (ris_last wo (by have := HA.out.2.2.2.2.2.2.1; rw [← hPQ] at this; exact (List.pairwise_append.1 this).1) (lt_false.2 (by have := cmpN_nt x.ls p.ls; omega))) (KD.out _ K2))
      clear hcc hP hPQ hq hok hll hPl hs2 hS0
      have wi : IntKind.i64.wrap ((i : Int) + 1) = ((i + 1 : Nat) : Int) := by rw [IntKind.wrap_i64]; omega
      go_wp2
      go_roundw
      case rel => exact ⟨i + 1, by first | rfl | go_num, by omega, by omega, HG.out⟩
      case measure => simp [intOf]; omega
    ·obtain rfl : j = a := by omega
     obtain rfl : P = [] := List.eq_nil_of_length_eq_zero (by omega)
     have HG := Hid.mk (FIN.out [] Q _ hPQ hq (by simp) hd.drew)
     have jaz : ¬ (j : Int) < (j : Int) := by omega
     have jaz' : decide ((j : Int) > (j : Int)) = false := decide_eq_false (by omega)
     have wi : IntKind.i64.wrap ((i : Int) + 1) = ((i + 1 : Nat) : Int) := by rw [IntKind.wrap_i64]; omega
     clear hP hPQ hq hd HD
     go_wp2_with fail
     go_region
     all_goals (go_wp2; go_roundw)
     case rel => exact ⟨i + 1, by first | rfl | go_num, by omega, by omega, HG.out⟩
     case measure => simp [intOf]; omega
  ·have HG : Hid (Did g W (A ++ isort lt S ++ B) wr) := by
    obtain ⟨k, hk, hd⟩ := HD.out
    obtain ⟨hn, ha, hb, ho⟩ := HN.out
    rw [List.take_of_length_le (by omega), List.drop_of_length_le (by omega)] at hd
    show Did g W (A ++ isort lt S ++ B) wr
    simpa using hd
   have hlz : ¬ (i : Int) < (b : Int) := by omega
   clear HD
   go_wp2
   refine bodyPost_end (results_none rfl _ _ _) rfl ⟨rfl, ?_⟩
   have hg := HG.out
   simpa using hg
end Go.Proofs.YtdlcldjlfhmlgaaGreatDoor.So
/- slices.symMergeCmpFunc at sets: of one set and a row. -/
namespace Go.Proofs.YtdlcldjlfhmlgaaGreatDoor.So
open Go.RowKit
attribute [local go_sem ↓] loadAt_st storeAt_st
theorem ris_before {V : List El} {x v : El} (h : Ris lt V) {i : Nat} (hv : V[i]? = some v) (hx : lt v x = true) : ∀ p ∈ V.take (i + 1), lt p x = true := by
 intro p hp
 obtain ⟨hi, rfl⟩ := List.getElem?_eq_some_iff.1 hv
 rw [List.take_succ_eq_append_getElem hi] at hp
 rcases List.mem_append.1 hp with hp | hp
 ·have h2 := h
  rw [← List.take_append_drop i V] at h2
  have := (List.pairwise_append.1 h2).2.2 p hp V[i] (by rw [List.drop_eq_getElem_cons hi]; exact List.mem_cons_self)
  cases e : lt p x with
  | true => rfl
  | false =>
   have := wo.nt _ _ _ this e
   rw [hx] at this
   cases this
 ·obtain rfl := List.mem_singleton.1 hp; exact hx
theorem ris_behind {V : List El} {x v : El} (h : Ris lt V) {i : Nat} (hv : V[i]? = some v) (hx : lt v x = false) : ∀ p ∈ V.drop i, lt p x = false := by
 intro p hp
 obtain ⟨hi, rfl⟩ := List.getElem?_eq_some_iff.1 hv
 rw [List.drop_eq_getElem_cons hi] at hp
 rcases List.mem_cons.1 hp with rfl | hp
 ·exact hx
 ·have h2 := h
  rw [← List.take_append_drop i V, List.drop_eq_getElem_cons hi] at h2
  have := (List.pairwise_cons.1 (List.pairwise_append.1 h2).2.1).1 p hp
  exact wo.nt _ _ _ this hx
theorem halves (i j h : Nat) (hh : (i + j) / 2 = h) (hb : i + j ≤ 4000) : IntKind.i64.wrap ((i : Int) + (j : Int)) = ((i + j : Nat) : Int) ∧ IntKind.u64.wrap ((i + j : Nat) : Int) = ((i + j : Nat) : Int) ∧ ((i + j : Nat) : Int) / 2 = (h : Int) ∧ IntKind.i64.wrap (h : Int) = (h : Int) ∧ IntKind.u64.wrap (h : Int) = (h : Int) := by
 refine ⟨by rw [IntKind.wrap_i64]; omega, by rw [IntKind.wrap_u64]; omega, by omega, by rw [IntKind.wrap_i64]; omega, by rw [IntKind.wrap_u64]; omega⟩
set_option maxRecDepth 100000 in
set_option maxHeartbeats 2000000 in
theorem symA (W : World) (g cap : Nat) (A V B : List El) (x : El) (h : SRow W g (A ++ [x] ++ V ++ B)) (ho : ∀ e ∈ A ++ [x] ++ V ++ B, e.ok) (hV : Ris lt V) (n a m b : Nat) (hn : (A ++ [x] ++ V ++ B).length = n) (ha : A.length = a) (hm : a + 1 = m) (hb : m + V.length = b) (hl : n ≤ 1000) :
  Calls Tryz.prog 121 #[rowV g n cap, .int .i64 (a : Int), .int .i64 (m : Int), .int .i64 (b : Int), cmpV] W fun e w' => e = .returned (.tuple #[]) ∧ Did g W (A ++ mrg lt [x] V ++ B) w' := by
 have hbn : b ≤ n := by rw [← hn]; simp only [List.length_append, List.length_cons, List.length_nil]; omega
 obtain ⟨l, hle⟩ : ∃ l, A ++ [x] ++ V ++ B = l := ⟨_, rfl⟩
 have hla : ∀ (ha' : a < l.length), l[a] = x := by
  subst hle; intro _
  rw [List.getElem_append_left (by simp; omega), List.getElem_append_left (by simp; omega), List.getElem_append_right (by omega)]
  simp
 have hlv : ∀ i, i < V.length → l[m + i]? = V[i]? := by
  subst hle; intro i hi
  rw [List.getElem?_append_left (by simp; omega), List.getElem?_append_right (by simp; omega)]
  congr 1
  simp; omega
 have FIN : Hid (∀ i, m ≤ i → i ≤ b → (i = m ∨ (m < i ∧ ∃ v, V[i - m - 1]? = some v ∧ lt v x = true)) → (i = b ∨ ∃ v, V[i - m]? = some v ∧ lt v x = false) → A ++ mrg lt [x] V ++ B = A ++ V.take (i - m) ++ x :: (V.drop (i - m) ++ B)) := by
  intro i h1 h2 h3 h4
  have e := ins_left (lt := lt) (V.take (i - m)) (V.drop (i - m)) x (by
   rcases h3 with rfl | ⟨hi0, v, hv, hx⟩
   ·simp
   ·have := ris_before hV hv hx
    rw [show i - m - 1 + 1 = i - m by omega] at this
    exact this) (by
   rcases h4 with rfl | ⟨v, hv, hx⟩
   ·rw [List.drop_of_length_le (by omega)]; simp
   ·exact ris_behind hV hv hx)
  rw [List.take_append_drop] at e
  rw [e]
  simp
 obtain ⟨T, hT⟩ : ∃ T, A ++ mrg lt [x] V ++ B = T := ⟨_, rfl⟩
 rw [hT] at FIN ⊢
 rw [hle] at h ho hn
 have H0 := Hid.mk (Did.refl h)
 have HL : Hid ((∀ e ∈ l, e.ok) ∧ l.length = n ∧ A.length = a ∧ a + 1 = m ∧ m + V.length = b ∧ (∀ (ha' : a < l.length), l[a] = x) ∧ (∀ i, i < V.length → l[m + i]? = V[i]?) ∧ A ++ [x] ++ V ++ B = l) := ⟨ho, hn, ha, hm, hb, hla, hlv, hle⟩
 have hma : IntKind.i64.wrap ((m : Int) - (a : Int)) = 1 := by rw [IntKind.wrap_i64]; omega
 have ham : a < m := by omega
 have hmb : m ≤ b := by omega
 have az : (a : Int) < (n : Int) := by omega
 clear h ho hn ha hm hb hla hlv hle hV hT
 go_enter Tryz.func121, Tryz.ntmps121
 go_wp2
 go_loopw [10, 11] (fun iv jv wr => ∃ i j : Nat, iv = .int .i64 (i : Int) ∧ jv = .int .i64 (j : Int) ∧ m ≤ i ∧ i ≤ j ∧ j ≤ b ∧ Hid ((i = m ∨ (m < i ∧ ∃ v, V[i - m - 1]? = some v ∧ lt v x = true)) ∧ (j = b ∨ ∃ v, V[j - m]? = some v ∧ lt v x = false) ∧ Did g W l wr)) (fun iv jv _ => (intOf jv).toNat - (intOf iv).toNat)
 case atStart => exact ⟨m, b, rfl, rfl, Nat.le_refl _, hmb, Nat.le_refl _, .inl rfl, .inl rfl, H0.out⟩
 case round =>
  obtain ⟨i, j, rfl, rfl, hmi, hij, hjb, HD⟩ := hrel
  by_cases hlt : i < j
  ·have hlz : (i : Int) < (j : Int) := by omega
   obtain ⟨hh, hhe⟩ : ∃ hh, (i + j) / 2 = hh := ⟨_, rfl⟩
   obtain ⟨s, hs⟩ : ∃ s, i + j = s := ⟨_, rfl⟩
   have hv := halves i j hh hhe (by omega)
   rw [hs] at hv
   obtain ⟨v1, v2, v3, v4, v5⟩ := hv
   have hhb : i ≤ hh ∧ hh < j := by omega
   obtain ⟨hd1, hd2, hd⟩ := HD.out
   obtain ⟨ho, hn, ha, hm, hb, hla, hlv, hle⟩ := HL.out
   obtain ⟨K, cx, cp, KD, KI, kd, kb, HS2, HC⟩ := two_held (g := g) (W := W) (l := l) (p := hh) (q := a) (by omega) (by omega) ho
   have ehh : V[hh - m]? = some (l[hh]'(by omega)) := by
    rw [← hlv (hh - m) (by omega), show m + (hh - m) = hh by omega]; exact List.getElem?_eq_getElem _
   rw [hla (by omega)] at HC
   obtain ⟨y, hy⟩ : ∃ y, l[hh]'(by omega) = y := ⟨_, rfl⟩
   rw [hy] at HC ehh
   obtain ⟨c, hc⟩ : ∃ c, cmpN y.ls x.ls = c := ⟨_, rfl⟩
   rw [hc] at HC
   have HF : Hid (cmpN y.ls x.ls = c ∧ V[hh - m]? = some y ∧ (i = m ∨ (m < i ∧ ∃ v, V[i - m - 1]? = some v ∧ lt v x = true)) ∧ (j = b ∨ ∃ v, V[j - m]? = some v ∧ lt v x = false)) := ⟨hc, ehh, hd1, hd2⟩
   have hz : (hh : Int) < (n : Int) := by omega
   have hK := KI.out _ hd
   have hS0 := HS2.out _ hK
   clear hy hc hd1 hd2 hd HD ho hn ha hm hb hla hlv hle ehh hhe hs
   by_cases hcz : c < 0
   ·go_wp2_with fail
    go_region_held3 (fun w => K w ∧ (stLoad (.pointer (some ⟨g, hh * 6, none⟩))).run Tryz.prog w = .ok (.agg cx) w ∧ (stLoad (.pointer (some ⟨g, a * 6, none⟩))).run Tryz.prog w = .ok (.agg cp) w)
     (first | assumption | (apply HS2.out; repeat (first | assumption | apply kd.out)))
     ((go_at_call 56; refine (HC.out _).mono ?_; rintro e w2 ⟨rfl, hb2⟩; have K2 := kb.out _ _ (by repeat (first | assumption | apply kd.out)) hb2; have hs2 := HS2.out _ K2))
    have HG : Hid ((hh + 1 = m ∨ (m < hh + 1 ∧ ∃ v, V[hh + 1 - m - 1]? = some v ∧ lt v x = true)) ∧ (j = b ∨ ∃ v, V[j - m]? = some v ∧ lt v x = false) ∧ Did g W l w2) := by
     obtain ⟨f1, f2, f3, f4⟩ := HF.out
     exact ⟨.inr ⟨by omega, y, by rw [show hh + 1 - m - 1 = hh - m by omega]; exact f2, lt_true.2 (by rw [f1]; exact hcz)⟩, f4, KD.out _ K2⟩
    have wh : IntKind.i64.wrap ((hh : Int) + 1) = ((hh + 1 : Nat) : Int) := by rw [IntKind.wrap_i64]; omega
    clear hs2 hS0
    go_wp2
    go_roundw
    case rel => exact ⟨hh + 1, j, by first | rfl | go_num, rfl, by omega, by omega, by omega, HG⟩
    case measure => simp [intOf]; omega
   ·go_wp2_with fail
    go_region_held3 (fun w => K w ∧ (stLoad (.pointer (some ⟨g, hh * 6, none⟩))).run Tryz.prog w = .ok (.agg cx) w ∧ (stLoad (.pointer (some ⟨g, a * 6, none⟩))).run Tryz.prog w = .ok (.agg cp) w)
     (first | assumption | (apply HS2.out; repeat (first | assumption | apply kd.out)))
     ((go_at_call 56; refine (HC.out _).mono ?_; rintro e w2 ⟨rfl, hb2⟩; have K2 := kb.out _ _ (by repeat (first | assumption | apply kd.out)) hb2; have hs2 := HS2.out _ K2))
    have HG : Hid ((i = m ∨ (m < i ∧ ∃ v, V[i - m - 1]? = some v ∧ lt v x = true)) ∧ (hh = b ∨ ∃ v, V[hh - m]? = some v ∧ lt v x = false) ∧ Did g W l w2) := by
     obtain ⟨f1, f2, f3, f4⟩ := HF.out
     exact ⟨f3, .inr ⟨y, f2, lt_false.2 (by have := cmpN_nt y.ls x.ls; omega)⟩, KD.out _ K2⟩
    clear hs2 hS0
    go_wp2
    go_roundw
    case rel => exact ⟨i, hh, rfl, rfl, by omega, by omega, by omega, HG⟩
    case measure => simp [intOf]; omega
  ·obtain rfl : i = j := by omega
   have HT : Hid (T = A ++ V.take (i - m) ++ x :: (V.drop (i - m) ++ B)) := FIN.out i hmi hjb HD.out.1 HD.out.2.1
   obtain ⟨V1, hV1⟩ : ∃ V1, V.take (i - m) = V1 := ⟨_, rfl⟩
   obtain ⟨V2, hV2⟩ : ∃ V2, V.drop (i - m) ++ B = V2 := ⟨_, rfl⟩
   rw [hV1, hV2] at HT
   have hl1 : V1.length = i - m := by rw [← hV1, List.length_take]; have := HL.out.2.2.2.2.1; omega
   have H1 : Hid (∃ t, a + t = a ∧ t ≤ V1.length ∧ Did g W (A ++ V1.take t ++ x :: (V1.drop t ++ V2)) wr) := by
    refine ⟨0, rfl, Nat.zero_le _, ?_⟩
    have e := HL.out.2.2.2.2.2.2.2
    have e2 : A ++ V1.take 0 ++ x :: (V1.drop 0 ++ V2) = l := by
     rw [← e, ← hV1, ← hV2]
     simp only [List.take_zero, List.drop_zero, List.append_nil, List.append_assoc, List.cons_append, List.nil_append]
     rw [← List.append_assoc (V.take (i - m)), List.take_append_drop]
    rw [e2]; exact HD.out.2.2
   have HV : Hid (V1.length = i - m ∧ (∀ t, t ≤ V1.length → (∀ e ∈ A ++ V1.take t ++ x :: (V1.drop t ++ V2), e.ok) ∧ (A ++ V1.take t ++ x :: (V1.drop t ++ V2)).length = n) ∧ A.length = a ∧ a + 1 = m) := by
    obtain ⟨ho, hn, ha, hm, hb, hla, hlv, hle⟩ := HL.out
    refine ⟨hl1, fun t ht => ⟨fun e he => ho e ?_, ?_⟩, ha, hm⟩
    ·rw [← hle]
     have h1 : ∀ z, z ∈ V1 → z ∈ V := fun z hz => by rw [← hV1] at hz; exact List.mem_of_mem_take hz
     simp only [List.mem_append, List.mem_cons, List.not_mem_nil, or_false] at he ⊢
     rcases he with (he | he) | rfl | he | he
     ·exact .inl (.inl (.inl he))
     ·exact .inl (.inr (h1 _ (List.mem_of_mem_take he)))
     ·exact .inl (.inl (.inr rfl))
     ·exact .inl (.inr (h1 _ (List.mem_of_mem_drop he)))
     ·rw [← hV2] at he
      rcases List.mem_append.1 he with he | he
      ·exact .inl (.inr (List.mem_of_mem_drop he))
      ·exact .inr he
    ·rw [← hle] at hn
     rw [← hn, ← hV2]
     simp only [List.length_append, List.length_take, List.length_cons, List.length_drop, List.length_nil]
     omega
   clear hV1 hV2 hl1 HD FIN H0 HL
   have wi1 : IntKind.i64.wrap ((i : Int) - 1) = ((i - 1 : Nat) : Int) := by rw [IntKind.wrap_i64]; omega
   have hi1 : a ≤ i - 1 := by omega
   have hib : i - 1 < b + 1 := by omega
   have HI : Hid (i - 1 = a + (i - m)) := by have := HV.out.2.2.2; show _ = _; omega
   generalize i - 1 = i1 at wi1 hi1 hib HI
   go_wp2
   go_loopw [13] (fun kv wr => ∃ k : Nat, kv = .int .i64 (k : Int) ∧ a ≤ k ∧ k ≤ i1 ∧ Hid (∃ t, a + t = k ∧ t ≤ V1.length ∧ Did g W (A ++ V1.take t ++ x :: (V1.drop t ++ V2)) wr)) (fun kv _ => i1 - (intOf kv).toNat)
   case atStart => exact ⟨a, rfl, Nat.le_refl _, hi1, H1.out⟩
   case round =>
    obtain ⟨k, rfl, hak, hki, HD⟩ := hrel
    by_cases hlt : k < i1
    ·have hlz : (k : Int) < (i1 : Int) := by omega
     obtain ⟨t, ht, htl, hd⟩ := HD.out
     obtain ⟨hl1, hok, ha, hm⟩ := HV.out
     have hiv := HI.out
     have htV : t < V1.length := by omega
     obtain ⟨k1, hk1⟩ : ∃ k1, k + 1 = k1 := ⟨_, rfl⟩
     obtain ⟨x', y', w3, HX, lp, lq, sp, sq, HW⟩ := swap_facts (w := wr.drew) hd.1.drew (hok t htl).1 (p := k) (q := k1) (by rw [(hok t htl).2]; omega) (by rw [(hok t htl).2]; omega)
     have HR : Hid (∃ t, a + t = k1 ∧ t ≤ V1.length ∧ Did g W (A ++ V1.take t ++ x :: (V1.drop t ++ V2)) w3) := by
      refine ⟨t + 1, by omega, htV, ?_, hd.2.drew.trans HW.out.2⟩
      have e := HW.out.1
      have e2 := sw_right (A ++ V1.take t) x V1[t] (V1.drop (t + 1) ++ V2)
      rw [show (A ++ V1.take t).length = k by rw [List.length_append, List.length_take]; omega, hk1] at e2
      have e3 : A ++ V1.take t ++ x :: (V1.drop t ++ V2) = A ++ V1.take t ++ x :: V1[t] :: (V1.drop (t + 1) ++ V2) := by rw [List.drop_eq_getElem_cons htV, List.cons_append]
      rw [e3, e2] at e
      have e4 : A ++ V1.take (t + 1) ++ x :: (V1.drop (t + 1) ++ V2) = A ++ V1.take t ++ V1[t] :: x :: (V1.drop (t + 1) ++ V2) := by
       rw [List.take_succ_eq_append_getElem htV]
       simp only [List.append_assoc, List.cons_append, List.nil_append]
      rw [e4]
      exact e
     have wk : IntKind.i64.wrap ((k : Int) + 1) = (k1 : Int) := by rw [IntKind.wrap_i64]; omega
     have kz : (k : Int) < (n : Int) := by omega
     have kz1 : (k1 : Int) < (n : Int) := by omega
     have HK1 := Hid.mk hk1
     generalize x'.c.toArray = c1 at lp sq
     generalize y'.c.toArray = c2 at lq sp
     generalize stPut wr.drew g k y' = w4 at sp sq
     clear ht htl hd hl1 hok ha hm hiv htV hk1 HD
     go_wp2_with fail
     go_region
     all_goals (go_wp2; go_roundw)
     case rel => exact ⟨k1, rfl, by have := HK1.out; omega, by have := HK1.out; omega, HR⟩
     case measure => simp [intOf]; have := HK1.out; omega
    ·have HG : Hid (Did g W T wr) := by
      obtain ⟨t, ht, htl, hd⟩ := HD.out
      obtain ⟨hl1, hok, ha, hm⟩ := HV.out
      have hiv := HI.out
      rw [List.take_of_length_le (by omega), List.drop_of_length_le (by omega), List.nil_append] at hd
      show Did g W T wr
      rw [HT.out]; exact hd
     have hlz : ¬ (k : Int) < (i1 : Int) := by omega
     clear HD
     go_wp2
     exact bodyPost_ret (results_none rfl _ _ _) rfl ⟨rfl, HG.out⟩
end Go.Proofs.YtdlcldjlfhmlgaaGreatDoor.So
