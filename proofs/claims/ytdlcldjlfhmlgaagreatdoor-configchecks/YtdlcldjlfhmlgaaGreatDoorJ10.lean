/- Texts of this proof, joined: DLower2, LcN, SoF, SoR, LcF, LcM. -/
import Derived.Test.YtdlcldjlfhmlgaaGreatDoorJ9
import Derived.Test.YtdlcldjlfhmlgaaGreatDoorJ3
import Derived.Test.YtdlcldjlfhmlgaaGreatDoorRows
import Derived.WalkKit
import Derived.WalkSpells
import Derived.WalkLawsBesides
import Derived.Below
import Derived.Laws.CopyRow
import Derived.Laws.AppendOwn
import Derived.Maps.OwnSet
import Derived.DeepKeys4
set_option linter.unusedVariables false
set_option linter.unusedSimpArgs false
/- Lower, of every type. -/
namespace Go.Proofs.YtdlcldjlfhmlgaaGreatDoor
open Go.RowKit
theorem lowName_in (x : ByteArray) (h : IsName x) (w : World) :
  Calls Tryz.prog 53 #[.string x] w fun e w' => e = .returned (.string (lowA x)) ∧ Below w.heap.size w w' := by
 obtain ⟨ls, ho, rfl⟩ := h
 rw [lowA_nm ho]
 go_enter Tryz.func53, Tryz.ntmps53
 go_wp2_with fail
 refine (right_yes ls ho _).mono ?_
 rintro e w1 ⟨rfl, hb1⟩
 go_wp2_with fail
 refine (lowered_nm ls ho _).mono ?_
 rintro e w2 ⟨rfl, hb2⟩
 go_wp2
 go_ret
 exact ⟨rfl, bth hb1 hb2 hb1.size⟩
theorem low_len : ∀ (F : List PK) (xs : List ByteArray), (lowXs F xs).length = xs.length
 | [], _ => rfl
 | _ :: _, [] => rfl
 | p :: F, x :: xs => by simp [lowXs, low_len F xs]
theorem low_step : ∀ (F : List PK) (ps : List ByteArray) (m : Nat) (h : m < F.length) (h' : m < ps.length), lowXs (F.take (m + 1)) ps = (lowXs (F.take m) ps).set m (lowX F[m] ps[m])
 | [], ps, m, h, _ => by simp at h
 | p :: F, [], m, _, h' => by simp at h'
 | p :: F, x :: xs, 0, _, _ => by simp [lowXs]
 | p :: F, x :: xs, m + 1, h, h' => by
  have := low_step F xs m (by simpa using h) (by simpa using h')
  simp only [List.take_succ_cons, lowXs, List.getElem_cons_succ, List.set_cons_succ] at this ⊢
  rw [this]
theorem low_at : ∀ (F : List PK) (ps : List ByteArray) (m : Nat) (h' : m < ps.length), (lowXs (F.take m) ps)[m]? = some ps[m]
 | F, x :: xs, 0, _ => by simp [lowXs]
 | [], x :: xs, m + 1, h' => by
  rw [show lowXs (([] : List PK).take (m + 1)) (x :: xs) = x :: xs from rfl]
  exact List.getElem?_eq_getElem h'
 | p :: F, x :: xs, m + 1, h' => by
  have := low_at F xs m (by simpa using h')
  simpa [lowXs] using this
 | F, [], m, h' => by simp at h'
theorem good_at : ∀ (F : List PK) (ps : List ByteArray), AllGood F ps → ∀ (m : Nat) (h : m < F.length) (h' : m < ps.length), Good F[m] ps[m]
 | [], ps, _, m, h, _ => by simp at h
 | p :: F, [], _, m, _, h' => by simp at h'
 | p :: F, x :: xs, hg, 0, _, _ => hg.1
 | p :: F, x :: xs, hg, m + 1, h, h' => good_at F xs hg.2 m (by simpa using h) (by simpa using h')
theorem set_same {l : List ByteArray} {m : Nat} {x : ByteArray} (h : l[m]? = some x) : l.set m x = l := by
 obtain ⟨h1, h2⟩ := List.getElem?_eq_some_iff.1 h
 rw [← h2, List.set_getElem_self]
theorem row_at {W : World} {n₀ n c g : Nat} {e : TypeId} {ps : List ByteArray} (h : W.ownsRow n₀ e 1 (.slice (some ⟨g, 0, none⟩) n c) n (baV ps)) (j : Nat) (x : ByteArray) (hj : ps[j]? = some x) : W.cell? ⟨g, j, none⟩ = some (.string x) := by
 obtain ⟨hl, hx⟩ := List.getElem?_eq_some_iff.1 hj
 obtain ⟨g', hg', _, hc⟩ := row_cell h j hl
 cases hg'
 rw [hc, hx]
set_option maxRecDepth 100000 in
set_option maxHeartbeats 2000000 in
theorem lower_in (k : Int) (s : ByteArray) (hm : s.size ≤ maxLen) (W : World) : Calls Tryz.prog 118 #[.int .i64 k, .string s] W fun e w' => e = .returned (.string (lowR k s)) ∧ Below W.heap.size W w' := by
 have HO := Hid.mk (namesOthers_in k)
 have HS := Hid.mk (split_all k s hm)
 have HP := Hid.mk (named_all k)
 obtain ⟨RN, hRN⟩ : ∃ R, lowR k s = R := ⟨_, rfl⟩
 rw [hRN]
 have HRN := Hid.mk hRN
 clear hRN
 cases hlw : lowers k with
 | false =>
  have hR0 : RN = s := by rw [← HRN.out, lowR, hlw]; rfl
  rw [lowers, Bool.or_eq_false_iff] at hlw
  rw [hlw.1] at HO
  have h46 : (k == 46) = false := hlw.2
  have h46' : (k != 46) = true := by simpa using h46
  subst hR0
  clear hlw HRN
  go_enter Tryz.func118, Tryz.ntmps118
  go_wp2_with fail
  refine (HO.out _).mono ?_
  rintro e w1 ⟨rfl, rfl⟩
  go_wp2
  go_ret
  exact ⟨rfl, Below.refl _ _⟩
 | true =>
  have HB : Hid (nameds k = true ∨ (nameds k = false ∧ (k != 46) = false)) := by
   rw [Hid]
   rw [lowers, Bool.or_eq_true] at hlw
   cases hn : nameds k with
   | true => exact .inl rfl
   | false =>
    rw [hn] at hlw
    rcases hlw with h | h
    ·cases h
    ·exact .inr ⟨rfl, by simpa using h⟩
  cases hsp : splitR k s with
  | none =>
   rw [hsp] at HS
   have hR0 : RN = s := by rw [← HRN.out]; exact lowR_none k s hsp
   subst hR0
   clear hlw hsp HRN
   rcases HB.out with hn | ⟨hn, h46⟩
   all_goals
    rw [hn] at HO
    clear hn HB
    go_enter Tryz.func118, Tryz.ntmps118
    go_wp2_with fail
    refine (HO.out _).mono ?_
    rintro e w1 ⟨rfl, rfl⟩
    go_wp2_with fail
    refine (HS.out _).mono ?_
    rintro e w2 ⟨rfl, hb2⟩
    go_wp2
    go_ret
    exact ⟨rfl, hb2⟩
  | some ps =>
   rw [hsp] at HS
   have hgood := ((split_iff k s ps).1 hsp).2.2.2
   have hcz : (cat ps).size ≤ 2000 := by
    obtain ⟨_, h1, h2, _⟩ := (split_iff k s ps).1 hsp
    rw [← h2]; exact h1
   have hR0 : cat (lowXs (formOf k) ps) = RN := by rw [← HRN.out]; exact (lowR_split k s ps hlw hsp).1.symm
   have hpl : ps.length = (formOf k).length := hgood.len
   have hfl := form_len k
   have HR0 := Hid.mk hR0
   have HPL := Hid.mk hpl
   have HGD := Hid.mk hgood
   have HCZ : Hid ((cat (lowXs (formOf k) ps)).size ≤ 2000) := by rw [Hid, lowXs_size]; exact hcz
   clear hlw hsp hR0 hpl HRN hgood hcz
   generalize formOf k = F at HP HR0 HPL hfl HGD HCZ
   rcases HB.out with hn | ⟨hn, h46⟩
   all_goals
    rw [hn] at HO
    clear hn HB
    go_enter Tryz.func118, Tryz.ntmps118
    go_wp2_with fail
    refine (HO.out _).mono ?_
    rintro e w1 ⟨rfl, rfl⟩
    go_wp2_with fail
    refine (HS.out _).mono ?_
    rintro e w2 ⟨⟨v, rfl, hrow⟩, hb2⟩
    obtain ⟨qv, cv, hqv⟩ := row_as hrow
    subst hqv
    go_wp2_with fail
    refine (HP.out _).mono ?_
    rintro e w3 ⟨g, P, rfl, hg, hP, hnm, hb3⟩
    have hrow3 := row_bel hrow hb3
    have HNM := Hid.mk hnm
    have k3 := bth hb2 hb3 hb2.size
    have hp0 : 0 < ps.length := by have := HPL.out; omega
    obtain ⟨gp, hgp, _, _⟩ := row_cell hrow 0 hp0
    subst hgp
    obtain ⟨_, hgpl, hgpb⟩ := row_frozen (j := 0) hrow hp0
    have hgne : g ≠ gp := by omega
    have hgp3 : gp < w3.heap.size := Nat.lt_of_lt_of_le hgpl hb3.size
    clear hrow hnm HO HS HP
    go_wp2
    go_loopw [29] (fun iv wr => ∃ m : Nat, m ≤ F.length ∧ iv = .int .i64 m ∧ wr.ownsRow w1.heap.size 9 1 (.slice (some ⟨gp, 0, none⟩) ps.length cv) ps.length (baV (lowXs (F.take m) ps)) ∧ Kept gp w3 wr) (fun iv _ => F.length - (intOf iv).toNat)
    case atStart =>
     refine ⟨0, Nat.zero_le _, rfl, ?_, Kept.refl _ _⟩
     rw [List.take_zero, show lowXs [] ps = ps from rfl]
     exact hrow3
    case round =>
     obtain ⟨m, hmF, rfl, hrw, hkp⟩ := hrel
     have hsz := hkp.size
     by_cases hlt : m < F.length
     ·have hmp : m < ps.length := by have := HPL.out; omega
      have hgl := hP.lt (by omega)
      have hPk := hP.kept hkp hgne
      have c0 := hPk.c0 m hlt
      have c1 := hPk.c1 m hlt
      have c2 := hPk.c2 m hlt
      have c3 := hPk.c3 m hlt
      have hrwA : ∀ o, (wr.alloc o).ownsRow w1.heap.size 9 1 (.slice (some ⟨gp, 0, none⟩) ps.length cv) ps.length (baV (lowXs (F.take m) ps)) := fun o => hrw.alloc o
      have hpc : ∀ o, (wr.alloc o).cell? ⟨gp, m, none⟩ = some (.string ps[m]) := fun o => row_at (hrwA o) m _ (low_at F ps m hmp)
      have hnmm := HNM.out m hlt
      have HSN := Hid.mk (low_step F ps m hlt hmp)
      have HGM := Hid.mk (good_at F ps HGD.out m hlt hmp)
      have HAT := Hid.mk (low_at F ps m hmp)
      rw [hnmm] at c3
      have hplm : (m : Int) < (ps.length : Int) := by omega
      clear hnmm hPk
      generalize P m = pk at c0 c1 c2
      obtain ⟨fp, cp, ft, ct, fr, cr, nmb⟩ := pk
      dsimp only at c0 c1 c2
      generalize hws : lowXs (F.take m) ps = ws at hrw HSN hrwA HAT
      generalize ps[m] = pm at hpc HSN HGM HAT
      clear hws
      generalize F[m] = pq at c3 HSN HGM
      cases hnx : isNm pq with
      | false =>
       rw [hnx] at c3
       have HSN2 : Hid (lowXs (F.take (m + 1)) ps = ws) := by
        rw [Hid, HSN.out, lowX, hnx]
        exact set_same HAT.out
       clear hnx HSN
       go_wp2
       exact ⟨⟨m + 1, by omega, by go_num, by rw [HSN2.out]; exact hrw.alloc _, hkp.trans (Kept.of_below ((Below.refl _ _).alloc (Nat.le_refl _) _))⟩, by simp [intOf]; omega⟩
      | true =>
       rw [hnx] at c3
       have hname : IsName pm := by
        cases pq <;> first | exact HGM.out | cases hnx
       have HLO := Hid.mk (lowName_in pm hname)
       have HSN2 : Hid (lowXs (F.take (m + 1)) ps = ws.set m (lowA pm)) := by rw [Hid, HSN.out, lowX, hnx]; rfl
       clear hnx HSN hname HGM
       go_wp2_with fail
       refine (HLO.out _).mono ?_
       rintro e w5 ⟨rfl, hb5⟩
       have hrw5 := row_bel (hrwA _) hb5
       obtain ⟨hfz, _, _⟩ := row_frozen (j := m) hrw5 hp0
       have hcl5 := row_at hrw5 m _ HAT.out
       have hst := row_store (j := m) hrw5 hp0 (.string (lowA pm))
       have hk5 : Kept gp w3 (w5.setCell ⟨gp, m, none⟩ (.string (lowA pm))) := ((hkp.trans (Kept.of_below ((Below.refl _ _).alloc (Nat.le_refl _) _))).trans (Kept.of_below hb5)).trans (Kept.set _ _ _ _)
       clear hrwA hpc
       go_wp2
       refine ⟨⟨m + 1, by omega, by go_num, ?_, hk5⟩, by simp [intOf]; omega⟩
       rw [HSN2.out, baV, List.map_set]; exact hst
     ·obtain rfl : m = F.length := by omega
      have h1 : F.take F.length = F := List.take_length
      rw [h1] at hrw
      clear h1
      have hll : ps.length = (lowXs F ps).length := (low_len F ps).symm
      have hjc : (Lib.join ((lowXs F ps).map (·.data.toList)) []).length ≤ 2000 := by
       have h1 := HCZ.out
       rw [← cat_join, ba_size] at h1
       exact h1
      have hrwj : wr.ownsRow w1.heap.size 9 1 (.slice (some ⟨gp, 0, none⟩) ps.length cv) (lowXs F ps).length (baV (lowXs F ps)) := by rw [← hll]; exact hrw
      have HJ := Hid.mk (join_row ⟨#[]⟩ hrwj (by rw [← hll, HPL.out]; omega) (by
       show (Lib.join ((lowXs F ps).map (·.data.toList)) []).length ≤ _
       omega))
      have hcj : (⟨(Lib.join ((lowXs F ps).map (·.data.toList)) (⟨#[]⟩ : ByteArray).data.toList).toArray⟩ : ByteArray) = RN := by
       rw [← HR0.out, ← cat_join]
      rw [hcj] at HJ
      clear hcj hrwj hjc hll
      have hblw := hkp.below (n := w1.heap.size) hgpb (Nat.le_trans hb2.size hb3.size)
      go_wp2_with fail
      refine HJ.out.mono ?_
      rintro e w6 ⟨rfl, hb6⟩
      go_wp2
      go_ret
      exact ⟨rfl, (k3.trans hblw).trans (hb6.mono (Nat.le_trans k3.size hkp.size))⟩
end Go.Proofs.YtdlcldjlfhmlgaaGreatDoor
/- Layer 14: what the calls on names and data answer, of any bytes. -/
namespace Go.Proofs.YtdlcldjlfhmlgaaGreatDoor
open Go.RowKit
abbrev N3 := List (List UInt8)
open Classical in
noncomputable def isN (s : ByteArray) : Bool := decide (IsName s)
open Classical in
noncomputable def lowF (s : ByteArray) : ByteArray := if IsName s then lowA s else s
open Classical in
noncomputable def undF (s t : ByteArray) : Bool := decide (∃ a b, OkN a ∧ OkN b ∧ s = nm a ∧ t = nm b ∧ undB a b = true)
open Classical in
noncomputable def eqF (s t : ByteArray) : Bool := decide (∃ a b, OkN a ∧ OkN b ∧ s = nm a ∧ t = nm b ∧ eqB a b = true)
theorem isN_yes {s : ByteArray} (h : IsName s) : isN s = true := by classical exact decide_eq_true h
theorem isN_no {s : ByteArray} (h : ¬ IsName s) : isN s = false := by classical exact decide_eq_false h
theorem isN_iff {s : ByteArray} : isN s = true ↔ IsName s := by classical exact decide_eq_true_iff
theorem lowF_nm {a : N3} (h : OkN a) : lowF (nm a) = nm (lowN a) := by
 unfold lowF
 rw [if_pos ⟨a, h, rfl⟩, lowA_nm h]
theorem lowF_no {s : ByteArray} (h : ¬ IsName s) : lowF s = s := by unfold lowF; rw [if_neg h]
theorem undF_nm {a b : N3} (ha : OkN a) (hb : OkN b) : undF (nm a) (nm b) = undB a b := by
 classical
 unfold undF
 cases h : undB a b with
 | true => exact decide_eq_true ⟨a, b, ha, hb, rfl, rfl, h⟩
 | false =>
  refine decide_eq_false ?_
  rintro ⟨a', b', ha', hb', e1, e2, h'⟩
  rw [← nm_inj ha ha' e1, ← nm_inj hb hb' e2, h] at h'
  cases h'
theorem undF_no {s t : ByteArray} (h : ¬ (IsName s ∧ IsName t)) : undF s t = false := by
 classical
 refine decide_eq_false ?_
 rintro ⟨a, b, ha, hb, rfl, rfl, _⟩
 exact h ⟨⟨a, ha, rfl⟩, ⟨b, hb, rfl⟩⟩
theorem eqF_nm {a b : N3} (ha : OkN a) (hb : OkN b) : eqF (nm a) (nm b) = eqB a b := by
 classical
 unfold eqF
 cases h : eqB a b with
 | true => exact decide_eq_true ⟨a, b, ha, hb, rfl, rfl, h⟩
 | false =>
  refine decide_eq_false ?_
  rintro ⟨a', b', ha', hb', e1, e2, h'⟩
  rw [← nm_inj ha ha' e1, ← nm_inj hb hb' e2, h] at h'
  cases h'
theorem eqF_no {s t : ByteArray} (h : ¬ (IsName s ∧ IsName t)) : eqF s t = false := by
 classical
 refine decide_eq_false ?_
 rintro ⟨a, b, ha, hb, rfl, rfl, _⟩
 exact h ⟨⟨a, ha, rfl⟩, ⟨b, hb, rfl⟩⟩
theorem name_size {s : ByteArray} (h : IsName s) : s.size ≤ 255 := by
 obtain ⟨a, ha, rfl⟩ := h
 rw [nm_size]
 have := ha.len
 omega
theorem nright_in (s : ByteArray) (hs : s.size ≤ maxLen) (w : World) : Calls Tryz.prog 49 #[.string s] w fun e w' => e = .returned (.bool (isN s)) ∧ Below w.heap.size w w' := by
 by_cases h : IsName s
 ·rw [isN_yes h]; exact right_is s h w
 ·rw [isN_no h]; exact right_no s h hs w
theorem nlower_in (s : ByteArray) (hs : s.size ≤ maxLen) (w : World) : Calls Tryz.prog 53 #[.string s] w fun e w' => e = .returned (.string (lowF s)) ∧ Below w.heap.size w w' := by
 by_cases h : IsName s
 ·have e : lowF s = lowA s := by unfold lowF; rw [if_pos h]
  rw [e]; exact lowName_in s h w
 ·rw [lowF_no h]
  go_enter Tryz.func53, Tryz.ntmps53
  go_wp2_with fail
  refine (right_no s h hs _).mono ?_
  rintro e w1 ⟨rfl, hb1⟩
  go_wp2
  go_ret
  exact ⟨rfl, hb1⟩
theorem nunder_in (s t : ByteArray) (hs : s.size ≤ maxLen) (ht : t.size ≤ maxLen) (w : World) : Calls Tryz.prog 23 #[.string s, .string t] w fun e w' => e = .returned (.bool (undF s t)) ∧ Below w.heap.size w w' := by
 by_cases h : IsName s ∧ IsName t
 ·obtain ⟨⟨a, ha, rfl⟩, ⟨b, hb, rfl⟩⟩ := h
  rw [undF_nm ha hb]; exact under_yes a b ha hb w
 ·rw [undF_no h]; exact under_no s t hs ht h w
theorem nequal_in (s t : ByteArray) (hs : s.size ≤ maxLen) (ht : t.size ≤ maxLen) (w : World) : Calls Tryz.prog 48 #[.string s, .string t] w fun e w' => e = .returned (.bool (eqF s t)) ∧ Below w.heap.size w w' := by
 by_cases h : IsName s ∧ IsName t
 ·obtain ⟨⟨a, ha, rfl⟩, ⟨b, hb, rfl⟩⟩ := h
  rw [eqF_nm ha hb]; exact equal_yes a b ha hb w
 ·rw [eqF_no h]; exact equal_no s t hs ht h w
noncomputable def dRt (k : Int) (d : ByteArray) : Bool := (splitR k d).isSome
end Go.Proofs.YtdlcldjlfhmlgaaGreatDoor
/- A stable sort, on lists alone: merging, sorting, what a merge in place does. -/
namespace Go.Proofs.YtdlcldjlfhmlgaaGreatDoor.So
variable {α : Type} {lt : α → α → Bool}
structure Wo (lt : α → α → Bool) : Prop where
 ir : ∀ x, lt x x = false
 tr : ∀ x y z, lt x y = true → lt y z = true → lt x z = true
 nt : ∀ x y z, lt x y = false → lt y z = false → lt x z = false
def mrg (lt : α → α → Bool) : List α → List α → List α
 | [], v => v
 | x :: u, [] => x :: u
 | x :: u, y :: v => if lt y x = true then y :: mrg lt (x :: u) v else x :: mrg lt u (y :: v)
 termination_by u v => u.length + v.length
theorem mrg_nil (u : List α) : mrg lt u [] = u := by cases u <;> simp [mrg]
theorem nil_mrg (u : List α) : mrg lt [] u = u := by simp [mrg]
theorem mrg_cons (x y : α) (u v : List α) : mrg lt (x :: u) (y :: v) = if lt y x = true then y :: mrg lt (x :: u) v else x :: mrg lt u (y :: v) := by rw [mrg]
theorem mrg_len (u v : List α) : (mrg lt u v).length = u.length + v.length := by
 induction u, v using mrg.induct (lt := lt) with
 | case1 v => simp [mrg]
 | case2 x u => simp [mrg]
 | case3 x u y v h ih => rw [mrg_cons, if_pos h, List.length_cons, ih]; simp; omega
 | case4 x u y v h ih => rw [mrg_cons, if_neg h, List.length_cons, ih]; simp; omega
theorem mrg_perm (u v : List α) : (mrg lt u v).Perm (u ++ v) := by
 induction u, v using mrg.induct (lt := lt) with
 | case1 v => simp [mrg]
 | case2 x u => simp [mrg]
 | case3 x u y v h ih => rw [mrg_cons, if_pos h]; exact (ih.cons y).trans (List.perm_middle.symm)
 | case4 x u y v h ih => rw [mrg_cons, if_neg h]; exact ih.cons x
theorem mrg_mem (u v : List α) (z : α) : z ∈ mrg lt u v ↔ z ∈ u ∨ z ∈ v := by rw [(mrg_perm u v).mem_iff, List.mem_append]
def Ris (lt : α → α → Bool) (l : List α) : Prop := l.Pairwise fun a b => lt b a = false
theorem mrg_ris (O : Wo lt) (u v : List α) : Ris lt u → Ris lt v → Ris lt (mrg lt u v) := by
 induction u, v using mrg.induct (lt := lt) with
 | case1 v => intro _ h; simpa [mrg] using h
 | case2 x u => intro h _; simpa [mrg] using h
 | case3 x u y v h ih =>
  intro hu hv
  rw [mrg_cons, if_pos h]
  refine List.pairwise_cons.2 ⟨fun z hz => ?_, ih hu (List.pairwise_cons.1 hv).2⟩
  rcases (mrg_mem _ _ z).1 hz with hz | hz
  ·have hxz : lt z x = false := by
    rcases List.mem_cons.1 hz with rfl | hz
    ·exact O.ir _
    ·exact (List.pairwise_cons.1 hu).1 z hz
   have hxy : lt x y = false := by cases e : lt x y with | false => rfl | true => have := O.tr _ _ _ e h; rw [O.ir] at this; cases this
   exact O.nt _ _ _ hxz hxy
  ·exact (List.pairwise_cons.1 hv).1 z hz
 | case4 x u y v h ih =>
  intro hu hv
  rw [mrg_cons, if_neg h]
  refine List.pairwise_cons.2 ⟨fun z hz => ?_, ih (List.pairwise_cons.1 hu).2 hv⟩
  rcases (mrg_mem _ _ z).1 hz with hz | hz
  ·exact (List.pairwise_cons.1 hu).1 z hz
  ·have hyx : lt y x = false := by simpa using h
   rcases List.mem_cons.1 hz with rfl | hz
   ·exact hyx
   ·exact O.nt _ _ _ ((List.pairwise_cons.1 hv).1 z hz) hyx
theorem mrg_split (U1 V1 U2 V2 : List α) (h1 : ∀ u ∈ U2, ∀ v ∈ V1, lt v u = true) (h2 : ∀ u ∈ U1, ∀ v ∈ V2, lt v u = false) : mrg lt (U1 ++ U2) (V1 ++ V2) = mrg lt U1 V1 ++ mrg lt U2 V2 := by
 induction U1, V1 using mrg.induct (lt := lt) with
 | case1 V1 =>
  simp only [List.nil_append, nil_mrg]
  induction V1 with
  | nil => rfl
  | cons y V1 ih =>
   cases U2 with
   | nil => simp [nil_mrg]
   | cons x U2 =>
    rw [List.cons_append, mrg_cons, if_pos (h1 x (by simp) y (by simp)), ih (fun u hu v hv => h1 u hu v (by simp [hv])), List.cons_append]
 | case2 x U1 =>
  rw [mrg_nil, List.nil_append]
  induction U1 generalizing x with
  | nil =>
   cases V2 with
   | nil => simp [mrg_nil]
   | cons y V2 =>
    have := h2 x (by simp) y (by simp)
    simp [mrg_cons, this]
  | cons z U1 ih =>
   cases V2 with
   | nil => simp [mrg_nil]
   | cons y V2 =>
    have := h2 x (by simp) y (by simp)
    have e := ih z (fun u hu v hv => h2 u (by simp only [List.mem_cons] at hu ⊢; exact .inr hu) v hv)
    rw [List.cons_append, mrg_cons, if_neg (by simp [this]), e]; rfl
 | case3 x U1 y V1 h ih =>
  rw [List.cons_append, List.cons_append, mrg_cons, if_pos h, mrg_cons, if_pos h, List.cons_append]
  congr 1
  exact ih (fun u hu v hv => h1 u hu v (by simp [hv])) h2
 | case4 x U1 y V1 h ih =>
  rw [List.cons_append, List.cons_append, mrg_cons, if_neg h, mrg_cons, if_neg h, List.cons_append]
  congr 1
  exact ih h1 (fun u hu v hv => h2 u (by simp [hu]) v hv)
theorem mrg_assoc (O : Wo lt) (a b c : List α) : mrg lt (mrg lt a b) c = mrg lt a (mrg lt b c) := by
 generalize hn : a.length + b.length + c.length = n
 induction n using Nat.strongRecOn generalizing a b c with
 | _ n ih =>
  cases a with
  | nil => simp [nil_mrg]
  | cons x a =>
   cases b with
   | nil => simp [nil_mrg, mrg_nil]
   | cons y b =>
    cases c with
    | nil => simp [mrg_nil]
    | cons z c =>
     simp only [List.length_cons] at hn
     by_cases hyx : lt y x = true
     ·rw [mrg_cons x y, if_pos hyx]
      by_cases hzy : lt z y = true
      ·have hzx := O.tr _ _ _ hzy hyx
       have e1 := ih (a.length + 1 + (b.length + 1) + c.length) (by omega) (x :: a) (y :: b) c (by simp)
       rw [mrg_cons x y, if_pos hyx] at e1
       rw [mrg_cons y z, if_pos hzy, mrg_cons y z, if_pos hzy, mrg_cons x z, if_pos hzx, e1]
      ·have e1 := ih (a.length + 1 + b.length + (c.length + 1)) (by omega) (x :: a) b (z :: c) (by simp)
       rw [mrg_cons y z, if_neg hzy, mrg_cons y z, if_neg hzy, mrg_cons x y, if_pos hyx, e1]
     ·rw [mrg_cons x y, if_neg hyx]
      by_cases hzx : lt z x = true
      ·by_cases hzy : lt z y = true
       ·have e1 := ih (a.length + 1 + (b.length + 1) + c.length) (by omega) (x :: a) (y :: b) c (by simp)
        rw [mrg_cons x y, if_neg hyx] at e1
        rw [mrg_cons y z, if_pos hzy, mrg_cons x z, if_pos hzx, mrg_cons x z, if_pos hzx, e1]
       ·exact absurd hzx (by rw [O.nt z y x (by simpa using hzy) (by simpa using hyx)]; simp)
      ·have e1 := ih (a.length + (b.length + 1) + (c.length + 1)) (by omega) a (y :: b) (z :: c) (by simp)
       rw [mrg_cons x z, if_neg hzx, e1]
       by_cases hzy : lt z y = true
       ·rw [mrg_cons y z, if_pos hzy, mrg_cons x z, if_neg hzx]
       ·rw [mrg_cons y z, if_neg hzy, mrg_cons x y, if_neg hyx]
def isort (lt : α → α → Bool) : List α → List α
 | [] => []
 | x :: l => mrg lt [x] (isort lt l)
theorem isort_app (O : Wo lt) : ∀ (a b : List α), isort lt (a ++ b) = mrg lt (isort lt a) (isort lt b)
 | [], b => by simp [isort, nil_mrg]
 | x :: a, b => by rw [List.cons_append, isort, isort_app O a b, isort, mrg_assoc O]
theorem isort_ris (O : Wo lt) : ∀ l : List α, Ris lt (isort lt l)
 | [] => List.Pairwise.nil
 | x :: l => mrg_ris O _ _ (by simp [Ris]) (isort_ris O l)
theorem isort_len : ∀ l : List α, (isort lt l).length = l.length
 | [] => rfl
 | x :: l => by rw [isort, mrg_len, isort_len l]; simp; omega
theorem isort_perm : ∀ l : List α, (isort lt l).Perm l
 | [] => List.Perm.refl _
 | x :: l => (mrg_perm _ _).trans ((isort_perm l).cons x)
theorem isort_one (x : α) : isort lt [x] = [x] := by simp [isort, mrg_nil]
theorem isort_snoc (O : Wo lt) (l : List α) (x : α) : isort lt (l ++ [x]) = mrg lt (isort lt l) [x] := by rw [isort_app O, isort_one]
theorem ins_right (P Q : List α) (x : α) (hq : ∀ q ∈ Q, lt x q = true) (hp : ∀ p ∈ P, lt x p = false) : mrg lt (P ++ Q) [x] = P ++ x :: Q := by
 have e := mrg_split (lt := lt) P [] Q [x] (by simp) (fun u hu v hv => by obtain rfl := List.mem_singleton.1 hv; exact hp u hu)
 rw [List.nil_append, mrg_nil] at e
 rw [e]
 have e2 := mrg_split (lt := lt) [] [x] Q [] (fun u hu v hv => by obtain rfl := List.mem_singleton.1 hv; exact hq u hu) (by simp)
 simp only [List.nil_append, List.append_nil, nil_mrg, mrg_nil] at e2
 rw [e2]; rfl
theorem ins_left (P Q : List α) (x : α) (hp : ∀ p ∈ P, lt p x = true) (hq : ∀ q ∈ Q, lt q x = false) : mrg lt [x] (P ++ Q) = P ++ x :: Q := by
 have e := mrg_split (lt := lt) [] P [x] Q (fun u hu v hv => by obtain rfl := List.mem_singleton.1 hu; exact hp v hv) (by simp)
 rw [List.nil_append, nil_mrg] at e
 rw [e]
 have e2 := mrg_split (lt := lt) [x] [] [] Q (by simp) (fun u hu v hv => by obtain rfl := List.mem_singleton.1 hu; exact hq v hv)
 simp only [List.nil_append, List.append_nil, nil_mrg, mrg_nil] at e2
 rw [e2]; rfl
theorem ris_last (O : Wo lt) {P : List α} {p x : α} (h : Ris lt (P ++ [p])) (hx : lt x p = false) : ∀ q ∈ P ++ [p], lt x q = false := by
 intro q hq
 rcases List.mem_append.1 hq with hq | hq
 ·have := (List.pairwise_append.1 h).2.2 q hq p (by simp)
  exact O.nt _ _ _ hx this
 ·obtain rfl := List.mem_singleton.1 hq; exact hx
def chk (lt : α → α → Bool) (s : Nat) (l : List α) : List α := if h : l.length ≤ s ∨ s = 0 then isort lt l else isort lt (l.take s) ++ chk lt s (l.drop s)
 termination_by l.length
 decreasing_by simp; omega
theorem chk_small {s : Nat} {l : List α} (h : l.length ≤ s) : chk lt s l = isort lt l := by rw [chk, dif_pos (.inl h)]
theorem chk_nil (s : Nat) : chk lt s ([] : List α) = [] := by rw [chk_small (by simp)]; rfl
theorem chk_step {s : Nat} {l : List α} (hs : 0 < s) (h : s < l.length) : chk lt s l = isort lt (l.take s) ++ chk lt s (l.drop s) := by rw [chk, dif_neg (by omega)]
theorem chk_step' {s : Nat} {l : List α} (hs : 0 < s) (h : s ≤ l.length) : chk lt s l = isort lt (l.take s) ++ chk lt s (l.drop s) := by
 by_cases e : l.length = s
 ·rw [chk_small (by omega), List.take_of_length_le (by omega), List.drop_of_length_le (by omega), chk_nil, List.append_nil]
 ·exact chk_step hs (by omega)
theorem chk_len (s : Nat) (l : List α) : (chk lt s l).length = l.length := by
 generalize hn : l.length = n
 induction n using Nat.strongRecOn generalizing l with
 | _ n ih =>
  by_cases h : l.length ≤ s ∨ s = 0
  ·rw [chk, dif_pos h, isort_len, hn]
  ·rw [chk, dif_neg h, List.length_append, isort_len, ih (l.drop s).length (by simp; omega) _ rfl]
   simp; omega
theorem chk_app {s : Nat} (hs : 0 < s) : ∀ (k : Nat) (x y : List α), x.length = k * s → chk lt s (x ++ y) = chk lt s x ++ chk lt s y
 | 0, x, y, h => by
  obtain rfl : x = [] := List.eq_nil_of_length_eq_zero (by omega)
  rw [chk_nil]; rfl
 | k + 1, x, y, h => by
  have hl : s ≤ x.length := by rw [h, Nat.add_mul]; omega
  have hd : (x.drop s).length = k * s := by rw [List.length_drop, h, Nat.add_mul]; omega
  rw [chk_step' hs (by rw [List.length_append]; omega), chk_step' hs hl, List.take_append_of_le_length hl, List.drop_append_of_le_length hl, chk_app hs k _ _ hd, List.append_assoc]
theorem chk_two (O : Wo lt) {s : Nat} {l : List α} (hs : 0 < s) (h1 : s < l.length) (h2 : l.length ≤ 2 * s) : chk lt s l = isort lt (l.take s) ++ isort lt (l.drop s) ∧ mrg lt (isort lt (l.take s)) (isort lt (l.drop s)) = chk lt (2 * s) l := by
 constructor
 ·rw [chk_step hs h1, chk_small (l := l.drop s) (by simp; omega)]
 ·rw [← isort_app O, List.take_append_drop, chk_small h2]
def put (l : List α) (a : Nat) (v : List α) : List α := l.take a ++ v ++ l.drop (a + v.length)
end Go.Proofs.YtdlcldjlfhmlgaaGreatDoor.So
/- Sets in a row of memory: loaded and stored whole, as one step. -/
namespace Go.Proofs.YtdlcldjlfhmlgaaGreatDoor.So
open Go.RowKit
structure El where
 ls : List (List UInt8)
 ty : Int
 cl : Int
 tl : Int
 dv : Value
 sv : Value
def El.c (e : El) : List Value := [.string (nm e.ls), .int .i64 e.ty, .int .i64 e.cl, .int .i64 e.tl, e.dv, e.sv]
theorem El.len (e : El) : e.c.length = 6 := rfl
structure El.ok (e : El) : Prop where
 nm : OkN e.ls
 dv : e.dv.oneCell' = true
 sv : e.sv.oneCell' = true
theorem El.ones {e : El} (h : e.ok) : ∀ v ∈ e.c, v.oneCell' = true := by
 intro v hv
 simp only [El.c, List.mem_cons, List.not_mem_nil, or_false] at hv
 rcases hv with rfl | rfl | rfl | rfl | rfl | rfl
 ·rfl
 ·rfl
 ·rfl
 ·rfl
 ·exact h.dv
 ·exact h.sv
def elC (l : List El) : List Value := l.flatMap El.c
theorem elC_len : ∀ l : List El, (elC l).length = l.length * 6
 | [] => rfl
 | e :: l => by simp only [elC, List.flatMap_cons, List.length_append, El.len, List.length_cons]; have := elC_len l; simp only [elC] at this; omega
theorem elC_app (a b : List El) : elC (a ++ b) = elC a ++ elC b := by simp [elC]
theorem elC_cons (a : El) (b : List El) : elC (a :: b) = a.c ++ elC b := by simp [elC]
theorem elC_take (l : List El) (i : Nat) : (elC l).take (i * 6) = elC (l.take i) := by
 by_cases h : i ≤ l.length
 ·have e := elC_app (l.take i) (l.drop i)
  rw [List.take_append_drop] at e
  rw [e]
  exact List.take_left' (by rw [elC_len, List.length_take]; congr 1; omega)
 ·rw [List.take_of_length_le (by rw [elC_len]; exact Nat.mul_le_mul_right _ (by omega)), List.take_of_length_le (by omega)]
theorem elC_drop (l : List El) (i : Nat) : (elC l).drop (i * 6) = elC (l.drop i) := by
 by_cases h : i ≤ l.length
 ·have e := elC_app (l.take i) (l.drop i)
  rw [List.take_append_drop] at e
  rw [e]
  exact List.drop_left' (by rw [elC_len, List.length_take]; congr 1; omega)
 ·rw [List.drop_of_length_le (by rw [elC_len]; exact Nat.mul_le_mul_right _ (by omega)), List.drop_of_length_le (by omega)]; rfl
theorem elC_at (l : List El) (i : Nat) (h : i < l.length) (j : Nat) (hj : j < 6) : (elC l)[i * 6 + j]? = l[i].c[j]? := by
 rw [← List.getElem?_drop, elC_drop, List.drop_eq_getElem_cons h, elC_cons, List.getElem?_append_left (by rw [El.len]; exact hj)]
def SRow (w : World) (g : Nat) (l : List El) : Prop := ∃ r : List Value, w.heap[g]? = some (.cells (elC l ++ r).toArray 44 (0, 0))
theorem SRow.lt {w : World} {g : Nat} {l : List El} (h : SRow w g l) : g < w.heap.size := by obtain ⟨r, h⟩ := h; exact (Array.getElem?_eq_some_iff.1 h).1
theorem SRow.same {w w' : World} {g : Nat} {l : List El} (h : SRow w g l) (e : w'.heap[g]? = w.heap[g]?) : SRow w' g l := by obtain ⟨r, h⟩ := h; exact ⟨r, e.trans h⟩
theorem SRow.drew {w : World} {g : Nat} {l : List El} (h : SRow w g l) : SRow w.drew g l := h
def stLoad (a : Value) : Sem Value := Instr.loadAt 44 a
theorem loadAt_st (a : Value) : Instr.loadAt 44 a = stLoad a := rfl
def stStore (a x : Value) : Sem Unit := Instr.storeAt 44 a x
theorem storeAt_st (a x : Value) : Instr.storeAt 44 a x = stStore a x := rfl
theorem cell_blk {w : World} {b : Nat} {c : Array Value} {t : TypeId} {f : Nat × Nat} (h : w.heap[b]? = some (.cells c t f)) (i : Nat) : w.cell? ⟨b, i, none⟩ = c[i]? := by
 unfold World.cell?
 simp only [h]
 rfl
theorem SRow.cell {w : World} {g : Nat} {l : List El} (h : SRow w g l) (i : Nat) (hi : i < l.length) (j : Nat) (hj : j < 6) : w.cell? ⟨g, i * 6 + j, none⟩ = l[i].c[j]? := by
 obtain ⟨r, h⟩ := h
 have hl : i * 6 + j < (elC l).length := by rw [elC_len]; omega
 rw [cell_blk h, List.getElem?_toArray, List.getElem?_append_left hl, elC_at l i hi j hj]
theorem load_var (w : World) (a : Addr) (cs : List Value) (hl : cs.length = 6) (h : ∀ j v, cs[j]? = some v → w.cell? (a.add j) = some v) : (loadVar 44 a).run Tryz.prog w = .ok (.agg cs.toArray) w := by
 have hl' : (loadCells a 6).run Tryz.prog w = .ok cs.toArray w := by rw [← hl]; exact run_loadCells_list (P := Tryz.prog) w a cs h
 have ha : (isAgg 44).run Tryz.prog w = .ok true w := by kernel_rfl
 have hs : (Go.sizeOf 44).run Tryz.prog w = .ok 6 w := by kernel_rfl
 unfold loadVar
 simp only [Sem.run_bind, ha, hs, hl', Result.andThen_ok, if_true, Sem.run_pure]
theorem add_of (g o j : Nat) : (⟨g, o, none⟩ : Addr).add j = ⟨g, o + j, none⟩ := by unfold Addr.add; split <;> simp_all
theorem SRow.load {w : World} {g : Nat} {l : List El} (h : SRow w g l) (i : Nat) (hi : i < l.length) : (stLoad (.pointer (some ⟨g, i * 6, none⟩))).run Tryz.prog w = .ok (.agg l[i].c.toArray) w := by
 unfold stLoad
 simp only [Instr.loadAt, Instr.sureAddr, Sem.run_bind, Sem.run_pure, Result.andThen_ok]
 refine load_var w _ _ (El.len _) (fun j v hv => ?_)
 have hj : j < 6 := by have := (List.getElem?_eq_some_iff.1 hv).1; rw [El.len] at this; exact this
 rw [add_of, h.cell i hi j hj, hv]
def stPut (w : World) (g i : Nat) (e : El) : World :=
 match w.heap[g]? with
 | some (.cells c _ _) => w.setRow g (c.toList.take (i * 6) ++ e.c ++ c.toList.drop (i * 6 + 6)).toArray
 | _ => w
theorem SRow.store {w : World} {g : Nat} {l : List El} (h : SRow w g l) (i : Nat) (hi : i < l.length) {e : El} (he : e.ok) : (stStore (.pointer (some ⟨g, i * 6, none⟩)) (.agg e.c.toArray)).run Tryz.prog w = .ok () (stPut w g i e) := by
 obtain ⟨r, h⟩ := h
 have hs : (Go.sizeOf 44).run Tryz.prog w = .ok 6 w := by kernel_rfl
 have hst := run_storeCells_at (P := Tryz.prog) g (i * 6) 44 e.c 0 _ w h (by simp only [List.size_toArray, List.length_append, elC_len, El.len]; omega) (El.ones he)
 have h6 : ¬ (e.c.toArray.size ≠ 6) := by simp [El.len]
 unfold stStore
 simp only [Instr.storeAt, Instr.sureAddr, storeVar, Value.cells, Sem.run_bind, Sem.run_pure, Result.andThen_ok, hs]
 refine Eq.trans (congrArg (fun m => Sem.run Tryz.prog m w) (if_neg h6)) ?_
 rw [hst]
 unfold stPut
 simp only [h, Nat.add_zero, El.len]
theorem SRow.put {w : World} {g : Nat} {l : List El} (h : SRow w g l) (i : Nat) (hi : i < l.length) (e : El) : SRow (stPut w g i e) g (l.set i e) := by
 obtain ⟨r, h⟩ := h
 refine ⟨r, ?_⟩
 unfold stPut
 simp only [h]
 rw [setRow_heap _ _ _ _ _ _ h]
 congr 2
 have hl : i * 6 + 6 ≤ (elC l).length := by rw [elC_len]; omega
 have h1 : (elC l ++ r).take (i * 6) = elC (l.take i) := by rw [List.take_append_of_le_length (by omega), elC_take]
 have h2 : (elC l ++ r).drop (i * 6 + 6) = elC (l.drop (i + 1)) ++ r := by
  rw [List.drop_append_of_le_length (by omega), show i * 6 + 6 = (i + 1) * 6 by omega, elC_drop]
 rw [h1, h2, List.set_eq_take_append_cons_drop, if_pos hi, elC_app, elC_cons]
 simp only [List.append_assoc]
def lt (a b : El) : Bool := decide (cmpN a.ls b.ls < 0)
theorem cmpN_nt (a b : List (List UInt8)) : cmpN b a = - cmpN a b := cmpR_anti _ _
theorem cmpN_le {a b c : List (List UInt8)} (h1 : cmpN a b ≤ 0) (h2 : cmpN b c ≤ 0) : cmpN a c ≤ 0 := cmpR_trans h1 h2
theorem lt_false {a b : El} : lt a b = false ↔ cmpN b.ls a.ls ≤ 0 := by
 unfold lt
 rw [decide_eq_false_iff_not, cmpN_nt a.ls b.ls]
 omega
theorem lt_true {a b : El} : lt a b = true ↔ cmpN a.ls b.ls < 0 := by unfold lt; exact decide_eq_true_iff
theorem wo : Wo lt where
 ir := fun x => lt_false.2 (by have := cmpN_nt x.ls x.ls; omega)
 tr := fun x y z h1 h2 => by
  cases h : lt x z with
  | true => rfl
  | false =>
   have a := lt_false.1 h
   have b := lt_true.1 h1
   have c := lt_true.1 h2
   have d := cmpN_le (a := y.ls) (b := z.ls) (c := x.ls) (by omega) a
   have e := cmpN_nt x.ls y.ls
   omega
 nt := fun x y z h1 h2 => lt_false.2 (cmpN_le (lt_false.1 h2) (lt_false.1 h1))
structure Ofs (g : Nat) (w w' : World) : Prop where
 os : w'.os = w.os
 tape : w'.tape = w.tape
 output : w'.output = w.output
 size : w.heap.size ≤ w'.heap.size
 same : ∀ b, b < w.heap.size → b ≠ g → w'.heap[b]? = w.heap[b]?
theorem Ofs.refl (g : Nat) (w : World) : Ofs g w w := ⟨rfl, rfl, rfl, Nat.le_refl _, fun _ _ _ => rfl⟩
theorem Ofs.trans {g : Nat} {a b c : World} (h : Ofs g a b) (k : Ofs g b c) : Ofs g a c :=
 ⟨k.os.trans h.os, k.tape.trans h.tape, k.output.trans h.output, Nat.le_trans h.size k.size, fun x hx hn => (k.same x (Nat.lt_of_lt_of_le hx h.size) hn).trans (h.same x hx hn)⟩
theorem Ofs.of_below {g : Nat} {w w' : World} (h : Below w.heap.size w w') : Ofs g w w' := ⟨h.os, h.tape, h.output, h.size, fun b hb _ => h.block b hb⟩
theorem Ofs.blk {g : Nat} {a w w' : World} (k : Ofs g a w) (h : Below w.heap.size w w') : Ofs g a w' := k.trans (Ofs.of_below h)
theorem Ofs.drew {g : Nat} {a w : World} (h : Ofs g a w) : Ofs g a w.drew := ⟨h.os, h.tape, h.output, h.size, h.same⟩
theorem Ofs.put {g : Nat} {a w : World} (h : Ofs g a w) (i : Nat) (e : El) : Ofs g a (stPut w g i e) := by
 refine h.trans ?_
 unfold stPut
 split
 ·exact ⟨rfl, rfl, rfl, by simp, fun b _ hn => setRow_other _ _ _ _ hn⟩
 ·exact Ofs.refl _ _
theorem Ofs.below {g : Nat} {w w' : World} (h : Ofs g w w') {N : Nat} (hN : N ≤ g) (hW : N ≤ w.heap.size) : Below N w w' := ⟨h.os, h.tape, h.output, h.size, fun b hb => h.same b (by omega) (by omega)⟩
theorem SRow.blk {w w' : World} {g : Nat} {l : List El} (h : SRow w g l) (hb : Below w.heap.size w w') : SRow w' g l := h.same (hb.block _ h.lt)
end Go.Proofs.YtdlcldjlfhmlgaaGreatDoor.So
/- Layer 8: the sets that records make, as lists; records of no signatures. -/
namespace Go.Proofs.YtdlcldjlfhmlgaaGreatDoor
open Go.RowKit
structure Rc where
 nm : ByteArray
 ty : Int
 cl : Int
 tl : Int
 dat : ByteArray
structure St where
 ls : N3
 ty : Int
 cl : Int
 tl : Int
 ds : List ByteArray
def ftB (n : Int) (b : Nat) : Bool := decide (0 ≤ n) && decide (n < 2 ^ b)
open Classical in
noncomputable def lb (s : ByteArray) : N3 := if h : IsName s then h.choose else []
theorem lb_ok {s : ByteArray} (h : IsName s) : OkN (lb s) ∧ s = nm (lb s) := by
 unfold lb
 rw [dif_pos h]
 exact h.choose_spec
theorem lb_nm {a : N3} (h : OkN a) : lb (nm a) = a := by
 obtain ⟨h1, h2⟩ := lb_ok ⟨a, h, rfl⟩
 exact (nm_inj h h1 h2).symm
noncomputable def rOk (r : Rc) : Bool := isN r.nm && ftB r.cl 16 && ftB r.tl 32 && dRt r.ty r.dat
def mks (k : Int) : Bool := k != 46 && k != 41
def ttl (r : Rc) : Int := if ftB r.tl 31 then r.tl else 0
open Classical in
noncomputable def keyS (s : St) (r : Rc) : Bool := decide (lowN s.ls = lowN (lb r.nm) ∧ s.ty = r.ty ∧ s.cl = r.cl)
open Classical in
noncomputable def addD (s : St) (r : Rc) : St := { s with tl := min s.tl (ttl r), ds := if lowR r.ty r.dat ∈ s.ds.map (lowR r.ty) then s.ds else s.ds ++ [r.dat] }
noncomputable def newS (r : Rc) : St := ⟨lb r.nm, r.ty, r.cl, min 2147483647 (ttl r), [r.dat]⟩
noncomputable def addR : List St → Rc → List St
 | [], r => [newS r]
 | s :: ss, r => if keyS s r then addD s r :: ss else s :: addR ss r
noncomputable def stepR (ss : List St) (r : Rc) : List St := if mks r.ty && rOk r then addR ss r else ss
noncomputable def setsR (l : List Rc) : List St := l.foldl stepR []
theorem addR_new : ∀ (ss : List St) (r : Rc), (∀ s ∈ ss, keyS s r = false) → addR ss r = ss ++ [newS r]
 | [], r, _ => rfl
 | s :: ss, r, h => by
  rw [addR, h s (by simp), List.cons_append, addR_new ss r (fun t ht => h t (by simp [ht]))]
  rfl
def Apart (ss : List St) : Prop := ss.Pairwise fun a b => ¬ (lowN a.ls = lowN b.ls ∧ a.ty = b.ty ∧ a.cl = b.cl)
theorem addR_old : ∀ (ss : List St) (r : Rc) (i : Nat) (h : i < ss.length), Apart ss → keyS ss[i] r = true → addR ss r = ss.set i (addD ss[i] r)
 | s :: ss, r, 0, _, _, h => by
  simp only [List.getElem_cons_zero] at h ⊢
  rw [addR, h, List.set_cons_zero]
  rfl
 | s :: ss, r, i + 1, hi, ha, h => by
  simp only [List.getElem_cons_succ] at h ⊢
  have h0 : keyS s r = false := by
   cases e : keyS s r with
   | false => rfl
   | true =>
    classical
    have h1 := of_decide_eq_true e
    have h2 := of_decide_eq_true h
    exact absurd ⟨h1.1.trans h2.1.symm, h1.2.1.trans h2.2.1.symm, h1.2.2.trans h2.2.2.symm⟩ ((List.pairwise_cons.1 ha).1 _ (List.getElem_mem (by simpa using hi)))
  rw [addR, h0, List.set_cons_succ, addR_old ss r i (by simpa using hi) (List.pairwise_cons.1 ha).2 h]
  rfl
theorem addR_mem {ss : List St} {r : Rc} {t : St} (h : t ∈ addR ss r) : t ∈ ss ∨ t = newS r ∨ ∃ s ∈ ss, keyS s r = true ∧ t = addD s r := by
 induction ss with
 | nil => exact .inr (.inl (by simpa [addR] using h))
 | cons s ss ih =>
  rw [addR] at h
  split at h
  ·rename_i hk
   rcases List.mem_cons.1 h with rfl | h
   ·exact .inr (.inr ⟨s, by simp, hk, rfl⟩)
   ·exact .inl (by simp [h])
  ·rcases List.mem_cons.1 h with rfl | h
   ·exact .inl (by simp)
   ·rcases ih h with h | h | ⟨s', h1, h2, h3⟩
    ·exact .inl (by simp [h])
    ·exact .inr (.inl h)
    ·exact .inr (.inr ⟨s', by simp [h1], h2, h3⟩)
theorem addD_key (s : St) (r : Rc) : (addD s r).ls = s.ls ∧ (addD s r).ty = s.ty ∧ (addD s r).cl = s.cl := ⟨rfl, rfl, rfl⟩
theorem addR_apart : ∀ (ss : List St) (r : Rc), Apart ss → Apart (addR ss r)
 | [], r, _ => by simp [addR, Apart]
 | s :: ss, r, h => by
  obtain ⟨h1, h2⟩ := List.pairwise_cons.1 h
  rw [addR]
  split
  ·exact List.pairwise_cons.2 ⟨fun t ht => h1 t ht, h2⟩
  ·rename_i hk
   refine List.pairwise_cons.2 ⟨fun t ht => ?_, addR_apart ss r h2⟩
   rcases addR_mem ht with ht | rfl | ⟨s', hs', _, rfl⟩
   ·exact h1 t ht
   ·intro e
    classical
    exact hk (decide_eq_true ⟨e.1, e.2.1, e.2.2⟩)
   ·exact h1 s' hs'
theorem addD_len (s : St) (r : Rc) : (addD s r).ds.length ≤ s.ds.length + 1 := by
 unfold addD
 simp only
 split <;> simp
theorem ftB_iff {n : Int} {b : Nat} : ftB n b = true ↔ 0 ≤ n ∧ n < 2 ^ b := by unfold ftB; simp
end Go.Proofs.YtdlcldjlfhmlgaaGreatDoor
/- Maps whose keys are texts or structs: what they hold under each key. -/
namespace Go.Proofs.YtdlcldjlfhmlgaaGreatDoor
open Go.RowKit
open Go.MapKept Go.WideMaps
abbrev Rdr := Value → Option (DataW Unit × List MemPlace)
def MapF (kt : TypeId) (R : Rdr) (w : World) (M n : Nat) (f : List UInt8 → Option (DataW Unit)) : Prop :=
 ∃ D : DataW Unit, w.ownsMap Tryz.prog kt R M n D ∧ ∀ s z, D.atKey (.string s) z = (f s).getD z
section
variable {kt : TypeId} {R : Rdr} {w : World} {M n : Nat} {f : List UInt8 → Option (DataW Unit)}
theorem MapF.made (kt : TypeId) (R : Rdr) (w : World) : MapF kt R (w.alloc (.map #[] 0)) w.heap.size 0 (fun _ => none) := ⟨_, World.ownsMap_made w Tryz.prog kt _, fun _ _ => rfl⟩
theorem MapF.same {w' : World} (h : MapF kt R w M n f) (e : w'.heap[M]? = w.heap[M]?) : MapF kt R w' M n f := by
 obtain ⟨D, ⟨es, clock, hb, r⟩, h⟩ := h
 exact ⟨D, ⟨es, clock, e.trans hb, r⟩, h⟩
theorem MapF.lt (h : MapF kt R w M n f) : M < w.heap.size := by
 obtain ⟨D, h, _⟩ := h
 exact h.lt
theorem MapF.isMap (h : MapF kt R w M n f) : ∃ es clock, w.heap[M]? = some (.map es clock) := by
 obtain ⟨D, ⟨es, clock, hb, _⟩, _⟩ := h
 exact ⟨es, clock, hb⟩
theorem MapF.blk {w' : World} (h : MapF kt R w M n f) (hb : Below w.heap.size w w') : MapF kt R w' M n f := h.same (hb.block _ h.lt)
theorem MapF.look {t e : TypeId} (h : MapF kt R w M n f) (K : Go.Maps.Keyed Tryz.prog kt) (ht : Tryz.prog.underlying t = some (.map kt e)) {z : Value} (hz : (zeroValue e).run Tryz.prog w = .ok z w) {zd : DataW Unit} {zp : List MemPlace} (hzd : R z = some (zd, zp))
  {key : Value} {s : List UInt8} (hkey : keyOf Tryz.prog kt key = some (.string s)) : ∃ v ps, (Instr.lookup t (.map (some M)) key true).run Tryz.prog w = .ok (.tuple #[v, .bool (f s).isSome]) w ∧ R v = some ((f s).getD zd, ps) := by
 obtain ⟨D, hD, hf⟩ := h
 obtain ⟨v, ps, hr, hv⟩ := hD.look_ok K ht hz hzd hkey
 rw [hf] at hv
 refine ⟨v, ps, ?_, hv⟩
 rw [hr]
 cases hs : f s with
 | none => rw [Go.Maps.has_false_of_atKey (fun z => by rw [hf, hs]; rfl)]; rfl
 | some y => rw [Go.Maps.has_true_of_atKey (y := y) (fun z => by rw [hf, hs]; rfl)]; rfl
theorem MapF.look1 {t e : TypeId} (h : MapF kt R w M n f) (K : Go.Maps.Keyed Tryz.prog kt) (ht : Tryz.prog.underlying t = some (.map kt e)) {z : Value} (hz : (zeroValue e).run Tryz.prog w = .ok z w) {zd : DataW Unit} {zp : List MemPlace} (hzd : R z = some (zd, zp))
  {key : Value} {s : List UInt8} (hkey : keyOf Tryz.prog kt key = some (.string s)) : ∃ v ps, (Instr.lookup t (.map (some M)) key false).run Tryz.prog w = .ok v w ∧ R v = some ((f s).getD zd, ps) := by
 obtain ⟨D, hD, hf⟩ := h
 obtain ⟨v, ps, hr, hv⟩ := hD.lookup K ht hz hzd hkey
 rw [hf] at hv
 exact ⟨v, ps, hr, hv⟩
theorem MapF.put {t e : TypeId} (h : MapF kt R w M n f) (K : Go.Maps.Keyed Tryz.prog kt) (ht : Tryz.prog.underlying t = some (.map kt e)) (hn : n < maxLen) {key val : Value} {s : List UInt8} (hkey : keyOf Tryz.prog kt key = some (.string s)) {d : DataW Unit} {ps : List MemPlace} (hv : R val = some (d, ps)) :
  ∃ w', (Instr.mapUpdate t (.map (some M)) key val).run Tryz.prog w = .ok () w' ∧ MapF kt R w' M (n + 1) (fun x => if x = s then some d else f x) ∧ w.mapTurned w' M := by
 obtain ⟨D, hD, hf⟩ := h
 obtain ⟨w', hr, hD', ht'⟩ := hD.store K ht hn hkey hv
 refine ⟨w', hr, ⟨_, hD', fun x z => ?_⟩, ht'⟩
 by_cases e : x = s
 ·subst e
  show _ = (if x = x then some d else f x).getD z
  rw [if_pos rfl]
  exact Go.Maps.atKey_put_same (k := .string x) hD.isMap trivial _ _
 ·show _ = (if x = s then some d else f x).getD z
  rw [if_neg e, Go.Maps.atKey_put_other (fun e' => e (by simpa using e'))]
  exact hf x z
end
theorem MapF.congr {kt : TypeId} {R : Rdr} {w : World} {M n : Nat} {f g : List UInt8 → Option (DataW Unit)} (h : MapF kt R w M n f) (e : ∀ s, f s = g s) : MapF kt R w M n g := by
 obtain ⟨D, hD, hf⟩ := h
 exact ⟨D, hD, fun s z => by rw [hf, e]⟩
theorem turned_below {w w' : World} {M N : Nat} (ht : w.mapTurned w' M) (hN : N ≤ M) : Below N w w' := by
 have hg := ht.grown
 refine ⟨hg.os, hg.tape, hg.output, hg.size, fun b hb => ?_⟩
 by_cases hlt : b < w.heap.size
 ·exact hg.block b hlt (fun e => by cases e; omega)
 ·obtain ⟨es, cl, es', cl', hm, rfl⟩ := ht
  have := (Array.getElem?_eq_some_iff.1 hm).1
  omega
theorem turned_same {w w' : World} {M b : Nat} (ht : w.mapTurned w' M) (hb : b ≠ M) (hlt : b < w.heap.size) : w'.heap[b]? = w.heap[b]? := ht.grown.block b hlt (fun e => by cases e; exact hb rfl)
theorem laidOut : laidOutB Tryz.prog = true := by kernel_rfl
theorem keyedK : Go.Maps.Keyed Tryz.prog 166 := Go.Maps.Keyed.of_law (deep_law_laid laidOut (m := 3) (by omega) (of_decide_eq_true (by kernel_rfl)) (by kernel_rfl) (by kernel_rfl))
theorem keyedI : Go.Maps.Keyed Tryz.prog 173 := Go.Maps.Keyed.of_law (deep_law_laid laidOut (m := 4) (by omega) (of_decide_eq_true (by kernel_rfl)) (by kernel_rfl) (by kernel_rfl))
def kB (low : ByteArray) (ty cl : Int) : List UInt8 := keyBytes [.string low.data.toList, .int .i64 ty, .int .i64 cl]
def iB (low : ByteArray) (ty cl : Int) (d : ByteArray) : List UInt8 := keyBytes [.string low.data.toList, .int .i64 ty, .int .i64 cl, .string d.data.toList]
def I64 (k : Int) : Prop := -9223372036854775808 ≤ k ∧ k ≤ 9223372036854775807
theorem I64.wf {k : Int} (h : I64 k) : (Lit.int .i64 k).wf = true := Go.WalkArith.wf_i64 h
theorem lit_str (n : Nat) (x : ByteArray) (h : x.size ≤ maxLen) : Tryz.prog.keyLits (n + 1) 9 [.string x] = some [.string x.data.toList] := by
 simp [Program.keyLits, Tryz.underlying9, h]
theorem lit_int (n : Nat) (x : Int) (h : (Lit.int .i64 x).wf = true) : Tryz.prog.keyLits (n + 1) 3 [.int .i64 x] = some [.int .i64 x] := by
 simp [Program.keyLits, Tryz.underlying3, h]
theorem lit_k (n : Nat) {low : ByteArray} {ty cl : Int} (hs : low.size ≤ maxLen) (h1 : I64 ty) (h2 : I64 cl) : Tryz.prog.keyLits (n + 2) 166 [.string low, .int .i64 ty, .int .i64 cl] = some [.string low.data.toList, .int .i64 ty, .int .i64 cl] := by
 have c0 : Tryz.prog.cellsOf 166 = 3 := by kernel_rfl
 have c1 : Tryz.prog.cellsOf 9 = 1 := by kernel_rfl
 have c2 : Tryz.prog.cellsOf 3 = 1 := by kernel_rfl
 have a1 := lit_str n low hs
 have a2 := lit_int n ty h1.wf
 have a3 := lit_int n cl h2.wf
 unfold Program.keyLits
 rw [Tryz.underlying166]
 simp only [c0, c1, c2, List.length_cons, List.length_nil, List.mapM_cons, List.mapM_nil, List.drop_zero, List.drop_succ_cons, List.take_succ_cons, List.take_zero, a1, a2, a3]
 exact (if_pos ⟨trivial, by decide +kernel⟩).trans rfl
theorem lit_i (n : Nat) {low d : ByteArray} {ty cl : Int} (hs : low.size ≤ maxLen) (hd : d.size ≤ maxLen) (h1 : I64 ty) (h2 : I64 cl) : Tryz.prog.keyLits (n + 3) 173 [.string low, .int .i64 ty, .int .i64 cl, .string d] = some [.string low.data.toList, .int .i64 ty, .int .i64 cl, .string d.data.toList] := by
 have c0 : Tryz.prog.cellsOf 173 = 4 := by kernel_rfl
 have c1 : Tryz.prog.cellsOf 9 = 1 := by kernel_rfl
 have c3 : Tryz.prog.cellsOf 166 = 3 := by kernel_rfl
 have a1 := lit_str (n + 1) d hd
 have a2 := lit_k n hs h1 h2
 unfold Program.keyLits
 rw [Tryz.underlying173]
 simp only [c0, c1, c3, List.length_cons, List.length_nil, List.mapM_cons, List.mapM_nil, List.drop_zero, List.drop_succ_cons, List.take_succ_cons, List.take_zero, a1, a2]
 exact (if_pos ⟨trivial, by decide +kernel⟩).trans rfl
theorem keyOf_k {low : ByteArray} {ty cl : Int} (hs : low.size ≤ maxLen) (h1 : I64 ty) (h2 : I64 cl) : keyOf Tryz.prog 166 (.agg #[.string low, .int .i64 ty, .int .i64 cl]) = some (.string (kB low ty cl)) := by
 have k0 : Tryz.prog.keyType 166 = true := by kernel_rfl
 have c0 : Tryz.prog.cellsOf 166 = 3 := by kernel_rfl
 have f0 : (Value.agg #[.string low, .int .i64 ty, .int .i64 cl]).formed Tryz.prog 166 = true := by
  unfold Value.formed
  rw [Tryz.underlying166]
  simp only [c0]
  rfl
 obtain ⟨n, hn⟩ : ∃ n, Tryz.prog.types.size + 1 = n + 2 := ⟨Tryz.prog.types.size - 1, by have : 1 ≤ Tryz.prog.types.size := of_decide_eq_true (by kernel_rfl); omega⟩
 unfold keyOf
 rw [Tryz.underlying166]
 simp only [k0, f0, Bool.and_self, if_true, hn]
 have e : (Value.agg #[.string low, .int .i64 ty, .int .i64 cl]).cells.toList = [.string low, .int .i64 ty, .int .i64 cl] := rfl
 rw [e, lit_k n hs h1 h2]
 rfl
theorem keyOf_i {low d : ByteArray} {ty cl : Int} (hs : low.size ≤ maxLen) (hd : d.size ≤ maxLen) (h1 : I64 ty) (h2 : I64 cl) : keyOf Tryz.prog 173 (.agg #[.string low, .int .i64 ty, .int .i64 cl, .string d]) = some (.string (iB low ty cl d)) := by
 have k0 : Tryz.prog.keyType 173 = true := by kernel_rfl
 have c0 : Tryz.prog.cellsOf 173 = 4 := by kernel_rfl
 have f0 : (Value.agg #[.string low, .int .i64 ty, .int .i64 cl, .string d]).formed Tryz.prog 173 = true := by
  unfold Value.formed
  rw [Tryz.underlying173]
  simp only [c0]
  rfl
 obtain ⟨n, hn⟩ : ∃ n, Tryz.prog.types.size + 1 = n + 3 := ⟨Tryz.prog.types.size - 2, by have : 2 ≤ Tryz.prog.types.size := of_decide_eq_true (by kernel_rfl); omega⟩
 unfold keyOf
 rw [Tryz.underlying173]
 simp only [k0, f0, Bool.and_self, if_true, hn]
 have e : (Value.agg #[.string low, .int .i64 ty, .int .i64 cl, .string d]).cells.toList = [.string low, .int .i64 ty, .int .i64 cl, .string d] := rfl
 rw [e, lit_i n hs hd h1 h2]
 rfl
theorem kB_inj {a b : ByteArray} {t c t' c' : Int} (ha : a.size ≤ maxLen) (hb : b.size ≤ maxLen) (h1 : I64 t) (h2 : I64 c) (h3 : I64 t') (h4 : I64 c') (h : kB a t c = kB b t' c') : a = b ∧ t = t' ∧ c = c' := by
 have e := keyedK.inj (keyOf_k ha h1 h2) (by rw [h]; exact keyOf_k hb h3 h4)
 simpa using e
theorem iB_inj {a b d d' : ByteArray} {t c t' c' : Int} (ha : a.size ≤ maxLen) (hb : b.size ≤ maxLen) (hd : d.size ≤ maxLen) (hd' : d'.size ≤ maxLen) (h1 : I64 t) (h2 : I64 c) (h3 : I64 t') (h4 : I64 c') (h : iB a t c d = iB b t' c' d') : a = b ∧ t = t' ∧ c = c' ∧ d = d' := by
 have e := keyedI.inj (keyOf_i ha hd h1 h2) (by rw [h]; exact keyOf_i hb hd' h3 h4)
 simpa using e
end Go.Proofs.YtdlcldjlfhmlgaaGreatDoor
