/- Texts of this proof, joined: DLower, DLower2, LcN, SoF, SoR, LcF. -/
import Derived.Test.YtikjepodmdaknaaGreatDoorJ9
import Derived.Test.YtikjepodmdaknaaGreatDoorJ3
import Derived.Test.YtikjepodmdaknaaGreatDoorRows
import Derived.WalkKit
import Derived.WalkSpells
import Derived.WalkLawsBesides
import Derived.Below
import Derived.Laws.CopyRow
import Derived.Laws.AppendOwn
set_option linter.unusedVariables false
set_option linter.unusedSimpArgs false
/- Names and Lower, of every type. -/
namespace Go.Proofs.YtikjepodmdaknaaGreatDoor
open Go.RowKit
theorem row_store {W : World} {base n cap g j : Nat} {e : TypeId} {xs : List Value} (h : W.ownsRow base e 1 (.slice (some ⟨g, 0, none⟩) n cap) n xs) (hn : 0 < n) (u : Value) : (W.setCell ⟨g, j, none⟩ u).ownsRow base e 1 (.slice (some ⟨g, 0, none⟩) n cap) n (xs.set j u) := by
 obtain ⟨h1, h2⟩ := h
 refine ⟨by rw [List.length_set]; exact h1, ?_⟩
 rcases h2 with ⟨_, h0⟩ | ⟨g', cap', cur, hv, hb, hg, hc, hm, hz, ht⟩
 ·omega
 ·cases hv
  have hs : (W.setCell ⟨g, j, none⟩ u).heap[g]? = some (.cells (cur.setIfInBounds j u) e (0, 0)) := by
   simp only [World.setCell, Array.getElem?_modify, hg]
   rfl
  refine .inr ⟨g, cap, _, rfl, hb, hs, hc, hm, by simpa using hz, ?_⟩
  rw [← ht, Array.toList_setIfInBounds, List.take_set]
theorem row_frozen {W : World} {base n cap g j : Nat} {e : TypeId} {xs : List Value} (h : W.ownsRow base e 1 (.slice (some ⟨g, 0, none⟩) n cap) n xs) (hn : 0 < n) : W.frozen? ⟨g, j, none⟩ = false ∧ g < W.heap.size ∧ base ≤ g := by
 rcases h.2 with ⟨_, h0⟩ | ⟨g', cap', cur, hv, hb, hg, _⟩
 ·omega
 ·cases hv
  exact ⟨by simp [World.frozen?, hg], box_lt hg, hb⟩
theorem namesOthers_in (k : Int) (w : World) : Calls Tryz.prog 160 #[.int .i64 k] w fun e w' => e = .returned (.bool (nameds k)) ∧ w' = w := by
 by_cases h1 : k = 2
 ·subst h1
  go_enter Tryz.func160, Tryz.ntmps160
  go_wp2
  go_ret
  exact ⟨rfl, rfl⟩
 ·by_cases h2 : k = 5
  ·subst h2
   go_enter Tryz.func160, Tryz.ntmps160
   go_wp2
   go_ret
   exact ⟨rfl, rfl⟩
  ·by_cases h3 : k = 39
   ·subst h3
    go_enter Tryz.func160, Tryz.ntmps160
    go_wp2
    go_ret
    exact ⟨rfl, rfl⟩
   ·by_cases h4 : k = 6
    ·subst h4
     go_enter Tryz.func160, Tryz.ntmps160
     go_wp2
     go_ret
     exact ⟨rfl, rfl⟩
    ·by_cases h5 : k = 15
     ·subst h5
      go_enter Tryz.func160, Tryz.ntmps160
      go_wp2
      go_ret
      exact ⟨rfl, rfl⟩
     ·have e1 : (k == 2) = false := by simpa using h1
      have e2 : (k == 5) = false := by simpa using h2
      have e3 : (k == 39) = false := by simpa using h3
      have e4 : (k == 6) = false := by simpa using h4
      have e5 : (k == 15) = false := by simpa using h5
      have he : nameds k = false := by simp [nameds, e1, e2, e3, e4, e5]
      rw [he]
      go_enter Tryz.func160, Tryz.ntmps160
      go_wp2
      go_ret
      exact ⟨rfl, rfl⟩
theorem part_name {n₀ : Nat} {W : World} {p : Part} {k : PK} (h : PartIs n₀ W p k) : p.name = isNm k := by
 cases k with
 | num n => obtain ⟨b, _, rfl, _⟩ := h; rfl
 | grp c w b s => obtain ⟨x, _, rfl, _⟩ := h; rfl
 | name => obtain rfl := h; rfl
 | type => obtain rfl := h; rfl
 | hex => obtain rfl := h; rfl
 | salt => obtain rfl := h; rfl
 | hash => obtain rfl := h; rfl
 | types => obtain rfl := h; rfl
 | any => obtain rfl := h; rfl
 | strs => obtain rfl := h; rfl
theorem named_all (k : Int) (w : World) : Calls Tryz.prog 161 #[.int .i64 k] w fun e w' => ∃ g P, e = .returned (.slice (some ⟨g, 0, none⟩) (formOf k).length (formOf k).length) ∧ w.heap.size ≤ g ∧ PartsIn w' g (formOf k).length P ∧
  (∀ j (h : j < (formOf k).length), (P j).name = isNm (formOf k)[j]) ∧ Below w.heap.size w w' := by
 refine (raw_all k w).mono ?_
 rintro e w' ⟨g, ps, rfl, hg, hc, hp, hb⟩
 have hl := hp.len
 exact ⟨g, fun j => ps.getD j default, rfl, hg, by rw [← hl]; exact parts_in hc, fun j hj => part_name (hp.at j _ (List.getElem?_eq_getElem hj)), hb⟩
end Go.Proofs.YtikjepodmdaknaaGreatDoor
/- Lower, of every type. -/
namespace Go.Proofs.YtikjepodmdaknaaGreatDoor
open Go.RowKit
theorem lowName_in (x : ByteArray) (h : IsName x) (w : World) :
  Calls Tryz.prog 88 #[.string x] w fun e w' => e = .returned (.string (lowA x)) ∧ Below w.heap.size w w' := by
 obtain ⟨ls, ho, rfl⟩ := h
 rw [lowA_nm ho]
 go_enter Tryz.func88, Tryz.ntmps88
 go_wp2_with fail
 refine (right_yes ls ho _).mono ?_
 rintro e w1 ⟨rfl, hb1⟩
 go_wp2_with fail
 refine (lowered_nm ls ho _).mono ?_
 rintro e w2 ⟨rfl, hb2⟩
 go_wp2
 go_ret
 exact ⟨rfl, bth hb1 hb2 hb1.size⟩
theorem low_len : ∀ (F : List PK) (xs : List ByteArray), (lowXs F xs).length = xs.length
 | [], _ => rfl
 | _ :: _, [] => rfl
 | p :: F, x :: xs => by simp [lowXs, low_len F xs]
theorem low_step : ∀ (F : List PK) (ps : List ByteArray) (m : Nat) (h : m < F.length) (h' : m < ps.length), lowXs (F.take (m + 1)) ps = (lowXs (F.take m) ps).set m (lowX F[m] ps[m])
 | [], ps, m, h, _ => by simp at h
 | p :: F, [], m, _, h' => by simp at h'
 | p :: F, x :: xs, 0, _, _ => by simp [lowXs]
 | p :: F, x :: xs, m + 1, h, h' => by
  have := low_step F xs m (by simpa using h) (by simpa using h')
  simp only [List.take_succ_cons, lowXs, List.getElem_cons_succ, List.set_cons_succ] at this ⊢
  rw [this]
theorem low_at : ∀ (F : List PK) (ps : List ByteArray) (m : Nat) (h' : m < ps.length), (lowXs (F.take m) ps)[m]? = some ps[m]
 | F, x :: xs, 0, _ => by simp [lowXs]
 | [], x :: xs, m + 1, h' => by
  rw [show lowXs (([] : List PK).take (m + 1)) (x :: xs) = x :: xs from rfl]
  exact List.getElem?_eq_getElem h'
 | p :: F, x :: xs, m + 1, h' => by
  have := low_at F xs m (by simpa using h')
  simpa [lowXs] using this
 | F, [], m, h' => by simp at h'
theorem good_at : ∀ (F : List PK) (ps : List ByteArray), AllGood F ps → ∀ (m : Nat) (h : m < F.length) (h' : m < ps.length), Good F[m] ps[m]
 | [], ps, _, m, h, _ => by simp at h
 | p :: F, [], _, m, _, h' => by simp at h'
 | p :: F, x :: xs, hg, 0, _, _ => hg.1
 | p :: F, x :: xs, hg, m + 1, h, h' => good_at F xs hg.2 m (by simpa using h) (by simpa using h')
theorem set_same {l : List ByteArray} {m : Nat} {x : ByteArray} (h : l[m]? = some x) : l.set m x = l := by
 obtain ⟨h1, h2⟩ := List.getElem?_eq_some_iff.1 h
 rw [← h2, List.set_getElem_self]
theorem row_at {W : World} {n₀ n c g : Nat} {e : TypeId} {ps : List ByteArray} (h : W.ownsRow n₀ e 1 (.slice (some ⟨g, 0, none⟩) n c) n (baV ps)) (j : Nat) (x : ByteArray) (hj : ps[j]? = some x) : W.cell? ⟨g, j, none⟩ = some (.string x) := by
 obtain ⟨hl, hx⟩ := List.getElem?_eq_some_iff.1 hj
 obtain ⟨g', hg', _, hc⟩ := row_cell h j hl
 cases hg'
 rw [hc, hx]
set_option maxRecDepth 100000 in
set_option maxHeartbeats 2000000 in
theorem lower_in (k : Int) (s : ByteArray) (hm : s.size ≤ maxLen) (W : World) : Calls Tryz.prog 122 #[.int .i64 k, .string s] W fun e w' => e = .returned (.string (lowR k s)) ∧ Below W.heap.size W w' := by
 have HO := Hid.mk (namesOthers_in k)
 have HS := Hid.mk (split_all k s hm)
 have HP := Hid.mk (named_all k)
 obtain ⟨RN, hRN⟩ : ∃ R, lowR k s = R := ⟨_, rfl⟩
 rw [hRN]
 have HRN := Hid.mk hRN
 clear hRN
 cases hlw : lowers k with
 | false =>
  have hR0 : RN = s := by rw [← HRN.out, lowR, hlw]; rfl
  rw [lowers, Bool.or_eq_false_iff] at hlw
  rw [hlw.1] at HO
  have h46 : (k == 46) = false := hlw.2
  have h46' : (k != 46) = true := by simpa using h46
  subst hR0
  clear hlw HRN
  go_enter Tryz.func122, Tryz.ntmps122
  go_wp2_with fail
  refine (HO.out _).mono ?_
  rintro e w1 ⟨rfl, rfl⟩
  go_wp2
  go_ret
  exact ⟨rfl, Below.refl _ _⟩
 | true =>
  have HB : Hid (nameds k = true ∨ (nameds k = false ∧ (k != 46) = false)) := by
   rw [Hid]
   rw [lowers, Bool.or_eq_true] at hlw
   cases hn : nameds k with
   | true => exact .inl rfl
   | false =>
    rw [hn] at hlw
    rcases hlw with h | h
    ·cases h
    ·exact .inr ⟨rfl, by simpa using h⟩
  cases hsp : splitR k s with
  | none =>
   rw [hsp] at HS
   have hR0 : RN = s := by rw [← HRN.out]; exact lowR_none k s hsp
   subst hR0
   clear hlw hsp HRN
   rcases HB.out with hn | ⟨hn, h46⟩
   all_goals
    rw [hn] at HO
    clear hn HB
    go_enter Tryz.func122, Tryz.ntmps122
    go_wp2_with fail
    refine (HO.out _).mono ?_
    rintro e w1 ⟨rfl, rfl⟩
    go_wp2_with fail
    refine (HS.out _).mono ?_
    rintro e w2 ⟨rfl, hb2⟩
    go_wp2
    go_ret
    exact ⟨rfl, hb2⟩
  | some ps =>
   rw [hsp] at HS
   have hgood := ((split_iff k s ps).1 hsp).2.2.2
   have hcz : (cat ps).size ≤ 2000 := by
    obtain ⟨_, h1, h2, _⟩ := (split_iff k s ps).1 hsp
    rw [← h2]; exact h1
   have hR0 : cat (lowXs (formOf k) ps) = RN := by rw [← HRN.out]; exact (lowR_split k s ps hlw hsp).1.symm
   have hpl : ps.length = (formOf k).length := hgood.len
   have hfl := form_len k
   have HR0 := Hid.mk hR0
   have HPL := Hid.mk hpl
   have HGD := Hid.mk hgood
   have HCZ : Hid ((cat (lowXs (formOf k) ps)).size ≤ 2000) := by rw [Hid, lowXs_size]; exact hcz
   clear hlw hsp hR0 hpl HRN hgood hcz
   generalize formOf k = F at HP HR0 HPL hfl HGD HCZ
   rcases HB.out with hn | ⟨hn, h46⟩
   all_goals
    rw [hn] at HO
    clear hn HB
    go_enter Tryz.func122, Tryz.ntmps122
    go_wp2_with fail
    refine (HO.out _).mono ?_
    rintro e w1 ⟨rfl, rfl⟩
    go_wp2_with fail
    refine (HS.out _).mono ?_
    rintro e w2 ⟨⟨v, rfl, hrow⟩, hb2⟩
    obtain ⟨qv, cv, hqv⟩ := row_as hrow
    subst hqv
    go_wp2_with fail
    refine (HP.out _).mono ?_
    rintro e w3 ⟨g, P, rfl, hg, hP, hnm, hb3⟩
    have hrow3 := row_bel hrow hb3
    have HNM := Hid.mk hnm
    have k3 := bth hb2 hb3 hb2.size
    have hp0 : 0 < ps.length := by have := HPL.out; omega
    obtain ⟨gp, hgp, _, _⟩ := row_cell hrow 0 hp0
    subst hgp
    obtain ⟨_, hgpl, hgpb⟩ := row_frozen (j := 0) hrow hp0
    have hgne : g ≠ gp := by omega
    have hgp3 : gp < w3.heap.size := Nat.lt_of_lt_of_le hgpl hb3.size
    clear hrow hnm HO HS HP
    go_wp2
    go_loopw [29] (fun iv wr => ∃ m : Nat, m ≤ F.length ∧ iv = .int .i64 m ∧ wr.ownsRow w1.heap.size 9 1 (.slice (some ⟨gp, 0, none⟩) ps.length cv) ps.length (baV (lowXs (F.take m) ps)) ∧ Kept gp w3 wr) (fun iv _ => F.length - (intOf iv).toNat)
    case atStart =>
     refine ⟨0, Nat.zero_le _, rfl, ?_, Kept.refl _ _⟩
     rw [List.take_zero, show lowXs [] ps = ps from rfl]
     exact hrow3
    case round =>
     obtain ⟨m, hmF, rfl, hrw, hkp⟩ := hrel
     have hsz := hkp.size
     by_cases hlt : m < F.length
     ·have hmp : m < ps.length := by have := HPL.out; omega
      have hgl := hP.lt (by omega)
      have hPk := hP.kept hkp hgne
      have c0 := hPk.c0 m hlt
      have c1 := hPk.c1 m hlt
      have c2 := hPk.c2 m hlt
      have c3 := hPk.c3 m hlt
      have hrwA : ∀ o, (wr.alloc o).ownsRow w1.heap.size 9 1 (.slice (some ⟨gp, 0, none⟩) ps.length cv) ps.length (baV (lowXs (F.take m) ps)) := fun o => hrw.alloc o
      have hpc : ∀ o, (wr.alloc o).cell? ⟨gp, m, none⟩ = some (.string ps[m]) := fun o => row_at (hrwA o) m _ (low_at F ps m hmp)
      have hnmm := HNM.out m hlt
      have HSN := Hid.mk (low_step F ps m hlt hmp)
      have HGM := Hid.mk (good_at F ps HGD.out m hlt hmp)
      have HAT := Hid.mk (low_at F ps m hmp)
      rw [hnmm] at c3
      have hplm : (m : Int) < (ps.length : Int) := by omega
      clear hnmm hPk
      generalize P m = pk at c0 c1 c2
      obtain ⟨fp, cp, ft, ct, fr, cr, nmb⟩ := pk
      dsimp only at c0 c1 c2
      generalize hws : lowXs (F.take m) ps = ws at hrw HSN hrwA HAT
      generalize ps[m] = pm at hpc HSN HGM HAT
      clear hws
      generalize F[m] = pq at c3 HSN HGM
      cases hnx : isNm pq with
      | false =>
       rw [hnx] at c3
       have HSN2 : Hid (lowXs (F.take (m + 1)) ps = ws) := by
        rw [Hid, HSN.out, lowX, hnx]
        exact set_same HAT.out
       clear hnx HSN
       go_wp2
       exact ⟨⟨m + 1, by omega, by go_num, by rw [HSN2.out]; exact hrw.alloc _, hkp.trans (Kept.of_below ((Below.refl _ _).alloc (Nat.le_refl _) _))⟩, by simp [intOf]; omega⟩
      | true =>
       rw [hnx] at c3
       have hname : IsName pm := by
        cases pq <;> first | exact HGM.out | cases hnx
       have HLO := Hid.mk (lowName_in pm hname)
       have HSN2 : Hid (lowXs (F.take (m + 1)) ps = ws.set m (lowA pm)) := by rw [Hid, HSN.out, lowX, hnx]; rfl
       clear hnx HSN hname HGM
       go_wp2_with fail
       refine (HLO.out _).mono ?_
       rintro e w5 ⟨rfl, hb5⟩
       have hrw5 := row_bel (hrwA _) hb5
       obtain ⟨hfz, _, _⟩ := row_frozen (j := m) hrw5 hp0
       have hcl5 := row_at hrw5 m _ HAT.out
       have hst := row_store (j := m) hrw5 hp0 (.string (lowA pm))
       have hk5 : Kept gp w3 (w5.setCell ⟨gp, m, none⟩ (.string (lowA pm))) := ((hkp.trans (Kept.of_below ((Below.refl _ _).alloc (Nat.le_refl _) _))).trans (Kept.of_below hb5)).trans (Kept.set _ _ _ _)
       clear hrwA hpc
       go_wp2
       refine ⟨⟨m + 1, by omega, by go_num, ?_, hk5⟩, by simp [intOf]; omega⟩
       rw [HSN2.out, baV, List.map_set]; exact hst
     ·obtain rfl : m = F.length := by omega
      have h1 : F.take F.length = F := List.take_length
      rw [h1] at hrw
      clear h1
      have hll : ps.length = (lowXs F ps).length := (low_len F ps).symm
      have hjc : (Lib.join ((lowXs F ps).map (·.data.toList)) []).length ≤ 2000 := by
       have h1 := HCZ.out
       rw [← cat_join, ba_size] at h1
       exact h1
      have hrwj : wr.ownsRow w1.heap.size 9 1 (.slice (some ⟨gp, 0, none⟩) ps.length cv) (lowXs F ps).length (baV (lowXs F ps)) := by rw [← hll]; exact hrw
      have HJ := Hid.mk (join_row ⟨#[]⟩ hrwj (by rw [← hll, HPL.out]; omega) (by
       show (Lib.join ((lowXs F ps).map (·.data.toList)) []).length ≤ _
       omega))
      have hcj : (⟨(Lib.join ((lowXs F ps).map (·.data.toList)) (⟨#[]⟩ : ByteArray).data.toList).toArray⟩ : ByteArray) = RN := by
       rw [← HR0.out, ← cat_join]
      rw [hcj] at HJ
      clear hcj hrwj hjc hll
      have hblw := hkp.below (n := w1.heap.size) hgpb (Nat.le_trans hb2.size hb3.size)
      go_wp2_with fail
      refine HJ.out.mono ?_
      rintro e w6 ⟨rfl, hb6⟩
      go_wp2
      go_ret
      exact ⟨rfl, (k3.trans hblw).trans (hb6.mono (Nat.le_trans k3.size hkp.size))⟩
end Go.Proofs.YtikjepodmdaknaaGreatDoor
/- Layer 14: what the calls on names and data answer, of any bytes. -/
namespace Go.Proofs.YtikjepodmdaknaaGreatDoor
open Go.RowKit
abbrev N3 := List (List UInt8)
open Classical in
noncomputable def isN (s : ByteArray) : Bool := decide (IsName s)
open Classical in
noncomputable def lowF (s : ByteArray) : ByteArray := if IsName s then lowA s else s
open Classical in
noncomputable def eqF (s t : ByteArray) : Bool := decide (∃ a b, OkN a ∧ OkN b ∧ s = nm a ∧ t = nm b ∧ eqB a b = true)
theorem isN_yes {s : ByteArray} (h : IsName s) : isN s = true := by classical exact decide_eq_true h
theorem isN_no {s : ByteArray} (h : ¬ IsName s) : isN s = false := by classical exact decide_eq_false h
theorem isN_iff {s : ByteArray} : isN s = true ↔ IsName s := by classical exact decide_eq_true_iff
theorem lowF_nm {a : N3} (h : OkN a) : lowF (nm a) = nm (lowN a) := by
 unfold lowF
 rw [if_pos ⟨a, h, rfl⟩, lowA_nm h]
theorem lowF_no {s : ByteArray} (h : ¬ IsName s) : lowF s = s := by unfold lowF; rw [if_neg h]
theorem eqF_nm {a b : N3} (ha : OkN a) (hb : OkN b) : eqF (nm a) (nm b) = eqB a b := by
 classical
 unfold eqF
 cases h : eqB a b with
 | true => exact decide_eq_true ⟨a, b, ha, hb, rfl, rfl, h⟩
 | false =>
  refine decide_eq_false ?_
  rintro ⟨a', b', ha', hb', e1, e2, h'⟩
  rw [← nm_inj ha ha' e1, ← nm_inj hb hb' e2, h] at h'
  cases h'
theorem eqF_no {s t : ByteArray} (h : ¬ (IsName s ∧ IsName t)) : eqF s t = false := by
 classical
 refine decide_eq_false ?_
 rintro ⟨a, b, ha, hb, rfl, rfl, _⟩
 exact h ⟨⟨a, ha, rfl⟩, ⟨b, hb, rfl⟩⟩
theorem name_size {s : ByteArray} (h : IsName s) : s.size ≤ 255 := by
 obtain ⟨a, ha, rfl⟩ := h
 rw [nm_size]
 have := ha.len
 omega
theorem nright_in (s : ByteArray) (hs : s.size ≤ maxLen) (w : World) : Calls Tryz.prog 105 #[.string s] w fun e w' => e = .returned (.bool (isN s)) ∧ Below w.heap.size w w' := by
 by_cases h : IsName s
 ·rw [isN_yes h]; exact right_is s h w
 ·rw [isN_no h]; exact right_no s h hs w
theorem nlower_in (s : ByteArray) (hs : s.size ≤ maxLen) (w : World) : Calls Tryz.prog 88 #[.string s] w fun e w' => e = .returned (.string (lowF s)) ∧ Below w.heap.size w w' := by
 by_cases h : IsName s
 ·have e : lowF s = lowA s := by unfold lowF; rw [if_pos h]
  rw [e]; exact lowName_in s h w
 ·rw [lowF_no h]
  go_enter Tryz.func88, Tryz.ntmps88
  go_wp2_with fail
  refine (right_no s h hs _).mono ?_
  rintro e w1 ⟨rfl, hb1⟩
  go_wp2
  go_ret
  exact ⟨rfl, hb1⟩
theorem nequal_in (s t : ByteArray) (hs : s.size ≤ maxLen) (ht : t.size ≤ maxLen) (w : World) : Calls Tryz.prog 81 #[.string s, .string t] w fun e w' => e = .returned (.bool (eqF s t)) ∧ Below w.heap.size w w' := by
 by_cases h : IsName s ∧ IsName t
 ·obtain ⟨⟨a, ha, rfl⟩, ⟨b, hb, rfl⟩⟩ := h
  rw [eqF_nm ha hb]; exact equal_yes a b ha hb w
 ·rw [eqF_no h]; exact equal_no s t hs ht h w
noncomputable def dRt (k : Int) (d : ByteArray) : Bool := (splitR k d).isSome
end Go.Proofs.YtikjepodmdaknaaGreatDoor
/- A stable sort, on lists alone: merging, sorting, what a merge in place does. -/
namespace Go.Proofs.YtikjepodmdaknaaGreatDoor.So
variable {α : Type} {lt : α → α → Bool}
def put (l : List α) (a : Nat) (v : List α) : List α := l.take a ++ v ++ l.drop (a + v.length)
end Go.Proofs.YtikjepodmdaknaaGreatDoor.So
/- Sets in a row of memory: loaded and stored whole, as one step. -/
namespace Go.Proofs.YtikjepodmdaknaaGreatDoor.So
open Go.RowKit
structure El where
 ls : List (List UInt8)
 ty : Int
 cl : Int
 tl : Int
 dv : Value
 sv : Value
theorem cell_blk {w : World} {b : Nat} {c : Array Value} {t : TypeId} {f : Nat × Nat} (h : w.heap[b]? = some (.cells c t f)) (i : Nat) : w.cell? ⟨b, i, none⟩ = c[i]? := by
 unfold World.cell?
 simp only [h]
 rfl
theorem add_of (g o j : Nat) : (⟨g, o, none⟩ : Addr).add j = ⟨g, o + j, none⟩ := by unfold Addr.add; split <;> simp_all
def lt (a b : El) : Bool := decide (cmpN a.ls b.ls < 0)
end Go.Proofs.YtikjepodmdaknaaGreatDoor.So
/- Layer 8: the sets that records make, as lists; records of no signatures. -/
namespace Go.Proofs.YtikjepodmdaknaaGreatDoor
open Go.RowKit
structure Rc where
 nm : ByteArray
 ty : Int
 cl : Int
 tl : Int
 dat : ByteArray
structure St where
 ls : N3
 ty : Int
 cl : Int
 tl : Int
 ds : List ByteArray
def ftB (n : Int) (b : Nat) : Bool := decide (0 ≤ n) && decide (n < 2 ^ b)
open Classical in
noncomputable def lb (s : ByteArray) : N3 := if h : IsName s then h.choose else []
def mks (k : Int) : Bool := k != 46 && k != 41
def ttl (r : Rc) : Int := if ftB r.tl 31 then r.tl else 0
open Classical in
noncomputable def keyS (s : St) (r : Rc) : Bool := decide (lowN s.ls = lowN (lb r.nm) ∧ s.ty = r.ty ∧ s.cl = r.cl)
end Go.Proofs.YtikjepodmdaknaaGreatDoor
