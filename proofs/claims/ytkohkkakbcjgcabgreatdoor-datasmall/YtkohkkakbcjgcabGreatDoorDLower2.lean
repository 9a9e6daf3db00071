/- Lower, of every type. -/
import Derived.Test.YtkohkkakbcjgcabGreatDoorDLower
namespace Go.Proofs.YtkohkkakbcjgcabGreatDoor
set_option linter.unusedVariables false
open Go.RowKit

theorem lowName_in (x : ByteArray) (h : IsName x) (w : World) :
    Calls Tryz.prog 48 #[.string x] w fun e w' => e = .returned (.string (lowA x)) ∧ Below w.heap.size w w' := by
  obtain ⟨ls, ho, rfl⟩ := h
  rw [lowA_nm ho]
  go_enter Tryz.func48, Tryz.ntmps48
  go_wp2_with fail
  refine (right_yes ls ho _).mono ?_
  rintro e w1 ⟨rfl, hb1⟩
  go_wp2_with fail
  refine (lowered_nm ls ho _).mono ?_
  rintro e w2 ⟨rfl, hb2⟩
  go_wp2
  go_ret
  exact ⟨rfl, bth hb1 hb2 hb1.size⟩

theorem low_len : ∀ (F : List PK) (xs : List ByteArray), (lowXs F xs).length = xs.length
  | [], _ => rfl
  | _ :: _, [] => rfl
  | p :: F, x :: xs => by simp [lowXs, low_len F xs]
theorem low_step : ∀ (F : List PK) (ps : List ByteArray) (m : Nat) (h : m < F.length) (h' : m < ps.length), lowXs (F.take (m + 1)) ps = (lowXs (F.take m) ps).set m (lowX F[m] ps[m])
  | [], ps, m, h, _ => by simp at h
  | p :: F, [], m, _, h' => by simp at h'
  | p :: F, x :: xs, 0, _, _ => by simp [lowXs]
  | p :: F, x :: xs, m + 1, h, h' => by
    have := low_step F xs m (by simpa using h) (by simpa using h')
    simp only [List.take_succ_cons, lowXs, List.getElem_cons_succ, List.set_cons_succ] at this ⊢
    rw [this]
theorem low_at : ∀ (F : List PK) (ps : List ByteArray) (m : Nat) (h' : m < ps.length), (lowXs (F.take m) ps)[m]? = some ps[m]
  | F, x :: xs, 0, _ => by simp [lowXs]
  | [], x :: xs, m + 1, h' => by
    rw [show lowXs (([] : List PK).take (m + 1)) (x :: xs) = x :: xs from rfl]
    exact List.getElem?_eq_getElem h'
  | p :: F, x :: xs, m + 1, h' => by
    have := low_at F xs m (by simpa using h')
    simpa [lowXs] using this
  | F, [], m, h' => by simp at h'
theorem good_at : ∀ (F : List PK) (ps : List ByteArray), AllGood F ps → ∀ (m : Nat) (h : m < F.length) (h' : m < ps.length), Good F[m] ps[m]
  | [], ps, _, m, h, _ => by simp at h
  | p :: F, [], _, m, _, h' => by simp at h'
  | p :: F, x :: xs, hg, 0, _, _ => hg.1
  | p :: F, x :: xs, hg, m + 1, h, h' => good_at F xs hg.2 m (by simpa using h) (by simpa using h')
theorem set_same {l : List ByteArray} {m : Nat} {x : ByteArray} (h : l[m]? = some x) : l.set m x = l := by
  obtain ⟨h1, h2⟩ := List.getElem?_eq_some_iff.1 h
  rw [← h2, List.set_getElem_self]

theorem row_at {W : World} {n₀ n c g : Nat} {e : TypeId} {ps : List ByteArray} (h : W.ownsRow n₀ e 1 (.slice (some ⟨g, 0, none⟩) n c) n (baV ps)) (j : Nat) (x : ByteArray) (hj : ps[j]? = some x) : W.cell? ⟨g, j, none⟩ = some (.string x) := by
  obtain ⟨hl, hx⟩ := List.getElem?_eq_some_iff.1 hj
  obtain ⟨g', hg', _, hc⟩ := row_cell h j hl
  cases hg'
  rw [hc, hx]

set_option maxRecDepth 100000 in
set_option maxHeartbeats 2000000 in
theorem lower_in (k : Int) (s : ByteArray) (hm : s.size ≤ maxLen) (W : World) : Calls Tryz.prog 24 #[.int .i64 k, .string s] W fun e w' => e = .returned (.string (lowR k s)) ∧ Below W.heap.size W w' := by
  have HO := Hid.mk (namesOthers_in k)
  have HS := Hid.mk (split_all k s hm)
  have HP := Hid.mk (named_all k)
  obtain ⟨RN, hRN⟩ : ∃ R, lowR k s = R := ⟨_, rfl⟩
  rw [hRN]
  have HRN := Hid.mk hRN
  clear hRN
  cases hlw : lowers k with
  | false =>
    have hR0 : RN = s := by rw [← HRN.out, lowR, hlw]; rfl
    rw [lowers, Bool.or_eq_false_iff] at hlw
    rw [hlw.1] at HO
    have h46 : (k == 46) = false := hlw.2
    have h46' : (k != 46) = true := by simpa using h46
    subst hR0
    clear hlw HRN
    go_enter Tryz.func24, Tryz.ntmps24
    go_wp2_with fail
    refine (HO.out _).mono ?_
    rintro e w1 ⟨rfl, rfl⟩
    go_wp2
    go_ret
    exact ⟨rfl, Below.refl _ _⟩
  | true =>
    have HB : Hid (nameds k = true ∨ (nameds k = false ∧ (k != 46) = false)) := by
      rw [Hid]
      rw [lowers, Bool.or_eq_true] at hlw
      cases hn : nameds k with
      | true => exact .inl rfl
      | false =>
        rw [hn] at hlw
        rcases hlw with h | h
        · cases h
        · exact .inr ⟨rfl, by simpa using h⟩
    cases hsp : splitR k s with
    | none =>
      rw [hsp] at HS
      have hR0 : RN = s := by rw [← HRN.out]; exact lowR_none k s hsp
      subst hR0
      clear hlw hsp HRN
      rcases HB.out with hn | ⟨hn, h46⟩
      all_goals
        rw [hn] at HO
        clear hn HB
        go_enter Tryz.func24, Tryz.ntmps24
        go_wp2_with fail
        refine (HO.out _).mono ?_
        rintro e w1 ⟨rfl, rfl⟩
        go_wp2_with fail
        refine (HS.out _).mono ?_
        rintro e w2 ⟨rfl, hb2⟩
        go_wp2
        go_ret
        exact ⟨rfl, hb2⟩
    | some ps =>
      rw [hsp] at HS
      have hgood := ((split_iff k s ps).1 hsp).2.2.2
      have hcz : (cat ps).size ≤ 2000 := by
        obtain ⟨_, h1, h2, _⟩ := (split_iff k s ps).1 hsp
        rw [← h2]; exact h1
      have hR0 : cat (lowXs (formOf k) ps) = RN := by rw [← HRN.out]; exact (lowR_split k s ps hlw hsp).1.symm
      have hpl : ps.length = (formOf k).length := hgood.len
      have hfl := form_len k
      have HR0 := Hid.mk hR0
      have HPL := Hid.mk hpl
      have HGD := Hid.mk hgood
      have HCZ : Hid ((cat (lowXs (formOf k) ps)).size ≤ 2000) := by rw [Hid, lowXs_size]; exact hcz
      clear hlw hsp hR0 hpl HRN hgood hcz
      generalize formOf k = F at HP HR0 HPL hfl HGD HCZ
      rcases HB.out with hn | ⟨hn, h46⟩
      all_goals
        rw [hn] at HO
        clear hn HB
        go_enter Tryz.func24, Tryz.ntmps24
        go_wp2_with fail
        refine (HO.out _).mono ?_
        rintro e w1 ⟨rfl, rfl⟩
        go_wp2_with fail
        refine (HS.out _).mono ?_
        rintro e w2 ⟨⟨v, rfl, hrow⟩, hb2⟩
        obtain ⟨qv, cv, hqv⟩ := row_as hrow
        subst hqv
        go_wp2_with fail
        refine (HP.out _).mono ?_
        rintro e w3 ⟨g, P, rfl, hg, hP, hnm, hb3⟩
        have hrow3 := row_bel hrow hb3
        have HNM := Hid.mk hnm
        have k3 := bth hb2 hb3 hb2.size
        have hp0 : 0 < ps.length := by have := HPL.out; omega
        obtain ⟨gp, hgp, _, _⟩ := row_cell hrow 0 hp0
        subst hgp
        obtain ⟨_, hgpl, hgpb⟩ := row_frozen (j := 0) hrow hp0
        have hgne : g ≠ gp := by omega
        have hgp3 : gp < w3.heap.size := Nat.lt_of_lt_of_le hgpl hb3.size
        clear hrow hnm HO HS HP
        go_wp2
        go_loopw [29] (fun iv wr => ∃ m : Nat, m ≤ F.length ∧ iv = .int .i64 m ∧ wr.ownsRow w1.heap.size 9 1 (.slice (some ⟨gp, 0, none⟩) ps.length cv) ps.length (baV (lowXs (F.take m) ps)) ∧ Kept gp w3 wr) (fun iv _ => F.length - (intOf iv).toNat)
        case atStart =>
          refine ⟨0, Nat.zero_le _, rfl, ?_, Kept.refl _ _⟩
          rw [List.take_zero, show lowXs [] ps = ps from rfl]
          exact hrow3
        case round =>
          obtain ⟨m, hmF, rfl, hrw, hkp⟩ := hrel
          have hsz := hkp.size
          by_cases hlt : m < F.length
          · have hmp : m < ps.length := by have := HPL.out; omega
            have hgl := hP.lt (by omega)
            have hPk := hP.kept hkp hgne
            have c0 := hPk.c0 m hlt
            have c1 := hPk.c1 m hlt
            have c2 := hPk.c2 m hlt
            have c3 := hPk.c3 m hlt
            have hrwA : ∀ o, (wr.alloc o).ownsRow w1.heap.size 9 1 (.slice (some ⟨gp, 0, none⟩) ps.length cv) ps.length (baV (lowXs (F.take m) ps)) := fun o => hrw.alloc o
            have hpc : ∀ o, (wr.alloc o).cell? ⟨gp, m, none⟩ = some (.string ps[m]) := fun o => row_at (hrwA o) m _ (low_at F ps m hmp)
            have hnmm := HNM.out m hlt
            have HSN := Hid.mk (low_step F ps m hlt hmp)
            have HGM := Hid.mk (good_at F ps HGD.out m hlt hmp)
            have HAT := Hid.mk (low_at F ps m hmp)
            rw [hnmm] at c3
            have hplm : (m : Int) < (ps.length : Int) := by omega
            clear hnmm hPk
            generalize P m = pk at c0 c1 c2
            obtain ⟨fp, cp, ft, ct, fr, cr, nmb⟩ := pk
            dsimp only at c0 c1 c2
            generalize hws : lowXs (F.take m) ps = ws at hrw HSN hrwA HAT
            generalize ps[m] = pm at hpc HSN HGM HAT
            clear hws
            generalize F[m] = pq at c3 HSN HGM
            cases hnx : isNm pq with
            | false =>
              rw [hnx] at c3
              have HSN2 : Hid (lowXs (F.take (m + 1)) ps = ws) := by
                rw [Hid, HSN.out, lowX, hnx]
                exact set_same HAT.out
              clear hnx HSN
              go_wp2
              exact ⟨⟨m + 1, by omega, by go_num, by rw [HSN2.out]; exact hrw.alloc _, hkp.trans (Kept.of_below ((Below.refl _ _).alloc (Nat.le_refl _) _))⟩, by simp [intOf]; omega⟩
            | true =>
              rw [hnx] at c3
              have hname : IsName pm := by
                cases pq <;> first | exact HGM.out | cases hnx
              have HLO := Hid.mk (lowName_in pm hname)
              have HSN2 : Hid (lowXs (F.take (m + 1)) ps = ws.set m (lowA pm)) := by rw [Hid, HSN.out, lowX, hnx]; rfl
              clear hnx HSN hname HGM
              go_wp2_with fail
              refine (HLO.out _).mono ?_
              rintro e w5 ⟨rfl, hb5⟩
              have hrw5 := row_bel (hrwA _) hb5
              obtain ⟨hfz, _, _⟩ := row_frozen (j := m) hrw5 hp0
              have hcl5 := row_at hrw5 m _ HAT.out
              have hst := row_store (j := m) hrw5 hp0 (.string (lowA pm))
              have hk5 : Kept gp w3 (w5.setCell ⟨gp, m, none⟩ (.string (lowA pm))) := ((hkp.trans (Kept.of_below ((Below.refl _ _).alloc (Nat.le_refl _) _))).trans (Kept.of_below hb5)).trans (Kept.set _ _ _ _)
              clear hrwA hpc
              go_wp2
              refine ⟨⟨m + 1, by omega, by go_num, ?_, hk5⟩, by simp [intOf]; omega⟩
              rw [HSN2.out, baV, List.map_set]; exact hst
          · obtain rfl : m = F.length := by omega
            have h1 : F.take F.length = F := List.take_length
            rw [h1] at hrw
            clear h1
            have hll : ps.length = (lowXs F ps).length := (low_len F ps).symm
            have hjc : (Lib.join ((lowXs F ps).map (·.data.toList)) []).length ≤ 2000 := by
              have h1 := HCZ.out
              rw [← cat_join, ba_size] at h1
              exact h1
            have hrwj : wr.ownsRow w1.heap.size 9 1 (.slice (some ⟨gp, 0, none⟩) ps.length cv) (lowXs F ps).length (baV (lowXs F ps)) := by rw [← hll]; exact hrw
            have HJ := Hid.mk (join_row ⟨#[]⟩ hrwj (by rw [← hll, HPL.out]; omega) (by
              show (Lib.join ((lowXs F ps).map (·.data.toList)) []).length ≤ _
              omega))
            have hcj : (⟨(Lib.join ((lowXs F ps).map (·.data.toList)) (⟨#[]⟩ : ByteArray).data.toList).toArray⟩ : ByteArray) = RN := by
              rw [← HR0.out, ← cat_join]
            rw [hcj] at HJ
            clear hcj hrwj hjc hll
            have hblw := hkp.below (n := w1.heap.size) hgpb (Nat.le_trans hb2.size hb3.size)
            go_wp2_with fail
            refine HJ.out.mono ?_
            rintro e w6 ⟨rfl, hb6⟩
            go_wp2
            go_ret
            exact ⟨rfl, (k3.trans hblw).trans (hb6.mono (Nat.le_trans k3.size hkp.size))⟩
end Go.Proofs.YtkohkkakbcjgcabGreatDoor
