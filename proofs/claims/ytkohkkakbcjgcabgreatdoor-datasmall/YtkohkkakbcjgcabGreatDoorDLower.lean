/- Names and Lower, of every type. -/
import Derived.Test.YtkohkkakbcjgcabGreatDoorDSplitA
import Derived.Test.YtkohkkakbcjgcabGreatDoorDSmallF
namespace Go.Proofs.YtkohkkakbcjgcabGreatDoor
set_option linter.unusedVariables false
open Go.RowKit

theorem row_store {W : World} {base n cap g j : Nat} {e : TypeId} {xs : List Value} (h : W.ownsRow base e 1 (.slice (some ⟨g, 0, none⟩) n cap) n xs) (hn : 0 < n) (u : Value) : (W.setCell ⟨g, j, none⟩ u).ownsRow base e 1 (.slice (some ⟨g, 0, none⟩) n cap) n (xs.set j u) := by
  obtain ⟨h1, h2⟩ := h
  refine ⟨by rw [List.length_set]; exact h1, ?_⟩
  rcases h2 with ⟨_, h0⟩ | ⟨g', cap', cur, hv, hb, hg, hc, hm, hz, ht⟩
  · omega
  · cases hv
    have hs : (W.setCell ⟨g, j, none⟩ u).heap[g]? = some (.cells (cur.setIfInBounds j u) e (0, 0)) := by
      simp only [World.setCell, Array.getElem?_modify, hg]
      rfl
    refine .inr ⟨g, cap, _, rfl, hb, hs, hc, hm, by simpa using hz, ?_⟩
    rw [← ht, Array.toList_setIfInBounds, List.take_set]
theorem row_frozen {W : World} {base n cap g j : Nat} {e : TypeId} {xs : List Value} (h : W.ownsRow base e 1 (.slice (some ⟨g, 0, none⟩) n cap) n xs) (hn : 0 < n) : W.frozen? ⟨g, j, none⟩ = false ∧ g < W.heap.size ∧ base ≤ g := by
  rcases h.2 with ⟨_, h0⟩ | ⟨g', cap', cur, hv, hb, hg, _⟩
  · omega
  · cases hv
    exact ⟨by simp [World.frozen?, hg], box_lt hg, hb⟩

theorem namesOthers_in (k : Int) (w : World) : Calls Tryz.prog 46 #[.int .i64 k] w fun e w' => e = .returned (.bool (nameds k)) ∧ w' = w := by
  by_cases h1 : k = 2
  · subst h1
    go_enter Tryz.func46, Tryz.ntmps46
    go_wp2
    go_ret
    exact ⟨rfl, rfl⟩
  · by_cases h2 : k = 5
    · subst h2
      go_enter Tryz.func46, Tryz.ntmps46
      go_wp2
      go_ret
      exact ⟨rfl, rfl⟩
    · by_cases h3 : k = 39
      · subst h3
        go_enter Tryz.func46, Tryz.ntmps46
        go_wp2
        go_ret
        exact ⟨rfl, rfl⟩
      · by_cases h4 : k = 6
        · subst h4
          go_enter Tryz.func46, Tryz.ntmps46
          go_wp2
          go_ret
          exact ⟨rfl, rfl⟩
        · by_cases h5 : k = 15
          · subst h5
            go_enter Tryz.func46, Tryz.ntmps46
            go_wp2
            go_ret
            exact ⟨rfl, rfl⟩
          · have e1 : (k == 2) = false := by simpa using h1
            have e2 : (k == 5) = false := by simpa using h2
            have e3 : (k == 39) = false := by simpa using h3
            have e4 : (k == 6) = false := by simpa using h4
            have e5 : (k == 15) = false := by simpa using h5
            have he : nameds k = false := by simp [nameds, e1, e2, e3, e4, e5]
            rw [he]
            go_enter Tryz.func46, Tryz.ntmps46
            go_wp2
            go_ret
            exact ⟨rfl, rfl⟩

theorem part_name {n₀ : Nat} {W : World} {p : Part} {k : PK} (h : PartIs n₀ W p k) : p.name = isNm k := by
  cases k with
  | num n => obtain ⟨b, _, rfl, _⟩ := h; rfl
  | grp c w b s => obtain ⟨x, _, rfl, _⟩ := h; rfl
  | name => obtain rfl := h; rfl
  | type => obtain rfl := h; rfl
  | hex => obtain rfl := h; rfl
  | salt => obtain rfl := h; rfl
  | hash => obtain rfl := h; rfl
  | types => obtain rfl := h; rfl
  | any => obtain rfl := h; rfl
  | strs => obtain rfl := h; rfl

/-- what partsOf hands back, for who looks which parts are names. -/
theorem named_all (k : Int) (w : World) : Calls Tryz.prog 47 #[.int .i64 k] w fun e w' => ∃ g P, e = .returned (.slice (some ⟨g, 0, none⟩) (formOf k).length (formOf k).length) ∧ w.heap.size ≤ g ∧ PartsIn w' g (formOf k).length P ∧
    (∀ j (h : j < (formOf k).length), (P j).name = isNm (formOf k)[j]) ∧ Below w.heap.size w w' := by
  refine (raw_all k w).mono ?_
  rintro e w' ⟨g, ps, rfl, hg, hc, hp, hb⟩
  have hl := hp.len
  exact ⟨g, fun j => ps.getD j default, rfl, hg, by rw [← hl]; exact parts_in hc, fun j hj => part_name (hp.at j _ (List.getElem?_eq_getElem hj)), hb⟩

theorem nms_snoc : ∀ (F : List PK) (ps : List ByteArray) (m : Nat) (h : m < F.length) (h' : m < ps.length), nmsOf (F.take (m + 1)) (ps.take (m + 1)) = nmsOf (F.take m) (ps.take m) ++ (if isNm F[m] then [ps[m]] else [])
  | [], ps, m, h, _ => by simp at h
  | p :: F, [], m, _, h' => by simp at h'
  | p :: F, x :: xs, 0, _, _ => by
    simp only [List.take_succ_cons, List.take_zero, nmsOf, List.getElem_cons_zero, List.nil_append]
  | p :: F, x :: xs, m + 1, h, h' => by
    have := nms_snoc F xs m (by simpa using h) (by simpa using h')
    simp only [List.take_succ_cons, nmsOf, List.getElem_cons_succ] at this ⊢
    rw [this]
    split
    · simp
    · rfl
theorem nms_len : ∀ (F : List PK) (ps : List ByteArray), (nmsOf F ps).length ≤ ps.length
  | [], ps => by cases ps <;> simp [nmsOf]
  | _ :: _, [] => by simp [nmsOf]
  | p :: F, x :: xs => by
    have := nms_len F xs
    rw [nmsOf]
    split
    · simp; omega
    · simp; omega

/-- what Names hands back. -/
def NmsPost (l : List ByteArray) (W : World) (e : Ending) (w' : World) : Prop := (∃ v, e = .returned v ∧ w'.ownsRow W.heap.size 9 1 v l.length (baV l)) ∧ Below W.heap.size W w'

set_option maxRecDepth 100000 in
set_option maxHeartbeats 2000000 in
theorem names_in (k : Int) (s : ByteArray) (hm : s.size ≤ maxLen) (W : World) : Calls Tryz.prog 25 #[.int .i64 k, .string s] W fun e w' => NmsPost (namesR k s) W e w' := by
  have HO := Hid.mk (namesOthers_in k)
  have HS := Hid.mk (split_all k s hm)
  have HP := Hid.mk (named_all k)
  obtain ⟨i0, hi, hz0, hz1, hz2⟩ := info_parts info9
  obtain ⟨RN, hRN⟩ : ∃ R, namesR k s = R := ⟨_, rfl⟩
  rw [hRN]
  have HRN := Hid.mk hRN
  clear hRN
  cases hn : nameds k with
  | false =>
    rw [hn] at HO
    have hR0 : RN = [] := by rw [← HRN.out, namesR, hn]; rfl
    subst hR0
    clear hn
    go_enter Tryz.func25, Tryz.ntmps25
    go_wp2_with fail
    refine (HO.out _).mono ?_
    rintro e w1 ⟨rfl, rfl⟩
    go_wp2
    go_ret
    exact ⟨⟨_, rfl, World.ownsRow_nil ..⟩, Below.refl _ _⟩
  | true =>
    rw [hn] at HO
    cases hsp : splitR k s with
    | none =>
      rw [hsp] at HS
      have hR0 : RN = [] := by rw [← HRN.out, namesR, hn, hsp]; rfl
      subst hR0
      clear hn hsp
      go_enter Tryz.func25, Tryz.ntmps25
      go_wp2_with fail
      refine (HO.out _).mono ?_
      rintro e w1 ⟨rfl, rfl⟩
      go_wp2_with fail
      refine (HS.out _).mono ?_
      rintro e w2 ⟨rfl, hb2⟩
      go_wp2
      go_ret
      exact ⟨⟨_, rfl, World.ownsRow_nil ..⟩, hb2⟩
    | some ps =>
      rw [hsp] at HS
      have hR0 : nmsOf (formOf k) ps = RN := by rw [← HRN.out, namesR, hn, hsp]; rfl
      have hpl : ps.length = (formOf k).length := ((split_iff k s ps).1 hsp).2.2.2.len
      have hfl := (form_len k).1
      have HR0 := Hid.mk hR0
      have HPL := Hid.mk hpl
      clear hn hsp hR0 hpl
      generalize formOf k = F at HP HR0 HPL hfl
      go_enter Tryz.func25, Tryz.ntmps25
      go_wp2_with fail
      refine (HO.out _).mono ?_
      rintro e w1 ⟨rfl, rfl⟩
      go_wp2_with fail
      refine (HS.out _).mono ?_
      rintro e w2 ⟨⟨v, rfl, hrow⟩, hb2⟩
      obtain ⟨qv, cv, hqv⟩ := row_as hrow
      subst hqv
      go_wp2_with fail
      refine (HP.out _).mono ?_
      rintro e w3 ⟨g, P, rfl, hg, hP, hnm, hb3⟩
      have hrow3 := row_bel hrow hb3
      have HNM := Hid.mk hnm
      have k3 := bth hb2 hb3 hb2.size
      clear hrow hnm HO HS HP
      go_wp2
      go_loopw [7, 24] (fun lv iv wr => ∃ m : Nat, m ≤ F.length ∧ iv = .int .i64 m ∧ wr.ownsRow w3.heap.size 9 1 lv (nmsOf (F.take m) (ps.take m)).length (baV (nmsOf (F.take m) (ps.take m))) ∧ Below w3.heap.size w3 wr) (fun _ iv _ => F.length - (intOf iv).toNat)
      case atStart =>
        refine ⟨0, Nat.zero_le _, rfl, ?_, Below.refl _ _⟩
        have : nmsOf (F.take 0) (ps.take 0) = [] := by simp [nmsOf]
        rw [this]
        exact World.ownsRow_nil ..
      case round =>
        obtain ⟨m, hmF, rfl, hrw, hbl⟩ := hrel
        have hsz := hbl.size
        by_cases hlt : m < F.length
        · have hmp : m < ps.length := by have := HPL.out; omega
          have hgl := hP.lt (by omega)
          obtain ⟨gp, hgp, hgpl, hgc⟩ := row_cell hrow3 m hmp
          subst hgp
          have c0 := (hbl.cell (p := ⟨g, m * 4, none⟩) hgl).trans (hP.c0 m hlt)
          have c1 := (hbl.cell (p := ⟨g, m * 4 + 1, none⟩) hgl).trans (hP.c1 m hlt)
          have c2 := (hbl.cell (p := ⟨g, m * 4 + 2, none⟩) hgl).trans (hP.c2 m hlt)
          have c3 := (hbl.cell (p := ⟨g, m * 4 + 3, none⟩) hgl).trans (hP.c3 m hlt)
          have hpc : ∀ o, (wr.alloc o).cell? ⟨gp, m, none⟩ = some (.string ps[m]) := fun o => ((hbl.alloc hsz o).cell (p := ⟨gp, m, none⟩) hgpl).trans hgc
          have hnmm := HNM.out m hlt
          have HSN := Hid.mk (nms_snoc F ps m hlt hmp)
          have hwl := nms_len (F.take m) (ps.take m)
          rw [List.length_take] at hwl
          rw [hnmm] at c3
          have hplm : (m : Int) < (ps.length : Int) := by omega
          clear hnmm
          generalize P m = pk at c0 c1 c2
          obtain ⟨fp, cp, ft, ct, fr, cr, nmb⟩ := pk
          dsimp only at c0 c1 c2
          generalize nmsOf (F.take m) (ps.take m) = ws at hrw HSN hwl
          generalize ps[m] = pm at hpc HSN hgc
          cases hnx : isNm F[m] with
          | false =>
            rw [hnx] at c3 HSN
            have HSN2 : Hid (nmsOf (F.take (m + 1)) (ps.take (m + 1)) = ws) := by rw [Hid, HSN.out]; simp
            clear hnx HSN
            go_wp2
            exact ⟨⟨m + 1, by omega, by go_num, by rw [HSN2.out]; exact hrw.alloc _, hbl.alloc hsz _⟩, by simp [intOf]; omega⟩
          | true =>
            rw [hnx] at c3 HSN
            have HSN2 : Hid (nmsOf (F.take (m + 1)) (ps.take (m + 1)) = ws ++ [pm]) := by rw [Hid, HSN.out]; rfl
            have hrw2 : ∀ o, (wr.alloc o).ownsRow w3.heap.size 9 1 u7 ws.length (baV ws) := fun o => hrw.alloc o
            clear hnx HSN
            go_wp2_with (at_builtin; refine wpList_append_own _ rfl _ _ 61 rfl w3.heap.size 9 i0 (.string ⟨#[]⟩) 1 16 Tryz.underlying61 hi hz0 hz1 hz2 rfl (by decide) _ _ _ rfl ((hrw2 _).alloc _) ⟨wr.heap.size + 1, 0, none⟩ 1 1 [.string pm] rfl rfl (by rw [← World.size_alloc]; exact cell_one_new _ _ _) (by simp [Value.oneCell']) (by unfold maxLen; omega) (by omega) (by simp; omega) ?_; intro v1 w5 hown5 hgrow5 _)
            have hb5 : Below w3.heap.size w3 w5 := ((hbl.alloc hsz _).alloc (by simp; omega) _).grown hgrow5 (by simp; omega) (rowBaseB hrw)
            go_roundw
            case rel =>
              refine ⟨m + 1, by omega, by go_num, ?_, hb5⟩
              rw [HSN2.out, List.length_append, baV, List.map_append]; exact hown5
            case measure => simp [intOf]; omega
        · obtain rfl : m = F.length := by omega
          have h1 : F.take F.length = F := List.take_length
          have h2 : ps.take F.length = ps := by rw [← HPL.out]; exact List.take_length
          rw [h1, h2, HR0.out] at hrw
          obtain ⟨qw, cw, hqw⟩ := row_as hrw
          subst hqw
          clear h1 h2
          go_wp2
          go_ret
          exact ⟨⟨_, rfl, row_down hrw k3.size⟩, k3.trans (hbl.mono k3.size)⟩
end Go.Proofs.YtkohkkakbcjgcabGreatDoor
