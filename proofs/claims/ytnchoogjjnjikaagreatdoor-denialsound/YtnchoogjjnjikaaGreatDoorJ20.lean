/- Texts of this proof, joined: ZChW. -/
import Derived.Test.YtnchoogjjnjikaaGreatDoorJ19
import Derived.Test.YtnchoogjjnjikaaGreatDoorJ11
/- chain, the walk. -/
namespace Go.Proofs.YtnchoogjjnjikaaGreatDoor
set_option linter.unusedVariables false
set_option linter.unusedSimpArgs false
open Go.RowKit
attribute [local go_sem ↓] storeAt_lk loadAt_lk
def RowC (W : World) (g : Nat) (us : List Value) : Prop := g < W.heap.size ∧ ∀ j u, us[j]? = some u → W.cell? ⟨g, j, none⟩ = some u
theorem RowC.blk {W W' : World} {g : Nat} {us : List Value} (h : RowC W g us) (hb : Below W.heap.size W W') : RowC W' g us :=
  ⟨Nat.lt_of_lt_of_le h.1 hb.size, fun j u hu => (hb.cell (p := ⟨g, j, none⟩) h.1).trans (h.2 j u hu)⟩
theorem RowC.take {W : World} {g : Nat} {us : List Value} (h : RowC W g us) (m : Nat) (hm : m ≤ us.length) (c : Nat) : VSrc W (.slice (some ⟨g, 0, none⟩) m c) (us.take m) := by
  refine .inr ⟨g, 0, c, by rw [List.length_take, Nat.min_eq_left hm], fun j u hu => ?_⟩
  rw [Nat.zero_add]
  refine h.2 j u ?_
  rw [List.getElem?_take] at hu
  split at hu
  · exact hu
  · cases hu
theorem RowC.drop {W W' : World} {n g : Nat} {us : List Value} (h : RowC W g us) (m r : Nat) (hr : us.length = r) (c : Nat) (hn : W.heap.size ≤ n) (hB : Below n W W') : VSrc W' (.slice (some ⟨g, m, none⟩) (r - m) c) (us.drop m) := by
  refine .inr ⟨g, m, c, by rw [List.length_drop, hr], fun j u hu => ?_⟩
  rw [List.getElem?_drop] at hu
  exact (hB.cell (p := ⟨g, m + j, none⟩) (Nat.lt_of_lt_of_le h.1 hn)).trans (h.2 _ u hu)
theorem NmsAt.form {W : World} {v : Value} {rs : List (N3 × List Int)} {r : Nat} (hr : rs.length = r) (h : NmsAt W v (rs.map Prod.fst)) : ∃ g cap us, v = .slice (some ⟨g, 0, none⟩) r cap ∧ r ≤ cap ∧ cap ≤ maxLen ∧ RowC W g us ∧ Hid (us = nmsV (rs.map Prod.fst)) ∧ us.length = r ∧ g < W.heap.size := by
  obtain ⟨g, cap, hv, hg, h1, h2, hc⟩ := h
  rw [List.length_map, hr] at hv h1
  refine ⟨g, cap, nmsV (rs.map Prod.fst), hv, h1, h2, ⟨hg, fun j u hu => ?_⟩, rfl, by simp [nmsV, hr], hg⟩
  obtain ⟨hj, rfl⟩ := List.getElem?_eq_some_iff.1 hu
  have hj' : j < (rs.map Prod.fst).length := by simpa [nmsV] using hj
  rw [hc j hj']
  simp [nmsV]
theorem TysAt.form {W : World} {v : Value} {rs : List (N3 × List Int)} {r : Nat} (hr : rs.length = r) (h : TysAt W v (rs.map Prod.snd)) : ∃ g cap us, v = .slice (some ⟨g, 0, none⟩) r cap ∧ r ≤ cap ∧ cap ≤ maxLen ∧ RowC W g us ∧ Hid (TyVs W us (rs.map Prod.snd)) ∧ us.length = r ∧ g < W.heap.size := by
  obtain ⟨g, cap, cs, hv, hg, ht, h1, h2, hc⟩ := h.vals
  rw [List.length_map, hr] at hv h1
  exact ⟨g, cap, cs, hv, h1, h2, ⟨hg, hc⟩, ht, by rw [ht.1, List.length_map, hr], hg⟩
theorem nmsV_one (ns : List N3) : ∀ u ∈ nmsV ns, u.oneCell' = true := by
  intro u hu
  simp only [nmsV, List.mem_map] at hu
  obtain ⟨l, _, rfl⟩ := hu
  rfl
theorem TyVs.one' {W : World} {cs : List Value} {ts : List (List Int)} (h : TyVs W cs ts) : ∀ u ∈ cs, u.oneCell' = true := by
  intro u hu
  obtain ⟨j, hj, rfl⟩ := List.getElem_of_mem hu
  obtain ⟨q, c, he, _⟩ := h.2 j hj (by rw [← h.1]; exact hj)
  rw [he]; rfl
theorem nms_ins (rs : List (N3 × List Int)) (m : Nat) (n : N3) (t : List Int) : nmsV ((insR rs m n t).map Prod.fst) = (nmsV (rs.map Prod.fst)).take m ++ [.string (nm n)] ++ (nmsV (rs.map Prod.fst)).drop m := by
  rw [insR_fst]; simp [nmsV, List.map_take, List.map_drop]
theorem fin_nms {W : World} {b : Nat} {v : Value} {rs : List (N3 × List Int)} {m : Nat} {n : N3} {t : List Int} {us : List Value} {k : Nat} (hu : us = nmsV (rs.map Prod.fst)) (h : W.ownsRow b 9 1 v k (us.take m ++ [.string (nm n)] ++ us.drop m)) : NmsAt W v ((insR rs m n t).map Prod.fst) := by
  subst hu
  rw [← nms_ins rs m n t] at h
  have hk : k = ((insR rs m n t).map Prod.fst).length := by
    have := h.1
    rw [Nat.mul_one] at this
    rw [← this]; simp [nmsV]
  subst hk
  exact nms_of_row (by rw [List.length_map, insR_len]; omega) h
theorem fin_tys {W : World} {b : Nat} {v ov : Value} {rs : List (N3 × List Int)} {m : Nat} {n : N3} {t : List Int} {us : List Value} {k : Nat} (hu : TyVs W us (rs.map Prod.snd)) (ht : IntsAt W ov t) (h : W.ownsRow b 32 1 v k (us.take m ++ [ov] ++ us.drop m)) : TysAt W v ((insR rs m n t).map Prod.snd) := by
  have hk : k = ((insR rs m n t).map Prod.snd).length := by
    have h1 := h.1
    have h2 := hu.1
    rw [Nat.mul_one] at h1
    rw [← h1, List.length_map, insR_len]
    simp at h2 ⊢
    omega
  subst hk
  refine tys_of_row (cs := us.take m ++ [ov] ++ us.drop m) (by rw [List.length_map, insR_len]; omega) ?_ h
  rw [insR_snd]
  exact ((hu.take m).app (TyVs.one ht)).app (hu.drop m)
theorem GivenI.at {W : World} {a0 : Option Addr} {ls : List Int} (h : GivenI W a0 ls) (j : Nat) (hj : j < ls.length) : ∃ b off, a0 = some ⟨b, off, none⟩ ∧ b < W.heap.size ∧ W.cell? ⟨b, off + j, none⟩ = some (.int .i64 ls[j]) := h j hj
theorem intsI_app (a : List Int) (t : Int) : intsI (a ++ [t]) = intsI a ++ [.int .i64 t] := by simp [intsI]
set_option maxRecDepth 100000 in
set_option maxHeartbeats 8000000 in
theorem chain_in (l : List (ByteArray × List Int)) (a0 : Option Addr) (cap : Nat) (W : World) (hl : OnesAt W a0 l) (hm : ∀ p ∈ l, p.1.size ≤ maxLen ∧ p.2.length ≤ maxLen) (hlen : l.length ≤ maxLen) :
    Calls Tryz.prog 5 #[.slice a0 l.length cap] W fun e w' => (∃ v4 v5, e = .returned (.tuple #[v4, v5]) ∧ ∃ rs, CrOk rs ∧ rs.length ≤ 13 ∧ NmsAt w' v4 (rs.map Prod.fst) ∧ TysAt w' v5 (rs.map Prod.snd)) ∧ Below W.heap.size W w' := by
  have HL := Hid.mk hl
  have HM := Hid.mk hm
  obtain ⟨n, hn⟩ : ∃ n, l.length = n := ⟨_, rfl⟩
  have HN := Hid.mk hn
  rw [hn] at hlen ⊢
  clear hl hm hn
  have H0 := Hid.mk (chain0 W)
  go_enter Tryz.func5, Tryz.ntmps5
  go_upto_region 3 with fail
  obtain ⟨k1, k2, k3⟩ := H0.out
  clear H0
  obtain ⟨Z, hZ⟩ : ∃ Z, ((W.alloc (.cells #[.string ⟨#[1, 120, 0]⟩] 9)).alloc (.cells #[.int .i64 2, .int .i64 6, .int .i64 47] 3)).alloc (.cells #[.slice (some ⟨W.heap.size + 1, 0, none⟩) 3 3] 32) = Z := ⟨_, rfl⟩
  rw [hZ] at k1 k2 k3 ⊢
  clear hZ
  go_wp2_with fail
  go_loopw [4, 5, 6] (fun v4 v5 iv wr => ∃ (k : Nat) (rs : List (N3 × List Int)), k ≤ 12 ∧ iv = .int .i64 (k : Int) ∧ Hid (CrOk rs) ∧ rs.length ≤ k + 1 ∧ NmsAt wr v4 (rs.map Prod.fst) ∧ TysAt wr v5 (rs.map Prod.snd) ∧ Below W.heap.size W wr) (fun _ _ iv _ => 12 - (intOf iv).toNat)
  case atStart => exact ⟨0, [(exX, [2, 6, 47])], by omega, rfl, CrOk.first, by simp, k1, k2, k3⟩
  case round =>
    clear k1 k2 k3
    obtain ⟨k, rs, hk, rfl, hcr, hrl, hN4, hT5, hbl⟩ := hrel
    obtain ⟨r, hr⟩ : ∃ r, rs.length = r := ⟨_, rfl⟩
    have HR := Hid.mk hr
    have KN := Hid.mk hN4
    have KT := Hid.mk hT5
    obtain ⟨g4, cap4, ns, rfl, hn4, hx4, R4, HNs, HA, hg4⟩ := hN4.form hr
    obtain ⟨g5, cap5, ds, rfl, hn5, hx5, R5, HTs, HD, hg5⟩ := hT5.form hr
    replace R4 := Hid.mk R4
    replace R5 := Hid.mk R5
    replace HA := Hid.mk HA
    replace HD := Hid.mk HD
    rw [hr] at hrl
    clear hr hN4 hT5
    by_cases c1 : k < n
    · by_cases c2 : k < 12
      · have i1 : (k : Int) < (n : Int) := by omega
        have i2 : (k : Int) < 12 := by omega
        have hkl : k < l.length := by rw [HN.out]; exact c1
        obtain ⟨b, off, q, c, ha0, hb, hc0, hc1, hg⟩ := HL.out.below hbl k hkl
        have hmm := HM.out l[k] (List.getElem_mem _)
        obtain ⟨s, hs⟩ : ∃ s, l[k].1 = s := ⟨_, rfl⟩
        obtain ⟨ts, hts⟩ : ∃ ts, l[k].2 = ts := ⟨_, rfl⟩
        rw [hs] at hc0 hmm
        rw [hts] at hc1 hg hmm
        subst ha0
        clear hs hts hkl
        have HG := Hid.mk hg
        clear hg
        by_cases hlab : 1 ≤ s.size ∧ s.size ≤ 63
        · have HCh := Hid.mk (childX_yes s hlab.1 hlab.2)
          have HOk := Hid.mk (childX_ok s hlab.1 hlab.2)
          obtain ⟨N, hNm⟩ : ∃ N, nm (s.data.toList :: exX) = N := ⟨_, rfl⟩
          have HCm : Hid (∀ j (hj : j < rs.length) w, Calls Tryz.prog 17 #[.string (nm rs[j].1), .string N] w fun e w' => e = .returned (.int .i64 (cmpN rs[j].1 (s.data.toList :: exX))) ∧ Below w.heap.size w w') := fun j hj w => by
            have := compare_yes rs[j].1 (s.data.toList :: exX) (hcr.out.nms _ (List.getElem_mem _)) HOk.out w
            rwa [hNm] at this
          have HEq : Hid (∀ j (hj : j < rs.length) w, Calls Tryz.prog 7 #[.string (nm rs[j].1), .string N] w fun e w' => e = .returned (.bool (eqB rs[j].1 (s.data.toList :: exX))) ∧ Below w.heap.size w w') := fun j hj w => by
            have := equal_yes rs[j].1 (s.data.toList :: exX) (hcr.out.nms _ (List.getElem_mem _)) HOk.out w
            rwa [hNm] at this
          rw [hNm] at HCh
          have HNm := Hid.mk hNm
          have H41 : Hid (∀ u ∈ ns, u.oneCell' = true) := by rw [HNs.out]; exact nmsV_one _
          have H51 : Hid (∀ u ∈ ds, u.oneCell' = true) := HTs.out.one'
          clear hNm
          obtain ⟨p, hp⟩ : ∃ p, ts.length = p := ⟨_, rfl⟩
          have HP := Hid.mk hp
          rw [hp] at hc1 hmm
          clear hp hlab
          have hpm : p ≤ maxLen := hmm.2
          clear hmm
          unfold maxLen at hpm
          go_wp2_with fail
          refine (HCh.out _).mono ?_
          rintro e u1 ⟨rfl, hb1⟩
          have hq1 : u1.cell? ⟨b, off + k * 2 + 1, none⟩ = _ := (hb1.cell (p := ⟨b, off + (k * 2 + 1), none⟩) hb).trans hc1
          have hbu : b < u1.heap.size := Nat.lt_of_lt_of_le hb hb1.size
          replace HG := Hid.mk (HG.out.below hb1)
          clear hc0 hc1 HCh
          go_wp2_with fail
          go_loopw [9, 10] (fun ov kv w2 => ∃ (i : Nat) (os : List Int), i ≤ p ∧ kv = .int .i64 (i : Int) ∧ w2.ownsRow u1.heap.size 3 1 ov os.length (intsI os) ∧ Hid (OwnT os) ∧ Below u1.heap.size u1 w2) (fun _ kv _ => p - (intOf kv).toNat)
          case atStart => exact ⟨0, [], Nat.zero_le _, rfl, World.ownsRow_nil .., OwnT.nil, Below.refl _ _⟩
          case round =>
            obtain ⟨i, os, hi, rfl, hrow, HO, hb2⟩ := hrel
            obtain ⟨oq, oc, hov⟩ := row_formV hrow
            subst hov
            have hq2 := (hb2.cell (p := ⟨b, off + k * 2 + 1, none⟩) hbu).trans hq1
            have hol := HO.out.len
            by_cases c3 : i < p
            · have i3 : (i : Int) < (p : Int) := by omega
              have hmt : i < ts.length := by rw [HP.out]; exact c3
              obtain ⟨b', off', hq', hb', hct⟩ := HG.out.at i hmt
              subst hq'
              have hq3 := (hb2.cell (p := ⟨b', off' + i, none⟩) hb').trans hct
              clear hct
              generalize ts[i] = t at hq3
              clear hmt
              by_cases a1 : 2 < t
              · have a1' : decide (2 < t) = true := decide_eq_true a1
                by_cases a2 : t < 300
                · have a2' : decide (t < 300) = true := decide_eq_true a2
                  by_cases a3 : t = 6
                  · have a3' : (t != 6) = false := by simpa using a3
                    clear a3
                    go_wp2
                    go_roundw
                    case rel => exact ⟨i + 1, os, by omega, by go_num, hrow, HO, hb2⟩
                    case measure => simp [intOf]; omega
                  · have a3' : (t != 6) = true := by simpa using a3
                    by_cases a4 : t = 39
                    · have a4' : (t != 39) = false := by simpa using a4
                      clear a4
                      go_wp2
                      go_roundw
                      case rel => exact ⟨i + 1, os, by omega, by go_num, hrow, HO, hb2⟩
                      case measure => simp [intOf]; omega
                    · have a4' : (t != 39) = true := by simpa using a4
                      rcases row_capV hrow with ⟨rfl, h0, rfl⟩ | ⟨go, rfl, hoc, hgo, hgo2, hcl⟩
                      · have e0 : ((os.length : Int) == 0) = true := by rw [h0]; rfl
                        have HOs : Hid (os = []) := List.eq_nil_of_length_eq_zero h0
                        clear h0
                        have HO' : Hid (OwnT (os ++ [t])) := HO.out.snoc t ⟨a1, a2, a3, a4⟩ (Or.inl HOs.out)
                        go_wp2_with (at_builtin; refine wpList_append_vs 32 3 (.int .i64 0) 8 infoIn rfl Tryz.underlying32 (by decide) rfl _ _ rfl u1.heap.size _ _ _ _ [.int .i64 t] rfl (hrow.alloc _) rfl (VSrc.one _ _ _) (by simp [Value.oneCell']) (by first | omega | (simp; done)) (by simp) (by have := hb2.size; simp; omega) ?_; intro v1 w1 hown1 hbw1)
                        have HRw : Hid (w1.ownsRow u1.heap.size 3 1 v1 (os ++ [t]).length (intsI (os ++ [t]))) := by rw [intsI_app, List.length_append]; exact hown1
                        have HBw : Hid (Below u1.heap.size u1 w1) := bel3 hb2 hbw1 (Nat.le_refl _)
                        clear hown1 hbw1
                        go_roundw
                        case rel => exact ⟨i + 1, os ++ [t], by omega, by go_num, HRw.out, HO', HBw.out⟩
                        case measure => simp [intOf]; omega
                      · rcases Nat.eq_zero_or_pos os.length with h0 | h0
                        · have e0 : ((os.length : Int) == 0) = true := by rw [h0]; rfl
                          have HOs : Hid (os = []) := List.eq_nil_of_length_eq_zero h0
                          clear h0
                          have HO' : Hid (OwnT (os ++ [t])) := HO.out.snoc t ⟨a1, a2, a3, a4⟩ (Or.inl HOs.out)
                          go_wp2_with (at_builtin; refine wpList_append_vs 32 3 (.int .i64 0) 8 infoIn rfl Tryz.underlying32 (by decide) rfl _ _ rfl u1.heap.size _ _ _ _ [.int .i64 t] rfl (hrow.alloc _) rfl (VSrc.one _ _ _) (by simp [Value.oneCell']) (by first | omega | (simp; done)) (by simp) (by have := hb2.size; simp; omega) ?_; intro v1 w1 hown1 hbw1)
                          have HRw : Hid (w1.ownsRow u1.heap.size 3 1 v1 (os ++ [t]).length (intsI (os ++ [t]))) := by rw [intsI_app, List.length_append]; exact hown1
                          have HBw : Hid (Below u1.heap.size u1 w1) := bel3 hb2 hbw1 (Nat.le_refl _)
                          clear hown1 hbw1
                          go_roundw
                          case rel => exact ⟨i + 1, os ++ [t], by omega, by go_num, HRw.out, HO', HBw.out⟩
                          case measure => simp [intOf]; omega
                        · obtain ⟨z, hz⟩ : ∃ z, os.length - 1 = z := ⟨_, rfl⟩
                          have hzl : z < os.length := by omega
                          have e0 : ((os.length : Int) == 0) = false := by rw [beq_eq_false_iff_ne]; omega
                          have e1 : IntKind.i64.wrap ((os.length : Int) - 1) = (z : Int) := by rw [IntKind.wrap_i64]; omega
                          have e2 : ((os.length : Int) - 1) = (z : Int) := by omega
                          have hcz := hcl z (.int .i64 os[z]) (by simp [intsI, hzl])
                          have HLa : Hid (os.getLast? = some os[z]) := by
                            rw [Hid, List.getLast?_eq_getElem?]
                            rw [hz, List.getElem?_eq_getElem hzl]
                          obtain ⟨y, hy⟩ : ∃ y, os[z] = y := ⟨_, rfl⟩
                          rw [hy] at hcz HLa
                          have i5 : (z : Int) < (os.length : Int) := by omega
                          clear hy hz hcl
                          by_cases a6 : y < t
                          · have a6' : decide (y < t) = true := decide_eq_true a6
                            have HO' : Hid (OwnT (os ++ [t])) := HO.out.snoc t ⟨a1, a2, a3, a4⟩ (Or.inr ⟨y, HLa.out, a6⟩)
                            go_wp2_with (at_builtin; refine wpList_append_vs 32 3 (.int .i64 0) 8 infoIn rfl Tryz.underlying32 (by decide) rfl _ _ rfl u1.heap.size _ _ _ _ [.int .i64 t] rfl (hrow.alloc _) rfl (VSrc.one _ _ _) (by simp [Value.oneCell']) (by first | omega | (simp; done)) (by simp) (by have := hb2.size; simp; omega) ?_; intro v1 w1 hown1 hbw1)
                            have HRw : Hid (w1.ownsRow u1.heap.size 3 1 v1 (os ++ [t]).length (intsI (os ++ [t]))) := by rw [intsI_app, List.length_append]; exact hown1
                            have HBw : Hid (Below u1.heap.size u1 w1) := bel3 hb2 hbw1 (Nat.le_refl _)
                            clear hown1 hbw1
                            go_roundw
                            case rel => exact ⟨i + 1, os ++ [t], by omega, by go_num, HRw.out, HO', HBw.out⟩
                            case measure => simp [intOf]; omega
                          · have a6' : decide (y < t) = false := decide_eq_false a6
                            go_wp2
                            go_roundw
                            case rel => exact ⟨i + 1, os, by omega, by go_num, hrow, HO, hb2⟩
                            case measure => simp [intOf]; omega
                · have a2' : decide (t < 300) = false := decide_eq_false a2
                  go_wp2
                  go_roundw
                  case rel => exact ⟨i + 1, os, by omega, by go_num, hrow, HO, hb2⟩
                  case measure => simp [intOf]; omega
              · have a1' : decide (2 < t) = false := decide_eq_false a1
                go_wp2
                go_roundw
                case rel => exact ⟨i + 1, os, by omega, by go_num, hrow, HO, hb2⟩
                case measure => simp [intOf]; omega
            · obtain rfl : i = p := by omega
              have HIn := Hid.mk (ints_at_row hrow)
              have i3 : ¬ (i : Int) < (i : Int) := by omega
              obtain ⟨U, rfl⟩ : ∃ U, U = wr := ⟨_, rfl⟩
              have HB0 := Hid.mk (bthen hbl (bthen hb1 hb2))
              replace R4 := Hid.mk ((R4.out.blk hb1).blk hb2)
              replace R5 := Hid.mk ((R5.out.blk hb1).blk hb2)
              replace HTs := Hid.mk ((HTs.out.blk hb1).blk hb2)
              replace KN := Hid.mk ((KN.out.blk hb1).blk hb2)
              replace KT := Hid.mk ((KT.out.blk hb1).blk hb2)
              clear hq1 hrow hb1 hb2 HG hbl hbu hb hg4 hg5
              go_wp2_with fail
              clear hq2
              go_loopw [12] (fun av w3 => ∃ m : Nat, m ≤ r ∧ av = .int .i64 (m : Int) ∧ Hid (∀ j (hj : j < rs.length), j < m → cmpN rs[j].1 (s.data.toList :: exX) < 0) ∧ Below U.heap.size U w3) (fun av _ => r - (intOf av).toNat)
              case atStart => exact ⟨0, Nat.zero_le _, rfl, fun j _ h => absurd h (Nat.not_lt_zero _), Below.refl _ _⟩
              case round =>
                obtain ⟨m, hm3, rfl, HLt, hb3⟩ := hrel
                by_cases c4 : m < r
                · have i4 : (m : Int) < (r : Int) := by omega
                  have hmr : m < rs.length := by rw [HR.out]; exact c4
                  have hcN : wr.cell? ⟨g4, m, none⟩ = some (.string (nm rs[m].1)) := (R4.out.blk hb3).2 m _ (by rw [HNs.out]; simp [nmsV, hmr])
                  have HC := Hid.mk (HCm.out m hmr)
                  have HE := Hid.mk (HEq.out m hmr)
                  have hgw : g4 < wr.heap.size := (R4.out.blk hb3).1
                  obtain ⟨cv, hcv⟩ : ∃ cv, cmpN rs[m].1 (s.data.toList :: exX) = cv := ⟨_, rfl⟩
                  obtain ⟨ev, hev⟩ : ∃ ev, eqB rs[m].1 (s.data.toList :: exX) = ev := ⟨_, rfl⟩
                  obtain ⟨nn, hnn⟩ : ∃ nn, nm rs[m].1 = nn := ⟨_, rfl⟩
                  rw [hnn] at hcN HC HE
                  rw [hcv] at HC
                  rw [hev] at HE
                  have HCv := Hid.mk hcv
                  have HEv := Hid.mk hev
                  clear hcv hev hnn
                  go_wp2_with fail
                  refine (HC.out _).mono ?_
                  rintro e u4 ⟨rfl, hb4⟩
                  have hcN4 := (hb4.cell (p := ⟨g4, m, none⟩) hgw).trans hcN
                  clear hcN
                  by_cases c5 : cv < 0
                  · have c5' : decide (cv < 0) = true := decide_eq_true c5
                    have HLt' : Hid (∀ j (hj : j < rs.length), j < m + 1 → cmpN rs[j].1 (s.data.toList :: exX) < 0) := fun j hj h => by
                      rcases Nat.lt_succ_iff_lt_or_eq.1 h with h1 | rfl
                      · exact HLt.out j hj h1
                      · rw [HCv.out]; exact c5
                    go_wp2
                    exact ⟨⟨m + 1, by omega, by go_num, HLt', bthen hb3 hb4⟩, by simp [intOf]; omega⟩
                  · have c5' : decide (cv < 0) = false := decide_eq_false c5
                    go_wp2_with fail
                    refine (HE.out _).mono ?_
                    rintro e V ⟨rfl, hb5⟩
                    have B := bthen hb3 (bthen hb4 hb5)
                    have HB := Hid.mk (bthen HB0.out B)
                    cases ev with
                    | true =>
                      go_wp2
                      go_roundw
                      case rel => exact ⟨k + 1, rs, by omega, by go_num, hcr, by rw [HR.out]; omega, KN.out.blk B, KT.out.blk B, HB.out⟩
                      case measure => simp [intOf]; omega
                    | false =>
                      replace R4 := Hid.mk (R4.out.blk B)
                      replace R5 := Hid.mk (R5.out.blk B)
                      replace HTs := Hid.mk (HTs.out.blk B)
                      replace HIn := Hid.mk (HIn.out.below B)
                      have HGt : Hid (∀ hj : m < rs.length, 0 < cmpN rs[m].1 (s.data.toList :: exX)) := fun hj => past_of (by rw [HCv.out]; omega) HEv.out
                      clear B hb3 hb4 hb5 hcN4 KN KT
                      have M0 : True := trivial
                      go_wp2_with (first
                        | (have hck := M5; clear hck; at_builtin; refine wpList_append_vs 25 32 (.slice none 0 0) 24 infoTl rfl Tryz.underlying25 (by decide) rfl _ _ rfl x3.heap.size _ _ _ _ (ds.drop m) rfl ho5 rfl (R5'.out.drop m r HD.out _ (Nat.le_refl _) (bel3 hx4 hx5 (Nat.le_refl _))) (fun u hu => H51.out u (List.mem_of_mem_drop hu)) (by have := HA.out; have := HD.out; (try simp only [List.length_take, List.length_drop, List.length_append, List.length_cons, List.length_nil]); omega) (by have := HA.out; have := HD.out; (try simp only [List.length_take, List.length_drop, List.length_append, List.length_cons, List.length_nil]); omega) (by have := hx4.size; have := hx5.size; simp at this; omega) ?_; intro y3 x6 ho6 hx6; have M6 : True := trivial)
                        | (have hck := M4; clear hck; at_builtin; refine wpList_append_vs 25 32 (.slice none 0 0) 24 infoTl rfl Tryz.underlying25 (by decide) rfl _ _ rfl x3.heap.size _ _ _ _ ([.slice oq os.length oc]) rfl (ho4.alloc _) rfl (VSrc.one _ _ _) (by simp [Value.oneCell']) (by have := HA.out; have := HD.out; (try simp only [List.length_take, List.length_drop, List.length_append, List.length_cons, List.length_nil]); omega) (by have := HA.out; have := HD.out; (try simp only [List.length_take, List.length_drop, List.length_append, List.length_cons, List.length_nil]); omega) (by have := hx4.size; simp; omega) ?_; intro y2 x5 ho5 hx5; have M5 : True := trivial)
                        | (have hck := M3; clear hck; at_builtin; refine wpList_append_vs 25 32 (.slice none 0 0) 24 infoTl rfl Tryz.underlying25 (by decide) rfl _ _ rfl x3.heap.size _ _ _ _ (ds.take m) rfl (World.ownsRow_nil ..) rfl (R5'.out.take m (by have := HD.out; omega) _) (fun u hu => H51.out u (List.mem_of_mem_take hu)) (by have := HA.out; have := HD.out; (try simp only [List.length_take, List.length_drop, List.length_append, List.length_cons, List.length_nil]); omega) (by have := HA.out; have := HD.out; (try simp only [List.length_take, List.length_drop, List.length_append, List.length_cons, List.length_nil]); omega) (Nat.le_refl _) ?_; intro y1 x4 ho4 hx4; have M4 : True := trivial)
                        | (have hck := M2; clear hck; at_builtin; refine wpList_append_vs 24 9 (.string ⟨#[]⟩) 16 info9 rfl Tryz.underlying24 (by decide) rfl _ _ rfl V.heap.size _ _ _ _ (ns.drop m) rfl ho2 rfl (R4.out.drop m r HA.out _ (Nat.le_refl _) (bel3 hx1 hx2 (Nat.le_refl _))) (fun u hu => H41.out u (List.mem_of_mem_drop hu)) (by have := HA.out; have := HD.out; (try simp only [List.length_take, List.length_drop, List.length_append, List.length_cons, List.length_nil]); omega) (by have := HA.out; have := HD.out; (try simp only [List.length_take, List.length_drop, List.length_append, List.length_cons, List.length_nil]); omega) (by have := hx1.size; have := hx2.size; simp at this; omega) ?_; intro v3 x3 ho3 hx3; have R5' := Hid.mk (R5.out.blk (((bel3 hx1 hx2 (Nat.le_refl _)).trans hx3))); have M3 : True := trivial)
                        | (have hck := M1; clear hck; at_builtin; refine wpList_append_vs 24 9 (.string ⟨#[]⟩) 16 info9 rfl Tryz.underlying24 (by decide) rfl _ _ rfl V.heap.size _ _ _ _ ([.string N]) rfl (ho1.alloc _) rfl (VSrc.one _ _ _) (by simp [Value.oneCell']) (by have := HA.out; have := HD.out; (try simp only [List.length_take, List.length_drop, List.length_append, List.length_cons, List.length_nil]); omega) (by have := HA.out; have := HD.out; (try simp only [List.length_take, List.length_drop, List.length_append, List.length_cons, List.length_nil]); omega) (by have := hx1.size; simp; omega) ?_; intro v2 x2 ho2 hx2; have M2 : True := trivial)
                        | (have hck := M0; clear hck; at_builtin; refine wpList_append_vs 24 9 (.string ⟨#[]⟩) 16 info9 rfl Tryz.underlying24 (by decide) rfl _ _ rfl V.heap.size _ _ _ _ (ns.take m) rfl (World.ownsRow_nil ..) rfl (R4.out.take m (by have := HA.out; omega) _) (fun u hu => H41.out u (List.mem_of_mem_take hu)) (by have := HA.out; have := HD.out; (try simp only [List.length_take, List.length_drop, List.length_append, List.length_cons, List.length_nil]); omega) (by have := HA.out; have := HD.out; (try simp only [List.length_take, List.length_drop, List.length_append, List.length_cons, List.length_nil]); omega) (Nat.le_refl _) ?_; intro v1 x1 ho1 hx1; have M1 : True := trivial))
                      have B1 : Below V.heap.size V x3 := (bel3 hx1 hx2 (Nat.le_refl _)).trans hx3
                      have B2 : Below x3.heap.size x3 x6 := (bel3 hx4 hx5 (Nat.le_refl _)).trans hx6
                      have B3 : Below V.heap.size V x6 := B1.trans (B2.mono B1.size)
                      have FN : Hid (NmsAt x6 v3 ((insR rs m (s.data.toList :: exX) os).map Prod.fst)) := (fin_nms (b := V.heap.size) HNs.out (by rw [HNm.out]; exact ho3)).blk B2
                      have FT : Hid (TysAt x6 y3 ((insR rs m (s.data.toList :: exX) os).map Prod.snd)) := fin_tys (b := x3.heap.size) (HTs.out.blk B3) (HIn.out.below B3) ho6
                      have FC : Hid (CrOk (insR rs m (s.data.toList :: exX) os)) := hcr.out.ins _ HOk.out os HO.out m (by rw [HR.out]; exact hm3) (fun j hj => HLt.out j (by rw [HR.out]; omega) hj) HGt.out
                      have FL : Hid ((insR rs m (s.data.toList :: exX) os).length ≤ k + 1 + 1) := by rw [Hid, insR_len, HR.out]; omega
                      have FB : Hid (Below W.heap.size W x6) := bthen HB.out B3
                      clear hx1 hx2 hx3 hx4 hx5 hx6 ho1 ho2 ho3 ho4 ho5 ho6 B1 B2 B3 R4 R5 R5'
                      go_wp2
                      go_roundw
                      case rel => exact ⟨k + 1, insR rs m (s.data.toList :: exX) os, by omega, by go_num, FC, FL.out, FN.out, FT.out, FB.out⟩
                      case measure => simp [intOf]; omega
                · obtain rfl : m = r := by omega
                  have i4 : ¬ (m : Int) < (m : Int) := by omega
                  obtain ⟨V, rfl⟩ : ∃ V, V = wr := ⟨_, rfl⟩
                  have HB := Hid.mk (bthen HB0.out hb3)
                  replace R4 := Hid.mk (R4.out.blk hb3)
                  replace R5 := Hid.mk (R5.out.blk hb3)
                  replace HTs := Hid.mk (HTs.out.blk hb3)
                  replace HIn := Hid.mk (HIn.out.below hb3)
                  have HGt : Hid (∀ hj : m < rs.length, 0 < cmpN rs[m].1 (s.data.toList :: exX)) := fun hj => absurd hj (by rw [HR.out]; omega)
                  clear hb3 KN KT
                  by_cases c6 : cap4 = m
                  · by_cases c7 : cap5 = m
                    · have c6s := c6.symm
                      subst c6s
                      have c7s := c7.symm
                      subst c7s
                      have M0 : True := trivial
                      go_wp2_with (first
                        | (have hck := M5; clear hck; at_builtin; refine wpList_append_vs 25 32 (.slice none 0 0) 24 infoTl rfl Tryz.underlying25 (by decide) rfl _ _ rfl x3.heap.size _ _ _ _ (ds.drop m) rfl ho5 rfl (by rw [List.drop_of_length_le (by rw [HD.out]; exact Nat.le_refl _)]; exact .inr ⟨_, _, _, rfl, fun j u hj => by simp at hj⟩) (fun u hu => H51.out u (List.mem_of_mem_drop hu)) (by have := HA.out; have := HD.out; (try simp only [List.length_take, List.length_drop, List.length_append, List.length_cons, List.length_nil]); omega) (by have := HA.out; have := HD.out; (try simp only [List.length_take, List.length_drop, List.length_append, List.length_cons, List.length_nil]); omega) (by have := hx4.size; have := hx5.size; simp at this; omega) ?_; intro y3 x6 ho6 hx6; have M6 : True := trivial)
                        | (have hck := M4; clear hck; at_builtin; refine wpList_append_vs 25 32 (.slice none 0 0) 24 infoTl rfl Tryz.underlying25 (by decide) rfl _ _ rfl x3.heap.size _ _ _ _ ([.slice oq os.length oc]) rfl (ho4.alloc _) rfl (VSrc.one _ _ _) (by simp [Value.oneCell']) (by have := HA.out; have := HD.out; (try simp only [List.length_take, List.length_drop, List.length_append, List.length_cons, List.length_nil]); omega) (by have := HA.out; have := HD.out; (try simp only [List.length_take, List.length_drop, List.length_append, List.length_cons, List.length_nil]); omega) (by have := hx4.size; simp; omega) ?_; intro y2 x5 ho5 hx5; have M5 : True := trivial)
                        | (have hck := M3; clear hck; at_builtin; refine wpList_append_vs 25 32 (.slice none 0 0) 24 infoTl rfl Tryz.underlying25 (by decide) rfl _ _ rfl x3.heap.size _ _ _ _ (ds.take m) rfl (World.ownsRow_nil ..) rfl (R5'.out.take m (by have := HD.out; omega) _) (fun u hu => H51.out u (List.mem_of_mem_take hu)) (by have := HA.out; have := HD.out; (try simp only [List.length_take, List.length_drop, List.length_append, List.length_cons, List.length_nil]); omega) (by have := HA.out; have := HD.out; (try simp only [List.length_take, List.length_drop, List.length_append, List.length_cons, List.length_nil]); omega) (Nat.le_refl _) ?_; intro y1 x4 ho4 hx4; have M4 : True := trivial)
                        | (have hck := M2; clear hck; at_builtin; refine wpList_append_vs 24 9 (.string ⟨#[]⟩) 16 info9 rfl Tryz.underlying24 (by decide) rfl _ _ rfl V.heap.size _ _ _ _ (ns.drop m) rfl ho2 rfl (by rw [List.drop_of_length_le (by rw [HA.out]; exact Nat.le_refl _)]; exact .inr ⟨_, _, _, rfl, fun j u hj => by simp at hj⟩) (fun u hu => H41.out u (List.mem_of_mem_drop hu)) (by have := HA.out; have := HD.out; (try simp only [List.length_take, List.length_drop, List.length_append, List.length_cons, List.length_nil]); omega) (by have := HA.out; have := HD.out; (try simp only [List.length_take, List.length_drop, List.length_append, List.length_cons, List.length_nil]); omega) (by have := hx1.size; have := hx2.size; simp at this; omega) ?_; intro v3 x3 ho3 hx3; have R5' := Hid.mk (R5.out.blk (((bel3 hx1 hx2 (Nat.le_refl _)).trans hx3))); have M3 : True := trivial)
                        | (have hck := M1; clear hck; at_builtin; refine wpList_append_vs 24 9 (.string ⟨#[]⟩) 16 info9 rfl Tryz.underlying24 (by decide) rfl _ _ rfl V.heap.size _ _ _ _ ([.string N]) rfl (ho1.alloc _) rfl (VSrc.one _ _ _) (by simp [Value.oneCell']) (by have := HA.out; have := HD.out; (try simp only [List.length_take, List.length_drop, List.length_append, List.length_cons, List.length_nil]); omega) (by have := HA.out; have := HD.out; (try simp only [List.length_take, List.length_drop, List.length_append, List.length_cons, List.length_nil]); omega) (by have := hx1.size; simp; omega) ?_; intro v2 x2 ho2 hx2; have M2 : True := trivial)
                        | (have hck := M0; clear hck; at_builtin; refine wpList_append_vs 24 9 (.string ⟨#[]⟩) 16 info9 rfl Tryz.underlying24 (by decide) rfl _ _ rfl V.heap.size _ _ _ _ (ns.take m) rfl (World.ownsRow_nil ..) rfl (R4.out.take m (by have := HA.out; omega) _) (fun u hu => H41.out u (List.mem_of_mem_take hu)) (by have := HA.out; have := HD.out; (try simp only [List.length_take, List.length_drop, List.length_append, List.length_cons, List.length_nil]); omega) (by have := HA.out; have := HD.out; (try simp only [List.length_take, List.length_drop, List.length_append, List.length_cons, List.length_nil]); omega) (Nat.le_refl _) ?_; intro v1 x1 ho1 hx1; have M1 : True := trivial))
                      have B1 : Below V.heap.size V x3 := (bel3 hx1 hx2 (Nat.le_refl _)).trans hx3
                      have B2 : Below x3.heap.size x3 x6 := (bel3 hx4 hx5 (Nat.le_refl _)).trans hx6
                      have B3 : Below V.heap.size V x6 := B1.trans (B2.mono B1.size)
                      have FN : Hid (NmsAt x6 v3 ((insR rs m (s.data.toList :: exX) os).map Prod.fst)) := (fin_nms (b := V.heap.size) HNs.out (by rw [HNm.out]; exact ho3)).blk B2
                      have FT : Hid (TysAt x6 y3 ((insR rs m (s.data.toList :: exX) os).map Prod.snd)) := fin_tys (b := x3.heap.size) (HTs.out.blk B3) (HIn.out.below B3) ho6
                      have FC : Hid (CrOk (insR rs m (s.data.toList :: exX) os)) := hcr.out.ins _ HOk.out os HO.out m (by rw [HR.out]; exact hm3) (fun j hj => HLt.out j (by rw [HR.out]; omega) hj) HGt.out
                      have FL : Hid ((insR rs m (s.data.toList :: exX) os).length ≤ k + 1 + 1) := by rw [Hid, insR_len, HR.out]; omega
                      have FB : Hid (Below W.heap.size W x6) := bthen HB.out B3
                      clear hx1 hx2 hx3 hx4 hx5 hx6 ho1 ho2 ho3 ho4 ho5 ho6 B1 B2 B3 R4 R5 R5'
                      go_wp2
                      go_roundw
                      case rel => exact ⟨k + 1, insR rs m (s.data.toList :: exX) os, by omega, by go_num, FC, FL.out, FN.out, FT.out, FB.out⟩
                      case measure => simp [intOf]; omega
                    · have c7' : m < cap5 := by omega
                      have c6s := c6.symm
                      subst c6s
                      have M0 : True := trivial
                      go_wp2_with (first
                        | (have hck := M5; clear hck; at_builtin; refine wpList_append_vs 25 32 (.slice none 0 0) 24 infoTl rfl Tryz.underlying25 (by decide) rfl _ _ rfl x3.heap.size _ _ _ _ (ds.drop m) rfl ho5 rfl (by rw [List.drop_of_length_le (by rw [HD.out]; exact Nat.le_refl _)]; exact .inr ⟨_, _, _, rfl, fun j u hj => by simp at hj⟩) (fun u hu => H51.out u (List.mem_of_mem_drop hu)) (by have := HA.out; have := HD.out; (try simp only [List.length_take, List.length_drop, List.length_append, List.length_cons, List.length_nil]); omega) (by have := HA.out; have := HD.out; (try simp only [List.length_take, List.length_drop, List.length_append, List.length_cons, List.length_nil]); omega) (by have := hx4.size; have := hx5.size; simp at this; omega) ?_; intro y3 x6 ho6 hx6; have M6 : True := trivial)
                        | (have hck := M4; clear hck; at_builtin; refine wpList_append_vs 25 32 (.slice none 0 0) 24 infoTl rfl Tryz.underlying25 (by decide) rfl _ _ rfl x3.heap.size _ _ _ _ ([.slice oq os.length oc]) rfl (ho4.alloc _) rfl (VSrc.one _ _ _) (by simp [Value.oneCell']) (by have := HA.out; have := HD.out; (try simp only [List.length_take, List.length_drop, List.length_append, List.length_cons, List.length_nil]); omega) (by have := HA.out; have := HD.out; (try simp only [List.length_take, List.length_drop, List.length_append, List.length_cons, List.length_nil]); omega) (by have := hx4.size; simp; omega) ?_; intro y2 x5 ho5 hx5; have M5 : True := trivial)
                        | (have hck := M3; clear hck; at_builtin; refine wpList_append_vs 25 32 (.slice none 0 0) 24 infoTl rfl Tryz.underlying25 (by decide) rfl _ _ rfl x3.heap.size _ _ _ _ (ds.take m) rfl (World.ownsRow_nil ..) rfl (R5'.out.take m (by have := HD.out; omega) _) (fun u hu => H51.out u (List.mem_of_mem_take hu)) (by have := HA.out; have := HD.out; (try simp only [List.length_take, List.length_drop, List.length_append, List.length_cons, List.length_nil]); omega) (by have := HA.out; have := HD.out; (try simp only [List.length_take, List.length_drop, List.length_append, List.length_cons, List.length_nil]); omega) (Nat.le_refl _) ?_; intro y1 x4 ho4 hx4; have M4 : True := trivial)
                        | (have hck := M2; clear hck; at_builtin; refine wpList_append_vs 24 9 (.string ⟨#[]⟩) 16 info9 rfl Tryz.underlying24 (by decide) rfl _ _ rfl V.heap.size _ _ _ _ (ns.drop m) rfl ho2 rfl (by rw [List.drop_of_length_le (by rw [HA.out]; exact Nat.le_refl _)]; exact .inr ⟨_, _, _, rfl, fun j u hj => by simp at hj⟩) (fun u hu => H41.out u (List.mem_of_mem_drop hu)) (by have := HA.out; have := HD.out; (try simp only [List.length_take, List.length_drop, List.length_append, List.length_cons, List.length_nil]); omega) (by have := HA.out; have := HD.out; (try simp only [List.length_take, List.length_drop, List.length_append, List.length_cons, List.length_nil]); omega) (by have := hx1.size; have := hx2.size; simp at this; omega) ?_; intro v3 x3 ho3 hx3; have R5' := Hid.mk (R5.out.blk (((bel3 hx1 hx2 (Nat.le_refl _)).trans hx3))); have M3 : True := trivial)
                        | (have hck := M1; clear hck; at_builtin; refine wpList_append_vs 24 9 (.string ⟨#[]⟩) 16 info9 rfl Tryz.underlying24 (by decide) rfl _ _ rfl V.heap.size _ _ _ _ ([.string N]) rfl (ho1.alloc _) rfl (VSrc.one _ _ _) (by simp [Value.oneCell']) (by have := HA.out; have := HD.out; (try simp only [List.length_take, List.length_drop, List.length_append, List.length_cons, List.length_nil]); omega) (by have := HA.out; have := HD.out; (try simp only [List.length_take, List.length_drop, List.length_append, List.length_cons, List.length_nil]); omega) (by have := hx1.size; simp; omega) ?_; intro v2 x2 ho2 hx2; have M2 : True := trivial)
                        | (have hck := M0; clear hck; at_builtin; refine wpList_append_vs 24 9 (.string ⟨#[]⟩) 16 info9 rfl Tryz.underlying24 (by decide) rfl _ _ rfl V.heap.size _ _ _ _ (ns.take m) rfl (World.ownsRow_nil ..) rfl (R4.out.take m (by have := HA.out; omega) _) (fun u hu => H41.out u (List.mem_of_mem_take hu)) (by have := HA.out; have := HD.out; (try simp only [List.length_take, List.length_drop, List.length_append, List.length_cons, List.length_nil]); omega) (by have := HA.out; have := HD.out; (try simp only [List.length_take, List.length_drop, List.length_append, List.length_cons, List.length_nil]); omega) (Nat.le_refl _) ?_; intro v1 x1 ho1 hx1; have M1 : True := trivial))
                      have B1 : Below V.heap.size V x3 := (bel3 hx1 hx2 (Nat.le_refl _)).trans hx3
                      have B2 : Below x3.heap.size x3 x6 := (bel3 hx4 hx5 (Nat.le_refl _)).trans hx6
                      have B3 : Below V.heap.size V x6 := B1.trans (B2.mono B1.size)
                      have FN : Hid (NmsAt x6 v3 ((insR rs m (s.data.toList :: exX) os).map Prod.fst)) := (fin_nms (b := V.heap.size) HNs.out (by rw [HNm.out]; exact ho3)).blk B2
                      have FT : Hid (TysAt x6 y3 ((insR rs m (s.data.toList :: exX) os).map Prod.snd)) := fin_tys (b := x3.heap.size) (HTs.out.blk B3) (HIn.out.below B3) ho6
                      have FC : Hid (CrOk (insR rs m (s.data.toList :: exX) os)) := hcr.out.ins _ HOk.out os HO.out m (by rw [HR.out]; exact hm3) (fun j hj => HLt.out j (by rw [HR.out]; omega) hj) HGt.out
                      have FL : Hid ((insR rs m (s.data.toList :: exX) os).length ≤ k + 1 + 1) := by rw [Hid, insR_len, HR.out]; omega
                      have FB : Hid (Below W.heap.size W x6) := bthen HB.out B3
                      clear hx1 hx2 hx3 hx4 hx5 hx6 ho1 ho2 ho3 ho4 ho5 ho6 B1 B2 B3 R4 R5 R5'
                      go_wp2
                      go_roundw
                      case rel => exact ⟨k + 1, insR rs m (s.data.toList :: exX) os, by omega, by go_num, FC, FL.out, FN.out, FT.out, FB.out⟩
                      case measure => simp [intOf]; omega
                  · have c6' : m < cap4 := by omega
                    by_cases c7 : cap5 = m
                    · have c7s := c7.symm
                      subst c7s
                      have M0 : True := trivial
                      go_wp2_with (first
                        | (have hck := M5; clear hck; at_builtin; refine wpList_append_vs 25 32 (.slice none 0 0) 24 infoTl rfl Tryz.underlying25 (by decide) rfl _ _ rfl x3.heap.size _ _ _ _ (ds.drop m) rfl ho5 rfl (by rw [List.drop_of_length_le (by rw [HD.out]; exact Nat.le_refl _)]; exact .inr ⟨_, _, _, rfl, fun j u hj => by simp at hj⟩) (fun u hu => H51.out u (List.mem_of_mem_drop hu)) (by have := HA.out; have := HD.out; (try simp only [List.length_take, List.length_drop, List.length_append, List.length_cons, List.length_nil]); omega) (by have := HA.out; have := HD.out; (try simp only [List.length_take, List.length_drop, List.length_append, List.length_cons, List.length_nil]); omega) (by have := hx4.size; have := hx5.size; simp at this; omega) ?_; intro y3 x6 ho6 hx6; have M6 : True := trivial)
                        | (have hck := M4; clear hck; at_builtin; refine wpList_append_vs 25 32 (.slice none 0 0) 24 infoTl rfl Tryz.underlying25 (by decide) rfl _ _ rfl x3.heap.size _ _ _ _ ([.slice oq os.length oc]) rfl (ho4.alloc _) rfl (VSrc.one _ _ _) (by simp [Value.oneCell']) (by have := HA.out; have := HD.out; (try simp only [List.length_take, List.length_drop, List.length_append, List.length_cons, List.length_nil]); omega) (by have := HA.out; have := HD.out; (try simp only [List.length_take, List.length_drop, List.length_append, List.length_cons, List.length_nil]); omega) (by have := hx4.size; simp; omega) ?_; intro y2 x5 ho5 hx5; have M5 : True := trivial)
                        | (have hck := M3; clear hck; at_builtin; refine wpList_append_vs 25 32 (.slice none 0 0) 24 infoTl rfl Tryz.underlying25 (by decide) rfl _ _ rfl x3.heap.size _ _ _ _ (ds.take m) rfl (World.ownsRow_nil ..) rfl (R5'.out.take m (by have := HD.out; omega) _) (fun u hu => H51.out u (List.mem_of_mem_take hu)) (by have := HA.out; have := HD.out; (try simp only [List.length_take, List.length_drop, List.length_append, List.length_cons, List.length_nil]); omega) (by have := HA.out; have := HD.out; (try simp only [List.length_take, List.length_drop, List.length_append, List.length_cons, List.length_nil]); omega) (Nat.le_refl _) ?_; intro y1 x4 ho4 hx4; have M4 : True := trivial)
                        | (have hck := M2; clear hck; at_builtin; refine wpList_append_vs 24 9 (.string ⟨#[]⟩) 16 info9 rfl Tryz.underlying24 (by decide) rfl _ _ rfl V.heap.size _ _ _ _ (ns.drop m) rfl ho2 rfl (by rw [List.drop_of_length_le (by rw [HA.out]; exact Nat.le_refl _)]; exact .inr ⟨_, _, _, rfl, fun j u hj => by simp at hj⟩) (fun u hu => H41.out u (List.mem_of_mem_drop hu)) (by have := HA.out; have := HD.out; (try simp only [List.length_take, List.length_drop, List.length_append, List.length_cons, List.length_nil]); omega) (by have := HA.out; have := HD.out; (try simp only [List.length_take, List.length_drop, List.length_append, List.length_cons, List.length_nil]); omega) (by have := hx1.size; have := hx2.size; simp at this; omega) ?_; intro v3 x3 ho3 hx3; have R5' := Hid.mk (R5.out.blk (((bel3 hx1 hx2 (Nat.le_refl _)).trans hx3))); have M3 : True := trivial)
                        | (have hck := M1; clear hck; at_builtin; refine wpList_append_vs 24 9 (.string ⟨#[]⟩) 16 info9 rfl Tryz.underlying24 (by decide) rfl _ _ rfl V.heap.size _ _ _ _ ([.string N]) rfl (ho1.alloc _) rfl (VSrc.one _ _ _) (by simp [Value.oneCell']) (by have := HA.out; have := HD.out; (try simp only [List.length_take, List.length_drop, List.length_append, List.length_cons, List.length_nil]); omega) (by have := HA.out; have := HD.out; (try simp only [List.length_take, List.length_drop, List.length_append, List.length_cons, List.length_nil]); omega) (by have := hx1.size; simp; omega) ?_; intro v2 x2 ho2 hx2; have M2 : True := trivial)
                        | (have hck := M0; clear hck; at_builtin; refine wpList_append_vs 24 9 (.string ⟨#[]⟩) 16 info9 rfl Tryz.underlying24 (by decide) rfl _ _ rfl V.heap.size _ _ _ _ (ns.take m) rfl (World.ownsRow_nil ..) rfl (R4.out.take m (by have := HA.out; omega) _) (fun u hu => H41.out u (List.mem_of_mem_take hu)) (by have := HA.out; have := HD.out; (try simp only [List.length_take, List.length_drop, List.length_append, List.length_cons, List.length_nil]); omega) (by have := HA.out; have := HD.out; (try simp only [List.length_take, List.length_drop, List.length_append, List.length_cons, List.length_nil]); omega) (Nat.le_refl _) ?_; intro v1 x1 ho1 hx1; have M1 : True := trivial))
                      have B1 : Below V.heap.size V x3 := (bel3 hx1 hx2 (Nat.le_refl _)).trans hx3
                      have B2 : Below x3.heap.size x3 x6 := (bel3 hx4 hx5 (Nat.le_refl _)).trans hx6
                      have B3 : Below V.heap.size V x6 := B1.trans (B2.mono B1.size)
                      have FN : Hid (NmsAt x6 v3 ((insR rs m (s.data.toList :: exX) os).map Prod.fst)) := (fin_nms (b := V.heap.size) HNs.out (by rw [HNm.out]; exact ho3)).blk B2
                      have FT : Hid (TysAt x6 y3 ((insR rs m (s.data.toList :: exX) os).map Prod.snd)) := fin_tys (b := x3.heap.size) (HTs.out.blk B3) (HIn.out.below B3) ho6
                      have FC : Hid (CrOk (insR rs m (s.data.toList :: exX) os)) := hcr.out.ins _ HOk.out os HO.out m (by rw [HR.out]; exact hm3) (fun j hj => HLt.out j (by rw [HR.out]; omega) hj) HGt.out
                      have FL : Hid ((insR rs m (s.data.toList :: exX) os).length ≤ k + 1 + 1) := by rw [Hid, insR_len, HR.out]; omega
                      have FB : Hid (Below W.heap.size W x6) := bthen HB.out B3
                      clear hx1 hx2 hx3 hx4 hx5 hx6 ho1 ho2 ho3 ho4 ho5 ho6 B1 B2 B3 R4 R5 R5'
                      go_wp2
                      go_roundw
                      case rel => exact ⟨k + 1, insR rs m (s.data.toList :: exX) os, by omega, by go_num, FC, FL.out, FN.out, FT.out, FB.out⟩
                      case measure => simp [intOf]; omega
                    · have c7' : m < cap5 := by omega
                      have M0 : True := trivial
                      go_wp2_with (first
                        | (have hck := M5; clear hck; at_builtin; refine wpList_append_vs 25 32 (.slice none 0 0) 24 infoTl rfl Tryz.underlying25 (by decide) rfl _ _ rfl x3.heap.size _ _ _ _ (ds.drop m) rfl ho5 rfl (by rw [List.drop_of_length_le (by rw [HD.out]; exact Nat.le_refl _)]; exact .inr ⟨_, _, _, rfl, fun j u hj => by simp at hj⟩) (fun u hu => H51.out u (List.mem_of_mem_drop hu)) (by have := HA.out; have := HD.out; (try simp only [List.length_take, List.length_drop, List.length_append, List.length_cons, List.length_nil]); omega) (by have := HA.out; have := HD.out; (try simp only [List.length_take, List.length_drop, List.length_append, List.length_cons, List.length_nil]); omega) (by have := hx4.size; have := hx5.size; simp at this; omega) ?_; intro y3 x6 ho6 hx6; have M6 : True := trivial)
                        | (have hck := M4; clear hck; at_builtin; refine wpList_append_vs 25 32 (.slice none 0 0) 24 infoTl rfl Tryz.underlying25 (by decide) rfl _ _ rfl x3.heap.size _ _ _ _ ([.slice oq os.length oc]) rfl (ho4.alloc _) rfl (VSrc.one _ _ _) (by simp [Value.oneCell']) (by have := HA.out; have := HD.out; (try simp only [List.length_take, List.length_drop, List.length_append, List.length_cons, List.length_nil]); omega) (by have := HA.out; have := HD.out; (try simp only [List.length_take, List.length_drop, List.length_append, List.length_cons, List.length_nil]); omega) (by have := hx4.size; simp; omega) ?_; intro y2 x5 ho5 hx5; have M5 : True := trivial)
                        | (have hck := M3; clear hck; at_builtin; refine wpList_append_vs 25 32 (.slice none 0 0) 24 infoTl rfl Tryz.underlying25 (by decide) rfl _ _ rfl x3.heap.size _ _ _ _ (ds.take m) rfl (World.ownsRow_nil ..) rfl (R5'.out.take m (by have := HD.out; omega) _) (fun u hu => H51.out u (List.mem_of_mem_take hu)) (by have := HA.out; have := HD.out; (try simp only [List.length_take, List.length_drop, List.length_append, List.length_cons, List.length_nil]); omega) (by have := HA.out; have := HD.out; (try simp only [List.length_take, List.length_drop, List.length_append, List.length_cons, List.length_nil]); omega) (Nat.le_refl _) ?_; intro y1 x4 ho4 hx4; have M4 : True := trivial)
                        | (have hck := M2; clear hck; at_builtin; refine wpList_append_vs 24 9 (.string ⟨#[]⟩) 16 info9 rfl Tryz.underlying24 (by decide) rfl _ _ rfl V.heap.size _ _ _ _ (ns.drop m) rfl ho2 rfl (by rw [List.drop_of_length_le (by rw [HA.out]; exact Nat.le_refl _)]; exact .inr ⟨_, _, _, rfl, fun j u hj => by simp at hj⟩) (fun u hu => H41.out u (List.mem_of_mem_drop hu)) (by have := HA.out; have := HD.out; (try simp only [List.length_take, List.length_drop, List.length_append, List.length_cons, List.length_nil]); omega) (by have := HA.out; have := HD.out; (try simp only [List.length_take, List.length_drop, List.length_append, List.length_cons, List.length_nil]); omega) (by have := hx1.size; have := hx2.size; simp at this; omega) ?_; intro v3 x3 ho3 hx3; have R5' := Hid.mk (R5.out.blk (((bel3 hx1 hx2 (Nat.le_refl _)).trans hx3))); have M3 : True := trivial)
                        | (have hck := M1; clear hck; at_builtin; refine wpList_append_vs 24 9 (.string ⟨#[]⟩) 16 info9 rfl Tryz.underlying24 (by decide) rfl _ _ rfl V.heap.size _ _ _ _ ([.string N]) rfl (ho1.alloc _) rfl (VSrc.one _ _ _) (by simp [Value.oneCell']) (by have := HA.out; have := HD.out; (try simp only [List.length_take, List.length_drop, List.length_append, List.length_cons, List.length_nil]); omega) (by have := HA.out; have := HD.out; (try simp only [List.length_take, List.length_drop, List.length_append, List.length_cons, List.length_nil]); omega) (by have := hx1.size; simp; omega) ?_; intro v2 x2 ho2 hx2; have M2 : True := trivial)
                        | (have hck := M0; clear hck; at_builtin; refine wpList_append_vs 24 9 (.string ⟨#[]⟩) 16 info9 rfl Tryz.underlying24 (by decide) rfl _ _ rfl V.heap.size _ _ _ _ (ns.take m) rfl (World.ownsRow_nil ..) rfl (R4.out.take m (by have := HA.out; omega) _) (fun u hu => H41.out u (List.mem_of_mem_take hu)) (by have := HA.out; have := HD.out; (try simp only [List.length_take, List.length_drop, List.length_append, List.length_cons, List.length_nil]); omega) (by have := HA.out; have := HD.out; (try simp only [List.length_take, List.length_drop, List.length_append, List.length_cons, List.length_nil]); omega) (Nat.le_refl _) ?_; intro v1 x1 ho1 hx1; have M1 : True := trivial))
                      have B1 : Below V.heap.size V x3 := (bel3 hx1 hx2 (Nat.le_refl _)).trans hx3
                      have B2 : Below x3.heap.size x3 x6 := (bel3 hx4 hx5 (Nat.le_refl _)).trans hx6
                      have B3 : Below V.heap.size V x6 := B1.trans (B2.mono B1.size)
                      have FN : Hid (NmsAt x6 v3 ((insR rs m (s.data.toList :: exX) os).map Prod.fst)) := (fin_nms (b := V.heap.size) HNs.out (by rw [HNm.out]; exact ho3)).blk B2
                      have FT : Hid (TysAt x6 y3 ((insR rs m (s.data.toList :: exX) os).map Prod.snd)) := fin_tys (b := x3.heap.size) (HTs.out.blk B3) (HIn.out.below B3) ho6
                      have FC : Hid (CrOk (insR rs m (s.data.toList :: exX) os)) := hcr.out.ins _ HOk.out os HO.out m (by rw [HR.out]; exact hm3) (fun j hj => HLt.out j (by rw [HR.out]; omega) hj) HGt.out
                      have FL : Hid ((insR rs m (s.data.toList :: exX) os).length ≤ k + 1 + 1) := by rw [Hid, insR_len, HR.out]; omega
                      have FB : Hid (Below W.heap.size W x6) := bthen HB.out B3
                      clear hx1 hx2 hx3 hx4 hx5 hx6 ho1 ho2 ho3 ho4 ho5 ho6 B1 B2 B3 R4 R5 R5'
                      go_wp2
                      go_roundw
                      case rel => exact ⟨k + 1, insR rs m (s.data.toList :: exX) os, by omega, by go_num, FC, FL.out, FN.out, FT.out, FB.out⟩
                      case measure => simp [intOf]; omega
        · have HCh := Hid.mk (childX_no s hmm.1 hlab)
          go_wp2_with fail
          refine (HCh.out _).mono ?_
          rintro e u1 ⟨rfl, hb1⟩
          go_wp2
          go_roundw
          case rel => exact ⟨k + 1, rs, by omega, by go_num, hcr, by rw [HR.out]; omega, KN.out.blk hb1, KT.out.blk hb1, bthen hbl hb1⟩
          case measure => simp [intOf]; omega
      · have i1 : (k : Int) < (n : Int) := by omega
        have i2 : ¬ (k : Int) < 12 := by omega
        have i3 : decide ((k : Int) < 12) = false := decide_eq_false i2
        go_wp2
        go_ret2
        exact ⟨⟨_, _, rfl, rs, hcr, by rw [HR.out]; omega, KN, KT⟩, hbl⟩
    · have i1 : ¬ (k : Int) < (n : Int) := by omega
      have i3 : decide ((k : Int) < (n : Int)) = false := decide_eq_false i1
      go_wp2
      go_ret2
      exact ⟨⟨_, _, rfl, rs, hcr, by rw [HR.out]; omega, KN, KT⟩, hbl⟩
end Go.Proofs.YtnchoogjjnjikaaGreatDoor