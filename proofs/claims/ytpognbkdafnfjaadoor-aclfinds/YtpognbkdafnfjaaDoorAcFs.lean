/- Layer 13: AclFinds. -/
import Derived.Test.YtpognbkdafnfjaaDoorAcAp
namespace Go.Proofs.YtpognbkdafnfjaaDoor
set_option linter.unusedVariables false
set_option linter.unusedSimpArgs false
open Go.RowKit
attribute [local go_sem ↓] bin_ad bin_pf bin_adn bin_pfn app_r
attribute [local go_sem] adEqV_run pfEqV_run adNeV_run pfNeV_run pfNe_zero adEq_zero

def FzRel (B : Nat) (V : World) (N X : Nat) (D : Nd) (rs : List Rl) (q : Option Addr) (i : Value) (wr : World) : Prop :=
  ∃ m : Nat, i = .int .i64 (m : Int) ∧ m ≤ rs.length ∧ Below B V wr ∧ Tr N wr X D (look rs) ∧ ∀ a, q = some a → ∃ cur : Array Value, wr.heap[a.block]? = some (.cells cur 36 (0, 0)) ∧ rs.length * 5 ≤ cur.size
def FlRel (V : World) (n : Nat) (i : Value) (wr : World) : Prop := ∃ m : Nat, i = .int .i64 (m : Int) ∧ m ≤ n ∧ Kp V wr
set_option maxRecDepth 100000 in
set_option maxHeartbeats 8000000 in
theorem finds_walk (q : Option Addr) (cap : Nat) (rs : List Rl) (hsz : rs.length * 40 ≤ 140737488351232) (hcp : rs.length ≤ cap ∧ cap ≤ maxLen ∧ (q = none → cap = 0)) (hok : ∀ r ∈ rs, r.ok)
    (p : Option Addr) (pc : Nat) (ls : List Ad) (lsz : ls.length * 24 ≤ 140737488351232) (lcp : ls.length ≤ pc ∧ pc ≤ maxLen ∧ (p = none → pc = 0)) (lok : ∀ a ∈ ls, a.ok) (W : World) (hat : RlsAt W q rs) (lat : AdsAt W p ls) (hG : AG W) :
    Calls Tryd.prog 3 #[.slice q rs.length cap, .slice p ls.length pc] W fun e w' => e = .returned (.bool true) ∧ Below W.heap.size W w' := by
  have HE : Hid (∀ w, Below W.heap.size W w → Calls Tryd.prog 8 #[] w fun e w' => e = .returned (.bool true) ∧ Below w.heap.size w w') := fun w hb => examples_in w (hG.below hb)
  have hcp2 : cap ≤ 9223372036854775807 := by have := hcp.2.1; unfold maxLen at this; omega
  have HRR : Hid (∀ w, Kp W w → Calls Tryd.prog 10 #[.slice q rs.length cap] w fun e w' => ∃ b, e = .returned (.bool b) ∧ (b = true ↔ OkRs rs) ∧ Below w.heap.size w w') := fun w k => rr_in w q cap rs (hat.blk k) hok hcp.1 hcp2
  have HDF : Hid (∀ w, Kp W w → ∀ a : Ad, a.ok → Calls Tryd.prog 12 #[.slice q rs.length cap, adV a.v6 a.hi a.lo] w fun e w' => ∃ res, Fnd rs a res ∧ e = .returned (resV res) ∧ Below w.heap.size w w') := fun w k a ha => df_in w q cap rs a.v6 a.hi a.lo (hat.blk k) hok hcp.1 hcp2 ha.1 ha.2
  have HAP : Hid (∀ w, Kp W w → ∃ q' cap' w', (bAppR #[.slice none 0 0, .slice q rs.length cap]).run Tryd.prog w = .ok (.slice q' rs.length cap') w' ∧ OwnR w.heap.size w' q' rs cap' ∧ Below w.heap.size w w') := fun w k => rapp0 (hat.blk k) (fun h => by have := hcp.2.2 h; have := hcp.1; omega) (by omega)
  have HNW : Hid (∀ w q' cap', RlsAt w q' rs → rs.length ≤ cap' → cap' ≤ maxLen → Calls Tryd.prog 9 #[.slice q' rs.length cap'] w fun e w' => NwPost w rs e w') := fun w q' cap' h1 h2 h3 => new_in w q' cap' rs h1 hok h2 (by unfold maxLen at h3; omega)
  have HFI : Hid (∀ (N X : Nat) (D : Nd) w, OkRs rs → Tr N w X D (look rs) → ∀ a : Ad, a.ok → Calls Tryd.prog 11 #[pt X, adV a.v6 a.hi a.lo] w fun e w' => ∃ res, Fnd rs a res ∧ e = .returned (resV res) ∧ Below w.heap.size w w') := fun N X D w ho t a ha => find_in t ho.1 hok a.v6 a.hi a.lo ha.1 ha.2
  have HLA := Hid.mk lat
  have HLO := Hid.mk lok
  have hll : ls.length ≤ 9223372036854775807 := by omega
  have hrl : rs.length ≤ 9223372036854775807 := by omega
  clear hG hat hok lat lok lcp lsz hsz hcp hcp2
  go_enter Tryd.func3, Tryd.ntmps3
  go_wp2_with fail
  refine (HE.out _ (Below.refl _ _)).mono ?_
  rintro e w1 ⟨rfl, hb1⟩
  obtain ⟨q', cap', w2, happ, hown, hb2⟩ := HAP.out w1 hb1
  obtain ⟨hat2, hc2, hc2', hq2⟩ := hown.at
  have HNW2 := Hid.mk (HNW.out w2 q' cap' hat2 hc2 hc2')
  have HAT2 := Hid.mk hat2
  have HQ2 := Hid.mk hq2
  have HK1 : Hid (Kp W w1) := hb1
  have HK2 : Hid (Below w1.heap.size w1 w2) := hb2
  have hcl : cap' ≤ 9223372036854775807 := by unfold maxLen at hc2'; omega
  clear hat2 hq2 hown hb1 hb2 hc2'
  go_wp2_with fail
  clear happ
  refine HNW2.out.mono ?_
  rintro e w3 ⟨hb3, h3⟩
  have K3 : Kp W w3 := (Kp.blk HK1.out HK2.out).blk hb3
  rcases h3 with ⟨hOk, D, rfl, T3, hs3⟩ | ⟨hNo, rfl⟩
  · have HOK := Hid.mk hOk
    have HT3 := Hid.mk T3
    have HB3 := Hid.mk hb3
    clear hOk T3 hb3
    go_wp2_with fail
    refine (HRR.out _ K3).mono ?_
    rintro e w4 ⟨b, rfl, hb, hb4⟩
    obtain rfl : b = true := hb.2 HOK.out
    have K4 := K3.blk hb4
    have HT4 := Hid.mk (HT3.out.blk hb4)
    have HB4 : Hid (Below w1.heap.size w1 w4) := (HK2.out.trans (HB3.out.mono HK2.out.size)).trans (hb4.mono (Nat.le_trans HK2.out.size HB3.out.size))
    have HB24 : Hid (Below w2.heap.size w2 w4) := HB3.out.trans (hb4.mono HB3.out.size)
    have HZ : Hid (∀ a, q' = some a → a.off = 0 ∧ a.spot = none ∧ w1.heap.size ≤ a.block ∧ a.block < w2.heap.size ∧ ∃ cur : Array Value, w4.heap[a.block]? = some (.cells cur 36 (0, 0)) ∧ rs.length * 5 ≤ cur.size) := fun a ha => by
      obtain ⟨h1, h2, h3, cur, h4, h5⟩ := HQ2.out a ha
      have hlt := (Array.getElem?_eq_some_iff.1 h4).1
      exact ⟨h1, h2, h3, hlt, cur, (HB24.out.block a.block hlt).trans h4, h5⟩
    clear hb hb4 hs3
    go_wp2
    go_loopw [10] (fun i wr => FzRel w1.heap.size w1 w2.heap.size w2.heap.size D rs q' i wr) (fun i _ => rs.length + 1 - (intOf i).toNat)
    case atStart => exact ⟨0, rfl, Nat.zero_le _, HB4.out, HT4.out, fun a ha => (HZ.out a ha).2.2.2.2⟩
    case round =>
      obtain ⟨m, rfl, hm, hbr, hTr, hcr⟩ := hrel
      have HBR := Hid.mk hbr
      have HTR := Hid.mk hTr
      by_cases hlt : m < rs.length
      · have hmi : (m : Int) < (rs.length : Int) := by omega
        obtain ⟨G, off, rfl, _⟩ := HAT2.out m hlt
        obtain ⟨h0, _, hG1, hG2, _⟩ := HZ.out _ rfl
        simp only at h0 hG1 hG2
        subst h0
        obtain ⟨cur, hcur, hsc⟩ := hcr _ rfl
        simp only at hcur
        have hsome : ∀ i, i < 5 → ∃ x, wr.cell? ⟨G, m * 5 + i, none⟩ = some x := fun i hi => by
          refine ⟨cur[m * 5 + i]'(by omega), cell_of_heap hcur ?_⟩
          simp
        obtain ⟨x0, c0⟩ := hsome 0 (by omega)
        obtain ⟨x1, c1⟩ := hsome 1 (by omega)
        obtain ⟨x2, c2⟩ := hsome 2 (by omega)
        obtain ⟨x3, c3⟩ := hsome 3 (by omega)
        obtain ⟨x4, c4⟩ := hsome 4 (by omega)
        rw [Nat.add_zero] at c0
        have f0 := frozen_of hcur (m * 5)
        have f1 := frozen_of hcur (m * 5 + 1)
        have f2 := frozen_of hcur (m * 5 + 2)
        have f3 := frozen_of hcur (m * 5 + 3)
        have f4 := frozen_of hcur (m * 5 + 4)
        have HN : Hid (∀ y0 y1 y2 y3 y4 : Value, FzRel w1.heap.size w1 w2.heap.size w2.heap.size D rs (some ⟨G, 0, none⟩) (.int .i64 ((m : Int) + 1)) (((((wr.setCell ⟨G, m * 5, none⟩ y0).setCell ⟨G, m * 5 + 1, none⟩ y1).setCell ⟨G, m * 5 + 2, none⟩ y2).setCell ⟨G, m * 5 + 3, none⟩ y3).setCell ⟨G, m * 5 + 4, none⟩ y4)) := fun y0 y1 y2 y3 y4 => by
          have ho : Off G wr (((((wr.setCell ⟨G, m * 5, none⟩ y0).setCell ⟨G, m * 5 + 1, none⟩ y1).setCell ⟨G, m * 5 + 2, none⟩ y2).setCell ⟨G, m * 5 + 3, none⟩ y3).setCell ⟨G, m * 5 + 4, none⟩ y4) := ((((((Off.refl G wr).set _ _).set _ _).set _ _).set _ _).set _ _)
          refine ⟨m + 1, by go_num, by omega, HBR.out.trans (ho.bel.mono hG1), HTR.out.off ho hG2, fun a ha => ?_⟩
          cases ha
          exact ⟨_, heap_set_same (heap_set_same (heap_set_same (heap_set_same (heap_set_same hcur _ _) _ _) _ _) _ _) _ _, by simpa using hsc⟩
        clear hsome hbr hTr hcr hcur hsc
        go_wp2
        exact ⟨HN.out _ _ _ _ _, by simp [intOf]; omega⟩
      · obtain rfl : m = rs.length := by omega
        have HKW : Hid (∀ w, Kp wr w → Kp W w) := fun w k => k.bel (Kp.bel HBR.out HK1.out)
        clear hbr hTr hcr
        go_wp2
        go_loopw [11] (fun i u => FlRel wr ls.length i u) (fun i _ => ls.length + 1 - (intOf i).toNat)
        case atStart => exact ⟨0, rfl, Nat.zero_le _, Kp.refl _⟩
        case round =>
          obtain ⟨j, rfl, hj, K⟩ := hrel
          by_cases hlt : j < ls.length
          · have hji : (j : Int) < (ls.length : Int) := by omega
            obtain ⟨g, off, rfl, hg, _⟩ := HLA.out j hlt
            have HCA : Hid (∀ w, Kp W w → w.cell? ⟨g, off + j * 3, none⟩ = some (.bool ls[j].v6) ∧ w.cell? ⟨g, off + j * 3 + 1, none⟩ = some (.int .u64 (ls[j].hi : Int)) ∧ w.cell? ⟨g, off + j * 3 + 2, none⟩ = some (.int .u64 (ls[j].lo : Int))) := fun w k => by
              obtain ⟨g', off', e, _, hc⟩ := (HLA.out.blk k) j hlt
              cases e
              exact hc
            have haok := HLO.out ls[j] (List.getElem_mem hlt)
            have HF1 := Hid.mk (HFI.out _ _ _ _ HOK.out (HTR.out.blk K) ls[j] haok)
            have HD1 := Hid.mk (fun w k => HDF.out w k ls[j] haok)
            have HU := Hid.mk (fun x y => Fnd.uniq (a := ls[j]) (x := x) (y := y) HOK.out)
            clear haok
            generalize ls[j] = a at HCA HF1 HD1 HU
            obtain ⟨v, h, l⟩ := a
            simp only at HCA HF1 HD1
            have hc5 := HCA.out _ (HKW.out _ K)
            go_wp2_with fail
            refine HF1.out.mono ?_
            rintro e w6 ⟨res, hres, rfl, hb6⟩
            obtain ⟨act, ⟨pv, ph, pl⟩, pn, is⟩ := res
            have HRES := Hid.mk hres
            have K6 := K.blk hb6
            clear hres hc5 hb6
            simp only [resV, fdV]
            have K6a := K6.blk (show Below w6.heap.size w6 (w6.alloc (.cells #[.bool pv, .int .u64 (ph : Int), .int .u64 (pl : Int), .int .i64 pn] 34 (0, 0))) by go_grown)
            have hc6 := HCA.out _ (HKW.out _ K6a)
            obtain ⟨V6, hV6⟩ : ∃ V6, w6.alloc (.cells #[.bool pv, .int .u64 (ph : Int), .int .u64 (pl : Int), .int .i64 pn] 34 (0, 0)) = V6 := ⟨_, rfl⟩
            have HPC : Hid (∀ w, Kp V6 w → w.cell? ⟨w6.heap.size, 0, none⟩ = some (.bool pv) ∧ w.cell? ⟨w6.heap.size, 1, none⟩ = some (.int .u64 (ph : Int)) ∧ w.cell? ⟨w6.heap.size, 2, none⟩ = some (.int .u64 (pl : Int)) ∧ w.cell? ⟨w6.heap.size, 3, none⟩ = some (.int .i64 pn)) := fun w k => by
              have hc := pf_cells w6 pv ph pl pn
              rw [hV6] at hc
              have hb : w6.heap.size < V6.heap.size := by rw [← hV6]; simp
              exact ⟨k.cell hc.1 hb, k.cell hc.2.1 hb, k.cell hc.2.2.1 hb, k.cell hc.2.2.2 hb⟩
            rw [hV6] at K6a hc6
            go_wp2_with fail
            clear hc6
            try rw [hV6]
            clear hV6
            refine (HD1.out _ (HKW.out _ K6a)).mono ?_
            rintro e w7 ⟨res2, hres2, rfl, hb7⟩
            obtain rfl := HU.out _ _ HRES.out hres2
            simp only [resV, fdV]
            have K7 := K6a.blk hb7
            have hp7 := HPC.out _ (Kp.blk (V := V6) hb7 (show Below w7.heap.size w7 (w7.alloc (.cells #[.bool pv, .int .u64 (ph : Int), .int .u64 (pl : Int), .int .i64 pn] 34 (0, 0))) by go_grown))
            clear hres2 hb7
            go_wp2
            exact ⟨⟨j + 1, by go_num, by omega, K7.blk (by go_grown)⟩, by simp [intOf]; omega⟩
          · obtain rfl : j = ls.length := by omega
            go_wp2
            go_ret
            exact ⟨rfl, HKW.out _ K⟩
  · have HNo := Hid.mk hNo
    clear hNo
    go_wp2_with fail
    refine (HRR.out _ K3).mono ?_
    rintro e w4 ⟨b, rfl, hb, hb4⟩
    obtain rfl : b = false := by
      cases b with
      | false => rfl
      | true => exact absurd (hb.1 rfl) HNo.out
    have K4 := K3.blk hb4
    clear hb hb4
    go_wp2
    go_ret
    exact ⟨rfl, K4⟩
end Go.Proofs.YtpognbkdafnfjaaDoor
