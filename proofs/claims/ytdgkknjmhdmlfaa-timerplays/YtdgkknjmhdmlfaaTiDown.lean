/- Layer 12: container/heap's down. -/
import Derived.Test.YtdgkknjmhdmlfaaTiUp
namespace Go.Proofs.Ytdgkknjmhdmlfaa
set_option linter.unusedVariables false
open Go.RowKit

set_option maxRecDepth 100000 in
set_option maxHeartbeats 8000000 in
theorem down_in {N : Nat} {w : World} {T M : Nat} {v : Value} {xs : List En} (h : TmA N w T M v xs) (n i0 : Nat) (hi0 : i0 ≤ 1000) (hn : n ≤ xs.length) (hI : DnI xs n i0 i0) :
    Calls Try.prog 43 #[ifT T, .int .i64 (i0 : Int), .int .i64 (n : Int)] w fun r w' => ∃ (b : Bool) (ys : List En), r = .returned (.bool b) ∧ TmA N w' T M v ys ∧ Sw xs ys n ∧ Fr N w w' ∧ (b = true → Hp ys n) ∧ (b = false → UpI ys n i0) := by
  have HL : Hid (xs.length ≤ 1000) := h.len
  have H0 := Hid.mk (And.intro h (And.intro hn hI))
  clear h hn hI
  go_enter Try.func43, Try.ntmps43
  go_wp2
  go_loopw [7] (fun iv wr => ∃ (k : Nat) (ys : List En), iv = .int .i64 (k : Int) ∧ n ≤ ys.length ∧ TmA N wr T M v ys ∧ Sw xs ys n ∧ DnI ys n i0 k ∧ Fr N w wr ∧ k ≤ 1000) (fun iv _ => 1000 - (intOf iv).toNat)
  case atStart => exact ⟨i0, xs, rfl, H0.out.2.1, H0.out.1, Sw.refl _ _, H0.out.2.2, Fr.refl _ _, hi0⟩
  case round =>
    obtain ⟨k, ys, rfl, hny, hT, hS, hI, hF, hk1⟩ := hrel
    have hyl : ys.length ≤ 1000 := hT.len
    obtain ⟨j1, hj1⟩ : ∃ j, 2 * k + 1 = j := ⟨_, rfl⟩
    obtain ⟨j2, hj2⟩ : ∃ j, j1 + 1 = j := ⟨_, rfl⟩
    have zj1 : 2 * (k : Int) + 1 = (j1 : Int) := by omega
    have zj2 : (j1 : Int) + 1 = (j2 : Int) := by omega
    have hml := mLess T
    have hms := mSwap T
    by_cases h1 : n ≤ j1
    · have hz1 : (n : Int) ≤ (j1 : Int) := by omega
      have hch : ∀ c, 0 < c → c < n → par c = k → ¬ lt (A ys c) (A ys k) := fun c c0 cn cp => by unfold par at cp; omega
      have HR : Hid (TmA N wr T M v ys ∧ Sw xs ys n ∧ Fr N w wr ∧ (decide (i0 < k) = true → Hp ys n) ∧ (decide (i0 < k) = false → UpI ys n i0)) := by
        refine ⟨hT, hS, hF, fun h => hI.done hch (by have := of_decide_eq_true h; omega), fun h => ?_⟩
        obtain rfl : k = i0 := by have := of_decide_eq_false h; have := hI.d; omega
        exact hI.still hch
      have hdec : decide ((i0 : Int) < (k : Int)) = decide (i0 < k) := by simp
      clear hT hS hI hF hny hch hj1 hj2
      go_wp2
      go_ret
      refine ⟨decide (i0 < k), ys, ?_, HR.out⟩
      first | rfl | (rw [hdec])
    · have hz1 : ¬ (n : Int) ≤ (j1 : Int) := by omega
      have hz1' : (j1 : Int) < (n : Int) := by omega
      by_cases h2 : j2 < n
      · have hz2 : (j2 : Int) < (n : Int) := by omega
        have HL1 := Hid.mk (less_A hT j2 j1 (by omega) (by omega))
        obtain ⟨b1, hb1⟩ : ∃ b, decide (lt (A ys j2) (A ys j1)) = b := ⟨_, rfl⟩
        rw [hb1] at HL1
        have HI := Hid.mk (And.intro hT (And.intro hS (And.intro hI hny)))
        have HF := Hid.mk (And.intro hF hb1)
        clear hT hS hI hF hny hb1
        go_wp2_with fail
        refine HL1.out.mono ?_
        rintro e w1 ⟨rfl, e1⟩
        have hT1 := HI.out.1.blk e1
        have hF1 : Fr N w w1 := HF.out.1.trans (Fr.below e1 HI.out.1.base)
        have hny' := HI.out.2.2.2
        have hb1 := HF.out.2
        cases b1 with
        | false =>
          have hnl1 : ¬ lt (A ys j2) (A ys j1) := of_decide_eq_false hb1
          have hs1 : ∀ c, 0 < c → c < n → par c = k → ¬ lt (A ys c) (A ys j1) := fun c c0 cn cp => by
            have hc : c = j1 ∨ c = j2 := by unfold par at cp; omega
            rcases hc with rfl | rfl
            · exact lt_irrefl _
            · exact hnl1
          have HL2 := Hid.mk (less_A hT1 j1 k (by omega) (by omega))
          obtain ⟨b2, hb2⟩ : ∃ b, decide (lt (A ys j1) (A ys k)) = b := ⟨_, rfl⟩
          rw [hb2] at HL2
          have HJ2 := Hid.mk (And.intro hT1 (And.intro hF1 (And.intro hb2 hs1)))
          clear hb2
          clear hT1 hF1 hs1 hnl1 hb1 e1 HF hj1 hj2
          go_wp2_with fail
          refine HL2.out.mono ?_
          rintro e w2 ⟨rfl, e2⟩
          obtain ⟨hT, hS, hI, hny⟩ := HI.out
          obtain ⟨hTm, hFr, hb2, hs⟩ := HJ2.out
          have hT2 := hTm.blk e2
          have hF2 : Fr N w w2 := hFr.trans (Fr.below e2 hTm.base)
          cases b2 with
          | false =>
            have hnl : ¬ lt (A ys j1) (A ys k) := of_decide_eq_false hb2
            have hch : ∀ c, 0 < c → c < n → par c = k → ¬ lt (A ys c) (A ys k) := fun c c0 cn cp => le_trans hnl (hs c c0 cn cp)
            have HR : Hid (TmA N w2 T M v ys ∧ Sw xs ys n ∧ Fr N w w2 ∧ (decide (i0 < k) = true → Hp ys n) ∧ (decide (i0 < k) = false → UpI ys n i0)) := by
              refine ⟨hT2, hS, hF2, fun h => hI.done hch (by have := of_decide_eq_true h; omega), fun h => ?_⟩
              obtain rfl : k = i0 := by have := of_decide_eq_false h; have := hI.d; omega
              exact hI.still hch
            have hdec : decide ((i0 : Int) < (k : Int)) = decide (i0 < k) := by simp
            clear hT hS hI hny hTm hFr hb2 hs hT2 hF2 e2 hnl hch HI HJ2
            go_wp2
            go_ret
            refine ⟨decide (i0 < k), ys, ?_, HR.out⟩
            first | rfl | (rw [hdec])
          | true =>
            have hyl : lt (A ys j1) (A ys k) := of_decide_eq_true hb2
            have hpj : par j1 = k := by unfold par; omega
            have HSw := Hid.mk (swap_in hT2 k j1 (by omega) (by omega))
            have HJ : Hid (Sw xs (sw ys k j1) n ∧ DnI (sw ys k j1) n i0 j1 ∧ Fr N w w2 ∧ n ≤ ys.length) :=
              ⟨hS.trans (Sw.swap (by omega) (by omega) hny), hI.step (by omega) (by omega) hpj hny hyl hs, hF2, hny⟩
            clear hT hS hI hny hTm hFr hb2 hs hT2 hF2 e2 hyl HI HJ2 hpj
            go_wp2_with fail
            refine HSw.out.mono ?_
            rintro e w3 ⟨rfl, t3, f3⟩
            have HK : Hid (TmA N w3 T M v (sw ys k j1) ∧ Fr N w w3) := ⟨t3, HJ.out.2.2.1.trans f3⟩
            clear t3 f3
            go_wp2
            go_roundw
            case rel => exact ⟨j1, sw ys k j1, rfl, by rw [sw_len]; exact HJ.out.2.2.2, HK.out.1, HJ.out.1, HJ.out.2.1, HK.out.2, by omega⟩
            case measure => simp [intOf]; omega
        | true =>
          have hyl1 : lt (A ys j2) (A ys j1) := of_decide_eq_true hb1
          have hs2 : ∀ c, 0 < c → c < n → par c = k → ¬ lt (A ys c) (A ys j2) := fun c c0 cn cp => by
            have hc : c = j1 ∨ c = j2 := by unfold par at cp; omega
            rcases hc with rfl | rfl
            · exact lt_asymm hyl1
            · exact lt_irrefl _
          have HL2 := Hid.mk (less_A hT1 j2 k (by omega) (by omega))
          obtain ⟨b2, hb2⟩ : ∃ b, decide (lt (A ys j2) (A ys k)) = b := ⟨_, rfl⟩
          rw [hb2] at HL2
          have HJ2 := Hid.mk (And.intro hT1 (And.intro hF1 (And.intro hb2 hs2)))
          clear hb2
          clear hT1 hF1 hs2 hyl1 hb1 e1 HF hj1 hj2
          go_wp2_with fail
          refine HL2.out.mono ?_
          rintro e w2 ⟨rfl, e2⟩
          obtain ⟨hT, hS, hI, hny⟩ := HI.out
          obtain ⟨hTm, hFr, hb2, hs⟩ := HJ2.out
          have hT2 := hTm.blk e2
          have hF2 : Fr N w w2 := hFr.trans (Fr.below e2 hTm.base)
          cases b2 with
          | false =>
            have hnl : ¬ lt (A ys j2) (A ys k) := of_decide_eq_false hb2
            have hch : ∀ c, 0 < c → c < n → par c = k → ¬ lt (A ys c) (A ys k) := fun c c0 cn cp => le_trans hnl (hs c c0 cn cp)
            have HR : Hid (TmA N w2 T M v ys ∧ Sw xs ys n ∧ Fr N w w2 ∧ (decide (i0 < k) = true → Hp ys n) ∧ (decide (i0 < k) = false → UpI ys n i0)) := by
              refine ⟨hT2, hS, hF2, fun h => hI.done hch (by have := of_decide_eq_true h; omega), fun h => ?_⟩
              obtain rfl : k = i0 := by have := of_decide_eq_false h; have := hI.d; omega
              exact hI.still hch
            have hdec : decide ((i0 : Int) < (k : Int)) = decide (i0 < k) := by simp
            clear hT hS hI hny hTm hFr hb2 hs hT2 hF2 e2 hnl hch HI HJ2
            go_wp2
            go_ret
            refine ⟨decide (i0 < k), ys, ?_, HR.out⟩
            first | rfl | (rw [hdec])
          | true =>
            have hyl : lt (A ys j2) (A ys k) := of_decide_eq_true hb2
            have hpj : par j2 = k := by unfold par; omega
            have HSw := Hid.mk (swap_in hT2 k j2 (by omega) (by omega))
            have HJ : Hid (Sw xs (sw ys k j2) n ∧ DnI (sw ys k j2) n i0 j2 ∧ Fr N w w2 ∧ n ≤ ys.length) :=
              ⟨hS.trans (Sw.swap (by omega) (by omega) hny), hI.step (by omega) (by omega) hpj hny hyl hs, hF2, hny⟩
            clear hT hS hI hny hTm hFr hb2 hs hT2 hF2 e2 hyl HI HJ2 hpj
            go_wp2_with fail
            refine HSw.out.mono ?_
            rintro e w3 ⟨rfl, t3, f3⟩
            have HK : Hid (TmA N w3 T M v (sw ys k j2) ∧ Fr N w w3) := ⟨t3, HJ.out.2.2.1.trans f3⟩
            clear t3 f3
            go_wp2
            go_roundw
            case rel => exact ⟨j2, sw ys k j2, rfl, by rw [sw_len]; exact HJ.out.2.2.2, HK.out.1, HJ.out.1, HJ.out.2.1, HK.out.2, by omega⟩
            case measure => simp [intOf]; omega
      · have hz2 : ¬ (j2 : Int) < (n : Int) := by omega
        have hs1 : ∀ c, 0 < c → c < n → par c = k → ¬ lt (A ys c) (A ys j1) := fun c c0 cn cp => by
          obtain rfl : c = j1 := by unfold par at cp; omega
          exact lt_irrefl _
        have hny' := hny
        have HI := Hid.mk (And.intro hT (And.intro hS (And.intro hI hny)))
        have HL2 := Hid.mk (less_A hT j1 k (by omega) (by omega))
        obtain ⟨b2, hb2⟩ : ∃ b, decide (lt (A ys j1) (A ys k)) = b := ⟨_, rfl⟩
        rw [hb2] at HL2
        have HJ2 := Hid.mk (And.intro hT (And.intro hF (And.intro hb2 hs1)))
        clear hb2
        clear hT hS hI hF hny hs1 hj1 hj2
        go_wp2_with fail
        refine HL2.out.mono ?_
        rintro e w2 ⟨rfl, e2⟩
        obtain ⟨hT, hS, hI, hny⟩ := HI.out
        obtain ⟨hTm, hFr, hb2, hs⟩ := HJ2.out
        have hT2 := hTm.blk e2
        have hF2 : Fr N w w2 := hFr.trans (Fr.below e2 hTm.base)
        cases b2 with
        | false =>
          have hnl : ¬ lt (A ys j1) (A ys k) := of_decide_eq_false hb2
          have hch : ∀ c, 0 < c → c < n → par c = k → ¬ lt (A ys c) (A ys k) := fun c c0 cn cp => le_trans hnl (hs c c0 cn cp)
          have HR : Hid (TmA N w2 T M v ys ∧ Sw xs ys n ∧ Fr N w w2 ∧ (decide (i0 < k) = true → Hp ys n) ∧ (decide (i0 < k) = false → UpI ys n i0)) := by
            refine ⟨hT2, hS, hF2, fun h => hI.done hch (by have := of_decide_eq_true h; omega), fun h => ?_⟩
            obtain rfl : k = i0 := by have := of_decide_eq_false h; have := hI.d; omega
            exact hI.still hch
          have hdec : decide ((i0 : Int) < (k : Int)) = decide (i0 < k) := by simp
          clear hT hS hI hny hTm hFr hb2 hs hT2 hF2 e2 hnl hch HI HJ2
          go_wp2
          go_ret
          refine ⟨decide (i0 < k), ys, ?_, HR.out⟩
          first | rfl | (rw [hdec])
        | true =>
          have hyl : lt (A ys j1) (A ys k) := of_decide_eq_true hb2
          have hpj : par j1 = k := by unfold par; omega
          have HSw := Hid.mk (swap_in hT2 k j1 (by omega) (by omega))
          have HJ : Hid (Sw xs (sw ys k j1) n ∧ DnI (sw ys k j1) n i0 j1 ∧ Fr N w w2 ∧ n ≤ ys.length) :=
            ⟨hS.trans (Sw.swap (by omega) (by omega) hny), hI.step (by omega) (by omega) hpj hny hyl hs, hF2, hny⟩
          clear hT hS hI hny hTm hFr hb2 hs hT2 hF2 e2 hyl HI HJ2 hpj
          go_wp2_with fail
          refine HSw.out.mono ?_
          rintro e w3 ⟨rfl, t3, f3⟩
          have HK : Hid (TmA N w3 T M v (sw ys k j1) ∧ Fr N w w3) := ⟨t3, HJ.out.2.2.1.trans f3⟩
          clear t3 f3
          go_wp2
          go_roundw
          case rel => exact ⟨j1, sw ys k j1, rfl, by rw [sw_len]; exact HJ.out.2.2.2, HK.out.1, HJ.out.1, HJ.out.2.1, HK.out.2, by omega⟩
          case measure => simp [intOf]; omega

end Go.Proofs.Ytdgkknjmhdmlfaa
