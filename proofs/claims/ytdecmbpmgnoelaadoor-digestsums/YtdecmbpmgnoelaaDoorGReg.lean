/- counts, regrouped. -/
import Derived.Test.YtdecmbpmgnoelaaDoorGTell
namespace Go.Proofs.YtdecmbpmgnoelaaDoor
set_option linter.unusedVariables false
open Go.RowKit

/-- what a letter counts. -/
def cnt (c : UInt8) : UInt8 := if 48 ≤ c.toNat ∧ c.toNat ≤ 57 then UInt8.ofNat (c.toNat - 48) else if 97 ≤ c.toNat ∧ c.toNat ≤ 118 then UInt8.ofNat (c.toNat - 87) else if 65 ≤ c.toNat ∧ c.toNat ≤ 86 then UInt8.ofNat (c.toNat - 55) else 255
theorem counts_in (c : UInt8) (w : World) : Calls Tryd.prog 41 #[.int .u8 (c.toNat : Int)] w fun e w' => e = .returned (.int .u8 ((cnt c).toNat : Int)) ∧ w' = w := by
  have hc := c.toNat_lt
  unfold cnt
  by_cases h1 : 48 ≤ c.toNat ∧ c.toNat ≤ 57
  · obtain ⟨a1, a2⟩ := h1
    rw [if_pos ⟨a1, a2⟩]
    go_enter Tryd.func41, Tryd.ntmps41
    go_wp2
    go_ret
    exact ⟨ret_int (by first | omega | (rw [UInt8.toNat_ofNat']; omega)), rfl⟩
  · rw [if_neg h1]
    by_cases h2 : 97 ≤ c.toNat ∧ c.toNat ≤ 118
    · obtain ⟨a1, a2⟩ := h2
      have b1 : (57 : Int) < (c.toNat : Int) := by omega
      rw [if_pos ⟨a1, a2⟩]
      clear h1
      go_enter Tryd.func41, Tryd.ntmps41
      go_wp2
      go_ret
      exact ⟨ret_int (by first | omega | (rw [UInt8.toNat_ofNat']; omega)), rfl⟩
    · rw [if_neg h2]
      by_cases h3 : 65 ≤ c.toNat ∧ c.toNat ≤ 86
      · obtain ⟨a1, a2⟩ := h3
        have b1 : (57 : Int) < (c.toNat : Int) := by omega
        have b2 : (c.toNat : Int) < 97 := by omega
        rw [if_pos ⟨a1, a2⟩]
        clear h1 h2
        go_enter Tryd.func41, Tryd.ntmps41
        go_wp2
        go_ret
        exact ⟨ret_int (by first | omega | (rw [UInt8.toNat_ofNat']; omega)), rfl⟩
      · rw [if_neg h3]
        rcases (show c.toNat < 48 ∨ (57 < c.toNat ∧ c.toNat < 65) ∨ (86 < c.toNat ∧ c.toNat < 97) ∨ 118 < c.toNat by omega) with a | ⟨a, b⟩ | ⟨a, b⟩ | a
        all_goals (
          clear h1 h2 h3
          go_enter Tryd.func41, Tryd.ntmps41
          go_wp2
          go_ret
          exact ⟨rfl, rfl⟩)

/-- bits in hand put down as whole groups, as far as they go. -/
def fin (to : Nat) (made : List UInt8) (rest over : Nat) : List UInt8 × Nat × Nat :=
  if h : 0 < to ∧ to ≤ over then fin to (made ++ [UInt8.ofNat (rest / 2 ^ (over - to))]) (rest % 2 ^ (over - to)) (over - to) else (made, rest, over)
termination_by over
def rgs (fr to : Nat) (st : List UInt8 × Nat × Nat) (g : UInt8) : List UInt8 × Nat × Nat := fin to st.1 (st.2.1 * 2 ^ fr + g.toNat) (st.2.2 + fr)
def rg (fr to : Nat) (gs : List UInt8) : List UInt8 × Nat × Nat := gs.foldl (rgs fr to) ([], 0, 0)

theorem fin_step (to : Nat) (made : List UInt8) (rest o : Nat) (ht : 0 < to) : fin to made rest (o + to) = fin to (made ++ [UInt8.ofNat (rest / 2 ^ o)]) (rest % 2 ^ o) o := by
  rw [fin, dif_pos ⟨ht, by omega⟩, Nat.add_sub_cancel]
theorem fin_end (to : Nat) (made : List UInt8) (rest over : Nat) (h : over < to) : fin to made rest over = (made, rest, over) := by
  rw [fin, dif_neg (by omega)]
/-- what stands behind the first m groups. -/
def rgm (fr to : Nat) (gs : List UInt8) (m : Nat) : List UInt8 × Nat × Nat := (gs.take m).foldl (rgs fr to) ([], 0, 0)
theorem rgm_succ (fr to : Nat) (gs : List UInt8) (m : Nat) (h : m < gs.length) : rgm fr to gs (m + 1) = rgs fr to (rgm fr to gs m) (gs[m]?.getD 0) := by
  unfold rgm
  rw [List.take_add_one, List.foldl_append, List.getElem?_eq_getElem h]
  rfl
theorem rgm_all (fr to : Nat) (gs : List UInt8) (m : Nat) (h : gs.length = m) : rgm fr to gs m = rg fr to gs := by
  unfold rgm rg
  rw [List.take_of_length_le (by omega)]
theorem u16_sum (r g fr : Nat) (hg : g < 2 ^ fr) (h : r * 2 ^ fr + g < 65536) : bits .or .u16 (IntKind.u16.wrap ((r : Int) * 2 ^ fr)) (g : Int) = ((r * 2 ^ fr + g : Nat) : Int) := by
  have hw : IntKind.u16.wrap ((r : Int) * 2 ^ fr) = (r : Int) * 2 ^ fr := by
    rw [show ((r : Int) * 2 ^ fr) = ((r * 2 ^ fr : Nat) : Int) by rw [Int.natCast_mul, Int.natCast_pow]; rfl]
    generalize r * 2 ^ fr = k at h
    simp only [IntKind.wrap, IntKind.bits, IntKind.signed, Bool.false_and, Bool.false_eq_true, if_false]
    omega
  rw [hw, show ((r : Int) * 2 ^ fr) = ((r * 2 ^ fr : Nat) : Int) by rw [Int.natCast_mul, Int.natCast_pow]; rfl, u16_or_nat _ _ (by omega) (by omega), Nat.mul_comm, or_sum fr r g hg]
theorem u16_low (r o : Nat) (hr : r < 65536) (ho : o ≤ 15) : bits .and .u16 (r : Int) ((2 : Int) ^ o - 1) = ((r % 2 ^ o : Nat) : Int) := by
  have hp : 2 ^ o ≤ 2 ^ 15 := Nat.pow_le_pow_right (by omega) ho
  have h1 : 1 ≤ 2 ^ o := Nat.one_le_two_pow
  rw [show ((2 : Int) ^ o - 1) = ((2 ^ o - 1 : Nat) : Int) by rw [Int.natCast_sub h1, Int.natCast_pow]; rfl, u16_and_nat _ _ hr (by omega), Nat.and_two_pow_sub_one_eq_mod]

set_option maxRecDepth 100000 in
set_option maxHeartbeats 1000000 in
theorem regrouped_in (W : World) (g cap : Nat) (gs : List UInt8) (fr to : Nat) (hf : 1 ≤ fr ∧ fr ≤ 8) (ht : 1 ≤ to ∧ to ≤ 8) (hl : gs.length ≤ 10000000) (hg : ∀ j, j < gs.length → W.cell? ⟨g, j, none⟩ = some (.int .u8 ((gs[j]?.getD 0).toNat : Int))) (hb : g < W.heap.size) (hs : ∀ x ∈ gs, x.toNat < 2 ^ fr) :
    Calls Tryd.prog 42 #[.slice (some ⟨g, 0, none⟩) gs.length cap, .int .i64 (fr : Int), .int .i64 (to : Int)] W fun e w' => ∃ v, e = .returned (.tuple #[v, .int .u16 (((rg fr to gs).2.1 : Nat) : Int), .int .i64 (((rg fr to gs).2.2 : Nat) : Int)]) ∧ w'.ownsRow W.heap.size 5 1 v (rg fr to gs).1.length (bcl (rg fr to gs).1) ∧ Below W.heap.size W w' := by
  obtain ⟨i0, hi, hz0, hz1, hz2⟩ := info_of info5
  obtain ⟨N, hN⟩ : ∃ N, gs.length = N := ⟨_, rfl⟩
  have HE := Hid.mk (rgm_all fr to gs N hN)
  have HNx : Hid (∀ m, m < N → rgm fr to gs (m + 1) = rgs fr to (rgm fr to gs m) (gs[m]?.getD 0)) := fun m hm => rgm_succ fr to gs m (by omega)
  have HGc : Hid (∀ j, j < N → W.cell? ⟨g, j, none⟩ = some (.int .u8 ((gs[j]?.getD 0).toNat : Int))) := fun j hj => hg j (by omega)
  have HS : Hid (∀ m, m < N → (gs[m]?.getD 0).toNat < 2 ^ fr) := fun m hm => by
    rw [List.getElem?_eq_getElem (by omega)]
    exact hs _ (List.getElem_mem _)
  have H0 : Hid (rgm fr to gs 0 = ([], 0, 0)) := rfl
  rw [← HE.out, hN]
  have hNl : N ≤ 10000000 := by omega
  generalize rgm fr to gs = st at HNx H0 ⊢
  obtain ⟨hf1, hf2⟩ := hf
  obtain ⟨ht1, ht2⟩ := ht
  clear HE hg hs hl hN
  go_enter Tryd.func42, Tryd.ntmps42
  go_wp2_with fail
  go_loopw [6, 7, 8, 13] (fun v r o i wr => ∃ (m : Nat) (made : List UInt8) (rest over : Nat), m ≤ N ∧ i = .int .i64 m ∧ r = .int .u16 (rest : Int) ∧ o = .int .i64 (over : Int) ∧ Hid (st m = (made, rest, over)) ∧ wr.ownsRow W.heap.size 5 1 v made.length (bcl made) ∧ over < to ∧ rest < 2 ^ over ∧ made.length * to + over = fr * m ∧ Below W.heap.size W wr) (fun _ _ _ i _ => N - (intOf i).toNat)
  case atStart => exact ⟨0, [], 0, 0, by omega, rfl, rfl, rfl, H0, ⟨rfl, .inl ⟨rfl, rfl⟩⟩, by omega, by simp, by simp, Below.refl _ _⟩
  case round =>
    obtain ⟨m, made, rest, over, hm, rfl, rfl, rfl, HST, hown, hov, hre, hsum, hbl⟩ := hrel
    have HO := Hid.mk hown
    have HSUM := Hid.mk hsum
    have HRE := Hid.mk hre
    clear hown hsum hre
    by_cases hlt : m < N
    · have hc : wr.cell? ⟨g, m, none⟩ = some (.int .u8 ((gs[m]?.getD 0).toNat : Int)) := (hbl.cell (p := ⟨g, m, none⟩) hb).trans (HGc.out m hlt)
      have HX := Hid.mk (HS.out m hlt)
      have HNm : Hid (st (m + 1) = fin to made (rest * 2 ^ fr + (gs[m]?.getD 0).toNat) (over + fr)) := by rw [Hid, HNx.out m hlt, HST.out]; rfl
      generalize gs[m]?.getD 0 = x at hc HX HNm
      have hbig : rest * 2 ^ fr + x.toNat < 2 ^ (over + fr) := by
        have h1 : rest + 1 ≤ 2 ^ over := HRE.out
        have h2 := Nat.mul_le_mul_right (2 ^ fr) h1
        have h3 := HX.out
        rw [Nat.pow_add]
        rw [Nat.add_mul] at h2
        omega
      have hp16 : 2 ^ (over + fr) ≤ 2 ^ 15 := Nat.pow_le_pow_right (by omega) (by omega)
      have hx8 := x.toNat_lt
      have hor := u16_sum rest x.toNat fr HX.out (by omega)
      have HBIG := Hid.mk hbig
      clear hbig
      generalize rest * 2 ^ fr + x.toNat = q at hor HBIG HNm
      have HTG : Hid (st (m + 1) = fin to made q (over + fr)) := HNm.out
      clear HNm HRE hp16
      go_wp2_with fail
      go_loopw [6, 7, 8] (fun v r o w2 => ∃ (md : List UInt8) (q2 ov : Nat), r = .int .u16 (q2 : Int) ∧ o = .int .i64 (ov : Int) ∧ Hid (fin to md q2 ov = fin to made q (over + fr)) ∧ w2.ownsRow W.heap.size 5 1 v md.length (bcl md) ∧ q2 < 2 ^ ov ∧ ov ≤ 15 ∧ md.length * to + ov = fr * (m + 1) ∧ Below W.heap.size W w2) (fun _ _ o _ => (intOf o).toNat)
      case atStart => exact ⟨made, q, over + fr, rfl, by go_num, rfl, HO.out, HBIG.out, by omega, by have := HSUM.out; rw [Nat.mul_add]; omega, hbl⟩
      case round =>
        obtain ⟨md, q2, ov, rfl, rfl, HFN, hown2, hq2, hov2, hsum2, hbl2⟩ := hrel
        have HO2 := Hid.mk hown2
        have HS2 := Hid.mk hsum2
        have hml : md.length ≤ 100000000 := by
          have h1 : md.length * 1 ≤ md.length * to := Nat.mul_le_mul_left _ ht1
          have h2 : fr * (m + 1) ≤ 8 * (m + 1) := Nat.mul_le_mul_right _ hf2
          omega
        have hsz := hbl2.size
        have HQ2 := Hid.mk hq2
        clear hown2 hsum2 hq2
        by_cases hge : to ≤ ov
        · obtain ⟨o, rfl⟩ : ∃ o, ov = o + to := ⟨ov - to, by omega⟩
          have hf := fin_step to md q2 o (by omega)
          have hp15 : 2 ^ (o + to) ≤ 2 ^ 15 := Nat.pow_le_pow_right (by omega) hov2
          have hq16 : q2 < 65536 := by have := HQ2.out; omega
          have hdv : q2 / 2 ^ o < 256 := by
            have h1 := HQ2.out
            rw [Nat.pow_add, Nat.mul_comm] at h1
            have h2 : q2 / 2 ^ o < 2 ^ to := Nat.div_lt_of_lt_mul (by rw [Nat.mul_comm]; exact h1)
            have h3 : 2 ^ to ≤ 2 ^ 8 := Nat.pow_le_pow_right (by omega) ht2
            omega
          have hdi : (q2 : Int) / 2 ^ o = ((q2 / 2 ^ o : Nat) : Int) := by rw [Int.natCast_ediv, Int.natCast_pow]; rfl
          have hyi : ((UInt8.ofNat (q2 / 2 ^ o)).toNat : Int) = (q2 : Int) / 2 ^ o := by rw [hdi, UInt8.toNat_ofNat']; generalize q2 / 2 ^ o = k at hdv; omega
          have hw1 : IntKind.u8.wrap ((q2 : Int) / 2 ^ o) = ((UInt8.ofNat (q2 / 2 ^ o)).toNat : Int) := by rw [IntKind.wrap_u8, hdi, UInt8.toNat_ofNat']; generalize q2 / 2 ^ o = k at hdv; omega
          have hlow := u16_low q2 o hq16 (by omega)
          have ho15 : 2 ^ o ≤ 2 ^ 15 := Nat.pow_le_pow_right (by omega) (by omega)
          have ho1 : 1 ≤ 2 ^ o := Nat.one_le_two_pow
          have hpi : (2 : Int) ^ o = ((2 ^ o : Nat) : Int) := by rw [Int.natCast_pow]; rfl
          have m1 : IntKind.u16.wrap ((2 : Int) ^ o) = (2 : Int) ^ o := by rw [hpi]; generalize 2 ^ o = k at ho15; simp only [IntKind.wrap, IntKind.bits, IntKind.signed, Bool.false_and, Bool.false_eq_true, if_false]; omega
          have m2 : IntKind.u16.wrap ((2 : Int) ^ o - 1) = (2 : Int) ^ o - 1 := by rw [hpi]; generalize 2 ^ o = k at ho15 ho1; simp only [IntKind.wrap, IntKind.bits, IntKind.signed, Bool.false_and, Bool.false_eq_true, if_false]; omega
          have hlt2 : q2 % 2 ^ o < 2 ^ o := Nat.mod_lt _ (by omega)
          have HLT := Hid.mk hlt2
          have HF2 := Hid.mk hf
          have HYI := Hid.mk hyi
          generalize q2 % 2 ^ o = q3 at hlow HLT HF2
          generalize UInt8.ofNat (q2 / 2 ^ o) = y at hw1 HF2 HYI
          clear hf hp15 hdi hyi hpi hlt2 ho15 ho1 hdv
          go_wp2_with (at_builtin; refine wpList_append_own _ rfl _ _ 47 rfl W.heap.size 5 i0 (.int .u8 0) 1 1 Tryd.underlying47 hi hz0 hz1 hz2 rfl (by decide) _ _ _ rfl (HO2.out.alloc _) ⟨wr.heap.size, 0, none⟩ 1 1 [.int .u8 (y.toNat : Int)] rfl rfl (cell_one_new _ _ _) (by simp [Value.oneCell']) (by unfold maxLen; omega) (by omega) (by simp; omega) ?_; intro v1 w1 hown1 hgrow1 _)
          have B2 : Below W.heap.size W w1 := (hbl2.alloc hbl2.size _).grown hgrow1 (Nat.le_trans hbl2.size (by simp)) (fun k hk => (HO2.out.lt k hk).1)
          go_roundw
          case rel =>
            refine ⟨md ++ [y], q3, o, rfl, rfl, ?_, ?_, HLT.out, by omega, ?_, B2⟩
            · rw [Hid, ← HF2.out]; exact HFN.out
            · rw [List.length_append, bcl_app]; exact hown1
            · have h := HS2.out
              rw [List.length_append, Nat.add_mul]
              simp only [List.length_singleton, Nat.one_mul]
              omega
          case measure => simp [intOf]; omega
        · have hfe := fin_end to md q2 ov (by omega)
          have HFE : Hid (st (m + 1) = (md, q2, ov)) := by rw [Hid, HTG.out, ← HFN.out, hfe]
          clear hfe
          go_wp2
          go_roundw
          case rel => exact ⟨m + 1, md, q2, ov, by omega, by go_num, rfl, rfl, HFE, HO2.out, by omega, HQ2.out, HS2.out, hbl2⟩
          case measure => simp [intOf]; omega
    · obtain rfl : m = N := by omega
      go_wp2
      refine bodyPost_ret (v := .tuple #[u6, .int .u16 (rest : Int), .int .i64 (over : Int)]) (by simp [results, Tryd.results42, go_sem]) rfl ?_
      rw [HST.out]
      exact ⟨_, rfl, HO.out, hbl⟩
end Go.Proofs.YtdecmbpmgnoelaaDoor
