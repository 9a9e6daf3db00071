/- Layer 13: the document's RightRules. -/
import Derived.Test.YtpognbkdafnfjaaDoorAcDo
import Derived.Test.YtpognbkdafnfjaaDoorAcNe
namespace Go.Proofs.YtpognbkdafnfjaaDoor
set_option linter.unusedVariables false
set_option linter.unusedSimpArgs false
open Go.RowKit
attribute [local go_sem ↓] bin_ad bin_pf
attribute [local go_sem] adEqV_run pfEqV_run

theorem take_mem {rs : List Rl} {m k : Nat} (hk : k < m) (hm : m ≤ rs.length) : (rs[k]'(by omega)) ∈ rs.take m := by
  rw [List.mem_iff_getElem]
  exact ⟨k, by simp; omega, by simp⟩
theorem mem_take {rs : List Rl} {m : Nat} {x : Rl} (hx : x ∈ rs.take m) (hm : m ≤ rs.length) : ∃ k, ∃ (h : k < rs.length), k < m ∧ rs[k] = x := by
  obtain ⟨k, hk, e⟩ := List.mem_iff_getElem.1 hx
  simp at hk e
  exact ⟨k, by omega, by omega, e⟩
/-- a rule's five cells. -/
def RlC (w : World) (g o : Nat) (r : Rl) : Prop := w.cell? ⟨g, o, none⟩ = some (.bool r.p.v6) ∧ w.cell? ⟨g, o + 1, none⟩ = some (.int .u64 (r.p.hi : Int)) ∧ w.cell? ⟨g, o + 2, none⟩ = some (.int .u64 (r.p.lo : Int)) ∧ w.cell? ⟨g, o + 3, none⟩ = some (.int .i64 r.n) ∧ w.cell? ⟨g, o + 4, none⟩ = some (.int .i64 r.act)
theorem RlsAt.at {w : World} {g off : Nat} {rs : List Rl} (h : RlsAt w (some ⟨g, off, none⟩) rs) (k : Nat) (hk : k < rs.length) : RlC w g (off + k * 5) rs[k] := by
  obtain ⟨g', off', e, hg', c⟩ := h k hk
  cases e
  exact c
def RrRel (W : World) (rs : List Rl) (i : Value) (wr : World) : Prop := ∃ m : Nat, i = .int .i64 (m : Int) ∧ m ≤ rs.length ∧ OkRs (rs.take m) ∧ Kp W wr
def RrIn (W : World) (rs : List Rl) (m : Nat) (r : Rl) (j : Value) (wr : World) : Prop := ∃ k : Nat, j = .int .i64 (k : Int) ∧ k ≤ m ∧ (∀ i (hi : i < rs.length), i < k → (rs[i]).apart r) ∧ Kp W wr
set_option maxRecDepth 100000 in
set_option maxHeartbeats 8000000 in
theorem rr_in (W : World) (q : Option Addr) (cap : Nat) (rs : List Rl) (hat : RlsAt W q rs) (hok : ∀ r ∈ rs, r.ok) (hcap : rs.length ≤ cap) (hcap2 : cap ≤ 9223372036854775807) :
    Calls Tryd.prog 10 #[.slice q rs.length cap] W fun e w' => ∃ b, e = .returned (.bool b) ∧ (b = true ↔ OkRs rs) ∧ Below W.heap.size W w' := by
  have HAT := Hid.mk hat
  have HOK := Hid.mk hok
  clear hat hok
  go_enter Tryd.func10, Tryd.ntmps10
  go_wp2
  go_loopw [3] (fun i wr => RrRel W rs i wr) (fun i _ => rs.length + 1 - (intOf i).toNat)
  case atStart => exact ⟨0, rfl, Nat.zero_le _, OkRs.nil, Kp.refl _⟩
  case round =>
    obtain ⟨m, rfl, hm, hokp, K⟩ := hrel
    have HOP := Hid.mk hokp
    clear hokp
    by_cases hlt : m < rs.length
    · obtain ⟨g, off, rfl, hg, _⟩ := HAT.out m hlt
      have HC : Hid (∀ w, Kp W w → ∀ k (hk : k < rs.length), RlC w g (off + k * 5) rs[k]) := fun w kw k hk => (HAT.out.blk kw).at k hk
      have HSN := Hid.mk (take_snoc hlt)
      have HNO : Hid (¬ OkRs (rs.take (m + 1)) → ¬ OkRs rs) := fun h h' => h (okRs_take h' _)
      have hrok := HOK.out rs[m] (List.getElem_mem hlt)
      have HCM : Hid (∀ w, Kp W w → RlC w g (off + m * 5) rs[m]) := fun w kw => HC.out w kw m hlt
      generalize rs[m] = r at HSN hrok HCM
      obtain ⟨⟨v, h, l⟩, n, act⟩ := r
      obtain ⟨⟨hh, hl⟩, hn, hact⟩ := hrok
      simp only at hh hl hn hact
      have HRP := Hid.mk (fun w => drp_in w v h l n hh hl)
      have hcm := HCM.out _ K
      simp only [RlC] at hcm
      go_wp2_with fail
      refine (HRP.out _).mono ?_
      rintro e w1 ⟨rfl, hb1⟩
      have K1 := K.blk hb1
      have hc1 := HCM.out _ K1
      simp only [RlC] at hc1
      clear hcm hb1 K hh hl
      by_cases hp : 0 ≤ n ∧ okP ⟨v, h, l⟩ n.toNat
      · rw [decide_eq_true hp]
        by_cases hac : act = 1 ∨ act = 2 ∨ act = 3
        · have HG : Hid (Rl.good ⟨⟨v, h, l⟩, n, act⟩) := ⟨hp, hac⟩
          have hd1 : decide (act < 1) = false := decide_eq_false (by omega)
          have hd2 : decide (3 < act) = false := decide_eq_false (by omega)
          clear hp hac
          go_wp2
          go_loopw [5] (fun j wr => RrIn W rs m ⟨⟨v, h, l⟩, n, act⟩ j wr) (fun j _ => m + 1 - (intOf j).toNat)
          case atStart => exact ⟨0, rfl, Nat.zero_le _, fun i hi h => by omega, K1⟩
          case round =>
            obtain ⟨k, rfl, hk, hin, K2⟩ := hrel
            have HIN := Hid.mk hin
            clear hin hc1
            by_cases hkm : k < m
            · have hki : (k : Int) < (m : Int) := by omega
              have hkl : k < rs.length := by omega
              have hkli : (k : Int) < (rs.length : Int) := by omega
              have hmli : (m : Int) < (rs.length : Int) := by omega
              have hc2 := HCM.out _ K2
              have hc3 := HC.out _ K2 k hkl
              have HTM := Hid.mk (take_mem hkm hm)
              have HINS : Hid ((rs[k]).apart ⟨⟨v, h, l⟩, n, act⟩ → ∀ i (hi : i < rs.length), i < k + 1 → (rs[i]).apart ⟨⟨v, h, l⟩, n, act⟩) := fun ha i hi hik => by
                rcases Nat.lt_or_eq_of_le (Nat.le_of_lt_succ hik) with h | rfl
                · exact HIN.out i hi h
                · exact ha
              generalize rs[k] = r' at hc3 HTM HINS
              obtain ⟨⟨v', h', l'⟩, n', act'⟩ := r'
              simp only [RlC] at hc2 hc3
              by_cases heq : (⟨v', h', l'⟩ : Ad) = ⟨v, h, l⟩ ∧ n' = n
              · have hdq : decide ((⟨v', h', l'⟩ : Ad) = ⟨v, h, l⟩ ∧ n' = n) = true := decide_eq_true heq
                have HBAD : Hid (¬ OkRs rs) := HNO.out fun hx => by
                  rw [HSN.out] at hx
                  exact (okRs_snoc.1 hx).2.2 _ HTM.out heq
                go_wp2_with fail
                go_quiet (fail)
                go_wp2
                go_ret
                exact ⟨false, rfl, ⟨fun h => by simp at h, fun h => absurd h HBAD.out⟩, K2.blk (below_dn _ _)⟩
              · have hdq : decide ((⟨v', h', l'⟩ : Ad) = ⟨v, h, l⟩ ∧ n' = n) = false := decide_eq_false heq
                have HNX : Hid (∀ w, Kp W w → RrIn W rs m ⟨⟨v, h, l⟩, n, act⟩ (.int .i64 ((k : Int) + 1)) w) := fun w kw => ⟨k + 1, by go_num, by omega, HINS.out heq, kw⟩
                have HNE : Hid (¬ ((v' = v ∧ h' = h ∧ l' = l) ∧ n' = n)) := fun hx => heq ⟨by rw [hx.1.1, hx.1.2.1, hx.1.2.2], hx.2⟩
                clear heq
                go_wp2_with fail
                go_quiet (fail)
                go_wp2
                exact ⟨HNX.out _ (K2.blk (below_dn _ _)), by simp [intOf]; omega⟩
            · obtain rfl : k = m := by omega
              have HNX : Hid (RrRel W rs (.int .i64 ((k : Int) + 1)) wr) := ⟨k + 1, by go_num, by omega, by
                rw [HSN.out]
                refine okRs_snoc.2 ⟨HOP.out, HG.out, fun x hx => ?_⟩
                obtain ⟨i, hi, hik, rfl⟩ := mem_take hx hm
                exact HIN.out i hi hik, K2⟩
              go_wp2
              exact ⟨HNX.out, by simp [intOf]; omega⟩
        · have HBAD : Hid (¬ OkRs rs) := HNO.out fun hx => by
            rw [HSN.out] at hx
            exact hac (okRs_snoc.1 hx).2.1.2
          by_cases h1 : act < 1
          · have hd1 : decide (act < 1) = true := decide_eq_true h1
            go_wp2
            go_ret
            exact ⟨false, rfl, ⟨fun h => by simp at h, fun h => absurd h HBAD.out⟩, K1⟩
          · have hd1 : decide (act < 1) = false := decide_eq_false h1
            have hd2 : decide (3 < act) = true := decide_eq_true (by omega)
            go_wp2
            go_ret
            exact ⟨false, rfl, ⟨fun h => by simp at h, fun h => absurd h HBAD.out⟩, K1⟩
      · rw [decide_eq_false hp]
        have HBAD : Hid (¬ OkRs rs) := HNO.out fun hx => by
          rw [HSN.out] at hx
          exact hp (okRs_snoc.1 hx).2.1.1
        go_wp2
        go_ret
        exact ⟨false, rfl, ⟨fun h => by simp at h, fun h => absurd h HBAD.out⟩, K1⟩
    · obtain rfl : m = rs.length := by omega
      have HALL : Hid (OkRs rs) := by have := HOP.out; rwa [List.take_length] at this
      go_wp2
      go_ret
      exact ⟨true, rfl, ⟨fun _ => HALL.out, fun _ => rfl⟩, K⟩
end Go.Proofs.YtpognbkdafnfjaaDoor
