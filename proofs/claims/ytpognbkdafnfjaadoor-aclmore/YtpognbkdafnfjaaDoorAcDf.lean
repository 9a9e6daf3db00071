/- Layer 13: the document's Find. -/
import Derived.Test.YtpognbkdafnfjaaDoorAcRr
namespace Go.Proofs.YtpognbkdafnfjaaDoor
set_option linter.unusedVariables false
set_option linter.unusedSimpArgs false
open Go.RowKit

/-- the best of the first rules. -/
def DfB (rs : List Rl) (a : Ad) (m : Nat) (b : Value) : Prop := (b = .int .i64 (-1) ∧ ∀ k (hk : k < rs.length), k < m → ¬ (rs[k]).holds a) ∨ ∃ j : Nat, ∃ (hj : j < rs.length), b = .int .i64 (j : Int) ∧ j < m ∧ (rs[j]).holds a ∧ ∀ k (hk : k < rs.length), k < m → (rs[k]).holds a → (rs[k]).n ≤ (rs[j]).n
theorem DfB.zero (rs : List Rl) (a : Ad) : DfB rs a 0 (.int .i64 (-1)) := .inl ⟨rfl, fun k hk h => by omega⟩
theorem DfB.no {rs : List Rl} {a : Ad} {m : Nat} {b : Value} (h : DfB rs a m b) (hm : m < rs.length) (hn : ¬ (rs[m]).holds a) : DfB rs a (m + 1) b := by
  rcases h with ⟨h1, h2⟩ | ⟨j, hj, h1, h2, h3, h4⟩
  · refine .inl ⟨h1, fun k hk hk' => ?_⟩
    rcases Nat.lt_or_eq_of_le (Nat.le_of_lt_succ hk') with h | rfl
    · exact h2 k hk h
    · exact hn
  · refine .inr ⟨j, hj, h1, by omega, h3, fun k hk hk' hh => ?_⟩
    rcases Nat.lt_or_eq_of_le (Nat.le_of_lt_succ hk') with h | rfl
    · exact h4 k hk h hh
    · exact absurd hh hn
theorem DfB.first {rs : List Rl} {a : Ad} {m : Nat} (hm : m < rs.length) (h : ∀ k (hk : k < rs.length), k < m → ¬ (rs[k]).holds a) (hh : (rs[m]).holds a) : DfB rs a (m + 1) (.int .i64 (m : Int)) := by
  refine .inr ⟨m, hm, rfl, by omega, hh, fun k hk hk' hx => ?_⟩
  rcases Nat.lt_or_eq_of_le (Nat.le_of_lt_succ hk') with h' | rfl
  · exact absurd hx (h k hk h')
  · exact Int.le_refl _
theorem DfB.keep {rs : List Rl} {a : Ad} {m j : Nat} (hm : m < rs.length) (hj : j < rs.length) (hjm : j < m) (h3 : (rs[j]).holds a) (h4 : ∀ k (hk : k < rs.length), k < m → (rs[k]).holds a → (rs[k]).n ≤ (rs[j]).n) (hle : (rs[m]).n ≤ (rs[j]).n) : DfB rs a (m + 1) (.int .i64 (j : Int)) := by
  refine .inr ⟨j, hj, rfl, by omega, h3, fun k hk hk' hx => ?_⟩
  rcases Nat.lt_or_eq_of_le (Nat.le_of_lt_succ hk') with h' | rfl
  · exact h4 k hk h' hx
  · exact hle
theorem DfB.more {rs : List Rl} {a : Ad} {m j : Nat} (hm : m < rs.length) (hj : j < rs.length) (h4 : ∀ k (hk : k < rs.length), k < m → (rs[k]).holds a → (rs[k]).n ≤ (rs[j]).n) (hh : (rs[m]).holds a) (hlt : (rs[j]).n < (rs[m]).n) : DfB rs a (m + 1) (.int .i64 (m : Int)) := by
  refine .inr ⟨m, hm, rfl, by omega, hh, fun k hk hk' hx => ?_⟩
  rcases Nat.lt_or_eq_of_le (Nat.le_of_lt_succ hk') with h' | rfl
  · exact Int.le_trans (h4 k hk h' hx) (Int.le_of_lt hlt)
  · exact Int.le_refl _
def DfRel (V : World) (rs : List Rl) (a : Ad) (b i : Value) (wr : World) : Prop := ∃ m : Nat, i = .int .i64 (m : Int) ∧ m ≤ rs.length ∧ DfB rs a m b ∧ Kp V wr
set_option maxRecDepth 100000 in
set_option maxHeartbeats 8000000 in
theorem df_in (W : World) (q : Option Addr) (cap : Nat) (rs : List Rl) (v : Bool) (h l : Nat) (hat : RlsAt W q rs) (hok : ∀ r ∈ rs, r.ok) (hcap : rs.length ≤ cap) (hcap2 : cap ≤ 9223372036854775807) (hh : h < 2 ^ 64) (hl : l < 2 ^ 64) :
    Calls Tryd.prog 12 #[.slice q rs.length cap, adV v h l] W fun e w' => ∃ res, Fnd rs ⟨v, h, l⟩ res ∧ e = .returned (resV res) ∧ Below W.heap.size W w' := by
  have HAT := Hid.mk hat
  have HOK := Hid.mk hok
  have HHO : Hid (∀ (p : Ad) (n : Int) w, p.ok → Calls Tryd.prog 13 #[pfV p.v6 p.hi p.lo n, adV v h l] w fun e w' => e = .returned (.bool (decide (0 ≤ n ∧ holds p n.toNat ⟨v, h, l⟩))) ∧ Below w.heap.size w w') := fun p n w hp => dho_in w p.v6 p.hi p.lo n v h l hp.1 hp.2 hh hl
  obtain ⟨a, ha⟩ : ∃ a : Ad, (⟨v, h, l⟩ : Ad) = a := ⟨_, rfl⟩
  rw [ha] at HHO ⊢
  clear ha hat hok hh hl
  obtain ⟨V, hV, F, HB⟩ : ∃ V, (W.alloc (adO v h l)).alloc pf0 = V ∧ Kp V V ∧ Hid (Below W.heap.size W V) := ⟨_, rfl, Kp.refl _, by unfold Hid; go_grown⟩
  have HPB : Hid (∀ w, Kp V w → w.heap[W.heap.size + 1]? = some pf0) := fun w k => by
    have hm := heap_alloc_last (W.alloc (adO v h l)) pf0
    rw [show (W.alloc (adO v h l)).heap.size = W.heap.size + 1 by simp, hV] at hm
    have hb : W.heap.size + 1 < V.heap.size := by rw [← hV]; simp
    exact (Below.block k _ hb).trans hm
  have HS : Hid (∀ w, Kp V w → w.cell? ⟨W.heap.size, 0, none⟩ = some (.bool v) ∧ w.cell? ⟨W.heap.size, 1, none⟩ = some (.int .u64 (h : Int)) ∧ w.cell? ⟨W.heap.size, 2, none⟩ = some (.int .u64 (l : Int))) := fun w k => by
    have hc := ad_cells W v h l
    have hk : Kp (W.alloc (adO v h l)) V := by rw [← hV]; exact Below.alloc (Below.refl _ _) (Nat.le_refl _) _
    have hb : W.heap.size < (W.alloc (adO v h l)).heap.size := by simp
    have hb' : W.heap.size < V.heap.size := by rw [← hV]; simp; omega
    exact ⟨k.cell (hk.cell hc.1 hb) hb', k.cell (hk.cell hc.2.1 hb) hb', k.cell (hk.cell hc.2.2 hb) hb'⟩
  go_enter Tryd.func12, Tryd.ntmps12
  go_wp2
  try rw [hV]
  clear hV
  go_loopw [7, 8] (fun b i wr => DfRel V rs a b i wr) (fun _ i _ => rs.length + 1 - (intOf i).toNat)
  case atStart => exact ⟨0, rfl, Nat.zero_le _, DfB.zero _ _, F⟩
  case round =>
    obtain ⟨m, rfl, hm, hB, K⟩ := hrel
    have HBB := Hid.mk hB
    clear hB
    by_cases hlt : m < rs.length
    · have hmi : (m : Int) < (rs.length : Int) := by omega
      obtain ⟨g, off, rfl, hg, _⟩ := HAT.out m hlt
      have HC : Hid (∀ w, Kp V w → ∀ k (hk : k < rs.length), RlC w g (off + k * 5) rs[k]) := fun w kw k hk => (HAT.out.blk (kw.bel HB.out)).at k hk
      have HCM : Hid (∀ w, Kp V w → RlC w g (off + m * 5) rs[m]) := fun w kw => HC.out w kw m hlt
      have HH1 := Hid.mk (fun w => HHO.out rs[m].p rs[m].n w (HOK.out rs[m] (List.getElem_mem hlt)).1)
      have HNO := Hid.mk (fun hn => HBB.out.no hlt hn)
      have HFI : Hid (∀ (hf : ∀ k (hk : k < rs.length), k < m → ¬ (rs[k]).holds a), (rs[m]).holds a → DfB rs a (m + 1) (.int .i64 (m : Int))) := fun hf hh => DfB.first hlt hf hh
      have HKE : Hid (∀ j (hj : j < rs.length) (hjm : j < m) (h3 : (rs[j]).holds a) (h4 : ∀ k (hk : k < rs.length), k < m → (rs[k]).holds a → (rs[k]).n ≤ (rs[j]).n), (rs[m]).n ≤ (rs[j]).n → DfB rs a (m + 1) (.int .i64 (j : Int))) := fun j hj hjm h3 h4 hle => DfB.keep hlt hj hjm h3 h4 hle
      have HMO : Hid (∀ j (hj : j < rs.length) (h4 : ∀ k (hk : k < rs.length), k < m → (rs[k]).holds a → (rs[k]).n ≤ (rs[j]).n), (rs[m]).holds a → (rs[j]).n < (rs[m]).n → DfB rs a (m + 1) (.int .i64 (m : Int))) := fun j hj h4 hh hl => DfB.more hlt hj h4 hh hl
      generalize rs[m] = r at HCM HH1 HNO HFI HKE HMO
      obtain ⟨⟨pv, ph, pl⟩, pn, act⟩ := r
      simp only at HH1
      have HSS : Hid (∀ w, Kp V w → Kp V w ∧ (w.cell? ⟨W.heap.size, 0, none⟩ = some (.bool v) ∧ w.cell? ⟨W.heap.size, 1, none⟩ = some (.int .u64 (h : Int)) ∧ w.cell? ⟨W.heap.size, 2, none⟩ = some (.int .u64 (l : Int))) ∧ (w.cell? ⟨g, off + m * 5, none⟩ = some (.bool pv) ∧ w.cell? ⟨g, off + m * 5 + 1, none⟩ = some (.int .u64 (ph : Int)) ∧ w.cell? ⟨g, off + m * 5 + 2, none⟩ = some (.int .u64 (pl : Int)) ∧ w.cell? ⟨g, off + m * 5 + 3, none⟩ = some (.int .i64 pn))) := fun w k => ⟨k, HS.out w k, (HCM.out w k).1, (HCM.out w k).2.1, (HCM.out w k).2.2.1, (HCM.out w k).2.2.2.1⟩
      obtain ⟨R, hR⟩ : ∃ R, decide (0 ≤ pn ∧ holds ⟨pv, ph, pl⟩ pn.toNat a) = R := ⟨_, rfl⟩
      rw [hR] at HH1
      have HRT : Hid (R = true → Rl.holds ⟨⟨pv, ph, pl⟩, pn, act⟩ a) := fun hx => by rw [hx] at hR; exact of_decide_eq_true hR
      have HRF : Hid (R = false → ¬ Rl.holds ⟨⟨pv, ph, pl⟩, pn, act⟩ a) := fun hx => by rw [hx] at hR; exact of_decide_eq_false hR
      clear hR
      go_wp2_with fail
      have hS0 := HSS.out _ K
      go_region_held3 (fun w => Kp V w ∧ (w.cell? ⟨W.heap.size, 0, none⟩ = some (.bool v) ∧ w.cell? ⟨W.heap.size, 1, none⟩ = some (.int .u64 (h : Int)) ∧ w.cell? ⟨W.heap.size, 2, none⟩ = some (.int .u64 (l : Int))) ∧ (w.cell? ⟨g, off + m * 5, none⟩ = some (.bool pv) ∧ w.cell? ⟨g, off + m * 5 + 1, none⟩ = some (.int .u64 (ph : Int)) ∧ w.cell? ⟨g, off + m * 5 + 2, none⟩ = some (.int .u64 (pl : Int)) ∧ w.cell? ⟨g, off + m * 5 + 3, none⟩ = some (.int .i64 pn)))
        (first | assumption | (apply HSS.out; repeat (first | assumption | apply Kp.drew)))
        ((go_at_call 13; with_reducible refine (HH1.out _).mono ?_; rintro e w3 ⟨rfl, hb3⟩; have K3 := Kp.blk (V := V) (by repeat (first | assumption | apply Kp.drew)) hb3; have hs3 := HSS.out _ K3; clear hb3))
      have hs3' := hs3.2
      cases R with
      | false =>
        have HNX := Hid.mk (HNO.out (HRF.out rfl))
        go_wp2_with fail
        go_quiet (fail)
        go_wp2
        exact ⟨⟨m + 1, by go_num, by omega, HNX.out, K3.blk (below_dn _ _)⟩, by simp [intOf]; omega⟩
      | true =>
        have HHM := Hid.mk (HRT.out rfl)
        rcases HBB.out with ⟨rfl, hno⟩ | ⟨j, hj, rfl, hjm, hjh, hjb⟩
        · have HNX := Hid.mk (HFI.out hno HHM.out)
          clear hno
          go_wp2_with fail
          go_quiet (fail)
          go_wp2
          exact ⟨⟨m + 1, by go_num, by omega, HNX.out, K3.blk (below_dn _ _)⟩, by simp [intOf]; omega⟩
        · have HKE1 := Hid.mk (HKE.out j hj hjm hjh hjb)
          have HMO1 := Hid.mk (fun x => HMO.out j hj hjb HHM.out x)
          have hcj := (HC.out _ K3 j hj)
          clear hjh hjb
          generalize rs[j] = r' at HKE1 HMO1 hcj
          obtain ⟨⟨v', h', l'⟩, n', act'⟩ := r'
          simp only [RlC] at hcj HKE1 HMO1
          have hji : (j : Int) < (rs.length : Int) := by omega
          have hdj : decide ((j : Int) < 0) = false := decide_eq_false (by omega)
          by_cases hn : n' < pn
          · have HNX := Hid.mk (HMO1.out hn)
            have hd : decide (n' < pn) = true := decide_eq_true hn
            go_wp2_with fail
            go_quiet (fail)
            go_wp2
            exact ⟨⟨m + 1, by go_num, by omega, HNX.out, K3.blk (below_dn _ _)⟩, by simp [intOf]; omega⟩
          · have HNX := Hid.mk (HKE1.out (by omega))
            have hd : decide (n' < pn) = false := decide_eq_false hn
            go_wp2_with fail
            go_quiet (fail)
            go_wp2
            exact ⟨⟨m + 1, by go_num, by omega, HNX.out, K3.blk (below_dn _ _)⟩, by simp [intOf]; omega⟩
    · obtain rfl : m = rs.length := by omega
      have hpb := HPB.out _ K
      have c0 := cell_of_heap (i := 0) hpb rfl
      have c1 := cell_of_heap (i := 1) hpb rfl
      have c2 := cell_of_heap (i := 2) hpb rfl
      have c3 := cell_of_heap (i := 3) hpb rfl
      have f0 := frozen_of hpb 0
      have f1 := frozen_of hpb 1
      have f2 := frozen_of hpb 2
      have f3 := frozen_of hpb 3
      have HM : Hid (∀ x ∈ rs, ∃ k, ∃ (hk : k < rs.length), rs[k] = x) := fun x hx => by
        obtain ⟨k, hk, e⟩ := List.mem_iff_getElem.1 hx
        exact ⟨k, hk, e⟩
      rcases HBB.out with ⟨rfl, hno⟩ | ⟨j, hj, rfl, hjm, hjh, hjb⟩
      · have HFN : Hid (Fnd rs a noRes) := .inl ⟨fun r hr => by
          obtain ⟨k, hk, rfl⟩ := HM.out r hr
          exact hno k hk hk, rfl⟩
        clear hno
        go_wp2
        refine bodyPost_ret (results_fd Tryd.results12 rfl rfl rfl (pf_four hpb _ _ _ _)) rfl ⟨_, HFN.out, rfl, pf_bel (K.bel HB.out) (by omega) _ _ _ _⟩
      · obtain ⟨g, off, rfl, hg, _⟩ := HAT.out j hj
        have hcj := (HAT.out.blk (K.bel HB.out)).at j hj
        have HFN : Hid (Fnd rs a ⟨(rs[j]).act, (rs[j]).p, (rs[j]).n, true⟩) := .inr ⟨rs[j], List.getElem_mem hj, hjh, fun r hr hh => by
          obtain ⟨k, hk, rfl⟩ := HM.out r hr
          exact hjb k hk hk hh, rfl⟩
        clear hjh hjb
        generalize rs[j] = r' at hcj HFN
        obtain ⟨⟨v', h', l'⟩, n', act'⟩ := r'
        simp only [RlC] at hcj HFN
        have hji : (j : Int) < (rs.length : Int) := by omega
        have hdj : decide ((j : Int) < 0) = false := decide_eq_false (by omega)
        go_wp2_with fail
        go_region
        go_wp2
        refine bodyPost_ret (results_fd Tryd.results12 rfl rfl rfl (pf_four (w := wr) hpb _ _ _ _)) rfl ⟨_, HFN.out, rfl, (pf_bel (K.bel HB.out) (by omega) _ _ _ _).drew⟩
end Go.Proofs.YtpognbkdafnfjaaDoor
