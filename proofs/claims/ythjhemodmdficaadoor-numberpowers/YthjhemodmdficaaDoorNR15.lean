/- The document's Inv. -/
import Derived.Test.YthjhemodmdficaaDoorNR14
import Derived.Deep.LoopGhost
namespace Go.Proofs.YthjhemodmdficaaDoor
set_option linter.unusedVariables false
open Go.RowKit
theorem RN.sl {w : World} {v : Value} {N : Nat} (h : RN w v N) : ∃ p c, v = .slice p (mny N) c := by
  obtain ⟨ds, hr, rfl, ht⟩ := h
  obtain ⟨p, c, rfl, -⟩ := hr.read
  exact ⟨p, c, by rw [ht.many]⟩
/-- what stands ahead of a step: how often the number is in each of the rests, modulo M. -/
structure Eud (A M O k H N : Nat) : Prop where
  opos : 0 < O
  ole : O ≤ M
  kle : k ≤ M
  gcd : Nat.gcd O k = Nat.gcd M A
  hlt : H < M
  nlt : N < M
  h1 : H * A % M = O % M
  h2 : N * A % M = k % M
theorem eud_start (A M : Nat) (hM : M ≠ 0) : Eud A M M (A % M) 0 (1 % M) where
  opos := by omega
  ole := Nat.le_refl _
  kle := Nat.le_of_lt (Nat.mod_lt _ (by omega))
  gcd := by rw [Nat.gcd_comm M (A % M), ← Nat.gcd_rec]
  hlt := by omega
  nlt := Nat.mod_lt _ (by omega)
  h1 := by simp
  h2 := by rw [Nat.mod_mul_mod, Nat.one_mul, Nat.mod_mod]
theorem eud_step (A M O k H N t X : Nat) (h : Eud A M O k H N) (hk : 0 < k) (ht : O / k * N % M = t) (hX : X = H ∧ t ≤ H ∨ X = H + M ∧ H < t) : Eud A M k (O % k) N (X - t) where
  opos := hk
  ole := h.kle
  kle := Nat.le_trans (Nat.le_of_lt (Nat.mod_lt _ hk)) h.kle
  gcd := by rw [← h.gcd, Nat.gcd_comm k (O % k), ← Nat.gcd_rec, Nat.gcd_comm]
  hlt := h.nlt
  nlt := by
    have := h.hlt
    have h0 : t < M := by rw [← ht]; exact Nat.mod_lt _ (by omega)
    omega
  h1 := h.h2
  h2 := by
    have h0 : t < M := by rw [← ht]; exact Nat.mod_lt _ (by have := h.hlt; omega)
    have e1 : (X - t) * A + t * A = X * A := by
      rw [← Nat.add_mul, Nat.sub_add_cancel (by omega)]
    have e2 : X * A % M = O % M := by
      rcases hX with ⟨rfl, _⟩ | ⟨rfl, _⟩
      · exact h.h1
      · rw [Nat.add_mul, Nat.add_mul_mod_self_left]; exact h.h1
    have e3 : t * A % M = O / k * k % M := by
      rw [← ht, Nat.mod_mul_mod, Nat.mul_assoc, Nat.mul_mod, h.h2, ← Nat.mul_mod]
    have e4 := Nat.div_add_mod O k
    have e5 : ((X - t) * A + O / k * k) % M = (O % k + O / k * k) % M := by
      rw [Nat.add_mod, ← e3, ← Nat.add_mod, e1, e2, Nat.add_comm (O % k), Nat.mul_comm (O / k), e4]
    exact mod_cancel e5
theorem eud_yes (A M H N : Nat) (h : Eud A M 1 0 H N) : InvIs A M (H % M) 0 := by
  refine Or.inl ⟨rfl, Nat.mod_lt _ (by have := h.hlt; omega), ?_⟩
  rw [Nat.mul_mod, Nat.mod_mod, ← Nat.mul_mod, Nat.mul_comm]
  exact h.h1
theorem eud_no (A M O H N : Nat) (h : Eud A M O 0 H N) (h1 : O ≠ 1) : InvIs A M 0 13 := by
  refine Or.inr ⟨rfl, rfl, ?_⟩
  rw [← h.gcd, Nat.gcd_zero_right]
  exact h1
theorem mny_add (X Y a : Nat) (hx : mny X ≤ a) (hy : mny Y ≤ a) : mny (X + Y) ≤ a + 1 := by
  refine mny_small _ _ ?_
  rw [Nat.pow_succ]
  have h1 : X < 4294967296 ^ a := Nat.lt_of_lt_of_le (mny_lt X) (Nat.pow_le_pow_right (by omega) hx)
  have h2 : Y < 4294967296 ^ a := Nat.lt_of_lt_of_le (mny_lt Y) (Nat.pow_le_pow_right (by omega) hy)
  omega
set_option maxRecDepth 100000 in
set_option maxHeartbeats 2000000 in
theorem rinv_in (W : World) (va vm : Value) (A M : Nat) (hA : RN W va A) (hM : RN W vm M) (ha : mny A ≤ 300) (hm : mny M ≤ 300) (hM0 : M ≠ 0) : Calls Tryd.prog 33 #[va, vm] W fun e w' => ∃ v I c, (c = true ∧ InvIs A M I 0 ∨ c = false ∧ I = 0 ∧ InvIs A M 0 13) ∧ e = .returned (.tuple #[v, .bool c]) ∧ RN w' v I ∧ Below W.heap.size W w' := by
  have HDA := Hid.mk (rdiv_in W va vm A M hA hM (by omega) (by omega) hM0)
  have HMZ : Hid (∀ W' : World, Below W.heap.size W W' → RN W' vm M) := fun W' h => hM.blk h
  have HE0 := Hid.mk (eud_start A M hM0)
  have hm0 : 0 < M := Nat.pos_of_ne_zero hM0
  have HLE : Hid (∀ X, X ≤ M → mny X ≤ 300) := fun X h => Nat.le_trans (mny_mono X M h) hm
  have HMM := Hid.mk hm
  clear hA hM
  go_enter Tryd.func33, Tryd.ntmps33
  go_wp2_with fail
  refine HDA.out.mono ?_
  rintro e w1 ⟨q1, r1, rfl, hq1, hr1, hb1⟩
  have HR1 := Hid.mk hr1
  have hb1' : Below W.heap.size W (w1.alloc (.cells #[.int .u32 1] 24)) := bthen hb1 ((Below.refl _ _).alloc (Nat.le_refl _) _)
  have HB1 := Hid.mk hb1'
  have HD1 := Hid.mk (rdiv_in _ _ _ 1 M (RN.one w1) (HMZ.out _ hb1') (by rw [mny_one]; omega) (by omega) hM0)
  clear hq1 hr1 hb1'
  go_wp2_with fail
  refine HD1.out.mono ?_
  rintro e w2 ⟨q2, r2, rfl, hq2, hr2, hb2⟩
  have hbl2 : Below W.heap.size W w2 := bthen HB1.out hb2
  have HR2 := Hid.mk hr2
  have HR1' := Hid.mk ((HR1.out.blk ((Below.refl _ _).alloc (Nat.le_refl _) _)).blk hb2)
  clear hq2 hr2 hb2 HD1 HB1 HR1 hb1
  go_wp2_with fail
  go_loopg [7, 8, 9, 11] (A % M) (fun k rv ov hv nv wr => ∃ O H N, Hid (Eud A M O k H N) ∧ RN wr rv k ∧ RN wr ov O ∧ RN wr hv H ∧ RN wr nv N ∧ Below W.heap.size W wr)
  case atStart => exact ⟨M, 0, 1 % M, HE0, HR1'.out, HMZ.out _ hbl2, RN.zero _, HR2.out, hbl2⟩
  case round =>
    obtain ⟨O, H, N, HU, h7, h8, h9, h11, hbl⟩ := hrel
    clear HR1' HR2 hbl2 HE0
    have mO := HLE.out O HU.out.ole
    have mK := HLE.out gk HU.out.kle
    have mH := HLE.out H (Nat.le_of_lt HU.out.hlt)
    have mN := HLE.out N (Nat.le_of_lt HU.out.nlt)
    have H8 := Hid.mk h8
    have H9 := Hid.mk h9
    have H11 := Hid.mk h11
    have H7 := Hid.mk h7
    obtain ⟨p7, c7, rfl⟩ := h7.sl
    by_cases hk : gk = 0
    · subst hk
      rw [mny_zero] at H7 ⊢
      have hb3 : Below W.heap.size W (wr.alloc (.cells #[.int .u32 1] 24)) := bthen hbl ((Below.refl _ _).alloc (Nat.le_refl _) _)
      have HB3 := Hid.mk hb3
      have HC := Hid.mk (rcmp_in _ _ _ O 1 (H8.out.blk ((Below.refl _ _).alloc (Nat.le_refl _) _)) (RN.one wr))
      have H93 := Hid.mk (H9.out.blk ((Below.refl wr.heap.size wr).alloc (Nat.le_refl _) (.cells #[.int .u32 1] 24)))
      have ho := HU.out.opos
      clear h7 h8 h9 h11 hb3
      by_cases ho1 : O = 1
      · subst ho1
        rw [cmpI_eq] at HC
        have HY := Hid.mk (eud_yes A M H N HU.out)
        go_wp2_with fail
        refine HC.out.mono ?_
        rintro e w4 ⟨rfl, hd4⟩
        have hb4 := below_drew hd4
        have hbl4 : Below W.heap.size W w4 := bthen HB3.out hb4
        have H94 := Hid.mk (H93.out.blk hb4)
        clear hd4 hb4
        go_wp2_with fail
        refine (rdiv_in _ _ _ H M H94.out (HMZ.out _ hbl4) (by omega) (by have := HMM.out; omega) hM0).mono ?_
        rintro e w5 ⟨q5, r5, rfl, hq5, hr5, hb5⟩
        have HR5 := Hid.mk hr5
        have hbl5 : Below W.heap.size W w5 := bthen hbl4 hb5
        clear hq5 hr5 hb5
        go_wp2
        go_ret2
        exact ⟨r5, H % M, true, .inl ⟨rfl, HY.out⟩, rfl, HR5.out, hbl5⟩
      · rw [cmpI_gt O 1 (by omega)] at HC
        have HN := Hid.mk (eud_no A M O H N HU.out ho1)
        go_wp2_with fail
        refine HC.out.mono ?_
        rintro e w4 ⟨rfl, hd4⟩
        have hb4 := below_drew hd4
        have hbl4 : Below W.heap.size W w4 := bthen HB3.out hb4
        clear hd4 hb4
        go_wp2
        go_ret2
        exact ⟨.slice none 0 0, 0, false, .inr ⟨rfl, rfl, HN.out⟩, rfl, RN.zero _, hbl4⟩
    · have hk0 : 0 < gk := Nat.pos_of_ne_zero hk
      have hml := (mny_ge gk hk).1
      obtain ⟨nk, hnk⟩ : ∃ nk, mny gk = nk := ⟨_, rfl⟩
      rw [hnk] at H7 hml mK ⊢
      have hki : (0 : Int) < (nk : Int) := by omega
      have HD := Hid.mk (rdiv_in _ _ _ O gk H8.out H7.out (by omega) (by omega) hk)
      have hrl : O % gk < gk := Nat.mod_lt _ hk0
      have hqO : O / gk ≤ O := Nat.div_le_self _ _
      have HST := Hid.mk (eud_step A M O gk H N)
      have HNK := Hid.mk hnk
      obtain ⟨q, hq⟩ : ∃ q, O / gk = q := ⟨_, rfl⟩
      rw [hq] at HD hqO HST
      have mq : mny q ≤ 300 := HLE.out q (Nat.le_trans hqO HU.out.ole)
      have mqN := mny_mul q N 300 300 mq mN
      obtain ⟨t, ht⟩ : ∃ t, q * N % M = t := ⟨_, rfl⟩
      have htM : t < M := by rw [← ht]; exact Nat.mod_lt _ hm0
      have HT := Hid.mk ht
      clear h7 h8 h9 h11 hnk hq ht
      go_wp2_with fail
      refine HD.out.mono ?_
      rintro e w3 ⟨q3, r3, rfl, hq3, hr3, hb3⟩
      have hbl3 : Below W.heap.size W w3 := bthen hbl hb3
      have HQ3 := Hid.mk hq3
      have HR3 := Hid.mk hr3
      have H93 := Hid.mk (H9.out.blk hb3)
      have H113 := Hid.mk (H11.out.blk hb3)
      have H73 := Hid.mk (H7.out.blk hb3)
      clear hq3 hr3 hb3
      go_wp2_with fail
      refine (rmul_in _ _ _ q N HQ3.out H113.out (by omega) (by omega)).mono ?_
      rintro e w4 ⟨v4, rfl, hv4, hb4⟩
      have hbl4 : Below W.heap.size W w4 := bthen hbl3 hb4
      have HV4 := Hid.mk hv4
      have HR4 := Hid.mk (HR3.out.blk hb4)
      have H94 := Hid.mk (H93.out.blk hb4)
      have H114 := Hid.mk (H113.out.blk hb4)
      have H74 := Hid.mk (H73.out.blk hb4)
      clear hv4 hb4
      go_wp2_with fail
      refine (rdiv_in _ _ _ (q * N) M HV4.out (HMZ.out _ hbl4) (by omega) (by have := HMM.out; omega) hM0).mono ?_
      rintro e w5 ⟨q5, r5, rfl, hq5, hr5, hb5⟩
      rw [HT.out] at hr5
      have hbl5 : Below W.heap.size W w5 := bthen hbl4 hb5
      have HT5 := Hid.mk hr5
      have HR5 := Hid.mk (HR4.out.blk hb5)
      have H95 := Hid.mk (H94.out.blk hb5)
      have H115 := Hid.mk (H114.out.blk hb5)
      have H75 := Hid.mk (H74.out.blk hb5)
      clear hq5 hr5 hb5
      have HC := Hid.mk (rcmp_in _ _ _ H t H95.out HT5.out)
      by_cases hHt : H < t
      · rw [cmpI_lt _ _ hHt] at HC
        have HEN := Hid.mk (HST.out t (H + M) HU.out hk0 HT.out (.inr ⟨rfl, hHt⟩))
        have mHM := mny_add H M 300 mH HMM.out
        go_wp2_with fail
        refine HC.out.mono ?_
        rintro e w6 ⟨rfl, hd6⟩
        have hb6 := below_drew hd6
        have hbl6 : Below W.heap.size W w6 := bthen hbl5 hb6
        have HT6 := Hid.mk (HT5.out.blk hb6)
        have HR6 := Hid.mk (HR5.out.blk hb6)
        have H96 := Hid.mk (H95.out.blk hb6)
        have H116 := Hid.mk (H115.out.blk hb6)
        have H76 := Hid.mk (H75.out.blk hb6)
        clear hd6 hb6
        go_wp2_with fail
        refine (radd_in _ _ _ H M H96.out (HMZ.out _ hbl6) (by omega) (by have := HMM.out; omega)).mono ?_
        rintro e w7 ⟨v7, rfl, hv7, hb7⟩
        have hbl7 : Below W.heap.size W w7 := bthen hbl6 hb7
        have HV7 := Hid.mk hv7
        have HT7 := Hid.mk (HT6.out.blk hb7)
        have HR7 := Hid.mk (HR6.out.blk hb7)
        have H117 := Hid.mk (H116.out.blk hb7)
        have H77 := Hid.mk (H76.out.blk hb7)
        clear hv7 hb7
        go_wp2_with fail
        refine (rsub_in _ _ _ (H + M) t HV7.out HT7.out (by omega) (by omega)).mono ?_
        rintro e w8 ⟨v8, rfl, hv8, _, hb8⟩
        have hbl8 : Below W.heap.size W w8 := bthen hbl7 hb8
        have HV8 := Hid.mk hv8
        have HR8 := Hid.mk (HR7.out.blk hb8)
        have H118 := Hid.mk (H117.out.blk hb8)
        have H78 := Hid.mk (H77.out.blk hb8)
        clear hv8 hb8
        go_wp2
        go_roundg (O % gk)
        case measure => exact hrl
        case rel => exact ⟨gk, N, H + M - t, HEN, HR8.out, H78.out, H118.out, HV8.out, hbl8⟩
      · have hcv : 0 ≤ cmpI H t := by
          rcases Nat.lt_or_ge t H with h | h
          · rw [cmpI_gt _ _ h]; omega
          · rw [show H = t by omega, cmpI_eq]; omega
        have HEN := Hid.mk (HST.out t H HU.out hk0 HT.out (.inl ⟨rfl, by omega⟩))
        generalize cmpI H t = cv at *
        go_wp2_with fail
        refine HC.out.mono ?_
        rintro e w6 ⟨rfl, hd6⟩
        have hb6 := below_drew hd6
        have hbl6 : Below W.heap.size W w6 := bthen hbl5 hb6
        have HT6 := Hid.mk (HT5.out.blk hb6)
        have HR6 := Hid.mk (HR5.out.blk hb6)
        have H96 := Hid.mk (H95.out.blk hb6)
        have H116 := Hid.mk (H115.out.blk hb6)
        have H76 := Hid.mk (H75.out.blk hb6)
        clear hd6 hb6
        go_wp2_with fail
        refine (rsub_in _ _ _ H t H96.out HT6.out (by omega) (by omega)).mono ?_
        rintro e w8 ⟨v8, rfl, hv8, _, hb8⟩
        have hbl8 : Below W.heap.size W w8 := bthen hbl6 hb8
        have HV8 := Hid.mk hv8
        have HR8 := Hid.mk (HR6.out.blk hb8)
        have H118 := Hid.mk (H116.out.blk hb8)
        have H78 := Hid.mk (H76.out.blk hb8)
        clear hv8 hb8
        go_wp2
        go_roundg (O % gk)
        case measure => exact hrl
        case rel => exact ⟨gk, N, H - t, HEN, HR8.out, H78.out, H118.out, HV8.out, hbl8⟩
end Go.Proofs.YthjhemodmdficaaDoor
