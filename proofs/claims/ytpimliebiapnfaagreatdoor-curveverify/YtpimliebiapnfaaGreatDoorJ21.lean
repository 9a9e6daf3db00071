/- Texts of this proof, joined: NR15, GPad, GRTell, GExam, GRHex, GRUnhex. -/
import Derived.Test.YtpimliebiapnfaaGreatDoorJ20
import Derived.Deep.LoopGhost
import Derived.ArgAppend
import Derived.Lib.ConvBytes
import Derived.Test.YtpimliebiapnfaaGreatDoorJ13
import Derived.Deep.RegionLaw
import Derived.Deep.RegionHeld3
/- The document's Inv. -/
namespace Go.Proofs.YtpimliebiapnfaaGreatDoor.N
set_option linter.unusedVariables false
open Go.RowKit
theorem RN.sl {w : World} {v : Value} {N : Nat} (h : RN w v N) : ∃ p c, v = .slice p (mny N) c := by
  obtain ⟨ds, hr, rfl, ht⟩ := h
  obtain ⟨p, c, rfl, -⟩ := hr.read
  exact ⟨p, c, by rw [ht.many]⟩
structure Eud (A M O k H N : Nat) : Prop where
  opos : 0 < O
  ole : O ≤ M
  kle : k ≤ M
  gcd : Nat.gcd O k = Nat.gcd M A
  hlt : H < M
  nlt : N < M
  h1 : H * A % M = O % M
  h2 : N * A % M = k % M
theorem eud_start (A M : Nat) (hM : M ≠ 0) : Eud A M M (A % M) 0 (1 % M) where
  opos := by omega
  ole := Nat.le_refl _
  kle := Nat.le_of_lt (Nat.mod_lt _ (by omega))
  gcd := by rw [Nat.gcd_comm M (A % M), ← Nat.gcd_rec]
  hlt := by omega
  nlt := Nat.mod_lt _ (by omega)
  h1 := by simp
  h2 := by rw [Nat.mod_mul_mod, Nat.one_mul, Nat.mod_mod]
theorem eud_step (A M O k H N t X : Nat) (h : Eud A M O k H N) (hk : 0 < k) (ht : O / k * N % M = t) (hX : X = H ∧ t ≤ H ∨ X = H + M ∧ H < t) : Eud A M k (O % k) N (X - t) where
  opos := hk
  ole := h.kle
  kle := Nat.le_trans (Nat.le_of_lt (Nat.mod_lt _ hk)) h.kle
  gcd := by rw [← h.gcd, Nat.gcd_comm k (O % k), ← Nat.gcd_rec, Nat.gcd_comm]
  hlt := h.nlt
  nlt := by
    have := h.hlt
    have h0 : t < M := by rw [← ht]; exact Nat.mod_lt _ (by omega)
    omega
  h1 := h.h2
  h2 := by
    have h0 : t < M := by rw [← ht]; exact Nat.mod_lt _ (by have := h.hlt; omega)
    have e1 : (X - t) * A + t * A = X * A := by
      rw [← Nat.add_mul, Nat.sub_add_cancel (by omega)]
    have e2 : X * A % M = O % M := by
      rcases hX with ⟨rfl, _⟩ | ⟨rfl, _⟩
      · exact h.h1
      · rw [Nat.add_mul, Nat.add_mul_mod_self_left]; exact h.h1
    have e3 : t * A % M = O / k * k % M := by
      rw [← ht, Nat.mod_mul_mod, Nat.mul_assoc, Nat.mul_mod, h.h2, ← Nat.mul_mod]
    have e4 := Nat.div_add_mod O k
    have e5 : ((X - t) * A + O / k * k) % M = (O % k + O / k * k) % M := by
      rw [Nat.add_mod, ← e3, ← Nat.add_mod, e1, e2, Nat.add_comm (O % k), Nat.mul_comm (O / k), e4]
    exact mod_cancel e5
theorem eud_yes (A M H N : Nat) (h : Eud A M 1 0 H N) : InvIs A M (H % M) 0 := by
  refine Or.inl ⟨rfl, Nat.mod_lt _ (by have := h.hlt; omega), ?_⟩
  rw [Nat.mul_mod, Nat.mod_mod, ← Nat.mul_mod, Nat.mul_comm]
  exact h.h1
theorem eud_no (A M O H N : Nat) (h : Eud A M O 0 H N) (h1 : O ≠ 1) : InvIs A M 0 13 := by
  refine Or.inr ⟨rfl, rfl, ?_⟩
  rw [← h.gcd, Nat.gcd_zero_right]
  exact h1
theorem mny_add (X Y a : Nat) (hx : mny X ≤ a) (hy : mny Y ≤ a) : mny (X + Y) ≤ a + 1 := by
  refine mny_small _ _ ?_
  rw [Nat.pow_succ]
  have h1 : X < 4294967296 ^ a := Nat.lt_of_lt_of_le (mny_lt X) (Nat.pow_le_pow_right (by omega) hx)
  have h2 : Y < 4294967296 ^ a := Nat.lt_of_lt_of_le (mny_lt Y) (Nat.pow_le_pow_right (by omega) hy)
  omega
set_option maxRecDepth 100000 in
set_option maxHeartbeats 2000000 in
theorem rinv_in (W : World) (va vm : Value) (A M : Nat) (hA : RN W va A) (hM : RN W vm M) (ha : mny A ≤ 300) (hm : mny M ≤ 300) (hM0 : M ≠ 0) : Calls Tryz.prog 72 #[va, vm] W fun e w' => ∃ v I c, (c = true ∧ InvIs A M I 0 ∨ c = false ∧ I = 0 ∧ InvIs A M 0 13) ∧ e = .returned (.tuple #[v, .bool c]) ∧ RN w' v I ∧ Below W.heap.size W w' := by
  have HDA := Hid.mk (rdiv_in W va vm A M hA hM (by omega) (by omega) hM0)
  have HMZ : Hid (∀ W' : World, Below W.heap.size W W' → RN W' vm M) := fun W' h => hM.blk h
  have HE0 := Hid.mk (eud_start A M hM0)
  have hm0 : 0 < M := Nat.pos_of_ne_zero hM0
  have HLE : Hid (∀ X, X ≤ M → mny X ≤ 300) := fun X h => Nat.le_trans (mny_mono X M h) hm
  have HMM := Hid.mk hm
  clear hA hM
  go_enter Tryz.func72, Tryz.ntmps72
  go_wp2_with fail
  refine HDA.out.mono ?_
  rintro e w1 ⟨q1, r1, rfl, hq1, hr1, hb1⟩
  have HR1 := Hid.mk hr1
  have hb1' : Below W.heap.size W (w1.alloc (.cells #[.int .u32 1] 35)) := bthen hb1 ((Below.refl _ _).alloc (Nat.le_refl _) _)
  have HB1 := Hid.mk hb1'
  have HD1 := Hid.mk (rdiv_in _ _ _ 1 M (RN.one w1) (HMZ.out _ hb1') (by rw [mny_one]; omega) (by omega) hM0)
  clear hq1 hr1 hb1'
  go_wp2_with fail
  refine HD1.out.mono ?_
  rintro e w2 ⟨q2, r2, rfl, hq2, hr2, hb2⟩
  have hbl2 : Below W.heap.size W w2 := bthen HB1.out hb2
  have HR2 := Hid.mk hr2
  have HR1' := Hid.mk ((HR1.out.blk ((Below.refl _ _).alloc (Nat.le_refl _) _)).blk hb2)
  clear hq2 hr2 hb2 HD1 HB1 HR1 hb1
  go_wp2_with fail
  go_loopg [7, 8, 9, 11] (A % M) (fun k rv ov hv nv wr => ∃ O H N, Hid (Eud A M O k H N) ∧ RN wr rv k ∧ RN wr ov O ∧ RN wr hv H ∧ RN wr nv N ∧ Below W.heap.size W wr)
  case atStart => exact ⟨M, 0, 1 % M, HE0, HR1'.out, HMZ.out _ hbl2, RN.zero _, HR2.out, hbl2⟩
  case round =>
    obtain ⟨O, H, N, HU, h7, h8, h9, h11, hbl⟩ := hrel
    clear HR1' HR2 hbl2 HE0
    have mO := HLE.out O HU.out.ole
    have mK := HLE.out gk HU.out.kle
    have mH := HLE.out H (Nat.le_of_lt HU.out.hlt)
    have mN := HLE.out N (Nat.le_of_lt HU.out.nlt)
    have H8 := Hid.mk h8
    have H9 := Hid.mk h9
    have H11 := Hid.mk h11
    have H7 := Hid.mk h7
    obtain ⟨p7, c7, rfl⟩ := h7.sl
    by_cases hk : gk = 0
    · subst hk
      rw [mny_zero] at H7 ⊢
      have hb3 : Below W.heap.size W (wr.alloc (.cells #[.int .u32 1] 35)) := bthen hbl ((Below.refl _ _).alloc (Nat.le_refl _) _)
      have HB3 := Hid.mk hb3
      have HC := Hid.mk (rcmp_in _ _ _ O 1 (H8.out.blk ((Below.refl _ _).alloc (Nat.le_refl _) _)) (RN.one wr))
      have H93 := Hid.mk (H9.out.blk ((Below.refl wr.heap.size wr).alloc (Nat.le_refl _) (.cells #[.int .u32 1] 35)))
      have ho := HU.out.opos
      clear h7 h8 h9 h11 hb3
      by_cases ho1 : O = 1
      · subst ho1
        rw [cmpI_eq] at HC
        have HY := Hid.mk (eud_yes A M H N HU.out)
        go_wp2_with fail
        refine HC.out.mono ?_
        rintro e w4 ⟨rfl, hd4⟩
        have hb4 := below_drew hd4
        have hbl4 : Below W.heap.size W w4 := bthen HB3.out hb4
        have H94 := Hid.mk (H93.out.blk hb4)
        clear hd4 hb4
        go_wp2_with fail
        refine (rdiv_in _ _ _ H M H94.out (HMZ.out _ hbl4) (by omega) (by have := HMM.out; omega) hM0).mono ?_
        rintro e w5 ⟨q5, r5, rfl, hq5, hr5, hb5⟩
        have HR5 := Hid.mk hr5
        have hbl5 : Below W.heap.size W w5 := bthen hbl4 hb5
        clear hq5 hr5 hb5
        go_wp2
        go_ret2
        exact ⟨r5, H % M, true, .inl ⟨rfl, HY.out⟩, rfl, HR5.out, hbl5⟩
      · rw [cmpI_gt O 1 (by omega)] at HC
        have HN := Hid.mk (eud_no A M O H N HU.out ho1)
        go_wp2_with fail
        refine HC.out.mono ?_
        rintro e w4 ⟨rfl, hd4⟩
        have hb4 := below_drew hd4
        have hbl4 : Below W.heap.size W w4 := bthen HB3.out hb4
        clear hd4 hb4
        go_wp2
        go_ret2
        exact ⟨.slice none 0 0, 0, false, .inr ⟨rfl, rfl, HN.out⟩, rfl, RN.zero _, hbl4⟩
    · have hk0 : 0 < gk := Nat.pos_of_ne_zero hk
      have hml := (mny_ge gk hk).1
      obtain ⟨nk, hnk⟩ : ∃ nk, mny gk = nk := ⟨_, rfl⟩
      rw [hnk] at H7 hml mK ⊢
      have hki : (0 : Int) < (nk : Int) := by omega
      have HD := Hid.mk (rdiv_in _ _ _ O gk H8.out H7.out (by omega) (by omega) hk)
      have hrl : O % gk < gk := Nat.mod_lt _ hk0
      have hqO : O / gk ≤ O := Nat.div_le_self _ _
      have HST := Hid.mk (eud_step A M O gk H N)
      have HNK := Hid.mk hnk
      obtain ⟨q, hq⟩ : ∃ q, O / gk = q := ⟨_, rfl⟩
      rw [hq] at HD hqO HST
      have mq : mny q ≤ 300 := HLE.out q (Nat.le_trans hqO HU.out.ole)
      have mqN := mny_mul q N 300 300 mq mN
      obtain ⟨t, ht⟩ : ∃ t, q * N % M = t := ⟨_, rfl⟩
      have htM : t < M := by rw [← ht]; exact Nat.mod_lt _ hm0
      have HT := Hid.mk ht
      clear h7 h8 h9 h11 hnk hq ht
      go_wp2_with fail
      refine HD.out.mono ?_
      rintro e w3 ⟨q3, r3, rfl, hq3, hr3, hb3⟩
      have hbl3 : Below W.heap.size W w3 := bthen hbl hb3
      have HQ3 := Hid.mk hq3
      have HR3 := Hid.mk hr3
      have H93 := Hid.mk (H9.out.blk hb3)
      have H113 := Hid.mk (H11.out.blk hb3)
      have H73 := Hid.mk (H7.out.blk hb3)
      clear hq3 hr3 hb3
      go_wp2_with fail
      refine (rmul_in _ _ _ q N HQ3.out H113.out (by omega) (by omega)).mono ?_
      rintro e w4 ⟨v4, rfl, hv4, hb4⟩
      have hbl4 : Below W.heap.size W w4 := bthen hbl3 hb4
      have HV4 := Hid.mk hv4
      have HR4 := Hid.mk (HR3.out.blk hb4)
      have H94 := Hid.mk (H93.out.blk hb4)
      have H114 := Hid.mk (H113.out.blk hb4)
      have H74 := Hid.mk (H73.out.blk hb4)
      clear hv4 hb4
      go_wp2_with fail
      refine (rdiv_in _ _ _ (q * N) M HV4.out (HMZ.out _ hbl4) (by omega) (by have := HMM.out; omega) hM0).mono ?_
      rintro e w5 ⟨q5, r5, rfl, hq5, hr5, hb5⟩
      rw [HT.out] at hr5
      have hbl5 : Below W.heap.size W w5 := bthen hbl4 hb5
      have HT5 := Hid.mk hr5
      have HR5 := Hid.mk (HR4.out.blk hb5)
      have H95 := Hid.mk (H94.out.blk hb5)
      have H115 := Hid.mk (H114.out.blk hb5)
      have H75 := Hid.mk (H74.out.blk hb5)
      clear hq5 hr5 hb5
      have HC := Hid.mk (rcmp_in _ _ _ H t H95.out HT5.out)
      by_cases hHt : H < t
      · rw [cmpI_lt _ _ hHt] at HC
        have HEN := Hid.mk (HST.out t (H + M) HU.out hk0 HT.out (.inr ⟨rfl, hHt⟩))
        have mHM := mny_add H M 300 mH HMM.out
        go_wp2_with fail
        refine HC.out.mono ?_
        rintro e w6 ⟨rfl, hd6⟩
        have hb6 := below_drew hd6
        have hbl6 : Below W.heap.size W w6 := bthen hbl5 hb6
        have HT6 := Hid.mk (HT5.out.blk hb6)
        have HR6 := Hid.mk (HR5.out.blk hb6)
        have H96 := Hid.mk (H95.out.blk hb6)
        have H116 := Hid.mk (H115.out.blk hb6)
        have H76 := Hid.mk (H75.out.blk hb6)
        clear hd6 hb6
        go_wp2_with fail
        refine (radd_in _ _ _ H M H96.out (HMZ.out _ hbl6) (by omega) (by have := HMM.out; omega)).mono ?_
        rintro e w7 ⟨v7, rfl, hv7, hb7⟩
        have hbl7 : Below W.heap.size W w7 := bthen hbl6 hb7
        have HV7 := Hid.mk hv7
        have HT7 := Hid.mk (HT6.out.blk hb7)
        have HR7 := Hid.mk (HR6.out.blk hb7)
        have H117 := Hid.mk (H116.out.blk hb7)
        have H77 := Hid.mk (H76.out.blk hb7)
        clear hv7 hb7
        go_wp2_with fail
        refine (rsub_in _ _ _ (H + M) t HV7.out HT7.out (by omega) (by omega)).mono ?_
        rintro e w8 ⟨v8, rfl, hv8, _, hb8⟩
        have hbl8 : Below W.heap.size W w8 := bthen hbl7 hb8
        have HV8 := Hid.mk hv8
        have HR8 := Hid.mk (HR7.out.blk hb8)
        have H118 := Hid.mk (H117.out.blk hb8)
        have H78 := Hid.mk (H77.out.blk hb8)
        clear hv8 hb8
        go_wp2
        go_roundg (O % gk)
        case measure => exact hrl
        case rel => exact ⟨gk, N, H + M - t, HEN, HR8.out, H78.out, H118.out, HV8.out, hbl8⟩
      · have hcv : 0 ≤ cmpI H t := by
          rcases Nat.lt_or_ge t H with h | h
          · rw [cmpI_gt _ _ h]; omega
          · rw [show H = t by omega, cmpI_eq]; omega
        have HEN := Hid.mk (HST.out t H HU.out hk0 HT.out (.inl ⟨rfl, by omega⟩))
        generalize cmpI H t = cv at *
        go_wp2_with fail
        refine HC.out.mono ?_
        rintro e w6 ⟨rfl, hd6⟩
        have hb6 := below_drew hd6
        have hbl6 : Below W.heap.size W w6 := bthen hbl5 hb6
        have HT6 := Hid.mk (HT5.out.blk hb6)
        have HR6 := Hid.mk (HR5.out.blk hb6)
        have H96 := Hid.mk (H95.out.blk hb6)
        have H116 := Hid.mk (H115.out.blk hb6)
        have H76 := Hid.mk (H75.out.blk hb6)
        clear hd6 hb6
        go_wp2_with fail
        refine (rsub_in _ _ _ H t H96.out HT6.out (by omega) (by omega)).mono ?_
        rintro e w8 ⟨v8, rfl, hv8, _, hb8⟩
        have hbl8 : Below W.heap.size W w8 := bthen hbl6 hb8
        have HV8 := Hid.mk hv8
        have HR8 := Hid.mk (HR6.out.blk hb8)
        have H118 := Hid.mk (H116.out.blk hb8)
        have H78 := Hid.mk (H76.out.blk hb8)
        clear hv8 hb8
        go_wp2
        go_roundg (O % gk)
        case measure => exact hrl
        case rel => exact ⟨gk, N, H - t, HEN, HR8.out, H78.out, H118.out, HV8.out, hbl8⟩
end Go.Proofs.YtpimliebiapnfaaGreatDoor.N
/- The document's padded: bytes appended to what '[]byte(s)' made. -/
namespace Go.Proofs.YtpimliebiapnfaaGreatDoor.G
set_option linter.unusedVariables false
open Go.RowKit
theorem storeCells_clear (P : Program) (g o : Nat) (t : TypeId) (fz : Nat × Nat) (vs : List Value) : ∀ (i : Nat) (cur : Array Value) (w : World), w.heap[g]? = some (.cells cur t fz) → (fz.2 = 0 ∨ o + i + vs.length ≤ fz.1) → o + i + vs.length ≤ cur.size → (∀ v ∈ vs, v.oneCell' = true) →
    (storeCells ⟨g, o, none⟩ vs i).run P w = .ok () (w.setRow g (cur.toList.take (o + i) ++ vs ++ cur.toList.drop (o + i + vs.length)).toArray) := by
  induction vs with
  | nil =>
    intro i cur w hg _ _ _
    simp only [storeCells, List.append_nil, List.length_nil, Nat.add_zero, List.take_append_drop, Array.toArray_toList]
    rw [setRow_self w g cur t fz hg]
    rfl
  | cons v rest ih =>
    intro i cur w hg hfz hl h1
    rw [List.length_cons] at hfz hl
    have hi : o + i < cur.size := by omega
    have hadd : (⟨g, o, none⟩ : Addr).add i = ⟨g, o + i, none⟩ := Addr.add_lit ..
    have hcell : w.cell? ⟨g, o + i, none⟩ = some cur[o + i] := by simp [World.cell?, hg, hi]
    have hfro : w.frozen? ⟨g, o + i, none⟩ = false := by
      obtain ⟨lo, hi'⟩ := fz
      simp only [World.frozen?, hg, Bool.and_eq_false_iff, decide_eq_false_iff_not]
      simp only at hfz
      omega
    have hst : (store ((⟨g, o, none⟩ : Addr).add i) v).run P w = .ok () (w.setRow g (cur.setIfInBounds (o + i) v)) := by
      rw [hadd, run_store P w _ v _ (h1 v (by simp)), hcell]
      simp [hfro, setCell_eq_setRow w g (o + i) cur t fz v hg]
    have h2 := ih (i + 1) (cur.setIfInBounds (o + i) v) (w.setRow g (cur.setIfInBounds (o + i) v)) (setRow_heap w g cur _ t _ hg) (by omega) (by simp; omega) (fun x hx => h1 x (by simp [hx]))
    simp only [storeCells, Sem.run_bind, hst, Result.andThen_ok, h2, setRow_setRow]
    congr 3
    have e := list_seg_step cur.toList (o + i) v rest (by simp; omega)
    simpa [Array.toList_setIfInBounds, Nat.add_assoc] using e
def OwnsC (w : World) (base : Nat) (v : Value) (xs : List UInt8) : Prop :=
  ∃ g cap cur fz, v = .slice (some ⟨g, 0, none⟩) xs.length cap ∧ base ≤ g ∧ w.heap[g]? = some (.cells cur 5 fz) ∧ (fz.2 = 0 ∨ cap ≤ fz.1) ∧ xs.length ≤ cap ∧ cap ≤ maxLen ∧ cur.size = cap ∧ cur.toList.take xs.length = bcl xs
theorem OwnsC.lt {w : World} {base : Nat} {v : Value} {xs : List UInt8} (h : OwnsC w base v xs) : ∀ k, v.ownBlock = some k → base ≤ k := by
  obtain ⟨g, cap, cur, fz, rfl, hb, _⟩ := h
  intro k hk
  simp [Value.ownBlock] at hk
  omega
theorem OwnsC.conv (w : World) (s : ByteArray) (hs : s.size ≤ maxLen) : OwnsC (Lib.bytesWorld w 5 s) w.heap.size (.slice (some ⟨w.heap.size, 0, none⟩) s.size (grownCap w s.size 0 5)) s.data.toList := by
  have hge := grownCap_ge w s.size 0 5
  have hz : (Lib.bytesCells w 5 s).size = grownCap w s.size 0 5 := by simp [Lib.bytesCells]; omega
  refine ⟨w.heap.size, grownCap w s.size 0 5, _, _, by rw [size_list], Nat.le_refl _, Lib.bytesWorld_at_new w 5 s, .inr (by rw [hz]; exact Nat.le_refl _), by rw [size_list]; exact hge, grownCap_le_maxLen w s.size 0 5 hs, hz, ?_⟩
  simp only [Lib.bytesCells, Array.toList_append, Array.toList_map, bcl]
  rw [List.take_append_of_le_length (by simp)]
  exact List.take_of_length_le (by simp)
theorem OwnsC.back {w : World} {base : Nat} {v : Value} {xs : List UInt8} (h : OwnsC w base v xs) : (convert 90 9 v).run Tryz.prog w = .ok (.string ⟨xs.toArray⟩) w := by
  obtain ⟨g, cap, cur, fz, rfl, _, hg, _, _, _, _, ht⟩ := h
  refine run_convert_bytes_back (P := Tryz.prog) w 90 9 5 ⟨g, 0, none⟩ cap xs Tryz.underlying90 Tryz.underlying5 Tryz.underlying9 (fun j hj => ?_)
  rw [addr_at, cell_of_row w g j cur 5 fz hg]
  have : (cur.toList.take xs.length)[j]? = (bcl xs)[j]? := by rw [ht]
  rw [List.getElem?_take_of_lt hj] at this
  simpa [bcl, hj] using this
theorem wpList_append_C1 (w : World) {ops : Array Oper} {rest : List Oper} {o : Oper} {a : Act} {Q : Exit → Act → World → Prop} (hgd : o.guard = none) (sl x : Operand)
    (ho : o.op = .call { callee := .builtin .append, args := #[sl, x], argTypes := #[90, 90] })
    (i0 : TypeInfo) (hi : Tryz.prog.info? 5 = some i0) (hz : i0.zero = some (.int .u8 0)) (hsize : i0.size = 1) (hby : i0.bytes = 1) (base : Nat) (v : Value) (xs : List UInt8) (hs : a.eval sl = v) (hown : OwnsC w base v xs) (b : Nat) (y : UInt8) (hx : a.eval x = .slice (some ⟨b, 0, none⟩) 1 1)
    (hy : w.cell? ⟨b, 0, none⟩ = some (.int .u8 (y.toNat : Int))) (h63 : xs.length + 1 ≤ 140737488355328) (hbase : base ≤ w.heap.size)
    (h : ∀ v' w', OwnsC w' base v' (xs ++ [y]) → w.grownBy w' v.ownBlock → wpList Tryz.prog ops Q rest (a.put o.dst v') w') : wpList Tryz.prog ops Q (o :: rest) a w := by
  have hown' := hown
  obtain ⟨g, cap, cur, fz, rfl, hbg, hg, hfz, hnc, hcm, hcs, htake⟩ := hown
  have hln : (xs ++ [y]).length = xs.length + 1 := by simp
  have holds : ∀ j u, (bcl xs)[j]? = some u → w.cell? ((⟨g, 0, none⟩ : Addr).add j) = some u := by
    intro j u hu
    rw [addr_at, cell_of_row w g j cur 5 fz hg]
    rw [← htake, List.getElem?_take] at hu
    split at hu
    · simpa using hu
    · cases hu
  have hnew : ∀ j u, ([.int .u8 (y.toNat : Int)] : List Value)[j]? = some u → w.cell? ((⟨b, 0, none⟩ : Addr).add j) = some u := by
    intro j u hu
    match j, hu with
    | 0, hu => rw [addr_at]; cases hu; exact hy
  by_cases hroom : xs.length + 1 ≤ cap
  · have hld := run_loadCells_list (P := Tryz.prog) w ⟨b, 0, none⟩ [.int .u8 (y.toNat : Int)] hnew
    have hst := storeCells_clear Tryz.prog g xs.length 5 fz [.int .u8 (y.toNat : Int)] 0 cur w hg (by simp only [List.length_singleton]; omega) (by simp only [List.length_singleton]; omega) (by simp [Value.oneCell'])
    simp only [Nat.add_zero, List.length_singleton] at hst hld
    have hr : (Builtin.append_ #[90, 90] o.type #[.slice (some ⟨g, 0, none⟩) xs.length cap, .slice (some ⟨b, 0, none⟩) 1 1]).run Tryz.prog w = .ok (.slice (some ⟨g, 0, none⟩) (xs.length + 1) cap) (w.setRow g (cur.toList.take xs.length ++ [Value.int .u8 (y.toNat : Int)] ++ cur.toList.drop (xs.length + 1)).toArray) := by
      simp [Builtin.append_, run_underlying Tryz.underlying90, sizeOf, typeInfo, hi, hsize, Builtin.lenOf, hroom, Builtin.firstCells, hld, Addr.add_lit, hst]
    refine wpList_plain hgd fun K hK => ?_
    unfold Oper.wp execOp
    simp only [ho, resolve, invoke, builtin, Sem.run_bind, Sem.run_pure, Result.andThen_ok, List.map_toArray, List.map_cons, List.map_nil, hs, hx, hr]
    refine hK _ _ (h _ _ ?_ ⟨rfl, rfl, rfl, by simp, fun k _ hk => setRow_other w g k _ (fun e => hk (by simp [Value.ownBlock, e]))⟩)
    refine ⟨g, cap, _, fz, by rw [hln], hbg, setRow_heap w g cur _ 5 _ hg, hfz, by rw [hln]; exact hroom, hcm, ?_, ?_⟩
    · simp only [List.size_toArray, List.length_append, List.length_take, List.length_drop, Array.length_toList, List.length_singleton]
      omega
    · rw [htake, bcl_app]
      exact List.take_left' (by simp [bcl])
  · refine wpList_append_grows w hgd sl x 90 ho 5 i0 (.int .u8 0) 1 1 Tryz.underlying90 hi hz hsize hby rfl (by decide) (some ⟨g, 0, none⟩) xs.length cap (bcl xs) hs (by simp) (by simp [bcl]) (fun b' hb' j u hu => by cases hb'; exact holds j u hu) ⟨b, 0, none⟩ 1 1 [.int .u8 (y.toNat : Int)] hx rfl hnew (by simp [Value.oneCell']) (by omega) (by unfold maxLen; omega) (by omega) ?_
    intro v' w' ho' hgr
    obtain ⟨a1, a2, a3, a4, a5⟩ := hgr
    refine h v' w' ?_ ⟨a1, a2, a3, a4, fun k hk _ => a5 k hk (by simp)⟩
    rcases ho'.2 with ⟨_, h0⟩ | ⟨g', cap', cur', hv, hb', hh, hnc', hcm', hcs', ht'⟩
    · omega
    · refine ⟨g', cap', cur', (0, 0), by rw [hln]; exact hv, Nat.le_trans hbase hb', hh, .inl rfl, by rw [hln]; exact hnc', hcm', by rw [hcs']; omega, ?_⟩
      rw [Nat.mul_one] at ht'
      rw [hln, ht', bcl_app]
      rfl
theorem OwnsC.alloc {w : World} {base : Nat} {v : Value} {xs : List UInt8} (h : OwnsC w base v xs) (o : Obj) : OwnsC (w.alloc o) base v xs := by
  obtain ⟨g, cap, cur, fz, hv, hbg, hg, r⟩ := h
  exact ⟨g, cap, cur, fz, hv, hbg, (Below.heap_alloc w o g (box_lt hg)).trans hg, r⟩
theorem OwnsC.form {w : World} {base : Nat} {v : Value} {xs : List UInt8} (h : OwnsC w base v xs) {p : Nat} (hp : xs.length = p) : ∃ g cap, v = .slice (some ⟨g, 0, none⟩) p cap := by
  obtain ⟨g, cap, cur, fz, hv, _⟩ := h
  subst hp
  exact ⟨g, cap, hv⟩
theorem one_cell (X : World) (y : UInt8) : (X.alloc (.cells #[.int .u8 (y.toNat : Int)] 5)).cell? ⟨X.heap.size, 0, none⟩ = some (.int .u8 (y.toNat : Int)) := by
  exact (cells_at (j := 0) (heap_new X (.cells #[.int .u8 (y.toNat : Int)] 5)) rfl).1
def slLen : Value → Nat
  | .slice _ n _ => n
  | _ => 0
def padL (l : List UInt8) : List UInt8 := (List.range (64 * nb l.length)).map (padAt l)
theorem pad_eq (l : List UInt8) (z : Nat) (hz : z = 64 * nb l.length - 8 - (l.length + 1)) : (l ++ 128 :: List.replicate z 0) ++ endT (8 * l.length) 8 = padL l := by
  have hnb : 64 * nb l.length ≥ l.length + 9 := by unfold nb; omega
  apply List.ext_getElem?
  intro k
  unfold padL
  rw [List.getElem?_map]
  by_cases hk : k < 64 * nb l.length
  · rw [List.getElem?_range hk]
    show _ = some (padAt l k)
    unfold padAt
    rw [List.getElem?_append, List.length_append, List.length_cons, List.length_replicate]
    by_cases h1 : k < l.length
    · rw [if_pos (by omega), if_pos h1, List.getElem?_append_left h1, List.getElem?_eq_getElem h1]; rfl
    · rw [if_neg h1]
      by_cases h2 : k = l.length
      · rw [if_pos (by omega), if_pos h2, List.getElem?_append_right (by omega), h2, Nat.sub_self]; rfl
      · rw [if_neg h2]
        by_cases h3 : k < 64 * nb l.length - 8
        · rw [if_pos (by omega), if_pos h3, List.getElem?_append_right (by omega), show k - l.length = (k - l.length - 1) + 1 by omega, List.getElem?_cons_succ, List.getElem?_replicate, if_pos (by omega)]
        · rw [if_neg (by omega), if_neg h3]
          obtain ⟨j, hj, hj8⟩ : ∃ j, k - (l.length + (z + 1)) = j ∧ j < 8 := ⟨_, rfl, by omega⟩
          rw [hj, show 64 * nb l.length - 1 - k = 7 - j by omega]
          rcases (show j = 0 ∨ j = 1 ∨ j = 2 ∨ j = 3 ∨ j = 4 ∨ j = 5 ∨ j = 6 ∨ j = 7 by omega) with rfl | rfl | rfl | rfl | rfl | rfl | rfl | rfl <;> rfl
  · rw [List.getElem?_eq_none (by rw [List.length_append, List.length_append, List.length_cons, List.length_replicate, endT_len]; omega), List.getElem?_eq_none (by rw [List.length_range]; omega)]
    rfl
theorem endT_take (m t : Nat) (ht : t < 8) : (endT m 8).take (t + 1) = (endT m 8).take t ++ [bt m (7 - t)] := by
  rcases (show t = 0 ∨ t = 1 ∨ t = 2 ∨ t = 3 ∨ t = 4 ∨ t = 5 ∨ t = 6 ∨ t = 7 by omega) with rfl | rfl | rfl | rfl | rfl | rfl | rfl | rfl <;> rfl
set_option maxRecDepth 100000 in
set_option maxHeartbeats 2000000 in
theorem padded_in (s : ByteArray) (hs : s.size ≤ 140737488351232) (W : World) :
    Calls Tryz.prog 68 #[.string s] W fun e w' => e = .returned (.string ⟨(padL s.data.toList).toArray⟩) ∧ Below W.heap.size W w' := by
  obtain ⟨i0, hi, hz0, hz1, hz2⟩ := info_of info5
  obtain ⟨n, hn⟩ : ∃ n, s.size = n := ⟨_, rfl⟩
  obtain ⟨l, hl⟩ : ∃ l, s.data.toList = l := ⟨_, rfl⟩
  have HLN : Hid (l.length = n) := by rw [Hid, ← hl, size_list]; exact hn
  obtain ⟨z, hz⟩ : ∃ z, z = 64 * nb n - 8 - (n + 1) := ⟨_, rfl⟩
  have HPE := Hid.mk (pad_eq l z (by rw [HLN.out]; exact hz))
  rw [HLN.out] at HPE
  have hcv := conv_bytes s
  have HC0 : Hid (∀ W : World, OwnsC (Lib.bytesWorld W 5 s) W.heap.size (.slice (some ⟨W.heap.size, 0, none⟩) n (grownCap W n 0 5)) l) := fun W => by
    have h := OwnsC.conv W s (by unfold maxLen; omega)
    rwa [hl, hn] at h
  have HB0 : Hid (∀ W : World, Below W.heap.size W (Lib.bytesWorld W 5 s)) := conv_below s
  rw [hl, ← HPE.out]
  rw [hn] at hcv
  have hzn : z ≤ 63 := by rw [hz]; unfold nb; omega
  have HZ : Hid (∀ j, j ≤ z → ((n + 1 + j) % 64 = 56 ↔ j = z)) := fun j hj => by rw [hz] at hj ⊢; unfold nb at hj ⊢; omega
  have hnl : n ≤ 140737488351232 := by omega
  clear hz hl HPE
  go_enter Tryz.func68, Tryz.ntmps68
  go_wp2_with (at_builtin; refine wpList_append_C1 _ rfl _ _ rfl i0 hi hz0 hz1 hz2 W.heap.size _ l rfl ((HC0.out W).alloc _) _ 128 rfl (one_cell _ 128) (by rw [HLN.out]; omega) (Nat.le_trans (HB0.out W).size (by simp)) ?_; intro v1 w1 hown1 hgrow1)
  have B1 : Below W.heap.size W w1 := ((HB0.out W).alloc (HB0.out W).size _).grown hgrow1 (Nat.le_trans (HB0.out W).size (by simp)) (fun k hk => (HC0.out W).lt k hk)
  have O1 := Hid.mk hown1
  clear hown1 hgrow1 HC0 HB0 hcv
  go_loopw [4] (fun v wr => ∃ j, j ≤ z ∧ OwnsC wr W.heap.size v (l ++ 128 :: List.replicate j 0) ∧ Below W.heap.size W wr) (fun v _ => (n + 1 + z) - slLen v)
  case atStart => exact ⟨0, by omega, O1.out, B1⟩
  case round =>
    obtain ⟨j, hj, hown, hbl⟩ := hrel
    obtain ⟨p, hp⟩ : ∃ p, n + 1 + j = p := ⟨_, rfl⟩
    have hpl : (l ++ 128 :: List.replicate j 0).length = p := by rw [List.length_append, List.length_cons, List.length_replicate, HLN.out]; omega
    obtain ⟨g, cap, rfl⟩ := hown.form hpl
    have HO := Hid.mk hown
    have HZJ := HZ.out j hj
    rw [hp] at HZJ
    have hpn : p ≤ 140737488355000 := by omega
    have hsz := hbl.size
    have HPL := Hid.mk hpl
    have HPP := Hid.mk hp
    clear hown hpl hp
    by_cases he : j = z
    · have h56 : p % 64 = 56 := HZJ.2 he
      have r1 : (p : Int).tmod 64 = 56 := by rw [Int.tmod_eq_emod_of_nonneg (by omega)]; omega
      have r2 : (p : Int) % 64 = 56 := by omega
      have HEQ : Hid (j = z) := he
      clear HZJ h56 he
      have HOZ : Hid (OwnsC wr W.heap.size (.slice (some ⟨g, 0, none⟩) p cap) (l ++ 128 :: List.replicate z 0)) := by rw [← HEQ.out]; exact HO.out
      have HLZ : Hid ((l ++ 128 :: List.replicate z 0).length = p) := by rw [← HEQ.out]; exact HPL.out
      obtain ⟨pre, hpre⟩ : ∃ pre, l ++ 128 :: List.replicate z 0 = pre := ⟨_, rfl⟩
      rw [hpre] at HOZ HLZ
      have HPRE := Hid.mk hpre
      clear hpre
      clear HO HPL HPP HEQ HZ O1 B1
      go_wp2_with fail
      go_loopw [4, 5] (fun v i w2 => ∃ t : Nat, t ≤ 8 ∧ i = .int .i64 (7 - (t : Int)) ∧ OwnsC w2 W.heap.size v (pre ++ (endT (8 * n) 8).take t) ∧ Below W.heap.size W w2) (fun _ i _ => (intOf i + 1).toNat)
      case atStart => exact ⟨0, by omega, rfl, by rw [List.take_zero, List.append_nil]; exact HOZ.out, hbl⟩
      case round =>
        obtain ⟨t, ht, rfl, hown, hbl2⟩ := hrel
        have hlt : (pre ++ (endT (8 * n) 8).take t).length = p + t := by rw [List.length_append, HLZ.out, List.length_take, endT_len]; omega
        obtain ⟨g2, cap2, rfl⟩ := hown.form hlt
        have HO2 := Hid.mk hown
        have HL2 := Hid.mk hlt
        have hsz2 := hbl2.size
        clear hown hlt
        by_cases h8 : t < 8
        · have hbv : (8 * (n : Int)) / 2 ^ (8 * (7 - t)) % 256 = ((bt (8 * n) (7 - t)).toNat : Int) := by
            have := bt_int (8 * n) (7 - t)
            rw [Int.natCast_mul] at this
            exact this.symm
          have HTK := Hid.mk (endT_take (8 * n) t h8)
          generalize bt (8 * n) (7 - t) = y at hbv HTK
          have hsh : (8 * (7 - (t : Int))).toNat = 8 * (7 - t) := by omega
          have hge : (0 : Int) ≤ 7 - (t : Int) := by omega
          go_wp2_with (at_builtin; refine wpList_append_C1 _ rfl _ _ rfl i0 hi hz0 hz1 hz2 W.heap.size _ _ rfl (HO2.out.alloc _) _ y rfl (one_cell _ y) (by rw [HL2.out]; omega) (Nat.le_trans hbl2.size (by simp)) ?_; intro v2 w3 hown2 hgrow2)
          have B3 : Below W.heap.size W w3 := (hbl2.alloc hbl2.size _).grown hgrow2 (Nat.le_trans hbl2.size (by simp)) (fun k hk => HO2.out.lt k hk)
          rw [List.append_assoc, ← HTK.out] at hown2
          go_roundw
          case rel => exact ⟨t + 1, by omega, by go_num, hown2, B3⟩
          case measure => simp [intOf]; omega
        · obtain rfl : t = 8 := by omega
          have hfull : pre ++ (endT (8 * n) 8).take 8 = pre ++ endT (8 * n) 8 := by rw [List.take_of_length_le (by rw [endT_len]; omega)]
          have hcv := HO2.out.back
          rw [hfull] at hcv
          clear hfull
          go_wp2
          go_ret
          exact ⟨by rw [HPRE.out]; rfl, hbl2⟩
    · obtain ⟨r, hr⟩ : ∃ r, p % 64 = r := ⟨_, rfl⟩
      have hr56 : r ≠ 56 := fun e => he (HZJ.1 (hr.trans e))
      have r1 : (p : Int).tmod 64 = (r : Int) := by rw [Int.tmod_eq_emod_of_nonneg (by omega)]; omega
      have r2 : (p : Int) % 64 = (r : Int) := by omega
      have r3 : ((r : Int) != 56) = true := by rw [bne_iff_ne]; omega
      have r4 : ((r : Int) == 56) = false := by rw [beq_eq_false_iff_ne]; omega
      have hjz : j < z := by omega
      clear HZJ hr he hr56
      go_wp2_with (at_builtin; refine wpList_append_C1 _ rfl _ _ rfl i0 hi hz0 hz1 hz2 W.heap.size _ _ rfl (HO.out.alloc _) _ 0 rfl (one_cell _ 0) (by rw [HPL.out]; omega) (Nat.le_trans hbl.size (by simp)) ?_; intro v2 w2 hown2 hgrow2)
      have B2 : Below W.heap.size W w2 := (hbl.alloc hbl.size _).grown hgrow2 (Nat.le_trans hbl.size (by simp)) (fun k hk => HO.out.lt k hk)
      have hrep : (l ++ 128 :: List.replicate j 0) ++ [0] = l ++ 128 :: List.replicate (j + 1) 0 := by rw [List.append_assoc, List.replicate_succ']; rfl
      rw [hrep] at hown2
      have hl2 : (l ++ 128 :: List.replicate (j + 1) 0).length = p + 1 := by rw [← hrep, List.length_append, HPL.out]; rfl
      obtain ⟨g2, cap2, hv2⟩ := hown2.form hl2
      go_roundw
      case rel => exact ⟨j + 1, by omega, hown2, B2⟩
      case measure =>
        have := HPP.out
        simp only [hv2, slLen]
        omega
end Go.Proofs.YtpimliebiapnfaaGreatDoor.G
/- The document's tell. -/
namespace Go.Proofs.YtpimliebiapnfaaGreatDoor.G
set_option linter.unusedVariables false
open Go.RowKit
theorem step_append_own {w : World} {ops : Array Oper} {o : Oper} {a : Act} {K : Act → World → Prop} {Q : Exit → Act → World → Prop} {E : Prop} (hgd : o.guard = none) (s x : Operand)
    (ho : o.op = .call { callee := .builtin .append, args := #[s, x], argTypes := #[90, 90] }) (base : Nat) (i : TypeInfo)
    (h2 : Tryz.prog.info? 5 = some i) (h3 : i.zero = some (.int .u8 0)) (h4 : i.size = 1) (h5 : i.bytes = 1) (v : Value) (n : Nat) (xs : List Value) (hs : a.eval s = v) (hown : w.ownsRow base 5 1 v n xs)
    (ad : Addr) (m c : Nat) (news : List Value) (hx : a.eval x = .slice (some ad) m c) (hn : news.length = m) (hc : ∀ j u, news[j]? = some u → w.cell? (ad.add j) = some u) (h1c : ∀ u ∈ news, u.oneCell' = true) (b1 : n + m ≤ 100000000) (hm : 0 < m) (hb : base ≤ w.heap.size)
    (h : ∀ v' w', w'.ownsRow base 5 1 v' (n + m) (xs ++ news) → w.grownBy w' v.ownBlock → K (a.put o.dst v') w') :
    if Region.wanted o (yielded ops a.tmps) = true then Oper.wp Tryz.prog o a w K Q else E := by
  have hw : Region.wanted o (yielded ops a.tmps) = true := by simp [Region.wanted, hgd]
  rw [if_pos hw]
  exact wp_append_own w s x 90 ho base 5 i (.int .u8 0) 1 1 Tryz.underlying90 h2 h3 h4 h5 rfl (by decide) v n xs hs hown ad m c news hx (by omega) hc h1c (by unfold maxLen; omega) (by omega) hb fun v' w' h2 h3 _ => h v' w' h2 h3
set_option maxRecDepth 100000 in
set_option maxHeartbeats 2000000 in
theorem tell_in (W : World) (b : Nat) (p : List (BitVec 32)) (t : Nat) (hp : p.length ≤ 100) (h : W.heap[b]? = some (.cells (wc p) t (0, 0))) :
    Calls Tryz.prog 71 #[.slice (some ⟨b, 0, none⟩) p.length p.length] W fun e w' => e = .returned (.string ⟨(p.flatMap b4).toArray⟩) ∧ Below W.heap.size W w' := by
  obtain ⟨i0, hi, hz0, hz1, hz2⟩ := info_of info5
  obtain ⟨n, hn⟩ : ∃ n, p.length = n := ⟨_, rfl⟩
  have HP : Hid (p.length = n) := hn
  have hn2 : n ≤ 100 := by omega
  have H := Hid.mk h
  have hwb : b < W.heap.size := box_lt h
  rw [hn]
  clear hn hp h
  go_enter Tryz.func71, Tryz.ntmps71
  go_wp2_with fail
  go_loopw [3, 4] (fun v i wr => ∃ m : Nat, m ≤ n ∧ i = .int .i64 m ∧ wr.ownsRow W.heap.size 5 1 v (4 * m) (bcl ((p.take m).flatMap b4)) ∧ Below W.heap.size W wr) (fun _ i _ => n - (intOf i).toNat)
  case atStart => exact ⟨0, by omega, rfl, ⟨rfl, .inl ⟨rfl, rfl⟩⟩, Below.refl _ _⟩
  case round =>
    obtain ⟨m, hm, rfl, hown, hbl⟩ := hrel
    have HO := Hid.mk hown
    have hsz := hbl.size
    by_cases hlt : m < n
    · have hc : wr.cell? ⟨b, m, none⟩ = some (.int .u32 ((p[m]?.getD 0).toNat : Int)) := (hbl.cell (p := ⟨b, m, none⟩) hwb).trans (cells_at H.out (by rw [wc_at, List.getElem?_eq_getElem (by have := HP.out; omega)]; rfl)).1
      have HN : Hid ((p.take (m + 1)).flatMap b4 = (p.take m).flatMap b4 ++ b4 (p[m]?.getD 0)) := by
        rw [Hid, List.take_add_one, List.flatMap_append, List.getElem?_eq_getElem (by have := HP.out; omega)]
        simp
      have HCW : Hid (W.cell? ⟨b, m, none⟩ = some (.int .u32 ((p[m]?.getD 0).toNat : Int))) := (cells_at H.out (by rw [wc_at, List.getElem?_eq_getElem (by have := HP.out; omega)]; rfl)).1
      generalize p[m]?.getD 0 = x at hc HN HCW
      have hxl := bv_lt x
      have HB4 : Hid (bcl (b4 x) = [.int .u8 (IntKind.u8.wrap ((x.toNat : Int) / 16777216)), .int .u8 (IntKind.u8.wrap ((x.toNat : Int) / 65536)), .int .u8 (IntKind.u8.wrap ((x.toNat : Int) / 256)), .int .u8 (IntKind.u8.wrap (x.toNat : Int))]) := by
        rw [Hid, bcl_b4 x]
        simp only [IntKind.wrap_u8]
        rw [Int.emod_eq_of_lt (a := (x.toNat : Int) / 16777216) (by omega) (by omega)]
      have HKA : Hid (∀ o : Obj, ((wr.alloc o).drew).cell? ⟨b, m, none⟩ = some (.int .u32 (x.toNat : Int))) := fun o => ((hbl.alloc hbl.size o).cell (p := ⟨b, m, none⟩) hwb).trans HCW.out
      have im : (m : Int) < (n : Int) := by omega
      have im0 : (0 : Int) ≤ (m : Int) := by omega
      clear hown
      go_wp2_with fail
      go_region_held3 (fun w' => w'.cell? ⟨b, m, none⟩ = some (.int .u32 (x.toNat : Int))) (first | assumption | exact HKA.out _ | go_keep)
        (first
          | (refine step_append_own rfl (.tmp 11) (.tmp 35) rfl W.heap.size i0 hi hz0 hz1 hz2 _ (4 * m) _ rfl (HO.out.drew.alloc _) ⟨wr.heap.size, 0, none⟩ 4 4 [.int .u8 (IntKind.u8.wrap ((x.toNat : Int) / 16777216)), .int .u8 (IntKind.u8.wrap ((x.toNat : Int) / 65536)), .int .u8 (IntKind.u8.wrap ((x.toNat : Int) / 256)), .int .u8 (IntKind.u8.wrap (x.toNat : Int))] rfl rfl (fun j u h => cells_new wr.drew _ 5 j u h) (by simp [Value.oneCell']) (by omega) (by omega) (by simp; omega) ?_; intro v1 w1 hown1 hgrow1; have B2 : Below W.heap.size W w1 := (hbl.drew.alloc hbl.size _).grown hgrow1 (Nat.le_trans hbl.size (by simp)) (fun k hk => (HO.out.lt k hk).1); have hcc : w1.cell? ⟨b, m, none⟩ = some (.int .u32 (x.toNat : Int)) := (B2.cell (p := ⟨b, m, none⟩) hwb).trans HCW.out))
      have hown2 : w1.ownsRow W.heap.size 5 1 v1 (4 * (m + 1)) (bcl ((p.take (m + 1)).flatMap b4)) := by
        rw [HN.out, bcl_app, HB4.out, Nat.mul_add]; exact hown1
      clear hown1 hgrow1
      go_wp2
      go_roundw
      case rel => exact ⟨m + 1, by omega, by go_num, hown2, B2⟩
      case measure => simp [intOf]; omega
    · obtain rfl : n = m := by omega
      have hcv := own_back_any HO.out (by rw [List.take_of_length_le (Nat.le_of_eq HP.out)]; exact flat_len p n HP.out)
      rw [List.take_of_length_le (Nat.le_of_eq HP.out)] at hcv
      clear hown
      go_wp2
      go_ret
      exact ⟨rfl, hbl⟩
end Go.Proofs.YtpimliebiapnfaaGreatDoor.G
/- The examples are so; DigestBack's walk. -/
namespace Go.Proofs.YtpimliebiapnfaaGreatDoor.G
set_option linter.unusedVariables false
open Go.RowKit
end Go.Proofs.YtpimliebiapnfaaGreatDoor.G
/- The document's value, Hex. -/
namespace Go.Proofs.YtpimliebiapnfaaGreatDoor.G
set_option linter.unusedVariables false
open Go.RowKit
def vl (c : UInt8) (m : Nat) : UInt8 := if (cnt c).toNat < m then cnt c else 99
set_option maxHeartbeats 1000000 in
theorem value_in (c : UInt8) (m : Nat) (hm : m ≤ 99) (w : World) : Calls Tryz.prog 60 #[.int .u8 (c.toNat : Int), .int .u8 (m : Int)] w fun e w' => e = .returned (.int .u8 ((vl c m).toNat : Int)) ∧ w' = w := by
  have hc := c.toNat_lt
  rcases (show (48 ≤ c.toNat ∧ c.toNat ≤ 57) ∨ (97 ≤ c.toNat ∧ c.toNat ≤ 118) ∨ (65 ≤ c.toNat ∧ c.toNat ≤ 86) ∨ c.toNat < 48 ∨ (57 < c.toNat ∧ c.toNat < 65) ∨ (86 < c.toNat ∧ c.toNat < 97) ∨ 118 < c.toNat by omega) with ⟨a1, a2⟩ | ⟨a1, a2⟩ | ⟨a1, a2⟩ | a | ⟨a, b⟩ | ⟨a, b⟩ | a
  · skip
    have hv : (cnt c).toNat = c.toNat - 48 := by unfold cnt; rw [if_pos ⟨a1, a2⟩]; rw [UInt8.toNat_ofNat']; omega
    by_cases hk : c.toNat - 48 < m
    · have HV : Hid (((vl c m).toNat : Int) = (c.toNat : Int) - 48) := by rw [Hid, vl, if_pos (by omega), hv]; omega
      have hk' : (c.toNat : Int) - 48 < (m : Int) := by omega
      clear hv hk
      go_enter Tryz.func60, Tryz.ntmps60
      go_wp2
      go_ret
      exact ⟨ret_int (by rw [HV.out]; first | done | omega), rfl⟩
    · have HV : Hid (((vl c m).toNat : Int) = 99) := by rw [Hid, vl, if_neg (by omega)]; rfl
      have hk' : (m : Int) ≤ (c.toNat : Int) - 48 := by omega
      clear hv hk
      go_enter Tryz.func60, Tryz.ntmps60
      go_wp2
      go_ret
      exact ⟨ret_int (by rw [HV.out]), rfl⟩
  · skip
    have hv : (cnt c).toNat = c.toNat - 87 := by unfold cnt; rw [if_neg (by omega), if_pos ⟨a1, a2⟩]; rw [UInt8.toNat_ofNat']; omega
    have b1 : (57 : Int) < (c.toNat : Int) := by omega
    by_cases hk : c.toNat - 87 < m
    · have HV : Hid (((vl c m).toNat : Int) = (c.toNat : Int) - 87) := by rw [Hid, vl, if_pos (by omega), hv]; omega
      have hk' : (c.toNat : Int) - 87 < (m : Int) := by omega
      clear hv hk
      go_enter Tryz.func60, Tryz.ntmps60
      go_wp2
      go_ret
      exact ⟨ret_int (by rw [HV.out]; first | done | omega), rfl⟩
    · have HV : Hid (((vl c m).toNat : Int) = 99) := by rw [Hid, vl, if_neg (by omega)]; rfl
      have hk' : (m : Int) ≤ (c.toNat : Int) - 87 := by omega
      clear hv hk
      go_enter Tryz.func60, Tryz.ntmps60
      go_wp2
      go_ret
      exact ⟨ret_int (by rw [HV.out]), rfl⟩
  · skip
    have hv : (cnt c).toNat = c.toNat - 55 := by unfold cnt; rw [if_neg (by omega), if_neg (by omega), if_pos ⟨a1, a2⟩]; rw [UInt8.toNat_ofNat']; omega
    have b1 : (57 : Int) < (c.toNat : Int) := by omega
    have b2 : (c.toNat : Int) < 97 := by omega
    by_cases hk : c.toNat - 55 < m
    · have HV : Hid (((vl c m).toNat : Int) = (c.toNat : Int) - 55) := by rw [Hid, vl, if_pos (by omega), hv]; omega
      have hk' : (c.toNat : Int) - 55 < (m : Int) := by omega
      clear hv hk
      go_enter Tryz.func60, Tryz.ntmps60
      go_wp2
      go_ret
      exact ⟨ret_int (by rw [HV.out]; first | done | omega), rfl⟩
    · have HV : Hid (((vl c m).toNat : Int) = 99) := by rw [Hid, vl, if_neg (by omega)]; rfl
      have hk' : (m : Int) ≤ (c.toNat : Int) - 55 := by omega
      clear hv hk
      go_enter Tryz.func60, Tryz.ntmps60
      go_wp2
      go_ret
      exact ⟨ret_int (by rw [HV.out]), rfl⟩
  all_goals (
    have hv : (cnt c).toNat = 255 := by unfold cnt; rw [if_neg (by omega), if_neg (by omega), if_neg (by omega)]; rfl
    have HV : Hid (((vl c m).toNat : Int) = 99) := by rw [Hid, vl, if_neg (by omega)]; rfl
    have hk' : (m : Int) ≤ 99 := by omega
    clear hv
    go_enter Tryz.func60, Tryz.ntmps60
    go_wp2
    go_ret
    exact ⟨ret_int (by rw [HV.out]), rfl⟩)
def hx (c : UInt8) : List UInt8 := [ltr (UInt8.ofNat (c.toNat / 16)), ltr (UInt8.ofNat (c.toNat % 16))]
end Go.Proofs.YtpimliebiapnfaaGreatDoor.G
/- The document's Unhex. -/
namespace Go.Proofs.YtpimliebiapnfaaGreatDoor.G
set_option linter.unusedVariables false
open Go.RowKit
def prs (l : List UInt8) (k : Nat) : UInt8 := UInt8.ofNat (16 * (cnt (l[2 * k]?.getD 0)).toNat + (cnt (l[2 * k + 1]?.getD 0)).toNat)
def RunE (l : List UInt8) (e : Ending) : Prop :=
  ((∃ j, j < 2 * (l.length / 2) ∧ 16 ≤ (cnt (l[j]?.getD 0)).toNat) ∧ e = .returned (.tuple #[.string ⟨#[]⟩, .bool false])) ∨
  ((∀ j, j < 2 * (l.length / 2) → (cnt (l[j]?.getD 0)).toNat < 16) ∧ l.length % 2 = 1 ∧ e = .returned (.tuple #[.string ⟨#[]⟩, .bool false])) ∨
  ((∀ j, j < 2 * (l.length / 2) → (cnt (l[j]?.getD 0)).toNat < 16) ∧ l.length % 2 = 0 ∧ e = .returned (.tuple #[.string ⟨((List.range (l.length / 2)).map (prs l)).toArray⟩, .bool true]))
theorem vl_bad (c : UInt8) (h : 16 ≤ (cnt c).toNat) : vl c 16 = 99 := if_neg (by omega)
theorem vl_good (c : UInt8) (h : (cnt c).toNat < 16) : vl c 16 = cnt c := if_pos h
set_option maxRecDepth 100000 in
set_option maxHeartbeats 2000000 in
theorem runhex_in (s : ByteArray) (hs : s.size ≤ 1048576) (W : World) : Calls Tryz.prog 28 #[.string s] W fun e w' => RunE s.data.toList e ∧ Below W.heap.size W w' := by
  obtain ⟨i0, hi, hz0, hz1, hz2⟩ := info_of info5
  obtain ⟨n, hn⟩ : ∃ n, s.size = n := ⟨_, rfl⟩
  obtain ⟨l, hl⟩ : ∃ l, s.data.toList = l := ⟨_, rfl⟩
  have HLN : Hid (l.length = n) := by rw [Hid, ← hl, size_list]; exact hn
  have HIX : Hid (∀ m, m < n → ∀ W : World, (Instr.index 9 (.string s) (.int .i64 (m : Int))).run Tryz.prog W = .ok (.int .u8 ((l[m]?.getD 0).toNat : Int)) W) := fun m hm W => index_get s m _ (by omega) (by rw [hl]) W
  rw [hl]
  have hn2 : n ≤ 1048576 := by omega
  clear hl hs
  go_enter Tryz.func28, Tryz.ntmps28
  go_wp2_with fail
  go_loopw [4, 5] (fun v i wr => ∃ k p : Nat, Hid (p = 2 * k) ∧ p ≤ n ∧ i = .int .i64 (p : Int) ∧ Hid (∀ j, j < p → (cnt (l[j]?.getD 0)).toNat < 16) ∧ wr.ownsRow W.heap.size 5 1 v k (bcl ((List.range k).map (prs l))) ∧ Below W.heap.size W wr) (fun _ i _ => n - (intOf i).toNat)
  case atStart => exact ⟨0, 0, rfl, by omega, rfl, fun j hj => absurd hj (by omega), ⟨rfl, .inl ⟨rfl, rfl⟩⟩, Below.refl _ _⟩
  case round =>
    obtain ⟨k, p, HPK, hpn, rfl, HALL, hown, hbl⟩ := hrel
    have HO := Hid.mk hown
    have hsz := hbl.size
    have hk2 : k ≤ 1048576 := by have := HPK.out; omega
    clear hown
    by_cases hlt : p + 1 < n
    · have j0 := HIX.out p (by omega)
      have j1 : ∀ W : World, (Instr.index 9 (.string s) (.int .i64 ((p : Int) + 1))).run Tryz.prog W = .ok (.int .u8 ((l[p + 1]?.getD 0).toNat : Int)) W := fun W => by have := HIX.out (p + 1) hlt W; rwa [Int.natCast_add] at this
      have V0 := Hid.mk (value_in (l[p]?.getD 0) 16 (by omega))
      have V1 := Hid.mk (value_in (l[p + 1]?.getD 0) 16 (by omega))
      have hi1 : (p : Int) + 1 < (n : Int) := by omega
      by_cases h0 : (cnt (l[p]?.getD 0)).toNat < 16
      · by_cases h1 : (cnt (l[p + 1]?.getD 0)).toNat < 16
        · rw [vl_good _ h0] at V0
          rw [vl_good _ h1] at V1
          have HNX : Hid (∀ j, j < p + 2 → (cnt (l[j]?.getD 0)).toNat < 16) := fun j hj => by
            by_cases e1 : j = p
            · rw [e1]; exact h0
            · by_cases e2 : j = p + 1
              · rw [e2]; exact h1
              · exact HALL.out j (by omega)
          have HPR : Hid (prs l k = UInt8.ofNat (16 * (cnt (l[p]?.getD 0)).toNat + (cnt (l[p + 1]?.getD 0)).toNat)) := by rw [Hid, HPK.out]; rfl
          generalize l[p]?.getD 0 = ca at j0 V0 h0 HPR
          generalize l[p + 1]?.getD 0 = cb at j1 V1 h1 HPR
          generalize cnt ca = a at V0 h0 HPR
          generalize cnt cb = b at V1 h1 HPR
          have na : ((a.toNat : Int) == 99) = false := by rw [beq_eq_false_iff_ne]; omega
          have nb' : ((b.toNat : Int) == 99) = false := by rw [beq_eq_false_iff_ne]; omega
          obtain ⟨y, HY⟩ : ∃ y, Hid (prs l k = y) := ⟨_, rfl⟩
          have hy : 16 * (a.toNat : Int) + (b.toNat : Int) = (y.toNat : Int) := by rw [← HY.out, HPR.out, UInt8.toNat_ofNat']; omega
          have hy8 := y.toNat_lt
          clear HPR
          go_wp2_with fail
          refine (V0.out _).mono ?_
          rintro e w2 ⟨rfl, rfl⟩
          go_wp2_with fail
          refine (V1.out _).mono ?_
          rintro e w3 ⟨rfl, rfl⟩
          go_wp2_with (at_builtin; refine wpList_append_own _ rfl _ _ 90 rfl W.heap.size 5 i0 (.int .u8 0) 1 1 Tryz.underlying90 hi hz0 hz1 hz2 rfl (by decide) _ _ _ rfl (HO.out.alloc _) ⟨w3.heap.size, 0, none⟩ 1 1 [.int .u8 (y.toNat : Int)] rfl rfl (cell_one_new _ _ _) (by simp [Value.oneCell']) (by unfold maxLen; omega) (by omega) (by simp; omega) ?_; intro v1 w1 hown1 hgrow1 _)
          have B2 : Below W.heap.size W w1 := (hbl.alloc hbl.size _).grown hgrow1 (Nat.le_trans hbl.size (by simp)) (fun k hk => (HO.out.lt k hk).1)
          go_roundw
          case rel =>
            refine ⟨k + 1, p + 2, by rw [Hid, HPK.out]; omega, by omega, by go_num, HNX, ?_, B2⟩
            rw [List.range_succ, List.map_append, bcl_app, List.map_singleton, HY.out]
            exact hown1
          case measure => simp [intOf]; omega
        · rw [vl_good _ h0] at V0
          rw [vl_bad _ (by omega)] at V1
          have HBD : Hid (∃ j, j < 2 * (l.length / 2) ∧ 16 ≤ (cnt (l[j]?.getD 0)).toNat) := ⟨p + 1, by rw [HLN.out]; have := HPK.out; omega, by omega⟩
          generalize l[p]?.getD 0 = ca at j0 V0 h0
          generalize l[p + 1]?.getD 0 = cb at j1 V1 h1
          generalize cnt ca = a at V0 h0
          have na : ((a.toNat : Int) == 99) = false := by rw [beq_eq_false_iff_ne]; omega
          go_wp2_with fail
          refine (V0.out _).mono ?_
          rintro e w2 ⟨rfl, rfl⟩
          go_wp2_with fail
          refine (V1.out _).mono ?_
          rintro e w3 ⟨rfl, rfl⟩
          go_wp2
          go_ret2
          exact ⟨.inl ⟨HBD.out, rfl⟩, hbl⟩
      · rw [vl_bad _ (by omega)] at V0
        have HBD : Hid (∃ j, j < 2 * (l.length / 2) ∧ 16 ≤ (cnt (l[j]?.getD 0)).toNat) := ⟨p, by rw [HLN.out]; have := HPK.out; omega, by omega⟩
        generalize l[p]?.getD 0 = ca at j0 V0 h0
        generalize l[p + 1]?.getD 0 = cb at j1 V1
        go_wp2_with fail
        refine (V0.out _).mono ?_
        rintro e w2 ⟨rfl, rfl⟩
        go_wp2_with fail
        refine (V1.out _).mono ?_
        rintro e w3 ⟨rfl, rfl⟩
        go_wp2
        go_ret2
        exact ⟨.inl ⟨HBD.out, rfl⟩, hbl⟩
    · have hge : (n : Int) ≤ (p : Int) + 1 := by omega
      have hkn : n / 2 = k := by have := HPK.out; omega
      have HA2 : Hid (∀ j, j < 2 * (l.length / 2) → (cnt (l[j]?.getD 0)).toNat < 16) := fun j hj => HALL.out j (by rw [HLN.out, hkn] at hj; have := HPK.out; omega)
      by_cases hod : n % 2 = 0
      · have r1 : (n : Int).tmod 2 = 0 := by rw [Int.tmod_eq_emod_of_nonneg (by omega)]; omega
        have r2 : (n : Int) % 2 = 0 := by omega
        have hcv := own_back_any HO.out (by simp)
        have HOD : Hid (l.length % 2 = 0) := by rw [Hid, HLN.out]; exact hod
        have HKN : Hid (k = l.length / 2) := by rw [Hid, HLN.out, hkn]
        clear hod hkn
        go_wp2
        go_ret2
        exact ⟨.inr (.inr ⟨HA2.out, HOD.out, by rw [← HKN.out]; rfl⟩), hbl⟩
      · have r1 : (n : Int).tmod 2 = 1 := by rw [Int.tmod_eq_emod_of_nonneg (by omega)]; omega
        have r2 : (n : Int) % 2 = 1 := by omega
        have HOD : Hid (l.length % 2 = 1) := by rw [Hid, HLN.out]; omega
        clear hod hkn
        go_wp2
        go_ret2
        exact ⟨.inr (.inl ⟨HA2.out, HOD.out, rfl⟩), hbl⟩
end Go.Proofs.YtpimliebiapnfaaGreatDoor.G