/- Texts of this proof, joined: LfM. -/
import Derived.Deep.RegionHeld3
import Derived.Test.YtdlcldjlfhmlgaaGreatDoorJ25
import Derived.Test.YtdlcldjlfhmlgaaGreatDoorJ20
set_option linter.unusedVariables false
set_option linter.unusedSimpArgs false
/- Layer 15: the document's Upstream and Anchor (guidepostref15). -/
namespace Go.Proofs.YtdlcldjlfhmlgaaGreatDoor
open Go.RowKit
theorem rmany15_in (s : ByteArray) (hs : s.size ≤ maxLen) (w : World) : Calls Tryz.prog 41 #[.string s] w fun e w' => e = .returned (.int .i64 (manyF s : Int)) ∧ Below w.heap.size w w' := by
 have HL := Hid.mk (rlabels_in s hs)
 generalize manyF s = m at HL ⊢
 go_enter Tryz.func41, Tryz.ntmps41
 go_wp2_with fail
 refine (HL.out _).mono ?_
 rintro e w1 ⟨⟨q, c, b, rfl⟩, hb1⟩
 go_wp2
 go_ret
 exact ⟨rfl, hb1⟩
set_option maxRecDepth 100000 in
set_option maxHeartbeats 16000000 in
theorem rupstream_in (W : World) (k : Cq) (c : Cf) (hat : CfAt W k c) (hin : CfIn c) (s : ByteArray) (hs : s.size ≤ maxLen) : Calls Tryz.prog 19 #[cfV k c, .string s] W fun e w' => e = .returned (.int .i64 (plI (bestN (c.up.map Up.nm) s c.up.length))) ∧ Below W.heap.size W w' := by
 obtain ⟨N, hN⟩ : ∃ N, W.heap.size = N := ⟨_, rfl⟩
 have HNN := Hid.mk hN
 obtain ⟨ls, hls⟩ : ∃ ls, c.up = ls := ⟨_, rfl⟩
 obtain ⟨ns, hns⟩ : ∃ ns, ls.map Up.nm = ns := ⟨_, rfl⟩
 obtain ⟨n, hn⟩ : ∃ n, ls.length = n := ⟨_, rfl⟩
 have HNL := Hid.mk hn
 have hat0 := hat.up
 have hsh := hat.s3
 have hin0 := hin.up
 rw [hls] at hat0 hsh hin0
 have HBL : Hid (∀ i, i < n → ∃ b off, k.q3 = some ⟨b, off, none⟩ ∧ ∃ nm0, Hid (nmI ns i = nm0 ∧ nm0.size ≤ maxLen) ∧ Hid (∀ w, Below N W w → w.cell? ⟨b, off + i * 3, none⟩ = some (.string nm0))) := by
  intro i hi
  have hi' : i < ls.length := by omega
  have e0 : nmI ns i = ls[i].nm := by rw [← hns]; exact nmI_map _ hi'
  obtain ⟨b, off, qs, cs, e, hlt, c0, c1, c2, hr, hsx⟩ := hat0 i hi'
  exact ⟨b, off, e, ls[i].nm, ⟨e0, (hin0 _ (List.getElem_mem hi')).1⟩, fun w hb => by rw [← hN] at hb; exact (hb.cell (p := ⟨b, off + i * 3, none⟩) hlt).trans c0⟩
 have hnx : n ≤ 9223372036854775807 := by
  have h1 := hsh.1
  have h2 := hsh.2.1
  rw [hn] at h1
  unfold maxLen at h2
  omega
 obtain ⟨bf, hbf⟩ : ∃ bf, bestN ns s = bf := ⟨_, rfl⟩
 have HSkip : Hid (∀ i, undF s (nmI ns i) = false → bf (i + 1) = bf i) := fun i h => by rw [← hbf]; exact bestN_skip h
 have HFirst : Hid (∀ i, undF s (nmI ns i) = true → bf i = none → bf (i + 1) = some i) := fun i h hb => by rw [← hbf] at hb ⊢; exact bestN_first h hb
 have HMore : Hid (∀ i b, undF s (nmI ns i) = true → bf i = some b → manyF (nmI ns b) < manyF (nmI ns i) → bf (i + 1) = some i) := fun i b h hb hm => by rw [← hbf] at hb ⊢; exact bestN_more h hb hm
 have HKeep : Hid (∀ i b, bf i = some b → ¬ manyF (nmI ns b) < manyF (nmI ns i) → bf (i + 1) = some b) := fun i b hb hm => by rw [← hbf] at hb ⊢; exact bestN_keep hb hm
 have HLt : Hid (∀ i b, bf i = some b → b < i) := fun i b hb => by rw [← hbf] at hb; exact bestN_lt hb
 have HB0 : bf 0 = none := by rw [← hbf]; rfl
 have HBf := Hid.mk hbf
 rw [hls, hns, hn, hbf, hN]
 obtain ⟨l0, hl0⟩ : ∃ n, c.rt.length = n := ⟨_, rfl⟩
 obtain ⟨l1, hl1⟩ : ∃ n, c.ru.length = n := ⟨_, rfl⟩
 obtain ⟨l2, hl2⟩ : ∃ n, c.lc.length = n := ⟨_, rfl⟩
 obtain ⟨l3, hl3⟩ : ∃ n, c.up.length = n := ⟨_, rfl⟩
 obtain ⟨l4, hl4⟩ : ∃ n, c.an.length = n := ⟨_, rfl⟩
 obtain ⟨n0, hn0⟩ : ∃ n, c.n0 = n := ⟨_, rfl⟩
 obtain ⟨n1, hn1⟩ : ∃ n, c.n1 = n := ⟨_, rfl⟩
 obtain ⟨n2, hn2⟩ : ∃ n, c.n2 = n := ⟨_, rfl⟩
 obtain ⟨n3, hn3⟩ : ∃ n, c.n3 = n := ⟨_, rfl⟩
 have hnl : l3 = n := by rw [← hl3, hls, hn]
 obtain ⟨q0, c0, q1, c1, q2, c2, q3, c3, q4, c4⟩ := k
 simp only at HBL
 simp only [cfV, cfC]
 rw [hl0, hl1, hl2, hl3, hl4, hn0, hn1, hn2, hn3]
 clear hl0 hl1 hl2 hl3 hl4 hn0 hn1 hn2 hn3
 subst hnl
 obtain ⟨V, hV⟩ : ∃ V, W.alloc (.cells #[.slice q0 l0 c0, .slice q1 l1 c1, .slice q2 l2 c2, .slice q3 l3 c3, .slice q4 l4 c4, .int .i64 n0, .int .i64 n1, .int .i64 n2, .int .i64 n3] 51) = V := ⟨_, rfl⟩
 have X0 : Bx W W.heap.size [.slice q0 l0 c0, .slice q1 l1 c1, .slice q2 l2 c2, .slice q3 l3 c3, .slice q4 l4 c4, .int .i64 n0, .int .i64 n1, .int .i64 n2, .int .i64 n3] 51 V := hV ▸ Bx.new W _ _
 have HV := Hid.mk hV
 rw [hN] at X0
 have hNV : N ≤ V.heap.size := by rw [← hN]; exact X0.bel.size
 have HX : Hid (∀ w, Below V.heap.size V w → w.cell? ⟨N, 3, none⟩ = some (.slice q3 l3 c3) ∧ Below N W w) := fun w hb => ⟨(X0.blk hb).cell 3 _ rfl, by have h1 := X0.bel; rw [hN] at h1; exact h1.trans (hb.mono hNV)⟩
 clear hat hin hat0 hin0 hls hns hn hsh hbf hV X0
 go_enter Tryz.func19, Tryz.ntmps19
 go_upto_region 3 with fail
 rw [HV.out]
 clear hN
 go_loopw [5, 6] (fun bv iv wr => ∃ (i : Nat) (B : Int) (u : World), u = wr ∧ i ≤ l3 ∧ iv = .int .i64 (i : Int) ∧ bv = .int .i64 B ∧ Hid (B = plI (bf i)) ∧ Hid (Below V.heap.size V u)) (fun _ iv _ => l3 - (intOf iv).toNat)
 case atStart => exact ⟨0, -1, _, rfl, Nat.zero_le _, rfl, rfl, by rw [HB0]; rfl, Below.refl _ _⟩
 case round =>
  obtain ⟨i, B, u, rfl, hi, rfl, rfl, HO, HU⟩ := hrel
  have hVu : V.heap.size ≤ u.heap.size := HU.out.size
  clear HB0
  obtain ⟨x3, hbN⟩ := HX.out _ HU.out
  by_cases hlt : i < l3
  ·have hlz : (i : Int) < (l3 : Int) := by omega
   have hlz0 : (0 : Int) ≤ (i : Int) := by omega
   have wi : IntKind.i64.wrap ((i : Int) + 1) = ((i + 1 : Nat) : Int) := by rw [IntKind.wrap_i64]; omega
   obtain ⟨b0, off, rfl, nm0, HI, HC⟩ := HBL.out i hlt
   have d0 := HC.out _ hbN
   have HUn := Hid.mk (runder_in s nm0 hs HI.out.2)
   clear hbN
   go_wp2_with fail
   refine (HUn.out _).mono ?_
   rintro e w1 ⟨rfl, hb1⟩
   have HB1 : Hid (Below V.heap.size V w1) := HU.out.trans (hb1.mono hVu)
   have hN1 : V.heap.size ≤ w1.heap.size := Nat.le_trans hVu hb1.size
   have h0d : Below V.heap.size V w1.drew := HB1.out.drew
   have HS1 : Hid (∀ w', Below V.heap.size V w' → (fun w' : World => w'.cell? ⟨N, 3, none⟩ = some (.slice (some ⟨b0, off, none⟩) l3 c3)) w') := fun w' hb => (HX.out w' hb).1
   clear hb1 x3 d0
   cases hu : undF s nm0 with
   | false =>
    have HO2 : Hid (B = plI (bf (i + 1))) := by rw [HSkip.out i (by rw [HI.out.1]; exact hu)]; exact HO.out
    clear hu
    go_upto_region 7 with fail
    refine wp_region_held_drew (S := (fun w' : World => w'.cell? ⟨N, 3, none⟩ = some (.slice (some ⟨b0, off, none⟩) l3 c3))) (by kernel_rfl) (HS1.out _ h0d) (fun hHeld => ?_)
    refine wU (i := 0) (v := ?va_0) rfl ?ya_0 (by assumption) ?_
    case ya_0 => (intro w hSw; (try dsimp only at hSw); go_simp; try with_reducible rfl)
    refine wU (i := 1) (v := ?va_1) rfl ?ya_1 (by assumption) ?_
    case ya_1 => (intro w hSw; (try dsimp only at hSw); go_simp; try with_reducible rfl)
    try simp only [Act.put, List.getElem_toArray, List.getElem_cons_succ, List.getElem_cons_zero, List.setIfInBounds_toArray, List.set_cons_zero, List.set_cons_succ]
    refine wT (i := 2) (v := undef) rfl (Or.inr ⟨by kernel_rfl, rfl⟩) (by assumption) ?_
    try simp only [Act.put, List.getElem_toArray, List.getElem_cons_succ, List.getElem_cons_zero, List.setIfInBounds_toArray, List.set_cons_zero, List.set_cons_succ]
    refine wT (i := 3) (v := undef) rfl (Or.inr ⟨by kernel_rfl, rfl⟩) (by assumption) ?_
    try simp only [Act.put, List.getElem_toArray, List.getElem_cons_succ, List.getElem_cons_zero, List.setIfInBounds_toArray, List.set_cons_zero, List.set_cons_succ]
    refine wT (i := 4) (v := undef) rfl (Or.inr ⟨by kernel_rfl, rfl⟩) (by assumption) ?_
    try simp only [Act.put, List.getElem_toArray, List.getElem_cons_succ, List.getElem_cons_zero, List.setIfInBounds_toArray, List.set_cons_zero, List.set_cons_succ]
    refine wT (i := 5) (v := undef) rfl (Or.inr ⟨by kernel_rfl, rfl⟩) (by assumption) ?_
    try simp only [Act.put, List.getElem_toArray, List.getElem_cons_succ, List.getElem_cons_zero, List.setIfInBounds_toArray, List.set_cons_zero, List.set_cons_succ]
    refine wT (i := 6) (v := undef) rfl (Or.inr ⟨by kernel_rfl, rfl⟩) (by assumption) ?_
    try simp only [Act.put, List.getElem_toArray, List.getElem_cons_succ, List.getElem_cons_zero, List.setIfInBounds_toArray, List.set_cons_zero, List.set_cons_succ]
    refine wT (i := 7) (v := undef) rfl (Or.inr ⟨by kernel_rfl, rfl⟩) (by assumption) ?_
    try simp only [Act.put, List.getElem_toArray, List.getElem_cons_succ, List.getElem_cons_zero, List.setIfInBounds_toArray, List.set_cons_zero, List.set_cons_succ]
    refine wT (i := 8) (v := undef) rfl (Or.inr ⟨by kernel_rfl, rfl⟩) (by assumption) ?_
    try simp only [Act.put, List.getElem_toArray, List.getElem_cons_succ, List.getElem_cons_zero, List.setIfInBounds_toArray, List.set_cons_zero, List.set_cons_succ]
    refine wT (i := 9) (v := undef) rfl (Or.inr ⟨by kernel_rfl, rfl⟩) (by assumption) ?_
    try simp only [Act.put, List.getElem_toArray, List.getElem_cons_succ, List.getElem_cons_zero, List.setIfInBounds_toArray, List.set_cons_zero, List.set_cons_succ]
    refine wT (i := 10) (v := undef) rfl (Or.inr ⟨by kernel_rfl, rfl⟩) (by assumption) ?_
    try simp only [Act.put, List.getElem_toArray, List.getElem_cons_succ, List.getElem_cons_zero, List.setIfInBounds_toArray, List.set_cons_zero, List.set_cons_succ]
    refine wT (i := 11) (v := undef) rfl (Or.inr ⟨by kernel_rfl, rfl⟩) (by assumption) ?_
    try simp only [Act.put, List.getElem_toArray, List.getElem_cons_succ, List.getElem_cons_zero, List.setIfInBounds_toArray, List.set_cons_zero, List.set_cons_succ]
    refine wT (i := 12) (v := undef) rfl (Or.inr ⟨by kernel_rfl, rfl⟩) (by assumption) ?_
    try simp only [Act.put, List.getElem_toArray, List.getElem_cons_succ, List.getElem_cons_zero, List.setIfInBounds_toArray, List.set_cons_zero, List.set_cons_succ]
    refine wT (i := 13) (v := undef) rfl (Or.inr ⟨by kernel_rfl, rfl⟩) (by assumption) ?_
    try simp only [Act.put, List.getElem_toArray, List.getElem_cons_succ, List.getElem_cons_zero, List.setIfInBounds_toArray, List.set_cons_zero, List.set_cons_succ]
    refine wT (i := 14) (v := undef) rfl (Or.inr ⟨by kernel_rfl, rfl⟩) (by assumption) ?_
    try simp only [Act.put, List.getElem_toArray, List.getElem_cons_succ, List.getElem_cons_zero, List.setIfInBounds_toArray, List.set_cons_zero, List.set_cons_succ]
    refine wT (i := 15) (v := undef) rfl (Or.inr ⟨by kernel_rfl, rfl⟩) (by assumption) ?_
    try simp only [Act.put, List.getElem_toArray, List.getElem_cons_succ, List.getElem_cons_zero, List.setIfInBounds_toArray, List.set_cons_zero, List.set_cons_succ]
    refine wU (i := 16) (v := ?vb_16) rfl ?yb_16 (by assumption) ?_
    case yb_16 => (intro w hSw; (try dsimp only at hSw); go_simp; try with_reducible rfl)
    try simp only [Act.put, List.getElem_toArray, List.getElem_cons_succ, List.getElem_cons_zero, List.setIfInBounds_toArray, List.set_cons_zero, List.set_cons_succ]
    refine wpAnyH_done (by kernel_rfl) ?_ _
    clear hHeld
    go_wp2
    go_roundw
    case rel => exact ⟨i + 1, B, _, rfl, by omega, by first | rfl | go_num, rfl, HO2, h0d⟩
    case measure => simp [intOf]; omega
   | true =>
   cases hb : bf i with
   | none =>
    have HO2 : Hid ((i : Int) = plI (bf (i + 1))) := by rw [HFirst.out i (by rw [HI.out.1]; exact hu) hb]; rfl
    have hB : B = -1 := by have := HO.out; rw [hb] at this; exact this
    subst hB
    clear hu hb HO
    go_upto_region 7 with fail
    refine wp_region_held_drew (S := (fun w' : World => w'.cell? ⟨N, 3, none⟩ = some (.slice (some ⟨b0, off, none⟩) l3 c3))) (by kernel_rfl) (HS1.out _ h0d) (fun hHeld => ?_)
    refine wU (i := 0) (v := ?vc_0) rfl ?yc_0 (by assumption) ?_
    case yc_0 => (intro w hSw; (try dsimp only at hSw); go_simp; try with_reducible rfl)
    refine wU (i := 1) (v := ?vc_1) rfl ?yc_1 (by assumption) ?_
    case yc_1 => (intro w hSw; (try dsimp only at hSw); go_simp; try with_reducible rfl)
    refine wU (i := 2) (v := ?vc_2) rfl ?yc_2 (by assumption) ?_
    case yc_2 => (intro w hSw; (try dsimp only at hSw); go_simp; try with_reducible rfl)
    refine wU (i := 3) (v := ?vc_3) rfl ?yc_3 (by assumption) ?_
    case yc_3 => (intro w hSw; (try dsimp only at hSw); go_simp; try with_reducible rfl)
    refine wU (i := 4) (v := ?vc_4) rfl ?yc_4 (by assumption) ?_
    case yc_4 => (intro w hSw; (try dsimp only at hSw); go_simp; try with_reducible rfl)
    try simp only [Act.put, List.getElem_toArray, List.getElem_cons_succ, List.getElem_cons_zero, List.setIfInBounds_toArray, List.set_cons_zero, List.set_cons_succ]
    refine wT (i := 5) (v := undef) rfl (Or.inr ⟨by kernel_rfl, rfl⟩) (by assumption) ?_
    try simp only [Act.put, List.getElem_toArray, List.getElem_cons_succ, List.getElem_cons_zero, List.setIfInBounds_toArray, List.set_cons_zero, List.set_cons_succ]
    refine wT (i := 6) (v := undef) rfl (Or.inr ⟨by kernel_rfl, rfl⟩) (by assumption) ?_
    try simp only [Act.put, List.getElem_toArray, List.getElem_cons_succ, List.getElem_cons_zero, List.setIfInBounds_toArray, List.set_cons_zero, List.set_cons_succ]
    refine wT (i := 7) (v := undef) rfl (Or.inr ⟨by kernel_rfl, rfl⟩) (by assumption) ?_
    try simp only [Act.put, List.getElem_toArray, List.getElem_cons_succ, List.getElem_cons_zero, List.setIfInBounds_toArray, List.set_cons_zero, List.set_cons_succ]
    refine wT (i := 8) (v := undef) rfl (Or.inr ⟨by kernel_rfl, rfl⟩) (by assumption) ?_
    try simp only [Act.put, List.getElem_toArray, List.getElem_cons_succ, List.getElem_cons_zero, List.setIfInBounds_toArray, List.set_cons_zero, List.set_cons_succ]
    refine wT (i := 9) (v := undef) rfl (Or.inr ⟨by kernel_rfl, rfl⟩) (by assumption) ?_
    try simp only [Act.put, List.getElem_toArray, List.getElem_cons_succ, List.getElem_cons_zero, List.setIfInBounds_toArray, List.set_cons_zero, List.set_cons_succ]
    refine wT (i := 10) (v := undef) rfl (Or.inr ⟨by kernel_rfl, rfl⟩) (by assumption) ?_
    try simp only [Act.put, List.getElem_toArray, List.getElem_cons_succ, List.getElem_cons_zero, List.setIfInBounds_toArray, List.set_cons_zero, List.set_cons_succ]
    refine wT (i := 11) (v := undef) rfl (Or.inr ⟨by kernel_rfl, rfl⟩) (by assumption) ?_
    try simp only [Act.put, List.getElem_toArray, List.getElem_cons_succ, List.getElem_cons_zero, List.setIfInBounds_toArray, List.set_cons_zero, List.set_cons_succ]
    refine wT (i := 12) (v := undef) rfl (Or.inr ⟨by kernel_rfl, rfl⟩) (by assumption) ?_
    try simp only [Act.put, List.getElem_toArray, List.getElem_cons_succ, List.getElem_cons_zero, List.setIfInBounds_toArray, List.set_cons_zero, List.set_cons_succ]
    refine wT (i := 13) (v := undef) rfl (Or.inr ⟨by kernel_rfl, rfl⟩) (by assumption) ?_
    try simp only [Act.put, List.getElem_toArray, List.getElem_cons_succ, List.getElem_cons_zero, List.setIfInBounds_toArray, List.set_cons_zero, List.set_cons_succ]
    refine wT (i := 14) (v := undef) rfl (Or.inr ⟨by kernel_rfl, rfl⟩) (by assumption) ?_
    try simp only [Act.put, List.getElem_toArray, List.getElem_cons_succ, List.getElem_cons_zero, List.setIfInBounds_toArray, List.set_cons_zero, List.set_cons_succ]
    refine wU (i := 15) (v := ?vd_15) rfl ?yd_15 (by assumption) ?_
    case yd_15 => (intro w hSw; (try dsimp only at hSw); go_simp; try with_reducible rfl)
    refine wU (i := 16) (v := ?vd_16) rfl ?yd_16 (by assumption) ?_
    case yd_16 => (intro w hSw; (try dsimp only at hSw); go_simp; try with_reducible rfl)
    try simp only [Act.put, List.getElem_toArray, List.getElem_cons_succ, List.getElem_cons_zero, List.setIfInBounds_toArray, List.set_cons_zero, List.set_cons_succ]
    refine wpAnyH_done (by kernel_rfl) ?_ _
    clear hHeld
    go_wp2
    go_roundw
    case rel => exact ⟨i + 1, (i : Int), _, rfl, by omega, by first | rfl | go_num, rfl, HO2, h0d⟩
    case measure => simp [intOf]; omega
   | some k =>
    have hB : B = (k : Int) := by have := HO.out; rw [hb] at this; exact this
    subst hB
    have hki : k < i := HLt.out i k hb
    have hkn : (k : Int) < (l3 : Int) := by omega
    have hkn0 : (0 : Int) ≤ (k : Int) := by omega
    have hkneg : ¬ (k : Int) < 0 := by omega
    have HKB : Hid (∃ nmk, Hid (nmI ns k = nmk ∧ nmk.size ≤ maxLen) ∧ Hid (∀ w, Below N W w → w.cell? ⟨b0, off + k * 3, none⟩ = some (.string nmk))) := by
     obtain ⟨b2, off2, e2, nmk, h1, h2⟩ := HBL.out k (by omega)
     cases e2
     exact ⟨nmk, h1, h2⟩
    obtain ⟨nmk, HY, HYc⟩ := HKB.out
    have HM1 := Hid.mk (rmany15_in nm0 HI.out.2)
    have HM2 := Hid.mk (rmany15_in nmk HY.out.2)
    have HT : Hid (manyF nmk < manyF nm0 → (i : Int) = plI (bf (i + 1))) := fun hg => by rw [HMore.out i k (by rw [HI.out.1]; exact hu) hb (by rw [HY.out.1, HI.out.1]; exact hg)]; rfl
    have HKp : Hid (¬ manyF nmk < manyF nm0 → (k : Int) = plI (bf (i + 1))) := fun hg => by rw [HKeep.out i k hb (by rw [HY.out.1, HI.out.1]; exact hg)]; rfl
    have HS2 : Hid (∀ w', Below V.heap.size V w' → (fun w' : World => w'.cell? ⟨N, 3, none⟩ = some (.slice (some ⟨b0, off, none⟩) l3 c3) ∧ w'.cell? ⟨b0, off + k * 3, none⟩ = some (.string nmk)) w') := fun w' hb => ⟨(HX.out w' hb).1, HYc.out w' (HX.out w' hb).2⟩
    clear hu hb HO hki HKB HS1
    generalize manyF nm0 = mz at HM1 HT HKp
    generalize manyF nmk = my at HM2 HT HKp
    go_upto_region 7 with fail
    refine wp_region_held_drew (S := (fun w' : World => w'.cell? ⟨N, 3, none⟩ = some (.slice (some ⟨b0, off, none⟩) l3 c3) ∧ w'.cell? ⟨b0, off + k * 3, none⟩ = some (.string nmk))) (by kernel_rfl) (HS2.out _ h0d) (fun hHeld => ?_)
    refine wU (i := 0) (v := ?ve_0) rfl ?ye_0 (by assumption) ?_
    case ye_0 => (intro w hSw; (try dsimp only at hSw); go_simp; try with_reducible rfl)
    refine wU (i := 1) (v := ?ve_1) rfl ?ye_1 (by assumption) ?_
    case ye_1 => (intro w hSw; (try dsimp only at hSw); go_simp; try with_reducible rfl)
    refine wU (i := 2) (v := ?ve_2) rfl ?ye_2 (by assumption) ?_
    case ye_2 => (intro w hSw; (try dsimp only at hSw); go_simp; try with_reducible rfl)
    refine wU (i := 3) (v := ?ve_3) rfl ?ye_3 (by assumption) ?_
    case ye_3 => (intro w hSw; (try dsimp only at hSw); go_simp; try with_reducible rfl)
    refine wU (i := 4) (v := ?ve_4) rfl ?ye_4 (by assumption) ?_
    case ye_4 => (intro w hSw; (try dsimp only at hSw); go_simp; try with_reducible rfl)
    refine wU (i := 5) (v := ?ve_5) rfl ?ye_5 (by assumption) ?_
    case ye_5 => (intro w hSw; (try dsimp only at hSw); go_simp; try with_reducible rfl)
    refine wU (i := 7) (v := ?ve_7) rfl ?ye_7 (by assumption) ?_
    case ye_7 => (intro w hSw; (try dsimp only at hSw); go_simp; try with_reducible rfl)
    refine wU (i := 8) (v := ?ve_8) rfl ?ye_8 (by assumption) ?_
    case ye_8 => (intro w hSw; (try dsimp only at hSw); go_simp; try with_reducible rfl)
    refine wU (i := 9) (v := ?ve_9) rfl ?ye_9 (by assumption) ?_
    case ye_9 => (intro w hSw; (try dsimp only at hSw); go_simp; try with_reducible rfl)
    refine wU (i := 10) (v := ?ve_10) rfl ?ye_10 (by assumption) ?_
    case ye_10 => (intro w hSw; (try dsimp only at hSw); go_simp; try with_reducible rfl)
    refine wU (i := 11) (v := ?ve_11) rfl ?ye_11 (by assumption) ?_
    case ye_11 => (intro w hSw; (try dsimp only at hSw); go_simp; try with_reducible rfl)
    refine wU (i := 12) (v := ?ve_12) rfl ?ye_12 (by assumption) ?_
    case ye_12 => (intro w hSw; (try dsimp only at hSw); go_simp; try with_reducible rfl)
    try simp only [Act.put, List.getElem_toArray, List.getElem_cons_succ, List.getElem_cons_zero, List.setIfInBounds_toArray, List.set_cons_zero, List.set_cons_succ]
    refine wpAnyH_ready (rs := [6]) (by kernel_rfl) (by simp) ?_
    refine AllReadyH.cons rfl (fun K hK => ?_) AllReadyH.nil
    go_simp
    go_at_call 41
    refine (HM1.out _).mono ?_
    rintro e w2 ⟨rfl, hb2'⟩
    have hb2 : Below V.heap.size V w2 := h0d.trans (hb2'.mono hN1)
    have hN2 : V.heap.size ≤ w2.heap.size := Nat.le_trans hN1 hb2'.size
    refine hK.out _ _ (HS2.out _ hb2) (fun hHeld => ?_)
    clear hK K
    try simp only [Act.put, List.getElem_toArray, List.getElem_cons_succ, List.getElem_cons_zero, List.setIfInBounds_toArray, List.set_cons_zero, List.set_cons_succ]
    refine wpAnyH_ready (rs := [13]) (by kernel_rfl) (by simp) ?_
    refine AllReadyH.cons rfl (fun K hK => ?_) AllReadyH.nil
    go_simp
    go_at_call 41
    refine (HM2.out _).mono ?_
    rintro e w3 ⟨rfl, hb3'⟩
    have HB3 : Hid (Below V.heap.size V w3) := hb2.trans (hb3'.mono hN2)
    refine hK.out _ _ (HS2.out _ HB3.out) (fun hHeld => ?_)
    clear hK K
    try simp only [Act.put, List.getElem_toArray, List.getElem_cons_succ, List.getElem_cons_zero, List.setIfInBounds_toArray, List.set_cons_zero, List.set_cons_succ]
    refine wU (i := 14) (v := ?vf_14) rfl ?yf_14 (by assumption) ?_
    case yf_14 => (intro w hSw; (try dsimp only at hSw); go_simp; try with_reducible rfl)
    refine wU (i := 15) (v := ?vf_15) rfl ?yf_15 (by assumption) ?_
    case yf_15 => (intro w hSw; (try dsimp only at hSw); go_simp; try with_reducible rfl)
    refine wU (i := 16) (v := ?vf_16) rfl ?yf_16 (by assumption) ?_
    case yf_16 => (intro w hSw; (try dsimp only at hSw); go_simp; try with_reducible rfl)
    try simp only [Act.put, List.getElem_toArray, List.getElem_cons_succ, List.getElem_cons_zero, List.setIfInBounds_toArray, List.set_cons_zero, List.set_cons_succ]
    refine wpAnyH_done (by kernel_rfl) ?_ _
    clear hHeld
    by_cases hg : my < mz
    ·have HO2 := Hid.mk (HT.out hg)
     have dg : decide ((my : Int) < (mz : Int)) = true := decide_eq_true (by omega)
     have hg2 : (my : Int) < (mz : Int) := by omega
     clear HT HKp
     go_wp2
     go_roundw
     case rel => exact ⟨i + 1, (i : Int), _, rfl, by omega, by first | rfl | go_num, rfl, HO2, HB3⟩
     case measure => simp [intOf]; omega
    ·have HO2 := Hid.mk (HKp.out hg)
     have dg : decide ((my : Int) < (mz : Int)) = false := decide_eq_false (by omega)
     have hg2 : ¬ (my : Int) < (mz : Int) := by omega
     clear HT HKp
     go_wp2
     go_roundw
     case rel => exact ⟨i + 1, (k : Int), _, rfl, by omega, by first | rfl | go_num, rfl, HO2, HB3⟩
     case measure => simp [intOf]; omega
  ·have hlz : ¬ (i : Int) < (l3 : Int) := by omega
   have he : B = plI (bf l3) := by rw [HO.out, show i = l3 by omega]
   subst he
   have HE := Hid.mk hbN
   clear hbN
   go_wp2
   go_ret
   exact ⟨rfl, HE.out⟩
section
attribute [local go_sem ↓] app_ds
set_option maxRecDepth 100000 in
set_option maxHeartbeats 16000000 in
theorem ranchor_in (W : World) (k : Cq) (c : Cf) (hat : CfAt W k c) (hin : CfIn c) (s : ByteArray) (hs : s.size ≤ maxLen) : Calls Tryz.prog 20 #[cfV k c, .string s] W fun e w' => AncP W c s e w' := by
 obtain ⟨N, hN⟩ : ∃ N, W.heap.size = N := ⟨_, rfl⟩
 have HNN := Hid.mk hN
 obtain ⟨ls, hls⟩ : ∃ ls, c.an = ls := ⟨_, rfl⟩
 obtain ⟨ns, hns⟩ : ∃ ns, ls.map An.nm = ns := ⟨_, rfl⟩
 obtain ⟨n, hn⟩ : ∃ n, ls.length = n := ⟨_, rfl⟩
 have HNL := Hid.mk hn
 have hat0 := hat.an
 have hsh := hat.s4
 have hin0 := hin.an
 rw [hls] at hat0 hsh hin0
 have HBL : Hid (∀ i, i < n → ∃ b off, k.q4 = some ⟨b, off, none⟩ ∧ ∃ nm0, Hid (nmI ns i = nm0 ∧ nm0.size ≤ maxLen) ∧ Hid (∀ w, Below N W w → w.cell? ⟨b, off + i * 5, none⟩ = some (.string nm0))) := by
  intro i hi
  have hi' : i < ls.length := by omega
  have e0 : nmI ns i = ls[i].nm := by rw [← hns]; exact nmI_map _ hi'
  obtain ⟨b, off, e, hlt, c0, c1, c2, c3, c4⟩ := hat0 i hi'
  exact ⟨b, off, e, ls[i].nm, ⟨e0, (hin0 _ (List.getElem_mem hi')).1⟩, fun w hb => by rw [← hN] at hb; exact (hb.cell (p := ⟨b, off + i * 5, none⟩) hlt).trans c0⟩
 have hnx : n ≤ 9223372036854775807 := by
  have h1 := hsh.1
  have h2 := hsh.2.1
  rw [hn] at h1
  unfold maxLen at h2
  omega
 obtain ⟨bf, hbf⟩ : ∃ bf, bestN ns s = bf := ⟨_, rfl⟩
 have HSkip : Hid (∀ i, undF s (nmI ns i) = false → bf (i + 1) = bf i) := fun i h => by rw [← hbf]; exact bestN_skip h
 have HFirst : Hid (∀ i, undF s (nmI ns i) = true → bf i = none → bf (i + 1) = some i) := fun i h hb => by rw [← hbf] at hb ⊢; exact bestN_first h hb
 have HMore : Hid (∀ i b, undF s (nmI ns i) = true → bf i = some b → manyF (nmI ns b) < manyF (nmI ns i) → bf (i + 1) = some i) := fun i b h hb hm => by rw [← hbf] at hb ⊢; exact bestN_more h hb hm
 have HKeep : Hid (∀ i b, bf i = some b → ¬ manyF (nmI ns b) < manyF (nmI ns i) → bf (i + 1) = some b) := fun i b hb hm => by rw [← hbf] at hb ⊢; exact bestN_keep hb hm
 have HLt : Hid (∀ i b, bf i = some b → b < i) := fun i b hb => by rw [← hbf] at hb; exact bestN_lt hb
 have HB0 : bf 0 = none := by rw [← hbf]; rfl
 have HBf := Hid.mk hbf
 have hl56 := hin.l4
 have HNone : Hid (∀ w', bf ls.length = none → Below N W w' → AncP W c s (.returned (.tuple #[.string ⟨#[]⟩, .slice none 0 0, .bool false])) w') := fun w' h hb => by
  subst hls
  exact ⟨.inl ⟨by rw [hns, hbf]; exact h, rfl⟩, by rw [hN]; exact hb⟩
 have HSome : Hid (∀ w' b (hb : b < ls.length) v', bf ls.length = some b → w'.ownsRow N 68 4 v' (selA ls ls[b].nm).length (dsC (selA ls ls[b].nm)) → Below N W w' → AncP W c s (.returned (.tuple #[.string ls[b].nm, v', .bool true])) w') := by
  intro w' b hb v' h hr hbel
  subst hls
  exact ⟨.inr ⟨b, hb, by rw [hns, hbf]; exact h, v', rfl, by rw [hN]; exact hr⟩, by rw [hN]; exact hbel⟩
 have HAn := Hid.mk (fun n hn => ans_cells hat0 hin0 (n := n) hn)
 rw [hls] at hl56
 obtain ⟨l0, hl0⟩ : ∃ n, c.rt.length = n := ⟨_, rfl⟩
 obtain ⟨l1, hl1⟩ : ∃ n, c.ru.length = n := ⟨_, rfl⟩
 obtain ⟨l2, hl2⟩ : ∃ n, c.lc.length = n := ⟨_, rfl⟩
 obtain ⟨l3, hl3⟩ : ∃ n, c.up.length = n := ⟨_, rfl⟩
 obtain ⟨l4, hl4⟩ : ∃ n, c.an.length = n := ⟨_, rfl⟩
 obtain ⟨n0, hn0⟩ : ∃ n, c.n0 = n := ⟨_, rfl⟩
 obtain ⟨n1, hn1⟩ : ∃ n, c.n1 = n := ⟨_, rfl⟩
 obtain ⟨n2, hn2⟩ : ∃ n, c.n2 = n := ⟨_, rfl⟩
 obtain ⟨n3, hn3⟩ : ∃ n, c.n3 = n := ⟨_, rfl⟩
 have hnl : l4 = n := by rw [← hl4, hls, hn]
 obtain ⟨q0, c0, q1, c1, q2, c2, q3, c3, q4, c4⟩ := k
 simp only at HBL
 simp only [cfV, cfC]
 rw [hl0, hl1, hl2, hl3, hl4, hn0, hn1, hn2, hn3]
 clear hl0 hl1 hl2 hl3 hl4 hn0 hn1 hn2 hn3
 subst hnl
 obtain ⟨V, hV⟩ : ∃ V, W.alloc (.cells #[.slice q0 l0 c0, .slice q1 l1 c1, .slice q2 l2 c2, .slice q3 l3 c3, .slice q4 l4 c4, .int .i64 n0, .int .i64 n1, .int .i64 n2, .int .i64 n3] 51) = V := ⟨_, rfl⟩
 have X0 : Bx W W.heap.size [.slice q0 l0 c0, .slice q1 l1 c1, .slice q2 l2 c2, .slice q3 l3 c3, .slice q4 l4 c4, .int .i64 n0, .int .i64 n1, .int .i64 n2, .int .i64 n3] 51 V := hV ▸ Bx.new W _ _
 have HV := Hid.mk hV
 rw [hN] at X0
 have hNV : N ≤ V.heap.size := by rw [← hN]; exact X0.bel.size
 have HX : Hid (∀ w, Below V.heap.size V w → w.cell? ⟨N, 4, none⟩ = some (.slice q4 l4 c4) ∧ Below N W w) := fun w hb => ⟨(X0.blk hb).cell 4 _ rfl, by have h1 := X0.bel; rw [hN] at h1; exact h1.trans (hb.mono hNV)⟩
 clear hat hin hat0 hin0 hls hns hn hsh hbf hV X0
 have HAc := Hid.mk (HAn.out _ HNL.out)
 rw [hN] at HAc
 rw [HNL.out] at hl56
 go_enter Tryz.func20, Tryz.ntmps20
 go_upto_region 3 with fail
 rw [HV.out]
 clear hN
 go_loopw [7, 8] (fun bv iv wr => ∃ (i : Nat) (B : Int) (u : World), u = wr ∧ i ≤ l4 ∧ iv = .int .i64 (i : Int) ∧ bv = .int .i64 B ∧ Hid (B = plI (bf i)) ∧ Hid (Below V.heap.size V u)) (fun _ iv _ => l4 - (intOf iv).toNat)
 case atStart => exact ⟨0, -1, _, rfl, Nat.zero_le _, rfl, rfl, by rw [HB0]; rfl, Below.refl _ _⟩
 case round =>
  obtain ⟨i, B, u, rfl, hi, rfl, rfl, HO, HU⟩ := hrel
  have hVu : V.heap.size ≤ u.heap.size := HU.out.size
  clear HB0
  obtain ⟨x3, hbN⟩ := HX.out _ HU.out
  by_cases hlt : i < l4
  ·have hlz : (i : Int) < (l4 : Int) := by omega
   have hlz0 : (0 : Int) ≤ (i : Int) := by omega
   have wi : IntKind.i64.wrap ((i : Int) + 1) = ((i + 1 : Nat) : Int) := by rw [IntKind.wrap_i64]; omega
   obtain ⟨b0, off, rfl, nm0, HI, HC⟩ := HBL.out i hlt
   have d0 := HC.out _ hbN
   have HUn := Hid.mk (runder_in s nm0 hs HI.out.2)
   clear hbN
   go_wp2_with fail
   refine (HUn.out _).mono ?_
   rintro e w1 ⟨rfl, hb1⟩
   have HB1 : Hid (Below V.heap.size V w1) := HU.out.trans (hb1.mono hVu)
   have hN1 : V.heap.size ≤ w1.heap.size := Nat.le_trans hVu hb1.size
   have h0d : Below V.heap.size V w1.drew := HB1.out.drew
   have HS1 : Hid (∀ w', Below V.heap.size V w' → (fun w' : World => w'.cell? ⟨N, 4, none⟩ = some (.slice (some ⟨b0, off, none⟩) l4 c4)) w') := fun w' hb => (HX.out w' hb).1
   clear hb1 x3 d0
   cases hu : undF s nm0 with
   | false =>
    have HO2 : Hid (B = plI (bf (i + 1))) := by rw [HSkip.out i (by rw [HI.out.1]; exact hu)]; exact HO.out
    clear hu
    go_upto_region 7 with fail
    refine wp_region_held_drew (S := (fun w' : World => w'.cell? ⟨N, 4, none⟩ = some (.slice (some ⟨b0, off, none⟩) l4 c4))) (by kernel_rfl) (HS1.out _ h0d) (fun hHeld => ?_)
    refine wU (i := 0) (v := ?va_0) rfl ?ya_0 (by assumption) ?_
    case ya_0 => (intro w hSw; (try dsimp only at hSw); go_simp; try with_reducible rfl)
    refine wU (i := 1) (v := ?va_1) rfl ?ya_1 (by assumption) ?_
    case ya_1 => (intro w hSw; (try dsimp only at hSw); go_simp; try with_reducible rfl)
    try simp only [Act.put, List.getElem_toArray, List.getElem_cons_succ, List.getElem_cons_zero, List.setIfInBounds_toArray, List.set_cons_zero, List.set_cons_succ]
    refine wT (i := 2) (v := undef) rfl (Or.inr ⟨by kernel_rfl, rfl⟩) (by assumption) ?_
    try simp only [Act.put, List.getElem_toArray, List.getElem_cons_succ, List.getElem_cons_zero, List.setIfInBounds_toArray, List.set_cons_zero, List.set_cons_succ]
    refine wT (i := 3) (v := undef) rfl (Or.inr ⟨by kernel_rfl, rfl⟩) (by assumption) ?_
    try simp only [Act.put, List.getElem_toArray, List.getElem_cons_succ, List.getElem_cons_zero, List.setIfInBounds_toArray, List.set_cons_zero, List.set_cons_succ]
    refine wT (i := 4) (v := undef) rfl (Or.inr ⟨by kernel_rfl, rfl⟩) (by assumption) ?_
    try simp only [Act.put, List.getElem_toArray, List.getElem_cons_succ, List.getElem_cons_zero, List.setIfInBounds_toArray, List.set_cons_zero, List.set_cons_succ]
    refine wT (i := 5) (v := undef) rfl (Or.inr ⟨by kernel_rfl, rfl⟩) (by assumption) ?_
    try simp only [Act.put, List.getElem_toArray, List.getElem_cons_succ, List.getElem_cons_zero, List.setIfInBounds_toArray, List.set_cons_zero, List.set_cons_succ]
    refine wT (i := 6) (v := undef) rfl (Or.inr ⟨by kernel_rfl, rfl⟩) (by assumption) ?_
    try simp only [Act.put, List.getElem_toArray, List.getElem_cons_succ, List.getElem_cons_zero, List.setIfInBounds_toArray, List.set_cons_zero, List.set_cons_succ]
    refine wT (i := 7) (v := undef) rfl (Or.inr ⟨by kernel_rfl, rfl⟩) (by assumption) ?_
    try simp only [Act.put, List.getElem_toArray, List.getElem_cons_succ, List.getElem_cons_zero, List.setIfInBounds_toArray, List.set_cons_zero, List.set_cons_succ]
    refine wT (i := 8) (v := undef) rfl (Or.inr ⟨by kernel_rfl, rfl⟩) (by assumption) ?_
    try simp only [Act.put, List.getElem_toArray, List.getElem_cons_succ, List.getElem_cons_zero, List.setIfInBounds_toArray, List.set_cons_zero, List.set_cons_succ]
    refine wT (i := 9) (v := undef) rfl (Or.inr ⟨by kernel_rfl, rfl⟩) (by assumption) ?_
    try simp only [Act.put, List.getElem_toArray, List.getElem_cons_succ, List.getElem_cons_zero, List.setIfInBounds_toArray, List.set_cons_zero, List.set_cons_succ]
    refine wT (i := 10) (v := undef) rfl (Or.inr ⟨by kernel_rfl, rfl⟩) (by assumption) ?_
    try simp only [Act.put, List.getElem_toArray, List.getElem_cons_succ, List.getElem_cons_zero, List.setIfInBounds_toArray, List.set_cons_zero, List.set_cons_succ]
    refine wT (i := 11) (v := undef) rfl (Or.inr ⟨by kernel_rfl, rfl⟩) (by assumption) ?_
    try simp only [Act.put, List.getElem_toArray, List.getElem_cons_succ, List.getElem_cons_zero, List.setIfInBounds_toArray, List.set_cons_zero, List.set_cons_succ]
    refine wT (i := 12) (v := undef) rfl (Or.inr ⟨by kernel_rfl, rfl⟩) (by assumption) ?_
    try simp only [Act.put, List.getElem_toArray, List.getElem_cons_succ, List.getElem_cons_zero, List.setIfInBounds_toArray, List.set_cons_zero, List.set_cons_succ]
    refine wT (i := 13) (v := undef) rfl (Or.inr ⟨by kernel_rfl, rfl⟩) (by assumption) ?_
    try simp only [Act.put, List.getElem_toArray, List.getElem_cons_succ, List.getElem_cons_zero, List.setIfInBounds_toArray, List.set_cons_zero, List.set_cons_succ]
    refine wT (i := 14) (v := undef) rfl (Or.inr ⟨by kernel_rfl, rfl⟩) (by assumption) ?_
    try simp only [Act.put, List.getElem_toArray, List.getElem_cons_succ, List.getElem_cons_zero, List.setIfInBounds_toArray, List.set_cons_zero, List.set_cons_succ]
    refine wT (i := 15) (v := undef) rfl (Or.inr ⟨by kernel_rfl, rfl⟩) (by assumption) ?_
    try simp only [Act.put, List.getElem_toArray, List.getElem_cons_succ, List.getElem_cons_zero, List.setIfInBounds_toArray, List.set_cons_zero, List.set_cons_succ]
    refine wU (i := 16) (v := ?vb_16) rfl ?yb_16 (by assumption) ?_
    case yb_16 => (intro w hSw; (try dsimp only at hSw); go_simp; try with_reducible rfl)
    try simp only [Act.put, List.getElem_toArray, List.getElem_cons_succ, List.getElem_cons_zero, List.setIfInBounds_toArray, List.set_cons_zero, List.set_cons_succ]
    refine wpAnyH_done (by kernel_rfl) ?_ _
    clear hHeld
    go_wp2
    go_roundw
    case rel => exact ⟨i + 1, B, _, rfl, by omega, by first | rfl | go_num, rfl, HO2, h0d⟩
    case measure => simp [intOf]; omega
   | true =>
   cases hb : bf i with
   | none =>
    have HO2 : Hid ((i : Int) = plI (bf (i + 1))) := by rw [HFirst.out i (by rw [HI.out.1]; exact hu) hb]; rfl
    have hB : B = -1 := by have := HO.out; rw [hb] at this; exact this
    subst hB
    clear hu hb HO
    go_upto_region 7 with fail
    refine wp_region_held_drew (S := (fun w' : World => w'.cell? ⟨N, 4, none⟩ = some (.slice (some ⟨b0, off, none⟩) l4 c4))) (by kernel_rfl) (HS1.out _ h0d) (fun hHeld => ?_)
    refine wU (i := 0) (v := ?vc_0) rfl ?yc_0 (by assumption) ?_
    case yc_0 => (intro w hSw; (try dsimp only at hSw); go_simp; try with_reducible rfl)
    refine wU (i := 1) (v := ?vc_1) rfl ?yc_1 (by assumption) ?_
    case yc_1 => (intro w hSw; (try dsimp only at hSw); go_simp; try with_reducible rfl)
    refine wU (i := 2) (v := ?vc_2) rfl ?yc_2 (by assumption) ?_
    case yc_2 => (intro w hSw; (try dsimp only at hSw); go_simp; try with_reducible rfl)
    refine wU (i := 3) (v := ?vc_3) rfl ?yc_3 (by assumption) ?_
    case yc_3 => (intro w hSw; (try dsimp only at hSw); go_simp; try with_reducible rfl)
    refine wU (i := 4) (v := ?vc_4) rfl ?yc_4 (by assumption) ?_
    case yc_4 => (intro w hSw; (try dsimp only at hSw); go_simp; try with_reducible rfl)
    try simp only [Act.put, List.getElem_toArray, List.getElem_cons_succ, List.getElem_cons_zero, List.setIfInBounds_toArray, List.set_cons_zero, List.set_cons_succ]
    refine wT (i := 5) (v := undef) rfl (Or.inr ⟨by kernel_rfl, rfl⟩) (by assumption) ?_
    try simp only [Act.put, List.getElem_toArray, List.getElem_cons_succ, List.getElem_cons_zero, List.setIfInBounds_toArray, List.set_cons_zero, List.set_cons_succ]
    refine wT (i := 6) (v := undef) rfl (Or.inr ⟨by kernel_rfl, rfl⟩) (by assumption) ?_
    try simp only [Act.put, List.getElem_toArray, List.getElem_cons_succ, List.getElem_cons_zero, List.setIfInBounds_toArray, List.set_cons_zero, List.set_cons_succ]
    refine wT (i := 7) (v := undef) rfl (Or.inr ⟨by kernel_rfl, rfl⟩) (by assumption) ?_
    try simp only [Act.put, List.getElem_toArray, List.getElem_cons_succ, List.getElem_cons_zero, List.setIfInBounds_toArray, List.set_cons_zero, List.set_cons_succ]
    refine wT (i := 8) (v := undef) rfl (Or.inr ⟨by kernel_rfl, rfl⟩) (by assumption) ?_
    try simp only [Act.put, List.getElem_toArray, List.getElem_cons_succ, List.getElem_cons_zero, List.setIfInBounds_toArray, List.set_cons_zero, List.set_cons_succ]
    refine wT (i := 9) (v := undef) rfl (Or.inr ⟨by kernel_rfl, rfl⟩) (by assumption) ?_
    try simp only [Act.put, List.getElem_toArray, List.getElem_cons_succ, List.getElem_cons_zero, List.setIfInBounds_toArray, List.set_cons_zero, List.set_cons_succ]
    refine wT (i := 10) (v := undef) rfl (Or.inr ⟨by kernel_rfl, rfl⟩) (by assumption) ?_
    try simp only [Act.put, List.getElem_toArray, List.getElem_cons_succ, List.getElem_cons_zero, List.setIfInBounds_toArray, List.set_cons_zero, List.set_cons_succ]
    refine wT (i := 11) (v := undef) rfl (Or.inr ⟨by kernel_rfl, rfl⟩) (by assumption) ?_
    try simp only [Act.put, List.getElem_toArray, List.getElem_cons_succ, List.getElem_cons_zero, List.setIfInBounds_toArray, List.set_cons_zero, List.set_cons_succ]
    refine wT (i := 12) (v := undef) rfl (Or.inr ⟨by kernel_rfl, rfl⟩) (by assumption) ?_
    try simp only [Act.put, List.getElem_toArray, List.getElem_cons_succ, List.getElem_cons_zero, List.setIfInBounds_toArray, List.set_cons_zero, List.set_cons_succ]
    refine wT (i := 13) (v := undef) rfl (Or.inr ⟨by kernel_rfl, rfl⟩) (by assumption) ?_
    try simp only [Act.put, List.getElem_toArray, List.getElem_cons_succ, List.getElem_cons_zero, List.setIfInBounds_toArray, List.set_cons_zero, List.set_cons_succ]
    refine wT (i := 14) (v := undef) rfl (Or.inr ⟨by kernel_rfl, rfl⟩) (by assumption) ?_
    try simp only [Act.put, List.getElem_toArray, List.getElem_cons_succ, List.getElem_cons_zero, List.setIfInBounds_toArray, List.set_cons_zero, List.set_cons_succ]
    refine wU (i := 15) (v := ?vd_15) rfl ?yd_15 (by assumption) ?_
    case yd_15 => (intro w hSw; (try dsimp only at hSw); go_simp; try with_reducible rfl)
    refine wU (i := 16) (v := ?vd_16) rfl ?yd_16 (by assumption) ?_
    case yd_16 => (intro w hSw; (try dsimp only at hSw); go_simp; try with_reducible rfl)
    try simp only [Act.put, List.getElem_toArray, List.getElem_cons_succ, List.getElem_cons_zero, List.setIfInBounds_toArray, List.set_cons_zero, List.set_cons_succ]
    refine wpAnyH_done (by kernel_rfl) ?_ _
    clear hHeld
    go_wp2
    go_roundw
    case rel => exact ⟨i + 1, (i : Int), _, rfl, by omega, by first | rfl | go_num, rfl, HO2, h0d⟩
    case measure => simp [intOf]; omega
   | some k =>
    have hB : B = (k : Int) := by have := HO.out; rw [hb] at this; exact this
    subst hB
    have hki : k < i := HLt.out i k hb
    have hkn : (k : Int) < (l4 : Int) := by omega
    have hkn0 : (0 : Int) ≤ (k : Int) := by omega
    have hkneg : ¬ (k : Int) < 0 := by omega
    have HKB : Hid (∃ nmk, Hid (nmI ns k = nmk ∧ nmk.size ≤ maxLen) ∧ Hid (∀ w, Below N W w → w.cell? ⟨b0, off + k * 5, none⟩ = some (.string nmk))) := by
     obtain ⟨b2, off2, e2, nmk, h1, h2⟩ := HBL.out k (by omega)
     cases e2
     exact ⟨nmk, h1, h2⟩
    obtain ⟨nmk, HY, HYc⟩ := HKB.out
    have HM1 := Hid.mk (rmany15_in nm0 HI.out.2)
    have HM2 := Hid.mk (rmany15_in nmk HY.out.2)
    have HT : Hid (manyF nmk < manyF nm0 → (i : Int) = plI (bf (i + 1))) := fun hg => by rw [HMore.out i k (by rw [HI.out.1]; exact hu) hb (by rw [HY.out.1, HI.out.1]; exact hg)]; rfl
    have HKp : Hid (¬ manyF nmk < manyF nm0 → (k : Int) = plI (bf (i + 1))) := fun hg => by rw [HKeep.out i k hb (by rw [HY.out.1, HI.out.1]; exact hg)]; rfl
    have HS2 : Hid (∀ w', Below V.heap.size V w' → (fun w' : World => w'.cell? ⟨N, 4, none⟩ = some (.slice (some ⟨b0, off, none⟩) l4 c4) ∧ w'.cell? ⟨b0, off + k * 5, none⟩ = some (.string nmk)) w') := fun w' hb => ⟨(HX.out w' hb).1, HYc.out w' (HX.out w' hb).2⟩
    clear hu hb HO hki HKB HS1
    generalize manyF nm0 = mz at HM1 HT HKp
    generalize manyF nmk = my at HM2 HT HKp
    go_upto_region 7 with fail
    refine wp_region_held_drew (S := (fun w' : World => w'.cell? ⟨N, 4, none⟩ = some (.slice (some ⟨b0, off, none⟩) l4 c4) ∧ w'.cell? ⟨b0, off + k * 5, none⟩ = some (.string nmk))) (by kernel_rfl) (HS2.out _ h0d) (fun hHeld => ?_)
    refine wU (i := 0) (v := ?ve_0) rfl ?ye_0 (by assumption) ?_
    case ye_0 => (intro w hSw; (try dsimp only at hSw); go_simp; try with_reducible rfl)
    refine wU (i := 1) (v := ?ve_1) rfl ?ye_1 (by assumption) ?_
    case ye_1 => (intro w hSw; (try dsimp only at hSw); go_simp; try with_reducible rfl)
    refine wU (i := 2) (v := ?ve_2) rfl ?ye_2 (by assumption) ?_
    case ye_2 => (intro w hSw; (try dsimp only at hSw); go_simp; try with_reducible rfl)
    refine wU (i := 3) (v := ?ve_3) rfl ?ye_3 (by assumption) ?_
    case ye_3 => (intro w hSw; (try dsimp only at hSw); go_simp; try with_reducible rfl)
    refine wU (i := 4) (v := ?ve_4) rfl ?ye_4 (by assumption) ?_
    case ye_4 => (intro w hSw; (try dsimp only at hSw); go_simp; try with_reducible rfl)
    refine wU (i := 5) (v := ?ve_5) rfl ?ye_5 (by assumption) ?_
    case ye_5 => (intro w hSw; (try dsimp only at hSw); go_simp; try with_reducible rfl)
    refine wU (i := 7) (v := ?ve_7) rfl ?ye_7 (by assumption) ?_
    case ye_7 => (intro w hSw; (try dsimp only at hSw); go_simp; try with_reducible rfl)
    refine wU (i := 8) (v := ?ve_8) rfl ?ye_8 (by assumption) ?_
    case ye_8 => (intro w hSw; (try dsimp only at hSw); go_simp; try with_reducible rfl)
    refine wU (i := 9) (v := ?ve_9) rfl ?ye_9 (by assumption) ?_
    case ye_9 => (intro w hSw; (try dsimp only at hSw); go_simp; try with_reducible rfl)
    refine wU (i := 10) (v := ?ve_10) rfl ?ye_10 (by assumption) ?_
    case ye_10 => (intro w hSw; (try dsimp only at hSw); go_simp; try with_reducible rfl)
    refine wU (i := 11) (v := ?ve_11) rfl ?ye_11 (by assumption) ?_
    case ye_11 => (intro w hSw; (try dsimp only at hSw); go_simp; try with_reducible rfl)
    refine wU (i := 12) (v := ?ve_12) rfl ?ye_12 (by assumption) ?_
    case ye_12 => (intro w hSw; (try dsimp only at hSw); go_simp; try with_reducible rfl)
    try simp only [Act.put, List.getElem_toArray, List.getElem_cons_succ, List.getElem_cons_zero, List.setIfInBounds_toArray, List.set_cons_zero, List.set_cons_succ]
    refine wpAnyH_ready (rs := [6]) (by kernel_rfl) (by simp) ?_
    refine AllReadyH.cons rfl (fun K hK => ?_) AllReadyH.nil
    go_simp
    go_at_call 41
    refine (HM1.out _).mono ?_
    rintro e w2 ⟨rfl, hb2'⟩
    have hb2 : Below V.heap.size V w2 := h0d.trans (hb2'.mono hN1)
    have hN2 : V.heap.size ≤ w2.heap.size := Nat.le_trans hN1 hb2'.size
    refine hK.out _ _ (HS2.out _ hb2) (fun hHeld => ?_)
    clear hK K
    try simp only [Act.put, List.getElem_toArray, List.getElem_cons_succ, List.getElem_cons_zero, List.setIfInBounds_toArray, List.set_cons_zero, List.set_cons_succ]
    refine wpAnyH_ready (rs := [13]) (by kernel_rfl) (by simp) ?_
    refine AllReadyH.cons rfl (fun K hK => ?_) AllReadyH.nil
    go_simp
    go_at_call 41
    refine (HM2.out _).mono ?_
    rintro e w3 ⟨rfl, hb3'⟩
    have HB3 : Hid (Below V.heap.size V w3) := hb2.trans (hb3'.mono hN2)
    refine hK.out _ _ (HS2.out _ HB3.out) (fun hHeld => ?_)
    clear hK K
    try simp only [Act.put, List.getElem_toArray, List.getElem_cons_succ, List.getElem_cons_zero, List.setIfInBounds_toArray, List.set_cons_zero, List.set_cons_succ]
    refine wU (i := 14) (v := ?vf_14) rfl ?yf_14 (by assumption) ?_
    case yf_14 => (intro w hSw; (try dsimp only at hSw); go_simp; try with_reducible rfl)
    refine wU (i := 15) (v := ?vf_15) rfl ?yf_15 (by assumption) ?_
    case yf_15 => (intro w hSw; (try dsimp only at hSw); go_simp; try with_reducible rfl)
    refine wU (i := 16) (v := ?vf_16) rfl ?yf_16 (by assumption) ?_
    case yf_16 => (intro w hSw; (try dsimp only at hSw); go_simp; try with_reducible rfl)
    try simp only [Act.put, List.getElem_toArray, List.getElem_cons_succ, List.getElem_cons_zero, List.setIfInBounds_toArray, List.set_cons_zero, List.set_cons_succ]
    refine wpAnyH_done (by kernel_rfl) ?_ _
    clear hHeld
    by_cases hg : my < mz
    ·have HO2 := Hid.mk (HT.out hg)
     have dg : decide ((my : Int) < (mz : Int)) = true := decide_eq_true (by omega)
     have hg2 : (my : Int) < (mz : Int) := by omega
     clear HT HKp
     go_wp2
     go_roundw
     case rel => exact ⟨i + 1, (i : Int), _, rfl, by omega, by first | rfl | go_num, rfl, HO2, HB3⟩
     case measure => simp [intOf]; omega
    ·have HO2 := Hid.mk (HKp.out hg)
     have dg : decide ((my : Int) < (mz : Int)) = false := decide_eq_false (by omega)
     have hg2 : ¬ (my : Int) < (mz : Int) := by omega
     clear HT HKp
     go_wp2
     go_roundw
     case rel => exact ⟨i + 1, (k : Int), _, rfl, by omega, by first | rfl | go_num, rfl, HO2, HB3⟩
     case measure => simp [intOf]; omega
  ·have hlz : ¬ (i : Int) < (l4 : Int) := by omega
   have he : B = plI (bf l4) := by rw [HO.out, show i = l4 by omega]
   subst he
   cases ho : bf l4 with
   | none =>
    have HE := Hid.mk (HNone.out u (by rw [HNL.out]; exact ho) hbN)
    have e1 : plI none = -1 := rfl
    rw [e1]
    clear hbN ho
    go_wp2
    go_ret3
    exact HE.out
   | some b =>
    have hb4 : b < l4 := HLt.out _ _ ho
    have hbl : b < ls.length := by have := HNL.out; omega
    have HFin := Hid.mk (fun w' v' => HSome.out w' b hbl v' (by rw [HNL.out]; exact ho))
    have e1 : plI (some b) = (b : Int) := rfl
    rw [e1]
    have hbz : ¬ (b : Int) < 0 := by omega
    have hbz0 : (0 : Int) ≤ (b : Int) := by omega
    have hbn : (b : Int) < (l4 : Int) := by omega
    obtain ⟨b0, off, rfl, ab, HIb, HXb⟩ := HAc.out b hb4
    have hown : ls[b].nm = ab.nm := by
     obtain ⟨⟨hi', e⟩, _⟩ := HIb.out
     rw [e]
    rw [hown] at HFin
    have HOc : Hid (∀ w, Below N W w → w.cell? ⟨b0, off + b * 5, none⟩ = some (.string ab.nm)) := fun w hb => (HXb.out w hb).1
    have hos : ab.nm.size ≤ maxLen := HIb.out.2.2.1
    generalize ab.nm = own at HFin HOc hos
    have HSel : Hid (∀ j (hi : j < ls.length), selA (ls.take (j + 1)) own = if eqF ls[j].nm own then selA (ls.take j) own ++ [ls[j]] else selA (ls.take j) own) := fun j hi => selA_snoc ls own hi
    have HLen : Hid (∀ j, (selA (ls.take j) own).length * 56 ≤ 140737488353280) := fun j => by
     have h1 := selA_len (ls.take j) own
     have h2 : (ls.take j).length ≤ ls.length := List.length_take_le' _ _
     have h3 := HNL.out
     have h4 := Nat.mul_le_mul_right 56 (Nat.le_trans h1 h2)
     rw [h3] at h4
     exact Nat.le_trans h4 hl56
    have HEnd : Hid (selA (ls.take l4) own = selA ls own) := by
     show _ = _
     rw [List.take_of_length_le (by have := HNL.out; omega)]
    have H0 : Hid (∀ w : World, w.ownsRow V.heap.size 68 4 (.slice none 0 0) (selA (ls.take 0) own).length (dsC (selA (ls.take 0) own))) := fun w => World.ownsRow_nil ..
    have HAj : Hid (∀ j, j < l4 → ∃ a : An, Hid ((∃ hi : j < ls.length, ls[j] = a) ∧ AnIn a) ∧ Hid (∀ w, Below N W w → w.cell? ⟨b0, off + j * 5, none⟩ = some (.string a.nm) ∧ w.cell? ⟨b0, off + j * 5 + 1, none⟩ = some (.int .i64 a.tg) ∧ w.cell? ⟨b0, off + j * 5 + 2, none⟩ = some (.int .i64 a.al) ∧ w.cell? ⟨b0, off + j * 5 + 3, none⟩ = some (.int .i64 a.kd) ∧ w.cell? ⟨b0, off + j * 5 + 4, none⟩ = some (.string a.dg))) := fun j hj => by
     obtain ⟨b2, off2, e2, a, h1, h2⟩ := HAc.out j hj
     cases e2
     exact ⟨a, ⟨h1.out.1, h1.out.2.2⟩, h2⟩
    clear hbN ho HNone HSome HAn HAc HIb HXb hown hl56 HO
    go_upto_region 13 with fail
    clear x3
    go_loopw [11, 12] (fun lv iv wr => ∃ (j : Nat) (lw : Value) (u : World), lw = lv ∧ u = wr ∧ j ≤ l4 ∧ iv = .int .i64 (j : Int) ∧ Hid (u.ownsRow V.heap.size 68 4 lw (selA (ls.take j) own).length (dsC (selA (ls.take j) own))) ∧ Hid (Below V.heap.size V u)) (fun _ iv _ => l4 - (intOf iv).toNat)
    case atStart => exact ⟨0, _, _, rfl, rfl, Nat.zero_le _, rfl, H0.out _, HU.out⟩
    case round =>
     obtain ⟨j, lv, u2, hlv, rfl, hj, rfl, HR, HU2⟩ := hrel
     subst hlv
     obtain ⟨x3, hbN⟩ := HX.out _ HU2.out
     have hVu2 : V.heap.size ≤ u2.heap.size := HU2.out.size
     by_cases hltj : j < l4
     ·have hjz : (j : Int) < (l4 : Int) := by omega
      have hjz0 : (0 : Int) ≤ (j : Int) := by omega
      have wj : IntKind.i64.wrap ((j : Int) + 1) = ((j + 1 : Nat) : Int) := by rw [IntKind.wrap_i64]; omega
      obtain ⟨a, HI, HXa⟩ := HAj.out j hltj
      have HSj : Hid (selA (ls.take (j + 1)) own = if eqF a.nm own then selA (ls.take j) own ++ [a] else selA (ls.take j) own) := by
       obtain ⟨⟨hi', e⟩, _⟩ := HI.out
       have := HSel.out j hi'
       rw [e] at this
       exact this
      have HAp := Hid.mk (fun (w : World) (h : w.ownsRow V.heap.size 68 4 lv (selA (ls.take j) own).length (dsC (selA (ls.take j) own))) (hM : V.heap.size ≤ w.heap.size) => ds_app h hM (by have := HLen.out j; omega) a)
      have hns := HI.out.2.1
      have HX0 : Hid (∀ w, Below N W w → w.cell? ⟨b0, off + j * 5, none⟩ = some (.string a.nm)) := fun w hb => (HXa.out w hb).1
      obtain ⟨nmj, tg, al, kd, dg⟩ := a
      (try simp only at hns)
      (try simp only at HSj)
      (try simp only at HAp)
      (try simp only at HX0)
      (try simp only at HXa)
      have HEq := Hid.mk (requal_in nmj own hns hos)
      have h0d : Below V.heap.size V u2.drew := HU2.out.drew
      have HSe : Hid (∀ w', Below V.heap.size V w' → (fun w' : World => w'.cell? ⟨N, 4, none⟩ = some (.slice (some ⟨b0, off, none⟩) l4 c4) ∧ w'.cell? ⟨b0, off + j * 5, none⟩ = some (.string nmj) ∧ w'.cell? ⟨b0, off + b * 5, none⟩ = some (.string own)) w') := fun w' hb => ⟨(HX.out w' hb).1, HX0.out _ (HX.out w' hb).2, HOc.out _ (HX.out w' hb).2⟩
      clear hbN hns
      go_upto_region 15 with fail
      clear x3
      refine wp_region_held_drew (S := (fun w' : World => w'.cell? ⟨N, 4, none⟩ = some (.slice (some ⟨b0, off, none⟩) l4 c4) ∧ w'.cell? ⟨b0, off + j * 5, none⟩ = some (.string nmj) ∧ w'.cell? ⟨b0, off + b * 5, none⟩ = some (.string own))) (by kernel_rfl) (HSe.out _ h0d) (fun hHeld => ?_)
      refine wU (i := 0) (v := ?vg_0) rfl ?yg_0 (by assumption) ?_
      case yg_0 => (intro w hSw; (try dsimp only at hSw); go_simp; try with_reducible rfl)
      refine wU (i := 1) (v := ?vg_1) rfl ?yg_1 (by assumption) ?_
      case yg_1 => (intro w hSw; (try dsimp only at hSw); go_simp; try with_reducible rfl)
      refine wU (i := 2) (v := ?vg_2) rfl ?yg_2 (by assumption) ?_
      case yg_2 => (intro w hSw; (try dsimp only at hSw); go_simp; try with_reducible rfl)
      refine wU (i := 3) (v := ?vg_3) rfl ?yg_3 (by assumption) ?_
      case yg_3 => (intro w hSw; (try dsimp only at hSw); go_simp; try with_reducible rfl)
      refine wU (i := 4) (v := ?vg_4) rfl ?yg_4 (by assumption) ?_
      case yg_4 => (intro w hSw; (try dsimp only at hSw); go_simp; try with_reducible rfl)
      refine wU (i := 5) (v := ?vg_5) rfl ?yg_5 (by assumption) ?_
      case yg_5 => (intro w hSw; (try dsimp only at hSw); go_simp; try with_reducible rfl)
      refine wU (i := 6) (v := ?vg_6) rfl ?yg_6 (by assumption) ?_
      case yg_6 => (intro w hSw; (try dsimp only at hSw); go_simp; try with_reducible rfl)
      refine wU (i := 7) (v := ?vg_7) rfl ?yg_7 (by assumption) ?_
      case yg_7 => (intro w hSw; (try dsimp only at hSw); go_simp; try with_reducible rfl)
      refine wU (i := 8) (v := ?vg_8) rfl ?yg_8 (by assumption) ?_
      case yg_8 => (intro w hSw; (try dsimp only at hSw); go_simp; try with_reducible rfl)
      refine wU (i := 9) (v := ?vg_9) rfl ?yg_9 (by assumption) ?_
      case yg_9 => (intro w hSw; (try dsimp only at hSw); go_simp; try with_reducible rfl)
      refine wU (i := 10) (v := ?vg_10) rfl ?yg_10 (by assumption) ?_
      case yg_10 => (intro w hSw; (try dsimp only at hSw); go_simp; try with_reducible rfl)
      refine wU (i := 11) (v := ?vg_11) rfl ?yg_11 (by assumption) ?_
      case yg_11 => (intro w hSw; (try dsimp only at hSw); go_simp; try with_reducible rfl)
      try simp only [Act.put, List.getElem_toArray, List.getElem_cons_succ, List.getElem_cons_zero, List.setIfInBounds_toArray, List.set_cons_zero, List.set_cons_succ]
      refine wpAnyH_ready (rs := [12]) (by kernel_rfl) (by simp) ?_
      refine AllReadyH.cons rfl (fun K hK => ?_) AllReadyH.nil
      go_simp
      go_at_call 29
      refine (HEq.out _).mono ?_
      rintro e w2 ⟨rfl, hb2'⟩
      have hb2 : Below V.heap.size V w2 := h0d.trans (hb2'.mono hVu2)
      have HR2 := Hid.mk (own_blk (own_blk HR.out (Below.refl _ _).drew) hb2')
      refine hK.out _ _ (HSe.out _ hb2) (fun hHeld => ?_)
      clear hK K
      try simp only [Act.put, List.getElem_toArray, List.getElem_cons_succ, List.getElem_cons_zero, List.setIfInBounds_toArray, List.set_cons_zero, List.set_cons_succ]
      refine wU (i := 13) (v := ?vh_13) rfl ?yh_13 (by assumption) ?_
      case yh_13 => (intro w hSw; (try dsimp only at hSw); go_simp; try with_reducible rfl)
      try simp only [Act.put, List.getElem_toArray, List.getElem_cons_succ, List.getElem_cons_zero, List.setIfInBounds_toArray, List.set_cons_zero, List.set_cons_succ]
      refine wpAnyH_done (by kernel_rfl) ?_ _
      clear hHeld
      have HB2 := Hid.mk hb2
      obtain ⟨y3, hbN2⟩ := HX.out _ hb2
      have hN2 : V.heap.size ≤ w2.heap.size := HB2.out.size
      clear hb2 hb2'
      cases he : eqF nmj own with
      | false =>
       rw [he] at HSj
       have HE : Hid (w2.ownsRow V.heap.size 68 4 lv (selA (ls.take (j + 1)) own).length (dsC (selA (ls.take (j + 1)) own))) := by rw [HSj.out]; exact HR2.out
       clear he hbN2
       go_wp2
       go_roundw
       case rel => exact ⟨j + 1, _, _, rfl, rfl, by omega, by first | rfl | go_num, HE, HB2⟩
       case measure => simp [intOf]; omega
      | true =>
       rw [he] at HSj
       obtain ⟨_, z1, z2, z3, z4⟩ := HXa.out _ hbN2
       obtain ⟨v', w4, hrun, hown4, hb4⟩ := HAp.out w2 HR2.out hN2
       have HE : Hid (w4.ownsRow V.heap.size 68 4 v' (selA (ls.take (j + 1)) own).length (dsC (selA (ls.take (j + 1)) own))) := by rw [HSj.out]; exact hown4
       have HB4 : Hid (Below V.heap.size V w4) := HB2.out.trans hb4
       clear he hbN2 hown4 hb4
       go_wp2
       go_roundw
       case rel => exact ⟨j + 1, _, _, rfl, rfl, by omega, by first | rfl | go_num, HE, HB4⟩
       case measure => simp [intOf]; omega
     ·have hjz : ¬ (j : Int) < (l4 : Int) := by omega
      have HE : Hid (u2.ownsRow V.heap.size 68 4 lv (selA ls own).length (dsC (selA ls own))) := by
       have := HR.out
       rw [show j = l4 by omega, HEnd.out] at this
       exact this
      have d0 := HOc.out _ hbN
      have HB2 := Hid.mk hbN
      clear hbN
      go_wp2
      go_ret3
      refine HFin.out _ _ ?_ HB2.out
      obtain ⟨hl, h0 | ⟨g, cap, cur, hv, hg0, r⟩⟩ := HE.out
      ·exact ⟨hl, .inl h0⟩
      ·exact ⟨hl, .inr ⟨g, cap, cur, hv, Nat.le_trans hNV hg0, r⟩⟩
end
end Go.Proofs.YtdlcldjlfhmlgaaGreatDoor
