/- Layer 12: RttReckons. -/
import Derived.Deep.RegionHeld3
import Derived.Test.YtdgkknjmhdmlfaaTiRef
namespace Go.Proofs.Ytdgkknjmhdmlfaa
set_option linter.unusedVariables false
set_option linter.unusedSimpArgs false
open Go.RowKit

/-- three numbers in a box. -/
structure Bx (w : World) (b : Nat) (t : TypeId) (x y z : Int) : Prop where
  h : w.heap[b]? = some (.cells #[.int .i64 x, .int .i64 y, .int .i64 z] t (0, 0))
theorem Bx.below {w w' : World} {b : Nat} {t : TypeId} {x y z : Int} (h : Bx w b t x y z) (hb : Below w.heap.size w w') : Bx w' b t x y z := ⟨(hb.block b (blk_lt h.h)).trans h.h⟩
theorem Bx.new (w : World) (t : TypeId) (x y z : Int) : Bx (w.alloc (.cells #[.int .i64 x, .int .i64 y, .int .i64 z] t (0, 0))) w.heap.size t x y z := ⟨heap_alloc_last _ _⟩
theorem Bx.alloc {w : World} {b : Nat} {t : TypeId} {x y z : Int} (h : Bx w b t x y z) (o : Obj) : Bx (w.alloc o) b t x y z := h.below ((Below.refl _ _).alloc (Nat.le_refl _) _)
theorem Bx.c {w : World} {b : Nat} {t : TypeId} {x y z : Int} (h : Bx w b t x y z) : w.cell? ⟨b, 0, none⟩ = some (.int .i64 x) ∧ w.cell? ⟨b, 1, none⟩ = some (.int .i64 y) ∧ w.cell? ⟨b, 2, none⟩ = some (.int .i64 z) := ⟨cell_of_heap h.h rfl, cell_of_heap h.h rfl, cell_of_heap h.h rfl⟩

set_option maxRecDepth 100000 in
set_option maxHeartbeats 8000000 in
theorem reckons_walk (srtt vary lost ms : Int) (w0 : (Lit.int .i64 srtt).wf = true) (w1 : (Lit.int .i64 vary).wf = true) (w2 : (Lit.int .i64 lost).wf = true) (w3 : (Lit.int .i64 ms).wf = true) (W : World) :
    Calls Try.prog 4 #[.int .i64 srtt, .int .i64 vary, .int .i64 lost, .int .i64 ms] W fun e w' => e = .returned (.bool true) ∧ Below W.heap.size W w' := by
  have HT := Hid.mk (fun w => timeout_in w srtt vary lost)
  have HXT := Hid.mk (fun w => xtimeout_in w srtt vary lost)
  obtain ⟨t0, ht0⟩ : ∃ x, tmo (wn srtt 1000000) (wn vary 1000000) (wn lost 10) = x := ⟨_, rfl⟩
  rw [ht0] at HT HXT
  have HS := Hid.mk (fun w => sample_in w srtt vary lost ms)
  have HXS := Hid.mk (fun w => xsample_in w srtt vary lost ms)
  have HM := Hid.mk (fun w => miss_in w srtt vary lost)
  have HXM := Hid.mk (fun w => xmiss_in w srtt vary lost)
  obtain ⟨s0, hs0⟩ : ∃ x, smpA (wn srtt 1000000) (wn vary 1000000) (wn ms 1000000) = x := ⟨_, rfl⟩
  obtain ⟨s1, hs1⟩ : ∃ x, smpB (wn srtt 1000000) (wn vary 1000000) (wn ms 1000000) = x := ⟨_, rfl⟩
  obtain ⟨m0, hm0⟩ : ∃ x, wn srtt 1000000 = x := ⟨_, rfl⟩
  obtain ⟨m1, hm1⟩ : ∃ x, wn vary 1000000 = x := ⟨_, rfl⟩
  obtain ⟨m2, hm2⟩ : ∃ x, misC (wn lost 10) = x := ⟨_, rfl⟩
  rw [hs0, hs1] at HS HXS
  rw [hm0, hm1, hm2] at HM HXM
  clear ht0 hs0 hs1 hm0 hm1 hm2
  have HTS := Hid.mk (fun w => timeout_in w s0 s1 0)
  have HXTS := Hid.mk (fun w => xtimeout_in w s0 s1 0)
  obtain ⟨ts, hts⟩ : ∃ x, tmo (wn s0 1000000) (wn s1 1000000) (wn 0 10) = x := ⟨_, rfl⟩
  rw [hts] at HTS HXTS
  have HTM := Hid.mk (fun w => timeout_in w m0 m1 m2)
  have HXTM := Hid.mk (fun w => xtimeout_in w m0 m1 m2)
  obtain ⟨tm, htm⟩ : ∃ x, tmo (wn m0 1000000) (wn m1 1000000) (wn m2 10) = x := ⟨_, rfl⟩
  rw [htm] at HTM HXTM
  clear hts htm w0 w1 w2 w3
  go_enter Try.func4, Try.ntmps4
  go_wp2_with fail
  refine (examples_in W).mono ?_
  rintro e u0 ⟨rfl, z0⟩
  obtain ⟨a, ha⟩ : ∃ a, u0.heap.size = a := ⟨_, rfl⟩
  obtain ⟨V, hV⟩ : ∃ V, (u0.alloc (.cells #[.int .i64 srtt, .int .i64 vary, .int .i64 lost] 46)).alloc (.cells #[.int .i64 srtt, .int .i64 vary, .int .i64 lost] 47) = V := ⟨_, rfl⟩
  have bV : Below u0.heap.size u0 V := by rw [← hV]; exact ((Below.refl _ _).alloc (Nat.le_refl _) _).alloc (by simp) _
  have xa : Bx V a 46 srtt vary lost := by rw [← ha, ← hV]; exact (Bx.new _ _ _ _ _).alloc _
  have xx : Bx V (a + 1) 47 srtt vary lost := by
    rw [← ha, ← hV]
    have := Bx.new (u0.alloc (.cells #[.int .i64 srtt, .int .i64 vary, .int .i64 lost] 46 (0, 0))) 47 srtt vary lost
    rwa [show (u0.alloc (.cells #[.int .i64 srtt, .int .i64 vary, .int .i64 lost] 46 (0, 0))).heap.size = u0.heap.size + 1 by simp] at this
  have HA : Hid (Bx V a 46 srtt vary lost ∧ Bx V (a + 1) 47 srtt vary lost ∧ Below W.heap.size W V ∧ W.heap.size ≤ V.heap.size) := ⟨xa, xx, z0.trans (bV.mono z0.size), Nat.le_trans z0.size bV.size⟩
  have HE := Hid.mk (And.intro ha hV)
  clear ha hV bV xa xx z0
  go_upto_region 4 with fail
  rw [HE.out.2, HE.out.1]
  obtain ⟨x00, x01, x02⟩ := (HA.out.1).c
  go_wp2_with fail
  refine (HS.out _).mono ?_
  rintro e u1 ⟨rfl, z1⟩
  clear x00 x01 x02
  obtain ⟨b1, hb1⟩ : ∃ b, u1.heap.size = b := ⟨_, rfl⟩
  obtain ⟨V1, hV1⟩ : ∃ V, u1.alloc (.cells #[.int .i64 s0, .int .i64 s1, .int .i64 0] 46) = V := ⟨_, rfl⟩
  have y1 : Below V.heap.size V V1 := by rw [← hV1]; exact z1.alloc z1.size _
  have H1 : Hid (Bx V1 a 46 srtt vary lost ∧ Bx V1 (a + 1) 47 srtt vary lost ∧ Bx V1 b1 46 s0 s1 0 ∧ Below W.heap.size W V1 ∧ W.heap.size ≤ V1.heap.size) := ⟨HA.out.1.below y1, HA.out.2.1.below y1, by rw [← hb1, ← hV1]; exact Bx.new _ _ _ _ _, HA.out.2.2.1.trans (y1.mono HA.out.2.2.2), Nat.le_trans HA.out.2.2.2 y1.size⟩
  have E1 := Hid.mk (And.intro hb1 hV1)
  clear hb1 hV1 y1 z1 HA
  go_upto_region 5 with fail
  rw [E1.out.2, E1.out.1]
  obtain ⟨x00, x01, x02⟩ := (H1.out.2.1).c
  go_wp2_with fail
  refine (HXS.out _).mono ?_
  rintro e u2 ⟨rfl, z2⟩
  clear x00 x01 x02
  obtain ⟨b2, hb2⟩ : ∃ b, u2.heap.size = b := ⟨_, rfl⟩
  obtain ⟨V2, hV2⟩ : ∃ V, u2.alloc (.cells #[.int .i64 s0, .int .i64 s1, .int .i64 0] 47) = V := ⟨_, rfl⟩
  have y2 : Below V1.heap.size V1 V2 := by rw [← hV2]; exact z2.alloc z2.size _
  have H2 : Hid (Bx V2 a 46 srtt vary lost ∧ Bx V2 (a + 1) 47 srtt vary lost ∧ Bx V2 b1 46 s0 s1 0 ∧ Bx V2 b2 47 s0 s1 0 ∧ Below W.heap.size W V2 ∧ W.heap.size ≤ V2.heap.size) := ⟨H1.out.1.below y2, H1.out.2.1.below y2, H1.out.2.2.1.below y2, by rw [← hb2, ← hV2]; exact Bx.new _ _ _ _ _, H1.out.2.2.2.1.trans (y2.mono H1.out.2.2.2.2), Nat.le_trans H1.out.2.2.2.2 y2.size⟩
  have E2 := Hid.mk (And.intro hb2 hV2)
  clear hb2 hV2 y2 z2 H1
  go_upto_region 6 with fail
  rw [E2.out.2, E2.out.1]
  obtain ⟨x00, x01, x02⟩ := (H2.out.1).c
  go_wp2_with fail
  refine (HM.out _).mono ?_
  rintro e u3 ⟨rfl, z3⟩
  clear x00 x01 x02
  obtain ⟨b3, hb3⟩ : ∃ b, u3.heap.size = b := ⟨_, rfl⟩
  obtain ⟨V3, hV3⟩ : ∃ V, u3.alloc (.cells #[.int .i64 m0, .int .i64 m1, .int .i64 m2] 46) = V := ⟨_, rfl⟩
  have y3 : Below V2.heap.size V2 V3 := by rw [← hV3]; exact z3.alloc z3.size _
  have H3 : Hid (Bx V3 a 46 srtt vary lost ∧ Bx V3 (a + 1) 47 srtt vary lost ∧ Bx V3 b1 46 s0 s1 0 ∧ Bx V3 b2 47 s0 s1 0 ∧ Bx V3 b3 46 m0 m1 m2 ∧ Below W.heap.size W V3 ∧ W.heap.size ≤ V3.heap.size) := ⟨H2.out.1.below y3, H2.out.2.1.below y3, H2.out.2.2.1.below y3, H2.out.2.2.2.1.below y3, by rw [← hb3, ← hV3]; exact Bx.new _ _ _ _ _, H2.out.2.2.2.2.1.trans (y3.mono H2.out.2.2.2.2.2), Nat.le_trans H2.out.2.2.2.2.2 y3.size⟩
  have E3 := Hid.mk (And.intro hb3 hV3)
  clear hb3 hV3 y3 z3 H2
  go_upto_region 7 with fail
  rw [E3.out.2, E3.out.1]
  obtain ⟨x00, x01, x02⟩ := (H3.out.2.1).c
  go_wp2_with fail
  refine (HXM.out _).mono ?_
  rintro e u4 ⟨rfl, z4⟩
  clear x00 x01 x02
  obtain ⟨b4, hb4⟩ : ∃ b, u4.heap.size = b := ⟨_, rfl⟩
  obtain ⟨V4, hV4⟩ : ∃ V, u4.alloc (.cells #[.int .i64 m0, .int .i64 m1, .int .i64 m2] 47) = V := ⟨_, rfl⟩
  have y4 : Below V3.heap.size V3 V4 := by rw [← hV4]; exact z4.alloc z4.size _
  have H4 : Hid (Bx V4 a 46 srtt vary lost ∧ Bx V4 (a + 1) 47 srtt vary lost ∧ Bx V4 b1 46 s0 s1 0 ∧ Bx V4 b2 47 s0 s1 0 ∧ Bx V4 b3 46 m0 m1 m2 ∧ Bx V4 b4 47 m0 m1 m2 ∧ Below W.heap.size W V4 ∧ W.heap.size ≤ V4.heap.size) := ⟨H3.out.1.below y4, H3.out.2.1.below y4, H3.out.2.2.1.below y4, H3.out.2.2.2.1.below y4, H3.out.2.2.2.2.1.below y4, by rw [← hb4, ← hV4]; exact Bx.new _ _ _ _ _, H3.out.2.2.2.2.2.1.trans (y4.mono H3.out.2.2.2.2.2.2), Nat.le_trans H3.out.2.2.2.2.2.2 y4.size⟩
  have E4 := Hid.mk (And.intro hb4 hV4)
  clear hb4 hV4 y4 z4 H3
  go_upto_region 8 with fail
  rw [E4.out.2, E4.out.1]
  obtain ⟨K, hK⟩ : ∃ K : World → Prop, K = fun u => Bx u a 46 srtt vary lost ∧ Bx u (a + 1) 47 srtt vary lost ∧ Bx u b1 46 s0 s1 0 ∧ Bx u b2 47 s0 s1 0 ∧ Bx u b3 46 m0 m1 m2 ∧ Bx u b4 47 m0 m1 m2 ∧ Below W.heap.size W u ∧ W.heap.size ≤ u.heap.size := ⟨_, rfl⟩
  have kV : K V4 := by rw [hK]; exact H4.out
  have kd : ∀ u, K u → K u.drew := fun u h => by
    rw [hK] at h ⊢
    exact ⟨⟨(h.1).h⟩, ⟨(h.2.1).h⟩, ⟨(h.2.2.1).h⟩, ⟨(h.2.2.2.1).h⟩, ⟨(h.2.2.2.2.1).h⟩, ⟨(h.2.2.2.2.2.1).h⟩, h.2.2.2.2.2.2.1.drew, h.2.2.2.2.2.2.2⟩
  have KB : Hid (∀ u u', K u → Below u.heap.size u u' → K u') := fun u u' h z => by
    rw [hK] at h ⊢
    exact ⟨(h.1).below z, (h.2.1).below z, (h.2.2.1).below z, (h.2.2.2.1).below z, (h.2.2.2.2.1).below z, (h.2.2.2.2.2.1).below z, h.2.2.2.2.2.2.1.trans (z.mono h.2.2.2.2.2.2.2), Nat.le_trans h.2.2.2.2.2.2.2 z.size⟩
  have HS2 : Hid (∀ u, K u → K u ∧ u.cell? ⟨a, 0, none⟩ = some (.int .i64 srtt) ∧ u.cell? ⟨a, 1, none⟩ = some (.int .i64 vary) ∧ u.cell? ⟨a, 2, none⟩ = some (.int .i64 lost) ∧ u.cell? ⟨a + 1, 0, none⟩ = some (.int .i64 srtt) ∧ u.cell? ⟨a + 1, 1, none⟩ = some (.int .i64 vary) ∧ u.cell? ⟨a + 1, 2, none⟩ = some (.int .i64 lost) ∧ u.cell? ⟨b1, 0, none⟩ = some (.int .i64 s0) ∧ u.cell? ⟨b1, 1, none⟩ = some (.int .i64 s1) ∧ u.cell? ⟨b1, 2, none⟩ = some (.int .i64 0) ∧ u.cell? ⟨b2, 0, none⟩ = some (.int .i64 s0) ∧ u.cell? ⟨b2, 1, none⟩ = some (.int .i64 s1) ∧ u.cell? ⟨b2, 2, none⟩ = some (.int .i64 0) ∧ u.cell? ⟨b3, 0, none⟩ = some (.int .i64 m0) ∧ u.cell? ⟨b3, 1, none⟩ = some (.int .i64 m1) ∧ u.cell? ⟨b3, 2, none⟩ = some (.int .i64 m2) ∧ u.cell? ⟨b4, 0, none⟩ = some (.int .i64 m0) ∧ u.cell? ⟨b4, 1, none⟩ = some (.int .i64 m1) ∧ u.cell? ⟨b4, 2, none⟩ = some (.int .i64 m2)) := fun u h => by
    have h' := h
    rw [hK] at h
    exact ⟨h', (h.1).c.1, (h.1).c.2.1, (h.1).c.2.2, (h.2.1).c.1, (h.2.1).c.2.1, (h.2.1).c.2.2, (h.2.2.1).c.1, (h.2.2.1).c.2.1, (h.2.2.1).c.2.2, (h.2.2.2.1).c.1, (h.2.2.2.1).c.2.1, (h.2.2.2.1).c.2.2, (h.2.2.2.2.1).c.1, (h.2.2.2.2.1).c.2.1, (h.2.2.2.2.1).c.2.2, (h.2.2.2.2.2.1).c.1, (h.2.2.2.2.2.1).c.2.1, (h.2.2.2.2.2.1).c.2.2⟩
  have KE : Hid (∀ u, K u → Below W.heap.size W u) := fun u h => by
    rw [hK] at h
    exact h.2.2.2.2.2.2.1
  clear hK H4
  have hS0 := HS2.out _ kV
  simp only [List.append]
  refine wp_region_held_drew (S := fun u => K u ∧ u.cell? ⟨a, 0, none⟩ = some (.int .i64 srtt) ∧ u.cell? ⟨a, 1, none⟩ = some (.int .i64 vary) ∧ u.cell? ⟨a, 2, none⟩ = some (.int .i64 lost) ∧ u.cell? ⟨a + 1, 0, none⟩ = some (.int .i64 srtt) ∧ u.cell? ⟨a + 1, 1, none⟩ = some (.int .i64 vary) ∧ u.cell? ⟨a + 1, 2, none⟩ = some (.int .i64 lost) ∧ u.cell? ⟨b1, 0, none⟩ = some (.int .i64 s0) ∧ u.cell? ⟨b1, 1, none⟩ = some (.int .i64 s1) ∧ u.cell? ⟨b1, 2, none⟩ = some (.int .i64 0) ∧ u.cell? ⟨b2, 0, none⟩ = some (.int .i64 s0) ∧ u.cell? ⟨b2, 1, none⟩ = some (.int .i64 s1) ∧ u.cell? ⟨b2, 2, none⟩ = some (.int .i64 0) ∧ u.cell? ⟨b3, 0, none⟩ = some (.int .i64 m0) ∧ u.cell? ⟨b3, 1, none⟩ = some (.int .i64 m1) ∧ u.cell? ⟨b3, 2, none⟩ = some (.int .i64 m2) ∧ u.cell? ⟨b4, 0, none⟩ = some (.int .i64 m0) ∧ u.cell? ⟨b4, 1, none⟩ = some (.int .i64 m1) ∧ u.cell? ⟨b4, 2, none⟩ = some (.int .i64 m2)) (by kernel_rfl) (HS2.out _ (kd _ kV)) (fun hHeld => ?_)
  refine wpAnyH_take (i := 0) (v := ?vh0) rfl (by kernel_rfl) (by kernel_rfl) (by kernel_rfl) (fun _ _ _ h => h) (Or.inl ⟨by kernel_rfl, ?yh0⟩) (by assumption) ?_
  case yh0 => (intro w hSw; (try dsimp only at hSw); go_simp; try with_reducible rfl)
  refine wpAnyH_take (i := 1) (v := ?vh1) rfl (by kernel_rfl) (by kernel_rfl) (by kernel_rfl) (fun _ _ _ h => h) (Or.inl ⟨by kernel_rfl, ?yh1⟩) (by assumption) ?_
  case yh1 => (intro w hSw; (try dsimp only at hSw); go_simp; try with_reducible rfl)
  refine wpAnyH_take (i := 2) (v := ?vh2) rfl (by kernel_rfl) (by kernel_rfl) (by kernel_rfl) (fun _ _ _ h => h) (Or.inl ⟨by kernel_rfl, ?yh2⟩) (by assumption) ?_
  case yh2 => (intro w hSw; (try dsimp only at hSw); go_simp; try with_reducible rfl)
  refine wpAnyH_take (i := 4) (v := ?vh4) rfl (by kernel_rfl) (by kernel_rfl) (by kernel_rfl) (fun _ _ _ h => h) (Or.inl ⟨by kernel_rfl, ?yh4⟩) (by assumption) ?_
  case yh4 => (intro w hSw; (try dsimp only at hSw); go_simp; try with_reducible rfl)
  try simp only [Act.put, List.getElem_toArray, List.getElem_cons_succ, List.getElem_cons_zero, List.setIfInBounds_toArray, List.set_cons_zero, List.set_cons_succ]
  refine wpAnyH_ready (rs := [3]) (by kernel_rfl) (by simp) ?_
  refine AllReadyH.cons rfl (fun K2 hK2 => ?_) AllReadyH.nil
  go_simp
  go_at_call 24
  with_reducible refine (HT.out _).mono ?_
  rintro e w11 ⟨rfl, hb11⟩
  have k11 := KB.out _ _ (by repeat (first | assumption | apply kd)) hb11
  have hs11 := HS2.out _ k11
  refine hK2.out _ _ hs11 (fun hHeld11 => ?_)
  clear hK2 K2 hb11
  try simp only [Act.put, List.getElem_toArray, List.getElem_cons_succ, List.getElem_cons_zero, List.setIfInBounds_toArray, List.set_cons_zero, List.set_cons_succ]
  refine wpAnyH_ready (rs := [5]) (by kernel_rfl) (by simp) ?_
  refine AllReadyH.cons rfl (fun K2 hK2 => ?_) AllReadyH.nil
  go_simp
  go_at_call 25
  with_reducible refine (HXT.out _).mono ?_
  rintro e w12 ⟨rfl, hb12⟩
  have k12 := KB.out _ _ (by repeat (first | assumption | apply kd)) hb12
  have hs12 := HS2.out _ k12
  refine hK2.out _ _ hs12 (fun hHeld12 => ?_)
  clear hK2 K2 hb12
  try simp only [Act.put, List.getElem_toArray, List.getElem_cons_succ, List.getElem_cons_zero, List.setIfInBounds_toArray, List.set_cons_zero, List.set_cons_succ]
  refine wpAnyH_take (i := 6) (v := ?vh6) rfl (by kernel_rfl) (by kernel_rfl) (by kernel_rfl) (fun _ _ _ h => h) (Or.inl ⟨by kernel_rfl, ?yh6⟩) (by assumption) ?_
  case yh6 => (intro w hSw; (try dsimp only at hSw); go_simp; try with_reducible rfl)
  refine wpAnyH_take (i := 7) (v := ?vh7) rfl (by kernel_rfl) (by kernel_rfl) (by kernel_rfl) (fun _ _ _ h => h) (Or.inl ⟨by kernel_rfl, ?yh7⟩) (by assumption) ?_
  case yh7 => (intro w hSw; (try dsimp only at hSw); go_simp; try with_reducible rfl)
  refine wpAnyH_take (i := 8) (v := ?vh8) rfl (by kernel_rfl) (by kernel_rfl) (by kernel_rfl) (fun _ _ _ h => h) (Or.inl ⟨by kernel_rfl, ?yh8⟩) (by assumption) ?_
  case yh8 => (intro w hSw; (try dsimp only at hSw); go_simp; try with_reducible rfl)
  refine wpAnyH_take (i := 9) (v := ?vh9) rfl (by kernel_rfl) (by kernel_rfl) (by kernel_rfl) (fun _ _ _ h => h) (Or.inl ⟨by kernel_rfl, ?yh9⟩) (by assumption) ?_
  case yh9 => (intro w hSw; (try dsimp only at hSw); go_simp; try with_reducible rfl)
  refine wpAnyH_take (i := 10) (v := ?vh10) rfl (by kernel_rfl) (by kernel_rfl) (by kernel_rfl) (fun _ _ _ h => h) (Or.inl ⟨by kernel_rfl, ?yh10⟩) (by assumption) ?_
  case yh10 => (intro w hSw; (try dsimp only at hSw); go_simp; try with_reducible rfl)
  refine wpAnyH_take (i := 11) (v := ?vh11) rfl (by kernel_rfl) (by kernel_rfl) (by kernel_rfl) (fun _ _ _ h => h) (Or.inl ⟨by kernel_rfl, ?yh11⟩) (by assumption) ?_
  case yh11 => (intro w hSw; (try dsimp only at hSw); go_simp; try with_reducible rfl)
  refine wpAnyH_take (i := 12) (v := ?vh12) rfl (by kernel_rfl) (by kernel_rfl) (by kernel_rfl) (fun _ _ _ h => h) (Or.inl ⟨by kernel_rfl, ?yh12⟩) (by assumption) ?_
  case yh12 => (intro w hSw; (try dsimp only at hSw); go_simp; try with_reducible rfl)
  refine wpAnyH_take (i := 13) (v := ?vh13) rfl (by kernel_rfl) (by kernel_rfl) (by kernel_rfl) (fun _ _ _ h => h) (Or.inl ⟨by kernel_rfl, ?yh13⟩) (by assumption) ?_
  case yh13 => (intro w hSw; (try dsimp only at hSw); go_simp; try with_reducible rfl)
  refine wpAnyH_take (i := 14) (v := ?vh14) rfl (by kernel_rfl) (by kernel_rfl) (by kernel_rfl) (fun _ _ _ h => h) (Or.inl ⟨by kernel_rfl, ?yh14⟩) (by assumption) ?_
  case yh14 => (intro w hSw; (try dsimp only at hSw); go_simp; try with_reducible rfl)
  refine wpAnyH_take (i := 15) (v := ?vh15) rfl (by kernel_rfl) (by kernel_rfl) (by kernel_rfl) (fun _ _ _ h => h) (Or.inl ⟨by kernel_rfl, ?yh15⟩) (by assumption) ?_
  case yh15 => (intro w hSw; (try dsimp only at hSw); go_simp; try with_reducible rfl)
  refine wpAnyH_take (i := 16) (v := ?vh16) rfl (by kernel_rfl) (by kernel_rfl) (by kernel_rfl) (fun _ _ _ h => h) (Or.inl ⟨by kernel_rfl, ?yh16⟩) (by assumption) ?_
  case yh16 => (intro w hSw; (try dsimp only at hSw); go_simp; try with_reducible rfl)
  refine wpAnyH_take (i := 17) (v := ?vh17) rfl (by kernel_rfl) (by kernel_rfl) (by kernel_rfl) (fun _ _ _ h => h) (Or.inl ⟨by kernel_rfl, ?yh17⟩) (by assumption) ?_
  case yh17 => (intro w hSw; (try dsimp only at hSw); go_simp; try with_reducible rfl)
  refine wpAnyH_take (i := 18) (v := ?vh18) rfl (by kernel_rfl) (by kernel_rfl) (by kernel_rfl) (fun _ _ _ h => h) (Or.inl ⟨by kernel_rfl, ?yh18⟩) (by assumption) ?_
  case yh18 => (intro w hSw; (try dsimp only at hSw); go_simp; try with_reducible rfl)
  refine wpAnyH_take (i := 19) (v := ?vh19) rfl (by kernel_rfl) (by kernel_rfl) (by kernel_rfl) (fun _ _ _ h => h) (Or.inl ⟨by kernel_rfl, ?yh19⟩) (by assumption) ?_
  case yh19 => (intro w hSw; (try dsimp only at hSw); go_simp; try with_reducible rfl)
  refine wpAnyH_take (i := 20) (v := ?vh20) rfl (by kernel_rfl) (by kernel_rfl) (by kernel_rfl) (fun _ _ _ h => h) (Or.inl ⟨by kernel_rfl, ?yh20⟩) (by assumption) ?_
  case yh20 => (intro w hSw; (try dsimp only at hSw); go_simp; try with_reducible rfl)
  refine wpAnyH_take (i := 21) (v := ?vh21) rfl (by kernel_rfl) (by kernel_rfl) (by kernel_rfl) (fun _ _ _ h => h) (Or.inl ⟨by kernel_rfl, ?yh21⟩) (by assumption) ?_
  case yh21 => (intro w hSw; (try dsimp only at hSw); go_simp; try with_reducible rfl)
  refine wpAnyH_take (i := 22) (v := ?vh22) rfl (by kernel_rfl) (by kernel_rfl) (by kernel_rfl) (fun _ _ _ h => h) (Or.inl ⟨by kernel_rfl, ?yh22⟩) (by assumption) ?_
  case yh22 => (intro w hSw; (try dsimp only at hSw); go_simp; try with_reducible rfl)
  refine wpAnyH_take (i := 23) (v := ?vh23) rfl (by kernel_rfl) (by kernel_rfl) (by kernel_rfl) (fun _ _ _ h => h) (Or.inl ⟨by kernel_rfl, ?yh23⟩) (by assumption) ?_
  case yh23 => (intro w hSw; (try dsimp only at hSw); go_simp; try with_reducible rfl)
  refine wpAnyH_take (i := 24) (v := ?vh24) rfl (by kernel_rfl) (by kernel_rfl) (by kernel_rfl) (fun _ _ _ h => h) (Or.inl ⟨by kernel_rfl, ?yh24⟩) (by assumption) ?_
  case yh24 => (intro w hSw; (try dsimp only at hSw); go_simp; try with_reducible rfl)
  refine wpAnyH_take (i := 25) (v := ?vh25) rfl (by kernel_rfl) (by kernel_rfl) (by kernel_rfl) (fun _ _ _ h => h) (Or.inl ⟨by kernel_rfl, ?yh25⟩) (by assumption) ?_
  case yh25 => (intro w hSw; (try dsimp only at hSw); go_simp; try with_reducible rfl)
  refine wpAnyH_take (i := 26) (v := ?vh26) rfl (by kernel_rfl) (by kernel_rfl) (by kernel_rfl) (fun _ _ _ h => h) (Or.inl ⟨by kernel_rfl, ?yh26⟩) (by assumption) ?_
  case yh26 => (intro w hSw; (try dsimp only at hSw); go_simp; try with_reducible rfl)
  refine wpAnyH_take (i := 27) (v := ?vh27) rfl (by kernel_rfl) (by kernel_rfl) (by kernel_rfl) (fun _ _ _ h => h) (Or.inl ⟨by kernel_rfl, ?yh27⟩) (by assumption) ?_
  case yh27 => (intro w hSw; (try dsimp only at hSw); go_simp; try with_reducible rfl)
  refine wpAnyH_take (i := 28) (v := ?vh28) rfl (by kernel_rfl) (by kernel_rfl) (by kernel_rfl) (fun _ _ _ h => h) (Or.inl ⟨by kernel_rfl, ?yh28⟩) (by assumption) ?_
  case yh28 => (intro w hSw; (try dsimp only at hSw); go_simp; try with_reducible rfl)
  refine wpAnyH_take (i := 29) (v := ?vh29) rfl (by kernel_rfl) (by kernel_rfl) (by kernel_rfl) (fun _ _ _ h => h) (Or.inl ⟨by kernel_rfl, ?yh29⟩) (by assumption) ?_
  case yh29 => (intro w hSw; (try dsimp only at hSw); go_simp; try with_reducible rfl)
  refine wpAnyH_take (i := 30) (v := ?vh30) rfl (by kernel_rfl) (by kernel_rfl) (by kernel_rfl) (fun _ _ _ h => h) (Or.inl ⟨by kernel_rfl, ?yh30⟩) (by assumption) ?_
  case yh30 => (intro w hSw; (try dsimp only at hSw); go_simp; try with_reducible rfl)
  refine wpAnyH_take (i := 31) (v := ?vh31) rfl (by kernel_rfl) (by kernel_rfl) (by kernel_rfl) (fun _ _ _ h => h) (Or.inl ⟨by kernel_rfl, ?yh31⟩) (by assumption) ?_
  case yh31 => (intro w hSw; (try dsimp only at hSw); go_simp; try with_reducible rfl)
  refine wpAnyH_take (i := 32) (v := ?vh32) rfl (by kernel_rfl) (by kernel_rfl) (by kernel_rfl) (fun _ _ _ h => h) (Or.inl ⟨by kernel_rfl, ?yh32⟩) (by assumption) ?_
  case yh32 => (intro w hSw; (try dsimp only at hSw); go_simp; try with_reducible rfl)
  refine wpAnyH_take (i := 33) (v := ?vh33) rfl (by kernel_rfl) (by kernel_rfl) (by kernel_rfl) (fun _ _ _ h => h) (Or.inl ⟨by kernel_rfl, ?yh33⟩) (by assumption) ?_
  case yh33 => (intro w hSw; (try dsimp only at hSw); go_simp; try with_reducible rfl)
  refine wpAnyH_take (i := 34) (v := ?vh34) rfl (by kernel_rfl) (by kernel_rfl) (by kernel_rfl) (fun _ _ _ h => h) (Or.inl ⟨by kernel_rfl, ?yh34⟩) (by assumption) ?_
  case yh34 => (intro w hSw; (try dsimp only at hSw); go_simp; try with_reducible rfl)
  refine wpAnyH_take (i := 35) (v := ?vh35) rfl (by kernel_rfl) (by kernel_rfl) (by kernel_rfl) (fun _ _ _ h => h) (Or.inl ⟨by kernel_rfl, ?yh35⟩) (by assumption) ?_
  case yh35 => (intro w hSw; (try dsimp only at hSw); go_simp; try with_reducible rfl)
  refine wpAnyH_take (i := 36) (v := ?vh36) rfl (by kernel_rfl) (by kernel_rfl) (by kernel_rfl) (fun _ _ _ h => h) (Or.inl ⟨by kernel_rfl, ?yh36⟩) (by assumption) ?_
  case yh36 => (intro w hSw; (try dsimp only at hSw); go_simp; try with_reducible rfl)
  refine wpAnyH_take (i := 37) (v := ?vh37) rfl (by kernel_rfl) (by kernel_rfl) (by kernel_rfl) (fun _ _ _ h => h) (Or.inl ⟨by kernel_rfl, ?yh37⟩) (by assumption) ?_
  case yh37 => (intro w hSw; (try dsimp only at hSw); go_simp; try with_reducible rfl)
  refine wpAnyH_take (i := 38) (v := ?vh38) rfl (by kernel_rfl) (by kernel_rfl) (by kernel_rfl) (fun _ _ _ h => h) (Or.inl ⟨by kernel_rfl, ?yh38⟩) (by assumption) ?_
  case yh38 => (intro w hSw; (try dsimp only at hSw); go_simp; try with_reducible rfl)
  refine wpAnyH_take (i := 39) (v := ?vh39) rfl (by kernel_rfl) (by kernel_rfl) (by kernel_rfl) (fun _ _ _ h => h) (Or.inl ⟨by kernel_rfl, ?yh39⟩) (by assumption) ?_
  case yh39 => (intro w hSw; (try dsimp only at hSw); go_simp; try with_reducible rfl)
  refine wpAnyH_take (i := 40) (v := ?vh40) rfl (by kernel_rfl) (by kernel_rfl) (by kernel_rfl) (fun _ _ _ h => h) (Or.inl ⟨by kernel_rfl, ?yh40⟩) (by assumption) ?_
  case yh40 => (intro w hSw; (try dsimp only at hSw); go_simp; try with_reducible rfl)
  refine wpAnyH_take (i := 41) (v := ?vh41) rfl (by kernel_rfl) (by kernel_rfl) (by kernel_rfl) (fun _ _ _ h => h) (Or.inl ⟨by kernel_rfl, ?yh41⟩) (by assumption) ?_
  case yh41 => (intro w hSw; (try dsimp only at hSw); go_simp; try with_reducible rfl)
  refine wpAnyH_take (i := 42) (v := ?vh42) rfl (by kernel_rfl) (by kernel_rfl) (by kernel_rfl) (fun _ _ _ h => h) (Or.inl ⟨by kernel_rfl, ?yh42⟩) (by assumption) ?_
  case yh42 => (intro w hSw; (try dsimp only at hSw); go_simp; try with_reducible rfl)
  refine wpAnyH_take (i := 43) (v := ?vh43) rfl (by kernel_rfl) (by kernel_rfl) (by kernel_rfl) (fun _ _ _ h => h) (Or.inl ⟨by kernel_rfl, ?yh43⟩) (by assumption) ?_
  case yh43 => (intro w hSw; (try dsimp only at hSw); go_simp; try with_reducible rfl)
  refine wpAnyH_take (i := 44) (v := ?vh44) rfl (by kernel_rfl) (by kernel_rfl) (by kernel_rfl) (fun _ _ _ h => h) (Or.inl ⟨by kernel_rfl, ?yh44⟩) (by assumption) ?_
  case yh44 => (intro w hSw; (try dsimp only at hSw); go_simp; try with_reducible rfl)
  refine wpAnyH_take (i := 45) (v := ?vh45) rfl (by kernel_rfl) (by kernel_rfl) (by kernel_rfl) (fun _ _ _ h => h) (Or.inl ⟨by kernel_rfl, ?yh45⟩) (by assumption) ?_
  case yh45 => (intro w hSw; (try dsimp only at hSw); go_simp; try with_reducible rfl)
  refine wpAnyH_take (i := 46) (v := ?vh46) rfl (by kernel_rfl) (by kernel_rfl) (by kernel_rfl) (fun _ _ _ h => h) (Or.inl ⟨by kernel_rfl, ?yh46⟩) (by assumption) ?_
  case yh46 => (intro w hSw; (try dsimp only at hSw); go_simp; try with_reducible rfl)
  refine wpAnyH_take (i := 47) (v := ?vh47) rfl (by kernel_rfl) (by kernel_rfl) (by kernel_rfl) (fun _ _ _ h => h) (Or.inl ⟨by kernel_rfl, ?yh47⟩) (by assumption) ?_
  case yh47 => (intro w hSw; (try dsimp only at hSw); go_simp; try with_reducible rfl)
  refine wpAnyH_take (i := 48) (v := ?vh48) rfl (by kernel_rfl) (by kernel_rfl) (by kernel_rfl) (fun _ _ _ h => h) (Or.inl ⟨by kernel_rfl, ?yh48⟩) (by assumption) ?_
  case yh48 => (intro w hSw; (try dsimp only at hSw); go_simp; try with_reducible rfl)
  refine wpAnyH_take (i := 49) (v := ?vh49) rfl (by kernel_rfl) (by kernel_rfl) (by kernel_rfl) (fun _ _ _ h => h) (Or.inl ⟨by kernel_rfl, ?yh49⟩) (by assumption) ?_
  case yh49 => (intro w hSw; (try dsimp only at hSw); go_simp; try with_reducible rfl)
  refine wpAnyH_take (i := 50) (v := ?vh50) rfl (by kernel_rfl) (by kernel_rfl) (by kernel_rfl) (fun _ _ _ h => h) (Or.inl ⟨by kernel_rfl, ?yh50⟩) (by assumption) ?_
  case yh50 => (intro w hSw; (try dsimp only at hSw); go_simp; try with_reducible rfl)
  refine wpAnyH_take (i := 51) (v := ?vh51) rfl (by kernel_rfl) (by kernel_rfl) (by kernel_rfl) (fun _ _ _ h => h) (Or.inl ⟨by kernel_rfl, ?yh51⟩) (by assumption) ?_
  case yh51 => (intro w hSw; (try dsimp only at hSw); go_simp; try with_reducible rfl)
  refine wpAnyH_take (i := 53) (v := ?vh53) rfl (by kernel_rfl) (by kernel_rfl) (by kernel_rfl) (fun _ _ _ h => h) (Or.inl ⟨by kernel_rfl, ?yh53⟩) (by assumption) ?_
  case yh53 => (intro w hSw; (try dsimp only at hSw); go_simp; try with_reducible rfl)
  try simp only [Act.put, List.getElem_toArray, List.getElem_cons_succ, List.getElem_cons_zero, List.setIfInBounds_toArray, List.set_cons_zero, List.set_cons_succ]
  refine wpAnyH_ready (rs := [52]) (by kernel_rfl) (by simp) ?_
  refine AllReadyH.cons rfl (fun K2 hK2 => ?_) AllReadyH.nil
  go_simp
  go_at_call 24
  with_reducible refine (HTS.out _).mono ?_
  rintro e w13 ⟨rfl, hb13⟩
  have k13 := KB.out _ _ (by repeat (first | assumption | apply kd)) hb13
  have hs13 := HS2.out _ k13
  refine hK2.out _ _ hs13 (fun hHeld13 => ?_)
  clear hK2 K2 hb13
  try simp only [Act.put, List.getElem_toArray, List.getElem_cons_succ, List.getElem_cons_zero, List.setIfInBounds_toArray, List.set_cons_zero, List.set_cons_succ]
  refine wpAnyH_ready (rs := [54]) (by kernel_rfl) (by simp) ?_
  refine AllReadyH.cons rfl (fun K2 hK2 => ?_) AllReadyH.nil
  go_simp
  go_at_call 25
  with_reducible refine (HXTS.out _).mono ?_
  rintro e w14 ⟨rfl, hb14⟩
  have k14 := KB.out _ _ (by repeat (first | assumption | apply kd)) hb14
  have hs14 := HS2.out _ k14
  refine hK2.out _ _ hs14 (fun hHeld14 => ?_)
  clear hK2 K2 hb14
  try simp only [Act.put, List.getElem_toArray, List.getElem_cons_succ, List.getElem_cons_zero, List.setIfInBounds_toArray, List.set_cons_zero, List.set_cons_succ]
  refine wpAnyH_take (i := 55) (v := ?vh55) rfl (by kernel_rfl) (by kernel_rfl) (by kernel_rfl) (fun _ _ _ h => h) (Or.inl ⟨by kernel_rfl, ?yh55⟩) (by assumption) ?_
  case yh55 => (intro w hSw; (try dsimp only at hSw); go_simp; try with_reducible rfl)
  refine wpAnyH_take (i := 56) (v := ?vh56) rfl (by kernel_rfl) (by kernel_rfl) (by kernel_rfl) (fun _ _ _ h => h) (Or.inl ⟨by kernel_rfl, ?yh56⟩) (by assumption) ?_
  case yh56 => (intro w hSw; (try dsimp only at hSw); go_simp; try with_reducible rfl)
  refine wpAnyH_take (i := 57) (v := ?vh57) rfl (by kernel_rfl) (by kernel_rfl) (by kernel_rfl) (fun _ _ _ h => h) (Or.inl ⟨by kernel_rfl, ?yh57⟩) (by assumption) ?_
  case yh57 => (intro w hSw; (try dsimp only at hSw); go_simp; try with_reducible rfl)
  refine wpAnyH_take (i := 58) (v := ?vh58) rfl (by kernel_rfl) (by kernel_rfl) (by kernel_rfl) (fun _ _ _ h => h) (Or.inl ⟨by kernel_rfl, ?yh58⟩) (by assumption) ?_
  case yh58 => (intro w hSw; (try dsimp only at hSw); go_simp; try with_reducible rfl)
  refine wpAnyH_take (i := 60) (v := ?vh60) rfl (by kernel_rfl) (by kernel_rfl) (by kernel_rfl) (fun _ _ _ h => h) (Or.inl ⟨by kernel_rfl, ?yh60⟩) (by assumption) ?_
  case yh60 => (intro w hSw; (try dsimp only at hSw); go_simp; try with_reducible rfl)
  try simp only [Act.put, List.getElem_toArray, List.getElem_cons_succ, List.getElem_cons_zero, List.setIfInBounds_toArray, List.set_cons_zero, List.set_cons_succ]
  refine wpAnyH_ready (rs := [59]) (by kernel_rfl) (by simp) ?_
  refine AllReadyH.cons rfl (fun K2 hK2 => ?_) AllReadyH.nil
  go_simp
  go_at_call 24
  with_reducible refine (HTM.out _).mono ?_
  rintro e w15 ⟨rfl, hb15⟩
  have k15 := KB.out _ _ (by repeat (first | assumption | apply kd)) hb15
  have hs15 := HS2.out _ k15
  refine hK2.out _ _ hs15 (fun hHeld15 => ?_)
  clear hK2 K2 hb15
  try simp only [Act.put, List.getElem_toArray, List.getElem_cons_succ, List.getElem_cons_zero, List.setIfInBounds_toArray, List.set_cons_zero, List.set_cons_succ]
  refine wpAnyH_ready (rs := [61]) (by kernel_rfl) (by simp) ?_
  refine AllReadyH.cons rfl (fun K2 hK2 => ?_) AllReadyH.nil
  go_simp
  go_at_call 25
  with_reducible refine (HXTM.out _).mono ?_
  rintro e w16 ⟨rfl, hb16⟩
  have k16 := KB.out _ _ (by repeat (first | assumption | apply kd)) hb16
  have hs16 := HS2.out _ k16
  refine hK2.out _ _ hs16 (fun hHeld16 => ?_)
  clear hK2 K2 hb16
  try simp only [Act.put, List.getElem_toArray, List.getElem_cons_succ, List.getElem_cons_zero, List.setIfInBounds_toArray, List.set_cons_zero, List.set_cons_succ]
  refine wpAnyH_take (i := 62) (v := ?vh62) rfl (by kernel_rfl) (by kernel_rfl) (by kernel_rfl) (fun _ _ _ h => h) (Or.inl ⟨by kernel_rfl, ?yh62⟩) (by assumption) ?_
  case yh62 => (intro w hSw; (try dsimp only at hSw); go_simp; try with_reducible rfl)
  refine wpAnyH_take (i := 63) (v := ?vh63) rfl (by kernel_rfl) (by kernel_rfl) (by kernel_rfl) (fun _ _ _ h => h) (Or.inl ⟨by kernel_rfl, ?yh63⟩) (by assumption) ?_
  case yh63 => (intro w hSw; (try dsimp only at hSw); go_simp; try with_reducible rfl)
  refine wpAnyH_take (i := 64) (v := ?vh64) rfl (by kernel_rfl) (by kernel_rfl) (by kernel_rfl) (fun _ _ _ h => h) (Or.inl ⟨by kernel_rfl, ?yh64⟩) (by assumption) ?_
  case yh64 => (intro w hSw; (try dsimp only at hSw); go_simp; try with_reducible rfl)
  try simp only [Act.put, List.getElem_toArray, List.getElem_cons_succ, List.getElem_cons_zero, List.setIfInBounds_toArray, List.set_cons_zero, List.set_cons_succ]
  refine wpAnyH_done (by kernel_rfl) ?_ _
  go_wp2
  go_ret
  refine ⟨?_, KE.out _ k16⟩
  clear hS0 hHeld hHeld11 hHeld12 hHeld13 hHeld14 hHeld15 hHeld16 hs11 hs12 hs13 hs14 hs15 hs16
  rfl

end Go.Proofs.Ytdgkknjmhdmlfaa
