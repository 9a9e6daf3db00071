/- Texts of this proof, joined: McPt, McGt. -/
import Derived.Deep.RegionHeld3
import Derived.Test.YtikjepodmdaknaaGreatDoorJ30
import Derived.Test.YtikjepodmdaknaaGreatDoorJ31
import Derived.Deep.DeepCutAuto
set_option linter.unusedVariables false
set_option linter.unusedSimpArgs false
/- Layer 17: Put. -/
namespace Go.Proofs.YtikjepodmdaknaaGreatDoor.Mc
open Go.RowKit
open Go.Proofs.YtikjepodmdaknaaGreatDoor.Rc (pt nilP Ky kV k0 Kp blk_lt cell_same KOk AL Ev EvI timB RCA FrC foundA getA toldE SvI row_self set_blk free_at tim_iff keyS_ok without putR getR)
def PtP (W w w' : World) (C T m n : Nat) (ver : Int) (A : AL) (X U m2 n2 : Nat) (L : KL) (q : Qn) (x : An) (now : Int) (e : Ending) : Prop :=
  FrM w w' ∧ ((pOk q x now = false ∧ e = .returned (.tuple #[.bool false, .int .i64 1]) ∧ MS W w' C T m n ver A X U m2 n2 L) ∨
   (pOk q x now = true ∧ e = .returned (.tuple #[.bool (putA m2 A L q x now).2.2, .int .i64 0]) ∧ ∃ n3, n3 ≤ n2 + 1 ∧ MS W w' C T m n ver (putA m2 A L q x now).1 X U m2 n3 (putA m2 A L q x now).2.1))
theorem put_no1 {m : Nat} {A A1 : AL} {L : KL} {q : Qn} {x : An} {now : Int} (h : lrnA A q.ty x now = (A1, none)) : putA m A L q x now = (A1, without L (Rc.keyS q.nm q.ty), false) := by unfold putA; rw [h]
theorem put_no2 {m : Nat} {A A1 : AL} {L : KL} {q : Qn} {x : An} {now : Int} {y : Kn} (h : lrnA A q.ty x now = (A1, some y)) (hy : y.un ≤ now) : putA m A L q x now = (A1, without L (Rc.keyS q.nm q.ty), false) := by unfold putA; rw [h]; simp only [if_pos hy]
theorem put_yes {m : Nat} {A A1 : AL} {L : KL} {q : Qn} {x : An} {now : Int} {y : Kn} (h : lrnA A q.ty x now = (A1, some y)) (hy : ¬ y.un ≤ now) : putA m A L q x now = (A1, putR m L (Rc.keyS q.nm q.ty) y, true) := by unfold putA; rw [h]; simp only [if_neg hy]
section
attribute [local go_sem ↓] loadAt_kn storeAt_kn
set_option maxRecDepth 100000 in
set_option maxHeartbeats 16000000 in
theorem mput_in {W w : World} {C T m n : Nat} {ver : Int} {A : AL} {X U m2 n2 : Nat} {L : KL} (h : MS W w C T m n ver A X U m2 n2 L) (hn : n < 2305843009213693952) (hn2 : n2 < maxLen) (q : Qn) (hq : q.nm.size ≤ maxLen) (hqt : I64 q.ty) (x : An) (q1 : Option Addr) (c1 : Nat) (q2 : Option Addr) (c2 : Nat) (hc1 : x.a.length ≤ c1 ∧ c1 ≤ maxLen) (hc2 : x.b.length ≤ c2 ∧ c2 ≤ maxLen) (h1 : LAt W w T q1 x.a) (h2 : LAt W w T q2 x.b) (ha : ∀ s ∈ x.a, SvI s) (hb : ∀ s ∈ x.b, SvI s) (now : Int) :
    Calls Tryz.prog 27 #[pt X, .agg (qC q).toArray, .agg (aC x q1 c1 q2 c2).toArray, .int .i64 now] w fun e w' => PtP W w w' C T m n ver A X U m2 n2 L q x now e := by
  obtain ⟨N, hN⟩ : ∃ N, w.heap.size = N := ⟨_, rfl⟩
  obtain ⟨V0, hV0⟩ : ∃ V, (w.alloc (.cells #[.string q.nm, .int .i64 q.ty, .int .i64 q.cl] 64)).alloc (.cells #[.int .i64 x.rc, .int .i64 x.se, .slice q1 x.a.length c1, .slice q2 x.b.length c2, .int .i64 x.un] 71) = V := ⟨_, rfl⟩
  have b0 : Below N w V0 := by rw [← hV0, ← hN]; exact ((Below.refl _ _).alloc (Nat.le_refl _) _).alloc (by simp) _
  have bx := Bx.of2 w (.cells #[.string q.nm, .int .i64 q.ty, .int .i64 q.cl] 64) (.cells #[.int .i64 x.rc, .int .i64 x.se, .slice q1 x.a.length c1, .slice q2 x.b.length c2, .int .i64 x.un] 71)
  rw [hV0, hN] at bx
  have g0 : V0.heap[N]? = some (.cells #[.string q.nm, .int .i64 q.ty, .int .i64 q.cl] 64 (0, 0)) := by have := bx 0 _ rfl; rwa [Nat.add_zero] at this
  have g1 : V0.heap[N + 1]? = some (.cells #[.int .i64 x.rc, .int .i64 x.se, .slice q1 x.a.length c1, .slice q2 x.b.length c2, .int .i64 x.un] 71 (0, 0)) := bx 1 _ rfl
  have HBx : Hid (∀ u, FrM V0 u → (u.cell? ⟨N, 0, none⟩ = some (.string q.nm) ∧ u.cell? ⟨N, 1, none⟩ = some (.int .i64 q.ty) ∧ u.cell? ⟨N, 2, none⟩ = some (.int .i64 q.cl)) ∧ (u.cell? ⟨N + 1, 0, none⟩ = some (.int .i64 x.rc) ∧ u.cell? ⟨N + 1, 1, none⟩ = some (.int .i64 x.se) ∧ u.cell? ⟨N + 1, 2, none⟩ = some (.slice q1 x.a.length c1) ∧ u.cell? ⟨N + 1, 3, none⟩ = some (.slice q2 x.b.length c2) ∧ u.cell? ⟨N + 1, 4, none⟩ = some (.int .i64 x.un))) := fun u hu => by
    have e0 := hu.same _ _ _ _ g0 (by decide) (by decide) (by decide) (by decide) (by decide)
    have e1 := hu.same _ _ _ _ g1 (by decide) (by decide) (by decide) (by decide) (by decide)
    exact ⟨⟨by rw [So.cell_blk e0]; rfl, by rw [So.cell_blk e0]; rfl, by rw [So.cell_blk e0]; rfl⟩, by rw [So.cell_blk e1]; rfl, by rw [So.cell_blk e1]; rfl, by rw [So.cell_blk e1]; rfl, by rw [So.cell_blk e1]; rfl, by rw [So.cell_blk e1]; rfl⟩
  have HRQ : Hid (∀ u, Calls Tryz.prog 62 #[.agg #[.string q.nm, .int .i64 q.ty, .int .i64 q.cl]] u fun e w' => e = .returned (.bool (qOk q)) ∧ Below u.heap.size u w') := fun u => rightQ_in q hq u
  have HRA : Hid (∀ u, Calls Tryz.prog 63 #[.agg #[.int .i64 x.rc, .int .i64 x.se, .slice q1 x.a.length c1, .slice q2 x.b.length c2, .int .i64 x.un]] u fun e w' => e = .returned (.bool (aOk x)) ∧ Below u.heap.size u w') := fun u => rightA_in x q1 c1 q2 c2 u
  have HTi : Hid (∀ u, Calls Tryz.prog 64 #[.int .i64 now] u fun e w' => e = .returned (.bool (timB now)) ∧ w' = u) := fun u => isTime_in now u
  have HNo : Hid (pOk q x now = false → ∀ u, Below N w u → PtP W w u C T m n ver A X U m2 n2 L q x now (.returned (.tuple #[.bool false, .int .i64 1]))) := fun hp u hu => ⟨FrM.below (by rw [hN]; exact hu), .inl ⟨hp, rfl, h.blk (by rw [hN]; exact hu)⟩⟩
  have HNV : Hid (N ≤ V0.heap.size ∧ Below N w V0) := ⟨by have := b0.size; omega, b0⟩
  have HV0 := Hid.mk hV0
  cases hq0 : qOk q with
  | false =>
    have HX := Hid.mk (HNo.out (by unfold pOk; rw [hq0]; rfl))
    obtain ⟨⟨y0, y1, y2⟩, -⟩ := HBx.out _ (FrM.refl V0)
    rw [hq0] at HRQ
    clear h h1 h2 ha hb hV0 b0 bx g0 g1 hq hc1 hc2
    go_enter Tryz.func27, Tryz.ntmps27
    go_upto_region 1 with fail
    (try rw [hN])
    rw [HV0.out]
    go_wp2_with fail
    refine (HRQ.out _).mono ?_
    rintro e w1 ⟨rfl, b1⟩
    have HF := Hid.mk (HX.out w1 (HNV.out.2.trans (b1.mono HNV.out.1)))
    clear b1 y0 y1 y2
    go_wp2
    go_ret2
    exact HF.out
  | true =>
  cases ha0 : aOk x with
  | false =>
    have HX := Hid.mk (HNo.out (by unfold pOk; rw [hq0, ha0]; rfl))
    obtain ⟨⟨y0, y1, y2⟩, -⟩ := HBx.out _ (FrM.refl V0)
    rw [hq0] at HRQ
    rw [ha0] at HRA
    clear h h1 h2 ha hb hV0 b0 bx g0 g1 hq hc1 hc2
    go_enter Tryz.func27, Tryz.ntmps27
    go_upto_region 1 with fail
    (try rw [hN])
    rw [HV0.out]
    go_wp2_with fail
    refine (HRQ.out _).mono ?_
    rintro e w1 ⟨rfl, b1⟩
    obtain ⟨-, z0, z1, z2, z3, z4⟩ := HBx.out _ (FrM.below b1)
    have HB1 := Hid.mk (HNV.out.2.trans (b1.mono HNV.out.1))
    clear b1 y0 y1 y2
    go_wp2_with fail
    refine (HRA.out _).mono ?_
    rintro e w2 ⟨rfl, b2⟩
    have HF := Hid.mk (HX.out w2 (HB1.out.trans (b2.mono (by have := HB1.out.size; omega))))
    clear b2 z0 z1 z2 z3 z4
    go_wp2
    go_ret2
    exact HF.out
  | true =>
  cases ht0 : timB now with
  | false =>
    have HX := Hid.mk (HNo.out (by unfold pOk; rw [hq0, ha0, ht0]; rfl))
    obtain ⟨⟨y0, y1, y2⟩, -⟩ := HBx.out _ (FrM.refl V0)
    rw [hq0] at HRQ
    rw [ha0] at HRA
    rw [ht0] at HTi
    clear h h1 h2 ha hb hV0 b0 bx g0 g1 hq hc1 hc2
    go_enter Tryz.func27, Tryz.ntmps27
    go_upto_region 1 with fail
    (try rw [hN])
    rw [HV0.out]
    go_wp2_with fail
    refine (HRQ.out _).mono ?_
    rintro e w1 ⟨rfl, b1⟩
    obtain ⟨-, z0, z1, z2, z3, z4⟩ := HBx.out _ (FrM.below b1)
    have HB1 := Hid.mk (HNV.out.2.trans (b1.mono HNV.out.1))
    clear b1 y0 y1 y2
    go_wp2_with fail
    refine (HRA.out _).mono ?_
    rintro e w2 ⟨rfl, b2⟩
    have HF := Hid.mk (HX.out w2 (HB1.out.trans (b2.mono (by have := HB1.out.size; omega))))
    clear b2 z0 z1 z2 z3 z4
    go_wp2_with fail
    refine (HTi.out _).mono ?_
    rintro e w3 ⟨rfl, rfl⟩
    go_wp2
    go_ret2
    exact HF.out
  | true =>
    have hpk : pOk q x now = true := by unfold pOk; rw [hq0, ha0, ht0]; rfl
    have hko := keyS_ok hq hqt
    have HMs : Hid (∀ u, Below N w u → MS W u C T m n ver A X U m2 n2 L ∧ LAt W u T q1 x.a ∧ LAt W u T q2 x.b) := fun u hu => ⟨h.blk (by rw [hN]; exact hu), h1.next (FrC.below (by rw [hN]; exact hu)), h2.next (FrC.below (by rw [hN]; exact hu))⟩
    have HLe : Hid (∀ u, Below N w u → Calls Tryz.prog 66 #[pt X, .int .i64 q.ty, .agg #[.int .i64 x.rc, .int .i64 x.se, .slice q1 x.a.length c1, .slice q2 x.b.length c2, .int .i64 x.un], .int .i64 now] u fun e w' => LrnP W u w' C T m n ver A q.ty x now e) := fun u hu => learn_in (HMs.out u hu).1.rc hn X U (HMs.out u hu).1.box x q1 c1 q2 c2 hc1 hc2 (HMs.out u hu).2.1 (HMs.out u hu).2.2 ha hb ha0 q.ty now ht0
    have HKy : Hid (∀ u, Calls Tryz.prog 65 #[.string q.nm, .int .i64 q.ty] u fun e w' => e = .returned (kV (Rc.keyS q.nm q.ty)) ∧ Below u.heap.size u w') := fun u => keyOf_in q.nm q.ty hq u
    have HDr : Hid (∀ u A', MS W u C T m n ver A' X U m2 n2 L → Calls Tryz.prog 68 #[pt U, kV (Rc.keyS q.nm q.ty)] u fun r w' => (∃ b, r = .returned (.bool b)) ∧ MS W w' C T m n ver A' X U m2 n2 (without L (Rc.keyS q.nm q.ty)) ∧ FrM u w') := fun u A' hu => ms_drop hu _ hko
    have HPu : Hid (∀ u A' v y, MS W u C T m n ver A' X U m2 n2 L → KnAt u W.heap.size v y → KnI y → Calls Tryz.prog 69 #[pt U, kV (Rc.keyS q.nm q.ty), vV v] u fun r w' => (∃ z, r = .returned z) ∧ MS W w' C T m n ver A' X U m2 (n2 + 1) (putR m2 L (Rc.keyS q.nm q.ty) y) ∧ FrM u w') := fun u A' v y hu hv hy => ms_put hu _ hko v y hv hy hn2
    have HYes : Hid (∀ u bb n3 A' L', FrM w u → putA m2 A L q x now = (A', L', bb) → n3 ≤ n2 + 1 → MS W u C T m n ver A' X U m2 n3 L' → PtP W w u C T m n ver A X U m2 n2 L q x now (.returned (.tuple #[.bool bb, .int .i64 0]))) := fun u bb n3 A' L' hf e hn3 hm => ⟨hf, .inr ⟨hpk, by rw [e], n3, hn3, by rw [e]; exact hm⟩⟩
    have HLM : Hid (∀ u w' A', MS W u C T m n ver A X U m2 n2 L → FrC T u w' → RCA W w' C T m n ver A' → MS W w' C T m n ver A' X U m2 n2 L) := fun u w' A' hu hf hr => hu.rcop hf hr
    have HFw : Hid (∀ u, Below N w u → FrM w u) := fun u hu => FrM.below (by rw [hN]; exact hu)
    obtain ⟨⟨y0, y1, y2⟩, -⟩ := HBx.out _ (FrM.refl V0)
    rw [hq0] at HRQ
    rw [ha0] at HRA
    rw [ht0] at HTi
    clear h h1 h2 ha hb hV0 b0 bx g0 g1 hq hc1 hc2 hqt hko hpk hn hn2 hq0 ha0 ht0 HNo
    go_enter Tryz.func27, Tryz.ntmps27
    go_upto_region 1 with fail
    (try rw [hN])
    rw [HV0.out]
    go_wp2_with fail
    refine (HRQ.out _).mono ?_
    rintro e w1 ⟨rfl, b1⟩
    obtain ⟨-, z0, z1, z2, z3, z4⟩ := HBx.out _ (FrM.below b1)
    have HB1 := Hid.mk (HNV.out.2.trans (b1.mono HNV.out.1))
    have HF1 := Hid.mk (FrM.below b1)
    clear b1 y0 y1 y2
    go_wp2_with fail
    refine (HRA.out _).mono ?_
    rintro e w2 ⟨rfl, b2⟩
    have HB2 := Hid.mk (HB1.out.trans (b2.mono (by have := HB1.out.size; omega)))
    have HF2 := Hid.mk (HF1.out.trans (FrM.below b2))
    clear b2 z0 z1 z2 z3 z4
    go_wp2_with fail
    refine (HTi.out _).mono ?_
    rintro e w3 ⟨rfl, rfl⟩
    obtain ⟨⟨y0, y1, y2⟩, -⟩ := HBx.out _ HF2.out
    go_wp2_with fail
    refine (HKy.out _).mono ?_
    rintro e w4 ⟨rfl, b4⟩
    clear y0 y1 y2
    obtain ⟨K, hK⟩ : ∃ K, w4.heap.size = K := ⟨_, rfl⟩
    obtain ⟨V5, hV5⟩ : ∃ V, w4.alloc (.cells #[.string (Rc.keyS q.nm q.ty).1, .int .i64 (Rc.keyS q.nm q.ty).2] 121) = V := ⟨_, rfl⟩
    have g5 : V5.heap[K]? = some (kyO (Rc.keyS q.nm q.ty)) := by rw [← hV5, ← hK]; exact heap_alloc_new w4 _
    have b5 : Below w4.heap.size w4 V5 := by rw [← hV5]; exact (Below.refl _ _).alloc (Nat.le_refl _) _
    have HB5 := Hid.mk ((HB2.out.trans (b4.mono (by have := HB2.out.size; omega))).trans (b5.mono (by have := HB2.out.size; have := b4.size; omega)))
    have HF5 := Hid.mk ((HF2.out.trans (FrM.below b4)).trans (FrM.below b5))
    obtain ⟨⟨y0, y1, y2⟩, z0, z1, z2, z3, z4⟩ := HBx.out _ HF5.out
    have HG5 := Hid.mk g5
    have HV5 := Hid.mk hV5
    clear b4 g5 b5 hV5
    go_upto_region 4 with fail
    (try rw [hK])
    rw [HV5.out]
    clear hK
    go_wp2_with fail
    refine (HLe.out _ HB5.out).mono ?_
    rintro e w6 ⟨hf6, hr6, hc6⟩
    have HM6 := Hid.mk (HLM.out _ _ _ (HMs.out _ HB5.out).1 hf6 hr6)
    have HF6 := Hid.mk ((HFw.out _ HB5.out).trans (FrM.frc hf6))
    have g6 := hf6.same _ _ _ _ HG5.out (by decide) (by decide) (by decide)
    clear y0 y1 y2 z0 z1 z2 z3 z4
    obtain ⟨B, hB⟩ : ∃ B, w6.heap.size = B := ⟨_, rfl⟩
    obtain ⟨Z, hZ⟩ : ∃ Z, w6.alloc (.cells #[.int .i64 0, .int .i64 0, .slice none 0 0, .slice none 0 0, .int .i64 0, .slice none 0 0, .slice none 0 0] 124) = Z := ⟨_, rfl⟩
    have gZ : Z.heap[B]? = some (vO vz) := by rw [← hZ, ← hB]; exact heap_alloc_last _ _
    have bZ : Below w6.heap.size w6 Z := by rw [← hZ]; exact (Below.refl _ _).alloc (Nat.le_refl _) _
    have HS : Hid (∀ u A' L' n3, MS W u C T m n ver A' X U m2 n3 L' → u.heap[K]? = some (kyO (Rc.keyS q.nm q.ty)) → u.cell? ⟨X, 0, none⟩ = some (pt U) ∧ u.cell? ⟨K, 0, none⟩ = some (.string (Rc.keyS q.nm q.ty).1) ∧ u.cell? ⟨K, 1, none⟩ = some (.int .i64 (Rc.keyS q.nm q.ty).2)) := fun u A' L' n3 hm hk => ⟨by rw [So.cell_blk hm.box]; rfl, by rw [So.cell_blk hk]; rfl, by rw [So.cell_blk hk]; rfl⟩
    rcases hc6 with ⟨hnone, rfl⟩ | ⟨y, v, hsome, rfl, hkn, hky⟩
    · have st := kn_put (v' := vz) gZ
      obtain ⟨Z', hZ'⟩ : ∃ Z', Z.setRow B (vC vz).toArray = Z' := ⟨_, rfl⟩
      rw [hZ'] at st
      have bZ' : Below w6.heap.size w6 Z' := by rw [← hZ', ← hB]; exact below_setRow bZ (Nat.le_refl _) _
      have gB : Z'.heap[B]? = some (vO vz) := by rw [← hZ']; exact row_self gZ
      have gK : Z'.heap[K]? = some (kyO (Rc.keyS q.nm q.ty)) := (bZ'.block K (blk_lt g6)).trans g6
      have HM := Hid.mk (HM6.out.blk bZ')
      have HFZ := Hid.mk (HF6.out.trans (FrM.below bZ'))
      have HGK := Hid.mk gK
      have HGB := Hid.mk gB
      dsimp only [vV, vC] at st
      rw [← hZ] at st
      have HE : Hid (putA m2 A L q x now = ((lrnA A q.ty x now).1, without L (Rc.keyS q.nm q.ty), false)) := put_no1 (Prod.ext rfl hnone)
      clear gZ bZ hZ hZ' bZ' gB gK hf6 hr6 g6 hnone
      go_upto_region 6 with fail
      (try rw [hB])
      clear hB st
      refine wp_region_held_drew (S := (fun w : World => w.cell? ⟨X, 0, none⟩ = some (pt U) ∧ w.cell? ⟨K, 0, none⟩ = some (.string (Rc.keyS q.nm q.ty).1) ∧ w.cell? ⟨K, 1, none⟩ = some (.int .i64 (Rc.keyS q.nm q.ty).2))) (by kernel_rfl) (HS.out _ _ _ _ (HM.out.blk (Below.refl _ _).drew) HGK.out) (fun hHeld => ?_)
      refine wU (i := 0) (v := ?va_0) rfl ?ya_0 (by assumption) ?_
      case ya_0 => (intro w hSw; (try dsimp only at hSw); go_simp; try with_reducible rfl)
      refine wU (i := 1) (v := ?va_1) rfl ?ya_1 (by assumption) ?_
      case ya_1 => (intro w hSw; (try dsimp only at hSw); go_simp; try with_reducible rfl)
      refine wU (i := 2) (v := ?va_2) rfl ?ya_2 (by assumption) ?_
      case ya_2 => (intro w hSw; (try dsimp only at hSw); go_simp; try with_reducible rfl)
      refine wU (i := 3) (v := ?va_3) rfl ?ya_3 (by assumption) ?_
      case ya_3 => (intro w hSw; (try dsimp only at hSw); go_simp; try with_reducible rfl)
      refine wU (i := 4) (v := ?va_4) rfl ?ya_4 (by assumption) ?_
      case ya_4 => (intro w hSw; (try dsimp only at hSw); go_simp; try with_reducible rfl)
      try simp only [Act.put, List.getElem_toArray, List.getElem_cons_succ, List.getElem_cons_zero, List.setIfInBounds_toArray, List.set_cons_zero, List.set_cons_succ]
      refine wpAnyH_ready (rs := [5]) (by kernel_rfl) (by simp) ?_
      refine AllReadyH.cons rfl (fun K hK => ?_) AllReadyH.nil
      go_simp
      go_at_call 68
      refine (HDr.out _ _ (HM.out.blk (Below.refl _ _).drew)).mono ?_
      rintro r w7 ⟨⟨bd, rfl⟩, hm7, hf7⟩
      have HF := Hid.mk (HYes.out w7 false n2 _ _ ((HFZ.out.trans (FrM.below (Below.refl _ _).drew)).trans hf7) HE.out (Nat.le_succ _) hm7)
      have gK7 := hf7.same _ _ _ _ HGK.out (by decide) (by decide) (by decide) (by decide) (by decide)
      refine hK.out _ _ (HS.out _ _ _ _ hm7 gK7) (fun hHeld => ?_)
      clear hK
      try simp only [Act.put, List.getElem_toArray, List.getElem_cons_succ, List.getElem_cons_zero, List.setIfInBounds_toArray, List.set_cons_zero, List.set_cons_succ]
      refine wpAnyH_done (by kernel_rfl) ?_ _
      clear hHeld hm7 hf7 gK7
      go_wp2
      go_ret2
      exact HF.out
    · have st := kn_put (v' := v) gZ
      obtain ⟨Z', hZ'⟩ : ∃ Z', Z.setRow B (vC v).toArray = Z' := ⟨_, rfl⟩
      rw [hZ'] at st
      have bZ' : Below w6.heap.size w6 Z' := by rw [← hZ', ← hB]; exact below_setRow bZ (Nat.le_refl _) _
      have gB : Z'.heap[B]? = some (vO v) := by rw [← hZ']; exact row_self gZ
      have gK : Z'.heap[K]? = some (kyO (Rc.keyS q.nm q.ty)) := (bZ'.block K (blk_lt g6)).trans g6
      have HM := Hid.mk (HM6.out.blk bZ')
      have HFZ := Hid.mk (HF6.out.trans (FrM.below bZ'))
      have HGK := Hid.mk gK
      have HGB := Hid.mk gB
      dsimp only [vV, vC] at st
      rw [← hZ] at st
      have hkn' := hkn.frc (FrC.below (T := 0) bZ')
      have HKn := Hid.mk hkn'
      have hlv := kn_box gB
      have hvu := hkn.un
      have HOv : Hid (∀ u, Calls Tryz.prog 67 #[.agg #[.int .i64 v.rc, .int .i64 v.se, .slice none 0 0, .slice none 0 0, .int .i64 v.un, .slice v.q1 v.n1 v.c1, .slice v.q2 v.n2 v.c2], .int .i64 now] u fun e w' => e = .returned (.bool (decide (y.un ≤ now))) ∧ Below u.heap.size u w') := fun u => by
        have := over_in v now u
        rw [hvu] at this
        exact this
      dsimp only [vV, vC] at hlv
      by_cases hov : y.un ≤ now
      · have HE : Hid (putA m2 A L q x now = ((lrnA A q.ty x now).1, without L (Rc.keyS q.nm q.ty), false)) := put_no2 (Prod.ext rfl hsome) hov
        rw [decide_eq_true hov] at HOv
        clear gZ bZ hZ hZ' bZ' gB gK hf6 hr6 g6 hkn hkn' hsome hky hvu hov
        go_upto_region 5 with fail
        (try rw [hB])
        clear hB st
        go_wp2_with fail
        refine (HOv.out _).mono ?_
        rintro e w8 ⟨rfl, b8⟩
        replace HM := Hid.mk (HM.out.blk b8)
        replace HFZ := Hid.mk (HFZ.out.trans (FrM.below b8))
        replace HGK := Hid.mk ((b8.block K (blk_lt HGK.out)).trans HGK.out)
        clear b8 hlv
        go_upto_region 6 with fail
        refine wp_region_held_drew (S := (fun w : World => w.cell? ⟨X, 0, none⟩ = some (pt U) ∧ w.cell? ⟨K, 0, none⟩ = some (.string (Rc.keyS q.nm q.ty).1) ∧ w.cell? ⟨K, 1, none⟩ = some (.int .i64 (Rc.keyS q.nm q.ty).2))) (by kernel_rfl) (HS.out _ _ _ _ (HM.out.blk (Below.refl _ _).drew) HGK.out) (fun hHeld => ?_)
        refine wU (i := 0) (v := ?vb_0) rfl ?yb_0 (by assumption) ?_
        case yb_0 => (intro w hSw; (try dsimp only at hSw); go_simp; try with_reducible rfl)
        refine wU (i := 1) (v := ?vb_1) rfl ?yb_1 (by assumption) ?_
        case yb_1 => (intro w hSw; (try dsimp only at hSw); go_simp; try with_reducible rfl)
        refine wU (i := 2) (v := ?vb_2) rfl ?yb_2 (by assumption) ?_
        case yb_2 => (intro w hSw; (try dsimp only at hSw); go_simp; try with_reducible rfl)
        refine wU (i := 3) (v := ?vb_3) rfl ?yb_3 (by assumption) ?_
        case yb_3 => (intro w hSw; (try dsimp only at hSw); go_simp; try with_reducible rfl)
        refine wU (i := 4) (v := ?vb_4) rfl ?yb_4 (by assumption) ?_
        case yb_4 => (intro w hSw; (try dsimp only at hSw); go_simp; try with_reducible rfl)
        try simp only [Act.put, List.getElem_toArray, List.getElem_cons_succ, List.getElem_cons_zero, List.setIfInBounds_toArray, List.set_cons_zero, List.set_cons_succ]
        refine wpAnyH_ready (rs := [5]) (by kernel_rfl) (by simp) ?_
        refine AllReadyH.cons rfl (fun K hK => ?_) AllReadyH.nil
        go_simp
        go_at_call 68
        refine (HDr.out _ _ (HM.out.blk (Below.refl _ _).drew)).mono ?_
        rintro r w7 ⟨⟨bd, rfl⟩, hm7, hf7⟩
        have HF := Hid.mk (HYes.out w7 false n2 _ _ ((HFZ.out.trans (FrM.below (Below.refl _ _).drew)).trans hf7) HE.out (Nat.le_succ _) hm7)
        have gK7 := hf7.same _ _ _ _ HGK.out (by decide) (by decide) (by decide) (by decide) (by decide)
        refine hK.out _ _ (HS.out _ _ _ _ hm7 gK7) (fun hHeld => ?_)
        clear hK
        try simp only [Act.put, List.getElem_toArray, List.getElem_cons_succ, List.getElem_cons_zero, List.setIfInBounds_toArray, List.set_cons_zero, List.set_cons_succ]
        refine wpAnyH_done (by kernel_rfl) ?_ _
        clear hHeld hm7 hf7 gK7
        go_wp2
        go_ret2
        exact HF.out
      · have HE : Hid (putA m2 A L q x now = ((lrnA A q.ty x now).1, putR m2 L (Rc.keyS q.nm q.ty) y, true)) := put_yes (Prod.ext rfl hsome) hov
        have HKI : Hid (KnI y) := by
          rcases hky with h | h
          · exact absurd h hov
          · exact h
        rw [decide_eq_false hov] at HOv
        clear gZ bZ hZ hZ' bZ' gB gK hf6 hr6 g6 hkn hkn' hsome hky hvu hov
        go_upto_region 5 with fail
        (try rw [hB])
        clear hB st
        go_wp2_with fail
        refine (HOv.out _).mono ?_
        rintro e w8 ⟨rfl, b8⟩
        replace HM := Hid.mk (HM.out.blk b8)
        replace HFZ := Hid.mk (HFZ.out.trans (FrM.below b8))
        replace HKn := Hid.mk (HKn.out.frc (FrC.below (T := 0) b8))
        replace HGK := Hid.mk ((b8.block K (blk_lt HGK.out)).trans HGK.out)
        replace HGB := Hid.mk ((b8.block B (blk_lt HGB.out)).trans HGB.out)
        clear b8 hlv
        go_upto_region 8 with fail
        refine wp_region_held_drew (S := (fun w : World => w.cell? ⟨X, 0, none⟩ = some (pt U) ∧ w.cell? ⟨K, 0, none⟩ = some (.string (Rc.keyS q.nm q.ty).1) ∧ w.cell? ⟨K, 1, none⟩ = some (.int .i64 (Rc.keyS q.nm q.ty).2) ∧ (knLoad (pt B)).run Tryz.prog w = .ok (.agg #[.int .i64 v.rc, .int .i64 v.se, .slice none 0 0, .slice none 0 0, .int .i64 v.un, .slice v.q1 v.n1 v.c1, .slice v.q2 v.n2 v.c2]) w)) (by kernel_rfl) ⟨(HS.out _ _ _ _ HM.out HGK.out).1, (HS.out _ _ _ _ HM.out HGK.out).2.1, (HS.out _ _ _ _ HM.out HGK.out).2.2, kn_box (w := World.drew _) HGB.out⟩ (fun hHeld => ?_)
        refine wU (i := 0) (v := ?vc_0) rfl ?yc_0 (by assumption) ?_
        case yc_0 => (intro w hSw; (try dsimp only at hSw); go_simp; try with_reducible rfl)
        refine wU (i := 1) (v := ?vc_1) rfl ?yc_1 (by assumption) ?_
        case yc_1 => (intro w hSw; (try dsimp only at hSw); go_simp; try with_reducible rfl)
        refine wU (i := 2) (v := ?vc_2) rfl ?yc_2 (by assumption) ?_
        case yc_2 => (intro w hSw; (try dsimp only at hSw); go_simp; try with_reducible rfl)
        refine wU (i := 3) (v := ?vc_3) rfl ?yc_3 (by assumption) ?_
        case yc_3 => (intro w hSw; (try dsimp only at hSw); go_simp; try with_reducible rfl)
        refine wU (i := 4) (v := ?vc_4) rfl ?yc_4 (by assumption) ?_
        case yc_4 => (intro w hSw; (try dsimp only at hSw); go_simp; try with_reducible rfl)
        refine wU (i := 5) (v := ?vc_5) rfl ?yc_5 (by assumption) ?_
        case yc_5 => (intro w hSw; (try dsimp only at hSw); go_simp; try with_reducible rfl)
        try simp only [Act.put, List.getElem_toArray, List.getElem_cons_succ, List.getElem_cons_zero, List.setIfInBounds_toArray, List.set_cons_zero, List.set_cons_succ]
        refine wpAnyH_ready (rs := [6]) (by kernel_rfl) (by simp) ?_
        refine AllReadyH.cons rfl (fun K hK => ?_) AllReadyH.nil
        go_simp
        go_at_call 69
        refine (HPu.out _ _ v y (HM.out.blk (Below.refl _ _).drew) (HKn.out.frc (FrC.below (T := 0) (Below.refl _ _).drew)) HKI.out).mono ?_
        rintro r w9 ⟨⟨zz, rfl⟩, hm9, hf9⟩
        have HF := Hid.mk (HYes.out w9 true (n2 + 1) _ _ ((HFZ.out.trans (FrM.below (Below.refl _ _).drew)).trans hf9) HE.out (Nat.le_refl _) hm9)
        have gK9 := hf9.same _ _ _ _ HGK.out (by decide) (by decide) (by decide) (by decide) (by decide)
        have gB9 := hf9.same _ _ _ _ HGB.out (by decide) (by decide) (by decide) (by decide) (by decide)
        refine hK.out _ _ ⟨(HS.out _ _ _ _ hm9 gK9).1, (HS.out _ _ _ _ hm9 gK9).2.1, (HS.out _ _ _ _ hm9 gK9).2.2, kn_box gB9⟩ (fun hHeld => ?_)
        clear hK
        try simp only [Act.put, List.getElem_toArray, List.getElem_cons_succ, List.getElem_cons_zero, List.setIfInBounds_toArray, List.set_cons_zero, List.set_cons_succ]
        refine wpAnyH_done (by kernel_rfl) ?_ _
        clear hHeld hm9 hf9 gK9 gB9
        go_wp2
        go_ret2
        exact HF.out
end
end Go.Proofs.YtikjepodmdaknaaGreatDoor.Mc
/- Layer 17: Get. -/
namespace Go.Proofs.YtikjepodmdaknaaGreatDoor.Mc
open Go.RowKit
open Go.Proofs.YtikjepodmdaknaaGreatDoor.Rc (pt nilP Ky kV k0 Kp blk_lt cell_same KOk AL Ev EvI timB RCA FrC foundA getA toldE SvI row_self set_blk free_at tim_iff keyS_ok without putR getR)
theorem frm_oth {w u u' : World} (h : FrM w u) {D : Nat} (hD : w.heap.size ≤ D) (hs : ∀ b, b ≠ D → u'.heap[b]? = u.heap[b]?) (hz : u.heap.size ≤ u'.heap.size) : FrM w u' :=
  ⟨Nat.le_trans h.size hz, fun b c t f hx h1 h2 h3 h4 h5 => (hs b (by have := blk_lt hx; omega)).trans (h.same b c t f hx h1 h2 h3 h4 h5)⟩
theorem ms_oth {W w w' : World} {C T m n : Nat} {ver : Int} {A : AL} {X U m2 n2 : Nat} {L : KL} (h : MS W w C T m n ver A X U m2 n2 L) {D : Nat} {c : Array Value} {t : TypeId} {f : Nat × Nat} (hD : w.heap[D]? = some (.cells c t f)) (ht : t = 124 ∨ t = 71) (hs : ∀ b, b ≠ D → w'.heap[b]? = w.heap[b]?) (hb : Below W.heap.size W w') : MS W w' C T m n ver A X U m2 n2 L := by
  have hs' : ∀ (b : Nat) (c' : Array Value) (t' : TypeId) (f' : Nat × Nat), w.heap[b]? = some (.cells c' t' f') → t' ≠ 124 → t' ≠ 71 → w'.heap[b]? = w.heap[b]? := fun b c' t' f' hb h1 h2 => hs b (fun e => by
    obtain rfl : b = D := e
    rw [hD] at hb
    cases hb
    rcases ht with e | e
    · exact h1 e
    · exact h2 e)
  have hm' : ∀ (b : Nat) es cl, w.heap[b]? = some (.map es cl) → w'.heap[b]? = w.heap[b]? := fun b es cl hb => hs b (fun e => by
    obtain rfl : b = D := e
    rw [hD] at hb
    cases hb)
  have htl : t ≠ 249 := by rcases ht with rfl | rfl <;> decide
  obtain ⟨l, hm, e⟩ := h.mc
  obtain ⟨M1, M2, a1, a2, a3⟩ := h.ap
  obtain ⟨lr, Q, hr, er⟩ := h.rc.ex
  obtain ⟨E1, K1, L1, o1, f1⟩ := hr.tab
  obtain ⟨E2, K2, L2, o2, f2⟩ := hm.tab
  refine ⟨rca_oth h.rc hD ht hs hb, ⟨l, ⟨(hs' _ _ _ _ hm.bx (by decide) (by decide)).trans hm.bx, hm.own, ⟨E2, K2, L2, ⟨o2.tab.same fun b hb2 => ?_, o2.own, hb⟩, f2⟩, fun p hp => ?_, hm.ok, hm.len, hm.mb⟩, e⟩, M1, M2, (cell_same (hs' _ _ _ _ o1.tab.tb (by decide) (by decide))).trans a1, (cell_same (hs' _ _ _ _ o2.tab.tb (by decide) (by decide))).trans a2, a3⟩
  · rcases hb2 with rfl | rfl | rfl | hb2
    · exact hs' _ _ _ _ o2.tab.tb (by decide) (by decide)
    · obtain ⟨es, cl, hx⟩ := o2.tab.mp.isMap
      exact hm' _ _ _ hx
    · obtain ⟨c, hx, _⟩ := o2.tab.row.plc b (by simp)
      exact hs' _ _ _ _ hx (by decide) (by decide)
    · obtain ⟨c, hx, _⟩ := o2.tab.row.plc b (List.mem_cons_of_mem _ hb2)
      exact hs' _ _ _ _ hx (by decide) (by decide)
  · obtain ⟨k1, k2, k3, k4, k5, k6, k7⟩ := hm.kn p hp
    exact ⟨k1, k2, k3, k4, k5, lk_oth k6 hD htl hs, lk_oth k7 hD htl hs⟩
theorem kn_oth {w w' : World} {N : Nat} {v : Vl} {y : Kn} (h : KnAt w N v y) {D : Nat} {c : Array Value} {t : TypeId} {f : Nat × Nat} (hD : w.heap[D]? = some (.cells c t f)) (ht : t ≠ 249) (hs : ∀ b, b ≠ D → w'.heap[b]? = w.heap[b]?) : KnAt w' N v y := by
  obtain ⟨k1, k2, k3, k4, k5, k6, k7⟩ := h
  exact ⟨k1, k2, k3, k4, k5, lk_oth k6 hD ht hs, lk_oth k7 hD ht hs⟩
structure MgJ (W V wx : World) (C T m n : Nat) (ver : Int) (A : AL) (X U m2 n2 : Nat) (L : KL) (k : Ky) (B : Nat) (v : Vl) (bb : Bool) : Prop where
  box : wx.heap[B]? = some (vO v)
  fr : FrM V wx
  gc : (bb = false ∧ getR L k = none ∧ MS W wx C T m n ver A X U m2 n2 L) ∨ (bb = true ∧ ∃ y, getR L k = some y ∧ KnI y ∧ KnAt wx W.heap.size v y ∧ MS W wx C T m n ver A X U m2 n2 ((k, y) :: without L k))
section
variable {W V u : World} {C T m n : Nat} {ver : Int} {A : AL} {X U m2 n2 : Nat} {L : KL}
theorem mgot_behind (h : MS W V C T m n ver A X U m2 n2 L) (hu : Below V.heap.size V u) (k : Ky) (hk : KOk k) :
    Calls Tryz.prog 76 #[pt U, kV k] u fun e w' => ∃ (v : Vl) (bb : Bool), e = .returned (.tuple #[vV v, .bool bb]) ∧ (knStore (pt w'.heap.size) (vV v)).run Tryz.prog (w'.alloc (vO vz)) = .ok () ((w'.alloc (vO vz)).setRow w'.heap.size (vC v).toArray) ∧ FrM V w' ∧ Hid (MgJ W V ((w'.alloc (vO vz)).setRow w'.heap.size (vC v).toArray) C T m n ver A X U m2 n2 L k w'.heap.size v bb) := by
  refine (ms_get (h.blk hu) k hk).mono ?_
  rintro e w' ⟨hf, hc⟩
  obtain ⟨Z, hZ⟩ : ∃ Z, w'.alloc (vO vz) = Z := ⟨_, rfl⟩
  have gZ : Z.heap[w'.heap.size]? = some (vO vz) := by rw [← hZ]; exact heap_alloc_last _ _
  have bZ : Below w'.heap.size w' Z := by rw [← hZ]; exact (Below.refl _ _).alloc (Nat.le_refl _) _
  have bR : ∀ v : Vl, Below w'.heap.size w' (Z.setRow w'.heap.size (vC v).toArray) := fun v => below_setRow bZ (Nat.le_refl _) _
  have hfv : FrM V w' := (FrM.below hu).trans hf
  rw [hZ]
  rcases hc with ⟨h1, h2, h3⟩ | ⟨y, v, h1, h2, h3, h4, h5⟩
  · exact ⟨vz, false, h2, kn_put gZ, hfv, row_self gZ, hfv.trans (FrM.below (bR vz)), .inl ⟨rfl, h1, h3.blk (bR vz)⟩⟩
  · exact ⟨v, true, h3, kn_put gZ, hfv, row_self gZ, hfv.trans (FrM.below (bR v)), .inr ⟨rfl, y, h1, h2, h4.frc (FrC.below (T := 0) (bR v)), h5.blk (bR v)⟩⟩
theorem mgot_ahead (h : MS W V C T m n ver A X U m2 n2 L) (hu : Below V.heap.size V u) (k : Ky) (hk : KOk k) :
    Calls Tryz.prog 76 #[pt U, kV k] (u.alloc (vO vz)) fun e w' => ∃ (v : Vl) (bb : Bool), e = .returned (.tuple #[vV v, .bool bb]) ∧ (knStore (pt u.heap.size) (vV v)).run Tryz.prog w' = .ok () (w'.setRow u.heap.size (vC v).toArray) ∧ FrM V w' ∧ Hid (MgJ W V (w'.setRow u.heap.size (vC v).toArray) C T m n ver A X U m2 n2 L k u.heap.size v bb) := by
  have hb := (h.blk hu).bel.size
  have bZ : Below u.heap.size u (u.alloc (vO vz)) := (Below.refl _ _).alloc (Nat.le_refl _) _
  have gZ : (u.alloc (vO vz)).heap[u.heap.size]? = some (vO vz) := heap_alloc_last _ _
  refine (ms_get ((h.blk hu).blk bZ) k hk).mono ?_
  rintro e w' ⟨hf, hc⟩
  have gW := hf.same _ _ _ _ gZ (by decide) (by decide) (by decide) (by decide) (by decide)
  have hs : ∀ (v : Vl) (b : Nat), b ≠ u.heap.size → (w'.setRow u.heap.size (vC v).toArray).heap[b]? = w'.heap[b]? := fun v b hb => setRow_other _ _ _ _ hb
  have hfv : FrM V w' := ((FrM.below hu).trans (FrM.below bZ)).trans hf
  have hf2 : ∀ v : Vl, FrM V (w'.setRow u.heap.size (vC v).toArray) := fun v => frm_oth hfv hu.size (hs v) (by rw [setRow_size]; exact Nat.le_refl _)
  rcases hc with ⟨h1, h2, h3⟩ | ⟨y, v, h1, h2, h3, h4, h5⟩
  · exact ⟨vz, false, h2, kn_put gW, hfv, row_self gW, hf2 vz, .inl ⟨rfl, h1, ms_oth h3 gW (.inl rfl) (hs vz) (below_setRow h3.bel hb _)⟩⟩
  · exact ⟨v, true, h3, kn_put gW, hfv, row_self gW, hf2 v, .inr ⟨rfl, y, h1, h2, kn_oth h4 gW (by decide) (hs v), ms_oth h5 gW (.inl rfl) (hs v) (below_setRow h5.bel hb _)⟩⟩
end
def GtP (W w w' : World) (C T m n : Nat) (ver : Int) (A : AL) (X U m2 n2 : Nat) (L : KL) (q : Qn) (now : Int) (e : Ending) : Prop :=
  FrM w w' ∧ MS W w' C T m n ver (gotA A L q now).1 X U m2 n2 (gotA A L q now).2.1 ∧ (((gotA A L q now).2.2 = none ∧ e = .returned (.tuple #[.agg zAn.toArray, .bool false])) ∨
   (∃ x q1 c1 q2 c2, (gotA A L q now).2.2 = some x ∧ e = .returned (.tuple #[.agg (aC x q1 c1 q2 c2).toArray, .bool true]) ∧ StRow w' w.heap.size (.slice q1 x.a.length c1) x.a ∧ StRow w' w.heap.size (.slice q2 x.b.length c2) x.b))
theorem got_t {A : AL} {L : KL} {q : Qn} {now : Int} (h : timB now = false) : gotA A L q now = (A, L, none) := by unfold gotA; rw [h]; rfl
theorem got_n {A : AL} {L : KL} {q : Qn} {now : Int} (ht : timB now = true) (h : getR L (Rc.keyS q.nm q.ty) = none) : gotA A L q now = (A, L, none) := by unfold gotA; rw [if_pos ht, h]
theorem got_no {A A1 : AL} {L : KL} {q : Qn} {now : Int} {y : Kn} (ht : timB now = true) (h : getR L (Rc.keyS q.nm q.ty) = some y) (h2 : telA A y now = (A1, none)) : gotA A L q now = (A1, without L (Rc.keyS q.nm q.ty), none) := by unfold gotA; rw [if_pos ht, h]; simp only [h2]
theorem got_yes {A A1 : AL} {L : KL} {q : Qn} {now : Int} {y : Kn} {x : An} (ht : timB now = true) (h : getR L (Rc.keyS q.nm q.ty) = some y) (h2 : telA A y now = (A1, some x)) : gotA A L q now = (A1, (Rc.keyS q.nm q.ty, y) :: without L (Rc.keyS q.nm q.ty), some x) := by unfold gotA; rw [if_pos ht, h]; simp only [h2]
section
attribute [local go_sem ↓] loadAt_kn storeAt_kn loadAt_an storeAt_an
set_option maxRecDepth 100000 in
set_option maxHeartbeats 16000000 in
theorem mget_in {W w : World} {C T m n : Nat} {ver : Int} {A : AL} {X U m2 n2 : Nat} {L : KL} (h : MS W w C T m n ver A X U m2 n2 L) (q : Qn) (hq : q.nm.size ≤ maxLen) (hqt : I64 q.ty) (now : Int) :
    Calls Tryz.prog 29 #[pt X, .agg (qC q).toArray, .int .i64 now] w fun e w' => GtP W w w' C T m n ver A X U m2 n2 L q now e := by
  obtain ⟨N, hN⟩ : ∃ N, w.heap.size = N := ⟨_, rfl⟩
  obtain ⟨V0, hV0⟩ : ∃ V, (w.alloc (.cells #[.string q.nm, .int .i64 q.ty, .int .i64 q.cl] 64)).alloc (.cells #[.int .i64 0, .int .i64 0, .slice none 0 0, .slice none 0 0, .int .i64 0] 71) = V := ⟨_, rfl⟩
  have b0 : Below N w V0 := by rw [← hV0, ← hN]; exact ((Below.refl _ _).alloc (Nat.le_refl _) _).alloc (by simp) _
  have bx := Bx.of2 w (.cells #[.string q.nm, .int .i64 q.ty, .int .i64 q.cl] 64) (.cells #[.int .i64 0, .int .i64 0, .slice none 0 0, .slice none 0 0, .int .i64 0] 71)
  rw [hV0, hN] at bx
  have g0 : V0.heap[N]? = some (.cells #[.string q.nm, .int .i64 q.ty, .int .i64 q.cl] 64 (0, 0)) := by have := bx 0 _ rfl; rwa [Nat.add_zero] at this
  have g1 : V0.heap[N + 1]? = some (.cells zAn.toArray 71 (0, 0)) := bx 1 _ rfl
  have HWN : Hid (W.heap.size ≤ N) := by rw [Hid, ← hN]; exact h.bel.size
  have HG1 : Hid (∀ u, FrM V0 u → u.heap[N + 1]? = some (.cells zAn.toArray 71 (0, 0))) := fun u hu => hu.same _ _ _ _ g1 (by decide) (by decide) (by decide) (by decide) (by decide)
  -- the end: what is told is written into the call's own box
  have HEnd : Hid (∀ u (z : List Value) A' L' e, FrM V0 u → FrM w u → MS W u C T m n ver A' X U m2 n2 L' → z.length = 5 → (∀ v ∈ z, v.oneCell' = true) → (MS W (u.setRow (N + 1) z.toArray) C T m n ver A' X U m2 n2 L' → FrM w (u.setRow (N + 1) z.toArray) → (∀ v l, StRow u N v l → StRow (u.setRow (N + 1) z.toArray) w.heap.size v l) → GtP W w (u.setRow (N + 1) z.toArray) C T m n ver A X U m2 n2 L q now e) → (anStore (pt (N + 1)) (.agg z.toArray)).run Tryz.prog u = .ok () (u.setRow (N + 1) z.toArray) ∧ (u.setRow (N + 1) z.toArray).heap[N + 1]? = some (.cells z.toArray 71 (0, 0)) ∧ Hid (GtP W w (u.setRow (N + 1) z.toArray) C T m n ver A X U m2 n2 L q now e)) := fun u z A' L' e hu hw hm hz h1 hk => by
    have g := HG1.out u hu
    have hs : ∀ b, b ≠ N + 1 → (u.setRow (N + 1) z.toArray).heap[b]? = u.heap[b]? := fun b hb => setRow_other _ _ _ _ hb
    refine ⟨an_put g rfl hz h1, row_self g, hk (ms_oth hm g (.inr rfl) hs (below_setRow hm.bel (by have := HWN.out; omega) _)) (frm_oth hw (by omega) hs (by rw [setRow_size]; exact Nat.le_refl _)) (fun v l hr => ?_)⟩
    rw [hN]
    exact st_oth hr g (by decide) (by decide) hs
  have HTi : Hid (∀ u, Calls Tryz.prog 64 #[.int .i64 now] u fun e w' => e = .returned (.bool (timB now)) ∧ w' = u) := fun u => isTime_in now u
  have HV0 := Hid.mk hV0
  have HB0 : Hid (N ≤ V0.heap.size ∧ Below N w V0) := ⟨by have := b0.size; omega, b0⟩
  cases ht0 : timB now with
  | false =>
    obtain ⟨st, g, hf⟩ := HEnd.out V0 zAn A L (.returned (.tuple #[.agg zAn.toArray, .bool false])) (FrM.refl _) (FrM.below (by rw [hN]; exact b0)) (h.blk (by rw [hN]; exact b0)) rfl (t_ones 0 0 0 none 0 0 none 0 0) (fun hm hfm _ => by
      have e := got_t (A := A) (L := L) (q := q) ht0
      exact ⟨hfm, by rw [e]; exact hm, .inl ⟨by rw [e], rfl⟩⟩)
    have HG := Hid.mk g
    rw [ht0] at HTi
    dsimp only [zAn] at st
    clear h hV0 b0 bx g0 g1 hq hqt HEnd HG1 g
    go_enter Tryz.func29, Tryz.ntmps29
    go_upto_region 1 with fail
    (try rw [hN])
    rw [HV0.out]
    go_wp2_with fail
    refine (HTi.out _).mono ?_
    rintro e w1 ⟨rfl, rfl⟩
    go_wp2
    refine bodyPost_ret (results_an Tryz.results29 rfl rfl HG.out rfl) rfl ?_
    exact hf.out
  | true =>
    have hko := keyS_ok hq hqt
    have HKy : Hid (∀ u, Calls Tryz.prog 65 #[.string q.nm, .int .i64 q.ty] u fun e w' => e = .returned (kV (Rc.keyS q.nm q.ty)) ∧ Below u.heap.size u w') := fun u => keyOf_in q.nm q.ty hq u
    have HMs : Hid (∀ u, Below N w u → MS W u C T m n ver A X U m2 n2 L) := fun u hu => h.blk (by rw [hN]; exact hu)
    have HGA : Hid (∀ V u, MS W V C T m n ver A X U m2 n2 L → Below V.heap.size V u → Calls Tryz.prog 76 #[pt U, kV (Rc.keyS q.nm q.ty)] u fun e w' => ∃ (v : Vl) (bb : Bool), e = .returned (.tuple #[.agg #[.int .i64 v.rc, .int .i64 v.se, .slice none 0 0, .slice none 0 0, .int .i64 v.un, .slice v.q1 v.n1 v.c1, .slice v.q2 v.n2 v.c2], .bool bb]) ∧ (knStore (pt w'.heap.size) (.agg #[.int .i64 v.rc, .int .i64 v.se, .slice none 0 0, .slice none 0 0, .int .i64 v.un, .slice v.q1 v.n1 v.c1, .slice v.q2 v.n2 v.c2])).run Tryz.prog (w'.alloc (vO vz)) = .ok () ((w'.alloc (vO vz)).setRow w'.heap.size (vC v).toArray) ∧ FrM V w' ∧ Hid (MgJ W V ((w'.alloc (vO vz)).setRow w'.heap.size (vC v).toArray) C T m n ver A X U m2 n2 L (Rc.keyS q.nm q.ty) w'.heap.size v bb)) := fun V u hm hu => mgot_behind hm hu _ hko
    have HGB : Hid (∀ V, MS W V C T m n ver A X U m2 n2 L → Calls Tryz.prog 76 #[pt U, kV (Rc.keyS q.nm q.ty)] ((V.alloc (vO vz)).drew) fun e w' => ∃ (v : Vl) (bb : Bool), e = .returned (.tuple #[.agg #[.int .i64 v.rc, .int .i64 v.se, .slice none 0 0, .slice none 0 0, .int .i64 v.un, .slice v.q1 v.n1 v.c1, .slice v.q2 v.n2 v.c2], .bool bb]) ∧ (knStore (pt V.heap.size) (.agg #[.int .i64 v.rc, .int .i64 v.se, .slice none 0 0, .slice none 0 0, .int .i64 v.un, .slice v.q1 v.n1 v.c1, .slice v.q2 v.n2 v.c2])).run Tryz.prog w' = .ok () (w'.setRow V.heap.size (vC v).toArray) ∧ FrM V w' ∧ Hid (MgJ W V (w'.setRow V.heap.size (vC v).toArray) C T m n ver A X U m2 n2 L (Rc.keyS q.nm q.ty) V.heap.size v bb)) := fun V hm => mgot_ahead hm ((Below.refl _ _).drew) _ hko
    have HTl : Hid (∀ u L' v y, MS W u C T m n ver A X U m2 n2 L' → KnAt u W.heap.size v y → KnI y → Calls Tryz.prog 77 #[pt X, .agg #[.int .i64 v.rc, .int .i64 v.se, .slice none 0 0, .slice none 0 0, .int .i64 v.un, .slice v.q1 v.n1 v.c1, .slice v.q2 v.n2 v.c2], .int .i64 now] u fun e w' => TelP W u w' C T m n ver A y now e) := fun u L' v y hm hv hy => tell_in hm.rc X U hm.box v y hv hy now ht0
    have HDr : Hid (∀ u A' L', MS W u C T m n ver A' X U m2 n2 L' → Calls Tryz.prog 68 #[pt U, kV (Rc.keyS q.nm q.ty)] u fun r w' => (∃ b, r = .returned (.bool b)) ∧ MS W w' C T m n ver A' X U m2 n2 (without L' (Rc.keyS q.nm q.ty)) ∧ FrM u w') := fun u A' L' hu => ms_drop hu _ hko
    have HLM : Hid (∀ u w' A' L', MS W u C T m n ver A X U m2 n2 L' → FrC T u w' → RCA W w' C T m n ver A' → MS W w' C T m n ver A' X U m2 n2 L') := fun u w' A' L' hu hf hr => hu.rcop hf hr
    have HFw : Hid (∀ u, FrM V0 u → FrM w u) := fun u hu => (FrM.below (by rw [hN]; exact b0)).trans hu
    have HNn : Hid (getR L (Rc.keyS q.nm q.ty) = none → gotA A L q now = (A, L, none)) := fun e => got_n ht0 e
    have HNo : Hid (∀ y A1, getR L (Rc.keyS q.nm q.ty) = some y → telA A y now = (A1, none) → gotA A L q now = (A1, without L (Rc.keyS q.nm q.ty), none)) := fun y A1 e1 e2 => got_no ht0 e1 e2
    have HYs : Hid (∀ y A1 x, getR L (Rc.keyS q.nm q.ty) = some y → telA A y now = (A1, some x) → gotA A L q now = (A1, (Rc.keyS q.nm q.ty, y) :: without L (Rc.keyS q.nm q.ty), some x)) := fun y A1 x e1 e2 => got_yes ht0 e1 e2
    have HWo : Hid (∀ y : Kn, without ((Rc.keyS q.nm q.ty, y) :: without L (Rc.keyS q.nm q.ty)) (Rc.keyS q.nm q.ty) = without L (Rc.keyS q.nm q.ty)) := fun y => Rc.without_head L _ y
    have HBx : Hid (∀ u, Below V0.heap.size V0 u → u.cell? ⟨N, 0, none⟩ = some (.string q.nm) ∧ u.cell? ⟨N, 1, none⟩ = some (.int .i64 q.ty)) := fun u hu => by
      have e0 := (hu.block N (blk_lt g0)).trans g0
      exact ⟨by rw [So.cell_blk e0]; rfl, by rw [So.cell_blk e0]; rfl⟩
    obtain ⟨y0, y1⟩ := HBx.out V0 (Below.refl _ _)
    rw [ht0] at HTi
    clear h hV0 b0 bx g0 g1 hq hqt hko ht0
    go_enter Tryz.func29, Tryz.ntmps29
    go_upto_region 1 with fail
    (try rw [hN])
    rw [HV0.out]
    go_wp2_with fail
    refine (HTi.out _).mono ?_
    rintro e w1 ⟨rfl, rfl⟩
    go_wp2_with fail
    refine (HKy.out _).mono ?_
    rintro e w4 ⟨rfl, b4⟩
    clear y0 y1
    obtain ⟨K, hK⟩ : ∃ K, w4.heap.size = K := ⟨_, rfl⟩
    obtain ⟨V2, hV2⟩ : ∃ V, w4.alloc (.cells #[.string (Rc.keyS q.nm q.ty).1, .int .i64 (Rc.keyS q.nm q.ty).2] 121) = V := ⟨_, rfl⟩
    have g5 : V2.heap[K]? = some (kyO (Rc.keyS q.nm q.ty)) := by rw [← hV2, ← hK]; exact heap_alloc_new w4 _
    have b5 : Below w4.heap.size w4 V2 := by rw [← hV2]; exact (Below.refl _ _).alloc (Nat.le_refl _) _
    have b6 := b4.trans (b5.mono b4.size)
    have HM2 := Hid.mk (HMs.out V2 (HB0.out.2.trans (b6.mono HB0.out.1)))
    have HF2 := Hid.mk (FrM.below b6)
    have gx := HM2.out.box
    have HS5 : Hid (∀ u, FrM V2 u → u.cell? ⟨X, 0, none⟩ = some (pt U) ∧ u.cell? ⟨K, 0, none⟩ = some (.string (Rc.keyS q.nm q.ty).1) ∧ u.cell? ⟨K, 1, none⟩ = some (.int .i64 (Rc.keyS q.nm q.ty).2)) := fun u hu => by
      have e1 := hu.same _ _ _ _ gx (by decide) (by decide) (by decide) (by decide) (by decide)
      have e2 := hu.same _ _ _ _ g5 (by decide) (by decide) (by decide) (by decide) (by decide)
      exact ⟨by rw [So.cell_blk e1]; rfl, by rw [So.cell_blk e2]; rfl, by rw [So.cell_blk e2]; rfl⟩
    have HD0 : Hid (Below V2.heap.size V2 V2.drew) := (Below.refl _ _).drew
    have HV2 := Hid.mk hV2
    clear b4 g5 b5 b6 hV2 gx
    go_upto_region 4 with fail
    (try rw [hK])
    rw [HV2.out]
    clear hK
    go_cut [9, 10] from 22 to 30 (fun pv bv wx => ∃ (B : Nat) (v : Vl) (bb : Bool), pv = pt B ∧ bv = .bool bb ∧ Hid (MgJ W V2 wx C T m n ver A X U m2 n2 L (Rc.keyS q.nm q.ty) B v bb))
    case first =>
      refine wp_region_held_drew (S := (fun w : World => w.cell? ⟨X, 0, none⟩ = some (pt U) ∧ w.cell? ⟨K, 0, none⟩ = some (.string (Rc.keyS q.nm q.ty).1) ∧ w.cell? ⟨K, 1, none⟩ = some (.int .i64 (Rc.keyS q.nm q.ty).2))) (by kernel_rfl) (HS5.out _ (FrM.below HD0.out)) (fun hHeld => ?_)
      refine wU (i := 0) (v := ?va_0) rfl ?ya_0 (by assumption) ?_
      case ya_0 => (intro w hSw; (try dsimp only at hSw); go_simp; try with_reducible rfl)
      refine wU (i := 1) (v := ?va_1) rfl ?ya_1 (by assumption) ?_
      case ya_1 => (intro w hSw; (try dsimp only at hSw); go_simp; try with_reducible rfl)
      refine wU (i := 2) (v := ?va_2) rfl ?ya_2 (by assumption) ?_
      case ya_2 => (intro w hSw; (try dsimp only at hSw); go_simp; try with_reducible rfl)
      refine wU (i := 3) (v := ?va_3) rfl ?ya_3 (by assumption) ?_
      case ya_3 => (intro w hSw; (try dsimp only at hSw); go_simp; try with_reducible rfl)
      refine wU (i := 4) (v := ?va_4) rfl ?ya_4 (by assumption) ?_
      case ya_4 => (intro w hSw; (try dsimp only at hSw); go_simp; try with_reducible rfl)
      try simp only [Act.put, List.getElem_toArray, List.getElem_cons_succ, List.getElem_cons_zero, List.setIfInBounds_toArray, List.set_cons_zero, List.set_cons_succ]
      refine wpAnyH_ready (rs := [5, 9]) (by kernel_rfl) (by simp) ?_
      refine AllReadyH.cons rfl (fun K' hK => ?_) (AllReadyH.cons rfl (fun K' hK => ?_) AllReadyH.nil)
      · go_simp
        go_at_call 76
        refine (HGA.out _ _ HM2.out HD0.out).mono ?_
        rintro e w3 ⟨v, bb, rfl, hst, hf3, hj⟩
        have hfa : FrM V2 (w3.alloc (vO vz)) := hf3.trans (FrM.below ((Below.refl _ _).alloc (Nat.le_refl _) _))
        refine hK.out _ _ (HS5.out _ hf3) (fun hHeld => ?_)
        clear hK K'
        try simp only [Act.put, List.getElem_toArray, List.getElem_cons_succ, List.getElem_cons_zero, List.setIfInBounds_toArray, List.set_cons_zero, List.set_cons_succ]
        refine wU (i := 6) (v := ?vb_6) rfl ?yb_6 (by assumption) ?_
        case yb_6 => (intro w hSw; (try dsimp only at hSw); go_simp; try with_reducible rfl)
        refine wU (i := 7) (v := ?vb_7) rfl ?yb_7 (by assumption) ?_
        case yb_7 => (intro w hSw; (try dsimp only at hSw); go_simp; try with_reducible rfl)
        refine wU (i := 8) (v := ?vb_8) rfl ?yb_8 (by assumption) ?_
        case yb_8 => (intro w hSw; (try dsimp only at hSw); go_simp; try with_reducible rfl)
        try simp only [Act.put, List.getElem_toArray, List.getElem_cons_succ, List.getElem_cons_zero, List.setIfInBounds_toArray, List.set_cons_zero, List.set_cons_succ]
        refine wpAnyH_ready (rs := [9]) (by kernel_rfl) (by simp) ?_
        refine AllReadyH.cons rfl (fun K' hK => ?_) AllReadyH.nil
        go_simp
        refine hK.out _ _ (HS5.out _ hfa) (fun hHeld => ?_)
        clear hK K'
        try simp only [Act.put, List.getElem_toArray, List.getElem_cons_succ, List.getElem_cons_zero, List.setIfInBounds_toArray, List.set_cons_zero, List.set_cons_succ]
        refine wpAnyH_ready (rs := [10]) (by kernel_rfl) (by simp) ?_
        refine AllReadyH.cons rfl (fun K' hK => ?_) AllReadyH.nil
        go_simp
        refine hK.out _ _ (HS5.out _ hj.out.fr) (fun hHeld => ?_)
        clear hK K'
        try simp only [Act.put, List.getElem_toArray, List.getElem_cons_succ, List.getElem_cons_zero, List.setIfInBounds_toArray, List.set_cons_zero, List.set_cons_succ]
        refine wU (i := 11) (v := ?vc_11) rfl ?yc_11 (by assumption) ?_
        case yc_11 => (intro w hSw; (try dsimp only at hSw); go_simp; try with_reducible rfl)
        try simp only [Act.put, List.getElem_toArray, List.getElem_cons_succ, List.getElem_cons_zero, List.setIfInBounds_toArray, List.set_cons_zero, List.set_cons_succ]
        refine wpAnyH_done (by kernel_rfl) ?_ _
        clear hHeld hst hf3 hfa
        go_wp2
        go_meet
        exact ⟨_, _, _, rfl, rfl, hj⟩
      · go_simp
        refine hK.out _ _ (HS5.out _ (FrM.below (((Below.refl _ _).alloc (Nat.le_refl _) _).drew))) (fun hHeld => ?_)
        clear hK K'
        try simp only [Act.put, List.getElem_toArray, List.getElem_cons_succ, List.getElem_cons_zero, List.setIfInBounds_toArray, List.set_cons_zero, List.set_cons_succ]
        refine wpAnyH_ready (rs := [5]) (by kernel_rfl) (by simp) ?_
        refine AllReadyH.cons rfl (fun K' hK => ?_) AllReadyH.nil
        go_simp
        go_at_call 76
        refine (HGB.out _ HM2.out).mono ?_
        rintro e w3 ⟨v, bb, rfl, hst, hf3, hj⟩
        refine hK.out _ _ (HS5.out _ hf3) (fun hHeld => ?_)
        clear hK K'
        try simp only [Act.put, List.getElem_toArray, List.getElem_cons_succ, List.getElem_cons_zero, List.setIfInBounds_toArray, List.set_cons_zero, List.set_cons_succ]
        refine wU (i := 6) (v := ?vd_6) rfl ?yd_6 (by assumption) ?_
        case yd_6 => (intro w hSw; (try dsimp only at hSw); go_simp; try with_reducible rfl)
        refine wU (i := 7) (v := ?vd_7) rfl ?yd_7 (by assumption) ?_
        case yd_7 => (intro w hSw; (try dsimp only at hSw); go_simp; try with_reducible rfl)
        refine wU (i := 8) (v := ?vd_8) rfl ?yd_8 (by assumption) ?_
        case yd_8 => (intro w hSw; (try dsimp only at hSw); go_simp; try with_reducible rfl)
        try simp only [Act.put, List.getElem_toArray, List.getElem_cons_succ, List.getElem_cons_zero, List.setIfInBounds_toArray, List.set_cons_zero, List.set_cons_succ]
        refine wpAnyH_ready (rs := [10]) (by kernel_rfl) (by simp) ?_
        refine AllReadyH.cons rfl (fun K' hK => ?_) AllReadyH.nil
        go_simp
        refine hK.out _ _ (HS5.out _ hj.out.fr) (fun hHeld => ?_)
        clear hK K'
        try simp only [Act.put, List.getElem_toArray, List.getElem_cons_succ, List.getElem_cons_zero, List.setIfInBounds_toArray, List.set_cons_zero, List.set_cons_succ]
        refine wU (i := 11) (v := ?ve_11) rfl ?ye_11 (by assumption) ?_
        case ye_11 => (intro w hSw; (try dsimp only at hSw); go_simp; try with_reducible rfl)
        try simp only [Act.put, List.getElem_toArray, List.getElem_cons_succ, List.getElem_cons_zero, List.setIfInBounds_toArray, List.set_cons_zero, List.set_cons_succ]
        refine wpAnyH_done (by kernel_rfl) ?_ _
        clear hHeld hst hf3
        go_wp2
        go_meet
        exact ⟨_, _, _, rfl, rfl, hj⟩
    case rest =>
      obtain ⟨B, v, bb, rfl, rfl, hj⟩ := hcut
      rcases hj.out.gc with ⟨rfl, hg, hm⟩ | ⟨rfl, y, hg, hyi, hkn, hm⟩
      · obtain ⟨st, g, hf⟩ := HEnd.out _ zAn A L (.returned (.tuple #[.agg zAn.toArray, .bool false])) (HF2.out.trans hj.out.fr) (HFw.out _ (HF2.out.trans hj.out.fr)) hm rfl (t_ones 0 0 0 none 0 0 none 0 0) (fun hm2 hfm _ => by
          have e := HNn.out hg
          exact ⟨hfm, by rw [e]; exact hm2, .inl ⟨by rw [e], rfl⟩⟩)
        have HG := Hid.mk g
        dsimp only [zAn] at st
        clear g hm hg
        go_wp2
        refine bodyPost_ret (results_an Tryz.results29 rfl rfl HG.out rfl) rfl ?_
        exact hf.out
      · have hlv := kn_box hj.out.box
        have HTt := Hid.mk (HTl.out _ _ v y hm hkn hyi)
        have HMm := Hid.mk hm
        have HGg := Hid.mk hg
        dsimp only [vV, vC] at hlv
        clear hg hyi hkn hm
        go_wp2_with fail
        refine HTt.out.mono ?_
        rintro e w6 ⟨hf6, hr6, hc6⟩
        have hm6 := HLM.out _ _ _ _ HMm.out hf6 hr6
        have hfv := hj.out.fr.trans (FrM.frc hf6)
        obtain ⟨E, hE⟩ : ∃ E, w6.heap.size = E := ⟨_, rfl⟩
        obtain ⟨Z, hZ⟩ : ∃ Z, w6.alloc (.cells #[.int .i64 0, .int .i64 0, .slice none 0 0, .slice none 0 0, .int .i64 0] 71) = Z := ⟨_, rfl⟩
        have gZ : Z.heap[E]? = some (.cells zAn.toArray 71 (0, 0)) := by rw [← hZ, ← hE]; exact heap_alloc_last _ _
        have bZ : Below w6.heap.size w6 Z := by rw [← hZ]; exact (Below.refl _ _).alloc (Nat.le_refl _) _
        rcases hc6 with ⟨hnone, rfl⟩ | ⟨x, qa, ca, qb, cb, hsome, rfl, hra, hrb⟩
        · have st := an_put gZ (c' := zAn) rfl rfl (t_ones 0 0 0 none 0 0 none 0 0)
          obtain ⟨Z', hZ'⟩ : ∃ Z', Z.setRow E zAn.toArray = Z' := ⟨_, rfl⟩
          rw [hZ'] at st
          have bZ' : Below w6.heap.size w6 Z' := by rw [← hZ', ← hE]; exact below_setRow bZ (Nat.le_refl _) _
          have gE : Z'.heap[E]? = some (.cells zAn.toArray 71 (0, 0)) := by rw [← hZ']; exact row_self gZ
          have HM7 := Hid.mk (hm6.blk bZ')
          have HF7 := Hid.mk (hfv.trans (FrM.below bZ'))
          have HGE := Hid.mk gE
          have HE := Hid.mk (HNo.out y _ HGg.out (Prod.ext rfl hnone))
          dsimp only [zAn] at st
          rw [← hZ] at st
          clear hf6 hr6 hm6 hfv gZ bZ hZ hZ' bZ' gE hnone hlv
          go_upto_region 9 with fail
          (try rw [hE])
          clear hE st
          refine wp_region_held_drew (S := (fun w : World => w.cell? ⟨X, 0, none⟩ = some (pt U) ∧ w.cell? ⟨K, 0, none⟩ = some (.string (Rc.keyS q.nm q.ty).1) ∧ w.cell? ⟨K, 1, none⟩ = some (.int .i64 (Rc.keyS q.nm q.ty).2))) (by kernel_rfl) (HS5.out _ (HF7.out.trans (FrM.below ((Below.refl _ _).drew)))) (fun hHeld => ?_)
          refine wU (i := 0) (v := ?vf_0) rfl ?yf_0 (by assumption) ?_
          case yf_0 => (intro w hSw; (try dsimp only at hSw); go_simp; try with_reducible rfl)
          refine wU (i := 1) (v := ?vf_1) rfl ?yf_1 (by assumption) ?_
          case yf_1 => (intro w hSw; (try dsimp only at hSw); go_simp; try with_reducible rfl)
          refine wU (i := 2) (v := ?vf_2) rfl ?yf_2 (by assumption) ?_
          case yf_2 => (intro w hSw; (try dsimp only at hSw); go_simp; try with_reducible rfl)
          refine wU (i := 3) (v := ?vf_3) rfl ?yf_3 (by assumption) ?_
          case yf_3 => (intro w hSw; (try dsimp only at hSw); go_simp; try with_reducible rfl)
          refine wU (i := 4) (v := ?vf_4) rfl ?yf_4 (by assumption) ?_
          case yf_4 => (intro w hSw; (try dsimp only at hSw); go_simp; try with_reducible rfl)
          try simp only [Act.put, List.getElem_toArray, List.getElem_cons_succ, List.getElem_cons_zero, List.setIfInBounds_toArray, List.set_cons_zero, List.set_cons_succ]
          refine wpAnyH_ready (rs := [5]) (by kernel_rfl) (by simp) ?_
          refine AllReadyH.cons rfl (fun K' hK => ?_) AllReadyH.nil
          go_simp
          go_at_call 68
          refine (HDr.out _ _ _ (HM7.out.blk (Below.refl _ _).drew)).mono ?_
          rintro r w7 ⟨⟨bd, rfl⟩, hm7, hf7⟩
          rw [HWo.out y] at hm7
          have hfw := (HF7.out.trans (FrM.below ((Below.refl _ _).drew))).trans hf7
          have gE7 := hf7.same _ _ _ _ HGE.out (by decide) (by decide) (by decide) (by decide) (by decide)
          obtain ⟨st2, g, hf⟩ := HEnd.out w7 zAn _ _ (.returned (.tuple #[.agg zAn.toArray, .bool false])) (HF2.out.trans hfw) (HFw.out _ (HF2.out.trans hfw)) hm7 rfl (t_ones 0 0 0 none 0 0 none 0 0) (fun hm2 hfm _ => by
            have e := HE.out
            exact ⟨hfm, by rw [e]; exact hm2, .inl ⟨by rw [e], rfl⟩⟩)
          have HG := Hid.mk g
          have l9 := an_box gE7 rfl
          dsimp only [zAn] at st2 l9
          refine hK.out _ _ (HS5.out _ hfw) (fun hHeld => ?_)
          clear hK
          try simp only [Act.put, List.getElem_toArray, List.getElem_cons_succ, List.getElem_cons_zero, List.setIfInBounds_toArray, List.set_cons_zero, List.set_cons_succ]
          refine wpAnyH_done (by kernel_rfl) ?_ _
          clear hHeld hm7 hf7 gE7 hfw g
          go_wp2
          refine bodyPost_ret (results_an Tryz.results29 rfl rfl HG.out rfl) rfl ?_
          exact hf.out
        · have st := an_put gZ (c' := aC x qa ca qb cb) rfl rfl (t_ones _ _ _ _ _ _ _ _ _)
          obtain ⟨Z', hZ'⟩ : ∃ Z', Z.setRow E (aC x qa ca qb cb).toArray = Z' := ⟨_, rfl⟩
          rw [hZ'] at st
          have bZ' : Below w6.heap.size w6 Z' := by rw [← hZ', ← hE]; exact below_setRow bZ (Nat.le_refl _) _
          have gE : Z'.heap[E]? = some (.cells (aC x qa ca qb cb).toArray 71 (0, 0)) := by rw [← hZ']; exact row_self gZ
          have hlo : N ≤ w6.heap.size := by have := (HFw.out _ (HF2.out.trans hfv)).size; omega
          have hE1 := HYs.out y _ x HGg.out (Prod.ext rfl hsome)
          obtain ⟨st2, g, hf⟩ := HEnd.out Z' (aC x qa ca qb cb) _ _ (.returned (.tuple #[.agg (aC x qa ca qb cb).toArray, .bool true])) (HF2.out.trans (hfv.trans (FrM.below bZ'))) (HFw.out _ (HF2.out.trans (hfv.trans (FrM.below bZ')))) (hm6.blk bZ') rfl (t_ones _ _ _ _ _ _ _ _ _) (fun hm2 hfm hst => by
            refine ⟨hfm, by rw [hE1]; exact hm2, .inr ⟨x, qa, ca, qb, cb, by rw [hE1], rfl, hst _ _ ?_, hst _ _ ?_⟩⟩
            · exact (hra.frc (FrC.below (T := 0) bZ')).low (by have := (HFw.out _ (HF2.out.trans hj.out.fr)).size; omega)
            · exact (hrb.frc (FrC.below (T := 0) bZ')).low (by have := (HFw.out _ (HF2.out.trans hj.out.fr)).size; omega))
          have HG := Hid.mk g
          have l9 := an_box gE rfl
          dsimp only [aC] at st st2 l9
          rw [← hZ] at st
          clear hf6 hr6 hm6 hfv gZ bZ hZ hZ' bZ' gE hsome hra hrb hlo g hE1 hlv
          go_upto_region 8 with fail
          (try rw [hE])
          clear hE st
          go_wp2
          refine bodyPost_ret (results_an Tryz.results29 rfl rfl HG.out rfl) rfl ?_
          exact hf.out
end
end Go.Proofs.YtikjepodmdaknaaGreatDoor.Mc
