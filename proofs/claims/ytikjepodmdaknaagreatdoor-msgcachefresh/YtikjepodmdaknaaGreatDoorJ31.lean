/- Texts of this proof, joined: McFw, McTl. -/
import Derived.Deep.RegionHeld3
import Derived.Test.YtikjepodmdaknaaGreatDoorJ30
import Derived.Test.YtikjepodmdaknaaGreatDoorJ29
set_option linter.unusedVariables false
set_option linter.unusedSimpArgs false
/- Layer 17: follow. -/
namespace Go.Proofs.YtikjepodmdaknaaGreatDoor.Mc
open Go.RowKit
open Go.Proofs.YtikjepodmdaknaaGreatDoor.Rc (pt nilP Ky kV k0 Kp blk_lt cell_same KOk AL Ev EvI timB RCA FrC foundA getA toldE aget_in AGet ze evC SvI seLoad seStore loadAt_se storeAt_se enLoad enStore loadAt_en storeAt_en se_load se_store en_store row_self sv_ones ev_ones load_all store_all ze_ones found_is over_lt tim_iff set_blk)
def lkLoad (a : Value) : Sem Value := Instr.loadAt 249 a
theorem loadAt_lk (a : Value) : Instr.loadAt 249 a = lkLoad a := rfl
def lkStore (a x : Value) : Sem Unit := Instr.storeAt 249 a x
theorem storeAt_lk (a x : Value) : Instr.storeAt 249 a x = lkStore a x := rfl
theorem lk_ones (x : Lk) : ∀ v ∈ lkC x, v.oneCell' = true := by
  intro v hv
  simp only [lkC, List.mem_cons, List.not_mem_nil, or_false] at hv
  rcases hv with rfl | rfl | rfl <;> rfl
section
attribute [local go_sem ↓] loadAt_se storeAt_se loadAt_en storeAt_en loadAt_lk storeAt_lk app_st
set_option maxRecDepth 100000 in
set_option maxHeartbeats 8000000 in
theorem follow_in {W w : World} {C T m n : Nat} {ver : Int} {A : AL} (h : RCA W w C T m n ver A) (X U : Nat) (hX : w.heap[X]? = some (.cells #[pt U, pt C] 126 (0, 0))) (l : List Lk) (q : Option Addr) (c : Nat) (hl : l.length ≤ 20) {M : Nat} (hrow : LkRow w M (.slice q l.length c) l) (hin : ∀ x ∈ l, LkI x) (un now : Int) (hun : 0 ≤ un ∧ un ≤ 4295572095) (hnow : 0 ≤ now ∧ now ≤ 4294967295) :
    Calls Tryz.prog 117 #[pt X, .slice q l.length c, .int .i64 un, .int .i64 now] w fun e w' => FolP W w w' C T m n ver A l un now e := by
  obtain ⟨N, hN⟩ : ∃ N, w.heap.size = N := ⟨_, rfl⟩
  obtain ⟨ln, hln⟩ : ∃ ln, l.length = ln := ⟨_, rfl⟩
  have HIn : Hid (∀ i, i < ln → ∃ (g : Nat) (x : Lk), q = some ⟨g, 0, none⟩ ∧ Hid (l[i]? = some x ∧ LkI x) ∧ Hid (∀ wr, FrC T w wr → (lkLoad (.pointer (some ⟨g, i * 3, none⟩))).run Tryz.prog wr = .ok (.agg (lkC x).toArray) wr)) := fun i hi => by
    have hg : l[i]? = some l[i] := List.getElem?_eq_getElem (by omega)
    obtain ⟨g, e, _⟩ := hrow.at i _ hg
    refine ⟨g, l[i], e, ⟨hg, hin _ (List.getElem_mem _)⟩, fun wr h2 => ?_⟩
    obtain ⟨g', e', h3⟩ := (hrow.frc h2).at i _ hg
    rw [e] at e'
    cases e'
    exact load_all (n := 3) wr g (i * 3) _ rfl (by kernel_rfl) (by kernel_rfl) fun j y hy => by
      have hj : j < 3 := (List.getElem?_eq_some_iff.1 hy).1
      rw [h3 j hj]
      exact hy
  have H0 : Hid (FolI W w w C T m n ver A l un now 0 (.slice none 0 0) A []) := ⟨rfl, rfl, h, StRow.nil _ _, FrC.refl _ _⟩
  have HB : Hid (∀ wr i v Ai ss, FolI W w wr C T m n ver A l un now i v Ai ss → wr.heap[X]? = some (.cells #[pt U, pt C] 126 (0, 0)) ∧ N ≤ wr.heap.size ∧ FrC T w wr) := fun wr i v Ai ss hh => ⟨hh.fr.same _ _ _ _ hX (by decide) (by decide) (by decide), by rw [← hN]; exact hh.fr.size, hh.fr⟩
  have HRc : Hid (∀ wr i v Ai ss, FolI W w wr C T m n ver A l un now i v Ai ss → RCA W wr C T m n ver Ai) := fun wr i v Ai ss hh => hh.rc
  have HNf : Hid (∀ wr w2 i v Ai ss (x : Lk), FolI W w wr C T m n ver A l un now i v Ai ss → l[i]? = some x → foundA Ai (Rc.keyS x.k.1 x.k.2) now = none → FrC T wr w2 → RCA W w2 C T m n ver (getA Ai (Rc.keyS x.k.1 x.k.2) now) → FolP W w w2 C T m n ver A l un now (.returned (.tuple #[.slice none 0 0, .bool false]))) := fun wr w2 i v Ai ss x hh hk hf hfr hr => hh.no hk (.inl hf) hr hfr
  have HNo : Hid (∀ wr w2 i v Ai ss (x : Lk) y, FolI W w wr C T m n ver A l un now i v Ai ss → l[i]? = some x → foundA Ai (Rc.keyS x.k.1 x.k.2) now = some y → ¬ y.ve = x.ve → FrC T wr w2 → RCA W w2 C T m n ver (getA Ai (Rc.keyS x.k.1 x.k.2) now) → FolP W w w2 C T m n ver A l un now (.returned (.tuple #[.slice none 0 0, .bool false]))) := fun wr w2 i v Ai ss x y hh hk hf hv hfr hr => hh.no hk (.inr ⟨y, hf, hv⟩) hr hfr
  have HAp : Hid (∀ wr w2 i v Ai ss (x : Lk) y q1 c1 q2 c2, FolI W w wr C T m n ver A l un now i v Ai ss → i ≤ 20 → l[i]? = some x → foundA Ai (Rc.keyS x.k.1 x.k.2) now = some y → y.ve = x.ve → FrC T wr w2 → RCA W w2 C T m n ver (getA Ai (Rc.keyS x.k.1 x.k.2) now) → Rc.Told w2 wr.heap.size (toldE y now).s q1 c1 q2 c2 → ∃ q3 c3 w', (aSt #[v, .slice (some ⟨w2.heap.size, 0, none⟩) 1 1]).run Tryz.prog (w2.alloc (.cells (svC (tellS y now un) q1 c1 q2 c2).toArray 34)) = .ok (.slice q3 (i + 1) c3) w' ∧ Hid (∃ Aj sj, FolI W w w' C T m n ver A l un now (i + 1) (.slice q3 (i + 1) c3) Aj sj)) := fun wr w2 i v Ai ss x y q1 c1 q2 c2 hh hi hk hf hv hfr hr ht => by
    obtain ⟨V, hV⟩ : ∃ V, w2.alloc (.cells (svC (tellS y now un) q1 c1 q2 c2).toArray 34) = V := ⟨_, rfl⟩
    have bV : Below w2.heap.size w2 V := by rw [← hV]; exact (Below.refl _ _).alloc (Nat.le_refl _) _
    have gV : V.heap[w2.heap.size]? = some (.cells (svC (tellS y now un) q1 c1 q2 c2).toArray 34 (0, 0)) := by rw [← hV]; exact heap_alloc_new w2 _
    have hfv := hfr.trans (FrC.below (T := T) bV)
    have hrow2 := hh.row.frc hfv
    have hsz := (hh.fr.trans hfv).size
    have htV : Rc.Told V w.heap.size (tellS y now un) q1 c1 q2 c2 := ⟨(told_low (ht.frc (FrC.below (T := T) bV)) hh.fr.size).d, (told_low (ht.frc (FrC.below (T := T) bV)) hh.fr.size).g⟩
    obtain ⟨v', w', hrun, hr2, hb2, hc2, hm2⟩ := st_app hrow2 hsz (by rw [hh.len]; omega) (tellS y now un) htV gV
    have hrV := hr.blk bV
    obtain ⟨q3, c3, e2, _⟩ := hr2.form
    rw [show (ss ++ [tellS y now un]).length = i + 1 by simp [hh.len]] at e2
    subst e2
    rw [hV]
    have hrc : RCA W w' C T m n ver (getA Ai (Rc.keyS x.k.1 x.k.2) now) := rca_keepS hrV hc2 hm2 (hrV.bel.trans (hb2.mono (by have := hh.rc.bel.size; have := h.bel.size; omega)))
    exact ⟨q3, c3, w', hrun, _, _, hh.yes hk hf hv hrc (frc_then (hh.fr.trans hfv) hb2) hr2⟩
  have HSt : Hid (∀ V2 V5 i v Ai ss (x : Lk) y q3 c3 q4 c4 D, FolI W w V2 C T m n ver A l un now i v Ai ss → i ≤ 20 → l[i]? = some x → foundA Ai (Rc.keyS x.k.1 x.k.2) now = some y → y.ve = x.ve → FrC T V2 V5 → RCA W V5 C T m n ver (getA Ai (Rc.keyS x.k.1 x.k.2) now) → Rc.Told V5 V2.heap.size (toldE y now).s q3 c3 q4 c4 → V5.heap[D]? = some (.cells (evC (toldE y now) q3 c3 q4 c4).toArray 44 (0, 0)) → V2.heap.size ≤ D → NotMine W V5 C T m n ver (getA Ai (Rc.keyS x.k.1 x.k.2) now) D → ∃ w7 V6 q5 c5, Hid (V5.setCell ⟨D, 3, none⟩ (.int .i64 (min (toldE y now).s.tl (un - now))) = V6) ∧ (seLoad (pt D)).run Tryz.prog V6 = .ok (.agg #[.string y.s.nm, .int .i64 y.s.ty, .int .i64 y.s.cl, .int .i64 (min (toldE y now).s.tl (un - now)), .slice q3 y.s.ds.length c3, .slice q4 y.s.sg.length c4]) V6 ∧ (aSt #[v, .slice (some ⟨V6.heap.size, 0, none⟩) 1 1]).run Tryz.prog (V6.alloc (.cells #[.string y.s.nm, .int .i64 y.s.ty, .int .i64 y.s.cl, .int .i64 (min (toldE y now).s.tl (un - now)), .slice q3 y.s.ds.length c3, .slice q4 y.s.sg.length c4] 34)) = .ok (.slice q5 (i + 1) c5) w7 ∧ Hid (∃ Aj sj, FolI W w w7 C T m n ver A l un now (i + 1) (.slice q5 (i + 1) c5) Aj sj)) := fun V2 V5 i v Ai ss x y q3 c3 q4 c4 D hh hi hk hfd hve hf5 hr5 ht5 g5 hVD hnm => by
    obtain ⟨V6, hV6⟩ : ∃ V, V5.setCell ⟨D, 3, none⟩ (.int .i64 (min (toldE y now).s.tl (un - now))) = V := ⟨_, rfl⟩
    have hs6 : ∀ b, b ≠ D → V6.heap[b]? = V5.heap[b]? := fun b hb => by rw [← hV6]; exact Below.heap_setCell _ _ _ _ hb
    have g6 : V6.heap[D]? = some (.cells (svC (tellS y now un) q3 c3 q4 c4 ++ [Value.int .i64 y.rk, Value.int .i64 y.se, Value.int .i64 y.ve, Value.int .i64 y.un]).toArray 44 (0, 0)) := by rw [← hV6]; exact set_blk g5 3 _
    have l6 := se_load (T := 44) g6 0 (svC (tellS y now un) q3 c3 q4 c4) rfl (fun j v hv => by
      rw [Nat.zero_add, List.getElem?_append_left (List.getElem?_eq_some_iff.1 hv).1]
      exact hv)
    have hf6 : FrC T V2 V6 := frc_othM hf5 hVD hs6 (by rw [← hV6]; simp [World.setCell])
    have hr6 : RCA W V6 C T m n ver (getA Ai (Rc.keyS x.k.1 x.k.2) now) := hnm V6 hs6 (by rw [← hV6]; exact hr5.bel.setCell (p := ⟨D, 3, none⟩) (by have := hh.rc.bel.size; show W.heap.size ≤ D; omega) _)
    have ht6 : Rc.Told V6 V2.heap.size (toldE y now).s q3 c3 q4 c4 := told_oth ht5 g5 (by decide) hs6
    obtain ⟨q5, c5, w7, hrun, HI7⟩ := HAp.out V2 V6 i _ Ai ss x y q3 c3 q4 c4 hh hi hk hfd hve hf6 hr6 ht6
    exact ⟨w7, V6, q5, c5, hV6, l6, hrun, HI7⟩
  have HFin : Hid (∀ wr v Ai ss, FolI W w wr C T m n ver A l un now ln v Ai ss → ∃ q1 c1, v = .slice q1 ln c1 ∧ FolP W w wr C T m n ver A l un now (.returned (.tuple #[.slice q1 ln c1, .bool true]))) := fun wr v Ai ss hh => hh.fin (by omega)
  have hlc : ln ≤ c ∧ c ≤ 9223372036854775807 := by
    obtain ⟨q0, c0, e0, h0⟩ := hrow.form
    cases e0
    rw [← hln]
    exact h0
  have hwr : IntKind.i64.wrap (un - now) = un - now := by rw [IntKind.wrap_i64]; omega
  rw [hln]
  rw [hln] at hl
  simp only [lkC] at HIn
  clear h hX hrow hin hln hun hnow
  go_enter Tryz.func117, Tryz.ntmps117
  go_wp2_with fail
  go_loopw [10, 17] (fun lv iv wr => ∃ (i : Nat) (q1 : Option Addr) (c1 : Nat) (wq : World), wq = wr ∧ i ≤ ln ∧ iv = .int .i64 (i : Int) ∧ lv = .slice q1 i c1 ∧ Hid (∃ Ai ss, FolI W w wq C T m n ver A l un now i (.slice q1 i c1) Ai ss)) (fun _ iv _ => ln - (intOf iv).toNat)
  case atStart => exact ⟨0, none, 0, _, rfl, Nat.zero_le _, rfl, rfl, _, _, H0.out⟩
  case round =>
    obtain ⟨i, q1, c1, wq, rfl, hi, rfl, rfl, HI⟩ := hrel
    obtain ⟨Ai, ss, HI⟩ := HI.out
    replace HI := Hid.mk HI
    by_cases hlt : i < ln
    · have hlz : (i : Int) < (ln : Int) := by omega
      have hlz0 : (0 : Int) ≤ (i : Int) := by omega
      have wi : IntKind.i64.wrap ((i : Int) + 1) = ((i + 1 : Nat) : Int) := by rw [IntKind.wrap_i64]; omega
      obtain ⟨g, x, rfl, hks, hld⟩ := HIn.out i hlt
      obtain ⟨gx, hNq, hfq⟩ := HB.out _ _ _ _ _ HI.out
      have hl0 := hld.out _ hfq
      obtain ⟨P, hP⟩ : ∃ P, wq.heap.size = P := ⟨_, rfl⟩
      obtain ⟨V1, hV1⟩ : ∃ V, wq.alloc (.cells #[.string ⟨#[]⟩, .int .i64 0, .int .i64 0] 249) = V := ⟨_, rfl⟩
      have g1 : V1.heap[P]? = some (.cells ([.string ⟨#[]⟩, .int .i64 0, .int .i64 0] : List Value).toArray 249 (0, 0)) := by rw [← hV1, ← hP]; exact heap_alloc_new wq _
      have b1 : Below P wq V1 := by rw [← hV1, ← hP]; exact (Below.refl _ _).alloc (Nat.le_refl _) _
      have t1 : (lkStore (pt P) (.agg (lkC x).toArray)).run Tryz.prog V1 = .ok () (V1.setRow P (lkC x).toArray) := by
        have := store_all (t := 249) (n := 3) V1 P 0 _ (lkC x) rfl (by kernel_rfl) g1 (by simp) (lk_ones x)
        rw [List.take_zero, List.drop_of_length_le (by simp), List.nil_append, List.append_nil] at this
        exact this
      obtain ⟨V2, hV2⟩ : ∃ V, V1.setRow P (lkC x).toArray = V := ⟨_, rfl⟩
      rw [hV2] at t1
      have b2 : Below P wq V2 := by rw [← hV2]; exact below_setRow b1 (Nat.le_refl _) _
      have g2 : V2.heap[P]? = some (.cells (lkC x).toArray 249 (0, 0)) := by rw [← hV2]; exact row_self g1
      have gx2 : V2.heap[X]? = some (.cells #[pt U, pt C] 126 (0, 0)) := (b2.block X (by have := blk_lt gx; omega)).trans gx
      have HI2 := Hid.mk (HI.out.blk (by rw [hP]; exact b2))
      have HB0 : Hid (Below V2.heap.size V2 V2.drew) := (Below.refl _ _).drew
      have HGA := Hid.mk (fun (u : World) (hu : Below V2.heap.size V2 u) => got_behind (HRc.out _ _ _ _ _ HI2.out) hu x.k.1 hks.out.2.sz x.k.2 now hks.out.2.ty)
      have HGB : Hid (Calls Tryz.prog 15 #[pt C, .string x.k.1, .int .i64 x.k.2, .int .i64 now] ((V2.alloc zeO).drew) fun e w' => ∃ (c : List Value) (bb : Bool), e = .returned (.tuple #[.agg c.toArray, .bool bb]) ∧ (enStore (pt V2.heap.size) (.agg c.toArray)).run Tryz.prog w' = .ok () (w'.setRow V2.heap.size c.toArray) ∧ FrC T V2 w' ∧ Hid (GotJ W V2 (w'.setRow V2.heap.size c.toArray) C T m n ver Ai (Rc.keyS x.k.1 x.k.2) now V2.heap.size c bb)) := got_ahead (HRc.out _ _ _ _ _ HI2.out) HB0.out x.k.1 hks.out.2.sz x.k.2 now hks.out.2.ty
      have HS5 : Hid (∀ u, FrC T V2 u → u.cell? ⟨X, 1, none⟩ = some (pt C) ∧ u.cell? ⟨P, 0, none⟩ = some (.string x.k.1) ∧ u.cell? ⟨P, 1, none⟩ = some (.int .i64 x.k.2)) := fun u hu => by
        have e1 := hu.same _ _ _ _ gx2 (by decide) (by decide) (by decide)
        have e2 := hu.same _ _ _ _ g2 (by decide) (by decide) (by decide)
        exact ⟨by rw [So.cell_blk e1]; rfl, by rw [So.cell_blk e2]; rfl, by rw [So.cell_blk e2]; rfl⟩
      have y0 : V2.cell? ⟨P, 0, none⟩ = some (.string x.k.1) := by rw [So.cell_blk g2]; rfl
      have y1 : V2.cell? ⟨P, 1, none⟩ = some (.int .i64 x.k.2) := by rw [So.cell_blk g2]; rfl
      have yx : V2.cell? ⟨X, 1, none⟩ = some (pt C) := by rw [So.cell_blk gx2]; rfl
      have HG2 := Hid.mk g2
      rw [← hV1] at t1
      simp only [lkC] at t1
      clear gx hNq hfq hV1 hV2 g1 b1 b2 g2 gx2 hld
      go_upto_region 5 with fail
      (try rw [hP])
      clear t1 hl0
      go_cut [13, 14] from 21 to 35 (fun pv bv wx => ∃ (D : Nat) (c : List Value) (bb : Bool), pv = pt D ∧ bv = .bool bb ∧ Hid (GotJ W V2 wx C T m n ver Ai (Rc.keyS x.k.1 x.k.2) now D c bb))
      case first =>
        refine wp_region_held_drew (S := (fun w : World => w.cell? ⟨X, 1, none⟩ = some (pt C) ∧ w.cell? ⟨P, 0, none⟩ = some (.string x.k.1) ∧ w.cell? ⟨P, 1, none⟩ = some (.int .i64 x.k.2))) (by kernel_rfl) (HS5.out _ (FrC.below HB0.out)) (fun hHeld => ?_)
        refine wU (i := 0) (v := ?vpa_0) rfl ?ypa_0 (by assumption) ?_
        case ypa_0 => (intro w hSw; (try dsimp only at hSw); go_simp; try with_reducible rfl)
        refine wU (i := 1) (v := ?vpa_1) rfl ?ypa_1 (by assumption) ?_
        case ypa_1 => (intro w hSw; (try dsimp only at hSw); go_simp; try with_reducible rfl)
        refine wU (i := 2) (v := ?vpa_2) rfl ?ypa_2 (by assumption) ?_
        case ypa_2 => (intro w hSw; (try dsimp only at hSw); go_simp; try with_reducible rfl)
        refine wU (i := 3) (v := ?vpa_3) rfl ?ypa_3 (by assumption) ?_
        case ypa_3 => (intro w hSw; (try dsimp only at hSw); go_simp; try with_reducible rfl)
        refine wU (i := 4) (v := ?vpa_4) rfl ?ypa_4 (by assumption) ?_
        case ypa_4 => (intro w hSw; (try dsimp only at hSw); go_simp; try with_reducible rfl)
        refine wU (i := 5) (v := ?vpa_5) rfl ?ypa_5 (by assumption) ?_
        case ypa_5 => (intro w hSw; (try dsimp only at hSw); go_simp; try with_reducible rfl)
        refine wU (i := 6) (v := ?vpa_6) rfl ?ypa_6 (by assumption) ?_
        case ypa_6 => (intro w hSw; (try dsimp only at hSw); go_simp; try with_reducible rfl)
        refine wU (i := 7) (v := ?vpa_7) rfl ?ypa_7 (by assumption) ?_
        case ypa_7 => (intro w hSw; (try dsimp only at hSw); go_simp; try with_reducible rfl)
        refine wU (i := 8) (v := ?vpa_8) rfl ?ypa_8 (by assumption) ?_
        case ypa_8 => (intro w hSw; (try dsimp only at hSw); go_simp; try with_reducible rfl)
        refine wU (i := 9) (v := ?vpa_9) rfl ?ypa_9 (by assumption) ?_
        case ypa_9 => (intro w hSw; (try dsimp only at hSw); go_simp; try with_reducible rfl)
        refine wU (i := 10) (v := ?vpa_10) rfl ?ypa_10 (by assumption) ?_
        case ypa_10 => (intro w hSw; (try dsimp only at hSw); go_simp; try with_reducible rfl)
        try simp only [Act.put, List.getElem_toArray, List.getElem_cons_succ, List.getElem_cons_zero, List.setIfInBounds_toArray, List.set_cons_zero, List.set_cons_succ]
        refine wpAnyH_ready (rs := [11, 15]) (by kernel_rfl) (by simp) ?_
        refine AllReadyH.cons rfl (fun K hK => ?_) (AllReadyH.cons rfl (fun K hK => ?_) AllReadyH.nil)
        · go_simp
          go_at_call 15
          refine (HGA.out _ HB0.out).mono ?_
          rintro e w3 ⟨c, bb, rfl, hst, hf3, hj⟩
          have hfa : FrC T V2 (w3.alloc zeO) := hf3.trans (FrC.below ((Below.refl _ _).alloc (Nat.le_refl _) _))
          refine hK.out _ _ (HS5.out _ hf3) (fun hHeld => ?_)
          clear hK K
          try simp only [Act.put, List.getElem_toArray, List.getElem_cons_succ, List.getElem_cons_zero, List.setIfInBounds_toArray, List.set_cons_zero, List.set_cons_succ]
          refine wU (i := 12) (v := ?vpb_12) rfl ?ypb_12 (by assumption) ?_
          case ypb_12 => (intro w hSw; (try dsimp only at hSw); go_simp; try with_reducible rfl)
          refine wU (i := 13) (v := ?vpb_13) rfl ?ypb_13 (by assumption) ?_
          case ypb_13 => (intro w hSw; (try dsimp only at hSw); go_simp; try with_reducible rfl)
          refine wU (i := 14) (v := ?vpb_14) rfl ?ypb_14 (by assumption) ?_
          case ypb_14 => (intro w hSw; (try dsimp only at hSw); go_simp; try with_reducible rfl)
          try simp only [Act.put, List.getElem_toArray, List.getElem_cons_succ, List.getElem_cons_zero, List.setIfInBounds_toArray, List.set_cons_zero, List.set_cons_succ]
          refine wpAnyH_ready (rs := [15]) (by kernel_rfl) (by simp) ?_
          refine AllReadyH.cons rfl (fun K hK => ?_) AllReadyH.nil
          go_simp
          refine hK.out _ _ (HS5.out _ hfa) (fun hHeld => ?_)
          clear hK K
          try simp only [Act.put, List.getElem_toArray, List.getElem_cons_succ, List.getElem_cons_zero, List.setIfInBounds_toArray, List.set_cons_zero, List.set_cons_succ]
          refine wpAnyH_ready (rs := [16]) (by kernel_rfl) (by simp) ?_
          refine AllReadyH.cons rfl (fun K hK => ?_) AllReadyH.nil
          go_simp
          refine hK.out _ _ (HS5.out _ hj.out.fr) (fun hHeld => ?_)
          clear hK K
          try simp only [Act.put, List.getElem_toArray, List.getElem_cons_succ, List.getElem_cons_zero, List.setIfInBounds_toArray, List.set_cons_zero, List.set_cons_succ]
          refine wU (i := 17) (v := ?vpc_17) rfl ?ypc_17 (by assumption) ?_
          case ypc_17 => (intro w hSw; (try dsimp only at hSw); go_simp; try with_reducible rfl)
          try simp only [Act.put, List.getElem_toArray, List.getElem_cons_succ, List.getElem_cons_zero, List.setIfInBounds_toArray, List.set_cons_zero, List.set_cons_succ]
          refine wpAnyH_done (by kernel_rfl) ?_ _
          clear hHeld hst hf3 hfa
          go_wp2
          go_meet
          exact ⟨_, _, _, rfl, rfl, hj⟩
        · go_simp
          refine hK.out _ _ (HS5.out _ (FrC.below (((Below.refl _ _).alloc (Nat.le_refl _) _).drew))) (fun hHeld => ?_)
          clear hK K
          try simp only [Act.put, List.getElem_toArray, List.getElem_cons_succ, List.getElem_cons_zero, List.setIfInBounds_toArray, List.set_cons_zero, List.set_cons_succ]
          refine wpAnyH_ready (rs := [11]) (by kernel_rfl) (by simp) ?_
          refine AllReadyH.cons rfl (fun K hK => ?_) AllReadyH.nil
          go_simp
          go_at_call 15
          refine HGB.out.mono ?_
          rintro e w3 ⟨c, bb, rfl, hst, hf3, hj⟩
          refine hK.out _ _ (HS5.out _ hf3) (fun hHeld => ?_)
          clear hK K
          try simp only [Act.put, List.getElem_toArray, List.getElem_cons_succ, List.getElem_cons_zero, List.setIfInBounds_toArray, List.set_cons_zero, List.set_cons_succ]
          refine wU (i := 12) (v := ?vpd_12) rfl ?ypd_12 (by assumption) ?_
          case ypd_12 => (intro w hSw; (try dsimp only at hSw); go_simp; try with_reducible rfl)
          refine wU (i := 13) (v := ?vpd_13) rfl ?ypd_13 (by assumption) ?_
          case ypd_13 => (intro w hSw; (try dsimp only at hSw); go_simp; try with_reducible rfl)
          refine wU (i := 14) (v := ?vpd_14) rfl ?ypd_14 (by assumption) ?_
          case ypd_14 => (intro w hSw; (try dsimp only at hSw); go_simp; try with_reducible rfl)
          try simp only [Act.put, List.getElem_toArray, List.getElem_cons_succ, List.getElem_cons_zero, List.setIfInBounds_toArray, List.set_cons_zero, List.set_cons_succ]
          refine wpAnyH_ready (rs := [16]) (by kernel_rfl) (by simp) ?_
          refine AllReadyH.cons rfl (fun K hK => ?_) AllReadyH.nil
          go_simp
          refine hK.out _ _ (HS5.out _ hj.out.fr) (fun hHeld => ?_)
          clear hK K
          try simp only [Act.put, List.getElem_toArray, List.getElem_cons_succ, List.getElem_cons_zero, List.setIfInBounds_toArray, List.set_cons_zero, List.set_cons_succ]
          refine wU (i := 17) (v := ?vpe_17) rfl ?ype_17 (by assumption) ?_
          case ype_17 => (intro w hSw; (try dsimp only at hSw); go_simp; try with_reducible rfl)
          try simp only [Act.put, List.getElem_toArray, List.getElem_cons_succ, List.getElem_cons_zero, List.setIfInBounds_toArray, List.set_cons_zero, List.set_cons_succ]
          refine wpAnyH_done (by kernel_rfl) ?_ _
          clear hHeld hst hf3
          go_wp2
          go_meet
          exact ⟨_, _, _, rfl, rfl, hj⟩
      case rest =>
        obtain ⟨D, c, bb, rfl, rfl, hj⟩ := hcut
        clear HGA HGB HB0 HS5 y0 y1 yx
        have gP := hj.out.fr.same P _ _ _ HG2.out (by decide) (by decide) (by decide)
        rcases hj.out.gc with ⟨rfl, hf⟩ | ⟨rfl, y, q3, c3, q4, c4, rfl, hfd, ht5⟩
        · have HF := Hid.mk (HNf.out _ _ _ _ _ _ _ HI2.out hks.out.1 hf hj.out.fr hj.out.rc)
          clear hf gP
          go_wp2
          go_ret2
          exact HF.out
        · have g5 := hj.out.box
          have hf5 := hj.out.fr
          have hr5 := hj.out.rc
          have hVD := hj.out.ge
          have y2 := So.cell_blk (i := 2) gP
          have z8 := So.cell_blk (i := 8) g5
          have z3 := So.cell_blk (i := 3) g5
          have f3 := Rc.free_at g5 3
          rw [show (lkC x).toArray[2]? = some (.int .i64 x.ve) from rfl] at y2
          rw [show (evC (toldE y now) q3 c3 q4 c4).toArray[8]? = some (.int .i64 y.ve) from rfl] at z8
          rw [show (evC (toldE y now) q3 c3 q4 c4).toArray[3]? = some (.int .i64 (toldE y now).s.tl) from rfl] at z3
          by_cases hve : y.ve = x.ve
          · have hv1 : (y.ve != x.ve) = false := by simpa using hve
            obtain ⟨w7, V6, q5, c5, HV6, l6, hrun, HI7⟩ := HSt.out V2 _ i _ Ai ss x y q3 c3 q4 c4 D HI2.out (by omega) hks.out.1 hfd hve hf5 hr5 ht5 g5 hVD hj.out.nm
            clear gP hfd g5 hf5 hr5 hVD ht5 hve
            go_upto_region 9 with fail
            rw [HV6.out]
            clear y2 z8 z3 f3
            go_wp2
            go_roundw
            case rel => exact ⟨i + 1, q5, c5, _, rfl, by omega, by first | rfl | go_num, rfl, HI7.out⟩
            case measure => simp [intOf]; omega
          · have hv1 : (y.ve != x.ve) = true := by simpa using hve
            have HF := Hid.mk (HNo.out _ _ i _ Ai ss x y HI2.out hks.out.1 hfd hve hf5 hr5)
            clear gP hfd g5 hf5 hr5 hVD ht5 hve
            go_wp2
            go_ret2
            exact HF.out
    · have hlz : ¬ (i : Int) < (ln : Int) := by omega
      obtain rfl : i = ln := by omega
      obtain ⟨q3, c3, e3, hfin⟩ := HFin.out _ _ _ _ HI.out
      cases e3
      have HF := Hid.mk hfin
      go_wp2
      go_ret2
      exact HF.out
end
end Go.Proofs.YtikjepodmdaknaaGreatDoor.Mc
/- Layer 17: what is told of what is kept. -/
namespace Go.Proofs.YtikjepodmdaknaaGreatDoor.Mc
open Go.RowKit
open Go.Proofs.YtikjepodmdaknaaGreatDoor.Rc (pt nilP Ky kV k0 Kp blk_lt cell_same KOk AL Ev EvI timB RCA FrC foundA getA toldE SvI row_self set_blk free_at tim_iff load_all store_all)
def anLoad (a : Value) : Sem Value := Instr.loadAt 71 a
theorem loadAt_an (a : Value) : Instr.loadAt 71 a = anLoad a := rfl
def anStore (a x : Value) : Sem Unit := Instr.storeAt 71 a x
theorem storeAt_an (a x : Value) : Instr.storeAt 71 a x = anStore a x := rfl
abbrev zAn : List Value := [.int .i64 0, .int .i64 0, .slice none 0 0, .slice none 0 0, .int .i64 0]
abbrev tC (r s u : Int) (q1 : Option Addr) (n1 c1 : Nat) (q2 : Option Addr) (n2 c2 : Nat) : List Value := [.int .i64 r, .int .i64 s, .slice q1 n1 c1, .slice q2 n2 c2, .int .i64 u]
theorem t_ones (r s u : Int) (q1 : Option Addr) (n1 c1 : Nat) (q2 : Option Addr) (n2 c2 : Nat) : ∀ v ∈ tC r s u q1 n1 c1 q2 n2 c2, v.oneCell' = true := by
  intro v hv
  simp only [tC, List.mem_cons, List.not_mem_nil, or_false] at hv
  rcases hv with rfl | rfl | rfl | rfl | rfl <;> rfl
theorem an_box {w : World} {b : Nat} {cs : List Value} {T : TypeId} {f : Nat × Nat} (h : w.heap[b]? = some (.cells cs.toArray T f)) (hl : cs.length = 5) : (anLoad (pt b)).run Tryz.prog w = .ok (.agg cs.toArray) w :=
  load_all (n := 5) w b 0 cs hl (by kernel_rfl) (by kernel_rfl) fun j x hx => by rw [So.cell_blk h, Nat.zero_add, List.getElem?_toArray]; exact hx
theorem an_in {w : World} {b : Nat} {v : Vl} {T : TypeId} {f : Nat × Nat} (h : w.heap[b]? = some (.cells (vC v).toArray T f)) : (anLoad (pt b)).run Tryz.prog w = .ok (.agg (tC v.rc v.se v.un none 0 0 none 0 0).toArray) w :=
  load_all (n := 5) w b 0 _ rfl (by kernel_rfl) (by kernel_rfl) fun j x hx => by
    rw [So.cell_blk h, Nat.zero_add, List.getElem?_toArray]
    have hj : j < 5 := (List.getElem?_eq_some_iff.1 hx).1
    rcases j with _ | _ | _ | _ | _ | j
    all_goals first | exact hx | omega
theorem an_put {w : World} {b : Nat} {c c' : List Value} {T : TypeId} (h : w.heap[b]? = some (.cells c.toArray T (0, 0))) (hl : c.length = 5) (hl' : c'.length = 5) (h1 : ∀ v ∈ c', v.oneCell' = true) : (anStore (pt b) (.agg c'.toArray)).run Tryz.prog w = .ok () (w.setRow b c'.toArray) := by
  have := store_all (t := 71) (n := 5) w b 0 c c' hl' (by kernel_rfl) h (by omega) h1
  rw [List.take_zero, List.drop_of_length_le (by omega), List.nil_append, List.append_nil] at this
  exact this
theorem results_an {fn : Func} {p j : Tmp} (h : fn.results = #[.cell p 71, .tmp j]) {tmps : Array Value} {W : World} {b : Nat} {c : List Value} {t : Value} (hp : tmps.getD p undef = .pointer (some ⟨b, 0, none⟩)) (ht : tmps.getD j undef = t) (hb : W.heap[b]? = some (.cells c.toArray 71 (0, 0))) (hc : c.length = 5) : (results fn tmps).run Tryz.prog W = .ok (.tuple #[.agg c.toArray, t]) W := by
  have ht' : tmps[j]?.getD undef = t := by simpa using ht
  have hp' : tmps[p]?.getD undef = .pointer (some ⟨b, 0, none⟩) := by simpa using hp
  have hl : (loadVar 71 ⟨b, 0, none⟩).run Tryz.prog W = .ok (.agg c.toArray) W := by
    have := an_box hb hc
    simpa only [anLoad, Instr.loadAt, Instr.sureAddr, Sem.run_bind, Sem.run_pure, Result.andThen_ok] using this
  simp only [results, h]
  simp [hp', ht', asAddr, hl]
structure T3 (N P : Nat) (v : Vl) (t : List Value) (w : World) : Prop where
  b0 : w.heap[N]? = some (vO v)
  b1 : w.heap[N + 1]? = some (.cells zAn.toArray 71 (0, 0))
  b2 : w.heap[P]? = some (.cells t.toArray 71 (0, 0))
  p0 : P ≠ N
  p1 : N + 1 < P
section
variable {N P : Nat} {t : List Value} {v : Vl} {w w' : World}
theorem T3.frc {T : Nat} (h : T3 N P v t w) (hf : FrC T w w') : T3 N P v t w' := ⟨hf.same _ _ _ _ h.b0 (by decide) (by decide) (by decide), hf.same _ _ _ _ h.b1 (by decide) (by decide) (by decide), hf.same _ _ _ _ h.b2 (by decide) (by decide) (by decide), h.p0, h.p1⟩
theorem T3.cells (h : T3 N P v t w) : (w.cell? ⟨N, 4, none⟩ = some (.int .i64 v.un) ∧ w.cell? ⟨N, 5, none⟩ = some (.slice v.q1 v.n1 v.c1) ∧ w.cell? ⟨N, 6, none⟩ = some (.slice v.q2 v.n2 v.c2)) := by
  refine ⟨?_, ?_, ?_⟩ <;> (rw [So.cell_blk h.b0]; rfl)
theorem T3.set {i : Nat} (h : T3 N P v t w) (x : Value) : T3 N P v (t.set i x) (w.setCell ⟨P, i, none⟩ x) := ⟨(Below.heap_setCell _ _ _ _ (by show N ≠ P; have := h.p1; omega)).trans h.b0, (Below.heap_setCell _ _ _ _ (by show N + 1 ≠ P; have := h.p1; omega)).trans h.b1, by
  have := set_blk h.b2 i x
  rw [this]
  simp, h.p0, h.p1⟩
end
theorem st_oth {w w' : World} {M : Nat} {v : Value} {L : List Sv} (h : StRow w M v L) {D : Nat} {c : Array Value} {t : TypeId} {f : Nat × Nat} (hD : w.heap[D]? = some (.cells c t f)) (ht : t ≠ 34) (ht2 : t ≠ 9) (hs : ∀ b, b ≠ D → w'.heap[b]? = w.heap[b]?) : StRow w' M v L := by
  obtain ⟨rows, h1, h2, h3, h4⟩ := h.ex
  refine ⟨rows, h1, h2, fun j s hj => ?_, own_same h4 fun b c' f' _ hb => hs b (fun e => ?_)⟩
  · obtain ⟨a1, a2, a3, a4, a5, a6⟩ := h3 j s hj
    refine ⟨a1, a2, a3, a4, a5, own_same a6.d fun b c' f' _ hb => hs b (fun e => ?_), own_same a6.g fun b c' f' _ hb => hs b (fun e => ?_)⟩
    · obtain rfl : b = D := e
      rw [hD] at hb
      cases hb
      exact ht2 rfl
    · obtain rfl : b = D := e
      rw [hD] at hb
      cases hb
      exact ht2 rfl
  · obtain rfl : b = D := e
    rw [hD] at hb
    cases hb
    exact ht rfl
theorem StRow.low {w : World} {N N' : Nat} {v : Value} {L : List Sv} (h : StRow w N v L) (hN : N' ≤ N) : StRow w N' v L := by
  obtain ⟨rows, h1, h2, h3, h4⟩ := h.ex
  refine ⟨rows, h1, h2, fun j s hj => ?_, own_lowS h4 hN⟩
  obtain ⟨a1, a2, a3, a4, a5, a6⟩ := h3 j s hj
  exact ⟨a1, a2, a3, a4, a5, told_low a6 hN⟩
def TelP (W w w' : World) (C T m n : Nat) (ver : Int) (A : AL) (y : Kn) (now : Int) (e : Ending) : Prop :=
  FrC T w w' ∧ RCA W w' C T m n ver (telA A y now).1 ∧
  (((telA A y now).2 = none ∧ e = .returned (.tuple #[.agg zAn.toArray, .bool false])) ∨
   (∃ x q1 c1 q2 c2, (telA A y now).2 = some x ∧ e = .returned (.tuple #[.agg (aC x q1 c1 q2 c2).toArray, .bool true]) ∧ StRow w' w.heap.size (.slice q1 x.a.length c1) x.a ∧ StRow w' w.heap.size (.slice q2 x.b.length c2) x.b))
structure TS (W w : World) (C T m n : Nat) (ver : Int) (A2 : AL) (N P : Nat) (v : Vl) (y : Kn) (t : List Value) (ss ts : List Sv) (q1 : Option Addr) (c1 : Nat) (q2 : Option Addr) (c2 : Nat) (u : World) : Prop where
  t3 : T3 N P v t u
  rc : RCA W u C T m n ver A2
  fr : FrC T w u
  ka : LkRow u W.heap.size (.slice v.q1 v.n1 v.c1) y.a
  kb : LkRow u W.heap.size (.slice v.q2 v.n2 v.c2) y.b
  ra : StRow u N (.slice q1 ss.length c1) ss
  rb : StRow u N (.slice q2 ts.length c2) ts
  ge : w.heap.size = N
  wl : W.heap.size ≤ N
section
variable {W w u u' : World} {C T m n : Nat} {ver : Int} {A2 A3 : AL} {N P : Nat} {t : List Value} {v : Vl} {y : Kn} {ss ts : List Sv} {q1 q2 : Option Addr} {c1 c2 : Nat}
theorem TS.lo (h : TS W w C T m n ver A2 N P v y t ss ts q1 c1 q2 c2 u) : N ≤ u.heap.size := by
  have := h.fr.size
  have := h.ge
  omega
theorem TS.op (h : TS W w C T m n ver A2 N P v y t ss ts q1 c1 q2 c2 u) (hf : FrC T u u') (hr : RCA W u' C T m n ver A3) : TS W w C T m n ver A3 N P v y t ss ts q1 c1 q2 c2 u' :=
  ⟨h.t3.frc hf, hr, h.fr.trans hf, h.ka.frc hf, h.kb.frc hf, h.ra.frc hf, h.rb.frc hf, h.ge, h.wl⟩
theorem TS.set2 (h : TS W w C T m n ver A2 N P v y t [] ts q1 c1 q2 c2 u) (q : Option Addr) (c : Nat) (hr : StRow u N (.slice q ss.length c) ss) : TS W w C T m n ver A2 N P v y (t.set 2 (.slice q ss.length c)) ss ts q c q2 c2 (u.setCell ⟨P, 2, none⟩ (.slice q ss.length c)) :=
  ⟨h.t3.set _, rca_oth h.rc h.t3.b2 (.inr rfl) set_oth (bel_oth h.rc.bel (by have := h.wl; have := h.t3.p1; omega) rfl), frc_oth h.fr (by have := h.ge; have := h.t3.p1; omega) set_oth (by simp [World.setCell]), lk_oth h.ka h.t3.b2 (by decide) set_oth, lk_oth h.kb h.t3.b2 (by decide) set_oth, st_oth hr h.t3.b2 (by decide) (by decide) set_oth, st_oth h.rb h.t3.b2 (by decide) (by decide) set_oth, h.ge, h.wl⟩
theorem TS.set3 (h : TS W w C T m n ver A2 N P v y t ss [] q1 c1 q2 c2 u) (q : Option Addr) (c : Nat) (hr : StRow u N (.slice q ts.length c) ts) : TS W w C T m n ver A2 N P v y (t.set 3 (.slice q ts.length c)) ss ts q1 c1 q c (u.setCell ⟨P, 3, none⟩ (.slice q ts.length c)) :=
  ⟨h.t3.set _, rca_oth h.rc h.t3.b2 (.inr rfl) set_oth (bel_oth h.rc.bel (by have := h.wl; have := h.t3.p1; omega) rfl), frc_oth h.fr (by have := h.ge; have := h.t3.p1; omega) set_oth (by simp [World.setCell]), lk_oth h.ka h.t3.b2 (by decide) set_oth, lk_oth h.kb h.t3.b2 (by decide) set_oth, st_oth h.ra h.t3.b2 (by decide) (by decide) set_oth, st_oth hr h.t3.b2 (by decide) (by decide) set_oth, h.ge, h.wl⟩
theorem TS.ret (h : TS W w C T m n ver A2 N P v y t ss ts q1 c1 q2 c2 u) (z : List Value) (hz : z.length = 5) (h1 : ∀ v ∈ z, v.oneCell' = true) : (anStore (pt (N + 1)) (.agg z.toArray)).run Tryz.prog u = .ok () (u.setRow (N + 1) z.toArray) ∧ (u.setRow (N + 1) z.toArray).heap[N + 1]? = some (.cells z.toArray 71 (0, 0)) ∧ FrC T w (u.setRow (N + 1) z.toArray) ∧ RCA W (u.setRow (N + 1) z.toArray) C T m n ver A2 ∧ StRow (u.setRow (N + 1) z.toArray) N (.slice q1 ss.length c1) ss ∧ StRow (u.setRow (N + 1) z.toArray) N (.slice q2 ts.length c2) ts := by
  have hs : ∀ b, b ≠ N + 1 → (u.setRow (N + 1) z.toArray).heap[b]? = u.heap[b]? := fun b hb => setRow_other _ _ _ _ hb
  exact ⟨an_put h.t3.b1 rfl hz h1, row_self h.t3.b1, frc_oth h.fr (by have := h.ge; omega) hs (by rw [setRow_size]; exact Nat.le_refl _), rca_oth h.rc h.t3.b1 (.inr rfl) hs (below_setRow h.rc.bel (by have := h.wl; omega) _), st_oth h.ra h.t3.b1 (by decide) (by decide) hs, st_oth h.rb h.t3.b1 (by decide) (by decide) hs⟩
theorem TS.tno (h : TS W w C T m n ver A2 N P v y t ss ts q1 c1 q2 c2 u) {A : AL} {now : Int} (e : telA A y now = (A2, none)) : TelP W w (u.setRow (N + 1) zAn.toArray) C T m n ver A y now (.returned (.tuple #[.agg zAn.toArray, .bool false])) := by
  obtain ⟨_, _, hf, hr, _, _⟩ := h.ret zAn rfl (t_ones 0 0 0 none 0 0 none 0 0)
  exact ⟨hf, by rw [e]; exact hr, .inl ⟨by rw [e], rfl⟩⟩
theorem TS.tyes (h : TS W w C T m n ver A2 N P v y t ss ts q1 c1 q2 c2 u) {A : AL} {now : Int} (e : telA A y now = (A2, some ⟨y.rc, y.se, ss, ts, y.un⟩)) : TelP W w (u.setRow (N + 1) (tC y.rc y.se y.un q1 ss.length c1 q2 ts.length c2).toArray) C T m n ver A y now (.returned (.tuple #[.agg (tC y.rc y.se y.un q1 ss.length c1 q2 ts.length c2).toArray, .bool true])) := by
  obtain ⟨_, _, hf, hr, ha, hb⟩ := h.ret (tC y.rc y.se y.un q1 ss.length c1 q2 ts.length c2) rfl (t_ones _ _ _ _ _ _ _ _ _)
  exact ⟨hf, by rw [e]; exact hr, .inr ⟨⟨y.rc, y.se, ss, ts, y.un⟩, q1, c1, q2, c2, by rw [e], rfl, by rw [h.ge]; exact ha, by rw [h.ge]; exact hb⟩⟩
end
theorem tel_over {A : AL} {y : Kn} {now : Int} (h : y.un ≤ now) : telA A y now = (A, none) := by unfold telA; rw [if_pos h]
theorem tel_no1 {A A1 : AL} {y : Kn} {now : Int} (h0 : ¬ y.un ≤ now) (h : folA now y.un A y.a [] = (A1, none)) : telA A y now = (A1, none) := by unfold telA; rw [if_neg h0, h]
theorem tel_no2 {A A1 A2 : AL} {y : Kn} {now : Int} {ss : List Sv} (h0 : ¬ y.un ≤ now) (h : folA now y.un A y.a [] = (A1, some ss)) (h2 : folA now y.un A1 y.b [] = (A2, none)) : telA A y now = (A2, none) := by unfold telA; rw [if_neg h0]; simp only [h, h2]
theorem tel_yes {A A1 A2 : AL} {y : Kn} {now : Int} {ss ts : List Sv} (h0 : ¬ y.un ≤ now) (h : folA now y.un A y.a [] = (A1, some ss)) (h2 : folA now y.un A1 y.b [] = (A2, some ts)) : telA A y now = (A2, some ⟨y.rc, y.se, ss, ts, y.un⟩) := by unfold telA; rw [if_neg h0]; simp only [h, h2]
section
attribute [local go_sem ↓] loadAt_kn storeAt_kn loadAt_an storeAt_an
set_option maxRecDepth 100000 in
set_option maxHeartbeats 8000000 in
theorem tell_in {W w : World} {C T m n : Nat} {ver : Int} {A : AL} (h : RCA W w C T m n ver A) (X U : Nat) (hX : w.heap[X]? = some (.cells #[pt U, pt C] 126 (0, 0))) (v : Vl) (y : Kn) (hv : KnAt w W.heap.size v y) (hy : KnI y) (now : Int) (hnow : timB now = true) :
    Calls Tryz.prog 77 #[pt X, vV v, .int .i64 now] w fun e w' => TelP W w w' C T m n ver A y now e := by
  have hnow2 := tim_iff.1 hnow
  obtain ⟨N, hN⟩ : ∃ N, w.heap.size = N := ⟨_, rfl⟩
  obtain ⟨vr, vs, vu, p1, m1, d1, p2, m2, d2⟩ := v
  obtain ⟨yr, ys, yu, ya, yb⟩ := y
  obtain ⟨e1, e2, e3, e4, e5, hka, hkb⟩ := hv
  dsimp only at e1 e2 e3 e4 e5 hka hkb
  subst e1 e2 e3 e4 e5
  have hla := hy.la
  have hlb := hy.lb
  have hia := hy.ia
  have hib := hy.ib
  have hyu := hy.un
  dsimp only at hla hlb hia hib hyu
  obtain ⟨V0, hV0⟩ : ∃ V, (w.alloc (.cells #[.int .i64 vr, .int .i64 vs, .slice none 0 0, .slice none 0 0, .int .i64 vu, .slice p1 ya.length d1, .slice p2 yb.length d2] 124)).alloc (.cells #[.int .i64 0, .int .i64 0, .slice none 0 0, .slice none 0 0, .int .i64 0] 71) = V := ⟨_, rfl⟩
  have s0 : V0.heap.size = N + 1 + 1 := by rw [← hV0]; simp [hN]
  have b0 : Below N w V0 := by rw [← hV0, ← hN]; exact ((Below.refl _ _).alloc (Nat.le_refl _) _).alloc (by simp) _
  have bx := Bx.of2 w (vO ⟨vr, vs, vu, p1, ya.length, d1, p2, yb.length, d2⟩) (.cells #[.int .i64 0, .int .i64 0, .slice none 0 0, .slice none 0 0, .int .i64 0] 71)
  rw [show (w.alloc (vO ⟨vr, vs, vu, p1, ya.length, d1, p2, yb.length, d2⟩)).alloc (.cells #[.int .i64 0, .int .i64 0, .slice none 0 0, .slice none 0 0, .int .i64 0] 71) = V0 from hV0, hN] at bx
  have g00 : V0.heap[N]? = some (vO ⟨vr, vs, vu, p1, ya.length, d1, p2, yb.length, d2⟩) := by have := bx 0 _ rfl; rwa [Nat.add_zero] at this
  have g01 : V0.heap[N + 1]? = some (.cells zAn.toArray 71 (0, 0)) := bx 1 _ rfl
  have lv0 := kn_box g00
  have HOv : Hid (∀ u, Calls Tryz.prog 67 #[.agg #[.int .i64 vr, .int .i64 vs, .slice none 0 0, .slice none 0 0, .int .i64 vu, .slice p1 ya.length d1, .slice p2 yb.length d2], .int .i64 now] u fun e w' => e = .returned (.bool (decide (vu ≤ now))) ∧ Below u.heap.size u w') := fun u => over_in ⟨vr, vs, vu, p1, ya.length, d1, p2, yb.length, d2⟩ now u
  have HV0 := Hid.mk hV0
  have hWN : W.heap.size ≤ N := by rw [← hN]; exact h.bel.size
  dsimp only [vV, vC] at lv0
  by_cases hov : vu ≤ now
  · rw [decide_eq_true hov] at HOv
    have HF : Hid (∀ u, Below V0.heap.size V0 u → (anStore (pt (N + 1)) (.agg zAn.toArray)).run Tryz.prog u = .ok () (u.setRow (N + 1) zAn.toArray) ∧ (u.setRow (N + 1) zAn.toArray).heap[N + 1]? = some (.cells zAn.toArray 71 (0, 0)) ∧ TelP W w (u.setRow (N + 1) zAn.toArray) C T m n ver A ⟨vr, vs, vu, ya, yb⟩ now (.returned (.tuple #[.agg zAn.toArray, .bool false]))) := fun u hu => by
      have g1 := (hu.block (N + 1) (by omega)).trans g01
      have hb : Below N w (u.setRow (N + 1) zAn.toArray) := below_setRow (b0.trans (hu.mono (by omega))) (by omega) _
      refine ⟨an_put g1 rfl rfl (t_ones 0 0 0 none 0 0 none 0 0), row_self g1, ?_⟩
      have e := tel_over (A := A) (y := ⟨vr, vs, vu, ya, yb⟩) hov
      exact ⟨FrC.below (by rw [hN]; exact hb), by rw [e]; exact h.blk (by rw [hN]; exact hb), .inl ⟨by rw [e], rfl⟩⟩
    clear h hX hka hkb hy hnow hnow2 hV0 b0 bx g00 g01 hov s0 hla hlb hia hib hyu
    go_enter Tryz.func77, Tryz.ntmps77
    go_upto_region 1 with fail
    (try rw [hN])
    rw [HV0.out]
    go_wp2_with fail
    refine (HOv.out _).mono ?_
    rintro e w1 ⟨rfl, b1⟩
    obtain ⟨st, g, hf⟩ := HF.out w1 b1
    have HG := Hid.mk g
    have HX := Hid.mk hf
    dsimp only [zAn] at st
    clear g hf b1 lv0
    go_wp2
    refine bodyPost_ret (results_an Tryz.results77 rfl rfl HG.out rfl) rfl ?_
    exact HX.out
  · rw [decide_eq_false hov] at HOv
    have HFo : Hid (∀ u A1 (l : List Lk) q c, RCA W u C T m n ver A1 → FrC T w u → l.length ≤ 20 → LkRow u W.heap.size (.slice q l.length c) l → (∀ x ∈ l, LkI x) → Calls Tryz.prog 117 #[pt X, .slice q l.length c, .int .i64 vu, .int .i64 now] u fun e w' => FolP W u w' C T m n ver A1 l vu now e) := fun u A1 l q c hr hf hl hrow hin => follow_in hr X U (hf.same _ _ _ _ hX (by decide) (by decide) (by decide)) l q c hl hrow hin vu now (by omega) hnow2
    have HSt : Hid (∀ u, Below V0.heap.size V0 u → u.heap[N]? = some (vO ⟨vr, vs, vu, p1, ya.length, d1, p2, yb.length, d2⟩) ∧ ∀ P Z Z', P = u.heap.size → u.alloc (.cells #[.int .i64 0, .int .i64 0, .slice none 0 0, .slice none 0 0, .int .i64 0] 71) = Z → Z.setRow P (tC vr vs vu none 0 0 none 0 0).toArray = Z' → (anStore (pt P) (.agg (tC vr vs vu none 0 0 none 0 0).toArray)).run Tryz.prog Z = .ok () Z' ∧ TS W w C T m n ver A N P ⟨vr, vs, vu, p1, ya.length, d1, p2, yb.length, d2⟩ ⟨vr, vs, vu, ya, yb⟩ (tC vr vs vu none 0 0 none 0 0) [] [] none 0 none 0 Z') := fun u hu => by
      have g0 := (hu.block N (by omega)).trans g00
      have g1 := (hu.block (N + 1) (by omega)).trans g01
      refine ⟨g0, fun P Z Z' hP hZ hZ' => ?_⟩
      have hs := hu.size
      have gZ : Z.heap[P]? = some (.cells zAn.toArray 71 (0, 0)) := by rw [← hZ, hP]; exact heap_alloc_last _ _
      have bZ : Below u.heap.size u Z := by rw [← hZ]; exact (Below.refl _ _).alloc (Nat.le_refl _) _
      have st := an_put gZ (c' := tC vr vs vu none 0 0 none 0 0) rfl rfl (t_ones _ _ _ _ _ _ _ _ _)
      rw [hZ'] at st
      have hb : Below N w Z' := by rw [← hZ']; exact below_setRow ((b0.trans (hu.mono (by omega))).trans (bZ.mono (by omega))) (by omega) _
      have hfw : FrC T w Z' := FrC.below (by rw [hN]; exact hb)
      refine ⟨st, ⟨?_, ?_, ?_, by omega, by omega⟩, h.blk (by rw [hN]; exact hb), hfw, hka.frc hfw, hkb.frc hfw, StRow.nil _ _, StRow.nil _ _, hN, hWN⟩
      · rw [← hZ', setRow_other _ _ _ _ (by omega)]
        exact (bZ.block N (by omega)).trans g0
      · rw [← hZ', setRow_other _ _ _ _ (by omega)]
        exact (bZ.block (N + 1) (by omega)).trans g1
      · rw [← hZ']
        exact row_self gZ
    have HVn : Hid (ya.length ≤ 20 ∧ yb.length ≤ 20 ∧ (∀ x ∈ ya, LkI x) ∧ (∀ x ∈ yb, LkI x) ∧ ¬ vu ≤ now) := ⟨hla, hlb, hia, hib, hov⟩
    clear h hX hka hkb hy hnow hnow2 hV0 b0 bx g00 g01 hov hla hlb hyu hWN hia hib s0
    go_enter Tryz.func77, Tryz.ntmps77
    go_upto_region 1 with fail
    (try rw [hN])
    rw [HV0.out]
    go_wp2_with fail
    refine (HOv.out _).mono ?_
    rintro e w1 ⟨rfl, b1⟩
    obtain ⟨g0, hst⟩ := HSt.out w1 b1
    obtain ⟨P, hP⟩ : ∃ P, w1.heap.size = P := ⟨_, rfl⟩
    obtain ⟨Z, hZ⟩ : ∃ Z, w1.alloc (.cells #[.int .i64 0, .int .i64 0, .slice none 0 0, .slice none 0 0, .int .i64 0] 71) = Z := ⟨_, rfl⟩
    obtain ⟨Z', hZ'⟩ : ∃ Z', Z.setRow P (tC vr vs vu none 0 0 none 0 0).toArray = Z' := ⟨_, rfl⟩
    obtain ⟨st, hts⟩ := hst P Z Z' hP.symm hZ hZ'
    have l0 := an_in g0
    have HTS := Hid.mk hts
    dsimp only [tC] at st l0
    rw [← hZ] at st
    clear lv0 g0 hst hts hZ hZ' b1
    go_upto_region 4 with fail
    (try rw [hP])
    clear st l0 hP
    obtain ⟨y4, y5, y6⟩ := HTS.out.t3.cells
    dsimp only at y4 y5 y6
    go_wp2_with fail
    refine (HFo.out _ _ _ _ _ HTS.out.rc HTS.out.fr HVn.out.1 HTS.out.ka HVn.out.2.2.1).mono ?_
    rintro e w2 ⟨hf2, hr2, hc2⟩
    have hl2 := HTS.out.op hf2 hr2
    have f2 := free_at hl2.t3.b2 2
    have k2 := So.cell_blk (i := 2) hl2.t3.b2
    rw [show (tC vr vs vu none 0 0 none 0 0).toArray[2]? = some (.slice none 0 0) from rfl] at k2
    clear y4 y5 y6
    rcases hc2 with ⟨hnone, rfl⟩ | ⟨ss, qa, ca, hsome, rfl, hrow⟩
    · obtain ⟨Y, hY⟩ : ∃ Y, w2.setCell ⟨P, 2, none⟩ (.slice none 0 0) = Y := ⟨_, rfl⟩
      have hs := hl2.set2 (ss := []) none 0 (StRow.nil _ _)
      rw [show w2.setCell ⟨P, 2, none⟩ (.slice none ([] : List Sv).length 0) = Y from hY] at hs
      obtain ⟨st, g, -, -, -, -⟩ := hs.ret zAn rfl (t_ones 0 0 0 none 0 0 none 0 0)
      have HF := Hid.mk (hs.tno (tel_no1 (y := ⟨vr, vs, vu, ya, yb⟩) (by have := HVn.out.2.2.2.2; show ¬ vu ≤ now; omega) (Prod.ext rfl hnone)))
      have HG := Hid.mk g
      have HY := Hid.mk hY
      dsimp only [zAn] at st
      clear hf2 hr2 hl2 hnone hY hs g
      go_upto_region 5 with fail
      rw [HY.out]
      go_wp2
      refine bodyPost_ret (results_an Tryz.results77 rfl rfl HG.out rfl) rfl ?_
      exact HF.out
    · obtain ⟨Y, hY⟩ : ∃ Y, w2.setCell ⟨P, 2, none⟩ (.slice qa ss.length ca) = Y := ⟨_, rfl⟩
      have hs := hl2.set2 qa ca (hrow.low HTS.out.lo)
      rw [hY] at hs
      have HS := Hid.mk hs
      have HY := Hid.mk hY
      have HE1 : Hid (folA now vu A ya [] = ((folA now vu A ya []).1, some ss)) := Prod.ext rfl hsome
      clear hf2 hr2 hl2 hsome hY hs hrow
      generalize (folA now vu A ya []).1 = A1 at *
      go_upto_region 5 with fail
      rw [HY.out]
      clear f2 k2
      obtain ⟨y4, y5, y6⟩ := HS.out.t3.cells
      dsimp only at y4 y5 y6
      go_wp2_with fail
      refine (HFo.out _ _ _ _ _ HS.out.rc HS.out.fr HVn.out.2.1 HS.out.kb HVn.out.2.2.2.1).mono ?_
      rintro e w3 ⟨hf3, hr3, hc3⟩
      have hl3 := HS.out.op hf3 hr3
      have f3 := free_at hl3.t3.b2 3
      have k3 := So.cell_blk (i := 3) hl3.t3.b2
      rw [show ((tC vr vs vu none 0 0 none 0 0).set 2 (.slice qa ss.length ca)).toArray[3]? = some (.slice none 0 0) from rfl] at k3
      clear y4 y5 y6
      rcases hc3 with ⟨hnone, rfl⟩ | ⟨ts, qb, cb, hsome, rfl, hrow⟩
      · obtain ⟨Y2, hY2⟩ : ∃ Y, w3.setCell ⟨P, 3, none⟩ (.slice none 0 0) = Y := ⟨_, rfl⟩
        have hs := hl3.set3 (ts := []) none 0 (StRow.nil _ _)
        rw [show w3.setCell ⟨P, 3, none⟩ (.slice none ([] : List Sv).length 0) = Y2 from hY2] at hs
        obtain ⟨st, g, -, -, -, -⟩ := hs.ret zAn rfl (t_ones 0 0 0 none 0 0 none 0 0)
        have HF := Hid.mk (hs.tno (tel_no2 (y := ⟨vr, vs, vu, ya, yb⟩) (by have := HVn.out.2.2.2.2; show ¬ vu ≤ now; omega) HE1.out (Prod.ext rfl hnone)))
        have HG := Hid.mk g
        have HY2 := Hid.mk hY2
        dsimp only [zAn] at st
        clear hf3 hr3 hl3 hnone hY2 hs g
        go_upto_region 8 with fail
        rw [HY2.out]
        go_wp2
        refine bodyPost_ret (results_an Tryz.results77 rfl rfl HG.out rfl) rfl ?_
        exact HF.out
      · obtain ⟨Y2, hY2⟩ : ∃ Y, w3.setCell ⟨P, 3, none⟩ (.slice qb ts.length cb) = Y := ⟨_, rfl⟩
        have hs := hl3.set3 qb cb (hrow.low HS.out.lo)
        rw [hY2] at hs
        have HE2 : Hid (folA now vu A1 yb [] = ((folA now vu A1 yb []).1, some ts)) := Prod.ext rfl hsome
        obtain ⟨st, g, -, -, -, -⟩ := hs.ret (tC vr vs vu qa ss.length ca qb ts.length cb) rfl (t_ones _ _ _ _ _ _ _ _ _)
        have HF := Hid.mk (hs.tyes (tel_yes (y := ⟨vr, vs, vu, ya, yb⟩) (by have := HVn.out.2.2.2.2; show ¬ vu ≤ now; omega) HE1.out HE2.out))
        have HG := Hid.mk g
        have HY2 := Hid.mk hY2
        have l9 := an_box hs.t3.b2 rfl
        rw [show ((tC vr vs vu none 0 0 none 0 0).set 2 (.slice qa ss.length ca)).set 3 (.slice qb ts.length cb) = tC vr vs vu qa ss.length ca qb ts.length cb from rfl] at l9
        dsimp only [tC] at st l9
        clear hf3 hr3 hl3 hsome hY2 hs g hrow
        go_upto_region 8 with fail
        rw [HY2.out]
        go_wp2
        refine bodyPost_ret (results_an Tryz.results77 rfl rfl HG.out rfl) rfl ?_
        exact HF.out
end
end Go.Proofs.YtikjepodmdaknaaGreatDoor.Mc
