/- stir1. -/
import Derived.Test.YtdecmbpmgnoelaaDoorGSpread
namespace Go.Proofs.YtdecmbpmgnoelaaDoor
set_option linter.unusedVariables false
open Go.RowKit

theorem index_words {t n : Nat} (hu : Tryd.prog.underlying t = some (.array n 31)) (p : List (BitVec 32)) (hp : p.length = n) (k : Nat) (hk : k < n) (W : World) :
    (Instr.index t (.agg (wc p)) (.int .i64 (k : Int))).run Tryd.prog W = .ok (.int .u32 ((p[k]?.getD 0).toNat : Int)) W := by
  have hz : (sizeOf 31).run Tryd.prog W = .ok 1 W := by kernel_rfl
  have hc : (wc p)[k]? = some (.int .u32 ((p[k]?.getD 0).toNat : Int)) := by rw [wc_at, List.getElem?_eq_getElem (by omega)]; rfl
  have h1 : (0 : Int) ≤ (k : Int) ∧ (k : Int) < (n : Int) := by omega
  simp [Instr.index, asIntOf, run_underlying hu, h1, hz, part, hc, hk]

/-- three blocks laid one behind the other. -/
theorem three_new (w : World) (c0 c1 c2 : Array Value) (t0 t1 t2 : TypeId) :
    (((w.alloc (.cells c0 t0)).alloc (.cells c1 t1)).alloc (.cells c2 t2)).heap[w.heap.size]? = some (.cells c0 t0 (0, 0)) ∧ (((w.alloc (.cells c0 t0)).alloc (.cells c1 t1)).alloc (.cells c2 t2)).heap[w.heap.size + 1]? = some (.cells c1 t1 (0, 0)) ∧
      (((w.alloc (.cells c0 t0)).alloc (.cells c1 t1)).alloc (.cells c2 t2)).heap[w.heap.size + 2]? = some (.cells c2 t2 (0, 0)) ∧ Below w.heap.size w (((w.alloc (.cells c0 t0)).alloc (.cells c1 t1)).alloc (.cells c2 t2)) := by
  refine ⟨?_, ?_, ?_, (((Below.refl _ _).alloc (Nat.le_refl _) _).alloc (by simp) _).alloc (by simp; omega) _⟩
  · rw [Below.heap_alloc _ _ _ (by simp; omega), Below.heap_alloc _ _ _ (by simp), heap_new]
  · rw [Below.heap_alloc _ _ _ (by simp)]
    exact (congrArg (fun k => (World.alloc _ _).heap[k]?) (World.size_alloc w _).symm).trans (heap_new _ _)
  · exact (congrArg (fun k => (World.alloc _ _).heap[k]?) (by simp)).trans (heap_new _ _)
theorem S5.at (s : S5) {W : World} {b t : Nat} (h : W.heap[b]? = some (.cells (wc s.l) t (0, 0))) :
    W.cell? ⟨b, 0, none⟩ = some (.int .u32 (s.a.toNat : Int)) ∧ W.cell? ⟨b, 1, none⟩ = some (.int .u32 (s.b.toNat : Int)) ∧ W.cell? ⟨b, 2, none⟩ = some (.int .u32 (s.c.toNat : Int)) ∧ W.cell? ⟨b, 3, none⟩ = some (.int .u32 (s.d.toNat : Int)) ∧ W.cell? ⟨b, 4, none⟩ = some (.int .u32 (s.e.toNat : Int)) :=
  ⟨(cells_at h rfl).1, (cells_at h rfl).1, (cells_at h rfl).1, (cells_at h rfl).1, (cells_at h rfl).1⟩
theorem und50 : Tryd.prog.underlying 50 = some (.array 80 31) := by kernel_rfl
theorem add_words (x y : BitVec 32) : ((x.toNat : Int) + (y.toNat : Int)) % 4294967296 = ((x + y).toNat : Int) := bm_add x y
theorem add5w (x1 x2 x3 x4 x5 : BitVec 32) : ((x1.toNat : Int) + (x2.toNat : Int) + (x3.toNat : Int) + (x4.toNat : Int) + (x5.toNat : Int)) % 4294967296 = ((x1 + x2 + x3 + x4 + x5).toNat : Int) := by
  simp only [BitVec.toNat_add]
  omega

set_option maxRecDepth 100000 in
set_option maxHeartbeats 2000000 in
theorem stir1_gen (s : S5) (l : List UInt8) (hl : l.length = 64) (ws : List (BitVec 32)) (hwl : ws.length = 80) (R : Nat → S5) (hR0 : R 0 = s) (hRs : ∀ m, R (m + 1) = st1 (ws[m]?.getD 0) m (R m))
    (hsp : ∀ w : World, Calls Tryd.prog 33 #[.agg (bc l)] w fun e w' => e = .returned (.agg (wc ws)) ∧ Below w.heap.size w w') (w : World) :
    Calls Tryd.prog 20 #[.agg (wc s.l), .agg (bc l)] w fun x w' => x = .returned (.agg (wc (add5 s (R 80)).l)) ∧ Below w.heap.size w w' := by
  have HL := Hid.mk hl
  have HWL := Hid.mk hwl
  have HR0 := Hid.mk hR0
  have HRs := Hid.mk hRs
  have HSP := Hid.mk hsp
  clear hl hwl hR0 hRs hsp
  rw [show (add5 s (R 80)).l = [s.a + (R 80).a, s.b + (R 80).b, s.c + (R 80).c, s.d + (R 80).d, s.e + (R 80).e] from rfl]
  go_enter Tryd.func20, Tryd.ntmps20
  go_upto_region 1 with fail
  obtain ⟨h0, h1, h2, hb⟩ := three_new w (wc s.l) (bc l) #[.int .u32 0, .int .u32 0, .int .u32 0, .int .u32 0, .int .u32 0] 32 36 32
  generalize (((w.alloc (.cells (wc s.l) 32)).alloc (.cells (bc l) 36)).alloc (.cells #[.int .u32 0, .int .u32 0, .int .u32 0, .int .u32 0, .int .u32 0] 32)) = W1 at h0 h1 h2 hb ⊢
  obtain ⟨c0, c1, c2, c3, c4⟩ := s.at h0
  have H0 := Hid.mk h0
  have H1 := Hid.mk h1
  have H2 := Hid.mk h2
  clear h0 h1 h2
  go_quiet (fail)
  clear c0 c1 c2 c3 c4
  go_upto_region 2 with fail
  refine wp_region_lit ?_
  refine wpList_run (W' := W1.drewN nq) (v := .agg (bc l)) rfl (op_load (W := W1.drewN nq) arr37 H1.out (by rw [bc_size]; exact HL.out) rfl rfl) ?_
  go_wp2_with fail
  refine (HSP.out _).mono ?_
  rintro e W2 ⟨rfl, hb2⟩
  have hb2' : Below W1.heap.size W1 W2 := (below_dn W1 nq).trans hb2
  have G0 : Hid (W2.heap[w.heap.size]? = _) := (hb2'.block _ (box_lt H0.out)).trans H0.out
  have G2 : Hid (W2.heap[w.heap.size + 2]? = _) := (hb2'.block _ (box_lt H2.out)).trans H2.out
  have hB : Below w.heap.size w W2 := bthen hb hb2'
  clear hb2 hb2' hb H0 H1 H2 W1 HL HSP
  go_wp2_with fail
  go_loopw [5, 6, 7, 8, 9, 26] (fun a b c d e i wr => ∃ m : Nat, m ≤ 80 ∧ i = .int .i64 m ∧ a = .int .u32 ((R m).a.toNat : Int) ∧ b = .int .u32 ((R m).b.toNat : Int) ∧ c = .int .u32 ((R m).c.toNat : Int) ∧ d = .int .u32 ((R m).d.toNat : Int) ∧ e = .int .u32 ((R m).e.toNat : Int) ∧ Below W2.heap.size W2 wr) (fun _ _ _ _ _ i _ => 80 - (intOf i).toNat)
  case atStart => exact ⟨0, by omega, rfl, by rw [HR0.out], by rw [HR0.out], by rw [HR0.out], by rw [HR0.out], by rw [HR0.out], Below.refl _ _⟩
  case round =>
    obtain ⟨m, hm, rfl, rfl, rfl, rfl, rfl, rfl, hbl⟩ := hrel
    by_cases hlt : m < 80
    · have hix := index_words und50 ws HWL.out m hlt
      have HN : Hid (R (m + 1) = ⟨rol (R m).a 5 + f1 m (R m).b (R m).c (R m).d + (R m).e + k1 m + ws[m]?.getD 0, (R m).a, rol (R m).b 30, (R m).c, (R m).d⟩) := HRs.out m
      generalize ws[m]?.getD 0 = x at hix HN
      generalize (R m).a = a at HN ⊢
      generalize (R m).b = b at HN ⊢
      generalize (R m).c = c at HN ⊢
      generalize (R m).d = d at HN ⊢
      generalize (R m).e = e at HN ⊢
      have HR := Hid.mk (round1_in m hlt b c d)
      have HA := Hid.mk (left_in a 5 (by omega) (by omega))
      have HB := Hid.mk (left_in b 30 (by omega) (by omega))
      generalize f1 m b c d = f at HR HN
      generalize k1 m = k at HR HN
      generalize rol a 5 = a5 at HA HN
      generalize rol b 30 = b30 at HB HN
      go_wp2_with fail
      refine (HR.out _).mono ?_
      rintro e1 w1 ⟨rfl, rfl⟩
      go_wp2_with fail
      refine (HA.out _).mono ?_
      rintro e2 w2 ⟨rfl, j1, rfl⟩
      go_wp2_with fail
      refine (HB.out _).mono ?_
      rintro e3 w3 ⟨rfl, j2, rfl⟩
      go_wp2
      go_roundw
      case rel =>
        refine ⟨m + 1, by omega, by go_num, ?_, by rw [HN.out], by rw [HN.out], by rw [HN.out], by rw [HN.out], ?_⟩
        · rw [HN.out, ← add5w]
        · exact hbl.trans ((below_dn _ (j1 + j2)).mono hbl.size)
      case measure => simp [intOf]; omega
    · obtain rfl : m = 80 := by omega
      have J0 : Hid (wr.heap[w.heap.size]? = _) := (hbl.block _ (box_lt G0.out)).trans G0.out
      have J2 : Hid (wr.heap[w.heap.size + 2]? = _) := (hbl.block _ (box_lt G2.out)).trans G2.out
      have hB' : Below w.heap.size w wr := bthen hB hbl
      obtain ⟨c0, c1, c2, c3, c4⟩ := s.at J0.out
      have q0 := bm_add s.a (R 80).a
      have q1 := bm_add s.b (R 80).b
      have q2 := bm_add s.c (R 80).c
      have q3 := bm_add s.d (R 80).d
      have q4 := bm_add s.e (R 80).e
      clear G0 G2 hB hbl
      go_wp2
      refine operwp_run (W' := wr) (op_build5 rfl rfl rfl rfl rfl rfl) ?_
      rename_i hK
      refine hK _ _ ?_
      refine wpList_runS rfl (op_store arr33 J2.out (by rfl) (by rfl) (by simp [Value.oneCell']) rfl rfl rfl) ?_
      go_wp2
      refine bodyPost_ret (results_cell1 arr33 Tryd.results20 rfl (setRow_heap _ _ _ _ _ _ J2.out) (by rfl)) rfl ⟨?_, Below.setRow hB' (by omega) _⟩
      first
        | rfl
        | (simp only [bm_add]; rfl)
theorem stir1_in (s : S5) (l : List UInt8) (hl : l.length = 64) (w : World) :
    Calls Tryd.prog 20 #[.agg (wc s.l), .agg (bc l)] w fun x w' => x = .returned (.agg (wc (stir1 s l).l)) ∧ Below w.heap.size w w' :=
  stir1_gen s l hl (sch1 l 80) (sch1_len l 80) (fun m => rn1 (sch1 l 80) m s) rfl (fun m => rfl) (spread1_in l hl) w
end Go.Proofs.YtdecmbpmgnoelaaDoor
