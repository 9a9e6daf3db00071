/- Texts of this proof, joined: GStir1, GSpread2, GStir2, GLaid, KLaid, Plain. -/
import Derived.Test.YtlcjagkfeakinaaGreatDoorJ1
import Derived.OpenShut
import Derived.WalkKit
import Derived.ProofKit
import Derived.Lib.LaidTab
import Derived.Deep.DeepHandedRow
import Derived.Test.YtlcjagkfeakinaaGreatDoorTie
import Derived.Test.YtlcjagkfeakinaaGreatDoorCards
import Derived.Lib.Strings
import Derived.Lib.IndexBytes
/- stir1. -/
namespace Go.Proofs.YtlcjagkfeakinaaGreatDoor.G
set_option linter.unusedVariables false
open Go.RowKit

theorem index_words {t n : Nat} (hu : Tryz.prog.underlying t = some (.array n 40)) (p : List (BitVec 32)) (hp : p.length = n) (k : Nat) (hk : k < n) (W : World) :
    (Instr.index t (.agg (wc p)) (.int .i64 (k : Int))).run Tryz.prog W = .ok (.int .u32 ((p[k]?.getD 0).toNat : Int)) W := by
  have hz : (sizeOf 40).run Tryz.prog W = .ok 1 W := by kernel_rfl
  have hc : (wc p)[k]? = some (.int .u32 ((p[k]?.getD 0).toNat : Int)) := by rw [wc_at, List.getElem?_eq_getElem (by omega)]; rfl
  have h1 : (0 : Int) ≤ (k : Int) ∧ (k : Int) < (n : Int) := by omega
  simp [Instr.index, asIntOf, run_underlying hu, h1, hz, part, hc, hk]

/-- three blocks laid one behind the other. -/
theorem three_new (w : World) (c0 c1 c2 : Array Value) (t0 t1 t2 : TypeId) :
    (((w.alloc (.cells c0 t0)).alloc (.cells c1 t1)).alloc (.cells c2 t2)).heap[w.heap.size]? = some (.cells c0 t0 (0, 0)) ∧ (((w.alloc (.cells c0 t0)).alloc (.cells c1 t1)).alloc (.cells c2 t2)).heap[w.heap.size + 1]? = some (.cells c1 t1 (0, 0)) ∧
      (((w.alloc (.cells c0 t0)).alloc (.cells c1 t1)).alloc (.cells c2 t2)).heap[w.heap.size + 2]? = some (.cells c2 t2 (0, 0)) ∧ Below w.heap.size w (((w.alloc (.cells c0 t0)).alloc (.cells c1 t1)).alloc (.cells c2 t2)) := by
  refine ⟨?_, ?_, ?_, (((Below.refl _ _).alloc (Nat.le_refl _) _).alloc (by simp) _).alloc (by simp; omega) _⟩
  · rw [Below.heap_alloc _ _ _ (by simp; omega), Below.heap_alloc _ _ _ (by simp), heap_new]
  · rw [Below.heap_alloc _ _ _ (by simp)]
    exact (congrArg (fun k => (World.alloc _ _).heap[k]?) (World.size_alloc w _).symm).trans (heap_new _ _)
  · exact (congrArg (fun k => (World.alloc _ _).heap[k]?) (by simp)).trans (heap_new _ _)
theorem S5.at (s : S5) {W : World} {b t : Nat} (h : W.heap[b]? = some (.cells (wc s.l) t (0, 0))) :
    W.cell? ⟨b, 0, none⟩ = some (.int .u32 (s.a.toNat : Int)) ∧ W.cell? ⟨b, 1, none⟩ = some (.int .u32 (s.b.toNat : Int)) ∧ W.cell? ⟨b, 2, none⟩ = some (.int .u32 (s.c.toNat : Int)) ∧ W.cell? ⟨b, 3, none⟩ = some (.int .u32 (s.d.toNat : Int)) ∧ W.cell? ⟨b, 4, none⟩ = some (.int .u32 (s.e.toNat : Int)) :=
  ⟨(cells_at h rfl).1, (cells_at h rfl).1, (cells_at h rfl).1, (cells_at h rfl).1, (cells_at h rfl).1⟩
theorem und50 : Tryz.prog.underlying 185 = some (.array 80 40) := by kernel_rfl
theorem add_words (x y : BitVec 32) : ((x.toNat : Int) + (y.toNat : Int)) % 4294967296 = ((x + y).toNat : Int) := bm_add x y
theorem add5w (x1 x2 x3 x4 x5 : BitVec 32) : ((x1.toNat : Int) + (x2.toNat : Int) + (x3.toNat : Int) + (x4.toNat : Int) + (x5.toNat : Int)) % 4294967296 = ((x1 + x2 + x3 + x4 + x5).toNat : Int) := by
  simp only [BitVec.toNat_add]
  omega

set_option maxRecDepth 100000 in
set_option maxHeartbeats 2000000 in
theorem stir1_gen (s : S5) (l : List UInt8) (hl : l.length = 64) (ws : List (BitVec 32)) (hwl : ws.length = 80) (R : Nat → S5) (hR0 : R 0 = s) (hRs : ∀ m, R (m + 1) = st1 (ws[m]?.getD 0) m (R m))
    (hsp : ∀ w : World, Calls Tryz.prog 139 #[.agg (bc l)] w fun e w' => e = .returned (.agg (wc ws)) ∧ Below w.heap.size w w') (w : World) :
    Calls Tryz.prog 103 #[.agg (wc s.l), .agg (bc l)] w fun x w' => x = .returned (.agg (wc (add5 s (R 80)).l)) ∧ Below w.heap.size w w' := by
  have HL := Hid.mk hl
  have HWL := Hid.mk hwl
  have HR0 := Hid.mk hR0
  have HRs := Hid.mk hRs
  have HSP := Hid.mk hsp
  clear hl hwl hR0 hRs hsp
  rw [show (add5 s (R 80)).l = [s.a + (R 80).a, s.b + (R 80).b, s.c + (R 80).c, s.d + (R 80).d, s.e + (R 80).e] from rfl]
  go_enter Tryz.func103, Tryz.ntmps103
  go_upto_region 1 with fail
  obtain ⟨h0, h1, h2, hb⟩ := three_new w (wc s.l) (bc l) #[.int .u32 0, .int .u32 0, .int .u32 0, .int .u32 0, .int .u32 0] 152 123 152
  generalize (((w.alloc (.cells (wc s.l) 152)).alloc (.cells (bc l) 123)).alloc (.cells #[.int .u32 0, .int .u32 0, .int .u32 0, .int .u32 0, .int .u32 0] 152)) = W1 at h0 h1 h2 hb ⊢
  obtain ⟨c0, c1, c2, c3, c4⟩ := s.at h0
  have H0 := Hid.mk h0
  have H1 := Hid.mk h1
  have H2 := Hid.mk h2
  clear h0 h1 h2
  go_quiet (fail)
  clear c0 c1 c2 c3 c4
  go_upto_region 2 with fail
  refine wp_region_lit ?_
  refine wpList_run (W' := W1.drewN nq) (v := .agg (bc l)) rfl (op_load (W := W1.drewN nq) arr37 H1.out (by rw [bc_size]; exact HL.out) rfl rfl) ?_
  go_wp2_with fail
  refine (HSP.out _).mono ?_
  rintro e W2 ⟨rfl, hb2⟩
  have hb2' : Below W1.heap.size W1 W2 := (below_dn W1 nq).trans hb2
  have G0 : Hid (W2.heap[w.heap.size]? = _) := (hb2'.block _ (box_lt H0.out)).trans H0.out
  have G2 : Hid (W2.heap[w.heap.size + 2]? = _) := (hb2'.block _ (box_lt H2.out)).trans H2.out
  have hB : Below w.heap.size w W2 := bthen hb hb2'
  clear hb2 hb2' hb H0 H1 H2 W1 HL HSP
  go_wp2_with fail
  go_loopw [5, 6, 7, 8, 9, 26] (fun a b c d e i wr => ∃ m : Nat, m ≤ 80 ∧ i = .int .i64 m ∧ a = .int .u32 ((R m).a.toNat : Int) ∧ b = .int .u32 ((R m).b.toNat : Int) ∧ c = .int .u32 ((R m).c.toNat : Int) ∧ d = .int .u32 ((R m).d.toNat : Int) ∧ e = .int .u32 ((R m).e.toNat : Int) ∧ Below W2.heap.size W2 wr) (fun _ _ _ _ _ i _ => 80 - (intOf i).toNat)
  case atStart => exact ⟨0, by omega, rfl, by rw [HR0.out], by rw [HR0.out], by rw [HR0.out], by rw [HR0.out], by rw [HR0.out], Below.refl _ _⟩
  case round =>
    obtain ⟨m, hm, rfl, rfl, rfl, rfl, rfl, rfl, hbl⟩ := hrel
    by_cases hlt : m < 80
    · have hix := index_words und50 ws HWL.out m hlt
      have HN : Hid (R (m + 1) = ⟨rol (R m).a 5 + f1 m (R m).b (R m).c (R m).d + (R m).e + k1 m + ws[m]?.getD 0, (R m).a, rol (R m).b 30, (R m).c, (R m).d⟩) := HRs.out m
      generalize ws[m]?.getD 0 = x at hix HN
      generalize (R m).a = a at HN ⊢
      generalize (R m).b = b at HN ⊢
      generalize (R m).c = c at HN ⊢
      generalize (R m).d = d at HN ⊢
      generalize (R m).e = e at HN ⊢
      have HR := Hid.mk (round1_in m hlt b c d)
      have HA := Hid.mk (left_in a 5 (by omega) (by omega))
      have HB := Hid.mk (left_in b 30 (by omega) (by omega))
      generalize f1 m b c d = f at HR HN
      generalize k1 m = k at HR HN
      generalize rol a 5 = a5 at HA HN
      generalize rol b 30 = b30 at HB HN
      go_wp2_with fail
      refine (HR.out _).mono ?_
      rintro e1 w1 ⟨rfl, rfl⟩
      go_wp2_with fail
      refine (HA.out _).mono ?_
      rintro e2 w2 ⟨rfl, j1, rfl⟩
      go_wp2_with fail
      refine (HB.out _).mono ?_
      rintro e3 w3 ⟨rfl, j2, rfl⟩
      go_wp2
      go_roundw
      case rel =>
        refine ⟨m + 1, by omega, by go_num, ?_, by rw [HN.out], by rw [HN.out], by rw [HN.out], by rw [HN.out], ?_⟩
        · rw [HN.out, ← add5w]
        · exact hbl.trans ((below_dn _ (j1 + j2)).mono hbl.size)
      case measure => simp [intOf]; omega
    · obtain rfl : m = 80 := by omega
      have J0 : Hid (wr.heap[w.heap.size]? = _) := (hbl.block _ (box_lt G0.out)).trans G0.out
      have J2 : Hid (wr.heap[w.heap.size + 2]? = _) := (hbl.block _ (box_lt G2.out)).trans G2.out
      have hB' : Below w.heap.size w wr := bthen hB hbl
      obtain ⟨c0, c1, c2, c3, c4⟩ := s.at J0.out
      have q0 := bm_add s.a (R 80).a
      have q1 := bm_add s.b (R 80).b
      have q2 := bm_add s.c (R 80).c
      have q3 := bm_add s.d (R 80).d
      have q4 := bm_add s.e (R 80).e
      clear G0 G2 hB hbl
      go_wp2
      refine operwp_run (W' := wr) (op_build5 rfl rfl rfl rfl rfl rfl) ?_
      rename_i hK
      refine hK _ _ ?_
      refine wpList_runS rfl (op_store arr33 J2.out (by rfl) (by rfl) (by simp [Value.oneCell']) rfl rfl rfl) ?_
      go_wp2
      refine bodyPost_ret (results_cell1 arr33 Tryz.results103 rfl (setRow_heap _ _ _ _ _ _ J2.out) (by rfl)) rfl ⟨?_, Below.setRow hB' (by omega) _⟩
      first
        | rfl
        | (simp only [bm_add]; rfl)
theorem stir1_in (s : S5) (l : List UInt8) (hl : l.length = 64) (w : World) :
    Calls Tryz.prog 103 #[.agg (wc s.l), .agg (bc l)] w fun x w' => x = .returned (.agg (wc (stir1 s l).l)) ∧ Below w.heap.size w w' :=
  stir1_gen s l hl (sch1 l 80) (sch1_len l 80) (fun m => rn1 (sch1 l 80) m s) rfl (fun m => rfl) (spread1_in l hl) w
end Go.Proofs.YtlcjagkfeakinaaGreatDoor.G

/- spread256. -/
namespace Go.Proofs.YtlcjagkfeakinaaGreatDoor.G
set_option linter.unusedVariables false
open Go.RowKit
theorem shr3 (x : BitVec 32) : (x.toNat : Int) / (8 : Int) = ((x >>> 3).toNat : Int) := by have := bv_shr x 3; rwa [show ((2 : Int) ^ 3) = (8 : Int) from rfl] at this
theorem shr10 (x : BitVec 32) : (x.toNat : Int) / (1024 : Int) = ((x >>> 10).toNat : Int) := by have := bv_shr x 10; rwa [show ((2 : Int) ^ 10) = (1024 : Int) from rfl] at this
theorem zero56 (W : World) : (zeroValue 158).run Tryz.prog W = .ok (.agg (wc (List.replicate 64 0))) W := by kernel_rfl

set_option maxRecDepth 100000 in
set_option maxHeartbeats 2000000 in
theorem spread256_in (l : List UInt8) (hl : l.length = 64) (w : World) :
    Calls Tryz.prog 111 #[.agg (bc l)] w fun e w' => e = .returned (.agg (wc (sch2 l 64))) ∧ Below w.heap.size w w' := by
  have HL := Hid.mk hl
  clear hl
  have hz := zero56
  have HW := Hid.mk (fun W (h : W.heap[w.heap.size]? = some (.cells (bc l) 123 (0, 0))) => word_in W w.heap.size l HL.out h)
  go_enter Tryz.func111, Tryz.ntmps111
  go_wp2_with fail
  go_loopw [7] (fun i wr => ∃ m : Nat, m ≤ 64 ∧ i = .int .i64 m ∧ wr.heap[w.heap.size]? = some (.cells (bc l) 123 (0, 0)) ∧ wr.heap[w.heap.size + 1]? = some (.cells (wc (List.replicate 64 0)) 158 (0, 0)) ∧ wr.heap[w.heap.size + 2]? = some (.cells (wc (fill (sch2 l m) 64)) 158 (0, 0)) ∧ Below w.heap.size w wr) (fun i _ => 64 - (intOf i).toNat)
  case atStart =>
    refine ⟨0, by omega, rfl, ?_, ?_, ?_, (((Below.refl _ _).alloc (Nat.le_refl _) _).alloc (by simp) _).alloc (by simp; omega) _⟩
    · rw [Below.heap_alloc _ _ _ (by simp; omega), Below.heap_alloc _ _ _ (by simp), heap_new]
    · rw [Below.heap_alloc _ _ _ (by simp)]
      exact (congrArg (fun k => (World.alloc _ _).heap[k]?) (World.size_alloc w _).symm).trans (heap_new _ _)
    · exact (congrArg (fun k => (World.alloc _ _).heap[k]?) (by simp)).trans (heap_new _ _)
  case round =>
    obtain ⟨m, hm, rfl, h1, h2, h3, hbl⟩ := hrel
    have H1 := Hid.mk h1
    have H2 := Hid.mk h2
    have H3 := Hid.mk h3
    by_cases hlt : m < 64
    · have hlen := sch2_len l m
      have HN : Hid (fill (sch2 l (m + 1)) 64 = (fill (sch2 l m) 64).set m (nx2 l (sch2 l m) m)) := by
        have := fill_set (sch2 l m) 64 (by omega) (nx2 l (sch2 l m) m)
        rw [hlen] at this
        rw [Hid, this, sch2]
      obtain ⟨xm, hc, hf⟩ := fill_free h3 (by omega) m hlt
      by_cases h16 : m < 16
      · have hx : nx2 l (sch2 l m) m = wd l m := if_pos h16
        rw [hx] at HN
        clear h1 h2 h3 hx hlen
        go_wp2_with fail
        refine (HW.out _ H1.out m h16).mono ?_
        rintro e w1 ⟨rfl, j, rfl⟩
        have hc1 : (wr.drewN j).cell? ⟨w.heap.size + 2, m, none⟩ = _ := hc
        have hf1 : (wr.drewN j).frozen? ⟨w.heap.size + 2, m, none⟩ = false := hf
        go_wp2
        go_roundw
        case rel =>
          refine ⟨m + 1, by omega, by go_num, ?_, ?_, ?_, ?_⟩
          · rw [Below.heap_setCell _ _ _ _ (by show w.heap.size ≠ w.heap.size + 2; omega)]; exact H1.out
          · rw [Below.heap_setCell _ _ _ _ (by show w.heap.size + 1 ≠ w.heap.size + 2; omega)]; exact H2.out
          · rw [HN.out, ← wc_set]; exact cells_put (W := wr.drewN j) H3.out _
          · exact Below.setCell (hbl.trans ((below_dn wr j).mono hbl.size)) (by show w.heap.size ≤ w.heap.size + 2; omega) _
        case measure => simp [intOf]; omega
      · have c16 := fill_cell h3 (m - 16) (by omega)
        have c15 := fill_cell h3 (m - 15) (by omega)
        have c7 := fill_cell h3 (m - 7) (by omega)
        have c2 := fill_cell h3 (m - 2) (by omega)
        have hx : nx2 l (sch2 l m) m = (sch2 l m)[m - 16]?.getD 0 + sg0 ((sch2 l m)[m - 15]?.getD 0) + (sch2 l m)[m - 7]?.getD 0 + sg1 ((sch2 l m)[m - 2]?.getD 0) := if_neg h16
        rw [hx] at HN
        generalize (sch2 l m)[m - 16]?.getD 0 = x16 at c16 HN
        generalize (sch2 l m)[m - 15]?.getD 0 = x15 at c15 HN
        generalize (sch2 l m)[m - 7]?.getD 0 = x7 at c7 HN
        generalize (sch2 l m)[m - 2]?.getD 0 = x2 at c2 HN
        have n16 : (16 : Int) ≤ (m : Int) := by omega
        have l16 : (0 : Int) ≤ (m : Int) - 16 := by omega
        have u16 : (m : Int) - 16 < 64 := by omega
        have v16 : (m : Int) < 64 + 16 := by omega
        have w16 : IntKind.i64.wrap ((m : Int) - 16) = (m : Int) - 16 := by rw [IntKind.wrap_i64]; omega
        have k16 : ((m : Int) - 16).toNat = m - 16 := by omega
        have n15 : (15 : Int) ≤ (m : Int) := by omega
        have l15 : (0 : Int) ≤ (m : Int) - 15 := by omega
        have u15 : (m : Int) - 15 < 64 := by omega
        have v15 : (m : Int) < 64 + 15 := by omega
        have w15 : IntKind.i64.wrap ((m : Int) - 15) = (m : Int) - 15 := by rw [IntKind.wrap_i64]; omega
        have k15 : ((m : Int) - 15).toNat = m - 15 := by omega
        have n7 : (7 : Int) ≤ (m : Int) := by omega
        have l7 : (0 : Int) ≤ (m : Int) - 7 := by omega
        have u7 : (m : Int) - 7 < 64 := by omega
        have v7 : (m : Int) < 64 + 7 := by omega
        have w7 : IntKind.i64.wrap ((m : Int) - 7) = (m : Int) - 7 := by rw [IntKind.wrap_i64]; omega
        have k7 : ((m : Int) - 7).toNat = m - 7 := by omega
        have n2 : (2 : Int) ≤ (m : Int) := by omega
        have l2 : (0 : Int) ≤ (m : Int) - 2 := by omega
        have u2 : (m : Int) - 2 < 64 := by omega
        have v2 : (m : Int) < 64 + 2 := by omega
        have w2 : IntKind.i64.wrap ((m : Int) - 2) = (m : Int) - 2 := by rw [IntKind.wrap_i64]; omega
        have k2 : ((m : Int) - 2).toNat = m - 2 := by omega
        have um : (m : Int) < 64 := by omega
        have R7 : Hid (∀ W : World, Calls Tryz.prog 112 #[.int .u32 (x15.toNat : Int), .int .i64 7] W fun e w' => e = .returned (.int .u32 ((ror x15 7).toNat : Int)) ∧ ∃ j, w' = W.drewN j) := fun W => right_in x15 7 (by omega) (by omega) W
        have R18 : Hid (∀ W : World, Calls Tryz.prog 112 #[.int .u32 (x15.toNat : Int), .int .i64 18] W fun e w' => e = .returned (.int .u32 ((ror x15 18).toNat : Int)) ∧ ∃ j, w' = W.drewN j) := fun W => right_in x15 18 (by omega) (by omega) W
        have R17 : Hid (∀ W : World, Calls Tryz.prog 112 #[.int .u32 (x2.toNat : Int), .int .i64 17] W fun e w' => e = .returned (.int .u32 ((ror x2 17).toNat : Int)) ∧ ∃ j, w' = W.drewN j) := fun W => right_in x2 17 (by omega) (by omega) W
        have R19 : Hid (∀ W : World, Calls Tryz.prog 112 #[.int .u32 (x2.toNat : Int), .int .i64 19] W fun e w' => e = .returned (.int .u32 ((ror x2 19).toNat : Int)) ∧ ∃ j, w' = W.drewN j) := fun W => right_in x2 19 (by omega) (by omega) W
        have hb0 : bits .xor .u32 (bits .xor .u32 ((ror x15 7).toNat : Int) ((ror x15 18).toNat : Int)) ((x15.toNat : Int) / 8) = ((sg0 x15).toNat : Int) := by rw [shr3, bv_xor, bv_xor]; rfl
        have hb1 : bits .xor .u32 (bits .xor .u32 ((ror x2 17).toNat : Int) ((ror x2 19).toNat : Int)) ((x2.toNat : Int) / 1024) = ((sg1 x2).toNat : Int) := by rw [shr10, bv_xor, bv_xor]; rfl
        generalize sg0 x15 = g0 at hb0 HN
        generalize sg1 x2 = g1 at hb1 HN
        generalize ror x15 7 = r7 at R7 hb0
        generalize ror x15 18 = r18 at R18 hb0
        generalize ror x2 17 = r17 at R17 hb1
        generalize ror x2 19 = r19 at R19 hb1
        have hv : ((x16.toNat : Int) + (g0.toNat : Int) + (x7.toNat : Int) + (g1.toNat : Int)) % 4294967296 = ((x16 + g0 + x7 + g1).toNat : Int) := by
          simp only [BitVec.toNat_add]
          omega
        have HKp : Hid (∀ (W : World) (v : Value), W.cell? ⟨w.heap.size + 2, m - 16, none⟩ = some (.int .u32 (x16.toNat : Int)) → W.cell? ⟨w.heap.size + 2, m - 7, none⟩ = some (.int .u32 (x7.toNat : Int)) → (W.setCell ⟨w.heap.size + 2, m, none⟩ v).cell? ⟨w.heap.size + 2, m - 16, none⟩ = some (.int .u32 (x16.toNat : Int)) ∧ (W.setCell ⟨w.heap.size + 2, m, none⟩ v).cell? ⟨w.heap.size + 2, m - 7, none⟩ = some (.int .u32 (x7.toNat : Int))) := fun W v a1 a2 =>
          ⟨(cell_put_ne W _ _ _ v (by omega)).trans a1, (cell_put_ne W _ _ _ v (by omega)).trans a2⟩
        clear h1 h2 h3 hx hlen
        go_wp2_with fail
        go_quiet (fail)
        go_wp2_with fail
        have d16 : (wr.drewN nq).cell? ⟨w.heap.size + 2, m - 16, none⟩ = _ := c16
        have d7 : (wr.drewN nq).cell? ⟨w.heap.size + 2, m - 7, none⟩ = _ := c7
        have dc : (wr.drewN nq).cell? ⟨w.heap.size + 2, m, none⟩ = _ := hc
        have df : (wr.drewN nq).frozen? ⟨w.heap.size + 2, m, none⟩ = false := hf
        have G1 : Hid ((wr.drewN nq).heap[w.heap.size]? = _) := H1.out
        have G2 : Hid ((wr.drewN nq).heap[w.heap.size + 1]? = _) := H2.out
        have G3 : Hid ((wr.drewN nq).heap[w.heap.size + 2]? = _) := H3.out
        have hbl' : Below w.heap.size w (wr.drewN nq) := hbl.trans ((below_dn wr nq).mono hbl.size)
        clear c16 c15 c7 c2 hc hf H1 H2 H3 hbl
        generalize wr.drewN nq = V at d16 d7 dc df G1 G2 G3 hbl' ⊢
        go_region_held3 (fun w' => w'.cell? ⟨w.heap.size + 2, m - 16, none⟩ = some (.int .u32 (x16.toNat : Int)) ∧ w'.cell? ⟨w.heap.size + 2, m - 7, none⟩ = some (.int .u32 (x7.toNat : Int))) (first | exact HKp.out _ _ (by assumption) (by assumption) | ((repeat' apply And.intro) <;> assumption) | go_keep)
          (first
            | (have hck := M3; clear hck; go_at_call 112; refine (R19.out _).mono ?_; rintro e w5 ⟨rfl, j4, rfl⟩)
            | (have hck := M2; clear hck; go_at_call 112; refine (R17.out _).mono ?_; rintro e w4 ⟨rfl, j3, rfl⟩; have M3 : True := trivial)
            | (have hck := M1; clear hck; go_at_call 112; refine (R18.out _).mono ?_; rintro e w3 ⟨rfl, j2, rfl⟩; have M2 : True := trivial)
            | (go_at_call 112; refine (R7.out _).mono ?_; rintro e w2 ⟨rfl, j1, rfl⟩; have M1 : True := trivial))
        rename_i hHeld
        clear hHeld
        go_wp2
        go_roundw
        case rel =>
          refine ⟨m + 1, by omega, by go_num, ?_, ?_, ?_, ?_⟩
          · rw [Below.heap_setCell _ _ _ _ (by show w.heap.size ≠ w.heap.size + 2; omega)]; exact G1.out
          · rw [Below.heap_setCell _ _ _ _ (by show w.heap.size + 1 ≠ w.heap.size + 2; omega)]; exact G2.out
          · rw [HN.out, ← wc_set]
            refine (cells_put (W := V.drewN _) G3.out _).trans (cells_eq ?_)
            first
              | rfl
              | exact hv
          · exact Below.setCell (hbl'.trans ((below_dn V _).mono hbl'.size)) (by show w.heap.size ≤ w.heap.size + 2; omega) _
        case measure => simp [intOf]; omega
    · obtain rfl : m = 64 := by omega
      rw [fill_all _ _ (sch2_len l 64)] at H3
      clear h1 h2 h3
      go_upto_region 10 with fail
      refine wp_region_lit ?_
      refine wpList_run (v := .agg (wc (sch2 l 64))) rfl (op_load arr56 H3.out (by rw [wc_size, sch2_len]) rfl rfl) ?_
      refine wpList_runS rfl (op_store arr56 H2.out (by rw [wc_size, List.length_replicate]) (by rw [wc_size, sch2_len]) (wc_one _) rfl rfl rfl) ?_
      go_wp2
      refine bodyPost_ret (v := .agg (wc (sch2 l 64))) (results_cell1 arr56 Tryz.results111 rfl (setRow_heap _ _ _ _ _ _ H2.out) (by rw [wc_size, sch2_len])) rfl ⟨rfl, Below.setRow hbl (by omega) _⟩
end Go.Proofs.YtlcjagkfeakinaaGreatDoor.G

/- stir256. -/
namespace Go.Proofs.YtlcjagkfeakinaaGreatDoor.G
set_option linter.unusedVariables false
open Go.RowKit

/-- the words of the rounds lie there. -/
def Rk (W : World) : Prop := ∀ i, i < 64 → W.cell? ⟨0, i, none⟩ = some (.int .u32 ((rk[i]?.getD 0).toNat : Int))
theorem Rk.below {W W' : World} (h : Rk W) (hb : Below W.heap.size W W') : Rk W' := fun i hi => (hb.cell (p := ⟨0, i, none⟩) (cell_block (h i hi))).trans (h i hi)
theorem S8.at (s : S8) {W : World} {b t : Nat} (h : W.heap[b]? = some (.cells (wc s.l) t (0, 0))) :
    W.cell? ⟨b, 0, none⟩ = some (.int .u32 (s.a.toNat : Int)) ∧ W.cell? ⟨b, 1, none⟩ = some (.int .u32 (s.b.toNat : Int)) ∧ W.cell? ⟨b, 2, none⟩ = some (.int .u32 (s.c.toNat : Int)) ∧ W.cell? ⟨b, 3, none⟩ = some (.int .u32 (s.d.toNat : Int)) ∧ W.cell? ⟨b, 4, none⟩ = some (.int .u32 (s.e.toNat : Int)) ∧ W.cell? ⟨b, 5, none⟩ = some (.int .u32 (s.f.toNat : Int)) ∧ W.cell? ⟨b, 6, none⟩ = some (.int .u32 (s.g.toNat : Int)) ∧ W.cell? ⟨b, 7, none⟩ = some (.int .u32 (s.h.toNat : Int)) :=
  ⟨(cells_at h rfl).1, (cells_at h rfl).1, (cells_at h rfl).1, (cells_at h rfl).1, (cells_at h rfl).1, (cells_at h rfl).1, (cells_at h rfl).1, (cells_at h rfl).1⟩
theorem und56 : Tryz.prog.underlying 158 = some (.array 64 40) := by kernel_rfl
theorem alloc43 (W : World) : (Instr.alloc 120 true (.tuple #[])).run Tryz.prog W = .ok (.pointer (some ⟨W.heap.size, 0, none⟩)) (W.alloc (.cells (wc (List.replicate 8 0)) 120)) := by kernel_rfl
theorem op_alloc43 {o : Oper} {a : Act} {W : World} (ho : o.op = .alloc 120) : (execOp a.eval o).run Tryz.prog W = .ok (.value (.pointer (some ⟨W.heap.size, 0, none⟩))) (W.alloc (.cells (wc (List.replicate 8 0)) 120)) := by
  simp only [execOp, ho, Sem.run_bind, alloc43]
  rfl
/-- words added, as far as they have been. -/
def mix (p q : List (BitVec 32)) (i : Nat) : List (BitVec 32) := (List.zipWith (· + ·) p q).take i ++ p.drop i
theorem mix_len (p q : List (BitVec 32)) (hp : p.length = 8) (hq : q.length = 8) (i : Nat) (hi : i ≤ 8) : (mix p q i).length = 8 := by
  rw [mix, List.length_append, List.length_take, List.length_zipWith, List.length_drop]; omega
theorem mix_set (p q : List (BitVec 32)) (hp : p.length = 8) (hq : q.length = 8) (i : Nat) (hi : i < 8) : (mix p q i).set i (p[i]?.getD 0 + q[i]?.getD 0) = mix p q (i + 1) := by
  apply List.ext_getElem?
  intro k
  unfold mix
  simp only [List.getElem?_set, List.getElem?_append, List.length_take, List.length_append, List.length_zipWith, List.length_drop, hp, hq]
  by_cases h1 : i = k
  · subst h1
    rw [if_pos rfl, if_pos (by omega), if_pos (by omega), List.getElem?_take_of_lt (by omega), List.getElem?_zipWith, List.getElem?_eq_getElem (by omega : i < p.length), List.getElem?_eq_getElem (by omega : i < q.length)]
    rfl
  · rw [if_neg h1]
    by_cases h2 : k < i
    · rw [if_pos (by omega), if_pos (by omega), List.getElem?_take_of_lt (by omega), List.getElem?_take_of_lt (by omega)]
    · rw [if_neg (by omega), if_neg (by omega), List.getElem?_drop, List.getElem?_drop]
      congr 1
      omega
theorem mix_at (p q : List (BitVec 32)) (hp : p.length = 8) (hq : q.length = 8) (i : Nat) (hi : i < 8) : (mix p q i)[i]? = some (p[i]?.getD 0) := by
  unfold mix
  rw [List.getElem?_append_right (by simp [hp, hq]; omega), List.getElem?_drop, List.length_take, List.length_zipWith, hp, hq, show i + (i - min i (min 8 8)) = i by omega, List.getElem?_eq_getElem (by omega : i < p.length)]
  rfl
theorem mix_free {W : World} {b t : Nat} {p q : List (BitVec 32)} (hp : p.length = 8) (hq : q.length = 8) {i : Nat} (hi : i < 8) (h : W.heap[b]? = some (.cells (wc (mix p q i)) t (0, 0))) : W.cell? ⟨b, i, none⟩ = some (.int .u32 ((p[i]?.getD 0).toNat : Int)) ∧ W.frozen? ⟨b, i, none⟩ = false :=
  cells_at h (by rw [wc_at, mix_at p q hp hq i hi]; rfl)

theorem put8 {W : World} {b t : Nat} {cs : Array Value} (h : W.heap[b]? = some (.cells cs t (0, 0))) (hs : cs.size = 8) {x0 x1 x2 x3 x4 x5 x6 x7 : Int} :
    ((((((((W.setCell ⟨b, 0, none⟩ (.int .u32 x0)).setCell ⟨b, 1, none⟩ (.int .u32 x1)).setCell ⟨b, 2, none⟩ (.int .u32 x2)).setCell ⟨b, 3, none⟩ (.int .u32 x3)).setCell ⟨b, 4, none⟩ (.int .u32 x4)).setCell ⟨b, 5, none⟩ (.int .u32 x5)).setCell ⟨b, 6, none⟩ (.int .u32 x6)).setCell ⟨b, 7, none⟩ (.int .u32 x7)).heap[b]? = some (.cells #[.int .u32 x0, .int .u32 x1, .int .u32 x2, .int .u32 x3, .int .u32 x4, .int .u32 x5, .int .u32 x6, .int .u32 x7] t (0, 0)) := by
  rw [cells_put (cells_put (cells_put (cells_put (cells_put (cells_put (cells_put (cells_put h _) _) _) _) _) _) _) _]
  match cs, hs with
  | ⟨[a0, a1, a2, a3, a4, a5, a6, a7]⟩, _ => simp
theorem put8_other {W : World} {b : Nat} (c : Nat) (h : c ≠ b) {x0 x1 x2 x3 x4 x5 x6 x7 : Int} : ((((((((W.setCell ⟨b, 0, none⟩ (.int .u32 x0)).setCell ⟨b, 1, none⟩ (.int .u32 x1)).setCell ⟨b, 2, none⟩ (.int .u32 x2)).setCell ⟨b, 3, none⟩ (.int .u32 x3)).setCell ⟨b, 4, none⟩ (.int .u32 x4)).setCell ⟨b, 5, none⟩ (.int .u32 x5)).setCell ⟨b, 6, none⟩ (.int .u32 x6)).setCell ⟨b, 7, none⟩ (.int .u32 x7)).heap[c]? = W.heap[c]? := by
  rw [Below.heap_setCell _ _ _ _ h, Below.heap_setCell _ _ _ _ h, Below.heap_setCell _ _ _ _ h, Below.heap_setCell _ _ _ _ h, Below.heap_setCell _ _ _ _ h, Below.heap_setCell _ _ _ _ h, Below.heap_setCell _ _ _ _ h, Below.heap_setCell _ _ _ _ h]
theorem put8_below {w W : World} {b : Nat} (h : Below w.heap.size w W) (hb : w.heap.size ≤ b) {x0 x1 x2 x3 x4 x5 x6 x7 : Int} : Below w.heap.size w ((((((((W.setCell ⟨b, 0, none⟩ (.int .u32 x0)).setCell ⟨b, 1, none⟩ (.int .u32 x1)).setCell ⟨b, 2, none⟩ (.int .u32 x2)).setCell ⟨b, 3, none⟩ (.int .u32 x3)).setCell ⟨b, 4, none⟩ (.int .u32 x4)).setCell ⟨b, 5, none⟩ (.int .u32 x5)).setCell ⟨b, 6, none⟩ (.int .u32 x6)).setCell ⟨b, 7, none⟩ (.int .u32 x7)) :=
  (((((((h.setCell hb _).setCell hb _).setCell hb _).setCell hb _).setCell hb _).setCell hb _).setCell hb _).setCell hb _
theorem arr8_eq {a b c d e f g h : BitVec 32} {t : TypeId} {fz : Nat × Nat} {x y : Int} (hx : x = (a.toNat : Int)) (hy : y = (e.toNat : Int)) :
    some (Obj.cells #[.int .u32 x, .int .u32 (b.toNat : Int), .int .u32 (c.toNat : Int), .int .u32 (d.toNat : Int), .int .u32 y, .int .u32 (f.toNat : Int), .int .u32 (g.toNat : Int), .int .u32 (h.toNat : Int)] t fz) = some (Obj.cells (wc (S8.mk a b c d e f g h).l) t fz) := by
  subst hx hy
  rfl

set_option maxRecDepth 100000 in
set_option maxHeartbeats 4000000 in
theorem stir2_gen (s : S8) (l : List UInt8) (hl : l.length = 64) (ws : List (BitVec 32)) (hwl : ws.length = 64) (R : Nat → S8) (hR0 : R 0 = s) (hRs : ∀ m, R (m + 1) = st2 (rk[m]?.getD 0) (ws[m]?.getD 0) (R m))
    (hsp : ∀ w : World, Calls Tryz.prog 111 #[.agg (bc l)] w fun e w' => e = .returned (.agg (wc ws)) ∧ Below w.heap.size w w') (w : World) (hG : Rk w) :
    Calls Tryz.prog 79 #[.agg (wc s.l), .agg (bc l)] w fun x w' => x = .returned (.agg (wc (mix s.l (R 64).l 8))) ∧ Below w.heap.size w w' := by
  have HL := Hid.mk hl
  have HWL := Hid.mk hwl
  have HR0 := Hid.mk hR0
  have HRs := Hid.mk hRs
  have HSP := Hid.mk hsp
  have HG := Hid.mk hG
  clear hl hwl hR0 hRs hsp hG
  go_enter Tryz.func79, Tryz.ntmps79
  go_upto_region 1 with fail
  obtain ⟨h0, h1, h2, hb⟩ := three_new w (wc s.l) (bc l) #[.int .u32 0, .int .u32 0, .int .u32 0, .int .u32 0, .int .u32 0, .int .u32 0, .int .u32 0, .int .u32 0] 120 123 120
  generalize (((w.alloc (.cells (wc s.l) 120)).alloc (.cells (bc l) 123)).alloc (.cells #[.int .u32 0, .int .u32 0, .int .u32 0, .int .u32 0, .int .u32 0, .int .u32 0, .int .u32 0, .int .u32 0] 120)) = W1 at h0 h1 h2 hb ⊢
  have H0 := Hid.mk h0
  have H1 := Hid.mk h1
  have H2 := Hid.mk h2
  have hvb : w.heap.size + 2 < W1.heap.size := box_lt h2
  clear h0 h1 h2
  refine wp_region_lit ?_
  refine wpList_run (W' := W1) (v := .agg (wc s.l)) rfl (op_load arr43 H0.out (by rfl) rfl rfl) ?_
  refine wpList_run rfl (op_alloc43 rfl) ?_
  refine wpList_runS rfl (op_store arr43 (heap_new W1 _) (by rfl) (by rfl) (wc_one _) rfl rfl rfl) ?_
  have G0 : Hid (((W1.alloc (.cells (wc (List.replicate 8 0)) 120)).setRow W1.heap.size (wc s.l)).heap[w.heap.size]? = _) := ((setRow_other _ _ _ _ (by omega)).trans (Below.heap_alloc _ _ _ (by omega))).trans H0.out
  have G1 : Hid (((W1.alloc (.cells (wc (List.replicate 8 0)) 120)).setRow W1.heap.size (wc s.l)).heap[w.heap.size + 1]? = _) := ((setRow_other _ _ _ _ (by omega)).trans (Below.heap_alloc _ _ _ (by omega))).trans H1.out
  have G2 : Hid (((W1.alloc (.cells (wc (List.replicate 8 0)) 120)).setRow W1.heap.size (wc s.l)).heap[w.heap.size + 2]? = _) := ((setRow_other _ _ _ _ (by omega)).trans (Below.heap_alloc _ _ _ (by omega))).trans H2.out
  have G3 : Hid (((W1.alloc (.cells (wc (List.replicate 8 0)) 120)).setRow W1.heap.size (wc s.l)).heap[W1.heap.size]? = _) := setRow_heap _ _ _ _ _ _ (heap_new W1 _)
  have hB : Below w.heap.size w ((W1.alloc (.cells (wc (List.replicate 8 0)) 120)).setRow W1.heap.size (wc s.l)) := Below.setRow (hb.alloc hb.size _) hb.size _
  generalize ((W1.alloc (.cells (wc (List.replicate 8 0)) 120)).setRow W1.heap.size (wc s.l)) = W2 at G0 G1 G2 G3 hB ⊢
  generalize W1.heap.size = vb at hvb G3 ⊢
  clear H0 H1 H2 hb W1
  go_upto_region 2 with fail
  refine wp_region_lit ?_
  refine wpList_run (W' := W2) (v := .agg (bc l)) rfl (op_load arr37 G1.out (by rw [bc_size]; exact HL.out) rfl rfl) ?_
  go_wp2_with fail
  refine (HSP.out _).mono ?_
  rintro e W3 ⟨rfl, hb3⟩
  have J0 : Hid (W3.heap[w.heap.size]? = _) := (hb3.block _ (box_lt G0.out)).trans G0.out
  have J2 : Hid (W3.heap[w.heap.size + 2]? = _) := (hb3.block _ (box_lt G2.out)).trans G2.out
  have J3 : Hid (W3.heap[vb]? = _) := (hb3.block _ (box_lt G3.out)).trans G3.out
  have hB3 : Below w.heap.size w W3 := bthen hB hb3
  clear G0 G1 G2 G3 hB hb3 W2 HL HSP
  go_wp2_with fail
  go_loopw [16] (fun i wr => ∃ m : Nat, m ≤ 64 ∧ i = .int .i64 m ∧ wr.heap[vb]? = some (.cells (wc (R m).l) 120 (0, 0)) ∧ wr.heap[w.heap.size]? = some (.cells (wc s.l) 120 (0, 0)) ∧ (∃ z, z.size = 8 ∧ wr.heap[w.heap.size + 2]? = some (.cells z 120 (0, 0))) ∧ Below w.heap.size w wr) (fun i _ => 64 - (intOf i).toNat)
  case atStart => exact ⟨0, by omega, rfl, by rw [HR0.out]; exact J3.out, J0.out, ⟨_, rfl, J2.out⟩, hB3⟩
  case round =>
    obtain ⟨m, hm, rfl, h3, h0, ⟨z, hz, h2⟩, hbl⟩ := hrel
    have H3 := Hid.mk h3
    have H0 := Hid.mk h0
    have H2 := Hid.mk h2
    have HZ := Hid.mk hz
    by_cases hlt : m < 64
    · have hix := index_words und56 ws HWL.out m hlt
      have hrk := (HG.out.below hbl) m hlt
      have HN : Hid (R (m + 1) = st2 (rk[m]?.getD 0) (ws[m]?.getD 0) (R m)) := HRs.out m
      generalize ws[m]?.getD 0 = x at hix HN
      generalize rk[m]?.getD 0 = k at hrk HN
      obtain ⟨d0, d1, d2, d3, d4, d5, d6, d7⟩ := (R m).at h3
      have R6 : Hid (∀ W : World, Calls Tryz.prog 112 #[.int .u32 ((R m).e.toNat : Int), .int .i64 6] W fun e w' => e = .returned (.int .u32 ((ror (R m).e 6).toNat : Int)) ∧ ∃ j, w' = W.drewN j) := fun W => right_in (R m).e 6 (by omega) (by omega) W
      have R11 : Hid (∀ W : World, Calls Tryz.prog 112 #[.int .u32 ((R m).e.toNat : Int), .int .i64 11] W fun e w' => e = .returned (.int .u32 ((ror (R m).e 11).toNat : Int)) ∧ ∃ j, w' = W.drewN j) := fun W => right_in (R m).e 11 (by omega) (by omega) W
      have R25 : Hid (∀ W : World, Calls Tryz.prog 112 #[.int .u32 ((R m).e.toNat : Int), .int .i64 25] W fun e w' => e = .returned (.int .u32 ((ror (R m).e 25).toNat : Int)) ∧ ∃ j, w' = W.drewN j) := fun W => right_in (R m).e 25 (by omega) (by omega) W
      have R2 : Hid (∀ W : World, Calls Tryz.prog 112 #[.int .u32 ((R m).a.toNat : Int), .int .i64 2] W fun e w' => e = .returned (.int .u32 ((ror (R m).a 2).toNat : Int)) ∧ ∃ j, w' = W.drewN j) := fun W => right_in (R m).a 2 (by omega) (by omega) W
      have R13 : Hid (∀ W : World, Calls Tryz.prog 112 #[.int .u32 ((R m).a.toNat : Int), .int .i64 13] W fun e w' => e = .returned (.int .u32 ((ror (R m).a 13).toNat : Int)) ∧ ∃ j, w' = W.drewN j) := fun W => right_in (R m).a 13 (by omega) (by omega) W
      have R22 : Hid (∀ W : World, Calls Tryz.prog 112 #[.int .u32 ((R m).a.toNat : Int), .int .i64 22] W fun e w' => e = .returned (.int .u32 ((ror (R m).a 22).toNat : Int)) ∧ ∃ j, w' = W.drewN j) := fun W => right_in (R m).a 22 (by omega) (by omega) W
      have RC : Hid (∀ W : World, Calls Tryz.prog 113 #[.int .u32 ((R m).e.toNat : Int), .int .u32 ((R m).f.toNat : Int), .int .u32 ((R m).g.toNat : Int)] W fun e w' => e = .returned (.int .u32 ((cho (R m).e (R m).f (R m).g).toNat : Int)) ∧ w' = W) := fun W => choice_in _ _ _ W
      have RM : Hid (∀ W : World, Calls Tryz.prog 114 #[.int .u32 ((R m).a.toNat : Int), .int .u32 ((R m).b.toNat : Int), .int .u32 ((R m).c.toNat : Int)] W fun e w' => e = .returned (.int .u32 ((maj (R m).a (R m).b (R m).c).toNat : Int)) ∧ w' = W) := fun W => majority_in _ _ _ W
      have hq1 : bits .xor .u32 (bits .xor .u32 ((ror (R m).e 6).toNat : Int) ((ror (R m).e 11).toNat : Int)) ((ror (R m).e 25).toNat : Int) = ((ror (R m).e 6 ^^^ ror (R m).e 11 ^^^ ror (R m).e 25).toNat : Int) := by rw [bv_xor, bv_xor]
      have hq2 : bits .xor .u32 (bits .xor .u32 ((ror (R m).a 2).toNat : Int) ((ror (R m).a 13).toNat : Int)) ((ror (R m).a 22).toNat : Int) = ((ror (R m).a 2 ^^^ ror (R m).a 13 ^^^ ror (R m).a 22).toNat : Int) := by rw [bv_xor, bv_xor]
      have HN2 : Hid (R (m + 1) = ⟨(R m).h + (ror (R m).e 6 ^^^ ror (R m).e 11 ^^^ ror (R m).e 25) + cho (R m).e (R m).f (R m).g + k + x + ((ror (R m).a 2 ^^^ ror (R m).a 13 ^^^ ror (R m).a 22) + maj (R m).a (R m).b (R m).c), (R m).a, (R m).b, (R m).c, (R m).d + ((R m).h + (ror (R m).e 6 ^^^ ror (R m).e 11 ^^^ ror (R m).e 25) + cho (R m).e (R m).f (R m).g + k + x), (R m).e, (R m).f, (R m).g⟩) := HN.out
      clear HN
      generalize ror (R m).e 6 ^^^ ror (R m).e 11 ^^^ ror (R m).e 25 = q1 at hq1 HN2
      generalize ror (R m).a 2 ^^^ ror (R m).a 13 ^^^ ror (R m).a 22 = q2 at hq2 HN2
      generalize cho (R m).e (R m).f (R m).g = ch at RC HN2
      generalize maj (R m).a (R m).b (R m).c = mj at RM HN2
      generalize ror (R m).e 6 = r6 at R6 hq1
      generalize ror (R m).e 11 = r11 at R11 hq1
      generalize ror (R m).e 25 = r25 at R25 hq1
      generalize ror (R m).a 2 = r2 at R2 hq2
      generalize ror (R m).a 13 = r13 at R13 hq2
      generalize ror (R m).a 22 = r22 at R22 hq2
      generalize (R m).a = ya at d0 R2 R13 R22 RM HN2
      generalize (R m).b = yb at d1 RM HN2
      generalize (R m).c = yc at d2 RM HN2
      generalize (R m).d = yd at d3 HN2
      generalize (R m).e = ye at d4 R6 R11 R25 RC HN2
      generalize (R m).f = yf at d5 RC HN2
      generalize (R m).g = yg at d6 RC HN2
      generalize (R m).h = yh at d7 HN2
      have ht : ((yh.toNat : Int) + (q1.toNat : Int) + (ch.toNat : Int) + (k.toNat : Int) + (x.toNat : Int)) % 4294967296 = ((yh + q1 + ch + k + x).toNat : Int) := add5w yh q1 ch k x
      have hu := bm_add q2 mj
      have htu := bm_add (yh + q1 + ch + k + x) (q2 + mj)
      have hdt := bm_add yd (yh + q1 + ch + k + x)
      have ht2 := ht
      have hu2 := hu
      have htu2 := htu
      have hdt2 := hdt
      generalize yh + q1 + ch + k + x = t at ht htu hdt ht2 htu2 hdt2 HN2
      generalize q2 + mj = u at hu htu hu2 htu2 HN2
      generalize t + u = tu at htu htu2 HN2
      generalize yd + t = dt at hdt hdt2 HN2
      have um : (m : Int) < 64 := by omega
      clear h3 h0 h2 hz
      go_wp2_with fail
      go_quiet (fail)
      have x10 : (wr.drewN nq).cell? ⟨vb, 0, none⟩ = some (.int .u32 (ya.toNat : Int)) := d0
      have x11 : (wr.drewN nq).cell? ⟨vb, 1, none⟩ = some (.int .u32 (yb.toNat : Int)) := d1
      have x12 : (wr.drewN nq).cell? ⟨vb, 2, none⟩ = some (.int .u32 (yc.toNat : Int)) := d2
      have x13 : (wr.drewN nq).cell? ⟨vb, 3, none⟩ = some (.int .u32 (yd.toNat : Int)) := d3
      have x14 : (wr.drewN nq).cell? ⟨vb, 4, none⟩ = some (.int .u32 (ye.toNat : Int)) := d4
      have x15 : (wr.drewN nq).cell? ⟨vb, 5, none⟩ = some (.int .u32 (yf.toNat : Int)) := d5
      have x16 : (wr.drewN nq).cell? ⟨vb, 6, none⟩ = some (.int .u32 (yg.toNat : Int)) := d6
      have x17 : (wr.drewN nq).cell? ⟨vb, 7, none⟩ = some (.int .u32 (yh.toNat : Int)) := d7
      have x1r : (wr.drewN nq).cell? ⟨0, m, none⟩ = some (.int .u32 (k.toNat : Int)) := hrk
      have H3_1 : Hid ((wr.drewN nq).heap[vb]? = _) := H3.out
      have H0_1 : Hid ((wr.drewN nq).heap[w.heap.size]? = _) := H0.out
      have H2_1 : Hid ((wr.drewN nq).heap[w.heap.size + 2]? = _) := H2.out
      have hbl_1 : Below w.heap.size w (wr.drewN nq) := hbl.trans ((below_dn wr nq).mono hbl.size)
      clear d0 d1 d2 d3 d4 d5 d6 d7 hrk H3 H0 H2 hbl
      generalize wr.drewN nq = V1 at x10 x11 x12 x13 x14 x15 x16 x17 x1r H3_1 H0_1 H2_1 hbl_1 ⊢
      go_wp2_with fail
      go_quiet (first
        | (go_at_call 113; exact (RC.out _).mono fun _ _ hh => ⟨hh.1, _, hh.2⟩)
        | (go_at_call 112; with_reducible refine (R6.out _).mono ?_; exact fun _ _ hh => ⟨hh.1, hh.2.elim fun j hj => ⟨_, hj.trans (drew_add _ _ _)⟩⟩)
        | (go_at_call 112; with_reducible refine (R11.out _).mono ?_; exact fun _ _ hh => ⟨hh.1, hh.2.elim fun j hj => ⟨_, hj.trans (drew_add _ _ _)⟩⟩)
        | (go_at_call 112; with_reducible refine (R25.out _).mono ?_; exact fun _ _ hh => ⟨hh.1, hh.2.elim fun j hj => ⟨_, hj.trans (drew_add _ _ _)⟩⟩))
      have x20 : (V1.drewN nq).cell? ⟨vb, 0, none⟩ = some (.int .u32 (ya.toNat : Int)) := x10
      have x21 : (V1.drewN nq).cell? ⟨vb, 1, none⟩ = some (.int .u32 (yb.toNat : Int)) := x11
      have x22 : (V1.drewN nq).cell? ⟨vb, 2, none⟩ = some (.int .u32 (yc.toNat : Int)) := x12
      have x23 : (V1.drewN nq).cell? ⟨vb, 3, none⟩ = some (.int .u32 (yd.toNat : Int)) := x13
      have x24 : (V1.drewN nq).cell? ⟨vb, 4, none⟩ = some (.int .u32 (ye.toNat : Int)) := x14
      have x25 : (V1.drewN nq).cell? ⟨vb, 5, none⟩ = some (.int .u32 (yf.toNat : Int)) := x15
      have x26 : (V1.drewN nq).cell? ⟨vb, 6, none⟩ = some (.int .u32 (yg.toNat : Int)) := x16
      have x27 : (V1.drewN nq).cell? ⟨vb, 7, none⟩ = some (.int .u32 (yh.toNat : Int)) := x17
      have x2r : (V1.drewN nq).cell? ⟨0, m, none⟩ = some (.int .u32 (k.toNat : Int)) := x1r
      have H3_2 : Hid ((V1.drewN nq).heap[vb]? = _) := H3_1.out
      have H0_2 : Hid ((V1.drewN nq).heap[w.heap.size]? = _) := H0_1.out
      have H2_2 : Hid ((V1.drewN nq).heap[w.heap.size + 2]? = _) := H2_1.out
      have hbl_2 : Below w.heap.size w (V1.drewN nq) := hbl_1.trans ((below_dn V1 nq).mono hbl_1.size)
      clear x10 x11 x12 x13 x14 x15 x16 x17 x1r H3_1 H0_1 H2_1 hbl_1
      generalize V1.drewN nq = V2 at x20 x21 x22 x23 x24 x25 x26 x27 x2r H3_2 H0_2 H2_2 hbl_2 ⊢
      go_wp2_with fail
      go_quiet (first
        | (go_at_call 114; exact (RM.out _).mono fun _ _ hh => ⟨hh.1, _, hh.2⟩)
        | (go_at_call 112; with_reducible refine (R2.out _).mono ?_; exact fun _ _ hh => ⟨hh.1, hh.2.elim fun j hj => ⟨_, hj.trans (drew_add _ _ _)⟩⟩)
        | (go_at_call 112; with_reducible refine (R13.out _).mono ?_; exact fun _ _ hh => ⟨hh.1, hh.2.elim fun j hj => ⟨_, hj.trans (drew_add _ _ _)⟩⟩)
        | (go_at_call 112; with_reducible refine (R22.out _).mono ?_; exact fun _ _ hh => ⟨hh.1, hh.2.elim fun j hj => ⟨_, hj.trans (drew_add _ _ _)⟩⟩))
      have x30 : (V2.drewN nq).cell? ⟨vb, 0, none⟩ = some (.int .u32 (ya.toNat : Int)) := x20
      have x31 : (V2.drewN nq).cell? ⟨vb, 1, none⟩ = some (.int .u32 (yb.toNat : Int)) := x21
      have x32 : (V2.drewN nq).cell? ⟨vb, 2, none⟩ = some (.int .u32 (yc.toNat : Int)) := x22
      have x33 : (V2.drewN nq).cell? ⟨vb, 3, none⟩ = some (.int .u32 (yd.toNat : Int)) := x23
      have x34 : (V2.drewN nq).cell? ⟨vb, 4, none⟩ = some (.int .u32 (ye.toNat : Int)) := x24
      have x35 : (V2.drewN nq).cell? ⟨vb, 5, none⟩ = some (.int .u32 (yf.toNat : Int)) := x25
      have x36 : (V2.drewN nq).cell? ⟨vb, 6, none⟩ = some (.int .u32 (yg.toNat : Int)) := x26
      have x37 : (V2.drewN nq).cell? ⟨vb, 7, none⟩ = some (.int .u32 (yh.toNat : Int)) := x27
      have x3r : (V2.drewN nq).cell? ⟨0, m, none⟩ = some (.int .u32 (k.toNat : Int)) := x2r
      have H3_3 : Hid ((V2.drewN nq).heap[vb]? = _) := H3_2.out
      have H0_3 : Hid ((V2.drewN nq).heap[w.heap.size]? = _) := H0_2.out
      have H2_3 : Hid ((V2.drewN nq).heap[w.heap.size + 2]? = _) := H2_2.out
      have hbl_3 : Below w.heap.size w (V2.drewN nq) := hbl_2.trans ((below_dn V2 nq).mono hbl_2.size)
      clear x20 x21 x22 x23 x24 x25 x26 x27 x2r H3_2 H0_2 H2_2 hbl_2
      generalize V2.drewN nq = V3 at x30 x31 x32 x33 x34 x35 x36 x37 x3r H3_3 H0_3 H2_3 hbl_3 ⊢
      have z0 : V3.frozen? ⟨vb, 0, none⟩ = false := (cells_at H3_3.out (j := 0) rfl).2
      have z1 : V3.frozen? ⟨vb, 1, none⟩ = false := (cells_at H3_3.out (j := 1) rfl).2
      have z2 : V3.frozen? ⟨vb, 2, none⟩ = false := (cells_at H3_3.out (j := 2) rfl).2
      have z3 : V3.frozen? ⟨vb, 3, none⟩ = false := (cells_at H3_3.out (j := 3) rfl).2
      have z4 : V3.frozen? ⟨vb, 4, none⟩ = false := (cells_at H3_3.out (j := 4) rfl).2
      have z5 : V3.frozen? ⟨vb, 5, none⟩ = false := (cells_at H3_3.out (j := 5) rfl).2
      have z6 : V3.frozen? ⟨vb, 6, none⟩ = false := (cells_at H3_3.out (j := 6) rfl).2
      have z7 : V3.frozen? ⟨vb, 7, none⟩ = false := (cells_at H3_3.out (j := 7) rfl).2
      clear ht hu htu hdt
      have HT2 := Hid.mk (And.intro ht2 (And.intro hu2 (And.intro htu2 hdt2)))
      clear ht2 hu2 htu2 hdt2
      go_wp2
      go_roundw
      case rel =>
        obtain ⟨ht2, hu2, htu2, hdt2⟩ := HT2.out
        refine ⟨m + 1, by omega, by go_num, ?_, ?_, ⟨z, HZ.out, ?_⟩, ?_⟩
        · refine (put8 H3_3.out rfl).trans ?_
          rw [HN2.out]
          exact arr8_eq (by omega) (by omega)
        · exact (put8_other _ (by omega)).trans H0_3.out
        · exact (put8_other _ (by omega)).trans H2_3.out
        · exact put8_below hbl_3 (by omega)
      case measure => simp [intOf]; omega
    · obtain rfl : m = 64 := by omega
      clear h3 h0 h2 hz
      obtain ⟨r, hr⟩ : ∃ r, r = (R 64).l := ⟨_, rfl⟩
      have hrl : r.length = 8 := by rw [hr]; rfl
      have hsl : s.l.length = 8 := rfl
      have HRL := Hid.mk hrl
      have HSL := Hid.mk hsl
      have K3 : Hid (wr.heap[vb]? = some (.cells (wc r) 120 (0, 0))) := by rw [hr]; exact H3.out
      have HRR := Hid.mk hr
      clear hr hrl hsl H3 HRs HR0 HWL
      go_wp2_with fail
      go_loopw [82] (fun i w2 => ∃ n : Nat, n ≤ 8 ∧ i = .int .i64 n ∧ w2.heap[vb]? = some (.cells (wc r) 120 (0, 0)) ∧ w2.heap[w.heap.size]? = some (.cells (wc (mix s.l r n)) 120 (0, 0)) ∧ w2.heap[w.heap.size + 2]? = some (.cells z 120 (0, 0)) ∧ Below w.heap.size w w2) (fun i _ => 8 - (intOf i).toNat)
      case atStart => exact ⟨0, by omega, rfl, K3.out, H0.out, H2.out, hbl⟩
      case round =>
        obtain ⟨n, hn, rfl, g3, g0, g2, hbl2⟩ := hrel
        have G3 := Hid.mk g3
        have G0 := Hid.mk g0
        have G2 := Hid.mk g2
        by_cases hlt2 : n < 8
        · obtain ⟨c1, f1'⟩ := mix_free HSL.out HRL.out hlt2 g0
          have c2 : wr.cell? ⟨vb, n, none⟩ = some (.int .u32 ((r[n]?.getD 0).toNat : Int)) := (cells_at g3 (by rw [wc_at, List.getElem?_eq_getElem (by have := HRL.out; omega)]; rfl)).1
          have HM := Hid.mk (mix_set s.l r HSL.out HRL.out n hlt2)
          generalize s.l[n]?.getD 0 = x at c1 HM
          generalize r[n]?.getD 0 = y at c2 HM
          have hxy := bm_add x y
          have i0 : (0 : Int) ≤ (n : Int) := by omega
          have i8 : (n : Int) < 8 := by omega
          clear g3 g0 g2
          go_wp2_with fail
          go_region
          all_goals (
            have hrelN : ∃ n1 : Nat, n1 ≤ 8 ∧ Value.int .i64 ((n : Int) + 1) = .int .i64 n1 ∧ (wr.setCell ⟨w.heap.size, n, none⟩ (.int .u32 (((x.toNat : Int) + (y.toNat : Int)) % 4294967296))).drew.heap[vb]? = some (.cells (wc r) 120 (0, 0)) ∧ (wr.setCell ⟨w.heap.size, n, none⟩ (.int .u32 (((x.toNat : Int) + (y.toNat : Int)) % 4294967296))).drew.heap[w.heap.size]? = some (.cells (wc (mix s.l r n1)) 120 (0, 0)) ∧ (wr.setCell ⟨w.heap.size, n, none⟩ (.int .u32 (((x.toNat : Int) + (y.toNat : Int)) % 4294967296))).drew.heap[w.heap.size + 2]? = some (.cells z 120 (0, 0)) ∧ Below w.heap.size w (wr.setCell ⟨w.heap.size, n, none⟩ (.int .u32 (((x.toNat : Int) + (y.toNat : Int)) % 4294967296))).drew := by
              rw [hxy]
              refine ⟨n + 1, by omega, by go_num, ?_, ?_, ?_, (Below.setCell hbl2 (Nat.le_refl _) _).drew⟩
              · exact (Below.heap_setCell wr ⟨w.heap.size, n, none⟩ _ vb (by show vb ≠ w.heap.size; omega)).trans G3.out
              · refine (cells_put (j := n) G0.out (.int .u32 ((x + y).toNat : Int))).trans ?_
                rw [wc_set, HM.out]
              · exact (Below.heap_setCell wr ⟨w.heap.size, n, none⟩ _ (w.heap.size + 2) (by show w.heap.size + 2 ≠ w.heap.size; omega)).trans G2.out
            clear hxy
            go_wp2
            go_roundw
            case rel =>
              (repeat apply Exists.intro)
              exact ⟨hrelN, rfl⟩
            case measure => simp [intOf]; omega)
        · obtain rfl : n = 8 := by omega
          rw [HRR.out] at G0
          clear g3 g0 g2
          have hml := mix_len s.l (R 64).l HSL.out (by rfl) 8 (by omega)
          go_upto_region 15 with fail
          refine wp_region_lit ?_
          refine wpList_run (W' := wr) (v := .agg (wc (mix s.l (R 64).l 8))) rfl (op_load arr43 G0.out (by rw [wc_size]; exact hml) rfl rfl) ?_
          refine wpList_runS rfl (op_store arr43 G2.out HZ.out (by rw [wc_size]; exact hml) (wc_one _) rfl rfl rfl) ?_
          go_wp2
          refine bodyPost_ret (v := .agg (wc (mix s.l (R 64).l 8))) (results_cell1 arr43 Tryz.results79 rfl (setRow_heap _ _ _ _ _ _ G2.out) (by rw [wc_size]; exact hml)) rfl ⟨rfl, Below.setRow hbl2 (by omega) _⟩
theorem stir2_in (s : S8) (l : List UInt8) (hl : l.length = 64) (w : World) (hG : Rk w) :
    Calls Tryz.prog 79 #[.agg (wc s.l), .agg (bc l)] w fun x w' => x = .returned (.agg (wc (stir2 s l).l)) ∧ Below w.heap.size w w' :=
  stir2_gen s l hl (sch2 l 64) (sch2_len l 64) (fun m => rn2 (sch2 l 64) m s) rfl (fun m => rfl) (spread256_in l hl) w hG
end Go.Proofs.YtlcjagkfeakinaaGreatDoor.G

/- What the row lists lies there: the words of the rounds of SHA-256; a world for the witnesses. -/
namespace Go.Proofs.YtlcjagkfeakinaaGreatDoor.G
set_option linter.unusedVariables false
open Go.RowKit

theorem laid_at {P : Program} {w : World} {n : String} {d : DataW Unit} : ∀ {l : List (String × DataW Unit)} {ps : List MemPlace}, DataW.LaidVars P w l ps → (n, d) ∈ l →
    ∃ g t cs fuel p, P.globalNamed n = some g ∧ (P.globals[g]?).map (·.type) = some t ∧ w.var? P n = some cs ∧ DataW.trod (fun _ => ()) P w 0 (fun _ => true) false fuel t cs.toList = some (d, p)
  | [], _, _, h => by cases h
  | (n', d') :: r, ps, ⟨g, t, cs, fuel, p, q, h1, h2, h3, h4, h5, _⟩, h => by
    rcases List.mem_cons.1 h with e | h
    · cases e
      exact ⟨g, t, cs, fuel, p, h1, h2, h3, h4⟩
    · exact laid_at h5 h
def rkI : List Int := rk.map fun x => (x.toNat : Int)
theorem rk_of {W : World} {l : List (String × DataW Unit)} (h : laidMet Tryz.prog l W) (hs : W.ShapedOpen Tryz.prog) (hm : ("guidepost/digest.rounds256", (Rows.laid_guidepost_digest_rounds256 : DataW Unit)) ∈ l) : Rk W := by
  obtain ⟨ps, hv0, _⟩ := h
  obtain ⟨g, t, cs, fuel, p, hg, ht, hv, hd⟩ := laid_at hv0 hm
  have hg0 : Tryz.prog.globalNamed "guidepost/digest.rounds256" = some 0 := by kernel_rfl
  obtain rfl := Option.some.inj (hg0.symm.trans hg)
  have ht0 : (Tryz.prog.globals[0]?).map (·.type) = some 158 := by kernel_rfl
  obtain rfl := Option.some.inj (ht0.symm.trans ht)
  have hda : (Rows.laid_guidepost_digest_rounds256 : DataW Unit) = Lib.tabData .u32 rkI := by kernel_rfl
  rw [hda] at hd
  have hu2 : Tryz.prog.underlying 40 = some (.int .u32) := by kernel_rfl
  have hc1 : Tryz.prog.cellsOf 40 = 1 := by kernel_rfl
  have hc2 : Tryz.prog.cellsOf 158 = 64 := by kernel_rfl
  have hall := Lib.cells_of_tab und56 hu2 hc1 hc2 hd
  intro i hi
  have hl : i < rk.length := hi
  rw [World.var?_cell hg0 hv i, ← Array.getElem?_toList, hall, rkI, List.getElem?_map, List.getElem?_map, List.getElem?_eq_getElem hl]
  rfl

def lit1 : DataW Unit → List Value
  | .lit (.int k n) => [.int k n]
  | _ => []
def flat1 : DataW Unit → Array Value
  | .agg l => (l.flatMap lit1).toArray
  | _ => #[]
/-- A WORLD FOR THE WITNESS: the settled one, the variable holding what its text lays. -/
noncomputable def laidWorld (os : Os) : World :=
  let w0 := World.holding Tryz.prog os ⟨#[], #[], []⟩
  { w0 with heap := w0.heap.modify 0 fun
      | .cells _ t frozen => .cells (flat1 Rows.laid_guidepost_digest_rounds256) t frozen
      | o => o }
end Go.Proofs.YtlcjagkfeakinaaGreatDoor.G

/- What the row lists lies there: the words of the rounds of SHA-256; a world for the witnesses. -/
namespace Go.Proofs.YtlcjagkfeakinaaGreatDoor
set_option linter.unusedVariables false
open Go.RowKit
/-- the words of the rounds lie there. -/
def KG (W : World) : Prop := G.Rk W
theorem kg_of {W : World} {l : List (String × DataW Unit)} (h : laidMet Tryz.prog l W) (hs : W.ShapedOpen Tryz.prog) (hm : ("guidepost/digest.rounds256", (Rows.laid_guidepost_digest_rounds256 : DataW Unit)) ∈ l) : KG W := G.rk_of h hs hm
def klit1 : DataW Unit → List Value
  | .lit (.int k n) => [.int k n]
  | .lit (.string s) => [.string ⟨s.toArray⟩]
  | _ => []
def kflat2 : DataW Unit → Array Value
  | .agg l => (l.flatMap fun x => match x with
    | .agg l2 => l2.flatMap klit1
    | x => klit1 x).toArray
  | _ => #[]
def kerrS : DataW Unit → ByteArray
  | .iface _ (.ptr (.agg [.lit (.string s)])) => ⟨s.toArray⟩
  | _ => ⟨#[]⟩
/-- A WORLD FOR THE WITNESS: the settled one, the variables of packages holding what their texts lay. -/
noncomputable def laidWorld (os : Os) : World :=
  let N := (World.settled Tryz.prog os).heap.size
  let w0 := World.holding Tryz.prog os ⟨#[.cells #[.string (kerrS Rows.laid_strconv_ErrSyntax)] 263, .cells #[.string (kerrS Rows.laid_strconv_ErrRange)] 263], #[], []⟩
  let put (h : Array Obj) (g : Nat) (cs : Array Value) : Array Obj := h.modify g fun
    | .cells _ t frozen => .cells cs t frozen
    | o => o
  let h0 := put w0.heap 4 (kflat2 Rows.laid_guidepost_data_typeTexts)
  let h1 := put h0 0 (kflat2 Rows.laid_guidepost_digest_rounds256)
  let h2 := put h1 5 (kflat2 Rows.laid_internal_strconv_uint64pow10)
  let h3 := put h2 6 #[.iface 261 (.pointer (some ⟨N, 0, none⟩))]
  let h4 := put h3 7 #[.iface 261 (.pointer (some ⟨N + 1, 0, none⟩))]
  let h5 := put h4 8 (kflat2 Rows.laid_math_bits_deBruijn32tab)
  let h6 := put h5 9 (kflat2 Rows.laid_math_bits_deBruijn64tab)
  let h7 := put h6 1 (kflat2 Rows.laid_unicode_utf8_first)
  let h8 := put h7 2 (kflat2 Rows.laid_unicode_utf8_acceptRanges)
  { w0 with heap := h8 }
end Go.Proofs.YtlcjagkfeakinaaGreatDoor

/- Plain facts on names: a name is the list of its labels; its bytes are each label behind its length, and a byte 0. Nothing here speaks of the program. -/
namespace Go.Proofs.YtlcjagkfeakinaaGreatDoor
set_option linter.unusedVariables false

/-- each label behind its length. -/
def flat : List (List UInt8) → List UInt8
  | [] => []
  | l :: ls => UInt8.ofNat l.length :: (l ++ flat ls)

/-- the bytes of the name with these labels. -/
def nmL (ls : List (List UInt8)) : List UInt8 := flat ls ++ [0]
def nm (ls : List (List UInt8)) : ByteArray := ⟨(nmL ls).toArray⟩

structure OkN (ls : List (List UInt8)) : Prop where
  lab : ∀ l ∈ ls, 1 ≤ l.length ∧ l.length ≤ 63
  len : (flat ls).length ≤ 254

def IsName (s : ByteArray) : Prop := ∃ ls, OkN ls ∧ s = nm ls

theorem flat_append (a b : List (List UInt8)) : flat (a ++ b) = flat a ++ flat b := by
  induction a with
  | nil => rfl
  | cons l ls ih => simp [flat, ih]

theorem flat_snoc (a : List (List UInt8)) (l : List UInt8) : flat (a ++ [l]) = flat a ++ (UInt8.ofNat l.length :: l) := by
  rw [flat_append]; simp [flat]

theorem size_list (s : ByteArray) : s.data.toList.length = s.size := rfl
theorem ba_ext {s t : ByteArray} (h : s.data.toList = t.data.toList) : s = t := by
  cases s; cases t; congr; exact Array.toList_inj.1 h
theorem ba_toList (l : List UInt8) : (ByteArray.mk l.toArray).data.toList = l := rfl
theorem ba_size (l : List UInt8) : (ByteArray.mk l.toArray).size = l.length := rfl
theorem nm_list (ls : List (List UInt8)) : (nm ls).data.toList = nmL ls := rfl
theorem nm_size (ls : List (List UInt8)) : (nm ls).size = (flat ls).length + 1 := by
  show (nmL ls).length = _; simp [nmL]
theorem getElem_list (s : ByteArray) (k : Nat) (h : k < s.size) : s.data.toList[k]'(by rw [size_list]; exact h) = s[k] := rfl

theorem u8_len {c : UInt8} {n : Nat} (h : n = c.toNat) : UInt8.ofNat n = c := by
  subst h; exact UInt8.ofNat_toNat

/-- the labels that have come, read off the front of s. -/
structure Seq (s : ByteArray) (p : List (List UInt8)) : Prop where
  pre : flat p <+: s.data.toList
  lab : ∀ l ∈ p, 1 ≤ l.length ∧ l.length ≤ 255

/-- no further label can be read. -/
def Ends (s : ByteArray) (k : Nat) : Prop := ∀ h : k < s.size, s[k] = 0 ∨ s.size < k + 1 + s[k].toNat

theorem Seq.nil (s : ByteArray) : Seq s [] := ⟨⟨_, rfl⟩, by simp⟩

theorem Seq.le {s : ByteArray} {p : List (List UInt8)} (h : Seq s p) : (flat p).length ≤ s.size := by
  have := h.pre.length_le; rwa [size_list] at this

theorem Seq.snoc {s : ByteArray} {p : List (List UInt8)} (h : Seq s p) {k : Nat} (hk : k = (flat p).length) (hlt : k < s.size) (hc : s[k] ≠ 0) (hn : k + 1 + s[k].toNat ≤ s.size) :
    Seq s (p ++ [((s.extract (k + 1) (k + 1 + s[k].toNat)).data.toList)]) ∧ (s.extract (k + 1) (k + 1 + s[k].toNat)).size = s[k].toNat := by
  have hsz : (s.extract (k + 1) (k + 1 + s[k].toNat)).size = s[k].toNat := by
    rw [ByteArray.size_extract]; omega
  refine ⟨⟨?_, ?_⟩, hsz⟩
  · rw [flat_snoc, size_list, hsz, UInt8.ofNat_toNat]
    have e1 : s.data.toList = s.data.toList.take k ++ s.data.toList.drop k := (List.take_append_drop k _).symm
    have e2 : s.data.toList.take k = flat p := by
      have := List.prefix_iff_eq_take.1 h.pre; rw [hk]; exact this.symm
    have e3 : s.data.toList.drop k = s[k] :: s.data.toList.drop (k + 1) := by
      rw [List.drop_eq_getElem_cons (by rw [size_list]; exact hlt)]; rfl
    have e4 : (s.extract (k + 1) (k + 1 + s[k].toNat)).data.toList = (s.data.toList.drop (k + 1)).take (s[k].toNat) := by
      rw [Lib.extract_data]; simp
    rw [e1, e2, e3, e4]
    refine (List.prefix_append_right_inj _).2 ?_
    exact List.cons_prefix_cons.2 ⟨rfl, List.take_prefix _ _⟩
  · intro l hl
    rcases List.mem_append.1 hl with h1 | h1
    · exact h.lab l h1
    · simp only [List.mem_singleton] at h1
      subst h1
      rw [size_list, hsz]
      have : s[k].toNat ≠ 0 := fun e => hc (by rw [← UInt8.ofNat_toNat (x := s[k]), e]; rfl)
      have := s[k].toNat_lt
      omega

theorem Seq.snoc_len {s : ByteArray} {p : List (List UInt8)} {k : Nat} (hk : k = (flat p).length) (hlt : k < s.size) (hn : k + 1 + s[k].toNat ≤ s.size) :
    (flat (p ++ [((s.extract (k + 1) (k + 1 + s[k].toNat)).data.toList)])).length = k + 1 + s[k].toNat := by
  rw [flat_snoc, List.length_append, List.length_cons, size_list, ByteArray.size_extract]; omega

theorem ofNat_inj {a b : Nat} (ha : a ≤ 255) (hb : b ≤ 255) (h : UInt8.ofNat a = UInt8.ofNat b) : a = b := by
  have := congrArg UInt8.toNat h
  simpa [UInt8.toNat_ofNat', Nat.mod_eq_of_lt (show a < 256 by omega), Nat.mod_eq_of_lt (show b < 256 by omega)] using this

theorem flat_prefix : ∀ (p ls : List (List UInt8)), (∀ l ∈ p, 1 ≤ l.length ∧ l.length ≤ 255) → (∀ l ∈ ls, 1 ≤ l.length ∧ l.length ≤ 63) → flat p <+: flat ls ++ [0] → p <+: ls
  | [], _, _, _, _ => List.nil_prefix
  | l :: p, [], hp, _, h => by
    have := (List.cons_prefix_cons.1 (show UInt8.ofNat l.length :: (l ++ flat p) <+: 0 :: [] from h)).1
    have h1 := hp l (by simp)
    have := ofNat_inj h1.2 (by omega : 0 ≤ 255) this
    omega
  | l :: p, m :: ls, hp, hl, h => by
    have hh := List.cons_prefix_cons.1 (show UInt8.ofNat l.length :: (l ++ flat p) <+: UInt8.ofNat m.length :: ((m ++ flat ls) ++ [0]) from h)
    have h1 := hp l (by simp)
    have h2 := hl m (by simp)
    have e := ofNat_inj h1.2 (by omega : m.length ≤ 255) hh.1
    have h3 := hh.2
    rw [List.append_assoc] at h3
    have elm : l = m := by
      have a1 : l <+: m ++ (flat ls ++ [0]) := (List.prefix_append _ _).trans h3
      have a2 : m <+: m ++ (flat ls ++ [0]) := List.prefix_append _ _
      exact (List.prefix_of_prefix_length_le a1 a2 (by omega)).eq_of_length e
    subst elm
    have h4 := (List.prefix_append_right_inj _).1 h3
    exact List.cons_prefix_cons.2 ⟨rfl, flat_prefix p ls (fun x hx => hp x (by simp [hx])) (fun x hx => hl x (by simp [hx])) h4⟩

theorem Seq.of_name {ls p : List (List UInt8)} (ho : OkN ls) (h : Seq (nm ls) p) : p <+: ls :=
  flat_prefix p ls h.lab ho.lab h.pre

theorem nm_get_end (ls : List (List UInt8)) (h : (flat ls).length < (nm ls).size) : (nm ls)[(flat ls).length] = 0 := by
  rw [← getElem_list _ _ h]
  simp [nm_list, nmL]

/-- where a name's labels have all come. -/
theorem Seq.all_name {ls p : List (List UInt8)} (ho : OkN ls) (h : Seq (nm ls) p) (he : Ends (nm ls) (flat p).length) : p = ls := by
  obtain ⟨q, hq⟩ := h.of_name ho
  cases q with
  | nil => simpa using hq
  | cons m q =>
    exfalso
    have hm := ho.lab m (by rw [← hq]; simp)
    have hfl : flat ls = flat p ++ (UInt8.ofNat m.length :: (m ++ flat q)) := by rw [← hq, flat_append]; rfl
    have hlt : (flat p).length < (nm ls).size := by rw [nm_size, hfl]; simp; omega
    have hc : (nm ls)[(flat p).length] = UInt8.ofNat m.length := by
      rw [← getElem_list _ _ hlt]
      simp [nm_list, nmL, hfl]
    have ht : (UInt8.ofNat m.length).toNat = m.length := by simp [UInt8.toNat_ofNat']; omega
    rcases he hlt with e | e
    · rw [hc] at e
      have := ofNat_inj (by omega) (by omega : 0 ≤ 255) e
      omega
    · rw [hc, ht, nm_size, hfl] at e
      simp at e; omega

/-- where what is left is the byte 0, it is a name. -/
theorem Seq.is_name {s : ByteArray} {p : List (List UInt8)} (_h : Seq s p) (h63 : ∀ l ∈ p, l.length ≤ 63) (hs : s.size ≤ 255) (hd : s.data.toList = flat p ++ [0]) (h1 : ∀ l ∈ p, 1 ≤ l.length) : OkN p ∧ s = nm p := by
  refine ⟨⟨fun l hl => ⟨h1 l hl, h63 l hl⟩, ?_⟩, ba_ext hd⟩
  rw [← size_list, hd] at hs; simp at hs; omega

end Go.Proofs.YtlcjagkfeakinaaGreatDoor
