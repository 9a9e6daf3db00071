/- Texts of this proof, joined: GStir1, GSum1, GSpread2, GStir2, GSum2, GTell. -/
import Derived.Test.YtaiakpigljcjbaaGreatDoorJ15
import Derived.Laws.AppendOwn
import Derived.OwnWalk
/- stir1. -/
namespace Go.Proofs.YtaiakpigljcjbaaGreatDoor.G
set_option linter.unusedVariables false
open Go.RowKit

theorem index_words {t n : Nat} (hu : Tryz.prog.underlying t = some (.array n 59)) (p : List (BitVec 32)) (hp : p.length = n) (k : Nat) (hk : k < n) (W : World) :
    (Instr.index t (.agg (wc p)) (.int .i64 (k : Int))).run Tryz.prog W = .ok (.int .u32 ((p[k]?.getD 0).toNat : Int)) W := by
  have hz : (sizeOf 59).run Tryz.prog W = .ok 1 W := by kernel_rfl
  have hc : (wc p)[k]? = some (.int .u32 ((p[k]?.getD 0).toNat : Int)) := by rw [wc_at, List.getElem?_eq_getElem (by omega)]; rfl
  have h1 : (0 : Int) ≤ (k : Int) ∧ (k : Int) < (n : Int) := by omega
  simp [Instr.index, asIntOf, run_underlying hu, h1, hz, part, hc, hk]

/-- three blocks laid one behind the other. -/
theorem three_new (w : World) (c0 c1 c2 : Array Value) (t0 t1 t2 : TypeId) :
    (((w.alloc (.cells c0 t0)).alloc (.cells c1 t1)).alloc (.cells c2 t2)).heap[w.heap.size]? = some (.cells c0 t0 (0, 0)) ∧ (((w.alloc (.cells c0 t0)).alloc (.cells c1 t1)).alloc (.cells c2 t2)).heap[w.heap.size + 1]? = some (.cells c1 t1 (0, 0)) ∧
      (((w.alloc (.cells c0 t0)).alloc (.cells c1 t1)).alloc (.cells c2 t2)).heap[w.heap.size + 2]? = some (.cells c2 t2 (0, 0)) ∧ Below w.heap.size w (((w.alloc (.cells c0 t0)).alloc (.cells c1 t1)).alloc (.cells c2 t2)) := by
  refine ⟨?_, ?_, ?_, (((Below.refl _ _).alloc (Nat.le_refl _) _).alloc (by simp) _).alloc (by simp; omega) _⟩
  · rw [Below.heap_alloc _ _ _ (by simp; omega), Below.heap_alloc _ _ _ (by simp), heap_new]
  · rw [Below.heap_alloc _ _ _ (by simp)]
    exact (congrArg (fun k => (World.alloc _ _).heap[k]?) (World.size_alloc w _).symm).trans (heap_new _ _)
  · exact (congrArg (fun k => (World.alloc _ _).heap[k]?) (by simp)).trans (heap_new _ _)
theorem S5.at (s : S5) {W : World} {b t : Nat} (h : W.heap[b]? = some (.cells (wc s.l) t (0, 0))) :
    W.cell? ⟨b, 0, none⟩ = some (.int .u32 (s.a.toNat : Int)) ∧ W.cell? ⟨b, 1, none⟩ = some (.int .u32 (s.b.toNat : Int)) ∧ W.cell? ⟨b, 2, none⟩ = some (.int .u32 (s.c.toNat : Int)) ∧ W.cell? ⟨b, 3, none⟩ = some (.int .u32 (s.d.toNat : Int)) ∧ W.cell? ⟨b, 4, none⟩ = some (.int .u32 (s.e.toNat : Int)) :=
  ⟨(cells_at h rfl).1, (cells_at h rfl).1, (cells_at h rfl).1, (cells_at h rfl).1, (cells_at h rfl).1⟩
theorem und50 : Tryz.prog.underlying 114 = some (.array 80 59) := by kernel_rfl
theorem add_words (x y : BitVec 32) : ((x.toNat : Int) + (y.toNat : Int)) % 4294967296 = ((x + y).toNat : Int) := bm_add x y
theorem add5w (x1 x2 x3 x4 x5 : BitVec 32) : ((x1.toNat : Int) + (x2.toNat : Int) + (x3.toNat : Int) + (x4.toNat : Int) + (x5.toNat : Int)) % 4294967296 = ((x1 + x2 + x3 + x4 + x5).toNat : Int) := by
  simp only [BitVec.toNat_add]
  omega

set_option maxRecDepth 100000 in
set_option maxHeartbeats 2000000 in
theorem stir1_gen (s : S5) (l : List UInt8) (hl : l.length = 64) (ws : List (BitVec 32)) (hwl : ws.length = 80) (R : Nat → S5) (hR0 : R 0 = s) (hRs : ∀ m, R (m + 1) = st1 (ws[m]?.getD 0) m (R m))
    (hsp : ∀ w : World, Calls Tryz.prog 85 #[.agg (bc l)] w fun e w' => e = .returned (.agg (wc ws)) ∧ Below w.heap.size w w') (w : World) :
    Calls Tryz.prog 61 #[.agg (wc s.l), .agg (bc l)] w fun x w' => x = .returned (.agg (wc (add5 s (R 80)).l)) ∧ Below w.heap.size w w' := by
  have HL := Hid.mk hl
  have HWL := Hid.mk hwl
  have HR0 := Hid.mk hR0
  have HRs := Hid.mk hRs
  have HSP := Hid.mk hsp
  clear hl hwl hR0 hRs hsp
  rw [show (add5 s (R 80)).l = [s.a + (R 80).a, s.b + (R 80).b, s.c + (R 80).c, s.d + (R 80).d, s.e + (R 80).e] from rfl]
  go_enter Tryz.func61, Tryz.ntmps61
  go_upto_region 1 with fail
  obtain ⟨h0, h1, h2, hb⟩ := three_new w (wc s.l) (bc l) #[.int .u32 0, .int .u32 0, .int .u32 0, .int .u32 0, .int .u32 0] 79 83 79
  generalize (((w.alloc (.cells (wc s.l) 79)).alloc (.cells (bc l) 83)).alloc (.cells #[.int .u32 0, .int .u32 0, .int .u32 0, .int .u32 0, .int .u32 0] 79)) = W1 at h0 h1 h2 hb ⊢
  obtain ⟨c0, c1, c2, c3, c4⟩ := s.at h0
  have H0 := Hid.mk h0
  have H1 := Hid.mk h1
  have H2 := Hid.mk h2
  clear h0 h1 h2
  go_quiet (fail)
  clear c0 c1 c2 c3 c4
  go_upto_region 2 with fail
  refine wp_region_lit ?_
  refine wpList_run (W' := W1.drewN nq) (v := .agg (bc l)) rfl (op_load (W := W1.drewN nq) arr37 H1.out (by rw [bc_size]; exact HL.out) rfl rfl) ?_
  go_wp2_with fail
  refine (HSP.out _).mono ?_
  rintro e W2 ⟨rfl, hb2⟩
  have hb2' : Below W1.heap.size W1 W2 := (below_dn W1 nq).trans hb2
  have G0 : Hid (W2.heap[w.heap.size]? = _) := (hb2'.block _ (box_lt H0.out)).trans H0.out
  have G2 : Hid (W2.heap[w.heap.size + 2]? = _) := (hb2'.block _ (box_lt H2.out)).trans H2.out
  have hB : Below w.heap.size w W2 := bthen hb hb2'
  clear hb2 hb2' hb H0 H1 H2 W1 HL HSP
  go_wp2_with fail
  go_loopw [5, 6, 7, 8, 9, 26] (fun a b c d e i wr => ∃ m : Nat, m ≤ 80 ∧ i = .int .i64 m ∧ a = .int .u32 ((R m).a.toNat : Int) ∧ b = .int .u32 ((R m).b.toNat : Int) ∧ c = .int .u32 ((R m).c.toNat : Int) ∧ d = .int .u32 ((R m).d.toNat : Int) ∧ e = .int .u32 ((R m).e.toNat : Int) ∧ Below W2.heap.size W2 wr) (fun _ _ _ _ _ i _ => 80 - (intOf i).toNat)
  case atStart => exact ⟨0, by omega, rfl, by rw [HR0.out], by rw [HR0.out], by rw [HR0.out], by rw [HR0.out], by rw [HR0.out], Below.refl _ _⟩
  case round =>
    obtain ⟨m, hm, rfl, rfl, rfl, rfl, rfl, rfl, hbl⟩ := hrel
    by_cases hlt : m < 80
    · have hix := index_words und50 ws HWL.out m hlt
      have HN : Hid (R (m + 1) = ⟨rol (R m).a 5 + f1 m (R m).b (R m).c (R m).d + (R m).e + k1 m + ws[m]?.getD 0, (R m).a, rol (R m).b 30, (R m).c, (R m).d⟩) := HRs.out m
      generalize ws[m]?.getD 0 = x at hix HN
      generalize (R m).a = a at HN ⊢
      generalize (R m).b = b at HN ⊢
      generalize (R m).c = c at HN ⊢
      generalize (R m).d = d at HN ⊢
      generalize (R m).e = e at HN ⊢
      have HR := Hid.mk (round1_in m hlt b c d)
      have HA := Hid.mk (left_in a 5 (by omega) (by omega))
      have HB := Hid.mk (left_in b 30 (by omega) (by omega))
      generalize f1 m b c d = f at HR HN
      generalize k1 m = k at HR HN
      generalize rol a 5 = a5 at HA HN
      generalize rol b 30 = b30 at HB HN
      go_wp2_with fail
      refine (HR.out _).mono ?_
      rintro e1 w1 ⟨rfl, rfl⟩
      go_wp2_with fail
      refine (HA.out _).mono ?_
      rintro e2 w2 ⟨rfl, j1, rfl⟩
      go_wp2_with fail
      refine (HB.out _).mono ?_
      rintro e3 w3 ⟨rfl, j2, rfl⟩
      go_wp2
      go_roundw
      case rel =>
        refine ⟨m + 1, by omega, by go_num, ?_, by rw [HN.out], by rw [HN.out], by rw [HN.out], by rw [HN.out], ?_⟩
        · rw [HN.out, ← add5w]
        · exact hbl.trans ((below_dn _ (j1 + j2)).mono hbl.size)
      case measure => simp [intOf]; omega
    · obtain rfl : m = 80 := by omega
      have J0 : Hid (wr.heap[w.heap.size]? = _) := (hbl.block _ (box_lt G0.out)).trans G0.out
      have J2 : Hid (wr.heap[w.heap.size + 2]? = _) := (hbl.block _ (box_lt G2.out)).trans G2.out
      have hB' : Below w.heap.size w wr := bthen hB hbl
      obtain ⟨c0, c1, c2, c3, c4⟩ := s.at J0.out
      have q0 := bm_add s.a (R 80).a
      have q1 := bm_add s.b (R 80).b
      have q2 := bm_add s.c (R 80).c
      have q3 := bm_add s.d (R 80).d
      have q4 := bm_add s.e (R 80).e
      clear G0 G2 hB hbl
      go_wp2
      refine operwp_run (W' := wr) (op_build5 rfl rfl rfl rfl rfl rfl) ?_
      rename_i hK
      refine hK _ _ ?_
      refine wpList_runS rfl (op_store arr33 J2.out (by rfl) (by rfl) (by simp [Value.oneCell']) rfl rfl rfl) ?_
      go_wp2
      refine bodyPost_ret (results_cell1 arr33 Tryz.results61 rfl (setRow_heap _ _ _ _ _ _ J2.out) (by rfl)) rfl ⟨?_, Below.setRow hB' (by omega) _⟩
      first
        | rfl
        | (simp only [bm_add]; rfl)
theorem stir1_in (s : S5) (l : List UInt8) (hl : l.length = 64) (w : World) :
    Calls Tryz.prog 61 #[.agg (wc s.l), .agg (bc l)] w fun x w' => x = .returned (.agg (wc (stir1 s l).l)) ∧ Below w.heap.size w w' :=
  stir1_gen s l hl (sch1 l 80) (sch1_len l 80) (fun m => rn1 (sch1 l 80) m s) rfl (fun m => rfl) (spread1_in l hl) w
end Go.Proofs.YtaiakpigljcjbaaGreatDoor.G

/- bytesOf, Sum1. -/
namespace Go.Proofs.YtaiakpigljcjbaaGreatDoor.G
set_option linter.unusedVariables false
open Go.RowKit

theorem put5 {W : World} {b t : Nat} (s r : S5) (h : W.heap[b]? = some (.cells (wc s.l) t (0, 0))) :
    (((((W.setCell ⟨b, 0, none⟩ (.int .u32 (r.a.toNat : Int))).setCell ⟨b, 1, none⟩ (.int .u32 (r.b.toNat : Int))).setCell ⟨b, 2, none⟩ (.int .u32 (r.c.toNat : Int))).setCell ⟨b, 3, none⟩ (.int .u32 (r.d.toNat : Int))).setCell ⟨b, 4, none⟩ (.int .u32 (r.e.toNat : Int))).heap[b]? = some (.cells (wc r.l) t (0, 0)) := by
  rw [cells_put (cells_put (cells_put (cells_put (cells_put h _) _) _) _) _]
  rfl
theorem cells5 {W : World} {b t : Nat} (s : S5) (h : W.heap[b]? = some (.cells (wc s.l) t (0, 0))) :
    (W.cell? ⟨b, 0, none⟩ = some (.int .u32 (s.a.toNat : Int)) ∧ W.cell? ⟨b, 1, none⟩ = some (.int .u32 (s.b.toNat : Int)) ∧ W.cell? ⟨b, 2, none⟩ = some (.int .u32 (s.c.toNat : Int)) ∧ W.cell? ⟨b, 3, none⟩ = some (.int .u32 (s.d.toNat : Int)) ∧ W.cell? ⟨b, 4, none⟩ = some (.int .u32 (s.e.toNat : Int))) ∧
    (W.frozen? ⟨b, 0, none⟩ = false ∧ W.frozen? ⟨b, 1, none⟩ = false ∧ W.frozen? ⟨b, 2, none⟩ = false ∧ W.frozen? ⟨b, 3, none⟩ = false ∧ W.frozen? ⟨b, 4, none⟩ = false) :=
  ⟨s.at h, (cells_at h (j := 0) rfl).2, (cells_at h (j := 1) rfl).2, (cells_at h (j := 2) rfl).2, (cells_at h (j := 3) rfl).2, (cells_at h (j := 4) rfl).2⟩

set_option maxRecDepth 100000 in
set_option maxHeartbeats 2000000 in
theorem sum1_gen (s : ByteArray) (hs : s.size ≤ 140737488355328) (n : Nat) (hn : n = nb s.size) (B : Nat → List UInt8) (hB : ∀ k, (B k).length = 64) (R : Nat → S5) (hR0 : R 0 = ⟨0x67452301#32, 0xefcdab89#32, 0x98badcfe#32, 0x10325476#32, 0xc3d2e1f0#32⟩) (hRs : ∀ k, R (k + 1) = stir1 (R k) (B k))
    (hbk : ∀ k, k < n → ∀ w : World, Calls Tryz.prog 62 #[.string s, .int .i64 (k : Int)] w fun e w' => e = .returned (.agg (bc (B k))) ∧ Below w.heap.size w w')
    (T : List UInt8) (hT : ∀ (W : World) (b : Nat), W.heap[b]? = some (.cells (wc (R n).l) 79 (0, 0)) → Calls Tryz.prog 63 #[.slice (some ⟨b, 0, none⟩) 5 5] W fun e w' => e = .returned (.string ⟨T.toArray⟩) ∧ Below W.heap.size W w') (w : World) :
    Calls Tryz.prog 33 #[.string s] w fun e w' => e = .returned (.string ⟨T.toArray⟩) ∧ Below w.heap.size w w' := by
  have HN : Hid (n = nb s.size) := hn
  have HB := Hid.mk hB
  have HR0 := Hid.mk hR0
  have HRs := Hid.mk hRs
  have HBK := Hid.mk hbk
  have HT := Hid.mk hT
  have hnb : n ≤ 2199023255553 := by rw [hn]; unfold nb; omega
  have HBL := Hid.mk (blocks_in s.size hs)
  rw [← hn] at HBL
  clear hn hB hR0 hRs hbk hT
  go_enter Tryz.func33, Tryz.ntmps33
  go_wp2_with fail
  refine (HBL.out _).mono ?_
  rintro e W1 ⟨rfl, rfl⟩
  go_wp2_with fail
  go_loopw [9] (fun i wr => ∃ m : Nat, m ≤ n ∧ i = .int .i64 m ∧ wr.heap[w.heap.size]? = some (.cells (wc (R m).l) 79 (0, 0)) ∧ Below w.heap.size w wr) (fun i _ => n - (intOf i).toNat)
  case atStart =>
    refine ⟨0, by omega, rfl, ?_, (Below.refl _ _).alloc (Nat.le_refl _) _⟩
    rw [HR0.out, heap_new]
    rfl
  case round =>
    obtain ⟨m, hm, rfl, h1, hbl⟩ := hrel
    have H1 := Hid.mk h1
    by_cases hlt : m < n
    · have HST : Hid (∀ W : World, Calls Tryz.prog 61 #[.agg #[.int .u32 ((R m).a.toNat : Int), .int .u32 ((R m).b.toNat : Int), .int .u32 ((R m).c.toNat : Int), .int .u32 ((R m).d.toNat : Int), .int .u32 ((R m).e.toNat : Int)], .agg (bc (B m))] W fun x w' => x = .returned (.agg #[.int .u32 ((R (m + 1)).a.toNat : Int), .int .u32 ((R (m + 1)).b.toNat : Int), .int .u32 ((R (m + 1)).c.toNat : Int), .int .u32 ((R (m + 1)).d.toNat : Int), .int .u32 ((R (m + 1)).e.toNat : Int)]) ∧ Below W.heap.size W w') := fun W => by
        rw [HRs.out m]
        exact stir1_in (R m) (B m) (HB.out m) W
      have HBM := Hid.mk (HBK.out m hlt)
      obtain ⟨⟨c0, c1, c2, c3, c4⟩, f0, f1', f2, f3, f4⟩ := cells5 (R m) h1
      clear h1
      go_wp2_with fail
      go_region_with (first
        | (have hck := M1; clear hck; go_at_call 61; refine (HST.out _).mono ?_; rintro e w2 ⟨rfl, hb2⟩; have K2 : Hid (w2.heap[w.heap.size]? = _) := (hb2.block _ (box_lt K1.out)).trans K1.out; obtain ⟨⟨e0, e1, e2, e3, e4⟩, g0, g1, g2, g3, g4⟩ := cells5 (R m) K2.out)
        | (go_at_call 62; refine (HBM.out _).mono ?_; rintro e w1 ⟨rfl, hb1⟩; have K1 : Hid (w1.heap[w.heap.size]? = _) := (hb1.block _ (box_lt H1.out)).trans H1.out; obtain ⟨⟨d0, d1, d2, d3, d4⟩, j0, j1, j2, j3, j4⟩ := cells5 (R m) K1.out; have M1 : True := trivial))
      all_goals (
        have hbw : Below w.heap.size w w2 := bthen (bthen hbl.drew hb1) hb2
        clear hb1 hb2 K1 d0 d1 d2 d3 d4 j0 j1 j2 j3 j4 e0 e1 e2 e3 e4 g0 g1 g2 g3 g4 c0 c1 c2 c3 c4 f0 f1' f2 f3 f4
        go_wp2
        go_roundw
        case rel => exact ⟨m + 1, by omega, by go_num, put5 (R m) (R (m + 1)) K2.out, ((((hbw.setCell (Nat.le_refl _) _).setCell (Nat.le_refl _) _).setCell (Nat.le_refl _) _).setCell (Nat.le_refl _) _).setCell (Nat.le_refl _) _⟩
        case measure => simp [intOf]; omega)
    · obtain rfl : m = n := by omega
      have HTT := Hid.mk (HT.out wr w.heap.size H1.out)
      clear h1
      go_wp2_with fail
      refine HTT.out.mono ?_
      rintro e w3 ⟨rfl, hb3⟩
      go_wp2
      go_ret
      exact ⟨rfl, bthen hbl hb3⟩
end Go.Proofs.YtaiakpigljcjbaaGreatDoor.G

/- spread256. -/
namespace Go.Proofs.YtaiakpigljcjbaaGreatDoor.G
set_option linter.unusedVariables false
open Go.RowKit
theorem shr3 (x : BitVec 32) : (x.toNat : Int) / (8 : Int) = ((x >>> 3).toNat : Int) := by have := bv_shr x 3; rwa [show ((2 : Int) ^ 3) = (8 : Int) from rfl] at this
theorem shr10 (x : BitVec 32) : (x.toNat : Int) / (1024 : Int) = ((x >>> 10).toNat : Int) := by have := bv_shr x 10; rwa [show ((2 : Int) ^ 10) = (1024 : Int) from rfl] at this
end Go.Proofs.YtaiakpigljcjbaaGreatDoor.G

/- stir256. -/
namespace Go.Proofs.YtaiakpigljcjbaaGreatDoor.G
set_option linter.unusedVariables false
open Go.RowKit

theorem S8.at (s : S8) {W : World} {b t : Nat} (h : W.heap[b]? = some (.cells (wc s.l) t (0, 0))) :
    W.cell? ⟨b, 0, none⟩ = some (.int .u32 (s.a.toNat : Int)) ∧ W.cell? ⟨b, 1, none⟩ = some (.int .u32 (s.b.toNat : Int)) ∧ W.cell? ⟨b, 2, none⟩ = some (.int .u32 (s.c.toNat : Int)) ∧ W.cell? ⟨b, 3, none⟩ = some (.int .u32 (s.d.toNat : Int)) ∧ W.cell? ⟨b, 4, none⟩ = some (.int .u32 (s.e.toNat : Int)) ∧ W.cell? ⟨b, 5, none⟩ = some (.int .u32 (s.f.toNat : Int)) ∧ W.cell? ⟨b, 6, none⟩ = some (.int .u32 (s.g.toNat : Int)) ∧ W.cell? ⟨b, 7, none⟩ = some (.int .u32 (s.h.toNat : Int)) :=
  ⟨(cells_at h rfl).1, (cells_at h rfl).1, (cells_at h rfl).1, (cells_at h rfl).1, (cells_at h rfl).1, (cells_at h rfl).1, (cells_at h rfl).1, (cells_at h rfl).1⟩
/-- words added, as far as they have been. -/
def mix (p q : List (BitVec 32)) (i : Nat) : List (BitVec 32) := (List.zipWith (· + ·) p q).take i ++ p.drop i
theorem mix_len (p q : List (BitVec 32)) (hp : p.length = 8) (hq : q.length = 8) (i : Nat) (hi : i ≤ 8) : (mix p q i).length = 8 := by
  rw [mix, List.length_append, List.length_take, List.length_zipWith, List.length_drop]; omega
theorem mix_set (p q : List (BitVec 32)) (hp : p.length = 8) (hq : q.length = 8) (i : Nat) (hi : i < 8) : (mix p q i).set i (p[i]?.getD 0 + q[i]?.getD 0) = mix p q (i + 1) := by
  apply List.ext_getElem?
  intro k
  unfold mix
  simp only [List.getElem?_set, List.getElem?_append, List.length_take, List.length_append, List.length_zipWith, List.length_drop, hp, hq]
  by_cases h1 : i = k
  · subst h1
    rw [if_pos rfl, if_pos (by omega), if_pos (by omega), List.getElem?_take_of_lt (by omega), List.getElem?_zipWith, List.getElem?_eq_getElem (by omega : i < p.length), List.getElem?_eq_getElem (by omega : i < q.length)]
    rfl
  · rw [if_neg h1]
    by_cases h2 : k < i
    · rw [if_pos (by omega), if_pos (by omega), List.getElem?_take_of_lt (by omega), List.getElem?_take_of_lt (by omega)]
    · rw [if_neg (by omega), if_neg (by omega), List.getElem?_drop, List.getElem?_drop]
      congr 1
      omega
theorem mix_at (p q : List (BitVec 32)) (hp : p.length = 8) (hq : q.length = 8) (i : Nat) (hi : i < 8) : (mix p q i)[i]? = some (p[i]?.getD 0) := by
  unfold mix
  rw [List.getElem?_append_right (by simp [hp, hq]; omega), List.getElem?_drop, List.length_take, List.length_zipWith, hp, hq, show i + (i - min i (min 8 8)) = i by omega, List.getElem?_eq_getElem (by omega : i < p.length)]
  rfl
theorem mix_free {W : World} {b t : Nat} {p q : List (BitVec 32)} (hp : p.length = 8) (hq : q.length = 8) {i : Nat} (hi : i < 8) (h : W.heap[b]? = some (.cells (wc (mix p q i)) t (0, 0))) : W.cell? ⟨b, i, none⟩ = some (.int .u32 ((p[i]?.getD 0).toNat : Int)) ∧ W.frozen? ⟨b, i, none⟩ = false :=
  cells_at h (by rw [wc_at, mix_at p q hp hq i hi]; rfl)

theorem put8 {W : World} {b t : Nat} {cs : Array Value} (h : W.heap[b]? = some (.cells cs t (0, 0))) (hs : cs.size = 8) {x0 x1 x2 x3 x4 x5 x6 x7 : Int} :
    ((((((((W.setCell ⟨b, 0, none⟩ (.int .u32 x0)).setCell ⟨b, 1, none⟩ (.int .u32 x1)).setCell ⟨b, 2, none⟩ (.int .u32 x2)).setCell ⟨b, 3, none⟩ (.int .u32 x3)).setCell ⟨b, 4, none⟩ (.int .u32 x4)).setCell ⟨b, 5, none⟩ (.int .u32 x5)).setCell ⟨b, 6, none⟩ (.int .u32 x6)).setCell ⟨b, 7, none⟩ (.int .u32 x7)).heap[b]? = some (.cells #[.int .u32 x0, .int .u32 x1, .int .u32 x2, .int .u32 x3, .int .u32 x4, .int .u32 x5, .int .u32 x6, .int .u32 x7] t (0, 0)) := by
  rw [cells_put (cells_put (cells_put (cells_put (cells_put (cells_put (cells_put (cells_put h _) _) _) _) _) _) _) _]
  match cs, hs with
  | ⟨[a0, a1, a2, a3, a4, a5, a6, a7]⟩, _ => simp
theorem put8_other {W : World} {b : Nat} (c : Nat) (h : c ≠ b) {x0 x1 x2 x3 x4 x5 x6 x7 : Int} : ((((((((W.setCell ⟨b, 0, none⟩ (.int .u32 x0)).setCell ⟨b, 1, none⟩ (.int .u32 x1)).setCell ⟨b, 2, none⟩ (.int .u32 x2)).setCell ⟨b, 3, none⟩ (.int .u32 x3)).setCell ⟨b, 4, none⟩ (.int .u32 x4)).setCell ⟨b, 5, none⟩ (.int .u32 x5)).setCell ⟨b, 6, none⟩ (.int .u32 x6)).setCell ⟨b, 7, none⟩ (.int .u32 x7)).heap[c]? = W.heap[c]? := by
  rw [Below.heap_setCell _ _ _ _ h, Below.heap_setCell _ _ _ _ h, Below.heap_setCell _ _ _ _ h, Below.heap_setCell _ _ _ _ h, Below.heap_setCell _ _ _ _ h, Below.heap_setCell _ _ _ _ h, Below.heap_setCell _ _ _ _ h, Below.heap_setCell _ _ _ _ h]
theorem put8_below {w W : World} {b : Nat} (h : Below w.heap.size w W) (hb : w.heap.size ≤ b) {x0 x1 x2 x3 x4 x5 x6 x7 : Int} : Below w.heap.size w ((((((((W.setCell ⟨b, 0, none⟩ (.int .u32 x0)).setCell ⟨b, 1, none⟩ (.int .u32 x1)).setCell ⟨b, 2, none⟩ (.int .u32 x2)).setCell ⟨b, 3, none⟩ (.int .u32 x3)).setCell ⟨b, 4, none⟩ (.int .u32 x4)).setCell ⟨b, 5, none⟩ (.int .u32 x5)).setCell ⟨b, 6, none⟩ (.int .u32 x6)).setCell ⟨b, 7, none⟩ (.int .u32 x7)) :=
  (((((((h.setCell hb _).setCell hb _).setCell hb _).setCell hb _).setCell hb _).setCell hb _).setCell hb _).setCell hb _
theorem arr8_eq {a b c d e f g h : BitVec 32} {t : TypeId} {fz : Nat × Nat} {x y : Int} (hx : x = (a.toNat : Int)) (hy : y = (e.toNat : Int)) :
    some (Obj.cells #[.int .u32 x, .int .u32 (b.toNat : Int), .int .u32 (c.toNat : Int), .int .u32 (d.toNat : Int), .int .u32 y, .int .u32 (f.toNat : Int), .int .u32 (g.toNat : Int), .int .u32 (h.toNat : Int)] t fz) = some (Obj.cells (wc (S8.mk a b c d e f g h).l) t fz) := by
  subst hx hy
  rfl

end Go.Proofs.YtaiakpigljcjbaaGreatDoor.G

/- Sum256. -/
namespace Go.Proofs.YtaiakpigljcjbaaGreatDoor.G
set_option linter.unusedVariables false
open Go.RowKit

theorem cells8 {W : World} {b t : Nat} (s : S8) (h : W.heap[b]? = some (.cells (wc s.l) t (0, 0))) :
    (W.cell? ⟨b, 0, none⟩ = some (.int .u32 (s.a.toNat : Int)) ∧ W.cell? ⟨b, 1, none⟩ = some (.int .u32 (s.b.toNat : Int)) ∧ W.cell? ⟨b, 2, none⟩ = some (.int .u32 (s.c.toNat : Int)) ∧ W.cell? ⟨b, 3, none⟩ = some (.int .u32 (s.d.toNat : Int)) ∧ W.cell? ⟨b, 4, none⟩ = some (.int .u32 (s.e.toNat : Int)) ∧ W.cell? ⟨b, 5, none⟩ = some (.int .u32 (s.f.toNat : Int)) ∧ W.cell? ⟨b, 6, none⟩ = some (.int .u32 (s.g.toNat : Int)) ∧ W.cell? ⟨b, 7, none⟩ = some (.int .u32 (s.h.toNat : Int))) ∧
    (W.frozen? ⟨b, 0, none⟩ = false ∧ W.frozen? ⟨b, 1, none⟩ = false ∧ W.frozen? ⟨b, 2, none⟩ = false ∧ W.frozen? ⟨b, 3, none⟩ = false ∧ W.frozen? ⟨b, 4, none⟩ = false ∧ W.frozen? ⟨b, 5, none⟩ = false ∧ W.frozen? ⟨b, 6, none⟩ = false ∧ W.frozen? ⟨b, 7, none⟩ = false) :=
  ⟨s.at h, (cells_at h (j := 0) rfl).2, (cells_at h (j := 1) rfl).2, (cells_at h (j := 2) rfl).2, (cells_at h (j := 3) rfl).2, (cells_at h (j := 4) rfl).2, (cells_at h (j := 5) rfl).2, (cells_at h (j := 6) rfl).2, (cells_at h (j := 7) rfl).2⟩

end Go.Proofs.YtaiakpigljcjbaaGreatDoor.G

/- bytesOf; the document's tell. -/
namespace Go.Proofs.YtaiakpigljcjbaaGreatDoor.G
set_option linter.unusedVariables false
open Go.RowKit
theorem info5 : (Tryz.prog.info? 5).map (fun i => (i.zero, i.size, i.bytes)) = some (some (.int .u8 0), 1, 1) := by kernel_rfl
theorem info_of {t : Nat} {z : Value} {n b : Nat} (h : (Tryz.prog.info? t).map (fun i => (i.zero, i.size, i.bytes)) = some (some z, n, b)) : ∃ i0, Tryz.prog.info? t = some i0 ∧ i0.zero = some z ∧ i0.size = n ∧ i0.bytes = b := by
  cases hq : Tryz.prog.info? t with
  | none => simp [hq] at h
  | some i => exact ⟨i, rfl, by simp [hq] at h; exact h.1, by simp [hq] at h; exact h.2.1, by simp [hq] at h; exact h.2.2⟩
def bcl (l : List UInt8) : List Value := l.map fun c => Value.int .u8 (c.toNat : Int)
theorem bcl_app (a b : List UInt8) : bcl (a ++ b) = bcl a ++ bcl b := by simp [bcl]
theorem addr_at (b j : Nat) : (⟨b, 0, none⟩ : Addr).add j = ⟨b, j, none⟩ := by unfold Addr.add; split <;> simp_all
theorem cells_new (W : World) (cs : Array Value) (t : TypeId) (j : Nat) (u : Value) (h : cs.toList[j]? = some u) : (W.alloc (.cells cs t)).cell? ((⟨W.heap.size, 0, none⟩ : Addr).add j) = some u := by
  rw [addr_at]
  have hh : (W.alloc (.cells cs t)).heap[W.heap.size]? = some (.cells cs t) := heap_new W _
  simp only [World.cell?, hh]
  simpa using h
theorem bt_int (n k : Nat) : ((bt n k).toNat : Int) = (n : Int) / 2 ^ (8 * k) % 256 := by
  rw [bt, UInt8.toNat_ofNat', show (n : Int) / 2 ^ (8 * k) = ((n / 2 ^ (8 * k) : Nat) : Int) by rw [Int.natCast_ediv, Int.natCast_pow]; rfl]
  generalize n / 2 ^ (8 * k) = q
  omega
theorem bcl_b4 (x : BitVec 32) : bcl (b4 x) = [.int .u8 ((x.toNat : Int) / 16777216), .int .u8 ((x.toNat : Int) / 65536 % 256), .int .u8 ((x.toNat : Int) / 256 % 256), .int .u8 ((x.toNat : Int) % 256)] := by
  have hx := bv_lt x
  have e3 : ((bt x.toNat 3).toNat : Int) = (x.toNat : Int) / 16777216 := by rw [bt_int]; simp only [Nat.reduceMul, Int.reducePow]; omega
  have e2 : ((bt x.toNat 2).toNat : Int) = (x.toNat : Int) / 65536 % 256 := by rw [bt_int]; simp only [Nat.reduceMul, Int.reducePow]
  have e1 : ((bt x.toNat 1).toNat : Int) = (x.toNat : Int) / 256 % 256 := by rw [bt_int]; simp only [Nat.reduceMul, Int.reducePow]
  have e0 : ((bt x.toNat 0).toNat : Int) = (x.toNat : Int) % 256 := by rw [bt_int]; simp only [Nat.reduceMul, Int.reducePow]; omega
  simp only [bcl, b4, List.map_cons, List.map_nil, e3, e2, e1, e0]
theorem flat_len : ∀ (p : List (BitVec 32)) (n : Nat), p.length = n → (p.flatMap b4).length = 4 * n
  | [], n, h => by subst h; rfl
  | x :: p, n, h => by
    subst h
    rw [List.flatMap_cons, List.length_append, flat_len p p.length rfl]
    simp only [b4, List.length_cons, List.length_nil]
    omega
/-- a row of bytes turned into a text. -/
theorem own_back {w : World} {base g n cap : Nat} {l : List UInt8} (h : w.ownsRow base 5 1 (.slice (some ⟨g, 0, none⟩) n cap) n (bcl l)) (hl : l.length = n) :
    (convert 50 9 (.slice (some ⟨g, 0, none⟩) n cap)).run Tryz.prog w = .ok (.string ⟨l.toArray⟩) w := by
  subst hl
  refine run_convert_bytes_back (P := Tryz.prog) w 50 9 5 ⟨g, 0, none⟩ cap l Tryz.underlying50 Tryz.underlying5 Tryz.underlying9 (fun j hj => ?_)
  rw [addr_at, h.cellAt j (by omega)]
  simp [bcl, hj]
set_option maxRecDepth 100000 in
theorem bytesOf_in (W : World) (b t : Nat) (p : List (BitVec 32)) (hp : p.length ≤ 100) (h : W.heap[b]? = some (.cells (wc p) t (0, 0))) :
    Calls Tryz.prog 63 #[.slice (some ⟨b, 0, none⟩) p.length p.length] W fun e w' => e = .returned (.string ⟨(p.flatMap b4).toArray⟩) ∧ Below W.heap.size W w' := by
  obtain ⟨i0, hi, hz0, hz1, hz2⟩ := info_of info5
  obtain ⟨n, hn⟩ : ∃ n, p.length = n := ⟨_, rfl⟩
  have HP : Hid (p.length = n) := hn
  have hn2 : n ≤ 100 := by omega
  have H := Hid.mk h
  rw [hn]
  clear hn hp h
  go_enter Tryz.func63, Tryz.ntmps63
  go_wp2_with (at_make; refine wpList_make_own _ rfl _ _ 50 rfl W.heap.size 5 i0 (.int .u8 0) 1 Tryz.underlying50 hi hz0 hz1 _ _ _ (4 * n) rfl rfl (by omega) (by rw [hz2]; omega) (by unfold maxLen; omega) (Nat.le_refl _) ?_; intro w1 hown1 hgrow1)
  have B1 : Below W.heap.size W w1 := (Below.refl _ _).grown hgrow1 (Nat.le_refl _) (by simp)
  have K1 : w1.heap[b]? = some (.cells (wc p) t (0, 0)) := (B1.block b (box_lt H.out)).trans H.out
  have HK1 := Hid.mk K1
  have HO1 := Hid.mk hown1
  clear K1 hown1 hgrow1
  go_loopw [3, 12] (fun v i wr => ∃ m : Nat, m ≤ n ∧ i = .int .i64 m ∧ v = .slice (some ⟨W.heap.size, 0, none⟩) (4 * m) (4 * n) ∧ wr.ownsRow W.heap.size 5 1 (.slice (some ⟨W.heap.size, 0, none⟩) (4 * m) (4 * n)) (4 * m) (bcl ((p.take m).flatMap b4)) ∧ wr.heap[b]? = some (.cells (wc p) t (0, 0)) ∧ Below W.heap.size W wr) (fun _ i _ => n - (intOf i).toNat)
  case atStart => exact ⟨0, by omega, rfl, rfl, HO1.out, HK1.out, B1⟩
  case round =>
    obtain ⟨m, hm, rfl, rfl, hown, hk, hbl⟩ := hrel
    have HO := Hid.mk hown
    have HK := Hid.mk hk
    by_cases hlt : m < n
    · have hc : wr.cell? ⟨b, m, none⟩ = some (.int .u32 ((p[m]?.getD 0).toNat : Int)) := (cells_at hk (by rw [wc_at, List.getElem?_eq_getElem (by have := HP.out; omega)]; rfl)).1
      have HN : Hid ((p.take (m + 1)).flatMap b4 = (p.take m).flatMap b4 ++ b4 (p[m]?.getD 0)) := by
        rw [Hid, List.take_add_one, List.flatMap_append, List.getElem?_eq_getElem (by have := HP.out; omega)]
        simp
      generalize p[m]?.getD 0 = x at hc HN
      have hxl := bv_lt x
      clear hown hk
      have HB4 : Hid (bcl (b4 x) = [.int .u8 ((x.toNat : Int) / 16777216), .int .u8 ((x.toNat : Int) / 65536 % 256), .int .u8 ((x.toNat : Int) / 256 % 256), .int .u8 ((x.toNat : Int) % 256)]) := bcl_b4 x
      have hwb : b < W.heap.size := box_lt H.out
      go_wp2_with (at_builtin; refine wpList_append_fits _ rfl _ _ 50 rfl W.heap.size 5 i0 1 Tryz.underlying50 hi hz1 W.heap.size (4 * m) (4 * n) _ rfl (HO.out.alloc _) ⟨wr.heap.size, 0, none⟩ 4 4 [.int .u8 ((x.toNat : Int) / 16777216), .int .u8 ((x.toNat : Int) / 65536 % 256), .int .u8 ((x.toNat : Int) / 256 % 256), .int .u8 ((x.toNat : Int) % 256)] rfl rfl (fun j u h => cells_new wr _ 5 j u h) (by simp [Value.oneCell']) (by omega) ?_; intro w2 hown2 hgrow2)
      have B2 : Below W.heap.size W w2 := (hbl.alloc hbl.size _).grown hgrow2 (Nat.le_trans hbl.size (by simp)) (by intro k hk; cases hk; exact Nat.le_refl _)
      go_roundw
      case rel =>
        refine ⟨m + 1, by omega, by go_num, rfl, ?_, (B2.block b hwb).trans H.out, B2⟩
        rw [HN.out, bcl_app, HB4.out]
        exact hown2
      case measure => simp [intOf]; omega
    · obtain rfl : m = n := by omega
      have hcv := own_back HO.out (by rw [List.take_of_length_le (Nat.le_of_eq HP.out)]; exact flat_len p m HP.out)
      rw [List.take_of_length_le (Nat.le_of_eq HP.out)] at hcv
      clear hown hk
      go_wp2
      go_ret
      exact ⟨rfl, hbl⟩

theorem sum1_in (s : ByteArray) (hs : s.size ≤ 140737488355328) (w : World) :
    Calls Tryz.prog 33 #[.string s] w fun e w' => e = .returned (.string ⟨(sha1 s.data.toList).toArray⟩) ∧ Below w.heap.size w w' :=
  sum1_gen s hs (nb s.size) rfl (blk s.data.toList) (blk_len _) (go1 s.data.toList) rfl (fun k => rfl) (fun k hk w => blockOf_in s k hs hk w) (sha1 s.data.toList)
    (fun W b h => bytesOf_in W b 79 (go1 s.data.toList (nb s.size)).l (by show 5 ≤ 100; omega) h) w
end Go.Proofs.YtaiakpigljcjbaaGreatDoor.G
