/- stir256. -/
import Derived.Test.YtdecmbpmgnoelaaDoorGStir1
import Derived.Test.YtdecmbpmgnoelaaDoorGSpread2
namespace Go.Proofs.YtdecmbpmgnoelaaDoor
set_option linter.unusedVariables false
open Go.RowKit

/-- the words of the rounds lie there. -/
def Rk (W : World) : Prop := ∀ i, i < 64 → W.cell? ⟨0, i, none⟩ = some (.int .u32 ((rk[i]?.getD 0).toNat : Int))
theorem Rk.below {W W' : World} (h : Rk W) (hb : Below W.heap.size W W') : Rk W' := fun i hi => (hb.cell (p := ⟨0, i, none⟩) (cell_block (h i hi))).trans (h i hi)
theorem S8.at (s : S8) {W : World} {b t : Nat} (h : W.heap[b]? = some (.cells (wc s.l) t (0, 0))) :
    W.cell? ⟨b, 0, none⟩ = some (.int .u32 (s.a.toNat : Int)) ∧ W.cell? ⟨b, 1, none⟩ = some (.int .u32 (s.b.toNat : Int)) ∧ W.cell? ⟨b, 2, none⟩ = some (.int .u32 (s.c.toNat : Int)) ∧ W.cell? ⟨b, 3, none⟩ = some (.int .u32 (s.d.toNat : Int)) ∧ W.cell? ⟨b, 4, none⟩ = some (.int .u32 (s.e.toNat : Int)) ∧ W.cell? ⟨b, 5, none⟩ = some (.int .u32 (s.f.toNat : Int)) ∧ W.cell? ⟨b, 6, none⟩ = some (.int .u32 (s.g.toNat : Int)) ∧ W.cell? ⟨b, 7, none⟩ = some (.int .u32 (s.h.toNat : Int)) :=
  ⟨(cells_at h rfl).1, (cells_at h rfl).1, (cells_at h rfl).1, (cells_at h rfl).1, (cells_at h rfl).1, (cells_at h rfl).1, (cells_at h rfl).1, (cells_at h rfl).1⟩
theorem und56 : Tryd.prog.underlying 56 = some (.array 64 31) := by kernel_rfl
theorem alloc43 (W : World) : (Instr.alloc 42 true (.tuple #[])).run Tryd.prog W = .ok (.pointer (some ⟨W.heap.size, 0, none⟩)) (W.alloc (.cells (wc (List.replicate 8 0)) 42)) := by kernel_rfl
theorem op_alloc43 {o : Oper} {a : Act} {W : World} (ho : o.op = .alloc 42) : (execOp a.eval o).run Tryd.prog W = .ok (.value (.pointer (some ⟨W.heap.size, 0, none⟩))) (W.alloc (.cells (wc (List.replicate 8 0)) 42)) := by
  simp only [execOp, ho, Sem.run_bind, alloc43]
  rfl
/-- words added, as far as they have been. -/
def mix (p q : List (BitVec 32)) (i : Nat) : List (BitVec 32) := (List.zipWith (· + ·) p q).take i ++ p.drop i
theorem mix_len (p q : List (BitVec 32)) (hp : p.length = 8) (hq : q.length = 8) (i : Nat) (hi : i ≤ 8) : (mix p q i).length = 8 := by
  rw [mix, List.length_append, List.length_take, List.length_zipWith, List.length_drop]; omega
theorem mix_set (p q : List (BitVec 32)) (hp : p.length = 8) (hq : q.length = 8) (i : Nat) (hi : i < 8) : (mix p q i).set i (p[i]?.getD 0 + q[i]?.getD 0) = mix p q (i + 1) := by
  apply List.ext_getElem?
  intro k
  unfold mix
  simp only [List.getElem?_set, List.getElem?_append, List.length_take, List.length_append, List.length_zipWith, List.length_drop, hp, hq]
  by_cases h1 : i = k
  · subst h1
    rw [if_pos rfl, if_pos (by omega), if_pos (by omega), List.getElem?_take_of_lt (by omega), List.getElem?_zipWith, List.getElem?_eq_getElem (by omega : i < p.length), List.getElem?_eq_getElem (by omega : i < q.length)]
    rfl
  · rw [if_neg h1]
    by_cases h2 : k < i
    · rw [if_pos (by omega), if_pos (by omega), List.getElem?_take_of_lt (by omega), List.getElem?_take_of_lt (by omega)]
    · rw [if_neg (by omega), if_neg (by omega), List.getElem?_drop, List.getElem?_drop]
      congr 1
      omega
theorem mix_at (p q : List (BitVec 32)) (hp : p.length = 8) (hq : q.length = 8) (i : Nat) (hi : i < 8) : (mix p q i)[i]? = some (p[i]?.getD 0) := by
  unfold mix
  rw [List.getElem?_append_right (by simp [hp, hq]; omega), List.getElem?_drop, List.length_take, List.length_zipWith, hp, hq, show i + (i - min i (min 8 8)) = i by omega, List.getElem?_eq_getElem (by omega : i < p.length)]
  rfl
theorem mix_free {W : World} {b t : Nat} {p q : List (BitVec 32)} (hp : p.length = 8) (hq : q.length = 8) {i : Nat} (hi : i < 8) (h : W.heap[b]? = some (.cells (wc (mix p q i)) t (0, 0))) : W.cell? ⟨b, i, none⟩ = some (.int .u32 ((p[i]?.getD 0).toNat : Int)) ∧ W.frozen? ⟨b, i, none⟩ = false :=
  cells_at h (by rw [wc_at, mix_at p q hp hq i hi]; rfl)

theorem put8 {W : World} {b t : Nat} {cs : Array Value} (h : W.heap[b]? = some (.cells cs t (0, 0))) (hs : cs.size = 8) {x0 x1 x2 x3 x4 x5 x6 x7 : Int} :
    ((((((((W.setCell ⟨b, 0, none⟩ (.int .u32 x0)).setCell ⟨b, 1, none⟩ (.int .u32 x1)).setCell ⟨b, 2, none⟩ (.int .u32 x2)).setCell ⟨b, 3, none⟩ (.int .u32 x3)).setCell ⟨b, 4, none⟩ (.int .u32 x4)).setCell ⟨b, 5, none⟩ (.int .u32 x5)).setCell ⟨b, 6, none⟩ (.int .u32 x6)).setCell ⟨b, 7, none⟩ (.int .u32 x7)).heap[b]? = some (.cells #[.int .u32 x0, .int .u32 x1, .int .u32 x2, .int .u32 x3, .int .u32 x4, .int .u32 x5, .int .u32 x6, .int .u32 x7] t (0, 0)) := by
  rw [cells_put (cells_put (cells_put (cells_put (cells_put (cells_put (cells_put (cells_put h _) _) _) _) _) _) _) _]
  match cs, hs with
  | ⟨[a0, a1, a2, a3, a4, a5, a6, a7]⟩, _ => simp
theorem put8_other {W : World} {b : Nat} (c : Nat) (h : c ≠ b) {x0 x1 x2 x3 x4 x5 x6 x7 : Int} : ((((((((W.setCell ⟨b, 0, none⟩ (.int .u32 x0)).setCell ⟨b, 1, none⟩ (.int .u32 x1)).setCell ⟨b, 2, none⟩ (.int .u32 x2)).setCell ⟨b, 3, none⟩ (.int .u32 x3)).setCell ⟨b, 4, none⟩ (.int .u32 x4)).setCell ⟨b, 5, none⟩ (.int .u32 x5)).setCell ⟨b, 6, none⟩ (.int .u32 x6)).setCell ⟨b, 7, none⟩ (.int .u32 x7)).heap[c]? = W.heap[c]? := by
  rw [Below.heap_setCell _ _ _ _ h, Below.heap_setCell _ _ _ _ h, Below.heap_setCell _ _ _ _ h, Below.heap_setCell _ _ _ _ h, Below.heap_setCell _ _ _ _ h, Below.heap_setCell _ _ _ _ h, Below.heap_setCell _ _ _ _ h, Below.heap_setCell _ _ _ _ h]
theorem put8_below {w W : World} {b : Nat} (h : Below w.heap.size w W) (hb : w.heap.size ≤ b) {x0 x1 x2 x3 x4 x5 x6 x7 : Int} : Below w.heap.size w ((((((((W.setCell ⟨b, 0, none⟩ (.int .u32 x0)).setCell ⟨b, 1, none⟩ (.int .u32 x1)).setCell ⟨b, 2, none⟩ (.int .u32 x2)).setCell ⟨b, 3, none⟩ (.int .u32 x3)).setCell ⟨b, 4, none⟩ (.int .u32 x4)).setCell ⟨b, 5, none⟩ (.int .u32 x5)).setCell ⟨b, 6, none⟩ (.int .u32 x6)).setCell ⟨b, 7, none⟩ (.int .u32 x7)) :=
  (((((((h.setCell hb _).setCell hb _).setCell hb _).setCell hb _).setCell hb _).setCell hb _).setCell hb _).setCell hb _
theorem arr8_eq {a b c d e f g h : BitVec 32} {t : TypeId} {fz : Nat × Nat} {x y : Int} (hx : x = (a.toNat : Int)) (hy : y = (e.toNat : Int)) :
    some (Obj.cells #[.int .u32 x, .int .u32 (b.toNat : Int), .int .u32 (c.toNat : Int), .int .u32 (d.toNat : Int), .int .u32 y, .int .u32 (f.toNat : Int), .int .u32 (g.toNat : Int), .int .u32 (h.toNat : Int)] t fz) = some (Obj.cells (wc (S8.mk a b c d e f g h).l) t fz) := by
  subst hx hy
  rfl

set_option maxRecDepth 100000 in
set_option maxHeartbeats 4000000 in
theorem stir2_gen (s : S8) (l : List UInt8) (hl : l.length = 64) (ws : List (BitVec 32)) (hwl : ws.length = 64) (R : Nat → S8) (hR0 : R 0 = s) (hRs : ∀ m, R (m + 1) = st2 (rk[m]?.getD 0) (ws[m]?.getD 0) (R m))
    (hsp : ∀ w : World, Calls Tryd.prog 37 #[.agg (bc l)] w fun e w' => e = .returned (.agg (wc ws)) ∧ Below w.heap.size w w') (w : World) (hG : Rk w) :
    Calls Tryd.prog 27 #[.agg (wc s.l), .agg (bc l)] w fun x w' => x = .returned (.agg (wc (mix s.l (R 64).l 8))) ∧ Below w.heap.size w w' := by
  have HL := Hid.mk hl
  have HWL := Hid.mk hwl
  have HR0 := Hid.mk hR0
  have HRs := Hid.mk hRs
  have HSP := Hid.mk hsp
  have HG := Hid.mk hG
  clear hl hwl hR0 hRs hsp hG
  go_enter Tryd.func27, Tryd.ntmps27
  go_upto_region 1 with fail
  obtain ⟨h0, h1, h2, hb⟩ := three_new w (wc s.l) (bc l) #[.int .u32 0, .int .u32 0, .int .u32 0, .int .u32 0, .int .u32 0, .int .u32 0, .int .u32 0, .int .u32 0] 42 36 42
  generalize (((w.alloc (.cells (wc s.l) 42)).alloc (.cells (bc l) 36)).alloc (.cells #[.int .u32 0, .int .u32 0, .int .u32 0, .int .u32 0, .int .u32 0, .int .u32 0, .int .u32 0, .int .u32 0] 42)) = W1 at h0 h1 h2 hb ⊢
  have H0 := Hid.mk h0
  have H1 := Hid.mk h1
  have H2 := Hid.mk h2
  have hvb : w.heap.size + 2 < W1.heap.size := box_lt h2
  clear h0 h1 h2
  refine wp_region_lit ?_
  refine wpList_run (W' := W1) (v := .agg (wc s.l)) rfl (op_load arr43 H0.out (by rfl) rfl rfl) ?_
  refine wpList_run rfl (op_alloc43 rfl) ?_
  refine wpList_runS rfl (op_store arr43 (heap_new W1 _) (by rfl) (by rfl) (wc_one _) rfl rfl rfl) ?_
  have G0 : Hid (((W1.alloc (.cells (wc (List.replicate 8 0)) 42)).setRow W1.heap.size (wc s.l)).heap[w.heap.size]? = _) := ((setRow_other _ _ _ _ (by omega)).trans (Below.heap_alloc _ _ _ (by omega))).trans H0.out
  have G1 : Hid (((W1.alloc (.cells (wc (List.replicate 8 0)) 42)).setRow W1.heap.size (wc s.l)).heap[w.heap.size + 1]? = _) := ((setRow_other _ _ _ _ (by omega)).trans (Below.heap_alloc _ _ _ (by omega))).trans H1.out
  have G2 : Hid (((W1.alloc (.cells (wc (List.replicate 8 0)) 42)).setRow W1.heap.size (wc s.l)).heap[w.heap.size + 2]? = _) := ((setRow_other _ _ _ _ (by omega)).trans (Below.heap_alloc _ _ _ (by omega))).trans H2.out
  have G3 : Hid (((W1.alloc (.cells (wc (List.replicate 8 0)) 42)).setRow W1.heap.size (wc s.l)).heap[W1.heap.size]? = _) := setRow_heap _ _ _ _ _ _ (heap_new W1 _)
  have hB : Below w.heap.size w ((W1.alloc (.cells (wc (List.replicate 8 0)) 42)).setRow W1.heap.size (wc s.l)) := Below.setRow (hb.alloc hb.size _) hb.size _
  generalize ((W1.alloc (.cells (wc (List.replicate 8 0)) 42)).setRow W1.heap.size (wc s.l)) = W2 at G0 G1 G2 G3 hB ⊢
  generalize W1.heap.size = vb at hvb G3 ⊢
  clear H0 H1 H2 hb W1
  go_upto_region 2 with fail
  refine wp_region_lit ?_
  refine wpList_run (W' := W2) (v := .agg (bc l)) rfl (op_load arr37 G1.out (by rw [bc_size]; exact HL.out) rfl rfl) ?_
  go_wp2_with fail
  refine (HSP.out _).mono ?_
  rintro e W3 ⟨rfl, hb3⟩
  have J0 : Hid (W3.heap[w.heap.size]? = _) := (hb3.block _ (box_lt G0.out)).trans G0.out
  have J2 : Hid (W3.heap[w.heap.size + 2]? = _) := (hb3.block _ (box_lt G2.out)).trans G2.out
  have J3 : Hid (W3.heap[vb]? = _) := (hb3.block _ (box_lt G3.out)).trans G3.out
  have hB3 : Below w.heap.size w W3 := bthen hB hb3
  clear G0 G1 G2 G3 hB hb3 W2 HL HSP
  go_wp2_with fail
  go_loopw [16] (fun i wr => ∃ m : Nat, m ≤ 64 ∧ i = .int .i64 m ∧ wr.heap[vb]? = some (.cells (wc (R m).l) 42 (0, 0)) ∧ wr.heap[w.heap.size]? = some (.cells (wc s.l) 42 (0, 0)) ∧ (∃ z, z.size = 8 ∧ wr.heap[w.heap.size + 2]? = some (.cells z 42 (0, 0))) ∧ Below w.heap.size w wr) (fun i _ => 64 - (intOf i).toNat)
  case atStart => exact ⟨0, by omega, rfl, by rw [HR0.out]; exact J3.out, J0.out, ⟨_, rfl, J2.out⟩, hB3⟩
  case round =>
    obtain ⟨m, hm, rfl, h3, h0, ⟨z, hz, h2⟩, hbl⟩ := hrel
    have H3 := Hid.mk h3
    have H0 := Hid.mk h0
    have H2 := Hid.mk h2
    have HZ := Hid.mk hz
    by_cases hlt : m < 64
    · have hix := index_words und56 ws HWL.out m hlt
      have hrk := (HG.out.below hbl) m hlt
      have HN : Hid (R (m + 1) = st2 (rk[m]?.getD 0) (ws[m]?.getD 0) (R m)) := HRs.out m
      generalize ws[m]?.getD 0 = x at hix HN
      generalize rk[m]?.getD 0 = k at hrk HN
      obtain ⟨d0, d1, d2, d3, d4, d5, d6, d7⟩ := (R m).at h3
      have R6 : Hid (∀ W : World, Calls Tryd.prog 38 #[.int .u32 ((R m).e.toNat : Int), .int .i64 6] W fun e w' => e = .returned (.int .u32 ((ror (R m).e 6).toNat : Int)) ∧ ∃ j, w' = W.drewN j) := fun W => right_in (R m).e 6 (by omega) (by omega) W
      have R11 : Hid (∀ W : World, Calls Tryd.prog 38 #[.int .u32 ((R m).e.toNat : Int), .int .i64 11] W fun e w' => e = .returned (.int .u32 ((ror (R m).e 11).toNat : Int)) ∧ ∃ j, w' = W.drewN j) := fun W => right_in (R m).e 11 (by omega) (by omega) W
      have R25 : Hid (∀ W : World, Calls Tryd.prog 38 #[.int .u32 ((R m).e.toNat : Int), .int .i64 25] W fun e w' => e = .returned (.int .u32 ((ror (R m).e 25).toNat : Int)) ∧ ∃ j, w' = W.drewN j) := fun W => right_in (R m).e 25 (by omega) (by omega) W
      have R2 : Hid (∀ W : World, Calls Tryd.prog 38 #[.int .u32 ((R m).a.toNat : Int), .int .i64 2] W fun e w' => e = .returned (.int .u32 ((ror (R m).a 2).toNat : Int)) ∧ ∃ j, w' = W.drewN j) := fun W => right_in (R m).a 2 (by omega) (by omega) W
      have R13 : Hid (∀ W : World, Calls Tryd.prog 38 #[.int .u32 ((R m).a.toNat : Int), .int .i64 13] W fun e w' => e = .returned (.int .u32 ((ror (R m).a 13).toNat : Int)) ∧ ∃ j, w' = W.drewN j) := fun W => right_in (R m).a 13 (by omega) (by omega) W
      have R22 : Hid (∀ W : World, Calls Tryd.prog 38 #[.int .u32 ((R m).a.toNat : Int), .int .i64 22] W fun e w' => e = .returned (.int .u32 ((ror (R m).a 22).toNat : Int)) ∧ ∃ j, w' = W.drewN j) := fun W => right_in (R m).a 22 (by omega) (by omega) W
      have RC : Hid (∀ W : World, Calls Tryd.prog 39 #[.int .u32 ((R m).e.toNat : Int), .int .u32 ((R m).f.toNat : Int), .int .u32 ((R m).g.toNat : Int)] W fun e w' => e = .returned (.int .u32 ((cho (R m).e (R m).f (R m).g).toNat : Int)) ∧ w' = W) := fun W => choice_in _ _ _ W
      have RM : Hid (∀ W : World, Calls Tryd.prog 40 #[.int .u32 ((R m).a.toNat : Int), .int .u32 ((R m).b.toNat : Int), .int .u32 ((R m).c.toNat : Int)] W fun e w' => e = .returned (.int .u32 ((maj (R m).a (R m).b (R m).c).toNat : Int)) ∧ w' = W) := fun W => majority_in _ _ _ W
      have hq1 : bits .xor .u32 (bits .xor .u32 ((ror (R m).e 6).toNat : Int) ((ror (R m).e 11).toNat : Int)) ((ror (R m).e 25).toNat : Int) = ((ror (R m).e 6 ^^^ ror (R m).e 11 ^^^ ror (R m).e 25).toNat : Int) := by rw [bv_xor, bv_xor]
      have hq2 : bits .xor .u32 (bits .xor .u32 ((ror (R m).a 2).toNat : Int) ((ror (R m).a 13).toNat : Int)) ((ror (R m).a 22).toNat : Int) = ((ror (R m).a 2 ^^^ ror (R m).a 13 ^^^ ror (R m).a 22).toNat : Int) := by rw [bv_xor, bv_xor]
      have HN2 : Hid (R (m + 1) = ⟨(R m).h + (ror (R m).e 6 ^^^ ror (R m).e 11 ^^^ ror (R m).e 25) + cho (R m).e (R m).f (R m).g + k + x + ((ror (R m).a 2 ^^^ ror (R m).a 13 ^^^ ror (R m).a 22) + maj (R m).a (R m).b (R m).c), (R m).a, (R m).b, (R m).c, (R m).d + ((R m).h + (ror (R m).e 6 ^^^ ror (R m).e 11 ^^^ ror (R m).e 25) + cho (R m).e (R m).f (R m).g + k + x), (R m).e, (R m).f, (R m).g⟩) := HN.out
      clear HN
      generalize ror (R m).e 6 ^^^ ror (R m).e 11 ^^^ ror (R m).e 25 = q1 at hq1 HN2
      generalize ror (R m).a 2 ^^^ ror (R m).a 13 ^^^ ror (R m).a 22 = q2 at hq2 HN2
      generalize cho (R m).e (R m).f (R m).g = ch at RC HN2
      generalize maj (R m).a (R m).b (R m).c = mj at RM HN2
      generalize ror (R m).e 6 = r6 at R6 hq1
      generalize ror (R m).e 11 = r11 at R11 hq1
      generalize ror (R m).e 25 = r25 at R25 hq1
      generalize ror (R m).a 2 = r2 at R2 hq2
      generalize ror (R m).a 13 = r13 at R13 hq2
      generalize ror (R m).a 22 = r22 at R22 hq2
      generalize (R m).a = ya at d0 R2 R13 R22 RM HN2
      generalize (R m).b = yb at d1 RM HN2
      generalize (R m).c = yc at d2 RM HN2
      generalize (R m).d = yd at d3 HN2
      generalize (R m).e = ye at d4 R6 R11 R25 RC HN2
      generalize (R m).f = yf at d5 RC HN2
      generalize (R m).g = yg at d6 RC HN2
      generalize (R m).h = yh at d7 HN2
      have ht : ((yh.toNat : Int) + (q1.toNat : Int) + (ch.toNat : Int) + (k.toNat : Int) + (x.toNat : Int)) % 4294967296 = ((yh + q1 + ch + k + x).toNat : Int) := add5w yh q1 ch k x
      have hu := bm_add q2 mj
      have htu := bm_add (yh + q1 + ch + k + x) (q2 + mj)
      have hdt := bm_add yd (yh + q1 + ch + k + x)
      have ht2 := ht
      have hu2 := hu
      have htu2 := htu
      have hdt2 := hdt
      generalize yh + q1 + ch + k + x = t at ht htu hdt ht2 htu2 hdt2 HN2
      generalize q2 + mj = u at hu htu hu2 htu2 HN2
      generalize t + u = tu at htu htu2 HN2
      generalize yd + t = dt at hdt hdt2 HN2
      have um : (m : Int) < 64 := by omega
      clear h3 h0 h2 hz
      go_wp2_with fail
      go_quiet (fail)
      have x10 : (wr.drewN nq).cell? ⟨vb, 0, none⟩ = some (.int .u32 (ya.toNat : Int)) := d0
      have x11 : (wr.drewN nq).cell? ⟨vb, 1, none⟩ = some (.int .u32 (yb.toNat : Int)) := d1
      have x12 : (wr.drewN nq).cell? ⟨vb, 2, none⟩ = some (.int .u32 (yc.toNat : Int)) := d2
      have x13 : (wr.drewN nq).cell? ⟨vb, 3, none⟩ = some (.int .u32 (yd.toNat : Int)) := d3
      have x14 : (wr.drewN nq).cell? ⟨vb, 4, none⟩ = some (.int .u32 (ye.toNat : Int)) := d4
      have x15 : (wr.drewN nq).cell? ⟨vb, 5, none⟩ = some (.int .u32 (yf.toNat : Int)) := d5
      have x16 : (wr.drewN nq).cell? ⟨vb, 6, none⟩ = some (.int .u32 (yg.toNat : Int)) := d6
      have x17 : (wr.drewN nq).cell? ⟨vb, 7, none⟩ = some (.int .u32 (yh.toNat : Int)) := d7
      have x1r : (wr.drewN nq).cell? ⟨0, m, none⟩ = some (.int .u32 (k.toNat : Int)) := hrk
      have H3_1 : Hid ((wr.drewN nq).heap[vb]? = _) := H3.out
      have H0_1 : Hid ((wr.drewN nq).heap[w.heap.size]? = _) := H0.out
      have H2_1 : Hid ((wr.drewN nq).heap[w.heap.size + 2]? = _) := H2.out
      have hbl_1 : Below w.heap.size w (wr.drewN nq) := hbl.trans ((below_dn wr nq).mono hbl.size)
      clear d0 d1 d2 d3 d4 d5 d6 d7 hrk H3 H0 H2 hbl
      generalize wr.drewN nq = V1 at x10 x11 x12 x13 x14 x15 x16 x17 x1r H3_1 H0_1 H2_1 hbl_1 ⊢
      go_wp2_with fail
      go_quiet (first
        | (go_at_call 39; exact (RC.out _).mono fun _ _ hh => ⟨hh.1, _, hh.2⟩)
        | (go_at_call 38; with_reducible refine (R6.out _).mono ?_; exact fun _ _ hh => ⟨hh.1, hh.2.elim fun j hj => ⟨_, hj.trans (drew_add _ _ _)⟩⟩)
        | (go_at_call 38; with_reducible refine (R11.out _).mono ?_; exact fun _ _ hh => ⟨hh.1, hh.2.elim fun j hj => ⟨_, hj.trans (drew_add _ _ _)⟩⟩)
        | (go_at_call 38; with_reducible refine (R25.out _).mono ?_; exact fun _ _ hh => ⟨hh.1, hh.2.elim fun j hj => ⟨_, hj.trans (drew_add _ _ _)⟩⟩))
      have x20 : (V1.drewN nq).cell? ⟨vb, 0, none⟩ = some (.int .u32 (ya.toNat : Int)) := x10
      have x21 : (V1.drewN nq).cell? ⟨vb, 1, none⟩ = some (.int .u32 (yb.toNat : Int)) := x11
      have x22 : (V1.drewN nq).cell? ⟨vb, 2, none⟩ = some (.int .u32 (yc.toNat : Int)) := x12
      have x23 : (V1.drewN nq).cell? ⟨vb, 3, none⟩ = some (.int .u32 (yd.toNat : Int)) := x13
      have x24 : (V1.drewN nq).cell? ⟨vb, 4, none⟩ = some (.int .u32 (ye.toNat : Int)) := x14
      have x25 : (V1.drewN nq).cell? ⟨vb, 5, none⟩ = some (.int .u32 (yf.toNat : Int)) := x15
      have x26 : (V1.drewN nq).cell? ⟨vb, 6, none⟩ = some (.int .u32 (yg.toNat : Int)) := x16
      have x27 : (V1.drewN nq).cell? ⟨vb, 7, none⟩ = some (.int .u32 (yh.toNat : Int)) := x17
      have x2r : (V1.drewN nq).cell? ⟨0, m, none⟩ = some (.int .u32 (k.toNat : Int)) := x1r
      have H3_2 : Hid ((V1.drewN nq).heap[vb]? = _) := H3_1.out
      have H0_2 : Hid ((V1.drewN nq).heap[w.heap.size]? = _) := H0_1.out
      have H2_2 : Hid ((V1.drewN nq).heap[w.heap.size + 2]? = _) := H2_1.out
      have hbl_2 : Below w.heap.size w (V1.drewN nq) := hbl_1.trans ((below_dn V1 nq).mono hbl_1.size)
      clear x10 x11 x12 x13 x14 x15 x16 x17 x1r H3_1 H0_1 H2_1 hbl_1
      generalize V1.drewN nq = V2 at x20 x21 x22 x23 x24 x25 x26 x27 x2r H3_2 H0_2 H2_2 hbl_2 ⊢
      go_wp2_with fail
      go_quiet (first
        | (go_at_call 40; exact (RM.out _).mono fun _ _ hh => ⟨hh.1, _, hh.2⟩)
        | (go_at_call 38; with_reducible refine (R2.out _).mono ?_; exact fun _ _ hh => ⟨hh.1, hh.2.elim fun j hj => ⟨_, hj.trans (drew_add _ _ _)⟩⟩)
        | (go_at_call 38; with_reducible refine (R13.out _).mono ?_; exact fun _ _ hh => ⟨hh.1, hh.2.elim fun j hj => ⟨_, hj.trans (drew_add _ _ _)⟩⟩)
        | (go_at_call 38; with_reducible refine (R22.out _).mono ?_; exact fun _ _ hh => ⟨hh.1, hh.2.elim fun j hj => ⟨_, hj.trans (drew_add _ _ _)⟩⟩))
      have x30 : (V2.drewN nq).cell? ⟨vb, 0, none⟩ = some (.int .u32 (ya.toNat : Int)) := x20
      have x31 : (V2.drewN nq).cell? ⟨vb, 1, none⟩ = some (.int .u32 (yb.toNat : Int)) := x21
      have x32 : (V2.drewN nq).cell? ⟨vb, 2, none⟩ = some (.int .u32 (yc.toNat : Int)) := x22
      have x33 : (V2.drewN nq).cell? ⟨vb, 3, none⟩ = some (.int .u32 (yd.toNat : Int)) := x23
      have x34 : (V2.drewN nq).cell? ⟨vb, 4, none⟩ = some (.int .u32 (ye.toNat : Int)) := x24
      have x35 : (V2.drewN nq).cell? ⟨vb, 5, none⟩ = some (.int .u32 (yf.toNat : Int)) := x25
      have x36 : (V2.drewN nq).cell? ⟨vb, 6, none⟩ = some (.int .u32 (yg.toNat : Int)) := x26
      have x37 : (V2.drewN nq).cell? ⟨vb, 7, none⟩ = some (.int .u32 (yh.toNat : Int)) := x27
      have x3r : (V2.drewN nq).cell? ⟨0, m, none⟩ = some (.int .u32 (k.toNat : Int)) := x2r
      have H3_3 : Hid ((V2.drewN nq).heap[vb]? = _) := H3_2.out
      have H0_3 : Hid ((V2.drewN nq).heap[w.heap.size]? = _) := H0_2.out
      have H2_3 : Hid ((V2.drewN nq).heap[w.heap.size + 2]? = _) := H2_2.out
      have hbl_3 : Below w.heap.size w (V2.drewN nq) := hbl_2.trans ((below_dn V2 nq).mono hbl_2.size)
      clear x20 x21 x22 x23 x24 x25 x26 x27 x2r H3_2 H0_2 H2_2 hbl_2
      generalize V2.drewN nq = V3 at x30 x31 x32 x33 x34 x35 x36 x37 x3r H3_3 H0_3 H2_3 hbl_3 ⊢
      have z0 : V3.frozen? ⟨vb, 0, none⟩ = false := (cells_at H3_3.out (j := 0) rfl).2
      have z1 : V3.frozen? ⟨vb, 1, none⟩ = false := (cells_at H3_3.out (j := 1) rfl).2
      have z2 : V3.frozen? ⟨vb, 2, none⟩ = false := (cells_at H3_3.out (j := 2) rfl).2
      have z3 : V3.frozen? ⟨vb, 3, none⟩ = false := (cells_at H3_3.out (j := 3) rfl).2
      have z4 : V3.frozen? ⟨vb, 4, none⟩ = false := (cells_at H3_3.out (j := 4) rfl).2
      have z5 : V3.frozen? ⟨vb, 5, none⟩ = false := (cells_at H3_3.out (j := 5) rfl).2
      have z6 : V3.frozen? ⟨vb, 6, none⟩ = false := (cells_at H3_3.out (j := 6) rfl).2
      have z7 : V3.frozen? ⟨vb, 7, none⟩ = false := (cells_at H3_3.out (j := 7) rfl).2
      clear ht hu htu hdt
      have HT2 := Hid.mk (And.intro ht2 (And.intro hu2 (And.intro htu2 hdt2)))
      clear ht2 hu2 htu2 hdt2
      go_wp2
      go_roundw
      case rel =>
        obtain ⟨ht2, hu2, htu2, hdt2⟩ := HT2.out
        refine ⟨m + 1, by omega, by go_num, ?_, ?_, ⟨z, HZ.out, ?_⟩, ?_⟩
        · refine (put8 H3_3.out rfl).trans ?_
          rw [HN2.out]
          exact arr8_eq (by omega) (by omega)
        · exact (put8_other _ (by omega)).trans H0_3.out
        · exact (put8_other _ (by omega)).trans H2_3.out
        · exact put8_below hbl_3 (by omega)
      case measure => simp [intOf]; omega
    · obtain rfl : m = 64 := by omega
      clear h3 h0 h2 hz
      obtain ⟨r, hr⟩ : ∃ r, r = (R 64).l := ⟨_, rfl⟩
      have hrl : r.length = 8 := by rw [hr]; rfl
      have hsl : s.l.length = 8 := rfl
      have HRL := Hid.mk hrl
      have HSL := Hid.mk hsl
      have K3 : Hid (wr.heap[vb]? = some (.cells (wc r) 42 (0, 0))) := by rw [hr]; exact H3.out
      have HRR := Hid.mk hr
      clear hr hrl hsl H3 HRs HR0 HWL
      go_wp2_with fail
      go_loopw [82] (fun i w2 => ∃ n : Nat, n ≤ 8 ∧ i = .int .i64 n ∧ w2.heap[vb]? = some (.cells (wc r) 42 (0, 0)) ∧ w2.heap[w.heap.size]? = some (.cells (wc (mix s.l r n)) 42 (0, 0)) ∧ w2.heap[w.heap.size + 2]? = some (.cells z 42 (0, 0)) ∧ Below w.heap.size w w2) (fun i _ => 8 - (intOf i).toNat)
      case atStart => exact ⟨0, by omega, rfl, K3.out, H0.out, H2.out, hbl⟩
      case round =>
        obtain ⟨n, hn, rfl, g3, g0, g2, hbl2⟩ := hrel
        have G3 := Hid.mk g3
        have G0 := Hid.mk g0
        have G2 := Hid.mk g2
        by_cases hlt2 : n < 8
        · obtain ⟨c1, f1'⟩ := mix_free HSL.out HRL.out hlt2 g0
          have c2 : wr.cell? ⟨vb, n, none⟩ = some (.int .u32 ((r[n]?.getD 0).toNat : Int)) := (cells_at g3 (by rw [wc_at, List.getElem?_eq_getElem (by have := HRL.out; omega)]; rfl)).1
          have HM := Hid.mk (mix_set s.l r HSL.out HRL.out n hlt2)
          generalize s.l[n]?.getD 0 = x at c1 HM
          generalize r[n]?.getD 0 = y at c2 HM
          have hxy := bm_add x y
          have i0 : (0 : Int) ≤ (n : Int) := by omega
          have i8 : (n : Int) < 8 := by omega
          clear g3 g0 g2
          go_wp2_with fail
          go_region
          all_goals (
            have hrelN : ∃ n1 : Nat, n1 ≤ 8 ∧ Value.int .i64 ((n : Int) + 1) = .int .i64 n1 ∧ (wr.setCell ⟨w.heap.size, n, none⟩ (.int .u32 (((x.toNat : Int) + (y.toNat : Int)) % 4294967296))).drew.heap[vb]? = some (.cells (wc r) 42 (0, 0)) ∧ (wr.setCell ⟨w.heap.size, n, none⟩ (.int .u32 (((x.toNat : Int) + (y.toNat : Int)) % 4294967296))).drew.heap[w.heap.size]? = some (.cells (wc (mix s.l r n1)) 42 (0, 0)) ∧ (wr.setCell ⟨w.heap.size, n, none⟩ (.int .u32 (((x.toNat : Int) + (y.toNat : Int)) % 4294967296))).drew.heap[w.heap.size + 2]? = some (.cells z 42 (0, 0)) ∧ Below w.heap.size w (wr.setCell ⟨w.heap.size, n, none⟩ (.int .u32 (((x.toNat : Int) + (y.toNat : Int)) % 4294967296))).drew := by
              rw [hxy]
              refine ⟨n + 1, by omega, by go_num, ?_, ?_, ?_, (Below.setCell hbl2 (Nat.le_refl _) _).drew⟩
              · exact (Below.heap_setCell wr ⟨w.heap.size, n, none⟩ _ vb (by show vb ≠ w.heap.size; omega)).trans G3.out
              · refine (cells_put (j := n) G0.out (.int .u32 ((x + y).toNat : Int))).trans ?_
                rw [wc_set, HM.out]
              · exact (Below.heap_setCell wr ⟨w.heap.size, n, none⟩ _ (w.heap.size + 2) (by show w.heap.size + 2 ≠ w.heap.size; omega)).trans G2.out
            clear hxy
            go_wp2
            go_roundw
            case rel =>
              (repeat apply Exists.intro)
              exact ⟨hrelN, rfl⟩
            case measure => simp [intOf]; omega)
        · obtain rfl : n = 8 := by omega
          rw [HRR.out] at G0
          clear g3 g0 g2
          have hml := mix_len s.l (R 64).l HSL.out (by rfl) 8 (by omega)
          go_upto_region 15 with fail
          refine wp_region_lit ?_
          refine wpList_run (W' := wr) (v := .agg (wc (mix s.l (R 64).l 8))) rfl (op_load arr43 G0.out (by rw [wc_size]; exact hml) rfl rfl) ?_
          refine wpList_runS rfl (op_store arr43 G2.out HZ.out (by rw [wc_size]; exact hml) (wc_one _) rfl rfl rfl) ?_
          go_wp2
          refine bodyPost_ret (v := .agg (wc (mix s.l (R 64).l 8))) (results_cell1 arr43 Tryd.results27 rfl (setRow_heap _ _ _ _ _ _ G2.out) (by rw [wc_size]; exact hml)) rfl ⟨rfl, Below.setRow hbl2 (by omega) _⟩
theorem stir2_in (s : S8) (l : List UInt8) (hl : l.length = 64) (w : World) (hG : Rk w) :
    Calls Tryd.prog 27 #[.agg (wc s.l), .agg (bc l)] w fun x w' => x = .returned (.agg (wc (stir2 s l).l)) ∧ Below w.heap.size w w' :=
  stir2_gen s l hl (sch2 l 64) (sch2_len l 64) (fun m => rn2 (sch2 l 64) m s) rfl (fun m => rfl) (spread256_in l hl) w hG
end Go.Proofs.YtdecmbpmgnoelaaDoor
