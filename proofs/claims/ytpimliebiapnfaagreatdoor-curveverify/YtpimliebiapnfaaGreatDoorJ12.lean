/- Texts of this proof, joined: GStir2, GSum2, GTell, GReg. -/
import Derived.Test.YtpimliebiapnfaaGreatDoorJ11
import Derived.Laws.AppendOwn
import Derived.OwnWalk
/- stir256. -/
namespace Go.Proofs.YtpimliebiapnfaaGreatDoor.G
set_option linter.unusedVariables false
open Go.RowKit
def Rk (W : World) : Prop := ∀ i, i < 64 → W.cell? ⟨0, i, none⟩ = some (.int .u32 ((rk[i]?.getD 0).toNat : Int))
theorem Rk.below {W W' : World} (h : Rk W) (hb : Below W.heap.size W W') : Rk W' := fun i hi => (hb.cell (p := ⟨0, i, none⟩) (cell_block (h i hi))).trans (h i hi)
theorem S8.at (s : S8) {W : World} {b t : Nat} (h : W.heap[b]? = some (.cells (wc s.l) t (0, 0))) :
    W.cell? ⟨b, 0, none⟩ = some (.int .u32 (s.a.toNat : Int)) ∧ W.cell? ⟨b, 1, none⟩ = some (.int .u32 (s.b.toNat : Int)) ∧ W.cell? ⟨b, 2, none⟩ = some (.int .u32 (s.c.toNat : Int)) ∧ W.cell? ⟨b, 3, none⟩ = some (.int .u32 (s.d.toNat : Int)) ∧ W.cell? ⟨b, 4, none⟩ = some (.int .u32 (s.e.toNat : Int)) ∧ W.cell? ⟨b, 5, none⟩ = some (.int .u32 (s.f.toNat : Int)) ∧ W.cell? ⟨b, 6, none⟩ = some (.int .u32 (s.g.toNat : Int)) ∧ W.cell? ⟨b, 7, none⟩ = some (.int .u32 (s.h.toNat : Int)) :=
  ⟨(cells_at h rfl).1, (cells_at h rfl).1, (cells_at h rfl).1, (cells_at h rfl).1, (cells_at h rfl).1, (cells_at h rfl).1, (cells_at h rfl).1, (cells_at h rfl).1⟩
theorem und56 : Tryz.prog.underlying 124 = some (.array 64 35) := by kernel_rfl
theorem alloc43 (W : World) : (Instr.alloc 107 true (.tuple #[])).run Tryz.prog W = .ok (.pointer (some ⟨W.heap.size, 0, none⟩)) (W.alloc (.cells (wc (List.replicate 8 0)) 107)) := by kernel_rfl
theorem op_alloc43 {o : Oper} {a : Act} {W : World} (ho : o.op = .alloc 107) : (execOp a.eval o).run Tryz.prog W = .ok (.value (.pointer (some ⟨W.heap.size, 0, none⟩))) (W.alloc (.cells (wc (List.replicate 8 0)) 107)) := by
  simp only [execOp, ho, Sem.run_bind, alloc43]
  rfl
def mix (p q : List (BitVec 32)) (i : Nat) : List (BitVec 32) := (List.zipWith (· + ·) p q).take i ++ p.drop i
theorem mix_len (p q : List (BitVec 32)) (hp : p.length = 8) (hq : q.length = 8) (i : Nat) (hi : i ≤ 8) : (mix p q i).length = 8 := by
  rw [mix, List.length_append, List.length_take, List.length_zipWith, List.length_drop]; omega
theorem mix_set (p q : List (BitVec 32)) (hp : p.length = 8) (hq : q.length = 8) (i : Nat) (hi : i < 8) : (mix p q i).set i (p[i]?.getD 0 + q[i]?.getD 0) = mix p q (i + 1) := by
  apply List.ext_getElem?
  intro k
  unfold mix
  simp only [List.getElem?_set, List.getElem?_append, List.length_take, List.length_append, List.length_zipWith, List.length_drop, hp, hq]
  by_cases h1 : i = k
  · subst h1
    rw [if_pos rfl, if_pos (by omega), if_pos (by omega), List.getElem?_take_of_lt (by omega), List.getElem?_zipWith, List.getElem?_eq_getElem (by omega : i < p.length), List.getElem?_eq_getElem (by omega : i < q.length)]
    rfl
  · rw [if_neg h1]
    by_cases h2 : k < i
    · rw [if_pos (by omega), if_pos (by omega), List.getElem?_take_of_lt (by omega), List.getElem?_take_of_lt (by omega)]
    · rw [if_neg (by omega), if_neg (by omega), List.getElem?_drop, List.getElem?_drop]
      congr 1
      omega
theorem mix_at (p q : List (BitVec 32)) (hp : p.length = 8) (hq : q.length = 8) (i : Nat) (hi : i < 8) : (mix p q i)[i]? = some (p[i]?.getD 0) := by
  unfold mix
  rw [List.getElem?_append_right (by simp [hp, hq]; omega), List.getElem?_drop, List.length_take, List.length_zipWith, hp, hq, show i + (i - min i (min 8 8)) = i by omega, List.getElem?_eq_getElem (by omega : i < p.length)]
  rfl
theorem mix_free {W : World} {b t : Nat} {p q : List (BitVec 32)} (hp : p.length = 8) (hq : q.length = 8) {i : Nat} (hi : i < 8) (h : W.heap[b]? = some (.cells (wc (mix p q i)) t (0, 0))) : W.cell? ⟨b, i, none⟩ = some (.int .u32 ((p[i]?.getD 0).toNat : Int)) ∧ W.frozen? ⟨b, i, none⟩ = false :=
  cells_at h (by rw [wc_at, mix_at p q hp hq i hi]; rfl)
theorem put8 {W : World} {b t : Nat} {cs : Array Value} (h : W.heap[b]? = some (.cells cs t (0, 0))) (hs : cs.size = 8) {x0 x1 x2 x3 x4 x5 x6 x7 : Int} :
    ((((((((W.setCell ⟨b, 0, none⟩ (.int .u32 x0)).setCell ⟨b, 1, none⟩ (.int .u32 x1)).setCell ⟨b, 2, none⟩ (.int .u32 x2)).setCell ⟨b, 3, none⟩ (.int .u32 x3)).setCell ⟨b, 4, none⟩ (.int .u32 x4)).setCell ⟨b, 5, none⟩ (.int .u32 x5)).setCell ⟨b, 6, none⟩ (.int .u32 x6)).setCell ⟨b, 7, none⟩ (.int .u32 x7)).heap[b]? = some (.cells #[.int .u32 x0, .int .u32 x1, .int .u32 x2, .int .u32 x3, .int .u32 x4, .int .u32 x5, .int .u32 x6, .int .u32 x7] t (0, 0)) := by
  rw [cells_put (cells_put (cells_put (cells_put (cells_put (cells_put (cells_put (cells_put h _) _) _) _) _) _) _) _]
  match cs, hs with
  | ⟨[a0, a1, a2, a3, a4, a5, a6, a7]⟩, _ => simp
theorem put8_other {W : World} {b : Nat} (c : Nat) (h : c ≠ b) {x0 x1 x2 x3 x4 x5 x6 x7 : Int} : ((((((((W.setCell ⟨b, 0, none⟩ (.int .u32 x0)).setCell ⟨b, 1, none⟩ (.int .u32 x1)).setCell ⟨b, 2, none⟩ (.int .u32 x2)).setCell ⟨b, 3, none⟩ (.int .u32 x3)).setCell ⟨b, 4, none⟩ (.int .u32 x4)).setCell ⟨b, 5, none⟩ (.int .u32 x5)).setCell ⟨b, 6, none⟩ (.int .u32 x6)).setCell ⟨b, 7, none⟩ (.int .u32 x7)).heap[c]? = W.heap[c]? := by
  rw [Below.heap_setCell _ _ _ _ h, Below.heap_setCell _ _ _ _ h, Below.heap_setCell _ _ _ _ h, Below.heap_setCell _ _ _ _ h, Below.heap_setCell _ _ _ _ h, Below.heap_setCell _ _ _ _ h, Below.heap_setCell _ _ _ _ h, Below.heap_setCell _ _ _ _ h]
theorem put8_below {w W : World} {b : Nat} (h : Below w.heap.size w W) (hb : w.heap.size ≤ b) {x0 x1 x2 x3 x4 x5 x6 x7 : Int} : Below w.heap.size w ((((((((W.setCell ⟨b, 0, none⟩ (.int .u32 x0)).setCell ⟨b, 1, none⟩ (.int .u32 x1)).setCell ⟨b, 2, none⟩ (.int .u32 x2)).setCell ⟨b, 3, none⟩ (.int .u32 x3)).setCell ⟨b, 4, none⟩ (.int .u32 x4)).setCell ⟨b, 5, none⟩ (.int .u32 x5)).setCell ⟨b, 6, none⟩ (.int .u32 x6)).setCell ⟨b, 7, none⟩ (.int .u32 x7)) :=
  (((((((h.setCell hb _).setCell hb _).setCell hb _).setCell hb _).setCell hb _).setCell hb _).setCell hb _).setCell hb _
theorem arr8_eq {a b c d e f g h : BitVec 32} {t : TypeId} {fz : Nat × Nat} {x y : Int} (hx : x = (a.toNat : Int)) (hy : y = (e.toNat : Int)) :
    some (Obj.cells #[.int .u32 x, .int .u32 (b.toNat : Int), .int .u32 (c.toNat : Int), .int .u32 (d.toNat : Int), .int .u32 y, .int .u32 (f.toNat : Int), .int .u32 (g.toNat : Int), .int .u32 (h.toNat : Int)] t fz) = some (Obj.cells (wc (S8.mk a b c d e f g h).l) t fz) := by
  subst hx hy
  rfl
set_option maxRecDepth 100000 in
set_option maxHeartbeats 4000000 in
theorem stir2_gen (s : S8) (l : List UInt8) (hl : l.length = 64) (ws : List (BitVec 32)) (hwl : ws.length = 64) (R : Nat → S8) (hR0 : R 0 = s) (hRs : ∀ m, R (m + 1) = st2 (rk[m]?.getD 0) (ws[m]?.getD 0) (R m))
    (hsp : ∀ w : World, Calls Tryz.prog 98 #[.agg (bc l)] w fun e w' => e = .returned (.agg (wc ws)) ∧ Below w.heap.size w w') (w : World) (hG : Rk w) :
    Calls Tryz.prog 77 #[.agg (wc s.l), .agg (bc l)] w fun x w' => x = .returned (.agg (wc (mix s.l (R 64).l 8))) ∧ Below w.heap.size w w' := by
  have HL := Hid.mk hl
  have HWL := Hid.mk hwl
  have HR0 := Hid.mk hR0
  have HRs := Hid.mk hRs
  have HSP := Hid.mk hsp
  have HG := Hid.mk hG
  clear hl hwl hR0 hRs hsp hG
  go_enter Tryz.func77, Tryz.ntmps77
  go_upto_region 1 with fail
  obtain ⟨h0, h1, h2, hb⟩ := three_new w (wc s.l) (bc l) #[.int .u32 0, .int .u32 0, .int .u32 0, .int .u32 0, .int .u32 0, .int .u32 0, .int .u32 0, .int .u32 0] 107 111 107
  generalize (((w.alloc (.cells (wc s.l) 107)).alloc (.cells (bc l) 111)).alloc (.cells #[.int .u32 0, .int .u32 0, .int .u32 0, .int .u32 0, .int .u32 0, .int .u32 0, .int .u32 0, .int .u32 0] 107)) = W1 at h0 h1 h2 hb ⊢
  have H0 := Hid.mk h0
  have H1 := Hid.mk h1
  have H2 := Hid.mk h2
  have hvb : w.heap.size + 2 < W1.heap.size := box_lt h2
  clear h0 h1 h2
  refine wp_region_lit ?_
  refine wpList_run (W' := W1) (v := .agg (wc s.l)) rfl (op_load arr43 H0.out (by rfl) rfl rfl) ?_
  refine wpList_run rfl (op_alloc43 rfl) ?_
  refine wpList_runS rfl (op_store arr43 (heap_new W1 _) (by rfl) (by rfl) (wc_one _) rfl rfl rfl) ?_
  have G0 : Hid (((W1.alloc (.cells (wc (List.replicate 8 0)) 107)).setRow W1.heap.size (wc s.l)).heap[w.heap.size]? = _) := ((setRow_other _ _ _ _ (by omega)).trans (Below.heap_alloc _ _ _ (by omega))).trans H0.out
  have G1 : Hid (((W1.alloc (.cells (wc (List.replicate 8 0)) 107)).setRow W1.heap.size (wc s.l)).heap[w.heap.size + 1]? = _) := ((setRow_other _ _ _ _ (by omega)).trans (Below.heap_alloc _ _ _ (by omega))).trans H1.out
  have G2 : Hid (((W1.alloc (.cells (wc (List.replicate 8 0)) 107)).setRow W1.heap.size (wc s.l)).heap[w.heap.size + 2]? = _) := ((setRow_other _ _ _ _ (by omega)).trans (Below.heap_alloc _ _ _ (by omega))).trans H2.out
  have G3 : Hid (((W1.alloc (.cells (wc (List.replicate 8 0)) 107)).setRow W1.heap.size (wc s.l)).heap[W1.heap.size]? = _) := setRow_heap _ _ _ _ _ _ (heap_new W1 _)
  have hB : Below w.heap.size w ((W1.alloc (.cells (wc (List.replicate 8 0)) 107)).setRow W1.heap.size (wc s.l)) := Below.setRow (hb.alloc hb.size _) hb.size _
  generalize ((W1.alloc (.cells (wc (List.replicate 8 0)) 107)).setRow W1.heap.size (wc s.l)) = W2 at G0 G1 G2 G3 hB ⊢
  generalize W1.heap.size = vb at hvb G3 ⊢
  clear H0 H1 H2 hb W1
  go_upto_region 2 with fail
  refine wp_region_lit ?_
  refine wpList_run (W' := W2) (v := .agg (bc l)) rfl (op_load arr37 G1.out (by rw [bc_size]; exact HL.out) rfl rfl) ?_
  go_wp2_with fail
  refine (HSP.out _).mono ?_
  rintro e W3 ⟨rfl, hb3⟩
  have J0 : Hid (W3.heap[w.heap.size]? = _) := (hb3.block _ (box_lt G0.out)).trans G0.out
  have J2 : Hid (W3.heap[w.heap.size + 2]? = _) := (hb3.block _ (box_lt G2.out)).trans G2.out
  have J3 : Hid (W3.heap[vb]? = _) := (hb3.block _ (box_lt G3.out)).trans G3.out
  have hB3 : Below w.heap.size w W3 := bthen hB hb3
  clear G0 G1 G2 G3 hB hb3 W2 HL HSP
  go_wp2_with fail
  go_loopw [16] (fun i wr => ∃ m : Nat, m ≤ 64 ∧ i = .int .i64 m ∧ wr.heap[vb]? = some (.cells (wc (R m).l) 107 (0, 0)) ∧ wr.heap[w.heap.size]? = some (.cells (wc s.l) 107 (0, 0)) ∧ (∃ z, z.size = 8 ∧ wr.heap[w.heap.size + 2]? = some (.cells z 107 (0, 0))) ∧ Below w.heap.size w wr) (fun i _ => 64 - (intOf i).toNat)
  case atStart => exact ⟨0, by omega, rfl, by rw [HR0.out]; exact J3.out, J0.out, ⟨_, rfl, J2.out⟩, hB3⟩
  case round =>
    obtain ⟨m, hm, rfl, h3, h0, ⟨z, hz, h2⟩, hbl⟩ := hrel
    have H3 := Hid.mk h3
    have H0 := Hid.mk h0
    have H2 := Hid.mk h2
    have HZ := Hid.mk hz
    by_cases hlt : m < 64
    · have hix := index_words und56 ws HWL.out m hlt
      have hrk := (HG.out.below hbl) m hlt
      have HN : Hid (R (m + 1) = st2 (rk[m]?.getD 0) (ws[m]?.getD 0) (R m)) := HRs.out m
      generalize ws[m]?.getD 0 = x at hix HN
      generalize rk[m]?.getD 0 = k at hrk HN
      obtain ⟨d0, d1, d2, d3, d4, d5, d6, d7⟩ := (R m).at h3
      have R6 : Hid (∀ W : World, Calls Tryz.prog 99 #[.int .u32 ((R m).e.toNat : Int), .int .i64 6] W fun e w' => e = .returned (.int .u32 ((ror (R m).e 6).toNat : Int)) ∧ ∃ j, w' = W.drewN j) := fun W => right_in (R m).e 6 (by omega) (by omega) W
      have R11 : Hid (∀ W : World, Calls Tryz.prog 99 #[.int .u32 ((R m).e.toNat : Int), .int .i64 11] W fun e w' => e = .returned (.int .u32 ((ror (R m).e 11).toNat : Int)) ∧ ∃ j, w' = W.drewN j) := fun W => right_in (R m).e 11 (by omega) (by omega) W
      have R25 : Hid (∀ W : World, Calls Tryz.prog 99 #[.int .u32 ((R m).e.toNat : Int), .int .i64 25] W fun e w' => e = .returned (.int .u32 ((ror (R m).e 25).toNat : Int)) ∧ ∃ j, w' = W.drewN j) := fun W => right_in (R m).e 25 (by omega) (by omega) W
      have R2 : Hid (∀ W : World, Calls Tryz.prog 99 #[.int .u32 ((R m).a.toNat : Int), .int .i64 2] W fun e w' => e = .returned (.int .u32 ((ror (R m).a 2).toNat : Int)) ∧ ∃ j, w' = W.drewN j) := fun W => right_in (R m).a 2 (by omega) (by omega) W
      have R13 : Hid (∀ W : World, Calls Tryz.prog 99 #[.int .u32 ((R m).a.toNat : Int), .int .i64 13] W fun e w' => e = .returned (.int .u32 ((ror (R m).a 13).toNat : Int)) ∧ ∃ j, w' = W.drewN j) := fun W => right_in (R m).a 13 (by omega) (by omega) W
      have R22 : Hid (∀ W : World, Calls Tryz.prog 99 #[.int .u32 ((R m).a.toNat : Int), .int .i64 22] W fun e w' => e = .returned (.int .u32 ((ror (R m).a 22).toNat : Int)) ∧ ∃ j, w' = W.drewN j) := fun W => right_in (R m).a 22 (by omega) (by omega) W
      have RC : Hid (∀ W : World, Calls Tryz.prog 100 #[.int .u32 ((R m).e.toNat : Int), .int .u32 ((R m).f.toNat : Int), .int .u32 ((R m).g.toNat : Int)] W fun e w' => e = .returned (.int .u32 ((cho (R m).e (R m).f (R m).g).toNat : Int)) ∧ w' = W) := fun W => choice_in _ _ _ W
      have RM : Hid (∀ W : World, Calls Tryz.prog 101 #[.int .u32 ((R m).a.toNat : Int), .int .u32 ((R m).b.toNat : Int), .int .u32 ((R m).c.toNat : Int)] W fun e w' => e = .returned (.int .u32 ((maj (R m).a (R m).b (R m).c).toNat : Int)) ∧ w' = W) := fun W => majority_in _ _ _ W
      have hq1 : bits .xor .u32 (bits .xor .u32 ((ror (R m).e 6).toNat : Int) ((ror (R m).e 11).toNat : Int)) ((ror (R m).e 25).toNat : Int) = ((ror (R m).e 6 ^^^ ror (R m).e 11 ^^^ ror (R m).e 25).toNat : Int) := by rw [bv_xor, bv_xor]
      have hq2 : bits .xor .u32 (bits .xor .u32 ((ror (R m).a 2).toNat : Int) ((ror (R m).a 13).toNat : Int)) ((ror (R m).a 22).toNat : Int) = ((ror (R m).a 2 ^^^ ror (R m).a 13 ^^^ ror (R m).a 22).toNat : Int) := by rw [bv_xor, bv_xor]
      have HN2 : Hid (R (m + 1) = ⟨(R m).h + (ror (R m).e 6 ^^^ ror (R m).e 11 ^^^ ror (R m).e 25) + cho (R m).e (R m).f (R m).g + k + x + ((ror (R m).a 2 ^^^ ror (R m).a 13 ^^^ ror (R m).a 22) + maj (R m).a (R m).b (R m).c), (R m).a, (R m).b, (R m).c, (R m).d + ((R m).h + (ror (R m).e 6 ^^^ ror (R m).e 11 ^^^ ror (R m).e 25) + cho (R m).e (R m).f (R m).g + k + x), (R m).e, (R m).f, (R m).g⟩) := HN.out
      clear HN
      generalize ror (R m).e 6 ^^^ ror (R m).e 11 ^^^ ror (R m).e 25 = q1 at hq1 HN2
      generalize ror (R m).a 2 ^^^ ror (R m).a 13 ^^^ ror (R m).a 22 = q2 at hq2 HN2
      generalize cho (R m).e (R m).f (R m).g = ch at RC HN2
      generalize maj (R m).a (R m).b (R m).c = mj at RM HN2
      generalize ror (R m).e 6 = r6 at R6 hq1
      generalize ror (R m).e 11 = r11 at R11 hq1
      generalize ror (R m).e 25 = r25 at R25 hq1
      generalize ror (R m).a 2 = r2 at R2 hq2
      generalize ror (R m).a 13 = r13 at R13 hq2
      generalize ror (R m).a 22 = r22 at R22 hq2
      generalize (R m).a = ya at d0 R2 R13 R22 RM HN2
      generalize (R m).b = yb at d1 RM HN2
      generalize (R m).c = yc at d2 RM HN2
      generalize (R m).d = yd at d3 HN2
      generalize (R m).e = ye at d4 R6 R11 R25 RC HN2
      generalize (R m).f = yf at d5 RC HN2
      generalize (R m).g = yg at d6 RC HN2
      generalize (R m).h = yh at d7 HN2
      have ht : ((yh.toNat : Int) + (q1.toNat : Int) + (ch.toNat : Int) + (k.toNat : Int) + (x.toNat : Int)) % 4294967296 = ((yh + q1 + ch + k + x).toNat : Int) := add5w yh q1 ch k x
      have hu := bm_add q2 mj
      have htu := bm_add (yh + q1 + ch + k + x) (q2 + mj)
      have hdt := bm_add yd (yh + q1 + ch + k + x)
      have ht2 := ht
      have hu2 := hu
      have htu2 := htu
      have hdt2 := hdt
      generalize yh + q1 + ch + k + x = t at ht htu hdt ht2 htu2 hdt2 HN2
      generalize q2 + mj = u at hu htu hu2 htu2 HN2
      generalize t + u = tu at htu htu2 HN2
      generalize yd + t = dt at hdt hdt2 HN2
      have um : (m : Int) < 64 := by omega
      clear h3 h0 h2 hz
      go_wp2_with fail
      go_quiet (fail)
      have x10 : (wr.drewN nq).cell? ⟨vb, 0, none⟩ = some (.int .u32 (ya.toNat : Int)) := d0
      have x11 : (wr.drewN nq).cell? ⟨vb, 1, none⟩ = some (.int .u32 (yb.toNat : Int)) := d1
      have x12 : (wr.drewN nq).cell? ⟨vb, 2, none⟩ = some (.int .u32 (yc.toNat : Int)) := d2
      have x13 : (wr.drewN nq).cell? ⟨vb, 3, none⟩ = some (.int .u32 (yd.toNat : Int)) := d3
      have x14 : (wr.drewN nq).cell? ⟨vb, 4, none⟩ = some (.int .u32 (ye.toNat : Int)) := d4
      have x15 : (wr.drewN nq).cell? ⟨vb, 5, none⟩ = some (.int .u32 (yf.toNat : Int)) := d5
      have x16 : (wr.drewN nq).cell? ⟨vb, 6, none⟩ = some (.int .u32 (yg.toNat : Int)) := d6
      have x17 : (wr.drewN nq).cell? ⟨vb, 7, none⟩ = some (.int .u32 (yh.toNat : Int)) := d7
      have x1r : (wr.drewN nq).cell? ⟨0, m, none⟩ = some (.int .u32 (k.toNat : Int)) := hrk
      have H3_1 : Hid ((wr.drewN nq).heap[vb]? = _) := H3.out
      have H0_1 : Hid ((wr.drewN nq).heap[w.heap.size]? = _) := H0.out
      have H2_1 : Hid ((wr.drewN nq).heap[w.heap.size + 2]? = _) := H2.out
      have hbl_1 : Below w.heap.size w (wr.drewN nq) := hbl.trans ((below_dn wr nq).mono hbl.size)
      clear d0 d1 d2 d3 d4 d5 d6 d7 hrk H3 H0 H2 hbl
      generalize wr.drewN nq = V1 at x10 x11 x12 x13 x14 x15 x16 x17 x1r H3_1 H0_1 H2_1 hbl_1 ⊢
      go_wp2_with fail
      go_quiet (first
        | (go_at_call 100; exact (RC.out _).mono fun _ _ hh => ⟨hh.1, _, hh.2⟩)
        | (go_at_call 99; with_reducible refine (R6.out _).mono ?_; exact fun _ _ hh => ⟨hh.1, hh.2.elim fun j hj => ⟨_, hj.trans (drew_add _ _ _)⟩⟩)
        | (go_at_call 99; with_reducible refine (R11.out _).mono ?_; exact fun _ _ hh => ⟨hh.1, hh.2.elim fun j hj => ⟨_, hj.trans (drew_add _ _ _)⟩⟩)
        | (go_at_call 99; with_reducible refine (R25.out _).mono ?_; exact fun _ _ hh => ⟨hh.1, hh.2.elim fun j hj => ⟨_, hj.trans (drew_add _ _ _)⟩⟩))
      have x20 : (V1.drewN nq).cell? ⟨vb, 0, none⟩ = some (.int .u32 (ya.toNat : Int)) := x10
      have x21 : (V1.drewN nq).cell? ⟨vb, 1, none⟩ = some (.int .u32 (yb.toNat : Int)) := x11
      have x22 : (V1.drewN nq).cell? ⟨vb, 2, none⟩ = some (.int .u32 (yc.toNat : Int)) := x12
      have x23 : (V1.drewN nq).cell? ⟨vb, 3, none⟩ = some (.int .u32 (yd.toNat : Int)) := x13
      have x24 : (V1.drewN nq).cell? ⟨vb, 4, none⟩ = some (.int .u32 (ye.toNat : Int)) := x14
      have x25 : (V1.drewN nq).cell? ⟨vb, 5, none⟩ = some (.int .u32 (yf.toNat : Int)) := x15
      have x26 : (V1.drewN nq).cell? ⟨vb, 6, none⟩ = some (.int .u32 (yg.toNat : Int)) := x16
      have x27 : (V1.drewN nq).cell? ⟨vb, 7, none⟩ = some (.int .u32 (yh.toNat : Int)) := x17
      have x2r : (V1.drewN nq).cell? ⟨0, m, none⟩ = some (.int .u32 (k.toNat : Int)) := x1r
      have H3_2 : Hid ((V1.drewN nq).heap[vb]? = _) := H3_1.out
      have H0_2 : Hid ((V1.drewN nq).heap[w.heap.size]? = _) := H0_1.out
      have H2_2 : Hid ((V1.drewN nq).heap[w.heap.size + 2]? = _) := H2_1.out
      have hbl_2 : Below w.heap.size w (V1.drewN nq) := hbl_1.trans ((below_dn V1 nq).mono hbl_1.size)
      clear x10 x11 x12 x13 x14 x15 x16 x17 x1r H3_1 H0_1 H2_1 hbl_1
      generalize V1.drewN nq = V2 at x20 x21 x22 x23 x24 x25 x26 x27 x2r H3_2 H0_2 H2_2 hbl_2 ⊢
      go_wp2_with fail
      go_quiet (first
        | (go_at_call 101; exact (RM.out _).mono fun _ _ hh => ⟨hh.1, _, hh.2⟩)
        | (go_at_call 99; with_reducible refine (R2.out _).mono ?_; exact fun _ _ hh => ⟨hh.1, hh.2.elim fun j hj => ⟨_, hj.trans (drew_add _ _ _)⟩⟩)
        | (go_at_call 99; with_reducible refine (R13.out _).mono ?_; exact fun _ _ hh => ⟨hh.1, hh.2.elim fun j hj => ⟨_, hj.trans (drew_add _ _ _)⟩⟩)
        | (go_at_call 99; with_reducible refine (R22.out _).mono ?_; exact fun _ _ hh => ⟨hh.1, hh.2.elim fun j hj => ⟨_, hj.trans (drew_add _ _ _)⟩⟩))
      have x30 : (V2.drewN nq).cell? ⟨vb, 0, none⟩ = some (.int .u32 (ya.toNat : Int)) := x20
      have x31 : (V2.drewN nq).cell? ⟨vb, 1, none⟩ = some (.int .u32 (yb.toNat : Int)) := x21
      have x32 : (V2.drewN nq).cell? ⟨vb, 2, none⟩ = some (.int .u32 (yc.toNat : Int)) := x22
      have x33 : (V2.drewN nq).cell? ⟨vb, 3, none⟩ = some (.int .u32 (yd.toNat : Int)) := x23
      have x34 : (V2.drewN nq).cell? ⟨vb, 4, none⟩ = some (.int .u32 (ye.toNat : Int)) := x24
      have x35 : (V2.drewN nq).cell? ⟨vb, 5, none⟩ = some (.int .u32 (yf.toNat : Int)) := x25
      have x36 : (V2.drewN nq).cell? ⟨vb, 6, none⟩ = some (.int .u32 (yg.toNat : Int)) := x26
      have x37 : (V2.drewN nq).cell? ⟨vb, 7, none⟩ = some (.int .u32 (yh.toNat : Int)) := x27
      have x3r : (V2.drewN nq).cell? ⟨0, m, none⟩ = some (.int .u32 (k.toNat : Int)) := x2r
      have H3_3 : Hid ((V2.drewN nq).heap[vb]? = _) := H3_2.out
      have H0_3 : Hid ((V2.drewN nq).heap[w.heap.size]? = _) := H0_2.out
      have H2_3 : Hid ((V2.drewN nq).heap[w.heap.size + 2]? = _) := H2_2.out
      have hbl_3 : Below w.heap.size w (V2.drewN nq) := hbl_2.trans ((below_dn V2 nq).mono hbl_2.size)
      clear x20 x21 x22 x23 x24 x25 x26 x27 x2r H3_2 H0_2 H2_2 hbl_2
      generalize V2.drewN nq = V3 at x30 x31 x32 x33 x34 x35 x36 x37 x3r H3_3 H0_3 H2_3 hbl_3 ⊢
      have z0 : V3.frozen? ⟨vb, 0, none⟩ = false := (cells_at H3_3.out (j := 0) rfl).2
      have z1 : V3.frozen? ⟨vb, 1, none⟩ = false := (cells_at H3_3.out (j := 1) rfl).2
      have z2 : V3.frozen? ⟨vb, 2, none⟩ = false := (cells_at H3_3.out (j := 2) rfl).2
      have z3 : V3.frozen? ⟨vb, 3, none⟩ = false := (cells_at H3_3.out (j := 3) rfl).2
      have z4 : V3.frozen? ⟨vb, 4, none⟩ = false := (cells_at H3_3.out (j := 4) rfl).2
      have z5 : V3.frozen? ⟨vb, 5, none⟩ = false := (cells_at H3_3.out (j := 5) rfl).2
      have z6 : V3.frozen? ⟨vb, 6, none⟩ = false := (cells_at H3_3.out (j := 6) rfl).2
      have z7 : V3.frozen? ⟨vb, 7, none⟩ = false := (cells_at H3_3.out (j := 7) rfl).2
      clear ht hu htu hdt
      have HT2 := Hid.mk (And.intro ht2 (And.intro hu2 (And.intro htu2 hdt2)))
      clear ht2 hu2 htu2 hdt2
      go_wp2
      go_roundw
      case rel =>
        obtain ⟨ht2, hu2, htu2, hdt2⟩ := HT2.out
        refine ⟨m + 1, by omega, by go_num, ?_, ?_, ⟨z, HZ.out, ?_⟩, ?_⟩
        · refine (put8 H3_3.out rfl).trans ?_
          rw [HN2.out]
          exact arr8_eq (by omega) (by omega)
        · exact (put8_other _ (by omega)).trans H0_3.out
        · exact (put8_other _ (by omega)).trans H2_3.out
        · exact put8_below hbl_3 (by omega)
      case measure => simp [intOf]; omega
    · obtain rfl : m = 64 := by omega
      clear h3 h0 h2 hz
      obtain ⟨r, hr⟩ : ∃ r, r = (R 64).l := ⟨_, rfl⟩
      have hrl : r.length = 8 := by rw [hr]; rfl
      have hsl : s.l.length = 8 := rfl
      have HRL := Hid.mk hrl
      have HSL := Hid.mk hsl
      have K3 : Hid (wr.heap[vb]? = some (.cells (wc r) 107 (0, 0))) := by rw [hr]; exact H3.out
      have HRR := Hid.mk hr
      clear hr hrl hsl H3 HRs HR0 HWL
      go_wp2_with fail
      go_loopw [82] (fun i w2 => ∃ n : Nat, n ≤ 8 ∧ i = .int .i64 n ∧ w2.heap[vb]? = some (.cells (wc r) 107 (0, 0)) ∧ w2.heap[w.heap.size]? = some (.cells (wc (mix s.l r n)) 107 (0, 0)) ∧ w2.heap[w.heap.size + 2]? = some (.cells z 107 (0, 0)) ∧ Below w.heap.size w w2) (fun i _ => 8 - (intOf i).toNat)
      case atStart => exact ⟨0, by omega, rfl, K3.out, H0.out, H2.out, hbl⟩
      case round =>
        obtain ⟨n, hn, rfl, g3, g0, g2, hbl2⟩ := hrel
        have G3 := Hid.mk g3
        have G0 := Hid.mk g0
        have G2 := Hid.mk g2
        by_cases hlt2 : n < 8
        · obtain ⟨c1, f1'⟩ := mix_free HSL.out HRL.out hlt2 g0
          have c2 : wr.cell? ⟨vb, n, none⟩ = some (.int .u32 ((r[n]?.getD 0).toNat : Int)) := (cells_at g3 (by rw [wc_at, List.getElem?_eq_getElem (by have := HRL.out; omega)]; rfl)).1
          have HM := Hid.mk (mix_set s.l r HSL.out HRL.out n hlt2)
          generalize s.l[n]?.getD 0 = x at c1 HM
          generalize r[n]?.getD 0 = y at c2 HM
          have hxy := bm_add x y
          have i0 : (0 : Int) ≤ (n : Int) := by omega
          have i8 : (n : Int) < 8 := by omega
          clear g3 g0 g2
          go_wp2_with fail
          go_region
          all_goals (
            have hrelN : ∃ n1 : Nat, n1 ≤ 8 ∧ Value.int .i64 ((n : Int) + 1) = .int .i64 n1 ∧ (wr.setCell ⟨w.heap.size, n, none⟩ (.int .u32 (((x.toNat : Int) + (y.toNat : Int)) % 4294967296))).drew.heap[vb]? = some (.cells (wc r) 107 (0, 0)) ∧ (wr.setCell ⟨w.heap.size, n, none⟩ (.int .u32 (((x.toNat : Int) + (y.toNat : Int)) % 4294967296))).drew.heap[w.heap.size]? = some (.cells (wc (mix s.l r n1)) 107 (0, 0)) ∧ (wr.setCell ⟨w.heap.size, n, none⟩ (.int .u32 (((x.toNat : Int) + (y.toNat : Int)) % 4294967296))).drew.heap[w.heap.size + 2]? = some (.cells z 107 (0, 0)) ∧ Below w.heap.size w (wr.setCell ⟨w.heap.size, n, none⟩ (.int .u32 (((x.toNat : Int) + (y.toNat : Int)) % 4294967296))).drew := by
              rw [hxy]
              refine ⟨n + 1, by omega, by go_num, ?_, ?_, ?_, (Below.setCell hbl2 (Nat.le_refl _) _).drew⟩
              · exact (Below.heap_setCell wr ⟨w.heap.size, n, none⟩ _ vb (by show vb ≠ w.heap.size; omega)).trans G3.out
              · refine (cells_put (j := n) G0.out (.int .u32 ((x + y).toNat : Int))).trans ?_
                rw [wc_set, HM.out]
              · exact (Below.heap_setCell wr ⟨w.heap.size, n, none⟩ _ (w.heap.size + 2) (by show w.heap.size + 2 ≠ w.heap.size; omega)).trans G2.out
            clear hxy
            go_wp2
            go_roundw
            case rel =>
              (repeat apply Exists.intro)
              exact ⟨hrelN, rfl⟩
            case measure => simp [intOf]; omega)
        · obtain rfl : n = 8 := by omega
          rw [HRR.out] at G0
          clear g3 g0 g2
          have hml := mix_len s.l (R 64).l HSL.out (by rfl) 8 (by omega)
          go_upto_region 15 with fail
          refine wp_region_lit ?_
          refine wpList_run (W' := wr) (v := .agg (wc (mix s.l (R 64).l 8))) rfl (op_load arr43 G0.out (by rw [wc_size]; exact hml) rfl rfl) ?_
          refine wpList_runS rfl (op_store arr43 G2.out HZ.out (by rw [wc_size]; exact hml) (wc_one _) rfl rfl rfl) ?_
          go_wp2
          refine bodyPost_ret (v := .agg (wc (mix s.l (R 64).l 8))) (results_cell1 arr43 Tryz.results77 rfl (setRow_heap _ _ _ _ _ _ G2.out) (by rw [wc_size]; exact hml)) rfl ⟨rfl, Below.setRow hbl2 (by omega) _⟩
theorem stir2_in (s : S8) (l : List UInt8) (hl : l.length = 64) (w : World) (hG : Rk w) :
    Calls Tryz.prog 77 #[.agg (wc s.l), .agg (bc l)] w fun x w' => x = .returned (.agg (wc (stir2 s l).l)) ∧ Below w.heap.size w w' :=
  stir2_gen s l hl (sch2 l 64) (sch2_len l 64) (fun m => rn2 (sch2 l 64) m s) rfl (fun m => rfl) (spread256_in l hl) w hG
end Go.Proofs.YtpimliebiapnfaaGreatDoor.G
/- Sum256. -/
namespace Go.Proofs.YtpimliebiapnfaaGreatDoor.G
set_option linter.unusedVariables false
open Go.RowKit
theorem cells8 {W : World} {b t : Nat} (s : S8) (h : W.heap[b]? = some (.cells (wc s.l) t (0, 0))) :
    (W.cell? ⟨b, 0, none⟩ = some (.int .u32 (s.a.toNat : Int)) ∧ W.cell? ⟨b, 1, none⟩ = some (.int .u32 (s.b.toNat : Int)) ∧ W.cell? ⟨b, 2, none⟩ = some (.int .u32 (s.c.toNat : Int)) ∧ W.cell? ⟨b, 3, none⟩ = some (.int .u32 (s.d.toNat : Int)) ∧ W.cell? ⟨b, 4, none⟩ = some (.int .u32 (s.e.toNat : Int)) ∧ W.cell? ⟨b, 5, none⟩ = some (.int .u32 (s.f.toNat : Int)) ∧ W.cell? ⟨b, 6, none⟩ = some (.int .u32 (s.g.toNat : Int)) ∧ W.cell? ⟨b, 7, none⟩ = some (.int .u32 (s.h.toNat : Int))) ∧
    (W.frozen? ⟨b, 0, none⟩ = false ∧ W.frozen? ⟨b, 1, none⟩ = false ∧ W.frozen? ⟨b, 2, none⟩ = false ∧ W.frozen? ⟨b, 3, none⟩ = false ∧ W.frozen? ⟨b, 4, none⟩ = false ∧ W.frozen? ⟨b, 5, none⟩ = false ∧ W.frozen? ⟨b, 6, none⟩ = false ∧ W.frozen? ⟨b, 7, none⟩ = false) :=
  ⟨s.at h, (cells_at h (j := 0) rfl).2, (cells_at h (j := 1) rfl).2, (cells_at h (j := 2) rfl).2, (cells_at h (j := 3) rfl).2, (cells_at h (j := 4) rfl).2, (cells_at h (j := 5) rfl).2, (cells_at h (j := 6) rfl).2, (cells_at h (j := 7) rfl).2⟩
set_option maxRecDepth 100000 in
set_option maxHeartbeats 2000000 in
theorem sum2_gen (s : ByteArray) (hs : s.size ≤ 140737488355328) (n : Nat) (hn : n = nb s.size) (B : Nat → List UInt8) (hB : ∀ k, (B k).length = 64) (R : Nat → S8) (hR0 : R 0 = ⟨0x6a09e667#32, 0xbb67ae85#32, 0x3c6ef372#32, 0xa54ff53a#32, 0x510e527f#32, 0x9b05688c#32, 0x1f83d9ab#32, 0x5be0cd19#32⟩) (hRs : ∀ k, R (k + 1) = stir2 (R k) (B k))
    (hbk : ∀ k, k < n → ∀ w : World, Calls Tryz.prog 78 #[.string s, .int .i64 (k : Int)] w fun e w' => e = .returned (.agg (bc (B k))) ∧ Below w.heap.size w w')
    (T : List UInt8) (hT : ∀ (W : World) (b : Nat), W.heap[b]? = some (.cells (wc (R n).l) 107 (0, 0)) → Calls Tryz.prog 79 #[.slice (some ⟨b, 0, none⟩) 8 8] W fun e w' => e = .returned (.string ⟨T.toArray⟩) ∧ Below W.heap.size W w') (w : World) (hG : Rk w) :
    Calls Tryz.prog 41 #[.string s] w fun e w' => e = .returned (.string ⟨T.toArray⟩) ∧ Below w.heap.size w w' := by
  have HN : Hid (n = nb s.size) := hn
  have HB := Hid.mk hB
  have HR0 := Hid.mk hR0
  have HRs := Hid.mk hRs
  have HBK := Hid.mk hbk
  have HT := Hid.mk hT
  have HG := Hid.mk hG
  have hnb : n ≤ 2199023255553 := by rw [hn]; unfold nb; omega
  have HBL := Hid.mk (blocks_in s.size hs)
  rw [← hn] at HBL
  clear hn hB hR0 hRs hbk hT hG
  go_enter Tryz.func41, Tryz.ntmps41
  go_wp2_with fail
  refine (HBL.out _).mono ?_
  rintro e W1 ⟨rfl, rfl⟩
  go_wp2_with fail
  go_loopw [9] (fun i wr => ∃ m : Nat, m ≤ n ∧ i = .int .i64 m ∧ wr.heap[w.heap.size]? = some (.cells (wc (R m).l) 107 (0, 0)) ∧ Below w.heap.size w wr) (fun i _ => n - (intOf i).toNat)
  case atStart =>
    refine ⟨0, by omega, rfl, ?_, (Below.refl _ _).alloc (Nat.le_refl _) _⟩
    rw [HR0.out, heap_new]
    rfl
  case round =>
    obtain ⟨m, hm, rfl, h1, hbl⟩ := hrel
    have H1 := Hid.mk h1
    by_cases hlt : m < n
    · have HST : Hid (∀ W : World, Rk W → Calls Tryz.prog 77 #[.agg #[.int .u32 ((R m).a.toNat : Int), .int .u32 ((R m).b.toNat : Int), .int .u32 ((R m).c.toNat : Int), .int .u32 ((R m).d.toNat : Int), .int .u32 ((R m).e.toNat : Int), .int .u32 ((R m).f.toNat : Int), .int .u32 ((R m).g.toNat : Int), .int .u32 ((R m).h.toNat : Int)], .agg (bc (B m))] W fun x w' => x = .returned (.agg #[.int .u32 ((R (m + 1)).a.toNat : Int), .int .u32 ((R (m + 1)).b.toNat : Int), .int .u32 ((R (m + 1)).c.toNat : Int), .int .u32 ((R (m + 1)).d.toNat : Int), .int .u32 ((R (m + 1)).e.toNat : Int), .int .u32 ((R (m + 1)).f.toNat : Int), .int .u32 ((R (m + 1)).g.toNat : Int), .int .u32 ((R (m + 1)).h.toNat : Int)]) ∧ Below W.heap.size W w') := fun W hk => by
        rw [HRs.out m]
        exact stir2_in (R m) (B m) (HB.out m) W hk
      have HBM := Hid.mk (HBK.out m hlt)
      obtain ⟨⟨c0, c1, c2, c3, c4, c5, c6, c7⟩, f0, f1', f2, f3, f4, f5, f6, f7⟩ := cells8 (R m) h1
      clear h1
      go_wp2_with fail
      go_region_with (first
        | (have hck := M1; clear hck; go_at_call 77; refine (HST.out _ (HG.out.below (bthen hbl.drew hb1))).mono ?_; rintro e w2 ⟨rfl, hb2⟩; have K2 : Hid (w2.heap[w.heap.size]? = _) := (hb2.block _ (box_lt K1.out)).trans K1.out; obtain ⟨⟨e0, e1, e2, e3, e4, e5, e6, e7⟩, g0, g1, g2, g3, g4, g5, g6, g7⟩ := cells8 (R m) K2.out)
        | (go_at_call 78; refine (HBM.out _).mono ?_; rintro e w1 ⟨rfl, hb1⟩; have K1 : Hid (w1.heap[w.heap.size]? = _) := (hb1.block _ (box_lt H1.out)).trans H1.out; obtain ⟨⟨d0, d1, d2, d3, d4, d5, d6, d7⟩, j0, j1, j2, j3, j4, j5, j6, j7⟩ := cells8 (R m) K1.out; have M1 : True := trivial))
      all_goals (
        have hbw : Below w.heap.size w w2 := bthen (bthen hbl.drew hb1) hb2
        clear hb1 hb2 K1 d0 d1 d2 d3 d4 d5 d6 d7 j0 j1 j2 j3 j4 j5 j6 j7 e0 e1 e2 e3 e4 e5 e6 e7 g0 g1 g2 g3 g4 g5 g6 g7 c0 c1 c2 c3 c4 c5 c6 c7 f0 f1' f2 f3 f4 f5 f6 f7
        go_wp2
        go_roundw
        case rel => exact ⟨m + 1, by omega, by go_num, put8 K2.out rfl, put8_below hbw (Nat.le_refl _)⟩
        case measure => simp [intOf]; omega)
    · obtain rfl : m = n := by omega
      have HTT := Hid.mk (HT.out wr w.heap.size H1.out)
      clear h1
      go_wp2_with fail
      refine HTT.out.mono ?_
      rintro e w3 ⟨rfl, hb3⟩
      go_wp2
      go_ret
      exact ⟨rfl, bthen hbl hb3⟩
end Go.Proofs.YtpimliebiapnfaaGreatDoor.G
/- bytesOf; the document's tell. -/
namespace Go.Proofs.YtpimliebiapnfaaGreatDoor.G
set_option linter.unusedVariables false
open Go.RowKit
theorem info5 : (Tryz.prog.info? 5).map (fun i => (i.zero, i.size, i.bytes)) = some (some (.int .u8 0), 1, 1) := by kernel_rfl
theorem info_of {t : Nat} {z : Value} {n b : Nat} (h : (Tryz.prog.info? t).map (fun i => (i.zero, i.size, i.bytes)) = some (some z, n, b)) : ∃ i0, Tryz.prog.info? t = some i0 ∧ i0.zero = some z ∧ i0.size = n ∧ i0.bytes = b := by
  cases hq : Tryz.prog.info? t with
  | none => simp [hq] at h
  | some i => exact ⟨i, rfl, by simp [hq] at h; exact h.1, by simp [hq] at h; exact h.2.1, by simp [hq] at h; exact h.2.2⟩
def bcl (l : List UInt8) : List Value := l.map fun c => Value.int .u8 (c.toNat : Int)
theorem bcl_app (a b : List UInt8) : bcl (a ++ b) = bcl a ++ bcl b := by simp [bcl]
theorem addr_at (b j : Nat) : (⟨b, 0, none⟩ : Addr).add j = ⟨b, j, none⟩ := by unfold Addr.add; split <;> simp_all
theorem cells_new (W : World) (cs : Array Value) (t : TypeId) (j : Nat) (u : Value) (h : cs.toList[j]? = some u) : (W.alloc (.cells cs t)).cell? ((⟨W.heap.size, 0, none⟩ : Addr).add j) = some u := by
  rw [addr_at]
  have hh : (W.alloc (.cells cs t)).heap[W.heap.size]? = some (.cells cs t) := heap_new W _
  simp only [World.cell?, hh]
  simpa using h
theorem bt_int (n k : Nat) : ((bt n k).toNat : Int) = (n : Int) / 2 ^ (8 * k) % 256 := by
  rw [bt, UInt8.toNat_ofNat', show (n : Int) / 2 ^ (8 * k) = ((n / 2 ^ (8 * k) : Nat) : Int) by rw [Int.natCast_ediv, Int.natCast_pow]; rfl]
  generalize n / 2 ^ (8 * k) = q
  omega
theorem bcl_b4 (x : BitVec 32) : bcl (b4 x) = [.int .u8 ((x.toNat : Int) / 16777216), .int .u8 ((x.toNat : Int) / 65536 % 256), .int .u8 ((x.toNat : Int) / 256 % 256), .int .u8 ((x.toNat : Int) % 256)] := by
  have hx := bv_lt x
  have e3 : ((bt x.toNat 3).toNat : Int) = (x.toNat : Int) / 16777216 := by rw [bt_int]; simp only [Nat.reduceMul, Int.reducePow]; omega
  have e2 : ((bt x.toNat 2).toNat : Int) = (x.toNat : Int) / 65536 % 256 := by rw [bt_int]; simp only [Nat.reduceMul, Int.reducePow]
  have e1 : ((bt x.toNat 1).toNat : Int) = (x.toNat : Int) / 256 % 256 := by rw [bt_int]; simp only [Nat.reduceMul, Int.reducePow]
  have e0 : ((bt x.toNat 0).toNat : Int) = (x.toNat : Int) % 256 := by rw [bt_int]; simp only [Nat.reduceMul, Int.reducePow]; omega
  simp only [bcl, b4, List.map_cons, List.map_nil, e3, e2, e1, e0]
theorem flat_len : ∀ (p : List (BitVec 32)) (n : Nat), p.length = n → (p.flatMap b4).length = 4 * n
  | [], n, h => by subst h; rfl
  | x :: p, n, h => by
    subst h
    rw [List.flatMap_cons, List.length_append, flat_len p p.length rfl]
    simp only [b4, List.length_cons, List.length_nil]
    omega
theorem own_back {w : World} {base g n cap : Nat} {l : List UInt8} (h : w.ownsRow base 5 1 (.slice (some ⟨g, 0, none⟩) n cap) n (bcl l)) (hl : l.length = n) :
    (convert 90 9 (.slice (some ⟨g, 0, none⟩) n cap)).run Tryz.prog w = .ok (.string ⟨l.toArray⟩) w := by
  subst hl
  refine run_convert_bytes_back (P := Tryz.prog) w 90 9 5 ⟨g, 0, none⟩ cap l Tryz.underlying90 Tryz.underlying5 Tryz.underlying9 (fun j hj => ?_)
  rw [addr_at, h.cellAt j (by omega)]
  simp [bcl, hj]
set_option maxRecDepth 100000 in
theorem bytesOf_in (W : World) (b t : Nat) (p : List (BitVec 32)) (hp : p.length ≤ 100) (h : W.heap[b]? = some (.cells (wc p) t (0, 0))) :
    Calls Tryz.prog 79 #[.slice (some ⟨b, 0, none⟩) p.length p.length] W fun e w' => e = .returned (.string ⟨(p.flatMap b4).toArray⟩) ∧ Below W.heap.size W w' := by
  obtain ⟨i0, hi, hz0, hz1, hz2⟩ := info_of info5
  obtain ⟨n, hn⟩ : ∃ n, p.length = n := ⟨_, rfl⟩
  have HP : Hid (p.length = n) := hn
  have hn2 : n ≤ 100 := by omega
  have H := Hid.mk h
  rw [hn]
  clear hn hp h
  go_enter Tryz.func79, Tryz.ntmps79
  go_wp2_with (at_make; refine wpList_make_own _ rfl _ _ 90 rfl W.heap.size 5 i0 (.int .u8 0) 1 Tryz.underlying90 hi hz0 hz1 _ _ _ (4 * n) rfl rfl (by omega) (by rw [hz2]; omega) (by unfold maxLen; omega) (Nat.le_refl _) ?_; intro w1 hown1 hgrow1)
  have B1 : Below W.heap.size W w1 := (Below.refl _ _).grown hgrow1 (Nat.le_refl _) (by simp)
  have K1 : w1.heap[b]? = some (.cells (wc p) t (0, 0)) := (B1.block b (box_lt H.out)).trans H.out
  have HK1 := Hid.mk K1
  have HO1 := Hid.mk hown1
  clear K1 hown1 hgrow1
  go_loopw [3, 12] (fun v i wr => ∃ m : Nat, m ≤ n ∧ i = .int .i64 m ∧ v = .slice (some ⟨W.heap.size, 0, none⟩) (4 * m) (4 * n) ∧ wr.ownsRow W.heap.size 5 1 (.slice (some ⟨W.heap.size, 0, none⟩) (4 * m) (4 * n)) (4 * m) (bcl ((p.take m).flatMap b4)) ∧ wr.heap[b]? = some (.cells (wc p) t (0, 0)) ∧ Below W.heap.size W wr) (fun _ i _ => n - (intOf i).toNat)
  case atStart => exact ⟨0, by omega, rfl, rfl, HO1.out, HK1.out, B1⟩
  case round =>
    obtain ⟨m, hm, rfl, rfl, hown, hk, hbl⟩ := hrel
    have HO := Hid.mk hown
    have HK := Hid.mk hk
    by_cases hlt : m < n
    · have hc : wr.cell? ⟨b, m, none⟩ = some (.int .u32 ((p[m]?.getD 0).toNat : Int)) := (cells_at hk (by rw [wc_at, List.getElem?_eq_getElem (by have := HP.out; omega)]; rfl)).1
      have HN : Hid ((p.take (m + 1)).flatMap b4 = (p.take m).flatMap b4 ++ b4 (p[m]?.getD 0)) := by
        rw [Hid, List.take_add_one, List.flatMap_append, List.getElem?_eq_getElem (by have := HP.out; omega)]
        simp
      generalize p[m]?.getD 0 = x at hc HN
      have hxl := bv_lt x
      clear hown hk
      have HB4 : Hid (bcl (b4 x) = [.int .u8 ((x.toNat : Int) / 16777216), .int .u8 ((x.toNat : Int) / 65536 % 256), .int .u8 ((x.toNat : Int) / 256 % 256), .int .u8 ((x.toNat : Int) % 256)]) := bcl_b4 x
      have hwb : b < W.heap.size := box_lt H.out
      go_wp2_with (at_builtin; refine wpList_append_fits _ rfl _ _ 90 rfl W.heap.size 5 i0 1 Tryz.underlying90 hi hz1 W.heap.size (4 * m) (4 * n) _ rfl (HO.out.alloc _) ⟨wr.heap.size, 0, none⟩ 4 4 [.int .u8 ((x.toNat : Int) / 16777216), .int .u8 ((x.toNat : Int) / 65536 % 256), .int .u8 ((x.toNat : Int) / 256 % 256), .int .u8 ((x.toNat : Int) % 256)] rfl rfl (fun j u h => cells_new wr _ 5 j u h) (by simp [Value.oneCell']) (by omega) ?_; intro w2 hown2 hgrow2)
      have B2 : Below W.heap.size W w2 := (hbl.alloc hbl.size _).grown hgrow2 (Nat.le_trans hbl.size (by simp)) (by intro k hk; cases hk; exact Nat.le_refl _)
      go_roundw
      case rel =>
        refine ⟨m + 1, by omega, by go_num, rfl, ?_, (B2.block b hwb).trans H.out, B2⟩
        rw [HN.out, bcl_app, HB4.out]
        exact hown2
      case measure => simp [intOf]; omega
    · obtain rfl : m = n := by omega
      have hcv := own_back HO.out (by rw [List.take_of_length_le (Nat.le_of_eq HP.out)]; exact flat_len p m HP.out)
      rw [List.take_of_length_le (Nat.le_of_eq HP.out)] at hcv
      clear hown hk
      go_wp2
      go_ret
      exact ⟨rfl, hbl⟩
theorem sum2_in (s : ByteArray) (hs : s.size ≤ 140737488355328) (w : World) (hG : Rk w) :
    Calls Tryz.prog 41 #[.string s] w fun e w' => e = .returned (.string ⟨(sha2 s.data.toList).toArray⟩) ∧ Below w.heap.size w w' :=
  sum2_gen s hs (nb s.size) rfl (blk s.data.toList) (blk_len _) (go2 s.data.toList) rfl (fun k => rfl) (fun k hk w => blockOf_in s k hs hk w) (sha2 s.data.toList)
    (fun W b h => bytesOf_in W b 107 (go2 s.data.toList (nb s.size)).l (by show 8 ≤ 100; omega) h) w hG
end Go.Proofs.YtpimliebiapnfaaGreatDoor.G
/- counts, regrouped. -/
namespace Go.Proofs.YtpimliebiapnfaaGreatDoor.G
set_option linter.unusedVariables false
open Go.RowKit
def cnt (c : UInt8) : UInt8 := if 48 ≤ c.toNat ∧ c.toNat ≤ 57 then UInt8.ofNat (c.toNat - 48) else if 97 ≤ c.toNat ∧ c.toNat ≤ 118 then UInt8.ofNat (c.toNat - 87) else if 65 ≤ c.toNat ∧ c.toNat ≤ 86 then UInt8.ofNat (c.toNat - 55) else 255
theorem counts_in (c : UInt8) (w : World) : Calls Tryz.prog 92 #[.int .u8 (c.toNat : Int)] w fun e w' => e = .returned (.int .u8 ((cnt c).toNat : Int)) ∧ w' = w := by
  have hc := c.toNat_lt
  unfold cnt
  by_cases h1 : 48 ≤ c.toNat ∧ c.toNat ≤ 57
  · obtain ⟨a1, a2⟩ := h1
    rw [if_pos ⟨a1, a2⟩]
    go_enter Tryz.func92, Tryz.ntmps92
    go_wp2
    go_ret
    exact ⟨ret_int (by first | omega | (rw [UInt8.toNat_ofNat']; omega)), rfl⟩
  · rw [if_neg h1]
    by_cases h2 : 97 ≤ c.toNat ∧ c.toNat ≤ 118
    · obtain ⟨a1, a2⟩ := h2
      have b1 : (57 : Int) < (c.toNat : Int) := by omega
      rw [if_pos ⟨a1, a2⟩]
      clear h1
      go_enter Tryz.func92, Tryz.ntmps92
      go_wp2
      go_ret
      exact ⟨ret_int (by first | omega | (rw [UInt8.toNat_ofNat']; omega)), rfl⟩
    · rw [if_neg h2]
      by_cases h3 : 65 ≤ c.toNat ∧ c.toNat ≤ 86
      · obtain ⟨a1, a2⟩ := h3
        have b1 : (57 : Int) < (c.toNat : Int) := by omega
        have b2 : (c.toNat : Int) < 97 := by omega
        rw [if_pos ⟨a1, a2⟩]
        clear h1 h2
        go_enter Tryz.func92, Tryz.ntmps92
        go_wp2
        go_ret
        exact ⟨ret_int (by first | omega | (rw [UInt8.toNat_ofNat']; omega)), rfl⟩
      · rw [if_neg h3]
        rcases (show c.toNat < 48 ∨ (57 < c.toNat ∧ c.toNat < 65) ∨ (86 < c.toNat ∧ c.toNat < 97) ∨ 118 < c.toNat by omega) with a | ⟨a, b⟩ | ⟨a, b⟩ | a
        all_goals (
          clear h1 h2 h3
          go_enter Tryz.func92, Tryz.ntmps92
          go_wp2
          go_ret
          exact ⟨rfl, rfl⟩)
def fin (tw : Nat) (made : List UInt8) (rest over : Nat) : List UInt8 × Nat × Nat :=
  if h : 0 < tw ∧ tw ≤ over then fin tw (made ++ [UInt8.ofNat (rest / 2 ^ (over - tw))]) (rest % 2 ^ (over - tw)) (over - tw) else (made, rest, over)
termination_by over
def rgs (fr tw : Nat) (st : List UInt8 × Nat × Nat) (g : UInt8) : List UInt8 × Nat × Nat := fin tw st.1 (st.2.1 * 2 ^ fr + g.toNat) (st.2.2 + fr)
def rg (fr tw : Nat) (gs : List UInt8) : List UInt8 × Nat × Nat := gs.foldl (rgs fr tw) ([], 0, 0)
theorem fin_step (tw : Nat) (made : List UInt8) (rest o : Nat) (ht : 0 < tw) : fin tw made rest (o + tw) = fin tw (made ++ [UInt8.ofNat (rest / 2 ^ o)]) (rest % 2 ^ o) o := by
  rw [fin, dif_pos ⟨ht, by omega⟩, Nat.add_sub_cancel]
theorem fin_end (tw : Nat) (made : List UInt8) (rest over : Nat) (h : over < tw) : fin tw made rest over = (made, rest, over) := by
  rw [fin, dif_neg (by omega)]
def rgm (fr tw : Nat) (gs : List UInt8) (m : Nat) : List UInt8 × Nat × Nat := (gs.take m).foldl (rgs fr tw) ([], 0, 0)
theorem rgm_succ (fr tw : Nat) (gs : List UInt8) (m : Nat) (h : m < gs.length) : rgm fr tw gs (m + 1) = rgs fr tw (rgm fr tw gs m) (gs[m]?.getD 0) := by
  unfold rgm
  rw [List.take_add_one, List.foldl_append, List.getElem?_eq_getElem h]
  rfl
theorem rgm_all (fr tw : Nat) (gs : List UInt8) (m : Nat) (h : gs.length = m) : rgm fr tw gs m = rg fr tw gs := by
  unfold rgm rg
  rw [List.take_of_length_le (by omega)]
theorem u16_sum (r g fr : Nat) (hg : g < 2 ^ fr) (h : r * 2 ^ fr + g < 65536) : bits .or .u16 (IntKind.u16.wrap ((r : Int) * 2 ^ fr)) (g : Int) = ((r * 2 ^ fr + g : Nat) : Int) := by
  have hw : IntKind.u16.wrap ((r : Int) * 2 ^ fr) = (r : Int) * 2 ^ fr := by
    rw [show ((r : Int) * 2 ^ fr) = ((r * 2 ^ fr : Nat) : Int) by rw [Int.natCast_mul, Int.natCast_pow]; rfl]
    generalize r * 2 ^ fr = k at h
    simp only [IntKind.wrap, IntKind.bits, IntKind.signed, Bool.false_and, Bool.false_eq_true, if_false]
    omega
  rw [hw, show ((r : Int) * 2 ^ fr) = ((r * 2 ^ fr : Nat) : Int) by rw [Int.natCast_mul, Int.natCast_pow]; rfl, u16_or_nat _ _ (by omega) (by omega), Nat.mul_comm, or_sum fr r g hg]
theorem u16_low (r o : Nat) (hr : r < 65536) (ho : o ≤ 15) : bits .and .u16 (r : Int) ((2 : Int) ^ o - 1) = ((r % 2 ^ o : Nat) : Int) := by
  have hp : 2 ^ o ≤ 2 ^ 15 := Nat.pow_le_pow_right (by omega) ho
  have h1 : 1 ≤ 2 ^ o := Nat.one_le_two_pow
  rw [show ((2 : Int) ^ o - 1) = ((2 ^ o - 1 : Nat) : Int) by rw [Int.natCast_sub h1, Int.natCast_pow]; rfl, u16_and_nat _ _ hr (by omega), Nat.and_two_pow_sub_one_eq_mod]
set_option maxRecDepth 100000 in
set_option maxHeartbeats 1000000 in
theorem regrouped_in (W : World) (g cap : Nat) (gs : List UInt8) (fr tw : Nat) (hf : 1 ≤ fr ∧ fr ≤ 8) (ht : 1 ≤ tw ∧ tw ≤ 8) (hl : gs.length ≤ 10000000) (hg : ∀ j, j < gs.length → W.cell? ⟨g, j, none⟩ = some (.int .u8 ((gs[j]?.getD 0).toNat : Int))) (hb : g < W.heap.size) (hs : ∀ x ∈ gs, x.toNat < 2 ^ fr) :
    Calls Tryz.prog 80 #[.slice (some ⟨g, 0, none⟩) gs.length cap, .int .i64 (fr : Int), .int .i64 (tw : Int)] W fun e w' => ∃ v, e = .returned (.tuple #[v, .int .u16 (((rg fr tw gs).2.1 : Nat) : Int), .int .i64 (((rg fr tw gs).2.2 : Nat) : Int)]) ∧ w'.ownsRow W.heap.size 5 1 v (rg fr tw gs).1.length (bcl (rg fr tw gs).1) ∧ Below W.heap.size W w' := by
  obtain ⟨i0, hi, hz0, hz1, hz2⟩ := info_of info5
  obtain ⟨N, hN⟩ : ∃ N, gs.length = N := ⟨_, rfl⟩
  have HE := Hid.mk (rgm_all fr tw gs N hN)
  have HNx : Hid (∀ m, m < N → rgm fr tw gs (m + 1) = rgs fr tw (rgm fr tw gs m) (gs[m]?.getD 0)) := fun m hm => rgm_succ fr tw gs m (by omega)
  have HGc : Hid (∀ j, j < N → W.cell? ⟨g, j, none⟩ = some (.int .u8 ((gs[j]?.getD 0).toNat : Int))) := fun j hj => hg j (by omega)
  have HS : Hid (∀ m, m < N → (gs[m]?.getD 0).toNat < 2 ^ fr) := fun m hm => by
    rw [List.getElem?_eq_getElem (by omega)]
    exact hs _ (List.getElem_mem _)
  have H0 : Hid (rgm fr tw gs 0 = ([], 0, 0)) := rfl
  rw [← HE.out, hN]
  have hNl : N ≤ 10000000 := by omega
  generalize rgm fr tw gs = st at HNx H0 ⊢
  obtain ⟨hf1, hf2⟩ := hf
  obtain ⟨ht1, ht2⟩ := ht
  clear HE hg hs hl hN
  go_enter Tryz.func80, Tryz.ntmps80
  go_wp2_with fail
  go_loopw [6, 7, 8, 13] (fun v r o i wr => ∃ (m : Nat) (made : List UInt8) (rest over : Nat), m ≤ N ∧ i = .int .i64 m ∧ r = .int .u16 (rest : Int) ∧ o = .int .i64 (over : Int) ∧ Hid (st m = (made, rest, over)) ∧ wr.ownsRow W.heap.size 5 1 v made.length (bcl made) ∧ over < tw ∧ rest < 2 ^ over ∧ made.length * tw + over = fr * m ∧ Below W.heap.size W wr) (fun _ _ _ i _ => N - (intOf i).toNat)
  case atStart => exact ⟨0, [], 0, 0, by omega, rfl, rfl, rfl, H0, ⟨rfl, .inl ⟨rfl, rfl⟩⟩, by omega, by simp, by simp, Below.refl _ _⟩
  case round =>
    obtain ⟨m, made, rest, over, hm, rfl, rfl, rfl, HST, hown, hov, hre, hsum, hbl⟩ := hrel
    have HO := Hid.mk hown
    have HSUM := Hid.mk hsum
    have HRE := Hid.mk hre
    clear hown hsum hre
    by_cases hlt : m < N
    · have hc : wr.cell? ⟨g, m, none⟩ = some (.int .u8 ((gs[m]?.getD 0).toNat : Int)) := (hbl.cell (p := ⟨g, m, none⟩) hb).trans (HGc.out m hlt)
      have HX := Hid.mk (HS.out m hlt)
      have HNm : Hid (st (m + 1) = fin tw made (rest * 2 ^ fr + (gs[m]?.getD 0).toNat) (over + fr)) := by rw [Hid, HNx.out m hlt, HST.out]; rfl
      generalize gs[m]?.getD 0 = x at hc HX HNm
      have hbig : rest * 2 ^ fr + x.toNat < 2 ^ (over + fr) := by
        have h1 : rest + 1 ≤ 2 ^ over := HRE.out
        have h2 := Nat.mul_le_mul_right (2 ^ fr) h1
        have h3 := HX.out
        rw [Nat.pow_add]
        rw [Nat.add_mul] at h2
        omega
      have hp16 : 2 ^ (over + fr) ≤ 2 ^ 15 := Nat.pow_le_pow_right (by omega) (by omega)
      have hx8 := x.toNat_lt
      have hor := u16_sum rest x.toNat fr HX.out (by omega)
      have HBIG := Hid.mk hbig
      clear hbig
      generalize rest * 2 ^ fr + x.toNat = q at hor HBIG HNm
      have HTG : Hid (st (m + 1) = fin tw made q (over + fr)) := HNm.out
      clear HNm HRE hp16
      go_wp2_with fail
      go_loopw [6, 7, 8] (fun v r o w2 => ∃ (md : List UInt8) (q2 ov : Nat), r = .int .u16 (q2 : Int) ∧ o = .int .i64 (ov : Int) ∧ Hid (fin tw md q2 ov = fin tw made q (over + fr)) ∧ w2.ownsRow W.heap.size 5 1 v md.length (bcl md) ∧ q2 < 2 ^ ov ∧ ov ≤ 15 ∧ md.length * tw + ov = fr * (m + 1) ∧ Below W.heap.size W w2) (fun _ _ o _ => (intOf o).toNat)
      case atStart => exact ⟨made, q, over + fr, rfl, by go_num, rfl, HO.out, HBIG.out, by omega, by have := HSUM.out; rw [Nat.mul_add]; omega, hbl⟩
      case round =>
        obtain ⟨md, q2, ov, rfl, rfl, HFN, hown2, hq2, hov2, hsum2, hbl2⟩ := hrel
        have HO2 := Hid.mk hown2
        have HS2 := Hid.mk hsum2
        have hml : md.length ≤ 100000000 := by
          have h1 : md.length * 1 ≤ md.length * tw := Nat.mul_le_mul_left _ ht1
          have h2 : fr * (m + 1) ≤ 8 * (m + 1) := Nat.mul_le_mul_right _ hf2
          omega
        have hsz := hbl2.size
        have HQ2 := Hid.mk hq2
        clear hown2 hsum2 hq2
        by_cases hge : tw ≤ ov
        · obtain ⟨o, rfl⟩ : ∃ o, ov = o + tw := ⟨ov - tw, by omega⟩
          have hf := fin_step tw md q2 o (by omega)
          have hp15 : 2 ^ (o + tw) ≤ 2 ^ 15 := Nat.pow_le_pow_right (by omega) hov2
          have hq16 : q2 < 65536 := by have := HQ2.out; omega
          have hdv : q2 / 2 ^ o < 256 := by
            have h1 := HQ2.out
            rw [Nat.pow_add, Nat.mul_comm] at h1
            have h2 : q2 / 2 ^ o < 2 ^ tw := Nat.div_lt_of_lt_mul (by rw [Nat.mul_comm]; exact h1)
            have h3 : 2 ^ tw ≤ 2 ^ 8 := Nat.pow_le_pow_right (by omega) ht2
            omega
          have hdi : (q2 : Int) / 2 ^ o = ((q2 / 2 ^ o : Nat) : Int) := by rw [Int.natCast_ediv, Int.natCast_pow]; rfl
          have hyi : ((UInt8.ofNat (q2 / 2 ^ o)).toNat : Int) = (q2 : Int) / 2 ^ o := by rw [hdi, UInt8.toNat_ofNat']; generalize q2 / 2 ^ o = k at hdv; omega
          have hw1 : IntKind.u8.wrap ((q2 : Int) / 2 ^ o) = ((UInt8.ofNat (q2 / 2 ^ o)).toNat : Int) := by rw [IntKind.wrap_u8, hdi, UInt8.toNat_ofNat']; generalize q2 / 2 ^ o = k at hdv; omega
          have hlow := u16_low q2 o hq16 (by omega)
          have ho15 : 2 ^ o ≤ 2 ^ 15 := Nat.pow_le_pow_right (by omega) (by omega)
          have ho1 : 1 ≤ 2 ^ o := Nat.one_le_two_pow
          have hpi : (2 : Int) ^ o = ((2 ^ o : Nat) : Int) := by rw [Int.natCast_pow]; rfl
          have m1 : IntKind.u16.wrap ((2 : Int) ^ o) = (2 : Int) ^ o := by rw [hpi]; generalize 2 ^ o = k at ho15; simp only [IntKind.wrap, IntKind.bits, IntKind.signed, Bool.false_and, Bool.false_eq_true, if_false]; omega
          have m2 : IntKind.u16.wrap ((2 : Int) ^ o - 1) = (2 : Int) ^ o - 1 := by rw [hpi]; generalize 2 ^ o = k at ho15 ho1; simp only [IntKind.wrap, IntKind.bits, IntKind.signed, Bool.false_and, Bool.false_eq_true, if_false]; omega
          have hlt2 : q2 % 2 ^ o < 2 ^ o := Nat.mod_lt _ (by omega)
          have HLT := Hid.mk hlt2
          have HF2 := Hid.mk hf
          have HYI := Hid.mk hyi
          generalize q2 % 2 ^ o = q3 at hlow HLT HF2
          generalize UInt8.ofNat (q2 / 2 ^ o) = y at hw1 HF2 HYI
          clear hf hp15 hdi hyi hpi hlt2 ho15 ho1 hdv
          go_wp2_with (at_builtin; refine wpList_append_own _ rfl _ _ 90 rfl W.heap.size 5 i0 (.int .u8 0) 1 1 Tryz.underlying90 hi hz0 hz1 hz2 rfl (by decide) _ _ _ rfl (HO2.out.alloc _) ⟨wr.heap.size, 0, none⟩ 1 1 [.int .u8 (y.toNat : Int)] rfl rfl (cell_one_new _ _ _) (by simp [Value.oneCell']) (by unfold maxLen; omega) (by omega) (by simp; omega) ?_; intro v1 w1 hown1 hgrow1 _)
          have B2 : Below W.heap.size W w1 := (hbl2.alloc hbl2.size _).grown hgrow1 (Nat.le_trans hbl2.size (by simp)) (fun k hk => (HO2.out.lt k hk).1)
          go_roundw
          case rel =>
            refine ⟨md ++ [y], q3, o, rfl, rfl, ?_, ?_, HLT.out, by omega, ?_, B2⟩
            · rw [Hid, ← HF2.out]; exact HFN.out
            · rw [List.length_append, bcl_app]; exact hown1
            · have h := HS2.out
              rw [List.length_append, Nat.add_mul]
              simp only [List.length_singleton, Nat.one_mul]
              omega
          case measure => simp [intOf]; omega
        · have hfe := fin_end tw md q2 ov (by omega)
          have HFE : Hid (st (m + 1) = (md, q2, ov)) := by rw [Hid, HTG.out, ← HFN.out, hfe]
          clear hfe
          go_wp2
          go_roundw
          case rel => exact ⟨m + 1, md, q2, ov, by omega, by go_num, rfl, rfl, HFE, HO2.out, by omega, HQ2.out, HS2.out, hbl2⟩
          case measure => simp [intOf]; omega
    · obtain rfl : m = N := by omega
      go_wp2
      refine bodyPost_ret (v := .tuple #[u6, .int .u16 (rest : Int), .int .i64 (over : Int)]) (by simp [results, Tryz.results80, go_sem]) rfl ?_
      rw [HST.out]
      exact ⟨_, rfl, HO.out, hbl⟩
end Go.Proofs.YtpimliebiapnfaaGreatDoor.G