/- spread256. -/
import Derived.Test.YtdecmbpmgnoelaaDoorGSpread
namespace Go.Proofs.YtdecmbpmgnoelaaDoor
set_option linter.unusedVariables false
open Go.RowKit
theorem shr3 (x : BitVec 32) : (x.toNat : Int) / (8 : Int) = ((x >>> 3).toNat : Int) := by have := bv_shr x 3; rwa [show ((2 : Int) ^ 3) = (8 : Int) from rfl] at this
theorem shr10 (x : BitVec 32) : (x.toNat : Int) / (1024 : Int) = ((x >>> 10).toNat : Int) := by have := bv_shr x 10; rwa [show ((2 : Int) ^ 10) = (1024 : Int) from rfl] at this
theorem zero56 (W : World) : (zeroValue 56).run Tryd.prog W = .ok (.agg (wc (List.replicate 64 0))) W := by kernel_rfl

set_option maxRecDepth 100000 in
set_option maxHeartbeats 2000000 in
theorem spread256_in (l : List UInt8) (hl : l.length = 64) (w : World) :
    Calls Tryd.prog 37 #[.agg (bc l)] w fun e w' => e = .returned (.agg (wc (sch2 l 64))) ∧ Below w.heap.size w w' := by
  have HL := Hid.mk hl
  clear hl
  have hz := zero56
  have HW := Hid.mk (fun W (h : W.heap[w.heap.size]? = some (.cells (bc l) 36 (0, 0))) => word_in W w.heap.size l HL.out h)
  go_enter Tryd.func37, Tryd.ntmps37
  go_wp2_with fail
  go_loopw [7] (fun i wr => ∃ m : Nat, m ≤ 64 ∧ i = .int .i64 m ∧ wr.heap[w.heap.size]? = some (.cells (bc l) 36 (0, 0)) ∧ wr.heap[w.heap.size + 1]? = some (.cells (wc (List.replicate 64 0)) 56 (0, 0)) ∧ wr.heap[w.heap.size + 2]? = some (.cells (wc (fill (sch2 l m) 64)) 56 (0, 0)) ∧ Below w.heap.size w wr) (fun i _ => 64 - (intOf i).toNat)
  case atStart =>
    refine ⟨0, by omega, rfl, ?_, ?_, ?_, (((Below.refl _ _).alloc (Nat.le_refl _) _).alloc (by simp) _).alloc (by simp; omega) _⟩
    · rw [Below.heap_alloc _ _ _ (by simp; omega), Below.heap_alloc _ _ _ (by simp), heap_new]
    · rw [Below.heap_alloc _ _ _ (by simp)]
      exact (congrArg (fun k => (World.alloc _ _).heap[k]?) (World.size_alloc w _).symm).trans (heap_new _ _)
    · exact (congrArg (fun k => (World.alloc _ _).heap[k]?) (by simp)).trans (heap_new _ _)
  case round =>
    obtain ⟨m, hm, rfl, h1, h2, h3, hbl⟩ := hrel
    have H1 := Hid.mk h1
    have H2 := Hid.mk h2
    have H3 := Hid.mk h3
    by_cases hlt : m < 64
    · have hlen := sch2_len l m
      have HN : Hid (fill (sch2 l (m + 1)) 64 = (fill (sch2 l m) 64).set m (nx2 l (sch2 l m) m)) := by
        have := fill_set (sch2 l m) 64 (by omega) (nx2 l (sch2 l m) m)
        rw [hlen] at this
        rw [Hid, this, sch2]
      obtain ⟨xm, hc, hf⟩ := fill_free h3 (by omega) m hlt
      by_cases h16 : m < 16
      · have hx : nx2 l (sch2 l m) m = wd l m := if_pos h16
        rw [hx] at HN
        clear h1 h2 h3 hx hlen
        go_wp2_with fail
        refine (HW.out _ H1.out m h16).mono ?_
        rintro e w1 ⟨rfl, j, rfl⟩
        have hc1 : (wr.drewN j).cell? ⟨w.heap.size + 2, m, none⟩ = _ := hc
        have hf1 : (wr.drewN j).frozen? ⟨w.heap.size + 2, m, none⟩ = false := hf
        go_wp2
        go_roundw
        case rel =>
          refine ⟨m + 1, by omega, by go_num, ?_, ?_, ?_, ?_⟩
          · rw [Below.heap_setCell _ _ _ _ (by show w.heap.size ≠ w.heap.size + 2; omega)]; exact H1.out
          · rw [Below.heap_setCell _ _ _ _ (by show w.heap.size + 1 ≠ w.heap.size + 2; omega)]; exact H2.out
          · rw [HN.out, ← wc_set]; exact cells_put (W := wr.drewN j) H3.out _
          · exact Below.setCell (hbl.trans ((below_dn wr j).mono hbl.size)) (by show w.heap.size ≤ w.heap.size + 2; omega) _
        case measure => simp [intOf]; omega
      · have c16 := fill_cell h3 (m - 16) (by omega)
        have c15 := fill_cell h3 (m - 15) (by omega)
        have c7 := fill_cell h3 (m - 7) (by omega)
        have c2 := fill_cell h3 (m - 2) (by omega)
        have hx : nx2 l (sch2 l m) m = (sch2 l m)[m - 16]?.getD 0 + sg0 ((sch2 l m)[m - 15]?.getD 0) + (sch2 l m)[m - 7]?.getD 0 + sg1 ((sch2 l m)[m - 2]?.getD 0) := if_neg h16
        rw [hx] at HN
        generalize (sch2 l m)[m - 16]?.getD 0 = x16 at c16 HN
        generalize (sch2 l m)[m - 15]?.getD 0 = x15 at c15 HN
        generalize (sch2 l m)[m - 7]?.getD 0 = x7 at c7 HN
        generalize (sch2 l m)[m - 2]?.getD 0 = x2 at c2 HN
        have n16 : (16 : Int) ≤ (m : Int) := by omega
        have l16 : (0 : Int) ≤ (m : Int) - 16 := by omega
        have u16 : (m : Int) - 16 < 64 := by omega
        have v16 : (m : Int) < 64 + 16 := by omega
        have w16 : IntKind.i64.wrap ((m : Int) - 16) = (m : Int) - 16 := by rw [IntKind.wrap_i64]; omega
        have k16 : ((m : Int) - 16).toNat = m - 16 := by omega
        have n15 : (15 : Int) ≤ (m : Int) := by omega
        have l15 : (0 : Int) ≤ (m : Int) - 15 := by omega
        have u15 : (m : Int) - 15 < 64 := by omega
        have v15 : (m : Int) < 64 + 15 := by omega
        have w15 : IntKind.i64.wrap ((m : Int) - 15) = (m : Int) - 15 := by rw [IntKind.wrap_i64]; omega
        have k15 : ((m : Int) - 15).toNat = m - 15 := by omega
        have n7 : (7 : Int) ≤ (m : Int) := by omega
        have l7 : (0 : Int) ≤ (m : Int) - 7 := by omega
        have u7 : (m : Int) - 7 < 64 := by omega
        have v7 : (m : Int) < 64 + 7 := by omega
        have w7 : IntKind.i64.wrap ((m : Int) - 7) = (m : Int) - 7 := by rw [IntKind.wrap_i64]; omega
        have k7 : ((m : Int) - 7).toNat = m - 7 := by omega
        have n2 : (2 : Int) ≤ (m : Int) := by omega
        have l2 : (0 : Int) ≤ (m : Int) - 2 := by omega
        have u2 : (m : Int) - 2 < 64 := by omega
        have v2 : (m : Int) < 64 + 2 := by omega
        have w2 : IntKind.i64.wrap ((m : Int) - 2) = (m : Int) - 2 := by rw [IntKind.wrap_i64]; omega
        have k2 : ((m : Int) - 2).toNat = m - 2 := by omega
        have um : (m : Int) < 64 := by omega
        have R7 : Hid (∀ W : World, Calls Tryd.prog 38 #[.int .u32 (x15.toNat : Int), .int .i64 7] W fun e w' => e = .returned (.int .u32 ((ror x15 7).toNat : Int)) ∧ ∃ j, w' = W.drewN j) := fun W => right_in x15 7 (by omega) (by omega) W
        have R18 : Hid (∀ W : World, Calls Tryd.prog 38 #[.int .u32 (x15.toNat : Int), .int .i64 18] W fun e w' => e = .returned (.int .u32 ((ror x15 18).toNat : Int)) ∧ ∃ j, w' = W.drewN j) := fun W => right_in x15 18 (by omega) (by omega) W
        have R17 : Hid (∀ W : World, Calls Tryd.prog 38 #[.int .u32 (x2.toNat : Int), .int .i64 17] W fun e w' => e = .returned (.int .u32 ((ror x2 17).toNat : Int)) ∧ ∃ j, w' = W.drewN j) := fun W => right_in x2 17 (by omega) (by omega) W
        have R19 : Hid (∀ W : World, Calls Tryd.prog 38 #[.int .u32 (x2.toNat : Int), .int .i64 19] W fun e w' => e = .returned (.int .u32 ((ror x2 19).toNat : Int)) ∧ ∃ j, w' = W.drewN j) := fun W => right_in x2 19 (by omega) (by omega) W
        have hb0 : bits .xor .u32 (bits .xor .u32 ((ror x15 7).toNat : Int) ((ror x15 18).toNat : Int)) ((x15.toNat : Int) / 8) = ((sg0 x15).toNat : Int) := by rw [shr3, bv_xor, bv_xor]; rfl
        have hb1 : bits .xor .u32 (bits .xor .u32 ((ror x2 17).toNat : Int) ((ror x2 19).toNat : Int)) ((x2.toNat : Int) / 1024) = ((sg1 x2).toNat : Int) := by rw [shr10, bv_xor, bv_xor]; rfl
        generalize sg0 x15 = g0 at hb0 HN
        generalize sg1 x2 = g1 at hb1 HN
        generalize ror x15 7 = r7 at R7 hb0
        generalize ror x15 18 = r18 at R18 hb0
        generalize ror x2 17 = r17 at R17 hb1
        generalize ror x2 19 = r19 at R19 hb1
        have hv : ((x16.toNat : Int) + (g0.toNat : Int) + (x7.toNat : Int) + (g1.toNat : Int)) % 4294967296 = ((x16 + g0 + x7 + g1).toNat : Int) := by
          simp only [BitVec.toNat_add]
          omega
        have HKp : Hid (∀ (W : World) (v : Value), W.cell? ⟨w.heap.size + 2, m - 16, none⟩ = some (.int .u32 (x16.toNat : Int)) → W.cell? ⟨w.heap.size + 2, m - 7, none⟩ = some (.int .u32 (x7.toNat : Int)) → (W.setCell ⟨w.heap.size + 2, m, none⟩ v).cell? ⟨w.heap.size + 2, m - 16, none⟩ = some (.int .u32 (x16.toNat : Int)) ∧ (W.setCell ⟨w.heap.size + 2, m, none⟩ v).cell? ⟨w.heap.size + 2, m - 7, none⟩ = some (.int .u32 (x7.toNat : Int))) := fun W v a1 a2 =>
          ⟨(cell_put_ne W _ _ _ v (by omega)).trans a1, (cell_put_ne W _ _ _ v (by omega)).trans a2⟩
        clear h1 h2 h3 hx hlen
        go_wp2_with fail
        go_quiet (fail)
        go_wp2_with fail
        have d16 : (wr.drewN nq).cell? ⟨w.heap.size + 2, m - 16, none⟩ = _ := c16
        have d7 : (wr.drewN nq).cell? ⟨w.heap.size + 2, m - 7, none⟩ = _ := c7
        have dc : (wr.drewN nq).cell? ⟨w.heap.size + 2, m, none⟩ = _ := hc
        have df : (wr.drewN nq).frozen? ⟨w.heap.size + 2, m, none⟩ = false := hf
        have G1 : Hid ((wr.drewN nq).heap[w.heap.size]? = _) := H1.out
        have G2 : Hid ((wr.drewN nq).heap[w.heap.size + 1]? = _) := H2.out
        have G3 : Hid ((wr.drewN nq).heap[w.heap.size + 2]? = _) := H3.out
        have hbl' : Below w.heap.size w (wr.drewN nq) := hbl.trans ((below_dn wr nq).mono hbl.size)
        clear c16 c15 c7 c2 hc hf H1 H2 H3 hbl
        generalize wr.drewN nq = V at d16 d7 dc df G1 G2 G3 hbl' ⊢
        go_region_held3 (fun w' => w'.cell? ⟨w.heap.size + 2, m - 16, none⟩ = some (.int .u32 (x16.toNat : Int)) ∧ w'.cell? ⟨w.heap.size + 2, m - 7, none⟩ = some (.int .u32 (x7.toNat : Int))) (first | exact HKp.out _ _ (by assumption) (by assumption) | ((repeat' apply And.intro) <;> assumption) | go_keep)
          (first
            | (have hck := M3; clear hck; go_at_call 38; refine (R19.out _).mono ?_; rintro e w5 ⟨rfl, j4, rfl⟩)
            | (have hck := M2; clear hck; go_at_call 38; refine (R17.out _).mono ?_; rintro e w4 ⟨rfl, j3, rfl⟩; have M3 : True := trivial)
            | (have hck := M1; clear hck; go_at_call 38; refine (R18.out _).mono ?_; rintro e w3 ⟨rfl, j2, rfl⟩; have M2 : True := trivial)
            | (go_at_call 38; refine (R7.out _).mono ?_; rintro e w2 ⟨rfl, j1, rfl⟩; have M1 : True := trivial))
        rename_i hHeld
        clear hHeld
        go_wp2
        go_roundw
        case rel =>
          refine ⟨m + 1, by omega, by go_num, ?_, ?_, ?_, ?_⟩
          · rw [Below.heap_setCell _ _ _ _ (by show w.heap.size ≠ w.heap.size + 2; omega)]; exact G1.out
          · rw [Below.heap_setCell _ _ _ _ (by show w.heap.size + 1 ≠ w.heap.size + 2; omega)]; exact G2.out
          · rw [HN.out, ← wc_set]
            refine (cells_put (W := V.drewN _) G3.out _).trans (cells_eq ?_)
            first
              | rfl
              | exact hv
          · exact Below.setCell (hbl'.trans ((below_dn V _).mono hbl'.size)) (by show w.heap.size ≤ w.heap.size + 2; omega) _
        case measure => simp [intOf]; omega
    · obtain rfl : m = 64 := by omega
      rw [fill_all _ _ (sch2_len l 64)] at H3
      clear h1 h2 h3
      go_upto_region 10 with fail
      refine wp_region_lit ?_
      refine wpList_run (v := .agg (wc (sch2 l 64))) rfl (op_load arr56 H3.out (by rw [wc_size, sch2_len]) rfl rfl) ?_
      refine wpList_runS rfl (op_store arr56 H2.out (by rw [wc_size, List.length_replicate]) (by rw [wc_size, sch2_len]) (wc_one _) rfl rfl rfl) ?_
      go_wp2
      refine bodyPost_ret (v := .agg (wc (sch2 l 64))) (results_cell1 arr56 Tryd.results37 rfl (setRow_heap _ _ _ _ _ _ H2.out) (by rw [wc_size, sch2_len])) rfl ⟨rfl, Below.setRow hbl (by omega) _⟩
end Go.Proofs.YtdecmbpmgnoelaaDoor
