/- spread1. -/
import Derived.Deep.RegionHeld3
import Derived.Test.YtdecmbpmgnoelaaDoorGRow
namespace Go.Proofs.YtdecmbpmgnoelaaDoor
set_option linter.unusedVariables false
open Go.RowKit

/-- the words so far, and noughts. -/
def fill (p : List (BitVec 32)) (n : Nat) : List (BitVec 32) := p ++ List.replicate (n - p.length) 0
theorem fill_len (p : List (BitVec 32)) (n : Nat) (h : p.length ≤ n) : (fill p n).length = n := by
  rw [fill, List.length_append, List.length_replicate]; omega
theorem fill_set (p : List (BitVec 32)) (n : Nat) (h : p.length < n) (x : BitVec 32) : (fill p n).set p.length x = fill (p ++ [x]) n := by
  unfold fill
  rw [List.set_append_right _ _ (Nat.le_refl _), Nat.sub_self, List.length_append, List.append_assoc]
  congr 1
  rw [show n - p.length = (n - (p.length + [x].length)) + 1 by simp; omega, List.replicate_succ]
  rfl
theorem fill_at (p : List (BitVec 32)) (n k : Nat) (h : k < p.length) : (fill p n)[k]? = some (p[k]?.getD 0) := by
  unfold fill
  rw [List.getElem?_append_left h, List.getElem?_eq_getElem h]
  rfl
theorem fill_all (p : List (BitVec 32)) (n : Nat) (h : p.length = n) : fill p n = p := by
  unfold fill
  rw [h, Nat.sub_self]
  exact List.append_nil p
theorem fill_cell {W : World} {b t : Nat} {p : List (BitVec 32)} {n : Nat} (h : W.heap[b]? = some (.cells (wc (fill p n)) t (0, 0))) (k : Nat) (hk : k < p.length) :
    W.cell? ⟨b, k, none⟩ = some (.int .u32 ((p[k]?.getD 0).toNat : Int)) := (cells_at h (by rw [wc_at, fill_at p n k hk]; rfl)).1
theorem fill_free {W : World} {b t : Nat} {p : List (BitVec 32)} {n : Nat} (h : W.heap[b]? = some (.cells (wc (fill p n)) t (0, 0))) (hp : p.length ≤ n) (k : Nat) (hk : k < n) :
    ∃ x : BitVec 32, W.cell? ⟨b, k, none⟩ = some (.int .u32 (x.toNat : Int)) ∧ W.frozen? ⟨b, k, none⟩ = false :=
  ⟨_, cells_at h (by rw [wc_at, List.getElem?_eq_getElem (by rw [fill_len p n hp]; exact hk)]; rfl)⟩
theorem cell_put_ne (W : World) (b j k : Nat) (v : Value) (h : k ≠ j) : (W.setCell ⟨b, j, none⟩ v).cell? ⟨b, k, none⟩ = W.cell? ⟨b, k, none⟩ := by
  simp only [World.cell?, World.setCell, Array.getElem?_modify, if_true]
  cases hb : W.heap[b]? with
  | none => rfl
  | some o => cases o <;> simp [Ne.symm h]
theorem zero50 (W : World) : (zeroValue 50).run Tryd.prog W = .ok (.agg (wc (List.replicate 80 0))) W := by kernel_rfl

set_option maxRecDepth 100000 in
set_option maxHeartbeats 2000000 in
theorem spread1_in (l : List UInt8) (hl : l.length = 64) (w : World) :
    Calls Tryd.prog 33 #[.agg (bc l)] w fun e w' => e = .returned (.agg (wc (sch1 l 80))) ∧ Below w.heap.size w w' := by
  have HL := Hid.mk hl
  clear hl
  have hz := zero50
  have HW := Hid.mk (fun W (h : W.heap[w.heap.size]? = some (.cells (bc l) 36 (0, 0))) => word_in W w.heap.size l HL.out h)
  go_enter Tryd.func33, Tryd.ntmps33
  go_wp2_with fail
  go_loopw [5] (fun i wr => ∃ m : Nat, m ≤ 80 ∧ i = .int .i64 m ∧ wr.heap[w.heap.size]? = some (.cells (bc l) 36 (0, 0)) ∧ wr.heap[w.heap.size + 1]? = some (.cells (wc (List.replicate 80 0)) 50 (0, 0)) ∧ wr.heap[w.heap.size + 2]? = some (.cells (wc (fill (sch1 l m) 80)) 50 (0, 0)) ∧ Below w.heap.size w wr) (fun i _ => 80 - (intOf i).toNat)
  case atStart =>
    refine ⟨0, by omega, rfl, ?_, ?_, ?_, (((Below.refl _ _).alloc (Nat.le_refl _) _).alloc (by simp) _).alloc (by simp; omega) _⟩
    · rw [Below.heap_alloc _ _ _ (by simp; omega), Below.heap_alloc _ _ _ (by simp), heap_new]
    · rw [Below.heap_alloc _ _ _ (by simp)]
      exact (congrArg (fun k => (World.alloc _ _).heap[k]?) (World.size_alloc w _).symm).trans (heap_new _ _)
    · exact (congrArg (fun k => (World.alloc _ _).heap[k]?) (by simp)).trans (heap_new _ _)
  case round =>
    obtain ⟨m, hm, rfl, h1, h2, h3, hbl⟩ := hrel
    have H1 := Hid.mk h1
    have H2 := Hid.mk h2
    have H3 := Hid.mk h3
    by_cases hlt : m < 80
    · have hlen := sch1_len l m
      have HN : Hid (fill (sch1 l (m + 1)) 80 = (fill (sch1 l m) 80).set m (nx1 l (sch1 l m) m)) := by
        have := fill_set (sch1 l m) 80 (by omega) (nx1 l (sch1 l m) m)
        rw [hlen] at this
        rw [Hid, this, sch1]
      obtain ⟨xm, hc, hf⟩ := fill_free h3 (by omega) m hlt
      by_cases h16 : m < 16
      · have hx : nx1 l (sch1 l m) m = wd l m := if_pos h16
        rw [hx] at HN
        clear h1 h2 h3 hx hlen
        go_wp2_with fail
        refine (HW.out _ H1.out m h16).mono ?_
        rintro e w1 ⟨rfl, j, rfl⟩
        have hc1 : (wr.drewN j).cell? ⟨w.heap.size + 2, m, none⟩ = _ := hc
        have hf1 : (wr.drewN j).frozen? ⟨w.heap.size + 2, m, none⟩ = false := hf
        go_wp2
        go_roundw
        case rel =>
          refine ⟨m + 1, by omega, by go_num, ?_, ?_, ?_, ?_⟩
          · rw [Below.heap_setCell _ _ _ _ (by show w.heap.size ≠ w.heap.size + 2; omega)]; exact H1.out
          · rw [Below.heap_setCell _ _ _ _ (by show w.heap.size + 1 ≠ w.heap.size + 2; omega)]; exact H2.out
          · rw [HN.out, ← wc_set]; exact cells_put (W := wr.drewN j) H3.out _
          · exact Below.setCell (hbl.trans ((below_dn wr j).mono hbl.size)) (by show w.heap.size ≤ w.heap.size + 2; omega) _
        case measure => simp [intOf]; omega
      · have c3 := fill_cell h3 (m - 3) (by omega)
        have c8 := fill_cell h3 (m - 8) (by omega)
        have c14 := fill_cell h3 (m - 14) (by omega)
        have c16 := fill_cell h3 (m - 16) (by omega)
        have hx : nx1 l (sch1 l m) m = rol ((sch1 l m)[m - 3]?.getD 0 ^^^ (sch1 l m)[m - 8]?.getD 0 ^^^ (sch1 l m)[m - 14]?.getD 0 ^^^ (sch1 l m)[m - 16]?.getD 0) 1 := if_neg h16
        rw [hx] at HN
        generalize (sch1 l m)[m - 3]?.getD 0 = x3 at c3 HN
        generalize (sch1 l m)[m - 8]?.getD 0 = x8 at c8 HN
        generalize (sch1 l m)[m - 14]?.getD 0 = x14 at c14 HN
        generalize (sch1 l m)[m - 16]?.getD 0 = x16 at c16 HN
        have k3 : ((m : Int) - 3).toNat = m - 3 := by omega
        have k8 : ((m : Int) - 8).toNat = m - 8 := by omega
        have k14 : ((m : Int) - 14).toNat = m - 14 := by omega
        have k16 : ((m : Int) - 16).toNat = m - 16 := by omega
        have n3 : (3 : Int) ≤ (m : Int) := by omega
        have l3 : (0 : Int) ≤ (m : Int) - 3 := by omega
        have u3 : (m : Int) - 3 < 80 := by omega
        have v3 : (m : Int) < 80 + 3 := by omega
        have w3 : IntKind.i64.wrap ((m : Int) - 3) = (m : Int) - 3 := by rw [IntKind.wrap_i64]; omega
        have n8 : (8 : Int) ≤ (m : Int) := by omega
        have l8 : (0 : Int) ≤ (m : Int) - 8 := by omega
        have u8 : (m : Int) - 8 < 80 := by omega
        have v8 : (m : Int) < 80 + 8 := by omega
        have w8 : IntKind.i64.wrap ((m : Int) - 8) = (m : Int) - 8 := by rw [IntKind.wrap_i64]; omega
        have n14 : (14 : Int) ≤ (m : Int) := by omega
        have l14 : (0 : Int) ≤ (m : Int) - 14 := by omega
        have u14 : (m : Int) - 14 < 80 := by omega
        have v14 : (m : Int) < 80 + 14 := by omega
        have w14 : IntKind.i64.wrap ((m : Int) - 14) = (m : Int) - 14 := by rw [IntKind.wrap_i64]; omega
        have n16 : (16 : Int) ≤ (m : Int) := by omega
        have l16 : (0 : Int) ≤ (m : Int) - 16 := by omega
        have u16 : (m : Int) - 16 < 80 := by omega
        have v16 : (m : Int) < 80 + 16 := by omega
        have w16 : IntKind.i64.wrap ((m : Int) - 16) = (m : Int) - 16 := by rw [IntKind.wrap_i64]; omega
        have um : (m : Int) < 80 := by omega
        have HKp : Hid (∀ (W : World) (v : Value), W.cell? ⟨w.heap.size + 2, m - 3, none⟩ = some (.int .u32 (x3.toNat : Int)) → W.cell? ⟨w.heap.size + 2, m - 8, none⟩ = some (.int .u32 (x8.toNat : Int)) → W.cell? ⟨w.heap.size + 2, m - 14, none⟩ = some (.int .u32 (x14.toNat : Int)) → W.cell? ⟨w.heap.size + 2, m - 16, none⟩ = some (.int .u32 (x16.toNat : Int)) → (W.setCell ⟨w.heap.size + 2, m, none⟩ v).cell? ⟨w.heap.size + 2, m - 3, none⟩ = some (.int .u32 (x3.toNat : Int)) ∧ (W.setCell ⟨w.heap.size + 2, m, none⟩ v).cell? ⟨w.heap.size + 2, m - 8, none⟩ = some (.int .u32 (x8.toNat : Int)) ∧ (W.setCell ⟨w.heap.size + 2, m, none⟩ v).cell? ⟨w.heap.size + 2, m - 14, none⟩ = some (.int .u32 (x14.toNat : Int)) ∧ (W.setCell ⟨w.heap.size + 2, m, none⟩ v).cell? ⟨w.heap.size + 2, m - 16, none⟩ = some (.int .u32 (x16.toNat : Int))) := fun W v a1 a2 a3 a4 =>
          ⟨(cell_put_ne W _ _ _ v (by omega)).trans a1, (cell_put_ne W _ _ _ v (by omega)).trans a2, (cell_put_ne W _ _ _ v (by omega)).trans a3, (cell_put_ne W _ _ _ v (by omega)).trans a4⟩
        have hb : bits .xor .u32 (bits .xor .u32 (bits .xor .u32 (x3.toNat : Int) (x8.toNat : Int)) (x14.toNat : Int)) (x16.toNat : Int) = ((x3 ^^^ x8 ^^^ x14 ^^^ x16).toNat : Int) := by rw [bv_xor, bv_xor, bv_xor]
        have HLF := Hid.mk (fun W => left_in (x3 ^^^ x8 ^^^ x14 ^^^ x16) 1 (by omega) (by omega) W)
        generalize x3 ^^^ x8 ^^^ x14 ^^^ x16 = x at hb HLF HN
        clear h1 h2 h3 hx hlen
        go_wp2_with fail
        go_region_held3 (fun w' => w'.cell? ⟨w.heap.size + 2, m - 3, none⟩ = some (.int .u32 (x3.toNat : Int)) ∧ w'.cell? ⟨w.heap.size + 2, m - 8, none⟩ = some (.int .u32 (x8.toNat : Int)) ∧ w'.cell? ⟨w.heap.size + 2, m - 14, none⟩ = some (.int .u32 (x14.toNat : Int)) ∧ w'.cell? ⟨w.heap.size + 2, m - 16, none⟩ = some (.int .u32 (x16.toNat : Int))) (first | exact HKp.out _ _ (by assumption) (by assumption) (by assumption) (by assumption) | ((repeat' apply And.intro) <;> assumption) | go_keep)
          (first
            | (go_at_call 35; refine (HLF.out _).mono ?_; rintro e w2 ⟨rfl, j, rfl⟩))
        rename_i hHeld
        clear hHeld
        go_wp2
        go_roundw
        case rel =>
          refine ⟨m + 1, by omega, by go_num, ?_, ?_, ?_, ?_⟩
          · rw [Below.heap_setCell _ _ _ _ (by show w.heap.size ≠ w.heap.size + 2; omega)]; exact H1.out
          · rw [Below.heap_setCell _ _ _ _ (by show w.heap.size + 1 ≠ w.heap.size + 2; omega)]; exact H2.out
          · rw [HN.out, ← wc_set]; exact cells_put (W := wr.drewN (1 + j)) H3.out _
          · exact Below.setCell (hbl.trans ((below_dn wr (1 + j)).mono hbl.size)) (by show w.heap.size ≤ w.heap.size + 2; omega) _
        case measure => simp [intOf]; omega
    · obtain rfl : m = 80 := by omega
      rw [fill_all _ _ (sch1_len l 80)] at H3
      clear h1 h2 h3
      go_upto_region 9 with fail
      refine wp_region_lit ?_
      refine wpList_run (v := .agg (wc (sch1 l 80))) rfl (op_load arr50 H3.out (by rw [wc_size, sch1_len]) rfl rfl) ?_
      refine wpList_runS rfl (op_store arr50 H2.out (by rw [wc_size, List.length_replicate]) (by rw [wc_size, sch1_len]) (wc_one _) rfl rfl rfl) ?_
      go_wp2
      refine bodyPost_ret (v := .agg (wc (sch1 l 80))) (results_cell1 arr50 Tryd.results33 rfl (setRow_heap _ _ _ _ _ _ H2.out) (by rw [wc_size, sch1_len])) rfl ⟨rfl, Below.setRow hbl (by omega) _⟩
end Go.Proofs.YtdecmbpmgnoelaaDoor
