/- Texts of this proof, joined: GBlk, GSpread, GStir1, GSum1, GSpread2. -/
import Derived.Deep.RegionLaw
import Derived.Laws.CopyOwn
import Derived.Test.YtpimliebiapnfaaGreatDoorJ10
import Derived.Deep.RegionHeld3
/- blockOf (printed by mkblk.py). -/
namespace Go.Proofs.YtpimliebiapnfaaGreatDoor.G
set_option linter.unusedVariables false
open Go.RowKit
theorem zero64 : (#[Value.int IntKind.u8 0, Value.int IntKind.u8 0, Value.int IntKind.u8 0, Value.int IntKind.u8 0, Value.int IntKind.u8 0, Value.int IntKind.u8 0, Value.int IntKind.u8 0, Value.int IntKind.u8 0, Value.int IntKind.u8 0, Value.int IntKind.u8 0, Value.int IntKind.u8 0, Value.int IntKind.u8 0, Value.int IntKind.u8 0, Value.int IntKind.u8 0, Value.int IntKind.u8 0, Value.int IntKind.u8 0, Value.int IntKind.u8 0, Value.int IntKind.u8 0, Value.int IntKind.u8 0, Value.int IntKind.u8 0, Value.int IntKind.u8 0, Value.int IntKind.u8 0, Value.int IntKind.u8 0, Value.int IntKind.u8 0, Value.int IntKind.u8 0, Value.int IntKind.u8 0, Value.int IntKind.u8 0, Value.int IntKind.u8 0, Value.int IntKind.u8 0, Value.int IntKind.u8 0, Value.int IntKind.u8 0, Value.int IntKind.u8 0, Value.int IntKind.u8 0, Value.int IntKind.u8 0, Value.int IntKind.u8 0, Value.int IntKind.u8 0, Value.int IntKind.u8 0, Value.int IntKind.u8 0, Value.int IntKind.u8 0, Value.int IntKind.u8 0, Value.int IntKind.u8 0, Value.int IntKind.u8 0, Value.int IntKind.u8 0, Value.int IntKind.u8 0, Value.int IntKind.u8 0, Value.int IntKind.u8 0, Value.int IntKind.u8 0, Value.int IntKind.u8 0, Value.int IntKind.u8 0, Value.int IntKind.u8 0, Value.int IntKind.u8 0, Value.int IntKind.u8 0, Value.int IntKind.u8 0, Value.int IntKind.u8 0, Value.int IntKind.u8 0, Value.int IntKind.u8 0, Value.int IntKind.u8 0, Value.int IntKind.u8 0, Value.int IntKind.u8 0, Value.int IntKind.u8 0, Value.int IntKind.u8 0, Value.int IntKind.u8 0, Value.int IntKind.u8 0, Value.int IntKind.u8 0] : Array Value) = bc (List.replicate 64 0) := rfl
def over (l t : List UInt8) : List UInt8 := t.take 64 ++ l.drop (min t.length 64)
theorem over_len (l t : List UInt8) (hl : l.length = 64) : (over l t).length = 64 := by
  rw [over, List.length_append, List.length_take, List.length_drop]; omega
theorem over_at (t : List UInt8) (j : Nat) (hj : j < 64) : (over (List.replicate 64 0) t)[j]? = some (t[j]?.getD 0) := by
  unfold over
  rw [List.getElem?_append, List.length_take]
  by_cases h : j < t.length
  · rw [if_pos (by omega), List.getElem?_take_of_lt hj, List.getElem?_eq_getElem h]; rfl
  · rw [if_neg (by omega), List.getElem?_drop, List.getElem?_replicate, if_pos (by omega), List.getElem?_eq_none (by omega : t.length ≤ j)]; rfl
theorem endL_at (l : List UInt8) (hl : l.length = 64) (m j : Nat) (hj : j < 64) : (endL l m 8)[j]? = if j < 56 then l[j]? else some (bt m (63 - j)) := by
  unfold endL
  rw [List.getElem?_append, List.length_take]
  by_cases h : j < 56
  · rw [if_pos (by omega), if_pos h, List.getElem?_take_of_lt (by omega)]
  · rw [if_neg (by omega), if_neg h]
    rcases (show j = 56 ∨ j = 57 ∨ j = 58 ∨ j = 59 ∨ j = 60 ∨ j = 61 ∨ j = 62 ∨ j = 63 by omega) with rfl | rfl | rfl | rfl | rfl | rfl | rfl | rfl <;> (rw [show min (64 - 8) l.length = 56 by omega]; rfl)
theorem blk_at (l : List UInt8) (k j : Nat) (hj : j < 64) : (blk l k)[j]? = some (padAt l (64 * k + j)) := by
  unfold blk
  rw [List.getElem?_map, List.getElem?_range hj]
  rfl
theorem list_ext64 {a b : List UInt8} (ha : a.length = 64) (hb : b.length = 64) (h : ∀ j, j < 64 → a[j]? = b[j]?) : a = b := by
  apply List.ext_getElem?
  intro j
  by_cases hj : j < 64
  · exact h j hj
  · rw [List.getElem?_eq_none (by omega), List.getElem?_eq_none (by omega)]
abbrev base (l : List UInt8) (k : Nat) : List UInt8 := over (List.replicate 64 0) (l.drop (64 * k))
theorem base_len (l : List UInt8) (k : Nat) : (base l k).length = 64 := over_len _ _ (List.length_replicate ..)
theorem base_at (l : List UInt8) (k j : Nat) (hj : j < 64) : (base l k)[j]? = some (l[64 * k + j]?.getD 0) := by
  rw [over_at _ _ hj, List.getElem?_drop]
theorem blk_A (l : List UInt8) (k : Nat) (h : 64 * k + 64 ≤ l.length) : base l k = blk l k :=
  list_ext64 (base_len l k) (blk_len l k) fun j hj => by
    rw [base_at l k j hj, blk_at l k j hj, padAt, if_pos (by omega)]
theorem blk_B (l : List UInt8) (k : Nat) (h0 : 64 * k + 56 ≤ l.length) (h : l.length < 64 * k + 64) : (base l k).set (l.length - 64 * k) 128 = blk l k :=
  list_ext64 (by rw [List.length_set, base_len]) (blk_len l k) fun j hj => by
    rw [List.getElem?_set, base_len, base_at l k j hj, blk_at l k j hj, padAt]
    by_cases hlt : 64 * k + j < l.length
    · rw [if_pos hlt, if_neg (by omega)]
    · rw [if_neg hlt]
      by_cases he : 64 * k + j = l.length
      · rw [if_pos he, if_pos (by omega), if_pos (by omega)]
      · rw [if_neg he, if_neg (by omega), if_pos (by unfold nb; omega), List.getElem?_eq_none (by omega)]; rfl
theorem blk_L (l : List UInt8) (k : Nat) (h0 : 64 * k ≤ l.length) (h : l.length < 64 * k + 56) : endL ((base l k).set (l.length - 64 * k) 128) (8 * l.length) 8 = blk l k :=
  list_ext64 (endL_len _ (by rw [List.length_set, base_len]) _ _ (by omega)) (blk_len l k) fun j hj => by
    rw [endL_at _ (by rw [List.length_set, base_len]) _ _ hj, List.getElem?_set, base_len, base_at l k j hj, blk_at l k j hj, padAt]
    have hn : nb l.length = k + 1 := by unfold nb; omega
    rw [hn]
    by_cases hlt : 64 * k + j < l.length
    · rw [if_pos hlt, if_pos (by omega), if_neg (by omega)]
    · rw [if_neg hlt]
      by_cases he : 64 * k + j = l.length
      · rw [if_pos he, if_pos (by omega), if_pos (by omega), if_pos (by omega)]
      · rw [if_neg he]
        by_cases h8 : j < 56
        · rw [if_pos h8, if_neg (by omega), if_pos (by omega), List.getElem?_eq_none (by omega)]; rfl
        · rw [if_neg h8, if_neg (by omega), show 64 * (k + 1) - 1 - (64 * k + j) = 63 - j by omega]
theorem blk_C (l : List UInt8) (k : Nat) (hk : k < nb l.length) (h0 : l.length < 64 * k) : endL (base l k) (8 * l.length) 8 = blk l k :=
  list_ext64 (endL_len _ (base_len _ _) _ _ (by omega)) (blk_len l k) fun j hj => by
    rw [endL_at _ (base_len _ _) _ _ hj, base_at l k j hj, blk_at l k j hj, padAt]
    have hn : nb l.length = k + 1 := by unfold nb at hk ⊢; omega
    rw [hn]
    by_cases h8 : j < 56
    · rw [if_pos h8, if_neg (by omega), if_neg (by omega), if_pos (by omega), List.getElem?_eq_none (by omega)]; rfl
    · rw [if_neg h8, if_neg (by omega), if_neg (by omega), if_neg (by omega), show 64 * (k + 1) - 1 - (64 * k + j) = 63 - j by omega]
theorem ext_drop (s : ByteArray) (k : Nat) : (s.extract (k * 64) s.size).data.toList = s.data.toList.drop (64 * k) := by
  rw [ByteArray.data_extract, Array.toList_extract, List.extract_eq_take_drop, Nat.mul_comm]
  apply List.take_of_length_le
  rw [List.length_drop, size_list]; exact Nat.le_refl _
theorem ext_none (s : ByteArray) (k : Nat) (h : s.size < 64 * k) : ByteArray.empty.data.toList = s.data.toList.drop (64 * k) := by
  rw [List.drop_eq_nil_of_le (by rw [size_list]; omega)]
  rfl
theorem run_copy_str (w : World) (ty : TypeId) (g : Nat) (t : ByteArray) (l : List UInt8) (hl : l.length = 64) (hg : w.heap[g]? = some (.cells (bc l) 111 (0, 0))) :
    (Builtin.copy_ #[90, 9] ty #[.slice (some ⟨g, 0, none⟩) 64 64, .string t]).run Tryz.prog w = .ok (goInt ((min t.size 64 : Nat) : Int)) (w.setRow g (bc (over l t.data.toList))) := by
  have hst := run_storeCells_at Tryz.prog g 0 111 ((t.data.toList.take 64).map fun c => Value.int .u8 (c.toNat : Int)) 0 (bc l) w hg (by simp [bc_size, hl]; omega) (by intro v hv; obtain ⟨c, _, rfl⟩ := List.mem_map.1 hv; rfl)
  have hz : (sizeOf 5).run Tryz.prog w = .ok 1 w := by kernel_rfl
  simp only [Nat.zero_add] at hst
  have he : ((bc l).toList.take 0 ++ (t.data.toList.take 64).map (fun c => Value.int .u8 (c.toNat : Int)) ++ (bc l).toList.drop ((t.data.toList.take 64).map fun c => Value.int .u8 (c.toNat : Int)).length).toArray = bc (over l t.data.toList) := by
    simp only [List.take_zero, List.nil_append, List.length_map, List.length_take, bc, over, List.map_append, List.map_drop, Nat.min_comm]
  rw [he] at hst
  have hmin : Nat.min t.size 64 = min t.size 64 := rfl
  simp [Builtin.copy_, run_underlying Tryz.underlying90, Builtin.lenOf, Builtin.firstCells, hz, hmin]
  have hd : (t.data.toList.map fun b => Value.int .u8 (b.toNat : Int)).take (min t.size 64) = (t.data.toList.take 64).map fun c => Value.int .u8 (c.toNat : Int) := by
    rw [← List.map_take, ← size_list t]
    refine congrArg (List.map _) ?_
    by_cases h : t.data.toList.length ≤ 64
    · rw [Nat.min_eq_left h, List.take_length, List.take_of_length_le h]
    · rw [Nat.min_eq_right (by omega)]
  rw [hd, hst]
  rfl
theorem step_copy_str {w : World} {ops : Array Oper} {o : Oper} {a : Act} {K : Act → World → Prop} {Q : Exit → Act → World → Prop} {E : Prop} (hgd : o.guard = none) (d s : Operand)
    (ho : o.op = .call { callee := .builtin .copy, args := #[d, s], argTypes := #[90, 9] }) (g : Nat) (hd : a.eval d = .slice (some ⟨g, 0, none⟩) 64 64) (t : ByteArray) (hs : a.eval s = .string t)
    (l : List UInt8) (hl : l.length = 64) (hg : w.heap[g]? = some (.cells (bc l) 111 (0, 0))) (g0 : Nat) (o0 : Obj) (h0 : w.heap[g0]? = some o0) (hne : g0 ≠ g) (w0 : World) (hb : Below w0.heap.size w0 w) (hBg : w0.heap.size ≤ g)
    (h : ∀ w', Hid (w'.heap[g]? = some (.cells (bc (over l t.data.toList)) 111 (0, 0))) → Hid (w'.heap[g0]? = some o0) → Below w0.heap.size w0 w' → K (a.put o.dst (goInt ((min t.size 64 : Nat) : Int))) w') :
    if Region.wanted o (yielded ops a.tmps) = true then Oper.wp Tryz.prog o a w K Q else E := by
  have hw : Region.wanted o (yielded ops a.tmps) = true := by simp [Region.wanted, hgd]
  rw [if_pos hw]
  unfold Oper.wp
  simp [execOp, ho, resolve, invoke, builtin, hd, hs, run_copy_str w o.type g t l hl hg, Result.andThen]
  exact h _ (setRow_heap _ _ _ _ _ _ hg) ((setRow_other _ _ _ _ hne).trans h0) (Below.setRow hb hBg _)
theorem step_min {w : World} {ops : Array Oper} {o : Oper} {a : Act} {K : Act → World → Prop} {Q : Exit → Act → World → Prop} {E : Prop} (hgd : o.guard = none) (x y : Operand)
    (ho : o.op = .call { callee := .builtin .min, args := #[x, y], argTypes := #[3, 3] }) (m n c : Int) (hx : a.eval x = .int .i64 m) (hy : a.eval y = .int .i64 n) (hc : (if n < m then n else m) = c)
    (h : K (a.put o.dst (.int .i64 c)) w) :
    if Region.wanted o (yielded ops a.tmps) = true then Oper.wp Tryz.prog o a w K Q else E := by
  have hw : Region.wanted o (yielded ops a.tmps) = true := by simp [Region.wanted, hgd]
  rw [if_pos hw]
  subst hc
  unfold Oper.wp
  simp [execOp, ho, resolve, invoke, builtin, hx, hy, Builtin.min_, Builtin.min2]
  exact h
set_option maxRecDepth 100000 in
set_option maxHeartbeats 2000000 in
theorem blockOf_A (s : ByteArray) (k : Nat) (hs : s.size ≤ 140737488355328) (hk : k < nb s.size) (hA : 64 * k + 64 ≤ s.size) (w : World) :
    Calls Tryz.prog 78 #[.string s, .int .i64 (k : Int)] w fun e w' => e = .returned (.agg (bc (blk s.data.toList k))) ∧ Below w.heap.size w w' := by
  have HK := Hid.mk hk
  obtain ⟨q, hn, hq1, hq2⟩ : ∃ q, nb s.size = q + 1 ∧ k < q ∧ q ≤ 2199023255553 := ⟨(s.size + 8) / 64, rfl, by omega, by omega⟩
  have hne : ((k : Int) == (q : Int)) = false := by rw [beq_eq_false_iff_ne]; omega
  have HB := Hid.mk (blocks_in s.size hs)
  rw [hn] at HB
  unfold nb at hk
  have g1 : (0 : Int) ≤ ((k : Int) * 64) := by omega
  have g2 : ((k : Int) * 64) ≤ (s.size : Int) := by omega
  have hmc : (if (s.size : Int) < (k : Int) * 64 then (s.size : Int) else (k : Int) * 64) = ((k : Int) * 64) := if_neg (by omega)
  have hkn : (((k : Int) * 64)).toNat = k * 64 := by omega
  clear hn
  go_enter Tryz.func78, Tryz.ntmps78
  go_upto_region 3 with fail
  rw [zero64]
  obtain ⟨W1, hW1⟩ : ∃ W1, (w.alloc (.cells (bc (List.replicate 64 0)) 111)).alloc (.cells (bc (List.replicate 64 0)) 111) = W1 := ⟨_, rfl⟩
  have h4 : W1.heap[w.heap.size]? = some (.cells (bc (List.replicate 64 0)) 111 (0, 0)) := by
    rw [← hW1, Below.heap_alloc _ _ _ (by simp), heap_new]
  have h5 : W1.heap[w.heap.size + 1]? = some (.cells (bc (List.replicate 64 0)) 111 (0, 0)) := by
    rw [← hW1]
    exact (congrArg (fun k => (World.alloc _ _).heap[k]?) (World.size_alloc w _).symm).trans (heap_new _ _)
  have hbl : Below w.heap.size w W1 := by
    rw [← hW1]
    exact ((Below.refl _ _).alloc (Nat.le_refl _) _).alloc (by simp) _
  rw [hW1]
  have H4 := Hid.mk h4
  have H5 := Hid.mk h5
  clear h4 h5 hW1
  go_region_law (first
    | (have hck := M1; clear hck; refine step_copy_str rfl (.tmp 10) (.tmp 16) rfl (w.heap.size + 1) rfl (s.extract (k * 64) s.size) rfl _ (List.length_replicate ..) H5.out w.heap.size _ H4.out (by omega) w hbl.drew (by omega) ?_; intro W2 H52 H42 hbl2)
    | (refine step_min rfl (.tmp 12) (.tmp 14) rfl _ _ (((k : Int) * 64)) rfl rfl hmc ?_; have M1 : True := trivial))
  rw [ext_drop] at H52
  clear hmc H4 H5 hbl W1 M1
  go_wp2_with fail
  refine (HB.out _).mono ?_
  rintro e w1 ⟨rfl, rfl⟩
  go_upto_region 9 with fail
  refine wp_region_lit ?_
  refine wpList_run (v := .agg (bc (blk s.data.toList k))) rfl (op_load arr37 (by have := H52.out; rwa [show over (List.replicate 64 0) (List.drop (64 * k) s.data.toList) = blk s.data.toList k from blk_A s.data.toList k (by rw [size_list]; exact hA)] at this) (by rw [bc_size, blk_len]) rfl rfl) ?_
  refine wpList_runS rfl (op_store arr37 H42.out (by rw [bc_size, List.length_replicate]) (by rw [bc_size, blk_len]) (bc_one _) rfl rfl rfl) ?_
  go_wp2
  refine bodyPost_ret (v := .agg (bc (blk s.data.toList k))) (results_cell1 arr37 Tryz.results78 rfl (setRow_heap _ _ _ _ _ _ H42.out) (by rw [bc_size, blk_len])) rfl ⟨rfl, Below.setRow hbl2 (by omega) _⟩
set_option maxRecDepth 100000 in
set_option maxHeartbeats 2000000 in
theorem blockOf_B (s : ByteArray) (k : Nat) (hs : s.size ≤ 140737488355328) (hk : k < nb s.size) (h1 : 64 * k + 56 ≤ s.size) (h2 : s.size < 64 * k + 64) (w : World) :
    Calls Tryz.prog 78 #[.string s, .int .i64 (k : Int)] w fun e w' => e = .returned (.agg (bc (blk s.data.toList k))) ∧ Below w.heap.size w w' := by
  have HK := Hid.mk hk
  obtain ⟨q, hn, hq1, hq2⟩ : ∃ q, nb s.size = q + 1 ∧ k < q ∧ q ≤ 2199023255553 := ⟨(s.size + 8) / 64, rfl, by omega, by omega⟩
  have hne : ((k : Int) == (q : Int)) = false := by rw [beq_eq_false_iff_ne]; omega
  have HB := Hid.mk (blocks_in s.size hs)
  rw [hn] at HB
  unfold nb at hk
  have g1 : (0 : Int) ≤ ((k : Int) * 64) := by omega
  have g2 : ((k : Int) * 64) ≤ (s.size : Int) := by omega
  have hmc : (if (s.size : Int) < (k : Int) * 64 then (s.size : Int) else (k : Int) * 64) = ((k : Int) * 64) := if_neg (by omega)
  have hkn : (((k : Int) * 64)).toNat = k * 64 := by omega
  clear hn
  go_enter Tryz.func78, Tryz.ntmps78
  go_upto_region 3 with fail
  rw [zero64]
  obtain ⟨W1, hW1⟩ : ∃ W1, (w.alloc (.cells (bc (List.replicate 64 0)) 111)).alloc (.cells (bc (List.replicate 64 0)) 111) = W1 := ⟨_, rfl⟩
  have h4 : W1.heap[w.heap.size]? = some (.cells (bc (List.replicate 64 0)) 111 (0, 0)) := by
    rw [← hW1, Below.heap_alloc _ _ _ (by simp), heap_new]
  have h5 : W1.heap[w.heap.size + 1]? = some (.cells (bc (List.replicate 64 0)) 111 (0, 0)) := by
    rw [← hW1]
    exact (congrArg (fun k => (World.alloc _ _).heap[k]?) (World.size_alloc w _).symm).trans (heap_new _ _)
  have hbl : Below w.heap.size w W1 := by
    rw [← hW1]
    exact ((Below.refl _ _).alloc (Nat.le_refl _) _).alloc (by simp) _
  rw [hW1]
  have H4 := Hid.mk h4
  have H5 := Hid.mk h5
  clear h4 h5 hW1
  go_region_law (first
    | (have hck := M1; clear hck; refine step_copy_str rfl (.tmp 10) (.tmp 16) rfl (w.heap.size + 1) rfl (s.extract (k * 64) s.size) rfl _ (List.length_replicate ..) H5.out w.heap.size _ H4.out (by omega) w hbl.drew (by omega) ?_; intro W2 H52 H42 hbl2)
    | (refine step_min rfl (.tmp 12) (.tmp 14) rfl _ _ (((k : Int) * 64)) rfl rfl hmc ?_; have M1 : True := trivial))
  rw [ext_drop] at H52
  clear hmc H4 H5 hbl W1 M1
  obtain ⟨hc, hf⟩ := cells_at H52.out (j := s.size - 64 * k) (by rw [bc_at, base_at _ _ _ (by omega)]; rfl)
  have hj : ((s.size : Int) - (k : Int) * 64).toNat = s.size - 64 * k := by omega
  go_wp2_with fail
  refine (HB.out _).mono ?_
  rintro e w1 ⟨rfl, rfl⟩
  obtain ⟨W3, hW3⟩ : ∃ W3, W2.setCell ⟨w.heap.size + 1, s.size - 64 * k, none⟩ (.int .u8 128) = W3 := ⟨_, rfl⟩
  rw [hW3]
  have H53 : Hid (W3.heap[w.heap.size + 1]? = some (.cells (bc ((base s.data.toList k).set (s.size - 64 * k) 128)) 111 (0, 0))) := by
    rw [Hid, ← hW3, cells_put H52.out]
    exact congrArg (fun c => some (Obj.cells c 111 (0, 0))) (bc_set _ _ 128)
  have H43 : Hid (W3.heap[w.heap.size]? = some (.cells (bc (List.replicate 64 0)) 111 (0, 0))) := by
    rw [Hid, ← hW3, Below.heap_setCell _ _ _ _ (by simp)]; exact H42.out
  have hbl3 : Below w.heap.size w W3 := by rw [← hW3]; exact hbl2.setCell (by simp) _
  clear hc hf hW3 H52 H42 hbl2 W2
  go_upto_region 9 with fail
  refine wp_region_lit ?_
  refine wpList_run (v := .agg (bc (blk s.data.toList k))) rfl (op_load arr37 (by have := H53.out; rwa [show (base s.data.toList k).set (s.size - 64 * k) 128 = blk s.data.toList k from blk_B s.data.toList k (by rw [size_list]; exact h1) (by rw [size_list]; exact h2)] at this) (by rw [bc_size, blk_len]) rfl rfl) ?_
  refine wpList_runS rfl (op_store arr37 H43.out (by rw [bc_size, List.length_replicate]) (by rw [bc_size, blk_len]) (bc_one _) rfl rfl rfl) ?_
  go_wp2
  refine bodyPost_ret (v := .agg (bc (blk s.data.toList k))) (results_cell1 arr37 Tryz.results78 rfl (setRow_heap _ _ _ _ _ _ H43.out) (by rw [bc_size, blk_len])) rfl ⟨rfl, Below.setRow hbl3 (by omega) _⟩
set_option maxRecDepth 100000 in
set_option maxHeartbeats 2000000 in
theorem blockOf_L (s : ByteArray) (k : Nat) (hs : s.size ≤ 140737488355328) (hk : k < nb s.size) (h1 : 64 * k ≤ s.size) (h2 : s.size < 64 * k + 56) (w : World) :
    Calls Tryz.prog 78 #[.string s, .int .i64 (k : Int)] w fun e w' => e = .returned (.agg (bc (blk s.data.toList k))) ∧ Below w.heap.size w w' := by
  have HK := Hid.mk hk
  have hn : nb s.size = k + 1 := by unfold nb at hk ⊢; omega
  have HB := Hid.mk (blocks_in s.size hs)
  rw [hn] at HB
  unfold nb at hk
  have g1 : (0 : Int) ≤ ((k : Int) * 64) := by omega
  have g2 : ((k : Int) * 64) ≤ (s.size : Int) := by omega
  have hmc : (if (s.size : Int) < (k : Int) * 64 then (s.size : Int) else (k : Int) * 64) = ((k : Int) * 64) := if_neg (by omega)
  have hkn : (((k : Int) * 64)).toNat = k * 64 := by omega
  clear hn
  go_enter Tryz.func78, Tryz.ntmps78
  go_upto_region 3 with fail
  rw [zero64]
  obtain ⟨W1, hW1⟩ : ∃ W1, (w.alloc (.cells (bc (List.replicate 64 0)) 111)).alloc (.cells (bc (List.replicate 64 0)) 111) = W1 := ⟨_, rfl⟩
  have h4 : W1.heap[w.heap.size]? = some (.cells (bc (List.replicate 64 0)) 111 (0, 0)) := by
    rw [← hW1, Below.heap_alloc _ _ _ (by simp), heap_new]
  have h5 : W1.heap[w.heap.size + 1]? = some (.cells (bc (List.replicate 64 0)) 111 (0, 0)) := by
    rw [← hW1]
    exact (congrArg (fun k => (World.alloc _ _).heap[k]?) (World.size_alloc w _).symm).trans (heap_new _ _)
  have hbl : Below w.heap.size w W1 := by
    rw [← hW1]
    exact ((Below.refl _ _).alloc (Nat.le_refl _) _).alloc (by simp) _
  rw [hW1]
  have H4 := Hid.mk h4
  have H5 := Hid.mk h5
  clear h4 h5 hW1
  go_region_law (first
    | (have hck := M1; clear hck; refine step_copy_str rfl (.tmp 10) (.tmp 16) rfl (w.heap.size + 1) rfl (s.extract (k * 64) s.size) rfl _ (List.length_replicate ..) H5.out w.heap.size _ H4.out (by omega) w hbl.drew (by omega) ?_; intro W2 H52 H42 hbl2)
    | (refine step_min rfl (.tmp 12) (.tmp 14) rfl _ _ (((k : Int) * 64)) rfl rfl hmc ?_; have M1 : True := trivial))
  rw [ext_drop] at H52
  clear hmc H4 H5 hbl W1 M1
  obtain ⟨hc, hf⟩ := cells_at H52.out (j := s.size - 64 * k) (by rw [bc_at, base_at _ _ _ (by omega)]; rfl)
  have hj : ((s.size : Int) - (k : Int) * 64).toNat = s.size - 64 * k := by omega
  go_wp2_with fail
  refine (HB.out _).mono ?_
  rintro e w1 ⟨rfl, rfl⟩
  obtain ⟨W3, hW3⟩ : ∃ W3, W2.setCell ⟨w.heap.size + 1, s.size - 64 * k, none⟩ (.int .u8 128) = W3 := ⟨_, rfl⟩
  rw [hW3]
  have H53 : Hid (W3.heap[w.heap.size + 1]? = some (.cells (bc ((base s.data.toList k).set (s.size - 64 * k) 128)) 111 (0, 0))) := by
    rw [Hid, ← hW3, cells_put H52.out]
    exact congrArg (fun c => some (Obj.cells c 111 (0, 0))) (bc_set _ _ 128)
  have H43 : Hid (W3.heap[w.heap.size]? = some (.cells (bc (List.replicate 64 0)) 111 (0, 0))) := by
    rw [Hid, ← hW3, Below.heap_setCell _ _ _ _ (by simp)]; exact H42.out
  have hbl3 : Below w.heap.size w W3 := by rw [← hW3]; exact hbl2.setCell (by simp) _
  clear hc hf hW3 H52 H42 hbl2 W2
  go_upto_region 8 with fail
  refine wp_region_lit ?_
  refine wpList_run (v := .agg (bc ((base s.data.toList k).set (s.size - 64 * k) 128))) rfl (op_load arr37 H53.out (by rw [bc_size]; exact (by rw [List.length_set, base_len])) rfl rfl) ?_
  go_wp2_with fail
  refine (ended_in _ (by rw [List.length_set, base_len]) s.size hs _).mono ?_
  rintro e W4 ⟨rfl, hb4⟩
  have e5 : Hid _ := (Below.block hb4 _ (box_lt H53.out)).trans H53.out
  have e4 : Hid _ := (Below.block hb4 _ (box_lt H43.out)).trans H43.out
  have hbl4 : Below w.heap.size w W4 := hbl3.trans (hb4.mono hbl3.size)
  rename_i hK
  refine hK _ _ ?_
  rw [show endL ((base s.data.toList k).set (s.size - 64 * k) 128) (8 * s.size) 8 = blk s.data.toList k from blk_L s.data.toList k (by rw [size_list]; exact h1) (by rw [size_list]; exact h2)]
  refine wpList_runS rfl (op_store arr37 e5.out (by rw [bc_size]; exact (by rw [List.length_set, base_len])) (by rw [bc_size, blk_len]) (bc_one _) rfl rfl rfl) ?_
  have H55 : Hid _ := setRow_heap _ _ _ (bc (blk s.data.toList k)) _ _ e5.out
  have H45 : Hid _ := (setRow_other W4 (w.heap.size + 1) w.heap.size (bc (blk s.data.toList k)) (by omega)).trans e4.out
  have hbl5 : Below w.heap.size w (W4.setRow (w.heap.size + 1) (bc (blk s.data.toList k))) := Below.setRow hbl4 (by omega) _
  generalize W4.setRow (w.heap.size + 1) (bc (blk s.data.toList k)) = W5 at H55 H45 hbl5 ⊢
  go_upto_region 9 with fail
  refine wp_region_lit ?_
  refine wpList_run (v := .agg (bc (blk s.data.toList k))) rfl (op_load arr37 H55.out (by rw [bc_size, blk_len]) rfl rfl) ?_
  refine wpList_runS rfl (op_store arr37 H45.out (by rw [bc_size, List.length_replicate]) (by rw [bc_size, blk_len]) (bc_one _) rfl rfl rfl) ?_
  go_wp2
  refine bodyPost_ret (v := .agg (bc (blk s.data.toList k))) (results_cell1 arr37 Tryz.results78 rfl (setRow_heap _ _ _ _ _ _ H45.out) (by rw [bc_size, blk_len])) rfl ⟨rfl, Below.setRow hbl5 (by omega) _⟩
set_option maxRecDepth 100000 in
set_option maxHeartbeats 2000000 in
theorem blockOf_C (s : ByteArray) (k : Nat) (hs : s.size ≤ 140737488355328) (hk : k < nb s.size) (h1 : s.size < 64 * k) (w : World) :
    Calls Tryz.prog 78 #[.string s, .int .i64 (k : Int)] w fun e w' => e = .returned (.agg (bc (blk s.data.toList k))) ∧ Below w.heap.size w w' := by
  have HK := Hid.mk hk
  have hn : nb s.size = k + 1 := by unfold nb at hk ⊢; omega
  have HB := Hid.mk (blocks_in s.size hs)
  rw [hn] at HB
  unfold nb at hk
  have g1 : (0 : Int) ≤ (s.size : Int) := by omega
  have g2 : (s.size : Int) ≤ (s.size : Int) := by omega
  have hmc : (if (s.size : Int) < (k : Int) * 64 then (s.size : Int) else (k : Int) * 64) = (s.size : Int) := if_pos (by omega)
  have hkn : ((s.size : Int)).toNat = s.size := by omega
  clear hn
  go_enter Tryz.func78, Tryz.ntmps78
  go_upto_region 3 with fail
  rw [zero64]
  obtain ⟨W1, hW1⟩ : ∃ W1, (w.alloc (.cells (bc (List.replicate 64 0)) 111)).alloc (.cells (bc (List.replicate 64 0)) 111) = W1 := ⟨_, rfl⟩
  have h4 : W1.heap[w.heap.size]? = some (.cells (bc (List.replicate 64 0)) 111 (0, 0)) := by
    rw [← hW1, Below.heap_alloc _ _ _ (by simp), heap_new]
  have h5 : W1.heap[w.heap.size + 1]? = some (.cells (bc (List.replicate 64 0)) 111 (0, 0)) := by
    rw [← hW1]
    exact (congrArg (fun k => (World.alloc _ _).heap[k]?) (World.size_alloc w _).symm).trans (heap_new _ _)
  have hbl : Below w.heap.size w W1 := by
    rw [← hW1]
    exact ((Below.refl _ _).alloc (Nat.le_refl _) _).alloc (by simp) _
  rw [hW1]
  have H4 := Hid.mk h4
  have H5 := Hid.mk h5
  clear h4 h5 hW1
  go_region_law (first
    | (have hck := M1; clear hck; refine step_copy_str rfl (.tmp 10) (.tmp 16) rfl (w.heap.size + 1) rfl ByteArray.empty rfl _ (List.length_replicate ..) H5.out w.heap.size _ H4.out (by omega) w hbl.drew (by omega) ?_; intro W2 H52 H42 hbl2)
    | (refine step_min rfl (.tmp 12) (.tmp 14) rfl _ _ ((s.size : Int)) rfl rfl hmc ?_; have M1 : True := trivial))
  rw [ext_none s k h1] at H52
  clear hmc H4 H5 hbl W1 M1
  go_wp2_with fail
  refine (HB.out _).mono ?_
  rintro e w1 ⟨rfl, rfl⟩
  go_upto_region 8 with fail
  refine wp_region_lit ?_
  refine wpList_run (v := .agg (bc (base s.data.toList k))) rfl (op_load arr37 H52.out (by rw [bc_size]; exact (base_len _ _)) rfl rfl) ?_
  go_wp2_with fail
  refine (ended_in _ (base_len _ _) s.size hs _).mono ?_
  rintro e W4 ⟨rfl, hb4⟩
  have e5 : Hid _ := (Below.block hb4 _ (box_lt H52.out)).trans H52.out
  have e4 : Hid _ := (Below.block hb4 _ (box_lt H42.out)).trans H42.out
  have hbl4 : Below w.heap.size w W4 := hbl2.trans (hb4.mono hbl2.size)
  rename_i hK
  refine hK _ _ ?_
  rw [show endL (base s.data.toList k) (8 * s.size) 8 = blk s.data.toList k from blk_C s.data.toList k HK.out h1]
  refine wpList_runS rfl (op_store arr37 e5.out (by rw [bc_size]; exact (base_len _ _)) (by rw [bc_size, blk_len]) (bc_one _) rfl rfl rfl) ?_
  have H55 : Hid _ := setRow_heap _ _ _ (bc (blk s.data.toList k)) _ _ e5.out
  have H45 : Hid _ := (setRow_other W4 (w.heap.size + 1) w.heap.size (bc (blk s.data.toList k)) (by omega)).trans e4.out
  have hbl5 : Below w.heap.size w (W4.setRow (w.heap.size + 1) (bc (blk s.data.toList k))) := Below.setRow hbl4 (by omega) _
  generalize W4.setRow (w.heap.size + 1) (bc (blk s.data.toList k)) = W5 at H55 H45 hbl5 ⊢
  go_upto_region 9 with fail
  refine wp_region_lit ?_
  refine wpList_run (v := .agg (bc (blk s.data.toList k))) rfl (op_load arr37 H55.out (by rw [bc_size, blk_len]) rfl rfl) ?_
  refine wpList_runS rfl (op_store arr37 H45.out (by rw [bc_size, List.length_replicate]) (by rw [bc_size, blk_len]) (bc_one _) rfl rfl rfl) ?_
  go_wp2
  refine bodyPost_ret (v := .agg (bc (blk s.data.toList k))) (results_cell1 arr37 Tryz.results78 rfl (setRow_heap _ _ _ _ _ _ H45.out) (by rw [bc_size, blk_len])) rfl ⟨rfl, Below.setRow hbl5 (by omega) _⟩
theorem blockOf_in (s : ByteArray) (k : Nat) (hs : s.size ≤ 140737488355328) (hk : k < nb s.size) (w : World) :
    Calls Tryz.prog 78 #[.string s, .int .i64 (k : Int)] w fun e w' => e = .returned (.agg (bc (blk s.data.toList k))) ∧ Below w.heap.size w w' := by
  by_cases hA : 64 * k + 64 ≤ s.size
  · exact blockOf_A s k hs hk hA w
  · by_cases hB : 64 * k + 56 ≤ s.size
    · exact blockOf_B s k hs hk hB (by omega) w
    · by_cases hL : 64 * k ≤ s.size
      · exact blockOf_L s k hs hk hL (by omega) w
      · exact blockOf_C s k hs hk (by omega) w
end Go.Proofs.YtpimliebiapnfaaGreatDoor.G
/- spread1. -/
namespace Go.Proofs.YtpimliebiapnfaaGreatDoor.G
set_option linter.unusedVariables false
open Go.RowKit
def fill (p : List (BitVec 32)) (n : Nat) : List (BitVec 32) := p ++ List.replicate (n - p.length) 0
theorem fill_len (p : List (BitVec 32)) (n : Nat) (h : p.length ≤ n) : (fill p n).length = n := by
  rw [fill, List.length_append, List.length_replicate]; omega
theorem fill_set (p : List (BitVec 32)) (n : Nat) (h : p.length < n) (x : BitVec 32) : (fill p n).set p.length x = fill (p ++ [x]) n := by
  unfold fill
  rw [List.set_append_right _ _ (Nat.le_refl _), Nat.sub_self, List.length_append, List.append_assoc]
  congr 1
  rw [show n - p.length = (n - (p.length + [x].length)) + 1 by simp; omega, List.replicate_succ]
  rfl
theorem fill_at (p : List (BitVec 32)) (n k : Nat) (h : k < p.length) : (fill p n)[k]? = some (p[k]?.getD 0) := by
  unfold fill
  rw [List.getElem?_append_left h, List.getElem?_eq_getElem h]
  rfl
theorem fill_all (p : List (BitVec 32)) (n : Nat) (h : p.length = n) : fill p n = p := by
  unfold fill
  rw [h, Nat.sub_self]
  exact List.append_nil p
theorem fill_cell {W : World} {b t : Nat} {p : List (BitVec 32)} {n : Nat} (h : W.heap[b]? = some (.cells (wc (fill p n)) t (0, 0))) (k : Nat) (hk : k < p.length) :
    W.cell? ⟨b, k, none⟩ = some (.int .u32 ((p[k]?.getD 0).toNat : Int)) := (cells_at h (by rw [wc_at, fill_at p n k hk]; rfl)).1
theorem fill_free {W : World} {b t : Nat} {p : List (BitVec 32)} {n : Nat} (h : W.heap[b]? = some (.cells (wc (fill p n)) t (0, 0))) (hp : p.length ≤ n) (k : Nat) (hk : k < n) :
    ∃ x : BitVec 32, W.cell? ⟨b, k, none⟩ = some (.int .u32 (x.toNat : Int)) ∧ W.frozen? ⟨b, k, none⟩ = false :=
  ⟨_, cells_at h (by rw [wc_at, List.getElem?_eq_getElem (by rw [fill_len p n hp]; exact hk)]; rfl)⟩
theorem cell_put_ne (W : World) (b j k : Nat) (v : Value) (h : k ≠ j) : (W.setCell ⟨b, j, none⟩ v).cell? ⟨b, k, none⟩ = W.cell? ⟨b, k, none⟩ := by
  simp only [World.cell?, World.setCell, Array.getElem?_modify, if_true]
  cases hb : W.heap[b]? with
  | none => rfl
  | some o => cases o <;> simp [Ne.symm h]
end Go.Proofs.YtpimliebiapnfaaGreatDoor.G
/- stir1. -/
namespace Go.Proofs.YtpimliebiapnfaaGreatDoor.G
set_option linter.unusedVariables false
open Go.RowKit
theorem index_words {t n : Nat} (hu : Tryz.prog.underlying t = some (.array n 35)) (p : List (BitVec 32)) (hp : p.length = n) (k : Nat) (hk : k < n) (W : World) :
    (Instr.index t (.agg (wc p)) (.int .i64 (k : Int))).run Tryz.prog W = .ok (.int .u32 ((p[k]?.getD 0).toNat : Int)) W := by
  have hz : (sizeOf 35).run Tryz.prog W = .ok 1 W := by kernel_rfl
  have hc : (wc p)[k]? = some (.int .u32 ((p[k]?.getD 0).toNat : Int)) := by rw [wc_at, List.getElem?_eq_getElem (by omega)]; rfl
  have h1 : (0 : Int) ≤ (k : Int) ∧ (k : Int) < (n : Int) := by omega
  simp [Instr.index, asIntOf, run_underlying hu, h1, hz, part, hc, hk]
theorem three_new (w : World) (c0 c1 c2 : Array Value) (t0 t1 t2 : TypeId) :
    (((w.alloc (.cells c0 t0)).alloc (.cells c1 t1)).alloc (.cells c2 t2)).heap[w.heap.size]? = some (.cells c0 t0 (0, 0)) ∧ (((w.alloc (.cells c0 t0)).alloc (.cells c1 t1)).alloc (.cells c2 t2)).heap[w.heap.size + 1]? = some (.cells c1 t1 (0, 0)) ∧
      (((w.alloc (.cells c0 t0)).alloc (.cells c1 t1)).alloc (.cells c2 t2)).heap[w.heap.size + 2]? = some (.cells c2 t2 (0, 0)) ∧ Below w.heap.size w (((w.alloc (.cells c0 t0)).alloc (.cells c1 t1)).alloc (.cells c2 t2)) := by
  refine ⟨?_, ?_, ?_, (((Below.refl _ _).alloc (Nat.le_refl _) _).alloc (by simp) _).alloc (by simp; omega) _⟩
  · rw [Below.heap_alloc _ _ _ (by simp; omega), Below.heap_alloc _ _ _ (by simp), heap_new]
  · rw [Below.heap_alloc _ _ _ (by simp)]
    exact (congrArg (fun k => (World.alloc _ _).heap[k]?) (World.size_alloc w _).symm).trans (heap_new _ _)
  · exact (congrArg (fun k => (World.alloc _ _).heap[k]?) (by simp)).trans (heap_new _ _)
theorem S5.at (s : S5) {W : World} {b t : Nat} (h : W.heap[b]? = some (.cells (wc s.l) t (0, 0))) :
    W.cell? ⟨b, 0, none⟩ = some (.int .u32 (s.a.toNat : Int)) ∧ W.cell? ⟨b, 1, none⟩ = some (.int .u32 (s.b.toNat : Int)) ∧ W.cell? ⟨b, 2, none⟩ = some (.int .u32 (s.c.toNat : Int)) ∧ W.cell? ⟨b, 3, none⟩ = some (.int .u32 (s.d.toNat : Int)) ∧ W.cell? ⟨b, 4, none⟩ = some (.int .u32 (s.e.toNat : Int)) :=
  ⟨(cells_at h rfl).1, (cells_at h rfl).1, (cells_at h rfl).1, (cells_at h rfl).1, (cells_at h rfl).1⟩
theorem add5w (x1 x2 x3 x4 x5 : BitVec 32) : ((x1.toNat : Int) + (x2.toNat : Int) + (x3.toNat : Int) + (x4.toNat : Int) + (x5.toNat : Int)) % 4294967296 = ((x1 + x2 + x3 + x4 + x5).toNat : Int) := by
  simp only [BitVec.toNat_add]
  omega
end Go.Proofs.YtpimliebiapnfaaGreatDoor.G
/- bytesOf, Sum1. -/
namespace Go.Proofs.YtpimliebiapnfaaGreatDoor.G
set_option linter.unusedVariables false
open Go.RowKit
end Go.Proofs.YtpimliebiapnfaaGreatDoor.G
/- spread256. -/
namespace Go.Proofs.YtpimliebiapnfaaGreatDoor.G
set_option linter.unusedVariables false
open Go.RowKit
theorem shr3 (x : BitVec 32) : (x.toNat : Int) / (8 : Int) = ((x >>> 3).toNat : Int) := by have := bv_shr x 3; rwa [show ((2 : Int) ^ 3) = (8 : Int) from rfl] at this
theorem shr10 (x : BitVec 32) : (x.toNat : Int) / (1024 : Int) = ((x >>> 10).toNat : Int) := by have := bv_shr x 10; rwa [show ((2 : Int) ^ 10) = (1024 : Int) from rfl] at this
theorem zero56 (W : World) : (zeroValue 124).run Tryz.prog W = .ok (.agg (wc (List.replicate 64 0))) W := by kernel_rfl
set_option maxRecDepth 100000 in
set_option maxHeartbeats 2000000 in
theorem spread256_in (l : List UInt8) (hl : l.length = 64) (w : World) :
    Calls Tryz.prog 98 #[.agg (bc l)] w fun e w' => e = .returned (.agg (wc (sch2 l 64))) ∧ Below w.heap.size w w' := by
  have HL := Hid.mk hl
  clear hl
  have hz := zero56
  have HW := Hid.mk (fun W (h : W.heap[w.heap.size]? = some (.cells (bc l) 111 (0, 0))) => word_in W w.heap.size l HL.out h)
  go_enter Tryz.func98, Tryz.ntmps98
  go_wp2_with fail
  go_loopw [7] (fun i wr => ∃ m : Nat, m ≤ 64 ∧ i = .int .i64 m ∧ wr.heap[w.heap.size]? = some (.cells (bc l) 111 (0, 0)) ∧ wr.heap[w.heap.size + 1]? = some (.cells (wc (List.replicate 64 0)) 124 (0, 0)) ∧ wr.heap[w.heap.size + 2]? = some (.cells (wc (fill (sch2 l m) 64)) 124 (0, 0)) ∧ Below w.heap.size w wr) (fun i _ => 64 - (intOf i).toNat)
  case atStart =>
    refine ⟨0, by omega, rfl, ?_, ?_, ?_, (((Below.refl _ _).alloc (Nat.le_refl _) _).alloc (by simp) _).alloc (by simp; omega) _⟩
    · rw [Below.heap_alloc _ _ _ (by simp; omega), Below.heap_alloc _ _ _ (by simp), heap_new]
    · rw [Below.heap_alloc _ _ _ (by simp)]
      exact (congrArg (fun k => (World.alloc _ _).heap[k]?) (World.size_alloc w _).symm).trans (heap_new _ _)
    · exact (congrArg (fun k => (World.alloc _ _).heap[k]?) (by simp)).trans (heap_new _ _)
  case round =>
    obtain ⟨m, hm, rfl, h1, h2, h3, hbl⟩ := hrel
    have H1 := Hid.mk h1
    have H2 := Hid.mk h2
    have H3 := Hid.mk h3
    by_cases hlt : m < 64
    · have hlen := sch2_len l m
      have HN : Hid (fill (sch2 l (m + 1)) 64 = (fill (sch2 l m) 64).set m (nx2 l (sch2 l m) m)) := by
        have := fill_set (sch2 l m) 64 (by omega) (nx2 l (sch2 l m) m)
        rw [hlen] at this
        rw [Hid, this, sch2]
      obtain ⟨xm, hc, hf⟩ := fill_free h3 (by omega) m hlt
      by_cases h16 : m < 16
      · have hx : nx2 l (sch2 l m) m = wd l m := if_pos h16
        rw [hx] at HN
        clear h1 h2 h3 hx hlen
        go_wp2_with fail
        refine (HW.out _ H1.out m h16).mono ?_
        rintro e w1 ⟨rfl, j, rfl⟩
        have hc1 : (wr.drewN j).cell? ⟨w.heap.size + 2, m, none⟩ = _ := hc
        have hf1 : (wr.drewN j).frozen? ⟨w.heap.size + 2, m, none⟩ = false := hf
        go_wp2
        go_roundw
        case rel =>
          refine ⟨m + 1, by omega, by go_num, ?_, ?_, ?_, ?_⟩
          · rw [Below.heap_setCell _ _ _ _ (by show w.heap.size ≠ w.heap.size + 2; omega)]; exact H1.out
          · rw [Below.heap_setCell _ _ _ _ (by show w.heap.size + 1 ≠ w.heap.size + 2; omega)]; exact H2.out
          · rw [HN.out, ← wc_set]; exact cells_put (W := wr.drewN j) H3.out _
          · exact Below.setCell (hbl.trans ((below_dn wr j).mono hbl.size)) (by show w.heap.size ≤ w.heap.size + 2; omega) _
        case measure => simp [intOf]; omega
      · have c16 := fill_cell h3 (m - 16) (by omega)
        have c15 := fill_cell h3 (m - 15) (by omega)
        have c7 := fill_cell h3 (m - 7) (by omega)
        have c2 := fill_cell h3 (m - 2) (by omega)
        have hx : nx2 l (sch2 l m) m = (sch2 l m)[m - 16]?.getD 0 + sg0 ((sch2 l m)[m - 15]?.getD 0) + (sch2 l m)[m - 7]?.getD 0 + sg1 ((sch2 l m)[m - 2]?.getD 0) := if_neg h16
        rw [hx] at HN
        generalize (sch2 l m)[m - 16]?.getD 0 = x16 at c16 HN
        generalize (sch2 l m)[m - 15]?.getD 0 = x15 at c15 HN
        generalize (sch2 l m)[m - 7]?.getD 0 = x7 at c7 HN
        generalize (sch2 l m)[m - 2]?.getD 0 = x2 at c2 HN
        have n16 : (16 : Int) ≤ (m : Int) := by omega
        have l16 : (0 : Int) ≤ (m : Int) - 16 := by omega
        have u16 : (m : Int) - 16 < 64 := by omega
        have v16 : (m : Int) < 64 + 16 := by omega
        have w16 : IntKind.i64.wrap ((m : Int) - 16) = (m : Int) - 16 := by rw [IntKind.wrap_i64]; omega
        have k16 : ((m : Int) - 16).toNat = m - 16 := by omega
        have n15 : (15 : Int) ≤ (m : Int) := by omega
        have l15 : (0 : Int) ≤ (m : Int) - 15 := by omega
        have u15 : (m : Int) - 15 < 64 := by omega
        have v15 : (m : Int) < 64 + 15 := by omega
        have w15 : IntKind.i64.wrap ((m : Int) - 15) = (m : Int) - 15 := by rw [IntKind.wrap_i64]; omega
        have k15 : ((m : Int) - 15).toNat = m - 15 := by omega
        have n7 : (7 : Int) ≤ (m : Int) := by omega
        have l7 : (0 : Int) ≤ (m : Int) - 7 := by omega
        have u7 : (m : Int) - 7 < 64 := by omega
        have v7 : (m : Int) < 64 + 7 := by omega
        have w7 : IntKind.i64.wrap ((m : Int) - 7) = (m : Int) - 7 := by rw [IntKind.wrap_i64]; omega
        have k7 : ((m : Int) - 7).toNat = m - 7 := by omega
        have n2 : (2 : Int) ≤ (m : Int) := by omega
        have l2 : (0 : Int) ≤ (m : Int) - 2 := by omega
        have u2 : (m : Int) - 2 < 64 := by omega
        have v2 : (m : Int) < 64 + 2 := by omega
        have w2 : IntKind.i64.wrap ((m : Int) - 2) = (m : Int) - 2 := by rw [IntKind.wrap_i64]; omega
        have k2 : ((m : Int) - 2).toNat = m - 2 := by omega
        have um : (m : Int) < 64 := by omega
        have R7 : Hid (∀ W : World, Calls Tryz.prog 99 #[.int .u32 (x15.toNat : Int), .int .i64 7] W fun e w' => e = .returned (.int .u32 ((ror x15 7).toNat : Int)) ∧ ∃ j, w' = W.drewN j) := fun W => right_in x15 7 (by omega) (by omega) W
        have R18 : Hid (∀ W : World, Calls Tryz.prog 99 #[.int .u32 (x15.toNat : Int), .int .i64 18] W fun e w' => e = .returned (.int .u32 ((ror x15 18).toNat : Int)) ∧ ∃ j, w' = W.drewN j) := fun W => right_in x15 18 (by omega) (by omega) W
        have R17 : Hid (∀ W : World, Calls Tryz.prog 99 #[.int .u32 (x2.toNat : Int), .int .i64 17] W fun e w' => e = .returned (.int .u32 ((ror x2 17).toNat : Int)) ∧ ∃ j, w' = W.drewN j) := fun W => right_in x2 17 (by omega) (by omega) W
        have R19 : Hid (∀ W : World, Calls Tryz.prog 99 #[.int .u32 (x2.toNat : Int), .int .i64 19] W fun e w' => e = .returned (.int .u32 ((ror x2 19).toNat : Int)) ∧ ∃ j, w' = W.drewN j) := fun W => right_in x2 19 (by omega) (by omega) W
        have hb0 : bits .xor .u32 (bits .xor .u32 ((ror x15 7).toNat : Int) ((ror x15 18).toNat : Int)) ((x15.toNat : Int) / 8) = ((sg0 x15).toNat : Int) := by rw [shr3, bv_xor, bv_xor]; rfl
        have hb1 : bits .xor .u32 (bits .xor .u32 ((ror x2 17).toNat : Int) ((ror x2 19).toNat : Int)) ((x2.toNat : Int) / 1024) = ((sg1 x2).toNat : Int) := by rw [shr10, bv_xor, bv_xor]; rfl
        generalize sg0 x15 = g0 at hb0 HN
        generalize sg1 x2 = g1 at hb1 HN
        generalize ror x15 7 = r7 at R7 hb0
        generalize ror x15 18 = r18 at R18 hb0
        generalize ror x2 17 = r17 at R17 hb1
        generalize ror x2 19 = r19 at R19 hb1
        have hv : ((x16.toNat : Int) + (g0.toNat : Int) + (x7.toNat : Int) + (g1.toNat : Int)) % 4294967296 = ((x16 + g0 + x7 + g1).toNat : Int) := by
          simp only [BitVec.toNat_add]
          omega
        have HKp : Hid (∀ (W : World) (v : Value), W.cell? ⟨w.heap.size + 2, m - 16, none⟩ = some (.int .u32 (x16.toNat : Int)) → W.cell? ⟨w.heap.size + 2, m - 7, none⟩ = some (.int .u32 (x7.toNat : Int)) → (W.setCell ⟨w.heap.size + 2, m, none⟩ v).cell? ⟨w.heap.size + 2, m - 16, none⟩ = some (.int .u32 (x16.toNat : Int)) ∧ (W.setCell ⟨w.heap.size + 2, m, none⟩ v).cell? ⟨w.heap.size + 2, m - 7, none⟩ = some (.int .u32 (x7.toNat : Int))) := fun W v a1 a2 =>
          ⟨(cell_put_ne W _ _ _ v (by omega)).trans a1, (cell_put_ne W _ _ _ v (by omega)).trans a2⟩
        clear h1 h2 h3 hx hlen
        go_wp2_with fail
        go_quiet (fail)
        go_wp2_with fail
        have d16 : (wr.drewN nq).cell? ⟨w.heap.size + 2, m - 16, none⟩ = _ := c16
        have d7 : (wr.drewN nq).cell? ⟨w.heap.size + 2, m - 7, none⟩ = _ := c7
        have dc : (wr.drewN nq).cell? ⟨w.heap.size + 2, m, none⟩ = _ := hc
        have df : (wr.drewN nq).frozen? ⟨w.heap.size + 2, m, none⟩ = false := hf
        have G1 : Hid ((wr.drewN nq).heap[w.heap.size]? = _) := H1.out
        have G2 : Hid ((wr.drewN nq).heap[w.heap.size + 1]? = _) := H2.out
        have G3 : Hid ((wr.drewN nq).heap[w.heap.size + 2]? = _) := H3.out
        have hbl' : Below w.heap.size w (wr.drewN nq) := hbl.trans ((below_dn wr nq).mono hbl.size)
        clear c16 c15 c7 c2 hc hf H1 H2 H3 hbl
        generalize wr.drewN nq = V at d16 d7 dc df G1 G2 G3 hbl' ⊢
        go_region_held3 (fun w' => w'.cell? ⟨w.heap.size + 2, m - 16, none⟩ = some (.int .u32 (x16.toNat : Int)) ∧ w'.cell? ⟨w.heap.size + 2, m - 7, none⟩ = some (.int .u32 (x7.toNat : Int))) (first | exact HKp.out _ _ (by assumption) (by assumption) | ((repeat' apply And.intro) <;> assumption) | go_keep)
          (first
            | (have hck := M3; clear hck; go_at_call 99; refine (R19.out _).mono ?_; rintro e w5 ⟨rfl, j4, rfl⟩)
            | (have hck := M2; clear hck; go_at_call 99; refine (R17.out _).mono ?_; rintro e w4 ⟨rfl, j3, rfl⟩; have M3 : True := trivial)
            | (have hck := M1; clear hck; go_at_call 99; refine (R18.out _).mono ?_; rintro e w3 ⟨rfl, j2, rfl⟩; have M2 : True := trivial)
            | (go_at_call 99; refine (R7.out _).mono ?_; rintro e w2 ⟨rfl, j1, rfl⟩; have M1 : True := trivial))
        rename_i hHeld
        clear hHeld
        go_wp2
        go_roundw
        case rel =>
          refine ⟨m + 1, by omega, by go_num, ?_, ?_, ?_, ?_⟩
          · rw [Below.heap_setCell _ _ _ _ (by show w.heap.size ≠ w.heap.size + 2; omega)]; exact G1.out
          · rw [Below.heap_setCell _ _ _ _ (by show w.heap.size + 1 ≠ w.heap.size + 2; omega)]; exact G2.out
          · rw [HN.out, ← wc_set]
            refine (cells_put (W := V.drewN _) G3.out _).trans (cells_eq ?_)
            first
              | rfl
              | exact hv
          · exact Below.setCell (hbl'.trans ((below_dn V _).mono hbl'.size)) (by show w.heap.size ≤ w.heap.size + 2; omega) _
        case measure => simp [intOf]; omega
    · obtain rfl : m = 64 := by omega
      rw [fill_all _ _ (sch2_len l 64)] at H3
      clear h1 h2 h3
      go_upto_region 10 with fail
      refine wp_region_lit ?_
      refine wpList_run (v := .agg (wc (sch2 l 64))) rfl (op_load arr56 H3.out (by rw [wc_size, sch2_len]) rfl rfl) ?_
      refine wpList_runS rfl (op_store arr56 H2.out (by rw [wc_size, List.length_replicate]) (by rw [wc_size, sch2_len]) (wc_one _) rfl rfl rfl) ?_
      go_wp2
      refine bodyPost_ret (v := .agg (wc (sch2 l 64))) (results_cell1 arr56 Tryz.results98 rfl (setRow_heap _ _ _ _ _ _ H2.out) (by rw [wc_size, sch2_len])) rfl ⟨rfl, Below.setRow hbl (by omega) _⟩
end Go.Proofs.YtpimliebiapnfaaGreatDoor.G