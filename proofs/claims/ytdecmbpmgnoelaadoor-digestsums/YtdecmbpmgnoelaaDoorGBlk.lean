/- blockOf (printed by mkblk.py). -/
import Derived.Deep.RegionLaw
import Derived.Laws.CopyOwn
import Derived.Test.YtdecmbpmgnoelaaDoorGEnd
namespace Go.Proofs.YtdecmbpmgnoelaaDoor
set_option linter.unusedVariables false
open Go.RowKit
theorem zero64 : (#[Value.int IntKind.u8 0, Value.int IntKind.u8 0, Value.int IntKind.u8 0, Value.int IntKind.u8 0, Value.int IntKind.u8 0, Value.int IntKind.u8 0, Value.int IntKind.u8 0, Value.int IntKind.u8 0, Value.int IntKind.u8 0, Value.int IntKind.u8 0, Value.int IntKind.u8 0, Value.int IntKind.u8 0, Value.int IntKind.u8 0, Value.int IntKind.u8 0, Value.int IntKind.u8 0, Value.int IntKind.u8 0, Value.int IntKind.u8 0, Value.int IntKind.u8 0, Value.int IntKind.u8 0, Value.int IntKind.u8 0, Value.int IntKind.u8 0, Value.int IntKind.u8 0, Value.int IntKind.u8 0, Value.int IntKind.u8 0, Value.int IntKind.u8 0, Value.int IntKind.u8 0, Value.int IntKind.u8 0, Value.int IntKind.u8 0, Value.int IntKind.u8 0, Value.int IntKind.u8 0, Value.int IntKind.u8 0, Value.int IntKind.u8 0, Value.int IntKind.u8 0, Value.int IntKind.u8 0, Value.int IntKind.u8 0, Value.int IntKind.u8 0, Value.int IntKind.u8 0, Value.int IntKind.u8 0, Value.int IntKind.u8 0, Value.int IntKind.u8 0, Value.int IntKind.u8 0, Value.int IntKind.u8 0, Value.int IntKind.u8 0, Value.int IntKind.u8 0, Value.int IntKind.u8 0, Value.int IntKind.u8 0, Value.int IntKind.u8 0, Value.int IntKind.u8 0, Value.int IntKind.u8 0, Value.int IntKind.u8 0, Value.int IntKind.u8 0, Value.int IntKind.u8 0, Value.int IntKind.u8 0, Value.int IntKind.u8 0, Value.int IntKind.u8 0, Value.int IntKind.u8 0, Value.int IntKind.u8 0, Value.int IntKind.u8 0, Value.int IntKind.u8 0, Value.int IntKind.u8 0, Value.int IntKind.u8 0, Value.int IntKind.u8 0, Value.int IntKind.u8 0, Value.int IntKind.u8 0] : Array Value) = bc (List.replicate 64 0) := rfl
/-- bytes laid over the head of a block. -/
def over (l t : List UInt8) : List UInt8 := t.take 64 ++ l.drop (min t.length 64)
theorem over_len (l t : List UInt8) (hl : l.length = 64) : (over l t).length = 64 := by
  rw [over, List.length_append, List.length_take, List.length_drop]; omega
theorem over_at (t : List UInt8) (j : Nat) (hj : j < 64) : (over (List.replicate 64 0) t)[j]? = some (t[j]?.getD 0) := by
  unfold over
  rw [List.getElem?_append, List.length_take]
  by_cases h : j < t.length
  · rw [if_pos (by omega), List.getElem?_take_of_lt hj, List.getElem?_eq_getElem h]; rfl
  · rw [if_neg (by omega), List.getElem?_drop, List.getElem?_replicate, if_pos (by omega), List.getElem?_eq_none (by omega : t.length ≤ j)]; rfl
theorem endL_at (l : List UInt8) (hl : l.length = 64) (m j : Nat) (hj : j < 64) : (endL l m 8)[j]? = if j < 56 then l[j]? else some (bt m (63 - j)) := by
  unfold endL
  rw [List.getElem?_append, List.length_take]
  by_cases h : j < 56
  · rw [if_pos (by omega), if_pos h, List.getElem?_take_of_lt (by omega)]
  · rw [if_neg (by omega), if_neg h]
    rcases (show j = 56 ∨ j = 57 ∨ j = 58 ∨ j = 59 ∨ j = 60 ∨ j = 61 ∨ j = 62 ∨ j = 63 by omega) with rfl | rfl | rfl | rfl | rfl | rfl | rfl | rfl <;> (rw [show min (64 - 8) l.length = 56 by omega]; rfl)
theorem blk_at (l : List UInt8) (k j : Nat) (hj : j < 64) : (blk l k)[j]? = some (padAt l (64 * k + j)) := by
  unfold blk
  rw [List.getElem?_map, List.getElem?_range hj]
  rfl
theorem list_ext64 {a b : List UInt8} (ha : a.length = 64) (hb : b.length = 64) (h : ∀ j, j < 64 → a[j]? = b[j]?) : a = b := by
  apply List.ext_getElem?
  intro j
  by_cases hj : j < 64
  · exact h j hj
  · rw [List.getElem?_eq_none (by omega), List.getElem?_eq_none (by omega)]
abbrev base (l : List UInt8) (k : Nat) : List UInt8 := over (List.replicate 64 0) (l.drop (64 * k))
theorem base_len (l : List UInt8) (k : Nat) : (base l k).length = 64 := over_len _ _ (List.length_replicate ..)
theorem base_at (l : List UInt8) (k j : Nat) (hj : j < 64) : (base l k)[j]? = some (l[64 * k + j]?.getD 0) := by
  rw [over_at _ _ hj, List.getElem?_drop]
theorem blk_A (l : List UInt8) (k : Nat) (h : 64 * k + 64 ≤ l.length) : base l k = blk l k :=
  list_ext64 (base_len l k) (blk_len l k) fun j hj => by
    rw [base_at l k j hj, blk_at l k j hj, padAt, if_pos (by omega)]
theorem blk_B (l : List UInt8) (k : Nat) (h0 : 64 * k + 56 ≤ l.length) (h : l.length < 64 * k + 64) : (base l k).set (l.length - 64 * k) 128 = blk l k :=
  list_ext64 (by rw [List.length_set, base_len]) (blk_len l k) fun j hj => by
    rw [List.getElem?_set, base_len, base_at l k j hj, blk_at l k j hj, padAt]
    by_cases hlt : 64 * k + j < l.length
    · rw [if_pos hlt, if_neg (by omega)]
    · rw [if_neg hlt]
      by_cases he : 64 * k + j = l.length
      · rw [if_pos he, if_pos (by omega), if_pos (by omega)]
      · rw [if_neg he, if_neg (by omega), if_pos (by unfold nb; omega), List.getElem?_eq_none (by omega)]; rfl
theorem blk_L (l : List UInt8) (k : Nat) (h0 : 64 * k ≤ l.length) (h : l.length < 64 * k + 56) : endL ((base l k).set (l.length - 64 * k) 128) (8 * l.length) 8 = blk l k :=
  list_ext64 (endL_len _ (by rw [List.length_set, base_len]) _ _ (by omega)) (blk_len l k) fun j hj => by
    rw [endL_at _ (by rw [List.length_set, base_len]) _ _ hj, List.getElem?_set, base_len, base_at l k j hj, blk_at l k j hj, padAt]
    have hn : nb l.length = k + 1 := by unfold nb; omega
    rw [hn]
    by_cases hlt : 64 * k + j < l.length
    · rw [if_pos hlt, if_pos (by omega), if_neg (by omega)]
    · rw [if_neg hlt]
      by_cases he : 64 * k + j = l.length
      · rw [if_pos he, if_pos (by omega), if_pos (by omega), if_pos (by omega)]
      · rw [if_neg he]
        by_cases h8 : j < 56
        · rw [if_pos h8, if_neg (by omega), if_pos (by omega), List.getElem?_eq_none (by omega)]; rfl
        · rw [if_neg h8, if_neg (by omega), show 64 * (k + 1) - 1 - (64 * k + j) = 63 - j by omega]
theorem blk_C (l : List UInt8) (k : Nat) (hk : k < nb l.length) (h0 : l.length < 64 * k) : endL (base l k) (8 * l.length) 8 = blk l k :=
  list_ext64 (endL_len _ (base_len _ _) _ _ (by omega)) (blk_len l k) fun j hj => by
    rw [endL_at _ (base_len _ _) _ _ hj, base_at l k j hj, blk_at l k j hj, padAt]
    have hn : nb l.length = k + 1 := by unfold nb at hk ⊢; omega
    rw [hn]
    by_cases h8 : j < 56
    · rw [if_pos h8, if_neg (by omega), if_neg (by omega), if_pos (by omega), List.getElem?_eq_none (by omega)]; rfl
    · rw [if_neg h8, if_neg (by omega), if_neg (by omega), if_neg (by omega), show 64 * (k + 1) - 1 - (64 * k + j) = 63 - j by omega]
theorem ext_drop (s : ByteArray) (k : Nat) : (s.extract (k * 64) s.size).data.toList = s.data.toList.drop (64 * k) := by
  rw [ByteArray.data_extract, Array.toList_extract, List.extract_eq_take_drop, Nat.mul_comm]
  apply List.take_of_length_le
  rw [List.length_drop, size_list]; exact Nat.le_refl _
theorem ext_none (s : ByteArray) (k : Nat) (h : s.size < 64 * k) : ByteArray.empty.data.toList = s.data.toList.drop (64 * k) := by
  rw [List.drop_eq_nil_of_le (by rw [size_list]; omega)]
  rfl
theorem run_copy_str (w : World) (ty : TypeId) (g : Nat) (t : ByteArray) (l : List UInt8) (hl : l.length = 64) (hg : w.heap[g]? = some (.cells (bc l) 36 (0, 0))) :
    (Builtin.copy_ #[47, 9] ty #[.slice (some ⟨g, 0, none⟩) 64 64, .string t]).run Tryd.prog w = .ok (goInt ((min t.size 64 : Nat) : Int)) (w.setRow g (bc (over l t.data.toList))) := by
  have hst := run_storeCells_at Tryd.prog g 0 36 ((t.data.toList.take 64).map fun c => Value.int .u8 (c.toNat : Int)) 0 (bc l) w hg (by simp [bc_size, hl]; omega) (by intro v hv; obtain ⟨c, _, rfl⟩ := List.mem_map.1 hv; rfl)
  have hz : (sizeOf 5).run Tryd.prog w = .ok 1 w := by kernel_rfl
  simp only [Nat.zero_add] at hst
  have he : ((bc l).toList.take 0 ++ (t.data.toList.take 64).map (fun c => Value.int .u8 (c.toNat : Int)) ++ (bc l).toList.drop ((t.data.toList.take 64).map fun c => Value.int .u8 (c.toNat : Int)).length).toArray = bc (over l t.data.toList) := by
    simp only [List.take_zero, List.nil_append, List.length_map, List.length_take, bc, over, List.map_append, List.map_drop, Nat.min_comm]
  rw [he] at hst
  have hmin : Nat.min t.size 64 = min t.size 64 := rfl
  simp [Builtin.copy_, run_underlying Tryd.underlying47, Builtin.lenOf, Builtin.firstCells, hz, hmin]
  have hd : (t.data.toList.map fun b => Value.int .u8 (b.toNat : Int)).take (min t.size 64) = (t.data.toList.take 64).map fun c => Value.int .u8 (c.toNat : Int) := by
    rw [← List.map_take, ← size_list]
    congr 1
    by_cases h : t.data.toList.length ≤ 64
    · rw [Nat.min_eq_left h, List.take_length, List.take_of_length_le h]
    · rw [Nat.min_eq_right (by omega)]
  rw [hd, hst]
  rfl
/-- a block that is another one than the one written. -/
theorem step_copy_str {w : World} {ops : Array Oper} {o : Oper} {a : Act} {K : Act → World → Prop} {Q : Exit → Act → World → Prop} {E : Prop} (hgd : o.guard = none) (d s : Operand)
    (ho : o.op = .call { callee := .builtin .copy, args := #[d, s], argTypes := #[47, 9] }) (g : Nat) (hd : a.eval d = .slice (some ⟨g, 0, none⟩) 64 64) (t : ByteArray) (hs : a.eval s = .string t)
    (l : List UInt8) (hl : l.length = 64) (hg : w.heap[g]? = some (.cells (bc l) 36 (0, 0))) (g0 : Nat) (o0 : Obj) (h0 : w.heap[g0]? = some o0) (hne : g0 ≠ g) (w0 : World) (hb : Below w0.heap.size w0 w) (hBg : w0.heap.size ≤ g)
    (h : ∀ w', Hid (w'.heap[g]? = some (.cells (bc (over l t.data.toList)) 36 (0, 0))) → Hid (w'.heap[g0]? = some o0) → Below w0.heap.size w0 w' → K (a.put o.dst (goInt ((min t.size 64 : Nat) : Int))) w') :
    if Region.wanted o (yielded ops a.tmps) = true then Oper.wp Tryd.prog o a w K Q else E := by
  have hw : Region.wanted o (yielded ops a.tmps) = true := by simp [Region.wanted, hgd]
  rw [if_pos hw]
  unfold Oper.wp
  simp [execOp, ho, resolve, invoke, builtin, hd, hs, run_copy_str w o.type g t l hl hg, Result.andThen]
  exact h _ (setRow_heap _ _ _ _ _ _ hg) ((setRow_other _ _ _ _ hne).trans h0) (Below.setRow hb hBg _)
theorem step_min {w : World} {ops : Array Oper} {o : Oper} {a : Act} {K : Act → World → Prop} {Q : Exit → Act → World → Prop} {E : Prop} (hgd : o.guard = none) (x y : Operand)
    (ho : o.op = .call { callee := .builtin .min, args := #[x, y], argTypes := #[3, 3] }) (m n c : Int) (hx : a.eval x = .int .i64 m) (hy : a.eval y = .int .i64 n) (hc : (if n < m then n else m) = c)
    (h : K (a.put o.dst (.int .i64 c)) w) :
    if Region.wanted o (yielded ops a.tmps) = true then Oper.wp Tryd.prog o a w K Q else E := by
  have hw : Region.wanted o (yielded ops a.tmps) = true := by simp [Region.wanted, hgd]
  rw [if_pos hw]
  subst hc
  unfold Oper.wp
  simp [execOp, ho, resolve, invoke, builtin, hx, hy, Builtin.min_, Builtin.min2]
  exact h

set_option maxRecDepth 100000 in
set_option maxHeartbeats 2000000 in
theorem blockOf_A (s : ByteArray) (k : Nat) (hs : s.size ≤ 140737488355328) (hk : k < nb s.size) (hA : 64 * k + 64 ≤ s.size) (w : World) :
    Calls Tryd.prog 21 #[.string s, .int .i64 (k : Int)] w fun e w' => e = .returned (.agg (bc (blk s.data.toList k))) ∧ Below w.heap.size w w' := by
  have HK := Hid.mk hk
  obtain ⟨q, hn, hq1, hq2⟩ : ∃ q, nb s.size = q + 1 ∧ k < q ∧ q ≤ 2199023255553 := ⟨(s.size + 8) / 64, rfl, by omega, by omega⟩
  have hne : ((k : Int) == (q : Int)) = false := by rw [beq_eq_false_iff_ne]; omega
  have HB := Hid.mk (blocks_in s.size hs)
  rw [hn] at HB
  unfold nb at hk
  have g1 : (0 : Int) ≤ ((k : Int) * 64) := by omega
  have g2 : ((k : Int) * 64) ≤ (s.size : Int) := by omega
  have hmc : (if (s.size : Int) < (k : Int) * 64 then (s.size : Int) else (k : Int) * 64) = ((k : Int) * 64) := if_neg (by omega)
  have hkn : (((k : Int) * 64)).toNat = k * 64 := by omega
  clear hn
  go_enter Tryd.func21, Tryd.ntmps21
  go_upto_region 3 with fail
  rw [zero64]
  obtain ⟨W1, hW1⟩ : ∃ W1, (w.alloc (.cells (bc (List.replicate 64 0)) 36)).alloc (.cells (bc (List.replicate 64 0)) 36) = W1 := ⟨_, rfl⟩
  have h4 : W1.heap[w.heap.size]? = some (.cells (bc (List.replicate 64 0)) 36 (0, 0)) := by
    rw [← hW1, Below.heap_alloc _ _ _ (by simp), heap_new]
  have h5 : W1.heap[w.heap.size + 1]? = some (.cells (bc (List.replicate 64 0)) 36 (0, 0)) := by
    rw [← hW1]
    exact (congrArg (fun k => (World.alloc _ _).heap[k]?) (World.size_alloc w _).symm).trans (heap_new _ _)
  have hbl : Below w.heap.size w W1 := by
    rw [← hW1]
    exact ((Below.refl _ _).alloc (Nat.le_refl _) _).alloc (by simp) _
  rw [hW1]
  have H4 := Hid.mk h4
  have H5 := Hid.mk h5
  clear h4 h5 hW1
  go_region_law (first
    | (have hck := M1; clear hck; refine step_copy_str rfl (.tmp 10) (.tmp 16) rfl (w.heap.size + 1) rfl (s.extract (k * 64) s.size) rfl _ (List.length_replicate ..) H5.out w.heap.size _ H4.out (by omega) w hbl.drew (by omega) ?_; intro W2 H52 H42 hbl2)
    | (refine step_min rfl (.tmp 12) (.tmp 14) rfl _ _ (((k : Int) * 64)) rfl rfl hmc ?_; have M1 : True := trivial))
  rw [ext_drop] at H52
  clear hmc H4 H5 hbl W1 M1
  go_wp2_with fail
  refine (HB.out _).mono ?_
  rintro e w1 ⟨rfl, rfl⟩
  go_upto_region 9 with fail
  refine wp_region_lit ?_
  refine wpList_run (v := .agg (bc (blk s.data.toList k))) rfl (op_load arr37 (by have := H52.out; rwa [show over (List.replicate 64 0) (List.drop (64 * k) s.data.toList) = blk s.data.toList k from blk_A s.data.toList k (by rw [size_list]; exact hA)] at this) (by rw [bc_size, blk_len]) rfl rfl) ?_
  refine wpList_runS rfl (op_store arr37 H42.out (by rw [bc_size, List.length_replicate]) (by rw [bc_size, blk_len]) (bc_one _) rfl rfl rfl) ?_
  go_wp2
  refine bodyPost_ret (v := .agg (bc (blk s.data.toList k))) (results_cell1 arr37 Tryd.results21 rfl (setRow_heap _ _ _ _ _ _ H42.out) (by rw [bc_size, blk_len])) rfl ⟨rfl, Below.setRow hbl2 (by omega) _⟩

set_option maxRecDepth 100000 in
set_option maxHeartbeats 2000000 in
theorem blockOf_B (s : ByteArray) (k : Nat) (hs : s.size ≤ 140737488355328) (hk : k < nb s.size) (h1 : 64 * k + 56 ≤ s.size) (h2 : s.size < 64 * k + 64) (w : World) :
    Calls Tryd.prog 21 #[.string s, .int .i64 (k : Int)] w fun e w' => e = .returned (.agg (bc (blk s.data.toList k))) ∧ Below w.heap.size w w' := by
  have HK := Hid.mk hk
  obtain ⟨q, hn, hq1, hq2⟩ : ∃ q, nb s.size = q + 1 ∧ k < q ∧ q ≤ 2199023255553 := ⟨(s.size + 8) / 64, rfl, by omega, by omega⟩
  have hne : ((k : Int) == (q : Int)) = false := by rw [beq_eq_false_iff_ne]; omega
  have HB := Hid.mk (blocks_in s.size hs)
  rw [hn] at HB
  unfold nb at hk
  have g1 : (0 : Int) ≤ ((k : Int) * 64) := by omega
  have g2 : ((k : Int) * 64) ≤ (s.size : Int) := by omega
  have hmc : (if (s.size : Int) < (k : Int) * 64 then (s.size : Int) else (k : Int) * 64) = ((k : Int) * 64) := if_neg (by omega)
  have hkn : (((k : Int) * 64)).toNat = k * 64 := by omega
  clear hn
  go_enter Tryd.func21, Tryd.ntmps21
  go_upto_region 3 with fail
  rw [zero64]
  obtain ⟨W1, hW1⟩ : ∃ W1, (w.alloc (.cells (bc (List.replicate 64 0)) 36)).alloc (.cells (bc (List.replicate 64 0)) 36) = W1 := ⟨_, rfl⟩
  have h4 : W1.heap[w.heap.size]? = some (.cells (bc (List.replicate 64 0)) 36 (0, 0)) := by
    rw [← hW1, Below.heap_alloc _ _ _ (by simp), heap_new]
  have h5 : W1.heap[w.heap.size + 1]? = some (.cells (bc (List.replicate 64 0)) 36 (0, 0)) := by
    rw [← hW1]
    exact (congrArg (fun k => (World.alloc _ _).heap[k]?) (World.size_alloc w _).symm).trans (heap_new _ _)
  have hbl : Below w.heap.size w W1 := by
    rw [← hW1]
    exact ((Below.refl _ _).alloc (Nat.le_refl _) _).alloc (by simp) _
  rw [hW1]
  have H4 := Hid.mk h4
  have H5 := Hid.mk h5
  clear h4 h5 hW1
  go_region_law (first
    | (have hck := M1; clear hck; refine step_copy_str rfl (.tmp 10) (.tmp 16) rfl (w.heap.size + 1) rfl (s.extract (k * 64) s.size) rfl _ (List.length_replicate ..) H5.out w.heap.size _ H4.out (by omega) w hbl.drew (by omega) ?_; intro W2 H52 H42 hbl2)
    | (refine step_min rfl (.tmp 12) (.tmp 14) rfl _ _ (((k : Int) * 64)) rfl rfl hmc ?_; have M1 : True := trivial))
  rw [ext_drop] at H52
  clear hmc H4 H5 hbl W1 M1
  obtain ⟨hc, hf⟩ := cells_at H52.out (j := s.size - 64 * k) (by rw [bc_at, base_at _ _ _ (by omega)]; rfl)
  have hj : ((s.size : Int) - (k : Int) * 64).toNat = s.size - 64 * k := by omega
  go_wp2_with fail
  refine (HB.out _).mono ?_
  rintro e w1 ⟨rfl, rfl⟩
  obtain ⟨W3, hW3⟩ : ∃ W3, W2.setCell ⟨w.heap.size + 1, s.size - 64 * k, none⟩ (.int .u8 128) = W3 := ⟨_, rfl⟩
  rw [hW3]
  have H53 : Hid (W3.heap[w.heap.size + 1]? = some (.cells (bc ((base s.data.toList k).set (s.size - 64 * k) 128)) 36 (0, 0))) := by
    rw [Hid, ← hW3, cells_put H52.out]
    exact congrArg (fun c => some (Obj.cells c 36 (0, 0))) (bc_set _ _ 128)
  have H43 : Hid (W3.heap[w.heap.size]? = some (.cells (bc (List.replicate 64 0)) 36 (0, 0))) := by
    rw [Hid, ← hW3, Below.heap_setCell _ _ _ _ (by simp)]; exact H42.out
  have hbl3 : Below w.heap.size w W3 := by rw [← hW3]; exact hbl2.setCell (by simp) _
  clear hc hf hW3 H52 H42 hbl2 W2
  go_upto_region 9 with fail
  refine wp_region_lit ?_
  refine wpList_run (v := .agg (bc (blk s.data.toList k))) rfl (op_load arr37 (by have := H53.out; rwa [show (base s.data.toList k).set (s.size - 64 * k) 128 = blk s.data.toList k from blk_B s.data.toList k (by rw [size_list]; exact h1) (by rw [size_list]; exact h2)] at this) (by rw [bc_size, blk_len]) rfl rfl) ?_
  refine wpList_runS rfl (op_store arr37 H43.out (by rw [bc_size, List.length_replicate]) (by rw [bc_size, blk_len]) (bc_one _) rfl rfl rfl) ?_
  go_wp2
  refine bodyPost_ret (v := .agg (bc (blk s.data.toList k))) (results_cell1 arr37 Tryd.results21 rfl (setRow_heap _ _ _ _ _ _ H43.out) (by rw [bc_size, blk_len])) rfl ⟨rfl, Below.setRow hbl3 (by omega) _⟩

set_option maxRecDepth 100000 in
set_option maxHeartbeats 2000000 in
theorem blockOf_L (s : ByteArray) (k : Nat) (hs : s.size ≤ 140737488355328) (hk : k < nb s.size) (h1 : 64 * k ≤ s.size) (h2 : s.size < 64 * k + 56) (w : World) :
    Calls Tryd.prog 21 #[.string s, .int .i64 (k : Int)] w fun e w' => e = .returned (.agg (bc (blk s.data.toList k))) ∧ Below w.heap.size w w' := by
  have HK := Hid.mk hk
  have hn : nb s.size = k + 1 := by unfold nb at hk ⊢; omega
  have HB := Hid.mk (blocks_in s.size hs)
  rw [hn] at HB
  unfold nb at hk
  have g1 : (0 : Int) ≤ ((k : Int) * 64) := by omega
  have g2 : ((k : Int) * 64) ≤ (s.size : Int) := by omega
  have hmc : (if (s.size : Int) < (k : Int) * 64 then (s.size : Int) else (k : Int) * 64) = ((k : Int) * 64) := if_neg (by omega)
  have hkn : (((k : Int) * 64)).toNat = k * 64 := by omega
  clear hn
  go_enter Tryd.func21, Tryd.ntmps21
  go_upto_region 3 with fail
  rw [zero64]
  obtain ⟨W1, hW1⟩ : ∃ W1, (w.alloc (.cells (bc (List.replicate 64 0)) 36)).alloc (.cells (bc (List.replicate 64 0)) 36) = W1 := ⟨_, rfl⟩
  have h4 : W1.heap[w.heap.size]? = some (.cells (bc (List.replicate 64 0)) 36 (0, 0)) := by
    rw [← hW1, Below.heap_alloc _ _ _ (by simp), heap_new]
  have h5 : W1.heap[w.heap.size + 1]? = some (.cells (bc (List.replicate 64 0)) 36 (0, 0)) := by
    rw [← hW1]
    exact (congrArg (fun k => (World.alloc _ _).heap[k]?) (World.size_alloc w _).symm).trans (heap_new _ _)
  have hbl : Below w.heap.size w W1 := by
    rw [← hW1]
    exact ((Below.refl _ _).alloc (Nat.le_refl _) _).alloc (by simp) _
  rw [hW1]
  have H4 := Hid.mk h4
  have H5 := Hid.mk h5
  clear h4 h5 hW1
  go_region_law (first
    | (have hck := M1; clear hck; refine step_copy_str rfl (.tmp 10) (.tmp 16) rfl (w.heap.size + 1) rfl (s.extract (k * 64) s.size) rfl _ (List.length_replicate ..) H5.out w.heap.size _ H4.out (by omega) w hbl.drew (by omega) ?_; intro W2 H52 H42 hbl2)
    | (refine step_min rfl (.tmp 12) (.tmp 14) rfl _ _ (((k : Int) * 64)) rfl rfl hmc ?_; have M1 : True := trivial))
  rw [ext_drop] at H52
  clear hmc H4 H5 hbl W1 M1
  obtain ⟨hc, hf⟩ := cells_at H52.out (j := s.size - 64 * k) (by rw [bc_at, base_at _ _ _ (by omega)]; rfl)
  have hj : ((s.size : Int) - (k : Int) * 64).toNat = s.size - 64 * k := by omega
  go_wp2_with fail
  refine (HB.out _).mono ?_
  rintro e w1 ⟨rfl, rfl⟩
  obtain ⟨W3, hW3⟩ : ∃ W3, W2.setCell ⟨w.heap.size + 1, s.size - 64 * k, none⟩ (.int .u8 128) = W3 := ⟨_, rfl⟩
  rw [hW3]
  have H53 : Hid (W3.heap[w.heap.size + 1]? = some (.cells (bc ((base s.data.toList k).set (s.size - 64 * k) 128)) 36 (0, 0))) := by
    rw [Hid, ← hW3, cells_put H52.out]
    exact congrArg (fun c => some (Obj.cells c 36 (0, 0))) (bc_set _ _ 128)
  have H43 : Hid (W3.heap[w.heap.size]? = some (.cells (bc (List.replicate 64 0)) 36 (0, 0))) := by
    rw [Hid, ← hW3, Below.heap_setCell _ _ _ _ (by simp)]; exact H42.out
  have hbl3 : Below w.heap.size w W3 := by rw [← hW3]; exact hbl2.setCell (by simp) _
  clear hc hf hW3 H52 H42 hbl2 W2
  go_upto_region 8 with fail
  refine wp_region_lit ?_
  refine wpList_run (v := .agg (bc ((base s.data.toList k).set (s.size - 64 * k) 128))) rfl (op_load arr37 H53.out (by rw [bc_size]; exact (by rw [List.length_set, base_len])) rfl rfl) ?_
  go_wp2_with fail
  refine (ended_in _ (by rw [List.length_set, base_len]) s.size hs _).mono ?_
  rintro e W4 ⟨rfl, hb4⟩
  have e5 : Hid _ := (Below.block hb4 _ (box_lt H53.out)).trans H53.out
  have e4 : Hid _ := (Below.block hb4 _ (box_lt H43.out)).trans H43.out
  have hbl4 : Below w.heap.size w W4 := hbl3.trans (hb4.mono hbl3.size)
  rename_i hK
  refine hK _ _ ?_
  rw [show endL ((base s.data.toList k).set (s.size - 64 * k) 128) (8 * s.size) 8 = blk s.data.toList k from blk_L s.data.toList k (by rw [size_list]; exact h1) (by rw [size_list]; exact h2)]
  refine wpList_runS rfl (op_store arr37 e5.out (by rw [bc_size]; exact (by rw [List.length_set, base_len])) (by rw [bc_size, blk_len]) (bc_one _) rfl rfl rfl) ?_
  have H55 : Hid _ := setRow_heap _ _ _ (bc (blk s.data.toList k)) _ _ e5.out
  have H45 : Hid _ := (setRow_other W4 (w.heap.size + 1) w.heap.size (bc (blk s.data.toList k)) (by omega)).trans e4.out
  have hbl5 : Below w.heap.size w (W4.setRow (w.heap.size + 1) (bc (blk s.data.toList k))) := Below.setRow hbl4 (by omega) _
  generalize W4.setRow (w.heap.size + 1) (bc (blk s.data.toList k)) = W5 at H55 H45 hbl5 ⊢
  go_upto_region 9 with fail
  refine wp_region_lit ?_
  refine wpList_run (v := .agg (bc (blk s.data.toList k))) rfl (op_load arr37 H55.out (by rw [bc_size, blk_len]) rfl rfl) ?_
  refine wpList_runS rfl (op_store arr37 H45.out (by rw [bc_size, List.length_replicate]) (by rw [bc_size, blk_len]) (bc_one _) rfl rfl rfl) ?_
  go_wp2
  refine bodyPost_ret (v := .agg (bc (blk s.data.toList k))) (results_cell1 arr37 Tryd.results21 rfl (setRow_heap _ _ _ _ _ _ H45.out) (by rw [bc_size, blk_len])) rfl ⟨rfl, Below.setRow hbl5 (by omega) _⟩

set_option maxRecDepth 100000 in
set_option maxHeartbeats 2000000 in
theorem blockOf_C (s : ByteArray) (k : Nat) (hs : s.size ≤ 140737488355328) (hk : k < nb s.size) (h1 : s.size < 64 * k) (w : World) :
    Calls Tryd.prog 21 #[.string s, .int .i64 (k : Int)] w fun e w' => e = .returned (.agg (bc (blk s.data.toList k))) ∧ Below w.heap.size w w' := by
  have HK := Hid.mk hk
  have hn : nb s.size = k + 1 := by unfold nb at hk ⊢; omega
  have HB := Hid.mk (blocks_in s.size hs)
  rw [hn] at HB
  unfold nb at hk
  have g1 : (0 : Int) ≤ (s.size : Int) := by omega
  have g2 : (s.size : Int) ≤ (s.size : Int) := by omega
  have hmc : (if (s.size : Int) < (k : Int) * 64 then (s.size : Int) else (k : Int) * 64) = (s.size : Int) := if_pos (by omega)
  have hkn : ((s.size : Int)).toNat = s.size := by omega
  clear hn
  go_enter Tryd.func21, Tryd.ntmps21
  go_upto_region 3 with fail
  rw [zero64]
  obtain ⟨W1, hW1⟩ : ∃ W1, (w.alloc (.cells (bc (List.replicate 64 0)) 36)).alloc (.cells (bc (List.replicate 64 0)) 36) = W1 := ⟨_, rfl⟩
  have h4 : W1.heap[w.heap.size]? = some (.cells (bc (List.replicate 64 0)) 36 (0, 0)) := by
    rw [← hW1, Below.heap_alloc _ _ _ (by simp), heap_new]
  have h5 : W1.heap[w.heap.size + 1]? = some (.cells (bc (List.replicate 64 0)) 36 (0, 0)) := by
    rw [← hW1]
    exact (congrArg (fun k => (World.alloc _ _).heap[k]?) (World.size_alloc w _).symm).trans (heap_new _ _)
  have hbl : Below w.heap.size w W1 := by
    rw [← hW1]
    exact ((Below.refl _ _).alloc (Nat.le_refl _) _).alloc (by simp) _
  rw [hW1]
  have H4 := Hid.mk h4
  have H5 := Hid.mk h5
  clear h4 h5 hW1
  go_region_law (first
    | (have hck := M1; clear hck; refine step_copy_str rfl (.tmp 10) (.tmp 16) rfl (w.heap.size + 1) rfl ByteArray.empty rfl _ (List.length_replicate ..) H5.out w.heap.size _ H4.out (by omega) w hbl.drew (by omega) ?_; intro W2 H52 H42 hbl2)
    | (refine step_min rfl (.tmp 12) (.tmp 14) rfl _ _ ((s.size : Int)) rfl rfl hmc ?_; have M1 : True := trivial))
  rw [ext_none s k h1] at H52
  clear hmc H4 H5 hbl W1 M1
  go_wp2_with fail
  refine (HB.out _).mono ?_
  rintro e w1 ⟨rfl, rfl⟩
  go_upto_region 8 with fail
  refine wp_region_lit ?_
  refine wpList_run (v := .agg (bc (base s.data.toList k))) rfl (op_load arr37 H52.out (by rw [bc_size]; exact (base_len _ _)) rfl rfl) ?_
  go_wp2_with fail
  refine (ended_in _ (base_len _ _) s.size hs _).mono ?_
  rintro e W4 ⟨rfl, hb4⟩
  have e5 : Hid _ := (Below.block hb4 _ (box_lt H52.out)).trans H52.out
  have e4 : Hid _ := (Below.block hb4 _ (box_lt H42.out)).trans H42.out
  have hbl4 : Below w.heap.size w W4 := hbl2.trans (hb4.mono hbl2.size)
  rename_i hK
  refine hK _ _ ?_
  rw [show endL (base s.data.toList k) (8 * s.size) 8 = blk s.data.toList k from blk_C s.data.toList k HK.out h1]
  refine wpList_runS rfl (op_store arr37 e5.out (by rw [bc_size]; exact (base_len _ _)) (by rw [bc_size, blk_len]) (bc_one _) rfl rfl rfl) ?_
  have H55 : Hid _ := setRow_heap _ _ _ (bc (blk s.data.toList k)) _ _ e5.out
  have H45 : Hid _ := (setRow_other W4 (w.heap.size + 1) w.heap.size (bc (blk s.data.toList k)) (by omega)).trans e4.out
  have hbl5 : Below w.heap.size w (W4.setRow (w.heap.size + 1) (bc (blk s.data.toList k))) := Below.setRow hbl4 (by omega) _
  generalize W4.setRow (w.heap.size + 1) (bc (blk s.data.toList k)) = W5 at H55 H45 hbl5 ⊢
  go_upto_region 9 with fail
  refine wp_region_lit ?_
  refine wpList_run (v := .agg (bc (blk s.data.toList k))) rfl (op_load arr37 H55.out (by rw [bc_size, blk_len]) rfl rfl) ?_
  refine wpList_runS rfl (op_store arr37 H45.out (by rw [bc_size, List.length_replicate]) (by rw [bc_size, blk_len]) (bc_one _) rfl rfl rfl) ?_
  go_wp2
  refine bodyPost_ret (v := .agg (bc (blk s.data.toList k))) (results_cell1 arr37 Tryd.results21 rfl (setRow_heap _ _ _ _ _ _ H45.out) (by rw [bc_size, blk_len])) rfl ⟨rfl, Below.setRow hbl5 (by omega) _⟩

theorem blockOf_in (s : ByteArray) (k : Nat) (hs : s.size ≤ 140737488355328) (hk : k < nb s.size) (w : World) :
    Calls Tryd.prog 21 #[.string s, .int .i64 (k : Int)] w fun e w' => e = .returned (.agg (bc (blk s.data.toList k))) ∧ Below w.heap.size w w' := by
  by_cases hA : 64 * k + 64 ≤ s.size
  · exact blockOf_A s k hs hk hA w
  · by_cases hB : 64 * k + 56 ≤ s.size
    · exact blockOf_B s k hs hk hB (by omega) w
    · by_cases hL : 64 * k ≤ s.size
      · exact blockOf_L s k hs hk hL (by omega) w
      · exact blockOf_C s k hs hk (by omega) w
end Go.Proofs.YtdecmbpmgnoelaaDoor
