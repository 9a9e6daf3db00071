/- Small. -/
import Derived.Test.YthjhemodmdficaaDoorNCmp
namespace Go.Proofs.YthjhemodmdficaaDoor
set_option linter.unusedVariables false
open Go.RowKit
theorem natR_ok (N : Nat) (h : N < Lim) : natR N = .returned (.tuple #[.agg (natL N).toArray, .int .i64 0]) := if_pos h
theorem natR_no (N : Nat) (h : ¬ N < Lim) : natR N = .returned (.tuple #[.agg (natL 0).toArray, .int .i64 3]) := if_neg h
theorem lim_big (k N : Nat) (hk : k ≤ 128) (h : N < 4294967296 ^ k) : N < Lim := Nat.lt_of_lt_of_le h (Nat.pow_le_pow_right (by omega) hk)
theorem results_nat {fn : Func} {p : Tmp} (h : fn.results = #[.cell p 27]) {tmps : Array Value} {W : World} {b : Nat} {L : List Value} {fz : Nat × Nat} (hp : tmps.getD p undef = .pointer (some ⟨b, 0, none⟩)) (hb : W.heap[b]? = some (.cells L.toArray 27 fz)) (hs : L.length = 129) :
    (results fn tmps).run Tryd.prog W = .ok (.agg L.toArray) W := by
  have hp' : tmps[p]?.getD undef = .pointer (some ⟨b, 0, none⟩) := by simpa using hp
  simp only [results, h]
  simp [hp', asAddr, nat_loadV hb hs]
theorem store_cells {W : World} {b t : Nat} {L M : List Value} (h : W.heap[b]? = some (.cells L.toArray t (0, 0))) (hs : L.length = 129) (hv : M.length = 129) (h1 : ∀ v ∈ M, v.oneCell' = true) : (storeCells ⟨b, 0, none⟩ M).run Tryd.prog W = .ok () (W.setRow b M.toArray) := by
  have := run_storeCells_from (P := Tryd.prog) b t M 0 L.toArray W h (by simp; omega) h1
  simpa [List.drop_eq_nil_of_le (show L.length ≤ M.length by omega)] using this
set_option maxRecDepth 100000 in
set_option maxHeartbeats 1000000 in
theorem small_in (n : Nat) (h : n < 18446744073709551616) (W : World) : Calls Tryd.prog 12 #[.int .u64 (n : Int)] W fun e w' => e = .returned (.agg (natL n).toArray) ∧ Below W.heap.size W w' := by
  obtain ⟨x, HX⟩ : ∃ x, Hid (x = BitVec.ofNat 32 n) := ⟨_, rfl⟩
  obtain ⟨y, HY⟩ : ∃ y, Hid (y = BitVec.ofNat 32 (n / 4294967296)) := ⟨_, rfl⟩
  have hx : x.toNat = n % 4294967296 := by rw [HX.out, bv_of]
  have hy : y.toNat = n / 4294967296 := by rw [HY.out, bv_of]; omega
  have HV : Hid (val [x, y] = n) := by rw [Hid, val, val, val, hx, hy]; omega
  have x1 : IntKind.u32.wrap (n : Int) = (x.toNat : Int) := by rw [IntKind.wrap_u32]; omega
  have x2 : (n : Int) % 4294967296 = (x.toNat : Int) := by omega
  have y1 : (n : Int) / 4294967296 = (y.toNat : Int) := by omega
  have y2 : IntKind.u32.wrap ((n : Int) / 4294967296) = (y.toNat : Int) := by rw [IntKind.wrap_u32]; omega
  have y3 := bv_lt y
  have HOK : Hid (natR n = .returned (.tuple #[.agg (natL n).toArray, .int .i64 0])) := natR_ok n (lim_big 2 n (by omega) (by omega))
  have HNO : Hid (∀ (W : World) (g : Nat), W.heap[g]? = some (.cells #[.int .u32 (x.toNat : Int), .int .u32 (y.toNat : Int)] 24 (0, 0)) → Calls Tryd.prog 37 #[.slice (some ⟨g, 0, none⟩) 2 2] W fun e w' => e = .returned (.tuple #[.agg (natL n).toArray, .int .i64 0]) ∧ Below W.heap.size W w') := fun W g hg => by
    have h := natOf_in W g 24 0 2 2 [] [] [x, y] rfl rfl (by omega) (by omega) (by omega) (by omega) (by exact hg)
    rwa [HV.out, HOK.out] at h
  have hz := zero26
  have hlen := natL_len
  clear hx hy
  go_enter Tryd.func12, Tryd.ntmps12
  go_wp2_with fail
  refine (HNO.out _ _ ?_).mono ?_
  · exact (congrArg (fun k => (World.alloc _ _).heap[k]?) (World.size_alloc W _).symm).trans (heap_new _ _)
  rintro e w1 ⟨rfl, hb1⟩
  have A1 : Hid ((w1.alloc (.cells (natL 0).toArray 27)).heap[w1.heap.size]? = _) := heap_new _ _
  have hst := store_cells A1.out (natL_len 0) (natL_len n) (natL_cells n)
  have B1 : Below W.heap.size W w1 := (((Below.refl W.heap.size W).alloc (Nat.le_refl _) _).alloc (by simp) _).trans (hb1.mono (by simp; omega))
  have Z1 : Hid (w1.heap[W.heap.size]? = some (.cells (natL 0).toArray 27 (0, 0))) := by
    rw [Hid, hb1.block _ (by simp; omega), Below.heap_alloc _ _ _ (by simp), heap_new]
  have hw1 : W.heap.size < w1.heap.size := box_lt Z1.out
  go_upto_region 2 with fail
  have C1 : Hid (((w1.alloc (.cells (natL 0).toArray 27)).setRow w1.heap.size (natL n).toArray).heap[w1.heap.size]? = some (.cells (natL n).toArray 27 (0, 0))) := setRow_heap _ _ _ _ _ _ A1.out
  have C2 : Hid (((w1.alloc (.cells (natL 0).toArray 27)).setRow w1.heap.size (natL n).toArray).heap[W.heap.size]? = some (.cells (natL 0).toArray 27 (0, 0))) := by
    rw [Hid, setRow_other _ _ _ _ (by omega), Below.heap_alloc _ _ _ (by omega)]; exact Z1.out
  have B2 : Below W.heap.size W ((w1.alloc (.cells (natL 0).toArray 27)).setRow w1.heap.size (natL n).toArray) := below_row (B1.alloc (by omega) _) (by omega) _
  generalize (w1.alloc (.cells (natL 0).toArray 27)).setRow w1.heap.size (natL n).toArray = U at C1 C2 B2 ⊢
  refine wp_region_lit ?_
  refine wpList_run (W' := U) (v := .agg (natL n).toArray) rfl (op_load C1.out (natL_len n) rfl rfl) ?_
  refine wpList_runS rfl (op_store C2.out (natL_len 0) (natL_len n) (natL_cells n) rfl rfl rfl) ?_
  go_wp2
  refine bodyPost_ret (results_nat Tryd.results12 rfl (setRow_heap _ _ _ _ _ _ C2.out) (natL_len n)) rfl ⟨rfl, below_row B2 (Nat.le_refl _) _⟩
end Go.Proofs.YthjhemodmdficaaDoor
