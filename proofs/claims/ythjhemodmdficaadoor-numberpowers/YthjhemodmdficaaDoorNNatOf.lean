/- natOf. -/
import Derived.Test.YthjhemodmdficaaDoorNNat
namespace Go.Proofs.YthjhemodmdficaaDoor
set_option linter.unusedVariables false
open Go.RowKit
theorem zero26' (W : World) : (zeroValue 27).run Tryd.prog W = .ok (.agg (wl (List.replicate 128 0) ++ [Value.int .i64 0]).toArray) W := by kernel_rfl
theorem zero26 (W : World) : (zeroValue 27).run Tryd.prog W = .ok (.agg (natL 0).toArray) W := by rw [natZ]; exact zero26' W
theorem size23 : (Tryd.prog.info? 24).map (·.size) = some 1 := by kernel_rfl
theorem size26 : (Tryd.prog.info? 27).map (·.size) = some 129 := by kernel_rfl
theorem nat_loadV {W : World} {b : Nat} {L : List Value} {fz : Nat × Nat} (h : W.heap[b]? = some (.cells L.toArray 27 fz)) (hs : L.length = 129) : (loadVar 27 ⟨b, 0, none⟩).run Tryd.prog W = .ok (.agg L.toArray) W :=
  run_loadVar_row W b _ _ _ fz _ h Tryd.underlying27 rfl (by rw [List.size_toArray, hs]; exact size26)
theorem nat_load {W : World} {b : Nat} {L : List Value} {fz : Nat × Nat} (h : W.heap[b]? = some (.cells L.toArray 27 fz)) (hs : L.length = 129) : (Instr.loadAt 27 (.pointer (some ⟨b, 0, none⟩))).run Tryd.prog W = .ok (.agg L.toArray) W := by
  simp only [Instr.loadAt, Instr.sureAddr, Sem.run_bind, Sem.run_pure, Result.andThen]
  exact nat_loadV h hs
theorem nat_store {W : World} {b : Nat} {L M : List Value} (h : W.heap[b]? = some (.cells L.toArray 27 (0, 0))) (hs : L.length = 129) (hv : M.length = 129) (h1 : ∀ v ∈ M, v.oneCell' = true) : (Instr.storeAt 27 (.pointer (some ⟨b, 0, none⟩)) (.agg M.toArray)).run Tryd.prog W = .ok () (W.setRow b M.toArray) := by
  simp only [Instr.storeAt, Instr.sureAddr, Sem.run_bind, Sem.run_pure, Result.andThen]
  exact run_storeVar_row W b _ _ _ _ h (by rw [List.size_toArray, hv]; exact size26) (by rw [List.size_toArray, List.size_toArray, hs, hv]) (by simpa using h1)
theorem op_load {W : World} {b : Nat} {L : List Value} {fz : Nat × Nat} (h : W.heap[b]? = some (.cells L.toArray 27 fz)) (hs : L.length = 129) {o : Oper} {x : Operand} {a : Act} (ho : o.op = .load 27 x) (hx : a.eval x = .pointer (some ⟨b, 0, none⟩)) :
    (execOp a.eval o).run Tryd.prog W = .ok (.value (.agg L.toArray)) W := by
  simp only [execOp, ho, hx, Sem.run_bind, nat_load h hs]
  rfl
theorem op_store {W : World} {b : Nat} {L M : List Value} (h : W.heap[b]? = some (.cells L.toArray 27 (0, 0))) (hs : L.length = 129) (hv : M.length = 129) (h1 : ∀ v ∈ M, v.oneCell' = true) {o : Oper} {x y : Operand} {a : Act} (ho : o.op = .store 27 x y) (hx : a.eval x = .pointer (some ⟨b, 0, none⟩)) (hy : a.eval y = .agg M.toArray) :
    (execOp a.eval o).run Tryd.prog W = .ok .skip (W.setRow b M.toArray) := by
  simp only [execOp, ho, hx, hy, Sem.run_bind, nat_store h hs hv h1]
  rfl
theorem wpList_run {ops : Array Oper} {rest : List Oper} {o : Oper} {a : Act} {W W' : World} {Q : Exit → Act → World → Prop} {v : Value} (hgd : o.guard = none)
    (hrun : (execOp a.eval o).run Tryd.prog W = .ok (.value v) W') (h : wpList Tryd.prog ops Q rest (a.put o.dst v) W') : wpList Tryd.prog ops Q (o :: rest) a W :=
  wpList_plain hgd fun K hK => by
    unfold Oper.wp
    rw [hrun]
    exact hK _ _ h
theorem wpList_runS {ops : Array Oper} {rest : List Oper} {o : Oper} {a : Act} {W W' : World} {Q : Exit → Act → World → Prop} (hgd : o.guard = none)
    (hrun : (execOp a.eval o).run Tryd.prog W = .ok .skip W') (h : wpList Tryd.prog ops Q rest (a.put o.dst undef) W') : wpList Tryd.prog ops Q (o :: rest) a W :=
  wpList_plain hgd fun K hK => by
    unfold Oper.wp
    rw [hrun]
    exact hK _ _ h
theorem operwp_run {o : Oper} {a : Act} {W W' : World} {K : Act → World → Prop} {Q : Exit → Act → World → Prop} {v : Value} (hrun : (execOp a.eval o).run Tryd.prog W = .ok (.value v) W') (h : K (a.put o.dst v) W') : Oper.wp Tryd.prog o a W K Q := by
  unfold Oper.wp
  rw [hrun]
  exact h
theorem op_move {o : Oper} {a : Act} {W : World} {x : Operand} {v : Value} (ho : o.op = .move x) (hx : a.eval x = v) : (execOp a.eval o).run Tryd.prog W = .ok (.value v) W := by
  simp [execOp, ho, hx]
theorem build26 (W : World) : (Instr.build 27 #[]).run Tryd.prog W = .ok (.agg (wl (List.replicate 128 0) ++ [Value.int .i64 0]).toArray) W := by kernel_rfl
theorem build26m (m : Int) (W : World) : (Instr.build 27 #[(1, .int .i64 m)]).run Tryd.prog W = .ok (.agg (wl (List.replicate 128 0) ++ [Value.int .i64 m]).toArray) W := by kernel_rfl
theorem op_build26 {o : Oper} {a : Act} {W : World} (ho : o.op = .build 27 #[]) : (execOp a.eval o).run Tryd.prog W = .ok (.value (.agg (natL 0).toArray)) W := by
  have h := build26 W
  rw [← natZ] at h
  simp [execOp, ho, h]
theorem op_build26m {o : Oper} {a : Act} {W : World} {p : Operand} {m : Int} (ho : o.op = .build 27 #[(1, p)]) (hp : a.eval p = .int .i64 m) : (execOp a.eval o).run Tryd.prog W = .ok (.value (.agg (wl (List.replicate 128 0) ++ [Value.int .i64 m]).toArray)) W := by
  have h := build26m m W
  simp [execOp, ho, hp, h]
theorem alloc26 (W : World) : (Instr.alloc 27 true (.tuple #[])).run Tryd.prog W = .ok (.pointer (some ⟨W.heap.size, 0, none⟩)) (W.alloc (.cells (wl (List.replicate 128 0) ++ [Value.int .i64 0]).toArray 27)) := by kernel_rfl
theorem op_alloc26 {o : Oper} {a : Act} {W : World} (ho : o.op = .alloc 27) : (execOp a.eval o).run Tryd.prog W = .ok (.value (.pointer (some ⟨W.heap.size, 0, none⟩))) (W.alloc (.cells (natL 0).toArray 27)) := by
  rw [natZ]
  simp only [execOp, ho, Sem.run_bind, alloc26]
  rfl
theorem results_nat_tmp {fn : Func} {p u : Tmp} (h : fn.results = #[.cell p 27, .tmp u]) {tmps : Array Value} {W : World} {b : Nat} {L : List Value} {fz : Nat × Nat} {v : Value} (hp : tmps.getD p undef = .pointer (some ⟨b, 0, none⟩)) (hv : tmps.getD u undef = v) (hb : W.heap[b]? = some (.cells L.toArray 27 fz)) (hs : L.length = 129) :
    (results fn tmps).run Tryd.prog W = .ok (.tuple #[.agg L.toArray, v]) W := by
  have hp' : tmps[p]?.getD undef = .pointer (some ⟨b, 0, none⟩) := by simpa using hp
  have hv' : tmps[u]?.getD undef = v := by simpa using hv
  simp only [results, h]
  simp [hp', hv', asAddr, nat_loadV hb hs]
theorem below_row {B : Nat} {a w : World} (h : Below B a w) {b : Nat} (hb : B ≤ b) (cs : Array Value) : Below B a (w.setRow b cs) :=
  ⟨h.os, h.tape, h.output, by simpa [World.setRow] using h.size, fun k hk => (setRow_other w b k cs (by omega)).trans (h.block k hk)⟩
theorem natL_cells (N : Nat) : ∀ v ∈ natL N, v.oneCell' = true := fun v hv => by
  rw [natL] at hv
  rcases List.mem_append.1 hv with h | h
  · exact wl_one _ v h
  · rw [List.mem_singleton.1 h]; rfl
/-- the digits that are copied make the number. -/
theorem splice_nat (xs : List (BitVec 32)) (m : Nat) (hm : m ≤ xs.length) (h128 : m ≤ 128) (hmn : mny (val (xs.take m)) = m) : splice (wl (List.replicate 128 0) ++ [Value.int .i64 (m : Int)]) 0 (wl (xs.take m)) = natL (val (xs.take m)) := by
  have hl : (xs.take m ++ List.replicate (128 - m) 0).length = 128 := by rw [List.length_append, List.length_take, List.length_replicate]; omega
  have hv : val (xs.take m ++ List.replicate (128 - m) 0) = val (xs.take m) := by rw [val_app, val_zero, Nat.mul_zero, Nat.add_zero]
  have h := natL_of _ hl m (by rw [hv]; exact hmn)
  rw [hv] at h
  rw [← h, splice, List.take_zero, List.nil_append, Nat.zero_add, wl_len, List.length_take, Nat.min_eq_left hm, wl_app, List.append_assoc]
  congr 1
  rw [List.drop_append_of_le_length (by rw [wl_len, List.length_replicate]; exact h128)]
  congr 1
  unfold wl
  rw [← List.map_drop, List.drop_replicate]
set_option maxRecDepth 100000 in
set_option maxHeartbeats 1000000 in
theorem natOf_in (W : World) (g t o c1 n : Nat) (A C : List Value) (xs : List (BitVec 32)) (hA : A.length = o) (hx : xs.length = n) (hn : n ≤ 1000) (ho : o ≤ 1000) (hc : n ≤ c1) (hc2 : c1 ≤ 100000)
    (hg : W.heap[g]? = some (.cells (A ++ (wl xs ++ C)).toArray t (0, 0))) :
    Calls Tryd.prog 37 #[.slice (some ⟨g, o, none⟩) n c1] W fun e w' => e = natR (val xs) ∧ Below W.heap.size W w' := by
  have HX := Hid.mk hx
  have HCE : Hid (∀ j, j < n → W.cell? ⟨g, o + j, none⟩ = some (.int .u32 ((xs[j]?.getD 0).toNat : Int))) := fun j hj => by
    rw [← hA]; exact (cells_at hg (mid_at A C xs j (by rw [hx]; exact hj))).1
  have hgl := box_lt hg
  clear hA hx hg
  have hz := zero26
  go_enter Tryd.func37, Tryd.ntmps37
  go_wp2_with fail
  have H2 : Hid ((W.alloc (.cells (natL 0).toArray 27)).heap[W.heap.size]? = some (.cells (natL 0).toArray 27 (0, 0))) := heap_new _ _
  have HC2 : Hid (∀ j, j < n → (W.alloc (.cells (natL 0).toArray 27)).cell? ⟨g, o + j, none⟩ = some (.int .u32 ((xs[j]?.getD 0).toNat : Int))) := fun j hj =>
    (((Below.refl W.heap.size W).alloc (Nat.le_refl _) _).cell (p := ⟨g, o + j, none⟩) hgl).trans (HCE.out j hj)
  have hB : Below W.heap.size W (W.alloc (.cells (natL 0).toArray 27)) := (Below.refl _ _).alloc (Nat.le_refl _) _
  have hsz : (W.alloc (.cells (natL 0).toArray 27)).heap.size = W.heap.size + 1 := World.size_alloc ..
  generalize W.alloc (.cells (natL 0).toArray 27) = V at H2 HC2 hB hsz ⊢
  clear HCE
  go_loopw [4] (fun i wr => ∃ m : Nat, m ≤ n ∧ i = .int .i64 (m : Int) ∧ Hid (val xs = val (xs.take m)) ∧ wr = V) (fun i _ => (intOf i).toNat)
  case atStart => exact ⟨n, by omega, rfl, by rw [Hid, List.take_of_length_le (by rw [HX.out]; omega)], rfl⟩
  case round =>
    obtain ⟨m, hm, rfl, HV, rfl⟩ := hrel
    by_cases hpos : 0 < m
    · obtain ⟨k, hk⟩ : ∃ k, m = k + 1 := ⟨m - 1, by omega⟩
      have hcc := HC2.out k (by omega)
      have HVS := Hid.mk (val_take_succ xs k (by rw [HX.out]; omega))
      have hgt : (0 : Int) < (m : Int) := by omega
      have hki : (m : Int) - 1 = (k : Int) := by omega
      have hkn : (k : Int) < (n : Int) := by omega
      by_cases hx0 : (xs[k]?.getD 0).toNat = 0
      · rw [hx0] at hcc
        have HV2 : Hid (val xs = val (xs.take k)) := by rw [Hid, HV.out, hk, HVS.out, hx0, Nat.mul_zero, Nat.add_zero]
        go_wp2
        go_roundw
        case rel => exact ⟨k, by omega, by go_num, HV2, trivial⟩
        case measure => simp [intOf]; omega
      · have hne : (((xs[k]?.getD 0).toNat : Int) == 0) = false := by rw [beq_eq_false_iff_ne]; omega
        have HMN : Hid (mny (val (xs.take m)) = m) := by
          have h := mny_list (xs.take (k + 1)) (.inr ⟨xs.take k, xs[k]?.getD 0, by rw [List.take_add_one, List.getElem?_eq_getElem (by rw [HX.out]; omega)]; rfl, hx0⟩)
          rw [Hid, hk, h, List.length_take, HX.out]; omega
        generalize (xs[k]?.getD 0) = x at hcc hne
        clear HVS hx0 hk
        go_upto_region 4 with fail
        clear hcc hne hgt hki hkn
        by_cases h128 : 128 < m
        · have h128i : (128 : Int) < (m : Int) := by omega
          have HNO : Hid (natR (val xs) = .returned (.tuple #[.agg (natL 0).toArray, .int .i64 3])) := by
            rw [Hid, natR, if_neg]
            intro hlt
            have := mny_le _ hlt
            rw [HV.out, HMN.out] at this
            omega
          go_upto_region 5 with fail
          refine wp_region_lit ?_
          refine wpList_run (W' := wr) rfl (op_build26 rfl) ?_
          refine wpList_runS rfl (op_store H2.out (natL_len 0) (natL_len 0) (natL_cells 0) rfl rfl rfl) ?_
          go_wp2
          refine bodyPost_ret (results_nat_tmp Tryd.results37 rfl rfl (setRow_heap _ _ _ _ _ _ H2.out) (natL_len 0)) rfl ⟨HNO.out.symm, below_row hB (Nat.le_refl _) _⟩
        · have h128i : (m : Int) ≤ 128 := by omega
          have HOK : Hid (natR (val xs) = .returned (.tuple #[.agg (natL (val (xs.take m))).toArray, .int .i64 0])) := by
            rw [Hid, natR, ← HV.out, if_pos]
            have h1 := val_lt (xs.take m)
            rw [List.length_take, HX.out, Nat.min_eq_left hm, ← HV.out] at h1
            exact Nat.lt_of_lt_of_le h1 (Nat.pow_le_pow_right (by omega) (by omega))
          have HSP := Hid.mk (splice_nat xs m (by rw [HX.out]; exact hm) (by omega) HMN.out)
          generalize val (xs.take m) = N at HOK HSP
          obtain ⟨cs, hcs⟩ : ∃ cs, cs = wl (xs.take m) := ⟨_, rfl⟩
          have HCS := Hid.mk hcs
          have hcl : cs.length = m := by rw [hcs, wl_len, List.length_take, HX.out]; omega
          have HCL := Hid.mk hcl
          have HONE : Hid (∀ v ∈ cs, v.oneCell' = true) := by rw [Hid, hcs]; exact wl_one _
          rw [← hcs] at HSP
          have HSRC : Hid (∀ j v, cs[j]? = some v → wr.cell? ((⟨g, o, none⟩ : Addr).add j) = some v) := fun j v hv => by
            have hj : j < cs.length := (List.getElem?_eq_some_iff.1 hv).1
            rw [hcs, wl_at _ j (by rw [← wl_len, ← hcs]; exact hj)] at hv
            rw [addr_at, ← hv, HC2.out j (by omega), List.getElem?_take_of_lt (by omega)]
          obtain ⟨cur, hcur⟩ : ∃ cur, cur = wl (List.replicate 128 0) ++ [Value.int .i64 (m : Int)] := ⟨_, rfl⟩
          have HCUR := Hid.mk hcur
          have hcul : cur.length = 129 := by rw [hcur, List.length_append, wl_len]; rfl
          have HCUL := Hid.mk hcul
          have HCU1 : Hid (∀ v ∈ cur, v.oneCell' = true) := by
            rw [Hid, hcur]
            intro v hv
            rcases List.mem_append.1 hv with h | h
            · exact wl_one _ v h
            · rw [List.mem_singleton.1 h]; rfl
          rw [← hcur] at HSP
          clear hcs hcl hcur hcul
          go_upto_region 6 with fail
          refine wp_region_lit ?_
          refine wpList_run (W' := wr) (v := .int .i64 (m : Int)) rfl (op_move rfl rfl) ?_
          refine wpList_run (W' := wr) (v := .agg (wl (List.replicate 128 0) ++ [Value.int .i64 (m : Int)]).toArray) rfl (op_build26m rfl rfl) ?_
          refine wpList_run (v := .pointer (some ⟨wr.heap.size, 0, none⟩)) (W' := wr.alloc (.cells (natL 0).toArray 27)) rfl (op_alloc26 rfl) ?_
          rw [← HCUR.out]
          have A5 : Hid ((wr.alloc (.cells (natL 0).toArray 27)).heap[wr.heap.size]? = some (.cells (natL 0).toArray 27 (0, 0))) := heap_new _ _
          refine wpList_runS rfl (op_store A5.out (natL_len 0) HCUL.out HCU1.out rfl rfl rfl) ?_
          have B5 : Hid (((wr.alloc (.cells (natL 0).toArray 27)).setRow wr.heap.size cur.toArray).heap[wr.heap.size]? = some (.cells cur.toArray 27 (0, 0))) := setRow_heap _ _ _ _ _ _ A5.out
          have BB : Below wr.heap.size wr ((wr.alloc (.cells (natL 0).toArray 27)).setRow wr.heap.size cur.toArray) := below_row ((Below.refl _ _).alloc (Nat.le_refl _) _) (Nat.le_refl _) _
          have hgl2 : g < wr.heap.size := by rw [hsz]; omega
          have SRC2 : Hid (∀ j v, cs[j]? = some v → ((wr.alloc (.cells (natL 0).toArray 27)).setRow wr.heap.size cur.toArray).cell? ((⟨g, o, none⟩ : Addr).add j) = some v) := fun j v hv => by
            have h := HSRC.out j v hv
            rw [addr_at] at h ⊢
            exact (BB.cell (p := ⟨g, o + j, none⟩) hgl2).trans h
          generalize (wr.alloc (.cells (natL 0).toArray 27)).setRow wr.heap.size cur.toArray = U at B5 BB SRC2 ⊢
          rw [hsz] at B5 BB ⊢
          have hmc : m ≤ c1 := by omega
          have HMIN : Hid (cs.length = Nat.min m 128) := by rw [Hid, HCL.out]; exact (Nat.min_eq_left (by omega)).symm
          have HFIT : Hid (0 + cs.length ≤ cur.length) := by rw [Hid, HCL.out, HCUL.out]; omega
          clear A5 HSRC HC2 hz
          go_upto_region 7 with fail
          simp only [Act.put, List.setIfInBounds_toArray, List.set_cons_succ, List.set_cons_zero]
          go_region_law (first | (refine step_copy_splice rfl (.tmp 26) (.tmp 29) 31 31 rfl 24 Tryd.underlying31 size23 (some ⟨W.heap.size + 1, 0, none⟩) (some ⟨g, o, none⟩) 128 128 m c1 rfl rfl (W.heap.size + 1) 0 cur 27 B5.out cs HMIN.out (fun _ => ⟨rfl, ⟨g, o, none⟩, rfl, SRC2.out⟩) HFIT.out HONE.out (W.heap.size + 1) wr BB.drew (Nat.le_refl _) ?_; intro w4 hg4 hb4))
          have hg5 : Hid (w4.heap[W.heap.size + 1]? = some (.cells (natL N).toArray 27 (0, 0))) := by rw [Hid, ← HSP.out]; exact hg4.out
          have H24 : Hid (w4.heap[W.heap.size]? = some (.cells (natL 0).toArray 27 (0, 0))) := (hb4.block _ (by omega)).trans H2.out
          have BW : Below W.heap.size W w4 := hB.trans (hb4.mono (by omega))
          clear hg4 hb4 HSP B5 BB SRC2
          go_upto_region 8 with fail
          refine wp_region_lit ?_
          refine wpList_run (W' := w4) rfl (op_load hg5.out (natL_len N) rfl rfl) ?_
          refine wpList_runS rfl (op_store H24.out (natL_len 0) (natL_len N) (natL_cells N) rfl rfl rfl) ?_
          go_wp2
          refine bodyPost_ret (results_nat_tmp Tryd.results37 rfl rfl (setRow_heap _ _ _ _ _ _ H24.out) (natL_len N)) rfl ⟨HOK.out.symm, below_row BW (Nat.le_refl _) _⟩
    · have hm0 : m = 0 := by omega
      have hgt : (m : Int) ≤ 0 := by omega
      have HMN : Hid (mny (val (xs.take m)) = m) := by rw [Hid, hm0]; rfl
      · skip
        go_upto_region 4 with fail
        clear hgt hm0 hpos
        by_cases h128 : 128 < m
        · have h128i : (128 : Int) < (m : Int) := by omega
          have HNO : Hid (natR (val xs) = .returned (.tuple #[.agg (natL 0).toArray, .int .i64 3])) := by
            rw [Hid, natR, if_neg]
            intro hlt
            have := mny_le _ hlt
            rw [HV.out, HMN.out] at this
            omega
          go_upto_region 5 with fail
          refine wp_region_lit ?_
          refine wpList_run (W' := wr) rfl (op_build26 rfl) ?_
          refine wpList_runS rfl (op_store H2.out (natL_len 0) (natL_len 0) (natL_cells 0) rfl rfl rfl) ?_
          go_wp2
          refine bodyPost_ret (results_nat_tmp Tryd.results37 rfl rfl (setRow_heap _ _ _ _ _ _ H2.out) (natL_len 0)) rfl ⟨HNO.out.symm, below_row hB (Nat.le_refl _) _⟩
        · have h128i : (m : Int) ≤ 128 := by omega
          have HOK : Hid (natR (val xs) = .returned (.tuple #[.agg (natL (val (xs.take m))).toArray, .int .i64 0])) := by
            rw [Hid, natR, ← HV.out, if_pos]
            have h1 := val_lt (xs.take m)
            rw [List.length_take, HX.out, Nat.min_eq_left hm, ← HV.out] at h1
            exact Nat.lt_of_lt_of_le h1 (Nat.pow_le_pow_right (by omega) (by omega))
          have HSP := Hid.mk (splice_nat xs m (by rw [HX.out]; exact hm) (by omega) HMN.out)
          generalize val (xs.take m) = N at HOK HSP
          obtain ⟨cs, hcs⟩ : ∃ cs, cs = wl (xs.take m) := ⟨_, rfl⟩
          have HCS := Hid.mk hcs
          have hcl : cs.length = m := by rw [hcs, wl_len, List.length_take, HX.out]; omega
          have HCL := Hid.mk hcl
          have HONE : Hid (∀ v ∈ cs, v.oneCell' = true) := by rw [Hid, hcs]; exact wl_one _
          rw [← hcs] at HSP
          have HSRC : Hid (∀ j v, cs[j]? = some v → wr.cell? ((⟨g, o, none⟩ : Addr).add j) = some v) := fun j v hv => by
            have hj : j < cs.length := (List.getElem?_eq_some_iff.1 hv).1
            rw [hcs, wl_at _ j (by rw [← wl_len, ← hcs]; exact hj)] at hv
            rw [addr_at, ← hv, HC2.out j (by omega), List.getElem?_take_of_lt (by omega)]
          obtain ⟨cur, hcur⟩ : ∃ cur, cur = wl (List.replicate 128 0) ++ [Value.int .i64 (m : Int)] := ⟨_, rfl⟩
          have HCUR := Hid.mk hcur
          have hcul : cur.length = 129 := by rw [hcur, List.length_append, wl_len]; rfl
          have HCUL := Hid.mk hcul
          have HCU1 : Hid (∀ v ∈ cur, v.oneCell' = true) := by
            rw [Hid, hcur]
            intro v hv
            rcases List.mem_append.1 hv with h | h
            · exact wl_one _ v h
            · rw [List.mem_singleton.1 h]; rfl
          rw [← hcur] at HSP
          clear hcs hcl hcur hcul
          go_upto_region 6 with fail
          refine wp_region_lit ?_
          refine wpList_run (W' := wr) (v := .int .i64 (m : Int)) rfl (op_move rfl rfl) ?_
          refine wpList_run (W' := wr) (v := .agg (wl (List.replicate 128 0) ++ [Value.int .i64 (m : Int)]).toArray) rfl (op_build26m rfl rfl) ?_
          refine wpList_run (v := .pointer (some ⟨wr.heap.size, 0, none⟩)) (W' := wr.alloc (.cells (natL 0).toArray 27)) rfl (op_alloc26 rfl) ?_
          rw [← HCUR.out]
          have A5 : Hid ((wr.alloc (.cells (natL 0).toArray 27)).heap[wr.heap.size]? = some (.cells (natL 0).toArray 27 (0, 0))) := heap_new _ _
          refine wpList_runS rfl (op_store A5.out (natL_len 0) HCUL.out HCU1.out rfl rfl rfl) ?_
          have B5 : Hid (((wr.alloc (.cells (natL 0).toArray 27)).setRow wr.heap.size cur.toArray).heap[wr.heap.size]? = some (.cells cur.toArray 27 (0, 0))) := setRow_heap _ _ _ _ _ _ A5.out
          have BB : Below wr.heap.size wr ((wr.alloc (.cells (natL 0).toArray 27)).setRow wr.heap.size cur.toArray) := below_row ((Below.refl _ _).alloc (Nat.le_refl _) _) (Nat.le_refl _) _
          have hgl2 : g < wr.heap.size := by rw [hsz]; omega
          have SRC2 : Hid (∀ j v, cs[j]? = some v → ((wr.alloc (.cells (natL 0).toArray 27)).setRow wr.heap.size cur.toArray).cell? ((⟨g, o, none⟩ : Addr).add j) = some v) := fun j v hv => by
            have h := HSRC.out j v hv
            rw [addr_at] at h ⊢
            exact (BB.cell (p := ⟨g, o + j, none⟩) hgl2).trans h
          generalize (wr.alloc (.cells (natL 0).toArray 27)).setRow wr.heap.size cur.toArray = U at B5 BB SRC2 ⊢
          rw [hsz] at B5 BB ⊢
          have hmc : m ≤ c1 := by omega
          have HMIN : Hid (cs.length = Nat.min m 128) := by rw [Hid, HCL.out]; exact (Nat.min_eq_left (by omega)).symm
          have HFIT : Hid (0 + cs.length ≤ cur.length) := by rw [Hid, HCL.out, HCUL.out]; omega
          clear A5 HSRC HC2 hz
          go_upto_region 7 with fail
          simp only [Act.put, List.setIfInBounds_toArray, List.set_cons_succ, List.set_cons_zero]
          go_region_law (first | (refine step_copy_splice rfl (.tmp 26) (.tmp 29) 31 31 rfl 24 Tryd.underlying31 size23 (some ⟨W.heap.size + 1, 0, none⟩) (some ⟨g, o, none⟩) 128 128 m c1 rfl rfl (W.heap.size + 1) 0 cur 27 B5.out cs HMIN.out (fun _ => ⟨rfl, ⟨g, o, none⟩, rfl, SRC2.out⟩) HFIT.out HONE.out (W.heap.size + 1) wr BB.drew (Nat.le_refl _) ?_; intro w4 hg4 hb4))
          have hg5 : Hid (w4.heap[W.heap.size + 1]? = some (.cells (natL N).toArray 27 (0, 0))) := by rw [Hid, ← HSP.out]; exact hg4.out
          have H24 : Hid (w4.heap[W.heap.size]? = some (.cells (natL 0).toArray 27 (0, 0))) := (hb4.block _ (by omega)).trans H2.out
          have BW : Below W.heap.size W w4 := hB.trans (hb4.mono (by omega))
          clear hg4 hb4 HSP B5 BB SRC2
          go_upto_region 8 with fail
          refine wp_region_lit ?_
          refine wpList_run (W' := w4) rfl (op_load hg5.out (natL_len N) rfl rfl) ?_
          refine wpList_runS rfl (op_store H24.out (natL_len 0) (natL_len N) (natL_cells N) rfl rfl rfl) ?_
          go_wp2
          refine bodyPost_ret (results_nat_tmp Tryd.results37 rfl rfl (setRow_heap _ _ _ _ _ _ H24.out) (natL_len N)) rfl ⟨HOK.out.symm, below_row BW (Nat.le_refl _) _⟩
end Go.Proofs.YthjhemodmdficaaDoor
