/- Texts of this proof, joined: NNatOf, NBits, NCmp, NSmall, NPlus. -/
import Derived.Test.YtpimliebiapnfaaGreatDoorJ1
import Derived.Test.YtpimliebiapnfaaGreatDoorShelf
/- natOf. -/
namespace Go.Proofs.YtpimliebiapnfaaGreatDoor.N
set_option linter.unusedVariables false
open Go.RowKit
theorem zero26' (W : World) : (zeroValue 38).run Tryz.prog W = .ok (.agg (wl (List.replicate 128 0) ++ [Value.int .i64 0]).toArray) W := by kernel_rfl
theorem zero26 (W : World) : (zeroValue 38).run Tryz.prog W = .ok (.agg (natL 0).toArray) W := by rw [natZ]; exact zero26' W
theorem size23 : (Tryz.prog.info? 35).map (·.size) = some 1 := by kernel_rfl
theorem size26 : (Tryz.prog.info? 38).map (·.size) = some 129 := by kernel_rfl
theorem nat_loadV {W : World} {b : Nat} {L : List Value} {fz : Nat × Nat} (h : W.heap[b]? = some (.cells L.toArray 38 fz)) (hs : L.length = 129) : (loadVar 38 ⟨b, 0, none⟩).run Tryz.prog W = .ok (.agg L.toArray) W :=
  run_loadVar_row W b _ _ _ fz _ h Tryz.underlying38 rfl (by rw [List.size_toArray, hs]; exact size26)
theorem nat_load {W : World} {b : Nat} {L : List Value} {fz : Nat × Nat} (h : W.heap[b]? = some (.cells L.toArray 38 fz)) (hs : L.length = 129) : (Instr.loadAt 38 (.pointer (some ⟨b, 0, none⟩))).run Tryz.prog W = .ok (.agg L.toArray) W := by
  simp only [Instr.loadAt, Instr.sureAddr, Sem.run_bind, Sem.run_pure, Result.andThen]
  exact nat_loadV h hs
theorem nat_store {W : World} {b : Nat} {L M : List Value} (h : W.heap[b]? = some (.cells L.toArray 38 (0, 0))) (hs : L.length = 129) (hv : M.length = 129) (h1 : ∀ v ∈ M, v.oneCell' = true) : (Instr.storeAt 38 (.pointer (some ⟨b, 0, none⟩)) (.agg M.toArray)).run Tryz.prog W = .ok () (W.setRow b M.toArray) := by
  simp only [Instr.storeAt, Instr.sureAddr, Sem.run_bind, Sem.run_pure, Result.andThen]
  exact run_storeVar_row W b _ _ _ _ h (by rw [List.size_toArray, hv]; exact size26) (by rw [List.size_toArray, List.size_toArray, hs, hv]) (by simpa using h1)
theorem op_load {W : World} {b : Nat} {L : List Value} {fz : Nat × Nat} (h : W.heap[b]? = some (.cells L.toArray 38 fz)) (hs : L.length = 129) {o : Oper} {x : Operand} {a : Act} (ho : o.op = .load 38 x) (hx : a.eval x = .pointer (some ⟨b, 0, none⟩)) :
    (execOp a.eval o).run Tryz.prog W = .ok (.value (.agg L.toArray)) W := by
  simp only [execOp, ho, hx, Sem.run_bind, nat_load h hs]
  rfl
theorem op_store {W : World} {b : Nat} {L M : List Value} (h : W.heap[b]? = some (.cells L.toArray 38 (0, 0))) (hs : L.length = 129) (hv : M.length = 129) (h1 : ∀ v ∈ M, v.oneCell' = true) {o : Oper} {x y : Operand} {a : Act} (ho : o.op = .store 38 x y) (hx : a.eval x = .pointer (some ⟨b, 0, none⟩)) (hy : a.eval y = .agg M.toArray) :
    (execOp a.eval o).run Tryz.prog W = .ok .skip (W.setRow b M.toArray) := by
  simp only [execOp, ho, hx, hy, Sem.run_bind, nat_store h hs hv h1]
  rfl
theorem wpList_run {ops : Array Oper} {rest : List Oper} {o : Oper} {a : Act} {W W' : World} {Q : Exit → Act → World → Prop} {v : Value} (hgd : o.guard = none)
    (hrun : (execOp a.eval o).run Tryz.prog W = .ok (.value v) W') (h : wpList Tryz.prog ops Q rest (a.put o.dst v) W') : wpList Tryz.prog ops Q (o :: rest) a W :=
  wpList_plain hgd fun K hK => by
    unfold Oper.wp
    rw [hrun]
    exact hK _ _ h
theorem wpList_runS {ops : Array Oper} {rest : List Oper} {o : Oper} {a : Act} {W W' : World} {Q : Exit → Act → World → Prop} (hgd : o.guard = none)
    (hrun : (execOp a.eval o).run Tryz.prog W = .ok .skip W') (h : wpList Tryz.prog ops Q rest (a.put o.dst undef) W') : wpList Tryz.prog ops Q (o :: rest) a W :=
  wpList_plain hgd fun K hK => by
    unfold Oper.wp
    rw [hrun]
    exact hK _ _ h
theorem operwp_run {o : Oper} {a : Act} {W W' : World} {K : Act → World → Prop} {Q : Exit → Act → World → Prop} {v : Value} (hrun : (execOp a.eval o).run Tryz.prog W = .ok (.value v) W') (h : K (a.put o.dst v) W') : Oper.wp Tryz.prog o a W K Q := by
  unfold Oper.wp
  rw [hrun]
  exact h
theorem op_move {o : Oper} {a : Act} {W : World} {x : Operand} {v : Value} (ho : o.op = .move x) (hx : a.eval x = v) : (execOp a.eval o).run Tryz.prog W = .ok (.value v) W := by
  simp [execOp, ho, hx]
theorem build26 (W : World) : (Instr.build 38 #[]).run Tryz.prog W = .ok (.agg (wl (List.replicate 128 0) ++ [Value.int .i64 0]).toArray) W := by kernel_rfl
theorem build26m (m : Int) (W : World) : (Instr.build 38 #[(1, .int .i64 m)]).run Tryz.prog W = .ok (.agg (wl (List.replicate 128 0) ++ [Value.int .i64 m]).toArray) W := by kernel_rfl
theorem op_build26 {o : Oper} {a : Act} {W : World} (ho : o.op = .build 38 #[]) : (execOp a.eval o).run Tryz.prog W = .ok (.value (.agg (natL 0).toArray)) W := by
  have h := build26 W
  rw [← natZ] at h
  simp [execOp, ho, h]
theorem op_build26m {o : Oper} {a : Act} {W : World} {p : Operand} {m : Int} (ho : o.op = .build 38 #[(1, p)]) (hp : a.eval p = .int .i64 m) : (execOp a.eval o).run Tryz.prog W = .ok (.value (.agg (wl (List.replicate 128 0) ++ [Value.int .i64 m]).toArray)) W := by
  have h := build26m m W
  simp [execOp, ho, hp, h]
theorem alloc26 (W : World) : (Instr.alloc 38 true (.tuple #[])).run Tryz.prog W = .ok (.pointer (some ⟨W.heap.size, 0, none⟩)) (W.alloc (.cells (wl (List.replicate 128 0) ++ [Value.int .i64 0]).toArray 38)) := by kernel_rfl
theorem op_alloc26 {o : Oper} {a : Act} {W : World} (ho : o.op = .alloc 38) : (execOp a.eval o).run Tryz.prog W = .ok (.value (.pointer (some ⟨W.heap.size, 0, none⟩))) (W.alloc (.cells (natL 0).toArray 38)) := by
  rw [natZ]
  simp only [execOp, ho, Sem.run_bind, alloc26]
  rfl
theorem results_nat_tmp {fn : Func} {p u : Tmp} (h : fn.results = #[.cell p 38, .tmp u]) {tmps : Array Value} {W : World} {b : Nat} {L : List Value} {fz : Nat × Nat} {v : Value} (hp : tmps.getD p undef = .pointer (some ⟨b, 0, none⟩)) (hv : tmps.getD u undef = v) (hb : W.heap[b]? = some (.cells L.toArray 38 fz)) (hs : L.length = 129) :
    (results fn tmps).run Tryz.prog W = .ok (.tuple #[.agg L.toArray, v]) W := by
  have hp' : tmps[p]?.getD undef = .pointer (some ⟨b, 0, none⟩) := by simpa using hp
  have hv' : tmps[u]?.getD undef = v := by simpa using hv
  simp only [results, h]
  simp [hp', hv', asAddr, nat_loadV hb hs]
theorem below_row {B : Nat} {a w : World} (h : Below B a w) {b : Nat} (hb : B ≤ b) (cs : Array Value) : Below B a (w.setRow b cs) :=
  ⟨h.os, h.tape, h.output, by simpa [World.setRow] using h.size, fun k hk => (setRow_other w b k cs (by omega)).trans (h.block k hk)⟩
theorem natL_cells (N : Nat) : ∀ v ∈ natL N, v.oneCell' = true := fun v hv => by
  rw [natL] at hv
  rcases List.mem_append.1 hv with h | h
  · exact wl_one _ v h
  · rw [List.mem_singleton.1 h]; rfl
theorem splice_nat (xs : List (BitVec 32)) (m : Nat) (hm : m ≤ xs.length) (h128 : m ≤ 128) (hmn : mny (val (xs.take m)) = m) : splice (wl (List.replicate 128 0) ++ [Value.int .i64 (m : Int)]) 0 (wl (xs.take m)) = natL (val (xs.take m)) := by
  have hl : (xs.take m ++ List.replicate (128 - m) 0).length = 128 := by rw [List.length_append, List.length_take, List.length_replicate]; omega
  have hv : val (xs.take m ++ List.replicate (128 - m) 0) = val (xs.take m) := by rw [val_app, val_zero, Nat.mul_zero, Nat.add_zero]
  have h := natL_of _ hl m (by rw [hv]; exact hmn)
  rw [hv] at h
  rw [← h, splice, List.take_zero, List.nil_append, Nat.zero_add, wl_len, List.length_take, Nat.min_eq_left hm, wl_app, List.append_assoc]
  congr 1
  rw [List.drop_append_of_le_length (by rw [wl_len, List.length_replicate]; exact h128)]
  congr 1
  unfold wl
  rw [← List.map_drop, List.drop_replicate]
set_option maxRecDepth 100000 in
set_option maxHeartbeats 1000000 in
theorem natOf_in (W : World) (g t o c1 n : Nat) (A C : List Value) (xs : List (BitVec 32)) (hA : A.length = o) (hx : xs.length = n) (hn : n ≤ 1000) (ho : o ≤ 1000) (hc : n ≤ c1) (hc2 : c1 ≤ 100000)
    (hg : W.heap[g]? = some (.cells (A ++ (wl xs ++ C)).toArray t (0, 0))) :
    Calls Tryz.prog 87 #[.slice (some ⟨g, o, none⟩) n c1] W fun e w' => e = natR (val xs) ∧ Below W.heap.size W w' := by
  have HX := Hid.mk hx
  have HCE : Hid (∀ j, j < n → W.cell? ⟨g, o + j, none⟩ = some (.int .u32 ((xs[j]?.getD 0).toNat : Int))) := fun j hj => by
    rw [← hA]; exact (cells_at hg (mid_at A C xs j (by rw [hx]; exact hj))).1
  have hgl := box_lt hg
  clear hA hx hg
  have hz := zero26
  go_enter Tryz.func87, Tryz.ntmps87
  go_wp2_with fail
  have H2 : Hid ((W.alloc (.cells (natL 0).toArray 38)).heap[W.heap.size]? = some (.cells (natL 0).toArray 38 (0, 0))) := heap_new _ _
  have HC2 : Hid (∀ j, j < n → (W.alloc (.cells (natL 0).toArray 38)).cell? ⟨g, o + j, none⟩ = some (.int .u32 ((xs[j]?.getD 0).toNat : Int))) := fun j hj =>
    (((Below.refl W.heap.size W).alloc (Nat.le_refl _) _).cell (p := ⟨g, o + j, none⟩) hgl).trans (HCE.out j hj)
  have hB : Below W.heap.size W (W.alloc (.cells (natL 0).toArray 38)) := (Below.refl _ _).alloc (Nat.le_refl _) _
  have hsz : (W.alloc (.cells (natL 0).toArray 38)).heap.size = W.heap.size + 1 := World.size_alloc ..
  generalize W.alloc (.cells (natL 0).toArray 38) = V at H2 HC2 hB hsz ⊢
  clear HCE
  go_loopw [4] (fun i wr => ∃ m : Nat, m ≤ n ∧ i = .int .i64 (m : Int) ∧ Hid (val xs = val (xs.take m)) ∧ wr = V) (fun i _ => (intOf i).toNat)
  case atStart => exact ⟨n, by omega, rfl, by rw [Hid, List.take_of_length_le (by rw [HX.out]; omega)], rfl⟩
  case round =>
    obtain ⟨m, hm, rfl, HV, rfl⟩ := hrel
    by_cases hpos : 0 < m
    · obtain ⟨k, hk⟩ : ∃ k, m = k + 1 := ⟨m - 1, by omega⟩
      have hcc := HC2.out k (by omega)
      have HVS := Hid.mk (val_take_succ xs k (by rw [HX.out]; omega))
      have hgt : (0 : Int) < (m : Int) := by omega
      have hki : (m : Int) - 1 = (k : Int) := by omega
      have hkn : (k : Int) < (n : Int) := by omega
      by_cases hx0 : (xs[k]?.getD 0).toNat = 0
      · rw [hx0] at hcc
        have HV2 : Hid (val xs = val (xs.take k)) := by rw [Hid, HV.out, hk, HVS.out, hx0, Nat.mul_zero, Nat.add_zero]
        go_wp2
        go_roundw
        case rel => exact ⟨k, by omega, by go_num, HV2, trivial⟩
        case measure => simp [intOf]; omega
      · have hne : (((xs[k]?.getD 0).toNat : Int) == 0) = false := by rw [beq_eq_false_iff_ne]; omega
        have HMN : Hid (mny (val (xs.take m)) = m) := by
          have h := mny_list (xs.take (k + 1)) (.inr ⟨xs.take k, xs[k]?.getD 0, by rw [List.take_add_one, List.getElem?_eq_getElem (by rw [HX.out]; omega)]; rfl, hx0⟩)
          rw [Hid, hk, h, List.length_take, HX.out]; omega
        generalize (xs[k]?.getD 0) = x at hcc hne
        clear HVS hx0 hk
        go_upto_region 4 with fail
        clear hcc hne hgt hki hkn
        by_cases h128 : 128 < m
        · have h128i : (128 : Int) < (m : Int) := by omega
          have HNO : Hid (natR (val xs) = .returned (.tuple #[.agg (natL 0).toArray, .int .i64 3])) := by
            rw [Hid, natR, if_neg]
            intro hlt
            have := mny_le _ hlt
            rw [HV.out, HMN.out] at this
            omega
          go_upto_region 5 with fail
          refine wp_region_lit ?_
          refine wpList_run (W' := wr) rfl (op_build26 rfl) ?_
          refine wpList_runS rfl (op_store H2.out (natL_len 0) (natL_len 0) (natL_cells 0) rfl rfl rfl) ?_
          go_wp2
          refine bodyPost_ret (results_nat_tmp Tryz.results87 rfl rfl (setRow_heap _ _ _ _ _ _ H2.out) (natL_len 0)) rfl ⟨HNO.out.symm, below_row hB (Nat.le_refl _) _⟩
        · have h128i : (m : Int) ≤ 128 := by omega
          have HOK : Hid (natR (val xs) = .returned (.tuple #[.agg (natL (val (xs.take m))).toArray, .int .i64 0])) := by
            rw [Hid, natR, ← HV.out, if_pos]
            have h1 := val_lt (xs.take m)
            rw [List.length_take, HX.out, Nat.min_eq_left hm, ← HV.out] at h1
            exact Nat.lt_of_lt_of_le h1 (Nat.pow_le_pow_right (by omega) (by omega))
          have HSP := Hid.mk (splice_nat xs m (by rw [HX.out]; exact hm) (by omega) HMN.out)
          generalize val (xs.take m) = N at HOK HSP
          obtain ⟨cs, hcs⟩ : ∃ cs, cs = wl (xs.take m) := ⟨_, rfl⟩
          have HCS := Hid.mk hcs
          have hcl : cs.length = m := by rw [hcs, wl_len, List.length_take, HX.out]; omega
          have HCL := Hid.mk hcl
          have HONE : Hid (∀ v ∈ cs, v.oneCell' = true) := by rw [Hid, hcs]; exact wl_one _
          rw [← hcs] at HSP
          have HSRC : Hid (∀ j v, cs[j]? = some v → wr.cell? ((⟨g, o, none⟩ : Addr).add j) = some v) := fun j v hv => by
            have hj : j < cs.length := (List.getElem?_eq_some_iff.1 hv).1
            rw [hcs, wl_at _ j (by rw [← wl_len, ← hcs]; exact hj)] at hv
            rw [addr_at, ← hv, HC2.out j (by omega), List.getElem?_take_of_lt (by omega)]
          obtain ⟨cur, hcur⟩ : ∃ cur, cur = wl (List.replicate 128 0) ++ [Value.int .i64 (m : Int)] := ⟨_, rfl⟩
          have HCUR := Hid.mk hcur
          have hcul : cur.length = 129 := by rw [hcur, List.length_append, wl_len]; rfl
          have HCUL := Hid.mk hcul
          have HCU1 : Hid (∀ v ∈ cur, v.oneCell' = true) := by
            rw [Hid, hcur]
            intro v hv
            rcases List.mem_append.1 hv with h | h
            · exact wl_one _ v h
            · rw [List.mem_singleton.1 h]; rfl
          rw [← hcur] at HSP
          clear hcs hcl hcur hcul
          go_upto_region 6 with fail
          refine wp_region_lit ?_
          refine wpList_run (W' := wr) (v := .int .i64 (m : Int)) rfl (op_move rfl rfl) ?_
          refine wpList_run (W' := wr) (v := .agg (wl (List.replicate 128 0) ++ [Value.int .i64 (m : Int)]).toArray) rfl (op_build26m rfl rfl) ?_
          refine wpList_run (v := .pointer (some ⟨wr.heap.size, 0, none⟩)) (W' := wr.alloc (.cells (natL 0).toArray 38)) rfl (op_alloc26 rfl) ?_
          rw [← HCUR.out]
          have A5 : Hid ((wr.alloc (.cells (natL 0).toArray 38)).heap[wr.heap.size]? = some (.cells (natL 0).toArray 38 (0, 0))) := heap_new _ _
          refine wpList_runS rfl (op_store A5.out (natL_len 0) HCUL.out HCU1.out rfl rfl rfl) ?_
          have B5 : Hid (((wr.alloc (.cells (natL 0).toArray 38)).setRow wr.heap.size cur.toArray).heap[wr.heap.size]? = some (.cells cur.toArray 38 (0, 0))) := setRow_heap _ _ _ _ _ _ A5.out
          have BB : Below wr.heap.size wr ((wr.alloc (.cells (natL 0).toArray 38)).setRow wr.heap.size cur.toArray) := below_row ((Below.refl _ _).alloc (Nat.le_refl _) _) (Nat.le_refl _) _
          have hgl2 : g < wr.heap.size := by rw [hsz]; omega
          have SRC2 : Hid (∀ j v, cs[j]? = some v → ((wr.alloc (.cells (natL 0).toArray 38)).setRow wr.heap.size cur.toArray).cell? ((⟨g, o, none⟩ : Addr).add j) = some v) := fun j v hv => by
            have h := HSRC.out j v hv
            rw [addr_at] at h ⊢
            exact (BB.cell (p := ⟨g, o + j, none⟩) hgl2).trans h
          generalize (wr.alloc (.cells (natL 0).toArray 38)).setRow wr.heap.size cur.toArray = U at B5 BB SRC2 ⊢
          rw [hsz] at B5 BB ⊢
          have hmc : m ≤ c1 := by omega
          have HMIN : Hid (cs.length = Nat.min m 128) := by rw [Hid, HCL.out]; exact (Nat.min_eq_left (by omega)).symm
          have HFIT : Hid (0 + cs.length ≤ cur.length) := by rw [Hid, HCL.out, HCUL.out]; omega
          clear A5 HSRC HC2 hz
          go_upto_region 7 with fail
          simp only [Act.put, List.setIfInBounds_toArray, List.set_cons_succ, List.set_cons_zero]
          go_region_law (first | (refine step_copy_splice rfl (.tmp 26) (.tmp 29) 45 45 rfl 35 Tryz.underlying45 size23 (some ⟨W.heap.size + 1, 0, none⟩) (some ⟨g, o, none⟩) 128 128 m c1 rfl rfl (W.heap.size + 1) 0 cur 38 B5.out cs HMIN.out (fun _ => ⟨rfl, ⟨g, o, none⟩, rfl, SRC2.out⟩) HFIT.out HONE.out (W.heap.size + 1) wr BB.drew (Nat.le_refl _) ?_; intro w4 hg4 hb4))
          have hg5 : Hid (w4.heap[W.heap.size + 1]? = some (.cells (natL N).toArray 38 (0, 0))) := by rw [Hid, ← HSP.out]; exact hg4.out
          have H24 : Hid (w4.heap[W.heap.size]? = some (.cells (natL 0).toArray 38 (0, 0))) := (hb4.block _ (by omega)).trans H2.out
          have BW : Below W.heap.size W w4 := hB.trans (hb4.mono (by omega))
          clear hg4 hb4 HSP B5 BB SRC2
          go_upto_region 8 with fail
          refine wp_region_lit ?_
          refine wpList_run (W' := w4) rfl (op_load hg5.out (natL_len N) rfl rfl) ?_
          refine wpList_runS rfl (op_store H24.out (natL_len 0) (natL_len N) (natL_cells N) rfl rfl rfl) ?_
          go_wp2
          refine bodyPost_ret (results_nat_tmp Tryz.results87 rfl rfl (setRow_heap _ _ _ _ _ _ H24.out) (natL_len N)) rfl ⟨HOK.out.symm, below_row BW (Nat.le_refl _) _⟩
    · have hm0 : m = 0 := by omega
      have hgt : (m : Int) ≤ 0 := by omega
      have HMN : Hid (mny (val (xs.take m)) = m) := by rw [Hid, hm0]; rfl
      · skip
        go_upto_region 4 with fail
        clear hgt hm0 hpos
        by_cases h128 : 128 < m
        · have h128i : (128 : Int) < (m : Int) := by omega
          have HNO : Hid (natR (val xs) = .returned (.tuple #[.agg (natL 0).toArray, .int .i64 3])) := by
            rw [Hid, natR, if_neg]
            intro hlt
            have := mny_le _ hlt
            rw [HV.out, HMN.out] at this
            omega
          go_upto_region 5 with fail
          refine wp_region_lit ?_
          refine wpList_run (W' := wr) rfl (op_build26 rfl) ?_
          refine wpList_runS rfl (op_store H2.out (natL_len 0) (natL_len 0) (natL_cells 0) rfl rfl rfl) ?_
          go_wp2
          refine bodyPost_ret (results_nat_tmp Tryz.results87 rfl rfl (setRow_heap _ _ _ _ _ _ H2.out) (natL_len 0)) rfl ⟨HNO.out.symm, below_row hB (Nat.le_refl _) _⟩
        · have h128i : (m : Int) ≤ 128 := by omega
          have HOK : Hid (natR (val xs) = .returned (.tuple #[.agg (natL (val (xs.take m))).toArray, .int .i64 0])) := by
            rw [Hid, natR, ← HV.out, if_pos]
            have h1 := val_lt (xs.take m)
            rw [List.length_take, HX.out, Nat.min_eq_left hm, ← HV.out] at h1
            exact Nat.lt_of_lt_of_le h1 (Nat.pow_le_pow_right (by omega) (by omega))
          have HSP := Hid.mk (splice_nat xs m (by rw [HX.out]; exact hm) (by omega) HMN.out)
          generalize val (xs.take m) = N at HOK HSP
          obtain ⟨cs, hcs⟩ : ∃ cs, cs = wl (xs.take m) := ⟨_, rfl⟩
          have HCS := Hid.mk hcs
          have hcl : cs.length = m := by rw [hcs, wl_len, List.length_take, HX.out]; omega
          have HCL := Hid.mk hcl
          have HONE : Hid (∀ v ∈ cs, v.oneCell' = true) := by rw [Hid, hcs]; exact wl_one _
          rw [← hcs] at HSP
          have HSRC : Hid (∀ j v, cs[j]? = some v → wr.cell? ((⟨g, o, none⟩ : Addr).add j) = some v) := fun j v hv => by
            have hj : j < cs.length := (List.getElem?_eq_some_iff.1 hv).1
            rw [hcs, wl_at _ j (by rw [← wl_len, ← hcs]; exact hj)] at hv
            rw [addr_at, ← hv, HC2.out j (by omega), List.getElem?_take_of_lt (by omega)]
          obtain ⟨cur, hcur⟩ : ∃ cur, cur = wl (List.replicate 128 0) ++ [Value.int .i64 (m : Int)] := ⟨_, rfl⟩
          have HCUR := Hid.mk hcur
          have hcul : cur.length = 129 := by rw [hcur, List.length_append, wl_len]; rfl
          have HCUL := Hid.mk hcul
          have HCU1 : Hid (∀ v ∈ cur, v.oneCell' = true) := by
            rw [Hid, hcur]
            intro v hv
            rcases List.mem_append.1 hv with h | h
            · exact wl_one _ v h
            · rw [List.mem_singleton.1 h]; rfl
          rw [← hcur] at HSP
          clear hcs hcl hcur hcul
          go_upto_region 6 with fail
          refine wp_region_lit ?_
          refine wpList_run (W' := wr) (v := .int .i64 (m : Int)) rfl (op_move rfl rfl) ?_
          refine wpList_run (W' := wr) (v := .agg (wl (List.replicate 128 0) ++ [Value.int .i64 (m : Int)]).toArray) rfl (op_build26m rfl rfl) ?_
          refine wpList_run (v := .pointer (some ⟨wr.heap.size, 0, none⟩)) (W' := wr.alloc (.cells (natL 0).toArray 38)) rfl (op_alloc26 rfl) ?_
          rw [← HCUR.out]
          have A5 : Hid ((wr.alloc (.cells (natL 0).toArray 38)).heap[wr.heap.size]? = some (.cells (natL 0).toArray 38 (0, 0))) := heap_new _ _
          refine wpList_runS rfl (op_store A5.out (natL_len 0) HCUL.out HCU1.out rfl rfl rfl) ?_
          have B5 : Hid (((wr.alloc (.cells (natL 0).toArray 38)).setRow wr.heap.size cur.toArray).heap[wr.heap.size]? = some (.cells cur.toArray 38 (0, 0))) := setRow_heap _ _ _ _ _ _ A5.out
          have BB : Below wr.heap.size wr ((wr.alloc (.cells (natL 0).toArray 38)).setRow wr.heap.size cur.toArray) := below_row ((Below.refl _ _).alloc (Nat.le_refl _) _) (Nat.le_refl _) _
          have hgl2 : g < wr.heap.size := by rw [hsz]; omega
          have SRC2 : Hid (∀ j v, cs[j]? = some v → ((wr.alloc (.cells (natL 0).toArray 38)).setRow wr.heap.size cur.toArray).cell? ((⟨g, o, none⟩ : Addr).add j) = some v) := fun j v hv => by
            have h := HSRC.out j v hv
            rw [addr_at] at h ⊢
            exact (BB.cell (p := ⟨g, o + j, none⟩) hgl2).trans h
          generalize (wr.alloc (.cells (natL 0).toArray 38)).setRow wr.heap.size cur.toArray = U at B5 BB SRC2 ⊢
          rw [hsz] at B5 BB ⊢
          have hmc : m ≤ c1 := by omega
          have HMIN : Hid (cs.length = Nat.min m 128) := by rw [Hid, HCL.out]; exact (Nat.min_eq_left (by omega)).symm
          have HFIT : Hid (0 + cs.length ≤ cur.length) := by rw [Hid, HCL.out, HCUL.out]; omega
          clear A5 HSRC HC2 hz
          go_upto_region 7 with fail
          simp only [Act.put, List.setIfInBounds_toArray, List.set_cons_succ, List.set_cons_zero]
          go_region_law (first | (refine step_copy_splice rfl (.tmp 26) (.tmp 29) 45 45 rfl 35 Tryz.underlying45 size23 (some ⟨W.heap.size + 1, 0, none⟩) (some ⟨g, o, none⟩) 128 128 m c1 rfl rfl (W.heap.size + 1) 0 cur 38 B5.out cs HMIN.out (fun _ => ⟨rfl, ⟨g, o, none⟩, rfl, SRC2.out⟩) HFIT.out HONE.out (W.heap.size + 1) wr BB.drew (Nat.le_refl _) ?_; intro w4 hg4 hb4))
          have hg5 : Hid (w4.heap[W.heap.size + 1]? = some (.cells (natL N).toArray 38 (0, 0))) := by rw [Hid, ← HSP.out]; exact hg4.out
          have H24 : Hid (w4.heap[W.heap.size]? = some (.cells (natL 0).toArray 38 (0, 0))) := (hb4.block _ (by omega)).trans H2.out
          have BW : Below W.heap.size W w4 := hB.trans (hb4.mono (by omega))
          clear hg4 hb4 HSP B5 BB SRC2
          go_upto_region 8 with fail
          refine wp_region_lit ?_
          refine wpList_run (W' := w4) rfl (op_load hg5.out (natL_len N) rfl rfl) ?_
          refine wpList_runS rfl (op_store H24.out (natL_len 0) (natL_len N) (natL_cells N) rfl rfl rfl) ?_
          go_wp2
          refine bodyPost_ret (results_nat_tmp Tryz.results87 rfl rfl (setRow_heap _ _ _ _ _ _ H24.out) (natL_len N)) rfl ⟨HOK.out.symm, below_row BW (Nat.le_refl _) _⟩
end Go.Proofs.YtpimliebiapnfaaGreatDoor.N
/- Small, Bits. -/
namespace Go.Proofs.YtpimliebiapnfaaGreatDoor.N
set_option linter.unusedVariables false
open Go.RowKit
def btl (N : Nat) : Nat := if N = 0 then 0 else Nat.log2 N + 1
theorem bitLenAux_eq : ∀ (f x : Nat), x < 2 ^ f → Lib.bitLenAux f x = btl x
  | 0, x, h => by simp at h; subst h; rfl
  | f + 1, x, h => by
    unfold Lib.bitLenAux
    by_cases h0 : x = 0
    · rw [if_pos h0, h0]; rfl
    · rw [if_neg h0, bitLenAux_eq f (x / 2) (by rw [Nat.pow_succ] at h; omega)]
      unfold btl
      rw [if_neg h0, Nat.log2_def x]
      by_cases h2 : 2 ≤ x
      · rw [if_pos h2, if_neg (by omega)]; omega
      · rw [if_neg h2, if_pos (by omega)]
theorem bitLen_eq (x : Nat) (h : x < 4294967296) : Lib.bitLen x = btl x := bitLenAux_eq 64 x (Nat.lt_trans h (by decide))
theorem top_digit (N : Nat) (h : N < Lim) (M : Nat) (hM : mny N = M + 1) : ∃ low, low < 4294967296 ^ M ∧ N = low + 4294967296 ^ M * ((dg N)[M]?.getD 0).toNat ∧ 0 < ((dg N)[M]?.getD 0).toNat := by
  have hle := mny_le N h
  have h1 := dg_top N h (M + 1) (by omega)
  rw [val_take_succ _ _ (by rw [dg_len]; omega)] at h1
  have h2 := val_lt ((dg N).take M)
  rw [List.length_take, dg_len, Nat.min_eq_left (by omega)] at h2
  have hN : N ≠ 0 := fun e => by rw [e, mny_zero] at hM; omega
  have h3 := (mny_ge N hN).2
  rw [hM, Nat.add_sub_cancel] at h3
  refine ⟨_, h2, h1.symm, ?_⟩
  apply Classical.byContradiction
  intro hz
  rw [show ((dg N)[M]?.getD 0).toNat = 0 by omega, Nat.mul_zero] at h1
  omega
theorem log_top (M d low : Nat) (hd : 0 < d) (hl : low < 4294967296 ^ M) : Nat.log2 (low + 4294967296 ^ M * d) = 32 * M + Nat.log2 d := by
  have hp : 0 < 4294967296 ^ M := Nat.pow_pos (by omega)
  have hdn : d ≠ 0 := by omega
  have hN : low + 4294967296 ^ M * d ≠ 0 := by
    have : 4294967296 ^ M * 1 ≤ 4294967296 ^ M * d := Nat.mul_le_mul_left _ hd
    omega
  have a1 := Nat.log2_self_le hdn
  have a2 := Nat.lt_log2_self (n := d)
  apply Nat.le_antisymm
  · apply Nat.le_of_lt_succ
    rw [Nat.log2_lt hN, show (32 * M + Nat.log2 d).succ = 32 * M + (Nat.log2 d + 1) by omega, Nat.pow_add, ← pow_bits]
    have b1 : 4294967296 ^ M * (d + 1) ≤ 4294967296 ^ M * 2 ^ (Nat.log2 d + 1) := Nat.mul_le_mul_left _ a2
    rw [Nat.mul_add, Nat.mul_one] at b1
    omega
  · rw [Nat.le_log2 hN, Nat.pow_add, ← pow_bits]
    have b1 : 4294967296 ^ M * 2 ^ Nat.log2 d ≤ 4294967296 ^ M * d := Nat.mul_le_mul_left _ a1
    omega
theorem btl_top (N : Nat) (h : N < Lim) (M : Nat) (hM : mny N = M + 1) : 32 * M + btl ((dg N)[M]?.getD 0).toNat = btl N := by
  obtain ⟨low, h1, h2, h3⟩ := top_digit N h M hM
  have hN : N ≠ 0 := fun e => by rw [e, mny_zero] at hM; omega
  unfold btl
  rw [if_neg hN, if_neg (by omega)]
  have h4 := log_top M _ low h3 h1
  rw [← h2] at h4
  omega
theorem boxed (W : World) (L : List Value) (t : TypeId) : (W.alloc (.cells L.toArray t)).heap[W.heap.size]? = some (.cells L.toArray t (0, 0)) := heap_new _ _
set_option maxRecDepth 100000 in
set_option maxHeartbeats 1000000 in
theorem bits_in (N : Nat) (h : N < Lim) (W : World) : Calls Tryz.prog 93 #[.agg (natL N).toArray] W fun e w' => e = .returned (.int .i64 (btl N : Int)) ∧ Below W.heap.size W w' := by
  have HB := Hid.mk (boxed W (natL N) 38)
  have hmany := (cells_at HB.out (nat_many N)).1
  have hmle := mny_le N h
  by_cases h0 : mny N = 0
  · have HZ : Hid (btl N = 0) := by
      have := mny_lt N
      rw [h0] at this
      rw [Hid, show N = 0 by simpa using this]
      rfl
    rw [h0] at hmany
    go_enter Tryz.func93, Tryz.ntmps93
    go_wp2
    go_ret
    exact ⟨by rw [HZ.out]; rfl, (Below.refl _ _).alloc (Nat.le_refl _) _⟩
  · obtain ⟨M, hM⟩ : ∃ M, mny N = M + 1 := ⟨mny N - 1, by omega⟩
    have HT := Hid.mk (btl_top N h M hM)
    have hc := (cells_at HB.out (nat_at N M (by omega))).1
    rw [hM] at hmany
    have hx := bv_lt ((dg N)[M]?.getD 0)
    generalize (dg N)[M]?.getD 0 = x at hc HT hx
    have HL : Hid (∀ w : World, Calls Tryz.prog 115 #[.int .u32 (x.toNat : Int)] w fun e w' => e = .returned (.int .i64 (btl x.toNat : Int)) ∧ w' = w) := fun w => by
      have := Tryz.bits_Len32 (x.toNat : Int) w (by omega) (by omega)
      rwa [Int.toNat_natCast, bitLen_eq _ hx] at this
    have hbb : btl x.toNat ≤ 32 := by
      unfold btl
      split
      · omega
      · have := (Nat.log2_lt (n := x.toNat) (k := 32) (by assumption)).2 (by omega)
        omega
    have HB2 : Below W.heap.size W (W.alloc (.cells (natL N).toArray 38)) := (Below.refl _ _).alloc (Nat.le_refl _) _
    have e1 : ((M + 1 : Nat) : Int) - 1 = (M : Int) := by omega
    have e2 : (M : Int) + 1 - 1 = (M : Int) := by omega
    have e3 : ((M + 1 : Nat) : Int) = (M : Int) + 1 := by omega
    have hne : (((M + 1 : Nat) : Int) == 0) = false := by rw [beq_eq_false_iff_ne]; omega
    rw [e3] at hmany hne
    have hM128 : (M : Int) < 128 := by omega
    go_enter Tryz.func93, Tryz.ntmps93
    go_wp2_with fail
    go_quiet (first
      | (go_at_call 115; exact (HL.out _).mono fun _ _ hh => ⟨hh.1, _, hh.2⟩))
    go_wp2
    go_ret
    refine ⟨ret_int ?_, HB2.trans (below_le _ _ _)⟩
    have := HT.out
    omega
end Go.Proofs.YtpimliebiapnfaaGreatDoor.N
/- Cmp, Small. -/
namespace Go.Proofs.YtpimliebiapnfaaGreatDoor.N
set_option linter.unusedVariables false
open Go.RowKit
theorem compare32_in (x y : Nat) (hx : x < 4294967296) (hy : y < 4294967296) (W : World) : Calls Tryz.prog 122 #[.int .u32 (x : Int), .int .u32 (y : Int)] W fun e w' => e = .returned (.int .i64 (Lib.compareInt (x : Int) (y : Int))) ∧ w' = W := by
  have HN : Hid (∀ (z : Int) (w : World), Calls Tryz.prog 138 #[.int .u32 z] w fun e w' => e = .returned (.bool false) ∧ w' = w) := fun z w => by
    go_enter Tryz.func138, Tryz.ntmps138
    go_wp2
    go_ret
    exact ⟨rfl, rfl⟩
  unfold Lib.compareInt
  rcases Nat.lt_trichotomy x y with h | h | h
  · have hi : (x : Int) < (y : Int) := by omega
    rw [if_pos hi]
    go_enter Tryz.func122, Tryz.ntmps122
    go_wp2_with fail
    refine (HN.out _ _).mono ?_
    rintro e w1 ⟨rfl, rfl⟩
    go_wp2_with fail
    refine (HN.out _ _).mono ?_
    rintro e w2 ⟨rfl, rfl⟩
    go_wp2
    go_ret
    exact ⟨rfl, rfl⟩
  · subst h
    rw [if_neg (by omega), if_neg (by omega)]
    go_enter Tryz.func122, Tryz.ntmps122
    go_wp2_with fail
    refine (HN.out _ _).mono ?_
    rintro e w1 ⟨rfl, rfl⟩
    go_wp2_with fail
    refine (HN.out _ _).mono ?_
    rintro e w2 ⟨rfl, rfl⟩
    go_wp2
    go_ret
    exact ⟨rfl, rfl⟩
  · have hi : (y : Int) < (x : Int) := by omega
    rw [if_neg (by omega), if_pos (by omega)]
    go_enter Tryz.func122, Tryz.ntmps122
    go_wp2_with fail
    refine (HN.out _ _).mono ?_
    rintro e w1 ⟨rfl, rfl⟩
    go_wp2_with fail
    refine (HN.out _ _).mono ?_
    rintro e w2 ⟨rfl, rfl⟩
    go_wp2
    go_ret
    exact ⟨rfl, rfl⟩
theorem mny_mono (N M : Nat) (h : N ≤ M) : mny N ≤ mny M := by
  by_cases h0 : N = 0
  · rw [h0, mny_zero]; omega
  · obtain ⟨h1, h2⟩ := mny_ge N h0
    have h3 := mny_lt M
    apply Classical.byContradiction
    intro hn
    have h4 : 4294967296 ^ mny M ≤ 4294967296 ^ (mny N - 1) := Nat.pow_le_pow_right (by omega) (by omega)
    omega
theorem val_cut (a : List (BitVec 32)) (k : Nat) (h : k < a.length) : val a = val (a.take k) + 4294967296 ^ k * ((a[k]?.getD 0).toNat + 4294967296 * val (a.drop (k + 1))) := by
  have h1 := val_split a k
  rw [List.length_take, Nat.min_eq_left (by omega), List.drop_eq_getElem_cons h, val] at h1
  rw [h1, List.getElem?_eq_getElem h]
  rfl
theorem val_less (a b : List (BitVec 32)) (k : Nat) (hl : a.length = b.length) (h : k < a.length) (hs : ∀ j, k < j → j < a.length → a[j]?.getD 0 = b[j]?.getD 0) (hlt : (a[k]?.getD 0).toNat < (b[k]?.getD 0).toNat) : val a < val b := by
  have hd : a.drop (k + 1) = b.drop (k + 1) := by
    apply List.ext_getElem
    · rw [List.length_drop, List.length_drop, hl]
    · intro j h1 h2
      rw [List.length_drop] at h1
      have := hs (k + 1 + j) (by omega) (by omega)
      rw [List.getElem?_eq_getElem (by omega), List.getElem?_eq_getElem (by omega)] at this
      rw [List.getElem_drop, List.getElem_drop]
      exact this
  rw [val_cut a k h, val_cut b k (by omega), hd]
  have h1 := val_lt (a.take k)
  rw [List.length_take, Nat.min_eq_left (by omega)] at h1
  generalize val (b.drop (k + 1)) = D
  generalize (a[k]?.getD 0).toNat = x at hlt ⊢
  generalize (b[k]?.getD 0).toNat = y at hlt ⊢
  have h2 : 4294967296 ^ k * (x + 4294967296 * D + 1) ≤ 4294967296 ^ k * (y + 4294967296 * D) := Nat.mul_le_mul_left _ (by omega)
  rw [Nat.mul_add, Nat.mul_one] at h2
  omega
theorem two_new (w : World) (L M : List Value) (t u : TypeId) : ((w.alloc (.cells L.toArray t)).alloc (.cells M.toArray u)).heap[w.heap.size]? = some (.cells L.toArray t (0, 0)) ∧ ((w.alloc (.cells L.toArray t)).alloc (.cells M.toArray u)).heap[w.heap.size + 1]? = some (.cells M.toArray u (0, 0)) ∧
    Below w.heap.size w ((w.alloc (.cells L.toArray t)).alloc (.cells M.toArray u)) ∧ ((w.alloc (.cells L.toArray t)).alloc (.cells M.toArray u)).heap.size = w.heap.size + 2 := by
  refine ⟨?_, ?_, ((Below.refl _ _).alloc (Nat.le_refl _) _).alloc (by simp) _, by simp⟩
  · rw [Below.heap_alloc _ _ _ (by simp), heap_new]
  · exact (congrArg (fun k => (World.alloc _ _).heap[k]?) (World.size_alloc w _).symm).trans (heap_new _ _)
def cmpI (N M : Nat) : Int := Lib.compareInt (N : Int) (M : Int)
theorem cmpI_lt (N M : Nat) (h : N < M) : cmpI N M = -1 := by unfold cmpI Lib.compareInt; rw [if_pos (by omega)]
theorem cmpI_gt (N M : Nat) (h : M < N) : cmpI N M = 1 := by unfold cmpI Lib.compareInt; rw [if_neg (by omega), if_pos (by omega)]
theorem cmpI_eq (N : Nat) : cmpI N N = 0 := by unfold cmpI Lib.compareInt; rw [if_neg (by omega), if_neg (by omega)]
theorem dig_less (N M K k : Nat) (hN : N < Lim) (hM : M < Lim) (h1 : mny N ≤ K) (h2 : mny M ≤ K) (h128 : K ≤ 128) (hk : k < K) (hs : ∀ j, k < j → j < K → (dg N)[j]?.getD 0 = (dg M)[j]?.getD 0) (hlt : ((dg N)[k]?.getD 0).toNat < ((dg M)[k]?.getD 0).toNat) : N < M := by
  have e1 := dg_top N hN K h1
  have e2 := dg_top M hM K h2
  rw [← e1, ← e2]
  have g : ∀ (l : List (BitVec 32)) (j : Nat), j < K → (l.take K)[j]?.getD 0 = l[j]?.getD 0 := fun l j hj => by rw [List.getElem?_take_of_lt hj]
  refine val_less _ _ k (by simp [dg_len]) (by rw [List.length_take, dg_len]; omega) (fun j hj hj2 => ?_) ?_
  · rw [List.length_take, dg_len] at hj2
    rw [g _ j (by omega), g _ j (by omega)]
    exact hs j hj (by omega)
  · rw [g _ k hk, g _ k hk]; exact hlt
theorem dig_same (N M K : Nat) (hN : N < Lim) (hM : M < Lim) (h1 : mny N ≤ K) (h2 : mny M ≤ K) (h128 : K ≤ 128) (hs : ∀ j, j < K → (dg N)[j]?.getD 0 = (dg M)[j]?.getD 0) : N = M := by
  rw [← dg_top N hN K h1, ← dg_top M hM K h2]
  congr 1
  apply List.ext_getElem
  · simp [dg_len]
  · intro j h3 h4
    rw [List.length_take, dg_len] at h3
    have := hs j (by omega)
    rw [List.getElem?_eq_getElem (by rw [dg_len]; omega), List.getElem?_eq_getElem (by rw [dg_len]; omega)] at this
    rw [List.getElem_take, List.getElem_take]
    exact this
set_option maxRecDepth 100000 in
set_option maxHeartbeats 2000000 in
theorem cmp_in (N M : Nat) (hN : N < Lim) (hM : M < Lim) (W : World) : Calls Tryz.prog 103 #[.agg (natL N).toArray, .agg (natL M).toArray] W fun e w' => e = .returned (.int .i64 (cmpI N M)) ∧ Below W.heap.size W w' := by
  obtain ⟨b0, b1, hB, hsz⟩ := two_new W (natL N) (natL M) 38 38
  have hn1 := mny_le N hN
  have hm1 := mny_le M hM
  go_enter Tryz.func103, Tryz.ntmps103
  go_upto_region 1 with fail
  generalize ((W.alloc (.cells (natL N).toArray 38)).alloc (.cells (natL M).toArray 38)) = V at b0 b1 hB hsz ⊢
  have c0 := (cells_at b0 (nat_many N)).1
  have c1 := (cells_at b1 (nat_many M)).1
  have D0 : Hid (∀ j, j < 128 → V.cell? ⟨W.heap.size, j, none⟩ = some (.int .u32 (((dg N)[j]?.getD 0).toNat : Int))) := fun j hj => (cells_at b0 (nat_at N j hj)).1
  have D1 : Hid (∀ j, j < 128 → V.cell? ⟨W.heap.size + 1, j, none⟩ = some (.int .u32 (((dg M)[j]?.getD 0).toNat : Int))) := fun j hj => (cells_at b1 (nat_at M j hj)).1
  clear b0 b1 hsz
  obtain ⟨p, hp⟩ : ∃ p, mny N = p := ⟨_, rfl⟩
  obtain ⟨q, hq⟩ : ∃ q, mny M = q := ⟨_, rfl⟩
  have HP := Hid.mk hp
  have HQ := Hid.mk hq
  rw [hp] at c0 hn1
  rw [hq] at c1 hm1
  by_cases hpq : p = q
  · subst hpq
    clear hp hq
    have hne : (((p : Int)) != (p : Int)) = false := by simp
    go_wp2_with fail
    go_loopw [19] (fun i wr => ∃ m d : Nat, m ≤ p ∧ i = .int .i64 (m : Int) ∧ Hid (∀ j, p - m ≤ j → j < p → (dg N)[j]?.getD 0 = (dg M)[j]?.getD 0) ∧ wr = V.drewN d) (fun i _ => p - (intOf i).toNat)
    case atStart => exact ⟨0, 0, by omega, rfl, fun j h1 h2 => absurd h2 (by omega), rfl⟩
    case round =>
      obtain ⟨m, d, hm, rfl, HS, rfl⟩ := hrel
      by_cases hlt : m < p
      · obtain ⟨a, ha⟩ : ∃ a, p - 1 - m = a := ⟨_, rfl⟩
        have hai : (p : Int) - 1 - (m : Int) = (a : Int) := by omega
        have ha128 : a < 128 := by omega
        have hai2 : (a : Int) < 128 := by omega
        have x0 : (V.drewN d).cell? ⟨W.heap.size, a, none⟩ = _ := D0.out a ha128
        have x1 : (V.drewN d).cell? ⟨W.heap.size + 1, a, none⟩ = _ := D1.out a ha128
        have m0 : (V.drewN d).cell? ⟨W.heap.size, 128, none⟩ = _ := c0
        have HSX : Hid ((dg N)[a]?.getD 0 = (dg M)[a]?.getD 0 → ∀ j, p - (m + 1) ≤ j → j < p → (dg N)[j]?.getD 0 = (dg M)[j]?.getD 0) := fun h j h1 h2 => by
          by_cases e : j = a
          · rw [e]; exact h
          · exact HS.out j (by omega) h2
        have HL1 : Hid (((dg N)[a]?.getD 0).toNat < ((dg M)[a]?.getD 0).toNat → N < M) := fun h => dig_less N M p a hN hM (by rw [HP.out]; omega) (by rw [HQ.out]; omega) (by omega) (by omega) (fun j h1 h2 => HS.out j (by omega) h2) h
        have HL2 : Hid (((dg M)[a]?.getD 0).toNat < ((dg N)[a]?.getD 0).toNat → M < N) := fun h => dig_less M N p a hM hN (by rw [HQ.out]; omega) (by rw [HP.out]; omega) (by omega) (by omega) (fun j h1 h2 => (HS.out j (by omega) h2).symm) h
        have hxl := bv_lt ((dg N)[a]?.getD 0)
        have hyl := bv_lt ((dg M)[a]?.getD 0)
        generalize (dg N)[a]?.getD 0 = x at x0 HSX HL1 HL2 hxl
        generalize (dg M)[a]?.getD 0 = y at x1 HSX HL1 HL2 hyl
        obtain ⟨V1, HV1⟩ : ∃ V1, Hid (V.drewN d = V1) := ⟨_, rfl⟩
        rw [HV1.out] at x0 x1 m0 ⊢
        by_cases hxy : x.toNat = y.toNat
        · have hxe : x = y := BitVec.eq_of_toNat_eq hxy
          have HN2 := Hid.mk (HSX.out hxe)
          have hne2 : ((x.toNat : Int) != (y.toNat : Int)) = false := by rw [hxy]; simp
          clear ha HSX
          go_wp2_with fail
          go_quiet (fail)
          go_wp2
          go_roundw
          case rel =>
            refine ⟨m + 1, d + nq, by omega, by go_num, HN2, ?_⟩
            rw [← HV1.out, drew_add]
          case measure => simp [intOf]; omega
        · have hne2 : ((x.toNat : Int) != (y.toNat : Int)) = true := by rw [bne_iff_ne]; omega
          have HCP : Hid (∀ W : World, Calls Tryz.prog 122 #[.int .u32 (x.toNat : Int), .int .u32 (y.toNat : Int)] W fun e w' => e = .returned (.int .i64 (Lib.compareInt (x.toNat : Int) (y.toNat : Int))) ∧ w' = W) := fun W => compare32_in _ _ hxl hyl W
          have HRS : Hid (Lib.compareInt (x.toNat : Int) (y.toNat : Int) = cmpI N M) := by
            rw [Hid]
            rcases Nat.lt_or_gt_of_ne hxy with h | h
            · rw [cmpI_lt _ _ (HL1.out h)]; unfold Lib.compareInt; rw [if_pos (by omega)]
            · rw [cmpI_gt _ _ (HL2.out h)]; unfold Lib.compareInt; rw [if_neg (by omega), if_pos (by omega)]
          have HB1 : Below W.heap.size W V1 := by rw [← HV1.out]; exact hB.trans (below_le _ _ _)
          clear ha HSX
          go_wp2_with fail
          go_quiet (fail)
          have y0 : (V1.drewN nq).cell? ⟨W.heap.size, a, none⟩ = _ := x0
          have y1 : (V1.drewN nq).cell? ⟨W.heap.size + 1, a, none⟩ = _ := x1
          have HB2 : Below W.heap.size W (V1.drewN nq) := HB1.trans (below_le _ _ _)
          clear x0 x1 m0 HB1
          generalize V1.drewN nq = V2 at y0 y1 HB2 ⊢
          go_wp2_with fail
          go_quiet (first
            | (go_at_call 122; exact (HCP.out _).mono fun _ _ hh => ⟨hh.1, _, hh.2⟩))
          go_wp2
          go_ret
          exact ⟨by rw [← HRS.out]; rfl, HB2.trans (below_le _ _ _)⟩
      · have HEQ : Hid (N = M) := dig_same N M p hN hM (by rw [HP.out]; omega) (by rw [HQ.out]; omega) hn1 (fun j hj => HS.out j (by omega) hj)
        have hmp : m = p := by omega
        clear HS
        subst hmp
        go_wp2
        go_ret
        exact ⟨by rw [HEQ.out, cmpI_eq]; rfl, hB.trans (below_le _ _ _)⟩
  · have hne : (((p : Int)) != (q : Int)) = true := by rw [bne_iff_ne]; omega
    have HCP := Hid.mk (fun W => Tryz.cmp_Compare_int (p : Int) (q : Int) W)
    have HRS : Hid (Lib.compareInt (p : Int) (q : Int) = cmpI N M) := by
      rw [Hid]
      rcases Nat.lt_or_gt_of_ne hpq with h | h
      · have : N < M := by
          apply Classical.byContradiction
          intro hn
          have := mny_mono M N (by omega)
          omega
        rw [cmpI_lt _ _ this]; unfold Lib.compareInt; rw [if_pos (by omega)]
      · have : M < N := by
          apply Classical.byContradiction
          intro hn
          have := mny_mono N M (by omega)
          omega
        rw [cmpI_gt _ _ this]; unfold Lib.compareInt; rw [if_neg (by omega), if_pos (by omega)]
    clear hp hq
    go_wp2_with fail
    refine (HCP.out _).mono ?_
    rintro e w1 ⟨rfl, rfl⟩
    go_wp2
    go_ret
    exact ⟨by rw [← HRS.out]; rfl, hB⟩
end Go.Proofs.YtpimliebiapnfaaGreatDoor.N
/- Small. -/
namespace Go.Proofs.YtpimliebiapnfaaGreatDoor.N
set_option linter.unusedVariables false
open Go.RowKit
theorem natR_ok (N : Nat) (h : N < Lim) : natR N = .returned (.tuple #[.agg (natL N).toArray, .int .i64 0]) := if_pos h
theorem natR_no (N : Nat) (h : ¬ N < Lim) : natR N = .returned (.tuple #[.agg (natL 0).toArray, .int .i64 3]) := if_neg h
theorem lim_big (k N : Nat) (hk : k ≤ 128) (h : N < 4294967296 ^ k) : N < Lim := Nat.lt_of_lt_of_le h (Nat.pow_le_pow_right (by omega) hk)
theorem results_nat {fn : Func} {p : Tmp} (h : fn.results = #[.cell p 38]) {tmps : Array Value} {W : World} {b : Nat} {L : List Value} {fz : Nat × Nat} (hp : tmps.getD p undef = .pointer (some ⟨b, 0, none⟩)) (hb : W.heap[b]? = some (.cells L.toArray 38 fz)) (hs : L.length = 129) :
    (results fn tmps).run Tryz.prog W = .ok (.agg L.toArray) W := by
  have hp' : tmps[p]?.getD undef = .pointer (some ⟨b, 0, none⟩) := by simpa using hp
  simp only [results, h]
  simp [hp', asAddr, nat_loadV hb hs]
theorem store_cells {W : World} {b t : Nat} {L M : List Value} (h : W.heap[b]? = some (.cells L.toArray t (0, 0))) (hs : L.length = 129) (hv : M.length = 129) (h1 : ∀ v ∈ M, v.oneCell' = true) : (storeCells ⟨b, 0, none⟩ M).run Tryz.prog W = .ok () (W.setRow b M.toArray) := by
  have := run_storeCells_from (P := Tryz.prog) b t M 0 L.toArray W h (by simp; omega) h1
  simpa [List.drop_eq_nil_of_le (show L.length ≤ M.length by omega)] using this
set_option maxRecDepth 100000 in
set_option maxHeartbeats 1000000 in
theorem small_in (n : Nat) (h : n < 18446744073709551616) (W : World) : Calls Tryz.prog 45 #[.int .u64 (n : Int)] W fun e w' => e = .returned (.agg (natL n).toArray) ∧ Below W.heap.size W w' := by
  obtain ⟨x, HX⟩ : ∃ x, Hid (x = BitVec.ofNat 32 n) := ⟨_, rfl⟩
  obtain ⟨y, HY⟩ : ∃ y, Hid (y = BitVec.ofNat 32 (n / 4294967296)) := ⟨_, rfl⟩
  have hx : x.toNat = n % 4294967296 := by rw [HX.out, bv_of]
  have hy : y.toNat = n / 4294967296 := by rw [HY.out, bv_of]; omega
  have HV : Hid (val [x, y] = n) := by rw [Hid, val, val, val, hx, hy]; omega
  have x1 : IntKind.u32.wrap (n : Int) = (x.toNat : Int) := by rw [IntKind.wrap_u32]; omega
  have x2 : (n : Int) % 4294967296 = (x.toNat : Int) := by omega
  have y1 : (n : Int) / 4294967296 = (y.toNat : Int) := by omega
  have y2 : IntKind.u32.wrap ((n : Int) / 4294967296) = (y.toNat : Int) := by rw [IntKind.wrap_u32]; omega
  have y3 := bv_lt y
  have HOK : Hid (natR n = .returned (.tuple #[.agg (natL n).toArray, .int .i64 0])) := natR_ok n (lim_big 2 n (by omega) (by omega))
  have HNO : Hid (∀ (W : World) (g : Nat), W.heap[g]? = some (.cells #[.int .u32 (x.toNat : Int), .int .u32 (y.toNat : Int)] 35 (0, 0)) → Calls Tryz.prog 87 #[.slice (some ⟨g, 0, none⟩) 2 2] W fun e w' => e = .returned (.tuple #[.agg (natL n).toArray, .int .i64 0]) ∧ Below W.heap.size W w') := fun W g hg => by
    have h := natOf_in W g 35 0 2 2 [] [] [x, y] rfl rfl (by omega) (by omega) (by omega) (by omega) (by exact hg)
    rwa [HV.out, HOK.out] at h
  have hz := zero26
  have hlen := natL_len
  clear hx hy
  go_enter Tryz.func45, Tryz.ntmps45
  go_wp2_with fail
  refine (HNO.out _ _ ?_).mono ?_
  · exact (congrArg (fun k => (World.alloc _ _).heap[k]?) (World.size_alloc W _).symm).trans (heap_new _ _)
  rintro e w1 ⟨rfl, hb1⟩
  have A1 : Hid ((w1.alloc (.cells (natL 0).toArray 38)).heap[w1.heap.size]? = _) := heap_new _ _
  have hst := store_cells A1.out (natL_len 0) (natL_len n) (natL_cells n)
  have B1 : Below W.heap.size W w1 := (((Below.refl W.heap.size W).alloc (Nat.le_refl _) _).alloc (by simp) _).trans (hb1.mono (by simp; omega))
  have Z1 : Hid (w1.heap[W.heap.size]? = some (.cells (natL 0).toArray 38 (0, 0))) := by
    rw [Hid, hb1.block _ (by simp; omega), Below.heap_alloc _ _ _ (by simp), heap_new]
  have hw1 : W.heap.size < w1.heap.size := box_lt Z1.out
  go_upto_region 2 with fail
  have C1 : Hid (((w1.alloc (.cells (natL 0).toArray 38)).setRow w1.heap.size (natL n).toArray).heap[w1.heap.size]? = some (.cells (natL n).toArray 38 (0, 0))) := setRow_heap _ _ _ _ _ _ A1.out
  have C2 : Hid (((w1.alloc (.cells (natL 0).toArray 38)).setRow w1.heap.size (natL n).toArray).heap[W.heap.size]? = some (.cells (natL 0).toArray 38 (0, 0))) := by
    rw [Hid, setRow_other _ _ _ _ (by omega), Below.heap_alloc _ _ _ (by omega)]; exact Z1.out
  have B2 : Below W.heap.size W ((w1.alloc (.cells (natL 0).toArray 38)).setRow w1.heap.size (natL n).toArray) := below_row (B1.alloc (by omega) _) (by omega) _
  generalize (w1.alloc (.cells (natL 0).toArray 38)).setRow w1.heap.size (natL n).toArray = U at C1 C2 B2 ⊢
  refine wp_region_lit ?_
  refine wpList_run (W' := U) (v := .agg (natL n).toArray) rfl (op_load C1.out (natL_len n) rfl rfl) ?_
  refine wpList_runS rfl (op_store C2.out (natL_len 0) (natL_len n) (natL_cells n) rfl rfl rfl) ?_
  go_wp2
  refine bodyPost_ret (results_nat Tryz.results45 rfl (setRow_heap _ _ _ _ _ _ C2.out) (natL_len n)) rfl ⟨rfl, below_row B2 (Nat.le_refl _) _⟩
end Go.Proofs.YtpimliebiapnfaaGreatDoor.N
/- Add. -/
namespace Go.Proofs.YtpimliebiapnfaaGreatDoor.N
set_option linter.unusedVariables false
open Go.RowKit
theorem zl_ex (n : Nat) : ∃ L : List Value, L = wl (List.replicate n 0) := ⟨_, rfl⟩
noncomputable def zl (n : Nat) : List Value := Classical.choose (zl_ex n)
theorem zl_eq (n : Nat) : zl n = wl (List.replicate n 0) := Classical.choose_spec (zl_ex n)
theorem zl_len (n : Nat) : (zl n).length = n := by rw [zl_eq, wl_len, List.length_replicate]
theorem natR_form (N : Nat) : ∃ R v, natR N = .returned (.tuple #[.agg (natL R).toArray, .int .i64 v]) := by
  by_cases h : N < Lim
  · exact ⟨_, _, natR_ok N h⟩
  · exact ⟨_, _, natR_no N h⟩
theorem zero67' (W : World) : (zeroValue 158).run Tryz.prog W = .ok (.agg (wl (List.replicate 129 0)).toArray) W := by kernel_rfl
theorem zero67 (W : World) : (zeroValue 158).run Tryz.prog W = .ok (.agg (zl 129).toArray) W := by rw [zl_eq]; exact zero67' W
theorem four_new (w : World) (L0 L1 L2 L3 : List Value) (t0 t1 t2 t3 : TypeId) : ∃ V, (((w.alloc (.cells L0.toArray t0)).alloc (.cells L1.toArray t1)).alloc (.cells L2.toArray t2)).alloc (.cells L3.toArray t3) = V ∧ V.heap[w.heap.size]? = some (.cells L0.toArray t0 (0, 0)) ∧ V.heap[w.heap.size + 1]? = some (.cells L1.toArray t1 (0, 0)) ∧
    V.heap[w.heap.size + 2]? = some (.cells L2.toArray t2 (0, 0)) ∧ V.heap[w.heap.size + 3]? = some (.cells L3.toArray t3 (0, 0)) ∧ Below w.heap.size w V ∧ V.heap.size = w.heap.size + 4 := by
  refine ⟨_, rfl, ?_, ?_, ?_, ?_, ((((Below.refl _ _).alloc (Nat.le_refl _) _).alloc (by simp) _).alloc (by simp; omega) _).alloc (by simp; omega) _, by simp⟩
  · rw [Below.heap_alloc _ _ _ (by first | (simp; done) | (simp; omega)), Below.heap_alloc _ _ _ (by first | (simp; done) | (simp; omega)), Below.heap_alloc _ _ _ (by first | (simp; done) | (simp; omega)), heap_new]
  · rw [Below.heap_alloc _ _ _ (by first | (simp; done) | (simp; omega)), Below.heap_alloc _ _ _ (by first | (simp; done) | (simp; omega))]
    exact (congrArg (fun k => (World.alloc _ _).heap[k]?) (World.size_alloc w _).symm).trans (heap_new _ _)
  · rw [Below.heap_alloc _ _ _ (by simp)]
    exact (congrArg (fun k => (World.alloc _ _).heap[k]?) (by simp)).trans (heap_new _ _)
  · exact (congrArg (fun k => (World.alloc _ _).heap[k]?) (by simp)).trans (heap_new _ _)
theorem splice_zero (l : List (BitVec 32)) (n : Nat) (h : l.length ≤ n) : splice (zl n) 0 (wl l) = wl (l ++ List.replicate (n - l.length) 0) := by
  rw [zl_eq, splice, List.take_zero, List.nil_append, Nat.zero_add, wl_len, wl_app]
  congr 1
  unfold wl
  rw [← List.map_drop, List.drop_replicate]
theorem take_cells {W : World} {b t : Nat} {N : Nat} (h : W.heap[b]? = some (.cells (natL N).toArray t (0, 0))) (p : Nat) (hp : p ≤ 128) : ∀ j v, (wl ((dg N).take p))[j]? = some v → W.cell? ((⟨b, 0, none⟩ : Addr).add j) = some v := fun j v hv => by
  have hj : j < ((dg N).take p).length := by rw [← wl_len]; exact (List.getElem?_eq_some_iff.1 hv).1
  rw [wl_at _ j hj] at hv
  rw [List.length_take, dg_len] at hj
  rw [addr_at, ← hv, Nat.zero_add, (cells_at h (nat_at N j (by omega))).1, List.getElem?_take_of_lt (by omega)]
set_option maxRecDepth 100000 in
set_option maxHeartbeats 2000000 in
theorem add_in (N M : Nat) (hN : N < Lim) (hM : M < Lim) (W : World) : Calls Tryz.prog 106 #[.agg (natL N).toArray, .agg (natL M).toArray] W fun e w' => e = natR (N + M) ∧ Below W.heap.size W w' := by
  obtain ⟨R, rv, hR⟩ := natR_form (N + M)
  have HR := Hid.mk hR
  obtain ⟨p, hp⟩ : ∃ p, mny N = p := ⟨_, rfl⟩
  obtain ⟨q, hq⟩ : ∃ q, mny M = q := ⟨_, rfl⟩
  have hp1 : p ≤ 128 := by rw [← hp]; exact mny_le N hN
  have hq1 : q ≤ 128 := by rw [← hq]; exact mny_le M hM
  obtain ⟨K, hK⟩ : ∃ K, K = max p q := ⟨_, rfl⟩
  have hK1 : K ≤ 128 := by omega
  have hKp : p ≤ K := by omega
  have hKq : q ≤ K := by omega
  have m1 : (if (p : Int) < (q : Int) then (q : Int) else (p : Int)) = (K : Int) := by split <;> omega
  have m2 : (if (q : Int) < (p : Int) then (p : Int) else (q : Int)) = (K : Int) := by split <;> omega
  have m3 : (if (q : Int) ≤ (p : Int) then (p : Int) else (q : Int)) = (K : Int) := by split <;> omega
  have m4 : (if (p : Int) ≤ (q : Int) then (q : Int) else (p : Int)) = (K : Int) := by split <;> omega
  have m5 : max (p : Int) (q : Int) = (K : Int) := by omega
  obtain ⟨V, hV, b0, b1, b2, b3, hB, hsz⟩ := four_new W (natL N) (natL M) (natL 0) (zl 129) 38 38 38 158
  have hz := zero26
  have hz2 := zero67
  rw [hR]
  clear hR
  go_enter Tryz.func106, Tryz.ntmps106
  go_upto_region 2 with fail
  simp only [Nat.add_assoc, Nat.reduceAdd]
  clear hV hz hz2
  have c0 : V.cell? ⟨W.heap.size, 128, none⟩ = some (.int .i64 (p : Int)) := by rw [← hp]; exact (cells_at b0 (nat_many N)).1
  have c1 : V.cell? ⟨W.heap.size + 1, 128, none⟩ = some (.int .i64 (q : Int)) := by rw [← hq]; exact (cells_at b1 (nat_many M)).1
  obtain ⟨cs, hcs⟩ : ∃ cs, cs = wl ((dg N).take p) := ⟨_, rfl⟩
  have hcl : cs.length = p := by rw [hcs, wl_len, List.length_take, dg_len]; omega
  have HMIN : Hid (cs.length = Nat.min p 129) := by rw [Hid, hcl]; exact (Nat.min_eq_left (by omega)).symm
  have HFIT : Hid (0 + cs.length ≤ (zl 129).length) := by rw [Hid, hcl, zl_len]; omega
  have HONE : Hid (∀ v ∈ cs, v.oneCell' = true) := by rw [Hid, hcs]; exact wl_one _
  have HSRC : Hid (∀ j v, cs[j]? = some v → V.cell? ((⟨W.heap.size, 0, none⟩ : Addr).add j) = some v) := by rw [Hid, hcs]; exact take_cells b0 p hp1
  have HSP : Hid (splice (zl 129) 0 cs = wl ((dg N).take p ++ List.replicate (129 - p) 0)) := by
    rw [Hid, hcs, splice_zero _ _ (by rw [List.length_take, dg_len]; omega), List.length_take, dg_len, Nat.min_eq_left hp1]
  have B1 := Hid.mk b1
  have B2 := Hid.mk b2
  have B3 := Hid.mk b3
  have hsz3 : W.heap.size + 3 ≤ V.heap.size := by omega
  clear hcs hcl b0 b1 b2 b3
  have BB : Below (W.heap.size + 3) V V := Below.refl _ _
  have pi1 : (p : Int) ≤ 128 := by omega
  have pi0 : (0 : Int) ≤ (p : Int) := by omega
  go_region_law (first | (refine step_copy_splice rfl (.tmp 8) (.tmp 12) 45 45 rfl 35 Tryz.underlying45 size23 (some ⟨W.heap.size + 3, 0, none⟩) (some ⟨W.heap.size, 0, none⟩) 129 129 p 128 rfl rfl (W.heap.size + 3) 0 (zl 129) 158 B3.out cs HMIN.out (fun _ => ⟨rfl, ⟨W.heap.size, 0, none⟩, rfl, HSRC.out⟩) HFIT.out HONE.out (W.heap.size + 3) V BB.drew (Nat.le_refl _) ?_; intro w4 hg4 hb4))
  obtain ⟨S0, hS0⟩ : ∃ S0, S0 = (dg N).take p ++ List.replicate (129 - p) 0 := ⟨_, rfl⟩
  have hS0l : S0.length = 129 := by rw [hS0, List.length_append, List.length_take, dg_len, List.length_replicate]; omega
  have HVX : Hid (val (S0.take K) = N) := by
    rw [Hid, hS0]
    have h1 : val ((dg N).take p ++ List.replicate (129 - p) 0) = N := by rw [val_app, val_zero, Nat.mul_zero, Nat.add_zero]; exact dg_top N hN p (by omega)
    have h2 := val_split ((dg N).take p ++ List.replicate (129 - p) 0) K
    have h3 : ((dg N).take p ++ List.replicate (129 - p) 0).drop K = List.replicate (129 - K) 0 := by
      rw [List.drop_append, List.drop_eq_nil_of_le (by rw [List.length_take, dg_len]; omega), List.nil_append, List.drop_replicate, List.length_take, dg_len]
      congr 1
      omega
    rw [h3, val_zero, Nat.mul_zero, Nat.add_zero, h1] at h2
    exact h2.symm
  have HVY : Hid (val ((dg M).take K) = M) := dg_top M hM K (by omega)
  have hg5 : Hid (w4.heap[W.heap.size + 3]? = some (.cells (wl S0).toArray 158 (0, 0))) := by rw [Hid, hS0, ← HSP.out]; exact hg4.out
  have k1 : Hid (w4.heap[W.heap.size + 1]? = some (.cells (natL M).toArray 38 (0, 0))) := (hb4.block _ (by omega)).trans B1.out
  have k2 : Hid (w4.heap[W.heap.size + 2]? = some (.cells (natL 0).toArray 38 (0, 0))) := (hb4.block _ (by omega)).trans B2.out
  have d0 : w4.cell? ⟨W.heap.size, 128, none⟩ = some (.int .i64 (p : Int)) := (hb4.cell (p := ⟨W.heap.size, 128, none⟩) (by show W.heap.size < W.heap.size + 3; omega)).trans c0
  have d1 : w4.cell? ⟨W.heap.size + 1, 128, none⟩ = some (.int .i64 (q : Int)) := (hb4.cell (p := ⟨W.heap.size + 1, 128, none⟩) (by show W.heap.size + 1 < W.heap.size + 3; omega)).trans c1
  have HBW : Below W.heap.size W w4 := hB.trans (hb4.mono (by omega))
  have HS0 := Hid.mk hS0
  have HSL := Hid.mk hS0l
  have HADD : Hid (∀ W' : World, W'.heap[W.heap.size + 3]? = some (.cells (wl S0).toArray 158 (0, 0)) → W'.heap[W.heap.size + 1]? = some (.cells (natL M).toArray 38 (0, 0)) → Calls Tryz.prog 126 #[.slice (some ⟨W.heap.size + 3, 0, none⟩) K 129, .slice (some ⟨W.heap.size + 1, 0, none⟩) K 128] W' fun e w' => ∃ (zs : List (BitVec 32)) (c : BitVec 32), zs.length = K ∧ val zs + 4294967296 ^ K * c.toNat = N + M ∧ e = .returned (.int .u32 (c.toNat : Int)) ∧ w'.heap[W.heap.size + 3]? = some (.cells (wl (zs ++ S0.drop K)).toArray 158 (0, 0)) ∧ But (W.heap.size + 3) W' w') := fun W' h3 h1 => by
    have h := addTo_in W' (W.heap.size + 3) (W.heap.size + 1) 158 0 0 129 128 K [] (wl (S0.drop K)) (S0.take K) ((dg M).take K) rfl (by rw [List.length_take, HSL.out]; omega) (by rw [List.length_take, dg_len]; omega) (by omega) (by omega) (by omega)
      (by rw [List.nil_append, ← wl_app, List.take_append_drop]; exact h3) (by omega) (fun j hj => by rw [Nat.zero_add, List.getElem?_take_of_lt hj]; exact (cells_at h1 (nat_at M j (by omega))).1)
    rw [HVX.out, HVY.out] at h
    refine h.mono ?_
    rintro e w' ⟨zs, c, a1, a2, a3, a4, a5⟩
    refine ⟨zs, c, a1, a2, a3, ?_, a5⟩
    rw [wl_app]
    exact a4
  have HNAT : Hid (∀ (W' : World) (zs : List (BitVec 32)) (c : BitVec 32), zs.length = K → val zs + 4294967296 ^ K * c.toNat = N + M → W'.heap[W.heap.size + 3]? = some (.cells (wl ((zs ++ S0.drop K).set K c)).toArray 158 (0, 0)) → Calls Tryz.prog 87 #[.slice (some ⟨W.heap.size + 3, 0, none⟩) (K + 1) 129] W' fun e w' => e = .returned (.tuple #[.agg (natL R).toArray, .int .i64 rv]) ∧ Below W'.heap.size W' w') := fun W' zs c hz hv h3 => by
    have e : (zs ++ S0.drop K).set K c = (zs ++ [c]) ++ S0.drop (K + 1) := by
      rw [List.set_append_right _ _ (by omega), hz, Nat.sub_self, List.append_assoc, List.drop_eq_getElem_cons (by rw [HSL.out]; omega)]
      rfl
    have h := natOf_in W' (W.heap.size + 3) 158 0 129 (K + 1) [] (wl (S0.drop (K + 1))) (zs ++ [c]) rfl (by rw [List.length_append, hz]; rfl) (by omega) (by omega) (by omega) (by omega) (by rw [List.nil_append, ← wl_app, ← e]; exact h3)
    rwa [val_snoc, hz, hv, HR.out] at h
  have HCF : Hid (∀ (w5 : World) (zs : List (BitVec 32)), zs.length = K → w5.heap[W.heap.size + 3]? = some (.cells (wl (zs ++ S0.drop K)).toArray 158 (0, 0)) → (∃ y : BitVec 32, w5.cell? ⟨W.heap.size + 3, K, none⟩ = some (.int .u32 (y.toNat : Int))) ∧ w5.frozen? ⟨W.heap.size + 3, K, none⟩ = false ∧ ∀ c : BitVec 32, (w5.setCell ⟨W.heap.size + 3, K, none⟩ (.int .u32 (c.toNat : Int))).heap[W.heap.size + 3]? = some (.cells (wl ((zs ++ S0.drop K).set K c)).toArray 158 (0, 0))) := fun w5 zs hz h => by
    have hl : K < (zs ++ S0.drop K).length := by rw [List.length_append, hz, List.length_drop, HSL.out]; omega
    obtain ⟨a1, a2⟩ := cells_at h (wl_at _ K hl)
    refine ⟨⟨_, a1⟩, a2, fun c => ?_⟩
    rw [cells_put h]
    simp [wl]
  clear hS0 hS0l hg4 hb4 HSP B1 B2 B3 HSRC HONE HFIT HMIN c0 c1 hB BB hsz hsz3 hp hq hK HVX HVY
  have ki1 : (K : Int) ≤ 128 := by omega
  have ki2 : (K : Int) ≤ 129 := by omega
  have ki3 : (K : Int) < 129 := by omega
  have ki0 : (0 : Int) ≤ (K : Int) := by omega
  have ki4 : (K : Int) + 1 ≤ 129 := by omega
  have ki5 : (0 : Int) ≤ (K : Int) + 1 := by omega
  have ki6 : ((K : Int) + 1).toNat = K + 1 := by omega
  go_wp2_with fail
  go_region_held3 (fun _ => True) (trivial)
    (first
      | (go_at_call 126; refine (HADD.out _ (by exact hg5.out) (by exact k1.out)).mono ?_; rintro e w5 ⟨zs, c, hzl, hval, rfl, hrow5, hbut⟩; obtain ⟨⟨y5, hc5⟩, hf5, hput⟩ := HCF.out w5 zs hzl hrow5; have HPUT := Hid.mk hput; have HBUT := Hid.mk hbut; have HZL := Hid.mk hzl; have HVAL := Hid.mk hval; clear hput hbut hzl hval hrow5))
  have Z5 : Hid (w5.heap[W.heap.size + 2]? = some (.cells (natL 0).toArray 38 (0, 0))) := (HBUT.out.block _ (by omega) (box_lt k2.out)).trans k2.out
  have hb5 : Below W.heap.size W w5 := But.below (B := W.heap.size) (g := W.heap.size + 3) (a := w4.drew) HBW.drew HBUT.out (Nat.le_add_right _ _) HBW.size
  clear HBUT
  have Z6 : Hid ((w5.setCell ⟨W.heap.size + 3, K, none⟩ (.int .u32 (c.toNat : Int))).heap[W.heap.size + 2]? = some (.cells (natL 0).toArray 38 (0, 0))) := (Below.heap_setCell _ _ _ _ (by show W.heap.size + 2 ≠ W.heap.size + 3; omega)).trans Z5.out
  have hb6 : Below W.heap.size W (w5.setCell ⟨W.heap.size + 3, K, none⟩ (.int .u32 (c.toNat : Int))) := hb5.setCell (by show W.heap.size ≤ W.heap.size + 3; omega) _
  have R6 := Hid.mk (HPUT.out c)
  clear HPUT Z5 hb5 hc5 hf5
  generalize w5.setCell ⟨W.heap.size + 3, K, none⟩ (.int .u32 (c.toNat : Int)) = w6 at Z6 hb6 R6 ⊢
  go_wp2_with fail
  refine (HNAT.out _ zs c HZL.out HVAL.out (by exact R6.out)).mono ?_
  rintro e w7 ⟨rfl, hb7⟩
  have Z7 : Hid (w7.heap[W.heap.size + 2]? = some (.cells (natL 0).toArray 38 (0, 0))) := (hb7.block _ (box_lt Z6.out)).trans Z6.out
  have B7 : Below W.heap.size W w7 := bthen hb6 hb7
  have hst := store_cells Z7.out (natL_len 0) (natL_len R) (natL_cells R)
  have hlen := natL_len
  go_wp2
  refine bodyPost_ret (results_nat_tmp Tryz.results106 rfl rfl (setRow_heap _ _ _ _ _ _ Z7.out) (natL_len R)) rfl ⟨rfl, below_row B7 (by omega) _⟩
end Go.Proofs.YtpimliebiapnfaaGreatDoor.N