/- divided's last region: both results stored as they are. -/
import Derived.Test.YthjhemodmdficaaDoorNDivF
namespace Go.Proofs.YthjhemodmdficaaDoor
set_option linter.unusedVariables false
open Go.RowKit
theorem many_mid {W : World} {b t p : Nat} {zs ds : List (BitVec 32)} (h : W.heap[b]? = some (.cells ([] ++ (wl zs ++ (wl ds ++ [Value.int .i64 (p : Int)]))).toArray t (0, 0))) (hl : zs.length + ds.length = 128) : W.cell? ⟨b, 128, none⟩ = some (.int .i64 (p : Int)) := by
  refine (cells_at h ?_).1
  rw [List.nil_append, ← List.append_assoc, ← wl_app, List.getElem?_append_right (by rw [wl_len, List.length_append]; omega), wl_len, List.length_append, hl]
  rfl
theorem mid_cells {W : World} {b t : Nat} {zs : List (BitVec 32)} {C : List Value} (h : W.heap[b]? = some (.cells ([] ++ (wl zs ++ C)).toArray t (0, 0))) (j : Nat) (hj : j < zs.length) : W.cell? ⟨b, 0 + j, none⟩ = some (.int .u32 ((zs[j]?.getD 0).toNat : Int)) :=
  (cells_at h (mid_at [] C zs j hj)).1
theorem setRow_same {w : World} {b : Nat} {cs : Array Value} {t : TypeId} {fz : Nat × Nat} (h : w.heap[b]? = some (.cells cs t fz)) : w.setRow b cs = w := by
  have hh : (w.setRow b cs).heap = w.heap := by
    apply Array.ext_getElem?
    intro k
    by_cases e : k = b
    · subst e
      rw [setRow_heap w k cs cs t fz h, h]
    · exact setRow_other w b k cs e
  have e : w.setRow b cs = { w with heap := (w.setRow b cs).heap } := rfl
  rw [e, hh]
theorem load_cells {W : World} {b t : Nat} {L : List Value} (h : W.heap[b]? = some (.cells L.toArray t (0, 0))) (hs : L.length = 129) : (loadCells ⟨b, 0, none⟩ 129).run Tryd.prog W = .ok L.toArray W := by
  have := run_loadCells_list (P := Tryd.prog) W ⟨b, 0, none⟩ L (fun j v hv => by rw [addr_at, Nat.zero_add]; exact (cells_at h hv).1)
  rwa [hs] at this
theorem step_loadN {w : World} {ops : Array Oper} {o : Oper} {a : Act} {K : Act → World → Prop} {Q : Exit → Act → World → Prop} {E : Prop} (hgd : o.guard = none) (x : Operand) (ho : o.op = .load 27 x) (b : Nat) (hx : a.eval x = .pointer (some ⟨b, 0, none⟩)) (L : List Value) (hL : L.length = 129) (h : w.heap[b]? = some (.cells L.toArray 27 (0, 0)))
    (k : K (a.put o.dst (.agg L.toArray)) w) : if Region.wanted o (yielded ops a.tmps) = true then Oper.wp Tryd.prog o a w K Q else E := by
  have hw : Region.wanted o (yielded ops a.tmps) = true := by simp [Region.wanted, hgd]
  rw [if_pos hw]
  exact operwp_run (op_load h hL ho hx) k
theorem step_storeN {w : World} {ops : Array Oper} {o : Oper} {a : Act} {K : Act → World → Prop} {Q : Exit → Act → World → Prop} {E : Prop} (hgd : o.guard = none) (x y : Operand) (ho : o.op = .store 27 x y) (b : Nat) (hx : a.eval x = .pointer (some ⟨b, 0, none⟩)) (L : List Value) (hy : a.eval y = .agg L.toArray) (hL : L.length = 129) (h1 : ∀ v ∈ L, v.oneCell' = true) (h : w.heap[b]? = some (.cells L.toArray 27 (0, 0)))
    (k : K (a.put o.dst undef) w) : if Region.wanted o (yielded ops a.tmps) = true then Oper.wp Tryd.prog o a w K Q else E := by
  have hw : Region.wanted o (yielded ops a.tmps) = true := by simp [Region.wanted, hgd]
  rw [if_pos hw]
  have hr := op_store h hL hL h1 ho hx hy
  rw [setRow_same h] at hr
  unfold Oper.wp
  rw [hr]
  exact k
theorem results_nat2 {fn : Func} {p q : Tmp} (h : fn.results = #[.cell p 27, .cell q 27]) {tmps : Array Value} {W : World} {b c : Nat} {L M : List Value} {fz fy : Nat × Nat} (hp : tmps.getD p undef = .pointer (some ⟨b, 0, none⟩)) (hq : tmps.getD q undef = .pointer (some ⟨c, 0, none⟩)) (hb : W.heap[b]? = some (.cells L.toArray 27 fz)) (hc : W.heap[c]? = some (.cells M.toArray 27 fy)) (hs : L.length = 129) (ht : M.length = 129) :
    (results fn tmps).run Tryd.prog W = .ok (.tuple #[.agg L.toArray, .agg M.toArray]) W := by
  have hp' : tmps[p]?.getD undef = .pointer (some ⟨b, 0, none⟩) := by simpa using hp
  have hq' : tmps[q]?.getD undef = .pointer (some ⟨c, 0, none⟩) := by simpa using hq
  simp only [results, h]
  simp [hp', hq', asAddr, nat_loadV hb hs, nat_loadV hc ht]
theorem wpOp_run {ops : Array Oper} {i : Nat} {o : Oper} {Q : Exit → Act → World → Prop} {K : Act → World → Prop} {a : Act} {w w' : World} {v : Value} (hi : ops[i]? = some o) (hg : o.guard = none) (hrun : (execOp a.eval o).run Tryd.prog w = .ok (.value v) w') (k : K (a.put o.dst v) w') : wpOp Tryd.prog ops Q i K a w := by
  have hw : Region.wanted o (yielded ops a.tmps) = true := by simp [Region.wanted, hg]
  unfold wpOp
  rw [hi]
  simp only [hw, if_true]
  exact .inl (operwp_run hrun k)
theorem wpOp_runS {ops : Array Oper} {i : Nat} {o : Oper} {Q : Exit → Act → World → Prop} {K : Act → World → Prop} {a : Act} {w w' : World} (hi : ops[i]? = some o) (hg : o.guard = none) (hrun : (execOp a.eval o).run Tryd.prog w = .ok .skip w') (k : K (a.put o.dst undef) w') : wpOp Tryd.prog ops Q i K a w := by
  have hw : Region.wanted o (yielded ops a.tmps) = true := by simp [Region.wanted, hg]
  unfold wpOp
  rw [hi]
  simp only [hw, if_true]
  refine .inl ?_
  unfold Oper.wp
  rw [hrun]
  exact k
/-- the operations of divided's last region. -/
def sw : Array Oper := #[{ dst := some 81, op := Op.load 27 (Operand.tmp 4), type := 27, pos := "divide.go:23", after := #[], guard := none },
  { dst := some 82, op := Op.load 27 (Operand.tmp 5), type := 27, pos := "divide.go:23", after := #[{ on := 2, ground := Ground.gcOnly Departure.lateStores }], guard := none },
  { dst := none, op := Op.store 27 (Operand.tmp 4) (Operand.tmp 81), type := 0, pos := "divide.go:23", after := #[{ on := 0, ground := Ground.data }, { on := 0, ground := Ground.phase }, { on := 1, ground := Ground.textOnly Departure.lateStores }], guard := none },
  { dst := none, op := Op.store 27 (Operand.tmp 5) (Operand.tmp 82), type := 0, pos := "divide.go:23", after := #[{ on := 1, ground := Ground.data }, { on := 2, ground := Ground.chain }, { on := 0, ground := Ground.phase }, { on := 1, ground := Ground.phase }, { on := 2, ground := Ground.phase }], guard := none }]
theorem sw0 : Region.ready .any sw #[false, false, false, false] = [0, 1] := by kernel_rfl
theorem sw1 : Region.ready .any sw #[true, false, false, false] = [1, 2] := by kernel_rfl
theorem sw2 : Region.ready .any sw #[false, true, false, false] = [0] := by kernel_rfl
theorem sw3 : Region.ready .any sw #[true, true, false, false] = [2] := by kernel_rfl
theorem sw4 : Region.ready .any sw #[true, false, true, false] = [1] := by kernel_rfl
theorem sw5 : Region.ready .any sw #[true, true, true, false] = [3] := by kernel_rfl
theorem sw6 : Region.ready .any sw #[true, true, true, true] = [] := by kernel_rfl
theorem any_step {Q : Exit → Act → World → Prop} {n : Nat} {listed : Array Bool} {a : Act} {w : World} {rs : List Nat} (hr : Region.ready .any sw listed = rs) (hne : rs ≠ []) (h : ∀ i ∈ rs, wpOp Tryd.prog sw Q i (wpAny Tryd.prog .any sw Q n (listed.setIfInBounds i true)) a w) : wpAny Tryd.prog .any sw Q (n + 1) listed a w :=
  ⟨fun e => absurd (hr.symm.trans e) hne, fun i hi => h i (by rw [hr] at hi; exact hi)⟩
theorem any_end {Q : Exit → Act → World → Prop} {listed : Array Bool} {a : Act} {w : World} (hr : Region.ready .any sw listed = []) (h : Q .normal a w) : wpAny Tryd.prog .any sw Q 0 listed a w := ⟨hr, h⟩
theorem put_get {a : Act} {d : Nat} {v : Value} (h : d < a.tmps.size) : (a.put (some d) v).eval (.tmp d) = v := by
  simp [Act.eval, Act.put, h]
theorem put_size {a : Act} {d : Nat} {v : Value} : (a.put (some d) v).tmps.size = a.tmps.size := by simp [Act.put]
theorem put_oth {a : Act} {d t : Nat} {v : Value} (h : t ≠ d) : (a.put (some d) v).eval (.tmp t) = a.eval (.tmp t) := by
  simp [Act.eval, Act.put, Ne.symm h]
theorem swap_any {Q : Exit → Act → World → Prop} {U : World} {a : Act} {b c : Nat} {L M : List Value} (hL : L.length = 129) (hM : M.length = 129) (h1 : ∀ v ∈ L, v.oneCell' = true) (h2 : ∀ v ∈ M, v.oneCell' = true) (hb : U.heap[b]? = some (.cells L.toArray 27 (0, 0))) (hc : U.heap[c]? = some (.cells M.toArray 27 (0, 0)))
    (e4 : a.eval (.tmp 4) = .pointer (some ⟨b, 0, none⟩)) (e5 : a.eval (.tmp 5) = .pointer (some ⟨c, 0, none⟩)) (hs : 83 ≤ a.tmps.size) (q1 : Q .normal ((a.put (some 81) (.agg L.toArray)).put (some 82) (.agg M.toArray)) U) (q2 : Q .normal ((a.put (some 82) (.agg M.toArray)).put (some 81) (.agg L.toArray)) U) :
    wpAny Tryd.prog .any sw Q 4 #[false, false, false, false] a U := by
  have st4 : ∀ {a' : Act} {K : Act → World → Prop}, a'.eval (.tmp 4) = .pointer (some ⟨b, 0, none⟩) → a'.eval (.tmp 81) = .agg L.toArray → K a' U → wpOp Tryd.prog sw Q 2 K a' U := fun {a' K} x y k => by
    have hr := op_store (o := { dst := none, op := Op.store 27 (Operand.tmp 4) (Operand.tmp 81), type := 0, pos := "divide.go:23", after := #[{ on := 0, ground := Ground.data }, { on := 0, ground := Ground.phase }, { on := 1, ground := Ground.textOnly Departure.lateStores }], guard := none }) hb hL hL h1 rfl x y
    rw [setRow_same hb] at hr
    exact wpOp_runS rfl rfl hr k
  have st5 : ∀ {a' : Act} {K : Act → World → Prop}, a'.eval (.tmp 5) = .pointer (some ⟨c, 0, none⟩) → a'.eval (.tmp 82) = .agg M.toArray → K a' U → wpOp Tryd.prog sw Q 3 K a' U := fun {a' K} x y k => by
    have hr := op_store (o := { dst := none, op := Op.store 27 (Operand.tmp 5) (Operand.tmp 82), type := 0, pos := "divide.go:23", after := #[{ on := 1, ground := Ground.data }, { on := 2, ground := Ground.chain }, { on := 0, ground := Ground.phase }, { on := 1, ground := Ground.phase }, { on := 2, ground := Ground.phase }], guard := none }) hc hM hM h2 rfl x y
    rw [setRow_same hc] at hr
    exact wpOp_runS rfl rfl hr k
  have ld4 : ∀ {a' : Act} {K : Act → World → Prop}, a'.eval (.tmp 4) = .pointer (some ⟨b, 0, none⟩) → K (a'.put (some 81) (.agg L.toArray)) U → wpOp Tryd.prog sw Q 0 K a' U := fun {a' K} x k => wpOp_run rfl rfl (op_load hb hL rfl x) k
  have ld5 : ∀ {a' : Act} {K : Act → World → Prop}, a'.eval (.tmp 5) = .pointer (some ⟨c, 0, none⟩) → K (a'.put (some 82) (.agg M.toArray)) U → wpOp Tryd.prog sw Q 1 K a' U := fun {a' K} x k => wpOp_run rfl rfl (op_load hc hM rfl x) k
  have w1 : (a.put (some 81) (.agg L.toArray)).eval (.tmp 4) = .pointer (some ⟨b, 0, none⟩) := (put_oth (by omega)).trans e4
  have w2 : (a.put (some 81) (.agg L.toArray)).eval (.tmp 5) = .pointer (some ⟨c, 0, none⟩) := (put_oth (by omega)).trans e5
  have w3 : (a.put (some 81) (.agg L.toArray)).eval (.tmp 81) = .agg L.toArray := put_get (by omega)
  have v1 : ((a.put (some 81) (.agg L.toArray)).put (some 82) (.agg M.toArray)).eval (.tmp 4) = .pointer (some ⟨b, 0, none⟩) := (put_oth (by omega)).trans w1
  have v2 : ((a.put (some 81) (.agg L.toArray)).put (some 82) (.agg M.toArray)).eval (.tmp 5) = .pointer (some ⟨c, 0, none⟩) := (put_oth (by omega)).trans w2
  have v3 : ((a.put (some 81) (.agg L.toArray)).put (some 82) (.agg M.toArray)).eval (.tmp 81) = .agg L.toArray := (put_oth (by omega)).trans w3
  have v4 : ((a.put (some 81) (.agg L.toArray)).put (some 82) (.agg M.toArray)).eval (.tmp 82) = .agg M.toArray := put_get (by rw [put_size]; omega)
  have x1 : (a.put (some 82) (.agg M.toArray)).eval (.tmp 4) = .pointer (some ⟨b, 0, none⟩) := (put_oth (by omega)).trans e4
  have x2 : (a.put (some 82) (.agg M.toArray)).eval (.tmp 5) = .pointer (some ⟨c, 0, none⟩) := (put_oth (by omega)).trans e5
  have x3 : (a.put (some 82) (.agg M.toArray)).eval (.tmp 82) = .agg M.toArray := put_get (by omega)
  have y1 : ((a.put (some 82) (.agg M.toArray)).put (some 81) (.agg L.toArray)).eval (.tmp 4) = .pointer (some ⟨b, 0, none⟩) := (put_oth (by omega)).trans x1
  have y2 : ((a.put (some 82) (.agg M.toArray)).put (some 81) (.agg L.toArray)).eval (.tmp 5) = .pointer (some ⟨c, 0, none⟩) := (put_oth (by omega)).trans x2
  have y3 : ((a.put (some 82) (.agg M.toArray)).put (some 81) (.agg L.toArray)).eval (.tmp 82) = .agg M.toArray := (put_oth (by omega)).trans x3
  have y4 : ((a.put (some 82) (.agg M.toArray)).put (some 81) (.agg L.toArray)).eval (.tmp 81) = .agg L.toArray := put_get (by rw [put_size]; omega)
  refine any_step sw0 (by simp) fun i hi => ?_
  rcases (show i = 0 ∨ i = 1 by simpa using hi) with rfl | rfl
  · refine ld4 e4 ?_
    refine any_step sw1 (by simp) fun i hi => ?_
    rcases (show i = 1 ∨ i = 2 by simpa using hi) with rfl | rfl
    · refine ld5 w2 ?_
      refine any_step sw3 (by simp) fun i hi => ?_
      obtain rfl : i = 2 := by simpa using hi
      refine st4 v1 v3 ?_
      refine any_step sw5 (by simp) fun i hi => ?_
      obtain rfl : i = 3 := by simpa using hi
      exact st5 v2 v4 (any_end sw6 q1)
    · refine st4 w1 w3 ?_
      refine any_step sw4 (by simp) fun i hi => ?_
      obtain rfl : i = 1 := by simpa using hi
      refine ld5 w2 ?_
      refine any_step sw5 (by simp) fun i hi => ?_
      obtain rfl : i = 3 := by simpa using hi
      exact st5 v2 v4 (any_end sw6 q1)
  · refine ld5 e5 ?_
    refine any_step sw2 (by simp) fun i hi => ?_
    obtain rfl : i = 0 := by simpa using hi
    refine ld4 x1 ?_
    refine any_step sw3 (by simp) fun i hi => ?_
    obtain rfl : i = 2 := by simpa using hi
    refine st4 y1 y4 ?_
    refine any_step sw5 (by simp) fun i hi => ?_
    obtain rfl : i = 3 := by simpa using hi
    exact st5 y2 y3 (any_end sw6 q2)
end Go.Proofs.YthjhemodmdficaaDoor
