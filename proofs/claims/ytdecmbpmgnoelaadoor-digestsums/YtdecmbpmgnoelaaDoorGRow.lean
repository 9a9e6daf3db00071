/- Whole arrays out of and into their blocks. -/
import Derived.Test.YtdecmbpmgnoelaaDoorGSha
namespace Go.Proofs.YtdecmbpmgnoelaaDoor
set_option linter.unusedVariables false
open Go.RowKit

/-- one operation of a region that yields a value and leaves the world. -/
theorem wpList_run {ops : Array Oper} {rest : List Oper} {o : Oper} {a : Act} {W W' : World} {Q : Exit → Act → World → Prop} {v : Value} (hgd : o.guard = none)
    (hrun : (execOp a.eval o).run Tryd.prog W = .ok (.value v) W') (h : wpList Tryd.prog ops Q rest (a.put o.dst v) W') : wpList Tryd.prog ops Q (o :: rest) a W :=
  wpList_plain hgd fun K hK => by
    unfold Oper.wp
    rw [hrun]
    exact hK _ _ h
/-- .. that yields none. -/
theorem wpList_runS {ops : Array Oper} {rest : List Oper} {o : Oper} {a : Act} {W W' : World} {Q : Exit → Act → World → Prop} (hgd : o.guard = none)
    (hrun : (execOp a.eval o).run Tryd.prog W = .ok .skip W') (h : wpList Tryd.prog ops Q rest (a.put o.dst undef) W') : wpList Tryd.prog ops Q (o :: rest) a W :=
  wpList_plain hgd fun K hK => by
    unfold Oper.wp
    rw [hrun]
    exact hK _ _ h

/-- the type is an array of so many cells. -/
structure ArrT (t n : Nat) : Prop where
  und : ∃ e, Tryd.prog.underlying t = some (.array n e)
  size : (Tryd.prog.info? t).map (·.size) = some n
theorem arr37 : ArrT 36 64 := ⟨⟨5, by kernel_rfl⟩, by kernel_rfl⟩
theorem arr33 : ArrT 32 5 := ⟨⟨31, by kernel_rfl⟩, by kernel_rfl⟩
theorem arr43 : ArrT 42 8 := ⟨⟨31, by kernel_rfl⟩, by kernel_rfl⟩
theorem arr50 : ArrT 50 80 := ⟨⟨31, by kernel_rfl⟩, by kernel_rfl⟩
theorem arr56 : ArrT 56 64 := ⟨⟨31, by kernel_rfl⟩, by kernel_rfl⟩

theorem row_loadV {t n : Nat} (ha : ArrT t n) {W : World} {b : Nat} {cs : Array Value} {fz : Nat × Nat} (h : W.heap[b]? = some (.cells cs t fz)) (hs : cs.size = n) :
    (loadVar t ⟨b, 0, none⟩).run Tryd.prog W = .ok (.agg cs) W := by
  obtain ⟨e, he⟩ := ha.und
  exact run_loadVar_row W b t t cs fz _ h he rfl (by rw [hs]; exact ha.size)
theorem row_load {t n : Nat} (ha : ArrT t n) {W : World} {b : Nat} {cs : Array Value} {fz : Nat × Nat} (h : W.heap[b]? = some (.cells cs t fz)) (hs : cs.size = n) :
    (Instr.loadAt t (.pointer (some ⟨b, 0, none⟩))).run Tryd.prog W = .ok (.agg cs) W := by
  simp only [Instr.loadAt, Instr.sureAddr, Sem.run_bind, Sem.run_pure, Result.andThen]
  exact row_loadV ha h hs
theorem row_store {t n : Nat} (ha : ArrT t n) {W : World} {b : Nat} {cs vs : Array Value} (h : W.heap[b]? = some (.cells cs t (0, 0))) (hs : cs.size = n) (hv : vs.size = n) (h1 : vs.all (·.oneCell') = true) :
    (Instr.storeAt t (.pointer (some ⟨b, 0, none⟩)) (.agg vs)).run Tryd.prog W = .ok () (W.setRow b vs) := by
  simp only [Instr.storeAt, Instr.sureAddr, Sem.run_bind, Sem.run_pure, Result.andThen]
  exact run_storeVar_row W b t t cs vs h (by rw [hv]; exact ha.size) (by rw [hs, hv]) h1
theorem op_load {t n : Nat} (ha : ArrT t n) {W : World} {b : Nat} {cs : Array Value} {fz : Nat × Nat} (h : W.heap[b]? = some (.cells cs t fz)) (hs : cs.size = n) {o : Oper} {x : Operand} {a : Act}
    (ho : o.op = .load t x) (hx : a.eval x = .pointer (some ⟨b, 0, none⟩)) : (execOp a.eval o).run Tryd.prog W = .ok (.value (.agg cs)) W := by
  simp only [execOp, ho, hx, Sem.run_bind, row_load ha h hs]
  rfl
theorem op_store {t n : Nat} (ha : ArrT t n) {W : World} {b : Nat} {cs vs : Array Value} (h : W.heap[b]? = some (.cells cs t (0, 0))) (hs : cs.size = n) (hv : vs.size = n) (h1 : vs.all (·.oneCell') = true) {o : Oper} {x y : Operand} {a : Act}
    (ho : o.op = .store t x y) (hx : a.eval x = .pointer (some ⟨b, 0, none⟩)) (hy : a.eval y = .agg vs) : (execOp a.eval o).run Tryd.prog W = .ok .skip (W.setRow b vs) := by
  simp only [execOp, ho, hx, hy, Sem.run_bind, row_store ha h hs hv h1]
  rfl
theorem Below.setRow {B : Nat} {a w : World} (h : Below B a w) {b : Nat} (hb : B ≤ b) (cs : Array Value) : Below B a (w.setRow b cs) :=
  ⟨h.os, h.tape, h.output, by simpa [World.setRow] using h.size, fun k hk => (setRow_other w b k cs (by omega)).trans (h.block k hk)⟩
theorem results_cell1 {fn : Func} {p : Tmp} {t n : Nat} (ha : ArrT t n) (h : fn.results = #[.cell p t]) {tmps : Array Value} {W : World} {b : Nat} {cs : Array Value} {fz : Nat × Nat} (hp : tmps.getD p undef = .pointer (some ⟨b, 0, none⟩)) (hb : W.heap[b]? = some (.cells cs t fz)) (hs : cs.size = n) :
    (results fn tmps).run Tryd.prog W = .ok (.agg cs) W := by
  have hp' : tmps[p]?.getD undef = .pointer (some ⟨b, 0, none⟩) := by simpa using hp
  simp only [results, h]
  simp [hp', asAddr, row_loadV ha hb hs]
theorem bc_one (l : List UInt8) : (bc l).all (·.oneCell') = true := by simp [bc, Value.oneCell']
theorem wc_one (l : List (BitVec 32)) : (wc l).all (·.oneCell') = true := by simp [wc, Value.oneCell']
theorem bc_set (l : List UInt8) (k : Nat) (c : UInt8) : (bc l).setIfInBounds k (.int .u8 (c.toNat : Int)) = bc (l.set k c) := by
  simp [bc, List.map_set]
theorem wc_set (l : List (BitVec 32)) (k : Nat) (x : BitVec 32) : (wc l).setIfInBounds k (.int .u32 (x.toNat : Int)) = wc (l.set k x) := by
  simp [wc, List.map_set]
/-- the same where the walk stands at the operation itself. -/
theorem operwp_run {o : Oper} {a : Act} {W W' : World} {K : Act → World → Prop} {Q : Exit → Act → World → Prop} {v : Value} (hrun : (execOp a.eval o).run Tryd.prog W = .ok (.value v) W') (h : K (a.put o.dst v) W') : Oper.wp Tryd.prog o a W K Q := by
  unfold Oper.wp
  rw [hrun]
  exact h
theorem build5 (x0 x1 x2 x3 x4 : Int) (W : World) : (Instr.build 32 #[(0, .int .u32 x0), (1, .int .u32 x1), (2, .int .u32 x2), (3, .int .u32 x3), (4, .int .u32 x4)]).run Tryd.prog W = .ok (.agg #[.int .u32 x0, .int .u32 x1, .int .u32 x2, .int .u32 x3, .int .u32 x4]) W := by kernel_rfl
theorem op_build5 {o : Oper} {a : Act} {W : World} {p0 p1 p2 p3 p4 : Operand} {x0 x1 x2 x3 x4 : Int} (ho : o.op = .build 32 #[(0, p0), (1, p1), (2, p2), (3, p3), (4, p4)])
    (h0 : a.eval p0 = .int .u32 x0) (h1 : a.eval p1 = .int .u32 x1) (h2 : a.eval p2 = .int .u32 x2) (h3 : a.eval p3 = .int .u32 x3) (h4 : a.eval p4 = .int .u32 x4) :
    (execOp a.eval o).run Tryd.prog W = .ok (.value (.agg #[.int .u32 x0, .int .u32 x1, .int .u32 x2, .int .u32 x3, .int .u32 x4])) W := by
  simp only [execOp, ho, List.map_toArray, List.map_cons, List.map_nil, h0, h1, h2, h3, h4, Sem.run_bind, build5]
  rfl
theorem build8 (x0 x1 x2 x3 x4 x5 x6 x7 : Int) (W : World) : (Instr.build 42 #[(0, .int .u32 x0), (1, .int .u32 x1), (2, .int .u32 x2), (3, .int .u32 x3), (4, .int .u32 x4), (5, .int .u32 x5), (6, .int .u32 x6), (7, .int .u32 x7)]).run Tryd.prog W = .ok (.agg #[.int .u32 x0, .int .u32 x1, .int .u32 x2, .int .u32 x3, .int .u32 x4, .int .u32 x5, .int .u32 x6, .int .u32 x7]) W := by kernel_rfl
theorem op_build8 {o : Oper} {a : Act} {W : World} {p0 p1 p2 p3 p4 p5 p6 p7 : Operand} {x0 x1 x2 x3 x4 x5 x6 x7 : Int} (ho : o.op = .build 42 #[(0, p0), (1, p1), (2, p2), (3, p3), (4, p4), (5, p5), (6, p6), (7, p7)])
    (h0 : a.eval p0 = .int .u32 x0) (h1 : a.eval p1 = .int .u32 x1) (h2 : a.eval p2 = .int .u32 x2) (h3 : a.eval p3 = .int .u32 x3) (h4 : a.eval p4 = .int .u32 x4) (h5 : a.eval p5 = .int .u32 x5) (h6 : a.eval p6 = .int .u32 x6) (h7 : a.eval p7 = .int .u32 x7) :
    (execOp a.eval o).run Tryd.prog W = .ok (.value (.agg #[.int .u32 x0, .int .u32 x1, .int .u32 x2, .int .u32 x3, .int .u32 x4, .int .u32 x5, .int .u32 x6, .int .u32 x7])) W := by
  simp only [execOp, ho, List.map_toArray, List.map_cons, List.map_nil, h0, h1, h2, h3, h4, h5, h6, h7, Sem.run_bind, build8]
  rfl
theorem cells_eq {A : Array Value} {m : Nat} {t : TypeId} {fz : Nat × Nat} {x y : Int} (h : x = y) : some (Obj.cells (A.setIfInBounds m (.int .u32 x)) t fz) = some (Obj.cells (A.setIfInBounds m (.int .u32 y)) t fz) := by rw [h]
end Go.Proofs.YtdecmbpmgnoelaaDoor
