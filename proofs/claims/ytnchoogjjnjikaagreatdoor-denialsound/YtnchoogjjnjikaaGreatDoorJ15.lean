/- Texts of this proof, joined: GRow, GEnd, GBlk, GSpread, GStir1. -/
import Derived.Test.YtnchoogjjnjikaaGreatDoorJ14
import Derived.Deep.RegionLaw
import Derived.Laws.CopyOwn
import Derived.Deep.RegionHeld3
/- Whole arrays out of and into their blocks. -/
namespace Go.Proofs.YtnchoogjjnjikaaGreatDoor.G
set_option linter.unusedVariables false
open Go.RowKit
theorem wpList_run {ops : Array Oper} {rest : List Oper} {o : Oper} {a : Act} {W W' : World} {Q : Exit → Act → World → Prop} {v : Value} (hgd : o.guard = none)
    (hrun : (execOp a.eval o).run Tryz.prog W = .ok (.value v) W') (h : wpList Tryz.prog ops Q rest (a.put o.dst v) W') : wpList Tryz.prog ops Q (o :: rest) a W :=
  wpList_plain hgd fun K hK => by
    unfold Oper.wp
    rw [hrun]
    exact hK _ _ h
theorem wpList_runS {ops : Array Oper} {rest : List Oper} {o : Oper} {a : Act} {W W' : World} {Q : Exit → Act → World → Prop} (hgd : o.guard = none)
    (hrun : (execOp a.eval o).run Tryz.prog W = .ok .skip W') (h : wpList Tryz.prog ops Q rest (a.put o.dst undef) W') : wpList Tryz.prog ops Q (o :: rest) a W :=
  wpList_plain hgd fun K hK => by
    unfold Oper.wp
    rw [hrun]
    exact hK _ _ h
structure ArrT (t n : Nat) : Prop where
  und : ∃ e, Tryz.prog.underlying t = some (.array n e)
  size : (Tryz.prog.info? t).map (·.size) = some n
theorem arr37 : ArrT 121 64 := ⟨⟨5, by kernel_rfl⟩, by kernel_rfl⟩
theorem arr33 : ArrT 118 5 := ⟨⟨117, by kernel_rfl⟩, by kernel_rfl⟩
theorem arr50 : ArrT 143 80 := ⟨⟨117, by kernel_rfl⟩, by kernel_rfl⟩
theorem row_loadV {t n : Nat} (ha : ArrT t n) {W : World} {b : Nat} {cs : Array Value} {fz : Nat × Nat} (h : W.heap[b]? = some (.cells cs t fz)) (hs : cs.size = n) :
    (loadVar t ⟨b, 0, none⟩).run Tryz.prog W = .ok (.agg cs) W := by
  obtain ⟨e, he⟩ := ha.und
  exact run_loadVar_row W b t t cs fz _ h he rfl (by rw [hs]; exact ha.size)
theorem row_load {t n : Nat} (ha : ArrT t n) {W : World} {b : Nat} {cs : Array Value} {fz : Nat × Nat} (h : W.heap[b]? = some (.cells cs t fz)) (hs : cs.size = n) :
    (Instr.loadAt t (.pointer (some ⟨b, 0, none⟩))).run Tryz.prog W = .ok (.agg cs) W := by
  simp only [Instr.loadAt, Instr.sureAddr, Sem.run_bind, Sem.run_pure, Result.andThen]
  exact row_loadV ha h hs
theorem row_store {t n : Nat} (ha : ArrT t n) {W : World} {b : Nat} {cs vs : Array Value} (h : W.heap[b]? = some (.cells cs t (0, 0))) (hs : cs.size = n) (hv : vs.size = n) (h1 : vs.all (·.oneCell') = true) :
    (Instr.storeAt t (.pointer (some ⟨b, 0, none⟩)) (.agg vs)).run Tryz.prog W = .ok () (W.setRow b vs) := by
  simp only [Instr.storeAt, Instr.sureAddr, Sem.run_bind, Sem.run_pure, Result.andThen]
  exact run_storeVar_row W b t t cs vs h (by rw [hv]; exact ha.size) (by rw [hs, hv]) h1
theorem op_load {t n : Nat} (ha : ArrT t n) {W : World} {b : Nat} {cs : Array Value} {fz : Nat × Nat} (h : W.heap[b]? = some (.cells cs t fz)) (hs : cs.size = n) {o : Oper} {x : Operand} {a : Act}
    (ho : o.op = .load t x) (hx : a.eval x = .pointer (some ⟨b, 0, none⟩)) : (execOp a.eval o).run Tryz.prog W = .ok (.value (.agg cs)) W := by
  simp only [execOp, ho, hx, Sem.run_bind, row_load ha h hs]
  rfl
theorem op_store {t n : Nat} (ha : ArrT t n) {W : World} {b : Nat} {cs vs : Array Value} (h : W.heap[b]? = some (.cells cs t (0, 0))) (hs : cs.size = n) (hv : vs.size = n) (h1 : vs.all (·.oneCell') = true) {o : Oper} {x y : Operand} {a : Act}
    (ho : o.op = .store t x y) (hx : a.eval x = .pointer (some ⟨b, 0, none⟩)) (hy : a.eval y = .agg vs) : (execOp a.eval o).run Tryz.prog W = .ok .skip (W.setRow b vs) := by
  simp only [execOp, ho, hx, hy, Sem.run_bind, row_store ha h hs hv h1]
  rfl
theorem Below.setRow {B : Nat} {a w : World} (h : Below B a w) {b : Nat} (hb : B ≤ b) (cs : Array Value) : Below B a (w.setRow b cs) :=
  ⟨h.os, h.tape, h.output, by simpa [World.setRow] using h.size, fun k hk => (setRow_other w b k cs (by omega)).trans (h.block k hk)⟩
theorem results_cell1 {fn : Func} {p : Tmp} {t n : Nat} (ha : ArrT t n) (h : fn.results = #[.cell p t]) {tmps : Array Value} {W : World} {b : Nat} {cs : Array Value} {fz : Nat × Nat} (hp : tmps.getD p undef = .pointer (some ⟨b, 0, none⟩)) (hb : W.heap[b]? = some (.cells cs t fz)) (hs : cs.size = n) :
    (results fn tmps).run Tryz.prog W = .ok (.agg cs) W := by
  have hp' : tmps[p]?.getD undef = .pointer (some ⟨b, 0, none⟩) := by simpa using hp
  simp only [results, h]
  simp [hp', asAddr, row_loadV ha hb hs]
theorem bc_one (l : List UInt8) : (bc l).all (·.oneCell') = true := by simp [bc, Value.oneCell']
theorem wc_one (l : List (BitVec 32)) : (wc l).all (·.oneCell') = true := by simp [wc, Value.oneCell']
theorem bc_set (l : List UInt8) (k : Nat) (c : UInt8) : (bc l).setIfInBounds k (.int .u8 (c.toNat : Int)) = bc (l.set k c) := by
  simp [bc, List.map_set]
theorem wc_set (l : List (BitVec 32)) (k : Nat) (x : BitVec 32) : (wc l).setIfInBounds k (.int .u32 (x.toNat : Int)) = wc (l.set k x) := by
  simp [wc, List.map_set]
theorem operwp_run {o : Oper} {a : Act} {W W' : World} {K : Act → World → Prop} {Q : Exit → Act → World → Prop} {v : Value} (hrun : (execOp a.eval o).run Tryz.prog W = .ok (.value v) W') (h : K (a.put o.dst v) W') : Oper.wp Tryz.prog o a W K Q := by
  unfold Oper.wp
  rw [hrun]
  exact h
theorem build5 (x0 x1 x2 x3 x4 : Int) (W : World) : (Instr.build 118 #[(0, .int .u32 x0), (1, .int .u32 x1), (2, .int .u32 x2), (3, .int .u32 x3), (4, .int .u32 x4)]).run Tryz.prog W = .ok (.agg #[.int .u32 x0, .int .u32 x1, .int .u32 x2, .int .u32 x3, .int .u32 x4]) W := by kernel_rfl
theorem op_build5 {o : Oper} {a : Act} {W : World} {p0 p1 p2 p3 p4 : Operand} {x0 x1 x2 x3 x4 : Int} (ho : o.op = .build 118 #[(0, p0), (1, p1), (2, p2), (3, p3), (4, p4)])
    (h0 : a.eval p0 = .int .u32 x0) (h1 : a.eval p1 = .int .u32 x1) (h2 : a.eval p2 = .int .u32 x2) (h3 : a.eval p3 = .int .u32 x3) (h4 : a.eval p4 = .int .u32 x4) :
    (execOp a.eval o).run Tryz.prog W = .ok (.value (.agg #[.int .u32 x0, .int .u32 x1, .int .u32 x2, .int .u32 x3, .int .u32 x4])) W := by
  simp only [execOp, ho, List.map_toArray, List.map_cons, List.map_nil, h0, h1, h2, h3, h4, Sem.run_bind, build5]
  rfl
end Go.Proofs.YtnchoogjjnjikaaGreatDoor.G
/- ended. -/
namespace Go.Proofs.YtnchoogjjnjikaaGreatDoor.G
set_option linter.unusedVariables false
open Go.RowKit
def endT (m : Nat) : Nat → List UInt8
  | 0 => []
  | i + 1 => bt m i :: endT m i
theorem endT_len (m : Nat) : ∀ i, (endT m i).length = i
  | 0 => rfl
  | i + 1 => by rw [endT, List.length_cons, endT_len m i]
def endL (l : List UInt8) (m i : Nat) : List UInt8 := l.take (64 - i) ++ endT m i
theorem endL_len (l : List UInt8) (hl : l.length = 64) (m i : Nat) (hi : i ≤ 64) : (endL l m i).length = 64 := by
  rw [endL, List.length_append, endT_len, List.length_take]; omega
theorem endL_set (l : List UInt8) (hl : l.length = 64) (m i : Nat) (hi : i < 64) : (endL l m i).set (63 - i) (bt m i) = endL l m (i + 1) := by
  unfold endL
  apply List.ext_getElem?
  intro k
  simp only [List.getElem?_set, List.getElem?_append, List.length_take, List.length_append, endT_len, hl, endT]
  by_cases h1 : 63 - i = k
  · subst h1
    rw [if_pos rfl, if_pos (by omega), if_neg (by omega)]
    rw [show 63 - i - min (64 - (i + 1)) 64 = 0 by omega]
    rfl
  · rw [if_neg h1]
    by_cases h2 : k < 63 - i
    · rw [if_pos (by omega), if_pos (by omega), List.getElem?_take_of_lt (by omega), List.getElem?_take_of_lt (by omega)]
    · rw [if_neg (by omega), if_neg (by omega), show k - min (64 - (i + 1)) 64 = (k - min (64 - i) 64) + 1 by omega]
      rfl
theorem ended_in (l : List UInt8) (hl : l.length = 64) (n : Nat) (hn : n ≤ 140737488355328) (w : World) :
    Calls Tryz.prog 109 #[.agg (bc l), .int .i64 (n : Int)] w fun e w' => e = .returned (.agg (bc (endL l (8 * n) 8))) ∧ Below w.heap.size w w' := by
  have HL := Hid.mk hl
  clear hl
  go_enter Tryz.func109, Tryz.ntmps109
  go_wp2_with fail
  go_loopw [10] (fun i wr => ∃ m : Nat, m ≤ 8 ∧ i = .int .i64 m ∧ wr.heap[w.heap.size]? = some (.cells (bc (endL l (8 * n) m)) 121 (0, 0)) ∧ (∃ z, z.size = 64 ∧ wr.heap[w.heap.size + 1]? = some (.cells z 121 (0, 0))) ∧ Below w.heap.size w wr) (fun i _ => 8 - (intOf i).toNat)
  case atStart =>
    refine ⟨0, by omega, rfl, ?_, ⟨_, ?_, (congrArg (fun k => (World.alloc _ _).heap[k]?) (World.size_alloc w _).symm).trans (heap_new _ _)⟩, ((Below.refl _ _).alloc (Nat.le_refl _) _).alloc (by simp) _⟩
    · rw [Below.heap_alloc _ _ _ (by simp), heap_new]
      simp [endL, endT, List.take_of_length_le (Nat.le_of_eq HL.out)]
    · rfl
  case round =>
    obtain ⟨m, hm, rfl, h1, ⟨z, hz, h2⟩, hbl⟩ := hrel
    have H1 := Hid.mk h1
    have H2 := Hid.mk h2
    by_cases hlt : m < 8
    · obtain ⟨hc, hf⟩ := cells_at h1 (j := 63 - m) (by rw [bc_at, List.getElem?_eq_getElem (by rw [endL_len l HL.out _ _ (by omega)]; omega)]; rfl)
      clear h1 h2
      have hk : ((63 : Int) - (m : Int)).toNat = 63 - m := by omega
      go_wp2
      go_roundw
      case rel =>
        have hv : (n : Int) * 8 / 2 ^ (8 * m) % 256 = ((bt (8 * n) m).toNat : Int) := by
          rw [bt, UInt8.toNat_ofNat', show (n : Int) * 8 / 2 ^ (8 * m) = ((8 * n / 2 ^ (8 * m) : Nat) : Int) by rw [Int.natCast_ediv, Int.natCast_mul, Int.natCast_pow, Int.mul_comm]; rfl]
          generalize 8 * n / 2 ^ (8 * m) = q
          omega
        rw [hv]
        refine ⟨m + 1, by omega, by go_num, ?_, ⟨z, hz, ?_⟩, hbl.setCell (Nat.le_refl _) _⟩
        · rw [cells_put H1.out, bc_set, endL_set l HL.out _ _ (by omega)]
        · rw [Below.heap_setCell _ _ _ _ (by simp)]; exact H2.out
      case measure => simp [intOf]; omega
    · obtain rfl : m = 8 := by omega
      have hs := bc_size (endL l (8 * n) 8)
      rw [endL_len l HL.out _ _ (by omega)] at hs
      have HS := Hid.mk hs
      have HZ := Hid.mk hz
      clear h1 h2 hs hz
      go_upto_region 7 with fail
      refine wp_region_lit ?_
      refine wpList_run (W' := wr) (v := .agg (bc (endL l (8 * n) 8))) rfl (op_load arr37 H1.out HS.out rfl rfl) ?_
      refine wpList_runS rfl (op_store arr37 H2.out HZ.out HS.out (bc_one _) rfl rfl rfl) ?_
      go_wp2
      refine bodyPost_ret (v := .agg (bc (endL l (8 * n) 8))) (results_cell1 arr37 Tryz.results109 rfl (setRow_heap _ _ _ _ _ _ H2.out) HS.out) rfl ⟨rfl, Below.setRow hbl (by omega) _⟩
end Go.Proofs.YtnchoogjjnjikaaGreatDoor.G
/- blockOf (printed by mkblk.py). -/
namespace Go.Proofs.YtnchoogjjnjikaaGreatDoor.G
set_option linter.unusedVariables false
open Go.RowKit
theorem zero64 : (#[Value.int IntKind.u8 0, Value.int IntKind.u8 0, Value.int IntKind.u8 0, Value.int IntKind.u8 0, Value.int IntKind.u8 0, Value.int IntKind.u8 0, Value.int IntKind.u8 0, Value.int IntKind.u8 0, Value.int IntKind.u8 0, Value.int IntKind.u8 0, Value.int IntKind.u8 0, Value.int IntKind.u8 0, Value.int IntKind.u8 0, Value.int IntKind.u8 0, Value.int IntKind.u8 0, Value.int IntKind.u8 0, Value.int IntKind.u8 0, Value.int IntKind.u8 0, Value.int IntKind.u8 0, Value.int IntKind.u8 0, Value.int IntKind.u8 0, Value.int IntKind.u8 0, Value.int IntKind.u8 0, Value.int IntKind.u8 0, Value.int IntKind.u8 0, Value.int IntKind.u8 0, Value.int IntKind.u8 0, Value.int IntKind.u8 0, Value.int IntKind.u8 0, Value.int IntKind.u8 0, Value.int IntKind.u8 0, Value.int IntKind.u8 0, Value.int IntKind.u8 0, Value.int IntKind.u8 0, Value.int IntKind.u8 0, Value.int IntKind.u8 0, Value.int IntKind.u8 0, Value.int IntKind.u8 0, Value.int IntKind.u8 0, Value.int IntKind.u8 0, Value.int IntKind.u8 0, Value.int IntKind.u8 0, Value.int IntKind.u8 0, Value.int IntKind.u8 0, Value.int IntKind.u8 0, Value.int IntKind.u8 0, Value.int IntKind.u8 0, Value.int IntKind.u8 0, Value.int IntKind.u8 0, Value.int IntKind.u8 0, Value.int IntKind.u8 0, Value.int IntKind.u8 0, Value.int IntKind.u8 0, Value.int IntKind.u8 0, Value.int IntKind.u8 0, Value.int IntKind.u8 0, Value.int IntKind.u8 0, Value.int IntKind.u8 0, Value.int IntKind.u8 0, Value.int IntKind.u8 0, Value.int IntKind.u8 0, Value.int IntKind.u8 0, Value.int IntKind.u8 0, Value.int IntKind.u8 0] : Array Value) = bc (List.replicate 64 0) := rfl
def over (l t : List UInt8) : List UInt8 := t.take 64 ++ l.drop (min t.length 64)
theorem over_len (l t : List UInt8) (hl : l.length = 64) : (over l t).length = 64 := by
  rw [over, List.length_append, List.length_take, List.length_drop]; omega
theorem over_at (t : List UInt8) (j : Nat) (hj : j < 64) : (over (List.replicate 64 0) t)[j]? = some (t[j]?.getD 0) := by
  unfold over
  rw [List.getElem?_append, List.length_take]
  by_cases h : j < t.length
  · rw [if_pos (by omega), List.getElem?_take_of_lt hj, List.getElem?_eq_getElem h]; rfl
  · rw [if_neg (by omega), List.getElem?_drop, List.getElem?_replicate, if_pos (by omega), List.getElem?_eq_none (by omega : t.length ≤ j)]; rfl
theorem endL_at (l : List UInt8) (hl : l.length = 64) (m j : Nat) (hj : j < 64) : (endL l m 8)[j]? = if j < 56 then l[j]? else some (bt m (63 - j)) := by
  unfold endL
  rw [List.getElem?_append, List.length_take]
  by_cases h : j < 56
  · rw [if_pos (by omega), if_pos h, List.getElem?_take_of_lt (by omega)]
  · rw [if_neg (by omega), if_neg h]
    rcases (show j = 56 ∨ j = 57 ∨ j = 58 ∨ j = 59 ∨ j = 60 ∨ j = 61 ∨ j = 62 ∨ j = 63 by omega) with rfl | rfl | rfl | rfl | rfl | rfl | rfl | rfl <;> (rw [show min (64 - 8) l.length = 56 by omega]; rfl)
theorem blk_at (l : List UInt8) (k j : Nat) (hj : j < 64) : (blk l k)[j]? = some (padAt l (64 * k + j)) := by
  unfold blk
  rw [List.getElem?_map, List.getElem?_range hj]
  rfl
theorem list_ext64 {a b : List UInt8} (ha : a.length = 64) (hb : b.length = 64) (h : ∀ j, j < 64 → a[j]? = b[j]?) : a = b := by
  apply List.ext_getElem?
  intro j
  by_cases hj : j < 64
  · exact h j hj
  · rw [List.getElem?_eq_none (by omega), List.getElem?_eq_none (by omega)]
abbrev base (l : List UInt8) (k : Nat) : List UInt8 := over (List.replicate 64 0) (l.drop (64 * k))
theorem base_len (l : List UInt8) (k : Nat) : (base l k).length = 64 := over_len _ _ (List.length_replicate ..)
theorem base_at (l : List UInt8) (k j : Nat) (hj : j < 64) : (base l k)[j]? = some (l[64 * k + j]?.getD 0) := by
  rw [over_at _ _ hj, List.getElem?_drop]
theorem blk_A (l : List UInt8) (k : Nat) (h : 64 * k + 64 ≤ l.length) : base l k = blk l k :=
  list_ext64 (base_len l k) (blk_len l k) fun j hj => by
    rw [base_at l k j hj, blk_at l k j hj, padAt, if_pos (by omega)]
theorem blk_B (l : List UInt8) (k : Nat) (h0 : 64 * k + 56 ≤ l.length) (h : l.length < 64 * k + 64) : (base l k).set (l.length - 64 * k) 128 = blk l k :=
  list_ext64 (by rw [List.length_set, base_len]) (blk_len l k) fun j hj => by
    rw [List.getElem?_set, base_len, base_at l k j hj, blk_at l k j hj, padAt]
    by_cases hlt : 64 * k + j < l.length
    · rw [if_pos hlt, if_neg (by omega)]
    · rw [if_neg hlt]
      by_cases he : 64 * k + j = l.length
      · rw [if_pos he, if_pos (by omega), if_pos (by omega)]
      · rw [if_neg he, if_neg (by omega), if_pos (by unfold nb; omega), List.getElem?_eq_none (by omega)]; rfl
theorem blk_L (l : List UInt8) (k : Nat) (h0 : 64 * k ≤ l.length) (h : l.length < 64 * k + 56) : endL ((base l k).set (l.length - 64 * k) 128) (8 * l.length) 8 = blk l k :=
  list_ext64 (endL_len _ (by rw [List.length_set, base_len]) _ _ (by omega)) (blk_len l k) fun j hj => by
    rw [endL_at _ (by rw [List.length_set, base_len]) _ _ hj, List.getElem?_set, base_len, base_at l k j hj, blk_at l k j hj, padAt]
    have hn : nb l.length = k + 1 := by unfold nb; omega
    rw [hn]
    by_cases hlt : 64 * k + j < l.length
    · rw [if_pos hlt, if_pos (by omega), if_neg (by omega)]
    · rw [if_neg hlt]
      by_cases he : 64 * k + j = l.length
      · rw [if_pos he, if_pos (by omega), if_pos (by omega), if_pos (by omega)]
      · rw [if_neg he]
        by_cases h8 : j < 56
        · rw [if_pos h8, if_neg (by omega), if_pos (by omega), List.getElem?_eq_none (by omega)]; rfl
        · rw [if_neg h8, if_neg (by omega), show 64 * (k + 1) - 1 - (64 * k + j) = 63 - j by omega]
theorem blk_C (l : List UInt8) (k : Nat) (hk : k < nb l.length) (h0 : l.length < 64 * k) : endL (base l k) (8 * l.length) 8 = blk l k :=
  list_ext64 (endL_len _ (base_len _ _) _ _ (by omega)) (blk_len l k) fun j hj => by
    rw [endL_at _ (base_len _ _) _ _ hj, base_at l k j hj, blk_at l k j hj, padAt]
    have hn : nb l.length = k + 1 := by unfold nb at hk ⊢; omega
    rw [hn]
    by_cases h8 : j < 56
    · rw [if_pos h8, if_neg (by omega), if_neg (by omega), if_pos (by omega), List.getElem?_eq_none (by omega)]; rfl
    · rw [if_neg h8, if_neg (by omega), if_neg (by omega), if_neg (by omega), show 64 * (k + 1) - 1 - (64 * k + j) = 63 - j by omega]
theorem ext_drop (s : ByteArray) (k : Nat) : (s.extract (k * 64) s.size).data.toList = s.data.toList.drop (64 * k) := by
  rw [ByteArray.data_extract, Array.toList_extract, List.extract_eq_take_drop, Nat.mul_comm]
  apply List.take_of_length_le
  rw [List.length_drop, size_list]; exact Nat.le_refl _
theorem ext_none (s : ByteArray) (k : Nat) (h : s.size < 64 * k) : ByteArray.empty.data.toList = s.data.toList.drop (64 * k) := by
  rw [List.drop_eq_nil_of_le (by rw [size_list]; omega)]
  rfl
theorem run_copy_str (w : World) (ty : TypeId) (g : Nat) (t : ByteArray) (l : List UInt8) (hl : l.length = 64) (hg : w.heap[g]? = some (.cells (bc l) 121 (0, 0))) :
    (Builtin.copy_ #[58, 9] ty #[.slice (some ⟨g, 0, none⟩) 64 64, .string t]).run Tryz.prog w = .ok (goInt ((min t.size 64 : Nat) : Int)) (w.setRow g (bc (over l t.data.toList))) := by
  have hst := run_storeCells_at Tryz.prog g 0 121 ((t.data.toList.take 64).map fun c => Value.int .u8 (c.toNat : Int)) 0 (bc l) w hg (by simp [bc_size, hl]; omega) (by intro v hv; obtain ⟨c, _, rfl⟩ := List.mem_map.1 hv; rfl)
  have hz : (sizeOf 5).run Tryz.prog w = .ok 1 w := by kernel_rfl
  simp only [Nat.zero_add] at hst
  have he : ((bc l).toList.take 0 ++ (t.data.toList.take 64).map (fun c => Value.int .u8 (c.toNat : Int)) ++ (bc l).toList.drop ((t.data.toList.take 64).map fun c => Value.int .u8 (c.toNat : Int)).length).toArray = bc (over l t.data.toList) := by
    simp only [List.take_zero, List.nil_append, List.length_map, List.length_take, bc, over, List.map_append, List.map_drop, Nat.min_comm]
  rw [he] at hst
  have hmin : Nat.min t.size 64 = min t.size 64 := rfl
  simp [Builtin.copy_, run_underlying Tryz.underlying58, Builtin.lenOf, Builtin.firstCells, hz, hmin]
  have hd : (t.data.toList.map fun b => Value.int .u8 (b.toNat : Int)).take (min t.size 64) = (t.data.toList.take 64).map fun c => Value.int .u8 (c.toNat : Int) := by
    rw [← List.map_take, ← size_list t]
    refine congrArg (List.map _) ?_
    by_cases h : t.data.toList.length ≤ 64
    · rw [Nat.min_eq_left h, List.take_length, List.take_of_length_le h]
    · rw [Nat.min_eq_right (by omega)]
  rw [hd, hst]
  rfl
theorem step_copy_str {w : World} {ops : Array Oper} {o : Oper} {a : Act} {K : Act → World → Prop} {Q : Exit → Act → World → Prop} {E : Prop} (hgd : o.guard = none) (d s : Operand)
    (ho : o.op = .call { callee := .builtin .copy, args := #[d, s], argTypes := #[58, 9] }) (g : Nat) (hd : a.eval d = .slice (some ⟨g, 0, none⟩) 64 64) (t : ByteArray) (hs : a.eval s = .string t)
    (l : List UInt8) (hl : l.length = 64) (hg : w.heap[g]? = some (.cells (bc l) 121 (0, 0))) (g0 : Nat) (o0 : Obj) (h0 : w.heap[g0]? = some o0) (hne : g0 ≠ g) (w0 : World) (hb : Below w0.heap.size w0 w) (hBg : w0.heap.size ≤ g)
    (h : ∀ w', Hid (w'.heap[g]? = some (.cells (bc (over l t.data.toList)) 121 (0, 0))) → Hid (w'.heap[g0]? = some o0) → Below w0.heap.size w0 w' → K (a.put o.dst (goInt ((min t.size 64 : Nat) : Int))) w') :
    if Region.wanted o (yielded ops a.tmps) = true then Oper.wp Tryz.prog o a w K Q else E := by
  have hw : Region.wanted o (yielded ops a.tmps) = true := by simp [Region.wanted, hgd]
  rw [if_pos hw]
  unfold Oper.wp
  simp [execOp, ho, resolve, invoke, builtin, hd, hs, run_copy_str w o.type g t l hl hg, Result.andThen]
  exact h _ (setRow_heap _ _ _ _ _ _ hg) ((setRow_other _ _ _ _ hne).trans h0) (Below.setRow hb hBg _)
theorem step_min {w : World} {ops : Array Oper} {o : Oper} {a : Act} {K : Act → World → Prop} {Q : Exit → Act → World → Prop} {E : Prop} (hgd : o.guard = none) (x y : Operand)
    (ho : o.op = .call { callee := .builtin .min, args := #[x, y], argTypes := #[3, 3] }) (m n c : Int) (hx : a.eval x = .int .i64 m) (hy : a.eval y = .int .i64 n) (hc : (if n < m then n else m) = c)
    (h : K (a.put o.dst (.int .i64 c)) w) :
    if Region.wanted o (yielded ops a.tmps) = true then Oper.wp Tryz.prog o a w K Q else E := by
  have hw : Region.wanted o (yielded ops a.tmps) = true := by simp [Region.wanted, hgd]
  rw [if_pos hw]
  subst hc
  unfold Oper.wp
  simp [execOp, ho, resolve, invoke, builtin, hx, hy, Builtin.min_, Builtin.min2]
  exact h
set_option maxRecDepth 100000 in
set_option maxHeartbeats 2000000 in
theorem blockOf_A (s : ByteArray) (k : Nat) (hs : s.size ≤ 140737488355328) (hk : k < nb s.size) (hA : 64 * k + 64 ≤ s.size) (w : World) :
    Calls Tryz.prog 82 #[.string s, .int .i64 (k : Int)] w fun e w' => e = .returned (.agg (bc (blk s.data.toList k))) ∧ Below w.heap.size w w' := by
  have HK := Hid.mk hk
  obtain ⟨q, hn, hq1, hq2⟩ : ∃ q, nb s.size = q + 1 ∧ k < q ∧ q ≤ 2199023255553 := ⟨(s.size + 8) / 64, rfl, by omega, by omega⟩
  have hne : ((k : Int) == (q : Int)) = false := by rw [beq_eq_false_iff_ne]; omega
  have HB := Hid.mk (blocks_in s.size hs)
  rw [hn] at HB
  unfold nb at hk
  have g1 : (0 : Int) ≤ ((k : Int) * 64) := by omega
  have g2 : ((k : Int) * 64) ≤ (s.size : Int) := by omega
  have hmc : (if (s.size : Int) < (k : Int) * 64 then (s.size : Int) else (k : Int) * 64) = ((k : Int) * 64) := if_neg (by omega)
  have hkn : (((k : Int) * 64)).toNat = k * 64 := by omega
  clear hn
  go_enter Tryz.func82, Tryz.ntmps82
  go_upto_region 3 with fail
  rw [zero64]
  obtain ⟨W1, hW1⟩ : ∃ W1, (w.alloc (.cells (bc (List.replicate 64 0)) 121)).alloc (.cells (bc (List.replicate 64 0)) 121) = W1 := ⟨_, rfl⟩
  have h4 : W1.heap[w.heap.size]? = some (.cells (bc (List.replicate 64 0)) 121 (0, 0)) := by
    rw [← hW1, Below.heap_alloc _ _ _ (by simp), heap_new]
  have h5 : W1.heap[w.heap.size + 1]? = some (.cells (bc (List.replicate 64 0)) 121 (0, 0)) := by
    rw [← hW1]
    exact (congrArg (fun k => (World.alloc _ _).heap[k]?) (World.size_alloc w _).symm).trans (heap_new _ _)
  have hbl : Below w.heap.size w W1 := by
    rw [← hW1]
    exact ((Below.refl _ _).alloc (Nat.le_refl _) _).alloc (by simp) _
  rw [hW1]
  have H4 := Hid.mk h4
  have H5 := Hid.mk h5
  clear h4 h5 hW1
  go_region_law (first
    | (have hck := M1; clear hck; refine step_copy_str rfl (.tmp 10) (.tmp 16) rfl (w.heap.size + 1) rfl (s.extract (k * 64) s.size) rfl _ (List.length_replicate ..) H5.out w.heap.size _ H4.out (by omega) w hbl.drew (by omega) ?_; intro W2 H52 H42 hbl2)
    | (refine step_min rfl (.tmp 12) (.tmp 14) rfl _ _ (((k : Int) * 64)) rfl rfl hmc ?_; have M1 : True := trivial))
  rw [ext_drop] at H52
  clear hmc H4 H5 hbl W1 M1
  go_wp2_with fail
  refine (HB.out _).mono ?_
  rintro e w1 ⟨rfl, rfl⟩
  go_upto_region 9 with fail
  refine wp_region_lit ?_
  refine wpList_run (v := .agg (bc (blk s.data.toList k))) rfl (op_load arr37 (by have := H52.out; rwa [show over (List.replicate 64 0) (List.drop (64 * k) s.data.toList) = blk s.data.toList k from blk_A s.data.toList k (by rw [size_list]; exact hA)] at this) (by rw [bc_size, blk_len]) rfl rfl) ?_
  refine wpList_runS rfl (op_store arr37 H42.out (by rw [bc_size, List.length_replicate]) (by rw [bc_size, blk_len]) (bc_one _) rfl rfl rfl) ?_
  go_wp2
  refine bodyPost_ret (v := .agg (bc (blk s.data.toList k))) (results_cell1 arr37 Tryz.results82 rfl (setRow_heap _ _ _ _ _ _ H42.out) (by rw [bc_size, blk_len])) rfl ⟨rfl, Below.setRow hbl2 (by omega) _⟩
set_option maxRecDepth 100000 in
set_option maxHeartbeats 2000000 in
theorem blockOf_B (s : ByteArray) (k : Nat) (hs : s.size ≤ 140737488355328) (hk : k < nb s.size) (h1 : 64 * k + 56 ≤ s.size) (h2 : s.size < 64 * k + 64) (w : World) :
    Calls Tryz.prog 82 #[.string s, .int .i64 (k : Int)] w fun e w' => e = .returned (.agg (bc (blk s.data.toList k))) ∧ Below w.heap.size w w' := by
  have HK := Hid.mk hk
  obtain ⟨q, hn, hq1, hq2⟩ : ∃ q, nb s.size = q + 1 ∧ k < q ∧ q ≤ 2199023255553 := ⟨(s.size + 8) / 64, rfl, by omega, by omega⟩
  have hne : ((k : Int) == (q : Int)) = false := by rw [beq_eq_false_iff_ne]; omega
  have HB := Hid.mk (blocks_in s.size hs)
  rw [hn] at HB
  unfold nb at hk
  have g1 : (0 : Int) ≤ ((k : Int) * 64) := by omega
  have g2 : ((k : Int) * 64) ≤ (s.size : Int) := by omega
  have hmc : (if (s.size : Int) < (k : Int) * 64 then (s.size : Int) else (k : Int) * 64) = ((k : Int) * 64) := if_neg (by omega)
  have hkn : (((k : Int) * 64)).toNat = k * 64 := by omega
  clear hn
  go_enter Tryz.func82, Tryz.ntmps82
  go_upto_region 3 with fail
  rw [zero64]
  obtain ⟨W1, hW1⟩ : ∃ W1, (w.alloc (.cells (bc (List.replicate 64 0)) 121)).alloc (.cells (bc (List.replicate 64 0)) 121) = W1 := ⟨_, rfl⟩
  have h4 : W1.heap[w.heap.size]? = some (.cells (bc (List.replicate 64 0)) 121 (0, 0)) := by
    rw [← hW1, Below.heap_alloc _ _ _ (by simp), heap_new]
  have h5 : W1.heap[w.heap.size + 1]? = some (.cells (bc (List.replicate 64 0)) 121 (0, 0)) := by
    rw [← hW1]
    exact (congrArg (fun k => (World.alloc _ _).heap[k]?) (World.size_alloc w _).symm).trans (heap_new _ _)
  have hbl : Below w.heap.size w W1 := by
    rw [← hW1]
    exact ((Below.refl _ _).alloc (Nat.le_refl _) _).alloc (by simp) _
  rw [hW1]
  have H4 := Hid.mk h4
  have H5 := Hid.mk h5
  clear h4 h5 hW1
  go_region_law (first
    | (have hck := M1; clear hck; refine step_copy_str rfl (.tmp 10) (.tmp 16) rfl (w.heap.size + 1) rfl (s.extract (k * 64) s.size) rfl _ (List.length_replicate ..) H5.out w.heap.size _ H4.out (by omega) w hbl.drew (by omega) ?_; intro W2 H52 H42 hbl2)
    | (refine step_min rfl (.tmp 12) (.tmp 14) rfl _ _ (((k : Int) * 64)) rfl rfl hmc ?_; have M1 : True := trivial))
  rw [ext_drop] at H52
  clear hmc H4 H5 hbl W1 M1
  obtain ⟨hc, hf⟩ := cells_at H52.out (j := s.size - 64 * k) (by rw [bc_at, base_at _ _ _ (by omega)]; rfl)
  have hj : ((s.size : Int) - (k : Int) * 64).toNat = s.size - 64 * k := by omega
  go_wp2_with fail
  refine (HB.out _).mono ?_
  rintro e w1 ⟨rfl, rfl⟩
  obtain ⟨W3, hW3⟩ : ∃ W3, W2.setCell ⟨w.heap.size + 1, s.size - 64 * k, none⟩ (.int .u8 128) = W3 := ⟨_, rfl⟩
  rw [hW3]
  have H53 : Hid (W3.heap[w.heap.size + 1]? = some (.cells (bc ((base s.data.toList k).set (s.size - 64 * k) 128)) 121 (0, 0))) := by
    rw [Hid, ← hW3, cells_put H52.out]
    exact congrArg (fun c => some (Obj.cells c 121 (0, 0))) (bc_set _ _ 128)
  have H43 : Hid (W3.heap[w.heap.size]? = some (.cells (bc (List.replicate 64 0)) 121 (0, 0))) := by
    rw [Hid, ← hW3, Below.heap_setCell _ _ _ _ (by simp)]; exact H42.out
  have hbl3 : Below w.heap.size w W3 := by rw [← hW3]; exact hbl2.setCell (by simp) _
  clear hc hf hW3 H52 H42 hbl2 W2
  go_upto_region 9 with fail
  refine wp_region_lit ?_
  refine wpList_run (v := .agg (bc (blk s.data.toList k))) rfl (op_load arr37 (by have := H53.out; rwa [show (base s.data.toList k).set (s.size - 64 * k) 128 = blk s.data.toList k from blk_B s.data.toList k (by rw [size_list]; exact h1) (by rw [size_list]; exact h2)] at this) (by rw [bc_size, blk_len]) rfl rfl) ?_
  refine wpList_runS rfl (op_store arr37 H43.out (by rw [bc_size, List.length_replicate]) (by rw [bc_size, blk_len]) (bc_one _) rfl rfl rfl) ?_
  go_wp2
  refine bodyPost_ret (v := .agg (bc (blk s.data.toList k))) (results_cell1 arr37 Tryz.results82 rfl (setRow_heap _ _ _ _ _ _ H43.out) (by rw [bc_size, blk_len])) rfl ⟨rfl, Below.setRow hbl3 (by omega) _⟩
set_option maxRecDepth 100000 in
set_option maxHeartbeats 2000000 in
theorem blockOf_L (s : ByteArray) (k : Nat) (hs : s.size ≤ 140737488355328) (hk : k < nb s.size) (h1 : 64 * k ≤ s.size) (h2 : s.size < 64 * k + 56) (w : World) :
    Calls Tryz.prog 82 #[.string s, .int .i64 (k : Int)] w fun e w' => e = .returned (.agg (bc (blk s.data.toList k))) ∧ Below w.heap.size w w' := by
  have HK := Hid.mk hk
  have hn : nb s.size = k + 1 := by unfold nb at hk ⊢; omega
  have HB := Hid.mk (blocks_in s.size hs)
  rw [hn] at HB
  unfold nb at hk
  have g1 : (0 : Int) ≤ ((k : Int) * 64) := by omega
  have g2 : ((k : Int) * 64) ≤ (s.size : Int) := by omega
  have hmc : (if (s.size : Int) < (k : Int) * 64 then (s.size : Int) else (k : Int) * 64) = ((k : Int) * 64) := if_neg (by omega)
  have hkn : (((k : Int) * 64)).toNat = k * 64 := by omega
  clear hn
  go_enter Tryz.func82, Tryz.ntmps82
  go_upto_region 3 with fail
  rw [zero64]
  obtain ⟨W1, hW1⟩ : ∃ W1, (w.alloc (.cells (bc (List.replicate 64 0)) 121)).alloc (.cells (bc (List.replicate 64 0)) 121) = W1 := ⟨_, rfl⟩
  have h4 : W1.heap[w.heap.size]? = some (.cells (bc (List.replicate 64 0)) 121 (0, 0)) := by
    rw [← hW1, Below.heap_alloc _ _ _ (by simp), heap_new]
  have h5 : W1.heap[w.heap.size + 1]? = some (.cells (bc (List.replicate 64 0)) 121 (0, 0)) := by
    rw [← hW1]
    exact (congrArg (fun k => (World.alloc _ _).heap[k]?) (World.size_alloc w _).symm).trans (heap_new _ _)
  have hbl : Below w.heap.size w W1 := by
    rw [← hW1]
    exact ((Below.refl _ _).alloc (Nat.le_refl _) _).alloc (by simp) _
  rw [hW1]
  have H4 := Hid.mk h4
  have H5 := Hid.mk h5
  clear h4 h5 hW1
  go_region_law (first
    | (have hck := M1; clear hck; refine step_copy_str rfl (.tmp 10) (.tmp 16) rfl (w.heap.size + 1) rfl (s.extract (k * 64) s.size) rfl _ (List.length_replicate ..) H5.out w.heap.size _ H4.out (by omega) w hbl.drew (by omega) ?_; intro W2 H52 H42 hbl2)
    | (refine step_min rfl (.tmp 12) (.tmp 14) rfl _ _ (((k : Int) * 64)) rfl rfl hmc ?_; have M1 : True := trivial))
  rw [ext_drop] at H52
  clear hmc H4 H5 hbl W1 M1
  obtain ⟨hc, hf⟩ := cells_at H52.out (j := s.size - 64 * k) (by rw [bc_at, base_at _ _ _ (by omega)]; rfl)
  have hj : ((s.size : Int) - (k : Int) * 64).toNat = s.size - 64 * k := by omega
  go_wp2_with fail
  refine (HB.out _).mono ?_
  rintro e w1 ⟨rfl, rfl⟩
  obtain ⟨W3, hW3⟩ : ∃ W3, W2.setCell ⟨w.heap.size + 1, s.size - 64 * k, none⟩ (.int .u8 128) = W3 := ⟨_, rfl⟩
  rw [hW3]
  have H53 : Hid (W3.heap[w.heap.size + 1]? = some (.cells (bc ((base s.data.toList k).set (s.size - 64 * k) 128)) 121 (0, 0))) := by
    rw [Hid, ← hW3, cells_put H52.out]
    exact congrArg (fun c => some (Obj.cells c 121 (0, 0))) (bc_set _ _ 128)
  have H43 : Hid (W3.heap[w.heap.size]? = some (.cells (bc (List.replicate 64 0)) 121 (0, 0))) := by
    rw [Hid, ← hW3, Below.heap_setCell _ _ _ _ (by simp)]; exact H42.out
  have hbl3 : Below w.heap.size w W3 := by rw [← hW3]; exact hbl2.setCell (by simp) _
  clear hc hf hW3 H52 H42 hbl2 W2
  go_upto_region 8 with fail
  refine wp_region_lit ?_
  refine wpList_run (v := .agg (bc ((base s.data.toList k).set (s.size - 64 * k) 128))) rfl (op_load arr37 H53.out (by rw [bc_size]; exact (by rw [List.length_set, base_len])) rfl rfl) ?_
  go_wp2_with fail
  refine (ended_in _ (by rw [List.length_set, base_len]) s.size hs _).mono ?_
  rintro e W4 ⟨rfl, hb4⟩
  have e5 : Hid _ := (Below.block hb4 _ (box_lt H53.out)).trans H53.out
  have e4 : Hid _ := (Below.block hb4 _ (box_lt H43.out)).trans H43.out
  have hbl4 : Below w.heap.size w W4 := hbl3.trans (hb4.mono hbl3.size)
  rename_i hK
  refine hK _ _ ?_
  rw [show endL ((base s.data.toList k).set (s.size - 64 * k) 128) (8 * s.size) 8 = blk s.data.toList k from blk_L s.data.toList k (by rw [size_list]; exact h1) (by rw [size_list]; exact h2)]
  refine wpList_runS rfl (op_store arr37 e5.out (by rw [bc_size]; exact (by rw [List.length_set, base_len])) (by rw [bc_size, blk_len]) (bc_one _) rfl rfl rfl) ?_
  have H55 : Hid _ := setRow_heap _ _ _ (bc (blk s.data.toList k)) _ _ e5.out
  have H45 : Hid _ := (setRow_other W4 (w.heap.size + 1) w.heap.size (bc (blk s.data.toList k)) (by omega)).trans e4.out
  have hbl5 : Below w.heap.size w (W4.setRow (w.heap.size + 1) (bc (blk s.data.toList k))) := Below.setRow hbl4 (by omega) _
  generalize W4.setRow (w.heap.size + 1) (bc (blk s.data.toList k)) = W5 at H55 H45 hbl5 ⊢
  go_upto_region 9 with fail
  refine wp_region_lit ?_
  refine wpList_run (v := .agg (bc (blk s.data.toList k))) rfl (op_load arr37 H55.out (by rw [bc_size, blk_len]) rfl rfl) ?_
  refine wpList_runS rfl (op_store arr37 H45.out (by rw [bc_size, List.length_replicate]) (by rw [bc_size, blk_len]) (bc_one _) rfl rfl rfl) ?_
  go_wp2
  refine bodyPost_ret (v := .agg (bc (blk s.data.toList k))) (results_cell1 arr37 Tryz.results82 rfl (setRow_heap _ _ _ _ _ _ H45.out) (by rw [bc_size, blk_len])) rfl ⟨rfl, Below.setRow hbl5 (by omega) _⟩
set_option maxRecDepth 100000 in
set_option maxHeartbeats 2000000 in
theorem blockOf_C (s : ByteArray) (k : Nat) (hs : s.size ≤ 140737488355328) (hk : k < nb s.size) (h1 : s.size < 64 * k) (w : World) :
    Calls Tryz.prog 82 #[.string s, .int .i64 (k : Int)] w fun e w' => e = .returned (.agg (bc (blk s.data.toList k))) ∧ Below w.heap.size w w' := by
  have HK := Hid.mk hk
  have hn : nb s.size = k + 1 := by unfold nb at hk ⊢; omega
  have HB := Hid.mk (blocks_in s.size hs)
  rw [hn] at HB
  unfold nb at hk
  have g1 : (0 : Int) ≤ (s.size : Int) := by omega
  have g2 : (s.size : Int) ≤ (s.size : Int) := by omega
  have hmc : (if (s.size : Int) < (k : Int) * 64 then (s.size : Int) else (k : Int) * 64) = (s.size : Int) := if_pos (by omega)
  have hkn : ((s.size : Int)).toNat = s.size := by omega
  clear hn
  go_enter Tryz.func82, Tryz.ntmps82
  go_upto_region 3 with fail
  rw [zero64]
  obtain ⟨W1, hW1⟩ : ∃ W1, (w.alloc (.cells (bc (List.replicate 64 0)) 121)).alloc (.cells (bc (List.replicate 64 0)) 121) = W1 := ⟨_, rfl⟩
  have h4 : W1.heap[w.heap.size]? = some (.cells (bc (List.replicate 64 0)) 121 (0, 0)) := by
    rw [← hW1, Below.heap_alloc _ _ _ (by simp), heap_new]
  have h5 : W1.heap[w.heap.size + 1]? = some (.cells (bc (List.replicate 64 0)) 121 (0, 0)) := by
    rw [← hW1]
    exact (congrArg (fun k => (World.alloc _ _).heap[k]?) (World.size_alloc w _).symm).trans (heap_new _ _)
  have hbl : Below w.heap.size w W1 := by
    rw [← hW1]
    exact ((Below.refl _ _).alloc (Nat.le_refl _) _).alloc (by simp) _
  rw [hW1]
  have H4 := Hid.mk h4
  have H5 := Hid.mk h5
  clear h4 h5 hW1
  go_region_law (first
    | (have hck := M1; clear hck; refine step_copy_str rfl (.tmp 10) (.tmp 16) rfl (w.heap.size + 1) rfl ByteArray.empty rfl _ (List.length_replicate ..) H5.out w.heap.size _ H4.out (by omega) w hbl.drew (by omega) ?_; intro W2 H52 H42 hbl2)
    | (refine step_min rfl (.tmp 12) (.tmp 14) rfl _ _ ((s.size : Int)) rfl rfl hmc ?_; have M1 : True := trivial))
  rw [ext_none s k h1] at H52
  clear hmc H4 H5 hbl W1 M1
  go_wp2_with fail
  refine (HB.out _).mono ?_
  rintro e w1 ⟨rfl, rfl⟩
  go_upto_region 8 with fail
  refine wp_region_lit ?_
  refine wpList_run (v := .agg (bc (base s.data.toList k))) rfl (op_load arr37 H52.out (by rw [bc_size]; exact (base_len _ _)) rfl rfl) ?_
  go_wp2_with fail
  refine (ended_in _ (base_len _ _) s.size hs _).mono ?_
  rintro e W4 ⟨rfl, hb4⟩
  have e5 : Hid _ := (Below.block hb4 _ (box_lt H52.out)).trans H52.out
  have e4 : Hid _ := (Below.block hb4 _ (box_lt H42.out)).trans H42.out
  have hbl4 : Below w.heap.size w W4 := hbl2.trans (hb4.mono hbl2.size)
  rename_i hK
  refine hK _ _ ?_
  rw [show endL (base s.data.toList k) (8 * s.size) 8 = blk s.data.toList k from blk_C s.data.toList k HK.out h1]
  refine wpList_runS rfl (op_store arr37 e5.out (by rw [bc_size]; exact (base_len _ _)) (by rw [bc_size, blk_len]) (bc_one _) rfl rfl rfl) ?_
  have H55 : Hid _ := setRow_heap _ _ _ (bc (blk s.data.toList k)) _ _ e5.out
  have H45 : Hid _ := (setRow_other W4 (w.heap.size + 1) w.heap.size (bc (blk s.data.toList k)) (by omega)).trans e4.out
  have hbl5 : Below w.heap.size w (W4.setRow (w.heap.size + 1) (bc (blk s.data.toList k))) := Below.setRow hbl4 (by omega) _
  generalize W4.setRow (w.heap.size + 1) (bc (blk s.data.toList k)) = W5 at H55 H45 hbl5 ⊢
  go_upto_region 9 with fail
  refine wp_region_lit ?_
  refine wpList_run (v := .agg (bc (blk s.data.toList k))) rfl (op_load arr37 H55.out (by rw [bc_size, blk_len]) rfl rfl) ?_
  refine wpList_runS rfl (op_store arr37 H45.out (by rw [bc_size, List.length_replicate]) (by rw [bc_size, blk_len]) (bc_one _) rfl rfl rfl) ?_
  go_wp2
  refine bodyPost_ret (v := .agg (bc (blk s.data.toList k))) (results_cell1 arr37 Tryz.results82 rfl (setRow_heap _ _ _ _ _ _ H45.out) (by rw [bc_size, blk_len])) rfl ⟨rfl, Below.setRow hbl5 (by omega) _⟩
theorem blockOf_in (s : ByteArray) (k : Nat) (hs : s.size ≤ 140737488355328) (hk : k < nb s.size) (w : World) :
    Calls Tryz.prog 82 #[.string s, .int .i64 (k : Int)] w fun e w' => e = .returned (.agg (bc (blk s.data.toList k))) ∧ Below w.heap.size w w' := by
  by_cases hA : 64 * k + 64 ≤ s.size
  · exact blockOf_A s k hs hk hA w
  · by_cases hB : 64 * k + 56 ≤ s.size
    · exact blockOf_B s k hs hk hB (by omega) w
    · by_cases hL : 64 * k ≤ s.size
      · exact blockOf_L s k hs hk hL (by omega) w
      · exact blockOf_C s k hs hk (by omega) w
end Go.Proofs.YtnchoogjjnjikaaGreatDoor.G
/- spread1. -/
namespace Go.Proofs.YtnchoogjjnjikaaGreatDoor.G
set_option linter.unusedVariables false
open Go.RowKit
def fill (p : List (BitVec 32)) (n : Nat) : List (BitVec 32) := p ++ List.replicate (n - p.length) 0
theorem fill_len (p : List (BitVec 32)) (n : Nat) (h : p.length ≤ n) : (fill p n).length = n := by
  rw [fill, List.length_append, List.length_replicate]; omega
theorem fill_set (p : List (BitVec 32)) (n : Nat) (h : p.length < n) (x : BitVec 32) : (fill p n).set p.length x = fill (p ++ [x]) n := by
  unfold fill
  rw [List.set_append_right _ _ (Nat.le_refl _), Nat.sub_self, List.length_append, List.append_assoc]
  congr 1
  rw [show n - p.length = (n - (p.length + [x].length)) + 1 by simp; omega, List.replicate_succ]
  rfl
theorem fill_at (p : List (BitVec 32)) (n k : Nat) (h : k < p.length) : (fill p n)[k]? = some (p[k]?.getD 0) := by
  unfold fill
  rw [List.getElem?_append_left h, List.getElem?_eq_getElem h]
  rfl
theorem fill_all (p : List (BitVec 32)) (n : Nat) (h : p.length = n) : fill p n = p := by
  unfold fill
  rw [h, Nat.sub_self]
  exact List.append_nil p
theorem fill_cell {W : World} {b t : Nat} {p : List (BitVec 32)} {n : Nat} (h : W.heap[b]? = some (.cells (wc (fill p n)) t (0, 0))) (k : Nat) (hk : k < p.length) :
    W.cell? ⟨b, k, none⟩ = some (.int .u32 ((p[k]?.getD 0).toNat : Int)) := (cells_at h (by rw [wc_at, fill_at p n k hk]; rfl)).1
theorem fill_free {W : World} {b t : Nat} {p : List (BitVec 32)} {n : Nat} (h : W.heap[b]? = some (.cells (wc (fill p n)) t (0, 0))) (hp : p.length ≤ n) (k : Nat) (hk : k < n) :
    ∃ x : BitVec 32, W.cell? ⟨b, k, none⟩ = some (.int .u32 (x.toNat : Int)) ∧ W.frozen? ⟨b, k, none⟩ = false :=
  ⟨_, cells_at h (by rw [wc_at, List.getElem?_eq_getElem (by rw [fill_len p n hp]; exact hk)]; rfl)⟩
theorem cell_put_ne (W : World) (b j k : Nat) (v : Value) (h : k ≠ j) : (W.setCell ⟨b, j, none⟩ v).cell? ⟨b, k, none⟩ = W.cell? ⟨b, k, none⟩ := by
  simp only [World.cell?, World.setCell, Array.getElem?_modify, if_true]
  cases hb : W.heap[b]? with
  | none => rfl
  | some o => cases o <;> simp [Ne.symm h]
theorem zero50 (W : World) : (zeroValue 143).run Tryz.prog W = .ok (.agg (wc (List.replicate 80 0))) W := by kernel_rfl
set_option maxRecDepth 100000 in
set_option maxHeartbeats 2000000 in
theorem spread1_in (l : List UInt8) (hl : l.length = 64) (w : World) :
    Calls Tryz.prog 106 #[.agg (bc l)] w fun e w' => e = .returned (.agg (wc (sch1 l 80))) ∧ Below w.heap.size w w' := by
  have HL := Hid.mk hl
  clear hl
  have hz := zero50
  have HW := Hid.mk (fun W (h : W.heap[w.heap.size]? = some (.cells (bc l) 121 (0, 0))) => word_in W w.heap.size l HL.out h)
  go_enter Tryz.func106, Tryz.ntmps106
  go_wp2_with fail
  go_loopw [5] (fun i wr => ∃ m : Nat, m ≤ 80 ∧ i = .int .i64 m ∧ wr.heap[w.heap.size]? = some (.cells (bc l) 121 (0, 0)) ∧ wr.heap[w.heap.size + 1]? = some (.cells (wc (List.replicate 80 0)) 143 (0, 0)) ∧ wr.heap[w.heap.size + 2]? = some (.cells (wc (fill (sch1 l m) 80)) 143 (0, 0)) ∧ Below w.heap.size w wr) (fun i _ => 80 - (intOf i).toNat)
  case atStart =>
    refine ⟨0, by omega, rfl, ?_, ?_, ?_, (((Below.refl _ _).alloc (Nat.le_refl _) _).alloc (by simp) _).alloc (by simp; omega) _⟩
    · rw [Below.heap_alloc _ _ _ (by simp; omega), Below.heap_alloc _ _ _ (by simp), heap_new]
    · rw [Below.heap_alloc _ _ _ (by simp)]
      exact (congrArg (fun k => (World.alloc _ _).heap[k]?) (World.size_alloc w _).symm).trans (heap_new _ _)
    · exact (congrArg (fun k => (World.alloc _ _).heap[k]?) (by simp)).trans (heap_new _ _)
  case round =>
    obtain ⟨m, hm, rfl, h1, h2, h3, hbl⟩ := hrel
    have H1 := Hid.mk h1
    have H2 := Hid.mk h2
    have H3 := Hid.mk h3
    by_cases hlt : m < 80
    · have hlen := sch1_len l m
      have HN : Hid (fill (sch1 l (m + 1)) 80 = (fill (sch1 l m) 80).set m (nx1 l (sch1 l m) m)) := by
        have := fill_set (sch1 l m) 80 (by omega) (nx1 l (sch1 l m) m)
        rw [hlen] at this
        rw [Hid, this, sch1]
      obtain ⟨xm, hc, hf⟩ := fill_free h3 (by omega) m hlt
      by_cases h16 : m < 16
      · have hx : nx1 l (sch1 l m) m = wd l m := if_pos h16
        rw [hx] at HN
        clear h1 h2 h3 hx hlen
        go_wp2_with fail
        refine (HW.out _ H1.out m h16).mono ?_
        rintro e w1 ⟨rfl, j, rfl⟩
        have hc1 : (wr.drewN j).cell? ⟨w.heap.size + 2, m, none⟩ = _ := hc
        have hf1 : (wr.drewN j).frozen? ⟨w.heap.size + 2, m, none⟩ = false := hf
        go_wp2
        go_roundw
        case rel =>
          refine ⟨m + 1, by omega, by go_num, ?_, ?_, ?_, ?_⟩
          · rw [Below.heap_setCell _ _ _ _ (by show w.heap.size ≠ w.heap.size + 2; omega)]; exact H1.out
          · rw [Below.heap_setCell _ _ _ _ (by show w.heap.size + 1 ≠ w.heap.size + 2; omega)]; exact H2.out
          · rw [HN.out, ← wc_set]; exact cells_put (W := wr.drewN j) H3.out _
          · exact Below.setCell (hbl.trans ((below_dn wr j).mono hbl.size)) (by show w.heap.size ≤ w.heap.size + 2; omega) _
        case measure => simp [intOf]; omega
      · have c3 := fill_cell h3 (m - 3) (by omega)
        have c8 := fill_cell h3 (m - 8) (by omega)
        have c14 := fill_cell h3 (m - 14) (by omega)
        have c16 := fill_cell h3 (m - 16) (by omega)
        have hx : nx1 l (sch1 l m) m = rol ((sch1 l m)[m - 3]?.getD 0 ^^^ (sch1 l m)[m - 8]?.getD 0 ^^^ (sch1 l m)[m - 14]?.getD 0 ^^^ (sch1 l m)[m - 16]?.getD 0) 1 := if_neg h16
        rw [hx] at HN
        generalize (sch1 l m)[m - 3]?.getD 0 = x3 at c3 HN
        generalize (sch1 l m)[m - 8]?.getD 0 = x8 at c8 HN
        generalize (sch1 l m)[m - 14]?.getD 0 = x14 at c14 HN
        generalize (sch1 l m)[m - 16]?.getD 0 = x16 at c16 HN
        have k3 : ((m : Int) - 3).toNat = m - 3 := by omega
        have k8 : ((m : Int) - 8).toNat = m - 8 := by omega
        have k14 : ((m : Int) - 14).toNat = m - 14 := by omega
        have k16 : ((m : Int) - 16).toNat = m - 16 := by omega
        have n3 : (3 : Int) ≤ (m : Int) := by omega
        have l3 : (0 : Int) ≤ (m : Int) - 3 := by omega
        have u3 : (m : Int) - 3 < 80 := by omega
        have v3 : (m : Int) < 80 + 3 := by omega
        have w3 : IntKind.i64.wrap ((m : Int) - 3) = (m : Int) - 3 := by rw [IntKind.wrap_i64]; omega
        have n8 : (8 : Int) ≤ (m : Int) := by omega
        have l8 : (0 : Int) ≤ (m : Int) - 8 := by omega
        have u8 : (m : Int) - 8 < 80 := by omega
        have v8 : (m : Int) < 80 + 8 := by omega
        have w8 : IntKind.i64.wrap ((m : Int) - 8) = (m : Int) - 8 := by rw [IntKind.wrap_i64]; omega
        have n14 : (14 : Int) ≤ (m : Int) := by omega
        have l14 : (0 : Int) ≤ (m : Int) - 14 := by omega
        have u14 : (m : Int) - 14 < 80 := by omega
        have v14 : (m : Int) < 80 + 14 := by omega
        have w14 : IntKind.i64.wrap ((m : Int) - 14) = (m : Int) - 14 := by rw [IntKind.wrap_i64]; omega
        have n16 : (16 : Int) ≤ (m : Int) := by omega
        have l16 : (0 : Int) ≤ (m : Int) - 16 := by omega
        have u16 : (m : Int) - 16 < 80 := by omega
        have v16 : (m : Int) < 80 + 16 := by omega
        have w16 : IntKind.i64.wrap ((m : Int) - 16) = (m : Int) - 16 := by rw [IntKind.wrap_i64]; omega
        have um : (m : Int) < 80 := by omega
        have HKp : Hid (∀ (W : World) (v : Value), W.cell? ⟨w.heap.size + 2, m - 3, none⟩ = some (.int .u32 (x3.toNat : Int)) → W.cell? ⟨w.heap.size + 2, m - 8, none⟩ = some (.int .u32 (x8.toNat : Int)) → W.cell? ⟨w.heap.size + 2, m - 14, none⟩ = some (.int .u32 (x14.toNat : Int)) → W.cell? ⟨w.heap.size + 2, m - 16, none⟩ = some (.int .u32 (x16.toNat : Int)) → (W.setCell ⟨w.heap.size + 2, m, none⟩ v).cell? ⟨w.heap.size + 2, m - 3, none⟩ = some (.int .u32 (x3.toNat : Int)) ∧ (W.setCell ⟨w.heap.size + 2, m, none⟩ v).cell? ⟨w.heap.size + 2, m - 8, none⟩ = some (.int .u32 (x8.toNat : Int)) ∧ (W.setCell ⟨w.heap.size + 2, m, none⟩ v).cell? ⟨w.heap.size + 2, m - 14, none⟩ = some (.int .u32 (x14.toNat : Int)) ∧ (W.setCell ⟨w.heap.size + 2, m, none⟩ v).cell? ⟨w.heap.size + 2, m - 16, none⟩ = some (.int .u32 (x16.toNat : Int))) := fun W v a1 a2 a3 a4 =>
          ⟨(cell_put_ne W _ _ _ v (by omega)).trans a1, (cell_put_ne W _ _ _ v (by omega)).trans a2, (cell_put_ne W _ _ _ v (by omega)).trans a3, (cell_put_ne W _ _ _ v (by omega)).trans a4⟩
        have hb : bits .xor .u32 (bits .xor .u32 (bits .xor .u32 (x3.toNat : Int) (x8.toNat : Int)) (x14.toNat : Int)) (x16.toNat : Int) = ((x3 ^^^ x8 ^^^ x14 ^^^ x16).toNat : Int) := by rw [bv_xor, bv_xor, bv_xor]
        have HLF := Hid.mk (fun W => left_in (x3 ^^^ x8 ^^^ x14 ^^^ x16) 1 (by omega) (by omega) W)
        generalize x3 ^^^ x8 ^^^ x14 ^^^ x16 = x at hb HLF HN
        clear h1 h2 h3 hx hlen
        go_wp2_with fail
        go_region_held3 (fun w' => w'.cell? ⟨w.heap.size + 2, m - 3, none⟩ = some (.int .u32 (x3.toNat : Int)) ∧ w'.cell? ⟨w.heap.size + 2, m - 8, none⟩ = some (.int .u32 (x8.toNat : Int)) ∧ w'.cell? ⟨w.heap.size + 2, m - 14, none⟩ = some (.int .u32 (x14.toNat : Int)) ∧ w'.cell? ⟨w.heap.size + 2, m - 16, none⟩ = some (.int .u32 (x16.toNat : Int))) (first | exact HKp.out _ _ (by assumption) (by assumption) (by assumption) (by assumption) | ((repeat' apply And.intro) <;> assumption) | go_keep)
          (first
            | (go_at_call 108; refine (HLF.out _).mono ?_; rintro e w2 ⟨rfl, j, rfl⟩))
        rename_i hHeld
        clear hHeld
        go_wp2
        go_roundw
        case rel =>
          refine ⟨m + 1, by omega, by go_num, ?_, ?_, ?_, ?_⟩
          · rw [Below.heap_setCell _ _ _ _ (by show w.heap.size ≠ w.heap.size + 2; omega)]; exact H1.out
          · rw [Below.heap_setCell _ _ _ _ (by show w.heap.size + 1 ≠ w.heap.size + 2; omega)]; exact H2.out
          · rw [HN.out, ← wc_set]; exact cells_put (W := wr.drewN (1 + j)) H3.out _
          · exact Below.setCell (hbl.trans ((below_dn wr (1 + j)).mono hbl.size)) (by show w.heap.size ≤ w.heap.size + 2; omega) _
        case measure => simp [intOf]; omega
    · obtain rfl : m = 80 := by omega
      rw [fill_all _ _ (sch1_len l 80)] at H3
      clear h1 h2 h3
      go_upto_region 9 with fail
      refine wp_region_lit ?_
      refine wpList_run (v := .agg (wc (sch1 l 80))) rfl (op_load arr50 H3.out (by rw [wc_size, sch1_len]) rfl rfl) ?_
      refine wpList_runS rfl (op_store arr50 H2.out (by rw [wc_size, List.length_replicate]) (by rw [wc_size, sch1_len]) (wc_one _) rfl rfl rfl) ?_
      go_wp2
      refine bodyPost_ret (v := .agg (wc (sch1 l 80))) (results_cell1 arr50 Tryz.results106 rfl (setRow_heap _ _ _ _ _ _ H2.out) (by rw [wc_size, sch1_len])) rfl ⟨rfl, Below.setRow hbl (by omega) _⟩
end Go.Proofs.YtnchoogjjnjikaaGreatDoor.G
/- stir1. -/
namespace Go.Proofs.YtnchoogjjnjikaaGreatDoor.G
set_option linter.unusedVariables false
open Go.RowKit
theorem index_words {t n : Nat} (hu : Tryz.prog.underlying t = some (.array n 117)) (p : List (BitVec 32)) (hp : p.length = n) (k : Nat) (hk : k < n) (W : World) :
    (Instr.index t (.agg (wc p)) (.int .i64 (k : Int))).run Tryz.prog W = .ok (.int .u32 ((p[k]?.getD 0).toNat : Int)) W := by
  have hz : (sizeOf 117).run Tryz.prog W = .ok 1 W := by kernel_rfl
  have hc : (wc p)[k]? = some (.int .u32 ((p[k]?.getD 0).toNat : Int)) := by rw [wc_at, List.getElem?_eq_getElem (by omega)]; rfl
  have h1 : (0 : Int) ≤ (k : Int) ∧ (k : Int) < (n : Int) := by omega
  simp [Instr.index, asIntOf, run_underlying hu, h1, hz, part, hc, hk]
theorem three_new (w : World) (c0 c1 c2 : Array Value) (t0 t1 t2 : TypeId) :
    (((w.alloc (.cells c0 t0)).alloc (.cells c1 t1)).alloc (.cells c2 t2)).heap[w.heap.size]? = some (.cells c0 t0 (0, 0)) ∧ (((w.alloc (.cells c0 t0)).alloc (.cells c1 t1)).alloc (.cells c2 t2)).heap[w.heap.size + 1]? = some (.cells c1 t1 (0, 0)) ∧
      (((w.alloc (.cells c0 t0)).alloc (.cells c1 t1)).alloc (.cells c2 t2)).heap[w.heap.size + 2]? = some (.cells c2 t2 (0, 0)) ∧ Below w.heap.size w (((w.alloc (.cells c0 t0)).alloc (.cells c1 t1)).alloc (.cells c2 t2)) := by
  refine ⟨?_, ?_, ?_, (((Below.refl _ _).alloc (Nat.le_refl _) _).alloc (by simp) _).alloc (by simp; omega) _⟩
  · rw [Below.heap_alloc _ _ _ (by simp; omega), Below.heap_alloc _ _ _ (by simp), heap_new]
  · rw [Below.heap_alloc _ _ _ (by simp)]
    exact (congrArg (fun k => (World.alloc _ _).heap[k]?) (World.size_alloc w _).symm).trans (heap_new _ _)
  · exact (congrArg (fun k => (World.alloc _ _).heap[k]?) (by simp)).trans (heap_new _ _)
theorem S5.at (s : S5) {W : World} {b t : Nat} (h : W.heap[b]? = some (.cells (wc s.l) t (0, 0))) :
    W.cell? ⟨b, 0, none⟩ = some (.int .u32 (s.a.toNat : Int)) ∧ W.cell? ⟨b, 1, none⟩ = some (.int .u32 (s.b.toNat : Int)) ∧ W.cell? ⟨b, 2, none⟩ = some (.int .u32 (s.c.toNat : Int)) ∧ W.cell? ⟨b, 3, none⟩ = some (.int .u32 (s.d.toNat : Int)) ∧ W.cell? ⟨b, 4, none⟩ = some (.int .u32 (s.e.toNat : Int)) :=
  ⟨(cells_at h rfl).1, (cells_at h rfl).1, (cells_at h rfl).1, (cells_at h rfl).1, (cells_at h rfl).1⟩
theorem und50 : Tryz.prog.underlying 143 = some (.array 80 117) := by kernel_rfl
theorem add5w (x1 x2 x3 x4 x5 : BitVec 32) : ((x1.toNat : Int) + (x2.toNat : Int) + (x3.toNat : Int) + (x4.toNat : Int) + (x5.toNat : Int)) % 4294967296 = ((x1 + x2 + x3 + x4 + x5).toNat : Int) := by
  simp only [BitVec.toNat_add]
  omega
set_option maxRecDepth 100000 in
set_option maxHeartbeats 2000000 in
theorem stir1_gen (s : S5) (l : List UInt8) (hl : l.length = 64) (ws : List (BitVec 32)) (hwl : ws.length = 80) (R : Nat → S5) (hR0 : R 0 = s) (hRs : ∀ m, R (m + 1) = st1 (ws[m]?.getD 0) m (R m))
    (hsp : ∀ w : World, Calls Tryz.prog 106 #[.agg (bc l)] w fun e w' => e = .returned (.agg (wc ws)) ∧ Below w.heap.size w w') (w : World) :
    Calls Tryz.prog 81 #[.agg (wc s.l), .agg (bc l)] w fun x w' => x = .returned (.agg (wc (add5 s (R 80)).l)) ∧ Below w.heap.size w w' := by
  have HL := Hid.mk hl
  have HWL := Hid.mk hwl
  have HR0 := Hid.mk hR0
  have HRs := Hid.mk hRs
  have HSP := Hid.mk hsp
  clear hl hwl hR0 hRs hsp
  rw [show (add5 s (R 80)).l = [s.a + (R 80).a, s.b + (R 80).b, s.c + (R 80).c, s.d + (R 80).d, s.e + (R 80).e] from rfl]
  go_enter Tryz.func81, Tryz.ntmps81
  go_upto_region 1 with fail
  obtain ⟨h0, h1, h2, hb⟩ := three_new w (wc s.l) (bc l) #[.int .u32 0, .int .u32 0, .int .u32 0, .int .u32 0, .int .u32 0] 118 121 118
  generalize (((w.alloc (.cells (wc s.l) 118)).alloc (.cells (bc l) 121)).alloc (.cells #[.int .u32 0, .int .u32 0, .int .u32 0, .int .u32 0, .int .u32 0] 118)) = W1 at h0 h1 h2 hb ⊢
  obtain ⟨c0, c1, c2, c3, c4⟩ := s.at h0
  have H0 := Hid.mk h0
  have H1 := Hid.mk h1
  have H2 := Hid.mk h2
  clear h0 h1 h2
  go_quiet (fail)
  clear c0 c1 c2 c3 c4
  go_upto_region 2 with fail
  refine wp_region_lit ?_
  refine wpList_run (W' := W1.drewN nq) (v := .agg (bc l)) rfl (op_load (W := W1.drewN nq) arr37 H1.out (by rw [bc_size]; exact HL.out) rfl rfl) ?_
  go_wp2_with fail
  refine (HSP.out _).mono ?_
  rintro e W2 ⟨rfl, hb2⟩
  have hb2' : Below W1.heap.size W1 W2 := (below_dn W1 nq).trans hb2
  have G0 : Hid (W2.heap[w.heap.size]? = _) := (hb2'.block _ (box_lt H0.out)).trans H0.out
  have G2 : Hid (W2.heap[w.heap.size + 2]? = _) := (hb2'.block _ (box_lt H2.out)).trans H2.out
  have hB : Below w.heap.size w W2 := bthen hb hb2'
  clear hb2 hb2' hb H0 H1 H2 W1 HL HSP
  go_wp2_with fail
  go_loopw [5, 6, 7, 8, 9, 26] (fun a b c d e i wr => ∃ m : Nat, m ≤ 80 ∧ i = .int .i64 m ∧ a = .int .u32 ((R m).a.toNat : Int) ∧ b = .int .u32 ((R m).b.toNat : Int) ∧ c = .int .u32 ((R m).c.toNat : Int) ∧ d = .int .u32 ((R m).d.toNat : Int) ∧ e = .int .u32 ((R m).e.toNat : Int) ∧ Below W2.heap.size W2 wr) (fun _ _ _ _ _ i _ => 80 - (intOf i).toNat)
  case atStart => exact ⟨0, by omega, rfl, by rw [HR0.out], by rw [HR0.out], by rw [HR0.out], by rw [HR0.out], by rw [HR0.out], Below.refl _ _⟩
  case round =>
    obtain ⟨m, hm, rfl, rfl, rfl, rfl, rfl, rfl, hbl⟩ := hrel
    by_cases hlt : m < 80
    · have hix := index_words und50 ws HWL.out m hlt
      have HN : Hid (R (m + 1) = ⟨rol (R m).a 5 + f1 m (R m).b (R m).c (R m).d + (R m).e + k1 m + ws[m]?.getD 0, (R m).a, rol (R m).b 30, (R m).c, (R m).d⟩) := HRs.out m
      generalize ws[m]?.getD 0 = x at hix HN
      generalize (R m).a = a at HN ⊢
      generalize (R m).b = b at HN ⊢
      generalize (R m).c = c at HN ⊢
      generalize (R m).d = d at HN ⊢
      generalize (R m).e = e at HN ⊢
      have HR := Hid.mk (round1_in m hlt b c d)
      have HA := Hid.mk (left_in a 5 (by omega) (by omega))
      have HB := Hid.mk (left_in b 30 (by omega) (by omega))
      generalize f1 m b c d = f at HR HN
      generalize k1 m = k at HR HN
      generalize rol a 5 = a5 at HA HN
      generalize rol b 30 = b30 at HB HN
      go_wp2_with fail
      refine (HR.out _).mono ?_
      rintro e1 w1 ⟨rfl, rfl⟩
      go_wp2_with fail
      refine (HA.out _).mono ?_
      rintro e2 w2 ⟨rfl, j1, rfl⟩
      go_wp2_with fail
      refine (HB.out _).mono ?_
      rintro e3 w3 ⟨rfl, j2, rfl⟩
      go_wp2
      go_roundw
      case rel =>
        refine ⟨m + 1, by omega, by go_num, ?_, by rw [HN.out], by rw [HN.out], by rw [HN.out], by rw [HN.out], ?_⟩
        · rw [HN.out, ← add5w]
        · exact hbl.trans ((below_dn _ (j1 + j2)).mono hbl.size)
      case measure => simp [intOf]; omega
    · obtain rfl : m = 80 := by omega
      have J0 : Hid (wr.heap[w.heap.size]? = _) := (hbl.block _ (box_lt G0.out)).trans G0.out
      have J2 : Hid (wr.heap[w.heap.size + 2]? = _) := (hbl.block _ (box_lt G2.out)).trans G2.out
      have hB' : Below w.heap.size w wr := bthen hB hbl
      obtain ⟨c0, c1, c2, c3, c4⟩ := s.at J0.out
      have q0 := bm_add s.a (R 80).a
      have q1 := bm_add s.b (R 80).b
      have q2 := bm_add s.c (R 80).c
      have q3 := bm_add s.d (R 80).d
      have q4 := bm_add s.e (R 80).e
      clear G0 G2 hB hbl
      go_wp2
      refine operwp_run (W' := wr) (op_build5 rfl rfl rfl rfl rfl rfl) ?_
      rename_i hK
      refine hK _ _ ?_
      refine wpList_runS rfl (op_store arr33 J2.out (by rfl) (by rfl) (by simp [Value.oneCell']) rfl rfl rfl) ?_
      go_wp2
      refine bodyPost_ret (results_cell1 arr33 Tryz.results81 rfl (setRow_heap _ _ _ _ _ _ J2.out) (by rfl)) rfl ⟨?_, Below.setRow hB' (by omega) _⟩
      first
        | rfl
        | (simp only [bm_add]; rfl)
theorem stir1_in (s : S5) (l : List UInt8) (hl : l.length = 64) (w : World) :
    Calls Tryz.prog 81 #[.agg (wc s.l), .agg (bc l)] w fun x w' => x = .returned (.agg (wc (stir1 s l).l)) ∧ Below w.heap.size w w' :=
  stir1_gen s l hl (sch1 l 80) (sch1_len l 80) (fun m => rn1 (sch1 l 80) m s) rfl (fun m => rfl) (spread1_in l hl) w
end Go.Proofs.YtnchoogjjnjikaaGreatDoor.G