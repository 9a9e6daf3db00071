/- Texts of this proof, joined: GBlk, GSpread, GStir1, GSum1, GSpread2, GStir2. -/
import Derived.Deep.RegionLaw
import Derived.Laws.CopyOwn
import Derived.Test.YtmjenhilafdioaaDoorJ10
import Derived.Deep.RegionHeld3
/- blockOf (printed by mkblk.py). -/
namespace Go.Proofs.YtmjenhilafdioaaDoor.G
set_option linter.unusedVariables false
open Go.RowKit
theorem zero64 : (#[Value.int IntKind.u8 0, Value.int IntKind.u8 0, Value.int IntKind.u8 0, Value.int IntKind.u8 0, Value.int IntKind.u8 0, Value.int IntKind.u8 0, Value.int IntKind.u8 0, Value.int IntKind.u8 0, Value.int IntKind.u8 0, Value.int IntKind.u8 0, Value.int IntKind.u8 0, Value.int IntKind.u8 0, Value.int IntKind.u8 0, Value.int IntKind.u8 0, Value.int IntKind.u8 0, Value.int IntKind.u8 0, Value.int IntKind.u8 0, Value.int IntKind.u8 0, Value.int IntKind.u8 0, Value.int IntKind.u8 0, Value.int IntKind.u8 0, Value.int IntKind.u8 0, Value.int IntKind.u8 0, Value.int IntKind.u8 0, Value.int IntKind.u8 0, Value.int IntKind.u8 0, Value.int IntKind.u8 0, Value.int IntKind.u8 0, Value.int IntKind.u8 0, Value.int IntKind.u8 0, Value.int IntKind.u8 0, Value.int IntKind.u8 0, Value.int IntKind.u8 0, Value.int IntKind.u8 0, Value.int IntKind.u8 0, Value.int IntKind.u8 0, Value.int IntKind.u8 0, Value.int IntKind.u8 0, Value.int IntKind.u8 0, Value.int IntKind.u8 0, Value.int IntKind.u8 0, Value.int IntKind.u8 0, Value.int IntKind.u8 0, Value.int IntKind.u8 0, Value.int IntKind.u8 0, Value.int IntKind.u8 0, Value.int IntKind.u8 0, Value.int IntKind.u8 0, Value.int IntKind.u8 0, Value.int IntKind.u8 0, Value.int IntKind.u8 0, Value.int IntKind.u8 0, Value.int IntKind.u8 0, Value.int IntKind.u8 0, Value.int IntKind.u8 0, Value.int IntKind.u8 0, Value.int IntKind.u8 0, Value.int IntKind.u8 0, Value.int IntKind.u8 0, Value.int IntKind.u8 0, Value.int IntKind.u8 0, Value.int IntKind.u8 0, Value.int IntKind.u8 0, Value.int IntKind.u8 0] : Array Value) = bc (List.replicate 64 0) := rfl
/-- bytes laid over the head of a block. -/
def over (l t : List UInt8) : List UInt8 := t.take 64 ++ l.drop (min t.length 64)
theorem over_len (l t : List UInt8) (hl : l.length = 64) : (over l t).length = 64 := by
  rw [over, List.length_append, List.length_take, List.length_drop]; omega
theorem over_at (t : List UInt8) (j : Nat) (hj : j < 64) : (over (List.replicate 64 0) t)[j]? = some (t[j]?.getD 0) := by
  unfold over
  rw [List.getElem?_append, List.length_take]
  by_cases h : j < t.length
  · rw [if_pos (by omega), List.getElem?_take_of_lt hj, List.getElem?_eq_getElem h]; rfl
  · rw [if_neg (by omega), List.getElem?_drop, List.getElem?_replicate, if_pos (by omega), List.getElem?_eq_none (by omega : t.length ≤ j)]; rfl
theorem endL_at (l : List UInt8) (hl : l.length = 64) (m j : Nat) (hj : j < 64) : (endL l m 8)[j]? = if j < 56 then l[j]? else some (bt m (63 - j)) := by
  unfold endL
  rw [List.getElem?_append, List.length_take]
  by_cases h : j < 56
  · rw [if_pos (by omega), if_pos h, List.getElem?_take_of_lt (by omega)]
  · rw [if_neg (by omega), if_neg h]
    rcases (show j = 56 ∨ j = 57 ∨ j = 58 ∨ j = 59 ∨ j = 60 ∨ j = 61 ∨ j = 62 ∨ j = 63 by omega) with rfl | rfl | rfl | rfl | rfl | rfl | rfl | rfl <;> (rw [show min (64 - 8) l.length = 56 by omega]; rfl)
theorem blk_at (l : List UInt8) (k j : Nat) (hj : j < 64) : (blk l k)[j]? = some (padAt l (64 * k + j)) := by
  unfold blk
  rw [List.getElem?_map, List.getElem?_range hj]
  rfl
theorem list_ext64 {a b : List UInt8} (ha : a.length = 64) (hb : b.length = 64) (h : ∀ j, j < 64 → a[j]? = b[j]?) : a = b := by
  apply List.ext_getElem?
  intro j
  by_cases hj : j < 64
  · exact h j hj
  · rw [List.getElem?_eq_none (by omega), List.getElem?_eq_none (by omega)]
abbrev base (l : List UInt8) (k : Nat) : List UInt8 := over (List.replicate 64 0) (l.drop (64 * k))
theorem base_len (l : List UInt8) (k : Nat) : (base l k).length = 64 := over_len _ _ (List.length_replicate ..)
theorem base_at (l : List UInt8) (k j : Nat) (hj : j < 64) : (base l k)[j]? = some (l[64 * k + j]?.getD 0) := by
  rw [over_at _ _ hj, List.getElem?_drop]
theorem blk_A (l : List UInt8) (k : Nat) (h : 64 * k + 64 ≤ l.length) : base l k = blk l k :=
  list_ext64 (base_len l k) (blk_len l k) fun j hj => by
    rw [base_at l k j hj, blk_at l k j hj, padAt, if_pos (by omega)]
theorem blk_B (l : List UInt8) (k : Nat) (h0 : 64 * k + 56 ≤ l.length) (h : l.length < 64 * k + 64) : (base l k).set (l.length - 64 * k) 128 = blk l k :=
  list_ext64 (by rw [List.length_set, base_len]) (blk_len l k) fun j hj => by
    rw [List.getElem?_set, base_len, base_at l k j hj, blk_at l k j hj, padAt]
    by_cases hlt : 64 * k + j < l.length
    · rw [if_pos hlt, if_neg (by omega)]
    · rw [if_neg hlt]
      by_cases he : 64 * k + j = l.length
      · rw [if_pos he, if_pos (by omega), if_pos (by omega)]
      · rw [if_neg he, if_neg (by omega), if_pos (by unfold nb; omega), List.getElem?_eq_none (by omega)]; rfl
theorem blk_L (l : List UInt8) (k : Nat) (h0 : 64 * k ≤ l.length) (h : l.length < 64 * k + 56) : endL ((base l k).set (l.length - 64 * k) 128) (8 * l.length) 8 = blk l k :=
  list_ext64 (endL_len _ (by rw [List.length_set, base_len]) _ _ (by omega)) (blk_len l k) fun j hj => by
    rw [endL_at _ (by rw [List.length_set, base_len]) _ _ hj, List.getElem?_set, base_len, base_at l k j hj, blk_at l k j hj, padAt]
    have hn : nb l.length = k + 1 := by unfold nb; omega
    rw [hn]
    by_cases hlt : 64 * k + j < l.length
    · rw [if_pos hlt, if_pos (by omega), if_neg (by omega)]
    · rw [if_neg hlt]
      by_cases he : 64 * k + j = l.length
      · rw [if_pos he, if_pos (by omega), if_pos (by omega), if_pos (by omega)]
      · rw [if_neg he]
        by_cases h8 : j < 56
        · rw [if_pos h8, if_neg (by omega), if_pos (by omega), List.getElem?_eq_none (by omega)]; rfl
        · rw [if_neg h8, if_neg (by omega), show 64 * (k + 1) - 1 - (64 * k + j) = 63 - j by omega]
theorem blk_C (l : List UInt8) (k : Nat) (hk : k < nb l.length) (h0 : l.length < 64 * k) : endL (base l k) (8 * l.length) 8 = blk l k :=
  list_ext64 (endL_len _ (base_len _ _) _ _ (by omega)) (blk_len l k) fun j hj => by
    rw [endL_at _ (base_len _ _) _ _ hj, base_at l k j hj, blk_at l k j hj, padAt]
    have hn : nb l.length = k + 1 := by unfold nb at hk ⊢; omega
    rw [hn]
    by_cases h8 : j < 56
    · rw [if_pos h8, if_neg (by omega), if_neg (by omega), if_pos (by omega), List.getElem?_eq_none (by omega)]; rfl
    · rw [if_neg h8, if_neg (by omega), if_neg (by omega), if_neg (by omega), show 64 * (k + 1) - 1 - (64 * k + j) = 63 - j by omega]
theorem ext_drop (s : ByteArray) (k : Nat) : (s.extract (k * 64) s.size).data.toList = s.data.toList.drop (64 * k) := by
  rw [ByteArray.data_extract, Array.toList_extract, List.extract_eq_take_drop, Nat.mul_comm]
  apply List.take_of_length_le
  rw [List.length_drop, size_list]; exact Nat.le_refl _
theorem ext_none (s : ByteArray) (k : Nat) (h : s.size < 64 * k) : ByteArray.empty.data.toList = s.data.toList.drop (64 * k) := by
  rw [List.drop_eq_nil_of_le (by rw [size_list]; omega)]
  rfl
theorem step_min {w : World} {ops : Array Oper} {o : Oper} {a : Act} {K : Act → World → Prop} {Q : Exit → Act → World → Prop} {E : Prop} (hgd : o.guard = none) (x y : Operand)
    (ho : o.op = .call { callee := .builtin .min, args := #[x, y], argTypes := #[3, 3] }) (m n c : Int) (hx : a.eval x = .int .i64 m) (hy : a.eval y = .int .i64 n) (hc : (if n < m then n else m) = c)
    (h : K (a.put o.dst (.int .i64 c)) w) :
    if Region.wanted o (yielded ops a.tmps) = true then Oper.wp Tryd.prog o a w K Q else E := by
  have hw : Region.wanted o (yielded ops a.tmps) = true := by simp [Region.wanted, hgd]
  rw [if_pos hw]
  subst hc
  unfold Oper.wp
  simp [execOp, ho, resolve, invoke, builtin, hx, hy, Builtin.min_, Builtin.min2]
  exact h

end Go.Proofs.YtmjenhilafdioaaDoor.G

/- spread1. -/
namespace Go.Proofs.YtmjenhilafdioaaDoor.G
set_option linter.unusedVariables false
open Go.RowKit

/-- the words so far, and noughts. -/
def fill (p : List (BitVec 32)) (n : Nat) : List (BitVec 32) := p ++ List.replicate (n - p.length) 0
theorem fill_len (p : List (BitVec 32)) (n : Nat) (h : p.length ≤ n) : (fill p n).length = n := by
  rw [fill, List.length_append, List.length_replicate]; omega
theorem fill_set (p : List (BitVec 32)) (n : Nat) (h : p.length < n) (x : BitVec 32) : (fill p n).set p.length x = fill (p ++ [x]) n := by
  unfold fill
  rw [List.set_append_right _ _ (Nat.le_refl _), Nat.sub_self, List.length_append, List.append_assoc]
  congr 1
  rw [show n - p.length = (n - (p.length + [x].length)) + 1 by simp; omega, List.replicate_succ]
  rfl
theorem fill_at (p : List (BitVec 32)) (n k : Nat) (h : k < p.length) : (fill p n)[k]? = some (p[k]?.getD 0) := by
  unfold fill
  rw [List.getElem?_append_left h, List.getElem?_eq_getElem h]
  rfl
theorem fill_all (p : List (BitVec 32)) (n : Nat) (h : p.length = n) : fill p n = p := by
  unfold fill
  rw [h, Nat.sub_self]
  exact List.append_nil p
theorem fill_cell {W : World} {b t : Nat} {p : List (BitVec 32)} {n : Nat} (h : W.heap[b]? = some (.cells (wc (fill p n)) t (0, 0))) (k : Nat) (hk : k < p.length) :
    W.cell? ⟨b, k, none⟩ = some (.int .u32 ((p[k]?.getD 0).toNat : Int)) := (cells_at h (by rw [wc_at, fill_at p n k hk]; rfl)).1
theorem fill_free {W : World} {b t : Nat} {p : List (BitVec 32)} {n : Nat} (h : W.heap[b]? = some (.cells (wc (fill p n)) t (0, 0))) (hp : p.length ≤ n) (k : Nat) (hk : k < n) :
    ∃ x : BitVec 32, W.cell? ⟨b, k, none⟩ = some (.int .u32 (x.toNat : Int)) ∧ W.frozen? ⟨b, k, none⟩ = false :=
  ⟨_, cells_at h (by rw [wc_at, List.getElem?_eq_getElem (by rw [fill_len p n hp]; exact hk)]; rfl)⟩
theorem cell_put_ne (W : World) (b j k : Nat) (v : Value) (h : k ≠ j) : (W.setCell ⟨b, j, none⟩ v).cell? ⟨b, k, none⟩ = W.cell? ⟨b, k, none⟩ := by
  simp only [World.cell?, World.setCell, Array.getElem?_modify, if_true]
  cases hb : W.heap[b]? with
  | none => rfl
  | some o => cases o <;> simp [Ne.symm h]
end Go.Proofs.YtmjenhilafdioaaDoor.G

/- stir1. -/
namespace Go.Proofs.YtmjenhilafdioaaDoor.G
set_option linter.unusedVariables false
open Go.RowKit

theorem index_words {t n : Nat} (hu : Tryd.prog.underlying t = some (.array n 26)) (p : List (BitVec 32)) (hp : p.length = n) (k : Nat) (hk : k < n) (W : World) :
    (Instr.index t (.agg (wc p)) (.int .i64 (k : Int))).run Tryd.prog W = .ok (.int .u32 ((p[k]?.getD 0).toNat : Int)) W := by
  have hz : (sizeOf 26).run Tryd.prog W = .ok 1 W := by kernel_rfl
  have hc : (wc p)[k]? = some (.int .u32 ((p[k]?.getD 0).toNat : Int)) := by rw [wc_at, List.getElem?_eq_getElem (by omega)]; rfl
  have h1 : (0 : Int) ≤ (k : Int) ∧ (k : Int) < (n : Int) := by omega
  simp [Instr.index, asIntOf, run_underlying hu, h1, hz, part, hc, hk]

/-- three blocks laid one behind the other. -/
theorem three_new (w : World) (c0 c1 c2 : Array Value) (t0 t1 t2 : TypeId) :
    (((w.alloc (.cells c0 t0)).alloc (.cells c1 t1)).alloc (.cells c2 t2)).heap[w.heap.size]? = some (.cells c0 t0 (0, 0)) ∧ (((w.alloc (.cells c0 t0)).alloc (.cells c1 t1)).alloc (.cells c2 t2)).heap[w.heap.size + 1]? = some (.cells c1 t1 (0, 0)) ∧
      (((w.alloc (.cells c0 t0)).alloc (.cells c1 t1)).alloc (.cells c2 t2)).heap[w.heap.size + 2]? = some (.cells c2 t2 (0, 0)) ∧ Below w.heap.size w (((w.alloc (.cells c0 t0)).alloc (.cells c1 t1)).alloc (.cells c2 t2)) := by
  refine ⟨?_, ?_, ?_, (((Below.refl _ _).alloc (Nat.le_refl _) _).alloc (by simp) _).alloc (by simp; omega) _⟩
  · rw [Below.heap_alloc _ _ _ (by simp; omega), Below.heap_alloc _ _ _ (by simp), heap_new]
  · rw [Below.heap_alloc _ _ _ (by simp)]
    exact (congrArg (fun k => (World.alloc _ _).heap[k]?) (World.size_alloc w _).symm).trans (heap_new _ _)
  · exact (congrArg (fun k => (World.alloc _ _).heap[k]?) (by simp)).trans (heap_new _ _)
theorem S5.at (s : S5) {W : World} {b t : Nat} (h : W.heap[b]? = some (.cells (wc s.l) t (0, 0))) :
    W.cell? ⟨b, 0, none⟩ = some (.int .u32 (s.a.toNat : Int)) ∧ W.cell? ⟨b, 1, none⟩ = some (.int .u32 (s.b.toNat : Int)) ∧ W.cell? ⟨b, 2, none⟩ = some (.int .u32 (s.c.toNat : Int)) ∧ W.cell? ⟨b, 3, none⟩ = some (.int .u32 (s.d.toNat : Int)) ∧ W.cell? ⟨b, 4, none⟩ = some (.int .u32 (s.e.toNat : Int)) :=
  ⟨(cells_at h rfl).1, (cells_at h rfl).1, (cells_at h rfl).1, (cells_at h rfl).1, (cells_at h rfl).1⟩
theorem add_words (x y : BitVec 32) : ((x.toNat : Int) + (y.toNat : Int)) % 4294967296 = ((x + y).toNat : Int) := bm_add x y
theorem add5w (x1 x2 x3 x4 x5 : BitVec 32) : ((x1.toNat : Int) + (x2.toNat : Int) + (x3.toNat : Int) + (x4.toNat : Int) + (x5.toNat : Int)) % 4294967296 = ((x1 + x2 + x3 + x4 + x5).toNat : Int) := by
  simp only [BitVec.toNat_add]
  omega

end Go.Proofs.YtmjenhilafdioaaDoor.G

/- bytesOf, Sum1. -/
namespace Go.Proofs.YtmjenhilafdioaaDoor.G
set_option linter.unusedVariables false
open Go.RowKit

theorem put5 {W : World} {b t : Nat} (s r : S5) (h : W.heap[b]? = some (.cells (wc s.l) t (0, 0))) :
    (((((W.setCell ⟨b, 0, none⟩ (.int .u32 (r.a.toNat : Int))).setCell ⟨b, 1, none⟩ (.int .u32 (r.b.toNat : Int))).setCell ⟨b, 2, none⟩ (.int .u32 (r.c.toNat : Int))).setCell ⟨b, 3, none⟩ (.int .u32 (r.d.toNat : Int))).setCell ⟨b, 4, none⟩ (.int .u32 (r.e.toNat : Int))).heap[b]? = some (.cells (wc r.l) t (0, 0)) := by
  rw [cells_put (cells_put (cells_put (cells_put (cells_put h _) _) _) _) _]
  rfl
theorem cells5 {W : World} {b t : Nat} (s : S5) (h : W.heap[b]? = some (.cells (wc s.l) t (0, 0))) :
    (W.cell? ⟨b, 0, none⟩ = some (.int .u32 (s.a.toNat : Int)) ∧ W.cell? ⟨b, 1, none⟩ = some (.int .u32 (s.b.toNat : Int)) ∧ W.cell? ⟨b, 2, none⟩ = some (.int .u32 (s.c.toNat : Int)) ∧ W.cell? ⟨b, 3, none⟩ = some (.int .u32 (s.d.toNat : Int)) ∧ W.cell? ⟨b, 4, none⟩ = some (.int .u32 (s.e.toNat : Int))) ∧
    (W.frozen? ⟨b, 0, none⟩ = false ∧ W.frozen? ⟨b, 1, none⟩ = false ∧ W.frozen? ⟨b, 2, none⟩ = false ∧ W.frozen? ⟨b, 3, none⟩ = false ∧ W.frozen? ⟨b, 4, none⟩ = false) :=
  ⟨s.at h, (cells_at h (j := 0) rfl).2, (cells_at h (j := 1) rfl).2, (cells_at h (j := 2) rfl).2, (cells_at h (j := 3) rfl).2, (cells_at h (j := 4) rfl).2⟩

end Go.Proofs.YtmjenhilafdioaaDoor.G

/- spread256. -/
namespace Go.Proofs.YtmjenhilafdioaaDoor.G
set_option linter.unusedVariables false
open Go.RowKit
theorem shr3 (x : BitVec 32) : (x.toNat : Int) / (8 : Int) = ((x >>> 3).toNat : Int) := by have := bv_shr x 3; rwa [show ((2 : Int) ^ 3) = (8 : Int) from rfl] at this
theorem shr10 (x : BitVec 32) : (x.toNat : Int) / (1024 : Int) = ((x >>> 10).toNat : Int) := by have := bv_shr x 10; rwa [show ((2 : Int) ^ 10) = (1024 : Int) from rfl] at this
end Go.Proofs.YtmjenhilafdioaaDoor.G

/- stir256. -/
namespace Go.Proofs.YtmjenhilafdioaaDoor.G
set_option linter.unusedVariables false
open Go.RowKit

theorem S8.at (s : S8) {W : World} {b t : Nat} (h : W.heap[b]? = some (.cells (wc s.l) t (0, 0))) :
    W.cell? ⟨b, 0, none⟩ = some (.int .u32 (s.a.toNat : Int)) ∧ W.cell? ⟨b, 1, none⟩ = some (.int .u32 (s.b.toNat : Int)) ∧ W.cell? ⟨b, 2, none⟩ = some (.int .u32 (s.c.toNat : Int)) ∧ W.cell? ⟨b, 3, none⟩ = some (.int .u32 (s.d.toNat : Int)) ∧ W.cell? ⟨b, 4, none⟩ = some (.int .u32 (s.e.toNat : Int)) ∧ W.cell? ⟨b, 5, none⟩ = some (.int .u32 (s.f.toNat : Int)) ∧ W.cell? ⟨b, 6, none⟩ = some (.int .u32 (s.g.toNat : Int)) ∧ W.cell? ⟨b, 7, none⟩ = some (.int .u32 (s.h.toNat : Int)) :=
  ⟨(cells_at h rfl).1, (cells_at h rfl).1, (cells_at h rfl).1, (cells_at h rfl).1, (cells_at h rfl).1, (cells_at h rfl).1, (cells_at h rfl).1, (cells_at h rfl).1⟩
/-- words added, as far as they have been. -/
def mix (p q : List (BitVec 32)) (i : Nat) : List (BitVec 32) := (List.zipWith (· + ·) p q).take i ++ p.drop i
theorem mix_len (p q : List (BitVec 32)) (hp : p.length = 8) (hq : q.length = 8) (i : Nat) (hi : i ≤ 8) : (mix p q i).length = 8 := by
  rw [mix, List.length_append, List.length_take, List.length_zipWith, List.length_drop]; omega
theorem mix_set (p q : List (BitVec 32)) (hp : p.length = 8) (hq : q.length = 8) (i : Nat) (hi : i < 8) : (mix p q i).set i (p[i]?.getD 0 + q[i]?.getD 0) = mix p q (i + 1) := by
  apply List.ext_getElem?
  intro k
  unfold mix
  simp only [List.getElem?_set, List.getElem?_append, List.length_take, List.length_append, List.length_zipWith, List.length_drop, hp, hq]
  by_cases h1 : i = k
  · subst h1
    rw [if_pos rfl, if_pos (by omega), if_pos (by omega), List.getElem?_take_of_lt (by omega), List.getElem?_zipWith, List.getElem?_eq_getElem (by omega : i < p.length), List.getElem?_eq_getElem (by omega : i < q.length)]
    rfl
  · rw [if_neg h1]
    by_cases h2 : k < i
    · rw [if_pos (by omega), if_pos (by omega), List.getElem?_take_of_lt (by omega), List.getElem?_take_of_lt (by omega)]
    · rw [if_neg (by omega), if_neg (by omega), List.getElem?_drop, List.getElem?_drop]
      congr 1
      omega
theorem mix_at (p q : List (BitVec 32)) (hp : p.length = 8) (hq : q.length = 8) (i : Nat) (hi : i < 8) : (mix p q i)[i]? = some (p[i]?.getD 0) := by
  unfold mix
  rw [List.getElem?_append_right (by simp [hp, hq]; omega), List.getElem?_drop, List.length_take, List.length_zipWith, hp, hq, show i + (i - min i (min 8 8)) = i by omega, List.getElem?_eq_getElem (by omega : i < p.length)]
  rfl
theorem mix_free {W : World} {b t : Nat} {p q : List (BitVec 32)} (hp : p.length = 8) (hq : q.length = 8) {i : Nat} (hi : i < 8) (h : W.heap[b]? = some (.cells (wc (mix p q i)) t (0, 0))) : W.cell? ⟨b, i, none⟩ = some (.int .u32 ((p[i]?.getD 0).toNat : Int)) ∧ W.frozen? ⟨b, i, none⟩ = false :=
  cells_at h (by rw [wc_at, mix_at p q hp hq i hi]; rfl)

theorem put8 {W : World} {b t : Nat} {cs : Array Value} (h : W.heap[b]? = some (.cells cs t (0, 0))) (hs : cs.size = 8) {x0 x1 x2 x3 x4 x5 x6 x7 : Int} :
    ((((((((W.setCell ⟨b, 0, none⟩ (.int .u32 x0)).setCell ⟨b, 1, none⟩ (.int .u32 x1)).setCell ⟨b, 2, none⟩ (.int .u32 x2)).setCell ⟨b, 3, none⟩ (.int .u32 x3)).setCell ⟨b, 4, none⟩ (.int .u32 x4)).setCell ⟨b, 5, none⟩ (.int .u32 x5)).setCell ⟨b, 6, none⟩ (.int .u32 x6)).setCell ⟨b, 7, none⟩ (.int .u32 x7)).heap[b]? = some (.cells #[.int .u32 x0, .int .u32 x1, .int .u32 x2, .int .u32 x3, .int .u32 x4, .int .u32 x5, .int .u32 x6, .int .u32 x7] t (0, 0)) := by
  rw [cells_put (cells_put (cells_put (cells_put (cells_put (cells_put (cells_put (cells_put h _) _) _) _) _) _) _) _]
  match cs, hs with
  | ⟨[a0, a1, a2, a3, a4, a5, a6, a7]⟩, _ => simp
theorem put8_other {W : World} {b : Nat} (c : Nat) (h : c ≠ b) {x0 x1 x2 x3 x4 x5 x6 x7 : Int} : ((((((((W.setCell ⟨b, 0, none⟩ (.int .u32 x0)).setCell ⟨b, 1, none⟩ (.int .u32 x1)).setCell ⟨b, 2, none⟩ (.int .u32 x2)).setCell ⟨b, 3, none⟩ (.int .u32 x3)).setCell ⟨b, 4, none⟩ (.int .u32 x4)).setCell ⟨b, 5, none⟩ (.int .u32 x5)).setCell ⟨b, 6, none⟩ (.int .u32 x6)).setCell ⟨b, 7, none⟩ (.int .u32 x7)).heap[c]? = W.heap[c]? := by
  rw [Below.heap_setCell _ _ _ _ h, Below.heap_setCell _ _ _ _ h, Below.heap_setCell _ _ _ _ h, Below.heap_setCell _ _ _ _ h, Below.heap_setCell _ _ _ _ h, Below.heap_setCell _ _ _ _ h, Below.heap_setCell _ _ _ _ h, Below.heap_setCell _ _ _ _ h]
theorem put8_below {w W : World} {b : Nat} (h : Below w.heap.size w W) (hb : w.heap.size ≤ b) {x0 x1 x2 x3 x4 x5 x6 x7 : Int} : Below w.heap.size w ((((((((W.setCell ⟨b, 0, none⟩ (.int .u32 x0)).setCell ⟨b, 1, none⟩ (.int .u32 x1)).setCell ⟨b, 2, none⟩ (.int .u32 x2)).setCell ⟨b, 3, none⟩ (.int .u32 x3)).setCell ⟨b, 4, none⟩ (.int .u32 x4)).setCell ⟨b, 5, none⟩ (.int .u32 x5)).setCell ⟨b, 6, none⟩ (.int .u32 x6)).setCell ⟨b, 7, none⟩ (.int .u32 x7)) :=
  (((((((h.setCell hb _).setCell hb _).setCell hb _).setCell hb _).setCell hb _).setCell hb _).setCell hb _).setCell hb _
theorem arr8_eq {a b c d e f g h : BitVec 32} {t : TypeId} {fz : Nat × Nat} {x y : Int} (hx : x = (a.toNat : Int)) (hy : y = (e.toNat : Int)) :
    some (Obj.cells #[.int .u32 x, .int .u32 (b.toNat : Int), .int .u32 (c.toNat : Int), .int .u32 (d.toNat : Int), .int .u32 y, .int .u32 (f.toNat : Int), .int .u32 (g.toNat : Int), .int .u32 (h.toNat : Int)] t fz) = some (Obj.cells (wc (S8.mk a b c d e f g h).l) t fz) := by
  subst hx hy
  rfl

end Go.Proofs.YtmjenhilafdioaaDoor.G
