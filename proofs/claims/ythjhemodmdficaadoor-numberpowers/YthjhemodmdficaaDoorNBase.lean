/- Layer 5's ground: rows of digits of 32 bits as numbers, and where they lie. -/
import Derived.WalkKit
import Derived.WalkSpells
import Derived.WalkLawsBesides
import Derived.BigQuiet
import Derived.Deep.WholeRow
import Derived.Deep.Cut
import Derived.Deep.RegionHeld3
import Derived.Deep.RegionLaw
import Derived.Laws.BitsAllLaws
import Derived.Laws.CopyOwn
import Derived.Test.YthjhemodmdficaaDoorRows
namespace Go.Proofs.YthjhemodmdficaaDoor
set_option linter.unusedVariables false
open Go.RowKit

theorem size_list (s : ByteArray) : s.data.toList.length = s.size := rfl
theorem ba_ext {s t : ByteArray} (h : s.data.toList = t.data.toList) : s = t := by
  cases s; cases t; congr; exact Array.toList_inj.1 h
theorem ba_size (l : List UInt8) : (ByteArray.mk l.toArray).size = l.length := rfl
theorem heap_new (w : World) (o : Obj) : (w.alloc o).heap[w.heap.size]? = some o := by
  show (w.heap.push o)[w.heap.size]? = some o
  simp
theorem box_lt {W : World} {b : Nat} {o : Obj} (h : W.heap[b]? = some o) : b < W.heap.size := (Array.getElem?_eq_some_iff.1 h).1
theorem bthen {w w1 w2 : World} (h : Below w.heap.size w w1) (k : Below w1.heap.size w1 w2) : Below w.heap.size w w2 := h.trans (k.mono h.size)
theorem ret_int {k : IntKind} {a b : Int} (h : a = b) : Ending.returned (.int k a) = .returned (.int k b) := by rw [h]
theorem cell_block {w : World} {a : Addr} {v : Value} (h : w.cell? a = some v) : a.block < w.heap.size := by
  apply Classical.byContradiction
  intro hn
  have : w.heap[a.block]? = none := by simp; omega
  simp [World.cell?, this] at h
theorem Hid.mk {p : Prop} (h : p) : Hid p := h
theorem Hid.out {p : Prop} (h : Hid p) : p := h
theorem bv_lt (x : BitVec 32) : x.toNat < 4294967296 := x.isLt
theorem bv_of (n : Nat) : (BitVec.ofNat 32 n).toNat = n % 4294967296 := BitVec.toNat_ofNat ..
theorem below_dn (w : World) (j : Nat) : Below w.heap.size w (w.drewN j) := ⟨rfl, rfl, rfl, Nat.le_refl _, fun _ _ => rfl⟩
theorem below_le (w : World) (B n : Nat) : Below B w (w.drewN n) := ⟨rfl, rfl, rfl, Nat.le_refl _, fun _ _ => rfl⟩
theorem drew_add (w : World) (n m : Nat) : (w.drewN n).drewN m = w.drewN (n + m) := by simp [World.drewN, Nat.add_assoc]
theorem addr_at (b o j : Nat) : (⟨b, o, none⟩ : Addr).add j = ⟨b, o + j, none⟩ := by unfold Addr.add; split <;> simp_all

/-- the number of digits, the least first. -/
def val : List (BitVec 32) → Nat
  | [] => 0
  | x :: l => x.toNat + 4294967296 * val l
theorem val_app : ∀ (a b : List (BitVec 32)), val (a ++ b) = val a + 4294967296 ^ a.length * val b
  | [], b => by simp [val]
  | x :: a, b => by
    rw [List.cons_append, val, val_app a b, val, List.length_cons, Nat.pow_succ, Nat.mul_add, Nat.mul_comm _ 4294967296, Nat.mul_assoc]
    omega
theorem val_one (x : BitVec 32) : val [x] = x.toNat := by simp [val]
theorem val_snoc (a : List (BitVec 32)) (x : BitVec 32) : val (a ++ [x]) = val a + 4294967296 ^ a.length * x.toNat := by rw [val_app, val_one]
theorem val_lt : ∀ l : List (BitVec 32), val l < 4294967296 ^ l.length
  | [] => by simp [val]
  | x :: l => by
    have := val_lt l
    have := bv_lt x
    rw [val, List.length_cons, Nat.pow_succ]
    omega
theorem val_inj : ∀ (a b : List (BitVec 32)), a.length = b.length → val a = val b → a = b
  | [], [], _, _ => rfl
  | x :: a, y :: b, hl, hv => by
    rw [val, val] at hv
    have := bv_lt x
    have := bv_lt y
    have h1 : x.toNat = y.toNat := by omega
    have h2 : val a = val b := by omega
    rw [BitVec.eq_of_toNat_eq h1, val_inj a b (by simpa using hl) h2]
theorem val_zero (n : Nat) : val (List.replicate n 0) = 0 := by
  induction n with
  | zero => rfl
  | succ n ih => rw [List.replicate_succ, val, ih]; rfl
theorem val_take_succ (l : List (BitVec 32)) (m : Nat) (h : m < l.length) : val (l.take (m + 1)) = val (l.take m) + 4294967296 ^ m * (l[m]?.getD 0).toNat := by
  rw [List.take_add_one, List.getElem?_eq_getElem h]
  show val (l.take m ++ [l[m]]) = _
  rw [val_snoc, List.length_take, Nat.min_eq_left (by omega)]
  rfl

/-- digits as cells. -/
def wl (l : List (BitVec 32)) : List Value := l.map fun x => Value.int .u32 (x.toNat : Int)
theorem wl_len (l : List (BitVec 32)) : (wl l).length = l.length := by simp [wl]
theorem wl_app (a b : List (BitVec 32)) : wl (a ++ b) = wl a ++ wl b := by simp [wl]
theorem wl_one (l : List (BitVec 32)) : ∀ v ∈ wl l, v.oneCell' = true := fun v hv => by obtain ⟨x, _, rfl⟩ := List.mem_map.1 hv; rfl
theorem wl_at (l : List (BitVec 32)) (j : Nat) (h : j < l.length) : (wl l)[j]? = some (.int .u32 ((l[j]?.getD 0).toNat : Int)) := by
  simp [wl, List.getElem?_eq_getElem h]
/-- a block that holds digits from place o on. -/
theorem mid_at (A C : List Value) (l : List (BitVec 32)) (j : Nat) (h : j < l.length) : (A ++ (wl l ++ C))[A.length + j]? = some (.int .u32 ((l[j]?.getD 0).toNat : Int)) := by
  rw [List.getElem?_append_right (by omega), Nat.add_sub_cancel_left, List.getElem?_append_left (by rw [wl_len]; exact h), wl_at l j h]
theorem mid_set (A C : List Value) (l : List (BitVec 32)) (j : Nat) (h : j < l.length) (z : BitVec 32) : (A ++ (wl l ++ C)).set (A.length + j) (.int .u32 (z.toNat : Int)) = A ++ (wl (l.set j z) ++ C) := by
  rw [List.set_append_right _ _ (by omega), Nat.add_sub_cancel_left, List.set_append_left _ _ (by rw [wl_len]; exact h)]
  simp [wl]
theorem cells_at {W : World} {b j : Nat} {L : List Value} {t : TypeId} {v : Value} (h : W.heap[b]? = some (.cells L.toArray t (0, 0))) (hj : L[j]? = some v) : W.cell? ⟨b, j, none⟩ = some v ∧ W.frozen? ⟨b, j, none⟩ = false := by
  simp [World.cell?, World.frozen?, h, hj]
theorem cells_put {W : World} {b j : Nat} {L : List Value} {t : TypeId} (h : W.heap[b]? = some (.cells L.toArray t (0, 0))) (u : Value) : (W.setCell ⟨b, j, none⟩ u).heap[b]? = some (.cells (L.set j u).toArray t (0, 0)) := by
  simp only [World.setCell, Array.getElem?_modify, h]
  simp
/-- nothing but one block has turned. -/
structure But (g : Nat) (w w' : World) : Prop where
  os : w'.os = w.os
  tape : w'.tape = w.tape
  output : w'.output = w.output
  size : w.heap.size ≤ w'.heap.size
  block : ∀ k, k ≠ g → k < w.heap.size → w'.heap[k]? = w.heap[k]?
theorem But.refl (g : Nat) (w : World) : But g w w := ⟨rfl, rfl, rfl, Nat.le_refl _, fun _ _ _ => rfl⟩
theorem But.trans {g : Nat} {a b c : World} (h : But g a b) (k : But g b c) : But g a c :=
  ⟨k.os.trans h.os, k.tape.trans h.tape, k.output.trans h.output, Nat.le_trans h.size k.size, fun i hi hl => (k.block i hi (Nat.lt_of_lt_of_le hl h.size)).trans (h.block i hi hl)⟩
theorem But.drewN (g : Nat) (w : World) (n : Nat) : But g w (w.drewN n) := ⟨rfl, rfl, rfl, Nat.le_refl _, fun _ _ _ => rfl⟩
theorem But.setCell (g j : Nat) (w : World) (v : Value) : But g w (w.setCell ⟨g, j, none⟩ v) :=
  ⟨rfl, rfl, rfl, by simp, fun k hk _ => Below.heap_setCell w ⟨g, j, none⟩ v k hk⟩
theorem But.below {B g : Nat} {w0 a b : World} (h : Below B w0 a) (k : But g a b) (hB : B ≤ g) (hs : B ≤ a.heap.size) : Below B w0 b :=
  ⟨k.os.trans h.os, k.tape.trans h.tape, k.output.trans h.output, Nat.le_trans h.size k.size, fun i hi => (k.block i (by omega) (by omega)).trans (h.block i hi)⟩
theorem But.of {g : Nat} {a b : World} (h : Below a.heap.size a b) : But g a b := ⟨h.os, h.tape, h.output, h.size, fun k _ hk => h.block k hk⟩
theorem But.cell {g : Nat} {a b : World} (h : But g a b) {p : Addr} {v : Value} (hp : p.block ≠ g) (hc : a.cell? p = some v) : b.cell? p = some v :=
  (World.cell?_of_block (w := a) (h.block p.block hp (cell_block hc))).trans hc
end Go.Proofs.YthjhemodmdficaaDoor
