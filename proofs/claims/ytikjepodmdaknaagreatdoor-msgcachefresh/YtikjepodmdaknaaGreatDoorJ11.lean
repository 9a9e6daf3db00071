/- Texts of this proof, joined: RsF, LcR, LcM, LcA, LcG, LeT. -/
import Derived.Lib.SlicesCompact
import Derived.Lib.RowBridge
import Derived.Test.YtikjepodmdaknaaGreatDoorJ10
import Derived.Test.YtikjepodmdaknaaGreatDoorJ9
import Derived.Deep.RegionHeld3
import Derived.Maps.OwnSet
import Derived.DeepKeys4
import Derived.Maps.AppendAt
set_option linter.unusedVariables false
set_option linter.unusedSimpArgs false
/- Layer 8: any set: what is right; which two are the same. Facts alone. -/
namespace Go.Proofs.YtikjepodmdaknaaGreatDoor
open Go.RowKit
structure Sv where
 nm : ByteArray
 ty : Int
 cl : Int
 tl : Int
 ds : List ByteArray
 sg : List ByteArray
def sortB (l : List (List UInt8)) : List (List UInt8) := l.mergeSort fun x y => decide (x ≤ y)
noncomputable def lowsS (s : Sv) : List (List UInt8) := s.ds.map fun d => (lowR s.ty d).data.toList
noncomputable def covOk (k : Int) (x : ByteArray) : Bool := match splitR 46 x with
 | some (p :: _) => decide (((numB p.data.toList : Nat) : Int) = k)
 | _ => false
noncomputable def headOk (s : Sv) : Bool := isN s.nm && mks s.ty && ftB s.cl 16 && ftB s.tl 31
noncomputable def datOk (s : Sv) : Bool := decide (1 ≤ s.ds.length) && decide (s.ds.length ≤ 200) && s.ds.all (dRt s.ty) && decide (lowsS s).Nodup
noncomputable def sigOk (s : Sv) : Bool := decide (s.sg.length ≤ 200) && s.sg.all (covOk s.ty)
noncomputable def setOk (s : Sv) : Bool := headOk s && datOk s && sigOk s
noncomputable def sameS (a b : Sv) : Bool := setOk a && setOk b && a.ty == b.ty && a.cl == b.cl && eqF a.nm b.nm && decide (sortB (lowsS a) = sortB (lowsS b))
section
theorem leL_trans (a b c : List UInt8) (h1 : decide (a ≤ b) = true) (h2 : decide (b ≤ c) = true) : decide (a ≤ c) = true := decide_eq_true (List.le_trans (of_decide_eq_true h1) (of_decide_eq_true h2))
theorem leL_total (a b : List UInt8) : (decide (a ≤ b) || decide (b ≤ a)) = true := by
 rcases List.le_total a b with h | h
 ·rw [decide_eq_true h]; rfl
 ·rw [decide_eq_true h, Bool.or_true]
theorem sortB_perm (l : List (List UInt8)) : (sortB l).Perm l := List.mergeSort_perm l _
theorem sortB_sorted (l : List (List UInt8)) : (sortB l).Pairwise fun a b => decide (a ≤ b) = true := List.pairwise_mergeSort leL_trans leL_total l
theorem sortB_len (l : List (List UInt8)) : (sortB l).length = l.length := (sortB_perm l).length_eq
theorem compact_nodup {l : List (List UInt8)} (hs : l.Pairwise fun a b => decide (a ≤ b) = true) : (Lib.compact l).length = l.length ↔ l.Nodup := by
 have hlen : (Lib.compact l).length = ((List.range l.length).filter (Lib.keeps l.toArray)).length := by unfold Lib.compact Lib.compactUpTo; rw [List.length_map]
 have get : ∀ j (hj : j < l.length), l.toArray[j]! = l[j] := fun j hj => by simp [hj]
 rw [hlen]
 constructor
 ·intro h
  have hall := List.length_filter_eq_length_iff.1 (h.trans (List.length_range (n := l.length)).symm)
  rw [List.Nodup, List.pairwise_iff_getElem]
  intro i j hi hj hij e
  have hk := hall j (List.mem_range.2 hj)
  unfold Lib.keeps at hk
  have hk' := of_decide_eq_true hk
  rw [get j hj, get (j - 1) (by omega)] at hk'
  rcases hk' with h0 | h0
  ·omega
  ·have s1 : l[j - 1] ≤ l[j] := of_decide_eq_true (List.pairwise_iff_getElem.1 hs (j - 1) j (by omega) hj (by omega))
   have s2 : l[i] ≤ l[j - 1] := by
    by_cases hc : i = j - 1
    ·subst hc; exact List.le_refl _
    ·exact of_decide_eq_true (List.pairwise_iff_getElem.1 hs i (j - 1) hi (by omega) (by omega))
   exact h0 (List.le_antisymm (e ▸ s2) s1)
 ·intro h
  rw [List.filter_eq_self.2 fun j hj => ?_, List.length_range]
  have hj' : j < l.length := List.mem_range.1 hj
  unfold Lib.keeps
  refine decide_eq_true ?_
  by_cases h0 : j = 0
  ·exact .inl h0
  ·refine .inr ?_
   rw [get j hj', get (j - 1) (by omega)]
   exact fun e => List.pairwise_iff_getElem.1 h (j - 1) j (by omega) hj' (by omega) e.symm
end
end Go.Proofs.YtikjepodmdaknaaGreatDoor
/- Layer 8: records: whether they are right, their keys, their TTL. -/
namespace Go.Proofs.YtikjepodmdaknaaGreatDoor
open Go.RowKit
theorem ftB_shr (n : Int) (b : Nat) (h : 0 ≤ n) : (n / 2 ^ b == 0) = decide (n < 2 ^ b) := by
 have hp : (0 : Int) < 2 ^ b := Int.pow_pos (by decide)
 rw [Bool.eq_iff_iff, beq_iff_eq, decide_eq_true_iff]
 constructor
 ·intro h0
  rcases Int.lt_or_le n (2 ^ b) with h1 | h1
  ·exact h1
  ·have := Int.ediv_le_ediv hp h1
   rw [Int.ediv_self (by omega), h0] at this
   omega
 ·intro h1
  exact Int.ediv_eq_zero_of_lt h h1
set_option maxRecDepth 100000 in
theorem fits_in (n : Int) (b : Nat) (hb : b = 16 ∨ b = 31 ∨ b = 32) (W : World) : Calls Tryz.prog 155 #[.int .i64 n, .int .i64 (b : Int)] W fun e w' => e = .returned (.bool (ftB n b)) ∧ w' = W := by
 by_cases h0 : 0 ≤ n
 ·have hd : decide (0 ≤ n) = true := decide_eq_true h0
  have e : ftB n b = (n / 2 ^ b == 0) := by rw [ftB_shr n b h0, ftB, hd, Bool.true_and]
  rw [e]
  rcases hb with rfl | rfl | rfl
  all_goals
   go_enter Tryz.func155, Tryz.ntmps155
   go_wp2
   go_ret
   exact ⟨rfl, rfl⟩
 ·have hd : decide (0 ≤ n) = false := decide_eq_false h0
  have e : ftB n b = false := by rw [ftB, hd, Bool.false_and]
  rw [e]
  rcases hb with rfl | rfl | rfl
  all_goals
   go_enter Tryz.func155, Tryz.ntmps155
   go_wp2
   go_ret
   exact ⟨rfl, rfl⟩
set_option maxRecDepth 100000 in
theorem makes_in (k : Int) (W : World) : Calls Tryz.prog 154 #[.int .i64 k] W fun e w' => e = .returned (.bool (mks k)) ∧ w' = W := by
 unfold mks
 by_cases h1 : k = 46
 ·subst h1
  go_enter Tryz.func154, Tryz.ntmps154
  go_wp2
  go_ret
  exact ⟨rfl, rfl⟩
 ·have h2 : (k != 46) = true := by simpa using h1
  rw [h2, Bool.true_and]
  go_enter Tryz.func154, Tryz.ntmps154
  go_wp2
  go_ret
  exact ⟨rfl, rfl⟩
structure Bx (W : World) (b : Nat) (c : List Value) (t : TypeId) (w : World) : Prop where
 hb : w.heap[b]? = some (.cells c.toArray t (0, 0))
 bel : Below W.heap.size W w
 le : W.heap.size ≤ b
theorem Bx.new (W : World) (c : List Value) (t : TypeId) : Bx W W.heap.size c t (W.alloc (.cells c.toArray t)) := ⟨by show (W.heap.push _)[W.heap.size]? = _; simp, (Below.refl _ _).alloc (Nat.le_refl _) _, Nat.le_refl _⟩
theorem Bx.blk {W w w' : World} {b : Nat} {c : List Value} {t : TypeId} (h : Bx W b c t w) (hb : Below w.heap.size w w') : Bx W b c t w' := ⟨(hb.block b (Array.getElem?_eq_some_iff.1 h.hb).1).trans h.hb, h.bel.trans (hb.mono h.bel.size), h.le⟩
theorem Bx.cell {W w : World} {b : Nat} {c : List Value} {t : TypeId} (h : Bx W b c t w) (i : Nat) (v : Value) (hv : c[i]? = some v) : w.cell? ⟨b, i, none⟩ = some v := by rw [So.cell_blk h.hb, List.getElem?_toArray, hv]
theorem Bx.lt {W w : World} {b : Nat} {c : List Value} {t : TypeId} (h : Bx W b c t w) : b < w.heap.size := (Array.getElem?_eq_some_iff.1 h.hb).1
structure Bx2 (W : World) (b : Nat) (c : List Value) (t : TypeId) (b' : Nat) (c' : List Value) (t' : TypeId) (w : World) : Prop where
 x : Bx W b c t w
 y : Bx W b' c' t' w
theorem Bx2.blk {W w w' : World} {b : Nat} {c : List Value} {t : TypeId} {b' : Nat} {c' : List Value} {t' : TypeId} (h : Bx2 W b c t b' c' t' w) (hb : Below w.heap.size w w') : Bx2 W b c t b' c' t' w' := ⟨h.x.blk hb, h.y.blk hb⟩
theorem Bx2.new (W : World) (c c' : List Value) (t t' : TypeId) : Bx2 W W.heap.size c t (W.heap.size + 1) c' t' ((W.alloc (.cells c.toArray t)).alloc (.cells c'.toArray t')) := by
 refine ⟨(Bx.new W c t).blk ((Below.refl _ _).alloc (Nat.le_refl _) _), ?_⟩
 have := Bx.new (W.alloc (.cells c.toArray t)) c' t'
 rw [World.size_alloc] at this
 exact ⟨this.hb, ((Below.refl W.heap.size W).alloc (Nat.le_refl _) _).trans (this.bel.mono (by simp)), by omega⟩
theorem hset {w : World} {b : Nat} {c : Array Value} {t : TypeId} {f : Nat × Nat} (h : w.heap[b]? = some (.cells c t f)) (i : Nat) (v : Value) : (w.setCell ⟨b, i, none⟩ v).heap[b]? = some (.cells (c.setIfInBounds i v) t f) := by
 simp only [World.setCell, Array.getElem?_modify, if_true, h]
 rfl
end Go.Proofs.YtikjepodmdaknaaGreatDoor
/- Maps whose keys are texts or structs: what they hold under each key. -/
namespace Go.Proofs.YtikjepodmdaknaaGreatDoor
open Go.RowKit
open Go.MapKept Go.WideMaps
theorem laidOut : laidOutB Tryz.prog = true := by kernel_rfl
def I64 (k : Int) : Prop := -9223372036854775808 ≤ k ∧ k ≤ 9223372036854775807
theorem I64.wf {k : Int} (h : I64 k) : (Lit.int .i64 k).wf = true := Go.WalkArith.wf_i64 h
theorem lit_str (n : Nat) (x : ByteArray) (h : x.size ≤ maxLen) : Tryz.prog.keyLits (n + 1) 9 [.string x] = some [.string x.data.toList] := by
 simp [Program.keyLits, Tryz.underlying9, h]
theorem lit_int (n : Nat) (x : Int) (h : (Lit.int .i64 x).wf = true) : Tryz.prog.keyLits (n + 1) 3 [.int .i64 x] = some [.int .i64 x] := by
 simp [Program.keyLits, Tryz.underlying3, h]
end Go.Proofs.YtikjepodmdaknaaGreatDoor
/- Layer 14: what zones answer, as lists. -/
namespace Go.Proofs.YtikjepodmdaknaaGreatDoor
open Go.RowKit
end Go.Proofs.YtikjepodmdaknaaGreatDoor
/- Layer 8: sets in the making, in memory: what lies where; facts alone. -/
namespace Go.Proofs.YtikjepodmdaknaaGreatDoor
open Go.RowKit
open Go.MapKept Go.WideMaps
open Go.Proofs.YtikjepodmdaknaaGreatDoor.So (El)
def strs (l : List ByteArray) : List Value := l.map Value.string
theorem own_same {w w' : World} {N e size k : Nat} {v : Value} {l : List Value} (hr : w.ownsRow N e size v k l) (h : ∀ b c f, v.ownBlock = some b → w.heap[b]? = some (.cells c e f) → w'.heap[b]? = w.heap[b]?) : w'.ownsRow N e size v k l := by
 obtain ⟨hl, h0 | ⟨g, cap, cur, hv, hg0, hg, r⟩⟩ := hr
 ·exact ⟨hl, .inl h0⟩
 ·exact ⟨hl, .inr ⟨g, cap, cur, hv, hg0, (h g cur _ (by rw [hv]; rfl) hg).trans hg, r⟩⟩
theorem own_lt {w : World} {N e size k : Nat} {v : Value} {l : List Value} (hr : w.ownsRow N e size v k l) {b : Nat} (h : v.ownBlock = some b) : b < w.heap.size ∧ N ≤ b ∧ ∃ c, w.heap[b]? = some (.cells c e (0, 0)) := by
 obtain ⟨hl, ⟨rfl, _⟩ | ⟨g, cap, cur, rfl, hg0, hg, r⟩⟩ := hr
 ·simp [Value.ownBlock] at h
 ·obtain rfl : g = b := by simpa [Value.ownBlock] using h
  exact ⟨(Array.getElem?_eq_some_iff.1 hg).1, hg0, cur, hg⟩
theorem own_blk {w w' : World} {N e size k : Nat} {v : Value} {l : List Value} (hr : w.ownsRow N e size v k l) (hb : Below w.heap.size w w') : w'.ownsRow N e size v k l :=
 own_same hr fun b c f _ h => hb.block b (Array.getElem?_eq_some_iff.1 h).1
theorem srow_any {w : World} {N n : Nat} {v : Value} {l : List Value} {e size : Nat} (h : w.ownsRow N e size v n l) : ∃ q cap, v = .slice q n cap := by
 obtain ⟨hl, ⟨rfl, rfl⟩ | ⟨g, cap, cur, hv, hg0, hg, hn, hm, hs, ht⟩⟩ := h
 ·exact ⟨_, _, rfl⟩
 ·exact ⟨_, _, hv⟩
end Go.Proofs.YtikjepodmdaknaaGreatDoor
/- Texts in a slice. -/
namespace Go.Proofs.YtikjepodmdaknaaGreatDoor
open Go.RowKit
def TxAt (w : World) (q : Option Addr) (ds : List ByteArray) : Prop := ∀ j (hj : j < ds.length), ∃ b off, q = some ⟨b, off, none⟩ ∧ b < w.heap.size ∧ w.cell? ⟨b, off + j, none⟩ = some (.string ds[j])
theorem TxAt.blk {w w' : World} {q : Option Addr} {ds : List ByteArray} (h : TxAt w q ds) (hb : Below w.heap.size w w') : TxAt w' q ds := fun j hj => by
 obtain ⟨b, off, e, hlt, hc⟩ := h j hj
 exact ⟨b, off, e, Nat.lt_of_lt_of_le hlt hb.size, (hb.cell (p := ⟨b, off + j, none⟩) hlt).trans hc⟩
end Go.Proofs.YtikjepodmdaknaaGreatDoor
