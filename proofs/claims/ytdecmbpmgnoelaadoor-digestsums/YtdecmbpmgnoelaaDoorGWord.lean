/- A block's words. -/
import Derived.Test.YtdecmbpmgnoelaaDoorGLeaf
namespace Go.Proofs.YtdecmbpmgnoelaaDoor
set_option linter.unusedVariables false
open Go.RowKit

/-- the cells of bytes, of words. -/
def bc (l : List UInt8) : Array Value := (l.map fun c => Value.int .u8 (c.toNat : Int)).toArray
def wc (l : List (BitVec 32)) : Array Value := (l.map fun x => Value.int .u32 (x.toNat : Int)).toArray
theorem bc_size (l : List UInt8) : (bc l).size = l.length := by simp [bc]
theorem wc_size (l : List (BitVec 32)) : (wc l).size = l.length := by simp [wc]
theorem bc_at (l : List UInt8) (k : Nat) : (bc l)[k]? = l[k]?.map fun c => Value.int .u8 (c.toNat : Int) := by simp [bc]
theorem wc_at (l : List (BitVec 32)) (k : Nat) : (wc l)[k]? = l[k]?.map fun x => Value.int .u32 (x.toNat : Int) := by simp [wc]

/-- four bytes as a word, the greatest first. -/
def w4 (a b c d : UInt8) : BitVec 32 := BitVec.ofNat 32 (a.toNat * 16777216 + b.toNat * 65536 + c.toNat * 256 + d.toNat)
def wd (l : List UInt8) (i : Nat) : BitVec 32 := w4 (l[4 * i]?.getD 0) (l[4 * i + 1]?.getD 0) (l[4 * i + 2]?.getD 0) (l[4 * i + 3]?.getD 0)

theorem or_sum (i a b : Nat) (h : b < 2 ^ i) : 2 ^ i * a ||| b = 2 ^ i * a + b := (Nat.two_pow_add_eq_or_of_lt h a).symm
theorem or4 (a b c d : Nat) (ha : a < 256) (hb : b < 256) (hc : c < 256) (hd : d < 256) :
    bits .or .u32 (bits .or .u32 (bits .or .u32 ((a : Int) * 16777216) ((b : Int) * 65536)) ((c : Int) * 256)) (d : Int) = ((a * 16777216 + b * 65536 + c * 256 + d : Nat) : Int) := by
  have e1 : a * 16777216 ||| b * 65536 = a * 16777216 + b * 65536 := by
    have := or_sum 24 a (b * 65536) (by omega); simp only [Nat.reducePow] at this; rw [Nat.mul_comm a]; exact this
  have e2 : (a * 16777216 + b * 65536) ||| c * 256 = a * 16777216 + b * 65536 + c * 256 := by
    have := or_sum 16 (a * 256 + b) (c * 256) (by omega); simp only [Nat.reducePow] at this
    rwa [show 65536 * (a * 256 + b) = a * 16777216 + b * 65536 by omega] at this
  have e3 : (a * 16777216 + b * 65536 + c * 256) ||| d = a * 16777216 + b * 65536 + c * 256 + d := by
    have := or_sum 8 (a * 65536 + b * 256 + c) d (by omega); simp only [Nat.reducePow] at this
    rwa [show 256 * (a * 65536 + b * 256 + c) = a * 16777216 + b * 65536 + c * 256 by omega] at this
  rw [show ((a : Int) * 16777216) = ((a * 16777216 : Nat) : Int) by omega, show ((b : Int) * 65536) = ((b * 65536 : Nat) : Int) by omega, show ((c : Int) * 256) = ((c * 256 : Nat) : Int) by omega]
  rw [u32_or_nat _ _ (by omega) (by omega), e1, u32_or_nat _ _ (by omega) (by omega), e2, u32_or_nat _ _ (by omega) (by omega), e3]
theorem w4_nat (a b c d : UInt8) : (w4 a b c d).toNat = a.toNat * 16777216 + b.toNat * 65536 + c.toNat * 256 + d.toNat := by
  have := a.toNat_lt
  have := b.toNat_lt
  have := c.toNat_lt
  have := d.toNat_lt
  unfold w4
  rw [BitVec.toNat_ofNat]
  omega

theorem word_in (W : World) (b : Nat) (l : List UInt8) (hl : l.length = 64) (h : W.heap[b]? = some (.cells (bc l) 36 (0, 0))) (i : Nat) (hi : i < 16) :
    Calls Tryd.prog 43 #[.pointer (some ⟨b, 0, none⟩), .int .i64 (i : Int)] W fun e w' => e = .returned (.int .u32 ((wd l i).toNat : Int)) ∧ ∃ j, w' = W.drewN j := by
  have get : ∀ k, k < 64 → W.cell? ⟨b, k, none⟩ = some (.int .u8 ((l[k]?.getD 0).toNat : Int)) := fun k hk =>
    (cells_at h (by rw [bc_at, List.getElem?_eq_getElem (by omega)]; rfl)).1
  have c0 := get (4 * i) (by omega)
  have c1 := get (4 * i + 1) (by omega)
  have c2 := get (4 * i + 2) (by omega)
  have c3 := get (4 * i + 3) (by omega)
  unfold wd
  generalize l[4 * i]?.getD 0 = x0 at c0 ⊢
  generalize l[4 * i + 1]?.getD 0 = x1 at c1 ⊢
  generalize l[4 * i + 2]?.getD 0 = x2 at c2 ⊢
  generalize l[4 * i + 3]?.getD 0 = x3 at c3 ⊢
  clear get h hl
  have p0 := x0.toNat_lt
  have p1 := x1.toNat_lt
  have p2 := x2.toNat_lt
  have p3 := x3.toNat_lt
  go_enter Tryd.func43, Tryd.ntmps43
  go_wp2
  go_quiet (fail)
  go_wp2
  go_ret
  exact ⟨ret_int (by rw [w4_nat]; exact or4 _ _ _ _ p0 p1 p2 p3), _, rfl⟩

theorem index_const (s : ByteArray) (k : Nat) (h : k < s.size) (W : World) : (Instr.index 9 (.string s) (.int .i64 (k : Int))).run Tryd.prog W = .ok (.int .u8 (s[k].toNat : Int)) W := by
  rw [run_index_string _ _ _ _ _ Tryd.underlying9]
  simp [h]
theorem index_get (s : ByteArray) (k : Nat) (x : UInt8) (h : k < s.size) (hx : s.data.toList[k]?.getD 0 = x) (W : World) : (Instr.index 9 (.string s) (.int .i64 (k : Int))).run Tryd.prog W = .ok (.int .u8 (x.toNat : Int)) W := by
  rw [index_const s k h, ← hx, List.getElem?_eq_getElem (by rw [size_list]; exact h)]
  rfl
theorem rword_in (s : ByteArray) (a : Nat) (h : a + 3 < s.size) (hs : s.size ≤ 281474976710656) (W : World) :
    Calls Tryd.prog 24 #[.string s, .int .i64 (a : Int)] W fun e w' => e = .returned (.int .u32 ((w4 (s.data.toList[a]?.getD 0) (s.data.toList[a + 1]?.getD 0) (s.data.toList[a + 2]?.getD 0) (s.data.toList[a + 3]?.getD 0)).toNat : Int)) ∧ ∃ j, w' = W.drewN j := by
  obtain ⟨x0, h0⟩ : ∃ x, s.data.toList[a]?.getD 0 = x := ⟨_, rfl⟩
  obtain ⟨x1, h1⟩ : ∃ x, s.data.toList[a + 1]?.getD 0 = x := ⟨_, rfl⟩
  obtain ⟨x2, h2⟩ : ∃ x, s.data.toList[a + 2]?.getD 0 = x := ⟨_, rfl⟩
  obtain ⟨x3, h3⟩ : ∃ x, s.data.toList[a + 3]?.getD 0 = x := ⟨_, rfl⟩
  have j0 : ∀ W : World, (Instr.index 9 (.string s) (.int .i64 (a : Int))).run Tryd.prog W = .ok (.int .u8 (x0.toNat : Int)) W := index_get s a x0 (by omega) h0
  have j1 : ∀ W : World, (Instr.index 9 (.string s) (.int .i64 ((a : Int) + 1))).run Tryd.prog W = .ok (.int .u8 (x1.toNat : Int)) W := fun W => by have := index_get s (a + 1) x1 (by omega) h1 W; rwa [Int.natCast_add] at this
  have j2 : ∀ W : World, (Instr.index 9 (.string s) (.int .i64 ((a : Int) + 2))).run Tryd.prog W = .ok (.int .u8 (x2.toNat : Int)) W := fun W => by have := index_get s (a + 2) x2 (by omega) h2 W; rwa [Int.natCast_add] at this
  have j3 : ∀ W : World, (Instr.index 9 (.string s) (.int .i64 ((a : Int) + 3))).run Tryd.prog W = .ok (.int .u8 (x3.toNat : Int)) W := fun W => by have := index_get s (a + 3) x3 (by omega) h3 W; rwa [Int.natCast_add] at this
  rw [h0, h1, h2, h3]
  clear h0 h1 h2 h3
  have p0 := x0.toNat_lt
  have p1 := x1.toNat_lt
  have p2 := x2.toNat_lt
  have p3 := x3.toNat_lt
  go_enter Tryd.func24, Tryd.ntmps24
  go_wp2
  go_quiet (fail)
  go_wp2
  go_ret
  refine ⟨ret_int ?_, _, rfl⟩
  rw [w4_nat]
  omega
end Go.Proofs.YtdecmbpmgnoelaaDoor
