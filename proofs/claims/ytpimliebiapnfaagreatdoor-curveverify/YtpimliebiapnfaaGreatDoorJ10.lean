/- Texts of this proof, joined: GBase, GLeaf, GWord, GSha, GRow, GEnd. -/
import Derived.WalkKit
import Derived.WalkSpells
import Derived.WalkLawsBesides
import Derived.BigQuiet
import Derived.Deep.WholeRow
import Derived.Deep.Cut
import Derived.Laws.BitsAllLaws
import Derived.Test.YtpimliebiapnfaaGreatDoorRows
import Derived.Test.YtpimliebiapnfaaGreatDoorJ9
/- Layer 4's ground: words of 32 bits as the program's numbers; the small functions. -/
namespace Go.Proofs.YtpimliebiapnfaaGreatDoor.G
set_option linter.unusedVariables false
open Go.RowKit
theorem size_list (s : ByteArray) : s.data.toList.length = s.size := rfl
theorem ba_ext {s t : ByteArray} (h : s.data.toList = t.data.toList) : s = t := by
  cases s; cases t; congr; exact Array.toList_inj.1 h
theorem ba_size (l : List UInt8) : (ByteArray.mk l.toArray).size = l.length := rfl
theorem getElem_list (s : ByteArray) (k : Nat) (h : k < s.size) : s.data.toList[k]'(by rw [size_list]; exact h) = s[k] := rfl
theorem heap_new (w : World) (o : Obj) : (w.alloc o).heap[w.heap.size]? = some o := by
  show (w.heap.push o)[w.heap.size]? = some o
  simp
theorem box_lt {W : World} {b : Nat} {o : Obj} (h : W.heap[b]? = some o) : b < W.heap.size := (Array.getElem?_eq_some_iff.1 h).1
theorem bthen {w w1 w2 : World} (h : Below w.heap.size w w1) (k : Below w1.heap.size w1 w2) : Below w.heap.size w w2 := h.trans (k.mono h.size)
theorem ret_int {k : IntKind} {a b : Int} (h : a = b) : Ending.returned (.int k a) = .returned (.int k b) := by rw [h]
theorem cell_block {w : World} {a : Addr} {v : Value} (h : w.cell? a = some v) : a.block < w.heap.size := by
  apply Classical.byContradiction
  intro hn
  have : w.heap[a.block]? = none := by simp; omega
  simp [World.cell?, this] at h
def rol (x : BitVec 32) (n : Nat) : BitVec 32 := x <<< n ||| x >>> (32 - n)
def ror (x : BitVec 32) (n : Nat) : BitVec 32 := x >>> n ||| x <<< (32 - n)
def cho (e x y : BitVec 32) : BitVec 32 := (e &&& x) ||| (~~~e &&& y)
def maj (x y z : BitVec 32) : BitVec 32 := (x &&& y) ||| (x &&& z) ||| (y &&& z)
theorem Hid.mk {p : Prop} (h : p) : Hid p := h
theorem Hid.out {p : Prop} (h : Hid p) : p := h
theorem bv_lt (x : BitVec 32) : x.toNat < 4294967296 := x.isLt
theorem bv_or (x y : BitVec 32) : bits .or .u32 (x.toNat : Int) (y.toNat : Int) = ((x ||| y).toNat : Int) := by
  rw [u32_or_nat _ _ (bv_lt x) (bv_lt y), BitVec.toNat_or]
theorem bv_and (x y : BitVec 32) : bits .and .u32 (x.toNat : Int) (y.toNat : Int) = ((x &&& y).toNat : Int) := by
  rw [u32_and_nat _ _ (bv_lt x) (bv_lt y), BitVec.toNat_and]
theorem bv_xor (x y : BitVec 32) : bits .xor .u32 (x.toNat : Int) (y.toNat : Int) = ((x ^^^ y).toNat : Int) := by
  rw [u32_xor_nat _ _ (bv_lt x) (bv_lt y), BitVec.toNat_xor]
theorem bv_not (x : BitVec 32) : bits .xor .u32 4294967295 (x.toNat : Int) = ((~~~x).toNat : Int) := by
  have : ((4294967295#32).toNat : Int) = 4294967295 := rfl
  rw [← this, bv_xor]
  congr 2
theorem bv_shl (x : BitVec 32) (n : Nat) (h : n < 32) : IntKind.u32.wrap ((x.toNat : Int) * 2 ^ n) = ((x <<< n).toNat : Int) := by
  rw [IntKind.wrap_u32, BitVec.toNat_shiftLeft, Nat.shiftLeft_eq, show ((x.toNat : Int) * 2 ^ n) = ((x.toNat * 2 ^ n : Nat) : Int) by rw [Int.natCast_mul, Int.natCast_pow]; rfl]
  generalize x.toNat * 2 ^ n = m
  omega
theorem bv_shr (x : BitVec 32) (n : Nat) : (x.toNat : Int) / 2 ^ n = ((x >>> n).toNat : Int) := by
  rw [BitVec.toNat_ushiftRight, Nat.shiftRight_eq_div_pow, Int.natCast_ediv, Int.natCast_pow]
  rfl
theorem bm_add (x y : BitVec 32) : ((x.toNat : Int) + (y.toNat : Int)) % 4294967296 = ((x + y).toNat : Int) := by
  rw [BitVec.toNat_add]
  omega
theorem bm_shl (x : BitVec 32) (n : Nat) (h : n < 32) : (x.toNat : Int) * 2 ^ n % 4294967296 = ((x <<< n).toNat : Int) := by
  rw [← bv_shl x n h, IntKind.wrap_u32]
theorem u32max : IntKind.u32.max = 4294967295 := by decide
theorem cells_put {W : World} {b j : Nat} {cs : Array Value} {t : TypeId} (h : W.heap[b]? = some (.cells cs t (0, 0))) (u : Value) : (W.setCell ⟨b, j, none⟩ u).heap[b]? = some (.cells (cs.setIfInBounds j u) t (0, 0)) := by
  simp only [World.setCell, Array.getElem?_modify, h]
  rfl
theorem cells_at {W : World} {b j : Nat} {cs : Array Value} {t : TypeId} {v : Value} (h : W.heap[b]? = some (.cells cs t (0, 0))) (hj : cs[j]? = some v) : W.cell? ⟨b, j, none⟩ = some v ∧ W.frozen? ⟨b, j, none⟩ = false := by
  simp [World.cell?, World.frozen?, h, hj]
theorem below_dn (w : World) (j : Nat) : Below w.heap.size w (w.drewN j) := ⟨rfl, rfl, rfl, Nat.le_refl _, fun _ _ => rfl⟩
theorem drew_add (w : World) (n m : Nat) : (w.drewN n).drewN m = w.drewN (n + m) := by simp [World.drewN, Nat.add_assoc]
end Go.Proofs.YtpimliebiapnfaaGreatDoor.G
/- left, right, choice, majority, round1. -/
namespace Go.Proofs.YtpimliebiapnfaaGreatDoor.G
set_option linter.unusedVariables false
open Go.RowKit
theorem right_in (x : BitVec 32) (n : Nat) (h1 : 1 ≤ n) (h2 : n ≤ 31) (w : World) :
    Calls Tryz.prog 99 #[.int .u32 (x.toNat : Int), .int .i64 (n : Int)] w fun e w' => e = .returned (.int .u32 ((ror x n).toNat : Int)) ∧ ∃ j, w' = w.drewN j := by
  go_enter Tryz.func99, Tryz.ntmps99
  go_wp2
  go_quiet (fail)
  go_wp2
  go_ret
  exact ⟨ret_int (by rw [bm_shl x _ (by omega), bv_shr, bv_or]; rfl), _, rfl⟩
theorem rright_in (x : BitVec 32) (n : Nat) (h1 : 1 ≤ n) (h2 : n ≤ 31) (w : World) :
    Calls Tryz.prog 70 #[.int .u32 (x.toNat : Int), .int .i64 (n : Int)] w fun e w' => e = .returned (.int .u32 ((ror x n).toNat : Int)) ∧ ∃ j, w' = w.drewN j := by
  go_enter Tryz.func70, Tryz.ntmps70
  go_wp2
  go_quiet (fail)
  go_wp2
  go_ret
  exact ⟨ret_int (by rw [bm_shl x _ (by omega), bv_shr, bv_or]; rfl), _, rfl⟩
theorem choice_in (x y z : BitVec 32) (w : World) :
    Calls Tryz.prog 100 #[.int .u32 (x.toNat : Int), .int .u32 (y.toNat : Int), .int .u32 (z.toNat : Int)] w fun e w' => e = .returned (.int .u32 ((cho x y z).toNat : Int)) ∧ w' = w := by
  go_enter Tryz.func100, Tryz.ntmps100
  go_wp2
  go_ret
  exact ⟨ret_int (by rw [u32max, bv_not, bv_and, bv_and, bv_or]; rfl), rfl⟩
theorem majority_in (x y z : BitVec 32) (w : World) :
    Calls Tryz.prog 101 #[.int .u32 (x.toNat : Int), .int .u32 (y.toNat : Int), .int .u32 (z.toNat : Int)] w fun e w' => e = .returned (.int .u32 ((maj x y z).toNat : Int)) ∧ w' = w := by
  go_enter Tryz.func101, Tryz.ntmps101
  go_wp2
  go_ret
  exact ⟨ret_int (by rw [bv_and, bv_and, bv_and, bv_or, bv_or]; rfl), rfl⟩
def f1 (i : Nat) (b c d : BitVec 32) : BitVec 32 := if i < 20 then cho b c d else if i < 40 then b ^^^ c ^^^ d else if i < 60 then maj b c d else b ^^^ c ^^^ d
def k1 (i : Nat) : BitVec 32 := if i < 20 then 0x5a827999#32 else if i < 40 then 0x6ed9eba1#32 else if i < 60 then 0x8f1bbcdc#32 else 0xca62c1d6#32
def nb (n : Nat) : Nat := (n + 8) / 64 + 1
theorem blocks_in (n : Nat) (hn : n ≤ 140737488355328) (w : World) :
    Calls Tryz.prog 76 #[.int .i64 (n : Int)] w fun e w' => e = .returned (.int .i64 ((nb n : Nat) : Int)) ∧ w' = w := by
  have hd : ((n : Int) + 8).tdiv 64 = ((n : Int) + 8) / 64 := Int.tdiv_eq_ediv_of_nonneg (by omega)
  go_enter Tryz.func76, Tryz.ntmps76
  go_wp2
  go_ret
  exact ⟨ret_int (by unfold nb; first | omega | (simp; omega)), rfl⟩
end Go.Proofs.YtpimliebiapnfaaGreatDoor.G
/- A block's words. -/
namespace Go.Proofs.YtpimliebiapnfaaGreatDoor.G
set_option linter.unusedVariables false
open Go.RowKit
def bc (l : List UInt8) : Array Value := (l.map fun c => Value.int .u8 (c.toNat : Int)).toArray
def wc (l : List (BitVec 32)) : Array Value := (l.map fun x => Value.int .u32 (x.toNat : Int)).toArray
theorem bc_size (l : List UInt8) : (bc l).size = l.length := by simp [bc]
theorem wc_size (l : List (BitVec 32)) : (wc l).size = l.length := by simp [wc]
theorem bc_at (l : List UInt8) (k : Nat) : (bc l)[k]? = l[k]?.map fun c => Value.int .u8 (c.toNat : Int) := by simp [bc]
theorem wc_at (l : List (BitVec 32)) (k : Nat) : (wc l)[k]? = l[k]?.map fun x => Value.int .u32 (x.toNat : Int) := by simp [wc]
def w4 (a b c d : UInt8) : BitVec 32 := BitVec.ofNat 32 (a.toNat * 16777216 + b.toNat * 65536 + c.toNat * 256 + d.toNat)
def wd (l : List UInt8) (i : Nat) : BitVec 32 := w4 (l[4 * i]?.getD 0) (l[4 * i + 1]?.getD 0) (l[4 * i + 2]?.getD 0) (l[4 * i + 3]?.getD 0)
theorem or_sum (i a b : Nat) (h : b < 2 ^ i) : 2 ^ i * a ||| b = 2 ^ i * a + b := (Nat.two_pow_add_eq_or_of_lt h a).symm
theorem or4 (a b c d : Nat) (ha : a < 256) (hb : b < 256) (hc : c < 256) (hd : d < 256) :
    bits .or .u32 (bits .or .u32 (bits .or .u32 ((a : Int) * 16777216) ((b : Int) * 65536)) ((c : Int) * 256)) (d : Int) = ((a * 16777216 + b * 65536 + c * 256 + d : Nat) : Int) := by
  have e1 : a * 16777216 ||| b * 65536 = a * 16777216 + b * 65536 := by
    have := or_sum 24 a (b * 65536) (by omega); simp only [Nat.reducePow] at this; rw [Nat.mul_comm a]; exact this
  have e2 : (a * 16777216 + b * 65536) ||| c * 256 = a * 16777216 + b * 65536 + c * 256 := by
    have := or_sum 16 (a * 256 + b) (c * 256) (by omega); simp only [Nat.reducePow] at this
    rwa [show 65536 * (a * 256 + b) = a * 16777216 + b * 65536 by omega] at this
  have e3 : (a * 16777216 + b * 65536 + c * 256) ||| d = a * 16777216 + b * 65536 + c * 256 + d := by
    have := or_sum 8 (a * 65536 + b * 256 + c) d (by omega); simp only [Nat.reducePow] at this
    rwa [show 256 * (a * 65536 + b * 256 + c) = a * 16777216 + b * 65536 + c * 256 by omega] at this
  rw [show ((a : Int) * 16777216) = ((a * 16777216 : Nat) : Int) by omega, show ((b : Int) * 65536) = ((b * 65536 : Nat) : Int) by omega, show ((c : Int) * 256) = ((c * 256 : Nat) : Int) by omega]
  rw [u32_or_nat _ _ (by omega) (by omega), e1, u32_or_nat _ _ (by omega) (by omega), e2, u32_or_nat _ _ (by omega) (by omega), e3]
theorem w4_nat (a b c d : UInt8) : (w4 a b c d).toNat = a.toNat * 16777216 + b.toNat * 65536 + c.toNat * 256 + d.toNat := by
  have := a.toNat_lt
  have := b.toNat_lt
  have := c.toNat_lt
  have := d.toNat_lt
  unfold w4
  rw [BitVec.toNat_ofNat]
  omega
theorem word_in (W : World) (b : Nat) (l : List UInt8) (hl : l.length = 64) (h : W.heap[b]? = some (.cells (bc l) 111 (0, 0))) (i : Nat) (hi : i < 16) :
    Calls Tryz.prog 120 #[.pointer (some ⟨b, 0, none⟩), .int .i64 (i : Int)] W fun e w' => e = .returned (.int .u32 ((wd l i).toNat : Int)) ∧ ∃ j, w' = W.drewN j := by
  have get : ∀ k, k < 64 → W.cell? ⟨b, k, none⟩ = some (.int .u8 ((l[k]?.getD 0).toNat : Int)) := fun k hk =>
    (cells_at h (by rw [bc_at, List.getElem?_eq_getElem (by omega)]; rfl)).1
  have c0 := get (4 * i) (by omega)
  have c1 := get (4 * i + 1) (by omega)
  have c2 := get (4 * i + 2) (by omega)
  have c3 := get (4 * i + 3) (by omega)
  unfold wd
  generalize l[4 * i]?.getD 0 = x0 at c0 ⊢
  generalize l[4 * i + 1]?.getD 0 = x1 at c1 ⊢
  generalize l[4 * i + 2]?.getD 0 = x2 at c2 ⊢
  generalize l[4 * i + 3]?.getD 0 = x3 at c3 ⊢
  clear get h hl
  have p0 := x0.toNat_lt
  have p1 := x1.toNat_lt
  have p2 := x2.toNat_lt
  have p3 := x3.toNat_lt
  go_enter Tryz.func120, Tryz.ntmps120
  go_wp2
  go_quiet (fail)
  go_wp2
  go_ret
  exact ⟨ret_int (by rw [w4_nat]; exact or4 _ _ _ _ p0 p1 p2 p3), _, rfl⟩
theorem index_const (s : ByteArray) (k : Nat) (h : k < s.size) (W : World) : (Instr.index 9 (.string s) (.int .i64 (k : Int))).run Tryz.prog W = .ok (.int .u8 (s[k].toNat : Int)) W := by
  rw [run_index_string _ _ _ _ _ Tryz.underlying9]
  simp [h]
theorem index_get (s : ByteArray) (k : Nat) (x : UInt8) (h : k < s.size) (hx : s.data.toList[k]?.getD 0 = x) (W : World) : (Instr.index 9 (.string s) (.int .i64 (k : Int))).run Tryz.prog W = .ok (.int .u8 (x.toNat : Int)) W := by
  rw [index_const s k h, ← hx, List.getElem?_eq_getElem (by rw [size_list]; exact h)]
  rfl
theorem rword_in (s : ByteArray) (a : Nat) (h : a + 3 < s.size) (hs : s.size ≤ 281474976710656) (W : World) :
    Calls Tryz.prog 69 #[.string s, .int .i64 (a : Int)] W fun e w' => e = .returned (.int .u32 ((w4 (s.data.toList[a]?.getD 0) (s.data.toList[a + 1]?.getD 0) (s.data.toList[a + 2]?.getD 0) (s.data.toList[a + 3]?.getD 0)).toNat : Int)) ∧ ∃ j, w' = W.drewN j := by
  obtain ⟨x0, h0⟩ : ∃ x, s.data.toList[a]?.getD 0 = x := ⟨_, rfl⟩
  obtain ⟨x1, h1⟩ : ∃ x, s.data.toList[a + 1]?.getD 0 = x := ⟨_, rfl⟩
  obtain ⟨x2, h2⟩ : ∃ x, s.data.toList[a + 2]?.getD 0 = x := ⟨_, rfl⟩
  obtain ⟨x3, h3⟩ : ∃ x, s.data.toList[a + 3]?.getD 0 = x := ⟨_, rfl⟩
  have j0 : ∀ W : World, (Instr.index 9 (.string s) (.int .i64 (a : Int))).run Tryz.prog W = .ok (.int .u8 (x0.toNat : Int)) W := index_get s a x0 (by omega) h0
  have j1 : ∀ W : World, (Instr.index 9 (.string s) (.int .i64 ((a : Int) + 1))).run Tryz.prog W = .ok (.int .u8 (x1.toNat : Int)) W := fun W => by have := index_get s (a + 1) x1 (by omega) h1 W; rwa [Int.natCast_add] at this
  have j2 : ∀ W : World, (Instr.index 9 (.string s) (.int .i64 ((a : Int) + 2))).run Tryz.prog W = .ok (.int .u8 (x2.toNat : Int)) W := fun W => by have := index_get s (a + 2) x2 (by omega) h2 W; rwa [Int.natCast_add] at this
  have j3 : ∀ W : World, (Instr.index 9 (.string s) (.int .i64 ((a : Int) + 3))).run Tryz.prog W = .ok (.int .u8 (x3.toNat : Int)) W := fun W => by have := index_get s (a + 3) x3 (by omega) h3 W; rwa [Int.natCast_add] at this
  rw [h0, h1, h2, h3]
  clear h0 h1 h2 h3
  have p0 := x0.toNat_lt
  have p1 := x1.toNat_lt
  have p2 := x2.toNat_lt
  have p3 := x3.toNat_lt
  go_enter Tryz.func69, Tryz.ntmps69
  go_wp2
  go_quiet (fail)
  go_wp2
  go_ret
  refine ⟨ret_int ?_, _, rfl⟩
  rw [w4_nat]
  omega
end Go.Proofs.YtpimliebiapnfaaGreatDoor.G
/- SHA-1 and SHA-256 as plain functions. Nothing here speaks of the program. -/
namespace Go.Proofs.YtpimliebiapnfaaGreatDoor.G
set_option linter.unusedVariables false
def bt (m k : Nat) : UInt8 := UInt8.ofNat (m / 2 ^ (8 * k))
def padAt (s : List UInt8) (p : Nat) : UInt8 := if p < s.length then s[p]?.getD 0 else if p = s.length then 128 else if p < 64 * nb s.length - 8 then 0 else bt (8 * s.length) (64 * nb s.length - 1 - p)
def blk (s : List UInt8) (k : Nat) : List UInt8 := (List.range 64).map fun j => padAt s (64 * k + j)
theorem blk_len (s : List UInt8) (k : Nat) : (blk s k).length = 64 := by simp [blk]
structure S5 where (a b c d e : BitVec 32)
def st1 (x : BitVec 32) (i : Nat) (s : S5) : S5 := ⟨rol s.a 5 + f1 i s.b s.c s.d + s.e + k1 i + x, s.a, rol s.b 30, s.c, s.d⟩
def b4 (x : BitVec 32) : List UInt8 := [bt x.toNat 3, bt x.toNat 2, bt x.toNat 1, bt x.toNat 0]
def S5.l (s : S5) : List (BitVec 32) := [s.a, s.b, s.c, s.d, s.e]
def rk : List (BitVec 32) := [0x428a2f98#32, 0x71374491#32, 0xb5c0fbcf#32, 0xe9b5dba5#32, 0x3956c25b#32, 0x59f111f1#32, 0x923f82a4#32, 0xab1c5ed5#32, 0xd807aa98#32, 0x12835b01#32, 0x243185be#32, 0x550c7dc3#32, 0x72be5d74#32, 0x80deb1fe#32, 0x9bdc06a7#32, 0xc19bf174#32,
  0xe49b69c1#32, 0xefbe4786#32, 0x0fc19dc6#32, 0x240ca1cc#32, 0x2de92c6f#32, 0x4a7484aa#32, 0x5cb0a9dc#32, 0x76f988da#32, 0x983e5152#32, 0xa831c66d#32, 0xb00327c8#32, 0xbf597fc7#32, 0xc6e00bf3#32, 0xd5a79147#32, 0x06ca6351#32, 0x14292967#32,
  0x27b70a85#32, 0x2e1b2138#32, 0x4d2c6dfc#32, 0x53380d13#32, 0x650a7354#32, 0x766a0abb#32, 0x81c2c92e#32, 0x92722c85#32, 0xa2bfe8a1#32, 0xa81a664b#32, 0xc24b8b70#32, 0xc76c51a3#32, 0xd192e819#32, 0xd6990624#32, 0xf40e3585#32, 0x106aa070#32,
  0x19a4c116#32, 0x1e376c08#32, 0x2748774c#32, 0x34b0bcb5#32, 0x391c0cb3#32, 0x4ed8aa4a#32, 0x5b9cca4f#32, 0x682e6ff3#32, 0x748f82ee#32, 0x78a5636f#32, 0x84c87814#32, 0x8cc70208#32, 0x90befffa#32, 0xa4506ceb#32, 0xbef9a3f7#32, 0xc67178f2#32]
def sg0 (x : BitVec 32) : BitVec 32 := ror x 7 ^^^ ror x 18 ^^^ x >>> 3
def sg1 (x : BitVec 32) : BitVec 32 := ror x 17 ^^^ ror x 19 ^^^ x >>> 10
def nx2 (l : List UInt8) (p : List (BitVec 32)) (i : Nat) : BitVec 32 := if i < 16 then wd l i else p[i - 16]?.getD 0 + sg0 (p[i - 15]?.getD 0) + p[i - 7]?.getD 0 + sg1 (p[i - 2]?.getD 0)
def sch2 (l : List UInt8) : Nat → List (BitVec 32)
  | 0 => []
  | i + 1 => sch2 l i ++ [nx2 l (sch2 l i) i]
theorem sch2_len (l : List UInt8) : ∀ n, (sch2 l n).length = n
  | 0 => rfl
  | n + 1 => by rw [sch2, List.length_append, sch2_len l n]; rfl
structure S8 where (a b c d e f g h : BitVec 32)
def tt (s : S8) (k x : BitVec 32) : BitVec 32 := s.h + (ror s.e 6 ^^^ ror s.e 11 ^^^ ror s.e 25) + cho s.e s.f s.g + k + x
def uu (s : S8) : BitVec 32 := (ror s.a 2 ^^^ ror s.a 13 ^^^ ror s.a 22) + maj s.a s.b s.c
def st2 (k x : BitVec 32) (s : S8) : S8 := ⟨tt s k x + uu s, s.a, s.b, s.c, s.d + tt s k x, s.e, s.f, s.g⟩
def rn2 (ws : List (BitVec 32)) : Nat → S8 → S8
  | 0, s => s
  | i + 1, s => st2 (rk[i]?.getD 0) (ws[i]?.getD 0) (rn2 ws i s)
def add8 (s t : S8) : S8 := ⟨s.a + t.a, s.b + t.b, s.c + t.c, s.d + t.d, s.e + t.e, s.f + t.f, s.g + t.g, s.h + t.h⟩
def stir2 (s : S8) (l : List UInt8) : S8 := add8 s (rn2 (sch2 l 64) 64 s)
def go2 (s : List UInt8) : Nat → S8
  | 0 => ⟨0x6a09e667#32, 0xbb67ae85#32, 0x3c6ef372#32, 0xa54ff53a#32, 0x510e527f#32, 0x9b05688c#32, 0x1f83d9ab#32, 0x5be0cd19#32⟩
  | k + 1 => stir2 (go2 s k) (blk s k)
def S8.l (s : S8) : List (BitVec 32) := [s.a, s.b, s.c, s.d, s.e, s.f, s.g, s.h]
def sha2 (s : List UInt8) : List UInt8 := (go2 s (nb s.length)).l.flatMap b4
theorem sha2_len (s : List UInt8) : (sha2 s).length = 32 := rfl
end Go.Proofs.YtpimliebiapnfaaGreatDoor.G
/- Whole arrays out of and into their blocks. -/
namespace Go.Proofs.YtpimliebiapnfaaGreatDoor.G
set_option linter.unusedVariables false
open Go.RowKit
theorem wpList_run {ops : Array Oper} {rest : List Oper} {o : Oper} {a : Act} {W W' : World} {Q : Exit → Act → World → Prop} {v : Value} (hgd : o.guard = none)
    (hrun : (execOp a.eval o).run Tryz.prog W = .ok (.value v) W') (h : wpList Tryz.prog ops Q rest (a.put o.dst v) W') : wpList Tryz.prog ops Q (o :: rest) a W :=
  wpList_plain hgd fun K hK => by
    unfold Oper.wp
    rw [hrun]
    exact hK _ _ h
theorem wpList_runS {ops : Array Oper} {rest : List Oper} {o : Oper} {a : Act} {W W' : World} {Q : Exit → Act → World → Prop} (hgd : o.guard = none)
    (hrun : (execOp a.eval o).run Tryz.prog W = .ok .skip W') (h : wpList Tryz.prog ops Q rest (a.put o.dst undef) W') : wpList Tryz.prog ops Q (o :: rest) a W :=
  wpList_plain hgd fun K hK => by
    unfold Oper.wp
    rw [hrun]
    exact hK _ _ h
structure ArrT (t n : Nat) : Prop where
  und : ∃ e, Tryz.prog.underlying t = some (.array n e)
  size : (Tryz.prog.info? t).map (·.size) = some n
theorem arr37 : ArrT 111 64 := ⟨⟨5, by kernel_rfl⟩, by kernel_rfl⟩
theorem arr43 : ArrT 107 8 := ⟨⟨35, by kernel_rfl⟩, by kernel_rfl⟩
theorem arr56 : ArrT 124 64 := ⟨⟨35, by kernel_rfl⟩, by kernel_rfl⟩
theorem row_loadV {t n : Nat} (ha : ArrT t n) {W : World} {b : Nat} {cs : Array Value} {fz : Nat × Nat} (h : W.heap[b]? = some (.cells cs t fz)) (hs : cs.size = n) :
    (loadVar t ⟨b, 0, none⟩).run Tryz.prog W = .ok (.agg cs) W := by
  obtain ⟨e, he⟩ := ha.und
  exact run_loadVar_row W b t t cs fz _ h he rfl (by rw [hs]; exact ha.size)
theorem row_load {t n : Nat} (ha : ArrT t n) {W : World} {b : Nat} {cs : Array Value} {fz : Nat × Nat} (h : W.heap[b]? = some (.cells cs t fz)) (hs : cs.size = n) :
    (Instr.loadAt t (.pointer (some ⟨b, 0, none⟩))).run Tryz.prog W = .ok (.agg cs) W := by
  simp only [Instr.loadAt, Instr.sureAddr, Sem.run_bind, Sem.run_pure, Result.andThen]
  exact row_loadV ha h hs
theorem row_store {t n : Nat} (ha : ArrT t n) {W : World} {b : Nat} {cs vs : Array Value} (h : W.heap[b]? = some (.cells cs t (0, 0))) (hs : cs.size = n) (hv : vs.size = n) (h1 : vs.all (·.oneCell') = true) :
    (Instr.storeAt t (.pointer (some ⟨b, 0, none⟩)) (.agg vs)).run Tryz.prog W = .ok () (W.setRow b vs) := by
  simp only [Instr.storeAt, Instr.sureAddr, Sem.run_bind, Sem.run_pure, Result.andThen]
  exact run_storeVar_row W b t t cs vs h (by rw [hv]; exact ha.size) (by rw [hs, hv]) h1
theorem op_load {t n : Nat} (ha : ArrT t n) {W : World} {b : Nat} {cs : Array Value} {fz : Nat × Nat} (h : W.heap[b]? = some (.cells cs t fz)) (hs : cs.size = n) {o : Oper} {x : Operand} {a : Act}
    (ho : o.op = .load t x) (hx : a.eval x = .pointer (some ⟨b, 0, none⟩)) : (execOp a.eval o).run Tryz.prog W = .ok (.value (.agg cs)) W := by
  simp only [execOp, ho, hx, Sem.run_bind, row_load ha h hs]
  rfl
theorem op_store {t n : Nat} (ha : ArrT t n) {W : World} {b : Nat} {cs vs : Array Value} (h : W.heap[b]? = some (.cells cs t (0, 0))) (hs : cs.size = n) (hv : vs.size = n) (h1 : vs.all (·.oneCell') = true) {o : Oper} {x y : Operand} {a : Act}
    (ho : o.op = .store t x y) (hx : a.eval x = .pointer (some ⟨b, 0, none⟩)) (hy : a.eval y = .agg vs) : (execOp a.eval o).run Tryz.prog W = .ok .skip (W.setRow b vs) := by
  simp only [execOp, ho, hx, hy, Sem.run_bind, row_store ha h hs hv h1]
  rfl
theorem Below.setRow {B : Nat} {a w : World} (h : Below B a w) {b : Nat} (hb : B ≤ b) (cs : Array Value) : Below B a (w.setRow b cs) :=
  ⟨h.os, h.tape, h.output, by simpa [World.setRow] using h.size, fun k hk => (setRow_other w b k cs (by omega)).trans (h.block k hk)⟩
theorem results_cell1 {fn : Func} {p : Tmp} {t n : Nat} (ha : ArrT t n) (h : fn.results = #[.cell p t]) {tmps : Array Value} {W : World} {b : Nat} {cs : Array Value} {fz : Nat × Nat} (hp : tmps.getD p undef = .pointer (some ⟨b, 0, none⟩)) (hb : W.heap[b]? = some (.cells cs t fz)) (hs : cs.size = n) :
    (results fn tmps).run Tryz.prog W = .ok (.agg cs) W := by
  have hp' : tmps[p]?.getD undef = .pointer (some ⟨b, 0, none⟩) := by simpa using hp
  simp only [results, h]
  simp [hp', asAddr, row_loadV ha hb hs]
theorem bc_one (l : List UInt8) : (bc l).all (·.oneCell') = true := by simp [bc, Value.oneCell']
theorem wc_one (l : List (BitVec 32)) : (wc l).all (·.oneCell') = true := by simp [wc, Value.oneCell']
theorem bc_set (l : List UInt8) (k : Nat) (c : UInt8) : (bc l).setIfInBounds k (.int .u8 (c.toNat : Int)) = bc (l.set k c) := by
  simp [bc, List.map_set]
theorem wc_set (l : List (BitVec 32)) (k : Nat) (x : BitVec 32) : (wc l).setIfInBounds k (.int .u32 (x.toNat : Int)) = wc (l.set k x) := by
  simp [wc, List.map_set]
theorem operwp_run {o : Oper} {a : Act} {W W' : World} {K : Act → World → Prop} {Q : Exit → Act → World → Prop} {v : Value} (hrun : (execOp a.eval o).run Tryz.prog W = .ok (.value v) W') (h : K (a.put o.dst v) W') : Oper.wp Tryz.prog o a W K Q := by
  unfold Oper.wp
  rw [hrun]
  exact h
theorem cells_eq {A : Array Value} {m : Nat} {t : TypeId} {fz : Nat × Nat} {x y : Int} (h : x = y) : some (Obj.cells (A.setIfInBounds m (.int .u32 x)) t fz) = some (Obj.cells (A.setIfInBounds m (.int .u32 y)) t fz) := by rw [h]
end Go.Proofs.YtpimliebiapnfaaGreatDoor.G
/- ended. -/
namespace Go.Proofs.YtpimliebiapnfaaGreatDoor.G
set_option linter.unusedVariables false
open Go.RowKit
def endT (m : Nat) : Nat → List UInt8
  | 0 => []
  | i + 1 => bt m i :: endT m i
theorem endT_len (m : Nat) : ∀ i, (endT m i).length = i
  | 0 => rfl
  | i + 1 => by rw [endT, List.length_cons, endT_len m i]
def endL (l : List UInt8) (m i : Nat) : List UInt8 := l.take (64 - i) ++ endT m i
theorem endL_len (l : List UInt8) (hl : l.length = 64) (m i : Nat) (hi : i ≤ 64) : (endL l m i).length = 64 := by
  rw [endL, List.length_append, endT_len, List.length_take]; omega
theorem endL_set (l : List UInt8) (hl : l.length = 64) (m i : Nat) (hi : i < 64) : (endL l m i).set (63 - i) (bt m i) = endL l m (i + 1) := by
  unfold endL
  apply List.ext_getElem?
  intro k
  simp only [List.getElem?_set, List.getElem?_append, List.length_take, List.length_append, endT_len, hl, endT]
  by_cases h1 : 63 - i = k
  · subst h1
    rw [if_pos rfl, if_pos (by omega), if_neg (by omega)]
    rw [show 63 - i - min (64 - (i + 1)) 64 = 0 by omega]
    rfl
  · rw [if_neg h1]
    by_cases h2 : k < 63 - i
    · rw [if_pos (by omega), if_pos (by omega), List.getElem?_take_of_lt (by omega), List.getElem?_take_of_lt (by omega)]
    · rw [if_neg (by omega), if_neg (by omega), show k - min (64 - (i + 1)) 64 = (k - min (64 - i) 64) + 1 by omega]
      rfl
theorem ended_in (l : List UInt8) (hl : l.length = 64) (n : Nat) (hn : n ≤ 140737488355328) (w : World) :
    Calls Tryz.prog 102 #[.agg (bc l), .int .i64 (n : Int)] w fun e w' => e = .returned (.agg (bc (endL l (8 * n) 8))) ∧ Below w.heap.size w w' := by
  have HL := Hid.mk hl
  clear hl
  go_enter Tryz.func102, Tryz.ntmps102
  go_wp2_with fail
  go_loopw [10] (fun i wr => ∃ m : Nat, m ≤ 8 ∧ i = .int .i64 m ∧ wr.heap[w.heap.size]? = some (.cells (bc (endL l (8 * n) m)) 111 (0, 0)) ∧ (∃ z, z.size = 64 ∧ wr.heap[w.heap.size + 1]? = some (.cells z 111 (0, 0))) ∧ Below w.heap.size w wr) (fun i _ => 8 - (intOf i).toNat)
  case atStart =>
    refine ⟨0, by omega, rfl, ?_, ⟨_, ?_, (congrArg (fun k => (World.alloc _ _).heap[k]?) (World.size_alloc w _).symm).trans (heap_new _ _)⟩, ((Below.refl _ _).alloc (Nat.le_refl _) _).alloc (by simp) _⟩
    · rw [Below.heap_alloc _ _ _ (by simp), heap_new]
      simp [endL, endT, List.take_of_length_le (Nat.le_of_eq HL.out)]
    · rfl
  case round =>
    obtain ⟨m, hm, rfl, h1, ⟨z, hz, h2⟩, hbl⟩ := hrel
    have H1 := Hid.mk h1
    have H2 := Hid.mk h2
    by_cases hlt : m < 8
    · obtain ⟨hc, hf⟩ := cells_at h1 (j := 63 - m) (by rw [bc_at, List.getElem?_eq_getElem (by rw [endL_len l HL.out _ _ (by omega)]; omega)]; rfl)
      clear h1 h2
      have hk : ((63 : Int) - (m : Int)).toNat = 63 - m := by omega
      go_wp2
      go_roundw
      case rel =>
        have hv : (n : Int) * 8 / 2 ^ (8 * m) % 256 = ((bt (8 * n) m).toNat : Int) := by
          rw [bt, UInt8.toNat_ofNat', show (n : Int) * 8 / 2 ^ (8 * m) = ((8 * n / 2 ^ (8 * m) : Nat) : Int) by rw [Int.natCast_ediv, Int.natCast_mul, Int.natCast_pow, Int.mul_comm]; rfl]
          generalize 8 * n / 2 ^ (8 * m) = q
          omega
        rw [hv]
        refine ⟨m + 1, by omega, by go_num, ?_, ⟨z, hz, ?_⟩, hbl.setCell (Nat.le_refl _) _⟩
        · rw [cells_put H1.out, bc_set, endL_set l HL.out _ _ (by omega)]
        · rw [Below.heap_setCell _ _ _ _ (by simp)]; exact H2.out
      case measure => simp [intOf]; omega
    · obtain rfl : m = 8 := by omega
      have hs := bc_size (endL l (8 * n) 8)
      rw [endL_len l HL.out _ _ (by omega)] at hs
      have HS := Hid.mk hs
      have HZ := Hid.mk hz
      clear h1 h2 hs hz
      go_upto_region 7 with fail
      refine wp_region_lit ?_
      refine wpList_run (W' := wr) (v := .agg (bc (endL l (8 * n) 8))) rfl (op_load arr37 H1.out HS.out rfl rfl) ?_
      refine wpList_runS rfl (op_store arr37 H2.out HZ.out HS.out (bc_one _) rfl rfl rfl) ?_
      go_wp2
      refine bodyPost_ret (v := .agg (bc (endL l (8 * n) 8))) (results_cell1 arr37 Tryz.results102 rfl (setRow_heap _ _ _ _ _ _ H2.out) HS.out) rfl ⟨rfl, Below.setRow hbl (by omega) _⟩
end Go.Proofs.YtpimliebiapnfaaGreatDoor.G