/- SHA-1 and SHA-256 as plain functions. Nothing here speaks of the program. -/
import Derived.Test.YtdecmbpmgnoelaaDoorGWord
namespace Go.Proofs.YtdecmbpmgnoelaaDoor
set_option linter.unusedVariables false

/-- the k-th byte of a number, from its end. -/
def bt (m k : Nat) : UInt8 := UInt8.ofNat (m / 2 ^ (8 * k))
/-- the byte at place p of a text made up to blocks. -/
def padAt (s : List UInt8) (p : Nat) : UInt8 := if p < s.length then s[p]?.getD 0 else if p = s.length then 128 else if p < 64 * nb s.length - 8 then 0 else bt (8 * s.length) (64 * nb s.length - 1 - p)
/-- its k-th block. -/
def blk (s : List UInt8) (k : Nat) : List UInt8 := (List.range 64).map fun j => padAt s (64 * k + j)
theorem blk_len (s : List UInt8) (k : Nat) : (blk s k).length = 64 := by simp [blk]

def nx1 (l : List UInt8) (p : List (BitVec 32)) (i : Nat) : BitVec 32 := if i < 16 then wd l i else rol (p[i - 3]?.getD 0 ^^^ p[i - 8]?.getD 0 ^^^ p[i - 14]?.getD 0 ^^^ p[i - 16]?.getD 0) 1
def sch1 (l : List UInt8) : Nat → List (BitVec 32)
  | 0 => []
  | i + 1 => sch1 l i ++ [nx1 l (sch1 l i) i]
theorem sch1_len (l : List UInt8) : ∀ n, (sch1 l n).length = n
  | 0 => rfl
  | n + 1 => by rw [sch1, List.length_append, sch1_len l n]; rfl
structure S5 where (a b c d e : BitVec 32)
def st1 (x : BitVec 32) (i : Nat) (s : S5) : S5 := ⟨rol s.a 5 + f1 i s.b s.c s.d + s.e + k1 i + x, s.a, rol s.b 30, s.c, s.d⟩
def rn1 (ws : List (BitVec 32)) : Nat → S5 → S5
  | 0, s => s
  | i + 1, s => st1 (ws[i]?.getD 0) i (rn1 ws i s)
def add5 (s t : S5) : S5 := ⟨s.a + t.a, s.b + t.b, s.c + t.c, s.d + t.d, s.e + t.e⟩
def stir1 (s : S5) (l : List UInt8) : S5 := add5 s (rn1 (sch1 l 80) 80 s)
def go1 (s : List UInt8) : Nat → S5
  | 0 => ⟨0x67452301#32, 0xefcdab89#32, 0x98badcfe#32, 0x10325476#32, 0xc3d2e1f0#32⟩
  | k + 1 => stir1 (go1 s k) (blk s k)
/-- a word's bytes. -/
def b4 (x : BitVec 32) : List UInt8 := [bt x.toNat 3, bt x.toNat 2, bt x.toNat 1, bt x.toNat 0]
def S5.l (s : S5) : List (BitVec 32) := [s.a, s.b, s.c, s.d, s.e]
def sha1 (s : List UInt8) : List UInt8 := (go1 s (nb s.length)).l.flatMap b4

def rk : List (BitVec 32) := [0x428a2f98#32, 0x71374491#32, 0xb5c0fbcf#32, 0xe9b5dba5#32, 0x3956c25b#32, 0x59f111f1#32, 0x923f82a4#32, 0xab1c5ed5#32, 0xd807aa98#32, 0x12835b01#32, 0x243185be#32, 0x550c7dc3#32, 0x72be5d74#32, 0x80deb1fe#32, 0x9bdc06a7#32, 0xc19bf174#32,
  0xe49b69c1#32, 0xefbe4786#32, 0x0fc19dc6#32, 0x240ca1cc#32, 0x2de92c6f#32, 0x4a7484aa#32, 0x5cb0a9dc#32, 0x76f988da#32, 0x983e5152#32, 0xa831c66d#32, 0xb00327c8#32, 0xbf597fc7#32, 0xc6e00bf3#32, 0xd5a79147#32, 0x06ca6351#32, 0x14292967#32,
  0x27b70a85#32, 0x2e1b2138#32, 0x4d2c6dfc#32, 0x53380d13#32, 0x650a7354#32, 0x766a0abb#32, 0x81c2c92e#32, 0x92722c85#32, 0xa2bfe8a1#32, 0xa81a664b#32, 0xc24b8b70#32, 0xc76c51a3#32, 0xd192e819#32, 0xd6990624#32, 0xf40e3585#32, 0x106aa070#32,
  0x19a4c116#32, 0x1e376c08#32, 0x2748774c#32, 0x34b0bcb5#32, 0x391c0cb3#32, 0x4ed8aa4a#32, 0x5b9cca4f#32, 0x682e6ff3#32, 0x748f82ee#32, 0x78a5636f#32, 0x84c87814#32, 0x8cc70208#32, 0x90befffa#32, 0xa4506ceb#32, 0xbef9a3f7#32, 0xc67178f2#32]
def sg0 (x : BitVec 32) : BitVec 32 := ror x 7 ^^^ ror x 18 ^^^ x >>> 3
def sg1 (x : BitVec 32) : BitVec 32 := ror x 17 ^^^ ror x 19 ^^^ x >>> 10
def nx2 (l : List UInt8) (p : List (BitVec 32)) (i : Nat) : BitVec 32 := if i < 16 then wd l i else p[i - 16]?.getD 0 + sg0 (p[i - 15]?.getD 0) + p[i - 7]?.getD 0 + sg1 (p[i - 2]?.getD 0)
def sch2 (l : List UInt8) : Nat → List (BitVec 32)
  | 0 => []
  | i + 1 => sch2 l i ++ [nx2 l (sch2 l i) i]
theorem sch2_len (l : List UInt8) : ∀ n, (sch2 l n).length = n
  | 0 => rfl
  | n + 1 => by rw [sch2, List.length_append, sch2_len l n]; rfl
structure S8 where (a b c d e f g h : BitVec 32)
def tt (s : S8) (k x : BitVec 32) : BitVec 32 := s.h + (ror s.e 6 ^^^ ror s.e 11 ^^^ ror s.e 25) + cho s.e s.f s.g + k + x
def uu (s : S8) : BitVec 32 := (ror s.a 2 ^^^ ror s.a 13 ^^^ ror s.a 22) + maj s.a s.b s.c
def st2 (k x : BitVec 32) (s : S8) : S8 := ⟨tt s k x + uu s, s.a, s.b, s.c, s.d + tt s k x, s.e, s.f, s.g⟩
def rn2 (ws : List (BitVec 32)) : Nat → S8 → S8
  | 0, s => s
  | i + 1, s => st2 (rk[i]?.getD 0) (ws[i]?.getD 0) (rn2 ws i s)
def add8 (s t : S8) : S8 := ⟨s.a + t.a, s.b + t.b, s.c + t.c, s.d + t.d, s.e + t.e, s.f + t.f, s.g + t.g, s.h + t.h⟩
def stir2 (s : S8) (l : List UInt8) : S8 := add8 s (rn2 (sch2 l 64) 64 s)
def go2 (s : List UInt8) : Nat → S8
  | 0 => ⟨0x6a09e667#32, 0xbb67ae85#32, 0x3c6ef372#32, 0xa54ff53a#32, 0x510e527f#32, 0x9b05688c#32, 0x1f83d9ab#32, 0x5be0cd19#32⟩
  | k + 1 => stir2 (go2 s k) (blk s k)
def S8.l (s : S8) : List (BitVec 32) := [s.a, s.b, s.c, s.d, s.e, s.f, s.g, s.h]
def sha2 (s : List UInt8) : List UInt8 := (go2 s (nb s.length)).l.flatMap b4
theorem sha1_len (s : List UInt8) : (sha1 s).length = 20 := rfl
theorem sha2_len (s : List UInt8) : (sha2 s).length = 32 := rfl
theorem sha1_abc : sha1 [97, 98, 99] = [0xa9, 0x99, 0x3e, 0x36, 0x47, 0x06, 0x81, 0x6a, 0xba, 0x3e, 0x25, 0x71, 0x78, 0x50, 0xc2, 0x6c, 0x9c, 0xd0, 0xd8, 0x9d] := by decide +kernel
theorem sha2_abc : sha2 [97, 98, 99] = [0xba, 0x78, 0x16, 0xbf, 0x8f, 0x01, 0xcf, 0xea, 0x41, 0x41, 0x40, 0xde, 0x5d, 0xae, 0x22, 0x23, 0xb0, 0x03, 0x61, 0xa3, 0x96, 0x17, 0x7a, 0x9c, 0xb4, 0x10, 0xff, 0x61, 0xf2, 0x00, 0x15, 0xad] := by decide +kernel
end Go.Proofs.YtdecmbpmgnoelaaDoor
