/- Texts of this proof, joined: LdV, AhF, AhR, AhT, AhW, AhFi. -/
import Derived.Test.YtdlcldjlfhmlgaaGreatDoorJ13
import Derived.Test.YtdlcldjlfhmlgaaGreatDoorJ19
import Derived.WalkKit
import Derived.WalkSpells
import Derived.WalkLawsBesides
import Derived.Below
import Derived.Laws.AppendOwn
import Derived.Test.YtdlcldjlfhmlgaaGreatDoorRows
import Derived.Lib.Bytealg
import Derived.Lib.Join
import Derived.Lib.ItoaNum
import Derived.Handy
import Derived.BigQuiet
import Derived.BigRegion
import Derived.Deep.RegionWith
import Derived.Deep.RegionHeld3
import Derived.Deep.Cut
import Derived.Test.YtdlcldjlfhmlgaaGreatDoorJ20
set_option linter.unusedVariables false
set_option linter.unusedSimpArgs false
/- Layer 14: local zones as they come in. -/
namespace Go.Proofs.YtdlcldjlfhmlgaaGreatDoor
open Go.RowKit
theorem c_lo : Tryz.prog.cellsOf 26 = 3 := by kernel_rfl
end Go.Proofs.YtdlcldjlfhmlgaaGreatDoor
/- Layer 13: addresses, their bits, prefixes: facts alone. -/
namespace Go.Proofs.YtdlcldjlfhmlgaaGreatDoor.A
structure Ad where
 v6 : Bool
 hi : Nat
 lo : Nat
deriving DecidableEq
def Ad.ok (a : Ad) : Prop := a.hi < 2 ^ 64 ∧ a.lo < 2 ^ 64
instance (a : Ad) : Decidable a.ok := inferInstanceAs (Decidable (_ ∧ _))
def Ad.right (a : Ad) : Prop := a.v6 = true ∨ (a.hi = 0 ∧ a.lo < 2 ^ 32)
instance (a : Ad) : Decidable a.right := inferInstanceAs (Decidable (_ ∨ _))
def Ad.wd (a : Ad) : Nat := if a.v6 then 128 else 32
def Ad.num (a : Ad) : Nat := a.hi * 2 ^ 64 + a.lo
def Ad.bt (a : Ad) (k : Nat) : Bool := a.num.testBit (a.wd - 1 - k)
def clr (n k : Nat) : Nat := n / 2 ^ k * 2 ^ k
def Ad.fst (a : Ad) (n : Nat) : Ad := ⟨a.v6, clr a.hi (a.wd - n - 64), clr a.lo (a.wd - n)⟩
def okP (a : Ad) (n : Nat) : Prop := a.right ∧ n ≤ a.wd ∧ a.fst n = a
instance (a : Ad) (n : Nat) : Decidable (okP a n) := inferInstanceAs (Decidable (_ ∧ _))
def holds (p : Ad) (n : Nat) (a : Ad) : Prop := okP p n ∧ a.right ∧ p.v6 = a.v6 ∧ a.fst n = p
instance (p : Ad) (n : Nat) (a : Ad) : Decidable (holds p n a) := inferInstanceAs (Decidable (_ ∧ _))
def pth (a : Ad) (n : Nat) : List Bool := (List.range n).map a.bt
end Go.Proofs.YtdlcldjlfhmlgaaGreatDoor.A
/- Layer 13: rules, and what they tell of an address: facts alone. -/
namespace Go.Proofs.YtdlcldjlfhmlgaaGreatDoor.A
structure Rl where
 p : Ad
 n : Int
 act : Int
deriving DecidableEq
def Rl.ok (r : Rl) : Prop := r.p.ok ∧ (-9223372036854775808 ≤ r.n ∧ r.n ≤ 9223372036854775807) ∧ (-9223372036854775808 ≤ r.act ∧ r.act ≤ 9223372036854775807)
def Rl.good (r : Rl) : Prop := (0 ≤ r.n ∧ okP r.p r.n.toNat) ∧ (r.act = 1 ∨ r.act = 2 ∨ r.act = 3)
instance (r : Rl) : Decidable r.good := inferInstanceAs (Decidable (_ ∧ _))
def Rl.holds (r : Rl) (a : Ad) : Prop := 0 ≤ r.n ∧ Go.Proofs.YtdlcldjlfhmlgaaGreatDoor.A.holds r.p r.n.toNat a
instance (r : Rl) (a : Ad) : Decidable (r.holds a) := inferInstanceAs (Decidable (_ ∧ _))
def Rl.apart (a b : Rl) : Prop := ¬ (a.p = b.p ∧ a.n = b.n)
instance (a b : Rl) : Decidable (a.apart b) := inferInstanceAs (Decidable (¬ _))
structure Res where
 act : Int
 p : Ad
 n : Int
 is : Bool
deriving DecidableEq
def noRes : Res := ⟨2, ⟨false, 0, 0⟩, 0, false⟩
def Fnd (rs : List Rl) (a : Ad) (res : Res) : Prop := ((∀ r ∈ rs, ¬ r.holds a) ∧ res = noRes) ∨ ∃ r ∈ rs, r.holds a ∧ (∀ r' ∈ rs, r'.holds a → r'.n ≤ r.n) ∧ res = ⟨r.act, r.p, r.n, true⟩
def Rl.at (r : Rl) (v : Bool) (q : List Bool) : Prop := r.p.v6 = v ∧ pth r.p r.n.toNat = q
instance (r : Rl) (v : Bool) (q : List Bool) : Decidable (r.at v q) := inferInstanceAs (Decidable (_ ∧ _))
end Go.Proofs.YtdlcldjlfhmlgaaGreatDoor.A
/- Layer 13: addresses as texts: facts alone. -/
namespace Go.Proofs.YtdlcldjlfhmlgaaGreatDoor.A
structure Sh where
 mark : UInt8
 parts : Nat
 bits : Nat
 base : Nat
 more : Nat
deriving DecidableEq
def shp (v6 : Bool) : Sh := if v6 then ⟨58, 8, 16, 16, 3⟩ else ⟨46, 4, 8, 10, 2⟩
end Go.Proofs.YtdlcldjlfhmlgaaGreatDoor.A
/- Layer 13: Right, width, cleared, first, piece. -/
namespace Go.Proofs.YtdlcldjlfhmlgaaGreatDoor.A
open Go.RowKit
theorem Hid.mk {p : Prop} (h : p) : Hid p := h
abbrev adV (v : Bool) (h l : Nat) : Value := .agg #[.bool v, .int .u64 h, .int .u64 l]
end Go.Proofs.YtdlcldjlfhmlgaaGreatDoor.A
/- Layer 13: first. -/
namespace Go.Proofs.YtdlcldjlfhmlgaaGreatDoor.A
open Go.RowKit
end Go.Proofs.YtdlcldjlfhmlgaaGreatDoor.A
