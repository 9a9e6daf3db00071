/- Texts of this proof, joined: AhHo, AhOp, LfA, LfO, LfB. -/
import Derived.Test.YtdlcldjlfhmlgaaGreatDoorJ21
import Derived.Lib.SmallJoins
import Derived.Deep.SlicePairs
import Derived.OpenShut
import Derived.WalkKit
import Derived.ProofKit
import Derived.Deep.DeepHandedRow
import Derived.Test.YtdlcldjlfhmlgaaGreatDoorJ22
import Derived.Test.YtdlcldjlfhmlgaaGreatDoorJ20
set_option linter.unusedVariables false
set_option linter.unusedSimpArgs false
/- Layer 13: Holds. -/
namespace Go.Proofs.YtdlcldjlfhmlgaaGreatDoor.A
open Go.RowKit
attribute [local go_sem ↓] bin_ad bin_pf
attribute [local go_sem] adEqV_run pfEqV_run
end Go.Proofs.YtdlcldjlfhmlgaaGreatDoor.A
/- Layer 13: addresses, prefixes, rules as they come in. -/
namespace Go.Proofs.YtdlcldjlfhmlgaaGreatDoor.A
open Go.RowKit
theorem cellB {w : World} {p : Addr} {v : Value} (h : w.cell? p = some v) : p.block < w.heap.size := by
 unfold World.cell? at h
 split at h
 ·rename_i hb
  exact (Array.getElem?_eq_some_iff.1 hb).1
 ·exact absurd h (by simp)
def rlC (r : Rl) : List Value := [.bool r.p.v6, .int .u64 (r.p.hi : Int), .int .u64 (r.p.lo : Int), .int .i64 r.n, .int .i64 r.act]
section
variable {H : Type} {enc : TypeId × Value → H} {W : World} {base : Nat} {spare : Nat → Bool} {held : Bool}
theorem c_ad : Tryz.prog.cellsOf 66 = 3 := by kernel_rfl
theorem c_pf : Tryz.prog.cellsOf 75 = 4 := by kernel_rfl
theorem c_rl : Tryz.prog.cellsOf 77 = 5 := by kernel_rfl
theorem nat_of_u64 {z : Int} (h : (Lit.int .u64 z).wf = true) : ∃ n : Nat, z = n ∧ n < 2 ^ 64 := by
 simp only [Lit.wf, Bool.and_eq_true, decide_eq_true_eq] at h
 have e1 : IntKind.u64.min = 0 := by decide
 have e2 : IntKind.u64.max = 18446744073709551615 := by decide
 rw [e1, e2] at h
 exact ⟨z.toNat, by omega, by omega⟩
set_option maxRecDepth 100000 in
theorem trod_ad {fuel : Nat} {cs : List Value} {x : DataW H × List MemPlace} (h : DataW.trod enc Tryz.prog W base spare held fuel 66 cs = some x) : ∃ a : Ad, a.ok ∧ cs = [.bool a.v6, .int .u64 (a.hi : Int), .int .u64 (a.lo : Int)] := by
 obtain ⟨y0, y1, y2, k, _, hlc, t0, t1, t2⟩ := Go.Deep.trod_struct3 Tryz.underlying66 h
 rw [c_ad] at hlc
 match cs, hlc with
 | [v0, v1, v2], _ =>
  have t0' : DataW.trod enc Tryz.prog W base spare held k 4 [v0] = some y0 := t0
  have t1' : DataW.trod enc Tryz.prog W base spare held k 64 [v1] = some y1 := t1
  have t2' : DataW.trod enc Tryz.prog W base spare held k 64 [v2] = some y2 := t2
  obtain ⟨b, q0, _⟩ := DataW.trod_bool (t := 4) Tryz.underlying4 t0'
  obtain ⟨s1, q1, _, w1⟩ := DataW.trod_int (t := 64) (k := .u64) Tryz.underlying64 t1'
  obtain ⟨s2, q2, _, w2⟩ := DataW.trod_int (t := 64) (k := .u64) Tryz.underlying64 t2'
  obtain ⟨n1, rfl, l1⟩ := nat_of_u64 w1
  obtain ⟨n2, rfl, l2⟩ := nat_of_u64 w2
  simp at q0 q1 q2
  exact ⟨⟨b, n1, n2⟩, ⟨l1, l2⟩, by rw [q0, q1, q2]⟩
set_option maxRecDepth 100000 in
theorem trod_pf {fuel : Nat} {cs : List Value} {x : DataW H × List MemPlace} (h : DataW.trod enc Tryz.prog W base spare held fuel 75 cs = some x) : ∃ (a : Ad) (n : Int), a.ok ∧ (-9223372036854775808 ≤ n ∧ n ≤ 9223372036854775807) ∧ cs = [.bool a.v6, .int .u64 (a.hi : Int), .int .u64 (a.lo : Int), .int .i64 n] := by
 obtain ⟨y0, y1, k, _, hlc, t0, t1⟩ := Go.ChangeShapes.trod_struct2 Tryz.underlying75 h
 rw [c_pf] at hlc
 match cs, hlc with
 | [v0, v1, v2, v3], _ =>
  have t0' : DataW.trod enc Tryz.prog W base spare held k 66 [v0, v1, v2] = some y0 := t0
  have t1' : DataW.trod enc Tryz.prog W base spare held k 3 [v3] = some y1 := t1
  obtain ⟨a, ha, q0⟩ := trod_ad t0'
  obtain ⟨s1, q1, _, w1⟩ := DataW.trod_int (t := 3) (k := .i64) Tryz.underlying3 t1'
  simp at q0 q1
  exact ⟨a, s1, ha, Go.bounds_i64 w1, by rw [q0.1, q0.2.1, q0.2.2, q1]⟩
set_option maxRecDepth 100000 in
theorem trod_rl {fuel : Nat} {cs : List Value} {x : DataW H × List MemPlace} (h : DataW.trod enc Tryz.prog W base spare held fuel 77 cs = some x) : ∃ r : Rl, r.ok ∧ cs = rlC r := by
 obtain ⟨y0, y1, k, _, hlc, t0, t1⟩ := Go.ChangeShapes.trod_struct2 Tryz.underlying77 h
 rw [c_rl] at hlc
 match cs, hlc with
 | [v0, v1, v2, v3, v4], _ =>
  have t0' : DataW.trod enc Tryz.prog W base spare held k 75 [v0, v1, v2, v3] = some y0 := t0
  have t1' : DataW.trod enc Tryz.prog W base spare held k 3 [v4] = some y1 := t1
  obtain ⟨a, n, ha, hn, q0⟩ := trod_pf t0'
  obtain ⟨s1, q1, _, w1⟩ := DataW.trod_int (t := 3) (k := .i64) Tryz.underlying3 t1'
  simp at q0 q1
  exact ⟨⟨a, n, s1⟩, ⟨ha, hn, Go.bounds_i64 w1⟩, by rw [q0.1, q0.2.1, q0.2.2.1, q0.2.2.2, q1]; rfl⟩
open Go.ChangeShapes Go.WideShapes
end
theorem list_of {α : Type} {R : Nat → α → Prop} : ∀ k : Nat, (∀ i, i < k → ∃ x, R i x) → ∃ l : List α, l.length = k ∧ ∀ j (h : j < l.length), R j l[j]
 | 0, _ => ⟨[], rfl, fun j h => by simp at h⟩
 | k + 1, h => by
  obtain ⟨l, hl, hr⟩ := list_of k fun i hi => h i (by omega)
  obtain ⟨x, hx⟩ := h k (by omega)
  refine ⟨l ++ [x], by simp [hl], fun j hj => ?_⟩
  rw [List.getElem_append]
  split
  ·exact hr j (by assumption)
  ·simp at hj
   obtain rfl : j = k := by omega
   simpa [hl] using hx
theorem add_off (b o j : Nat) : (⟨b, o, none⟩ : Addr).add j = ⟨b, o + j, none⟩ := by
 cases j with
 | zero => rfl
 | succ k => simp [Addr.add]
def AdsAt (w : World) (q : Option Addr) (l : List Ad) : Prop := ∀ j (hj : j < l.length), ∃ g off, q = some ⟨g, off, none⟩ ∧ g < w.heap.size ∧ w.cell? ⟨g, off + j * 3, none⟩ = some (.bool l[j].v6) ∧ w.cell? ⟨g, off + j * 3 + 1, none⟩ = some (.int .u64 (l[j].hi : Int)) ∧ w.cell? ⟨g, off + j * 3 + 2, none⟩ = some (.int .u64 (l[j].lo : Int))
theorem AdsAt.blk {w w' : World} {q : Option Addr} {l : List Ad} (h : AdsAt w q l) (hb : Below w.heap.size w w') : AdsAt w' q l := fun j hj => by
 obtain ⟨g, off, e, hg, c0, c1, c2⟩ := h j hj
 exact ⟨g, off, e, Nat.lt_of_lt_of_le hg hb.size, (hb.cell (p := ⟨g, _, none⟩) hg).trans c0, (hb.cell (p := ⟨g, _, none⟩) hg).trans c1, (hb.cell (p := ⟨g, _, none⟩) hg).trans c2⟩
open Go.ChangeShapes Go.WideShapes in
set_option maxRecDepth 100000 in
theorem open_rls {H : Type} {enc : TypeId × Value → H} {W : World} {a0 : Option Addr} {len cap fuel : Nat} {x : DataW H × List MemPlace}
  (hf : DataW.trod enc Tryz.prog W 0 (fun _ => true) true fuel 47 [.slice a0 len cap] = some x) :
  ∃ rs : List Rl, rs.length = len ∧ RlsAt W a0 rs ∧ (∀ r ∈ rs, r.ok) ∧ (len ≤ cap ∧ cap ≤ maxLen ∧ (a0 = none → cap = 0)) ∧ (len = 0 ∨ ∃ elems spare, x.1 = .slice elems spare ∧ elems.length = len) := by
 rcases Go.Deep.open_slice Tryz.underlying47 hf with ⟨hcs, hx⟩ | ⟨a, len', cap', m, n, D, Pl, hcs, _, hl, hm, hmm, hx, hall⟩
 ·simp at hcs
  obtain ⟨rfl, rfl, rfl⟩ := hcs
  exact ⟨[], rfl, fun j hj => by simp at hj, by simp, ⟨by omega, by unfold maxLen; omega, fun _ => rfl⟩, .inl rfl⟩
 ·simp at hcs
  obtain ⟨rfl, rfl, rfl⟩ := hcs
  simp only [if_true] at hmm
  subst hmm
  rw [c_rl] at hall
  obtain ⟨b, off, spot⟩ := a
  have key : ∀ i, i < len → ∃ r : Rl, (spot = none ∧ b < W.heap.size ∧ ∀ k, k < 5 → W.cell? ⟨b, off + i * 5 + k, none⟩ = (rlC r)[k]?) ∧ r.ok := fun i hi => by
   obtain ⟨cs', h1, h2⟩ := hall i (by omega)
   obtain ⟨_, hlen, hcell⟩ := World.cells?_some h1
   obtain ⟨r, hr, rfl⟩ := trod_rl h2
   have hspot : spot = none := by
    obtain ⟨cs0, h10, _⟩ := hall 0 (by omega)
    obtain ⟨_, hl0, hc0⟩ := World.cells?_some h10
    have h00 := hc0 0 (by omega)
    rw [List.getElem?_eq_getElem (by omega)] at h00
    simpa [Addr.add] using World.cell?_spot h00
   subst hspot
   have hk : ∀ k, k < 5 → W.cell? ⟨b, off + i * 5 + k, none⟩ = (rlC r)[k]? := fun k hk => by
    have := hcell k hk
    rw [Go.Deep.add_add, add_off, ← Nat.add_assoc] at this
    exact this
   exact ⟨r, ⟨rfl, cellB ((hk 0 (by omega)).trans (show (rlC r)[0]? = some _ from rfl)), hk⟩, hr⟩
  obtain ⟨ls, hlen, hr⟩ := list_of len key
  refine ⟨ls, hlen, fun j hj => ?_, fun d hd => ?_, ⟨hl, hm, fun h => by cases h⟩, .inr ⟨_, _, by rw [hx], by simp⟩⟩
  ·obtain ⟨⟨hs, hb, hk⟩, _⟩ := hr j hj
   subst hs
   exact ⟨b, off, rfl, hb, hk 0 (by omega), hk 1 (by omega), hk 2 (by omega), hk 3 (by omega), hk 4 (by omega)⟩
  ·obtain ⟨j, hj, rfl⟩ := List.getElem_of_mem hd
   exact (hr j hj).2
open Go.ChangeShapes Go.WideShapes in
set_option maxRecDepth 100000 in
theorem open_ads {H : Type} {enc : TypeId × Value → H} {W : World} {a0 : Option Addr} {len cap fuel : Nat} {x : DataW H × List MemPlace}
  (hf : DataW.trod enc Tryz.prog W 0 (fun _ => true) true fuel 46 [.slice a0 len cap] = some x) :
  ∃ rs : List Ad, rs.length = len ∧ AdsAt W a0 rs ∧ (∀ r ∈ rs, r.ok) ∧ (len ≤ cap ∧ cap ≤ maxLen ∧ (a0 = none → cap = 0)) ∧ (len = 0 ∨ ∃ elems spare, x.1 = .slice elems spare ∧ elems.length = len) := by
 rcases Go.Deep.open_slice Tryz.underlying46 hf with ⟨hcs, hx⟩ | ⟨a, len', cap', m, n, D, Pl, hcs, _, hl, hm, hmm, hx, hall⟩
 ·simp at hcs
  obtain ⟨rfl, rfl, rfl⟩ := hcs
  exact ⟨[], rfl, fun j hj => by simp at hj, by simp, ⟨by omega, by unfold maxLen; omega, fun _ => rfl⟩, .inl rfl⟩
 ·simp at hcs
  obtain ⟨rfl, rfl, rfl⟩ := hcs
  simp only [if_true] at hmm
  subst hmm
  rw [c_ad] at hall
  obtain ⟨b, off, spot⟩ := a
  have key : ∀ i, i < len → ∃ r : Ad, (spot = none ∧ b < W.heap.size ∧ ∀ k, k < 3 → W.cell? ⟨b, off + i * 3 + k, none⟩ = [Value.bool r.v6, .int .u64 (r.hi : Int), .int .u64 (r.lo : Int)][k]?) ∧ r.ok := fun i hi => by
   obtain ⟨cs', h1, h2⟩ := hall i (by omega)
   obtain ⟨_, hlen, hcell⟩ := World.cells?_some h1
   obtain ⟨r, hr, rfl⟩ := trod_ad h2
   have hspot : spot = none := by
    obtain ⟨cs0, h10, _⟩ := hall 0 (by omega)
    obtain ⟨_, hl0, hc0⟩ := World.cells?_some h10
    have h00 := hc0 0 (by omega)
    rw [List.getElem?_eq_getElem (by omega)] at h00
    simpa [Addr.add] using World.cell?_spot h00
   subst hspot
   have hk : ∀ k, k < 3 → W.cell? ⟨b, off + i * 3 + k, none⟩ = [Value.bool r.v6, .int .u64 (r.hi : Int), .int .u64 (r.lo : Int)][k]? := fun k hk => by
    have := hcell k hk
    rw [Go.Deep.add_add, add_off, ← Nat.add_assoc] at this
    exact this
   exact ⟨r, ⟨rfl, cellB ((hk 0 (by omega)).trans (show [Value.bool r.v6, .int .u64 (r.hi : Int), .int .u64 (r.lo : Int)][0]? = some _ from rfl)), hk⟩, hr⟩
  obtain ⟨ls, hlen, hr⟩ := list_of len key
  refine ⟨ls, hlen, fun j hj => ?_, fun d hd => ?_, ⟨hl, hm, fun h => by cases h⟩, .inr ⟨_, _, by rw [hx], by simp⟩⟩
  ·obtain ⟨⟨hs, hb, hk⟩, _⟩ := hr j hj
   subst hs
   exact ⟨b, off, rfl, hb, hk 0 (by omega), hk 1 (by omega), hk 2 (by omega)⟩
  ·obtain ⟨j, hj, rfl⟩ := List.getElem_of_mem hd
   exact (hr j hj).2
theorem laidOut : laidOutB Tryz.prog = true := by kernel_rfl
end Go.Proofs.YtdlcldjlfhmlgaaGreatDoor.A
/- Layer 15: configurations: what lies where; which part is wrong; which name is the nearest. Facts alone. -/
namespace Go.Proofs.YtdlcldjlfhmlgaaGreatDoor
open Go.RowKit
structure Up where
 nm : ByteArray
 sv : List A.Ad
 fw : Bool
structure An where
 nm : ByteArray
 tg : Int
 al : Int
 kd : Int
 dg : ByteArray
structure Cf where
 rt : List A.Ad
 ru : List A.Rl
 lc : List Lc
 up : List Up
 an : List An
 n0 : Int
 n1 : Int
 n2 : Int
 n3 : Int
def ShC (n cap : Nat) (q : Option Addr) : Prop := n ≤ cap ∧ cap ≤ maxLen ∧ (q = none → cap = 0)
def UpsAt (w : World) (q : Option Addr) (l : List Up) : Prop := ∀ j (hj : j < l.length), ∃ b off qs cs, q = some ⟨b, off, none⟩ ∧ b < w.heap.size ∧ w.cell? ⟨b, off + j * 3, none⟩ = some (.string l[j].nm) ∧ w.cell? ⟨b, off + j * 3 + 1, none⟩ = some (.slice qs l[j].sv.length cs) ∧ w.cell? ⟨b, off + j * 3 + 2, none⟩ = some (.bool l[j].fw) ∧ A.AdsAt w qs l[j].sv ∧ ShC l[j].sv.length cs qs
def AnsAt (w : World) (q : Option Addr) (l : List An) : Prop := ∀ j (hj : j < l.length), ∃ b off, q = some ⟨b, off, none⟩ ∧ b < w.heap.size ∧ w.cell? ⟨b, off + j * 5, none⟩ = some (.string l[j].nm) ∧ w.cell? ⟨b, off + j * 5 + 1, none⟩ = some (.int .i64 l[j].tg) ∧ w.cell? ⟨b, off + j * 5 + 2, none⟩ = some (.int .i64 l[j].al) ∧ w.cell? ⟨b, off + j * 5 + 3, none⟩ = some (.int .i64 l[j].kd) ∧ w.cell? ⟨b, off + j * 5 + 4, none⟩ = some (.string l[j].dg)
theorem UpsAt.blk {w w' : World} {q : Option Addr} {l : List Up} (h : UpsAt w q l) (hb : Below w.heap.size w w') : UpsAt w' q l := fun j hj => by
 obtain ⟨b, off, qs, cs, e, hlt, c0, c1, c2, hr, hs⟩ := h j hj
 have key : ∀ k, w'.cell? ⟨b, k, none⟩ = w.cell? ⟨b, k, none⟩ := fun k => hb.cell (p := ⟨b, k, none⟩) hlt
 exact ⟨b, off, qs, cs, e, Nat.lt_of_lt_of_le hlt hb.size, (key _).trans c0, (key _).trans c1, (key _).trans c2, hr.blk hb, hs⟩
theorem AnsAt.blk {w w' : World} {q : Option Addr} {l : List An} (h : AnsAt w q l) (hb : Below w.heap.size w w') : AnsAt w' q l := fun j hj => by
 obtain ⟨b, off, e, hlt, c0, c1, c2, c3, c4⟩ := h j hj
 have key : ∀ k, w'.cell? ⟨b, k, none⟩ = w.cell? ⟨b, k, none⟩ := fun k => hb.cell (p := ⟨b, k, none⟩) hlt
 exact ⟨b, off, e, Nat.lt_of_lt_of_le hlt hb.size, (key _).trans c0, (key _).trans c1, (key _).trans c2, (key _).trans c3, (key _).trans c4⟩
def UpIn (u : Up) : Prop := u.nm.size ≤ maxLen ∧ (∀ a ∈ u.sv, a.ok) ∧ u.sv.length * 24 ≤ 140737488351232
def AnIn (a : An) : Prop := a.nm.size ≤ maxLen ∧ a.dg.size ≤ 140737488351232 ∧ I64 a.tg ∧ I64 a.al ∧ I64 a.kd
structure CfIn (c : Cf) : Prop where
 rt : ∀ a ∈ c.rt, a.ok
 ru : ∀ r ∈ c.ru, r.ok
 lc : LIn c.lc
 up : ∀ u ∈ c.up, UpIn u
 an : ∀ a ∈ c.an, AnIn a
 n0 : I64 c.n0
 n1 : I64 c.n1
 n2 : I64 c.n2
 n3 : I64 c.n3
 l0 : c.rt.length * 24 ≤ 140737488353280
 l1 : c.ru.length * 40 ≤ 140737488353280
 l2 : c.lc.length * 48 ≤ 140737488353280
 l3 : c.up.length * 48 ≤ 140737488353280
 l4 : c.an.length * 56 ≤ 140737488353280
structure Cq where
 q0 : Option Addr
 c0 : Nat
 q1 : Option Addr
 c1 : Nat
 q2 : Option Addr
 c2 : Nat
 q3 : Option Addr
 c3 : Nat
 q4 : Option Addr
 c4 : Nat
structure CfAt (w : World) (k : Cq) (c : Cf) : Prop where
 rt : A.AdsAt w k.q0 c.rt
 ru : A.RlsAt w k.q1 c.ru
 lc : LcsAt w k.q2 c.lc
 up : UpsAt w k.q3 c.up
 an : AnsAt w k.q4 c.an
 s0 : ShC c.rt.length k.c0 k.q0
 s1 : ShC c.ru.length k.c1 k.q1
 s2 : ShC c.lc.length k.c2 k.q2
 s3 : ShC c.up.length k.c3 k.q3
 s4 : ShC c.an.length k.c4 k.q4
theorem CfAt.blk {w w' : World} {k : Cq} {c : Cf} (h : CfAt w k c) (hb : Below w.heap.size w w') : CfAt w' k c :=
 ⟨h.rt.blk hb, h.ru.blk hb, h.lc.blk hb, h.up.blk hb, h.an.blk hb, h.s0, h.s1, h.s2, h.s3, h.s4⟩
abbrev cfC (k : Cq) (c : Cf) : Array Value := #[.slice k.q0 c.rt.length k.c0, .slice k.q1 c.ru.length k.c1, .slice k.q2 c.lc.length k.c2, .slice k.q3 c.up.length k.c3, .slice k.q4 c.an.length k.c4, .int .i64 c.n0, .int .i64 c.n1, .int .i64 c.n2, .int .i64 c.n3]
abbrev cfV (k : Cq) (c : Cf) : Value := .agg (cfC k c)
def okA (a : A.Ad) : Bool := decide a.right
def srvR (l : List A.Ad) : Bool := decide (1 ≤ l.length) && decide (l.length ≤ 20) && l.all okA
theorem srvR_len {l : List A.Ad} (h : l.length < 1 ∨ 20 < l.length) : srvR l = false := by
 unfold srvR
 rcases h with h | h
 ·rw [show decide (1 ≤ l.length) = false from decide_eq_false (by omega)]; rfl
 ·rw [show decide (l.length ≤ 20) = false from decide_eq_false (by omega), Bool.and_false]; rfl
theorem srvR_no {l : List A.Ad} {a : A.Ad} (ha : a ∈ l) (h : okA a = false) : srvR l = false := by
 unfold srvR
 have : l.all okA = false := by
  rw [List.all_eq_false]
  exact ⟨a, ha, by simp [h]⟩
 rw [this, Bool.and_false]
theorem srvR_yes {l : List A.Ad} (h1 : 1 ≤ l.length) (h2 : l.length ≤ 20) (h : ∀ a ∈ l, okA a = true) : srvR l = true := by
 unfold srvR
 rw [decide_eq_true h1, decide_eq_true h2, List.all_eq_true.2 h]
 rfl
noncomputable def upOk (u : Up) : Bool := isN u.nm && srvR u.sv
open Classical in
noncomputable def upsR (l : List Up) : Bool := decide ((∀ u ∈ l, upOk u = true) ∧ l.Pairwise fun a b => eqF a.nm b.nm = false)
theorem upsR_no {l : List Up} {u : Up} (hu : u ∈ l) (h : upOk u = false) : upsR l = false := by
 classical
 refine decide_eq_false fun h' => ?_
 rw [h'.1 u hu] at h
 cases h
theorem upsR_two {l : List Up} {i j : Nat} (hi : i < l.length) (hji : j < i) (h : eqF (l[j]'(by omega)).nm l[i].nm = true) : upsR l = false := by
 classical
 refine decide_eq_false fun h' => ?_
 have := List.pairwise_iff_getElem.1 h'.2 j i (by omega) hi hji
 rw [h] at this
 cases this
theorem upsR_yes {l : List Up} (h1 : ∀ u ∈ l, upOk u = true) (h2 : l.Pairwise fun a b => eqF a.nm b.nm = false) : upsR l = true := by
 classical
 exact decide_eq_true ⟨h1, h2⟩
def dsR (a : An) : Bool := decide (0 ≤ a.tg) && decide (a.tg ≤ 65535) && (a.al == 8 || a.al == 13) && ((a.kd == 1 && a.dg.size == 20) || (a.kd == 2 && a.dg.size == 32))
noncomputable def anOk (a : An) : Bool := isN a.nm && dsR a
noncomputable def ansOk (l : List An) : Bool := l.all anOk
theorem ansOk_no {l : List An} {a : An} (ha : a ∈ l) (h : anOk a = false) : ansOk l = false := by
 unfold ansOk
 rw [List.all_eq_false]
 exact ⟨a, ha, by simp [h]⟩
theorem ansOk_yes {l : List An} (h : ∀ a ∈ l, anOk a = true) : ansOk l = true := List.all_eq_true.2 h
def numR (n : Int) : Bool := decide (1 ≤ n) && decide (n ≤ 10000)
def numsR (c : Cf) : Bool := numR c.n0 && numR c.n1 && numR c.n2 && numR c.n3
open Classical in
noncomputable def prtR (c : Cf) : Nat → Bool
 | 0 => srvR c.rt
 | 1 => decide (A.OkRs c.ru)
 | 2 => decide (okL c.lc)
 | 3 => upsR c.up
 | 4 => ansOk c.an
 | _ => numsR c
def prtN : Nat → ByteArray
 | 0 => ⟨#[114, 111, 111, 116, 115]⟩
 | 1 => ⟨#[114, 117, 108, 101, 115]⟩
 | 2 => ⟨#[108, 111, 99, 97, 108, 115]⟩
 | 3 => ⟨#[117, 112, 115, 116, 114, 101, 97, 109, 115]⟩
 | 4 => ⟨#[97, 110, 99, 104, 111, 114, 115]⟩
 | 5 => ⟨#[110, 117, 109, 98, 101, 114, 115]⟩
 | _ => ⟨#[]⟩
noncomputable def fstP (c : Cf) : Nat → Nat → Nat
 | 0, k => k
 | m + 1, k => if prtR c k then fstP c m (k + 1) else k
noncomputable def chkR (c : Cf) : Nat := fstP c 6 0
theorem fstP_at (c : Cf) : ∀ m k, fstP c m k = k + m ∧ (∀ j, k ≤ j → j < k + m → prtR c j = true) ∨ (k ≤ fstP c m k ∧ fstP c m k < k + m ∧ prtR c (fstP c m k) = false ∧ ∀ j, k ≤ j → j < fstP c m k → prtR c j = true)
 | 0, k => .inl ⟨rfl, fun j h1 h2 => by omega⟩
 | m + 1, k => by
  unfold fstP
  cases h : prtR c k with
  | false => exact .inr ⟨Nat.le_refl _, by simp, h, fun j h1 h2 => absurd h2 (by simp; omega)⟩
  | true =>
   simp only [if_true]
   rcases fstP_at c m (k + 1) with ⟨e, h1⟩ | ⟨h1, h2, h3, h4⟩
   ·refine .inl ⟨by omega, fun j h2 h3 => ?_⟩
    by_cases e : j = k
    ·rw [e]; exact h
    ·exact h1 j (by omega) (by omega)
   ·refine .inr ⟨by omega, by omega, h3, fun j h5 h6 => ?_⟩
    by_cases e : j = k
    ·rw [e]; exact h
    ·exact h4 j (by omega) h6
theorem chkR_at (c : Cf) (k : Nat) (hk : k < 6) (h : prtR c k = false) (hb : ∀ j, j < k → prtR c j = true) : chkR c = k := by
 rcases fstP_at c 6 0 with ⟨e, h1⟩ | ⟨h1, h2, h3, h4⟩
 ·rw [h1 k (by omega) (by omega)] at h; cases h
 ·show fstP c 6 0 = k
  rcases Nat.lt_trichotomy (fstP c 6 0) k with hl | he | hg
  ·rw [hb _ hl] at h3; cases h3
  ·exact he
  ·rw [h4 k (by omega) hg] at h; cases h
theorem chkR_none (c : Cf) (h : ∀ j, j < 6 → prtR c j = true) : chkR c = 6 := by
 rcases fstP_at c 6 0 with ⟨e, h1⟩ | ⟨h1, h2, h3, h4⟩
 ·exact e
 ·rw [h _ (by omega)] at h3; cases h3
theorem chkR_le (c : Cf) : chkR c ≤ 6 := by
 rcases fstP_at c 6 0 with ⟨e, h1⟩ | ⟨h1, h2, h3, h4⟩
 ·exact Nat.le_of_eq e
 ·show fstP c 6 0 ≤ 6
  omega
def nmI (ns : List ByteArray) (i : Nat) : ByteArray := ns[i]?.getD ⟨#[]⟩
theorem nmI_at {ns : List ByteArray} {i : Nat} (h : i < ns.length) : nmI ns i = ns[i] := by unfold nmI; rw [List.getElem?_eq_getElem h]; rfl
noncomputable def bestN (ns : List ByteArray) (s : ByteArray) : Nat → Option Nat
 | 0 => none
 | i + 1 => if undF s (nmI ns i) then match bestN ns s i with | none => some i | some b => if manyF (nmI ns b) < manyF (nmI ns i) then some i else some b else bestN ns s i
theorem bestN_skip {ns : List ByteArray} {s : ByteArray} {i : Nat} (h : undF s (nmI ns i) = false) : bestN ns s (i + 1) = bestN ns s i := by
 rw [bestN, h]; rfl
theorem bestN_first {ns : List ByteArray} {s : ByteArray} {i : Nat} (h : undF s (nmI ns i) = true) (hb : bestN ns s i = none) : bestN ns s (i + 1) = some i := by
 rw [bestN, h, hb]; rfl
theorem bestN_more {ns : List ByteArray} {s : ByteArray} {i b : Nat} (h : undF s (nmI ns i) = true) (hb : bestN ns s i = some b) (hm : manyF (nmI ns b) < manyF (nmI ns i)) : bestN ns s (i + 1) = some i := by
 rw [bestN, h, hb]
 simp only [if_true]
 rw [if_pos hm]
theorem bestN_keep {ns : List ByteArray} {s : ByteArray} {i b : Nat} (hb : bestN ns s i = some b) (hm : ¬ manyF (nmI ns b) < manyF (nmI ns i)) : bestN ns s (i + 1) = some b := by
 rw [bestN, hb]
 split
 ·simp only
  rw [if_neg hm]
 ·rfl
theorem bestN_is {ns : List ByteArray} {s : ByteArray} : ∀ {i b : Nat}, bestN ns s i = some b → b < i ∧ undF s (nmI ns b) = true ∧ (∀ j, j < i → undF s (nmI ns j) = true → manyF (nmI ns j) ≤ manyF (nmI ns b)) ∧ (∀ j, j < b → undF s (nmI ns j) = true → manyF (nmI ns j) < manyF (nmI ns b))
 | 0, b, h => by cases h
 | i + 1, b, h => by
  cases hu : undF s (nmI ns i) with
  | false =>
   rw [bestN_skip hu] at h
   obtain ⟨h1, h2, h3, h4⟩ := bestN_is h
   refine ⟨by omega, h2, fun j hj hu' => ?_, h4⟩
   rcases Nat.lt_succ_iff_lt_or_eq.1 hj with h5 | h5
   ·exact h3 j h5 hu'
   ·rw [h5, hu] at hu'; cases hu'
  | true =>
   cases hb : bestN ns s i with
   | none =>
    rw [bestN_first hu hb] at h
    cases h
    have hno : ∀ j, j < i → undF s (nmI ns j) = true → False := fun j hj hu' => bestN_none hb j hj hu'
    refine ⟨by omega, hu, fun j hj hu' => ?_, fun j hj hu' => (hno j hj hu').elim⟩
    rcases Nat.lt_succ_iff_lt_or_eq.1 hj with h5 | h5
    ·exact (hno j h5 hu').elim
    ·rw [h5]; exact Nat.le_refl _
   | some c =>
    obtain ⟨h1, h2, h3, h4⟩ := bestN_is hb
    by_cases hm : manyF (nmI ns c) < manyF (nmI ns i)
    ·rw [bestN_more hu hb hm] at h
     cases h
     refine ⟨by omega, hu, fun j hj hu' => ?_, fun j hj hu' => ?_⟩
     ·rcases Nat.lt_succ_iff_lt_or_eq.1 hj with h5 | h5
      ·have := h3 j h5 hu'; omega
      ·rw [h5]; exact Nat.le_refl _
     ·have := h3 j hj hu'; omega
    ·rw [bestN_keep hb hm] at h
     cases h
     refine ⟨by omega, h2, fun j hj hu' => ?_, h4⟩
     rcases Nat.lt_succ_iff_lt_or_eq.1 hj with h5 | h5
     ·exact h3 j h5 hu'
     ·rw [h5]; omega
where
 bestN_none {ns : List ByteArray} {s : ByteArray} : ∀ {i : Nat}, bestN ns s i = none → ∀ j, j < i → undF s (nmI ns j) = true → False
  | 0, _, j, hj, _ => by omega
  | i + 1, h, j, hj, hu => by
   cases hu' : undF s (nmI ns i) with
   | false =>
    rw [bestN_skip hu'] at h
    rcases Nat.lt_succ_iff_lt_or_eq.1 hj with h5 | h5
    ·exact bestN_none h j h5 hu
    ·rw [h5, hu'] at hu; cases hu
   | true =>
    cases hb : bestN ns s i with
    | none => rw [bestN_first hu' hb] at h; cases h
    | some c =>
     by_cases hm : manyF (nmI ns c) < manyF (nmI ns i)
     ·rw [bestN_more hu' hb hm] at h; cases h
     ·rw [bestN_keep hb hm] at h; cases h
theorem bestN_lt {ns : List ByteArray} {s : ByteArray} {i b : Nat} (h : bestN ns s i = some b) : b < i := (bestN_is h).1
theorem und_sizes {s a b : ByteArray} (ha : undF s a = true) (hb : undF s b = true) : (manyF a < manyF b ↔ a.size < b.size) := by
 classical
 obtain ⟨ls, la, hls, hla, rfl, rfl, h1⟩ := of_decide_eq_true ha
 obtain ⟨ls', lb, hls', hlb, e, rfl, h2⟩ := of_decide_eq_true hb
 obtain rfl := nm_inj hls hls' e
 rw [undB_iff] at h1 h2
 rw [manyF_nm hla, manyF_nm hlb, nm_size, nm_size]
 have hfl : ∀ l : N3, (flat (lowN l)).length = (flat l).length := flat_low_length
 have hll : ∀ l : N3, (lowN l).length = l.length := lowN_length
 have key : ∀ x y : N3, x <:+ y → (flat x).length + (y.length - x.length) ≤ (flat y).length ∧ x.length ≤ y.length := by
  intro x y hxy
  obtain ⟨p, rfl⟩ := hxy
  rw [flat_append, List.length_append, List.length_append]
  have : p.length ≤ (flat p).length := flat_long p
  omega
 have same : ∀ x y : N3, x <:+ y → x.length = y.length → x = y := fun x y h hl => h.eq_of_length hl
 rcases Nat.lt_trichotomy la.length lb.length with h | h | h
 ·have hs := List.suffix_of_suffix_length_le h1 h2 (by rw [hll, hll]; omega)
  have := key _ _ hs
  rw [hfl, hfl, hll, hll] at this
  omega
 ·have hs := List.suffix_of_suffix_length_le h1 h2 (by rw [hll, hll]; omega)
  have e := same _ _ hs (by rw [hll, hll]; exact h)
  have e2 := congrArg (fun l => (flat l).length) e
  simp only [hfl] at e2
  omega
 ·have hs := List.suffix_of_suffix_length_le h2 h1 (by rw [hll, hll]; omega)
  have := key _ _ hs
  rw [hfl, hfl, hll, hll] at this
  omega
end Go.Proofs.YtdlcldjlfhmlgaaGreatDoor
/- Layer 15: configurations as they come in. -/
namespace Go.Proofs.YtdlcldjlfhmlgaaGreatDoor
open Go.RowKit
section
variable {H : Type}
def Wt (t : TypeId) (d : DataW H) : Prop := ∀ n ∈ d.weights Tryz.prog t, n ≤ 140737488351232
theorem weightsAll_mem {P : Program} {e : TypeId} : ∀ {l : List (DataW H)} {d : DataW H}, d ∈ l → ∀ n ∈ d.weights P e, n ∈ DataW.weightsAll P e l
 | d' :: r, d, hd, n, hn => by
  simp only [DataW.weightsAll, List.mem_append]
  rcases List.mem_cons.1 hd with rfl | h
  ·exact Or.inl hn
  ·exact Or.inr (weightsAll_mem h n hn)
theorem wt_slice {t e : TypeId} {el sp : List (DataW H)} (hu : Tryz.prog.underlying t = some (.slice e)) (h : Wt t (.slice el sp)) : (el.length + sp.length) * Tryz.prog.bytesOf e ≤ 140737488351232 ∧ ∀ d ∈ el, Wt e d := by
 refine ⟨h _ (by simp [DataW.weights, hu]), fun d hd n hn => h n ?_⟩
 simp only [DataW.weights, hu, List.mem_cons, List.mem_append]
 exact Or.inr (Or.inl (weightsAll_mem hd n hn))
theorem wt_str {t : TypeId} {b : List UInt8} (h : Wt (H := H) t (.lit (.string b))) : b.length ≤ 140737488351232 := h _ (by simp [DataW.weights])
theorem wt_part {t : TypeId} {fs : Array Field} {parts : List (DataW H)} (hu : Tryz.prog.underlying t = some (.struct fs)) (h : Wt t (.agg parts)) {i : Nat} {f : Field} (hf : fs[i]? = some f) {d : DataW H} (hd : parts[i]? = some d) : Wt f.type d := fun n hn => h n (by
 simp only [DataW.weights, hu]
 exact DataW.weights_mem_each (by simp [hf]) hd n hn)
theorem wt_arg {ts : List TypeId} {ds : List (DataW H)} (h : (DataW.weightsEach Tryz.prog ts ds).all (· ≤ reachBytes) = true) {j : Nat} {t : TypeId} {d : DataW H} (ht : ts[j]? = some t) (hd : ds[j]? = some d) : Wt t d := fun n hn => of_decide_eq_true (List.all_eq_true.1 h _ (DataW.weights_mem_each ht hd n hn))
end
theorem b_ad : Tryz.prog.bytesOf 66 = 24 := by kernel_rfl
theorem b_rl : Tryz.prog.bytesOf 77 = 40 := by kernel_rfl
theorem b_lo : Tryz.prog.bytesOf 26 = 48 := by kernel_rfl
theorem b_up : Tryz.prog.bytesOf 61 = 48 := by kernel_rfl
theorem b_an : Tryz.prog.bytesOf 71 = 56 := by kernel_rfl
theorem c_up : Tryz.prog.cellsOf 61 = 3 := by kernel_rfl
theorem c_an : Tryz.prog.cellsOf 71 = 5 := by kernel_rfl
theorem c_cf : Tryz.prog.cellsOf 51 = 9 := by kernel_rfl
section
variable {H : Type} {enc : TypeId × Value → H} {W : World}
theorem wt_len {t e : TypeId} {fuel len cap : Nat} {q : Option Addr} {x : DataW H × List MemPlace} (hu : Tryz.prog.underlying t = some (.slice e)) (hf : DataW.trod enc Tryz.prog W 0 (fun _ => true) true fuel t [.slice q len cap] = some x) (hw : Wt t x.1) : len * Tryz.prog.bytesOf e ≤ 140737488351232 := by
 rcases DataW.trod_slice hu hf with ⟨h1, _⟩ | ⟨a, len', cap', elems, rest, n, _, h1, hx, _, _, _, hl, _⟩
 ·simp at h1
  rw [h1.2.1]; omega
 ·simp at h1
  obtain ⟨_, rfl, _⟩ := h1
  rw [hx] at hw
  have := (wt_slice hu hw).1
  simp only [List.length_map] at this
  rw [hl, Nat.add_mul] at this
  omega
theorem slice_form {t e : TypeId} {fuel : Nat} {v : Value} {x : DataW H × List MemPlace} (hu : Tryz.prog.underlying t = some (.slice e)) (hf : DataW.trod enc Tryz.prog W 0 (fun _ => true) true fuel t [v] = some x) : ∃ a len cap, v = .slice a len cap := by
 rcases Go.Deep.open_slice hu hf with ⟨hcs, hx⟩ | ⟨a, len', cap', m, n, D, Pl, hcs, _⟩
 ·simp at hcs; exact ⟨_, _, _, hcs⟩
 ·simp at hcs; exact ⟨_, _, _, hcs⟩
set_option maxRecDepth 100000 in
theorem trod_up {fuel : Nat} {cs : List Value} {x : DataW H × List MemPlace} (h : DataW.trod enc Tryz.prog W 0 (fun _ => true) true fuel 61 cs = some x) (hw : Wt 61 x.1) : ∃ u : Up, UpIn u ∧ ∃ qs cc, cs = [.string u.nm, .slice qs u.sv.length cc, .bool u.fw] ∧ A.AdsAt W qs u.sv ∧ ShC u.sv.length cc qs := by
 obtain ⟨y0, y1, y2, k, hx, hlc, t0, t1, t2⟩ := Go.Deep.trod_struct3 Tryz.underlying61 h
 rw [c_up] at hlc
 rw [hx] at hw
 match cs, hlc with
 | [v0, v1, v2], _ =>
  have t0' : DataW.trod enc Tryz.prog W 0 (fun _ => true) true k 9 [v0] = some y0 := t0
  have t1' : DataW.trod enc Tryz.prog W 0 (fun _ => true) true k 46 [v1] = some y1 := t1
  have t2' : DataW.trod enc Tryz.prog W 0 (fun _ => true) true k 4 [v2] = some y2 := t2
  obtain ⟨s0, q0, _, w0⟩ := DataW.trod_string (t := 9) Tryz.underlying9 t0'
  obtain ⟨s2, q2, _⟩ := DataW.trod_bool (t := 4) Tryz.underlying4 t2'
  obtain ⟨a, len, cap, rfl⟩ := slice_form Tryz.underlying46 t1'
  have hwl := wt_len Tryz.underlying46 t1' (wt_part (i := 1) Tryz.underlying61 hw rfl rfl)
  rw [b_ad] at hwl
  obtain ⟨rs, hl, hat, hok, hsh, _⟩ := A.open_ads t1'
  simp at q0 q2
  subst hl
  exact ⟨⟨s0, rs, s2⟩, ⟨w0, hok, hwl⟩, a, cap, by rw [q0, q2], hat, hsh⟩
set_option maxRecDepth 100000 in
theorem trod_an {fuel : Nat} {cs : List Value} {x : DataW H × List MemPlace} (h : DataW.trod enc Tryz.prog W 0 (fun _ => true) true fuel 71 cs = some x) (hw : Wt 71 x.1) : ∃ a : An, AnIn a ∧ cs = [.string a.nm, .int .i64 a.tg, .int .i64 a.al, .int .i64 a.kd, .string a.dg] := by
 obtain ⟨y0, y1, k, hx, hlc, t0, t1⟩ := Go.ChangeShapes.trod_struct2 Tryz.underlying71 h
 rw [c_an] at hlc
 rw [hx] at hw
 match cs, hlc with
 | [v0, v1, v2, v3, v4], _ =>
  have t0' : DataW.trod enc Tryz.prog W 0 (fun _ => true) true k 9 [v0] = some y0 := t0
  have t1' : DataW.trod enc Tryz.prog W 0 (fun _ => true) true k 68 [v1, v2, v3, v4] = some y1 := t1
  have hw1 : Wt 68 y1.1 := wt_part (i := 1) Tryz.underlying71 hw rfl rfl
  obtain ⟨xs, k2, _, hx2, _, hlen, hf⟩ := DataW.trod_struct Tryz.underlying68 t1'
  rw [hx2] at hw1
  match xs, hlen with
  | [z1, z2, z3, z4], _ =>
   have t1a : DataW.trod enc Tryz.prog W 0 (fun _ => true) true k2 3 [v1] = some z1 := hf 0 _ rfl
   have t2a : DataW.trod enc Tryz.prog W 0 (fun _ => true) true k2 3 [v2] = some z2 := hf 1 _ rfl
   have t3a : DataW.trod enc Tryz.prog W 0 (fun _ => true) true k2 3 [v3] = some z3 := hf 2 _ rfl
   have t4a : DataW.trod enc Tryz.prog W 0 (fun _ => true) true k2 9 [v4] = some z4 := hf 3 _ rfl
   obtain ⟨s0, q0, _, w0⟩ := DataW.trod_string (t := 9) Tryz.underlying9 t0'
   obtain ⟨s1, q1, _, w1⟩ := DataW.trod_int (t := 3) (k := .i64) Tryz.underlying3 t1a
   obtain ⟨s2, q2, _, w2⟩ := DataW.trod_int (t := 3) (k := .i64) Tryz.underlying3 t2a
   obtain ⟨s3, q3, _, w3⟩ := DataW.trod_int (t := 3) (k := .i64) Tryz.underlying3 t3a
   obtain ⟨s4, q4, hz4, w4⟩ := DataW.trod_string (t := 9) Tryz.underlying9 t4a
   have hd := wt_part (i := 3) Tryz.underlying68 hw1 rfl rfl
   rw [hz4] at hd
   have hd2 : s4.data.toList.length ≤ 140737488351232 := wt_str hd
   simp at q0 q1 q2 q3 q4
   exact ⟨⟨s0, s1, s2, s3, s4⟩, ⟨w0, hd2, Go.bounds_i64 w1, Go.bounds_i64 w2, Go.bounds_i64 w3⟩, by rw [q0, q1, q2, q3, q4]⟩
open Go.ChangeShapes Go.WideShapes in
set_option maxRecDepth 100000 in
theorem open_ups {a0 : Option Addr} {len cap fuel : Nat} {x : DataW H × List MemPlace} (hf : DataW.trod enc Tryz.prog W 0 (fun _ => true) true fuel 48 [.slice a0 len cap] = some x) (hw : Wt 48 x.1) :
  ∃ rs : List Up, rs.length = len ∧ UpsAt W a0 rs ∧ (∀ u ∈ rs, UpIn u) ∧ ShC len cap a0 := by
 rcases Go.Deep.open_slice Tryz.underlying48 hf with ⟨hcs, hx⟩ | ⟨a, len', cap', m, n, D, Pl, hcs, _, hl, hm, hmm, hx, hall⟩
 ·simp at hcs
  obtain ⟨rfl, rfl, rfl⟩ := hcs
  exact ⟨[], rfl, fun j hj => by simp at hj, fun r hr => by simp at hr, by omega, by unfold maxLen; omega, fun _ => rfl⟩
 ·simp at hcs
  obtain ⟨rfl, rfl, rfl⟩ := hcs
  simp only [if_true] at hmm
  subst hmm
  rw [c_up] at hall
  rw [hx] at hw
  have hwe := (wt_slice Tryz.underlying48 hw).2
  obtain ⟨b, off, spot⟩ := a
  have key : ∀ i, i < len → ∃ r : Up, (spot = none ∧ b < W.heap.size ∧ ∃ qs cc, A.AdsAt W qs r.sv ∧ ShC r.sv.length cc qs ∧ ∀ k, k < 3 → W.cell? ⟨b, off + i * 3 + k, none⟩ = [Value.string r.nm, .slice qs r.sv.length cc, .bool r.fw][k]?) ∧ UpIn r := fun i hi => by
   obtain ⟨cs', h1, h2⟩ := hall i (by omega)
   obtain ⟨_, hlen, hcell⟩ := World.cells?_some h1
   obtain ⟨r, hr, qs, cc, rfl, hat, hs⟩ := trod_up h2 (hwe _ (by simp; exact ⟨i, hi, rfl⟩))
   have hspot : spot = none := by
    obtain ⟨cs0, h10, _⟩ := hall 0 (by omega)
    obtain ⟨_, hl0, hc0⟩ := World.cells?_some h10
    have h00 := hc0 0 (by omega)
    rw [List.getElem?_eq_getElem (by omega)] at h00
    simpa [Addr.add] using World.cell?_spot h00
   subst hspot
   have hk : ∀ k, k < 3 → W.cell? ⟨b, off + i * 3 + k, none⟩ = [Value.string r.nm, .slice qs r.sv.length cc, .bool r.fw][k]? := fun k hk => by
    have := hcell k hk
    rw [Go.Deep.add_add, lad_off, ← Nat.add_assoc] at this
    exact this
   exact ⟨r, ⟨rfl, lcellB ((hk 0 (by omega)).trans (show [Value.string r.nm, .slice qs r.sv.length cc, .bool r.fw][0]? = some _ from rfl)), qs, cc, hat, hs, hk⟩, hr⟩
  obtain ⟨ls, hlen, hr⟩ := llist_of len key
  refine ⟨ls, hlen, fun j hj => ?_, fun d hd => ?_, hl, hm, fun h => by cases h⟩
  ·obtain ⟨⟨hs, hb, qs, cc, hat, hsh, hk⟩, _⟩ := hr j hj
   subst hs
   exact ⟨b, off, qs, cc, rfl, hb, hk 0 (by omega), hk 1 (by omega), hk 2 (by omega), hat, hsh⟩
  ·obtain ⟨j, hj, rfl⟩ := List.getElem_of_mem hd
   exact (hr j hj).2
open Go.ChangeShapes Go.WideShapes in
set_option maxRecDepth 100000 in
theorem open_ans {a0 : Option Addr} {len cap fuel : Nat} {x : DataW H × List MemPlace} (hf : DataW.trod enc Tryz.prog W 0 (fun _ => true) true fuel 49 [.slice a0 len cap] = some x) (hw : Wt 49 x.1) :
  ∃ rs : List An, rs.length = len ∧ AnsAt W a0 rs ∧ (∀ u ∈ rs, AnIn u) ∧ ShC len cap a0 := by
 rcases Go.Deep.open_slice Tryz.underlying49 hf with ⟨hcs, hx⟩ | ⟨a, len', cap', m, n, D, Pl, hcs, _, hl, hm, hmm, hx, hall⟩
 ·simp at hcs
  obtain ⟨rfl, rfl, rfl⟩ := hcs
  exact ⟨[], rfl, fun j hj => by simp at hj, fun r hr => by simp at hr, by omega, by unfold maxLen; omega, fun _ => rfl⟩
 ·simp at hcs
  obtain ⟨rfl, rfl, rfl⟩ := hcs
  simp only [if_true] at hmm
  subst hmm
  rw [c_an] at hall
  rw [hx] at hw
  have hwe := (wt_slice Tryz.underlying49 hw).2
  obtain ⟨b, off, spot⟩ := a
  have key : ∀ i, i < len → ∃ r : An, (spot = none ∧ b < W.heap.size ∧ ∀ k, k < 5 → W.cell? ⟨b, off + i * 5 + k, none⟩ = [Value.string r.nm, .int .i64 r.tg, .int .i64 r.al, .int .i64 r.kd, .string r.dg][k]?) ∧ AnIn r := fun i hi => by
   obtain ⟨cs', h1, h2⟩ := hall i (by omega)
   obtain ⟨_, hlen, hcell⟩ := World.cells?_some h1
   obtain ⟨r, hr, rfl⟩ := trod_an h2 (hwe _ (by simp; exact ⟨i, hi, rfl⟩))
   have hspot : spot = none := by
    obtain ⟨cs0, h10, _⟩ := hall 0 (by omega)
    obtain ⟨_, hl0, hc0⟩ := World.cells?_some h10
    have h00 := hc0 0 (by omega)
    rw [List.getElem?_eq_getElem (by omega)] at h00
    simpa [Addr.add] using World.cell?_spot h00
   subst hspot
   have hk : ∀ k, k < 5 → W.cell? ⟨b, off + i * 5 + k, none⟩ = [Value.string r.nm, .int .i64 r.tg, .int .i64 r.al, .int .i64 r.kd, .string r.dg][k]? := fun k hk => by
    have := hcell k hk
    rw [Go.Deep.add_add, lad_off, ← Nat.add_assoc] at this
    exact this
   exact ⟨r, ⟨rfl, lcellB ((hk 0 (by omega)).trans (show [Value.string r.nm, .int .i64 r.tg, .int .i64 r.al, .int .i64 r.kd, .string r.dg][0]? = some _ from rfl)), hk⟩, hr⟩
  obtain ⟨ls, hlen, hr⟩ := llist_of len key
  refine ⟨ls, hlen, fun j hj => ?_, fun d hd => ?_, hl, hm, fun h => by cases h⟩
  ·obtain ⟨⟨hs, hb, hk⟩, _⟩ := hr j hj
   subst hs
   exact ⟨b, off, rfl, hb, hk 0 (by omega), hk 1 (by omega), hk 2 (by omega), hk 3 (by omega), hk 4 (by omega)⟩
  ·obtain ⟨j, hj, rfl⟩ := List.getElem_of_mem hd
   exact (hr j hj).2
structure CfTight (c : Cf) : Prop where
 t0 : c.rt.length * 24 ≤ 140737488351232
 t1 : c.ru.length * 40 ≤ 140737488351232
 t2 : c.lc.length * 48 ≤ 140737488351232
 t3 : c.up.length * 48 ≤ 140737488351232
 t4 : c.an.length * 56 ≤ 140737488351232
set_option maxRecDepth 100000 in
theorem trod_cf {fuel : Nat} {cs : List Value} {x : DataW H × List MemPlace} (h : DataW.trod enc Tryz.prog W 0 (fun _ => true) true fuel 51 cs = some x) (hw : Wt 51 x.1) : ∃ k c, CfAt W k c ∧ CfIn c ∧ CfTight c ∧ cs = (cfC k c).toList := by
 obtain ⟨xs, f, _, hx, hlc, hlen, hf⟩ := DataW.trod_struct Tryz.underlying51 h
 rw [c_cf] at hlc
 rw [hx] at hw
 match cs, hlc with
 | [v0, v1, v2, v3, v4, v5, v6, v7, v8], _ =>
  match xs, hlen with
  | [y0, y1, y2, y3, y4, y5, y6, y7, y8], _ =>
   have t0 : DataW.trod enc Tryz.prog W 0 (fun _ => true) true f 46 [v0] = some y0 := hf 0 _ rfl
   have t1 : DataW.trod enc Tryz.prog W 0 (fun _ => true) true f 47 [v1] = some y1 := hf 1 _ rfl
   have t2 : DataW.trod enc Tryz.prog W 0 (fun _ => true) true f 22 [v2] = some y2 := hf 2 _ rfl
   have t3 : DataW.trod enc Tryz.prog W 0 (fun _ => true) true f 48 [v3] = some y3 := hf 3 _ rfl
   have t4 : DataW.trod enc Tryz.prog W 0 (fun _ => true) true f 49 [v4] = some y4 := hf 4 _ rfl
   have t5 : DataW.trod enc Tryz.prog W 0 (fun _ => true) true f 3 [v5] = some y5 := hf 5 _ rfl
   have t6 : DataW.trod enc Tryz.prog W 0 (fun _ => true) true f 3 [v6] = some y6 := hf 6 _ rfl
   have t7 : DataW.trod enc Tryz.prog W 0 (fun _ => true) true f 3 [v7] = some y7 := hf 7 _ rfl
   have t8 : DataW.trod enc Tryz.prog W 0 (fun _ => true) true f 3 [v8] = some y8 := hf 8 _ rfl
   have g0 : Wt 46 y0.1 := wt_part (i := 0) Tryz.underlying51 hw rfl rfl
   have g1 : Wt 47 y1.1 := wt_part (i := 1) Tryz.underlying51 hw rfl rfl
   have g2 : Wt 22 y2.1 := wt_part (i := 2) Tryz.underlying51 hw rfl rfl
   have g3 : Wt 48 y3.1 := wt_part (i := 3) Tryz.underlying51 hw rfl rfl
   have g4 : Wt 49 y4.1 := wt_part (i := 4) Tryz.underlying51 hw rfl rfl
   obtain ⟨a0, l0, c0, rfl⟩ := slice_form Tryz.underlying46 t0
   obtain ⟨a1, l1, c1, rfl⟩ := slice_form Tryz.underlying47 t1
   obtain ⟨a2, l2, c2, rfl⟩ := slice_form Tryz.underlying22 t2
   obtain ⟨a3, l3, c3, rfl⟩ := slice_form Tryz.underlying48 t3
   obtain ⟨a4, l4, c4, rfl⟩ := slice_form Tryz.underlying49 t4
   have k0 := wt_len Tryz.underlying46 t0 g0
   have k1 := wt_len Tryz.underlying47 t1 g1
   have k2 := wt_len Tryz.underlying22 t2 g2
   have k3 := wt_len Tryz.underlying48 t3 g3
   have k4 := wt_len Tryz.underlying49 t4 g4
   rw [b_ad] at k0
   rw [b_rl] at k1
   rw [b_lo] at k2
   rw [b_up] at k3
   rw [b_an] at k4
   have hw : ∀ {x : Nat}, x ≤ 140737488351232 → x ≤ 140737488353280 := fun h => Nat.le_trans h (by decide)
   obtain ⟨r0, e0, at0, ok0, sh0, _⟩ := A.open_ads t0
   obtain ⟨r1, e1, at1, ok1, sh1, _⟩ := A.open_rls t1
   obtain ⟨r2, e2, at2, ok2, sh2⟩ := open_locs t2
   obtain ⟨r3, e3, at3, ok3, sh3⟩ := open_ups t3 g3
   obtain ⟨r4, e4, at4, ok4, sh4⟩ := open_ans t4 g4
   subst e0 e1 e2 e3 e4
   obtain ⟨s5, q5, _, w5⟩ := DataW.trod_int (t := 3) (k := .i64) Tryz.underlying3 t5
   obtain ⟨s6, q6, _, w6⟩ := DataW.trod_int (t := 3) (k := .i64) Tryz.underlying3 t6
   obtain ⟨s7, q7, _, w7⟩ := DataW.trod_int (t := 3) (k := .i64) Tryz.underlying3 t7
   obtain ⟨s8, q8, _, w8⟩ := DataW.trod_int (t := 3) (k := .i64) Tryz.underlying3 t8
   simp at q5 q6 q7 q8
   exact ⟨⟨a0, c0, a1, c1, a2, c2, a3, c3, a4, c4⟩, ⟨r0, r1, r2, r3, r4, s5, s6, s7, s8⟩, ⟨at0, at1, at2, at3, at4, sh0, sh1, sh2, sh3, sh4⟩, ⟨ok0, ok1, ok2, ok3, ok4, Go.bounds_i64 w5, Go.bounds_i64 w6, Go.bounds_i64 w7, Go.bounds_i64 w8, hw k0, hw k1, hw k2, hw k3, hw k4⟩, ⟨k0, k1, k2, k3, k4⟩, by rw [q5, q6, q7, q8]⟩
open Go.ChangeShapes Go.WideShapes
set_option maxRecDepth 100000 in
theorem open_cf {r : Reach} {b0 : Nat} {v : Value} {d : DataW H} {p : List MemPlace} (hv : Value.okWide Tryz.prog W r b0 51 v) (h : DataW.Trod enc Tryz.prog W 0 (fun _ => true) true 51 v d p) (hw : Wt 51 d) : ∃ k c, v = cfV k c ∧ CfAt W k c ∧ CfIn c ∧ CfTight c := by
 obtain ⟨cs, rfl, hsz⟩ := okWide_struct Tryz.underlying51 hv
 obtain ⟨fuel, hf⟩ := h
 obtain ⟨k, c, h1, h2, h3, q⟩ := trod_cf hf hw
 refine ⟨k, c, ?_, h1, h2, h3⟩
 obtain ⟨l⟩ := cs
 simp [Value.cells] at q
 rw [q]
end
end Go.Proofs.YtdlcldjlfhmlgaaGreatDoor
/- Layer 15: rightServers, rightDs, rightNumbers, rightRoots, rightRules, rightLocals. -/
namespace Go.Proofs.YtdlcldjlfhmlgaaGreatDoor
open Go.RowKit
theorem ads_cells {W : World} {q : Option Addr} {l : List A.Ad} (hat : A.AdsAt W q l) {n : Nat} (hn : l.length = n) : Hid (∀ i, i < n → ∃ b off, q = some ⟨b, off, none⟩ ∧ ∃ (v : Bool) (h lo : Nat), Hid (∃ a ∈ l, a = ⟨v, h, lo⟩ ∧ ∃ hi : i < l.length, l[i] = a) ∧ Hid (∀ w, Below W.heap.size W w → w.cell? ⟨b, off + i * 3, none⟩ = some (.bool v) ∧ w.cell? ⟨b, off + i * 3 + 1, none⟩ = some (.int .u64 (h : Int)) ∧ w.cell? ⟨b, off + i * 3 + 2, none⟩ = some (.int .u64 (lo : Int)))) := fun i hi0 => by
 have hi : i < l.length := by omega
 obtain ⟨b, off, e, _⟩ := hat i hi
 refine ⟨b, off, e, l[i].v6, l[i].hi, l[i].lo, ⟨l[i], List.getElem_mem hi, rfl, hi, rfl⟩, fun w hb => ?_⟩
 obtain ⟨b', off', e', _, c0, c1, c2⟩ := hat.blk hb i hi
 rw [e] at e'
 cases e'
 exact ⟨c0, c1, c2⟩
set_option maxRecDepth 100000 in
set_option maxHeartbeats 2000000 in
theorem srv_in (W : World) (q : Option Addr) (cap : Nat) (l : List A.Ad) (hat : A.AdsAt W q l) :
  Calls Tryz.prog 105 #[.slice q l.length cap] W fun e w' => e = .returned (.bool (srvR l)) ∧ Below W.heap.size W w' := by
 have HNo : Hid (l.length < 1 ∨ 20 < l.length → srvR l = false) := srvR_len
 have HBad : Hid (∀ a ∈ l, okA a = false → srvR l = false) := fun a ha h => srvR_no ha h
 have HYes : Hid (1 ≤ l.length → l.length ≤ 20 → (∀ j (hj : j < l.length), okA l[j] = true) → srvR l = true) := fun h1 h2 h => srvR_yes h1 h2 fun a ha => by
  obtain ⟨j, hj, rfl⟩ := List.getElem_of_mem ha
  exact h j hj
 obtain ⟨n, hn⟩ : ∃ n, l.length = n := ⟨_, rfl⟩
 have HN := Hid.mk hn
 have HC := ads_cells hat hn
 obtain ⟨N, hNe⟩ : ∃ N, W.heap.size = N := ⟨_, rfl⟩
 have HNN := Hid.mk hNe
 obtain ⟨R, hR⟩ : ∃ R, srvR l = R := ⟨_, rfl⟩
 rw [hR] at HNo HBad HYes ⊢
 rw [hn] at HNo ⊢
 rw [hNe] at HC ⊢
 clear hat hn hNe hR
 by_cases h1 : n < 1
 ·have hR := HNo.out (.inl h1)
  subst hR
  have h1z : (n : Int) < 1 := by omega
  have h2z : ¬ (20 : Int) < (n : Int) := by omega
  go_enter Tryz.func105, Tryz.ntmps105
  go_wp2
  go_ret
  exact ⟨rfl, Below.refl _ _⟩
 by_cases h2 : 20 < n
 ·have hR := HNo.out (.inr h2)
  subst hR
  have h1z : ¬ (n : Int) < 1 := by omega
  have h2z : (20 : Int) < (n : Int) := by omega
  go_enter Tryz.func105, Tryz.ntmps105
  go_wp2
  go_ret
  exact ⟨rfl, Below.refl _ _⟩
 have h1z : ¬ (n : Int) < 1 := by omega
 have h2z : ¬ (20 : Int) < (n : Int) := by omega
 go_enter Tryz.func105, Tryz.ntmps105
 go_wp2
 go_loopw [15] (fun iv wr => ∃ (i : Nat) (u : World), u = wr ∧ i ≤ n ∧ iv = .int .i64 (i : Int) ∧ Hid (∀ j (hj : j < l.length), j < i → okA l[j] = true) ∧ Hid (Below N W u)) (fun iv _ => n - (intOf iv).toNat)
 case atStart => exact ⟨0, _, rfl, Nat.zero_le _, rfl, fun j hj h => absurd h (Nat.not_lt_zero _), Below.refl _ _⟩
 case round =>
  obtain ⟨i, u, rfl, hi, rfl, HA, HU⟩ := hrel
  have hNu : N ≤ u.heap.size := by rw [← HNN.out]; exact HU.out.size
  by_cases hlt : i < n
  ·have hlz : (i : Int) < (n : Int) := by omega
   have wi : IntKind.i64.wrap ((i : Int) + 1) = ((i + 1 : Nat) : Int) := by rw [IntKind.wrap_i64]; omega
   obtain ⟨b, off, rfl, v, h, lo, HI, HX⟩ := HC.out i hlt
   obtain ⟨c0, c1, c2⟩ := HX.out _ HU.out
   obtain ⟨V1, hV1⟩ : ∃ V1, u.alloc (.cells #[.bool v, .int .u64 (h : Int), .int .u64 (lo : Int)] 66) = V1 := ⟨_, rfl⟩
   have X0 : Bx u u.heap.size [.bool v, .int .u64 (h : Int), .int .u64 (lo : Int)] 66 V1 := hV1 ▸ Bx.new u _ _
   have HV1 := Hid.mk hV1
   have HB1 : Hid (Below N W V1) := HU.out.trans (X0.bel.mono hNu)
   have hN1 : N ≤ V1.heap.size := Nat.le_trans hNu X0.bel.size
   have x0 := X0.cells3
   obtain ⟨B, hBe⟩ : ∃ B, u.heap.size = B := ⟨_, rfl⟩
   have HB := Hid.mk hBe
   rw [hBe] at x0
   have HRi := Hid.mk (A.right_in V1 v h lo)
   cases hok : okA ⟨v, h, lo⟩ with
   | false =>
    have hd : decide (A.Ad.right ⟨v, h, lo⟩) = false := hok
    rw [hd] at HRi
    have hR : R = false := by
     obtain ⟨a, ha, e, _⟩ := HI.out
     exact HBad.out a ha (by rw [e]; exact hok)
    subst hR
    clear hV1 hBe X0 hd hok HYes HNo HBad
    go_upto_region 6 with fail
    rw [HV1.out, HB.out]
    go_wp2_with fail
    refine HRi.out.mono ?_
    rintro e w2 ⟨rfl, rfl⟩
    go_wp2
    go_ret
    exact ⟨rfl, HB1.out.alloc hN1 _⟩
   | true =>
    have hd : decide (A.Ad.right ⟨v, h, lo⟩) = true := hok
    rw [hd] at HRi
    have HA2 : Hid (∀ j (hj : j < l.length), j < i + 1 → okA l[j] = true) := fun j hj hji => by
     rcases Nat.lt_succ_iff_lt_or_eq.1 hji with h5 | h5
     ·exact HA.out j hj h5
     ·subst h5
      obtain ⟨a, ha, e, hi', e2⟩ := HI.out
      rw [e2, e]; exact hok
    clear hV1 hBe X0 hd hok HYes HNo HBad HA
    go_upto_region 6 with fail
    rw [HV1.out, HB.out]
    go_wp2_with fail
    refine HRi.out.mono ?_
    rintro e w2 ⟨rfl, rfl⟩
    go_wp2
    go_roundw
    case rel => exact ⟨i + 1, _, rfl, by omega, by first | rfl | go_num, HA2, HB1.out.alloc hN1 _⟩
    case measure => simp [intOf]; omega
  ·have hlz : ¬ (i : Int) < (n : Int) := by omega
   have hR : R = true := HYes.out (by have := HN.out; omega) (by have := HN.out; omega) fun j hj => HA.out j hj (by have := HN.out; omega)
   subst hR
   go_wp2
   go_ret
   exact ⟨rfl, HU.out⟩
set_option maxRecDepth 100000 in
set_option maxHeartbeats 2000000 in
theorem ds_in (W : World) (a : An) : Calls Tryz.prog 107 #[.agg #[.int .i64 a.tg, .int .i64 a.al, .int .i64 a.kd, .string a.dg]] W fun e w' => e = .returned (.bool (dsR a)) ∧ Below W.heap.size W w' := by
 obtain ⟨nm0, tg, al, kd, dg⟩ := a
 simp only
 obtain ⟨R, hR⟩ : ∃ R, dsR ⟨nm0, tg, al, kd, dg⟩ = R := ⟨_, rfl⟩
 rw [hR]
 unfold dsR at hR
 simp only at hR
 have HB : Hid (∀ o : Obj, Below W.heap.size W (W.alloc o)) := fun o => (Below.refl _ _).alloc (Nat.le_refl _) _
 have HZ20 : Hid (((dg.size : Int) == 20) = (dg.size == 20)) := by show _ = _; rw [Bool.eq_iff_iff]; simp; omega
 have HZ32 : Hid (((dg.size : Int) == 32) = (dg.size == 32)) := by show _ = _; rw [Bool.eq_iff_iff]; simp; omega
 by_cases h1 : tg < 0
 ·rw [show decide (0 ≤ tg) = false from decide_eq_false (by omega)] at hR
  simp only [Bool.false_and] at hR
  subst hR
  go_enter Tryz.func107, Tryz.ntmps107
  go_wp2
  go_ret
  exact ⟨rfl, HB.out _⟩
 by_cases h2 : 65535 < tg
 ·rw [show decide (tg ≤ 65535) = false from decide_eq_false (by omega)] at hR
  simp only [Bool.false_and, Bool.and_false] at hR
  subst hR
  go_enter Tryz.func107, Tryz.ntmps107
  go_wp2
  go_ret
  exact ⟨rfl, HB.out _⟩
 rw [show decide (0 ≤ tg) = true from decide_eq_true (by omega), show decide (tg ≤ 65535) = true from decide_eq_true (by omega)] at hR
 simp only [Bool.true_and] at hR
 by_cases h3 : al = 8 ∨ al = 13
 ·have h3b : (al == 8 || al == 13) = true := by simpa using h3
  rw [h3b] at hR
  simp only [Bool.true_and] at hR
  clear h3b
  by_cases k1 : kd = 1
  ·subst k1
   rw [show ((1 : Int) == 1) = true from rfl, show ((1 : Int) == 2) = false from rfl] at hR
   simp only [Bool.true_and, Bool.false_and, Bool.or_false] at hR
   subst hR
   rcases h3 with rfl | rfl
   all_goals
    go_enter Tryz.func107, Tryz.ntmps107
    go_wp2
    go_ret
    exact ⟨by first | exact congrArg (fun b => Ending.returned (Value.bool b)) HZ20.out | exact congrArg (fun b => Ending.returned (Value.bool b)) HZ32.out, HB.out _⟩
  ·by_cases k2 : kd = 2
   ·subst k2
    rw [show ((2 : Int) == 1) = false from rfl, show ((2 : Int) == 2) = true from rfl] at hR
    simp only [Bool.true_and, Bool.false_and, Bool.false_or] at hR
    subst hR
    rcases h3 with rfl | rfl
    all_goals
     go_enter Tryz.func107, Tryz.ntmps107
     go_wp2
     go_ret
     exact ⟨by first | exact congrArg (fun b => Ending.returned (Value.bool b)) HZ20.out | exact congrArg (fun b => Ending.returned (Value.bool b)) HZ32.out, HB.out _⟩
   ·rw [show (kd == 1) = false by simpa using k1, show (kd == 2) = false by simpa using k2] at hR
    simp only [Bool.false_and, Bool.or_false] at hR
    subst hR
    have k1b : (kd == 1) = false := by simpa using k1
    have k2b : (kd == 2) = false := by simpa using k2
    clear k1 k2
    rcases h3 with rfl | rfl
    all_goals
     go_enter Tryz.func107, Tryz.ntmps107
     go_wp2
     go_ret
     exact ⟨rfl, HB.out _⟩
 ·have h3b : (al == 8 || al == 13) = false := by simpa using h3
  rw [h3b] at hR
  simp only [Bool.false_and] at hR
  subst hR
  have a1 : (al != 8) = true := by simp; omega
  have a2 : (al != 13) = true := by simp; omega
  clear h3 h3b
  go_enter Tryz.func107, Tryz.ntmps107
  go_wp2
  go_ret
  exact ⟨rfl, HB.out _⟩
end Go.Proofs.YtdlcldjlfhmlgaaGreatDoor
