/- Texts of this proof, joined: RsA, RcOpen. -/
import Derived.Test.YtikjepodmdaknaaGreatDoorJ11
import Derived.Test.YtikjepodmdaknaaGreatDoorJ12
import Derived.OpenShut
import Derived.WalkKit
import Derived.ProofKit
import Derived.Lib.SmallJoins
import Derived.Deep.SlicePairs
import Derived.Deep.DeepHandedRow
set_option linter.unusedVariables false
set_option linter.unusedSimpArgs false
/- Layer 8: the head of a set, and its signatures, are right or not. -/
namespace Go.Proofs.YtikjepodmdaknaaGreatDoor
open Go.RowKit
abbrev svC (s : Sv) (qd : Option Addr) (cd : Nat) (qg : Option Addr) (cg : Nat) : List Value := [.string s.nm, .int .i64 s.ty, .int .i64 s.cl, .int .i64 s.tl, .slice qd s.ds.length cd, .slice qg s.sg.length cg]
structure SvAt (w : World) (s : Sv) (qd : Option Addr) (cd : Nat) (qg : Option Addr) (cg : Nat) : Prop where
 ds : TxAt w qd s.ds
 sg : TxAt w qg s.sg
 cd : s.ds.length ≤ cd ∧ cd ≤ maxLen
 cg : s.sg.length ≤ cg ∧ cg ≤ maxLen
theorem SvAt.blk {w w' : World} {s : Sv} {qd : Option Addr} {cd : Nat} {qg : Option Addr} {cg : Nat} (h : SvAt w s qd cd qg cg) (hb : Below w.heap.size w w') : SvAt w' s qd cd qg cg := ⟨h.ds.blk hb, h.sg.blk hb, h.cd, h.cg⟩
structure SvIn (s : Sv) : Prop where
 nm : s.nm.size ≤ maxLen
 ds : ∀ d ∈ s.ds, d.size ≤ maxLen
 sg : ∀ d ∈ s.sg, d.size ≤ maxLen
theorem Bx.cells6 {W w : World} {b : Nat} {x0 x1 x2 x3 x4 x5 : Value} {t : TypeId} (h : Bx W b [x0, x1, x2, x3, x4, x5] t w) : w.cell? ⟨b, 0, none⟩ = some x0 ∧ w.cell? ⟨b, 1, none⟩ = some x1 ∧ w.cell? ⟨b, 2, none⟩ = some x2 ∧ w.cell? ⟨b, 3, none⟩ = some x3 ∧ w.cell? ⟨b, 4, none⟩ = some x4 ∧ w.cell? ⟨b, 5, none⟩ = some x5 := ⟨h.cell 0 _ rfl, h.cell 1 _ rfl, h.cell 2 _ rfl, h.cell 3 _ rfl, h.cell 4 _ rfl, h.cell 5 _ rfl⟩
set_option maxRecDepth 100000 in
set_option maxHeartbeats 1000000 in
theorem rhead_in (s : Sv) (h1 : s.nm.size ≤ maxLen) (qd : Option Addr) (cd : Nat) (qg : Option Addr) (cg : Nat) (W : World) : Calls Tryz.prog 118 #[.agg (svC s qd cd qg cg).toArray] W fun e w' => e = .returned (.bool (headOk s)) ∧ Below W.heap.size W w' := by
 have HN := Hid.mk (nright_in s.nm h1)
 have HM := Hid.mk (makes_in s.ty)
 have HA := Hid.mk (fits_in s.cl 16 (by omega))
 have HB := Hid.mk (fits_in s.tl 31 (by omega))
 have hT : headOk s = (isN s.nm && mks s.ty && ftB s.cl 16 && ftB s.tl 31) := rfl
 rw [hT]
 clear hT h1
 generalize isN s.nm = b0 at HN ⊢
 generalize mks s.ty = b1 at HM ⊢
 generalize ftB s.cl 16 = b2 at HA ⊢
 generalize ftB s.tl 31 = b3 at HB ⊢
 have X0 := Bx.new W (svC s qd cd qg cg) 34
 simp only [svC] at X0 ⊢
 generalize s.nm = x0 at HN X0 ⊢
 generalize s.ty = x1 at HM X0 ⊢
 generalize s.cl = x2 at HA X0 ⊢
 generalize s.tl = x3 at HB X0 ⊢
 go_enter Tryz.func118, Tryz.ntmps118
 have c0 := X0.cells6
 go_wp2_with fail
 clear c0
 refine (HN.out _).mono ?_
 rintro e w1 ⟨rfl, hb1⟩
 have X1 := X0.blk hb1
 have c1 := X1.cells6
 clear hb1 X0
 cases b0 with
 | false =>
  go_wp2
  go_ret
  exact ⟨rfl, X1.bel⟩
 | true =>
  go_wp2_with fail
  refine (HM.out _).mono ?_
  rintro e w2 ⟨rfl, rfl⟩
  cases b1 with
  | false =>
   go_wp2
   go_ret
   exact ⟨rfl, X1.bel⟩
  | true =>
   go_wp2_with fail
   refine (HA.out _).mono ?_
   rintro e w2 ⟨rfl, rfl⟩
   cases b2 with
   | false =>
    go_wp2
    go_ret
    exact ⟨rfl, X1.bel⟩
   | true =>
    go_wp2_with fail
    refine (HB.out _).mono ?_
    rintro e w2 ⟨rfl, rfl⟩
    go_wp2
    go_ret
    exact ⟨by cases b3 <;> rfl, X1.bel⟩
theorem num_b2r (n : Nat) (h : n < 65536) : numB (⟨(bytesB n 2).toArray⟩ : ByteArray).data.toList = n := by
 rw [bytesB2]
 simp [numB]
 omega
theorem takeSig_cov {d : ByteArray} {v : Value} {er : Int} (h : TakeSig d v er) : ∃ (n0 n1 n2 n3 n4 n5 n6 : Nat) (s7 s8 : ByteArray), v = .agg #[.int .i64 ((n0 : Nat) : Int), .int .i64 ((n1 : Nat) : Int), .int .i64 ((n2 : Nat) : Int), .int .i64 ((n3 : Nat) : Int), .int .i64 ((n4 : Nat) : Int), .int .i64 ((n5 : Nat) : Int), .int .i64 ((n6 : Nat) : Int), .string s7, .string s8] ∧ ((er = 0 ∧ ∀ k, covOk k d = decide ((n0 : Int) = k)) ∨ (er = 6 ∧ ∀ k, covOk k d = false)) := by
 obtain ⟨n0, n1, n2, n3, n4, n5, n6, s7, s8, hv, hr, hj, he⟩ := h
 refine ⟨n0, n1, n2, n3, n4, n5, n6, s7, s8, hv, ?_⟩
 rcases he with he | ⟨he, hs, _⟩
 ·refine .inl ⟨he, fun k => ?_⟩
  have := hj he
  unfold joinR at this
  simp only at this
  split at this
  ·rename_i hsp
   have hd := Option.some.inj this
   rw [hd] at hsp
   unfold covOk
   rw [hsp]
   simp only
   rw [num_b2r n0 hr.1]
  ·cases this
 ·refine .inr ⟨he, fun k => ?_⟩
  unfold covOk
  rw [hs]
end Go.Proofs.YtikjepodmdaknaaGreatDoor
/- Layer 16: sets and deeds as they come in. -/
namespace Go.Proofs.YtikjepodmdaknaaGreatDoor.Rc
open Go.RowKit
theorem add_off (b o j : Nat) : (⟨b, o, none⟩ : Addr).add j = ⟨b, o + j, none⟩ := So.add_of b o j
theorem cellB {w : World} {p : Addr} {v : Value} (h : w.cell? p = some v) : p.block < w.heap.size := cell_block h
theorem list_of {α : Type} {R : Nat → α → Prop} : ∀ k : Nat, (∀ i, i < k → ∃ x, R i x) → ∃ l : List α, l.length = k ∧ ∀ j (h : j < l.length), R j l[j]
 | 0, _ => ⟨[], rfl, fun j h => by simp at h⟩
 | k + 1, h => by
  obtain ⟨l, hl, hr⟩ := list_of k fun i hi => h i (by omega)
  obtain ⟨x, hx⟩ := h k (by omega)
  refine ⟨l ++ [x], by simp [hl], fun j hj => ?_⟩
  rw [List.getElem_append]
  split
  ·exact hr j (by assumption)
  ·have : j = k := by simp at hj; omega
   subst this
   simpa [hl] using hx
theorem c_str : Tryz.prog.cellsOf 9 = 1 := by kernel_rfl
theorem c_set : Tryz.prog.cellsOf 34 = 6 := by kernel_rfl
theorem c_deed : Tryz.prog.cellsOf 36 = 11 := by kernel_rfl
def ShC (n cap : Nat) (q : Option Addr) : Prop := n ≤ cap ∧ cap ≤ maxLen ∧ (q = none → cap = 0)
structure Dd where
 kd : Int
 s : Sv
 rk : Int
 se : Int
 ve : Int
 nw : Int
structure SvI (s : Sv) : Prop where
 sv : SvIn s
 ty : I64 s.ty
 cl : I64 s.cl
 tl : I64 s.tl
structure DdI (d : Dd) : Prop where
 s : SvI d.s
 kd : I64 d.kd
 rk : I64 d.rk
 se : I64 d.se
 ve : I64 d.ve
 nw : I64 d.nw
abbrev ddC (d : Dd) (qd : Option Addr) (cd : Nat) (qg : Option Addr) (cg : Nat) : List Value := .int .i64 d.kd :: (svC d.s qd cd qg cg ++ [.int .i64 d.rk, .int .i64 d.se, .int .i64 d.ve, .int .i64 d.nw])
def DdsAt (W : World) (q : Option Addr) (l : List Dd) : Prop := ∀ j (hj : j < l.length), ∃ b off qd cd qg cg, q = some ⟨b, off, none⟩ ∧ b < W.heap.size ∧ (∀ k, k < 11 → W.cell? ⟨b, off + j * 11 + k, none⟩ = (ddC l[j] qd cd qg cg)[k]?) ∧ SvAt W l[j].s qd cd qg cg
section
variable {H : Type} {enc : TypeId × Value → H} {W : World}
theorem slice_form {t e : TypeId} {fuel : Nat} {v : Value} {x : DataW H × List MemPlace} (hu : Tryz.prog.underlying t = some (.slice e)) (hf : DataW.trod enc Tryz.prog W 0 (fun _ => true) true fuel t [v] = some x) : ∃ a len cap, v = .slice a len cap := by
 rcases Go.Deep.open_slice hu hf with ⟨hcs, hx⟩ | ⟨a, len', cap', m, n, D, Pl, hcs, _⟩
 ·simp at hcs; exact ⟨_, _, _, hcs⟩
 ·simp at hcs; exact ⟨_, _, _, hcs⟩
open Go.ChangeShapes Go.WideShapes in
set_option maxRecDepth 100000 in
theorem open_txs {a0 : Option Addr} {len cap fuel : Nat} {x : DataW H × List MemPlace} (hf : DataW.trod enc Tryz.prog W 0 (fun _ => true) true fuel 32 [.slice a0 len cap] = some x) :
  ∃ ds : List ByteArray, ds.length = len ∧ TxAt W a0 ds ∧ (∀ d ∈ ds, d.size ≤ maxLen) ∧ ShC len cap a0 := by
 rcases Go.Deep.open_slice Tryz.underlying32 hf with ⟨hcs, hx⟩ | ⟨a, len', cap', m, n, D, Pl, hcs, _, hl, hm, hmm, hx, hall⟩
 ·simp at hcs
  obtain ⟨rfl, rfl, rfl⟩ := hcs
  exact ⟨[], rfl, fun j hj => by simp at hj, fun r hr => by simp at hr, by omega, by unfold maxLen; omega, fun _ => rfl⟩
 ·simp at hcs
  obtain ⟨rfl, rfl, rfl⟩ := hcs
  simp only [if_true] at hmm
  subst hmm
  rw [c_str] at hall
  obtain ⟨b, off, spot⟩ := a
  have key : ∀ i, i < len → ∃ r : ByteArray, (spot = none ∧ b < W.heap.size ∧ W.cell? ⟨b, off + i, none⟩ = some (.string r)) ∧ r.size ≤ maxLen := fun i hi => by
   obtain ⟨cs', h1, h2⟩ := hall i (by omega)
   obtain ⟨_, hlen, hcell⟩ := World.cells?_some h1
   have hspot : spot = none := by
    obtain ⟨cs0, h10, _⟩ := hall 0 (by omega)
    obtain ⟨_, hl0, hc0⟩ := World.cells?_some h10
    have h00 := hc0 0 (by omega)
    rw [List.getElem?_eq_getElem (by omega)] at h00
    simpa [Addr.add] using World.cell?_spot h00
   subst hspot
   match cs', hlen with
   | [v0], _ =>
    obtain ⟨s0, q0, _, w0⟩ := DataW.trod_string (t := 9) Tryz.underlying9 h2
    simp at q0
    have h0 := hcell 0 (by omega)
    rw [Go.Deep.add_add, add_off, Nat.mul_one, Nat.add_zero] at h0
    rw [q0] at h0
    exact ⟨s0, ⟨rfl, cellB h0, h0⟩, w0⟩
  obtain ⟨ls, hlen, hr⟩ := list_of len key
  refine ⟨ls, hlen, fun j hj => ?_, fun d hd => ?_, hl, hm, fun h => by cases h⟩
  ·obtain ⟨⟨hs, hb, h⟩, _⟩ := hr j hj
   subst hs
   exact ⟨b, off, rfl, hb, h⟩
  ·obtain ⟨j, hj, rfl⟩ := List.getElem_of_mem hd
   exact (hr j hj).2
set_option maxRecDepth 100000 in
theorem trod_set {fuel : Nat} {cs : List Value} {x : DataW H × List MemPlace} (h : DataW.trod enc Tryz.prog W 0 (fun _ => true) true fuel 34 cs = some x) : ∃ s : Sv, SvI s ∧ ∃ qd cd qg cg, cs = svC s qd cd qg cg ∧ SvAt W s qd cd qg cg ∧ (qd = none → cd = 0) ∧ (qg = none → cg = 0) := by
 obtain ⟨xs, k2, _, hx2, hlc, hlen, hf⟩ := DataW.trod_struct Tryz.underlying34 h
 rw [c_set] at hlc
 match cs, hlc with
 | [v0, v1, v2, v3, v4, v5], _ =>
  match xs, hlen with
  | [z0, z1, z2, z3, z4, z5], _ =>
   have t0 : DataW.trod enc Tryz.prog W 0 (fun _ => true) true k2 9 [v0] = some z0 := hf 0 _ rfl
   have t1 : DataW.trod enc Tryz.prog W 0 (fun _ => true) true k2 3 [v1] = some z1 := hf 1 _ rfl
   have t2 : DataW.trod enc Tryz.prog W 0 (fun _ => true) true k2 3 [v2] = some z2 := hf 2 _ rfl
   have t3 : DataW.trod enc Tryz.prog W 0 (fun _ => true) true k2 3 [v3] = some z3 := hf 3 _ rfl
   have t4 : DataW.trod enc Tryz.prog W 0 (fun _ => true) true k2 32 [v4] = some z4 := hf 4 _ rfl
   have t5 : DataW.trod enc Tryz.prog W 0 (fun _ => true) true k2 32 [v5] = some z5 := hf 5 _ rfl
   obtain ⟨s0, q0, _, w0⟩ := DataW.trod_string (t := 9) Tryz.underlying9 t0
   obtain ⟨s1, q1, _, w1⟩ := DataW.trod_int (t := 3) (k := .i64) Tryz.underlying3 t1
   obtain ⟨s2, q2, _, w2⟩ := DataW.trod_int (t := 3) (k := .i64) Tryz.underlying3 t2
   obtain ⟨s3, q3, _, w3⟩ := DataW.trod_int (t := 3) (k := .i64) Tryz.underlying3 t3
   obtain ⟨a4, l4, c4, rfl⟩ := slice_form Tryz.underlying32 t4
   obtain ⟨a5, l5, c5, rfl⟩ := slice_form Tryz.underlying32 t5
   obtain ⟨ds, hl4, hat4, hin4, h41, h42, h43⟩ := open_txs t4
   obtain ⟨sg, hl5, hat5, hin5, h51, h52, h53⟩ := open_txs t5
   simp at q0 q1 q2 q3
   subst hl4 hl5
   exact ⟨⟨s0, s1, s2, s3, ds, sg⟩, ⟨⟨w0, hin4, hin5⟩, Go.bounds_i64 w1, Go.bounds_i64 w2, Go.bounds_i64 w3⟩, a4, c4, a5, c5, by rw [q0, q1, q2, q3], ⟨hat4, hat5, ⟨h41, h42⟩, ⟨h51, h52⟩⟩, h43, h53⟩
set_option maxRecDepth 100000 in
theorem trod_deed {fuel : Nat} {cs : List Value} {x : DataW H × List MemPlace} (h : DataW.trod enc Tryz.prog W 0 (fun _ => true) true fuel 36 cs = some x) : ∃ d : Dd, DdI d ∧ ∃ qd cd qg cg, cs = ddC d qd cd qg cg ∧ SvAt W d.s qd cd qg cg := by
 obtain ⟨xs, k2, _, hx2, hlc, hlen, hf⟩ := DataW.trod_struct Tryz.underlying36 h
 rw [c_deed] at hlc
 match cs, hlc with
 | [v0, v1, v2, v3, v4, v5, v6, v7, v8, v9, v10], _ =>
  match xs, hlen with
  | [z0, z1, z2, z3, z4, z5], _ =>
   have t0 : DataW.trod enc Tryz.prog W 0 (fun _ => true) true k2 3 [v0] = some z0 := hf 0 _ rfl
   have t1 : DataW.trod enc Tryz.prog W 0 (fun _ => true) true k2 34 [v1, v2, v3, v4, v5, v6] = some z1 := hf 1 _ rfl
   have t2 : DataW.trod enc Tryz.prog W 0 (fun _ => true) true k2 3 [v7] = some z2 := hf 2 _ rfl
   have t3 : DataW.trod enc Tryz.prog W 0 (fun _ => true) true k2 3 [v8] = some z3 := hf 3 _ rfl
   have t4 : DataW.trod enc Tryz.prog W 0 (fun _ => true) true k2 3 [v9] = some z4 := hf 4 _ rfl
   have t5 : DataW.trod enc Tryz.prog W 0 (fun _ => true) true k2 3 [v10] = some z5 := hf 5 _ rfl
   obtain ⟨s0, q0, _, w0⟩ := DataW.trod_int (t := 3) (k := .i64) Tryz.underlying3 t0
   obtain ⟨s, hs, qd, cd, qg, cg, q1, hat, _, _⟩ := trod_set t1
   obtain ⟨s2, q2, _, w2⟩ := DataW.trod_int (t := 3) (k := .i64) Tryz.underlying3 t2
   obtain ⟨s3, q3, _, w3⟩ := DataW.trod_int (t := 3) (k := .i64) Tryz.underlying3 t3
   obtain ⟨s4, q4, _, w4⟩ := DataW.trod_int (t := 3) (k := .i64) Tryz.underlying3 t4
   obtain ⟨s5, q5, _, w5⟩ := DataW.trod_int (t := 3) (k := .i64) Tryz.underlying3 t5
   simp at q0 q2 q3 q4 q5
   exact ⟨⟨s0, s, s2, s3, s4, s5⟩, ⟨hs, Go.bounds_i64 w0, Go.bounds_i64 w2, Go.bounds_i64 w3, Go.bounds_i64 w4, Go.bounds_i64 w5⟩, qd, cd, qg, cg, by rw [show [v0, v1, v2, v3, v4, v5, v6, v7, v8, v9, v10] = v0 :: ([v1, v2, v3, v4, v5, v6] ++ [v7, v8, v9, v10]) from rfl, q1, q0, q2, q3, q4, q5], hat⟩
open Go.ChangeShapes Go.WideShapes in
set_option maxRecDepth 100000 in
theorem open_dds {a0 : Option Addr} {len cap fuel : Nat} {x : DataW H × List MemPlace} (hf : DataW.trod enc Tryz.prog W 0 (fun _ => true) true fuel 22 [.slice a0 len cap] = some x) :
  ∃ l : List Dd, l.length = len ∧ DdsAt W a0 l ∧ (∀ d ∈ l, DdI d) ∧ ShC len cap a0 := by
 rcases Go.Deep.open_slice Tryz.underlying22 hf with ⟨hcs, hx⟩ | ⟨a, len', cap', m, n, D, Pl, hcs, _, hl, hm, hmm, hx, hall⟩
 ·simp at hcs
  obtain ⟨rfl, rfl, rfl⟩ := hcs
  exact ⟨[], rfl, fun j hj => by simp at hj, fun r hr => by simp at hr, by omega, by unfold maxLen; omega, fun _ => rfl⟩
 ·simp at hcs
  obtain ⟨rfl, rfl, rfl⟩ := hcs
  simp only [if_true] at hmm
  subst hmm
  rw [c_deed] at hall
  obtain ⟨b, off, spot⟩ := a
  have key : ∀ i, i < len → ∃ r : Dd, (spot = none ∧ b < W.heap.size ∧ ∃ qd cd qg cg, (∀ k, k < 11 → W.cell? ⟨b, off + i * 11 + k, none⟩ = (ddC r qd cd qg cg)[k]?) ∧ SvAt W r.s qd cd qg cg) ∧ DdI r := fun i hi => by
   obtain ⟨cs', h1, h2⟩ := hall i (by omega)
   obtain ⟨_, hlen, hcell⟩ := World.cells?_some h1
   have hspot : spot = none := by
    obtain ⟨cs0, h10, _⟩ := hall 0 (by omega)
    obtain ⟨_, hl0, hc0⟩ := World.cells?_some h10
    have h00 := hc0 0 (by omega)
    rw [List.getElem?_eq_getElem (by omega)] at h00
    simpa [Addr.add] using World.cell?_spot h00
   subst hspot
   obtain ⟨r, hr, qd, cd, qg, cg, rfl, hat⟩ := trod_deed h2
   have hk : ∀ k, k < 11 → W.cell? ⟨b, off + i * 11 + k, none⟩ = (ddC r qd cd qg cg)[k]? := fun k hk => by
    have := hcell k hk
    rw [Go.Deep.add_add, add_off, ← Nat.add_assoc] at this
    exact this
   exact ⟨r, ⟨rfl, cellB ((hk 0 (by omega)).trans (show (ddC r qd cd qg cg)[0]? = some _ from rfl)), qd, cd, qg, cg, hk, hat⟩, hr⟩
  obtain ⟨ls, hlen, hr⟩ := list_of len key
  refine ⟨ls, hlen, fun j hj => ?_, fun d hd => ?_, hl, hm, fun h => by cases h⟩
  ·obtain ⟨⟨hs, hb, qd, cd, qg, cg, h, hat⟩, _⟩ := hr j hj
   subst hs
   exact ⟨b, off, qd, cd, qg, cg, rfl, hb, h, hat⟩
  ·obtain ⟨j, hj, rfl⟩ := List.getElem_of_mem hd
   exact (hr j hj).2
end
end Go.Proofs.YtikjepodmdaknaaGreatDoor.Rc
