/- Texts of this proof, joined: RsA, RcOpen. -/
import Derived.Test.YtikjepodmdaknaaGreatDoorJ11
import Derived.Test.YtikjepodmdaknaaGreatDoorJ12
import Derived.OpenShut
import Derived.WalkKit
import Derived.ProofKit
import Derived.Lib.SmallJoins
import Derived.Deep.SlicePairs
import Derived.Deep.DeepHandedRow
set_option linter.unusedVariables false
set_option linter.unusedSimpArgs false
/- Layer 8: the head of a set, and its signatures, are right or not. -/
namespace Go.Proofs.YtikjepodmdaknaaGreatDoor
open Go.RowKit
abbrev svC (s : Sv) (qd : Option Addr) (cd : Nat) (qg : Option Addr) (cg : Nat) : List Value := [.string s.nm, .int .i64 s.ty, .int .i64 s.cl, .int .i64 s.tl, .slice qd s.ds.length cd, .slice qg s.sg.length cg]
structure SvAt (w : World) (s : Sv) (qd : Option Addr) (cd : Nat) (qg : Option Addr) (cg : Nat) : Prop where
 ds : TxAt w qd s.ds
 sg : TxAt w qg s.sg
 cd : s.ds.length ≤ cd ∧ cd ≤ maxLen
 cg : s.sg.length ≤ cg ∧ cg ≤ maxLen
theorem SvAt.blk {w w' : World} {s : Sv} {qd : Option Addr} {cd : Nat} {qg : Option Addr} {cg : Nat} (h : SvAt w s qd cd qg cg) (hb : Below w.heap.size w w') : SvAt w' s qd cd qg cg := ⟨h.ds.blk hb, h.sg.blk hb, h.cd, h.cg⟩
structure SvIn (s : Sv) : Prop where
 nm : s.nm.size ≤ maxLen
 ds : ∀ d ∈ s.ds, d.size ≤ maxLen
 sg : ∀ d ∈ s.sg, d.size ≤ maxLen
theorem Bx.cells6 {W w : World} {b : Nat} {x0 x1 x2 x3 x4 x5 : Value} {t : TypeId} (h : Bx W b [x0, x1, x2, x3, x4, x5] t w) : w.cell? ⟨b, 0, none⟩ = some x0 ∧ w.cell? ⟨b, 1, none⟩ = some x1 ∧ w.cell? ⟨b, 2, none⟩ = some x2 ∧ w.cell? ⟨b, 3, none⟩ = some x3 ∧ w.cell? ⟨b, 4, none⟩ = some x4 ∧ w.cell? ⟨b, 5, none⟩ = some x5 := ⟨h.cell 0 _ rfl, h.cell 1 _ rfl, h.cell 2 _ rfl, h.cell 3 _ rfl, h.cell 4 _ rfl, h.cell 5 _ rfl⟩
set_option maxRecDepth 100000 in
set_option maxHeartbeats 1000000 in
theorem rhead_in (s : Sv) (h1 : s.nm.size ≤ maxLen) (qd : Option Addr) (cd : Nat) (qg : Option Addr) (cg : Nat) (W : World) : Calls Tryz.prog 118 #[.agg (svC s qd cd qg cg).toArray] W fun e w' => e = .returned (.bool (headOk s)) ∧ Below W.heap.size W w' := by
 have HN := Hid.mk (nright_in s.nm h1)
 have HM := Hid.mk (makes_in s.ty)
 have HA := Hid.mk (fits_in s.cl 16 (by omega))
 have HB := Hid.mk (fits_in s.tl 31 (by omega))
 have hT : headOk s = (isN s.nm && mks s.ty && ftB s.cl 16 && ftB s.tl 31) := rfl
 rw [hT]
 clear hT h1
 generalize isN s.nm = b0 at HN ⊢
 generalize mks s.ty = b1 at HM ⊢
 generalize ftB s.cl 16 = b2 at HA ⊢
 generalize ftB s.tl 31 = b3 at HB ⊢
 have X0 := Bx.new W (svC s qd cd qg cg) 34
 simp only [svC] at X0 ⊢
 generalize s.nm = x0 at HN X0 ⊢
 generalize s.ty = x1 at HM X0 ⊢
 generalize s.cl = x2 at HA X0 ⊢
 generalize s.tl = x3 at HB X0 ⊢
 go_enter Tryz.func118, Tryz.ntmps118
 have c0 := X0.cells6
 go_wp2_with fail
 clear c0
 refine (HN.out _).mono ?_
 rintro e w1 ⟨rfl, hb1⟩
 have X1 := X0.blk hb1
 have c1 := X1.cells6
 clear hb1 X0
 cases b0 with
 | false =>
  go_wp2
  go_ret
  exact ⟨rfl, X1.bel⟩
 | true =>
  go_wp2_with fail
  refine (HM.out _).mono ?_
  rintro e w2 ⟨rfl, rfl⟩
  cases b1 with
  | false =>
   go_wp2
   go_ret
   exact ⟨rfl, X1.bel⟩
  | true =>
   go_wp2_with fail
   refine (HA.out _).mono ?_
   rintro e w2 ⟨rfl, rfl⟩
   cases b2 with
   | false =>
    go_wp2
    go_ret
    exact ⟨rfl, X1.bel⟩
   | true =>
    go_wp2_with fail
    refine (HB.out _).mono ?_
    rintro e w2 ⟨rfl, rfl⟩
    go_wp2
    go_ret
    exact ⟨by cases b3 <;> rfl, X1.bel⟩
theorem num_b2r (n : Nat) (h : n < 65536) : numB (⟨(bytesB n 2).toArray⟩ : ByteArray).data.toList = n := by
 rw [bytesB2]
 simp [numB]
 omega
theorem takeSig_cov {d : ByteArray} {v : Value} {er : Int} (h : TakeSig d v er) : ∃ (n0 n1 n2 n3 n4 n5 n6 : Nat) (s7 s8 : ByteArray), v = .agg #[.int .i64 ((n0 : Nat) : Int), .int .i64 ((n1 : Nat) : Int), .int .i64 ((n2 : Nat) : Int), .int .i64 ((n3 : Nat) : Int), .int .i64 ((n4 : Nat) : Int), .int .i64 ((n5 : Nat) : Int), .int .i64 ((n6 : Nat) : Int), .string s7, .string s8] ∧ ((er = 0 ∧ ∀ k, covOk k d = decide ((n0 : Int) = k)) ∨ (er = 6 ∧ ∀ k, covOk k d = false)) := by
 obtain ⟨n0, n1, n2, n3, n4, n5, n6, s7, s8, hv, hr, hj, he⟩ := h
 refine ⟨n0, n1, n2, n3, n4, n5, n6, s7, s8, hv, ?_⟩
 rcases he with he | ⟨he, hs, _⟩
 ·refine .inl ⟨he, fun k => ?_⟩
  have := hj he
  unfold joinR at this
  simp only at this
  split at this
  ·rename_i hsp
   have hd := Option.some.inj this
   rw [hd] at hsp
   unfold covOk
   rw [hsp]
   simp only
   rw [num_b2r n0 hr.1]
  ·cases this
 ·refine .inr ⟨he, fun k => ?_⟩
  unfold covOk
  rw [hs]
end Go.Proofs.YtikjepodmdaknaaGreatDoor
/- Layer 16: sets and deeds as they come in. -/
namespace Go.Proofs.YtikjepodmdaknaaGreatDoor.Rc
open Go.RowKit
theorem cellB {w : World} {p : Addr} {v : Value} (h : w.cell? p = some v) : p.block < w.heap.size := cell_block h
structure SvI (s : Sv) : Prop where
 sv : SvIn s
 ty : I64 s.ty
 cl : I64 s.cl
 tl : I64 s.tl
end Go.Proofs.YtikjepodmdaknaaGreatDoor.Rc
