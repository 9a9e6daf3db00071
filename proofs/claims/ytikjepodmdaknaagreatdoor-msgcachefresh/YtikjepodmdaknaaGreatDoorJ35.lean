/- Texts of this proof, joined: McFh, McFj, McFz. -/
import Derived.Test.YtikjepodmdaknaaGreatDoorJ34
import Derived.Test.YtikjepodmdaknaaGreatDoorJ29
import Derived.Deep.RegionHeld3
import Derived.Deep.CutRange
set_option linter.unusedVariables false
set_option linter.unusedSimpArgs false
/- Layer 17: MsgcacheFresh: its calls. -/
namespace Go.Proofs.YtikjepodmdaknaaGreatDoor.Mc
open Go.RowKit
open Go.Proofs.YtikjepodmdaknaaGreatDoor.Rc (pt nilP Ky blk_lt AL Ev EvI timB RCA FrC SvI foundA getA toldE getR getR_mem evC aput_in aget_in)
def Tl (now : Int) (A : AL) (s : Sv) : Prop := ∃ ev, foundA A (Rc.keyS s.nm s.ty) now = some ev ∧ SvI s ∧ SvI (toldE ev now).s ∧ sameS (toldE ev now).s s = true ∧ s.tl ≤ (toldE ev now).s.tl ∧ 1 ≤ s.tl
theorem Tl.sm {now : Int} {A B : AL} {s : Sv} (h : Tl now A s) (hs : Sm now A B) : Tl now B s := by
 obtain ⟨ev, h1, h2⟩ := h
 exact ⟨ev, (hs _).symm.trans h1, h2⟩
theorem fol_len {now un : Int} : ∀ {ls : List Lk} {B B' : AL} {ss ss' : List Sv}, folA now un B ls ss = (B', some ss') → ss'.length = ss.length + ls.length
 | [], B, B', ss, ss', e => by
  unfold folA at e
  cases e
  rfl
 | l :: ls, B, B', ss, ss', e => by
  unfold folA at e
  cases hf : foundA B (Rc.keyS l.k.1 l.k.2) now with
  | none => rw [hf] at e; cases e
  | some x =>
   rw [hf] at e
   by_cases hv : x.ve = l.ve
   ·simp only [if_pos hv] at e
    have := fol_len e
    simp at this ⊢
    omega
   ·simp only [if_neg hv] at e
    cases e
theorem tel_len {now : Int} {A : AL} {y : Kn} {x : An} (h : (telA A y now).2 = some x) : x.a.length = y.a.length ∧ x.b.length = y.b.length := by
 unfold telA at h
 by_cases hy : y.un ≤ now
 ·rw [if_pos hy] at h; cases h
 rw [if_neg hy] at h
 cases e1 : folA now y.un A y.a [] with
 | mk A1 o1 =>
 rw [e1] at h
 cases o1 with
 | none => cases h
 | some ss =>
  dsimp only at h
  cases e2 : folA now y.un A1 y.b [] with
  | mk A2 o2 =>
  rw [e2] at h
  cases o2 with
  | none => cases h
  | some ts =>
   dsimp only at h
   obtain rfl := Option.some.inj h
   have l1 := fol_len e1
   have l2 := fol_len e2
   simp at l1 l2
   exact ⟨l1, l2⟩
def FS7 (W w : World) (C T X U i : Nat) (A : AL) : Prop := ∃ n n2 ver L, n ≤ i ∧ n2 ≤ i ∧ MS W w C T 1000 n ver A X U 100 n2 L
section
variable {W w w' : World} {C T X U i : Nat} {A : AL} {now : Int}
theorem FS7.blk (h : FS7 W w C T X U i A) (hb : Below w.heap.size w w') : FS7 W w' C T X U i A := by
 obtain ⟨n, n2, ver, L, h1, h2, h4⟩ := h
 exact ⟨n, n2, ver, L, h1, h2, h4.blk hb⟩
theorem FS7.bel (h : FS7 W w C T X U i A) : Below W.heap.size W w := by
 obtain ⟨n, n2, ver, L, h1, h2, h4⟩ := h
 exact h4.bel
theorem FS7.up (h : FS7 W w C T X U i A) : FS7 W w C T X U (i + 1) A := by
 obtain ⟨n, n2, ver, L, h1, h2, h4⟩ := h
 exact ⟨n, n2, ver, L, by omega, by omega, h4⟩
theorem fr_sput (h : FS7 W w C T X U i A) (hi : i ≤ 80) (s : Sv) (hs : SvI s) (qd : Option Addr) (cd : Nat) (qg : Option Addr) (cg : Nat) (hat : SvAt w s qd cd qg cg) :
  Calls Tryz.prog 13 #[pt C, .agg (svC s qd cd qg cg).toArray, .int .i64 3, .int .i64 0, .int .i64 now] w fun e w' => (∃ v, e = .returned v) ∧ ∃ A', FS7 W w' C T X U (i + 1) A' := by
 obtain ⟨n, n2, ver, L, h1, h2, h4⟩ := h
 refine (aput_in h4.rc (by omega) s hs qd cd qg cg hat 3 0 now).mono ?_
 rintro e w' ⟨hp, hf⟩
 rcases hp with ⟨_, e1, e2⟩ | ⟨_, _, e1, e2⟩ | ⟨_, _, e1, e2⟩
 ·exact ⟨⟨_, e1⟩, _, n, n2, _, _, by omega, by omega, h4.rcop hf e2⟩
 ·exact ⟨⟨_, e1⟩, _, n, n2, _, _, by omega, by omega, h4.rcop hf e2⟩
 ·exact ⟨⟨_, e1⟩, _, n + 1, n2, _, _, by omega, by omega, h4.rcop hf e2⟩
theorem fr_put (h : FS7 W w C T X U i A) (hi : i ≤ 80) (d : Dd) (hd : DdI d) (p : Pl) (hc1 : d.x.a.length ≤ p.c1 ∧ p.c1 ≤ maxLen) (hc2 : d.x.b.length ≤ p.c2 ∧ p.c2 ≤ maxLen) (h1 : LAt W w T p.q1 d.x.a) (h2 : LAt W w T p.q2 d.x.b) :
  Calls Tryz.prog 27 #[pt X, .agg (qC d.q).toArray, .agg (aC d.x p.q1 p.c1 p.q2 p.c2).toArray, .int .i64 now] w fun e w' => (∃ v, e = .returned v) ∧ ∃ A', FS7 W w' C T X U (i + 1) A' := by
 obtain ⟨n, n2, ver, L, e1, e2, e4⟩ := h
 refine (mput_in e4 (by omega) (Nat.lt_of_le_of_lt (show n2 ≤ 80 by omega) (by decide)) d.q hd.q.nm hd.q.ty d.x p.q1 p.c1 p.q2 p.c2 hc1 hc2 h1 h2 hd.a hd.b now).mono ?_
 rintro e w' ⟨hf, hp⟩
 rcases hp with ⟨_, h3, h4⟩ | ⟨_, h3, n3, h4, h5⟩
 ·exact ⟨⟨_, h3⟩, _, n, n2, _, _, by omega, by omega, h4⟩
 ·exact ⟨⟨_, h3⟩, _, n, n3, _, _, by omega, by omega, h5⟩
theorem fr_get (h : FS7 W w C T X U i A) (h0 : 0 ≤ now) (ht : timB now = true) (q : Qn) (hq : QnI q) :
  Calls Tryz.prog 29 #[pt X, .agg (qC q).toArray, .int .i64 now] w fun e w' => (∃ A', FS7 W w' C T X U i A' ∧ e = .returned (.tuple #[.agg zAn.toArray, .bool false])) ∨
   (∃ (A' : AL) (x : An) (q1 : Option Addr) (c1 : Nat) (q2 : Option Addr) (c2 : Nat), e = .returned (.tuple #[.agg #[.int .i64 x.rc, .int .i64 x.se, .slice q1 x.a.length c1, .slice q2 x.b.length c2, .int .i64 x.un], .bool true]) ∧ Hid (FS7 W w' C T X U i A' ∧ StRow w' w.heap.size (.slice q1 x.a.length c1) x.a ∧ StRow w' w.heap.size (.slice q2 x.b.length c2) x.b ∧ w.heap.size ≤ w'.heap.size ∧ x.a.length ≤ 20 ∧ x.b.length ≤ 20 ∧ ∀ s ∈ x.a ++ x.b, Tl now A' s)) := by
 obtain ⟨n, n2, ver, L, h1, h2, h4⟩ := h
 refine (mget_in h4 q hq.nm hq.ty now).mono ?_
 rintro e w' ⟨hf, hm, hp⟩
 rcases hp with ⟨e1, e2⟩ | ⟨x, q1, c1, q2, c2, e1, e2, e3, e4⟩
 ·exact .inl ⟨_, ⟨n, n2, ver, _, h1, h2, hm⟩, e2⟩
 ·refine .inr ⟨_, x, q1, c1, q2, c2, e2, ⟨n, n2, ver, _, h1, h2, hm⟩, e3, e4, hf.size, ?_, ?_, fun s hs => ?_⟩
  ·rcases got_cases A L q ht with ⟨_, e⟩ | ⟨y, _, _, e⟩ | ⟨y, z, g1, g2, e⟩
   ·rw [e] at e1; cases e1
   ·rw [e] at e1; cases e1
   ·rw [e] at e1
    obtain rfl := Option.some.inj e1
    rw [(tel_len g2).1]
    exact (h4.ok _ (getR_mem g1)).la
  ·rcases got_cases A L q ht with ⟨_, e⟩ | ⟨y, _, _, e⟩ | ⟨y, z, g1, g2, e⟩
   ·rw [e] at e1; cases e1
   ·rw [e] at e1; cases e1
   ·rw [e] at e1
    obtain rfl := Option.some.inj e1
    rw [(tel_len g2).2]
    exact (h4.ok _ (getR_mem g1)).lb
  ·obtain ⟨hu, hall⟩ := fr_got (n := n) h4.rc.ok ht e1
   have hT : Tl now A s := (hall s hs).all h0 hu
   exact hT.sm (got_sm ht).symm
theorem fr_len (h : FS7 W w C T X U i A) : Calls Tryz.prog 32 #[pt X] w fun e w' => ∃ k : Nat, k ≤ 100 ∧ e = .returned (.int .i64 (k : Int)) ∧ w' = w := by
 obtain ⟨n, n2, ver, L, h1, h2, h4⟩ := h
 refine (mlen_in h4).mono ?_
 rintro e w' ⟨e1, e2⟩
 exact ⟨L.length, h4.len, e1, e2⟩
end
end Go.Proofs.YtikjepodmdaknaaGreatDoor.Mc
/- Layer 17: MsgcacheFresh: rows put together, a set looked up into a box. -/
namespace Go.Proofs.YtikjepodmdaknaaGreatDoor.Mc
open Go.RowKit
open Go.Proofs.YtikjepodmdaknaaGreatDoor.Rc (pt nilP Ky blk_lt AL Ev EvI timB RCA FrC SvI foundA getA toldE getR evC enStore)
section
variable {W V u w : World} {C T X U i : Nat} {A : AL} {now : Int}
theorem FS7.keepS {w' : World} (h : FS7 W w C T X U i A) (hc : ∀ (b : Nat) (c : Array Value) (t : TypeId) (f : Nat × Nat), w.heap[b]? = some (.cells c t f) → t ≠ 34 → w'.heap[b]? = some (.cells c t f)) (hm : ∀ (b : Nat) es cl, w.heap[b]? = some (.map es cl) → w'.heap[b]? = some (.map es cl)) (hb : Below W.heap.size W w') : FS7 W w' C T X U i A := by
 obtain ⟨n, n2, ver, L, h1, h2, h4⟩ := h
 exact ⟨n, n2, ver, L, h1, h2, ms_keepS h4 hc hm hb⟩
theorem fr_cat {N : Nat} {va vb : Value} {a b : List Sv} (h : FS7 W w C T X U i A) (hA : StRow w N va a) (hB : StRow w N vb b) (hN : N ≤ w.heap.size) (hW : W.heap.size ≤ N) (la : a.length ≤ 20) (lb : b.length ≤ 20) {P : Nat} {c : Array Value} {f : Nat × Nat} (hP : w.heap[P]? = some (.cells c 71 f)) :
  ∃ v1 w1 q cap w2, (aSt #[.slice none 0 0, va]).run Tryz.prog w = .ok v1 w1 ∧ w1.heap[P]? = some (.cells c 71 f) ∧ (aSt #[v1, vb]).run Tryz.prog w1 = .ok (.slice q (a ++ b).length cap) w2 ∧ w2.heap[P]? = some (.cells c 71 f) ∧ FS7 W w2 C T X U i A ∧ StRow w2 N (.slice q (a ++ b).length cap) (a ++ b) ∧ ((a ++ b).length ≤ cap ∧ cap ≤ 9223372036854775807) := by
 obtain ⟨v1, w1, r1, s1, b1, k1, c1, m1⟩ := st_cat (StRow.nil w N) hN (by simp) hA (by omega)
 have hs1 : ∀ b, b < w.heap.size → w1.heap[b]? = w.heap[b]? := fun b hb => k1 b hb (fun e => by cases e)
 have B1 : Below w.heap.size w w1 := ⟨b1.os, b1.tape, b1.output, b1.size, hs1⟩
 have h1 := h.blk B1
 have hB1 : StRow w1 N vb b := hB.frm (FrM.below B1)
 rw [List.nil_append] at s1
 obtain ⟨v2, w2, r2, s2, b2, k2, c2, m2⟩ := st_cat s1 (Nat.le_trans hN B1.size) (by omega) hB1 (by omega)
 have hP1 := c1 _ _ _ _ hP (by decide)
 obtain ⟨q, cap, e, hcap⟩ := s2.form
 rw [e] at r2 s2
 refine ⟨v1, w1, q, cap, w2, r1, hP1, r2, c2 _ _ _ _ hP1 (by decide), h1.keepS c2 m2 (h1.bel.trans (b2.mono ?_)), s2, hcap⟩
 exact hW
structure FGot (W V wx : World) (C T X U i : Nat) (A : AL) (s : Sv) (now : Int) (D : Nat) (c : List Value) (bb : Bool) : Prop where
 yes : bb = true
 ex : ∃ (A' : AL) (x : Ev) (q1 : Option Addr) (c1 : Nat) (q2 : Option Addr) (c2 : Nat), c = evC x q1 c1 q2 c2 ∧ FS7 W wx C T X U i A' ∧ Sm now A' A ∧ Rc.Told wx V.heap.size x.s q1 c1 q2 c2 ∧ SvI s ∧ SvI x.s ∧ sameS x.s s = true ∧ s.tl ≤ x.s.tl ∧ 1 ≤ s.tl
 box : wx.heap[D]? = some (.cells c.toArray 44 (0, 0))
 fr : FrC T V wx
theorem FGot.of {wx : World} {n n2 : Nat} {ver : Int} {L : KL} {s : Sv} {D : Nat} {c : List Value} {bb : Bool} (h1 : n ≤ i) (h2 : n2 ≤ i) (h : MS W V C T 1000 n ver A X U 100 n2 L) (hT : Tl now A s) (hj : GotJ W V wx C T 1000 n ver A (Rc.keyS s.nm s.ty) now D c bb) : FGot W V wx C T X U i A s now D c bb := by
 obtain ⟨ev, g1, g2, g3, g4, g5, g6⟩ := hT
 rcases hj.gc with ⟨_, e⟩ | ⟨rfl, x, q1, c1, q2, c2, e1, e2, e3⟩
 ·rw [g1] at e; cases e
 ·rw [g1] at e2
  obtain rfl := Option.some.inj e2
  exact ⟨rfl, ⟨_, toldE ev now, q1, c1, q2, c2, e1, ⟨n, n2, ver, L, h1, h2, h.rcop hj.fr hj.rc⟩, sm_get A _, e3, g2, g3, g4, g5, g6⟩, hj.box, hj.fr⟩
theorem fr_behind (h : FS7 W V C T X U i A) {s : Sv} (hT : Tl now A s) (hu : Below V.heap.size V u) :
  Calls Tryz.prog 15 #[pt C, .string s.nm, .int .i64 s.ty, .int .i64 now] u fun e w' => ∃ (c : List Value) (bb : Bool), e = .returned (.tuple #[.agg c.toArray, .bool bb]) ∧ (enStore (pt w'.heap.size) (.agg c.toArray)).run Tryz.prog (w'.alloc zeO) = .ok () ((w'.alloc zeO).setRow w'.heap.size c.toArray) ∧ FrC T V w' ∧ Hid (FGot W V ((w'.alloc zeO).setRow w'.heap.size c.toArray) C T X U i A s now w'.heap.size c bb) := by
 obtain ⟨n, n2, ver, L, h1, h2, h4⟩ := h
 have hT' := hT
 obtain ⟨ev, g1, g2, _⟩ := hT
 refine (got_behind h4.rc hu s.nm g2.sv.nm s.ty now g2.ty).mono ?_
 rintro e w' ⟨c, bb, e1, e2, e3, e4⟩
 exact ⟨c, bb, e1, e2, e3, FGot.of h1 h2 h4 hT' e4.out⟩
theorem fr_ahead (h : FS7 W V C T X U i A) {s : Sv} (hT : Tl now A s) :
  Calls Tryz.prog 15 #[pt C, .string s.nm, .int .i64 s.ty, .int .i64 now] ((V.alloc zeO).drew) fun e w' => ∃ (c : List Value) (bb : Bool), e = .returned (.tuple #[.agg c.toArray, .bool bb]) ∧ (enStore (pt V.heap.size) (.agg c.toArray)).run Tryz.prog w' = .ok () (w'.setRow V.heap.size c.toArray) ∧ FrC T V w' ∧ Hid (FGot W V (w'.setRow V.heap.size c.toArray) C T X U i A s now V.heap.size c bb) := by
 obtain ⟨n, n2, ver, L, h1, h2, h4⟩ := h
 have hT' := hT
 obtain ⟨ev, g1, g2, _⟩ := hT
 refine (got_ahead h4.rc ((Below.refl _ _).drew) s.nm g2.sv.nm s.ty now g2.ty).mono ?_
 rintro e w' ⟨c, bb, e1, e2, e3, e4⟩
 exact ⟨c, bb, e1, e2, e3, FGot.of h1 h2 h4 hT' e4.out⟩
end
end Go.Proofs.YtikjepodmdaknaaGreatDoor.Mc
/- Layer 17: MsgcacheFresh, its walk. -/
namespace Go.Proofs.YtikjepodmdaknaaGreatDoor.Mc
open Go.RowKit
open Go.Proofs.YtikjepodmdaknaaGreatDoor.Rc (pt nilP Ky blk_lt AL Ev EvI timB RCA FrC SvI anew_in keyS pickR pickR_ge pickR_lt seLoad loadAt_se enLoad enStore loadAt_en storeAt_en ShC tim_iff evC)
theorem step_aSt {ops : Array Oper} {o : Oper} {a : Act} {w : World} {K : Act → World → Prop} {Q : Exit → Act → World → Prop} {E : Prop} (hg : o.guard = none) (s x : Operand) (hop : o.op = Op.call { callee := Callee.builtin Builtin.append, args := #[s, x], argTypes := #[65, 65] }) (hty : o.type = 65) (vs vx v' : Value) (w' : World) (hs : a.eval s = vs) (hx : a.eval x = vx) (hrun : (aSt #[vs, vx]).run Tryz.prog w = .ok v' w') (hK : K (a.put o.dst v') w') :
  if Region.wanted o (yielded ops a.tmps) = true then Oper.wp Tryz.prog o a w K Q else E := by
 have hw : Region.wanted o (yielded ops a.tmps) = true := by simp [Region.wanted, hg]
 rw [if_pos hw]
 unfold aSt at hrun
 unfold Oper.wp execOp
 simp only [hop, hty, resolve, invoke, builtin, Sem.run_bind, Sem.run_pure, Result.andThen_ok, List.map_toArray, List.map_cons, List.map_nil, hs, hx, hrun]
 exact hK
section
attribute [local go_sem ↓] loadAt_qn loadAt_dd loadAt_se loadAt_en storeAt_en
set_option maxRecDepth 100000 in
set_option maxHeartbeats 32000000 in
theorem fresh_walk (W : World) (q : Option Addr) (cap : Nat) (l : List Dd) (hat : DdsAt W q l) (hin : ∀ d ∈ l, DdI d) (hsh : ShC l.length cap q) :
  Calls Tryz.prog 5 #[.slice q l.length cap] W fun e w' => e = .returned (.bool true) ∧ Below W.heap.size W w' := by
 obtain ⟨n, hn⟩ : ∃ n, l.length = n := ⟨_, rfl⟩
 have HE : Hid (∀ w, Calls Tryz.prog 23 #[] w fun e w' => e = .returned (.bool true) ∧ Below w.heap.size w w') := fun w => examples_in w
 have HPa : Hid (∀ w c, I64 c → Calls Tryz.prog 24 #[.int .i64 c, .int .i64 50] w fun e w' => e = .returned (.int .i64 (pickR c 50)) ∧ w = w') := fun w c hc => (pick_in w c 50 hc (by omega) (by omega)).mono fun e w' h => ⟨h.1, h.2.symm⟩
 have HPb : Hid (∀ w c, I64 c → Calls Tryz.prog 24 #[.int .i64 c, .int .i64 3] w fun e w' => e = .returned (.int .i64 (pickR c 3)) ∧ w = w') := fun w c hc => (pick_in w c 3 hc (by omega) (by omega)).mono fun e w' h => ⟨h.1, h.2.symm⟩
 have HN : Hid (∀ w, Calls Tryz.prog 10 #[.int .i64 1000] w fun e w' => ∃ C T, e = .returned (.tuple #[pt C, .int .i64 0]) ∧ RCA w w' C T 1000 0 0 []) := fun w => anew_in w 1000 (by omega) (by omega)
 have HM : Hid (∀ W w C T, RCA W w C T 1000 0 0 [] → Calls Tryz.prog 25 #[.int .i64 100, pt C] w fun e w' => ∃ X U, e = .returned (.tuple #[pt X, .int .i64 0]) ∧ FS7 W w' C T X U 0 []) := fun W w C T hr => (mnew_in hr 100 (by omega) (by omega)).mono fun e w' h => by
  obtain ⟨X, U, h1, h2⟩ := h
  exact ⟨X, U, h1, 0, 0, 0, [], Nat.le_refl _, Nat.le_refl _, h2⟩
 have HD : Hid (∀ i, i < n → ∃ (b off : Nat) (d : Dd) (p : Pl), q = some ⟨b, off, none⟩ ∧ Hid (DdI d ∧ l[i]? = some d ∧ DdAt W d p) ∧ Hid (∀ w, Below W.heap.size W w → ∀ k, k < 16 → w.cell? ⟨b, off + i * 16 + k, none⟩ = (ddC d p)[k]?)) := fun i hi => by
  obtain ⟨b, off, d, p, e, h1, h2, h3, h4⟩ := dd_given hat hin i (by rw [hn]; exact hi)
  exact ⟨b, off, d, p, e, ⟨h1, h2, h3⟩, h4⟩
 have hnc : n ≤ cap ∧ cap ≤ 9223372036854775807 := by rw [← hn]; have := hsh.1; have := hsh.2.1; unfold maxLen at *; omega
 have HS : Hid (∀ W w C T X U i A now, FS7 W w C T X U i A → i ≤ 80 → ∀ (s : Sv), SvI s → ∀ qd cd qg cg, SvAt w s qd cd qg cg → Calls Tryz.prog 13 #[pt C, .agg #[.string s.nm, .int .i64 s.ty, .int .i64 s.cl, .int .i64 s.tl, .slice qd s.ds.length cd, .slice qg s.sg.length cg], .int .i64 3, .int .i64 0, .int .i64 now] w fun e w' => (∃ v, e = .returned v) ∧ ∃ A', FS7 W w' C T X U (i + 1) A') := fun W w C T X U i A now h hi s hs qd cd qg cg ha => fr_sput h hi s hs qd cd qg cg ha
 have HP : Hid (∀ W1 w C T X U i A now, FS7 W1 w C T X U i A → Below W.heap.size W W1 → i ≤ 80 → ∀ (d : Dd) (p : Pl), DdI d → DdAt W d p → Calls Tryz.prog 27 #[pt X, .agg #[.string d.q.nm, .int .i64 d.q.ty, .int .i64 d.q.cl], .agg #[.int .i64 d.x.rc, .int .i64 d.x.se, .slice p.q1 d.x.a.length p.c1, .slice p.q2 d.x.b.length p.c2, .int .i64 d.x.un], .int .i64 now] w fun e w' => (∃ v, e = .returned v) ∧ ∃ A', FS7 W1 w' C T X U (i + 1) A') := fun W1 w C T X U i A now h hb hi d p hd hp => fr_put h hi d hd p ⟨hp.ca.1, hp.ca.2.1⟩ ⟨hp.cb.1, hp.cb.2.1⟩ (lat_ss hp.a hb) (lat_ss hp.b hb)
 have HG : Hid (∀ W w C T X U i A now, FS7 W w C T X U i A → 0 ≤ now → now ≤ 4294967295 → ∀ (k : Qn), QnI k → Calls Tryz.prog 29 #[pt X, .agg #[.string k.nm, .int .i64 k.ty, .int .i64 k.cl], .int .i64 now] w fun e w' => (∃ A', FS7 W w' C T X U i A' ∧ e = .returned (.tuple #[.agg #[.int .i64 0, .int .i64 0, .slice none 0 0, .slice none 0 0, .int .i64 0], .bool false])) ∨
   (∃ (A' : AL) (x : An) (q1 : Option Addr) (c1 : Nat) (q2 : Option Addr) (c2 : Nat), e = .returned (.tuple #[.agg #[.int .i64 x.rc, .int .i64 x.se, .slice q1 x.a.length c1, .slice q2 x.b.length c2, .int .i64 x.un], .bool true]) ∧ Hid (FS7 W w' C T X U i A' ∧ StRow w' w.heap.size (.slice q1 x.a.length c1) x.a ∧ StRow w' w.heap.size (.slice q2 x.b.length c2) x.b ∧ w.heap.size ≤ w'.heap.size ∧ x.a.length ≤ 20 ∧ x.b.length ≤ 20 ∧ ∀ s ∈ x.a ++ x.b, Tl now A' s))) := fun W w C T X U i A now h h0 h1 k hk => fr_get h h0 (tim_iff.2 ⟨h0, h1⟩) k hk
 have HL : Hid (∀ W w C T X U i A, FS7 W w C T X U i A → Calls Tryz.prog 32 #[pt X] w fun e w' => ∃ k : Nat, k ≤ 100 ∧ e = .returned (.int .i64 (k : Int)) ∧ w = w') := fun W w C T X U i A h => (fr_len h).mono fun e w' h => by
  obtain ⟨k, h1, h2, h3⟩ := h
  exact ⟨k, h1, h2, h3.symm⟩
 rw [hn]
 clear hat hin hsh hn
 go_enter Tryz.func5, Tryz.ntmps5
 go_wp2_with fail
 refine (HE.out _).mono ?_
 rintro e w1 ⟨rfl, hb1⟩
 have HB1 := Hid.mk hb1
 clear hb1
 go_wp2_with fail
 refine (HN.out _).mono ?_
 rintro e w2 ⟨C, T, rfl, hr2⟩
 have HM2 := Hid.mk (HM.out _ _ _ _ hr2)
 clear hr2
 go_wp2_with fail
 refine HM2.out.mono ?_
 rintro e w3 ⟨X, U, rfl, hm3⟩
 have HM3 := Hid.mk hm3
 clear hm3
 go_wp2_with fail
 go_loopw [8, 9] (fun nv iv wr => ∃ (i : Nat) (now : Int) (wq : World) (A : AL), wq = wr ∧ i ≤ n ∧ i ≤ 80 ∧ nv = .int .i64 now ∧ iv = .int .i64 (i : Int) ∧ (0 ≤ now ∧ now ≤ 50 * (i : Int)) ∧ Hid (FS7 w1 wq C T X U i A)) (fun _ iv _ => n - (intOf iv).toNat)
 case atStart => exact ⟨0, 0, _, [], rfl, Nat.zero_le _, by omega, rfl, rfl, by omega, HM3.out⟩
 case round =>
  obtain ⟨i, now, wq, A, rfl, hi, hi80, rfl, rfl, hnow, HI⟩ := hrel
  go_upto_region 10 with fail
  go_cut [38] from 31 to 37 (fun bv wx => ∃ bb : Bool, bv = .bool bb ∧ (bb = true ↔ (i < n ∧ i < 80)) ∧ wx = wq)
  case first =>
   have hlz0 : (0 : Int) ≤ (i : Int) := by omega
   by_cases h1 : i < n
   ·by_cases h2 : i < 80
    ·have hlz : (i : Int) < (n : Int) := by omega
     have hlz6 : (i : Int) < 80 := by omega
     go_wp2
     go_meet
     exact ⟨true, rfl, ⟨fun _ => ⟨h1, h2⟩, fun _ => rfl⟩, rfl⟩
    ·have hlz : (i : Int) < (n : Int) := by omega
     have hlz6 : ¬ (i : Int) < 80 := by omega
     go_wp2
     go_meet
     exact ⟨false, rfl, ⟨fun h => (by cases h), fun h => absurd h.2 h2⟩, rfl⟩
   ·have hlz : ¬ (i : Int) < (n : Int) := by omega
    go_wp2
    go_meet
    exact ⟨false, rfl, ⟨fun h => (by cases h), fun h => absurd h.1 h1⟩, rfl⟩
  case rest =>
  obtain ⟨bb, rfl, hbb, hwc⟩ := hcut
  subst wc
  by_cases hlt : i < n ∧ i < 80
  case neg =>
   obtain rfl : bb = false := by cases bb with | false => rfl | true => exact absurd (hbb.1 rfl) hlt
   clear hlt hbb
   have HF : Hid (Below W.heap.size W wq) := HB1.out.trans (HI.out.bel.mono HB1.out.size)
   have HC := Hid.mk (HL.out _ _ _ _ _ _ _ _ HI.out)
   go_wp2_with fail
   refine HC.out.mono ?_
   rintro e w9 ⟨k, hk, rfl, hw9⟩
   subst hw9
   have hkz : (k : Int) ≤ 100 := by omega
   go_wp2
   go_ret
   exact ⟨rfl, HF.out⟩
  case pos =>
  obtain rfl : bb = true := hbb.2 hlt
  clear hbb
  have hlz : (i : Int) < (n : Int) := by omega
  have hlz0 : (0 : Int) ≤ (i : Int) := by omega
  have wi : IntKind.i64.wrap ((i : Int) + 1) = ((i + 1 : Nat) : Int) := by rw [IntKind.wrap_i64]; omega
  obtain ⟨b, off, d, p, rfl, hd, hc⟩ := HD.out i hlt.1
  have hbz : Below W.heap.size W wq := HB1.out.trans (HI.out.bel.mono HB1.out.size)
  have hl16 : (ddLoad (.pointer (some ⟨b, off + i * 16, none⟩))).run Tryz.prog wq = .ok (.agg #[.int .i64 d.kd, .int .i64 d.nw, .string d.s.nm, .int .i64 d.s.ty, .int .i64 d.s.cl, .int .i64 d.s.tl, .slice p.qd d.s.ds.length p.cd, .slice p.qg d.s.sg.length p.cg, .string d.q.nm, .int .i64 d.q.ty, .int .i64 d.q.cl, .int .i64 d.x.rc, .int .i64 d.x.se, .slice p.q1 d.x.a.length p.c1, .slice p.q2 d.x.b.length p.c2, .int .i64 d.x.un]) wq := (dd_loads (hc.out _ hbz)).1
  obtain ⟨D, hDz⟩ : ∃ D, wq.heap.size = D := ⟨_, rfl⟩
  obtain ⟨V, hV⟩ : ∃ V, wq.alloc (.cells #[.int .i64 d.kd, .int .i64 d.nw, .string d.s.nm, .int .i64 d.s.ty, .int .i64 d.s.cl, .int .i64 d.s.tl, .slice p.qd d.s.ds.length p.cd, .slice p.qg d.s.sg.length p.cg, .string d.q.nm, .int .i64 d.q.ty, .int .i64 d.q.cl, .int .i64 d.x.rc, .int .i64 d.x.se, .slice p.q1 d.x.a.length p.c1, .slice p.q2 d.x.b.length p.c2, .int .i64 d.x.un] 67) = V := ⟨_, rfl⟩
  have bV : Below wq.heap.size wq V := by rw [← hV]; exact (Below.refl _ _).alloc (Nat.le_refl _) _
  have gV : V.heap[D]? = some (.cells #[.int .i64 d.kd, .int .i64 d.nw, .string d.s.nm, .int .i64 d.s.ty, .int .i64 d.s.cl, .int .i64 d.s.tl, .slice p.qd d.s.ds.length p.cd, .slice p.qg d.s.sg.length p.cg, .string d.q.nm, .int .i64 d.q.ty, .int .i64 d.q.cl, .int .i64 d.x.rc, .int .i64 d.x.se, .slice p.q1 d.x.a.length p.c1, .slice p.q2 d.x.b.length p.c2, .int .i64 d.x.un] 67 (0, 0)) := by rw [← hV, ← hDz]; exact heap_alloc_new wq _
  have HV4 := Hid.mk (HI.out.blk bV)
  have HbV : Hid (Below W.heap.size W V) := hbz.trans (bV.mono hbz.size)
  have HDb := Hid.mk (dd_box (p := p) gV)
  have hse : (seLoad (.pointer (some ⟨D, 2, none⟩))).run Tryz.prog V = .ok (.agg #[.string d.s.nm, .int .i64 d.s.ty, .int .i64 d.s.cl, .int .i64 d.s.tl, .slice p.qd d.s.ds.length p.cd, .slice p.qg d.s.sg.length p.cg]) V := by
   have hcc : ∀ k, k < 16 → V.cell? ⟨D, 0 + k, none⟩ = (ddC d p)[k]? := fun k hk => by rw [So.cell_blk gV, Nat.zero_add, List.getElem?_toArray]; rfl
   have := (dd_loads hcc).2.1
   rwa [Nat.zero_add] at this
  have HSe := Hid.mk hse
  have c0 : V.cell? ⟨D, 0, none⟩ = some (.int .i64 d.kd) := by rw [So.cell_blk gV]; rfl
  have c1 : V.cell? ⟨D, 1, none⟩ = some (.int .i64 d.nw) := by rw [So.cell_blk gV]; rfl
  have HV := Hid.mk hV
  obtain ⟨pa, hpa⟩ : ∃ pa, pickR d.nw 50 = pa := ⟨_, rfl⟩
  have hpb : 0 ≤ pa ∧ pa < 50 := by rw [← hpa]; exact ⟨pickR_ge _ _, pickR_lt _ _ (by omega)⟩
  have HC1 := Hid.mk (HPa.out V d.nw hd.out.1.nw)
  rw [hpa] at HC1
  obtain ⟨no, hno⟩ : ∃ no, now + pa = no := ⟨_, rfl⟩
  have wn : IntKind.i64.wrap (now + pa) = no := by rw [IntKind.wrap_i64]; omega
  have Hno : Hid (0 ≤ no ∧ no ≤ 50 * ((i + 1 : Nat) : Int)) := by unfold Hid; omega
  obtain ⟨g, hg⟩ : ∃ g, pickR d.kd 3 = g := ⟨_, rfl⟩
  have hgb : g = 0 ∨ g = 1 ∨ g = 2 := by have h1 := pickR_ge d.kd 3; have h2 := pickR_lt d.kd 3 (by omega); omega
  have HC2 := Hid.mk (HPb.out V d.kd hd.out.1.kd)
  rw [hg] at HC2
  clear hbz bV gV hV hse hpa hg
  go_upto_region 13 with fail
  (try rw [hDz])
  rw [HV.out]
  clear hDz hl16
  go_wp2_with fail
  refine HC1.out.mono ?_
  rintro e w5 ⟨rfl, hw5⟩
  subst hw5
  go_wp2_with fail
  refine HC2.out.mono ?_
  rintro e w6 ⟨rfl, hw6⟩
  subst hw6
  clear c0 c1 wn hno
  rcases hgb with rfl | rfl | rfl
  ·have HC3 := Hid.mk (HS.out _ _ _ _ _ _ _ _ no HV4.out (by omega) d.s hd.out.1.s _ _ _ _ (hd.out.2.2.s.blk HbV.out))
   have hse := HSe.out
   go_wp2_with fail
   refine HC3.out.mono ?_
   rintro e w7 ⟨⟨v, rfl⟩, A', h7⟩
   have H7 := Hid.mk h7
   clear h7 hse
   go_wp2
   go_roundw
   case rel => exact ⟨i + 1, no, _, A', rfl, by omega, by omega, rfl, by first | rfl | go_num, Hno.out, H7.out⟩
   case measure => simp [intOf]; omega
  ·have HC3 := Hid.mk (HP.out _ _ _ _ _ _ _ _ no HV4.out HB1.out (by omega) d p hd.out.1 hd.out.2.2)
   obtain ⟨y0, y1, y2, y3, y4, y5, y6⟩ := HDb.out
   go_wp2_with fail
   refine HC3.out.mono ?_
   rintro e w7 ⟨⟨v, rfl⟩, A', h7⟩
   have H7 := Hid.mk h7
   clear h7 y0 y1 y2 y3 y4 y5 y6
   go_wp2
   go_roundw
   case rel => exact ⟨i + 1, no, _, A', rfl, by omega, by omega, rfl, by first | rfl | go_num, Hno.out, H7.out⟩
   case measure => simp [intOf]; omega
  ·have HC3 := Hid.mk (HG.out _ _ _ _ _ _ _ _ no HV4.out Hno.out.1 (by have := Hno.out; omega) d.q hd.out.1.q)
   have y0 := HDb.out.1
   go_wp2_with fail
   refine HC3.out.mono ?_
   rintro e w7 (⟨A', h7, rfl⟩ | ⟨A', x, q1, c1, q2, c2, rfl, HX⟩)
   ·clear y0
    obtain ⟨V8, hV8⟩ : ∃ V, w7.alloc (.cells #[.int .i64 0, .int .i64 0, .slice none 0 0, .slice none 0 0, .int .i64 0] 71) = V := ⟨_, rfl⟩
    have H8 : Hid (FS7 w1 V8 C T X U (i + 1) A') := (h7.blk (by rw [← hV8]; exact (Below.refl _ _).alloc (Nat.le_refl _) _)).up
    have HV8 := Hid.mk hV8
    clear h7 hV8
    go_upto_region 16 with fail
    rw [HV8.out]
    go_wp2
    go_roundw
    case rel => exact ⟨i + 1, no, _, A', rfl, by omega, by omega, rfl, by first | rfl | go_num, Hno.out, H8.out⟩
    case measure => simp [intOf]; omega
   ·clear y0
    obtain ⟨P, hP⟩ : ∃ P, w7.heap.size = P := ⟨_, rfl⟩
    obtain ⟨V8, hV8⟩ : ∃ V, w7.alloc (.cells #[.int .i64 x.rc, .int .i64 x.se, .slice q1 x.a.length c1, .slice q2 x.b.length c2, .int .i64 x.un] 71) = V := ⟨_, rfl⟩
    have b8 : Below w7.heap.size w7 V8 := by rw [← hV8]; exact (Below.refl _ _).alloc (Nat.le_refl _) _
    have g8 : V8.heap[P]? = some (.cells #[.int .i64 x.rc, .int .i64 x.se, .slice q1 x.a.length c1, .slice q2 x.b.length c2, .int .i64 x.un] 71 (0, 0)) := by rw [← hV8, ← hP]; exact heap_alloc_new w7 _
    have b8d : Below V8.heap.size V8 V8.drew := (Below.refl _ _).drew
    have b7d : Below w7.heap.size w7 V8.drew := b8.trans (b8d.mono b8.size)
    obtain ⟨v1, w8, qq, cc, w9, hr1, hP1, hr2, hP2, h9, hrow, hcap⟩ := fr_cat (HX.out.1.blk b7d) (HX.out.2.1.frm (FrM.below b7d)) (HX.out.2.2.1.frm (FrM.below b7d)) (Nat.le_trans HX.out.2.2.2.1 b7d.size) (HV4.out.bel.size) HX.out.2.2.2.2.1 HX.out.2.2.2.2.2.1 (P := P) (show V8.drew.heap[P]? = _ from g8)
    have HSP : Hid (∀ u : World, u.heap[P]? = some (.cells #[.int .i64 x.rc, .int .i64 x.se, .slice q1 x.a.length c1, .slice q2 x.b.length c2, .int .i64 x.un] 71 (0, 0)) → (fun w : World => w.cell? ⟨P, 2, none⟩ = some (.slice q1 x.a.length c1) ∧ w.cell? ⟨P, 3, none⟩ = some (.slice q2 x.b.length c2)) u) := fun u hu => ⟨by rw [So.cell_blk hu]; rfl, by rw [So.cell_blk hu]; rfl⟩
    obtain ⟨L2, hL2⟩ : ∃ L, x.a ++ x.b = L := ⟨_, rfl⟩
    obtain ⟨ln, hln⟩ : ∃ k, L2.length = k := ⟨_, rfl⟩
    have hT := HX.out.2.2.2.2.2.2
    rw [hL2] at hr2 hrow hcap hT
    rw [hln] at hr2 hrow hcap
    have hl40 : ln ≤ 40 := by rw [← hln, ← hL2, List.length_append]; have := HX.out.2.2.2.2.1; have := HX.out.2.2.2.2.2.1; omega
    obtain ⟨N, hNz⟩ : ∃ N, V.heap.size = N := ⟨_, rfl⟩
    rw [hNz] at hrow
    have H9 : Hid (FS7 w1 w9 C T X U i A' ∧ StRow w9 N (.slice qq ln cc) L2 ∧ ∀ s ∈ L2, Tl no A' s) := ⟨h9, hrow, hT⟩
    have HSm : Hid (∀ w (a z : Sv), SvI a → SvI z → ∀ e1 d1 e2 d2 f1 g1 f2 g2, SvAt w a e1 d1 e2 d2 → SvAt w z f1 g1 f2 g2 → sameS a z = true → Calls Tryz.prog 33 #[.agg #[.string a.nm, .int .i64 a.ty, .int .i64 a.cl, .int .i64 a.tl, .slice e1 a.ds.length d1, .slice e2 a.sg.length d2], .agg #[.string z.nm, .int .i64 z.ty, .int .i64 z.cl, .int .i64 z.tl, .slice f1 z.ds.length g1, .slice f2 z.sg.length g2]] w fun e w' => e = .returned (.bool true) ∧ Below w.heap.size w w') := fun w a z ha hz e1 d1 e2 d2 f1 g1 f2 g2 h5 h6 hsm => by
     have := setSame_in a z ha.sv hz.sv e1 d1 e2 d2 f1 g1 f2 g2 w h5 h6
     rw [hsm] at this
     exact this
    have HV8 := Hid.mk hV8
    have Hg8 := Hid.mk g8
    clear hV8 b8 g8 b8d b7d h9 hrow hT hNz hL2
    go_upto_region 17 with fail
    (try rw [hP])
    rw [HV8.out]
    clear hP
    refine wp_region_held_drew (S := (fun w : World => w.cell? ⟨P, 2, none⟩ = some (.slice q1 x.a.length c1) ∧ w.cell? ⟨P, 3, none⟩ = some (.slice q2 x.b.length c2))) (by kernel_rfl) (HSP.out _ (show (World.drew V8).heap[P]? = _ from Hg8.out)) (fun hHeld => ?_)
    refine wU (i := 0) (v := ?va_0) rfl ?ya_0 (by assumption) ?_
    case ya_0 => (intro w hSw; (try dsimp only at hSw); go_simp; try with_reducible rfl)
    refine wU (i := 1) (v := ?va_1) rfl ?ya_1 (by assumption) ?_
    case ya_1 => (intro w hSw; (try dsimp only at hSw); go_simp; try with_reducible rfl)
    refine wU (i := 3) (v := ?va_3) rfl ?ya_3 (by assumption) ?_
    case ya_3 => (intro w hSw; (try dsimp only at hSw); go_simp; try with_reducible rfl)
    refine wU (i := 4) (v := ?va_4) rfl ?ya_4 (by assumption) ?_
    case ya_4 => (intro w hSw; (try dsimp only at hSw); go_simp; try with_reducible rfl)
    try simp only [Act.put, List.getElem_toArray, List.getElem_cons_succ, List.getElem_cons_zero, List.setIfInBounds_toArray, List.set_cons_zero, List.set_cons_succ]
    refine wpAnyH_ready (rs := [2]) (by kernel_rfl) (by simp) ?_
    refine AllReadyH.cons rfl (fun K hK => ?_) AllReadyH.nil
    refine step_aSt rfl _ _ rfl rfl _ _ _ _ rfl rfl hr1 ?_
    refine hK.out _ _ (HSP.out _ hP1) (fun hHeld => ?_)
    clear hK
    try simp only [Act.put, List.getElem_toArray, List.getElem_cons_succ, List.getElem_cons_zero, List.setIfInBounds_toArray, List.set_cons_zero, List.set_cons_succ]
    refine wpAnyH_ready (rs := [5]) (by kernel_rfl) (by simp) ?_
    refine AllReadyH.cons rfl (fun K hK => ?_) AllReadyH.nil
    refine step_aSt rfl _ _ rfl rfl _ _ _ _ rfl rfl hr2 ?_
    refine hK.out _ _ (HSP.out _ hP2) (fun hHeld => ?_)
    clear hK
    try simp only [Act.put, List.getElem_toArray, List.getElem_cons_succ, List.getElem_cons_zero, List.setIfInBounds_toArray, List.set_cons_zero, List.set_cons_succ]
    refine wU (i := 6) (v := ?vb_6) rfl ?yb_6 (by assumption) ?_
    case yb_6 => (intro w hSw; (try dsimp only at hSw); go_simp; try with_reducible rfl)
    try simp only [Act.put, List.getElem_toArray, List.getElem_cons_succ, List.getElem_cons_zero, List.setIfInBounds_toArray, List.set_cons_zero, List.set_cons_succ]
    refine wpAnyH_done (by kernel_rfl) ?_ _
    clear hHeld hr1 hr2 hP1 hP2
    go_wp2_with fail
    go_loopw [14] (fun kv wr => ∃ (k : Nat) (V2 : World) (A2 : AL), V2 = wr ∧ k ≤ ln ∧ kv = .int .i64 (k : Int) ∧ Hid (FS7 w1 V2 C T X U i A2 ∧ StRow V2 N (.slice qq ln cc) L2 ∧ ∀ s ∈ L2, Tl no A2 s)) (fun kv _ => ln - (intOf kv).toNat)
    case atStart => exact ⟨0, _, A', rfl, Nat.zero_le _, rfl, H9.out⟩
    case round =>
     obtain ⟨k, V2, A2, rfl, hk, rfl, HJ⟩ := hrel
     by_cases hkl : k < ln
     case neg =>
      have hkz : ¬ (k : Int) < (ln : Int) := by omega
      have HJu : Hid (FS7 w1 V2 C T X U (i + 1) A2) := HJ.out.1.up
      go_wp2
      go_roundw
      case rel => exact ⟨i + 1, no, _, A2, rfl, by omega, by omega, rfl, by first | rfl | go_num, Hno.out, HJu.out⟩
      case measure => simp [intOf]; omega
     case pos =>
     have hkz : (k : Int) < (ln : Int) := by omega
     have hkz0 : (0 : Int) ≤ (k : Int) := by omega
     have wk : IntKind.i64.wrap ((k : Int) + 1) = ((k + 1 : Nat) : Int) := by rw [IntKind.wrap_i64]; omega
     obtain ⟨s, hs⟩ : ∃ s, L2[k]? = some s := ⟨L2[k]'(by rw [hln]; exact hkl), List.getElem?_eq_getElem _⟩
     have hsT := HJ.out.2.2 s (List.mem_of_getElem? hs)
     have hrow0 := HJ.out.2.1
     rw [← hln] at hrow0
     obtain ⟨g, f1, g1, f2, g2, rfl, hNg, _, htd, hcs⟩ := hrow0.at k s hs
     have HRow : Hid (∀ u, StRow u N (.slice (some ⟨g, 0, none⟩) ln cc) L2 → Rc.Told u N s f1 g1 f2 g2 → (∀ j, j < 6 → u.cell? ⟨g, k * 6 + j, none⟩ = (svC s f1 g1 f2 g2)[j]?) → True) := fun _ _ _ _ => trivial
     have HCell : Hid (∀ u, FrC T V2 u → (∀ j, j < 6 → u.cell? ⟨g, k * 6 + j, none⟩ = (svC s f1 g1 f2 g2)[j]?) ∧ Rc.Told u N s f1 g1 f2 g2) := fun u hu => by
      refine ⟨fun j hj => ?_, htd.frc hu⟩
      obtain ⟨cur, hcur⟩ : ∃ cur, V2.heap[g]? = some (.cells cur 34 (0, 0)) := by assumption
      have e := hu.same _ _ _ _ hcur (by decide) (by decide) (by decide)
      rw [← hcs j hj, So.cell_blk e, So.cell_blk hcur]
     have HS5 : Hid (∀ u, FrC T V2 u → (fun w : World => w.cell? ⟨g, k * 6, none⟩ = some (.string s.nm) ∧ w.cell? ⟨g, k * 6 + 1, none⟩ = some (.int .i64 s.ty)) u) := fun u hu => ⟨((HCell.out u hu).1 0 (by omega)).trans rfl, ((HCell.out u hu).1 1 (by omega)).trans rfl⟩
     have HB0 : Hid (Below V2.heap.size V2 V2.drew) := (Below.refl _ _).drew
     have HGA := Hid.mk (fun (u : World) (hu : Below V2.heap.size V2 u) => fr_behind HJ.out.1 hsT hu)
     have HGB := Hid.mk (fr_ahead HJ.out.1 hsT)
     clear hcs htd hrow0 HRow
     go_upto_region 21 with fail
     go_cut [15, 16] from 75 to 90 (fun pv bv wx => ∃ (D : Nat) (c : List Value) (bb : Bool), pv = pt D ∧ bv = .bool bb ∧ Hid (FGot w1 V2 wx C T X U i A2 s no D c bb))
     case first =>
      refine wp_region_held_drew (S := (fun w : World => w.cell? ⟨g, k * 6, none⟩ = some (.string s.nm) ∧ w.cell? ⟨g, k * 6 + 1, none⟩ = some (.int .i64 s.ty))) (by kernel_rfl) (HS5.out _ (FrC.below HB0.out)) (fun hHeld => ?_)
      refine wU (i := 0) (v := ?vpa_0) rfl ?ypa_0 (by assumption) ?_
      case ypa_0 => (intro w hSw; (try dsimp only at hSw); go_simp; try with_reducible rfl)
      refine wU (i := 1) (v := ?vpa_1) rfl ?ypa_1 (by assumption) ?_
      case ypa_1 => (intro w hSw; (try dsimp only at hSw); go_simp; try with_reducible rfl)
      refine wU (i := 2) (v := ?vpa_2) rfl ?ypa_2 (by assumption) ?_
      case ypa_2 => (intro w hSw; (try dsimp only at hSw); go_simp; try with_reducible rfl)
      refine wU (i := 3) (v := ?vpa_3) rfl ?ypa_3 (by assumption) ?_
      case ypa_3 => (intro w hSw; (try dsimp only at hSw); go_simp; try with_reducible rfl)
      refine wU (i := 4) (v := ?vpa_4) rfl ?ypa_4 (by assumption) ?_
      case ypa_4 => (intro w hSw; (try dsimp only at hSw); go_simp; try with_reducible rfl)
      refine wU (i := 5) (v := ?vpa_5) rfl ?ypa_5 (by assumption) ?_
      case ypa_5 => (intro w hSw; (try dsimp only at hSw); go_simp; try with_reducible rfl)
      refine wU (i := 6) (v := ?vpa_6) rfl ?ypa_6 (by assumption) ?_
      case ypa_6 => (intro w hSw; (try dsimp only at hSw); go_simp; try with_reducible rfl)
      refine wU (i := 7) (v := ?vpa_7) rfl ?ypa_7 (by assumption) ?_
      case ypa_7 => (intro w hSw; (try dsimp only at hSw); go_simp; try with_reducible rfl)
      refine wU (i := 8) (v := ?vpa_8) rfl ?ypa_8 (by assumption) ?_
      case ypa_8 => (intro w hSw; (try dsimp only at hSw); go_simp; try with_reducible rfl)
      refine wU (i := 9) (v := ?vpa_9) rfl ?ypa_9 (by assumption) ?_
      case ypa_9 => (intro w hSw; (try dsimp only at hSw); go_simp; try with_reducible rfl)
      refine wU (i := 10) (v := ?vpa_10) rfl ?ypa_10 (by assumption) ?_
      case ypa_10 => (intro w hSw; (try dsimp only at hSw); go_simp; try with_reducible rfl)
      refine wU (i := 11) (v := ?vpa_11) rfl ?ypa_11 (by assumption) ?_
      case ypa_11 => (intro w hSw; (try dsimp only at hSw); go_simp; try with_reducible rfl)
      try simp only [Act.put, List.getElem_toArray, List.getElem_cons_succ, List.getElem_cons_zero, List.setIfInBounds_toArray, List.set_cons_zero, List.set_cons_succ]
      refine wpAnyH_ready (rs := [12, 16]) (by kernel_rfl) (by simp) ?_
      refine AllReadyH.cons rfl (fun K hK => ?_) (AllReadyH.cons rfl (fun K hK => ?_) AllReadyH.nil)
      ·go_simp
       go_at_call 15
       refine (HGA.out _ HB0.out).mono ?_
       rintro e w3 ⟨c, bb, rfl, hst, hf3, hj⟩
       have hfa : FrC T V2 (w3.alloc zeO) := hf3.trans (FrC.below ((Below.refl _ _).alloc (Nat.le_refl _) _))
       refine hK.out _ _ (HS5.out _ hf3) (fun hHeld => ?_)
       clear hK K
       try simp only [Act.put, List.getElem_toArray, List.getElem_cons_succ, List.getElem_cons_zero, List.setIfInBounds_toArray, List.set_cons_zero, List.set_cons_succ]
       refine wU (i := 13) (v := ?vpb_13) rfl ?ypb_13 (by assumption) ?_
       case ypb_13 => (intro w hSw; (try dsimp only at hSw); go_simp; try with_reducible rfl)
       refine wU (i := 14) (v := ?vpb_14) rfl ?ypb_14 (by assumption) ?_
       case ypb_14 => (intro w hSw; (try dsimp only at hSw); go_simp; try with_reducible rfl)
       refine wU (i := 15) (v := ?vpb_15) rfl ?ypb_15 (by assumption) ?_
       case ypb_15 => (intro w hSw; (try dsimp only at hSw); go_simp; try with_reducible rfl)
       try simp only [Act.put, List.getElem_toArray, List.getElem_cons_succ, List.getElem_cons_zero, List.setIfInBounds_toArray, List.set_cons_zero, List.set_cons_succ]
       refine wpAnyH_ready (rs := [16]) (by kernel_rfl) (by simp) ?_
       refine AllReadyH.cons rfl (fun K hK => ?_) AllReadyH.nil
       go_simp
       refine hK.out _ _ (HS5.out _ hfa) (fun hHeld => ?_)
       clear hK K
       try simp only [Act.put, List.getElem_toArray, List.getElem_cons_succ, List.getElem_cons_zero, List.setIfInBounds_toArray, List.set_cons_zero, List.set_cons_succ]
       refine wpAnyH_ready (rs := [17]) (by kernel_rfl) (by simp) ?_
       refine AllReadyH.cons rfl (fun K hK => ?_) AllReadyH.nil
       go_simp
       refine hK.out _ _ (HS5.out _ hj.out.fr) (fun hHeld => ?_)
       clear hK K
       try simp only [Act.put, List.getElem_toArray, List.getElem_cons_succ, List.getElem_cons_zero, List.setIfInBounds_toArray, List.set_cons_zero, List.set_cons_succ]
       refine wU (i := 18) (v := ?vpc_18) rfl ?ypc_18 (by assumption) ?_
       case ypc_18 => (intro w hSw; (try dsimp only at hSw); go_simp; try with_reducible rfl)
       try simp only [Act.put, List.getElem_toArray, List.getElem_cons_succ, List.getElem_cons_zero, List.setIfInBounds_toArray, List.set_cons_zero, List.set_cons_succ]
       refine wpAnyH_done (by kernel_rfl) ?_ _
       clear hHeld hst hf3 hfa
       go_wp2
       go_meet
       exact ⟨_, _, _, rfl, rfl, hj⟩
      ·go_simp
       refine hK.out _ _ (HS5.out _ (FrC.below (((Below.refl _ _).alloc (Nat.le_refl _) _).drew))) (fun hHeld => ?_)
       clear hK K
       try simp only [Act.put, List.getElem_toArray, List.getElem_cons_succ, List.getElem_cons_zero, List.setIfInBounds_toArray, List.set_cons_zero, List.set_cons_succ]
       refine wpAnyH_ready (rs := [12]) (by kernel_rfl) (by simp) ?_
       refine AllReadyH.cons rfl (fun K hK => ?_) AllReadyH.nil
       go_simp
       go_at_call 15
       refine HGB.out.mono ?_
       rintro e w3 ⟨c, bb, rfl, hst, hf3, hj⟩
       refine hK.out _ _ (HS5.out _ hf3) (fun hHeld => ?_)
       clear hK K
       try simp only [Act.put, List.getElem_toArray, List.getElem_cons_succ, List.getElem_cons_zero, List.setIfInBounds_toArray, List.set_cons_zero, List.set_cons_succ]
       refine wU (i := 13) (v := ?vpd_13) rfl ?ypd_13 (by assumption) ?_
       case ypd_13 => (intro w hSw; (try dsimp only at hSw); go_simp; try with_reducible rfl)
       refine wU (i := 14) (v := ?vpd_14) rfl ?ypd_14 (by assumption) ?_
       case ypd_14 => (intro w hSw; (try dsimp only at hSw); go_simp; try with_reducible rfl)
       refine wU (i := 15) (v := ?vpd_15) rfl ?ypd_15 (by assumption) ?_
       case ypd_15 => (intro w hSw; (try dsimp only at hSw); go_simp; try with_reducible rfl)
       try simp only [Act.put, List.getElem_toArray, List.getElem_cons_succ, List.getElem_cons_zero, List.setIfInBounds_toArray, List.set_cons_zero, List.set_cons_succ]
       refine wpAnyH_ready (rs := [17]) (by kernel_rfl) (by simp) ?_
       refine AllReadyH.cons rfl (fun K hK => ?_) AllReadyH.nil
       go_simp
       refine hK.out _ _ (HS5.out _ hj.out.fr) (fun hHeld => ?_)
       clear hK K
       try simp only [Act.put, List.getElem_toArray, List.getElem_cons_succ, List.getElem_cons_zero, List.setIfInBounds_toArray, List.set_cons_zero, List.set_cons_succ]
       refine wU (i := 18) (v := ?vpe_18) rfl ?ype_18 (by assumption) ?_
       case ype_18 => (intro w hSw; (try dsimp only at hSw); go_simp; try with_reducible rfl)
       try simp only [Act.put, List.getElem_toArray, List.getElem_cons_succ, List.getElem_cons_zero, List.setIfInBounds_toArray, List.set_cons_zero, List.set_cons_succ]
       refine wpAnyH_done (by kernel_rfl) ?_ _
       clear hHeld hst hf3
       go_wp2
       go_meet
       exact ⟨_, _, _, rfl, rfl, hj⟩
     case rest =>
     obtain ⟨E, c, bb, rfl, rfl, hj⟩ := hcut
     obtain rfl : bb = true := hj.out.yes
     obtain ⟨A3, x3, e1, d1, e2, d2, rfl, h5, hsm, htold, hsI, hxI, hsame, htl1, htl2⟩ := hj.out.ex
     have hfr := hj.out.fr
     have hbox := hj.out.box
     have ng : ¬ s.tl > x3.s.tl := by omega
     have nl : ¬ s.tl < 1 := by omega
     have HS22 : Hid (∀ u, Below wc.heap.size wc u → (fun w : World => (seLoad (.pointer (some ⟨E, 0, none⟩))).run Tryz.prog w = .ok (.agg #[.string x3.s.nm, .int .i64 x3.s.ty, .int .i64 x3.s.cl, .int .i64 x3.s.tl, .slice e1 x3.s.ds.length d1, .slice e2 x3.s.sg.length d2]) w ∧ (seLoad (.pointer (some ⟨g, k * 6, none⟩))).run Tryz.prog w = .ok (.agg #[.string s.nm, .int .i64 s.ty, .int .i64 s.cl, .int .i64 s.tl, .slice f1 s.ds.length g1, .slice f2 s.sg.length g2]) w ∧ w.cell? ⟨E, 3, none⟩ = some (.int .i64 x3.s.tl) ∧ w.cell? ⟨g, k * 6 + 3, none⟩ = some (.int .i64 s.tl)) u) := fun u hu => by
      have hbu := (hu.block E (blk_lt hbox)).trans hbox
      obtain ⟨hcu, _⟩ := HCell.out u (hfr.trans (FrC.below hu))
      refine ⟨?_, ?_, ?_, (hcu 3 (by omega)).trans rfl⟩
      ·refine Rc.load_all (n := 6) u E 0 (svC x3.s e1 d1 e2 d2) rfl (by kernel_rfl) (by kernel_rfl) fun j v hv => ?_
       have hj6 : j < 6 := (List.getElem?_eq_some_iff.1 hv).1
       rw [Nat.zero_add, So.cell_blk hbu, List.getElem?_toArray, ← hv]
       match j, hj6 with
       | 0, _ => rfl
       | 1, _ => rfl
       | 2, _ => rfl
       | 3, _ => rfl
       | 4, _ => rfl
       | 5, _ => rfl
      ·refine Rc.load_all (n := 6) u g (k * 6) (svC s f1 g1 f2 g2) rfl (by kernel_rfl) (by kernel_rfl) fun j v hv => ?_
       rw [hcu j (List.getElem?_eq_some_iff.1 hv).1]
       exact hv
      ·rw [So.cell_blk hbu]; rfl
     have b0 : Below wc.heap.size wc wc.drew := (Below.refl _ _).drew
     have HC22 := Hid.mk (HSm.out wc.drew x3.s s hxI hsI e1 d1 e2 d2 f1 g1 f2 g2 (htold.sv.blk b0) ((HCell.out _ hfr).2.sv.blk b0) hsame)
     have HN22 : Hid (∀ u, Below wc.heap.size wc u → FS7 w1 u C T X U i A3 ∧ StRow u N (.slice (some ⟨g, 0, none⟩) ln cc) L2 ∧ ∀ s ∈ L2, Tl no A3 s) := fun u hu => ⟨h5.blk hu, (HJ.out.2.1.frc hfr).frm (FrM.below hu), fun s' hs' => (HJ.out.2.2 s' hs').sm hsm.symm⟩
     have Hb0 := Hid.mk b0
     clear hfr hbox h5 hsm htold hsI hxI hsame htl1 htl2 b0 HGA HGB HB0 HS5 hsT
     go_upto_region 22 with fail
     refine wp_region_held_drew (S := (fun w : World => (seLoad (.pointer (some ⟨E, 0, none⟩))).run Tryz.prog w = .ok (.agg #[.string x3.s.nm, .int .i64 x3.s.ty, .int .i64 x3.s.cl, .int .i64 x3.s.tl, .slice e1 x3.s.ds.length d1, .slice e2 x3.s.sg.length d2]) w ∧ (seLoad (.pointer (some ⟨g, k * 6, none⟩))).run Tryz.prog w = .ok (.agg #[.string s.nm, .int .i64 s.ty, .int .i64 s.cl, .int .i64 s.tl, .slice f1 s.ds.length g1, .slice f2 s.sg.length g2]) w ∧ w.cell? ⟨E, 3, none⟩ = some (.int .i64 x3.s.tl) ∧ w.cell? ⟨g, k * 6 + 3, none⟩ = some (.int .i64 s.tl))) (by kernel_rfl) (HS22.out _ Hb0.out) (fun hHeld => ?_)
     refine wU (i := 0) (v := ?vq_0) rfl ?yq_0 (by assumption) ?_
     case yq_0 => (intro w hSw; (try dsimp only at hSw); go_simp; try with_reducible rfl)
     refine wpAnyH_take (i := 1) (v := .bool false) rfl (by kernel_rfl) (by kernel_rfl) (by kernel_rfl) (fun _ _ _ h => h) (Or.inl ⟨by kernel_rfl, ?yr_1⟩) (by assumption) ?_
     case yr_1 => (intro w hSw; (try dsimp only at hSw); go_simp; try with_reducible rfl)
     refine wpAnyH_take (i := 2) (v := .bool false) rfl (by kernel_rfl) (by kernel_rfl) (by kernel_rfl) (fun _ _ _ h => h) (Or.inl ⟨by kernel_rfl, ?ys_2⟩) (by assumption) ?_
     case ys_2 => (intro w hSw; (try dsimp only at hSw); go_simp; try with_reducible rfl)
     try simp only [Act.put, List.getElem_toArray, List.getElem_cons_succ, List.getElem_cons_zero, List.setIfInBounds_toArray, List.set_cons_zero, List.set_cons_succ]
     refine wU (i := 3) (v := ?vt_3) rfl ?yt_3 (by assumption) ?_
     case yt_3 => (intro w hSw; (try dsimp only at hSw); go_simp; try with_reducible rfl)
     refine wU (i := 4) (v := ?vt_4) rfl ?yt_4 (by assumption) ?_
     case yt_4 => (intro w hSw; (try dsimp only at hSw); go_simp; try with_reducible rfl)
     refine wU (i := 5) (v := ?vt_5) rfl ?yt_5 (by assumption) ?_
     case yt_5 => (intro w hSw; (try dsimp only at hSw); go_simp; try with_reducible rfl)
     refine wU (i := 6) (v := ?vt_6) rfl ?yt_6 (by assumption) ?_
     case yt_6 => (intro w hSw; (try dsimp only at hSw); go_simp; try with_reducible rfl)
     refine wU (i := 7) (v := ?vt_7) rfl ?yt_7 (by assumption) ?_
     case yt_7 => (intro w hSw; (try dsimp only at hSw); go_simp; try with_reducible rfl)
     refine wU (i := 8) (v := ?vt_8) rfl ?yt_8 (by assumption) ?_
     case yt_8 => (intro w hSw; (try dsimp only at hSw); go_simp; try with_reducible rfl)
     try simp only [Act.put, List.getElem_toArray, List.getElem_cons_succ, List.getElem_cons_zero, List.setIfInBounds_toArray, List.set_cons_zero, List.set_cons_succ]
     refine wpAnyH_ready (rs := [9]) (by kernel_rfl) (by simp) ?_
     refine AllReadyH.cons rfl (fun K hK => ?_) AllReadyH.nil
     go_simp
     go_at_call 33
     refine HC22.out.mono ?_
     rintro e w11 ⟨rfl, hb11⟩
     have H11 : Hid (Below wc.heap.size wc w11) := Hb0.out.trans (hb11.mono Hb0.out.size)
     clear hb11
     refine hK.out _ _ (HS22.out _ H11.out) (fun hHeld => ?_)
     clear hK
     try simp only [Act.put, List.getElem_toArray, List.getElem_cons_succ, List.getElem_cons_zero, List.setIfInBounds_toArray, List.set_cons_zero, List.set_cons_succ]
     refine wpAnyH_take (i := 10) (v := .bool false) rfl (by kernel_rfl) (by kernel_rfl) (by kernel_rfl) (fun _ _ _ h => h) (Or.inl ⟨by kernel_rfl, ?yu_10⟩) (by assumption) ?_
     case yu_10 => (intro w hSw; (try dsimp only at hSw); go_simp; try with_reducible rfl)
     refine wpAnyH_take (i := 11) (v := .bool false) rfl (by kernel_rfl) (by kernel_rfl) (by kernel_rfl) (fun _ _ _ h => h) (Or.inl ⟨by kernel_rfl, ?yv_11⟩) (by assumption) ?_
     case yv_11 => (intro w hSw; (try dsimp only at hSw); go_simp; try with_reducible rfl)
     refine wpAnyH_take (i := 12) (v := .bool false) rfl (by kernel_rfl) (by kernel_rfl) (by kernel_rfl) (fun _ _ _ h => h) (Or.inl ⟨by kernel_rfl, ?yw_12⟩) (by assumption) ?_
     case yw_12 => (intro w hSw; (try dsimp only at hSw); go_simp; try with_reducible rfl)
     try simp only [Act.put, List.getElem_toArray, List.getElem_cons_succ, List.getElem_cons_zero, List.setIfInBounds_toArray, List.set_cons_zero, List.set_cons_succ]
     refine wU (i := 13) (v := ?vx_13) rfl ?yx_13 (by assumption) ?_
     case yx_13 => (intro w hSw; (try dsimp only at hSw); go_simp; try with_reducible rfl)
     refine wU (i := 14) (v := ?vx_14) rfl ?yx_14 (by assumption) ?_
     case yx_14 => (intro w hSw; (try dsimp only at hSw); go_simp; try with_reducible rfl)
     refine wU (i := 15) (v := ?vx_15) rfl ?yx_15 (by assumption) ?_
     case yx_15 => (intro w hSw; (try dsimp only at hSw); go_simp; try with_reducible rfl)
     refine wU (i := 16) (v := ?vx_16) rfl ?yx_16 (by assumption) ?_
     case yx_16 => (intro w hSw; (try dsimp only at hSw); go_simp; try with_reducible rfl)
     refine wU (i := 17) (v := ?vx_17) rfl ?yx_17 (by assumption) ?_
     case yx_17 => (intro w hSw; (try dsimp only at hSw); go_simp; try with_reducible rfl)
     refine wU (i := 18) (v := ?vx_18) rfl ?yx_18 (by assumption) ?_
     case yx_18 => (intro w hSw; (try dsimp only at hSw); go_simp; try with_reducible rfl)
     refine wU (i := 19) (v := ?vx_19) rfl ?yx_19 (by assumption) ?_
     case yx_19 => (intro w hSw; (try dsimp only at hSw); go_simp; try with_reducible rfl)
     refine wU (i := 20) (v := ?vx_20) rfl ?yx_20 (by assumption) ?_
     case yx_20 => (intro w hSw; (try dsimp only at hSw); go_simp; try with_reducible rfl)
     try simp only [Act.put, List.getElem_toArray, List.getElem_cons_succ, List.getElem_cons_zero, List.setIfInBounds_toArray, List.set_cons_zero, List.set_cons_succ]
     refine wpAnyH_take (i := 21) (v := .bool false) rfl (by kernel_rfl) (by kernel_rfl) (by kernel_rfl) (fun _ _ _ h => h) (Or.inl ⟨by kernel_rfl, ?yy_21⟩) (by assumption) ?_
     case yy_21 => (intro w hSw; (try dsimp only at hSw); go_simp; try with_reducible rfl)
     refine wpAnyH_take (i := 22) (v := .bool false) rfl (by kernel_rfl) (by kernel_rfl) (by kernel_rfl) (fun _ _ _ h => h) (Or.inl ⟨by kernel_rfl, ?yz_22⟩) (by assumption) ?_
     case yz_22 => (intro w hSw; (try dsimp only at hSw); go_simp; try with_reducible rfl)
     refine wpAnyH_take (i := 23) (v := .bool false) rfl (by kernel_rfl) (by kernel_rfl) (by kernel_rfl) (fun _ _ _ h => h) (Or.inl ⟨by kernel_rfl, ?yaa_23⟩) (by assumption) ?_
     case yaa_23 => (intro w hSw; (try dsimp only at hSw); go_simp; try with_reducible rfl)
     try simp only [Act.put, List.getElem_toArray, List.getElem_cons_succ, List.getElem_cons_zero, List.setIfInBounds_toArray, List.set_cons_zero, List.set_cons_succ]
     refine wU (i := 24) (v := ?vab_24) rfl ?yab_24 (by assumption) ?_
     case yab_24 => (intro w hSw; (try dsimp only at hSw); go_simp; try with_reducible rfl)
     refine wU (i := 25) (v := ?vab_25) rfl ?yab_25 (by assumption) ?_
     case yab_25 => (intro w hSw; (try dsimp only at hSw); go_simp; try with_reducible rfl)
     refine wU (i := 26) (v := ?vab_26) rfl ?yab_26 (by assumption) ?_
     case yab_26 => (intro w hSw; (try dsimp only at hSw); go_simp; try with_reducible rfl)
     refine wU (i := 27) (v := ?vab_27) rfl ?yab_27 (by assumption) ?_
     case yab_27 => (intro w hSw; (try dsimp only at hSw); go_simp; try with_reducible rfl)
     refine wU (i := 28) (v := ?vab_28) rfl ?yab_28 (by assumption) ?_
     case yab_28 => (intro w hSw; (try dsimp only at hSw); go_simp; try with_reducible rfl)
     try simp only [Act.put, List.getElem_toArray, List.getElem_cons_succ, List.getElem_cons_zero, List.setIfInBounds_toArray, List.set_cons_zero, List.set_cons_succ]
     refine wpAnyH_take (i := 29) (v := .bool false) rfl (by kernel_rfl) (by kernel_rfl) (by kernel_rfl) (fun _ _ _ h => h) (Or.inl ⟨by kernel_rfl, ?yac_29⟩) (by assumption) ?_
     case yac_29 => (intro w hSw; (try dsimp only at hSw); go_simp; try with_reducible rfl)
     refine wpAnyH_take (i := 30) (v := .bool false) rfl (by kernel_rfl) (by kernel_rfl) (by kernel_rfl) (fun _ _ _ h => h) (Or.inl ⟨by kernel_rfl, ?yad_30⟩) (by assumption) ?_
     case yad_30 => (intro w hSw; (try dsimp only at hSw); go_simp; try with_reducible rfl)
     try simp only [Act.put, List.getElem_toArray, List.getElem_cons_succ, List.getElem_cons_zero, List.setIfInBounds_toArray, List.set_cons_zero, List.set_cons_succ]
     refine wpAnyH_done (by kernel_rfl) ?_ _
     clear hHeld ng nl
     go_wp2
     go_roundw
     case rel => exact ⟨k + 1, _, A3, rfl, by omega, by first | rfl | go_num, HN22.out _ H11.out⟩
     case measure => simp [intOf]; omega
end
end Go.Proofs.YtikjepodmdaknaaGreatDoor.Mc
