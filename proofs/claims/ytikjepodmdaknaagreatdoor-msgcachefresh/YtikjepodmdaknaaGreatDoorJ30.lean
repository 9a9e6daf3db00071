/- Texts of this proof, joined: McLe, McLn, McFo. -/
import Derived.Deep.RegionHeld3
import Derived.Test.YtikjepodmdaknaaGreatDoorJ29
import Derived.Test.YtikjepodmdaknaaGreatDoorJ28
set_option linter.unusedVariables false
set_option linter.unusedSimpArgs false
/- Layer 17: what is learnt of an answer. -/
namespace Go.Proofs.YtikjepodmdaknaaGreatDoor.Mc
open Go.RowKit
open Go.Proofs.YtikjepodmdaknaaGreatDoor.Rc (pt nilP Ky kV k0 Kp blk_lt cell_same KOk AL Ev EvI timB RCA FrC foundA getA toldE SvI row_self set_blk free_at tim_iff)
structure L3 (N : Nat) (a : List Value) (v : Vl) (w : World) : Prop where
  b0 : w.heap[N]? = some (.cells a.toArray 71 (0, 0))
  b1 : w.heap[N + 1]? = some (vO vz)
  b2 : w.heap[N + 1 + 1]? = some (vO v)
section
variable {N : Nat} {a : List Value} {v : Vl} {w w' : World}
theorem L3.frc {T : Nat} (h : L3 N a v w) (hf : FrC T w w') : L3 N a v w' := ⟨hf.same _ _ _ _ h.b0 (by decide) (by decide) (by decide), hf.same _ _ _ _ h.b1 (by decide) (by decide) (by decide), hf.same _ _ _ _ h.b2 (by decide) (by decide) (by decide)⟩
theorem L3.blk (h : L3 N a v w) (hb : Below w.heap.size w w') : L3 N a v w' := h.frc (FrC.below (T := 0) hb)
theorem L3.cells {c0 c1 c2 c3 c4 : Value} (h : L3 N [c0, c1, c2, c3, c4] v w) : (w.cell? ⟨N, 0, none⟩ = some c0 ∧ w.cell? ⟨N, 1, none⟩ = some c1 ∧ w.cell? ⟨N, 2, none⟩ = some c2 ∧ w.cell? ⟨N, 3, none⟩ = some c3 ∧ w.cell? ⟨N, 4, none⟩ = some c4) := by
  refine ⟨?_, ?_, ?_, ?_, ?_⟩ <;> (rw [So.cell_blk h.b0]; rfl)
theorem L3.vcells (h : L3 N a v w) : (w.cell? ⟨N + 1 + 1, 4, none⟩ = some (.int .i64 v.un) ∧ w.cell? ⟨N + 1 + 1, 5, none⟩ = some (.slice v.q1 v.n1 v.c1) ∧ w.cell? ⟨N + 1 + 1, 6, none⟩ = some (.slice v.q2 v.n2 v.c2)) ∧ (w.frozen? ⟨N + 1 + 1, 4, none⟩ = false ∧ w.frozen? ⟨N + 1 + 1, 5, none⟩ = false ∧ w.frozen? ⟨N + 1 + 1, 6, none⟩ = false) := by
  refine ⟨⟨?_, ?_, ?_⟩, free_at h.b2 4, free_at h.b2 5, free_at h.b2 6⟩ <;> (rw [So.cell_blk h.b2]; rfl)
theorem L3.set5 (h : L3 N a v w) (q : Option Addr) (n c : Nat) : L3 N a { v with q1 := q, n1 := n, c1 := c } (w.setCell ⟨N + 1 + 1, 5, none⟩ (.slice q n c)) := ⟨(Below.heap_setCell _ _ _ _ (by show N ≠ N + 1 + 1; omega)).trans h.b0, (Below.heap_setCell _ _ _ _ (by show N + 1 ≠ N + 1 + 1; omega)).trans h.b1, set_blk h.b2 5 _⟩
theorem L3.set6 (h : L3 N a v w) (q : Option Addr) (n c : Nat) : L3 N a { v with q2 := q, n2 := n, c2 := c } (w.setCell ⟨N + 1 + 1, 6, none⟩ (.slice q n c)) := ⟨(Below.heap_setCell _ _ _ _ (by show N ≠ N + 1 + 1; omega)).trans h.b0, (Below.heap_setCell _ _ _ _ (by show N + 1 ≠ N + 1 + 1; omega)).trans h.b1, set_blk h.b2 6 _⟩
theorem L3.set4 (h : L3 N a v w) (u : Int) : L3 N a { v with un := u } (w.setCell ⟨N + 1 + 1, 4, none⟩ (.int .i64 u)) := ⟨(Below.heap_setCell _ _ _ _ (by show N ≠ N + 1 + 1; omega)).trans h.b0, (Below.heap_setCell _ _ _ _ (by show N + 1 ≠ N + 1 + 1; omega)).trans h.b1, set_blk h.b2 4 _⟩
end
theorem frc_oth {T : Nat} {w u u' : World} (h : FrC T w u) {D : Nat} (hD : w.heap.size ≤ D) (hs : ∀ b, b ≠ D → u'.heap[b]? = u.heap[b]?) (hz : u.heap.size ≤ u'.heap.size) : FrC T w u' :=
  ⟨Nat.le_trans h.size hz, fun b c t f hx h1 h2 h3 => (hs b (by have := blk_lt hx; omega)).trans (h.same b c t f hx h1 h2 h3), fun M hM => ⟨(cell_same (hs T (by have := cell_lt' hM; omega))).trans (h.mp M hM).1, fun b es cl hne hm => (hs b (by have := blk_lt hm; omega)).trans ((h.mp M hM).2 b es cl hne hm)⟩⟩
theorem rca_oth {W w w' : World} {C T m n : Nat} {ver : Int} {A : AL} (h : RCA W w C T m n ver A) {D : Nat} {c : Array Value} {t : TypeId} {f : Nat × Nat} (hD : w.heap[D]? = some (.cells c t f)) (ht : t = 124 ∨ t = 71) (hs : ∀ b, b ≠ D → w'.heap[b]? = w.heap[b]?) (hb : Below W.heap.size W w') : RCA W w' C T m n ver A := by
  have hs' : ∀ (b : Nat) (c' : Array Value) (t' : TypeId) (f' : Nat × Nat), w.heap[b]? = some (.cells c' t' f') → t' ≠ 124 → t' ≠ 71 → w'.heap[b]? = w.heap[b]? := fun b c' t' f' hb h1 h2 => hs b (fun e => by
    obtain rfl : b = D := e
    rw [hD] at hb
    cases hb
    rcases ht with e | e
    · exact h1 e
    · exact h2 e)
  have hm : ∀ (b : Nat) es cl, w.heap[b]? = some (.map es cl) → w'.heap[b]? = w.heap[b]? := fun b es cl hb => hs b (fun e => by
    obtain rfl : b = D := e
    rw [hD] at hb
    cases hb)
  obtain ⟨l, Q, h, e⟩ := h.ex
  refine ⟨l, Q, ⟨(hs' _ _ _ _ h.bx (by decide) (by decide)).trans h.bx, h.own, ?_, fun p hp => ⟨?_, (h.ev p hp).2⟩, h.ok, h.len, h.nd, h.vb, h.mb⟩, e⟩
  · obtain ⟨E, M, L, ho, e⟩ := h.tab
    refine ⟨E, M, L, ⟨ho.tab.same fun b hb => ?_, ho.own, hb⟩, e⟩
    rcases hb with rfl | rfl | rfl | hb
    · exact hs' _ _ _ _ ho.tab.tb (by decide) (by decide)
    · obtain ⟨es, cl, hx⟩ := ho.tab.mp.isMap
      exact hm _ _ _ hx
    · obtain ⟨c, hx, _⟩ := ho.tab.row.plc b (by simp)
      exact hs' _ _ _ _ hx (by decide) (by decide)
    · obtain ⟨c, hx, _⟩ := ho.tab.row.plc b (List.mem_cons_of_mem _ hb)
      exact hs' _ _ _ _ hx (by decide) (by decide)
  · obtain ⟨qd, cd, qg, cg, h0, h1', h2', r⟩ := (h.ev p hp).1
    exact ⟨qd, cd, qg, cg, (hs' _ _ _ _ h0 (by decide) (by decide)).trans h0, h1'.same (fun b cur _ hb => hs' _ _ _ _ hb (by decide) (by decide)), h2'.same (fun b cur _ hb => hs' _ _ _ _ hb (by decide) (by decide)), r⟩
theorem lk_oth {w w' : World} {M : Nat} {v : Value} {L : List Lk} (h : LkRow w M v L) {D : Nat} {c : Array Value} {t : TypeId} {f : Nat × Nat} (hD : w.heap[D]? = some (.cells c t f)) (ht : t ≠ 249) (hs : ∀ b, b ≠ D → w'.heap[b]? = w.heap[b]?) : LkRow w' M v L := ⟨own_same h.own fun b c' f' _ hb => hs b (fun e => by
  obtain rfl : b = D := e
  rw [hD] at hb
  cases hb
  exact ht rfl)⟩
theorem bel_oth {B : Nat} {W w w' : World} (h : Below B W w) {D i : Nat} {x : Value} (hD : B ≤ D) (e : w.setCell ⟨D, i, none⟩ x = w') : Below B W w' := e ▸ h.setCell (p := ⟨D, i, none⟩) hD x
structure LS (W w : World) (C T m n : Nat) (ver : Int) (A2 : AL) (N : Nat) (aL : List Value) (v : Vl) (ls ms : List Lk) (u : World) : Prop where
  l3 : L3 N aL v u
  rc : RCA W u C T m n ver A2
  fr : FrC T w u
  ra : LkRow u W.heap.size (.slice v.q1 ls.length v.c1) ls
  n1 : v.n1 = ls.length
  rb : LkRow u W.heap.size (.slice v.q2 ms.length v.c2) ms
  n2 : v.n2 = ms.length
  ge : w.heap.size = N
  wl : W.heap.size ≤ N
section
variable {W w u u' : World} {C T m n : Nat} {ver : Int} {A2 A3 : AL} {N : Nat} {aL : List Value} {v v' : Vl} {ls ms : List Lk}
theorem LS.blk (h : LS W w C T m n ver A2 N aL v ls ms u) (hb : Below u.heap.size u u') : LS W w C T m n ver A2 N aL v ls ms u' :=
  ⟨h.l3.blk hb, h.rc.blk hb, h.fr.trans (FrC.below hb), h.ra.frc (FrC.below (T := 0) hb), h.n1, h.rb.frc (FrC.below (T := 0) hb), h.n2, h.ge, h.wl⟩
theorem LS.op (h : LS W w C T m n ver A2 N aL v ls ms u) (hf : FrC T u u') (hr : RCA W u' C T m n ver A3) : LS W w C T m n ver A3 N aL v ls ms u' :=
  ⟨h.l3.frc hf, hr, h.fr.trans hf, h.ra.frc hf, h.n1, h.rb.frc hf, h.n2, h.ge, h.wl⟩
theorem set_oth {w : World} {D i : Nat} {x : Value} : ∀ b, b ≠ D → (w.setCell ⟨D, i, none⟩ x).heap[b]? = w.heap[b]? := fun b hb => Below.heap_setCell _ _ _ _ hb
theorem LS.set5 (h : LS W w C T m n ver A2 N aL v [] ms u) (q : Option Addr) (c : Nat) (hr : LkRow u W.heap.size (.slice q ls.length c) ls) : LS W w C T m n ver A2 N aL { v with q1 := q, n1 := ls.length, c1 := c } ls ms (u.setCell ⟨N + 1 + 1, 5, none⟩ (.slice q ls.length c)) :=
  ⟨h.l3.set5 q _ c, rca_oth h.rc h.l3.b2 (.inl rfl) set_oth (bel_oth h.rc.bel (by have := h.wl; omega) rfl), frc_oth h.fr (by have := h.ge; omega) set_oth (by simp [World.setCell]), lk_oth hr h.l3.b2 (by decide) set_oth, rfl, lk_oth h.rb h.l3.b2 (by decide) set_oth, h.n2, h.ge, h.wl⟩
theorem LS.set6 (h : LS W w C T m n ver A2 N aL v ls [] u) (q : Option Addr) (c : Nat) (hr : LkRow u W.heap.size (.slice q ms.length c) ms) : LS W w C T m n ver A2 N aL { v with q2 := q, n2 := ms.length, c2 := c } ls ms (u.setCell ⟨N + 1 + 1, 6, none⟩ (.slice q ms.length c)) :=
  ⟨h.l3.set6 q _ c, rca_oth h.rc h.l3.b2 (.inl rfl) set_oth (bel_oth h.rc.bel (by have := h.wl; omega) rfl), frc_oth h.fr (by have := h.ge; omega) set_oth (by simp [World.setCell]), lk_oth h.ra h.l3.b2 (by decide) set_oth, h.n1, lk_oth hr h.l3.b2 (by decide) set_oth, rfl, h.ge, h.wl⟩
theorem LS.set4 (h : LS W w C T m n ver A2 N aL v ls ms u) (t : Int) : LS W w C T m n ver A2 N aL { v with un := t } ls ms (u.setCell ⟨N + 1 + 1, 4, none⟩ (.int .i64 t)) :=
  ⟨h.l3.set4 t, rca_oth h.rc h.l3.b2 (.inl rfl) set_oth (bel_oth h.rc.bel (by have := h.wl; omega) rfl), frc_oth h.fr (by have := h.ge; omega) set_oth (by simp [World.setCell]), lk_oth h.ra h.l3.b2 (by decide) set_oth, h.n1, lk_oth h.rb h.l3.b2 (by decide) set_oth, h.n2, h.ge, h.wl⟩
theorem LS.ret (h : LS W w C T m n ver A2 N aL v ls ms u) (z : Vl) : (knStore (pt (N + 1)) (vV z)).run Tryz.prog u = .ok () (u.setRow (N + 1) (vC z).toArray) ∧ (u.setRow (N + 1) (vC z).toArray).heap[N + 1]? = some (.cells (vC z).toArray 124 (0, 0)) ∧ FrC T w (u.setRow (N + 1) (vC z).toArray) ∧ RCA W (u.setRow (N + 1) (vC z).toArray) C T m n ver A2 ∧ LkRow (u.setRow (N + 1) (vC z).toArray) W.heap.size (.slice v.q1 ls.length v.c1) ls ∧ LkRow (u.setRow (N + 1) (vC z).toArray) W.heap.size (.slice v.q2 ms.length v.c2) ms := by
  have hs : ∀ b, b ≠ N + 1 → (u.setRow (N + 1) (vC z).toArray).heap[b]? = u.heap[b]? := fun b hb => setRow_other _ _ _ _ hb
  exact ⟨kn_put h.l3.b1, row_self h.l3.b1, frc_oth h.fr (by have := h.ge; omega) hs (by rw [setRow_size]; exact Nat.le_refl _), rca_oth h.rc h.l3.b1 (.inl rfl) hs (below_setRow h.rc.bel (by have := h.wl; omega) _), lk_oth h.ra h.l3.b1 (by decide) hs, lk_oth h.rb h.l3.b1 (by decide) hs⟩
theorem LS.fin (h : LS W w C T m n ver A2 N aL v ls ms u) : (knLoad (pt (N + 1 + 1))).run Tryz.prog u = .ok (vV v) u := kn_box h.l3.b2
end
def LrnP (W w w' : World) (C T m n : Nat) (ver : Int) (A : AL) (kind : Int) (x : An) (now : Int) (e : Ending) : Prop :=
  FrC T w w' ∧ RCA W w' C T m n ver (lrnA A kind x now).1 ∧
  (((lrnA A kind x now).2 = none ∧ e = .returned (.tuple #[vV vz, .bool false])) ∨
   (∃ y v, (lrnA A kind x now).2 = some y ∧ e = .returned (.tuple #[vV v, .bool true]) ∧ KnAt w' W.heap.size v y ∧ (y.un ≤ now ∨ KnI y)))
theorem lrn_no1 {A A1 : AL} {kind : Int} {x : An} {now : Int} (h : fndA now A (keysOf x.a) [] 604800 = (A1, none)) : lrnA A kind x now = (A1, none) := by unfold lrnA; rw [h]
theorem lrn_no2 {A A1 A2 : AL} {kind : Int} {x : An} {now t1 : Int} {ls : List Lk} (h : fndA now A (keysOf x.a) [] 604800 = (A1, some (ls, t1))) (h2 : fndA now A1 (keysOf x.b) [] t1 = (A2, none)) : lrnA A kind x now = (A2, none) := by unfold lrnA; simp only [h, h2]
theorem lrn_yes {A A1 A2 : AL} {kind : Int} {x : An} {now t1 t2 : Int} {ls ms : List Lk} (h : fndA now A (keysOf x.a) [] 604800 = (A1, some (ls, t1))) (h2 : fndA now A1 (keysOf x.b) [] t1 = (A2, some (ms, t2))) : lrnA A kind x now = (A2, some ⟨x.rc, x.se, endN now (if denB x.a kind then min t2 (minM x.b) else t2) x.un, ls, ms⟩) := by unfold lrnA; simp only [h, h2]
end Go.Proofs.YtikjepodmdaknaaGreatDoor.Mc
/- Layer 17: learn. -/
namespace Go.Proofs.YtikjepodmdaknaaGreatDoor.Mc
open Go.RowKit
open Go.Proofs.YtikjepodmdaknaaGreatDoor.Rc (pt nilP Ky kV k0 Kp blk_lt cell_same KOk AL Ev EvI timB RCA FrC foundA getA toldE SvI row_self set_blk free_at tim_iff)
theorem lrn_end {W w u : World} {C T m n : Nat} {ver : Int} {A A1 A2 : AL} {N : Nat} {aL : List Value} {v : Vl} {ls ms : List Lk} {x : An} {kind now t1 t2 : Int} (h : LS W w C T m n ver A2 N aL v ls ms u) (h1 : fndA now A (keysOf x.a) [] 604800 = (A1, some (ls, t1))) (h2 : fndA now A1 (keysOf x.b) [] t1 = (A2, some (ms, t2))) (hv : v.rc = x.rc ∧ v.se = x.se ∧ v.un = endN now (if denB x.a kind then min t2 (minM x.b) else t2) x.un) (hok : aOk x = true) (hnow : 0 ≤ now ∧ now ≤ 4294967295) (ht2 : 0 ≤ t2 ∧ t2 ≤ 604800) (hla : ∀ y ∈ ls, LkI y) (hlb : ∀ y ∈ ms, LkI y) :
    LrnP W w (u.setRow (N + 1) (vC v).toArray) C T m n ver A kind x now (.returned (.tuple #[vV v, .bool true])) := by
  have e := lrn_yes (kind := kind) (x := x) h1 h2
  obtain ⟨_, _, hf, hr, ha, hb⟩ := h.ret v
  refine ⟨hf, by rw [e]; exact hr, .inr ⟨_, v, by rw [e], rfl, ⟨hv.1, hv.2.1, hv.2.2, h.n1, h.n2, ha, hb⟩, ?_⟩⟩
  unfold aOk at hok
  simp only [Bool.and_eq_true, Bool.or_eq_true, decide_eq_true_eq] at hok
  obtain ⟨⟨⟨⟨hrc, hs0⟩, hs3⟩, hl1⟩, hl2⟩ := hok
  by_cases hun : endN now (if denB x.a kind then min t2 (minM x.b) else t2) x.un ≤ now
  · exact .inl hun
  · have l1 := fndA_len h1
    have l2 := fndA_len h2
    have hm := minM_ge x.b
    refine .inr ⟨hrc, ⟨hs0, hs3⟩, ⟨by show 1 ≤ endN _ _ _; omega, ?_⟩, ?_, ?_, hla, hlb⟩
    · show endN now (if denB x.a kind then min t2 (minM x.b) else t2) x.un ≤ _
      unfold endN
      split <;> split <;> omega
    · simp [keysOf] at l1
      show ls.length ≤ 20
      omega
    · simp [keysOf] at l2
      show ms.length ≤ 20
      omega
theorem lrn_none {W w u : World} {C T m n : Nat} {ver : Int} {A A1 : AL} {N : Nat} {aL : List Value} {v : Vl} {ls ms : List Lk} {x : An} {kind now : Int} (h : LS W w C T m n ver A1 N aL v ls ms u) (e : lrnA A kind x now = (A1, none)) : LrnP W w (u.setRow (N + 1) (vC vz).toArray) C T m n ver A kind x now (.returned (.tuple #[vV vz, .bool false])) := by
  obtain ⟨_, _, hf, hr, ha, hb⟩ := h.ret vz
  exact ⟨hf, by rw [e]; exact hr, .inl ⟨by rw [e], rfl⟩⟩
theorem keys_len (l : List Sv) : (keysOf l).length = l.length := by simp [keysOf]
section
attribute [local go_sem ↓] loadAt_kn storeAt_kn
set_option maxRecDepth 100000 in
set_option maxHeartbeats 8000000 in
theorem learn_in {W w : World} {C T m n : Nat} {ver : Int} {A : AL} (h : RCA W w C T m n ver A) (hn : n < 2305843009213693952) (X U : Nat) (hX : w.heap[X]? = some (.cells #[pt U, pt C] 126 (0, 0))) (x : An) (q1 : Option Addr) (c1 : Nat) (q2 : Option Addr) (c2 : Nat) (hc1 : x.a.length ≤ c1 ∧ c1 ≤ maxLen) (hc2 : x.b.length ≤ c2 ∧ c2 ≤ maxLen) (h1 : LAt W w T q1 x.a) (h2 : LAt W w T q2 x.b) (ha : ∀ s ∈ x.a, SvI s) (hb : ∀ s ∈ x.b, SvI s) (hok : aOk x = true) (kind now : Int) (hnow : timB now = true) :
    Calls Tryz.prog 66 #[pt X, .int .i64 kind, .agg (aC x q1 c1 q2 c2).toArray, .int .i64 now] w fun e w' => LrnP W w w' C T m n ver A kind x now e := by
  have hnow2 := tim_iff.1 hnow
  have hlen : x.a.length ≤ 20 ∧ x.b.length ≤ 20 := by
    unfold aOk at hok
    simp only [Bool.and_eq_true, decide_eq_true_eq] at hok
    exact ⟨hok.1.2, hok.2⟩
  obtain ⟨N, hN⟩ : ∃ N, w.heap.size = N := ⟨_, rfl⟩
  obtain ⟨V0, hV0⟩ : ∃ V, (w.alloc (.cells #[.int .i64 x.rc, .int .i64 x.se, .slice q1 x.a.length c1, .slice q2 x.b.length c2, .int .i64 x.un] 71)).alloc (.cells #[.int .i64 0, .int .i64 0, .slice none 0 0, .slice none 0 0, .int .i64 0, .slice none 0 0, .slice none 0 0] 124) = V := ⟨_, rfl⟩
  obtain ⟨V1, hV1⟩ : ∃ V, V0.alloc (.cells #[.int .i64 0, .int .i64 0, .slice none 0 0, .slice none 0 0, .int .i64 0, .slice none 0 0, .slice none 0 0] 124) = V := ⟨_, rfl⟩
  have s0 : V0.heap.size = N + 1 + 1 := by rw [← hV0]; simp [hN]
  have b0 : Below N w V0 := by rw [← hV0, ← hN]; exact ((Below.refl _ _).alloc (Nat.le_refl _) _).alloc (by simp) _
  have bx := Bx.of2 w (.cells #[.int .i64 x.rc, .int .i64 x.se, .slice q1 x.a.length c1, .slice q2 x.b.length c2, .int .i64 x.un] 71) (vO vz)
  rw [show (w.alloc (.cells #[.int .i64 x.rc, .int .i64 x.se, .slice q1 x.a.length c1, .slice q2 x.b.length c2, .int .i64 x.un] 71)).alloc (vO vz) = V0 from hV0, hN] at bx
  have b1 : Below N w V1 := by rw [← hV1]; exact b0.alloc (by omega) _
  have bx1 : Below V0.heap.size V0 V1 := by rw [← hV1]; exact (Below.refl _ _).alloc (Nat.le_refl _) _
  have g2 : V1.heap[N + 1 + 1]? = some (vO vz) := by rw [← hV1, ← s0]; exact heap_alloc_last _ _
  have st0 := kn_put (v' := (⟨x.rc, x.se, 0, none, 0, 0, none, 0, 0⟩ : Vl)) g2
  obtain ⟨V2, hV2⟩ : ∃ V, V1.setRow (N + 1 + 1) (vC (⟨x.rc, x.se, 0, none, 0, 0, none, 0, 0⟩ : Vl)).toArray = V := ⟨_, rfl⟩
  rw [hV2] at st0
  have b2 : Below N w V2 := by rw [← hV2]; exact below_setRow b1 (by omega) _
  have HS2 : Hid (LS W w C T m n ver A N [.int .i64 x.rc, .int .i64 x.se, .slice q1 x.a.length c1, .slice q2 x.b.length c2, .int .i64 x.un] ⟨x.rc, x.se, 0, none, 0, 0, none, 0, 0⟩ [] [] V2) := by
    refine ⟨⟨?_, ?_, ?_⟩, h.blk (by rw [hN]; exact b2), FrC.below (by rw [hN]; exact b2), LkRow.nil _ _, rfl, LkRow.nil _ _, rfl, hN, by rw [← hN]; exact h.bel.size⟩
    · rw [← hV2, setRow_other _ _ _ _ (by omega)]
      have := (bx.blk bx1) 0 _ rfl
      rw [Nat.add_zero] at this
      exact this
    · rw [← hV2, setRow_other _ _ _ _ (by omega)]
      exact (bx.blk bx1) 1 _ rfl
    · rw [← hV2]
      exact row_self g2
  have HXx : Hid (∀ A2 v ls ms u, LS W w C T m n ver A2 N [.int .i64 x.rc, .int .i64 x.se, .slice q1 x.a.length c1, .slice q2 x.b.length c2, .int .i64 x.un] v ls ms u → u.heap[X]? = some (.cells #[pt U, pt C] 126 (0, 0)) ∧ LAt W u T q1 x.a ∧ LAt W u T q2 x.b) := fun A2 v ls ms u hh => ⟨hh.fr.same _ _ _ _ hX (by decide) (by decide) (by decide), h1.next hh.fr, h2.next hh.fr⟩
  have HF1 : Hid (∀ u v, LS W w C T m n ver A N [.int .i64 x.rc, .int .i64 x.se, .slice q1 x.a.length c1, .slice q2 x.b.length c2, .int .i64 x.un] v [] [] u → Calls Tryz.prog 106 #[pt X, .slice q1 x.a.length c1, .int .i64 604800, .int .i64 now] u fun e w' => FndP W u w' C T m n ver A (keysOf x.a) 604800 now e) := fun u v hh => mfind_in hh.rc hn X U (HXx.out _ _ _ _ _ hh).1 x.a q1 c1 hc1 hlen.1 (HXx.out _ _ _ _ _ hh).2.1 ha 604800 now (by omega)
  have HF2 : Hid (∀ u A1 v ls t, 0 ≤ t → t ≤ 604800 → LS W w C T m n ver A1 N [.int .i64 x.rc, .int .i64 x.se, .slice q1 x.a.length c1, .slice q2 x.b.length c2, .int .i64 x.un] v ls [] u → Calls Tryz.prog 106 #[pt X, .slice q2 x.b.length c2, .int .i64 t, .int .i64 now] u fun e w' => FndP W u w' C T m n ver A1 (keysOf x.b) t now e) := fun u A1 v ls t ht0 ht hh => mfind_in hh.rc hn X U (HXx.out _ _ _ _ _ hh).1 x.b q2 c2 hc2 hlen.2 (HXx.out _ _ _ _ _ hh).2.2 hb t now ⟨ht0, ht⟩
  have HDe : Hid (∀ A2 v ls ms u, LS W w C T m n ver A2 N [.int .i64 x.rc, .int .i64 x.se, .slice q1 x.a.length c1, .slice q2 x.b.length c2, .int .i64 x.un] v ls ms u → Calls Tryz.prog 107 #[.agg #[.int .i64 x.rc, .int .i64 x.se, .slice q1 x.a.length c1, .slice q2 x.b.length c2, .int .i64 x.un], .int .i64 kind] u fun e w' => e = .returned (.bool (denB x.a kind)) ∧ Below u.heap.size u w') := fun A2 v ls ms u hh => denies_in x q1 c1 q2 c2 hc1 (by omega) u ((HXx.out _ _ _ _ _ hh).2.1.ss hh.rc.bel) kind
  have HMi : Hid (∀ A2 v ls ms u, LS W w C T m n ver A2 N [.int .i64 x.rc, .int .i64 x.se, .slice q1 x.a.length c1, .slice q2 x.b.length c2, .int .i64 x.un] v ls ms u → Calls Tryz.prog 108 #[.slice q2 x.b.length c2] u fun e w' => e = .returned (.int .i64 (minM x.b)) ∧ Below u.heap.size u w') := fun A2 v ls ms u hh => minimum_in x.b q2 c2 hc2 (by omega) hb u ((HXx.out _ _ _ _ _ hh).2.2.ss hh.rc.bel)
  have HMm : Hid (0 ≤ minM x.b ∧ w.heap.size = N ∧ W.heap.size ≤ N ∧ (0 ≤ now ∧ now ≤ 4294967295)) := ⟨minM_ge x.b, hN, by rw [← hN]; exact h.bel.size, hnow2⟩
  have HEnd : Hid (∀ A1 A2 t1 t2 ls ms v u, fndA now A (keysOf x.a) [] 604800 = (A1, some (ls, t1)) → fndA now A1 (keysOf x.b) [] t1 = (A2, some (ms, t2)) → (v.rc = x.rc ∧ v.se = x.se ∧ v.un = endN now (if denB x.a kind then min t2 (minM x.b) else t2) x.un) → 0 ≤ t2 ∧ t2 ≤ 604800 → (∀ y ∈ ls, LkI y) → (∀ y ∈ ms, LkI y) → LS W w C T m n ver A2 N [.int .i64 x.rc, .int .i64 x.se, .slice q1 x.a.length c1, .slice q2 x.b.length c2, .int .i64 x.un] v ls ms u → LrnP W w (u.setRow (N + 1) (vC v).toArray) C T m n ver A kind x now (.returned (.tuple #[vV v, .bool true]))) := fun A1 A2 t1 t2 ls ms v u e1 e2 hv ht hla hlb hh => lrn_end hh e1 e2 hv hok hnow2 ht hla hlb
  have w0 : V0.cell? ⟨N, 0, none⟩ = some (.int .i64 x.rc) := by have := bx 0 _ rfl; rw [Nat.add_zero] at this; rw [So.cell_blk this]; rfl
  have w1 : V0.cell? ⟨N, 1, none⟩ = some (.int .i64 x.se) := by have := bx 0 _ rfl; rw [Nat.add_zero] at this; rw [So.cell_blk this]; rfl
  have HV0 := Hid.mk hV0
  dsimp only [vV, vC] at st0
  rw [← hV1] at st0
  clear h hX h1 h2 ha hb hok hV0 hV1 hV2 b0 bx b1 bx1 g2 b2 hnow hnow2 hc1 hc2
  go_enter Tryz.func66, Tryz.ntmps66
  go_upto_region 1 with fail
  (try rw [hN])
  rw [HV0.out]
  go_upto_region 2 with fail
  clear st0 s0 w0 w1 HV0
  obtain ⟨y0, y1, y2, y3, y4⟩ := HS2.out.l3.cells
  go_wp2_with fail
  refine (HF1.out _ _ HS2.out).mono ?_
  rintro e w3 ⟨hf3, hr3, hc3⟩
  have hl3 := HS2.out.op hf3 hr3
  have hs2 : W.heap.size ≤ V2.heap.size := HS2.out.rc.bel.size
  clear y0 y1 y2 y3 y4
  obtain ⟨⟨k4, k5, k6⟩, f4, f5, f6⟩ := hl3.l3.vcells
  rcases hc3 with ⟨hnone, rfl⟩ | ⟨ls, t1, qa, ca, hsome, rfl, hrow, hli, ht0, ht1⟩
  · obtain ⟨V4, hV4⟩ : ∃ V, w3.setCell ⟨N + 1 + 1, 5, none⟩ (.slice none 0 0) = V := ⟨_, rfl⟩
    have hs4 := hl3.set5 (ls := []) none 0 (LkRow.nil _ _)
    rw [show (w3.setCell ⟨N + 1 + 1, 5, none⟩ (.slice none ([] : List Lk).length 0)) = V4 from hV4] at hs4
    obtain ⟨st4, g4, -, -, -, -⟩ := hs4.ret vz
    have HF := Hid.mk (lrn_none hs4 (lrn_no1 (kind := kind) (x := x) (Prod.ext rfl hnone)))
    have HG := Hid.mk g4
    have HV4 := Hid.mk hV4
    dsimp only [vV, vC] at st4
    clear hf3 hr3 hl3 hs2 hV4 hs4 g4 hnone
    go_upto_region 4 with fail
    rw [HV4.out]
    go_wp2
    refine bodyPost_ret (results_kn Tryz.results66 rfl rfl HG.out) rfl ?_
    exact HF.out
  · obtain ⟨V4, hV4⟩ : ∃ V, w3.setCell ⟨N + 1 + 1, 5, none⟩ (.slice qa ls.length ca) = V := ⟨_, rfl⟩
    have hs4 := hl3.set5 qa ca (hrow.low hs2)
    rw [hV4] at hs4
    have HS4 := Hid.mk hs4
    have HV4 := Hid.mk hV4
    have HE1 : Hid (fndA now A (keysOf x.a) [] 604800 = ((fndA now A (keysOf x.a) [] 604800).1, some (ls, t1))) := Prod.ext rfl hsome
    have HT1 : Hid ((0 ≤ t1 ∧ t1 ≤ 604800) ∧ ∀ y ∈ ls, LkI y) := ⟨⟨ht0, ht1⟩, hli⟩
    clear hf3 hr3 hl3 hs2 hV4 hs4 hsome hrow hli ht0 ht1
    generalize (fndA now A (keysOf x.a) [] 604800).1 = A1 at *
    go_upto_region 4 with fail
    rw [HV4.out]
    clear k4 k5 k6 f4 f5 f6
    obtain ⟨y0, y1, y2, y3, y4⟩ := HS4.out.l3.cells
    go_wp2_with fail
    refine (HF2.out _ _ _ _ _ HT1.out.1.1 HT1.out.1.2 HS4.out).mono ?_
    rintro e w5 ⟨hf5, hr5, hc5⟩
    have hl5 := HS4.out.op hf5 hr5
    have hs4 : W.heap.size ≤ V4.heap.size := HS4.out.rc.bel.size
    clear y0 y1 y2 y3 y4
    obtain ⟨⟨k4, k5, k6⟩, f4, f5, f6⟩ := hl5.l3.vcells
    rcases hc5 with ⟨hnone, rfl⟩ | ⟨ms, t2, qb, cb, hsome, rfl, hrow, hli, ht0, ht1⟩
    · obtain ⟨V6, hV6⟩ : ∃ V, w5.setCell ⟨N + 1 + 1, 6, none⟩ (.slice none 0 0) = V := ⟨_, rfl⟩
      have hs6 := hl5.set6 (ms := []) none 0 (LkRow.nil _ _)
      rw [show (w5.setCell ⟨N + 1 + 1, 6, none⟩ (.slice none ([] : List Lk).length 0)) = V6 from hV6] at hs6
      obtain ⟨st6, g6, -, -, -, -⟩ := hs6.ret vz
      have HF := Hid.mk (lrn_none hs6 (lrn_no2 (kind := kind) (x := x) HE1.out (Prod.ext rfl hnone)))
      have HG := Hid.mk g6
      have HV6 := Hid.mk hV6
      dsimp only [vV, vC] at st6
      clear hf5 hr5 hl5 hs4 hV6 hs6 g6 hnone
      go_upto_region 7 with fail
      rw [HV6.out]
      go_wp2
      refine bodyPost_ret (results_kn Tryz.results66 rfl rfl HG.out) rfl ?_
      exact HF.out
    · obtain ⟨V6, hV6⟩ : ∃ V, w5.setCell ⟨N + 1 + 1, 6, none⟩ (.slice qb ms.length cb) = V := ⟨_, rfl⟩
      have hs6 := hl5.set6 qb cb (hrow.low hs4)
      rw [hV6] at hs6
      have HS6 := Hid.mk hs6
      have HV6 := Hid.mk hV6
      have HE2 : Hid (fndA now A1 (keysOf x.b) [] t1 = ((fndA now A1 (keysOf x.b) [] t1).1, some (ms, t2))) := Prod.ext rfl hsome
      have HT2 : Hid ((0 ≤ t2 ∧ t2 ≤ 604800) ∧ ∀ y ∈ ms, LkI y) := ⟨⟨ht0, by have := HT1.out.1.2; omega⟩, hli⟩
      clear hf5 hr5 hl5 hs4 hV6 hs6 hsome hrow hli ht0 ht1
      generalize (fndA now A1 (keysOf x.b) [] t1).1 = A2 at *
      go_upto_region 7 with fail
      rw [HV6.out]
      clear k4 k5 k6 f4 f5 f6
      obtain ⟨y0, y1, y2, y3, y4⟩ := HS6.out.l3.cells
      go_wp2_with fail
      refine (HDe.out _ _ _ _ _ HS6.out).mono ?_
      rintro e w7 ⟨rfl, b7⟩
      have HS7 := Hid.mk (HS6.out.blk b7)
      clear b7 y0 y1 y2 y3 y4
      obtain ⟨y0, y1, y2, y3, y4⟩ := HS7.out.l3.cells
      by_cases hden : denB x.a kind = true
      · rw [hden]
        go_wp2_with fail
        refine (HMi.out _ _ _ _ _ HS7.out).mono ?_
        rintro e w8 ⟨rfl, b8⟩
        have HS8 := Hid.mk (HS7.out.blk b8)
        clear b8 y0 y1 y2 y3 y4
        obtain ⟨y0, y1, y2, y3, y4⟩ := HS8.out.l3.cells
        obtain ⟨t3, ht3⟩ : ∃ t, min t2 (minM x.b) = t := ⟨_, rfl⟩
        have hb3 : 0 ≤ t3 ∧ t3 ≤ 604800 := by have := HMm.out; have := HT2.out.1; omega
        have hw3 : IntKind.i64.wrap (now + t3) = now + t3 := by have := HMm.out; have := HT2.out.1; rw [IntKind.wrap_i64]; omega
        obtain ⟨⟨k4, k5, k6⟩, f4, f5, f6⟩ := HS8.out.l3.vcells
        obtain ⟨V9, hV9⟩ : ∃ V, w8.setCell ⟨N + 1 + 1, 4, none⟩ (.int .i64 (now + t3)) = V := ⟨_, rfl⟩
        have hs9 := HS8.out.set4 (now + t3)
        rw [hV9] at hs9
        have HV9 := Hid.mk hV9
        have HS9 := Hid.mk hs9
        clear hV9 hs9
        go_upto_region 12 with fail
        rw [HV9.out]
        clear y0 y1 y2 y3 y4 k4 k5 k6 f4 f5 f6
        obtain ⟨y0, y1, y2, y3, y4⟩ := HS9.out.l3.cells
        obtain ⟨⟨k4, k5, k6⟩, f4, f5, f6⟩ := HS9.out.l3.vcells
        by_cases hun : x.un = 0
        · have hen : Hid (now + t3 = endN now (if denB x.a kind then min t2 (minM x.b) else t2) x.un) := by
            unfold Hid endN
            rw [if_pos hun, if_pos hden, ht3]
          have hu1 : (x.un != 0) = false := by simpa using hun
          have l9 := HS9.out.fin
          obtain ⟨st9, g9, -, -, -, -⟩ := HS9.out.ret (⟨x.rc, x.se, now + t3, qa, ls.length, ca, qb, ms.length, cb⟩ : Vl)
          have HF := Hid.mk (HEnd.out _ _ _ _ _ _ _ _ HE1.out HE2.out ⟨rfl, rfl, hen.out⟩ HT2.out.1 HT1.out.2 HT2.out.2 HS9.out)
          have HG := Hid.mk g9
          dsimp only [vV, vC] at st9 l9
          clear g9
          go_wp2
          refine bodyPost_ret (results_kn Tryz.results66 rfl rfl HG.out) rfl ?_
          exact HF.out
        · have hen : Hid (min (now + t3) x.un = endN now (if denB x.a kind then min t2 (minM x.b) else t2) x.un) := by
            unfold Hid endN
            rw [if_neg hun, if_pos hden, ht3]
          have hu1 : (x.un != 0) = true := by simpa using hun
          obtain ⟨V10, hV10⟩ : ∃ V, V9.setCell ⟨N + 1 + 1, 4, none⟩ (.int .i64 (min (now + t3) x.un)) = V := ⟨_, rfl⟩
          have hs10 := HS9.out.set4 (min (now + t3) x.un)
          rw [hV10] at hs10
          have HV10 := Hid.mk hV10
          have HS10 := Hid.mk hs10
          clear hV10 hs10
          go_upto_region 14 with fail
          rw [HV10.out]
          clear y0 y1 y2 y3 y4 k4 k5 k6 f4 f5 f6
          have l9 := HS10.out.fin
          obtain ⟨st9, g9, -, -, -, -⟩ := HS10.out.ret (⟨x.rc, x.se, min (now + t3) x.un, qa, ls.length, ca, qb, ms.length, cb⟩ : Vl)
          have HF := Hid.mk (HEnd.out _ _ _ _ _ _ _ _ HE1.out HE2.out ⟨rfl, rfl, hen.out⟩ HT2.out.1 HT1.out.2 HT2.out.2 HS10.out)
          have HG := Hid.mk g9
          dsimp only [vV, vC] at st9 l9
          clear g9
          go_wp2
          refine bodyPost_ret (results_kn Tryz.results66 rfl rfl HG.out) rfl ?_
          exact HF.out
      · have hden2 : denB x.a kind = false := by simpa using hden
        rw [hden2]
        have hw3 : IntKind.i64.wrap (now + t2) = now + t2 := by have := HMm.out; have := HT2.out.1; rw [IntKind.wrap_i64]; omega
        obtain ⟨⟨k4, k5, k6⟩, f4, f5, f6⟩ := HS7.out.l3.vcells
        obtain ⟨V9, hV9⟩ : ∃ V, w7.setCell ⟨N + 1 + 1, 4, none⟩ (.int .i64 (now + t2)) = V := ⟨_, rfl⟩
        have hs9 := HS7.out.set4 (now + t2)
        rw [hV9] at hs9
        have HV9 := Hid.mk hV9
        have HS9 := Hid.mk hs9
        clear hV9 hs9
        go_upto_region 12 with fail
        rw [HV9.out]
        clear y0 y1 y2 y3 y4 k4 k5 k6 f4 f5 f6
        obtain ⟨y0, y1, y2, y3, y4⟩ := HS9.out.l3.cells
        obtain ⟨⟨k4, k5, k6⟩, f4, f5, f6⟩ := HS9.out.l3.vcells
        by_cases hun : x.un = 0
        · have hen : Hid (now + t2 = endN now (if denB x.a kind then min t2 (minM x.b) else t2) x.un) := by
            unfold Hid endN
            rw [if_pos hun, if_neg hden]
          have hu1 : (x.un != 0) = false := by simpa using hun
          have l9 := HS9.out.fin
          obtain ⟨st9, g9, -, -, -, -⟩ := HS9.out.ret (⟨x.rc, x.se, now + t2, qa, ls.length, ca, qb, ms.length, cb⟩ : Vl)
          have HF := Hid.mk (HEnd.out _ _ _ _ _ _ _ _ HE1.out HE2.out ⟨rfl, rfl, hen.out⟩ HT2.out.1 HT1.out.2 HT2.out.2 HS9.out)
          have HG := Hid.mk g9
          dsimp only [vV, vC] at st9 l9
          clear g9
          go_wp2
          refine bodyPost_ret (results_kn Tryz.results66 rfl rfl HG.out) rfl ?_
          exact HF.out
        · have hen : Hid (min (now + t2) x.un = endN now (if denB x.a kind then min t2 (minM x.b) else t2) x.un) := by
            unfold Hid endN
            rw [if_neg hun, if_neg hden]
          have hu1 : (x.un != 0) = true := by simpa using hun
          obtain ⟨V10, hV10⟩ : ∃ V, V9.setCell ⟨N + 1 + 1, 4, none⟩ (.int .i64 (min (now + t2) x.un)) = V := ⟨_, rfl⟩
          have hs10 := HS9.out.set4 (min (now + t2) x.un)
          rw [hV10] at hs10
          have HV10 := Hid.mk hV10
          have HS10 := Hid.mk hs10
          clear hV10 hs10
          go_upto_region 14 with fail
          rw [HV10.out]
          clear y0 y1 y2 y3 y4 k4 k5 k6 f4 f5 f6
          have l9 := HS10.out.fin
          obtain ⟨st9, g9, -, -, -, -⟩ := HS10.out.ret (⟨x.rc, x.se, min (now + t2) x.un, qa, ls.length, ca, qb, ms.length, cb⟩ : Vl)
          have HF := Hid.mk (HEnd.out _ _ _ _ _ _ _ _ HE1.out HE2.out ⟨rfl, rfl, hen.out⟩ HT2.out.1 HT1.out.2 HT2.out.2 HS10.out)
          have HG := Hid.mk g9
          dsimp only [vV, vC] at st9 l9
          clear g9
          go_wp2
          refine bodyPost_ret (results_kn Tryz.results66 rfl rfl HG.out) rfl ?_
          exact HF.out
end
end Go.Proofs.YtikjepodmdaknaaGreatDoor.Mc
/- Layer 17: links followed: what is so between the steps. -/
namespace Go.Proofs.YtikjepodmdaknaaGreatDoor.Mc
open Go.RowKit
open Go.Proofs.YtikjepodmdaknaaGreatDoor.Rc (pt nilP Ky kV k0 Kp blk_lt cell_same KOk AL Ev EvI timB RCA RC FrC foundA getA toldE aget_in AGet ze evC SvI found_is over_lt tim_iff keyS_ok told_ok sv_ones)
structure StRow (w : World) (N : Nat) (v : Value) (L : List Sv) : Prop where
  ex : ∃ rows : List (List Value), rows.length = L.length ∧ (∀ r ∈ rows, r.length = 6) ∧ (∀ (j : Nat) s, L[j]? = some s → ∃ q1 c1 q2 c2, rows[j]? = some (svC s q1 c1 q2 c2) ∧ Rc.Told w N s q1 c1 q2 c2) ∧ w.ownsRow N 34 6 v L.length rows.flatten
theorem StRow.nil (w : World) (N : Nat) : StRow w N (.slice none 0 0) [] := ⟨[], rfl, fun _ h => (by cases h), fun j x h => (by simp at h), World.ownsRow_nil ..⟩
theorem StRow.frc {T : Nat} {w w' : World} {N : Nat} {v : Value} {L : List Sv} (h : StRow w N v L) (hf : FrC T w w') : StRow w' N v L := by
  obtain ⟨rows, h1, h2, h3, h4⟩ := h.ex
  refine ⟨rows, h1, h2, fun j x hx => ?_, hf.row h4 (by decide) (by decide) (by decide)⟩
  obtain ⟨q1, c1, q2, c2, h5, h6⟩ := h3 j x hx
  exact ⟨q1, c1, q2, c2, h5, h6.frc hf⟩
theorem told_frm {w w' : World} {N : Nat} {s : Sv} {q1 : Option Addr} {c1 : Nat} {q2 : Option Addr} {c2 : Nat} (h : Rc.Told w N s q1 c1 q2 c2) (hf : FrM w w') : Rc.Told w' N s q1 c1 q2 c2 := ⟨hf.row h.d (by decide) (by decide) (by decide) (by decide) (by decide), hf.row h.g (by decide) (by decide) (by decide) (by decide) (by decide)⟩
theorem StRow.frm {w w' : World} {N : Nat} {v : Value} {L : List Sv} (h : StRow w N v L) (hf : FrM w w') : StRow w' N v L := by
  obtain ⟨rows, h1, h2, h3, h4⟩ := h.ex
  refine ⟨rows, h1, h2, fun j x hx => ?_, hf.row h4 (by decide) (by decide) (by decide) (by decide) (by decide)⟩
  obtain ⟨q1, c1, q2, c2, h5, h6⟩ := h3 j x hx
  exact ⟨q1, c1, q2, c2, h5, told_frm h6 hf⟩
theorem told_low {w : World} {N N' : Nat} {s : Sv} {q1 : Option Addr} {c1 : Nat} {q2 : Option Addr} {c2 : Nat} (h : Rc.Told w N s q1 c1 q2 c2) (hN : N' ≤ N) : Rc.Told w N' s q1 c1 q2 c2 := ⟨own_lowS h.d hN, own_lowS h.g hN⟩
theorem StRow.form {w : World} {N : Nat} {v : Value} {L : List Sv} (h : StRow w N v L) : ∃ q cap, v = .slice q L.length cap ∧ L.length ≤ cap ∧ cap ≤ 9223372036854775807 := by
  obtain ⟨rows, h1, h2, h3, h4⟩ := h.ex
  obtain ⟨q, cap, e⟩ := srow_any h4
  rw [e] at h4
  have := Rc.own_cap h4
  unfold maxLen at this
  exact ⟨q, cap, e, this.1, by omega⟩
theorem StRow.at {w : World} {N : Nat} {q : Option Addr} {cap : Nat} {L : List Sv} (h : StRow w N (.slice q L.length cap) L) (j : Nat) (x : Sv) (hx : L[j]? = some x) : ∃ g q1 c1 q2 c2, q = some ⟨g, 0, none⟩ ∧ N ≤ g ∧ (∃ cur, w.heap[g]? = some (.cells cur 34 (0, 0))) ∧ Rc.Told w N x q1 c1 q2 c2 ∧ (∀ i, i < 6 → w.cell? ⟨g, j * 6 + i, none⟩ = (svC x q1 c1 q2 c2)[i]?) := by
  obtain ⟨rows, h1, h2, h3, h4⟩ := h.ex
  obtain ⟨q1, c1, q2, c2, h5, h6⟩ := h3 j x hx
  have hj : j < L.length := (List.getElem?_eq_some_iff.1 hx).1
  obtain ⟨hl, ⟨_, h0⟩ | ⟨g, cap', cur, hv, hg0, hg, hn, hm, hs, ht⟩⟩ := h4
  · omega
  · simp only [Value.slice.injEq] at hv
    obtain ⟨rfl, _, _⟩ := hv
    refine ⟨g, q1, c1, q2, c2, rfl, hg0, ⟨cur, hg⟩, h6, fun i hi => ?_⟩
    have hj' : j < rows.length := by omega
    have e1 : rows[j] = svC x q1 c1 q2 c2 := by
      rw [List.getElem?_eq_getElem hj'] at h5
      exact Option.some.inj h5
    rw [← e1, ← flat_at h2 j hj' i hi, ← ht, List.getElem?_take, if_pos (by
      have : (j + 1) * 6 ≤ L.length * 6 := Nat.mul_le_mul_right _ (by omega)
      omega), So.cell_blk hg, Array.getElem?_toList]
theorem infoSt : (Tryz.prog.info? 34).map (fun i => (i.zero, i.size, i.bytes)) = some (some (.agg #[.string ⟨#[]⟩, .int .i64 0, .int .i64 0, .int .i64 0, .slice none 0 0, .slice none 0 0]), 6, 88) := by kernel_rfl
def aSt (a : Array Value) : Sem Value := Builtin.append_ #[65, 65] 65 a
theorem app_st (a : Array Value) : Builtin.append_ #[65, 65] 65 a = aSt a := rfl
theorem st_app {w : World} {N : Nat} {v : Value} {L : List Sv} (h : StRow w N v L) (hN : N ≤ w.heap.size) (hl : L.length ≤ 1000) (x : Sv) {q1 : Option Addr} {c1 : Nat} {q2 : Option Addr} {c2 : Nat} (ht : Rc.Told w N x q1 c1 q2 c2) {X : Nat} {f : Nat × Nat} (hX : w.heap[X]? = some (.cells (svC x q1 c1 q2 c2).toArray 34 f)) :
    ∃ v' w', (aSt #[v, .slice (some ⟨X, 0, none⟩) 1 1]).run Tryz.prog w = .ok v' w' ∧ StRow w' N v' (L ++ [x]) ∧ Below N w w' ∧ (∀ (b : Nat) (c : Array Value) (t : TypeId) (f : Nat × Nat), w.heap[b]? = some (.cells c t f) → t ≠ 34 → w'.heap[b]? = some (.cells c t f)) ∧ (∀ (b : Nat) es cl, w.heap[b]? = some (.map es cl) → w'.heap[b]? = some (.map es cl)) := by
  obtain ⟨rows, h1, h2, h3, h4⟩ := h.ex
  obtain ⟨i0, hi0, hz0, hz1, hz2⟩ := info_p infoSt
  obtain ⟨v', w', hrun, hown, hgr, _, hat⟩ := run_append_own_at (P := Tryz.prog) w N 65 65 34 i0 _ 6 88 Tryz.underlying65 hi0 hz0 hz1 hz2 rfl (by decide) v L.length rows.flatten h4 ⟨X, 0, none⟩ 1 1 (svC x q1 c1 q2 c2) rfl (fun j u hu => by
    rw [So.add_of, Nat.zero_add, So.cell_blk hX, List.getElem?_toArray]
    exact hu) (sv_ones x q1 c1 q2 c2) (by unfold maxLen; omega) (by omega) hN
  have hst : ∀ {b : Nat} {c : Array Value} {t : TypeId} {f : Nat × Nat}, w.heap[b]? = some (.cells c t f) → t ≠ 34 → w'.heap[b]? = w.heap[b]? := fun {b c t f} hb ht => hgr.block b (blk_lt hb) (fun e => by
    obtain ⟨_, _, c', hc⟩ := own_lt h4 e.symm
    rw [hb] at hc
    simp at hc
    exact ht hc.2.1)
  have hto : ∀ {s : Sv} {q1 : Option Addr} {c1 : Nat} {q2 : Option Addr} {c2 : Nat}, Rc.Told w N s q1 c1 q2 c2 → Rc.Told w' N s q1 c1 q2 c2 := fun h => ⟨own_same h.d fun b c f _ hb => hst hb (by decide), own_same h.g fun b c f _ hb => hst hb (by decide)⟩
  refine ⟨v', w', hrun, ⟨rows ++ [svC x q1 c1 q2 c2], by simp [h1], fun r hr => ?_, fun j y hy => ?_, ?_⟩, (Below.refl _ _).grown hgr hN (fun b hb => (own_lt h4 hb).2.1), fun b c t f hb ht => (hst hb ht).trans hb, fun b es cl hb => (hgr.block b (blk_lt hb) (fun e => ?_)).trans hb⟩
  · rcases List.mem_append.1 hr with hr | hr
    · exact h2 r hr
    · obtain rfl := List.mem_singleton.1 hr
      rfl
  · by_cases hj : j < L.length
    · rw [List.getElem?_append_left hj] at hy
      obtain ⟨a1, a2, a3, a4, a5, a6⟩ := h3 j y hy
      exact ⟨a1, a2, a3, a4, by rw [List.getElem?_append_left (by omega)]; exact a5, hto a6⟩
    · have hj2 : j = L.length := by
        have := (List.getElem?_eq_some_iff.1 hy).1
        simp at this
        omega
      subst hj2
      simp at hy
      subst hy
      exact ⟨q1, c1, q2, c2, by rw [← h1]; simp, hto ht⟩
  · rw [List.length_append, List.flatten_append]
    simpa using hown
  · obtain ⟨_, _, c', hc⟩ := own_lt h4 e.symm
    rw [hb] at hc
    simp at hc
theorem rca_keepS {W w w' : World} {C T m n : Nat} {ver : Int} {A : AL} (h : RCA W w C T m n ver A) (hc : ∀ (b : Nat) (c : Array Value) (t : TypeId) (f : Nat × Nat), w.heap[b]? = some (.cells c t f) → t ≠ 34 → w'.heap[b]? = some (.cells c t f)) (hm : ∀ (b : Nat) es cl, w.heap[b]? = some (.map es cl) → w'.heap[b]? = some (.map es cl)) (hb : Below W.heap.size W w') : RCA W w' C T m n ver A := by
  obtain ⟨l, Q, h, e⟩ := h.ex
  refine ⟨l, Q, ⟨hc _ _ _ _ h.bx (by decide), h.own, ?_, fun p hp => ⟨?_, (h.ev p hp).2⟩, h.ok, h.len, h.nd, h.vb, h.mb⟩, e⟩
  · obtain ⟨E, M, L, ho, e⟩ := h.tab
    refine ⟨E, M, L, ⟨ho.tab.same fun b hb => ?_, ho.own, hb⟩, e⟩
    rcases hb with rfl | rfl | rfl | hb
    · exact (hc _ _ _ _ ho.tab.tb (by decide)).trans ho.tab.tb.symm
    · obtain ⟨es, cl, hx⟩ := ho.tab.mp.isMap
      exact (hm _ _ _ hx).trans hx.symm
    · obtain ⟨c, hx, _⟩ := ho.tab.row.plc b (by simp)
      exact (hc _ _ _ _ hx (by decide)).trans hx.symm
    · obtain ⟨c, hx, _⟩ := ho.tab.row.plc b (List.mem_cons_of_mem _ hb)
      exact (hc _ _ _ _ hx (by decide)).trans hx.symm
  · obtain ⟨qd, cd, qg, cg, h0, h1', h2', r⟩ := (h.ev p hp).1
    exact ⟨qd, cd, qg, cg, hc _ _ _ _ h0 (by decide), h1'.same (fun b cur _ hb => (hc _ _ _ _ hb (by decide)).trans hb.symm), h2'.same (fun b cur _ hb => (hc _ _ _ _ hb (by decide)).trans hb.symm), r⟩
def FolP (W w w' : World) (C T m n : Nat) (ver : Int) (A : AL) (ls : List Lk) (un now : Int) (e : Ending) : Prop :=
  FrC T w w' ∧ RCA W w' C T m n ver (folA now un A ls []).1 ∧
  (((folA now un A ls []).2 = none ∧ e = .returned (.tuple #[.slice none 0 0, .bool false])) ∨
   (∃ ss q1 c1, (folA now un A ls []).2 = some ss ∧ e = .returned (.tuple #[.slice q1 ss.length c1, .bool true]) ∧ StRow w' w.heap.size (.slice q1 ss.length c1) ss))
structure FolI (W w wr : World) (C T m n : Nat) (ver : Int) (A : AL) (ls : List Lk) (un now : Int) (i : Nat) (v : Value) (Ai : AL) (ss : List Sv) : Prop where
  len : ss.length = i
  eq : folA now un A ls [] = folA now un Ai (ls.drop i) ss
  rc : RCA W wr C T m n ver Ai
  row : StRow wr w.heap.size v ss
  fr : FrC T w wr
section
variable {W w wr : World} {C T m n : Nat} {ver : Int} {A : AL} {ls : List Lk} {un now : Int} {i : Nat} {v : Value} {Ai : AL} {ss : List Sv}
theorem FolI.blk {w' : World} (h : FolI W w wr C T m n ver A ls un now i v Ai ss) (hb : Below wr.heap.size wr w') : FolI W w w' C T m n ver A ls un now i v Ai ss :=
  ⟨h.len, h.eq, h.rc.blk hb, h.row.frc (FrC.below (T := 0) hb), h.fr.trans (FrC.below hb)⟩
theorem FolI.fin (h : FolI W w wr C T m n ver A ls un now i v Ai ss) (hi : ls.length ≤ i) : ∃ q1 c1, v = .slice q1 i c1 ∧ FolP W w wr C T m n ver A ls un now (.returned (.tuple #[.slice q1 i c1, .bool true])) := by
  have e := h.eq
  rw [List.drop_of_length_le hi] at e
  have e2 : folA now un A ls [] = (Ai, some ss) := e
  obtain ⟨q, c, hv, _⟩ := h.row.form
  have hr := h.row
  rw [hv] at hr
  rw [h.len] at hv hr
  exact ⟨q, c, hv, h.fr, by rw [e2]; exact h.rc, .inr ⟨ss, q, c, by rw [e2], by rw [h.len], by rw [h.len]; exact hr⟩⟩
theorem FolI.eq1 (h : FolI W w wr C T m n ver A ls un now i v Ai ss) {k : Lk} (hk : ls[i]? = some k) : folA now un A ls [] = (match foundA Ai (Rc.keyS k.k.1 k.k.2) now with
    | none => (getA Ai (Rc.keyS k.k.1 k.k.2) now, none)
    | some x => if x.ve = k.ve then folA now un (getA Ai (Rc.keyS k.k.1 k.k.2) now) (ls.drop (i + 1)) (ss ++ [tellS x now un]) else (getA Ai (Rc.keyS k.k.1 k.k.2) now, none)) := by
  obtain ⟨hi, hkk⟩ := List.getElem?_eq_some_iff.1 hk
  rw [h.eq, List.drop_eq_getElem_cons hi, hkk]
  rfl
theorem FolI.no {w' : World} {k : Lk} (h : FolI W w wr C T m n ver A ls un now i v Ai ss) (hk : ls[i]? = some k) (hf : foundA Ai (Rc.keyS k.k.1 k.k.2) now = none ∨ ∃ x, foundA Ai (Rc.keyS k.k.1 k.k.2) now = some x ∧ x.ve ≠ k.ve) (hr : RCA W w' C T m n ver (getA Ai (Rc.keyS k.k.1 k.k.2) now)) (hfr : FrC T wr w') : FolP W w w' C T m n ver A ls un now (.returned (.tuple #[.slice none 0 0, .bool false])) := by
  have e2 : folA now un A ls [] = (getA Ai (Rc.keyS k.k.1 k.k.2) now, none) := by
    rw [h.eq1 hk]
    rcases hf with hf | ⟨x, hf, hv⟩
    · rw [hf]
    · rw [hf]
      show (if x.ve = k.ve then _ else _) = _
      rw [if_neg hv]
  exact ⟨h.fr.trans hfr, by rw [e2]; exact hr, .inl ⟨by rw [e2], rfl⟩⟩
theorem FolI.yes {w2 : World} {k : Lk} {x : Ev} {v' : Value} (h : FolI W w wr C T m n ver A ls un now i v Ai ss) (hk : ls[i]? = some k) (hf : foundA Ai (Rc.keyS k.k.1 k.k.2) now = some x) (hv : x.ve = k.ve) (hr : RCA W w2 C T m n ver (getA Ai (Rc.keyS k.k.1 k.k.2) now)) (hfr : FrC T w w2) (hrow : StRow w2 w.heap.size v' (ss ++ [tellS x now un])) : FolI W w w2 C T m n ver A ls un now (i + 1) v' (getA Ai (Rc.keyS k.k.1 k.k.2) now) (ss ++ [tellS x now un]) := by
  refine ⟨by simp [h.len], ?_, hr, hrow, hfr⟩
  rw [h.eq1 hk, hf]
  show (if x.ve = k.ve then _ else _) = _
  rw [if_pos hv]
end
end Go.Proofs.YtikjepodmdaknaaGreatDoor.Mc
