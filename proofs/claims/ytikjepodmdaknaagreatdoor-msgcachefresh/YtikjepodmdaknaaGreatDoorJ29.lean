/- Texts of this proof, joined: McGr, McFn, McIx, McMi. -/
import Derived.Deep.RegionWith
import Derived.Deep.DeepCutAuto
import Derived.Test.YtikjepodmdaknaaGreatDoorJ28
import Derived.Deep.RegionHeld3
set_option linter.unusedVariables false
set_option linter.unusedSimpArgs false
/- Layer 17: a Get of the sets' cache whose Entry lands in a box of one's own, made ahead of the call or behind it. -/
namespace Go.Proofs.YtikjepodmdaknaaGreatDoor.Mc
open Go.RowKit
open Go.Proofs.YtikjepodmdaknaaGreatDoor.Rc (pt nilP Ky kV k0 Kp blk_lt cell_same KOk AL Ev EvI timB RC RCA FrC foundA getA toldE ze evC enLoad enStore loadAt_en storeAt_en en_store row_self ev_ones ze_ones getL abs_getL mem_without getR_mem rget_in abs)
theorem getL_memM {l : Rc.ML} {k : Ky} {now : Int} : ∀ p ∈ getL l k now, p ∈ l := by
  intro p hp
  unfold Rc.getL at hp
  split at hp
  · split at hp
    · exact hp
    · rename_i v hv
      split at hp
      · exact (mem_without.1 hp).1
      · rcases List.mem_cons.1 hp with rfl | hp
        · exact getR_mem hv
        · exact (mem_without.1 hp).1
  · exact hp
theorem rc_rowG {W u u' : World} {C T m n : Nat} {ver : Int} {l : Rc.ML} {Q : Nat → Prop} {g : Nat} {c : Array Value} (h : RC W u C T m n ver l Q) (hg : u.heap[g]? = some (.cells c 44 (0, 0))) (hne : ∀ p ∈ l, p.2.1 ≠ g) (hs : ∀ b, b ≠ g → u'.heap[b]? = u.heap[b]?) (hb : Below W.heap.size W u') : RC W u' C T m n ver l Q := by
  have ht : ∀ (b : Nat) (c : Array Value) (t : TypeId) (f : Nat × Nat), u.heap[b]? = some (.cells c t f) → t ≠ 44 → u'.heap[b]? = some (.cells c t f) := fun b c t f hb ht => by
    rw [hs b (fun e => by subst e; rw [hg] at hb; cases hb; exact ht rfl)]
    exact hb
  refine ⟨ht _ _ _ _ h.bx (by decide), h.own, ?_, fun p hp => ⟨?_, (h.ev p hp).2⟩, h.ok, h.len, h.nd, h.vb, h.mb⟩
  · obtain ⟨E, M, L, ho, e⟩ := h.tab
    refine ⟨E, M, L, ⟨ho.tab.same fun b hb => hs b (fun e => ?_), ho.own, hb⟩, e⟩
    subst e
    rcases hb with x | x | x | x
    · have := ho.tab.tb; rw [← x, hg] at this; cases this
    · obtain ⟨es, cl, hm⟩ := ho.tab.mp.isMap; rw [← x, hg] at hm; cases hm
    · obtain ⟨c', hc, _⟩ := ho.tab.row.plc E (by simp); rw [← x, hg] at hc; cases hc
    · obtain ⟨c', hc, _⟩ := ho.tab.row.plc b (List.mem_cons_of_mem _ x); rw [hg] at hc; cases hc
  · obtain ⟨qd, cd, qg, cg, h0, h1, h2, r⟩ := (h.ev p hp).1
    refine ⟨qd, cd, qg, cg, (hs _ (hne p hp)).trans h0, h1.same (fun b cur _ hb => ?_), h2.same (fun b cur _ hb => ?_), r⟩
    · exact (ht b _ _ _ hb (by decide)).trans hb.symm
    · exact (ht b _ _ _ hb (by decide)).trans hb.symm
def NotMine (W wx : World) (C T m n : Nat) (ver : Int) (A : AL) (D : Nat) : Prop := ∀ w' : World, (∀ b, b ≠ D → w'.heap[b]? = wx.heap[b]?) → Below W.heap.size W w' → RCA W w' C T m n ver A
structure GotJ (W V wx : World) (C T m n : Nat) (ver : Int) (A : AL) (k : Ky) (now : Int) (D : Nat) (c : List Value) (bb : Bool) : Prop where
  box : wx.heap[D]? = some (.cells c.toArray 44 (0, 0))
  len : c.length = 10
  fr : FrC T V wx
  rc : RCA W wx C T m n ver (getA A k now)
  gc : (bb = false ∧ foundA A k now = none) ∨ (bb = true ∧ ∃ x q1 c1 q2 c2, c = evC (toldE x now) q1 c1 q2 c2 ∧ foundA A k now = some x ∧ Rc.Told wx V.heap.size (toldE x now).s q1 c1 q2 c2)
  ge : V.heap.size ≤ D
  nm : NotMine W wx C T m n ver (getA A k now) D
abbrev zeO : Obj := .cells #[.string ⟨#[]⟩, .int .i64 0, .int .i64 0, .int .i64 0, .slice none 0 0, .slice none 0 0, .int .i64 0, .int .i64 0, .int .i64 0, .int .i64 0] 44 (0, 0)
theorem told_oth {w w' : World} {N : Nat} {s : Sv} {q1 : Option Addr} {c1 : Nat} {q2 : Option Addr} {c2 : Nat} (h : Rc.Told w N s q1 c1 q2 c2) {D : Nat} {c : Array Value} {t : TypeId} {f : Nat × Nat} (hD : w.heap[D]? = some (.cells c t f)) (ht : t ≠ 9) (hs : ∀ b, b ≠ D → w'.heap[b]? = w.heap[b]?) : Rc.Told w' N s q1 c1 q2 c2 := by
  have key : ∀ (b : Nat) (c' : Array Value) (f' : Nat × Nat), w.heap[b]? = some (.cells c' 9 f') → w'.heap[b]? = w.heap[b]? := fun b c' f' hb => hs b (fun e => by
    obtain rfl : b = D := e
    rw [hD] at hb
    cases hb
    exact ht rfl)
  exact ⟨own_same h.d fun b c' f' _ hb => key b c' f' hb, own_same h.g fun b c' f' _ hb => key b c' f' hb⟩
theorem told_lowM {w : World} {N N' : Nat} {s : Sv} {q1 : Option Addr} {c1 : Nat} {q2 : Option Addr} {c2 : Nat} (h : Rc.Told w N s q1 c1 q2 c2) (hN : N' ≤ N) : Rc.Told w N' s q1 c1 q2 c2 := ⟨own_lowS h.d hN, own_lowS h.g hN⟩
theorem frc_othM {T : Nat} {w u u' : World} (h : FrC T w u) {D : Nat} (hD : w.heap.size ≤ D) (hs : ∀ b, b ≠ D → u'.heap[b]? = u.heap[b]?) (hz : u.heap.size ≤ u'.heap.size) : FrC T w u' :=
  ⟨Nat.le_trans h.size hz, fun b c t f hx h1 h2 h3 => (hs b (by have := blk_lt hx; omega)).trans (h.same b c t f hx h1 h2 h3), fun M hM => ⟨(cell_same (hs T (by have := cell_lt' hM; omega))).trans (h.mp M hM).1, fun b es cl hne hm => (hs b (by have := blk_lt hm; omega)).trans ((h.mp M hM).2 b es cl hne hm)⟩⟩
section
variable {W V u : World} {C T m n : Nat} {ver : Int} {A : AL}
theorem got_of {nm : ByteArray} {ty now : Int} {w' : World} {l : Rc.ML} {e : Ending} (h3 : (foundA (abs l) (Rc.keyS nm ty) now = none ∧ e = .returned (.tuple #[.agg ze.toArray, .bool false])) ∨
   (∃ x q1 c1 q2 c2, foundA (abs l) (Rc.keyS nm ty) now = some x ∧ e = .returned (.tuple #[.agg (evC (toldE x now) q1 c1 q2 c2).toArray, .bool true]) ∧ w'.ownsRow u.heap.size 9 1 (.slice q1 x.s.ds.length c1) x.s.ds.length (strs x.s.ds) ∧ w'.ownsRow u.heap.size 9 1 (.slice q2 x.s.sg.length c2) x.s.sg.length (strs x.s.sg))) :
   ∃ (c : List Value) (bb : Bool), e = .returned (.tuple #[.agg c.toArray, .bool bb]) ∧ (c.length = 10 ∧ ∀ v ∈ c, v.oneCell' = true) ∧ ((bb = false ∧ foundA (abs l) (Rc.keyS nm ty) now = none) ∨ (bb = true ∧ ∃ x q1 c1 q2 c2, c = evC (toldE x now) q1 c1 q2 c2 ∧ foundA (abs l) (Rc.keyS nm ty) now = some x ∧ Rc.Told w' u.heap.size (toldE x now).s q1 c1 q2 c2)) := by
  rcases h3 with ⟨h4, h5⟩ | ⟨x, q1, c1, q2, c2, h4, h5, h6, h7⟩
  · exact ⟨ze, false, h5, ⟨rfl, ze_ones⟩, .inl ⟨rfl, h4⟩⟩
  · exact ⟨_, true, h5, ⟨rfl, ev_ones _ q1 c1 q2 c2⟩, .inr ⟨rfl, x, q1, c1, q2, c2, rfl, h4, ⟨h6, h7⟩⟩⟩
theorem got_behind (h : RCA W V C T m n ver A) (hu : Below V.heap.size V u) (nm : ByteArray) (hnm : nm.size ≤ maxLen) (ty now : Int) (hty : I64 ty) :
    Calls Tryz.prog 15 #[pt C, .string nm, .int .i64 ty, .int .i64 now] u fun e w' => ∃ (c : List Value) (bb : Bool), e = .returned (.tuple #[.agg c.toArray, .bool bb]) ∧ (enStore (pt w'.heap.size) (.agg c.toArray)).run Tryz.prog (w'.alloc zeO) = .ok () ((w'.alloc zeO).setRow w'.heap.size c.toArray) ∧ FrC T V w' ∧ Hid (GotJ W V ((w'.alloc zeO).setRow w'.heap.size c.toArray) C T m n ver A (Rc.keyS nm ty) now w'.heap.size c bb) := by
  obtain ⟨l, Q, hr, rfl⟩ := h.ex
  refine (rget_in (hr.blk hu) nm hnm ty now hty).mono ?_
  rintro e w' ⟨h1, h2, h3⟩
  obtain ⟨c, bb, he, ⟨hc, hc1⟩, hg⟩ := got_of h3
  obtain ⟨Z, hZ⟩ : ∃ Z, w'.alloc zeO = Z := ⟨_, rfl⟩
  have gZ : Z.heap[w'.heap.size]? = some (.cells ze.toArray 44 (0, 0)) := by rw [← hZ]; exact heap_alloc_new w' _
  have bZ : Below w'.heap.size w' Z := by rw [← hZ]; exact (Below.refl _ _).alloc (Nat.le_refl _) _
  have st := en_store gZ (c' := c) rfl hc hc1
  have bR : Below w'.heap.size w' (Z.setRow w'.heap.size c.toArray) := below_setRow bZ (Nat.le_refl _) _
  rw [hZ]
  refine ⟨c, bb, he, st, (FrC.below hu).trans h2, row_self gZ, hc, ((FrC.below hu).trans h2).trans (FrC.below bR), ⟨_, _, h1.blk bR, abs_getL _ _ _⟩, ?_, Nat.le_trans hu.size h2.size, fun w2 hs2 hb2 => ⟨_, _, rc_rowG (h1.blk bR) (row_self gZ) (fun p hp => by have := (h1.ev p hp).1.lt; omega) hs2 hb2, abs_getL _ _ _⟩⟩
  rcases hg with hg | ⟨hb, x, q1, c1, q2, c2, h4, h5, h6⟩
  · exact .inl hg
  · exact .inr ⟨hb, x, q1, c1, q2, c2, h4, h5, told_lowM (h6.frc (FrC.below (T := 0) bR)) hu.size⟩
theorem got_ahead (h : RCA W V C T m n ver A) (hu : Below V.heap.size V u) (nm : ByteArray) (hnm : nm.size ≤ maxLen) (ty now : Int) (hty : I64 ty) :
    Calls Tryz.prog 15 #[pt C, .string nm, .int .i64 ty, .int .i64 now] (u.alloc zeO) fun e w' => ∃ (c : List Value) (bb : Bool), e = .returned (.tuple #[.agg c.toArray, .bool bb]) ∧ (enStore (pt u.heap.size) (.agg c.toArray)).run Tryz.prog w' = .ok () (w'.setRow u.heap.size c.toArray) ∧ FrC T V w' ∧ Hid (GotJ W V (w'.setRow u.heap.size c.toArray) C T m n ver A (Rc.keyS nm ty) now u.heap.size c bb) := by
  obtain ⟨l, Q, hr, rfl⟩ := h.ex
  have hru := hr.blk hu
  have bZ : Below u.heap.size u (u.alloc zeO) := (Below.refl _ _).alloc (Nat.le_refl _) _
  have gZ : (u.alloc zeO).heap[u.heap.size]? = some (.cells ze.toArray 44 (0, 0)) := heap_alloc_new u _
  refine (rget_in (hru.blk bZ) nm hnm ty now hty).mono ?_
  rintro e w' ⟨h1, h2, h3⟩
  obtain ⟨c, bb, he, ⟨hc, hc1⟩, hg⟩ := got_of h3
  have gW := h2.same _ _ _ _ gZ (by decide) (by decide) (by decide)
  have st := en_store gW (c' := c) rfl hc hc1
  have hs : ∀ b, b ≠ u.heap.size → (w'.setRow u.heap.size c.toArray).heap[b]? = w'.heap[b]? := fun b hb => setRow_other _ _ _ _ hb
  have hWu : W.heap.size ≤ u.heap.size := Nat.le_trans hr.bel.size hu.size
  have hne : ∀ p ∈ getL l (Rc.keyS nm ty) now, p.2.1 ≠ u.heap.size := fun p hp => by
    have := (hru.ev p (getL_memM p hp)).1.lt
    omega
  have hr' := rc_rowG h1 gW hne hs (below_setRow h1.bel hWu _)
  have hfr : FrC T V w' := ((FrC.below hu).trans (FrC.below bZ)).trans h2
  refine ⟨c, bb, he, st, hfr, row_self gW, hc, frc_othM hfr hu.size hs (by rw [setRow_size]; exact Nat.le_refl _), ⟨_, _, hr', abs_getL _ _ _⟩, ?_, hu.size, fun w2 hs2 hb2 => ⟨_, _, rc_rowG hr' (row_self gW) hne hs2 hb2, abs_getL _ _ _⟩⟩
  rcases hg with hg | ⟨hb, x, q1, c1, q2, c2, h4, h5, h6⟩
  · exact .inl hg
  · exact .inr ⟨hb, x, q1, c1, q2, c2, h4, h5, told_oth (told_lowM h6 (Nat.le_trans hu.size bZ.size)) gW (by decide) hs⟩
end
end Go.Proofs.YtikjepodmdaknaaGreatDoor.Mc
/- Layer 17: find. -/
namespace Go.Proofs.YtikjepodmdaknaaGreatDoor.Mc
open Go.RowKit
open Go.Proofs.YtikjepodmdaknaaGreatDoor.Rc (pt nilP Ky kV k0 Kp blk_lt cell_same KOk AL Ev EvI timB RCA FrC foundA getA toldE aget_in AGet ze evC SvI seLoad seStore loadAt_se storeAt_se enLoad enStore loadAt_en storeAt_en se_store en_store row_self sv_ones ev_ones load_all ze_ones)
theorem step_aLk {ops : Array Oper} {o : Oper} {a : Act} {w : World} {K : Act → World → Prop} {Q : Exit → Act → World → Prop} {E : Prop} (hg : o.guard = none) (s x : Operand) (hop : o.op = Op.call { callee := Callee.builtin Builtin.append, args := #[s, x], argTypes := #[122, 122] }) (hty : o.type = 122) (vs vx v' : Value) (w' : World) (hs : a.eval s = vs) (hx : a.eval x = vx) (hrun : (aLk #[vs, vx]).run Tryz.prog w = .ok v' w') (hK : K (a.put o.dst v') w') :
    if Region.wanted o (yielded ops a.tmps) = true then Oper.wp Tryz.prog o a w K Q else E := by
  have hw : Region.wanted o (yielded ops a.tmps) = true := by simp [Region.wanted, hg]
  rw [if_pos hw]
  unfold aLk at hrun
  unfold Oper.wp execOp
  simp only [hop, hty, resolve, invoke, builtin, Sem.run_bind, Sem.run_pure, Result.andThen_ok, List.map_toArray, List.map_cons, List.map_nil, hs, hx, hrun]
  exact hK
section
attribute [local go_sem ↓] loadAt_se storeAt_se loadAt_en storeAt_en
set_option maxRecDepth 100000 in
set_option maxHeartbeats 8000000 in
theorem mfind_in {W w : World} {C T m n : Nat} {ver : Int} {A : AL} (h : RCA W w C T m n ver A) (hn : n < 2305843009213693952) (X U : Nat) (hX : w.heap[X]? = some (.cells #[pt U, pt C] 126 (0, 0))) (l : List Sv) (q : Option Addr) (c : Nat) (hc : l.length ≤ c ∧ c ≤ maxLen) (hl : l.length ≤ 20) (hat : LAt W w T q l) (hin : ∀ s ∈ l, SvI s) (t now : Int) (ht : 0 ≤ t ∧ t ≤ 604800) :
    Calls Tryz.prog 106 #[pt X, .slice q l.length c, .int .i64 t, .int .i64 now] w fun e w' => FndP W w w' C T m n ver A (keysOf l) t now e := by
  obtain ⟨N, hN⟩ : ∃ N, w.heap.size = N := ⟨_, rfl⟩
  obtain ⟨ks, hks⟩ : ∃ ks, keysOf l = ks := ⟨_, rfl⟩
  obtain ⟨ln, hln⟩ : ∃ ln, l.length = ln := ⟨_, rfl⟩
  have hkl : ks.length = ln := by rw [← hks, ← hln]; simp [keysOf]
  have HIn : Hid (∀ i, i < ln → ∃ (b off : Nat) (s : Sv) (qd : Option Addr) (cd : Nat) (qg : Option Addr) (cg : Nat), q = some ⟨b, off, none⟩ ∧ Hid (ks[i]? = some (Rc.keyS s.nm s.ty) ∧ SvI s) ∧ Hid (∀ wr, FrC T w wr → Below W.heap.size W wr → (seLoad (.pointer (some ⟨b, off + i * 6, none⟩))).run Tryz.prog wr = .ok (.agg (svC s qd cd qg cg).toArray) wr)) := fun i hi => by
    obtain ⟨s, hg⟩ : ∃ s, l[i]? = some s := ⟨_, List.getElem?_eq_getElem (by omega)⟩
    obtain ⟨b, off, qd, cd, qg, cg, e, h1⟩ := hat i _ hg
    refine ⟨b, off, s, qd, cd, qg, cg, e, ⟨?_, hin _ (List.mem_of_getElem? hg)⟩, fun wr h2 h3 => ?_⟩
    · rw [← hks]
      unfold keysOf
      rw [List.getElem?_map, hg]
      rfl
    · exact load_all (n := 6) wr b (off + i * 6) _ rfl (by kernel_rfl) (by kernel_rfl) fun j y hy => by
        have hj : j < 6 := (List.getElem?_eq_some_iff.1 hy).1
        rw [(h1 wr h2 h3).2 j hj]
        exact hy
  have H0 : Hid (FndI W w w C T m n ver A ks t now 0 t (.slice none 0 0) A []) := ⟨rfl, rfl, h, LkRow.nil _ _, fun x hx => (by cases hx), FrC.refl _ _, by omega⟩
  have HB : Hid (∀ wr i tv v Ai ls, FndI W w wr C T m n ver A ks t now i tv v Ai ls → wr.heap[X]? = some (.cells #[pt U, pt C] 126 (0, 0)) ∧ N ≤ wr.heap.size ∧ Below W.heap.size W wr ∧ FrC T w wr) := fun wr i tv v Ai ls hh => ⟨hh.fr.same _ _ _ _ hX (by decide) (by decide) (by decide), by rw [← hN]; exact hh.fr.size, hh.rc.bel, hh.fr⟩
  have HRc : Hid (∀ wr i tv v Ai ls, FndI W w wr C T m n ver A ks t now i tv v Ai ls → RCA W wr C T m n ver Ai) := fun wr i tv v Ai ls hh => hh.rc
  have HNo : Hid (∀ wr w2 i tv v Ai ls k, FndI W w wr C T m n ver A ks t now i tv v Ai ls → ks[i]? = some k → foundA Ai k now = none → FrC T wr w2 → RCA W w2 C T m n ver (getA Ai k now) → FndP W w w2 C T m n ver A ks t now (.returned (.tuple #[.slice none 0 0, .int .i64 0, .bool false]))) := fun wr w2 i tv v Ai ls k hh hk hf hfr hr => hh.no hk hf hr hfr rfl
  have HK : Hid (∀ (s : Sv), SvI s → ∀ w, Calls Tryz.prog 65 #[.string s.nm, .int .i64 s.ty] w fun e w' => e = .returned (kV (Rc.keyS s.nm s.ty)) ∧ Below w.heap.size w w') := fun s hs w => keyOf_in s.nm s.ty hs.sv.nm w
  have HAp : Hid (∀ wr w2 i tv v Ai ls (s : Sv) x, FndI W w wr C T m n ver A ks t now i tv v Ai ls → i ≤ 20 → ks[i]? = some (Rc.keyS s.nm s.ty) → SvI s → foundA Ai (Rc.keyS s.nm s.ty) now = some x → FrC T wr w2 → RCA W w2 C T m n ver (getA Ai (Rc.keyS s.nm s.ty) now) → ∃ q2 c2 w', (aLk #[v, .slice (some ⟨w2.heap.size, 0, none⟩) 1 1]).run Tryz.prog (w2.alloc (.cells #[.string (Rc.keyS s.nm s.ty).1, .int .i64 (Rc.keyS s.nm s.ty).2, .int .i64 x.ve] 249)) = .ok (.slice q2 (i + 1) c2) w' ∧ Hid (∃ Aj lj, FndI W w w' C T m n ver A ks t now (i + 1) (min tv (toldE x now).s.tl) (.slice q2 (i + 1) c2) Aj lj) ∧ (∀ (b : Nat) (c : Array Value) (t : TypeId) (f : Nat × Nat), w2.heap[b]? = some (.cells c t f) → t ≠ 249 → w'.heap[b]? = some (.cells c t f))) := fun wr w2 i tv v Ai ls s x hh hi hk hs hf hfr hr => by
    obtain ⟨hx, hlk⟩ := lk_ok hh.rc hn hs.sv.nm hs.ty hf
    obtain ⟨V, hV⟩ : ∃ V, w2.alloc (.cells #[.string (Rc.keyS s.nm s.ty).1, .int .i64 (Rc.keyS s.nm s.ty).2, .int .i64 x.ve] 249) = V := ⟨_, rfl⟩
    have bV : Below w2.heap.size w2 V := by rw [← hV]; exact (Below.refl _ _).alloc (Nat.le_refl _) _
    have gV : V.heap[w2.heap.size]? = some (.cells (lkC ⟨Rc.keyS s.nm s.ty, x.ve⟩).toArray 249 (0, 0)) := by rw [← hV]; exact heap_alloc_new w2 _
    have hfv := hfr.trans (FrC.below (T := T) bV)
    have hrow := hh.row.frc hfv
    have hsz := (hh.fr.trans hfv).size
    obtain ⟨v', w', hrun, hr2, hb2, hc2, hm2⟩ := lk_app (c := #[]) hrow hsz (by rw [hh.len]; omega) ⟨Rc.keyS s.nm s.ty, x.ve⟩ gV
    have hrV := hr.blk bV
    obtain ⟨q2, c2, e2, _⟩ := hr2.form
    rw [show (ls ++ [(⟨Rc.keyS s.nm s.ty, x.ve⟩ : Lk)]).length = i + 1 by simp [hh.len]] at e2
    subst e2
    rw [hV]
    have hNV : N ≤ V.heap.size := by rw [← hN]; exact hsz
    have hb3 : Below w.heap.size V w' := hb2
    have hrc : RCA W w' C T m n ver (getA Ai (Rc.keyS s.nm s.ty) now) := rca_keep hrV hc2 hm2 (hrV.bel.trans (hb2.mono (by have := hh.rc.bel.size; have := h.bel.size; omega)))
    refine ⟨q2, c2, w', hrun, ⟨_, _, hh.yes (w' := w') hk hf hrc (frc_then (hh.fr.trans hfv) hb2) hx hlk hr2⟩, fun b c t f hb ht => hc2 b c t f ((bV.block b (blk_lt hb)).trans hb) ht⟩
  have HFin : Hid (∀ wr tv v Ai ls, FndI W w wr C T m n ver A ks t now ln tv v Ai ls → ∃ q1 c1, v = .slice q1 ln c1 ∧ FndP W w wr C T m n ver A ks t now (.returned (.tuple #[.slice q1 ln c1, .int .i64 tv, .bool true]))) := fun wr tv v Ai ls hh => hh.fin (by omega)
  have hlc : ln ≤ c ∧ c ≤ 9223372036854775807 := by rw [← hln]; unfold maxLen at hc; omega
  rw [hks, hln]
  rw [hln] at hl
  simp only [svC] at HIn
  clear h hX hat hin hkl hks hln hc
  go_enter Tryz.func106, Tryz.ntmps106
  go_wp2_with fail
  go_loopw [2, 11, 18] (fun tv lv iv wr => ∃ (i : Nat) (t1 : Int) (q1 : Option Addr) (c1 : Nat) (wq : World), wq = wr ∧ i ≤ ln ∧ iv = .int .i64 (i : Int) ∧ tv = .int .i64 t1 ∧ lv = .slice q1 i c1 ∧ Hid (∃ Ai ls, FndI W w wq C T m n ver A ks t now i t1 (.slice q1 i c1) Ai ls)) (fun _ _ iv _ => ln - (intOf iv).toNat)
  case atStart => exact ⟨0, t, none, 0, _, rfl, Nat.zero_le _, rfl, rfl, rfl, _, _, H0.out⟩
  case round =>
    obtain ⟨i, t1, q1, c1, wq, rfl, hi, rfl, rfl, rfl, HI⟩ := hrel
    obtain ⟨Ai, ls, HI⟩ := HI.out
    replace HI := Hid.mk HI
    by_cases hlt : i < ln
    · have hlz : (i : Int) < (ln : Int) := by omega
      have hlz0 : (0 : Int) ≤ (i : Int) := by omega
      have wi : IntKind.i64.wrap ((i : Int) + 1) = ((i + 1 : Nat) : Int) := by rw [IntKind.wrap_i64]; omega
      obtain ⟨b, off, s, qd, cd, qg, cg, rfl, hks, hld⟩ := HIn.out i hlt
      obtain ⟨gx, hNq, hWq, hfq⟩ := HB.out _ _ _ _ _ _ HI.out
      have hl0 := hld.out _ hfq hWq
      obtain ⟨P, hP⟩ : ∃ P, wq.heap.size = P := ⟨_, rfl⟩
      obtain ⟨V1, hV1⟩ : ∃ V, wq.alloc (.cells #[.string ⟨#[]⟩, .int .i64 0, .int .i64 0, .int .i64 0, .slice none 0 0, .slice none 0 0] 34) = V := ⟨_, rfl⟩
      have g1 : V1.heap[P]? = some (.cells ([.string ⟨#[]⟩, .int .i64 0, .int .i64 0, .int .i64 0, .slice none 0 0, .slice none 0 0] : List Value).toArray 34 (0, 0)) := by rw [← hV1, ← hP]; exact heap_alloc_new wq _
      have b1 : Below P wq V1 := by rw [← hV1, ← hP]; exact (Below.refl _ _).alloc (Nat.le_refl _) _
      have t1' := se_store (off := 0) (cs := svC s qd cd qg cg) g1 rfl (by simp) (sv_ones s qd cd qg cg)
      obtain ⟨V2, hV2⟩ : ∃ V, V1.setRow P (svC s qd cd qg cg).toArray = V := ⟨_, rfl⟩
      rw [show (([.string ⟨#[]⟩, .int .i64 0, .int .i64 0, .int .i64 0, .slice none 0 0, .slice none 0 0] : List Value).take 0 ++ svC s qd cd qg cg ++ ([.string ⟨#[]⟩, .int .i64 0, .int .i64 0, .int .i64 0, .slice none 0 0, .slice none 0 0] : List Value).drop (0 + 6)) = svC s qd cd qg cg from rfl, hV2] at t1'
      have b2 : Below P wq V2 := by rw [← hV2]; exact below_setRow b1 (Nat.le_refl _) _
      have g2 : V2.heap[P]? = some (.cells (svC s qd cd qg cg).toArray 34 (0, 0)) := by rw [← hV2]; exact row_self g1
      have gx2 : V2.heap[X]? = some (.cells #[pt U, pt C] 126 (0, 0)) := (b2.block X (by have := blk_lt gx; omega)).trans gx
      have HI2 := Hid.mk (HI.out.blk (by rw [hP]; exact b2))
      have HB0 : Hid (Below V2.heap.size V2 V2.drew) := (Below.refl _ _).drew
      have HGA := Hid.mk (fun (u : World) (hu : Below V2.heap.size V2 u) => got_behind (HRc.out _ _ _ _ _ _ HI2.out) hu s.nm hks.out.2.sv.nm s.ty now hks.out.2.ty)
      have HGB : Hid (Calls Tryz.prog 15 #[pt C, .string s.nm, .int .i64 s.ty, .int .i64 now] ((V2.alloc zeO).drew) fun e w' => ∃ (c : List Value) (bb : Bool), e = .returned (.tuple #[.agg c.toArray, .bool bb]) ∧ (enStore (pt V2.heap.size) (.agg c.toArray)).run Tryz.prog w' = .ok () (w'.setRow V2.heap.size c.toArray) ∧ FrC T V2 w' ∧ Hid (GotJ W V2 (w'.setRow V2.heap.size c.toArray) C T m n ver Ai (Rc.keyS s.nm s.ty) now V2.heap.size c bb)) := got_ahead (HRc.out _ _ _ _ _ _ HI2.out) HB0.out s.nm hks.out.2.sv.nm s.ty now hks.out.2.ty
      have HS5 : Hid (∀ u, FrC T V2 u → u.cell? ⟨X, 1, none⟩ = some (pt C) ∧ u.cell? ⟨P, 0, none⟩ = some (.string s.nm) ∧ u.cell? ⟨P, 1, none⟩ = some (.int .i64 s.ty)) := fun u hu => by
        have e1 := hu.same _ _ _ _ gx2 (by decide) (by decide) (by decide)
        have e2 := hu.same _ _ _ _ g2 (by decide) (by decide) (by decide)
        exact ⟨by rw [So.cell_blk e1]; rfl, by rw [So.cell_blk e2]; rfl, by rw [So.cell_blk e2]; rfl⟩
      have y0 : V2.cell? ⟨P, 0, none⟩ = some (.string s.nm) := by rw [So.cell_blk g2]; rfl
      have y1 : V2.cell? ⟨P, 1, none⟩ = some (.int .i64 s.ty) := by rw [So.cell_blk g2]; rfl
      have yx : V2.cell? ⟨X, 1, none⟩ = some (pt C) := by rw [So.cell_blk gx2]; rfl
      have HG2 := Hid.mk g2
      have HV1 := Hid.mk hV2
      rw [← hV1] at t1'
      simp only [svC] at t1'
      clear gx hNq hWq hfq hV1 hV2 g1 b1 b2 g2 gx2 hld
      go_upto_region 5 with fail
      (try rw [hP])
      clear HV1 t1' hl0
      go_cut [14, 15] from 22 to 34 (fun pv bv wx => ∃ (D : Nat) (c : List Value) (bb : Bool), pv = pt D ∧ bv = .bool bb ∧ Hid (GotJ W V2 wx C T m n ver Ai (Rc.keyS s.nm s.ty) now D c bb))
      case first =>
        refine wp_region_held_drew (S := (fun w : World => w.cell? ⟨X, 1, none⟩ = some (pt C) ∧ w.cell? ⟨P, 0, none⟩ = some (.string s.nm) ∧ w.cell? ⟨P, 1, none⟩ = some (.int .i64 s.ty))) (by kernel_rfl) (HS5.out _ (FrC.below HB0.out)) (fun hHeld => ?_)
        refine wU (i := 0) (v := ?vpa_0) rfl ?ypa_0 (by assumption) ?_
        case ypa_0 => (intro w hSw; (try dsimp only at hSw); go_simp; try with_reducible rfl)
        refine wU (i := 1) (v := ?vpa_1) rfl ?ypa_1 (by assumption) ?_
        case ypa_1 => (intro w hSw; (try dsimp only at hSw); go_simp; try with_reducible rfl)
        refine wU (i := 2) (v := ?vpa_2) rfl ?ypa_2 (by assumption) ?_
        case ypa_2 => (intro w hSw; (try dsimp only at hSw); go_simp; try with_reducible rfl)
        refine wU (i := 3) (v := ?vpa_3) rfl ?ypa_3 (by assumption) ?_
        case ypa_3 => (intro w hSw; (try dsimp only at hSw); go_simp; try with_reducible rfl)
        refine wU (i := 4) (v := ?vpa_4) rfl ?ypa_4 (by assumption) ?_
        case ypa_4 => (intro w hSw; (try dsimp only at hSw); go_simp; try with_reducible rfl)
        refine wU (i := 5) (v := ?vpa_5) rfl ?ypa_5 (by assumption) ?_
        case ypa_5 => (intro w hSw; (try dsimp only at hSw); go_simp; try with_reducible rfl)
        refine wU (i := 6) (v := ?vpa_6) rfl ?ypa_6 (by assumption) ?_
        case ypa_6 => (intro w hSw; (try dsimp only at hSw); go_simp; try with_reducible rfl)
        refine wU (i := 7) (v := ?vpa_7) rfl ?ypa_7 (by assumption) ?_
        case ypa_7 => (intro w hSw; (try dsimp only at hSw); go_simp; try with_reducible rfl)
        refine wU (i := 8) (v := ?vpa_8) rfl ?ypa_8 (by assumption) ?_
        case ypa_8 => (intro w hSw; (try dsimp only at hSw); go_simp; try with_reducible rfl)
        try simp only [Act.put, List.getElem_toArray, List.getElem_cons_succ, List.getElem_cons_zero, List.setIfInBounds_toArray, List.set_cons_zero, List.set_cons_succ]
        refine wpAnyH_ready (rs := [9, 13]) (by kernel_rfl) (by simp) ?_
        refine AllReadyH.cons rfl (fun K hK => ?_) (AllReadyH.cons rfl (fun K hK => ?_) AllReadyH.nil)
        · go_simp
          go_at_call 15
          refine (HGA.out _ HB0.out).mono ?_
          rintro e w3 ⟨c, bb, rfl, hst, hf3, hj⟩
          have hfa : FrC T V2 (w3.alloc zeO) := hf3.trans (FrC.below ((Below.refl _ _).alloc (Nat.le_refl _) _))
          refine hK.out _ _ (HS5.out _ hf3) (fun hHeld => ?_)
          clear hK K
          try simp only [Act.put, List.getElem_toArray, List.getElem_cons_succ, List.getElem_cons_zero, List.setIfInBounds_toArray, List.set_cons_zero, List.set_cons_succ]
          refine wU (i := 10) (v := ?vpb_10) rfl ?ypb_10 (by assumption) ?_
          case ypb_10 => (intro w hSw; (try dsimp only at hSw); go_simp; try with_reducible rfl)
          refine wU (i := 11) (v := ?vpb_11) rfl ?ypb_11 (by assumption) ?_
          case ypb_11 => (intro w hSw; (try dsimp only at hSw); go_simp; try with_reducible rfl)
          refine wU (i := 12) (v := ?vpb_12) rfl ?ypb_12 (by assumption) ?_
          case ypb_12 => (intro w hSw; (try dsimp only at hSw); go_simp; try with_reducible rfl)
          try simp only [Act.put, List.getElem_toArray, List.getElem_cons_succ, List.getElem_cons_zero, List.setIfInBounds_toArray, List.set_cons_zero, List.set_cons_succ]
          refine wpAnyH_ready (rs := [13]) (by kernel_rfl) (by simp) ?_
          refine AllReadyH.cons rfl (fun K hK => ?_) AllReadyH.nil
          go_simp
          refine hK.out _ _ (HS5.out _ hfa) (fun hHeld => ?_)
          clear hK K
          try simp only [Act.put, List.getElem_toArray, List.getElem_cons_succ, List.getElem_cons_zero, List.setIfInBounds_toArray, List.set_cons_zero, List.set_cons_succ]
          refine wpAnyH_ready (rs := [14]) (by kernel_rfl) (by simp) ?_
          refine AllReadyH.cons rfl (fun K hK => ?_) AllReadyH.nil
          go_simp
          refine hK.out _ _ (HS5.out _ hj.out.fr) (fun hHeld => ?_)
          clear hK K
          try simp only [Act.put, List.getElem_toArray, List.getElem_cons_succ, List.getElem_cons_zero, List.setIfInBounds_toArray, List.set_cons_zero, List.set_cons_succ]
          refine wU (i := 15) (v := ?vpc_15) rfl ?ypc_15 (by assumption) ?_
          case ypc_15 => (intro w hSw; (try dsimp only at hSw); go_simp; try with_reducible rfl)
          try simp only [Act.put, List.getElem_toArray, List.getElem_cons_succ, List.getElem_cons_zero, List.setIfInBounds_toArray, List.set_cons_zero, List.set_cons_succ]
          refine wpAnyH_done (by kernel_rfl) ?_ _
          clear hHeld hst hf3 hfa
          go_wp2
          go_meet
          exact ⟨_, _, _, rfl, rfl, hj⟩
        · go_simp
          refine hK.out _ _ (HS5.out _ (FrC.below (((Below.refl _ _).alloc (Nat.le_refl _) _).drew))) (fun hHeld => ?_)
          clear hK K
          try simp only [Act.put, List.getElem_toArray, List.getElem_cons_succ, List.getElem_cons_zero, List.setIfInBounds_toArray, List.set_cons_zero, List.set_cons_succ]
          refine wpAnyH_ready (rs := [9]) (by kernel_rfl) (by simp) ?_
          refine AllReadyH.cons rfl (fun K hK => ?_) AllReadyH.nil
          go_simp
          go_at_call 15
          refine HGB.out.mono ?_
          rintro e w3 ⟨c, bb, rfl, hst, hf3, hj⟩
          refine hK.out _ _ (HS5.out _ hf3) (fun hHeld => ?_)
          clear hK K
          try simp only [Act.put, List.getElem_toArray, List.getElem_cons_succ, List.getElem_cons_zero, List.setIfInBounds_toArray, List.set_cons_zero, List.set_cons_succ]
          refine wU (i := 10) (v := ?vpd_10) rfl ?ypd_10 (by assumption) ?_
          case ypd_10 => (intro w hSw; (try dsimp only at hSw); go_simp; try with_reducible rfl)
          refine wU (i := 11) (v := ?vpd_11) rfl ?ypd_11 (by assumption) ?_
          case ypd_11 => (intro w hSw; (try dsimp only at hSw); go_simp; try with_reducible rfl)
          refine wU (i := 12) (v := ?vpd_12) rfl ?ypd_12 (by assumption) ?_
          case ypd_12 => (intro w hSw; (try dsimp only at hSw); go_simp; try with_reducible rfl)
          try simp only [Act.put, List.getElem_toArray, List.getElem_cons_succ, List.getElem_cons_zero, List.setIfInBounds_toArray, List.set_cons_zero, List.set_cons_succ]
          refine wpAnyH_ready (rs := [14]) (by kernel_rfl) (by simp) ?_
          refine AllReadyH.cons rfl (fun K hK => ?_) AllReadyH.nil
          go_simp
          refine hK.out _ _ (HS5.out _ hj.out.fr) (fun hHeld => ?_)
          clear hK K
          try simp only [Act.put, List.getElem_toArray, List.getElem_cons_succ, List.getElem_cons_zero, List.setIfInBounds_toArray, List.set_cons_zero, List.set_cons_succ]
          refine wU (i := 15) (v := ?vpe_15) rfl ?ype_15 (by assumption) ?_
          case ype_15 => (intro w hSw; (try dsimp only at hSw); go_simp; try with_reducible rfl)
          try simp only [Act.put, List.getElem_toArray, List.getElem_cons_succ, List.getElem_cons_zero, List.setIfInBounds_toArray, List.set_cons_zero, List.set_cons_succ]
          refine wpAnyH_done (by kernel_rfl) ?_ _
          clear hHeld hst hf3
          go_wp2
          go_meet
          exact ⟨_, _, _, rfl, rfl, hj⟩
      case rest =>
        obtain ⟨D, c, bb, rfl, rfl, hj⟩ := hcut
        clear HGA HGB HB0 HS5 y0 y1 yx
        have gP := hj.out.fr.same P _ _ _ HG2.out (by decide) (by decide) (by decide)
        rcases hj.out.gc with ⟨rfl, hf⟩ | ⟨rfl, x, q3, c3, q4, c4, rfl, hf, _⟩
        · have HF := Hid.mk (HNo.out _ _ _ _ _ _ _ _ HI2.out hks.out.1 hf hj.out.fr hj.out.rc)
          clear hf gP
          go_wp2
          go_ret3
          exact HF.out
        · have gD := hj.out.box
          have HGD := Hid.mk gD
          have HGP := Hid.mk gP
          have HFd := Hid.mk hf
          have HKk := Hid.mk (HK.out s hks.out.2)
          have HS8 : Hid (∀ u : World, u.heap[P]? = some (.cells (svC s qd cd qg cg).toArray 34 (0, 0)) → u.heap[D]? = some (.cells (evC (toldE x now) q3 c3 q4 c4).toArray 44 (0, 0)) → u.cell? ⟨P, 0, none⟩ = some (.string s.nm) ∧ u.cell? ⟨P, 1, none⟩ = some (.int .i64 s.ty) ∧ u.cell? ⟨D, 8, none⟩ = some (.int .i64 x.ve)) := fun u h1 h2 => ⟨by rw [So.cell_blk h1]; rfl, by rw [So.cell_blk h1]; rfl, by rw [So.cell_blk h2]; rfl⟩
          obtain ⟨z0, z1, z8⟩ := HS8.out _ gP gD
          clear gP gD hf
          go_upto_region 8 with fail
          refine wp_region_held_drew (S := (fun w : World => w.cell? ⟨P, 0, none⟩ = some (.string s.nm) ∧ w.cell? ⟨P, 1, none⟩ = some (.int .i64 s.ty) ∧ w.cell? ⟨D, 8, none⟩ = some (.int .i64 x.ve))) (by kernel_rfl) ⟨z0, z1, z8⟩ (fun hHeld => ?_)
          refine wU (i := 0) (v := ?vqa_0) rfl ?yqa_0 (by assumption) ?_
          case yqa_0 => (intro w hSw; (try dsimp only at hSw); go_simp; try with_reducible rfl)
          refine wU (i := 1) (v := ?vqa_1) rfl ?yqa_1 (by assumption) ?_
          case yqa_1 => (intro w hSw; (try dsimp only at hSw); go_simp; try with_reducible rfl)
          refine wU (i := 2) (v := ?vqa_2) rfl ?yqa_2 (by assumption) ?_
          case yqa_2 => (intro w hSw; (try dsimp only at hSw); go_simp; try with_reducible rfl)
          refine wU (i := 3) (v := ?vqa_3) rfl ?yqa_3 (by assumption) ?_
          case yqa_3 => (intro w hSw; (try dsimp only at hSw); go_simp; try with_reducible rfl)
          refine wU (i := 4) (v := ?vqa_4) rfl ?yqa_4 (by assumption) ?_
          case yqa_4 => (intro w hSw; (try dsimp only at hSw); go_simp; try with_reducible rfl)
          refine wU (i := 6) (v := ?vqa_6) rfl ?yqa_6 (by assumption) ?_
          case yqa_6 => (intro w hSw; (try dsimp only at hSw); go_simp; try with_reducible rfl)
          refine wU (i := 7) (v := ?vqa_7) rfl ?yqa_7 (by assumption) ?_
          case yqa_7 => (intro w hSw; (try dsimp only at hSw); go_simp; try with_reducible rfl)
          try simp only [Act.put, List.getElem_toArray, List.getElem_cons_succ, List.getElem_cons_zero, List.setIfInBounds_toArray, List.set_cons_zero, List.set_cons_succ]
          refine wpAnyH_ready (rs := [5]) (by kernel_rfl) (by simp) ?_
          refine AllReadyH.cons rfl (fun K hK => ?_) AllReadyH.nil
          go_simp
          go_at_call 65
          refine (HKk.out _).mono ?_
          rintro e w6 ⟨rfl, b6⟩
          replace b6 := ((Below.refl _ _).drew).trans b6
          have gP6 := (b6.block P (blk_lt HGP.out)).trans HGP.out
          have gD6 := (b6.block D (blk_lt HGD.out)).trans HGD.out
          have hf6 : FrC T V2 w6 := hj.out.fr.trans (FrC.below b6)
          obtain ⟨q2, c2, w7, hrun, HI7, hc7⟩ := HAp.out V2 w6 i t1 _ Ai ls s x HI2.out (by omega) hks.out.1 hks.out.2 HFd.out hf6 (hj.out.rc.blk b6)
          have gP7 := hc7 P _ _ _ gP6 (by decide)
          have gD7 := hc7 D _ _ _ gD6 (by decide)
          have d3 : w7.cell? ⟨D, 3, none⟩ = some (.int .i64 (toldE x now).s.tl) := by rw [So.cell_blk gD7]; rfl
          refine hK.out _ _ (HS8.out _ gP6 gD6) (fun hHeld => ?_)
          clear hK K
          try simp only [Act.put, List.getElem_toArray, List.getElem_cons_succ, List.getElem_cons_zero, List.setIfInBounds_toArray, List.set_cons_zero, List.set_cons_succ]
          refine wU (i := 8) (v := ?vqb_8) rfl ?yqb_8 (by assumption) ?_
          case yqb_8 => (intro w hSw; (try dsimp only at hSw); go_simp; try with_reducible rfl)
          try simp only [Act.put, List.getElem_toArray, List.getElem_cons_succ, List.getElem_cons_zero, List.setIfInBounds_toArray, List.set_cons_zero, List.set_cons_succ]
          refine wpAnyH_ready (rs := [9]) (by kernel_rfl) (by simp) ?_
          refine AllReadyH.cons rfl (fun K hK => ?_) AllReadyH.nil
          go_simp
          refine hK.out _ _ (HS8.out _ ((Below.heap_alloc _ _ _ (blk_lt gP6)).trans gP6) ((Below.heap_alloc _ _ _ (blk_lt gD6)).trans gD6)) (fun hHeld => ?_)
          clear hK K
          try simp only [Act.put, List.getElem_toArray, List.getElem_cons_succ, List.getElem_cons_zero, List.setIfInBounds_toArray, List.set_cons_zero, List.set_cons_succ]
          refine wpAnyH_ready (rs := [10]) (by kernel_rfl) (by simp) ?_
          refine AllReadyH.cons rfl (fun K hK => ?_) AllReadyH.nil
          refine step_aLk rfl _ _ rfl rfl _ _ _ _ rfl rfl hrun ?_
          refine hK.out _ _ (HS8.out _ gP7 gD7) (fun hHeld => ?_)
          clear hK K
          try simp only [Act.put, List.getElem_toArray, List.getElem_cons_succ, List.getElem_cons_zero, List.setIfInBounds_toArray, List.set_cons_zero, List.set_cons_succ]
          refine wU (i := 11) (v := ?vqc_11) rfl ?yqc_11 (by assumption) ?_
          case yqc_11 => (intro w hSw; (try dsimp only at hSw); go_simp; try with_reducible rfl)
          try simp only [Act.put, List.getElem_toArray, List.getElem_cons_succ, List.getElem_cons_zero, List.setIfInBounds_toArray, List.set_cons_zero, List.set_cons_succ]
          refine wpAnyH_done (by kernel_rfl) ?_ _
          clear hHeld b6 gP6 gD6 hf6 hc7 gP7 gD7 hrun
          go_wp2
          go_roundw
          case rel => exact ⟨i + 1, _, q2, c2, _, rfl, by omega, by first | rfl | go_num, rfl, rfl, HI7.out⟩
          case measure => simp [intOf]; omega
    · have hlz : ¬ (i : Int) < (ln : Int) := by omega
      obtain rfl : i = ln := by omega
      obtain ⟨q3, c3, e3, hfin⟩ := HFin.out _ _ _ _ _ HI.out
      cases e3
      have HF := Hid.mk hfin
      go_wp2
      go_ret3
      exact HF.out
end
end Go.Proofs.YtikjepodmdaknaaGreatDoor.Mc
/- Layer 17: slices.IndexFunc at sets: the first SOA. -/
namespace Go.Proofs.YtikjepodmdaknaaGreatDoor.Mc
open Go.RowKit
open Go.Proofs.YtikjepodmdaknaaGreatDoor.Rc (pt nilP Ky blk_lt cell_same seLoad loadAt_se load_all FrC cellB)
theorem LAt.ss {W w : World} {T : Nat} {q : Option Addr} {l : List Sv} (h : LAt W w T q l) (hb : Below W.heap.size W w) : SsAt w q l := fun j hj => by
  obtain ⟨b, off, qd, cd, qg, cg, e, h1⟩ := h j _ (List.getElem?_eq_getElem hj)
  obtain ⟨h2, h3⟩ := h1 w (FrC.refl _ _) hb
  exact ⟨b, off, qd, cd, qg, cg, e, cellB ((h3 0 (by omega)).trans (show (svC l[j] qd cd qg cg)[0]? = some _ from rfl)), h3, h2⟩
theorem SsAt.blk {w w' : World} {q : Option Addr} {l : List Sv} (h : SsAt w q l) (hb : Below w.heap.size w w') : SsAt w' q l := fun j hj => by
  obtain ⟨b, off, qd, cd, qg, cg, e, h0, h1, h2⟩ := h j hj
  exact ⟨b, off, qd, cd, qg, cg, e, Nat.lt_of_lt_of_le h0 hb.size, fun k hk => (hb.cell (p := ⟨b, off + j * 6 + k, none⟩) h0).trans (h1 k hk), h2.blk hb⟩
theorem SsAt.load {w : World} {q : Option Addr} {l : List Sv} (h : SsAt w q l) (j : Nat) (hj : j < l.length) : ∃ b off qd cd qg cg, q = some ⟨b, off, none⟩ ∧ (∀ w', Below w.heap.size w w' → (seLoad (.pointer (some ⟨b, off + j * 6, none⟩))).run Tryz.prog w' = .ok (.agg (svC l[j] qd cd qg cg).toArray) w') := by
  obtain ⟨b, off, qd, cd, qg, cg, e, h0, h1, h2⟩ := h j hj
  refine ⟨b, off, qd, cd, qg, cg, e, fun w' hb => ?_⟩
  exact load_all (n := 6) w' b (off + j * 6) _ rfl (by kernel_rfl) (by kernel_rfl) fun k y hy => by
    have hk : k < 6 := (List.getElem?_eq_some_iff.1 hy).1
    rw [(hb.cell (p := ⟨b, off + j * 6 + k, none⟩) h0).trans (h1 k hk)]
    exact hy
theorem isSoa_in (s : Sv) (qd : Option Addr) (cd : Nat) (qg : Option Addr) (cg : Nat) (W : World) : Calls Tryz.prog 149 #[.agg (svC s qd cd qg cg).toArray] W fun e w' => e = .returned (.bool (decide (s.ty = 6))) ∧ Below W.heap.size W w' := by
  have X0 := Go.Proofs.YtikjepodmdaknaaGreatDoor.Bx.new W (svC s qd cd qg cg) 34
  simp only [svC] at X0 ⊢
  have x1 := X0.cell 1 _ rfl
  have HB := Hid.mk X0.bel
  clear X0
  go_enter Tryz.func149, Tryz.ntmps149
  go_wp2
  go_ret
  exact ⟨rfl, HB.out⟩
def IxP (l : List Sv) (W : World) (e : Ending) (w' : World) : Prop := Below W.heap.size W w' ∧ ((l.find? (fun s => decide (s.ty = 6)) = none ∧ e = .returned (.int .i64 (-1))) ∨ (∃ (j : Nat) (hj : j < l.length), l.find? (fun s => decide (s.ty = 6)) = some l[j] ∧ e = .returned (.int .i64 (j : Int))))
theorem find_at {l : List Sv} {i : Nat} (hi : i < l.length) (h : ∀ s ∈ l.take i, ¬ s.ty = 6) (h6 : l[i].ty = 6) : l.find? (fun s => decide (s.ty = 6)) = some l[i] := by
  have e : l = l.take i ++ l[i] :: l.drop (i + 1) := by rw [← List.drop_eq_getElem_cons hi, List.take_append_drop]
  conv => lhs; rw [e]
  rw [List.find?_append, List.find?_eq_none.2 (fun s hs => by simpa using h s hs), List.find?_cons_of_pos (by simpa using h6)]
  rfl
section
attribute [local go_sem ↓] loadAt_se
set_option maxRecDepth 100000 in
set_option maxHeartbeats 4000000 in
theorem index_in (l : List Sv) (q : Option Addr) (c : Nat) (hc : l.length ≤ c ∧ c ≤ maxLen) (W : World) (hat : SsAt W q l) : Calls Tryz.prog 148 #[.slice q l.length c, .func (.func 149) #[] #[]] W fun e w' => IxP l W e w' := by
  obtain ⟨N, hN⟩ : ∃ N, W.heap.size = N := ⟨_, rfl⟩
  obtain ⟨ln, hln⟩ : ∃ ln, l.length = ln := ⟨_, rfl⟩
  have HIn : Hid (∀ i, i < ln → ∃ (b off : Nat) (s : Sv) (qd : Option Addr) (cd : Nat) (qg : Option Addr) (cg : Nat), q = some ⟨b, off, none⟩ ∧ Hid (l[i]? = some s) ∧ Hid (∀ wr, Below N W wr → (seLoad (.pointer (some ⟨b, off + i * 6, none⟩))).run Tryz.prog wr = .ok (.agg #[.string s.nm, .int .i64 s.ty, .int .i64 s.cl, .int .i64 s.tl, .slice qd s.ds.length cd, .slice qg s.sg.length cg]) wr)) := fun i hi => by
    obtain ⟨b, off, qd, cd, qg, cg, e, h1⟩ := hat.load i (by omega)
    exact ⟨b, off, l[i], qd, cd, qg, cg, e, List.getElem?_eq_getElem (by omega), fun wr hb => h1 wr (by rw [hN]; exact hb)⟩
  have HP : Hid (∀ (s : Sv) qd cd qg cg w, Calls Tryz.prog 149 #[.agg #[.string s.nm, .int .i64 s.ty, .int .i64 s.cl, .int .i64 s.tl, .slice qd s.ds.length cd, .slice qg s.sg.length cg]] w fun e w' => e = .returned (.bool (decide (s.ty = 6))) ∧ Below w.heap.size w w') := fun s qd cd qg cg w => isSoa_in s qd cd qg cg w
  have HYes : Hid (∀ (i : Nat) (s : Sv) w', l[i]? = some s → s.ty = 6 → (∀ s ∈ l.take i, ¬ s.ty = 6) → Below N W w' → IxP l W (.returned (.int .i64 (i : Int))) w') := fun i s w' hs h6 h0 hb => by
    obtain ⟨hi, rfl⟩ := List.getElem?_eq_some_iff.1 hs
    exact ⟨by rw [hN]; exact hb, .inr ⟨i, hi, find_at hi h0 h6, rfl⟩⟩
  have HNo : Hid (∀ w', (∀ s ∈ l.take ln, ¬ s.ty = 6) → Below N W w' → IxP l W (.returned (.int .i64 (-1))) w') := fun w' h0 hb => by
    rw [List.take_of_length_le (by omega)] at h0
    exact ⟨by rw [hN]; exact hb, .inl ⟨List.find?_eq_none.2 (fun s hs => by simpa using h0 s hs), rfl⟩⟩
  have HSt : Hid (∀ (i : Nat) s, l[i]? = some s → ¬ s.ty = 6 → (∀ s ∈ l.take i, ¬ s.ty = 6) → ∀ s ∈ l.take (i + 1), ¬ s.ty = 6) := fun i s hs h6 h0 x hx => by
    obtain ⟨hi, rfl⟩ := List.getElem?_eq_some_iff.1 hs
    rw [List.take_succ_eq_append_getElem hi] at hx
    rcases List.mem_append.1 hx with hx | hx
    · exact h0 x hx
    · obtain rfl := List.mem_singleton.1 hx
      exact h6
  have H0 : Hid (Below N W W ∧ N ≤ W.heap.size ∧ W.heap.size = N) := ⟨Below.refl _ _, by omega, hN⟩
  have hlc : ln ≤ c ∧ c ≤ 9223372036854775807 := by rw [← hln]; unfold maxLen at hc; omega
  rw [hln]
  clear hat hc hln hN
  go_enter Tryz.func148, Tryz.ntmps148
  go_wp2_with fail
  go_loopw [8] (fun iv wr => ∃ (i : Nat) (wq : World), wq = wr ∧ i ≤ ln ∧ iv = .int .i64 (i : Int) ∧ Hid (Below N W wq ∧ ∀ s ∈ l.take i, ¬ s.ty = 6)) (fun iv _ => ln - (intOf iv).toNat)
  case atStart => exact ⟨0, _, rfl, Nat.zero_le _, rfl, H0.out.1, fun s hs => (by rw [List.take_zero] at hs; cases hs)⟩
  case round =>
    obtain ⟨i, wq, rfl, hi, rfl, HI⟩ := hrel
    by_cases hlt : i < ln
    · have hlz : (i : Int) < (ln : Int) := by omega
      have hlz0 : (0 : Int) ≤ (i : Int) := by omega
      have wi : IntKind.i64.wrap ((i : Int) + 1) = ((i + 1 : Nat) : Int) := by rw [IntKind.wrap_i64]; omega
      obtain ⟨b, off, s, qd, cd, qg, cg, rfl, hs, hld⟩ := HIn.out i hlt
      have hl0 := hld.out _ HI.out.1
      clear hld
      go_wp2_with fail
      refine (HP.out s qd cd qg cg _).mono ?_
      rintro e w1 ⟨rfl, hb1⟩
      have HB1 : Hid (Below N W w1) := HI.out.1.trans (hb1.mono (by have := HI.out.1.size; have := H0.out.2.1; omega))
      clear hb1 hl0
      by_cases h6 : s.ty = 6
      · rw [decide_eq_true h6]
        have HF := Hid.mk (HYes.out i s w1 hs.out h6 HI.out.2 HB1.out)
        go_wp2
        go_ret
        exact HF.out
      · rw [decide_eq_false h6]
        have HF := Hid.mk (HSt.out i s hs.out h6 HI.out.2)
        go_wp2
        go_roundw
        case rel => exact ⟨i + 1, _, rfl, by omega, by first | rfl | go_num, HB1.out, HF.out⟩
        case measure => simp [intOf]; omega
    · have hlz : ¬ (i : Int) < (ln : Int) := by omega
      obtain rfl : i = ln := by omega
      have HF := Hid.mk (HNo.out wq HI.out.2 HI.out.1)
      go_wp2
      go_ret
      exact HF.out
end
end Go.Proofs.YtikjepodmdaknaaGreatDoor.Mc
/- Layer 17: how long that there is nothing is known. -/
namespace Go.Proofs.YtikjepodmdaknaaGreatDoor.Mc
open Go.RowKit
open Go.Proofs.YtikjepodmdaknaaGreatDoor.Rc (pt nilP Ky blk_lt cell_same seLoad loadAt_se load_all FrC cellB SvI)
theorem denB_cons (l : List Sv) (s : Sv) (h : l.getLast? = some s) (kind : Int) : denB l kind = (!decide (kind = 255) && !decide (s.ty = kind)) := by
  unfold denB
  rw [h]
set_option maxRecDepth 100000 in
theorem denies_in (x : An) (q1 : Option Addr) (c1 : Nat) (q2 : Option Addr) (c2 : Nat) (hc : x.a.length ≤ c1 ∧ c1 ≤ maxLen) (hl : x.a.length ≤ 1000) (W : World) (hat : SsAt W q1 x.a) (kind : Int) : Calls Tryz.prog 107 #[.agg (aC x q1 c1 q2 c2).toArray, .int .i64 kind] W fun e w' => e = .returned (.bool (denB x.a kind)) ∧ Below W.heap.size W w' := by
  obtain ⟨rc, se, la, lb, un⟩ := x
  simp only [aC] at hc hat hl ⊢
  have X0 := Go.Proofs.YtikjepodmdaknaaGreatDoor.Bx.new W [.int .i64 rc, .int .i64 se, .slice q1 la.length c1, .slice q2 lb.length c2, .int .i64 un] 71
  have x2 := X0.cell 2 _ rfl
  have HB := Hid.mk X0.bel
  have hbb := X0.bel
  clear X0
  have hc9 : c1 ≤ 9223372036854775807 := by unfold maxLen at hc; omega
  by_cases hla : la.length = 0
  · have hd : denB la kind = true := by
      rw [List.eq_nil_of_length_eq_zero hla]
      rfl
    rw [hd]
    rw [hla] at x2 HB ⊢
    clear hat hbb hd hc
    go_enter Tryz.func107, Tryz.ntmps107
    go_wp2
    go_ret
    exact ⟨rfl, HB.out⟩
  · obtain ⟨j, hj⟩ : ∃ j, la.length = j + 1 := ⟨la.length - 1, by omega⟩
    obtain ⟨b, off, qd, cd, qg, cg, rfl, hb, hcs, hsv⟩ := (SsAt.blk hat hbb) j (by omega)
    have hd := denB_cons la la[j] (by rw [List.getLast?_eq_getElem?, show la.length - 1 = j by omega]; exact List.getElem?_eq_getElem (by omega)) kind
    have hty := hcs 1 (by omega)
    rw [show (svC la[j] qd cd qg cg)[1]? = some (.int .i64 la[j].ty) from rfl] at hty
    rw [hd]
    generalize la[j].ty = ty at hty ⊢
    have w1 : IntKind.i64.wrap ((la.length : Int) - 1) = (j : Int) := by rw [IntKind.wrap_i64]; omega
    have h0 : ¬ (la.length : Int) = 0 := by omega
    have h1 : ((la.length : Int) == 0) = false := by simpa using h0
    have hj0 : (0 : Int) ≤ (j : Int) := by omega
    have hj1 : (j : Int) < (la.length : Int) := by omega
    clear hat hbb hd hb hcs hsv hla hj
    generalize la.length = L at *
    by_cases hk : kind = 255
    · subst hk
      go_enter Tryz.func107, Tryz.ntmps107
      go_wp2
      go_ret
      exact ⟨by simp, HB.out⟩
    · have hk2 : (kind != 255) = true := by simpa using hk
      rw [decide_eq_false hk]
      go_enter Tryz.func107, Tryz.ntmps107
      go_wp2
      go_ret
      exact ⟨by (cases hq : decide (ty = kind) <;> simp_all), HB.out⟩
set_option maxRecDepth 100000 in
set_option maxHeartbeats 4000000 in
theorem minimum_in (l : List Sv) (q : Option Addr) (c : Nat) (hc : l.length ≤ c ∧ c ≤ maxLen) (hl : l.length ≤ 1000) (hin : ∀ s ∈ l, SvI s) (W : World) (hat : SsAt W q l) : Calls Tryz.prog 108 #[.slice q l.length c] W fun e w' => e = .returned (.int .i64 (minM l)) ∧ Below W.heap.size W w' := by
  have HI := Hid.mk (index_in l q c hc W hat)
  have hc9 : c ≤ 9223372036854775807 := by unfold maxLen at hc; omega
  cases hf : l.find? (fun s => decide (s.ty = 6)) with
  | none =>
    have hm : minM l = 5 := by unfold minM; rw [hf]
    have HI2 : Hid (Calls Tryz.prog 148 #[.slice q l.length c, .func (.func 149) #[] #[]] W fun e w' => e = .returned (.int .i64 (-1)) ∧ Below W.heap.size W w') := by
      refine HI.out.mono ?_
      rintro e w' ⟨hb, ⟨_, he⟩ | ⟨j, hj, h1, _⟩⟩
      · exact ⟨he, hb⟩
      · rw [hf] at h1; cases h1
    rw [hm]
    clear HI hat hin hf hm
    go_enter Tryz.func108, Tryz.ntmps108
    go_wp2_with fail
    refine HI2.out.mono ?_
    rintro e w1 ⟨rfl, hb1⟩
    go_wp2
    go_ret
    exact ⟨rfl, hb1⟩
  | some s =>
    have HI2 : Hid (Calls Tryz.prog 148 #[.slice q l.length c, .func (.func 149) #[] #[]] W fun e w' => ∃ j : Nat, l[j]? = some s ∧ e = .returned (.int .i64 (j : Int)) ∧ Below W.heap.size W w') := by
      refine HI.out.mono ?_
      rintro e w' ⟨hb, ⟨h1, _⟩ | ⟨j, hj, h1, he⟩⟩
      · rw [hf] at h1; cases h1
      · rw [hf] at h1
        cases h1
        exact ⟨j, List.getElem?_eq_getElem hj, he, hb⟩
    have HS : Hid (∀ (j : Nat) w', l[j]? = some s → Below W.heap.size W w' → j < l.length ∧ ∃ b off qd cd qg cg, q = some ⟨b, off, none⟩ ∧ w'.cell? ⟨b, off + j * 6 + 4, none⟩ = some (.slice qd s.ds.length cd) ∧ (s.ds.length ≤ cd ∧ cd ≤ 9223372036854775807) ∧ TxAt w' qd s.ds) := fun j w' hj hb => by
      obtain ⟨hjl, rfl⟩ := List.getElem?_eq_some_iff.1 hj
      obtain ⟨b, off, qd, cd, qg, cg, e, h0, h1, h2⟩ := (hat.blk hb) j hjl
      have := h2.cd
      unfold maxLen at this
      exact ⟨hjl, b, off, qd, cd, qg, cg, e, h1 4 (by omega), by omega, h2.ds⟩
    have hsI := hin s (List.mem_of_find?_eq_some hf)
    cases hd : s.ds with
    | nil =>
      have hm : minM l = 5 := by unfold minM; rw [hf]; simp only [hd]
      rw [hd] at HS
      rw [hm]
      clear HI hat hin hf hm hd
      go_enter Tryz.func108, Tryz.ntmps108
      go_wp2_with fail
      refine HI2.out.mono ?_
      rintro e w1 ⟨j, hj, rfl, hb1⟩
      obtain ⟨hjl, b, off, qd, cd, qg, cg, rfl, h4, h5, _⟩ := HS.out j w1 hj hb1
      have hj0 : (0 : Int) ≤ (j : Int) := by omega
      have hj2 : ¬ (j : Int) < 0 := by omega
      have hj1 : (j : Int) < (l.length : Int) := by omega
      clear hj
      go_wp2
      go_ret
      exact ⟨rfl, hb1⟩
    | cons d ds =>
      have hm : minM l = (minD d).getD 5 := by unfold minM; rw [hf]; simp only [hd]
      have hdz : d.size ≤ maxLen := hsI.sv.ds d (by rw [hd]; simp)
      have HTk : Hid (∀ w, Calls Tryz.prog 150 #[.string d] w fun e w' => (∃ (s0 s1 : ByteArray) (n2 n3 n4 n5 n6 er : Int), e = .returned (.tuple #[.agg #[.string s0, .string s1, .int .i64 n2, .int .i64 n3, .int .i64 n4, .int .i64 n5, .int .i64 n6], .int .i64 er]) ∧ ((er = 0 ∧ (minD d).getD 5 = n6) ∨ (er = 6 ∧ (minD d).getD 5 = 5))) ∧ Below w.heap.size w w') := fun w => by
        refine (takeSoa_in d hdz w).mono ?_
        rintro e w' ⟨⟨v, er, rfl, ht⟩, hb⟩
        obtain ⟨s0, s1, n2, n3, n4, n5, n6, rfl, _, h⟩ := take_min ht
        refine ⟨⟨s0, s1, n2, n3, n4, n5, n6, er, rfl, ?_⟩, hb⟩
        rcases h with ⟨rfl, h⟩ | ⟨rfl, h⟩
        · exact .inl ⟨rfl, by rw [h]; rfl⟩
        · exact .inr ⟨rfl, by rw [h]; rfl⟩
      have HS2 : Hid (∀ (j : Nat) w', l[j]? = some s → Below W.heap.size W w' → j < l.length ∧ ∃ b off b2 off2 n2 cd, q = some ⟨b, off, none⟩ ∧ w'.cell? ⟨b, off + j * 6 + 4, none⟩ = some (.slice (some ⟨b2, off2, none⟩) n2 cd) ∧ (n2 ≤ cd ∧ cd ≤ 9223372036854775807 ∧ 1 ≤ n2) ∧ w'.cell? ⟨b2, off2, none⟩ = some (.string d)) := fun j w' hj hb => by
        obtain ⟨hjl, b, off, qd, cd, qg, cg, e, h4, h5, h6⟩ := HS.out j w' hj hb
        obtain ⟨b2, off2, e2, _, h7⟩ := h6 0 (by rw [hd]; simp)
        subst e2
        refine ⟨hjl, b, off, b2, off2, s.ds.length, cd, e, h4, ⟨h5.1, h5.2, by rw [hd]; simp⟩, ?_⟩
        rw [Nat.add_zero] at h7
        rw [h7]
        simp only [hd, List.getElem_cons_zero]
      rw [hm]
      generalize (minD d).getD 5 = mm at HTk ⊢
      clear HI hat hin hf hm hd HS hsI hdz
      go_enter Tryz.func108, Tryz.ntmps108
      go_wp2_with fail
      refine HI2.out.mono ?_
      rintro e w1 ⟨j, hj, rfl, hb1⟩
      obtain ⟨hjl, b, off, b2, off2, n2, cd, rfl, h4, ⟨h5, h6, h7⟩, h8⟩ := HS2.out j w1 hj hb1
      have hj0 : (0 : Int) ≤ (j : Int) := by omega
      have hj2 : ¬ (j : Int) < 0 := by omega
      have hj1 : (j : Int) < (l.length : Int) := by omega
      have hn1 : ¬ (n2 : Int) = 0 := by omega
      have hn2 : ((n2 : Int) == 0) = false := by simpa using hn1
      have hn3 : (0 : Int) < (n2 : Int) := by omega
      clear hj
      go_wp2_with fail
      refine (HTk.out _).mono ?_
      rintro e w2 ⟨⟨s0, s1, m2, m3, m4, m5, m6, er, rfl, hor⟩, hb2⟩
      have hbw := hb1.trans (hb2.mono hb1.size)
      have HF : Hid (Below W.heap.size W (w2.alloc (.cells #[.string s0, .string s1, .int .i64 m2, .int .i64 m3, .int .i64 m4, .int .i64 m5, .int .i64 m6] 86))) := hbw.alloc hbw.size _
      clear h4 h8 hb1 hb2 hbw
      rcases hor with ⟨rfl, rfl⟩ | ⟨rfl, rfl⟩
      · go_wp2
        go_ret
        exact ⟨rfl, HF.out⟩
      · go_wp2
        go_ret
        exact ⟨rfl, HF.out⟩
end Go.Proofs.YtikjepodmdaknaaGreatDoor.Mc
