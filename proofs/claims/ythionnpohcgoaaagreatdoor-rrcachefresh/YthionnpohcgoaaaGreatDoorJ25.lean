/- Texts of this proof, joined: RcVt, RcFs. -/
import Derived.Test.YthionnpohcgoaaaGreatDoorJ24
set_option linter.unusedVariables false
set_option linter.unusedSimpArgs false
/- Layer 16: the state of RrcacheVersions' rounds. -/
namespace Go.Proofs.YthionnpohcgoaaaGreatDoor.Rc
open Go.RowKit
def deLoad (a : Value) : Sem Value := Instr.loadAt 36 a
theorem loadAt_de (a : Value) : Instr.loadAt 36 a = deLoad a := rfl
theorem dd_at {W : World} {q : Option Addr} {l : List Dd} (h : DdsAt W q l) (i : Nat) (hi : i < l.length) : ∃ (b off : Nat) (d : Dd) (qd : Option Addr) (cd : Nat) (qg : Option Addr) (cg : Nat), q = some ⟨b, off, none⟩ ∧ l[i]? = some d ∧ d ∈ l ∧ (∀ w, Below W.heap.size W w → (deLoad (.pointer (some ⟨b, off + i * 11, none⟩))).run Tryz.prog w = .ok (.agg (ddC d qd cd qg cg).toArray) w ∧ SvAt w d.s qd cd qg cg) := by
 obtain ⟨b, off, qd, cd, qg, cg, e, hlt, hc, hat⟩ := h i hi
 refine ⟨b, off, l[i], qd, cd, qg, cg, e, List.getElem?_eq_getElem hi, List.getElem_mem hi, fun w hb => ⟨?_, hat.blk hb⟩⟩
 refine load_all (n := 11) w b (off + i * 11) (ddC l[i] qd cd qg cg) rfl (by kernel_rfl) (by kernel_rfl) fun j v hv => ?_
 have hj : j < 11 := (List.getElem?_eq_some_iff.1 hv).1
 exact (hb.cell (p := ⟨b, off + i * 11 + j, none⟩) hlt).trans ((hc j hj).trans hv)
end Go.Proofs.YthionnpohcgoaaaGreatDoor.Rc
/- Layer 16: the state of RrcacheFresh's rounds. -/
namespace Go.Proofs.YthionnpohcgoaaaGreatDoor.Rc
open Go.RowKit
theorem infoDe : (Tryz.prog.info? 36).map (fun i => (i.zero, i.size, i.bytes)) = some (some (.agg #[.int .i64 0, .string ⟨#[]⟩, .int .i64 0, .int .i64 0, .int .i64 0, .slice none 0 0, .slice none 0 0, .int .i64 0, .int .i64 0, .int .i64 0, .int .i64 0]), 11, 128) := by kernel_rfl
def aDe (a : Array Value) : Sem Value := Builtin.append_ #[22, 22] 22 a
theorem app_de (a : Array Value) : Builtin.append_ #[22, 22] 22 a = aDe a := rfl
theorem dd_ones (d : Dd) (qd : Option Addr) (cd : Nat) (qg : Option Addr) (cg : Nat) : ∀ v ∈ ddC d qd cd qg cg, v.oneCell' = true := by
 intro v hv
 simp only [ddC, svC, List.cons_append, List.nil_append, List.mem_cons, List.not_mem_nil, or_false] at hv
 rcases hv with rfl | rfl | rfl | rfl | rfl | rfl | rfl | rfl | rfl | rfl | rfl <;> rfl
theorem step_mng {w : World} {ops : Array Oper} {o : Oper} {a : Act} {K : Act → World → Prop} {Q : Exit → Act → World → Prop} {E : Prop} (x y : Operand)
  (ho : o.op = .call { callee := .builtin .min, args := #[x, y], argTypes := #[3, 3] }) (m n c : Int) (hx : a.eval x = .int .i64 m) (hy : a.eval y = .int .i64 n) (hc : (if n < m then n else m) = c) (hw : Region.wanted o (yielded ops a.tmps) = true)
  (h : K (a.put o.dst (.int .i64 c)) w) :
  if Region.wanted o (yielded ops a.tmps) = true then Oper.wp Tryz.prog o a w K Q else E := by
 rw [if_pos hw]
 subst hc
 unfold Oper.wp
 simp [execOp, ho, resolve, invoke, builtin, hx, hy, Builtin.min_, Builtin.min2]
 exact h
theorem min_f (m n : Int) : (if n < m then n else m) = min m n := by
 split <;> omega
theorem RC.rowT {W u u' : World} {C T m n : Nat} {ver : Int} {l : ML} {Q : Nat → Prop} {g : Nat} {c : Array Value} {t : TypeId} (h : RC W u C T m n ver l Q) (hg : u.heap[g]? = some (.cells c t (0, 0))) (h1 : t ≠ 95) (h2 : t ≠ 100) (h3 : t ≠ 67) (h4 : t ≠ 44) (h5 : t ≠ 9) (hs : ∀ b, b < u.heap.size → b ≠ g → u'.heap[b]? = u.heap[b]?) (hb : Below W.heap.size W u') : RC W u' C T m n ver l Q := by
 have ht : ∀ (b : Nat) (c : Array Value) (t' : TypeId) (f : Nat × Nat), u.heap[b]? = some (.cells c t' f) → t' ≠ t → u'.heap[b]? = some (.cells c t' f) := fun b c t' f hb ht => by
  rw [hs b (blk_lt hb) (fun e => by subst e; rw [hg] at hb; cases hb; exact ht rfl)]
  exact hb
 refine ⟨ht _ _ _ _ h.bx h3.symm, h.own, ?_, fun p hp => ⟨?_, (h.ev p hp).2⟩, h.ok, h.len, h.nd, h.vb, h.mb⟩
 ·obtain ⟨E, M, L, ho, e⟩ := h.tab
  refine ⟨E, M, L, ⟨ho.tab.same fun b hb => hs b (ho.tab.lt hb) (fun e => ?_), ho.own, hb⟩, e⟩
  subst e
  rcases hb with x | x | x | x
  ·have := ho.tab.tb; rw [← x, hg] at this; cases this; exact h1 rfl
  ·obtain ⟨es, cl, hm⟩ := ho.tab.mp.isMap; rw [← x, hg] at hm; cases hm
  ·obtain ⟨c', hc, _⟩ := ho.tab.row.plc E (by simp); rw [← x, hg] at hc; cases hc; exact h2 rfl
  ·obtain ⟨c', hc, _⟩ := ho.tab.row.plc b (List.mem_cons_of_mem _ x); rw [hg] at hc; cases hc; exact h2 rfl
 ·obtain ⟨qd, cd, qg, cg, h0, h1', h2', r⟩ := (h.ev p hp).1
  exact ⟨qd, cd, qg, cg, ht _ _ _ _ h0 h4.symm, h1'.same (fun b cur _ hb => (ht b _ _ _ hb h5.symm).trans hb.symm), h2'.same (fun b cur _ hb => (ht b _ _ _ hb h5.symm).trans hb.symm), r⟩
structure DRow (W w : World) (v : Value) (L : List Dd) : Prop where
 ex : ∃ rows : List (List Value), rows.length = L.length ∧ (∀ r ∈ rows, r.length = 11) ∧ (∀ (j : Nat) d, L[j]? = some d → ∃ qd cd qg cg, rows[j]? = some (ddC d qd cd qg cg) ∧ SvAt W d.s qd cd qg cg) ∧ w.ownsRow W.heap.size 36 11 v L.length rows.flatten
theorem DRow.nil (W w : World) : DRow W w (.slice none 0 0) [] := ⟨[], rfl, fun _ h => (by cases h), fun j x h => (by simp at h), World.ownsRow_nil ..⟩
theorem DRow.frc {W w w' : World} {v : Value} {L : List Dd} (h : DRow W w v L) (hf : FrC w w') : DRow W w' v L := by
 obtain ⟨rows, h1, h2, h3, h4⟩ := h.ex
 exact ⟨rows, h1, h2, h3, hf.row h4 (by decide) (by decide) (by decide)⟩
theorem DRow.form {W w : World} {v : Value} {L : List Dd} (h : DRow W w v L) : ∃ q cap, v = .slice q L.length cap ∧ L.length ≤ cap ∧ cap ≤ 9223372036854775807 := by
 obtain ⟨rows, h1, h2, h3, h4⟩ := h.ex
 obtain ⟨q, cap, e⟩ := srow_any h4
 rw [e] at h4
 have := own_cap h4
 unfold maxLen at this
 exact ⟨q, cap, e, this.1, by omega⟩
theorem DRow.at {W w : World} {q : Option Addr} {cap : Nat} {L : List Dd} (h : DRow W w (.slice q L.length cap) L) (j : Nat) (d : Dd) (hx : L[j]? = some d) : ∃ g qd cd qg cg, q = some ⟨g, 0, none⟩ ∧ SvAt W d.s qd cd qg cg ∧ (∀ i, i < 11 → w.cell? ⟨g, j * 11 + i, none⟩ = (ddC d qd cd qg cg)[i]?) := by
 obtain ⟨rows, h1, h2, h3, h4⟩ := h.ex
 obtain ⟨qd, cd, qg, cg, h5, h6⟩ := h3 j d hx
 have hj : j < L.length := (List.getElem?_eq_some_iff.1 hx).1
 obtain ⟨hl, ⟨_, h0⟩ | ⟨g, cap', cur, hv, hg0, hg, hn, hm, hs, ht⟩⟩ := h4
 ·omega
 ·simp only [Value.slice.injEq] at hv
  obtain ⟨rfl, _, _⟩ := hv
  refine ⟨g, qd, cd, qg, cg, rfl, h6, fun i hi => ?_⟩
  have hj' : j < rows.length := by omega
  have e1 : rows[j] = ddC d qd cd qg cg := by
   rw [List.getElem?_eq_getElem hj'] at h5
   exact Option.some.inj h5
  rw [← e1, ← flat_at h2 j hj' i hi, ← ht, List.getElem?_take, if_pos (by
   have : (j + 1) * 11 ≤ L.length * 11 := Nat.mul_le_mul_right _ (by omega)
   omega), So.cell_blk hg, Array.getElem?_toList]
theorem drow_app {W w : World} {C T m n : Nat} {ver : Int} {A : AL} {v : Value} {L : List Dd} (h : RCA W w C T m n ver A) (hs : DRow W w v L) (hl : L.length ≤ 1000) (d : Dd) {qd : Option Addr} {cd : Nat} {qg : Option Addr} {cg : Nat} (hat : SvAt W d.s qd cd qg cg) :
  ∃ v' w', (aDe #[v, .slice (some ⟨w.heap.size, 0, none⟩) 1 1]).run Tryz.prog (w.alloc (.cells (ddC d qd cd qg cg).toArray 36)) = .ok v' w' ∧ DRow W w' v' (L ++ [d]) ∧ RCA W w' C T m n ver A := by
 obtain ⟨U, hU⟩ : ∃ U, w.alloc (.cells (ddC d qd cd qg cg).toArray 36) = U := ⟨_, rfl⟩
 have hW := h.bel.size
 have bU : Below w.heap.size w U := by rw [← hU]; exact (Below.refl _ _).alloc (Nat.le_refl _) _
 have sU : U.heap.size = w.heap.size + 1 := by rw [← hU]; simp
 have gU : U.heap[w.heap.size]? = some (.cells (ddC d qd cd qg cg).toArray 36 (0, 0)) := by rw [← hU]; exact heap_alloc_new w _
 obtain ⟨rows, h1, h2, h3, h4⟩ := (hs.frc (FrC.below bU)).ex
 obtain ⟨i0, hi0, hz0, hz1, hz2⟩ := info_p infoDe
 obtain ⟨v', w', hrun, hown, hgr, _, _⟩ := run_append_own_at (P := Tryz.prog) U W.heap.size 22 22 36 i0 _ 11 128 Tryz.underlying22 hi0 hz0 hz1 hz2 rfl (by decide) v L.length rows.flatten h4 ⟨w.heap.size, 0, none⟩ 1 1 (ddC d qd cd qg cg) rfl (fun j u hu => by
  rw [So.add_of, Nat.zero_add, So.cell_blk gU, List.getElem?_toArray]
  exact hu) (dd_ones d qd cd qg cg) (by unfold maxLen; omega) (by omega) (by omega)
 have bN : Below W.heap.size w w' := (bU.mono hW).trans ((Below.refl _ _).grown hgr (by omega) (fun b hb => (own_lt h4 hb).2.1))
 refine ⟨v', w', by rw [hU]; exact hrun, ⟨rows ++ [ddC d qd cd qg cg], by simp [h1], fun r hr => ?_, fun j y hy => ?_, ?_⟩, ?_⟩
 ·rcases List.mem_append.1 hr with hr | hr
  ·exact h2 r hr
  ·obtain rfl := List.mem_singleton.1 hr
   rfl
 ·rcases snoc_at hy with ⟨hy, hj⟩ | ⟨rfl, rfl⟩
  ·obtain ⟨a1, a2, a3, a4, a5, a6⟩ := h3 j y hy
   exact ⟨a1, a2, a3, a4, by rw [List.getElem?_append_left (by omega)]; exact a5, a6⟩
  ·exact ⟨qd, cd, qg, cg, by rw [← h1]; simp, hat⟩
 ·rw [List.length_append, List.flatten_append]
  simpa using hown
 ·obtain ⟨l, Q, hr, he⟩ := (h.blk bU).ex
  have hbW : Below W.heap.size W w' := h.bel.trans bN
  refine ⟨l, Q, ?_, he⟩
  cases hv : v.ownBlock with
  | none =>
   rw [hv] at hgr
   exact hr.blk ⟨hgr.os, hgr.tape, hgr.output, hgr.size, fun b hb => hgr.block b hb (fun e => by cases e)⟩
  | some g =>
   rw [hv] at hgr
   obtain ⟨_, _, c, hc⟩ := own_lt h4 hv
   exact hr.rowT hc (by decide) (by decide) (by decide) (by decide) (by decide) (fun b hb hn => hgr.block b hb (fun e => hn (Option.some.inj e))) hbW
def FS (W w : World) (C T k i : Nat) (now : Int) (v : Value) (ln : Nat) : Prop := ∃ n ver A L, RCA W w C T 1000 n ver A ∧ DRow W w v L ∧ FI A L now ∧ n ≤ k ∧ L.length = ln ∧ ln ≤ i ∧ (0 ≤ now ∧ now ≤ 4294967295)
def FP (W w : World) (C T k i : Nat) (d : Dd) (v : Value) (ln : Nat) : Prop := ∃ n ver A L, RCA W w C T 1000 n ver A ∧ DRow W w v L ∧ FI A (L ++ [d]) d.nw ∧ n ≤ k ∧ L.length = ln ∧ ln ≤ i ∧ (0 ≤ d.nw ∧ d.nw ≤ 4294967295)
section
variable {W w w' : World} {C T k i ln : Nat} {now : Int} {v : Value} {d : Dd}
theorem FS.bel (h : FS W w C T k i now v ln) : Below W.heap.size W w := by
 obtain ⟨n, ver, A, L, h1, _⟩ := h
 exact h1.bel
theorem FS.blk (h : FS W w C T k i now v ln) (hb : Below w.heap.size w w') : FS W w' C T k i now v ln := by
 obtain ⟨n, ver, A, L, h1, h2, h3⟩ := h
 exact ⟨n, ver, A, L, h1.blk hb, h2.frc (FrC.below hb), h3⟩
theorem FS.more (h : FS W w C T k i now v ln) : FS W w C T k (i + 1) now v ln := by
 obtain ⟨n, ver, A, L, h1, h2, h3, h5, h6, h7, h8⟩ := h
 exact ⟨n, ver, A, L, h1, h2, h3, h5, h6, by omega, h8⟩
theorem FS.later (h : FS W w C T k i now v ln) {now' : Int} (hn : now ≤ now') (h2 : now' ≤ 4294967295) : FS W w C T k i now' v ln := by
 obtain ⟨n, ver, A, L, h1, h3, h4, h5, h6, h7, h8⟩ := h
 exact ⟨n, ver, A, L, h1, h3, h4.later hn, h5, h6, h7, by omega, h2⟩
theorem fs_put (h : FS W w C T k i d.nw v ln) (hk : k ≤ 1000) (hd : SvI d.s) (qd : Option Addr) (cd : Nat) (qg : Option Addr) (cg : Nat) (hat : SvAt w d.s qd cd qg cg) :
  Calls Tryz.prog 11 #[pt C, .agg (svC d.s qd cd qg cg).toArray, .int .i64 d.rk, .int .i64 d.se, .int .i64 d.nw] w fun e w' => FrC w w' ∧ ((e = .returned (.tuple #[.bool false, .int .i64 1]) ∧ FS W w' C T (k + 1) i d.nw v ln) ∨ (e = .returned (.tuple #[.bool true, .int .i64 0]) ∧ FP W w' C T (k + 1) i d v ln) ∨ (e = .returned (.tuple #[.bool false, .int .i64 0]) ∧ (0 < d.s.tl → d.rk ≠ 4) ∧ FP W w' C T (k + 1) i d v ln)) := by
 obtain ⟨n, ver, A, L, h1, h2, h3, h4, h5, h6, h7⟩ := h
 have hkn := h1.keys
 have hok := h1.ok
 refine (aput_in h1 (by omega) d.s hd qd cd qg cg hat d.rk d.se d.nw).mono ?_
 rintro e w' ⟨hc, hf⟩
 refine ⟨hf, ?_⟩
 rcases hc with ⟨_, he, hr⟩ | ⟨h0, hr0, he, hr⟩ | ⟨h0, hr0, he, hr⟩
 ·exact .inl ⟨he, n, ver, A, L, hr, h2.frc hf, h3, by omega, h5, h6, h7⟩
 ·have := (h3.put (m := 1000) (ver := ver) hkn (fun p hp => (hok p hp).2) h0 hd).1 hr0
  exact .inr (.inr ⟨he, this.2, n, ver, A, L, hr, h2.frc hf, this.1, by omega, h5, h6, h7⟩)
 ·have := (h3.put (m := 1000) (ver := ver) hkn (fun p hp => (hok p hp).2) h0 hd).2 hr0
  exact .inr (.inl ⟨he, n + 1, _, _, L, hr, h2.frc hf, this, by omega, h5, h6, h7⟩)
theorem fp_app (h : FP W w C T k i d v ln) (hi : i ≤ 500) {qd : Option Addr} {cd : Nat} {qg : Option Addr} {cg : Nat} (hat : SvAt W d.s qd cd qg cg) :
  ∃ q cap w', (aDe #[v, .slice (some ⟨w.heap.size, 0, none⟩) 1 1]).run Tryz.prog (w.alloc (.cells (ddC d qd cd qg cg).toArray 36)) = .ok (.slice q (ln + 1) cap) w' ∧ FS W w' C T k (i + 1) d.nw (.slice q (ln + 1) cap) (ln + 1) ∧ ln + 1 ≤ cap ∧ cap ≤ 9223372036854775807 := by
 obtain ⟨n, ver, A, L, h1, h2, h3, h4, rfl, h6, h7⟩ := h
 obtain ⟨v', w', hrun, hs, hr⟩ := drow_app h1 h2 (by omega) d hat
 obtain ⟨q, cap, e, hc⟩ := hs.form
 rw [List.length_append] at e hc
 subst e
 exact ⟨q, cap, w', hrun, ⟨n, ver, A, L ++ [d], hr, hs, h3, h4, by simp, by omega, h7⟩, hc⟩
def FT (W w : World) (C T k i : Nat) (now : Int) (v : Value) (ln : Nat) (q x : Sv) (rk : Int) (jj : Nat) : Prop := ∃ n ver A L, RCA W w C T 1000 n ver A ∧ DRow W w v L ∧ FI A L now ∧ n ≤ k ∧ L.length = ln ∧ ln ≤ i ∧ (0 ≤ now ∧ now ≤ 4294967295) ∧ jj < ln ∧ (∃ d, L[jj]? = some d ∧ (d.s.ty = q.ty ∧ eqF d.s.nm q.nm = true ∧ d.s.tl ≠ 0) ∧ sameS d.s x = true ∧ d.rk = rk ∧ x.tl = min d.s.tl 604800 - (now - d.nw)) ∧ (∀ (i : Nat) (c : Dd), jj < i → L[i]? = some c → c.s.ty = q.ty → eqF c.s.nm q.nm = true → c.s.tl ≠ 0 → c.rk < rk)
theorem FT.fs {q x : Sv} {rk : Int} {jj : Nat} (h : FT W w C T k i now v ln q x rk jj) : FS W w C T k i now v ln := by
 obtain ⟨n, ver, A, L, h1, h2, h3, h4, h5, h6, h7, _⟩ := h
 exact ⟨n, ver, A, L, h1, h2, h3, h4, h5, h6, h7⟩
theorem FT.blk {q x : Sv} {rk : Int} {jj : Nat} (h : FT W w C T k i now v ln q x rk jj) (hb : Below w.heap.size w w') : FT W w' C T k i now v ln q x rk jj := by
 obtain ⟨n, ver, A, L, h1, h2, h3⟩ := h
 exact ⟨n, ver, A, L, h1.blk hb, h2.frc (FrC.below hb), h3⟩
theorem fs_get {q0 : Option Addr} {cap : Nat} (h : FS W w C T k i now (.slice q0 ln cap) ln) (j : Nat) (hj : j < ln) : ∃ (g : Nat) (q : Dd) (qd : Option Addr) (cd : Nat) (qg : Option Addr) (cg : Nat), q0 = some ⟨g, 0, none⟩ ∧ SvI q.s ∧ (∀ i, i < 11 → w.cell? ⟨g, j * 11 + i, none⟩ = (ddC q qd cd qg cg)[i]?) ∧
  ∀ u, Below w.heap.size w u → Calls Tryz.prog 13 #[pt C, .string q.s.nm, .int .i64 q.s.ty, .int .i64 now] u fun e w' => FrC u w' ∧ ((e = .returned (.tuple #[.agg ze.toArray, .bool false]) ∧ FS W w' C T k i now (.slice q0 ln cap) ln) ∨ (∃ x q1 c1 q2 c2 jj, e = .returned (.tuple #[.agg (evC x q1 c1 q2 c2).toArray, .bool true]) ∧ Told w' W.heap.size x.s q1 c1 q2 c2 ∧ SvI x.s ∧ FT W w' C T k i now (.slice q0 ln cap) ln q.s x.s x.rk jj)) := by
 obtain ⟨n, ver, A, L, h1, h2, h3, h4, rfl, h6, h7⟩ := h
 obtain ⟨g, qd, cd, qg, cg, e, ha, hc⟩ := h2.at j L[j] (List.getElem?_eq_getElem hj)
 have hq := List.getElem_mem hj
 obtain ⟨_, o2, o3⟩ := h3.ok _ hq
 refine ⟨g, L[j], qd, cd, qg, cg, e, o2, hc, fun u hu => ?_⟩
 have h1u := h1.blk hu
 have h2u := h2.frc (FrC.below hu)
 have hok := h1u.ok
 have hW := h1u.bel.size
 refine (aget_in h1u L[j].s.nm o2.sv.nm L[j].s.ty now o2.ty).mono ?_
 rintro e w' ⟨hr, hf, hd⟩
 refine ⟨hf, ?_⟩
 rcases hd with ⟨_, he⟩ | ⟨x, q1, c1, q2, c2, hfd, he, ht⟩
 ·exact .inl ⟨he, n, ver, _, L, hr, h2u.frc hf, h3.sub getA_mem, h4, rfl, h6, h7⟩
 ·obtain ⟨t1, t2, jj, d, t3, t4, t5, t6, t7, t8⟩ := h3.found hok hq hfd
  exact .inr ⟨toldE x now, q1, c1, q2, c2, jj, he, ⟨own_lowS ht.d hW, own_lowS ht.g hW⟩, t2, n, ver, _, L, hr, h2u.frc hf, h3.sub getA_mem, h4, rfl, h6, h7, (List.getElem?_eq_some_iff.1 t3).1, ⟨d, t3, t4, t5, t6, t7⟩, t8⟩
theorem FT.at {q x : Sv} {rk : Int} {jj : Nat} {q0 : Option Addr} {cap : Nat} (h : FT W w C T k i now (.slice q0 ln cap) ln q x rk jj) (j : Nat) (hj : j < ln) : ∃ (g : Nat) (c : Dd) (qd : Option Addr) (cd : Nat) (qg : Option Addr) (cg : Nat), q0 = some ⟨g, 0, none⟩ ∧ SvI c.s ∧ ((0 ≤ c.nw ∧ c.nw ≤ now) ∧ (0 ≤ c.s.tl ∧ c.s.tl < 2147483648)) ∧ SvAt W c.s qd cd qg cg ∧ (∀ i, i < 11 → w.cell? ⟨g, j * 11 + i, none⟩ = (ddC c qd cd qg cg)[i]?) ∧ (j = jj → (c.s.ty = q.ty ∧ eqF c.s.nm q.nm = true ∧ c.s.tl ≠ 0) ∧ sameS c.s x = true ∧ c.rk = rk ∧ x.tl = min c.s.tl 604800 - (now - c.nw)) ∧ (jj < j → c.s.ty = q.ty → eqF c.s.nm q.nm = true → c.s.tl ≠ 0 → c.rk < rk) := by
 obtain ⟨n, ver, A, L, h1, h2, h3, h4, rfl, h6, h7, h8, ⟨d, hd, hd1⟩, h9⟩ := h
 obtain ⟨g, qd, cd, qg, cg, e, ha, hc⟩ := h2.at j L[j] (List.getElem?_eq_getElem hj)
 obtain ⟨o1, o2, o3⟩ := h3.ok _ (List.getElem_mem hj)
 refine ⟨g, L[j], qd, cd, qg, cg, e, o2, ⟨o3, (setOk_head o1).1⟩, ha, hc, fun e => ?_, fun hlt => h9 j _ hlt (List.getElem?_eq_getElem hj)⟩
 subst e
 have : L[j] = d := by rw [List.getElem?_eq_getElem hj] at hd; exact Option.some.inj hd
 rw [this]
 exact hd1
theorem FT.jlt {q x : Sv} {rk : Int} {jj : Nat} (h : FT W w C T k i now v ln q x rk jj) : jj < ln := by
 obtain ⟨n, ver, A, L, h1, h2, h3, h4, h5, h6, h7, h8, _⟩ := h
 exact h8
end
end Go.Proofs.YthionnpohcgoaaaGreatDoor.Rc
