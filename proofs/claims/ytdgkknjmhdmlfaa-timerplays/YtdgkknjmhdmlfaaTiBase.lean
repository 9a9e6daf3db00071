/- Layer 12: a timer in memory: what lies where; facts alone. -/
import Derived.WalkKit
import Derived.WalkSpells
import Derived.WalkLawsBesides
import Derived.Maps.OwnSet
import Derived.Maps.Range
import Derived.Below
import Derived.Laws.AppendOwn
import Derived.Test.YtdgkknjmhdmlfaaRows
namespace Go.Proofs.Ytdgkknjmhdmlfaa
set_option linter.unusedVariables false
open Go.RowKit
open Go.MapKept Go.WideMaps

abbrev pt (b : Nat) : Value := .pointer (some ⟨b, 0, none⟩)
abbrev nilP : Value := .pointer none
theorem Hid.mk {p : Prop} (h : p) : Hid p := h
theorem blk_lt {w : World} {b : Nat} {o : Obj} (h : w.heap[b]? = some o) : b < w.heap.size := (Array.getElem?_eq_some_iff.1 h).1
theorem frozen_of {w : World} {b : Nat} {c : Array Value} {t : TypeId} (h : w.heap[b]? = some (.cells c t (0, 0))) (i : Nat) : w.frozen? ⟨b, i, none⟩ = false := by
  unfold World.frozen?
  rw [show (⟨b, i, none⟩ : Addr).block = b from rfl, h]
  simp
theorem heap_set_same {w : World} {b : Nat} {c : Array Value} {t : TypeId} {f : Nat × Nat} (h : w.heap[b]? = some (.cells c t f)) (i : Nat) (v : Value) : (w.setCell ⟨b, i, none⟩ v).heap[b]? = some (.cells (c.setIfInBounds i v) t f) := by
  simp only [World.setCell, Array.getElem?_modify, if_true, h]
  rfl
theorem heap_alloc_last (w : World) (o : Obj) : (w.alloc o).heap[w.heap.size]? = some o := by
  show (w.heap.push o)[w.heap.size]? = _
  simp

/-! ### what a call on a timer may turn -/
structure Fr (N : Nat) (w w' : World) : Prop where
  bel : Below N w w'
  typ : ∀ (b : Nat) (c : Array Value) (t : TypeId) (f : Nat × Nat), w.heap[b]? = some (.cells c t f) → t ≠ 69 → t ≠ 74 → w'.heap[b]? = some (.cells c t f)
theorem Fr.refl (N : Nat) (w : World) : Fr N w w := ⟨Below.refl _ _, fun _ _ _ _ h _ _ => h⟩
theorem Fr.trans {N : Nat} {a b c : World} (h : Fr N a b) (k : Fr N b c) : Fr N a c := ⟨h.bel.trans k.bel, fun i x t f hi h1 h2 => k.typ i x t f (h.typ i x t f hi h1 h2) h1 h2⟩
theorem Fr.size {N : Nat} {w w' : World} (h : Fr N w w') : w.heap.size ≤ w'.heap.size := h.bel.size
theorem Fr.below {N : Nat} {w w' : World} (h : Below w.heap.size w w') (hN : N ≤ w.heap.size) : Fr N w w' := ⟨h.mono hN, fun b c t f hb _ _ => (h.block b (blk_lt hb)).trans hb⟩
theorem Fr.drew {N : Nat} {a w : World} (h : Fr N a w) : Fr N a w.drew := ⟨h.bel.drew, h.typ⟩
theorem Fr.alloc {N : Nat} {a w : World} (h : Fr N a w) (hN : N ≤ w.heap.size) (o : Obj) : Fr N a (w.alloc o) := h.trans (Fr.below ((Below.refl _ _).alloc (Nat.le_refl _) _) hN)
theorem Fr.set {N : Nat} {a w : World} (h : Fr N a w) {b i : Nat} {c : Array Value} {t : TypeId} {f : Nat × Nat} (hb : w.heap[b]? = some (.cells c t f)) (ht : t = 69 ∨ t = 74) (hN : N ≤ b) (v : Value) : Fr N a (w.setCell ⟨b, i, none⟩ v) :=
  h.trans ⟨(Below.refl _ _).setCell hN v, fun b' c' t' f' hb' h1 h2 => by
    rw [Below.heap_setCell _ _ _ _ (fun e => by
      obtain rfl : b' = b := e
      rw [hb] at hb'; cases hb'
      exact ht.elim h1 h2)]
    exact hb'⟩
theorem Fr.turned {N : Nat} {a w w' : World} {M : Nat} (h : Fr N a w) (ht : w.mapTurned w' M) (hN : N ≤ M) : Fr N a w' := by
  have hg := ht.grown
  refine h.trans ⟨⟨hg.os, hg.tape, hg.output, hg.size, fun b hb => ?_⟩, fun b c t f hb _ _ => ?_⟩
  · by_cases hlt : b < w.heap.size
    · exact hg.block b hlt (fun e => by cases e; omega)
    · obtain ⟨es, cl, es', cl', hm, rfl⟩ := ht
      have := blk_lt hm
      omega
  · obtain ⟨es, cl, es', cl', hm, rfl⟩ := ht
    rw [hg.block b (blk_lt hb) (fun e => by cases e; rw [hm] at hb; cases hb)]
    exact hb
theorem Fr.cell {N : Nat} {w w' : World} (h : Fr N w w') {b i : Nat} {c : Array Value} {t : TypeId} {f : Nat × Nat} (hb : w.heap[b]? = some (.cells c t f)) (h1 : t ≠ 69) (h2 : t ≠ 74) : w'.cell? ⟨b, i, none⟩ = w.cell? ⟨b, i, none⟩ :=
  World.cell?_of_block ((h.typ b c t f hb h1 h2).trans hb.symm)

/-! ### entries -/
/-- an id, a time. -/
abbrev En := Int × Int
def fl : List En → List Value
  | [] => []
  | e :: r => .int .i64 e.1 :: .int .i64 e.2 :: fl r
theorem fl_len : ∀ xs : List En, (fl xs).length = xs.length * 2
  | [] => rfl
  | e :: r => by simp [fl, fl_len r]; omega
theorem fl_app : ∀ xs ys : List En, fl (xs ++ ys) = fl xs ++ fl ys
  | [], ys => rfl
  | e :: r, ys => by simp [fl, fl_app r]
theorem fl_get : ∀ (xs : List En) (i : Nat) (h : i < xs.length), (fl xs)[i * 2]? = some (.int .i64 xs[i].1) ∧ (fl xs)[i * 2 + 1]? = some (.int .i64 xs[i].2)
  | [], i, h => by simp at h
  | e :: r, 0, h => ⟨rfl, rfl⟩
  | e :: r, i + 1, h => by
    have := fl_get r i (by simpa using h)
    rw [show (i + 1) * 2 = i * 2 + 1 + 1 by omega]
    simpa [fl] using this
theorem fl_set : ∀ (xs : List En) (i : Nat) (e : En), i < xs.length → fl (xs.set i e) = ((fl xs).set (i * 2) (.int .i64 e.1)).set (i * 2 + 1) (.int .i64 e.2)
  | [], i, _, h => by simp at h
  | x :: r, 0, _, h => rfl
  | x :: r, i + 1, e, h => by
    rw [show (i + 1) * 2 = i * 2 + 1 + 1 by omega]
    simp [fl, fl_set r i e (by simpa using h)]
theorem fl_take : ∀ (xs : List En) (i : Nat), (fl xs).take (i * 2) = fl (xs.take i)
  | [], i => by simp [fl]
  | e :: r, 0 => by simp [fl]
  | e :: r, i + 1 => by
    rw [show (i + 1) * 2 = i * 2 + 1 + 1 by omega]
    simp [fl, fl_take r i]

/-! ### the map of places -/
abbrev il (k : Int) : Lit := .int .i64 k
def W64 (k : Int) : Prop := -9223372036854775808 ≤ k ∧ k ≤ 9223372036854775807
theorem W64.wf {k : Int} (h : W64 k) : (Lit.int .i64 k).wf = true := by
  exact Go.WalkArith.wf_i64 h
theorem il_inj {a b : Int} (h : il a = il b) : a = b := by simpa using h
/-- the places of the map, as a datum. -/
structure Plcs (D : DataW Unit) (xs : List En) : Prop where
  yes : ∀ i (h : i < xs.length) z, D.atKey (il xs[i].1) z = .lit (.int .i64 (i : Int))
  no : ∀ k, (∀ e ∈ xs, e.1 ≠ k) → ∀ z, D.atKey (il k) z = z
def MapAt (w : World) (M : Nat) (xs : List En) : Prop :=
  ∃ D : DataW Unit, w.ownsMap Try.prog 3 (plainElem Try.prog 3) M xs.length D ∧ Plcs D xs
theorem keyed : Go.Maps.Keyed Try.prog 3 := Go.Maps.int_keyed Try.underlying3
theorem zeroI (w : World) : (zeroValue 3).run Try.prog w = .ok (.int .i64 0) w := by kernel_rfl
theorem MapAt.same {w w' : World} {M : Nat} {xs : List En} (h : MapAt w M xs) (e : w'.heap[M]? = w.heap[M]?) : MapAt w' M xs := by
  obtain ⟨D, ⟨es, clock, hb, r⟩, h⟩ := h
  exact ⟨D, ⟨es, clock, e.trans hb, r⟩, h⟩
theorem MapAt.lt {w : World} {M : Nat} {xs : List En} (h : MapAt w M xs) : M < w.heap.size := by
  obtain ⟨D, h, _⟩ := h
  exact h.lt
theorem MapAt.isMap {w : World} {M : Nat} {xs : List En} (h : MapAt w M xs) : ∃ es clock, w.heap[M]? = some (.map es clock) := by
  obtain ⟨D, ⟨es, clock, hb, _⟩, _⟩ := h
  exact ⟨es, clock, hb⟩
theorem MapAt.hit {w : World} {M : Nat} {xs : List En} (h : MapAt w M xs) {i : Nat} (hi : i < xs.length) (hs : W64 xs[i].1) :
    (Instr.lookup 64 (.map (some M)) (.int .i64 xs[i].1) true).run Try.prog w = .ok (.tuple #[.int .i64 (i : Int), .bool true]) w := by
  obtain ⟨D, hD, hp⟩ := h
  obtain ⟨v, ps, hr, hv⟩ := hD.look_ok keyed Try.underlying64 (zeroI _) (plainElem_int Try.underlying3 (by decide)) (Go.Maps.keyOf_int_mk Try.underlying3 hs.wf)
  rw [hp.yes i hi] at hv
  rw [Go.Maps.has_true_of_atKey (hp.yes i hi)] at hr
  obtain ⟨a, rfl, h2, _⟩ := plainElem_int_inv Try.underlying3 hv
  have e : (i : Int) = a := by simpa using (congrArg Prod.fst h2)
  rw [hr, e]
theorem MapAt.miss {w : World} {M : Nat} {xs : List En} (h : MapAt w M xs) {k : Int} (hk : ∀ e ∈ xs, e.1 ≠ k) (hs : W64 k) :
    (Instr.lookup 64 (.map (some M)) (.int .i64 k) true).run Try.prog w = .ok (.tuple #[.int .i64 0, .bool false]) w := by
  obtain ⟨D, hD, hp⟩ := h
  obtain ⟨v, ps, hr, hv⟩ := hD.look_ok keyed Try.underlying64 (zeroI _) (plainElem_int Try.underlying3 (by decide)) (Go.Maps.keyOf_int_mk Try.underlying3 hs.wf)
  rw [hp.no k hk] at hv
  rw [Go.Maps.has_false_of_atKey (hp.no k hk)] at hr
  obtain ⟨a, rfl, h2, _⟩ := plainElem_int_inv Try.underlying3 hv
  have e : (0 : Int) = a := by simpa using (congrArg Prod.fst h2)
  rw [hr, ← e]

open Classical in
/-- as many keys as ids, at most. -/
theorem le_of_nodup {α : Type} : ∀ (a b : List α), a.Nodup → (∀ x ∈ a, x ∈ b) → a.length ≤ b.length
  | [], b, _, _ => Nat.zero_le _
  | x :: a, b, hn, h => by
    have hx := h x (by simp)
    have := le_of_nodup a (b.erase x) (List.nodup_cons.1 hn).2 (fun y hy => by
      have hne : y ≠ x := fun e => by subst e; exact (List.nodup_cons.1 hn).1 hy
      exact (List.mem_erase_of_ne hne).2 (h y (List.mem_cons_of_mem _ hy)))
    rw [List.length_erase_of_mem hx] at this
    have : 0 < b.length := List.length_pos_of_mem hx
    simp only [List.length_cons]
    omega
theorem shrink {w : World} {M n : Nat} {D : DataW Unit} {xs : List En} (h : w.ownsMap Try.prog 3 (plainElem Try.prog 3) M n D) (hp : Plcs D xs) : MapAt w M xs := by
  obtain ⟨es, rfl, hap, hkey⟩ := h.entries keyed
  refine ⟨_, ?_, hp⟩
  obtain ⟨es0, cl, hb, F, hs, hD⟩ := h
  have e0 : es = (es0.toList.map (Go.WideElems.rg Try.prog 3 (plainElem Try.prog 3))).foldr DataW.insert [] := by simpa using hD
  have hK : ∀ p ∈ es, ∃ k, p.1 = il k := by
    intro p hpm
    rw [e0] at hpm
    obtain ⟨x, hx, rfl⟩ := List.mem_map.1 (Go.mem_sorted.1 hpm)
    obtain ⟨y, hy⟩ := F.reads x hx
    rw [Go.WideElems.rg_of hy]
    have h1 := Go.WideElems.rd_key hy
    generalize x.key = key at h1
    cases key <;> simp [keyOf, Try.underlying3, mapKey] at h1
    rename_i q z
    obtain ⟨⟨h2, h3⟩, h4⟩ := h1
    exact ⟨z, h4.symm⟩
  have hin : ∀ p ∈ es.map (·.1), p ∈ xs.map fun e => il e.1 := by
    intro p hpm
    obtain ⟨q, hq, rfl⟩ := List.mem_map.1 hpm
    obtain ⟨k, hk⟩ := hK q hq
    apply Classical.byContradiction
    intro hn
    have h1 := Go.Maps.has_false_of_atKey (hp.no k (fun e he e' => hn (List.mem_map.2 ⟨e, he, by rw [e', hk]⟩)))
    have h2 := Go.Maps.has_true_of_atKey (k := q.1) (D := DataW.map es) (y := q.2) (fun z => Go.WideAt.atKey_mem z (hkey q hq) hap hq)
    rw [hk] at h2
    rw [h1] at h2
    cases h2
  have hnd : (es.map (·.1)).Nodup := List.pairwise_map.2 hap
  have hle := le_of_nodup _ _ hnd hin
  simp only [List.length_map] at hle
  have hz : es.length = es0.size := by rw [e0]; exact length_read es0
  exact ⟨es0, cl, hb, F, by omega, hD⟩

/-! ### a timer -/
structure TmA (N : Nat) (w : World) (T M : Nat) (v : Value) (xs : List En) : Prop where
  nT : N ≤ T
  nM : N ≤ M
  tb : w.heap[T]? = some (.cells #[v, .map (some M)] 69 (0, 0))
  row : w.ownsRow N 74 2 v xs.length (fl xs)
  mp : MapAt w M xs
  nd : (xs.map Prod.fst).Nodup
  rng : ∀ e ∈ xs, W64 e.1 ∧ W64 e.2
  len : xs.length ≤ 1000
def Tm (N : Nat) (w : World) (T : Nat) (xs : List En) : Prop := ∃ M v, TmA N w T M v xs
theorem row_below {w w' : World} {N e size k : Nat} {v : Value} {l : List Value} (hr : w.ownsRow N e size v k l) (hb : Below w.heap.size w w') : w'.ownsRow N e size v k l := by
  obtain ⟨hl, h0 | ⟨g, cap, cur, hv, hg0, hg, r⟩⟩ := hr
  · exact ⟨hl, .inl h0⟩
  · exact ⟨hl, .inr ⟨g, cap, cur, hv, hg0, (hb.block g (blk_lt hg)).trans hg, r⟩⟩
theorem TmA.blk {N : Nat} {w w' : World} {T M : Nat} {v : Value} {xs : List En} (h : TmA N w T M v xs) (hb : Below w.heap.size w w') : TmA N w' T M v xs :=
  ⟨h.nT, h.nM, (hb.block T (blk_lt h.tb)).trans h.tb, row_below h.row hb, h.mp.same (hb.block M h.mp.lt), h.nd, h.rng, h.len⟩
theorem Tm.blk {N : Nat} {w w' : World} {T : Nat} {xs : List En} (h : Tm N w T xs) (hb : Below w.heap.size w w') : Tm N w' T xs := by
  obtain ⟨M, v, h⟩ := h
  exact ⟨M, v, h.blk hb⟩
theorem TmA.base {N : Nat} {w : World} {T M : Nat} {v : Value} {xs : List En} (h : TmA N w T M v xs) : N ≤ w.heap.size := Nat.le_trans h.nT (Nat.le_of_lt (blk_lt h.tb))
theorem TmA.c0 {N : Nat} {w : World} {T M : Nat} {v : Value} {xs : List En} (h : TmA N w T M v xs) : w.cell? ⟨T, 0, none⟩ = some v := by rw [cell_of_row _ _ _ _ _ _ h.tb]; rfl
theorem TmA.c1 {N : Nat} {w : World} {T M : Nat} {v : Value} {xs : List En} (h : TmA N w T M v xs) : w.cell? ⟨T, 1, none⟩ = some (.map (some M)) := by rw [cell_of_row _ _ _ _ _ _ h.tb]; rfl
/-- the row's own block, where there is something. -/
theorem TmA.at {N : Nat} {w : World} {T M : Nat} {v : Value} {xs : List En} (h : TmA N w T M v xs) (hx : 0 < xs.length) : ∃ g cap cur, v = .slice (some ⟨g, 0, none⟩) xs.length cap ∧ N ≤ g ∧ w.heap[g]? = some (.cells cur 74 (0, 0)) ∧ xs.length ≤ cap ∧ cap ≤ maxLen ∧ cur.size = cap * 2 ∧ cur.toList.take (xs.length * 2) = fl xs := by
  rcases h.row.2 with ⟨_, h0⟩ | h
  · omega
  · exact h
theorem at_cell {w : World} {g : Nat} {cur : Array Value} {xs : List En} (hg : w.heap[g]? = some (.cells cur 74 (0, 0))) (ht : cur.toList.take (xs.length * 2) = fl xs) (i : Nat) (hi : i < xs.length) :
    w.cell? ⟨g, i * 2, none⟩ = some (.int .i64 xs[i].1) ∧ w.cell? ⟨g, i * 2 + 1, none⟩ = some (.int .i64 xs[i].2) := by
  have h := fl_get xs i hi
  rw [← ht, List.getElem?_take, List.getElem?_take, if_pos (by omega), if_pos (by omega)] at h
  rw [cell_of_row _ _ _ _ _ _ hg, cell_of_row _ _ _ _ _ _ hg]
  simpa using h

end Go.Proofs.Ytdgkknjmhdmlfaa
