/- Texts of this proof, joined: LfE, LfG, LfCl, LfH, LeH, LeP. -/
import Derived.Test.YtdlcldjlfhmlgaaGreatDoorJ24
import Derived.Lib.BufferWrite
import Derived.Lib.UnsafeStr
import Derived.Test.YtdlcldjlfhmlgaaGreatDoorJ2
import Derived.Deep.RegionHeld3
import Derived.Test.YtdlcldjlfhmlgaaGreatDoorJ17
import Derived.Test.YtdlcldjlfhmlgaaGreatDoorJ13
import Derived.Test.YtdlcldjlfhmlgaaGreatDoorJ12
set_option linter.unusedVariables false
set_option linter.unusedSimpArgs false
/- Layer 15: rightAnchors. -/
namespace Go.Proofs.YtdlcldjlfhmlgaaGreatDoor
open Go.RowKit
end Go.Proofs.YtdlcldjlfhmlgaaGreatDoor
/- Layer 15: nearest. -/
namespace Go.Proofs.YtdlcldjlfhmlgaaGreatDoor
open Go.RowKit
end Go.Proofs.YtdlcldjlfhmlgaaGreatDoor
/- strings.Clone of long texts. -/
namespace Go.Proofs.YtdlcldjlfhmlgaaGreatDoor
open Go.RowKit
end Go.Proofs.YtdlcldjlfhmlgaaGreatDoor
/- Layer 15: slices.Clone of addresses; Upstream. -/
namespace Go.Proofs.YtdlcldjlfhmlgaaGreatDoor
open Go.RowKit
def bAppA (a : Array Value) : Sem Value := Builtin.append_ #[46, 46] 46 a
theorem app_a (a : Array Value) : Builtin.append_ #[46, 46] 46 a = bAppA a := rfl
section
attribute [local go_sem ↓] app_a
end
theorem frozenU {w : World} {b : Nat} {c : Array Value} {t : TypeId} (h : w.heap[b]? = some (.cells c t (0, 0))) (i : Nat) : w.frozen? ⟨b, i, none⟩ = false := by
 unfold World.frozen?
 rw [show (⟨b, i, none⟩ : Addr).block = b from rfl, h]
 simp
end Go.Proofs.YtdlcldjlfhmlgaaGreatDoor
/- Layer 8: the document's sets in memory, with signatures: what lies where; facts alone. -/
namespace Go.Proofs.YtdlcldjlfhmlgaaGreatDoor
open Go.RowKit
open So (El elC elC_len elC_app elC_cons elC_take elC_drop elC_at SRow)
abbrev Sg := St × List ByteArray
def Sg.tx (p : Sg) : Bool → List ByteArray
 | false => p.1.ds
 | true => p.2
def Sg.put (p : Sg) (f : Bool) (l : List ByteArray) : Sg := match f with
 | false => ({ p.1 with ds := l }, p.2)
 | true => (p.1, l)
def fld (e : El) : Bool → Value
 | false => e.dv
 | true => e.sv
def fput (e : El) (f : Bool) (v : Value) : El := match f with
 | false => { e with dv := v }
 | true => { e with sv := v }
theorem fld_put (e : El) (f : Bool) (v : Value) : fld (fput e f v) f = v := by cases f <;> rfl
theorem fld_other (e : El) {f g : Bool} (h : f ≠ g) (v : Value) : fld (fput e f v) g = fld e g := by cases f <;> cases g <;> first | rfl | exact absurd rfl h
theorem tx_put (p : Sg) (f : Bool) (l : List ByteArray) : (p.put f l).tx f = l := by cases f <;> rfl
theorem tx_other (p : Sg) {f g : Bool} (h : f ≠ g) (l : List ByteArray) : (p.put f l).tx g = p.tx g := by cases f <;> cases g <;> first | rfl | exact absurd rfl h
structure ElS (N : Nat) (w : World) (e : El) (p : Sg) : Prop where
 ls : e.ls = p.1.ls
 ty : e.ty = p.1.ty
 cl : e.cl = p.1.cl
 tl : e.tl = p.1.tl
 tx : ∀ f, w.ownsRow N 9 1 (fld e f) (p.tx f).length (strs (p.tx f))
theorem ElS.keep {N : Nat} {w w' : World} {e : El} {p : Sg} (h : ElS N w e p) (k : ∀ f b c t, (fld e f).ownBlock = some b → w.heap[b]? = some (.cells c 9 t) → w'.heap[b]? = w.heap[b]?) : ElS N w' e p :=
 ⟨h.ls, h.ty, h.cl, h.tl, fun f => own_same (h.tx f) (k f)⟩
structure RS (N : Nat) (w : World) (v : Value) (els : List El) (ps : List Sg) : Prop where
 row : w.ownsRow N 44 6 v els.length (elC els)
 rel : F2 (ElS N w) els ps
 dis : ∀ i j (hi : i < els.length) (hj : j < els.length) (f g : Bool) (b : Nat), (i ≠ j ∨ f ≠ g) → (fld els[i] f).ownBlock = some b → (fld els[j] g).ownBlock ≠ some b
theorem RS.blk {N : Nat} {w w' : World} {v : Value} {els : List El} {ps : List Sg} (h : RS N w v els ps) (hb : Below w.heap.size w w') : RS N w' v els ps where
 row := own_blk h.row hb
 rel := h.rel.mono fun e s hs => hs.keep fun f b c t _ hc => hb.block b (Array.getElem?_eq_some_iff.1 hc).1
 dis := h.dis
theorem RS.nil (N : Nat) (w : World) : RS N w nilS [] [] := ⟨World.ownsRow_nil .., trivial, fun i j hi => by simp at hi⟩
theorem RS.len {N : Nat} {w : World} {v : Value} {els : List El} {ps : List Sg} (h : RS N w v els ps) : els.length = ps.length := h.rel.len
theorem RS.form {N : Nat} {w : World} {v : Value} {els : List El} {ps : List Sg} (h : RS N w v els ps) : ∃ q cap, v = .slice q ps.length cap := by
 obtain ⟨q, cap, e⟩ := srow_any h.row
 exact ⟨q, cap, by rw [e, h.len]⟩
theorem RS.setT {N : Nat} {w : World} {g cap : Nat} {els : List El} {ps : List Sg} (h : RS N w (.slice (some ⟨g, 0, none⟩) els.length cap) els ps) (i : Nat) (hi : i < els.length) (hi' : i < ps.length) (t : Int) :
  RS N (w.setCell ⟨g, i * 6 + 3, none⟩ (.int .i64 t)) (.slice (some ⟨g, 0, none⟩) els.length cap) (els.set i { els[i] with tl := t }) (ps.set i ({ ps[i].1 with tl := t }, ps[i].2)) ∧ Below N w (w.setCell ⟨g, i * 6 + 3, none⟩ (.int .i64 t)) ∧ Kst w (w.setCell ⟨g, i * 6 + 3, none⟩ (.int .i64 t)) := by
 obtain ⟨hlt, hNg, c0, hg⟩ := own_lt h.row (b := g) rfl
 have hk : ∀ (b : Nat) (c : Array Value) (f : Nat × Nat), w.heap[b]? = some (.cells c 9 f) → (w.setCell ⟨g, i * 6 + 3, none⟩ (.int .i64 t)).heap[b]? = w.heap[b]? := fun b c f hc => Below.heap_setCell _ _ _ _ (fun e0 => by obtain rfl : b = g := e0; rw [hg] at hc; cases hc)
 refine ⟨⟨?_, ?_, ?_⟩, (Below.refl _ _).setCell (p := ⟨g, i * 6 + 3, none⟩) hNg _, (Kst.refl _).set hg (.inl rfl) _⟩
 ·have := srow_set h.row i 3 hi (by decide) (.int .i64 t) { els[i] with tl := t } rfl
  rwa [List.length_set]
 ·refine (h.rel.mono fun e s hs => hs.keep fun f b c t' _ hc => hk b c t' hc).set i ?_
  have hs := h.rel.at i hi hi'
  exact ⟨hs.ls, hs.ty, hs.cl, rfl, fun f => by
   have := own_same (hs.tx f) (fun b c t' _ hc => hk b c t' hc)
   cases f <;> exact this⟩
 ·intro a b ha hb f g' x hne h1
  have ha' : a < els.length := by simpa using ha
  have hb' : b < els.length := by simpa using hb
  have fe : ∀ j (hj : j < (els.set i { els[i] with tl := t }).length) (hj' : j < els.length) (f : Bool), fld ((els.set i { els[i] with tl := t })[j]) f = fld els[j] f := fun j hj hj' f => by
   rw [List.getElem_set]
   split
   ·rename_i e; subst e; cases f <;> rfl
   ·rfl
  rw [fe _ _ ha'] at h1
  rw [fe _ _ hb']
  exact h.dis a b ha' hb' f g' x hne h1
def fOff : Bool → Nat
 | false => 4
 | true => 5
theorem fOff_lt (f : Bool) : fOff f < 6 := by cases f <;> decide
theorem fput_c (e : El) (f : Bool) (v : Value) : (fput e f v).c = e.c.set (fOff f) v := by cases f <;> rfl
theorem fld_c (e : El) (f : Bool) : e.c[fOff f]? = some (fld e f) := by cases f <;> rfl
theorem RS.app {N : Nat} {w : World} {g cap : Nat} {els : List El} {ps : List Sg} (h : RS N w (.slice (some ⟨g, 0, none⟩) els.length cap) els ps) (hN : N ≤ w.heap.size) (i : Nat) (hi : i < els.length) (hi' : i < ps.length) (f : Bool) (hl : (ps[i].tx f).length ≤ 1000) (d : ByteArray) :
  ∃ v' w3, (bAppD #[fld els[i] f, .slice (some ⟨w.heap.size, 0, none⟩) 1 1]).run Tryz.prog (w.alloc (.cells #[.string d] 9)) = .ok v' w3 ∧ w3.cell? ⟨g, i * 6 + fOff f, none⟩ = some (fld els[i] f) ∧ w3.frozen? ⟨g, i * 6 + fOff f, none⟩ = false ∧ (∃ q c, v' = .slice q ((ps[i].tx f).length + 1) c) ∧
   Hid (RS N (w3.setCell ⟨g, i * 6 + fOff f, none⟩ v') (.slice (some ⟨g, 0, none⟩) els.length cap) (els.set i (fput els[i] f v')) (ps.set i (ps[i].put f (ps[i].tx f ++ [d]))) ∧ Below N w (w3.setCell ⟨g, i * 6 + fOff f, none⟩ v') ∧ Below N w w3 ∧ SRow w3 g els ∧ Kst w w3 ∧ Kst w (w3.setCell ⟨g, i * 6 + fOff f, none⟩ v')) := by
 obtain ⟨i0, hi0, hz0, hz1, hz2⟩ := info_parts' infoStr
 obtain ⟨U, hU⟩ : ∃ U, w.alloc (.cells #[.string d] 9) = U := ⟨_, rfl⟩
 have bU : Below w.heap.size w U := hU ▸ (Below.refl _ _).alloc (Nat.le_refl _) _
 have gU := h.blk bU
 have hsz : U.heap.size = w.heap.size + 1 := by rw [← hU]; simp
 have hnew : U.heap[w.heap.size]? = some (.cells #[.string d] 9 (0, 0)) := hU ▸ heap_alloc_new w _
 have hnews : ∀ (j : Nat) u, (strs [d])[j]? = some u → U.cell? ((⟨w.heap.size, 0, none⟩ : Addr).add j) = some u := fun j u hu => by
  rw [So.add_of, Nat.zero_add, So.cell_blk hnew, ← hu]
  simp [strs]
 have hs := gU.rel.at i hi hi'
 obtain ⟨hlt, hNg, c0, hg⟩ := own_lt gU.row (b := g) rfl
 obtain ⟨v', w3, hrun, hown, hgr, _, hat⟩ := run_append_own_at (P := Tryz.prog) U N 42 42 9 i0 _ 1 16 Tryz.underlying42 hi0 hz0 hz1 hz2 rfl (by decide) (fld els[i] f) (ps[i].tx f).length (strs (ps[i].tx f)) (hs.tx f) ⟨w.heap.size, 0, none⟩ 1 1 (strs [d]) rfl hnews (by simp [strs]; rfl) (by unfold maxLen; omega) (by omega) (by omega)
 obtain ⟨q', c', hv'⟩ := srow_any hown
 have hnb : (fld els[i] f).ownBlock ≠ some g := fun e0 => by
  obtain ⟨_, _, c, hc⟩ := own_lt (hs.tx f) e0
  rw [hg] at hc; simp at hc
 have hg3 : w3.heap[g]? = some (.cells c0 44 (0, 0)) := (grown_blk hgr (Array.getElem?_eq_some_iff.1 hg).1 hnb).trans hg
 have hrow3 : w3.ownsRow N 44 6 (.slice (some ⟨g, 0, none⟩) els.length cap) els.length (elC els) := own_same gU.row fun b c f hb hc => by
  obtain rfl : g = b := by simpa [Value.ownBlock] using hb
  rw [hg3, hg]
 obtain ⟨g', cap', hv, _, hr⟩ := srow_form hrow3 (by omega)
 cases hv
 have hcell : w3.cell? ⟨g, i * 6 + fOff f, none⟩ = some (fld els[i] f) := by rw [hr.cell i hi (fOff f) (fOff_lt f), fld_c]
 have b3 : Below N U w3 := (Below.refl _ _).grown hgr (by omega) (fun b hb' => (own_lt (hs.tx f) hb').2.1)
 have kw3 : Kst w w3 := (Kst.of_below bU).grown (hs.tx f) (.inr (.inr rfl)) hgr
 refine ⟨v', w3, by rw [hU]; exact hrun, hcell, by unfold World.frozen?; simp [hg3], ⟨q', c', hv'⟩, ?_⟩
 refine ⟨⟨?_, ?_, ?_⟩, ((bU.mono hN).trans b3).setCell (p := ⟨g, i * 6 + fOff f, none⟩) hNg _, (bU.mono hN).trans b3, hr, kw3, kw3.set hg3 (.inl rfl) _⟩
 ·have := srow_set hrow3 i (fOff f) hi (fOff_lt f) v' (fput els[i] f v') (fput_c _ _ _)
  rwa [List.length_set]
 ·have hoth : ∀ j (hj : j < els.length) (f' : Bool), (i ≠ j ∨ f ≠ f') → ∀ b c t, (fld els[j] f').ownBlock = some b → U.heap[b]? = some (.cells c 9 t) → (w3.setCell ⟨g, i * 6 + fOff f, none⟩ v').heap[b]? = U.heap[b]? := by
   intro j hj f' hne b c t hb hc
   rw [Below.heap_setCell _ _ _ _ (fun e0 => by obtain rfl : b = g := e0; rw [hg] at hc; cases hc)]
   exact grown_blk hgr (Array.getElem?_eq_some_iff.1 hc).1 (fun e0 => h.dis i j hi hj f f' b hne e0 hb)
  refine F2.of_at (by simp [gU.rel.len]) (fun j h1 h2 => ?_)
  have h1' : j < els.length := by simpa using h1
  have h2' : j < ps.length := by simpa using h2
  by_cases e : i = j
  ·subst e
   simp only [List.getElem_set_self]
   refine ⟨by cases f <;> exact hs.ls, by cases f <;> exact hs.ty, by cases f <;> exact hs.cl, by cases f <;> exact hs.tl, fun f' => ?_⟩
   by_cases hf : f = f'
   ·subst hf
    rw [fld_put, tx_put]
    have : strs (ps[i].tx f ++ [d]) = strs (ps[i].tx f) ++ strs [d] := by simp [strs]
    rw [this, List.length_append]
    exact own_same hown fun b c t _ hc => Below.heap_setCell _ _ _ _ (fun e0 => by obtain rfl : b = g := e0; rw [hg3] at hc; cases hc)
   ·rw [fld_other _ hf, tx_other _ hf]
    exact own_same (hs.tx f') (hoth i hi f' (.inr hf))
  ·simp only [List.getElem_set_ne e]
   exact (gU.rel.at j h1' h2').keep fun f' => hoth j h1' f' (.inl e)
 ·have hnew2 : v'.ownBlock = (fld els[i] f).ownBlock ∨ ∀ j (hj : j < els.length) (f' : Bool) b, (fld els[j] f').ownBlock = some b → v'.ownBlock ≠ some b := by
   rcases hat with e | e
   ·exact .inl e
   ·right
    intro j hj f' b hb e2
    rw [e] at e2
    have := (own_lt ((gU.rel.at j hj (by rw [← h.rel.len]; exact hj)).tx f') hb).1
    cases e2
    omega
  have hold : ∀ j (hj : j < els.length) (f' : Bool) b, (i ≠ j ∨ f ≠ f') → (fld els[j] f').ownBlock = some b → v'.ownBlock ≠ some b := fun j hj f' b hne hb => by
   rcases hnew2 with e | e
   ·rw [e]
    intro e2
    exact h.dis i j hi hj f f' b hne e2 hb
   ·exact e j hj f' b hb
  have fe : ∀ j (hj : j < (els.set i (fput els[i] f v')).length) (hj' : j < els.length) (f' : Bool), fld ((els.set i (fput els[i] f v'))[j]) f' = if i = j ∧ f = f' then v' else fld els[j] f' := fun j hj hj' f' => by
   rw [List.getElem_set]
   by_cases e : i = j
   ·subst e
    rw [if_pos rfl]
    by_cases hf : f = f'
    ·subst hf; rw [if_pos ⟨rfl, rfl⟩, fld_put]
    ·rw [if_neg (fun h => hf h.2), fld_other _ hf]
   ·rw [if_neg e, if_neg (fun h => e h.1)]
  intro a b ha hb f1 f2 x hne h1
  have ha' : a < els.length := by simpa using ha
  have hb' : b < els.length := by simpa using hb
  rw [fe _ _ ha'] at h1
  rw [fe _ _ hb']
  by_cases c1 : i = a ∧ f = f1
  ·rw [if_pos c1] at h1
   obtain ⟨rfl, rfl⟩ := c1
   have c2 : ¬ (i = b ∧ f = f2) := fun h => by rcases hne with h' | h' <;> simp_all
   rw [if_neg c2]
   intro h2
   exact hold b hb' f2 x hne h2 h1
  ·rw [if_neg c1] at h1
   by_cases c2 : i = b ∧ f = f2
   ·rw [if_pos c2]
    obtain ⟨rfl, rfl⟩ := c2
    exact hold a ha' f1 x (by rcases hne with h' | h'; exact .inl (Ne.symm h'); exact .inr (Ne.symm h')) h1
   ·rw [if_neg c2]
    exact h.dis a b ha' hb' f1 f2 x hne h1
theorem RS.snoc {N : Nat} {w : World} {v : Value} {els : List El} {ps : List Sg} (h : RS N w v els ps) (hN : N ≤ w.heap.size) (hl : els.length ≤ 1000) (e : El) (s : St) (hls : e.ls = s.ls) (hty : e.ty = s.ty) (hcl : e.cl = s.cl) (htl : e.tl = s.tl) (d : ByteArray) (b : Nat) (hNb : N ≤ b) (hb : w.heap[b]? = some (.cells #[.string d] 9 (0, 0))) (hfr : ∀ j (hj : j < els.length) f, (fld els[j] f).ownBlock ≠ some b) (hdv : e.dv = .slice (some ⟨b, 0, none⟩) 1 1) (hsv : e.sv = nilS) (hds : s.ds = [d]) :
  ∃ v' w3, (bAppS #[v, .slice (some ⟨w.heap.size, 0, none⟩) 1 1]).run Tryz.prog (w.alloc (.cells #[.string (nm e.ls), .int .i64 e.ty, .int .i64 e.cl, .int .i64 e.tl, e.dv, nilS] 44)) = .ok v' w3 ∧ Hid (RS N w3 v' (els ++ [e]) (ps ++ [(s, [])]) ∧ Below N w w3 ∧ Kst w w3) := by
 obtain ⟨i0, hi, hz0, hz1, hz2⟩ := info_parts' infoSt
 obtain ⟨U, hU⟩ : ∃ U, w.alloc (.cells #[.string (nm e.ls), .int .i64 e.ty, .int .i64 e.cl, .int .i64 e.tl, e.dv, nilS] 44) = U := ⟨_, rfl⟩
 have hec : e.c = [.string (nm e.ls), .int .i64 e.ty, .int .i64 e.cl, .int .i64 e.tl, e.dv, nilS] := by rw [El.c, hsv]
 have bU : Below w.heap.size w U := hU ▸ (Below.refl _ _).alloc (Nat.le_refl _) _
 have gU := h.blk bU
 have hsz : U.heap.size = w.heap.size + 1 := by rw [← hU]; simp
 have hnew : U.heap[w.heap.size]? = some (.cells #[.string (nm e.ls), .int .i64 e.ty, .int .i64 e.cl, .int .i64 e.tl, e.dv, nilS] 44 (0, 0)) := hU ▸ heap_alloc_new w _
 have hnews : ∀ (j : Nat) u, e.c[j]? = some u → U.cell? ((⟨w.heap.size, 0, none⟩ : Addr).add j) = some u := fun j u hu => by
  rw [So.add_of, Nat.zero_add, So.cell_blk hnew, ← hu, hec, List.getElem?_toArray]
 have hone : ∀ u ∈ e.c, u.oneCell' = true := by
  intro u hu
  rw [hec, hdv] at hu
  simp only [List.mem_cons, List.not_mem_nil, or_false] at hu
  rcases hu with rfl | rfl | rfl | rfl | rfl | rfl <;> rfl
 obtain ⟨v', w3, hrun, hown, hg, _, hat⟩ := run_append_own_at (P := Tryz.prog) U N 37 37 44 i0 _ 6 88 Tryz.underlying37 hi hz0 hz1 hz2 rfl (by decide) v els.length (elC els) gU.row ⟨w.heap.size, 0, none⟩ 1 1 e.c (by rw [El.len]) hnews hone (by unfold maxLen; omega) (by omega) (by omega)
 refine ⟨v', w3, by rw [hU]; exact hrun, ?_⟩
 have hother : ∀ (x : Nat) (c : Array Value) (f : Nat × Nat), U.heap[x]? = some (.cells c 9 f) → w3.heap[x]? = U.heap[x]? := by
  intro x c f hx
  refine grown_blk hg (Array.getElem?_eq_some_iff.1 hx).1 (fun e0 => ?_)
  obtain ⟨_, _, c', hc⟩ := own_lt gU.row e0
  rw [hx] at hc
  simp at hc
 have hbU : U.heap[b]? = some (.cells #[.string d] 9 (0, 0)) := (bU.block b (Array.getElem?_eq_some_iff.1 hb).1).trans hb
 refine ⟨⟨?_, ?_, ?_⟩, (bU.mono hN).trans ((Below.refl _ _).grown hg (by omega) (fun b hb' => (own_lt gU.row hb').2.1)), (Kst.of_below bU).grown gU.row (.inl rfl) hg⟩
 ·rw [So.elC_app, List.length_append]
  have e2 : elC [e] = e.c := by rw [So.elC_cons]; simp [elC]
  rw [e2]
  exact hown
 ·refine (gU.rel.mono fun e s hs => hs.keep fun f x c t _ hc => hother x c t hc).app ⟨⟨hls, hty, hcl, htl, fun f => ?_⟩, trivial⟩
  cases f with
  | false =>
   show w3.ownsRow N 9 1 e.dv s.ds.length (strs s.ds)
   rw [hdv, hds]
   refine ⟨rfl, .inr ⟨b, 1, #[.string d], rfl, hNb, (hother b _ _ hbU).trans hbU, Nat.le_refl _, by unfold maxLen; omega, rfl, rfl⟩⟩
  | true =>
   show w3.ownsRow N 9 1 e.sv 0 []
   rw [hsv]
   exact World.ownsRow_nil ..
 ·have fe : ∀ j (hj : j < (els ++ [e]).length) (f : Bool) x, (fld ((els ++ [e])[j]) f).ownBlock = some x → (∃ hj' : j < els.length, (fld els[j] f).ownBlock = some x) ∨ (j = els.length ∧ f = false ∧ x = b) := by
   intro j hj f x hx
   rcases Nat.lt_or_ge j els.length with h1 | h1
   ·left
    rw [List.getElem_append_left h1] at hx
    exact ⟨h1, hx⟩
   ·right
    have hj2 : j = els.length := by simp at hj; omega
    rw [List.getElem_append_right h1] at hx
    simp only [hj2, Nat.sub_self, List.getElem_cons_zero] at hx
    cases f with
    | false =>
     refine ⟨hj2, rfl, ?_⟩
     have : (fld e false) = e.dv := rfl
     rw [this, hdv] at hx
     simpa [Value.ownBlock] using hx.symm
    | true =>
     have : (fld e true) = e.sv := rfl
     rw [this, hsv] at hx
     simp [Value.ownBlock] at hx
  intro a c ha hc f1 f2 x hne h1 h2
  rcases fe a ha f1 x h1 with ⟨p1, p2⟩ | ⟨p1, p2, p3⟩
  ·rcases fe c hc f2 x h2 with ⟨r1, r2⟩ | ⟨r1, r2, r3⟩
   ·exact h.dis a c p1 r1 f1 f2 x hne p2 r2
   ·rw [r3] at p2; exact hfr a p1 f1 p2
  ·rcases fe c hc f2 x h2 with ⟨r1, r2⟩ | ⟨r1, r2, r3⟩
   ·rw [p3] at r2; exact hfr c r1 f2 r2
   ·rcases hne with h' | h'
    ·exact h' (by omega)
    ·exact h' (by rw [p2, r2])
end Go.Proofs.YtdlcldjlfhmlgaaGreatDoor
/- Layer 14: sets that the document tells, in a row of their own: one more of them; facts alone. -/
namespace Go.Proofs.YtdlcldjlfhmlgaaGreatDoor
open Go.RowKit
open So (El elC elC_len SRow)
structure WS (N N0 : Nat) (w : World) (v : Value) (els : List El) (ps : List Sg) : Prop where
 row : w.ownsRow N 44 6 v els.length (elC els)
 rel : F2 (ElS N0 w) els ps
theorem WS.nil (N N0 : Nat) (w : World) : WS N N0 w nilS [] [] := ⟨World.ownsRow_nil .., trivial⟩
theorem WS.blk {N N0 : Nat} {w w' : World} {v : Value} {els : List El} {ps : List Sg} (h : WS N N0 w v els ps) (hb : Below w.heap.size w w') : WS N N0 w' v els ps where
 row := own_blk h.row hb
 rel := h.rel.mono fun e s hs => hs.keep fun f b c t _ hc => hb.block b (Array.getElem?_eq_some_iff.1 hc).1
theorem WS.form {N N0 : Nat} {w : World} {v : Value} {els : List El} {ps : List Sg} (h : WS N N0 w v els ps) : ∃ q cap, v = .slice q ps.length cap := by
 obtain ⟨q, cap, e⟩ := srow_any h.row
 exact ⟨q, cap, by rw [e, h.rel.len]⟩
end Go.Proofs.YtdlcldjlfhmlgaaGreatDoor
