/- Texts of this proof, joined: LeJ, LhA. -/
import Derived.Test.YtdlcldjlfhmlgaaGreatDoorJ30
import Derived.Laws.AppendOwn
import Derived.Laws.OwnMore
import Derived.Maps.AppendAt
import Derived.Test.YtdlcldjlfhmlgaaGreatDoorJ24
import Derived.Test.YtdlcldjlfhmlgaaGreatDoorJ23
import Derived.Test.YtdlcldjlfhmlgaaGreatDoorJ25
set_option linter.unusedVariables false
set_option linter.unusedSimpArgs false
/- The document's Sets (guidepostref08): what one record more does, as lists. -/
namespace Go.Proofs.YtdlcldjlfhmlgaaGreatDoor
open Go.RowKit
def pz (ss : List St) : List Sg := ss.map fun s => (s, [])
theorem pz_fst : ∀ ss : List St, (pz ss).map Prod.fst = ss
 | [] => rfl
 | s :: ss => by
  have := pz_fst ss
  unfold pz at this ⊢
  rw [List.map_cons, List.map_cons, this]
theorem pz_len (ss : List St) : (pz ss).length = ss.length := by simp [pz]
theorem pz_at (ss : List St) (k : Nat) (h : k < ss.length) (h' : k < (pz ss).length) : (pz ss)[k] = (ss[k], []) := by simp [pz]
theorem pz_snoc (ss : List St) (s : St) : pz (ss ++ [s]) = pz ss ++ [(s, [])] := by simp [pz]
theorem pz_set (ss : List St) (k : Nat) (s : St) : pz (ss.set k s) = (pz ss).set k (s, []) := by simp [pz, List.map_set]
theorem keyP_S (s : St) (g : List ByteArray) (r : Rc) : keyP (lb r.nm) r.ty r.cl (s, g) = keyS s r := rfl
theorem fnd_none {ss : List St} {r : Rc} (h : fndP (pz ss) (lb r.nm) r.ty r.cl = none) : addR ss r = ss ++ [newS r] := by
 refine addR_new ss r (fun s hs => ?_)
 unfold fndP at h
 rw [List.findIdx?_eq_none_iff] at h
 have := h (s, []) (by unfold pz; exact List.mem_map.2 ⟨s, hs, rfl⟩)
 rwa [keyP_S] at this
theorem fnd_some {ss : List St} {r : Rc} {k : Nat} (h : fndP (pz ss) (lb r.nm) r.ty r.cl = some k) : ∃ hk : k < ss.length, keyS ss[k] r = true ∧ (Apart ss → addR ss r = ss.set k (addD ss[k] r)) := by
 unfold fndP at h
 rw [List.findIdx?_eq_some_iff_getElem] at h
 obtain ⟨hk, h1, _⟩ := h
 have hk' : k < ss.length := by rwa [pz_len] at hk
 have h2 : keyS ss[k] r = true := by rw [pz_at ss k hk' hk, keyP_S] at h1; exact h1
 exact ⟨hk', h2, fun ha => addR_old ss r k hk' ha h2⟩
open Classical in
theorem addD_twice {s : St} {r : Rc} (h : hasD r.ty s.ds r.dat = true) : addD s r = { s with tl := min s.tl (ttl r) } := by
 unfold hasD at h
 unfold addD
 rw [if_pos (of_decide_eq_true h)]
open Classical in
theorem addD_new {s : St} {r : Rc} (h : hasD r.ty s.ds r.dat = false) : addD s r = { s with tl := min s.tl (ttl r), ds := s.ds ++ [r.dat] } := by
 unfold hasD at h
 unfold addD
 rw [if_neg (of_decide_eq_false h)]
theorem newS_eq (r : Rc) : newS r = ⟨lb r.nm, r.ty, r.cl, ttl r, [r.dat]⟩ := by
 unfold newS
 have := (@ttl_range r).2
 rw [show min 2147483647 (ttl r) = ttl r by omega]
theorem setsR_few (l : List Rc) : (setsR l).length ≤ l.length ∧ (∀ s ∈ setsR l, s.ds.length ≤ l.length) ∧ Apart (setsR l) := by
 have key : ∀ (n : Nat), n ≤ l.length → (∀ s ∈ setsR (l.take n), s.ds.length ≤ n) ∧ Apart (setsR (l.take n)) := by
  intro n
  induction n with
  | zero => intro _; rw [List.take_zero]; exact ⟨fun s hs => by simp [setsR] at hs, List.Pairwise.nil⟩
  | succ n ih =>
   intro hn
   obtain ⟨i1, i2⟩ := ih (by omega)
   have hlt : n < l.length := by omega
   rw [List.take_succ_eq_append_getElem hlt, setsR_snoc]
   unfold stepR
   split
   ·refine ⟨fun s hs => ?_, addR_apart _ _ i2⟩
    rcases addR_mem hs with h | rfl | ⟨s', h1, h2, rfl⟩
    ·have := i1 s h; omega
    ·simp [newS]
    ·have := i1 s' h1
     have := addD_len s' l[n]
     omega
   ·exact ⟨fun s hs => by have := i1 s hs; omega, i2⟩
 have h := key l.length (Nat.le_refl _)
 rw [List.take_length] at h
 exact ⟨setsR_len l, h⟩
theorem SG.size {s : St} (h : SG s) : ∀ d ∈ s.ds, d.size ≤ 65535 := fun d hd => dRt_size (h.dat d hd)
theorem mks_ne {k : Int} (h : mks k = true) : k ≠ 46 ∧ k ≠ 41 := by
 unfold mks at h
 rw [Bool.and_eq_true] at h
 exact ⟨by simpa using h.1, by simpa using h.2⟩
theorem SG.t46 {s : St} (h : SG s) : s.ty ≠ 46 ∧ s.ty ≠ 41 := mks_ne h.mks
end Go.Proofs.YtdlcldjlfhmlgaaGreatDoor
/- Layer 14: LocalAnswers: zones with their records in a row of their own; what is cleared; what lies higher stays. -/
namespace Go.Proofs.YtdlcldjlfhmlgaaGreatDoor
open Go.RowKit
open So (El elC SRow)
theorem ZoneAt.high {N : Nat} {w w' : World} {Z : Nat} {z : Lc} (h : ZoneAt N w Z z) (k : ∀ b, N ≤ b → w'.heap[b]? = w.heap[b]?) : ZoneAt N w' Z z := by
 obtain ⟨v, els, q, cap, hz, hs⟩ := h.blk
 refine ⟨h.nZ, v, els, q, cap, (k _ h.nZ).trans hz, hs.v, hs.le, fun h0 => ?_, hs.rel.mono fun e s he => he.keep fun b c f hb hc => k b (own_lt he.dv hb).2.1⟩
 obtain ⟨g, e, hg, r⟩ := hs.row h0
 exact ⟨g, e, hg, r.same (k g hg)⟩
theorem Locs.high {N : Nat} {w w' : World} {X M : Nat} {L : List (Nat × Lc)} (h : Locs N w X M L) (k : ∀ b, N ≤ b → w'.heap[b]? = w.heap[b]?) : Locs N w' X M L where
 nX := h.nX
 nM := h.nM
 xb := (k X h.nX).trans h.xb
 mp := by obtain ⟨n, hn, hm⟩ := h.mp; exact ⟨n, hn, hm.same (k M h.nM)⟩
 zs := fun p hp => ⟨(h.zs p hp).1.high k, (h.zs p hp).2⟩
def LqAt (w : World) (q : Option Addr) (l : List Lc) : Prop := ∀ j (hj : j < l.length), ∃ b off qr cr, q = some ⟨b, off, none⟩ ∧ b < w.heap.size ∧ w.cell? ⟨b, off + j * 3, none⟩ = some (.string l[j].nm) ∧ w.cell? ⟨b, off + j * 3 + 1, none⟩ = some (.int .i64 l[j].kd) ∧ w.cell? ⟨b, off + j * 3 + 2, none⟩ = some (.slice qr l[j].rs.length cr) ∧ RcsAt w qr l[j].rs ∧ ShC l[j].rs.length cr qr
theorem LqAt.locs {w : World} {q : Option Addr} {l : List Lc} (h : LqAt w q l) : LcsAt w q l := fun j hj => by
 obtain ⟨b, off, qr, cr, e, hlt, c0, c1, c2, hr, _⟩ := h j hj
 exact ⟨b, off, qr, cr, e, hlt, c0, c1, c2, hr⟩
theorem LqAt.take {w : World} {q : Option Addr} {l : List Lc} (h : LqAt w q l) (k : Nat) : LqAt w q (l.take k) := fun j hj => by
 have hj' : j < l.length := by rw [List.length_take] at hj; omega
 have e : (l.take k)[j] = l[j] := List.getElem_take
 rw [e]
 exact h j hj'
theorem rcs_blk {w w' : World} {q : Option Addr} {l : List Rc} (h : RcsAt w q l) (hb : Below w.heap.size w w') : RcsAt w' q l := by
 by_cases h0 : 0 < l.length
 ·exact h.below hb (rcs_block h h0)
 ·intro j hj; omega
def LqIn (l : List Lc) : Prop := LIn l ∧ ∀ z ∈ l, z.rs.length * 56 ≤ 140737488351232
theorem LqIn.take {l : List Lc} (h : LqIn l) (k : Nat) : LqIn (l.take k) := ⟨fun z hz => h.1 z (List.mem_of_mem_take hz), fun z hz => h.2 z (List.mem_of_mem_take hz)⟩
section
variable {H : Type} {enc : TypeId × Value → H} {W : World}
theorem b_rc : Tryz.prog.bytesOf 33 = 56 := by kernel_rfl
open Go.ChangeShapes Go.WideShapes in
set_option maxRecDepth 100000 in
theorem trod_lq {fuel : Nat} {cs : List Value} {x : DataW H × List MemPlace} (h : DataW.trod enc Tryz.prog W 0 (fun _ => true) true fuel 26 cs = some x) (hw : Wt 26 x.1) : ∃ z : Lc, (∃ qr cr, cs = [.string z.nm, .int .i64 z.kd, .slice qr z.rs.length cr] ∧ RcsAt W qr z.rs ∧ ShC z.rs.length cr qr) ∧ (z.nm.size ≤ maxLen ∧ RIn z.rs ∧ z.rs.length ≤ maxLen ∧ I64 z.kd) ∧ z.rs.length * 56 ≤ 140737488351232 := by
 obtain ⟨y0, y1, y2, k, hx, hlc, t0, t1, t2⟩ := Go.Deep.trod_struct3 Tryz.underlying26 h
 rw [c_lo] at hlc
 rw [hx] at hw
 match cs, hlc with
 | [v0, v1, v2], _ =>
  have t0' : DataW.trod enc Tryz.prog W 0 (fun _ => true) true k 9 [v0] = some y0 := t0
  have t1' : DataW.trod enc Tryz.prog W 0 (fun _ => true) true k 3 [v1] = some y1 := t1
  have t2' : DataW.trod enc Tryz.prog W 0 (fun _ => true) true k 24 [v2] = some y2 := t2
  obtain ⟨s0, q0, _, w0⟩ := DataW.trod_string (t := 9) Tryz.underlying9 t0'
  obtain ⟨s1, q1, _, w1⟩ := DataW.trod_int (t := 3) (k := .i64) Tryz.underlying3 t1'
  obtain ⟨a, len, cap, rfl⟩ := slice_form Tryz.underlying24 t2'
  have hwl := wt_len Tryz.underlying24 t2' (wt_part (i := 2) Tryz.underlying26 hw rfl rfl)
  rw [b_rc] at hwl
  obtain ⟨rs, hl, hat, hin, hc⟩ := open_recs t2'
  have hnone : a = none → cap = 0 := by
   rcases Go.Deep.open_slice Tryz.underlying24 t2' with ⟨hcs, hx⟩ | ⟨a', len', cap', m, n, D, Pl, hcs, _⟩
   ·simp at hcs; intro _; exact hcs.2.2
   ·simp at hcs; intro e; rw [hcs.1] at e; cases e
  simp at q0 q1
  subst hl
  exact ⟨⟨s0, s1, rs⟩, ⟨a, cap, by rw [q0, q1], hat, hc.1, hc.2, hnone⟩, ⟨w0, hin, Nat.le_trans hc.1 hc.2, Go.bounds_i64 w1⟩, hwl⟩
open Go.ChangeShapes Go.WideShapes in
set_option maxRecDepth 100000 in
theorem open_lqs {a0 : Option Addr} {len cap fuel : Nat} {x : DataW H × List MemPlace} (hf : DataW.trod enc Tryz.prog W 0 (fun _ => true) true fuel 22 [.slice a0 len cap] = some x) (hw : Wt 22 x.1) :
  ∃ rs : List Lc, rs.length = len ∧ LqAt W a0 rs ∧ LqIn rs ∧ ShC len cap a0 := by
 rcases Go.Deep.open_slice Tryz.underlying22 hf with ⟨hcs, hx⟩ | ⟨a, len', cap', m, n, D, Pl, hcs, _, hl, hm, hmm, hx, hall⟩
 ·simp at hcs
  obtain ⟨rfl, rfl, rfl⟩ := hcs
  exact ⟨[], rfl, fun j hj => by simp at hj, ⟨fun r hr => by simp at hr, fun r hr => by simp at hr⟩, by omega, by unfold maxLen; omega, fun _ => rfl⟩
 ·simp at hcs
  obtain ⟨rfl, rfl, rfl⟩ := hcs
  simp only [if_true] at hmm
  subst hmm
  rw [c_lo] at hall
  rw [hx] at hw
  have hwe := (wt_slice Tryz.underlying22 hw).2
  obtain ⟨b, off, spot⟩ := a
  have key : ∀ i, i < len → ∃ r : Lc, (spot = none ∧ b < W.heap.size ∧ ∃ qr cr, RcsAt W qr r.rs ∧ ShC r.rs.length cr qr ∧ ∀ k, k < 3 → W.cell? ⟨b, off + i * 3 + k, none⟩ = [Value.string r.nm, .int .i64 r.kd, .slice qr r.rs.length cr][k]?) ∧ (r.nm.size ≤ maxLen ∧ RIn r.rs ∧ r.rs.length ≤ maxLen ∧ I64 r.kd) ∧ r.rs.length * 56 ≤ 140737488351232 := fun i hi => by
   obtain ⟨cs', h1, h2⟩ := hall i (by omega)
   obtain ⟨_, hlen, hcell⟩ := World.cells?_some h1
   obtain ⟨r, ⟨qr, cr, rfl, hat, hs⟩, hr⟩ := trod_lq h2 (hwe _ (by simp; exact ⟨i, hi, rfl⟩))
   have hspot : spot = none := by
    obtain ⟨cs0, h10, _⟩ := hall 0 (by omega)
    obtain ⟨_, hl0, hc0⟩ := World.cells?_some h10
    have h00 := hc0 0 (by omega)
    rw [List.getElem?_eq_getElem (by omega)] at h00
    simpa [Addr.add] using World.cell?_spot h00
   subst hspot
   have hk : ∀ k, k < 3 → W.cell? ⟨b, off + i * 3 + k, none⟩ = [Value.string r.nm, .int .i64 r.kd, .slice qr r.rs.length cr][k]? := fun k hk => by
    have := hcell k hk
    rw [Go.Deep.add_add, lad_off, ← Nat.add_assoc] at this
    exact this
   exact ⟨r, ⟨rfl, lcellB ((hk 0 (by omega)).trans (show [Value.string r.nm, .int .i64 r.kd, .slice qr r.rs.length cr][0]? = some _ from rfl)), qr, cr, hat, hs, hk⟩, hr⟩
  obtain ⟨ls, hlen, hr⟩ := llist_of len key
  refine ⟨ls, hlen, fun j hj => ?_, ⟨fun d hd => ?_, fun d hd => ?_⟩, hl, hm, fun h => by cases h⟩
  ·obtain ⟨⟨hs, hb, qr, cr, hat, hsh, hk⟩, _⟩ := hr j hj
   subst hs
   exact ⟨b, off, qr, cr, rfl, hb, hk 0 (by omega), hk 1 (by omega), hk 2 (by omega), hat, hsh⟩
  ·obtain ⟨j, hj, rfl⟩ := List.getElem_of_mem hd
   exact (hr j hj).2.1
  ·obtain ⟨j, hj, rfl⟩ := List.getElem_of_mem hd
   exact (hr j hj).2.2
end
structure Ow where
 z : Lc
 dv : Value
def Ow.c (o : Ow) : List Value := [.string o.z.nm, .int .i64 o.z.kd, o.dv]
def owC (l : List Ow) : List Value := l.flatMap Ow.c
theorem owC_at : ∀ (l : List Ow) (j : Nat) (hj : j < l.length) (i : Nat), i < 3 → (owC l)[j * 3 + i]? = l[j].c[i]?
 | o :: l, 0, _, i, hi => by
  show (Ow.c o ++ owC l)[0 * 3 + i]? = _
  rw [Nat.zero_mul, Nat.zero_add, List.getElem?_append_left (show i < o.c.length from hi)]
  rfl
 | o :: l, j + 1, hj, i, hi => by
  show (Ow.c o ++ owC l)[(j + 1) * 3 + i]? = _
  have ih := owC_at l j (by simpa using hj) i hi
  rw [List.getElem?_append_right (by show 3 ≤ _; omega), show (j + 1) * 3 + i - (Ow.c o).length = j * 3 + i by show (j + 1) * 3 + i - 3 = _; omega, ih]
  rfl
def rcsL (l : List Rc) : List Value := l.flatMap rcL
theorem rcsL_len (l : List Rc) : (rcsL l).length = l.length * 5 := by
 induction l with
 | nil => rfl
 | cons a l ih =>
  show (rcL a ++ rcsL l).length = _
  rw [List.length_append, ih, List.length_cons]
  show 5 + _ = _
  omega
theorem rcsL_at : ∀ (l : List Rc) (j : Nat) (hj : j < l.length) (i : Nat), i < 5 → (rcsL l)[j * 5 + i]? = (rcL l[j])[i]?
 | o :: l, 0, _, i, hi => by
  show (rcL o ++ rcsL l)[0 * 5 + i]? = _
  rw [Nat.zero_mul, Nat.zero_add, List.getElem?_append_left (show i < (rcL o).length from hi)]
  rfl
 | o :: l, j + 1, hj, i, hi => by
  show (rcL o ++ rcsL l)[(j + 1) * 5 + i]? = _
  have ih := rcsL_at l j (by simpa using hj) i hi
  rw [List.getElem?_append_right (by show 5 ≤ _; omega), show (j + 1) * 5 + i - (rcL o).length = j * 5 + i by show (j + 1) * 5 + i - 5 = _; omega, ih]
  rfl
theorem rcs_of {w : World} {B : Nat} {q : Option Addr} {cap : Nat} {rs : List Rc} (h : w.ownsRow B 33 5 (.slice q rs.length cap) rs.length (rcsL rs)) : RcsAt w q rs := fun j hj => by
 have ho2 := h
 obtain ⟨hl, ⟨_, h0⟩ | ⟨g, cap, cur, hv, hg0, hg, r⟩⟩ := h
 ·omega
 ·cases hv
  have hlt : j * 5 + 5 ≤ rs.length * 5 := by have : (j + 1) * 5 ≤ rs.length * 5 := Nat.mul_le_mul_right _ hj; omega
  have key : ∀ i, i < 5 → w.cell? ⟨g, 0 + j * 5 + i, none⟩ = (rcL rs[j])[i]? := fun i hi => by
   rw [Nat.zero_add, ← rcsL_at rs j hj i hi]
   exact World.ownsRow.cellAt ho2 (j * 5 + i) (by omega)
  exact ⟨g, 0, rfl, (Array.getElem?_eq_some_iff.1 hg).1, key 0 (by omega), key 1 (by omega), key 2 (by omega), key 3 (by omega), key 4 (by omega)⟩
structure OL (B : Nat) (w : World) (v : Value) (l : List Ow) : Prop where
 row : w.ownsRow B 26 3 v l.length (owC l)
 rcd : ∀ o ∈ l, w.ownsRow B 33 5 o.dv o.z.rs.length (rcsL o.z.rs)
theorem OL.nil (B : Nat) (w : World) : OL B w (.slice none 0 0) [] := ⟨World.ownsRow_nil .., fun o ho => by simp at ho⟩
theorem OL.blk {B : Nat} {w w' : World} {v : Value} {l : List Ow} (h : OL B w v l) (hb : Below w.heap.size w w') : OL B w' v l := ⟨own_blk h.row hb, fun o ho => own_blk (h.rcd o ho) hb⟩
theorem OL.snoc {B : Nat} {w : World} {v : Value} {l : List Ow} (h : OL B w v l) (hB : B ≤ w.heap.size) (hl : l.length ≤ 1000) (o : Ow) (ho : w.ownsRow B 33 5 o.dv o.z.rs.length (rcsL o.z.rs)) {X : Nat} (hX : ∀ (j : Nat) u, o.c[j]? = some u → w.cell? ⟨X, j, none⟩ = some u) :
  ∃ v' w', (aLc #[v, .slice (some ⟨X, 0, none⟩) 1 1]).run Tryz.prog w = .ok v' w' ∧ OL B w' v' (l ++ [o]) ∧ Below B w w' := by
 obtain ⟨i0, hi0, hz0, hz1, hz2⟩ := info_parts' infoLc15
 obtain ⟨qd, cd, hdv⟩ := srow_any ho
 have hone : ∀ u ∈ o.c, u.oneCell' = true := by
  intro u hu
  rw [Ow.c, hdv] at hu
  simp only [List.mem_cons, List.not_mem_nil, or_false] at hu
  rcases hu with rfl | rfl | rfl <;> rfl
 obtain ⟨v', w', hrun, hown, hgr, _, _⟩ := run_append_own_at (P := Tryz.prog) w B 22 22 26 i0 _ 3 48 Tryz.underlying22 hi0 hz0 hz1 hz2 rfl (by decide) v l.length (owC l) h.row ⟨X, 0, none⟩ 1 1 o.c rfl (fun j u hu => by
  rw [So.add_of, Nat.zero_add]
  exact hX j u hu) hone (by unfold maxLen; omega) (by omega) hB
 have keep : ∀ {d : Value} {rs : List Rc}, w.ownsRow B 33 5 d rs.length (rcsL rs) → w'.ownsRow B 33 5 d rs.length (rcsL rs) := fun {d rs} hr => own_same hr fun b c f _ hc => grown_blk hgr (Array.getElem?_eq_some_iff.1 hc).1 fun e0 => by
  obtain ⟨_, _, c', hc'⟩ := own_lt h.row e0
  rw [hc] at hc'
  simp at hc'
 refine ⟨v', w', hrun, ⟨?_, fun x hx => ?_⟩, (Below.refl _ _).grown hgr hB fun b hb' => (own_lt h.row hb').2.1⟩
 ·rw [List.length_append, show owC (l ++ [o]) = owC l ++ o.c by simp [owC]]
  exact hown
 ·rcases List.mem_append.1 hx with hx | hx
  ·exact keep (h.rcd x hx)
  ·obtain rfl := List.mem_singleton.1 hx
   exact keep ho
theorem OL.form {B : Nat} {w : World} {v : Value} {l : List Ow} (h : OL B w v l) : ∃ q cap, v = .slice q l.length cap := srow_any h.row
theorem OL.locs {B : Nat} {w : World} {q : Option Addr} {n cap : Nat} {l : List Ow} (h : OL B w (.slice q n cap) l) : LcsAt w q (l.map Ow.z) := fun j hj => by
 have hj' : j < l.length := by simpa using hj
 have ho2 := h.row
 have hrec := h.rcd l[j] (List.getElem_mem hj')
 obtain ⟨qd, cd, hdv⟩ := srow_any hrec
 rw [hdv] at hrec
 obtain ⟨hl, ⟨_, h0⟩ | ⟨g, cap, cur, hv, hg0, hg, r⟩⟩ := h.row
 ·omega
 ·cases hv
  have hlt : j * 3 + 3 ≤ l.length * 3 := by have : (j + 1) * 3 ≤ l.length * 3 := Nat.mul_le_mul_right _ hj'; omega
  have key : ∀ i, i < 3 → w.cell? ⟨g, 0 + j * 3 + i, none⟩ = l[j].c[i]? := fun i hi => by
   rw [Nat.zero_add, ← owC_at l j hj' i hi]
   exact World.ownsRow.cellAt ho2 (j * 3 + i) (by omega)
  have e : (l.map Ow.z)[j] = l[j].z := by simp
  rw [e]
  exact ⟨g, 0, qd, cd, rfl, (Array.getElem?_eq_some_iff.1 hg).1, key 0 (by omega), key 1 (by omega), by rw [key 2 (by omega), Ow.c, hdv]; rfl, rcs_of hrec⟩
def aRc (a : Array Value) : Sem Value := Builtin.append_ #[24, 24] 24 a
theorem app_aRc (a : Array Value) : Builtin.append_ #[24, 24] 24 a = aRc a := rfl
def RcRow (w : World) (r : Rc) (row : List Value) : Prop := row = rcL r
theorem rcOk (M : Nat) : RowOk 5 M RcRow := ⟨fun w x row h => by rw [h]; rfl, fun w x row h u hu => by
 rw [h] at hu
 simp [rcL] at hu
 rcases hu with rfl | rfl | rfl | rfl | rfl <;> rfl, fun w w' x row hb h => h⟩
theorem rc_rows {w : World} {q : Option Addr} {l : List Rc} (h : RcsAt w q l) : RowsAt 5 RcRow w q l := fun j hj => by
 obtain ⟨b, off, e, hlt, c0, c1, c2, c3, c4⟩ := h j hj
 refine ⟨b, off, _, e, hlt, rfl, fun i hi => ?_⟩
 match i, hi with
 | 0, _ => exact c0
 | 1, _ => exact c1
 | 2, _ => exact c2
 | 3, _ => exact c3
 | 4, _ => exact c4
theorem infoRcd : (Tryz.prog.info? 33).map (fun i => (i.zero, i.size, i.bytes)) = some (some (.agg #[.string ⟨#[]⟩, .int .i64 0, .int .i64 0, .int .i64 0, .string ⟨#[]⟩]), 5, 56) := by kernel_rfl
theorem rows_flat : ∀ (rows : List (List Value)) (l : List Rc), rows.length = l.length → (∀ j (hj : j < l.length) (hj' : j < rows.length), rows[j] = rcL l[j]) → rows.flatten = rcsL l
 | [], [], _, _ => rfl
 | r :: rows, x :: l, hl, h => by
  rw [List.flatten_cons, show rcsL (x :: l) = rcL x ++ rcsL l from rfl, rows_flat rows l (by simpa using hl) fun j hj hj' => h (j + 1) (by simpa using hj) (by simpa using hj'), show r = rcL x from h 0 (by simp) (by simp)]
 | [], _ :: _, hl, _ => by simp at hl
 | _ :: _, [], hl, _ => by simp at hl
theorem rcopy {W : World} {q : Option Addr} {cap : Nat} {l : List Rc} (h : RcsAt W q l) (hsh : ShC l.length cap q) (hb : l.length * 56 ≤ 140737488351232) :
  ∃ q1 c1 w1, (aRc #[.slice none 0 0, .slice q l.length cap]).run Tryz.prog W = .ok (.slice q1 l.length c1) w1 ∧ Below W.heap.size W w1 ∧ w1.ownsRow W.heap.size 33 5 (.slice q1 l.length c1) l.length (rcsL l) := by
 obtain ⟨v1, w1, hrun, hb1, rows, hlen, hall, hR, hone, ho⟩ := rows_copy (M := 0) (by decide) (rcOk 0) Tryz.underlying24 infoRcd rfl (Nat.zero_le _) (rc_rows h) hsh (by omega) (by unfold maxLen; omega)
 rw [rows_flat rows l hlen fun j hj hj' => hR j hj hj'] at ho
 obtain ⟨q1, c1, rfl⟩ := srow_any ho
 exact ⟨q1, c1, w1, hrun, hb1, ho⟩
structure Clr (A E g i : Nat) (w0 w : World) : Prop where
 bel : Below A w0 w
 oth : ∀ b, E ≤ b → w.heap[b]? = w0.heap[b]?
 size : w.heap.size = w0.heap.size
 shp : ∀ (b : Nat) c ty, w0.heap[b]? = some (.cells c ty (0, 0)) → ∃ c', w.heap[b]? = some (.cells c' ty (0, 0)) ∧ c'.size = c.size
 row : ∀ k, i * 3 ≤ k → w.cell? ⟨g, k, none⟩ = w0.cell? ⟨g, k, none⟩
theorem Clr.refl (A E g i : Nat) (w : World) : Clr A E g i w w := ⟨Below.refl _ _, fun _ _ => rfl, rfl, fun b c ty h => ⟨c, h, rfl⟩, fun _ _ => rfl⟩
theorem Clr.set {A E g i : Nat} {w0 w : World} (h : Clr A E g i w0 w) {b k j : Nat} (hA : A ≤ b) (hE : b < E) (hij : i ≤ j) (hj : b ≠ g ∨ k < j * 3) (v : Value) : Clr A E g j w0 (w.setCell ⟨b, k, none⟩ v) where
 bel := h.bel.setCell (p := ⟨b, k, none⟩) hA v
 oth := fun b' hb' => by
  rw [Below.heap_setCell _ _ _ _ (show b' ≠ (⟨b, k, none⟩ : Addr).block by show b' ≠ b; omega)]
  exact h.oth b' hb'
 size := by simp [h.size]
 shp := fun b' c ty hc => by
  obtain ⟨c', h1, h2⟩ := h.shp b' c ty hc
  by_cases e : b' = b
  ·subst e
   exact ⟨_, hset h1 k v, by rw [Array.size_setIfInBounds]; exact h2⟩
  ·exact ⟨c', by rw [Below.heap_setCell _ _ _ _ (show b' ≠ (⟨b, k, none⟩ : Addr).block from e)]; exact h1, h2⟩
 row := fun x hx => by
  have hx' : i * 3 ≤ x := by omega
  rw [← h.row x hx']
  unfold World.cell?
  by_cases e : g = b
  ·subst e
   have hk : k < j * 3 := by
    rcases hj with hj | hj
    ·exact absurd rfl hj
    ·exact hj
   cases hb : w.heap[g]? with
   | none => simp only [World.setCell, Array.getElem?_modify, if_true, hb]; rfl
   | some ob =>
    cases ob with
    | cells c t f =>
     rw [show (w.setCell ⟨g, k, none⟩ v).heap[(⟨g, x, none⟩ : Addr).block]? = _ from hset hb k v]
     simp only
     rw [Array.getElem?_setIfInBounds_ne (by omega)]
    | _ => simp only [World.setCell, Array.getElem?_modify, if_true, hb]; rfl
  ·rw [Below.heap_setCell _ _ _ _ (show (⟨g, x, none⟩ : Addr).block ≠ (⟨b, k, none⟩ : Addr).block from e)]
theorem Clr.any {A E g i : Nat} {w0 w : World} (h : Clr A E g i w0 w) {b : Nat} {c : Array Value} {ty : TypeId} (hb : w0.heap[b]? = some (.cells c ty (0, 0))) {k : Nat} (hk : k < c.size) : (∃ v, w.cell? ⟨b, k, none⟩ = some v) ∧ w.frozen? ⟨b, k, none⟩ = false := by
 obtain ⟨c', h1, h2⟩ := h.shp b c ty hb
 have hk' : k < c'.size := by omega
 exact ⟨⟨c'[k], by rw [So.cell_blk h1, Array.getElem?_eq_getElem hk']⟩, frozenU h1 k⟩
theorem OL.clear {A : Nat} {w0 w3 : World} {q : Option Addr} {n cap : Nat} {l : List Ow} (h0 : OL A w0 (.slice q n cap) l) (hb3 : Below w0.heap.size w0 w3) {i : Nat} (hi : i < l.length) :
  ∃ g qd cd, q = some ⟨g, 0, none⟩ ∧ A ≤ g ∧ g < w0.heap.size ∧ (∃ c, w3.heap[g]? = some (.cells c 26 (0, 0)) ∧ i * 3 + 2 < c.size) ∧ w3.cell? ⟨g, i * 3 + 2, none⟩ = some (.slice qd l[i].z.rs.length cd) ∧
   (0 < l[i].z.rs.length → ∃ b, qd = some ⟨b, 0, none⟩ ∧ A ≤ b ∧ b < w0.heap.size ∧ b ≠ g ∧ ∃ c, w3.heap[b]? = some (.cells c 33 (0, 0)) ∧ l[i].z.rs.length * 5 ≤ c.size) := by
 have hlow : ∀ b, (∃ c t f, w0.heap[b]? = some (.cells c t f)) → b < w0.heap.size := fun b ⟨c, t, f, hb⟩ => (Array.getElem?_eq_some_iff.1 hb).1
 have h := h0.blk hb3
 have ho2 := h.row
 have hrec := h.rcd l[i] (List.getElem_mem hi)
 have hrec0 := h0.rcd l[i] (List.getElem_mem hi)
 obtain ⟨qd, cd, hdv⟩ := srow_any hrec
 rw [hdv] at hrec hrec0
 obtain ⟨hl, ⟨_, h1⟩ | ⟨g, cap, cur, hv, hg0, hg, hnc, hcm, hcs, ht⟩⟩ := h.row
 ·omega
 ·cases hv
  have hglt : g < w0.heap.size := (own_lt h0.row (b := g) rfl).1
  have hlt : i * 3 + 3 ≤ l.length * 3 := by have : (i + 1) * 3 ≤ l.length * 3 := Nat.mul_le_mul_right _ hi; omega
  have key : w3.cell? ⟨g, i * 3 + 2, none⟩ = l[i].c[2]? := by
   rw [← owC_at l i hi 2 (by omega)]
   exact World.ownsRow.cellAt ho2 (i * 3 + 2) (by omega)
  have hsz : i * 3 + 2 < cur.size := by
   rw [So.cell_blk hg, Ow.c] at key
   by_cases hc : i * 3 + 2 < cur.size
   ·exact hc
   ·rw [Array.getElem?_eq_none (by omega)] at key
    cases key
  refine ⟨g, qd, cd, rfl, hg0, hglt, ⟨cur, hg, hsz⟩, by rw [key, Ow.c, hdv]; rfl, fun h0' => ?_⟩
  have hr2 := hrec
  obtain ⟨hl2, ⟨_, h02⟩ | ⟨g2, cap2, cur2, hv2, hg02, hg2, hnc2, hcm2, hcs2, ht2⟩⟩ := hrec
  ·omega
  ·cases hv2
   refine ⟨g2, rfl, hg02, (own_lt hrec0 (b := g2) rfl).1, fun e => ?_, cur2, hg2, ?_⟩
   ·rw [e, hg] at hg2
    simp at hg2
   ·have k2 := World.ownsRow.cellAt hr2 (l[i].z.rs.length * 5 - 1) (by omega)
    rw [So.cell_blk hg2] at k2
    have h3 : l[i].z.rs.length * 5 - 1 < (rcsL l[i].z.rs).length := by rw [rcsL_len]; omega
    rw [List.getElem?_eq_getElem h3] at k2
    have := (Array.getElem?_eq_some_iff.1 k2).1
    omega
theorem copy_one {B : Nat} {wr : World} {v : Value} {os : List Ow} (h : OL B wr v os) (hB : B ≤ wr.heap.size) (hl : os.length ≤ 1000) {z : Lc} {qr : Option Addr} {cr : Nat} (hat : RcsAt wr qr z.rs) (hsh : ShC z.rs.length cr qr) (hb : z.rs.length * 56 ≤ 140737488351232) :
  ∃ q1 c1 w3, (aRc #[.slice none 0 0, .slice qr z.rs.length cr]).run Tryz.prog (wr.alloc (.cells #[.string z.nm, .int .i64 z.kd, .slice qr z.rs.length cr] 26)) = .ok (.slice q1 z.rs.length c1) w3 ∧ w3.cell? ⟨wr.heap.size, 2, none⟩ = some (.slice qr z.rs.length cr) ∧ w3.frozen? ⟨wr.heap.size, 2, none⟩ = false ∧
   ∃ w4, w3.setCell ⟨wr.heap.size, 2, none⟩ (.slice q1 z.rs.length c1) = w4 ∧ w4.cell? ⟨wr.heap.size, 0, none⟩ = some (.string z.nm) ∧ w4.cell? ⟨wr.heap.size, 1, none⟩ = some (.int .i64 z.kd) ∧ w4.cell? ⟨wr.heap.size, 2, none⟩ = some (.slice q1 z.rs.length c1) ∧
   ∃ w6 q6 c6, (aLc #[v, .slice (some ⟨w4.heap.size, 0, none⟩) 1 1]).run Tryz.prog (w4.alloc (.cells #[.string z.nm, .int .i64 z.kd, .slice q1 z.rs.length c1] 26)) = .ok (.slice q6 (os.length + 1) c6) w6 ∧ Hid (OL B w6 (.slice q6 (os.length + 1) c6) (os ++ [⟨z, .slice q1 z.rs.length c1⟩]) ∧ Below B wr w6) := by
 obtain ⟨V, hV⟩ : ∃ V, wr.alloc (.cells #[.string z.nm, .int .i64 z.kd, .slice qr z.rs.length cr] 26) = V := ⟨_, rfl⟩
 have bV : Below wr.heap.size wr V := hV ▸ (Below.refl _ _).alloc (Nat.le_refl _) _
 have hZ : V.heap[wr.heap.size]? = some (.cells #[.string z.nm, .int .i64 z.kd, .slice qr z.rs.length cr] 26 (0, 0)) := hV ▸ heap_alloc_new wr _
 obtain ⟨q1, c1, w3, hrun, hb3, ho3⟩ := rcopy (rcs_blk hat bV) hsh hb
 have hZlt : wr.heap.size < V.heap.size := (Array.getElem?_eq_some_iff.1 hZ).1
 have hZ3 := (hb3.block _ hZlt).trans hZ
 obtain ⟨w4, hw4⟩ : ∃ w4, w3.setCell ⟨wr.heap.size, 2, none⟩ (.slice q1 z.rs.length c1) = w4 := ⟨_, rfl⟩
 have hZ4 : w4.heap[wr.heap.size]? = some (.cells #[.string z.nm, .int .i64 z.kd, .slice q1 z.rs.length c1] 26 (0, 0)) := by rw [← hw4, hset hZ3]; rfl
 have b3 : Below wr.heap.size wr w3 := bV.trans (hb3.mono (Nat.le_of_lt hZlt))
 have b4 : Below wr.heap.size wr w4 := by rw [← hw4]; exact b3.setCell (p := ⟨wr.heap.size, 2, none⟩) (Nat.le_refl _) _
 have ho4 : w4.ownsRow B 33 5 (.slice q1 z.rs.length c1) z.rs.length (rcsL z.rs) := by
  refine own_low (own_same ho3 fun b c f _ hc => ?_) (Nat.le_trans hB bV.size)
  rw [← hw4]
  refine Below.heap_setCell _ _ _ _ fun e0 => ?_
  obtain rfl : b = wr.heap.size := e0
  rw [hZ3] at hc
  simp at hc
 have hB4 : B ≤ w4.heap.size := Nat.le_trans hB b4.size
 obtain ⟨V5, hV5⟩ : ∃ V5, w4.alloc (.cells #[.string z.nm, .int .i64 z.kd, .slice q1 z.rs.length c1] 26) = V5 := ⟨_, rfl⟩
 have b5 : Below w4.heap.size w4 V5 := hV5 ▸ (Below.refl _ _).alloc (Nat.le_refl _) _
 have h5 : V5.heap[w4.heap.size]? = some (.cells #[.string z.nm, .int .i64 z.kd, .slice q1 z.rs.length c1] 26 (0, 0)) := hV5 ▸ heap_alloc_new w4 _
 obtain ⟨v6, w6, hrun6, ho6, hb6⟩ := ((h.blk b4).blk b5).snoc (Nat.le_trans hB4 b5.size) hl ⟨z, .slice q1 z.rs.length c1⟩ (own_blk ho4 b5) (X := w4.heap.size) (fun j u hu => by
  rw [So.cell_blk h5, ← hu]
  simp [Ow.c])
 obtain ⟨q6, c6, rfl⟩ := ho6.form
 rw [List.length_append, List.length_singleton] at hrun6 ho6
 refine ⟨q1, c1, w3, by rw [hV]; exact hrun, by rw [So.cell_blk hZ3]; rfl, frozenU hZ3 2, w4, hw4, by rw [So.cell_blk hZ4]; rfl, by rw [So.cell_blk hZ4]; rfl, by rw [So.cell_blk hZ4]; rfl, w6, q6, c6, by rw [hV5]; exact hrun6, ho6, (b4.mono hB).trans ((b5.mono hB4).trans hb6)⟩
theorem ansR_good {l : List Lc} (hok : okL l) (hin : LIn l) (s : ByteArray) (kind : Int) : ∀ t ∈ (ansR l s kind).2, 1 ≤ t.ds.length ∧ t.ds.length ≤ 1000 ∧ OkN t.ls := by
 intro t ht
 unfold ansR at ht
 cases hn : near l s with
 | none => rw [hn] at ht; simp at ht
 | some z =>
  rw [hn] at ht
  unfold near at hn
  cases hs : isN s with
  | false => rw [hs] at hn; cases hn
  | true =>
   rw [hs] at hn
   simp only [if_true] at hn
   have hz := (near_mem hn).1
   have hr := hok.1 z hz
   obtain ⟨_, _, hlen, _⟩ := zone_ty hr
   simp only [ansZ_eq hr] at ht
   have hm : t ∈ outD z (lb s) kind := by
    unfold ansD at ht
    repeat' split at ht
    all_goals first | exact ht | simp at ht
   unfold outD at hm
   obtain ⟨u, hu, rfl⟩ := List.mem_map.1 hm
   have hu' := (List.mem_filter.1 hu).1
   have g1 := (setsR_sg z.rs u hu').one
   have g2 := ((setsR_ok z.rs (hin z hz).2.1).1 u hu').2.2.2.2.1
   exact ⟨g1, by show u.ds.length ≤ 1000; omega, (lb_ok (isN_iff.1 hs)).1⟩
structure AnsI (M : Nat) (v : Value) (els : List El) (ss : List St) (i : Nat) (w : World) : Prop where
 row : w.ownsRow M 44 6 v els.length (elC els)
 len : els.length = ss.length
 rel : ∀ j (hj : j < els.length) (hj' : j < ss.length), i ≤ j → ElSt M w els[j] ss[j]
 dis : D.Dis els
theorem AnsI.first {M : Nat} {w : World} {v : Value} {ss : List St} (h : D.SetsAt M w v ss) : ∃ els, AnsI M v els ss 0 w := by
 obtain ⟨els, hr, hf, hd⟩ := h
 exact ⟨els, hr, hf.len, fun j hj hj' _ => hf.at j hj hj', hd⟩
theorem AnsI.blk {M : Nat} {v : Value} {els : List El} {ss : List St} {i : Nat} {w w' : World} (h : AnsI M v els ss i w) (hb : Below w.heap.size w w') : AnsI M v els ss i w' :=
 ⟨own_blk h.row hb, h.len, fun j hj hj' hij => (h.rel j hj hj' hij).keep fun b c f _ hc => hb.block b (Array.getElem?_eq_some_iff.1 hc).1, h.dis⟩
theorem AnsI.at' {M : Nat} {q : Option Addr} {n cap : Nat} {els : List El} {ss : List St} {i : Nat} {w : World} (h : AnsI M (.slice q n cap) els ss i w) (hi : i < ss.length) (h1 : 1 ≤ ss[i].ds.length) :
  ∃ g b cd, q = some ⟨g, 0, none⟩ ∧ n = ss.length ∧ w.cell? ⟨g, i * 6, none⟩ = some (.string (nm ss[i].ls)) ∧ w.cell? ⟨g, i * 6 + 1, none⟩ = some (.int .i64 ss[i].ty) ∧ w.cell? ⟨g, i * 6 + 2, none⟩ = some (.int .i64 ss[i].cl) ∧ w.cell? ⟨g, i * 6 + 3, none⟩ = some (.int .i64 ss[i].tl) ∧ w.cell? ⟨g, i * 6 + 4, none⟩ = some (.slice (some ⟨b, 0, none⟩) ss[i].ds.length cd) ∧ w.cell? ⟨g, i * 6 + 5, none⟩ = some (.slice none 0 0) ∧
   Hid (M ≤ b ∧ TxAt w (some ⟨b, 0, none⟩) ss[i].ds ∧ ∀ w', Below w.heap.size w w' → AnsI M (.slice q n cap) els ss i w' ∧ (∃ x, w'.cell? ⟨b, 0, none⟩ = some x) ∧ w'.frozen? ⟨b, 0, none⟩ = false ∧ ∀ x, AnsI M (.slice q n cap) els ss (i + 1) (w'.setCell ⟨b, 0, none⟩ x)) := by
 have hl := h.len
 have hi' : i < els.length := by omega
 obtain ⟨g, cap', hv, _, hs⟩ := srow_form h.row (by omega)
 cases hv
 have he := h.rel i hi' hi (Nat.le_refl _)
 have hd := he.dv
 obtain ⟨_, ⟨_, h0⟩ | ⟨b, cd, cur, hdv, hM, hb, hnc, hcm, hcs, ht⟩⟩ := he.dv
 ·omega
 have hc : ∀ j, j < 6 → w.cell? ⟨g, i * 6 + j, none⟩ = els[i].c[j]? := fun j hj => hs.cell i hi' j hj
 have hec : els[i].c = [.string (nm ss[i].ls), .int .i64 ss[i].ty, .int .i64 ss[i].cl, .int .i64 ss[i].tl, .slice (some ⟨b, 0, none⟩) ss[i].ds.length cd, .slice none 0 0] := by rw [El.c, he.sv, he.ty, he.cl, he.tl, he.ls, hdv]
 rw [hec] at hc
 rw [hdv] at hd
 have hown : (Value.slice (some ⟨b, 0, none⟩) ss[i].ds.length cd).ownBlock = some b := rfl
 refine ⟨g, b, cd, rfl, hl, hc 0 (by omega), hc 1 (by omega), hc 2 (by omega), hc 3 (by omega), hc 4 (by omega), hc 5 (by omega), hM, ?_, fun w' hbw => ?_⟩
 ·obtain ⟨q2, cap2, e, hat, _⟩ := TxAt.of_own hd
  cases e
  exact hat
 have h' := h.blk hbw
 have hb' : w'.heap[b]? = some (.cells cur 9 (0, 0)) := (hbw.block b (Array.getElem?_eq_some_iff.1 hb).1).trans hb
 have hpos : 0 < cur.size := by
  have k := World.ownsRow.cellAt hd 0 (by omega)
  rw [So.cell_blk hb, List.getElem?_eq_getElem (by simp [strs]; omega)] at k
  exact (Array.getElem?_eq_some_iff.1 k).1
 refine ⟨h', ⟨cur[0], by rw [So.cell_blk hb', Array.getElem?_eq_getElem hpos]⟩, frozenU hb' 0, fun x => ⟨?_, h.len, fun j hj hj' hij => ?_, h.dis⟩⟩
 ·refine own_same h'.row fun b2 c f hb2 hc2 => Below.heap_setCell _ _ _ _ fun e0 => ?_
  obtain rfl : b2 = b := e0
  rw [hb'] at hc2
  simp at hc2
 ·refine (h'.rel j hj hj' (by omega)).keep fun b2 c f hb2 hc2 => Below.heap_setCell _ _ _ _ fun e0 => ?_
  obtain rfl : b2 = b := e0
  exact h.dis i j hi' hj b2 (by omega) (by rw [hdv]; rfl) hb2
theorem WS.at' {N N0 : Nat} {w : World} {q : Option Addr} {n cap : Nat} {els : List El} {ss : List St} (h : WS N N0 w (.slice q n cap) els (pz ss)) {i : Nat} (hi : i < ss.length) :
  ∃ g qd cd qs cs, q = some ⟨g, 0, none⟩ ∧ n = ss.length ∧ w.cell? ⟨g, i * 6, none⟩ = some (.string (nm ss[i].ls)) ∧ w.cell? ⟨g, i * 6 + 1, none⟩ = some (.int .i64 ss[i].ty) ∧ w.cell? ⟨g, i * 6 + 2, none⟩ = some (.int .i64 ss[i].cl) ∧ w.cell? ⟨g, i * 6 + 3, none⟩ = some (.int .i64 ss[i].tl) ∧ w.cell? ⟨g, i * 6 + 4, none⟩ = some (.slice qd ss[i].ds.length cd) ∧ w.cell? ⟨g, i * 6 + 5, none⟩ = some (.slice qs 0 cs) ∧ Hid (TxAt w qd ss[i].ds) := by
 have hl : els.length = ss.length := by rw [h.rel.len, pz_len]
 have hi' : i < els.length := by omega
 have hi2 : i < (pz ss).length := by rw [pz_len]; exact hi
 obtain ⟨g, cap', hv, _, hs⟩ := srow_form h.row (by omega)
 cases hv
 have he := h.rel.at i hi' hi2
 have e2 : (pz ss)[i] = (ss[i], []) := by simp [pz]
 rw [e2] at he
 have hd := he.tx false
 have hsg := he.tx true
 obtain ⟨qd, cd, hdv⟩ := srow_any hd
 obtain ⟨qs, cs, hsv⟩ := srow_any hsg
 have hdv' : els[i].dv = .slice qd ss[i].ds.length cd := hdv
 have hsv' : els[i].sv = .slice qs 0 cs := hsv
 have hc : ∀ j, j < 6 → w.cell? ⟨g, i * 6 + j, none⟩ = els[i].c[j]? := fun j hj => hs.cell i hi' j hj
 have hec : els[i].c = [.string (nm ss[i].ls), .int .i64 ss[i].ty, .int .i64 ss[i].cl, .int .i64 ss[i].tl, .slice qd ss[i].ds.length cd, .slice qs 0 cs] := by rw [El.c, he.ls, he.ty, he.cl, he.tl, hdv', hsv']
 rw [hec] at hc
 refine ⟨g, qd, cd, qs, cs, rfl, hl, hc 0 (by omega), hc 1 (by omega), hc 2 (by omega), hc 3 (by omega), hc 4 (by omega), hc 5 (by omega), ?_⟩
 obtain ⟨q2, cap2, e, hat, _⟩ := TxAt.of_own hd
 rw [hdv] at e
 cases e
 exact hat
end Go.Proofs.YtdlcldjlfhmlgaaGreatDoor
