/- Texts of this proof, joined: LcA, LcG, LcR, LcS, LcT. -/
import Derived.Test.YtdlcldjlfhmlgaaGreatDoorJ10
import Derived.Maps.AppendAt
import Derived.Deep.RegionHeld3
set_option linter.unusedVariables false
set_option linter.unusedSimpArgs false
/- Layer 14: what zones answer, as lists. -/
namespace Go.Proofs.YtdlcldjlfhmlgaaGreatDoor
open Go.RowKit
def F2 {α β : Type} (R : α → β → Prop) : List α → List β → Prop
 | [], [] => True
 | a :: u, b :: v => R a b ∧ F2 R u v
 | _, _ => False
section
variable {α β : Type} {R : α → β → Prop}
theorem F2.len : ∀ {u : List α} {v : List β}, F2 R u v → u.length = v.length
 | [], [], _ => rfl
 | a :: u, b :: v, h => by simp [F2.len h.2]
 | [], _ :: _, h => h.elim
 | _ :: _, [], h => h.elim
theorem F2.at : ∀ {u : List α} {v : List β}, F2 R u v → ∀ i (h : i < u.length) (h' : i < v.length), R u[i] v[i]
 | [], [], _, i, h, _ => by simp at h
 | a :: u, b :: v, h, 0, _, _ => h.1
 | a :: u, b :: v, h, i + 1, hi, hj => F2.at h.2 i (by simpa using hi) (by simpa using hj)
 | [], _ :: _, h, _, _, _ => h.elim
 | _ :: _, [], h, _, _, _ => h.elim
theorem F2.of_at : ∀ {u : List α} {v : List β}, u.length = v.length → (∀ i (h : i < u.length) (h' : i < v.length), R u[i] v[i]) → F2 R u v
 | [], [], _, _ => trivial
 | a :: u, b :: v, hl, h => ⟨h 0 (by simp) (by simp), F2.of_at (by simpa using hl) (fun i h1 h2 => by have := h (i + 1) (by simpa using h1) (by simpa using h2); simpa using this)⟩
 | [], _ :: _, hl, _ => by simp at hl
 | _ :: _, [], hl, _ => by simp at hl
theorem F2.app : ∀ {u : List α} {v : List β} {u' : List α} {v' : List β}, F2 R u v → F2 R u' v' → F2 R (u ++ u') (v ++ v')
 | [], [], _, _, _, h => h
 | a :: u, b :: v, _, _, h, k => ⟨h.1, F2.app h.2 k⟩
 | [], _ :: _, _, _, h, _ => h.elim
 | _ :: _, [], _, _, h, _ => h.elim
theorem F2.mono {R' : α → β → Prop} (hR : ∀ a b, R a b → R' a b) : ∀ {u : List α} {v : List β}, F2 R u v → F2 R' u v
 | [], [], _ => trivial
 | a :: u, b :: v, h => ⟨hR _ _ h.1, F2.mono hR h.2⟩
 | [], _ :: _, h => h.elim
 | _ :: _, [], h => h.elim
theorem F2.set {u : List α} {v : List β} (h : F2 R u v) (i : Nat) {a : α} {b : β} (hab : R a b) : F2 R (u.set i a) (v.set i b) := by
 refine F2.of_at (by simp [h.len]) (fun j h1 h2 => ?_)
 by_cases e : i = j
 ·subst e; simpa using hab
 ·simp only [List.getElem_set_ne e]
  exact h.at j (by simpa using h1) (by simpa using h2)
theorem F2.drop : ∀ (n : Nat) {u : List α} {v : List β}, F2 R u v → F2 R (u.drop n) (v.drop n)
 | 0, _, _, h => h
 | n + 1, [], [], h => by simpa using h
 | n + 1, a :: u, b :: v, h => by simpa using F2.drop n h.2
 | _ + 1, [], _ :: _, h => h.elim
 | _ + 1, _ :: _, [], h => h.elim
theorem mrg_rel {la : α → α → Bool} {lv : β → β → Bool} (hl : ∀ a a' b b', R a b → R a' b' → la a a' = lv b b') (u v : List α) : ∀ (u' v' : List β), F2 R u u' → F2 R v v' → F2 R (So.mrg la u v) (So.mrg lv u' v') := by
 induction u, v using So.mrg.induct (lt := la) with
 | case1 v =>
  intro u' v' h1 h2
  cases u' with
  | nil => simpa [So.nil_mrg] using h2
  | cons _ _ => exact h1.elim
 | case2 x u =>
  intro u' v' h1 h2
  cases v' with
  | nil => simpa [So.mrg_nil] using h1
  | cons _ _ => exact h2.elim
 | case3 x u y v h ih =>
  intro u' v' h1 h2
  match u', v', h1, h2 with
  | x' :: u', y' :: v', h1, h2 =>
   rw [So.mrg_cons, if_pos h, So.mrg_cons, if_pos (by rw [← hl _ _ _ _ h2.1 h1.1]; exact h)]
   exact ⟨h2.1, ih _ _ h1 h2.2⟩
  | [], _, h1, _ => exact h1.elim
  | _ :: _, [], _, h2 => exact h2.elim
 | case4 x u y v h ih =>
  intro u' v' h1 h2
  match u', v', h1, h2 with
  | x' :: u', y' :: v', h1, h2 =>
   rw [So.mrg_cons, if_neg h, So.mrg_cons, if_neg (by rw [← hl _ _ _ _ h2.1 h1.1]; exact h)]
   exact ⟨h1.1, ih _ _ h1.2 h2⟩
  | [], _, h1, _ => exact h1.elim
  | _ :: _, [], _, h2 => exact h2.elim
theorem isort_rel {la : α → α → Bool} {lv : β → β → Bool} (hl : ∀ a a' b b', R a b → R a' b' → la a a' = lv b b') : ∀ {u : List α} {v : List β}, F2 R u v → F2 R (So.isort la u) (So.isort lv v)
 | [], [], _ => trivial
 | a :: u, b :: v, h => mrg_rel hl _ _ _ _ ⟨h.1, trivial⟩ (isort_rel hl h.2)
 | [], _ :: _, h => h.elim
 | _ :: _, [], h => h.elim
theorem filter_rel {p : α → Bool} {q : β → Bool} (hp : ∀ a b, R a b → p a = q b) : ∀ {u : List α} {v : List β}, F2 R u v → F2 R (u.filter p) (v.filter q)
 | [], [], _ => trivial
 | a :: u, b :: v, h => by
  simp only [List.filter_cons, hp _ _ h.1]
  split
  ·exact ⟨h.1, filter_rel hp h.2⟩
  ·exact filter_rel hp h.2
 | [], _ :: _, h => h.elim
 | _ :: _, [], h => h.elim
theorem takeWhile_rel {p : α → Bool} {q : β → Bool} (hp : ∀ a b, R a b → p a = q b) : ∀ {u : List α} {v : List β}, F2 R u v → F2 R (u.takeWhile p) (v.takeWhile q)
 | [], [], _ => trivial
 | a :: u, b :: v, h => by
  simp only [List.takeWhile_cons, hp _ _ h.1]
  split
  ·exact ⟨h.1, takeWhile_rel hp h.2⟩
  ·exact trivial
 | [], _ :: _, h => h.elim
 | _ :: _, [], h => h.elim
end
structure Lc where
 nm : ByteArray
 kd : Int
 rs : List Rc
noncomputable def rcR (r : Rc) : Bool := r.ty != 5 && r.ty != 39 && r.ty != 46 && r.ty != 41 && r.cl == 1 && (setsR [r]).length == 1
noncomputable def plcR (n : ByteArray) (z : Lc) : Bool := if z.kd = 3 ∨ z.kd = 4 then undF n z.nm else if z.kd = 5 then eqF n z.nm else false
noncomputable def rightR (z : Lc) : Bool := isN z.nm && decide (1 ≤ z.kd) && decide (z.kd ≤ 5) && decide (z.rs.length ≤ 200) && z.rs.all fun r => rcR r && plcR r.nm z
def ltS (a b : St) : Bool := decide (cmpN a.ls b.ls < 0)
noncomputable def zsets (rs : List Rc) : List St := So.isort ltS (setsR rs)
def picks (kind : Int) (s : St) : Bool := s.ty == kind || kind == 255
def chosR (ss : List St) (n : N3) (kind : Int) : Int × List St :=
 if (ss.filter (picks kind)).length = 0 then (4, []) else (3, (ss.filter (picks kind)).map fun s => { s with ls := n })
def fstR (ss : List St) (n : N3) : Nat := (ss.filter fun s => decide (cmpN s.ls n < 0)).length
def ownR (ss : List St) (n : N3) : List St := (ss.drop (fstR ss n)).takeWhile fun s => eqB s.ls n
def hasR (ss : List St) (n : N3) : Bool := match ss[fstR ss n]? with | some s => undB s.ls n | none => false
def thrR (ss : List St) (n zn : N3) : Bool := hasR ss n || eqB n zn
def stcR (ss : List St) (n zn : N3) (kind : Int) : Int × List St := if thrR ss n zn then chosR (ownR ss n) n kind else (5, [])
def trsR (ss : List St) (n zn : N3) (kind : Int) : Int × List St := if (stcR ss n zn kind).1 = 5 then (0, []) else stcR ss n zn kind
noncomputable def ansZ (z : Lc) (n : N3) (kind : Int) : Int × List St :=
 if z.kd = 1 then (1, []) else if z.kd = 2 then (2, []) else if z.kd = 3 then stcR (zsets z.rs) n (lb z.nm) kind else if z.kd = 4 then trsR (zsets z.rs) n (lb z.nm) kind else chosR (zsets z.rs) n kind
open Classical in
noncomputable def keyZ (k : N3) (z : Lc) : Bool := decide (lowN (lb z.nm) = k)
noncomputable def nearR (zs : List Lc) : N3 → Option Lc
 | [] => zs.find? (keyZ [])
 | l :: n => match zs.find? (keyZ (l :: n)) with | some z => some z | none => nearR zs n
noncomputable def near (zs : List Lc) (s : ByteArray) : Option Lc := if isN s then nearR zs (lowN (lb s)) else none
noncomputable def ansR (zs : List Lc) (s : ByteArray) (kind : Int) : Int × List St := match near zs s with | none => (0, []) | some z => ansZ z (lb s) kind
end Go.Proofs.YtdlcldjlfhmlgaaGreatDoor
/- Layer 8: sets in the making, in memory: what lies where; facts alone. -/
namespace Go.Proofs.YtdlcldjlfhmlgaaGreatDoor
open Go.RowKit
open Go.MapKept Go.WideMaps
open So (El elC elC_len elC_app elC_cons elC_take elC_drop elC_at SRow)
abbrev nilS : Value := .slice none 0 0
def strs (l : List ByteArray) : List Value := l.map Value.string
theorem strs_len (l : List ByteArray) : (strs l).length = l.length := by simp [strs]
structure ElSt (N : Nat) (w : World) (e : El) (s : St) : Prop where
 ls : e.ls = s.ls
 ty : e.ty = s.ty
 cl : e.cl = s.cl
 tl : e.tl = s.tl
 sv : e.sv = nilS
 dv : w.ownsRow N 9 1 e.dv s.ds.length (strs s.ds)
def uR : Rdr
 | .agg a => if a.size = 0 then some (.lit (.bool true), []) else none
 | _ => none
noncomputable def plF (ss : List St) (k : List UInt8) : Option (DataW Unit) := (ss.findIdx? fun s => decide (kB (nm (lowN s.ls)) s.ty s.cl = k)).map fun (i : Nat) => .lit (.int .i64 (i : Int))
open Classical in
noncomputable def knF (ss : List St) (k : List UInt8) : Option (DataW Unit) := if ∃ s ∈ ss, ∃ d ∈ s.ds, iB (nm (lowN s.ls)) s.ty s.cl (lowR s.ty d) = k then some (.lit (.bool true)) else none
structure Gth (N : Nat) (w : World) (G P K : Nat) (v : Value) (els : List El) (ss : List St) (pf kf : List UInt8 → Option (DataW Unit)) (np nk : Nat) : Prop where
 nG : N ≤ G
 nP : N ≤ P
 nK : N ≤ K
 pk : P ≠ K
 gb : w.heap[G]? = some (.cells #[v, .map (some P), .map (some K)] 137 (0, 0))
 row : w.ownsRow N 44 6 v els.length (elC els)
 rel : F2 (ElSt N w) els ss
 dis : (els.map fun e => e.dv.ownBlock).Pairwise fun a b => a = none ∨ b = none ∨ a ≠ b
 mp : MapF 166 (plainElem Tryz.prog 3) w P np pf
 mn : MapF 173 uR w K nk kf
theorem own_same {w w' : World} {N e size k : Nat} {v : Value} {l : List Value} (hr : w.ownsRow N e size v k l) (h : ∀ b c f, v.ownBlock = some b → w.heap[b]? = some (.cells c e f) → w'.heap[b]? = w.heap[b]?) : w'.ownsRow N e size v k l := by
 obtain ⟨hl, h0 | ⟨g, cap, cur, hv, hg0, hg, r⟩⟩ := hr
 ·exact ⟨hl, .inl h0⟩
 ·exact ⟨hl, .inr ⟨g, cap, cur, hv, hg0, (h g cur _ (by rw [hv]; rfl) hg).trans hg, r⟩⟩
theorem own_lt {w : World} {N e size k : Nat} {v : Value} {l : List Value} (hr : w.ownsRow N e size v k l) {b : Nat} (h : v.ownBlock = some b) : b < w.heap.size ∧ N ≤ b ∧ ∃ c, w.heap[b]? = some (.cells c e (0, 0)) := by
 obtain ⟨hl, ⟨rfl, _⟩ | ⟨g, cap, cur, rfl, hg0, hg, r⟩⟩ := hr
 ·simp [Value.ownBlock] at h
 ·obtain rfl : g = b := by simpa [Value.ownBlock] using h
  exact ⟨(Array.getElem?_eq_some_iff.1 hg).1, hg0, cur, hg⟩
theorem own_blk {w w' : World} {N e size k : Nat} {v : Value} {l : List Value} (hr : w.ownsRow N e size v k l) (hb : Below w.heap.size w w') : w'.ownsRow N e size v k l :=
 own_same hr fun b c f _ h => hb.block b (Array.getElem?_eq_some_iff.1 h).1
theorem ElSt.keep {N : Nat} {w w' : World} {e : El} {s : St} (h : ElSt N w e s) (k : ∀ b c f, e.dv.ownBlock = some b → w.heap[b]? = some (.cells c 9 f) → w'.heap[b]? = w.heap[b]?) : ElSt N w' e s :=
 ⟨h.ls, h.ty, h.cl, h.tl, h.sv, own_same h.dv k⟩
theorem Gth.blk {N : Nat} {w w' : World} {G P K : Nat} {v : Value} {els : List El} {ss : List St} {pf kf : List UInt8 → Option (DataW Unit)} {np nk : Nat} (h : Gth N w G P K v els ss pf kf np nk) (hb : Below w.heap.size w w') : Gth N w' G P K v els ss pf kf np nk where
 nG := h.nG
 nP := h.nP
 nK := h.nK
 pk := h.pk
 gb := (hb.block G (Array.getElem?_eq_some_iff.1 h.gb).1).trans h.gb
 row := own_blk h.row hb
 rel := h.rel.mono fun e s hs => hs.keep fun b c f _ hc => hb.block b (Array.getElem?_eq_some_iff.1 hc).1
 dis := h.dis
 mp := h.mp.blk hb
 mn := h.mn.blk hb
theorem plF_none {ss : List St} {k : List UInt8} (h : ∀ s ∈ ss, kB (nm (lowN s.ls)) s.ty s.cl ≠ k) : plF ss k = none := by
 unfold plF
 rw [List.findIdx?_eq_none_iff.2 (fun s hs => by simpa using h s hs)]
 rfl
theorem plF_some {ss : List St} {k : List UInt8} {i : Nat} (hi : i < ss.length) (h : kB (nm (lowN ss[i].ls)) ss[i].ty ss[i].cl = k) (ho : ∀ j (hj : j < ss.length), j < i → kB (nm (lowN ss[j].ls)) ss[j].ty ss[j].cl ≠ k) : plF ss k = some (.lit (.int .i64 (i : Int))) := by
 unfold plF
 rw [List.findIdx?_eq_some_iff_getElem.2 ⟨hi, by simpa using h, fun j hj => by simpa using ho j (by omega) hj⟩]
 rfl
theorem srow_set {w : World} {N g cap : Nat} {els : List El} (h : w.ownsRow N 44 6 (.slice (some ⟨g, 0, none⟩) els.length cap) els.length (elC els)) (i j : Nat) (hi : i < els.length) (hj : j < 6) (x : Value) (e' : El) (he : e'.c = (els[i]).c.set j x) :
  (w.setCell ⟨g, i * 6 + j, none⟩ x).ownsRow N 44 6 (.slice (some ⟨g, 0, none⟩) els.length cap) els.length (elC (els.set i e')) := by
 obtain ⟨hl, h0 | ⟨g', cap', cur, hv, hg0, hg, hn, hm, hs, ht⟩⟩ := h
 ·simp at h0
 ·cases hv
  refine ⟨by rw [elC_len, List.length_set], .inr ⟨g, cap, cur.setIfInBounds (i * 6 + j) x, rfl, hg0, ?_, hn, hm, by simpa using hs, ?_⟩⟩
  ·simp only [World.setCell, Array.getElem?_modify, if_true, hg]
   rfl
  ·rw [Array.toList_setIfInBounds, List.take_set, ht]
   have e1 : elC (els.set i e') = elC (els.take i) ++ (e'.c ++ elC (els.drop (i + 1))) := by
    rw [List.set_eq_take_append_cons_drop, if_pos hi, elC_app, elC_cons]
   have e2 : elC els = elC (els.take i) ++ (els[i].c ++ elC (els.drop (i + 1))) := by
    rw [← elC_cons, ← elC_app, List.getElem_cons_drop, List.take_append_drop]
   have l1 : (elC (els.take i)).length = i * 6 := by rw [elC_len, List.length_take, Nat.min_eq_left (by omega)]
   rw [e1, e2, List.set_append, if_neg (by omega), l1, Nat.add_sub_cancel_left, List.set_append, if_pos (by rw [El.len]; exact hj), he]
theorem srow_form {w : World} {N n : Nat} {v : Value} {els : List El} (h : w.ownsRow N 44 6 v n (elC els)) (hp : 0 < n) : ∃ g cap, v = .slice (some ⟨g, 0, none⟩) n cap ∧ N ≤ g ∧ SRow w g els := by
 obtain ⟨hl, ⟨_, h0⟩ | ⟨g, cap, cur, hv, hg0, hg, hn, hm, hs, ht⟩⟩ := h
 ·omega
 ·refine ⟨g, cap, hv, hg0, cur.toList.drop (n * 6), ?_⟩
  rw [hg, ← ht, List.take_append_drop]
theorem srow_any {w : World} {N n : Nat} {v : Value} {l : List Value} {e size : Nat} (h : w.ownsRow N e size v n l) : ∃ q cap, v = .slice q n cap := by
 obtain ⟨hl, ⟨rfl, rfl⟩ | ⟨g, cap, cur, hv, hg0, hg, hn, hm, hs, ht⟩⟩ := h
 ·exact ⟨_, _, rfl⟩
 ·exact ⟨_, _, hv⟩
theorem turned_cells {w w' : World} {M b : Nat} {c : Array Value} {t : TypeId} {f : Nat × Nat} (ht : w.mapTurned w' M) (hm : ∃ es cl, w.heap[M]? = some (.map es cl)) (hb : w.heap[b]? = some (.cells c t f)) : w'.heap[b]? = some (.cells c t f) := by
 obtain ⟨es, cl, hm⟩ := hm
 rw [turned_same ht (fun e => by subst e; rw [hm] at hb; cases hb) (Array.getElem?_eq_some_iff.1 hb).1]
 exact hb
theorem Gth.turned {N : Nat} {w w' : World} {G P K : Nat} {v : Value} {els : List El} {ss : List St} {pf kf pf' kf' : List UInt8 → Option (DataW Unit)} {np nk np' nk' : Nat} (h : Gth N w G P K v els ss pf kf np nk) {M : Nat} (ht : w.mapTurned w' M) (hm : ∃ es cl, w.heap[M]? = some (.map es cl)) (hp : MapF 166 (plainElem Tryz.prog 3) w' P np' pf') (hk : MapF 173 uR w' K nk' kf') : Gth N w' G P K v els ss pf' kf' np' nk' where
 nG := h.nG
 nP := h.nP
 nK := h.nK
 pk := h.pk
 gb := turned_cells ht hm h.gb
 row := own_same h.row fun b c f _ hc => by rw [turned_cells ht hm hc, hc]
 rel := h.rel.mono fun e s hs => hs.keep fun b c f _ hc => by rw [turned_cells ht hm hc, hc]
 dis := h.dis
 mp := hp
 mn := hk
def Kst (A w : World) : Prop := ∀ (b : Nat) (c : Array Value) (t : TypeId) (f : Nat × Nat), A.heap[b]? = some (.cells c t f) → t ≠ 44 → t ≠ 137 → t ≠ 9 → w.heap[b]? = some (.cells c t f)
theorem Kst.refl (A : World) : Kst A A := fun _ _ _ _ h _ _ _ => h
theorem Kst.trans {A B C : World} (h : Kst A B) (k : Kst B C) : Kst A C := fun b c t f hb h1 h2 h3 => k b c t f (h b c t f hb h1 h2 h3) h1 h2 h3
theorem Kst.of_below {A B : World} (h : Below A.heap.size A B) : Kst A B := fun b c t f hb _ _ _ => (h.block b (Array.getElem?_eq_some_iff.1 hb).1).trans hb
theorem Kst.blk {A B C : World} (h : Kst A B) (k : Below B.heap.size B C) : Kst A C := h.trans (Kst.of_below k)
theorem Kst.drew {A B : World} (h : Kst A B) : Kst A B.drew := h.blk (Below.refl _ _).drew
theorem Kst.alloc {A B : World} (h : Kst A B) (o : Obj) : Kst A (B.alloc o) := h.blk ((Below.refl _ _).alloc (Nat.le_refl _) _)
theorem Kst.turned {A B C : World} {M : Nat} (h : Kst A B) (ht : B.mapTurned C M) (hm : ∃ es cl, B.heap[M]? = some (.map es cl)) : Kst A C := fun b c t f hb h1 h2 h3 => turned_cells ht hm (h b c t f hb h1 h2 h3)
theorem Kst.set {A B : World} (h : Kst A B) {b i : Nat} {c : Array Value} {t : TypeId} {f : Nat × Nat} (hb : B.heap[b]? = some (.cells c t f)) (ht : t = 44 ∨ t = 137 ∨ t = 9) (v : Value) : Kst A (B.setCell ⟨b, i, none⟩ v) := fun b' c' t' f' hb' h1 h2 h3 => by
 have e := h b' c' t' f' hb' h1 h2 h3
 rw [Below.heap_setCell _ _ _ _ (fun e0 => by
  obtain rfl : b' = b := e0
  rw [hb] at e; cases e
  rcases ht with h | h | h
  ·exact h1 h
  ·exact h2 h
  ·exact h3 h)]
 exact e
theorem Kst.grown {A B C : World} (h : Kst A B) {v : Value} {N e size k : Nat} {l : List Value} (hr : B.ownsRow N e size v k l) (he : e = 44 ∨ e = 137 ∨ e = 9) (hg : B.grownBy C v.ownBlock) : Kst A C := fun b c t f hb h1 h2 h3 => by
 have hB := h b c t f hb h1 h2 h3
 rw [hg.block b (Array.getElem?_eq_some_iff.1 hB).1 (fun e0 => by
  obtain ⟨_, _, c', hc⟩ := own_lt hr e0.symm
  rw [hB] at hc; cases hc
  rcases he with h | h | h
  ·exact h1 h
  ·exact h2 h
  ·exact h3 h)]
 exact hB
end Go.Proofs.YtdlcldjlfhmlgaaGreatDoor
/- Layer 8: records: whether they are right, their keys, their TTL. -/
namespace Go.Proofs.YtdlcldjlfhmlgaaGreatDoor
open Go.RowKit
def rcL (r : Rc) : List Value := [.string r.nm, .int .i64 r.ty, .int .i64 r.cl, .int .i64 r.tl, .string r.dat]
theorem ftB_shr (n : Int) (b : Nat) (h : 0 ≤ n) : (n / 2 ^ b == 0) = decide (n < 2 ^ b) := by
 have hp : (0 : Int) < 2 ^ b := Int.pow_pos (by decide)
 rw [Bool.eq_iff_iff, beq_iff_eq, decide_eq_true_iff]
 constructor
 ·intro h0
  rcases Int.lt_or_le n (2 ^ b) with h1 | h1
  ·exact h1
  ·have := Int.ediv_le_ediv hp h1
   rw [Int.ediv_self (by omega), h0] at this
   omega
 ·intro h1
  exact Int.ediv_eq_zero_of_lt h h1
set_option maxRecDepth 100000 in
theorem fits_in (n : Int) (b : Nat) (hb : b = 16 ∨ b = 31 ∨ b = 32) (W : World) : Calls Tryz.prog 112 #[.int .i64 n, .int .i64 (b : Int)] W fun e w' => e = .returned (.bool (ftB n b)) ∧ w' = W := by
 by_cases h0 : 0 ≤ n
 ·have hd : decide (0 ≤ n) = true := decide_eq_true h0
  have e : ftB n b = (n / 2 ^ b == 0) := by rw [ftB_shr n b h0, ftB, hd, Bool.true_and]
  rw [e]
  rcases hb with rfl | rfl | rfl
  all_goals
   go_enter Tryz.func112, Tryz.ntmps112
   go_wp2
   go_ret
   exact ⟨rfl, rfl⟩
 ·have hd : decide (0 ≤ n) = false := decide_eq_false h0
  have e : ftB n b = false := by rw [ftB, hd, Bool.false_and]
  rw [e]
  rcases hb with rfl | rfl | rfl
  all_goals
   go_enter Tryz.func112, Tryz.ntmps112
   go_wp2
   go_ret
   exact ⟨rfl, rfl⟩
set_option maxRecDepth 100000 in
theorem makes_in (k : Int) (W : World) : Calls Tryz.prog 86 #[.int .i64 k] W fun e w' => e = .returned (.bool (mks k)) ∧ w' = W := by
 unfold mks
 by_cases h1 : k = 46
 ·subst h1
  go_enter Tryz.func86, Tryz.ntmps86
  go_wp2
  go_ret
  exact ⟨rfl, rfl⟩
 ·have h2 : (k != 46) = true := by simpa using h1
  rw [h2, Bool.true_and]
  go_enter Tryz.func86, Tryz.ntmps86
  go_wp2
  go_ret
  exact ⟨rfl, rfl⟩
set_option maxRecDepth 100000 in
theorem ttlOf_in (r : Rc) (W : World) : Calls Tryz.prog 116 #[.agg (rcL r).toArray] W fun e w' => e = .returned (.int .i64 (ttl r)) ∧ Below W.heap.size W w' := by
 have HF := Hid.mk (fits_in r.tl 31 (by omega))
 have hT : ttl r = if ftB r.tl 31 = true then r.tl else 0 := rfl
 rw [hT]
 simp only [rcL]
 generalize r.nm = x0
 generalize r.ty = x1
 generalize r.cl = x2
 generalize r.dat = x4
 generalize r.tl = x3 at HF ⊢
 cases hc : ftB x3 31 with
 | true =>
  rw [hc] at HF
  simp only [if_true]
  go_enter Tryz.func116, Tryz.ntmps116
  go_wp2_with fail
  refine (HF.out _).mono ?_
  rintro e w1 ⟨rfl, rfl⟩
  go_wp2
  go_ret
  exact ⟨rfl, (Below.refl _ _).alloc (Nat.le_refl _) _⟩
 | false =>
  rw [hc] at HF
  simp only [Bool.false_eq_true, if_false]
  go_enter Tryz.func116, Tryz.ntmps116
  go_wp2_with fail
  refine (HF.out _).mono ?_
  rintro e w1 ⟨rfl, rfl⟩
  go_wp2
  go_ret
  exact ⟨rfl, (Below.refl _ _).alloc (Nat.le_refl _) _⟩
structure Bx (W : World) (b : Nat) (c : List Value) (t : TypeId) (w : World) : Prop where
 hb : w.heap[b]? = some (.cells c.toArray t (0, 0))
 bel : Below W.heap.size W w
 le : W.heap.size ≤ b
theorem Bx.new (W : World) (c : List Value) (t : TypeId) : Bx W W.heap.size c t (W.alloc (.cells c.toArray t)) := ⟨by show (W.heap.push _)[W.heap.size]? = _; simp, (Below.refl _ _).alloc (Nat.le_refl _) _, Nat.le_refl _⟩
theorem Bx.blk {W w w' : World} {b : Nat} {c : List Value} {t : TypeId} (h : Bx W b c t w) (hb : Below w.heap.size w w') : Bx W b c t w' := ⟨(hb.block b (Array.getElem?_eq_some_iff.1 h.hb).1).trans h.hb, h.bel.trans (hb.mono h.bel.size), h.le⟩
theorem Bx.cell {W w : World} {b : Nat} {c : List Value} {t : TypeId} (h : Bx W b c t w) (i : Nat) (v : Value) (hv : c[i]? = some v) : w.cell? ⟨b, i, none⟩ = some v := by rw [So.cell_blk h.hb, List.getElem?_toArray, hv]
theorem Bx.lt {W w : World} {b : Nat} {c : List Value} {t : TypeId} (h : Bx W b c t w) : b < w.heap.size := (Array.getElem?_eq_some_iff.1 h.hb).1
theorem Bx.cells5 {W w : World} {b : Nat} {x0 x1 x2 x3 x4 : Value} {t : TypeId} (h : Bx W b [x0, x1, x2, x3, x4] t w) : w.cell? ⟨b, 0, none⟩ = some x0 ∧ w.cell? ⟨b, 1, none⟩ = some x1 ∧ w.cell? ⟨b, 2, none⟩ = some x2 ∧ w.cell? ⟨b, 3, none⟩ = some x3 ∧ w.cell? ⟨b, 4, none⟩ = some x4 := ⟨h.cell 0 _ rfl, h.cell 1 _ rfl, h.cell 2 _ rfl, h.cell 3 _ rfl, h.cell 4 _ rfl⟩
set_option maxRecDepth 100000 in
set_option maxHeartbeats 1000000 in
theorem rightRec_in (r : Rc) (h1 : r.nm.size ≤ maxLen) (h2 : r.dat.size ≤ maxLen) (W : World) : Calls Tryz.prog 87 #[.agg (rcL r).toArray] W fun e w' => e = .returned (.bool (rOk r)) ∧ Below W.heap.size W w' := by
 have HN := Hid.mk (nright_in r.nm h1)
 have HA := Hid.mk (fits_in r.cl 16 (by omega))
 have HB := Hid.mk (fits_in r.tl 32 (by omega))
 have HD := Hid.mk (right_all r.ty r.dat h2)
 have hT : rOk r = (isN r.nm && ftB r.cl 16 && ftB r.tl 32 && (splitR r.ty r.dat).isSome) := rfl
 rw [hT]
 clear hT h1 h2
 simp only [rcL]
 generalize isN r.nm = b0 at HN ⊢
 generalize ftB r.cl 16 = b1 at HA ⊢
 generalize ftB r.tl 32 = b2 at HB ⊢
 generalize (splitR r.ty r.dat).isSome = b3 at HD ⊢
 generalize r.nm = x0 at HN ⊢
 generalize r.ty = x1 at HD ⊢
 generalize r.cl = x2 at HA ⊢
 generalize r.tl = x3 at HB ⊢
 generalize r.dat = x4 at HD ⊢
 have X0 := Bx.new W [.string x0, .int .i64 x1, .int .i64 x2, .int .i64 x3, .string x4] 33
 cases b0 with
 | false =>
  go_enter Tryz.func87, Tryz.ntmps87
  go_wp2_with fail
  refine (HN.out _).mono ?_
  rintro e w1 ⟨rfl, hb1⟩
  have X1 := X0.blk hb1
  go_wp2
  go_ret
  exact ⟨rfl, X1.bel⟩
 | true =>
  cases b1 with
  | false =>
   go_enter Tryz.func87, Tryz.ntmps87
   go_wp2_with fail
   refine (HN.out _).mono ?_
   rintro e w1 ⟨rfl, hb1⟩
   have X1 := X0.blk hb1
   have c1 := X1.cells5
   clear hb1 X0
   go_wp2_with fail
   refine (HA.out _).mono ?_
   rintro e w2 ⟨rfl, rfl⟩
   go_wp2
   go_ret
   exact ⟨rfl, X1.bel⟩
  | true =>
   cases b2 with
   | false =>
    go_enter Tryz.func87, Tryz.ntmps87
    go_wp2_with fail
    refine (HN.out _).mono ?_
    rintro e w1 ⟨rfl, hb1⟩
    have X1 := X0.blk hb1
    have c1 := X1.cells5
    clear hb1 X0
    go_wp2_with fail
    refine (HA.out _).mono ?_
    rintro e w2 ⟨rfl, rfl⟩
    go_wp2_with fail
    refine (HB.out _).mono ?_
    rintro e w3 ⟨rfl, rfl⟩
    go_wp2
    go_ret
    exact ⟨rfl, X1.bel⟩
   | true =>
    go_enter Tryz.func87, Tryz.ntmps87
    go_wp2_with fail
    refine (HN.out _).mono ?_
    rintro e w1 ⟨rfl, hb1⟩
    have X1 := X0.blk hb1
    have c1 := X1.cells5
    clear hb1 X0
    go_wp2_with fail
    refine (HA.out _).mono ?_
    rintro e w2 ⟨rfl, rfl⟩
    go_wp2_with fail
    refine (HB.out _).mono ?_
    rintro e w3 ⟨rfl, rfl⟩
    go_wp2_with fail
    refine (HD.out _).mono ?_
    rintro e w4 ⟨rfl, hb4⟩
    have X4 := X1.blk hb4
    go_wp2
    go_ret
    exact ⟨by cases b3 <;> rfl, X4.bel⟩
structure Bx2 (W : World) (b : Nat) (c : List Value) (t : TypeId) (b' : Nat) (c' : List Value) (t' : TypeId) (w : World) : Prop where
 x : Bx W b c t w
 y : Bx W b' c' t' w
theorem Bx2.blk {W w w' : World} {b : Nat} {c : List Value} {t : TypeId} {b' : Nat} {c' : List Value} {t' : TypeId} (h : Bx2 W b c t b' c' t' w) (hb : Below w.heap.size w w') : Bx2 W b c t b' c' t' w' := ⟨h.x.blk hb, h.y.blk hb⟩
theorem Bx2.drew {W w : World} {b : Nat} {c : List Value} {t : TypeId} {b' : Nat} {c' : List Value} {t' : TypeId} (h : Bx2 W b c t b' c' t' w) : Bx2 W b c t b' c' t' w.drew := h.blk (Below.refl _ _).drew
theorem Bx2.new (W : World) (c c' : List Value) (t t' : TypeId) : Bx2 W W.heap.size c t (W.heap.size + 1) c' t' ((W.alloc (.cells c.toArray t)).alloc (.cells c'.toArray t')) := by
 refine ⟨(Bx.new W c t).blk ((Below.refl _ _).alloc (Nat.le_refl _) _), ?_⟩
 have := Bx.new (W.alloc (.cells c.toArray t)) c' t'
 rw [World.size_alloc] at this
 exact ⟨this.hb, ((Below.refl W.heap.size W).alloc (Nat.le_refl _) _).trans (this.bel.mono (by simp)), by omega⟩
theorem hset {w : World} {b : Nat} {c : Array Value} {t : TypeId} {f : Nat × Nat} (h : w.heap[b]? = some (.cells c t f)) (i : Nat) (v : Value) : (w.setCell ⟨b, i, none⟩ v).heap[b]? = some (.cells (c.setIfInBounds i v) t f) := by
 simp only [World.setCell, Array.getElem?_modify, if_true, h]
 rfl
theorem hset3 {w : World} {b : Nat} {x0 x1 x2 : Value} {t : TypeId} {f : Nat × Nat} (h : w.heap[b]? = some (.cells #[x0, x1, x2] t f)) (y0 y1 y2 : Value) : (((w.setCell ⟨b, 0, none⟩ y0).setCell ⟨b, 1, none⟩ y1).setCell ⟨b, 2, none⟩ y2).heap[b]? = some (.cells #[y0, y1, y2] t f) := by
 rw [hset (hset (hset h 0 y0) 1 y1) 2 y2]
 rfl
set_option maxRecDepth 100000 in
set_option maxHeartbeats 2000000 in
theorem keyOf_in (r : Rc) (k : Int) (h1 : r.nm.size ≤ maxLen) (W : World) : Calls Tryz.prog 114 #[.agg (rcL r).toArray, .int .i64 k] W fun e w' => e = .returned (.agg #[.string (lowF r.nm), .int .i64 k, .int .i64 r.cl]) ∧ Below W.heap.size W w' := by
 have HL := Hid.mk (nlower_in r.nm h1)
 simp only [rcL]
 generalize lowF r.nm = lw at HL ⊢
 generalize r.nm = x0 at HL ⊢
 generalize r.ty = x1
 generalize r.cl = x2
 generalize r.tl = x3
 generalize r.dat = x4
 clear h1
 have X0 := Bx2.new W [.string x0, .int .i64 x1, .int .i64 x2, .int .i64 x3, .string x4] [.string ⟨#[]⟩, .int .i64 0, .int .i64 0] 33 166
 obtain ⟨V, hV⟩ : ∃ V, (W.alloc (.cells #[.string x0, .int .i64 x1, .int .i64 x2, .int .i64 x3, .string x4] 33)).alloc (.cells #[.string ⟨#[]⟩, .int .i64 0, .int .i64 0] 166) = V := ⟨_, rfl⟩
 have HV := Hid.mk hV
 have X1 : Bx2 W W.heap.size [.string x0, .int .i64 x1, .int .i64 x2, .int .i64 x3, .string x4] 33 (W.heap.size + 1) [.string ⟨#[]⟩, .int .i64 0, .int .i64 0] 166 V := hV ▸ X0
 clear hV X0
 go_enter Tryz.func114, Tryz.ntmps114
 go_wp2_with fail
 rw [HV.out]
 have HC : Hid (∀ w, Bx2 W W.heap.size [.string x0, .int .i64 x1, .int .i64 x2, .int .i64 x3, .string x4] 33 (W.heap.size + 1) [.string ⟨#[]⟩, .int .i64 0, .int .i64 0] 166 w → (w.cell? ⟨W.heap.size, 0, none⟩ = some (.string x0) ∧ w.cell? ⟨W.heap.size, 2, none⟩ = some (.int .i64 x2)) ∧ (w.cell? ⟨W.heap.size + 1, 0, none⟩ = some (.string ⟨#[]⟩) ∧ w.cell? ⟨W.heap.size + 1, 1, none⟩ = some (.int .i64 0) ∧ w.cell? ⟨W.heap.size + 1, 2, none⟩ = some (.int .i64 0)) ∧ (∀ i, w.frozen? ⟨W.heap.size + 1, i, none⟩ = false)) := fun w h => ⟨⟨h.x.cell 0 _ rfl, h.x.cell 2 _ rfl⟩, ⟨h.y.cell 0 _ rfl, h.y.cell 1 _ rfl, h.y.cell 2 _ rfl⟩, fun i => by unfold World.frozen?; simp [h.y.hb]⟩
 obtain ⟨⟨p0, p2⟩, _⟩ := HC.out _ X1
 first | (go_region_with (go_at_call 53; refine (HL.out _).mono ?_; rintro e w2 ⟨rfl, hb2⟩; have X2 := X1.drew.blk hb2; obtain ⟨⟨r0, r2⟩, ⟨q0, q1, q2⟩, qf⟩ := HC.out _ X2)) | fail
 all_goals
  go_wp2
  refine bodyPost_ret (results_cell_row Tryz.results114 _ _ (W.heap.size + 1) 166 #[.string lw, .int .i64 k, .int .i64 x2] (0, 0) _ (by rfl) (hset3 X2.y.hb _ _ _) Tryz.underlying166 rfl (by kernel_rfl)) rfl ?_
  exact ⟨rfl, ((X2.x.bel.setCell (p := ⟨W.heap.size + 1, 0, none⟩) (by simp) _).setCell (p := ⟨W.heap.size + 1, 1, none⟩) (by simp) _).setCell (p := ⟨W.heap.size + 1, 2, none⟩) (by simp) _⟩
end Go.Proofs.YtdlcldjlfhmlgaaGreatDoor
/- Layer 8: sets in the making: newGathering, isNew. -/
namespace Go.Proofs.YtdlcldjlfhmlgaaGreatDoor
open Go.RowKit
open Go.MapKept Go.WideMaps
open So (El elC)
theorem zeroI (w : World) : (zeroValue 3).run Tryz.prog w = .ok (.int .i64 0) w := by kernel_rfl
theorem zeroU (w : World) : (zeroValue 214).run Tryz.prog w = .ok (.agg #[]) w := by kernel_rfl
set_option maxRecDepth 100000 in
theorem newG_in (W : World) : Calls Tryz.prog 85 #[] W fun e w' => ∃ G P K, e = .returned (.pointer (some ⟨G, 0, none⟩)) ∧ Gth W.heap.size w' G P K nilS [] [] (plF []) (knF []) 0 0 ∧ Below W.heap.size W w' := by
 have m1 := (MapF.made 166 (plainElem Tryz.prog 3) W).congr (g := plF []) (fun s => rfl)
 have m2 := (MapF.made 173 uR (W.alloc (.map #[] 0))).congr (g := knF []) (fun s => by unfold knF; rw [if_neg (by simp)])
 have b1 : Below W.heap.size W (W.alloc (.map #[] 0)) := (Below.refl _ _).alloc (Nat.le_refl _) _
 have b2 : Below (W.alloc (.map #[] 0)).heap.size (W.alloc (.map #[] 0)) ((W.alloc (.map #[] 0)).alloc (.map #[] 0)) := (Below.refl _ _).alloc (Nat.le_refl _) _
 have b3 : Below ((W.alloc (.map #[] 0)).alloc (.map #[] 0)).heap.size ((W.alloc (.map #[] 0)).alloc (.map #[] 0)) (((W.alloc (.map #[] 0)).alloc (.map #[] 0)).alloc (.cells #[nilS, .map (some W.heap.size), .map (some (W.heap.size + 1))] 137)) := (Below.refl _ _).alloc (Nat.le_refl _) _
 have M1 := Hid.mk ((m1.blk b2).blk b3)
 rw [World.size_alloc] at m2
 have M2 := Hid.mk (m2.blk b3)
 have hmm := @run_makeMap Tryz.prog
 have HB := Hid.mk ((b1.trans (b2.mono (by simp))).trans (b3.mono (by simp; omega)))
 clear m1 m2 b1 b2 b3
 go_enter Tryz.func85, Tryz.ntmps85
 go_wp2
 go_ret
 refine ⟨_, W.heap.size, W.heap.size + 1, rfl, ⟨by omega, Nat.le_refl _, by omega, by omega, ?_, ⟨rfl, .inl ⟨rfl, rfl⟩⟩, trivial, List.Pairwise.nil, M1.out, M2.out⟩, HB.out⟩
 have e := heap_alloc_new ((W.alloc (.map #[] 0)).alloc (.map #[] 0)) (.cells #[nilS, .map (some W.heap.size), .map (some (W.heap.size + 1))] 137)
 rw [World.size_alloc, World.size_alloc] at e
 exact e
theorem uR_ok {v : Value} {x : DataW Unit × List MemPlace} (h : uR v = some x) : v = .agg #[] := by
 unfold uR at h
 split at h
 ·split at h
  ·rename_i a h0
   rw [Array.eq_empty_of_size_eq_zero h0]
  ·cases h
 ·cases h
set_option maxRecDepth 100000 in
set_option maxHeartbeats 2000000 in
theorem isNew_in (N : Nat) (W : World) (G P K : Nat) (v : Value) (els : List El) (ss : List St) (pf kf : List UInt8 → Option (DataW Unit)) (np nk : Nat) (h : Gth N W G P K v els ss pf kf np nk) (low d : ByteArray) (ty cl : Int) (hs : low.size ≤ maxLen) (hd : d.size ≤ maxLen) (h1 : I64 ty) (h2 : I64 cl) (hk : nk < 1000) (hN : N ≤ W.heap.size) :
  Calls Tryz.prog 117 #[.pointer (some ⟨G, 0, none⟩), .agg #[.string low, .int .i64 ty, .int .i64 cl, .string d]] W fun e w' => e = .returned (.bool (!(kf (iB low ty cl d)).isSome)) ∧ Gth N w' G P K v els ss pf (fun x => if x = iB low ty cl d then some (.lit (.bool true)) else kf x) np (nk + 1) ∧ Below N W w' ∧ Kst W w' := by
 obtain ⟨U, hU⟩ : ∃ U, W.alloc (.cells #[.string low, .int .i64 ty, .int .i64 cl, .string d] 173) = U := ⟨_, rfl⟩
 obtain ⟨U2, hU2⟩ : ∃ U2, U.alloc (.cells #[] 214) = U2 := ⟨_, rfl⟩
 have bU : Below W.heap.size W U := hU ▸ (Below.refl _ _).alloc (Nat.le_refl _) _
 have bU2 : Below U.heap.size U U2 := hU2 ▸ (Below.refl _ _).alloc (Nat.le_refl _) _
 have hX : Bx W W.heap.size [.string low, .int .i64 ty, .int .i64 cl, .string d] 173 U := hU ▸ Bx.new W _ _
 have gU := h.blk bU
 have gU2 := gU.blk bU2
 have gUd : Gth N U.drew G P K v els ss pf kf np nk := gU.blk (Below.refl _ _).drew
 have gU2d : Gth N U2.drew G P K v els ss pf kf np nk := gU2.blk (Below.refl _ _).drew
 have gU2dd : Gth N U2.drew.drew G P K v els ss pf kf np nk := gU2d.blk (Below.refl _ _).drew
 have kk := keyOf_i hs hd h1 h2
 obtain ⟨v1, _, lk1, r1⟩ := gUd.mn.look keyedI Tryz.underlying135 (zeroU _) (zd := .lit (.bool true)) (zp := []) rfl kk
 obtain ⟨v2, _, lk2, r2⟩ := gU2d.mn.look keyedI Tryz.underlying135 (zeroU _) (zd := .lit (.bool true)) (zp := []) rfl kk
 obtain rfl := uR_ok r1
 obtain rfl := uR_ok r2
 obtain ⟨w3, st, m3, t3⟩ := gU2dd.mn.put keyedI Tryz.underlying135 (by unfold maxLen; omega) kk (val := .agg #[]) (d := .lit (.bool true)) (ps := []) rfl
 have HF : Hid (Gth N w3 G P K v els ss pf (fun x => if x = iB low ty cl d then some (.lit (.bool true)) else kf x) np (nk + 1) ∧ Below N W w3 ∧ Kst W w3) := by
  refine ⟨gU2dd.turned t3 gU2dd.mn.isMap (gU2dd.mp.same ?_) m3, ?_, (((Kst.of_below bU).blk bU2).drew.drew).turned t3 gU2dd.mn.isMap⟩
  ·exact turned_same t3 h.pk gU2dd.mp.lt
  ·exact ((bU.trans (bU2.mono bU.size)).drew.drew.mono hN).trans (turned_below t3 h.nK)
 have cG : U.cell? ⟨G, 2, none⟩ = some (.map (some K)) := by rw [So.cell_blk gU.gb]; rfl
 have cG2 : U2.cell? ⟨G, 2, none⟩ = some (.map (some K)) := by rw [So.cell_blk gU2.gb]; rfl
 have hX2 := hX.blk bU2
 have x0 := hX.cell 0 _ rfl
 have x1 := hX.cell 1 _ rfl
 have x2 := hX.cell 2 _ rfl
 have x3 := hX.cell 3 _ rfl
 have y0 := hX2.cell 0 _ rfl
 have y1 := hX2.cell 1 _ rfl
 have y2 := hX2.cell 2 _ rfl
 have y3 := hX2.cell 3 _ rfl
 obtain ⟨q, hq⟩ : ∃ q, (kf (iB low ty cl d)).isSome = q := ⟨_, rfl⟩
 rw [hq] at lk1 lk2 ⊢
 have HU := Hid.mk hU
 clear hU bU bU2 hX hX2 gU gU2 gUd gU2d gU2dd r1 r2 m3 t3 kk h hq
 subst hU2
 go_enter Tryz.func117, Tryz.ntmps117
 go_wp2_with fail
 rw [HU.out]
 go_region
 all_goals (go_wp2_with fail; go_region)
 all_goals (go_wp2; go_ret; exact ⟨rfl, HF.out⟩)
end Go.Proofs.YtdlcldjlfhmlgaaGreatDoor
/- Layer 8: setFor. -/
namespace Go.Proofs.YtdlcldjlfhmlgaaGreatDoor
open Go.RowKit
open Go.MapKept Go.WideMaps
open So (El elC)
theorem plF_snoc (ss : List St) (s : St) (x : List UInt8) (hn : ∀ t ∈ ss, kB (nm (lowN t.ls)) t.ty t.cl ≠ kB (nm (lowN s.ls)) s.ty s.cl) : plF (ss ++ [s]) x = if x = kB (nm (lowN s.ls)) s.ty s.cl then some (.lit (.int .i64 (ss.length : Int))) else plF ss x := by
 by_cases h : x = kB (nm (lowN s.ls)) s.ty s.cl
 ·rw [if_pos h, h]
  refine plF_some (i := ss.length) (by simp) (by simp) (fun j hj hlt => ?_)
  rw [List.getElem_append_left hlt]
  exact hn _ (List.getElem_mem hlt)
 ·rw [if_neg h]
  unfold plF
  rw [List.findIdx?_append]
  have : List.findIdx? (fun s => decide (kB (nm (lowN s.ls)) s.ty s.cl = x)) [s] = none := by
   rw [List.findIdx?_eq_none_iff]
   intro t ht
   obtain rfl := List.mem_singleton.1 ht
   exact decide_eq_false (fun e => h e.symm)
  rw [this]
  simp
def bAppS (a : Array Value) : Sem Value := Builtin.append_ #[37, 37] 37 a
theorem app_s (a : Array Value) : Builtin.append_ #[37, 37] 37 a = bAppS a := rfl
theorem infoSt : (Tryz.prog.info? 44).map (fun i => (i.zero, i.size, i.bytes)) = some (some (.agg #[.string ⟨#[]⟩, .int .i64 0, .int .i64 0, .int .i64 0, .slice none 0 0, .slice none 0 0]), 6, 88) := by kernel_rfl
theorem infoStr : (Tryz.prog.info? 9).map (fun i => (i.zero, i.size, i.bytes)) = some (some (.string ⟨#[]⟩), 1, 16) := by kernel_rfl
theorem info_parts' {e : TypeId} {z : Value} {s b : Nat} (h : (Tryz.prog.info? e).map (fun i => (i.zero, i.size, i.bytes)) = some (some z, s, b)) : ∃ i, Tryz.prog.info? e = some i ∧ i.zero = some z ∧ i.size = s ∧ i.bytes = b := by
 cases hi : Tryz.prog.info? e with
 | none => rw [hi] at h; simp at h
 | some i => rw [hi] at h; simp at h; exact ⟨i, rfl, h.1, h.2.1, h.2.2⟩
theorem grown_blk {w w' : World} {b : Option Nat} (h : w.grownBy w' b) {x : Nat} (hx : x < w.heap.size) (hn : b ≠ some x) : w'.heap[x]? = w.heap[x]? := h.block x hx (fun e => hn e.symm)
set_option maxRecDepth 100000 in
theorem app_set {N : Nat} {w : World} {G P K : Nat} {v : Value} {els : List El} {ss : List St} {pf kf : List UInt8 → Option (DataW Unit)} {np nk : Nat} (h : Gth N w G P K v els ss pf kf np nk) (hN : N ≤ w.heap.size) (hl : els.length ≤ 1000) (e : El) (s : St) (hls : e.ls = s.ls) (hty : e.ty = s.ty) (hcl : e.cl = s.cl) (htl : e.tl = s.tl) (hdv : e.dv = nilS) (hsv : e.sv = nilS) (hds : s.ds = []) :
  ∃ v' w3, (bAppS #[v, .slice (some ⟨w.heap.size, 0, none⟩) 1 1]).run Tryz.prog (w.alloc (.cells #[.string (nm e.ls), .int .i64 e.ty, .int .i64 e.cl, .int .i64 e.tl, nilS, nilS] 44)) = .ok v' w3 ∧ w3.cell? ⟨G, 0, none⟩ = some v ∧ w3.frozen? ⟨G, 0, none⟩ = false ∧
   Hid (Gth N (w3.setCell ⟨G, 0, none⟩ v') G P K v' (els ++ [e]) (ss ++ [s]) pf kf np nk ∧ Below N w (w3.setCell ⟨G, 0, none⟩ v') ∧ Kst w w3 ∧ Kst w (w3.setCell ⟨G, 0, none⟩ v')) := by
 obtain ⟨i0, hi, hz0, hz1, hz2⟩ := info_parts' infoSt
 obtain ⟨U, hU⟩ : ∃ U, w.alloc (.cells #[.string (nm e.ls), .int .i64 e.ty, .int .i64 e.cl, .int .i64 e.tl, nilS, nilS] 44) = U := ⟨_, rfl⟩
 have hec : e.c = [.string (nm e.ls), .int .i64 e.ty, .int .i64 e.cl, .int .i64 e.tl, nilS, nilS] := by rw [El.c, hdv, hsv]
 have bU : Below w.heap.size w U := hU ▸ (Below.refl _ _).alloc (Nat.le_refl _) _
 have gU := h.blk bU
 have hsz : U.heap.size = w.heap.size + 1 := by rw [← hU]; simp
 have hnew : U.heap[w.heap.size]? = some (.cells #[.string (nm e.ls), .int .i64 e.ty, .int .i64 e.cl, .int .i64 e.tl, nilS, nilS] 44 (0, 0)) := hU ▸ heap_alloc_new w _
 have hnews : ∀ (j : Nat) u, e.c[j]? = some u → U.cell? ((⟨w.heap.size, 0, none⟩ : Addr).add j) = some u := fun j u hu => by
  rw [So.add_of, Nat.zero_add, So.cell_blk hnew, ← hu, hec, List.getElem?_toArray]
 have hone : ∀ u ∈ e.c, u.oneCell' = true := by
  intro u hu
  rw [hec] at hu
  simp only [List.mem_cons, List.not_mem_nil, or_false] at hu
  rcases hu with rfl | rfl | rfl | rfl | rfl | rfl <;> rfl
 obtain ⟨v', w3, hrun, hown, hg, _, hat⟩ := run_append_own_at (P := Tryz.prog) U N 37 37 44 i0 _ 6 88 Tryz.underlying37 hi hz0 hz1 hz2 rfl (by decide) v els.length (elC els) gU.row ⟨w.heap.size, 0, none⟩ 1 1 e.c (by rw [El.len]) hnews hone (by unfold maxLen; omega) (by omega) (by omega)
 refine ⟨v', w3, by rw [hU]; exact hrun, ?_, ?_, ?_⟩
 all_goals have hGs : w3.heap[G]? = U.heap[G]? := grown_blk hg (Array.getElem?_eq_some_iff.1 gU.gb).1 (fun e0 => by
  obtain ⟨_, _, c, hc⟩ := own_lt gU.row e0
  rw [gU.gb] at hc
  simp at hc)
 ·rw [So.cell_blk (hGs.trans gU.gb)]; rfl
 ·unfold World.frozen?; simp [hGs.trans gU.gb]
 ·have hG3 := hGs.trans gU.gb
  have hother : ∀ (b : Nat) (c : Array Value) (t : TypeId) (f : Nat × Nat), U.heap[b]? = some (.cells c t f) → t ≠ 44 → t ≠ 137 → (w3.setCell ⟨G, 0, none⟩ v').heap[b]? = U.heap[b]? := by
   intro b c t f hb h1 h2
   have hbG : b ≠ G := fun e0 => by subst e0; rw [gU.gb] at hb; cases hb; exact h2 rfl
   rw [Below.heap_setCell _ _ _ _ hbG]
   refine grown_blk hg (Array.getElem?_eq_some_iff.1 hb).1 (fun e0 => ?_)
   obtain ⟨_, _, c', hc⟩ := own_lt gU.row e0
   rw [hb] at hc
   cases hc
   exact h1 rfl
  have hmap : ∀ (b : Nat) (es : Array MapEntry) (c : Nat), U.heap[b]? = some (.map es c) → (w3.setCell ⟨G, 0, none⟩ v').heap[b]? = U.heap[b]? := by
   intro b es c hb
   have hbG : b ≠ G := fun e0 => by subst e0; rw [gU.gb] at hb; cases hb
   rw [Below.heap_setCell _ _ _ _ hbG]
   refine grown_blk hg (Array.getElem?_eq_some_iff.1 hb).1 (fun e0 => ?_)
   obtain ⟨_, _, c', hc⟩ := own_lt gU.row e0
   rw [hb] at hc
   cases hc
  obtain ⟨es1, c1, hm1⟩ := gU.mp.isMap
  obtain ⟨es2, c2, hm2⟩ := gU.mn.isMap
  refine ⟨⟨h.nG, h.nP, h.nK, h.pk, ?_, ?_, ?_, ?_, gU.mp.same (hmap _ _ _ hm1), gU.mn.same (hmap _ _ _ hm2)⟩, ?_, ?_, ?_⟩
  ·rw [hset hG3]; rfl
  ·rw [So.elC_app, List.length_append]
   refine own_same (w := w3) ?_ (fun b c f hb hc => Below.heap_setCell _ _ _ _ (fun e0 => by subst e0; rw [hG3] at hc; cases hc))
   have e2 : elC [e] = e.c := by rw [So.elC_cons]; simp [elC]
   rw [e2]
   exact hown
  ·refine (gU.rel.mono fun e s hs => hs.keep fun b c f _ hc => hother b c _ f hc (by decide) (by decide)).app ⟨⟨hls, hty, hcl, htl, hsv, ?_⟩, trivial⟩
   rw [hdv, hds]
   exact ⟨rfl, .inl ⟨rfl, rfl⟩⟩
  ·rw [List.map_append, List.pairwise_append]
   refine ⟨h.dis, by simp, fun a ha b hb => ?_⟩
   simp only [List.map_cons, List.map_nil, List.mem_singleton] at hb
   rw [hb, hdv]
   exact .inr (.inl rfl)
  ·have b3 : Below N U w3 := (Below.refl _ _).grown hg (by omega) (fun b hb' => (own_lt gU.row hb').2.1)
   exact ((bU.mono hN).trans b3).setCell (p := ⟨G, 0, none⟩) h.nG _
  ·exact (Kst.of_below bU).grown gU.row (.inl rfl) hg
  ·exact ((Kst.of_below bU).grown gU.row (.inl rfl) hg).set hG3 (.inr (.inl rfl)) _
end Go.Proofs.YtdlcldjlfhmlgaaGreatDoor
