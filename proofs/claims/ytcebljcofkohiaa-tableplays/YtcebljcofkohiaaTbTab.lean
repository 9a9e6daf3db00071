/- Layer 11: a table in memory: what lies where; facts alone. -/
import Derived.Test.YtcebljcofkohiaaTbFind
import Derived.Below
namespace Go.Proofs.Ytcebljcofkohiaa
set_option linter.unusedVariables false
open Go.RowKit
open Go.MapKept Go.WideMaps

theorem Hid.mk {p : Prop} (h : p) : Hid p := h

/-! ### what a call may turn -/
structure Kp (S : Nat → Prop) (w w' : World) : Prop where
  os : w'.os = w.os
  tape : w'.tape = w.tape
  output : w'.output = w.output
  size : w.heap.size ≤ w'.heap.size
  same : ∀ b, b < w.heap.size → ¬ S b → w'.heap[b]? = w.heap[b]?
theorem Kp.refl (S : Nat → Prop) (w : World) : Kp S w w := ⟨rfl, rfl, rfl, Nat.le_refl _, fun _ _ _ => rfl⟩
theorem Kp.mono {S S' : Nat → Prop} {w w' : World} (h : Kp S w w') (hs : ∀ b, b < w.heap.size → S b → S' b) : Kp S' w w' :=
  ⟨h.os, h.tape, h.output, h.size, fun b hb hn => h.same b hb (fun x => hn (hs b hb x))⟩
theorem Kp.trans {S S' : Nat → Prop} {a b c : World} (h : Kp S a b) (k : Kp S' b c) (hs : ∀ x, x < a.heap.size → S' x → S x) : Kp S a c :=
  ⟨k.os.trans h.os, k.tape.trans h.tape, k.output.trans h.output, Nat.le_trans h.size k.size, fun x hx hn => (k.same x (Nat.lt_of_lt_of_le hx h.size) (fun z => hn (hs x hx z))).trans (h.same x hx hn)⟩
theorem Kp.set {S : Nat → Prop} {a w : World} (h : Kp S a w) {p : Addr} (hp : S p.block ∨ a.heap.size ≤ p.block) (v : Value) : Kp S a (w.setCell p v) :=
  ⟨h.os, h.tape, h.output, by simpa [World.setCell] using h.size, fun b hb hn => (Below.heap_setCell _ _ _ _ (fun e => by subst e; exact hp.elim hn (fun h => by omega))).trans (h.same b hb hn)⟩
theorem Kp.drew {S : Nat → Prop} {a w : World} (h : Kp S a w) : Kp S a w.drew := ⟨h.os, h.tape, h.output, h.size, h.same⟩
theorem Kp.alloc {S : Nat → Prop} {a w : World} (h : Kp S a w) (o : Obj) : Kp S a (w.alloc o) :=
  ⟨h.os, h.tape, h.output, Nat.le_trans h.size (by simp), fun b hb hn => (Below.heap_alloc _ _ _ (Nat.lt_of_lt_of_le hb h.size)).trans (h.same b hb hn)⟩
theorem Kp.below {S : Nat → Prop} {w w' : World} (h : Kp S w w') {B : Nat} (hB : B ≤ w.heap.size) (hs : ∀ b, b < B → ¬ S b) : Below B w w' :=
  ⟨h.os, h.tape, h.output, h.size, fun b hb => h.same b (Nat.lt_of_lt_of_le hb hB) (hs b hb)⟩
theorem Kp.of_below {S : Nat → Prop} {w w' : World} (h : Below w.heap.size w w') : Kp S w w' := ⟨h.os, h.tape, h.output, h.size, fun b hb _ => h.block b hb⟩
theorem Kp.turned {S : Nat → Prop} {a w w' : World} {M : Nat} (h : Kp S a w) (ht : w.mapTurned w' M) (hM : S M) : Kp S a w' := by
  have hg := ht.grown
  exact ⟨hg.os.trans h.os, hg.tape.trans h.tape, hg.output.trans h.output, Nat.le_trans h.size hg.size, fun b hb hn => (hg.block b (Nat.lt_of_lt_of_le hb h.size) (fun e => by cases e; exact hn hM)).trans (h.same b hb hn)⟩

/-! ### places -/
def Plc (w : World) (b : Nat) : Prop := ∃ c, w.heap[b]? = some (.cells c 62 (0, 0)) ∧ c.size = 4
theorem blk_lt {w : World} {b : Nat} {o : Obj} (h : w.heap[b]? = some o) : b < w.heap.size := (Array.getElem?_eq_some_iff.1 h).1
theorem frozen_of {w : World} {b : Nat} {c : Array Value} {t : TypeId} (h : w.heap[b]? = some (.cells c t (0, 0))) (i : Nat) : w.frozen? ⟨b, i, none⟩ = false := by
  unfold World.frozen?
  rw [show (⟨b, i, none⟩ : Addr).block = b from rfl, h]
  simp
theorem Plc.frozen {w : World} {b : Nat} (h : Plc w b) (i : Nat) : w.frozen? ⟨b, i, none⟩ = false := by
  obtain ⟨c, h, _⟩ := h
  exact frozen_of h i
theorem Plc.lt {w : World} {b : Nat} (h : Plc w b) : b < w.heap.size := by
  obtain ⟨c, h, _⟩ := h
  exact blk_lt h
theorem Plc.cell {w : World} {b : Nat} (h : Plc w b) (i : Nat) (hi : i < 4) : ∃ x, w.cell? ⟨b, i, none⟩ = some x := by
  obtain ⟨c, h, hc⟩ := h
  rw [cell_of_row w b i c _ _ h]
  exact ⟨c[i], Array.getElem?_eq_getElem (by omega)⟩
theorem heap_set_same {w : World} {b : Nat} {c : Array Value} {t : TypeId} {f : Nat × Nat} (h : w.heap[b]? = some (.cells c t f)) (i : Nat) (v : Value) : (w.setCell ⟨b, i, none⟩ v).heap[b]? = some (.cells (c.setIfInBounds i v) t f) := by
  simp only [World.setCell, Array.getElem?_modify, if_true, h]
  rfl
theorem Plc.set {w : World} {b : Nat} (h : Plc w b) (p : Addr) (v : Value) : Plc (w.setCell p v) b := by
  by_cases e : b = p.block
  · obtain ⟨c, h, hc⟩ := h
    obtain ⟨pb, po, ps⟩ := p
    simp only at e
    subst e
    cases ps with
    | none => exact ⟨_, heap_set_same h po v, by simpa using hc⟩
    | some s => exact ⟨c, by simp only [World.setCell, Array.getElem?_modify, if_true, h]; rfl, hc⟩
  · obtain ⟨c, h, hc⟩ := h
    exact ⟨c, (Below.heap_setCell _ _ _ _ e).trans h, hc⟩
theorem Plc.of_same {w w' : World} {b : Nat} (h : Plc w b) (e : w'.heap[b]? = w.heap[b]?) : Plc w' b := by
  obtain ⟨c, h, hc⟩ := h
  exact ⟨c, e.trans h, hc⟩
theorem cell_same {w w' : World} {b i : Nat} (e : w'.heap[b]? = w.heap[b]?) : w'.cell? ⟨b, i, none⟩ = w.cell? ⟨b, i, none⟩ := World.cell?_of_block (w := w) e
theorem cell_set_o {w : World} {b i b' i' : Nat} {v : Value} (h : b' = b → i' ≠ i) : (w.setCell ⟨b', i', none⟩ v).cell? ⟨b, i, none⟩ = w.cell? ⟨b, i, none⟩ :=
  World.cell?_setCell_other _ _ _ _ (fun e => by cases e; exact h rfl rfl)

/-! ### the ring -/
def Links (w : World) : List Nat → Prop
  | a :: b :: r => w.cell? ⟨a, 3, none⟩ = some (pt b) ∧ w.cell? ⟨b, 2, none⟩ = some (pt a) ∧ Links w (b :: r)
  | _ => True
theorem Links.split {w : World} : ∀ (A : List Nat) (a : Nat) (B : List Nat), Links w (A ++ a :: B) ↔ Links w (A ++ [a]) ∧ Links w (a :: B)
  | [], a, B => by simp [Links]
  | [x], a, B => by simp [Links, and_assoc]
  | x :: y :: A, a, B => by
    have := Links.split (w := w) (y :: A) a B
    simp only [List.cons_append, Links] at this ⊢
    rw [this]
    simp [and_assoc]
theorem Links.frame {w w' : World} : ∀ (ch : List Nat), Links w ch → (∀ a ∈ ch.dropLast, w'.cell? ⟨a, 3, none⟩ = w.cell? ⟨a, 3, none⟩) → (∀ b ∈ ch.tail, w'.cell? ⟨b, 2, none⟩ = w.cell? ⟨b, 2, none⟩) → Links w' ch
  | [], _, _, _ => trivial
  | [_], _, _, _ => trivial
  | a :: b :: r, h, h3, h2 => ⟨(h3 a (by simp)).trans h.1, (h2 b (by simp)).trans h.2.1, Links.frame (b :: r) h.2.2 (fun x hx => h3 x (by simp only [List.dropLast_cons_cons]; exact List.mem_cons_of_mem _ hx)) (fun x hx => h2 x (by simp only [List.tail_cons] at hx ⊢; exact List.mem_cons_of_mem _ hx))⟩

/-- a key's place, the key, its value. -/
structure Ent where
  b : Nat
  k : ByteArray
  v : Int
def bs (L : List Ent) : List Nat := L.map Ent.b
def ks (L : List Ent) : List ByteArray := L.map Ent.k

structure Row (w : World) (E : Nat) (L : List Ent) : Prop where
  links : Links w (E :: (bs L ++ [E]))
  nd : (E :: bs L).Nodup
  plc : ∀ b ∈ E :: bs L, Plc w b
  key : ∀ e ∈ L, w.cell? ⟨e.b, 0, none⟩ = some (.string e.k)
  val : ∀ e ∈ L, w.cell? ⟨e.b, 1, none⟩ = some (.int .i64 e.v)

theorem Row.same {w w' : World} {E : Nat} {L : List Ent} (h : Row w E L) (hs : ∀ b ∈ E :: bs L, w'.heap[b]? = w.heap[b]?) : Row w' E L where
  links := h.links.frame _ (fun a ha => cell_same (hs a (by
      have : (E :: (bs L ++ [E])).dropLast = E :: bs L := by rw [← List.cons_append, List.dropLast_concat]
      rw [this] at ha; exact ha))) (fun b hb => cell_same (hs b (by simp at hb ⊢; rcases hb with h | h <;> simp [h])))
  nd := h.nd
  plc := fun b hb => (h.plc b hb).of_same (hs b hb)
  key := fun e he => (cell_same (hs e.b (List.mem_cons_of_mem _ (List.mem_map_of_mem he)))).trans (h.key e he)
  val := fun e he => (cell_same (hs e.b (List.mem_cons_of_mem _ (List.mem_map_of_mem he)))).trans (h.val e he)

/-- how a map's element reads: a place, or none. -/
def plR : Value → Option (DataW Unit × List MemPlace)
  | .pointer none => some (.nil, [])
  | .pointer (some ⟨b, 0, none⟩) => some (.lit (.int .i64 b), [])
  | _ => none
theorem plR_nil {v : Value} {ps : List MemPlace} (h : plR v = some (.nil, ps)) : v = nilP := by
  unfold plR at h
  split at h
  · rfl
  · simp at h
  · simp at h
theorem plR_pt {v : Value} {ps : List MemPlace} {b : Nat} (h : plR v = some (.lit (.int .i64 b), ps)) : v = pt b := by
  unfold plR at h
  split at h
  · simp at h
  · rename_i b' 
    simp at h
    have : b' = b := by omega
    rw [this]
  · simp at h
abbrev kl (k : ByteArray) : Lit := .string k.data.toList
theorem kl_inj {a b : ByteArray} (h : kl a = kl b) : a = b := by
  have h' : a.data.toList = b.data.toList := by simpa using h
  cases a; cases b
  simp at h'
  rw [h']
def MapAt (w : World) (M n : Nat) (L : List Ent) : Prop :=
  ∃ D : DataW Unit, w.ownsMap Try.prog 9 plR M n D ∧ (∀ e ∈ L, D.atKey (kl e.k) .nil = .lit (.int .i64 e.b)) ∧ ∀ k, (∀ e ∈ L, e.k ≠ k) → D.atKey (kl k) .nil = .nil
theorem keyed : Go.Maps.Keyed Try.prog 9 := Go.Maps.string_keyed Try.underlying9
theorem zeroPl (w : World) : (zeroValue 52).run Try.prog w = .ok nilP w := by kernel_rfl
theorem MapAt.same {w w' : World} {M n : Nat} {L : List Ent} (h : MapAt w M n L) (e : w'.heap[M]? = w.heap[M]?) : MapAt w' M n L := by
  obtain ⟨D, ⟨es, clock, hb, r⟩, h⟩ := h
  exact ⟨D, ⟨es, clock, e.trans hb, r⟩, h⟩
theorem MapAt.lt {w : World} {M n : Nat} {L : List Ent} (h : MapAt w M n L) : M < w.heap.size := by
  obtain ⟨D, h, _⟩ := h
  exact h.lt
theorem MapAt.isMap {w : World} {M n : Nat} {L : List Ent} (h : MapAt w M n L) : ∃ es clock, w.heap[M]? = some (.map es clock) := by
  obtain ⟨D, ⟨es, clock, hb, _⟩, _⟩ := h
  exact ⟨es, clock, hb⟩
theorem MapAt.hit {w : World} {M n : Nat} {L : List Ent} (h : MapAt w M n L) {e : Ent} (he : e ∈ L) (hs : e.k.size ≤ maxLen) :
    (Instr.lookup 56 (.map (some M)) (.string e.k) false).run Try.prog w = .ok (pt e.b) w := by
  obtain ⟨D, hD, h1, h2⟩ := h
  obtain ⟨v, ps, hr, hv⟩ := hD.lookup keyed Try.underlying56 (zeroPl _) (zd := .nil) (zp := []) rfl (keyOf_string_mk Try.underlying9 hs)
  rw [h1 e he] at hv
  rw [hr, plR_pt hv]
theorem MapAt.miss {w : World} {M n : Nat} {L : List Ent} (h : MapAt w M n L) {k : ByteArray} (hk : ∀ e ∈ L, e.k ≠ k) (hs : k.size ≤ maxLen) :
    (Instr.lookup 56 (.map (some M)) (.string k) false).run Try.prog w = .ok nilP w := by
  obtain ⟨D, hD, h1, h2⟩ := h
  obtain ⟨v, ps, hr, hv⟩ := hD.lookup keyed Try.underlying56 (zeroPl _) (zd := .nil) (zp := []) rfl (keyOf_string_mk Try.underlying9 hs)
  rw [h2 k hk] at hv
  rw [hr, plR_nil hv]
theorem MapAt.perm {w : World} {M n : Nat} {L L' : List Ent} (h : MapAt w M n L) (hm : ∀ k b, (∃ e ∈ L', e.k = k ∧ e.b = b) ↔ ∃ e ∈ L, e.k = k ∧ e.b = b) : MapAt w M n L' := by
  obtain ⟨D, hD, h1, h2⟩ := h
  refine ⟨D, hD, fun e he => ?_, fun k hk => h2 k fun e he heq => ?_⟩
  · obtain ⟨e', he', hk', hb'⟩ := (hm e.k e.b).1 ⟨e, he, rfl, rfl⟩
    rw [← hk', ← hb']
    exact h1 e' he'
  · obtain ⟨e', he', hk', _⟩ := (hm k e.b).2 ⟨e, he, heq, rfl⟩
    exact hk e' he' hk'
theorem MapAt.put {w : World} {M n : Nat} {L : List Ent} (h : MapAt w M n L) (e : Ent) (hn : n < maxLen) (hs : e.k.size ≤ maxLen) (hk : ∀ x ∈ L, x.k ≠ e.k) :
    ∃ w', (Instr.mapUpdate 56 (.map (some M)) (.string e.k) (pt e.b)).run Try.prog w = .ok () w' ∧ MapAt w' M (n + 1) (e :: L) ∧ w.mapTurned w' M := by
  obtain ⟨D, hD, h1, h2⟩ := h
  obtain ⟨w', hr, hD', ht⟩ := hD.store keyed Try.underlying56 hn (keyOf_string_mk Try.underlying9 hs) (val := pt e.b) (d := .lit (.int .i64 e.b)) (ps := []) rfl
  refine ⟨w', hr, ⟨_, hD', fun x hx => ?_, fun k hx => ?_⟩, ht⟩
  · rcases List.mem_cons.1 hx with rfl | hx
    · exact Go.Maps.atKey_put_same (k := kl _) hD.isMap trivial _ _
    · rw [Go.Maps.atKey_put_other (fun e' => hk x hx (kl_inj e'))]
      exact h1 x hx
  · rw [Go.Maps.atKey_put_other (fun e' => hx e (by simp) (kl_inj e').symm)]
    exact h2 k fun y hy => hx y (by simp [hy])
theorem MapAt.del {w : World} {M n : Nat} {X Y : List Ent} {e : Ent} (h : MapAt w M n (X ++ e :: Y)) (hs : e.k.size ≤ maxLen) (hk : ∀ x ∈ X ++ Y, x.k ≠ e.k) (ty : TypeId) :
    ∃ w', (Builtin.delete_ #[56, 9] ty #[.map (some M), .string e.k]).run Try.prog w = .ok (.tuple #[]) w' ∧ MapAt w' M n (X ++ Y) ∧ w.mapTurned w' M := by
  obtain ⟨D, hD, h1, h2⟩ := h
  obtain ⟨w', hr, hD', ht⟩ := hD.drop keyed Try.underlying56 (keyOf_string_mk Try.underlying9 hs) ty
  refine ⟨w', hr, ⟨_, hD', fun x hx => ?_, fun k hx => ?_⟩, ht⟩
  · rw [Go.Maps.atKey_del_other (fun e' => hk x hx (kl_inj e'))]
    exact h1 x (by simp at hx ⊢; rcases hx with h | h <;> simp [h])
  · by_cases hke : k = e.k
    · subst hke
      exact Go.Maps.atKey_del_same _
    · rw [Go.Maps.atKey_del_other (fun e' => hke (kl_inj e'))]
      refine h2 k fun y hy => ?_
      simp at hy
      rcases hy with hy | rfl | hy
      · exact hx y (by simp [hy])
      · exact fun e' => hke e'.symm
      · exact hx y (by simp [hy])

structure Tab (w : World) (T E M : Nat) (most : Int) (n : Nat) (L : List Ent) : Prop where
  tb : w.heap[T]? = some (.cells #[.int .i64 most, pt E, .int .i64 (L.length : Int), .map (some M)] 58 (0, 0))
  row : Row w E L
  mp : MapAt w M n L
  kn : (ks L).Nodup
  len : L.length ≤ 100001
  sz : ∀ e ∈ L, e.k.size ≤ maxLen
/-- the blocks of a table. -/
def tS (T E M : Nat) (L : List Ent) (b : Nat) : Prop := b = T ∨ b = M ∨ b = E ∨ b ∈ bs L
theorem Tab.same {w w' : World} {T E M : Nat} {most : Int} {n : Nat} {L : List Ent} (h : Tab w T E M most n L) (hs : ∀ b, tS T E M L b → w'.heap[b]? = w.heap[b]?) : Tab w' T E M most n L where
  tb := (hs T (.inl rfl)).trans h.tb
  row := h.row.same fun b hb => hs b ((List.mem_cons.1 hb).elim (fun e => .inr (.inr (.inl e))) (fun e => .inr (.inr (.inr e))))
  mp := h.mp.same (hs M (.inr (.inl rfl)))
  kn := h.kn
  len := h.len
  sz := h.sz
theorem Tab.c1 {w : World} {T E M : Nat} {most : Int} {n : Nat} {L : List Ent} (h : Tab w T E M most n L) : w.cell? ⟨T, 1, none⟩ = some (pt E) := by rw [cell_of_row _ _ _ _ _ _ h.tb]; rfl
theorem Tab.c0 {w : World} {T E M : Nat} {most : Int} {n : Nat} {L : List Ent} (h : Tab w T E M most n L) : w.cell? ⟨T, 0, none⟩ = some (.int .i64 most) := by rw [cell_of_row _ _ _ _ _ _ h.tb]; rfl
theorem Tab.c2 {w : World} {T E M : Nat} {most : Int} {n : Nat} {L : List Ent} (h : Tab w T E M most n L) : w.cell? ⟨T, 2, none⟩ = some (.int .i64 (L.length : Int)) := by rw [cell_of_row _ _ _ _ _ _ h.tb]; rfl
theorem Tab.c3 {w : World} {T E M : Nat} {most : Int} {n : Nat} {L : List Ent} (h : Tab w T E M most n L) : w.cell? ⟨T, 3, none⟩ = some (.map (some M)) := by rw [cell_of_row _ _ _ _ _ _ h.tb]; rfl
theorem Tab.noPlc {w : World} {T E M : Nat} {most : Int} {n : Nat} {L : List Ent} (h : Tab w T E M most n L) {b : Nat} (hb : Plc w b) : ¬ T = b := fun e => by
  subst e
  obtain ⟨c, hc, _⟩ := hb
  rw [h.tb] at hc
  simp at hc
theorem Tab.noMap {w : World} {T E M : Nat} {most : Int} {n : Nat} {L : List Ent} (h : Tab w T E M most n L) {b : Nat} (hb : Plc w b) : ¬ M = b := fun e => by
  subst e
  obtain ⟨c, hc, _⟩ := hb
  obtain ⟨es, cl, hm⟩ := h.mp.isMap
  rw [hm] at hc
  simp at hc
theorem Tab.tm {w : World} {T E M : Nat} {most : Int} {n : Nat} {L : List Ent} (h : Tab w T E M most n L) : ¬ T = M := fun e => by
  subst e
  obtain ⟨es, cl, hm⟩ := h.mp.isMap
  rw [h.tb] at hm
  simp at hm
theorem Tab.lt {w : World} {T E M : Nat} {most : Int} {n : Nat} {L : List Ent} (h : Tab w T E M most n L) {b : Nat} (hb : tS T E M L b) : b < w.heap.size := by
  rcases hb with rfl | rfl | rfl | hb
  · exact blk_lt h.tb
  · exact h.mp.lt
  · exact (h.row.plc _ (by simp)).lt
  · exact (h.row.plc b (List.mem_cons_of_mem _ hb)).lt
theorem Tab.blk {w w' : World} {T E M : Nat} {most : Int} {n : Nat} {L : List Ent} (h : Tab w T E M most n L) (hb : Below w.heap.size w w') : Tab w' T E M most n L := h.same fun b hs => hb.block b (h.lt hs)
theorem Tab.alloc {w : World} {T E M : Nat} {most : Int} {n : Nat} {L : List Ent} (h : Tab w T E M most n L) (o : Obj) : Tab (w.alloc o) T E M most n L := h.blk ((Below.refl _ _).alloc (Nat.le_refl _) _)
theorem Tab.drew {w : World} {T E M : Nat} {most : Int} {n : Nat} {L : List Ent} (h : Tab w T E M most n L) : Tab w.drew T E M most n L := h.same fun _ _ => rfl

end Go.Proofs.Ytcebljcofkohiaa
