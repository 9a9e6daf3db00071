/- Texts of this proof, joined: RcFind, RcTab, RcOps, RcPush, RcCalls. -/
import Derived.Test.YtikjepodmdaknaaGreatDoorJ14
import Derived.Defers
import Derived.Recover
import Derived.Laws.Pointers
import Derived.Below
import Derived.Test.YtikjepodmdaknaaGreatDoorJ11
import Derived.Deep.RegionLaw
import Derived.Deep.RegionWith
import Derived.Deep.WholeRow
set_option linter.unusedVariables false
set_option linter.unusedSimpArgs false
/- Layer 16's table: a key is looked up. -/
namespace Go.Proofs.YtikjepodmdaknaaGreatDoor.Rc
open Go.RowKit
theorem catch_idle (p q : Value) (w : World) :
  CallsD Tryz.prog 129 #[p, q] .returning w fun e u' w' => e = .returned (.tuple #[]) ∧ u' = .returning ∧ w' = w := by
 refine callsD_of_wpS Tryz.func129 rfl fun c₀ cs hu => ?_
 apply wpS_seq
 apply wpS_region
 simp [wpOpsS, go_sem, recoverD, hu, Tryz.ntmps129, Exit.thenS]
 refine wpS_cond (t := false) (by simp [Act.eval, Array.replicate]) ?_
 simp only [Bool.false_eq_true, if_false]
 refine wpS_of_wp (wp_skip ?_)
 cases c₀
 simp_all [bodyPostS, results, Tryz.results129]
theorem find_in (w : World) (T M : Nat) (k : Ky) (a : Option Addr) (hT3 : w.cell? ⟨T, 3, none⟩ = some (.map (some M))) (hTl : T < w.heap.size)
  (hL : ∀ o0 o1 o2 : Obj, (Instr.lookup 159 (.map (some M)) (kV k) false).run Tryz.prog (((w.alloc o0).alloc o1).alloc o2).drew = .ok (.pointer a) (((w.alloc o0).alloc o1).alloc o2).drew) :
  Calls Tryz.prog 89 #[pt T, kV k] w fun e w' => e = .returned (.tuple #[.pointer a, .bool true]) ∧ w' = (((w.alloc (.cells #[.string k.1, .int .i64 k.2] 94)).alloc (.cells #[.pointer a] 155)).alloc (.cells #[.bool true] 4)).drew := by
 have hmf : ∀ (fn : Fn) (first cap : Array Value) (w : World), (Instr.makeFunc fn first cap).run Tryz.prog w = .ok (.func fn first cap) w := fun _ _ _ _ => rfl
 have hc3 : ∀ o0 o1 o2 : Obj, (((w.alloc o0).alloc o1).alloc o2).cell? ⟨T, 3, none⟩ = some (.map (some M)) := fun o0 o1 o2 => (((((Below.refl _ _).alloc (Nat.le_refl _) _).alloc (by simp) _).alloc (by simp; omega) _).cell (p := ⟨T, 3, none⟩) hTl).trans hT3
 have hc3' := hc3 (.cells #[.string k.1, .int .i64 k.2] 94) (.cells #[.pointer none] 155) (.cells #[.bool false] 4)
 clear hc3
 go_enter_defers Tryz.func89, Tryz.ntmps89
 go_wp2
 go_region
 go_wp2
 refine leaves_cons (f := 129) (args := #[.pointer (some ⟨w.heap.size + 1, 0, none⟩), .pointer (some ⟨w.heap.size + 1 + 1, 0, none⟩)]) (by simp) (by simp [go_sem]) ?_
 refine (catch_idle _ _ _).mono ?_
 rintro e u' w'' ⟨rfl, rfl, rfl⟩
 simp [Leaves, settle, results, Tryz.results89, go_sem]
end Go.Proofs.YtikjepodmdaknaaGreatDoor.Rc
/- Layer 16's table: a table in memory: what lies where; facts alone. -/
namespace Go.Proofs.YtikjepodmdaknaaGreatDoor.Rc
open Go.RowKit
open Go.MapKept Go.WideMaps
structure Kp (S : Nat → Prop) (w w' : World) : Prop where
 os : w'.os = w.os
 tape : w'.tape = w.tape
 output : w'.output = w.output
 size : w.heap.size ≤ w'.heap.size
 same : ∀ b, b < w.heap.size → ¬ S b → w'.heap[b]? = w.heap[b]?
theorem Kp.refl (S : Nat → Prop) (w : World) : Kp S w w := ⟨rfl, rfl, rfl, Nat.le_refl _, fun _ _ _ => rfl⟩
theorem Kp.trans {S S' : Nat → Prop} {a b c : World} (h : Kp S a b) (k : Kp S' b c) (hs : ∀ x, x < a.heap.size → S' x → S x) : Kp S a c :=
 ⟨k.os.trans h.os, k.tape.trans h.tape, k.output.trans h.output, Nat.le_trans h.size k.size, fun x hx hn => (k.same x (Nat.lt_of_lt_of_le hx h.size) (fun z => hn (hs x hx z))).trans (h.same x hx hn)⟩
theorem Kp.set {S : Nat → Prop} {a w : World} (h : Kp S a w) {p : Addr} (hp : S p.block ∨ a.heap.size ≤ p.block) (v : Value) : Kp S a (w.setCell p v) :=
 ⟨h.os, h.tape, h.output, by simpa [World.setCell] using h.size, fun b hb hn => (Below.heap_setCell _ _ _ _ (fun e => by subst e; exact hp.elim hn (fun h => by omega))).trans (h.same b hb hn)⟩
theorem Kp.drew {S : Nat → Prop} {a w : World} (h : Kp S a w) : Kp S a w.drew := ⟨h.os, h.tape, h.output, h.size, h.same⟩
theorem Kp.alloc {S : Nat → Prop} {a w : World} (h : Kp S a w) (o : Obj) : Kp S a (w.alloc o) :=
 ⟨h.os, h.tape, h.output, Nat.le_trans h.size (by simp), fun b hb hn => (Below.heap_alloc _ _ _ (Nat.lt_of_lt_of_le hb h.size)).trans (h.same b hb hn)⟩
theorem Kp.below {S : Nat → Prop} {w w' : World} (h : Kp S w w') {B : Nat} (hB : B ≤ w.heap.size) (hs : ∀ b, b < B → ¬ S b) : Below B w w' :=
 ⟨h.os, h.tape, h.output, h.size, fun b hb => h.same b (Nat.lt_of_lt_of_le hb hB) (hs b hb)⟩
theorem Kp.of_below {S : Nat → Prop} {w w' : World} (h : Below w.heap.size w w') : Kp S w w' := ⟨h.os, h.tape, h.output, h.size, fun b hb _ => h.block b hb⟩
theorem Kp.turned {S : Nat → Prop} {a w w' : World} {M : Nat} (h : Kp S a w) (ht : w.mapTurned w' M) (hM : S M) : Kp S a w' := by
 have hg := ht.grown
 exact ⟨hg.os.trans h.os, hg.tape.trans h.tape, hg.output.trans h.output, Nat.le_trans h.size hg.size, fun b hb hn => (hg.block b (Nat.lt_of_lt_of_le hb h.size) (fun e => by cases e; exact hn hM)).trans (h.same b hb hn)⟩
def Plc (w : World) (b : Nat) : Prop := ∃ c, w.heap[b]? = some (.cells c 166 (0, 0)) ∧ c.size = 5
theorem blk_lt {w : World} {b : Nat} {o : Obj} (h : w.heap[b]? = some o) : b < w.heap.size := (Array.getElem?_eq_some_iff.1 h).1
theorem frozen_of {w : World} {b : Nat} {c : Array Value} {t : TypeId} (h : w.heap[b]? = some (.cells c t (0, 0))) (i : Nat) : w.frozen? ⟨b, i, none⟩ = false := by
 unfold World.frozen?
 rw [show (⟨b, i, none⟩ : Addr).block = b from rfl, h]
 simp
theorem Plc.frozen {w : World} {b : Nat} (h : Plc w b) (i : Nat) : w.frozen? ⟨b, i, none⟩ = false := by
 obtain ⟨c, h, _⟩ := h
 exact frozen_of h i
theorem Plc.lt {w : World} {b : Nat} (h : Plc w b) : b < w.heap.size := by
 obtain ⟨c, h, _⟩ := h
 exact blk_lt h
theorem Plc.cell {w : World} {b : Nat} (h : Plc w b) (i : Nat) (hi : i < 5) : ∃ x, w.cell? ⟨b, i, none⟩ = some x := by
 obtain ⟨c, h, hc⟩ := h
 rw [cell_of_row w b i c _ _ h]
 exact ⟨c[i], Array.getElem?_eq_getElem (by omega)⟩
theorem heap_set_same {w : World} {b : Nat} {c : Array Value} {t : TypeId} {f : Nat × Nat} (h : w.heap[b]? = some (.cells c t f)) (i : Nat) (v : Value) : (w.setCell ⟨b, i, none⟩ v).heap[b]? = some (.cells (c.setIfInBounds i v) t f) := by
 simp only [World.setCell, Array.getElem?_modify, if_true, h]
 rfl
theorem Plc.set {w : World} {b : Nat} (h : Plc w b) (p : Addr) (v : Value) : Plc (w.setCell p v) b := by
 by_cases e : b = p.block
 ·obtain ⟨c, h, hc⟩ := h
  obtain ⟨pb, po, ps⟩ := p
  simp only at e
  subst e
  cases ps with
  | none => exact ⟨_, heap_set_same h po v, by simpa using hc⟩
  | some s => exact ⟨c, by simp only [World.setCell, Array.getElem?_modify, if_true, h]; rfl, hc⟩
 ·obtain ⟨c, h, hc⟩ := h
  exact ⟨c, (Below.heap_setCell _ _ _ _ e).trans h, hc⟩
theorem Plc.of_same {w w' : World} {b : Nat} (h : Plc w b) (e : w'.heap[b]? = w.heap[b]?) : Plc w' b := by
 obtain ⟨c, h, hc⟩ := h
 exact ⟨c, e.trans h, hc⟩
theorem cell_same {w w' : World} {b i : Nat} (e : w'.heap[b]? = w.heap[b]?) : w'.cell? ⟨b, i, none⟩ = w.cell? ⟨b, i, none⟩ := World.cell?_of_block (w := w) e
theorem cell_set_o {w : World} {b i b' i' : Nat} {v : Value} (h : b' = b → i' ≠ i) : (w.setCell ⟨b', i', none⟩ v).cell? ⟨b, i, none⟩ = w.cell? ⟨b, i, none⟩ :=
 World.cell?_setCell_other _ _ _ _ (fun e => by cases e; exact h rfl rfl)
def Links (w : World) : List Nat → Prop
 | a :: b :: r => w.cell? ⟨a, 4, none⟩ = some (pt b) ∧ w.cell? ⟨b, 3, none⟩ = some (pt a) ∧ Links w (b :: r)
 | _ => True
theorem Links.split {w : World} : ∀ (A : List Nat) (a : Nat) (B : List Nat), Links w (A ++ a :: B) ↔ Links w (A ++ [a]) ∧ Links w (a :: B)
 | [], a, B => by simp [Links]
 | [x], a, B => by simp [Links, and_assoc]
 | x :: y :: A, a, B => by
  have := Links.split (w := w) (y :: A) a B
  simp only [List.cons_append, Links] at this ⊢
  rw [this]
  simp [and_assoc]
theorem Links.frame {w w' : World} : ∀ (ch : List Nat), Links w ch → (∀ a ∈ ch.dropLast, w'.cell? ⟨a, 4, none⟩ = w.cell? ⟨a, 4, none⟩) → (∀ b ∈ ch.tail, w'.cell? ⟨b, 3, none⟩ = w.cell? ⟨b, 3, none⟩) → Links w' ch
 | [], _, _, _ => trivial
 | [_], _, _, _ => trivial
 | a :: b :: r, h, h3, h2 => ⟨(h3 a (by simp)).trans h.1, (h2 b (by simp)).trans h.2.1, Links.frame (b :: r) h.2.2 (fun x hx => h3 x (by simp only [List.dropLast_cons_cons]; exact List.mem_cons_of_mem _ hx)) (fun x hx => h2 x (by simp only [List.tail_cons] at hx ⊢; exact List.mem_cons_of_mem _ hx))⟩
structure Ent where
 b : Nat
 k : Ky
 v : Nat
def bs (L : List Ent) : List Nat := L.map Ent.b
def ks (L : List Ent) : List Ky := L.map Ent.k
def KAt (w : World) (b : Nat) (k : Ky) : Prop := w.cell? ⟨b, 0, none⟩ = some (.string k.1) ∧ w.cell? ⟨b, 1, none⟩ = some (.int .i64 k.2)
theorem KAt.same {w w' : World} {b : Nat} {k : Ky} (h : KAt w b k) (e : w'.heap[b]? = w.heap[b]?) : KAt w' b k := ⟨(cell_same e).trans h.1, (cell_same e).trans h.2⟩
structure Row (w : World) (E : Nat) (L : List Ent) : Prop where
 links : Links w (E :: (bs L ++ [E]))
 nd : (E :: bs L).Nodup
 plc : ∀ b ∈ E :: bs L, Plc w b
 key : ∀ e ∈ L, KAt w e.b e.k
 val : ∀ e ∈ L, w.cell? ⟨e.b, 2, none⟩ = some (pt e.v)
theorem Row.same {w w' : World} {E : Nat} {L : List Ent} (h : Row w E L) (hs : ∀ b ∈ E :: bs L, w'.heap[b]? = w.heap[b]?) : Row w' E L where
 links := h.links.frame _ (fun a ha => cell_same (hs a (by
   have : (E :: (bs L ++ [E])).dropLast = E :: bs L := by rw [← List.cons_append, List.dropLast_concat]
   rw [this] at ha; exact ha))) (fun b hb => cell_same (hs b (by simp at hb ⊢; rcases hb with h | h <;> simp [h])))
 nd := h.nd
 plc := fun b hb => (h.plc b hb).of_same (hs b hb)
 key := fun e he => (h.key e he).same (hs e.b (List.mem_cons_of_mem _ (List.mem_map_of_mem he)))
 val := fun e he => (cell_same (hs e.b (List.mem_cons_of_mem _ (List.mem_map_of_mem he)))).trans (h.val e he)
def plR : Value → Option (DataW Unit × List MemPlace)
 | .pointer none => some (.nil, [])
 | .pointer (some ⟨b, 0, none⟩) => some (.lit (.int .i64 b), [])
 | _ => none
theorem plR_nil {v : Value} {ps : List MemPlace} (h : plR v = some (.nil, ps)) : v = nilP := by
 unfold plR at h
 split at h
 ·rfl
 ·simp at h
 ·simp at h
theorem plR_pt {v : Value} {ps : List MemPlace} {b : Nat} (h : plR v = some (.lit (.int .i64 b), ps)) : v = pt b := by
 unfold plR at h
 split at h
 ·simp at h
 ·rename_i b'
  simp at h
  have : b' = b := by omega
  rw [this]
 ·simp at h
theorem keyed : Go.Maps.Keyed Tryz.prog 94 := Go.Maps.Keyed.of_law (deep_law_laid laidOut (m := 2) (by omega) (of_decide_eq_true (by kernel_rfl)) (by kernel_rfl) (by kernel_rfl))
structure KOk (k : Ky) : Prop where
 size : k.1.size ≤ maxLen
 num : I64 k.2
def kl (k : Ky) : Lit := .string (keyBytes [.string k.1.data.toList, .int .i64 k.2])
theorem lit_ky (n : Nat) {k : Ky} (h : KOk k) : Tryz.prog.keyLits (n + 2) 94 [.string k.1, .int .i64 k.2] = some [.string k.1.data.toList, .int .i64 k.2] := by
 have c0 : Tryz.prog.cellsOf 94 = 2 := by kernel_rfl
 have c1 : Tryz.prog.cellsOf 9 = 1 := by kernel_rfl
 have c2 : Tryz.prog.cellsOf 3 = 1 := by kernel_rfl
 have a1 := lit_str n k.1 h.size
 have a2 := lit_int n k.2 h.num.wf
 unfold Program.keyLits
 rw [Tryz.underlying94]
 simp only [c0, c1, c2, List.length_cons, List.length_nil, List.mapM_cons, List.mapM_nil, List.drop_zero, List.drop_succ_cons, List.take_succ_cons, List.take_zero, a1, a2]
 exact (if_pos ⟨trivial, by decide +kernel⟩).trans rfl
theorem keyOf_kV {k : Ky} (h : KOk k) : keyOf Tryz.prog 94 (kV k) = some (kl k) := by
 have k0 : Tryz.prog.keyType 94 = true := by kernel_rfl
 have c0 : Tryz.prog.cellsOf 94 = 2 := by kernel_rfl
 have f0 : (kV k).formed Tryz.prog 94 = true := by
  unfold Value.formed
  rw [Tryz.underlying94]
  simp only [c0]
  rfl
 obtain ⟨n, hn⟩ : ∃ n, Tryz.prog.types.size + 1 = n + 2 := ⟨Tryz.prog.types.size - 1, by have : 1 ≤ Tryz.prog.types.size := of_decide_eq_true (by kernel_rfl); omega⟩
 unfold keyOf
 rw [Tryz.underlying94]
 simp only [k0, f0, Bool.and_self, if_true, hn]
 have e : (kV k).cells.toList = [.string k.1, .int .i64 k.2] := rfl
 rw [e, lit_ky n h]
 rfl
theorem kl_inj {a b : Ky} (ha : KOk a) (hb : KOk b) (h : kl a = kl b) : a = b := by
 have e := keyed.inj (keyOf_kV ha) (by rw [h]; exact keyOf_kV hb)
 have e' : a.1 = b.1 ∧ a.2 = b.2 := by simpa using e
 exact Prod.ext e'.1 e'.2
def MapAt (w : World) (M n : Nat) (L : List Ent) : Prop :=
 ∃ D : DataW Unit, w.ownsMap Tryz.prog 94 plR M n D ∧ (∀ e ∈ L, D.atKey (kl e.k) .nil = .lit (.int .i64 e.b)) ∧ ∀ k, KOk k → (∀ e ∈ L, e.k ≠ k) → D.atKey (kl k) .nil = .nil
theorem zeroPl (w : World) : (zeroValue 155).run Tryz.prog w = .ok nilP w := by kernel_rfl
theorem MapAt.same {w w' : World} {M n : Nat} {L : List Ent} (h : MapAt w M n L) (e : w'.heap[M]? = w.heap[M]?) : MapAt w' M n L := by
 obtain ⟨D, ⟨es, clock, hb, r⟩, h⟩ := h
 exact ⟨D, ⟨es, clock, e.trans hb, r⟩, h⟩
theorem MapAt.lt {w : World} {M n : Nat} {L : List Ent} (h : MapAt w M n L) : M < w.heap.size := by
 obtain ⟨D, h, _⟩ := h
 exact h.lt
theorem MapAt.isMap {w : World} {M n : Nat} {L : List Ent} (h : MapAt w M n L) : ∃ es clock, w.heap[M]? = some (.map es clock) := by
 obtain ⟨D, ⟨es, clock, hb, _⟩, _⟩ := h
 exact ⟨es, clock, hb⟩
theorem MapAt.hit {w : World} {M n : Nat} {L : List Ent} (h : MapAt w M n L) {e : Ent} (he : e ∈ L) (hs : KOk e.k) :
  (Instr.lookup 159 (.map (some M)) (kV e.k) false).run Tryz.prog w = .ok (pt e.b) w := by
 obtain ⟨D, hD, h1, h2⟩ := h
 obtain ⟨v, ps, hr, hv⟩ := hD.lookup keyed Tryz.underlying159 (zeroPl _) (zd := .nil) (zp := []) rfl (keyOf_kV hs)
 rw [h1 e he] at hv
 rw [hr, plR_pt hv]
theorem MapAt.miss {w : World} {M n : Nat} {L : List Ent} (h : MapAt w M n L) {k : Ky} (hk : ∀ e ∈ L, e.k ≠ k) (hs : KOk k) :
  (Instr.lookup 159 (.map (some M)) (kV k) false).run Tryz.prog w = .ok nilP w := by
 obtain ⟨D, hD, h1, h2⟩ := h
 obtain ⟨v, ps, hr, hv⟩ := hD.lookup keyed Tryz.underlying159 (zeroPl _) (zd := .nil) (zp := []) rfl (keyOf_kV hs)
 rw [h2 k hs hk] at hv
 rw [hr, plR_nil hv]
theorem MapAt.perm {w : World} {M n : Nat} {L L' : List Ent} (h : MapAt w M n L) (hm : ∀ k b, (∃ e ∈ L', e.k = k ∧ e.b = b) ↔ ∃ e ∈ L, e.k = k ∧ e.b = b) : MapAt w M n L' := by
 obtain ⟨D, hD, h1, h2⟩ := h
 refine ⟨D, hD, fun e he => ?_, fun k hok hk => h2 k hok fun e he heq => ?_⟩
 ·obtain ⟨e', he', hk', hb'⟩ := (hm e.k e.b).1 ⟨e, he, rfl, rfl⟩
  rw [← hk', ← hb']
  exact h1 e' he'
 ·obtain ⟨e', he', hk', _⟩ := (hm k e.b).2 ⟨e, he, heq, rfl⟩
  exact hk e' he' hk'
theorem MapAt.put {w : World} {M n : Nat} {L : List Ent} (h : MapAt w M n L) (e : Ent) (hn : n < maxLen) (hs : KOk e.k) (hk : ∀ x ∈ L, x.k ≠ e.k) (hL : ∀ x ∈ L, KOk x.k) :
  ∃ w', (Instr.mapUpdate 159 (.map (some M)) (kV e.k) (pt e.b)).run Tryz.prog w = .ok () w' ∧ MapAt w' M (n + 1) (e :: L) ∧ w.mapTurned w' M := by
 obtain ⟨D, hD, h1, h2⟩ := h
 obtain ⟨w', hr, hD', ht⟩ := hD.store keyed Tryz.underlying159 hn (keyOf_kV hs) (val := pt e.b) (d := .lit (.int .i64 e.b)) (ps := []) rfl
 refine ⟨w', hr, ⟨_, hD', fun x hx => ?_, fun k hok hx => ?_⟩, ht⟩
 ·rcases List.mem_cons.1 hx with rfl | hx
  ·exact Go.Maps.atKey_put_same (k := kl _) hD.isMap trivial _ _
  ·rw [Go.Maps.atKey_put_other (fun e' => hk x hx (kl_inj (hL x hx) hs e'))]
   exact h1 x hx
 ·rw [Go.Maps.atKey_put_other (fun e' => hx e (by simp) (kl_inj hok hs e').symm)]
  exact h2 k hok fun y hy => hx y (by simp [hy])
theorem MapAt.del {w : World} {M n : Nat} {X Y : List Ent} {e : Ent} (h : MapAt w M n (X ++ e :: Y)) (hs : KOk e.k) (hk : ∀ x ∈ X ++ Y, x.k ≠ e.k) (hL : ∀ x ∈ X ++ Y, KOk x.k) (ty : TypeId) :
  ∃ w', (Builtin.delete_ #[159, 94] ty #[.map (some M), kV e.k]).run Tryz.prog w = .ok (.tuple #[]) w' ∧ MapAt w' M n (X ++ Y) ∧ w.mapTurned w' M := by
 obtain ⟨D, hD, h1, h2⟩ := h
 obtain ⟨w', hr, hD', ht⟩ := hD.drop keyed Tryz.underlying159 (keyOf_kV hs) ty
 refine ⟨w', hr, ⟨_, hD', fun x hx => ?_, fun k hok hx => ?_⟩, ht⟩
 ·rw [Go.Maps.atKey_del_other (fun e' => hk x hx (kl_inj (hL x hx) hs e'))]
  exact h1 x (by simp at hx ⊢; rcases hx with h | h <;> simp [h])
 ·by_cases hke : k = e.k
  ·subst hke
   exact Go.Maps.atKey_del_same _
  ·rw [Go.Maps.atKey_del_other (fun e' => hke (kl_inj hok hs e'))]
   refine h2 k hok fun y hy => ?_
   simp at hy
   rcases hy with hy | rfl | hy
   ·exact hx y (by simp [hy])
   ·exact fun e' => hke e'.symm
   ·exact hx y (by simp [hy])
structure Tab (w : World) (T E M : Nat) (most : Int) (n : Nat) (L : List Ent) : Prop where
 tb : w.heap[T]? = some (.cells #[.int .i64 most, pt E, .int .i64 (L.length : Int), .map (some M)] 161 (0, 0))
 row : Row w E L
 mp : MapAt w M n L
 kn : (ks L).Nodup
 len : L.length ≤ 100001
 sz : ∀ e ∈ L, KOk e.k
def tS (T E M : Nat) (L : List Ent) (b : Nat) : Prop := b = T ∨ b = M ∨ b = E ∨ b ∈ bs L
theorem Tab.same {w w' : World} {T E M : Nat} {most : Int} {n : Nat} {L : List Ent} (h : Tab w T E M most n L) (hs : ∀ b, tS T E M L b → w'.heap[b]? = w.heap[b]?) : Tab w' T E M most n L where
 tb := (hs T (.inl rfl)).trans h.tb
 row := h.row.same fun b hb => hs b ((List.mem_cons.1 hb).elim (fun e => .inr (.inr (.inl e))) (fun e => .inr (.inr (.inr e))))
 mp := h.mp.same (hs M (.inr (.inl rfl)))
 kn := h.kn
 len := h.len
 sz := h.sz
theorem Tab.c1 {w : World} {T E M : Nat} {most : Int} {n : Nat} {L : List Ent} (h : Tab w T E M most n L) : w.cell? ⟨T, 1, none⟩ = some (pt E) := by rw [cell_of_row _ _ _ _ _ _ h.tb]; rfl
theorem Tab.c0 {w : World} {T E M : Nat} {most : Int} {n : Nat} {L : List Ent} (h : Tab w T E M most n L) : w.cell? ⟨T, 0, none⟩ = some (.int .i64 most) := by rw [cell_of_row _ _ _ _ _ _ h.tb]; rfl
theorem Tab.c2 {w : World} {T E M : Nat} {most : Int} {n : Nat} {L : List Ent} (h : Tab w T E M most n L) : w.cell? ⟨T, 2, none⟩ = some (.int .i64 (L.length : Int)) := by rw [cell_of_row _ _ _ _ _ _ h.tb]; rfl
theorem Tab.c3 {w : World} {T E M : Nat} {most : Int} {n : Nat} {L : List Ent} (h : Tab w T E M most n L) : w.cell? ⟨T, 3, none⟩ = some (.map (some M)) := by rw [cell_of_row _ _ _ _ _ _ h.tb]; rfl
theorem Tab.noPlc {w : World} {T E M : Nat} {most : Int} {n : Nat} {L : List Ent} (h : Tab w T E M most n L) {b : Nat} (hb : Plc w b) : ¬ T = b := fun e => by
 subst e
 obtain ⟨c, hc, _⟩ := hb
 rw [h.tb] at hc
 simp at hc
theorem Tab.noMap {w : World} {T E M : Nat} {most : Int} {n : Nat} {L : List Ent} (h : Tab w T E M most n L) {b : Nat} (hb : Plc w b) : ¬ M = b := fun e => by
 subst e
 obtain ⟨c, hc, _⟩ := hb
 obtain ⟨es, cl, hm⟩ := h.mp.isMap
 rw [hm] at hc
 simp at hc
theorem Tab.tm {w : World} {T E M : Nat} {most : Int} {n : Nat} {L : List Ent} (h : Tab w T E M most n L) : ¬ T = M := fun e => by
 subst e
 obtain ⟨es, cl, hm⟩ := h.mp.isMap
 rw [h.tb] at hm
 simp at hm
theorem Tab.lt {w : World} {T E M : Nat} {most : Int} {n : Nat} {L : List Ent} (h : Tab w T E M most n L) {b : Nat} (hb : tS T E M L b) : b < w.heap.size := by
 rcases hb with rfl | rfl | rfl | hb
 ·exact blk_lt h.tb
 ·exact h.mp.lt
 ·exact (h.row.plc _ (by simp)).lt
 ·exact (h.row.plc b (List.mem_cons_of_mem _ hb)).lt
theorem Tab.blk {w w' : World} {T E M : Nat} {most : Int} {n : Nat} {L : List Ent} (h : Tab w T E M most n L) (hb : Below w.heap.size w w') : Tab w' T E M most n L := h.same fun b hs => hb.block b (h.lt hs)
theorem Tab.alloc {w : World} {T E M : Nat} {most : Int} {n : Nat} {L : List Ent} (h : Tab w T E M most n L) (o : Obj) : Tab (w.alloc o) T E M most n L := h.blk ((Below.refl _ _).alloc (Nat.le_refl _) _)
theorem Tab.drew {w : World} {T E M : Nat} {most : Int} {n : Nat} {L : List Ent} (h : Tab w T E M most n L) : Tab w.drew T E M most n L := h.same fun _ _ => rfl
end Go.Proofs.YtikjepodmdaknaaGreatDoor.Rc
/- Layer 16's table: what the calls of a row and of a table do to a table. -/
namespace Go.Proofs.YtikjepodmdaknaaGreatDoor.Rc
open Go.RowKit
open Go.MapKept Go.WideMaps
theorem chain_mid (E : Nat) (X Y : List Nat) (p : Nat) : ∃ A n o C, E :: ((X ++ p :: Y) ++ [E]) = A ++ n :: p :: o :: C ∧ E :: ((X ++ Y) ++ [E]) = A ++ n :: o :: C ∧ E :: X = A ++ [n] ∧ Y ++ [E] = o :: C := by
 obtain ⟨A, n, h1⟩ : ∃ A n, E :: X = A ++ [n] := ⟨_, _, (List.dropLast_concat_getLast (by simp)).symm⟩
 obtain ⟨o, C, h2⟩ : ∃ o C, Y ++ [E] = o :: C := by
  cases Y with
  | nil => exact ⟨E, [], rfl⟩
  | cons y Y => exact ⟨y, Y ++ [E], rfl⟩
 refine ⟨A, n, o, C, ?_, ?_, h1, h2⟩
 ·rw [List.append_assoc, List.cons_append, ← List.cons_append, h1, h2]; simp
 ·rw [List.append_assoc, ← List.cons_append, h1, h2]; simp
theorem drew_heap (w : World) : w.drew.heap = w.heap := rfl
theorem drew_cell (w : World) (a : Addr) : w.drew.cell? a = w.cell? a := rfl
theorem Plc.drew {w : World} {b : Nat} (h : Plc w b) : Plc w.drew b := h
def takeW (w : World) (T N O p : Nat) (c : Int) : World := (((((w.setCell ⟨N, 4, none⟩ (pt O)).setCell ⟨O, 3, none⟩ (pt N)).setCell ⟨p, 3, none⟩ nilP).setCell ⟨p, 4, none⟩ nilP).setCell ⟨T, 2, none⟩ (.int .i64 (c - 1))).drew
theorem takeW_other (w : World) (T N O p : Nat) (c : Int) (b : Nat) (hT : b ≠ T) (hN : b ≠ N) (hO : b ≠ O) (hp : b ≠ p) : (takeW w T N O p c).heap[b]? = w.heap[b]? := by
 unfold takeW
 rw [drew_heap, Below.heap_setCell _ _ _ _ hT, Below.heap_setCell _ _ _ _ hp, Below.heap_setCell _ _ _ _ hp, Below.heap_setCell _ _ _ _ hO, Below.heap_setCell _ _ _ _ hN]
theorem takeW_plc {w : World} {T N O p : Nat} {c : Int} {b : Nat} (h : Plc w b) : Plc (takeW w T N O p c) b := by
 unfold takeW
 exact (((((h.set _ _).set _ _).set _ _).set _ _).set _ _).drew
theorem takeW_cell (w : World) (T N O p : Nat) (c : Int) (b i : Nat) (hT : b ≠ T) (h3 : i = 4 → b ≠ N ∧ b ≠ p) (h2 : i = 3 → b ≠ O ∧ b ≠ p) : (takeW w T N O p c).cell? ⟨b, i, none⟩ = w.cell? ⟨b, i, none⟩ := by
 unfold takeW
 rw [drew_cell, cell_set_o (fun e => absurd e.symm hT), cell_set_o (fun e e' => (h3 e'.symm).2 e.symm), cell_set_o (fun e e' => (h2 e'.symm).2 e.symm), cell_set_o (fun e e' => (h2 e'.symm).1 e.symm), cell_set_o (fun e e' => (h3 e'.symm).1 e.symm)]
structure Took (w w' : World) (T E M : Nat) (most : Int) (n : Nat) (X Y : List Ent) (e : Ent) : Prop where
 tb : w'.heap[T]? = some (.cells #[.int .i64 most, pt E, .int .i64 ((X ++ Y).length : Int), .map (some M)] 161 (0, 0))
 row : Row w' E (X ++ Y)
 mp : MapAt w' M n (X ++ e :: Y)
 key : KAt w' e.b e.k
 val : w'.cell? ⟨e.b, 2, none⟩ = some (pt e.v)
 c2 : w'.cell? ⟨e.b, 3, none⟩ = some nilP
 c3 : w'.cell? ⟨e.b, 4, none⟩ = some nilP
 plc : Plc w' e.b
 kp : Kp (tS T E M (X ++ e :: Y)) w w'
set_option maxHeartbeats 1000000 in
theorem take_tab {w : World} {T E M : Nat} {most : Int} {n : Nat} {X Y : List Ent} {e : Ent} (h : Tab w T E M most n (X ++ e :: Y)) :
  Calls Tryz.prog 130 #[.pointer (some ⟨T, 1, none⟩), pt e.b] w fun r w' => r = .returned (.tuple #[]) ∧ Took w w' T E M most n X Y e := by
 obtain ⟨A, N, O, C, h1, h2, h3, h4⟩ := chain_mid E (bs X) (bs Y) e.b
 have hb : bs (X ++ e :: Y) = bs X ++ e.b :: bs Y := by simp [bs]
 have hb' : bs (X ++ Y) = bs X ++ bs Y := by simp [bs]
 have hl := h.row.links
 rw [hb, h1, Links.split] at hl
 obtain ⟨l1, l2, l3, l4, l5, l6⟩ := hl
 have nd := h.row.nd
 rw [hb] at nd
 -- two rows without repeats
 have nd1 : (A ++ N :: e.b :: bs Y).Nodup := by
  have : E :: (bs X ++ e.b :: bs Y) = A ++ N :: e.b :: bs Y := by rw [← List.cons_append, h3]; simp
  rw [← this]; exact nd
 have nd2 : (bs X ++ e.b :: O :: C).Nodup := by
  rw [← h4]
  have : (bs X ++ e.b :: (bs Y ++ [E])).Perm (E :: (bs X ++ e.b :: bs Y)) := by
   rw [show bs X ++ e.b :: (bs Y ++ [E]) = (bs X ++ e.b :: bs Y) ++ [E] by simp]
   exact (List.perm_append_singleton _ _)
  exact this.nodup_iff.2 nd
 have mN : N ∈ E :: bs X := by rw [h3]; simp
 have mO : O ∈ bs Y ++ [E] := by rw [h4]; simp
 have pp := h.row.plc e.b (by rw [hb]; simp)
 have pN := h.row.plc N (by rw [hb]; simp at mN ⊢; rcases mN with h | h <;> simp [h])
 have pO := h.row.plc O (by rw [hb]; simp at mO ⊢; rcases mO with h | h <;> simp [h])
 have hpN : ¬ e.b = N := fun x => by simp [List.nodup_append, x] at nd1
 have hpO : ¬ e.b = O := fun x => by simp [List.nodup_append, x] at nd2
 have hTp := h.noPlc pp
 have hTN := h.noPlc pN
 have hTO := h.noPlc pO
 obtain ⟨x, hx⟩ := pN.cell 4 (by decide)
 obtain ⟨y, hy⟩ := pO.cell 3 (by decide)
 have hlen := h.len
 refine (take_in w T N O e.b _ x y h.c2 l3 l4 hx hy (frozen_of h.tb 2) (pN.frozen _) (pO.frozen _) (pp.frozen _) (pp.frozen _) hpN hpO (fun x => hTp x.symm) hTN hTO (by omega) (by simp; omega)).mono ?_
 rintro r w' ⟨rfl, hw'⟩
 refine ⟨rfl, ?_⟩
 obtain rfl : w' = takeW w T N O e.b ((X ++ e :: Y).length : Int) := hw'
 have eC : bs Y ++ [E] = O :: C := h4
 have sN : N ∈ E :: bs (X ++ e :: Y) := by rw [hb]; simp at mN ⊢; rcases mN with h | h <;> simp [h]
 have sO : O ∈ E :: bs (X ++ e :: Y) := by rw [hb]; simp at mO ⊢; rcases mO with h | h <;> simp [h]
 have se : e.b ∈ E :: bs (X ++ e :: Y) := by rw [hb]; simp
 have inS : ∀ b, b ∈ E :: bs (X ++ e :: Y) → tS T E M (X ++ e :: Y) b := fun b h => (List.mem_cons.1 h).elim (fun e => .inr (.inr (.inl e))) (fun e => .inr (.inr (.inr e)))
 have up : ∀ b, b ∈ E :: (bs X ++ bs Y) → b ∈ E :: bs (X ++ e :: Y) := fun b h => by
  rw [hb]; simp at h ⊢; rcases h with h | h | h <;> simp [h]
 have nT : ∀ b, b ∈ E :: (bs X ++ bs Y) → b ≠ T := fun b hb' x => h.noPlc (h.row.plc b (up b hb')) x.symm
 have a3 : ∀ a, a ∈ A → a ≠ N ∧ a ≠ e.b := fun a ha => by
  constructor <;> intro x <;> subst x <;> simp [List.nodup_append] at nd1
  ·have := nd1.2.2 _ ha; simp at this
  ·have := nd1.2.2 _ ha; simp at this
 have y3 : ∀ a, a ∈ bs Y → a ≠ N ∧ a ≠ e.b := fun a ha => by
  constructor <;> intro x <;> subst x <;> simp [List.nodup_append, ha] at nd1
 have x2 : ∀ b, b ∈ bs X → b ≠ O ∧ b ≠ e.b := fun a ha => by
  constructor <;> intro x <;> subst x <;> simp [List.nodup_append] at nd2
  ·have := nd2.2.2 _ ha; simp at this
  ·have := nd2.2.2 _ ha; simp at this
 have c2 : ∀ b, b ∈ C → b ≠ O ∧ b ≠ e.b := fun a ha => by
  constructor <;> intro x <;> subst x <;> simp [List.nodup_append, ha] at nd2
 have cIn : ∀ b, b ∈ C → b ∈ E :: (bs X ++ bs Y) := fun b hbC => by
  have : b ∈ bs Y ++ [E] := by rw [h4]; simp [hbC]
  simp at this ⊢; rcases this with h | h <;> simp [h]
 have aIn : ∀ b, b ∈ A → b ∈ E :: (bs X ++ bs Y) := fun b hbA => by
  have : b ∈ E :: bs X := by rw [h3]; simp [hbA]
  simp at this ⊢; rcases this with h | h <;> simp [h]
 have ek : ∀ x ∈ X ++ Y, x.b ≠ e.b := fun x hx => by
  simp at hx
  rcases hx with hx | hx
  ·exact (x2 _ (List.mem_map_of_mem hx)).2
  ·exact (y3 _ (List.mem_map_of_mem hx)).2
 have kIn : ∀ x ∈ X ++ Y, x.b ∈ E :: (bs X ++ bs Y) := fun x hx => by
  rw [← hb']
  exact List.mem_cons_of_mem _ (List.mem_map_of_mem hx)
 have old : ∀ x ∈ X ++ Y, x ∈ X ++ e :: Y := fun x hx => by
  simp at hx ⊢; rcases hx with h | h <;> simp [h]
 constructor
 ·unfold takeW
  rw [drew_heap, heap_set_same (c := #[.int .i64 most, pt E, .int .i64 ((X ++ e :: Y).length : Int), .map (some M)]) (t := 161) (f := (0, 0)) ((Below.heap_setCell _ _ _ _ hTp).trans ((Below.heap_setCell _ _ _ _ hTp).trans ((Below.heap_setCell _ _ _ _ hTO).trans ((Below.heap_setCell _ _ _ _ hTN).trans h.tb))))]
  have : ((X ++ e :: Y).length : Int) - 1 = ((X ++ Y).length : Int) := by simp; omega
  rw [this]
  rfl
 ·refine ⟨?_, ?_, ?_, ?_, ?_⟩
  ·rw [hb', h2, Links.split]
   refine ⟨l1.frame _ (fun a ha => ?_) (fun b hb => ?_), ?_, ?_, l6.frame _ (fun a ha => ?_) (fun b hb => ?_)⟩
   ·rw [List.dropLast_concat] at ha
    exact takeW_cell _ _ _ _ _ _ _ _ (nT a (aIn a ha)) (fun _ => a3 a ha) (fun x => by cases x)
   ·rw [← h3] at hb
    exact takeW_cell _ _ _ _ _ _ _ _ (nT b (by simp at hb ⊢; simp [hb])) (fun x => by cases x) (fun _ => x2 b hb)
   ·unfold takeW
    rw [drew_cell, cell_set_o (fun x => absurd x hTN), cell_set_o (fun x => absurd x hpN), cell_set_o (fun x => absurd x hpN), cell_set_o (fun _ => by decide)]
    exact World.cell?_setCell_same _ _ _ hx
   ·unfold takeW
    rw [drew_cell, cell_set_o (fun x => absurd x hTO), cell_set_o (fun x => absurd x hpO), cell_set_o (fun x => absurd x hpO)]
    exact World.cell?_setCell_same _ _ _ ((cell_set_o (fun _ => by decide)).trans hy)
   ·rw [← h4, List.dropLast_concat] at ha
    exact takeW_cell _ _ _ _ _ _ _ _ (nT a (by simp [ha])) (fun _ => y3 a ha) (fun x => by cases x)
   ·exact takeW_cell _ _ _ _ _ _ _ _ (nT b (cIn b hb)) (fun x => by cases x) (fun _ => c2 b hb)
  ·rw [hb']
   exact nd.sublist (List.Sublist.cons_cons _ (List.Sublist.append_left (List.sublist_cons_self _ _) _))
  ·intro b hbb
   rw [hb'] at hbb
   exact takeW_plc (h.row.plc b (up b hbb))
  ·intro x hx
   refine ⟨?_, ?_⟩ <;> rw [takeW_cell _ _ _ _ _ _ _ _ (nT _ (kIn x hx)) (fun x => by cases x) (fun x => by cases x)]
   ·exact (h.row.key x (old x hx)).1
   ·exact (h.row.key x (old x hx)).2
  ·intro x hx
   rw [takeW_cell _ _ _ _ _ _ _ _ (nT _ (kIn x hx)) (fun x => by cases x) (fun x => by cases x)]
   exact h.row.val x (old x hx)
 ·exact h.mp.same (takeW_other _ _ _ _ _ _ _ (fun x => h.tm x.symm) (h.noMap pN) (h.noMap pO) (h.noMap pp))
 ·refine ⟨?_, ?_⟩ <;> rw [takeW_cell _ _ _ _ _ _ _ _ (fun x => hTp x.symm) (fun x => by cases x) (fun x => by cases x)]
  ·exact (h.row.key e (by simp)).1
  ·exact (h.row.key e (by simp)).2
 ·rw [takeW_cell _ _ _ _ _ _ _ _ (fun x => hTp x.symm) (fun x => by cases x) (fun x => by cases x)]
  exact h.row.val e (by simp)
 ·unfold takeW
  rw [drew_cell, cell_set_o (fun x => absurd x hTp), cell_set_o (fun _ => by decide)]
  exact World.cell?_setCell_same _ _ _ (u := pt N) (((cell_set_o (fun x => absurd x.symm hpO)).trans (cell_set_o (fun _ => by decide))).trans l3)
 ·unfold takeW
  rw [drew_cell, cell_set_o (fun x => absurd x hTp)]
  exact World.cell?_setCell_same _ _ _ (u := pt O) (((cell_set_o (fun _ => by decide)).trans ((cell_set_o (fun _ => by decide)).trans (cell_set_o (fun x => absurd x.symm hpN)))).trans l4)
 ·exact takeW_plc pp
 ·unfold takeW
  exact ((((((Kp.refl _ _).set (.inl (inS _ sN)) _).set (.inl (inS _ sO)) _).set (.inl (inS _ se)) _).set (.inl (inS _ se)) _).set (.inl (.inl rfl)) _).drew
end Go.Proofs.YtikjepodmdaknaaGreatDoor.Rc
/- Layer 16's table: a place put ahead of the row; renewed; a key added, removed. -/
namespace Go.Proofs.YtikjepodmdaknaaGreatDoor.Rc
open Go.RowKit
open Go.MapKept Go.WideMaps
abbrev tabObj (most : Int) (E : Nat) (c : Int) (M : Nat) : Obj := .cells #[.int .i64 most, pt E, .int .i64 c, .map (some M)] 161 (0, 0)
def pushW (w : World) (T E F p : Nat) (c : Int) : World := ((((((w.setCell ⟨p, 3, none⟩ (pt E)).setCell ⟨p, 4, none⟩ (pt F)).setCell ⟨E, 4, none⟩ (pt p)).setCell ⟨F, 3, none⟩ (pt p)).setCell ⟨T, 2, none⟩ (.int .i64 (c + 1))).drew).drew
theorem pushW_plc {w : World} {T E F p : Nat} {c : Int} {b : Nat} (h : Plc w b) : Plc (pushW w T E F p c) b := by
 unfold pushW
 exact (((((h.set _ _).set _ _).set _ _).set _ _).set _ _).drew.drew
theorem pushW_cell (w : World) (T E F p : Nat) (c : Int) (b i : Nat) (hT : b ≠ T) (h3 : i = 4 → b ≠ E ∧ b ≠ p) (h2 : i = 3 → b ≠ F ∧ b ≠ p) : (pushW w T E F p c).cell? ⟨b, i, none⟩ = w.cell? ⟨b, i, none⟩ := by
 unfold pushW
 rw [drew_cell, drew_cell, cell_set_o (fun e => absurd e.symm hT), cell_set_o (fun e e' => (h2 e'.symm).1 e.symm), cell_set_o (fun e e' => (h3 e'.symm).1 e.symm), cell_set_o (fun e e' => (h3 e'.symm).2 e.symm), cell_set_o (fun e e' => (h2 e'.symm).2 e.symm)]
structure Pushed (w w' : World) (T E M : Nat) (most : Int) (L : List Ent) (e : Ent) : Prop where
 tb : w'.heap[T]? = some (tabObj most E (((e :: L).length : Nat) : Int) M)
 row : Row w' E (e :: L)
 kp : Kp (fun b => b = T ∨ b = E ∨ b ∈ bs L ∨ b = e.b) w w'
set_option maxHeartbeats 1000000 in
theorem push_tab {w : World} {T E M : Nat} {most : Int} {L : List Ent} {e : Ent} (tb : w.heap[T]? = some (tabObj most E (L.length : Int) M)) (row : Row w E L) (plc : Plc w e.b)
  (key : KAt w e.b e.k) (val : w.cell? ⟨e.b, 2, none⟩ = some (pt e.v)) (hne : e.b ∉ E :: bs L) (hlen : L.length ≤ 100001) :
  Calls Tryz.prog 131 #[.pointer (some ⟨T, 1, none⟩), pt e.b] w fun r w' => r = .returned (.tuple #[]) ∧ Pushed w w' T E M most L e := by
 obtain ⟨F, C, h4⟩ : ∃ F C, bs L ++ [E] = F :: C := by
  cases bs L with
  | nil => exact ⟨E, [], rfl⟩
  | cons y Y => exact ⟨y, Y ++ [E], rfl⟩
 have hl := row.links
 rw [h4] at hl
 obtain ⟨l1, l2, l3⟩ := hl
 have nd := row.nd
 have nd2 : (F :: C).Nodup := by
  rw [← h4]
  exact (List.perm_append_singleton _ _).nodup_iff.2 nd
 have mF : F ∈ E :: bs L := by
  have : F ∈ bs L ++ [E] := by rw [h4]; simp
  simp at this ⊢; rcases this with h | h <;> simp [h]
 have pE := row.plc E (by simp)
 have pF := row.plc F mF
 have noT : ∀ {b}, Plc w b → ¬ T = b := fun hb x => by
  subst x
  obtain ⟨c, hc, _⟩ := hb
  rw [tb] at hc
  simp at hc
 have hpE : ¬ e.b = E := fun x => hne (by simp [x])
 have hpF : ¬ e.b = F := fun x => hne (x ▸ mF)
 have hTp := noT plc
 have hTE := noT pE
 have hTF := noT pF
 obtain ⟨y, hy⟩ := plc.cell 3 (by decide)
 obtain ⟨z, hz⟩ := plc.cell 4 (by decide)
 have t1 : w.cell? ⟨T, 1, none⟩ = some (pt E) := by rw [cell_of_row _ _ _ _ _ _ tb]; rfl
 have t2 : w.cell? ⟨T, 2, none⟩ = some (.int .i64 (L.length : Int)) := by rw [cell_of_row _ _ _ _ _ _ tb]; rfl
 refine (push_in w T E F e.b _ _ y z t1 t2 l1 l2 hy hz (frozen_of tb 2) (pE.frozen _) (pF.frozen _) (plc.frozen _) (plc.frozen _) hpE hpF (fun x => hTp x.symm) hTE hTF (by omega) (by omega)).mono ?_
 rintro r w' ⟨rfl, hw'⟩
 refine ⟨rfl, ?_⟩
 obtain rfl : w' = pushW w T E F e.b (L.length : Int) := hw'
 have nT : ∀ b, b ∈ E :: bs L → b ≠ T := fun b hb' x => noT (row.plc b hb') x.symm
 have cIn : ∀ b, b ∈ C → b ∈ E :: bs L := fun b hbC => by
  have : b ∈ bs L ++ [E] := by rw [h4]; simp [hbC]
  simp at this ⊢; rcases this with h | h <;> simp [h]
 have ep : ∀ b, b ∈ E :: bs L → b ≠ e.b := fun b hb x => hne (x ▸ hb)
 constructor
 ·unfold pushW
  rw [drew_heap, drew_heap, heap_set_same (c := #[.int .i64 most, pt E, .int .i64 (L.length : Int), .map (some M)]) (t := 161) (f := (0, 0)) ((Below.heap_setCell _ _ _ _ hTF).trans ((Below.heap_setCell _ _ _ _ hTE).trans ((Below.heap_setCell _ _ _ _ hTp).trans ((Below.heap_setCell _ _ _ _ hTp).trans tb))))]
  have : (L.length : Int) + 1 = (((e :: L).length : Nat) : Int) := by simp
  rw [this]
  rfl
 ·refine ⟨?_, ?_, ?_, ?_, ?_⟩
  ·show Links _ (E :: (e.b :: bs L ++ [E]))
   rw [List.cons_append, h4]
   refine ⟨?_, ?_, ?_, ?_, l3.frame _ (fun a ha => ?_) (fun b hb => ?_)⟩
   ·unfold pushW
    rw [drew_cell, drew_cell, cell_set_o (fun x => absurd x hTE), cell_set_o (fun _ => by decide)]
    exact World.cell?_setCell_same _ _ _ ((((cell_set_o (fun x => absurd x hpE))).trans (cell_set_o (fun x => absurd x hpE))).trans l1)
   ·unfold pushW
    rw [drew_cell, drew_cell, cell_set_o (fun x => absurd x hTp), cell_set_o (fun x => absurd x.symm hpF), cell_set_o (fun x => absurd x.symm hpE), cell_set_o (fun _ => by decide)]
    exact World.cell?_setCell_same _ _ _ hy
   ·unfold pushW
    rw [drew_cell, drew_cell, cell_set_o (fun x => absurd x hTp), cell_set_o (fun x => absurd x.symm hpF), cell_set_o (fun x => absurd x.symm hpE)]
    exact World.cell?_setCell_same _ _ _ ((cell_set_o (fun _ => by decide)).trans hz)
   ·unfold pushW
    rw [drew_cell, drew_cell, cell_set_o (fun x => absurd x hTF)]
    exact World.cell?_setCell_same _ _ _ (((cell_set_o (fun _ => by decide)).trans ((cell_set_o (fun x => absurd x hpF)).trans (cell_set_o (fun x => absurd x hpF)))).trans l2)
   ·rw [← h4, List.dropLast_concat] at ha
    refine pushW_cell _ _ _ _ _ _ _ _ (nT a (by simp [ha])) (fun _ => ⟨fun x => ?_, ep a (by simp [ha])⟩) (fun x => by cases x)
    subst x
    simp [ha] at nd
   ·refine pushW_cell _ _ _ _ _ _ _ _ (nT b (cIn b hb)) (fun x => by cases x) (fun _ => ⟨fun x => ?_, ep b (cIn b hb)⟩)
    subst x
    simp only [List.tail_cons] at hb
    simp [hb] at nd2
  ·show (E :: e.b :: bs L).Nodup
   have : (E :: e.b :: bs L).Perm (e.b :: E :: bs L) := List.Perm.swap _ _ _
   exact this.nodup_iff.2 (List.nodup_cons.2 ⟨hne, nd⟩)
  ·intro b hb
   have hb : b = E ∨ b = e.b ∨ b ∈ bs L := by simpa [bs] using hb
   rcases hb with rfl | rfl | hb
   ·exact pushW_plc pE
   ·exact pushW_plc plc
   ·exact pushW_plc (row.plc b (by simp [hb]))
  ·intro x hx
   rcases List.mem_cons.1 hx with rfl | hx
   ·refine ⟨?_, ?_⟩ <;> rw [pushW_cell _ _ _ _ _ _ _ _ (fun x => hTp x.symm) (fun x => by cases x) (fun x => by cases x)]
    ·exact key.1
    ·exact key.2
   ·refine ⟨?_, ?_⟩ <;> rw [pushW_cell _ _ _ _ _ _ _ _ (nT _ (List.mem_cons_of_mem _ (List.mem_map_of_mem hx))) (fun x => by cases x) (fun x => by cases x)]
    ·exact (row.key x hx).1
    ·exact (row.key x hx).2
  ·intro x hx
   rcases List.mem_cons.1 hx with rfl | hx
   ·rw [pushW_cell _ _ _ _ _ _ _ _ (fun x => hTp x.symm) (fun x => by cases x) (fun x => by cases x)]
    exact val
   ·rw [pushW_cell _ _ _ _ _ _ _ _ (nT _ (List.mem_cons_of_mem _ (List.mem_map_of_mem hx))) (fun x => by cases x) (fun x => by cases x)]
    exact row.val x hx
 ·unfold pushW
  have sF : F = E ∨ F ∈ bs L := by simpa using mF
  exact ((((((Kp.refl _ _).set (.inl (.inr (.inr (.inr rfl)))) _).set (.inl (.inr (.inr (.inr rfl)))) _).set (.inl (.inr (.inl rfl))) _).set (.inl (sF.elim (fun h => .inr (.inl h)) (fun h => .inr (.inr (.inl h))))) _).set (.inl (.inl rfl)) _).drew.drew
theorem mem_bs_mid {X Y : List Ent} {e : Ent} {b : Nat} : b ∈ bs (X ++ e :: Y) ↔ b ∈ bs X ∨ b = e.b ∨ b ∈ bs Y := by simp [bs]
theorem mem_bs_app {X Y : List Ent} {b : Nat} : b ∈ bs (X ++ Y) ↔ b ∈ bs X ∨ b ∈ bs Y := by simp [bs]
theorem Tab.notIn {w : World} {T E M : Nat} {most : Int} {n : Nat} {X Y : List Ent} {e : Ent} (h : Tab w T E M most n (X ++ e :: Y)) : e.b ∉ E :: bs (X ++ Y) := by
 have nd := h.row.nd
 have : (E :: bs (X ++ e :: Y)).Perm (e.b :: E :: bs (X ++ Y)) := by
  have h1 : (bs (X ++ e :: Y)).Perm (e.b :: bs (X ++ Y)) := by
   rw [show bs (X ++ e :: Y) = bs X ++ e.b :: bs Y by simp [bs], show bs (X ++ Y) = bs X ++ bs Y by simp [bs]]
   exact List.perm_middle
  exact (h1.cons E).trans (List.Perm.swap _ _ _)
 exact (List.nodup_cons.1 (this.nodup_iff.1 nd)).1
theorem renew_tab {w : World} {T E M : Nat} {most : Int} {n : Nat} {X Y : List Ent} {e : Ent} (h : Tab w T E M most n (X ++ e :: Y)) :
  Calls Tryz.prog 90 #[.pointer (some ⟨T, 1, none⟩), pt e.b] w fun r w' => r = .returned (.tuple #[]) ∧ Tab w' T E M most n (e :: (X ++ Y)) ∧ Kp (tS T E M (X ++ e :: Y)) w w' := by
 have HT := Hid.mk (take_tab h)
 go_enter Tryz.func90, Tryz.ntmps90
 go_wp2_with fail
 refine HT.out.mono ?_
 rintro r w1 ⟨rfl, t⟩
 have hlen := h.len
 have HP := Hid.mk (push_tab t.tb t.row t.plc t.key t.val h.notIn (by simp at hlen ⊢; omega))
 clear hlen
 go_wp2_with fail
 refine HP.out.mono ?_
 rintro r w2 ⟨rfl, p⟩
 go_wp2
 go_end0
 refine ⟨rfl, ⟨?_, p.row, ?_, ?_, ?_, ?_⟩, ?_⟩
 ·exact p.tb
 ·refine MapAt.perm (MapAt.same t.mp (p.kp.same M (t.mp.lt) ?_)) (fun k b => ?_)
  ·rintro (x | x | x | x)
   ·exact h.tm x.symm
   ·exact h.noMap (h.row.plc E (by simp)) x
   ·exact h.noMap (h.row.plc M (by rcases mem_bs_app.1 x with x | x <;> exact List.mem_cons_of_mem _ (mem_bs_mid.2 (by simp [x])))) rfl
   ·exact h.noMap (h.row.plc e.b (List.mem_cons_of_mem _ (mem_bs_mid.2 (by simp)))) x
  ·constructor
   ·rintro ⟨y, hy, h1⟩
    exact ⟨y, by simp at hy ⊢; rcases hy with h | h | h <;> simp [h], h1⟩
   ·rintro ⟨y, hy, h1⟩
    exact ⟨y, by simp at hy ⊢; rcases hy with h | h | h <;> simp [h], h1⟩
 ·have := h.kn
  rw [show ks (X ++ e :: Y) = ks X ++ e.k :: ks Y by simp [ks]] at this
  show (e.k :: ks (X ++ Y)).Nodup
  rw [show ks (X ++ Y) = ks X ++ ks Y by simp [ks]]
  exact List.perm_middle.nodup_iff.1 this
 ·have := h.len
  simp at this ⊢; omega
 ·intro x hx
  exact h.sz x (by simp at hx ⊢; rcases hx with h | h | h <;> simp [h])
 ·refine t.kp.trans p.kp (fun b _ hb => ?_)
  rcases hb with x | x | x | x
  ·exact .inl x
  ·exact .inr (.inr (.inl x))
  ·exact .inr (.inr (.inr (by rcases mem_bs_app.1 x with x | x <;> exact mem_bs_mid.2 (by simp [x]))))
  ·exact .inr (.inr (.inr (mem_bs_mid.2 (by simp [x]))))
end Go.Proofs.YtikjepodmdaknaaGreatDoor.Rc
/- Layer 16's table: a key added, removed, put, got, looked at, dropped. -/
namespace Go.Proofs.YtikjepodmdaknaaGreatDoor.Rc
open Go.RowKit
open Go.MapKept Go.WideMaps
set_option maxRecDepth 100000 in
theorem remove_tab {w : World} {T E M : Nat} {most : Int} {n : Nat} {X Y : List Ent} {e : Ent} (h : Tab w T E M most n (X ++ e :: Y)) :
  Calls Tryz.prog 93 #[pt T, pt e.b] w fun r w' => r = .returned (.tuple #[]) ∧ Tab w' T E M most n (X ++ Y) ∧ Kp (tS T E M (X ++ e :: Y)) w w' ∧
   Plc w' e.b ∧ KAt w' e.b e.k ∧ w'.cell? ⟨e.b, 3, none⟩ = some nilP ∧ w'.cell? ⟨e.b, 2, none⟩ = some (pt e.v) := by
 have HT := Hid.mk (take_tab h)
 go_enter Tryz.func93, Tryz.ntmps93
 go_wp2_with fail
 refine HT.out.mono ?_
 rintro r w1 ⟨rfl, t⟩
 have hkn := h.kn
 rw [show ks (X ++ e :: Y) = ks X ++ e.k :: ks Y by simp [ks]] at hkn
 have hk2 := List.perm_middle.nodup_iff.1 hkn
 have hk : ∀ x ∈ X ++ Y, x.k ≠ e.k := fun x hx hh => (List.nodup_cons.1 hk2).1 (by rw [← hh]; simp at hx ⊢; rcases hx with hx | hx; exact .inl (List.mem_map_of_mem hx); exact .inr (List.mem_map_of_mem hx))
 obtain ⟨w2, hdel, hm, ht⟩ := (MapAt.same (w' := w1.drew) t.mp rfl).del (h.sz e (by simp)) hk (fun x hx => h.sz x (by simp at hx ⊢; rcases hx with h | h <;> simp [h])) 0
 obtain ⟨ck, ck'⟩ := t.key
 have ct : w1.cell? ⟨T, 3, none⟩ = some (.map (some M)) := by rw [cell_of_row _ _ _ _ _ _ t.tb]; rfl
 have HF : Hid (Tab w2 T E M most n (X ++ Y) ∧ Kp (tS T E M (X ++ e :: Y)) w w2 ∧ Plc w2 e.b ∧ KAt w2 e.b e.k ∧ w2.cell? ⟨e.b, 3, none⟩ = some nilP ∧ w2.cell? ⟨e.b, 2, none⟩ = some (pt e.v)) := by
  have hne : ∀ b, Plc w1 b → some b ≠ some M := fun b hb hh => by
   cases hh
   obtain ⟨c, hc, _⟩ := hb
   obtain ⟨es, cl, hm⟩ := t.mp.isMap
   rw [hm] at hc
   simp at hc
  have hg := ht.grown
  have same : ∀ b, Plc w1 b → w2.heap[b]? = w1.heap[b]? := fun b hb => hg.block b hb.lt (hne b hb)
  have hTM : some T ≠ some M := fun hh => h.tm (Option.some.inj hh)
  refine ⟨⟨(hg.block T (blk_lt t.tb) hTM).trans t.tb, t.row.same fun b hb => same b (t.row.plc b hb), hm, ?_, ?_, ?_⟩, t.kp.drew.turned ht (.inr (.inl rfl)), t.plc.of_same (same _ t.plc), t.key.same (same _ t.plc), (cell_same (same _ t.plc)).trans t.c2, (cell_same (same _ t.plc)).trans t.val⟩
  ·rw [show ks (X ++ Y) = ks X ++ ks Y by simp [ks]]
   exact (List.nodup_cons.1 hk2).2
  ·have := h.len
   simp at this ⊢; omega
  ·intro x hx
   exact h.sz x (by simp at hx ⊢; rcases hx with h | h <;> simp [h])
 clear hkn hk2 hk t HT h hm ht
 go_wp2
 go_region
 go_wp2
 go_end0
 exact ⟨rfl, HF.out⟩
theorem add_tab {w : World} {T E M : Nat} {most : Int} {n : Nat} {L : List Ent} (h : Tab w T E M most n L) (k : Ky) (v : Nat) (hk : ∀ e ∈ L, e.k ≠ k) (hs : KOk k) (hn : n < maxLen) (hl : L.length ≤ 100000) :
  Calls Tryz.prog 91 #[pt T, kV k, pt v] w fun r w' => r = .returned (.tuple #[]) ∧ Tab w' T E M most (n + 1) (⟨w.heap.size + 1, k, v⟩ :: L) ∧ Kp (tS T E M L) w w' := by
 obtain ⟨w0, hw0⟩ : ∃ w0, w.alloc (.cells #[.string k.1, .int .i64 k.2] 94) = w0 := ⟨_, rfl⟩
 have h0 : Tab w0 T E M most n L := hw0 ▸ h.alloc _
 have s0 : w0.heap.size = w.heap.size + 1 := by rw [← hw0]; simp
 have g0 : w0.heap[w.heap.size]? = some (.cells #[.string k.1, .int .i64 k.2] 94 (0, 0)) := hw0 ▸ heap_alloc_last _ _
 have h1 := h0.alloc (.cells #[.string k.1, .int .i64 k.2, pt v, nilP, nilP] 166 (0, 0))
 have hnew : (w0.alloc (.cells #[.string k.1, .int .i64 k.2, pt v, nilP, nilP] 166 (0, 0))).heap[w0.heap.size]? = some (.cells #[.string k.1, .int .i64 k.2, pt v, nilP, nilP] 166 (0, 0)) := heap_alloc_last _ _
 have hne : w0.heap.size ∉ E :: bs L := fun hh => by
  have := (h0.row.plc _ hh).lt
  omega
 have HP := Hid.mk (push_tab (e := ⟨w0.heap.size, k, v⟩) h1.tb h1.row ⟨_, hnew, rfl⟩ ⟨by rw [cell_of_row _ _ _ _ _ _ hnew]; rfl, by rw [cell_of_row _ _ _ _ _ _ hnew]; rfl⟩ (by rw [cell_of_row _ _ _ _ _ _ hnew]; rfl) hne (by omega))
 have hKe : w.heap.size ∉ E :: bs L := fun hh => by
  have := (h.row.plc _ hh).lt
  omega
 have hMw : M < w.heap.size := h.mp.lt
 have hTw : T < w.heap.size := blk_lt h.tb
 rw [s0] at hne hnew HP
 have HW0 := Hid.mk hw0
 clear hw0
 go_enter Tryz.func91, Tryz.ntmps91
 go_wp2_with fail
 rw [HW0.out]
 refine HP.out.mono ?_
 rintro r w1 ⟨rfl, p⟩
 have hM1 : w1.heap[M]? = (w0.alloc (.cells #[.string k.1, .int .i64 k.2, pt v, nilP, nilP] 166 (0, 0))).heap[M]? := p.kp.same M (h1.mp.lt) (by
  rintro (x | x | x | x)
  ·exact h.tm x.symm
  ·exact h.noMap (h.row.plc E (by simp)) x
  ·exact h.noMap (h.row.plc M (List.mem_cons_of_mem _ x)) rfl
  ·simp only at x; omega)
 have hK1 : w1.heap[w.heap.size]? = some (.cells #[.string k.1, .int .i64 k.2] 94 (0, 0)) := by
  rw [p.kp.same w.heap.size (by simp; omega) (by
   rintro (x | x | x | x)
   ·omega
   ·exact hKe (by rw [x]; simp)
   ·exact hKe (List.mem_cons_of_mem _ x)
   ·simp only at x; omega), Below.heap_alloc _ _ _ (by omega)]
  exact g0
 obtain ⟨w2, hup, hm, ht⟩ := (MapAt.same (w' := w1.drew) h1.mp hM1).put ⟨w.heap.size + 1, k, v⟩ hn hs hk h.sz
 simp only at hup
 have ct : w1.cell? ⟨T, 3, none⟩ = some (.map (some M)) := by rw [cell_of_row _ _ _ _ _ _ p.tb]; rfl
 have ck0 : w1.cell? ⟨w.heap.size, 0, none⟩ = some (.string k.1) := by rw [cell_of_row _ _ _ _ _ _ hK1]; rfl
 have ck1 : w1.cell? ⟨w.heap.size, 1, none⟩ = some (.int .i64 k.2) := by rw [cell_of_row _ _ _ _ _ _ hK1]; rfl
 have HF : Hid (Tab w2 T E M most (n + 1) (⟨w.heap.size + 1, k, v⟩ :: L) ∧ Kp (tS T E M L) w w2) := by
  have hg := ht.grown
  have hne2 : ∀ b, Plc w1 b → some b ≠ some M := fun b hb hh => by
   cases hh
   obtain ⟨c, hc, _⟩ := hb
   obtain ⟨es, cl, hm⟩ := (MapAt.same h1.mp hM1).isMap
   rw [hm] at hc
   simp at hc
  have same : ∀ b, Plc w1 b → w2.heap[b]? = w1.heap[b]? := fun b hb => hg.block b hb.lt (hne2 b hb)
  have hTM : some T ≠ some M := fun hh => h.tm (Option.some.inj hh)
  refine ⟨⟨(hg.block T (blk_lt p.tb) hTM).trans p.tb, p.row.same fun b hb => same b (p.row.plc b hb), hm, ?_, ?_, ?_⟩, ?_⟩
  ·show (k :: ks L).Nodup
   refine List.nodup_cons.2 ⟨fun hh => ?_, h.kn⟩
   obtain ⟨x, hx, e⟩ := List.mem_map.1 hh
   exact hk x hx e
  ·simp; omega
  ·intro x hx
   rcases List.mem_cons.1 hx with rfl | hx
   ·exact hs
   ·exact h.sz x hx
  ·refine Kp.turned (S := tS T E M L) (w := w1.drew) ?_ ht (.inr (.inl rfl))
   refine Kp.drew (Kp.trans (b := w0.alloc (.cells #[.string k.1, .int .i64 k.2, pt v, nilP, nilP] 166 (0, 0))) ?_ p.kp (fun b hb hh => ?_))
   ·rw [← HW0.out]
    exact ((Kp.refl (tS T E M L) w).alloc _).alloc _
   ·rcases hh with x | x | x | x
    ·exact .inl x
    ·exact .inr (.inr (.inl x))
    ·exact .inr (.inr (.inr x))
    ·simp only at x; omega
 have kk : (k.1.toList == k.1.toList) = true := by simp
 have kk2 : (k.2 == k.2) = true := by simp
 clear HP p h1 h h0 hm ht hM1 hK1 hnew hne hk hMw hTw hKe g0 s0
 go_wp2
 go_region
 go_wp2
 go_end0
 exact ⟨rfl, HF.out⟩
end Go.Proofs.YtikjepodmdaknaaGreatDoor.Rc
