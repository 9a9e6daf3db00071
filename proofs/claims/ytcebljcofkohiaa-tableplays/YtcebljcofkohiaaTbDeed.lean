/- Layer 11: deeds that come in; a table beside the document's. -/
import Derived.Deep.Slices
import Derived.Deep.Strs
import Derived.Test.YtcebljcofkohiaaTbKsW
namespace Go.Proofs.Ytcebljcofkohiaa
set_option linter.unusedVariables false
open Go.RowKit

structure Dd where
  kd : Int
  ky : ByteArray
  vl : Int
def Dd.Ok (d : Dd) : Prop := (Lit.int .i64 d.kd).wf = true ∧ d.ky.size ≤ maxLen
def GivenD (W : World) (a0 : Option Addr) (ls : List Dd) : Prop := ∀ j (h : j < ls.length), ∃ b off, a0 = some ⟨b, off, none⟩ ∧ b < W.heap.size ∧ W.cell? ⟨b, off + j * 3, none⟩ = some (.int .i64 ls[j].kd) ∧ W.cell? ⟨b, off + j * 3 + 1, none⟩ = some (.string ls[j].ky) ∧ W.cell? ⟨b, off + j * 3 + 2, none⟩ = some (.int .i64 ls[j].vl)
theorem cells_deed : Try.prog.cellsOf 33 = 3 := by kernel_rfl
theorem cells_int : Try.prog.cellsOf 3 = 1 := by kernel_rfl
theorem bytes_deed : Try.prog.bytesOf 33 = 32 := by kernel_rfl
theorem list_of {α : Type} {R : Nat → α → Prop} : ∀ n, (∀ i, i < n → ∃ x, R i x) → ∃ l : List α, l.length = n ∧ ∀ i (h : i < l.length), R i l[i]
  | 0, _ => ⟨[], rfl, fun i h => by simp at h⟩
  | n + 1, h => by
    obtain ⟨l, hl, hr⟩ := list_of n (fun i hi => h i (by omega))
    obtain ⟨x, hx⟩ := h n (by omega)
    refine ⟨l ++ [x], by simp [hl], fun i hi => ?_⟩
    by_cases e : i < l.length
    · rw [List.getElem_append_left e]; exact hr i e
    · have : i = l.length := by simp at hi; omega
      subst this
      simp [hl]; exact hx

open Go.ChangeShapes Go.WideShapes in
theorem open_deeds {H : Type} {enc : TypeId × Value → H} {W : World} {a0 : Option Addr} {len cap fuel : Nat} {x : DataW H × List MemPlace}
    (hf : DataW.trod enc Try.prog W 0 (fun _ => true) true fuel 22 [.slice a0 len cap] = some x) :
    ∃ ls : List Dd, ls.length = len ∧ GivenD W a0 ls ∧ (∀ d ∈ ls, d.Ok) ∧ len ≤ maxLen := by
  rcases Go.Deep.open_slice Try.underlying22 hf with ⟨hcs, hx⟩ | ⟨a, len', cap', m, n, D, Pl, hcs, _, hl, hm, hmm, hx, hall⟩
  · simp at hcs
    obtain ⟨rfl, rfl, rfl⟩ := hcs
    exact ⟨[], rfl, fun j hj => by simp at hj, by simp, by unfold maxLen; omega⟩
  · simp at hcs
    obtain ⟨rfl, rfl, rfl⟩ := hcs
    simp only [if_true] at hmm
    subst hmm
    rw [cells_deed] at hall
    obtain ⟨b, off, spot⟩ := a
    have key : ∀ i, i < len → ∃ d : Dd, (spot = none ∧ b < W.heap.size ∧ W.cell? ⟨b, off + i * 3, none⟩ = some (.int .i64 d.kd) ∧ W.cell? ⟨b, off + i * 3 + 1, none⟩ = some (.string d.ky) ∧ W.cell? ⟨b, off + i * 3 + 2, none⟩ = some (.int .i64 d.vl)) ∧ d.Ok := fun i hi => by
      obtain ⟨cs', h1, h2⟩ := hall i (by omega)
      obtain ⟨_, hlen, hcell⟩ := World.cells?_some h1
      obtain ⟨y0, y1, y2, k, _, hlc, t0, t1, t2⟩ := Go.Deep.trod_struct3 Try.underlying33 h2
      match cs', hlen with
      | [v0, v1, v2], _ =>
        have e0 := hcell 0 (by omega)
        have e1 := hcell 1 (by omega)
        have e2 := hcell 2 (by omega)
        have t0' : DataW.trod enc Try.prog W 0 (fun _ => true) true k 3 [v0] = some y0 := t0
        have t1' : DataW.trod enc Try.prog W 0 (fun _ => true) true k 9 [v1] = some y1 := t1
        have t2' : DataW.trod enc Try.prog W 0 (fun _ => true) true k 3 [v2] = some y2 := t2
        obtain ⟨x0, q0, _, w0⟩ := DataW.trod_int (t := 3) (k := .i64) Try.underlying3 t0'
        obtain rfl : v0 = .int .i64 x0 := by simpa using q0
        obtain ⟨s1, q1, _, w1⟩ := DataW.trod_string (t := 9) Try.underlying9 t1'
        obtain rfl : v1 = .string s1 := by simpa using q1
        obtain ⟨x2, q2, _, w2⟩ := DataW.trod_int (t := 3) (k := .i64) Try.underlying3 t2'
        obtain rfl : v2 = .int .i64 x2 := by simpa using q2
        rw [Go.Deep.add_add] at e0 e1 e2
        have hspot : spot = none := by
          obtain ⟨cs0, h10, _⟩ := hall 0 (by omega)
          obtain ⟨_, hl0, hc0⟩ := World.cells?_some h10
          have h00 := hc0 0 (by omega)
          rw [List.getElem?_eq_getElem (by omega)] at h00
          simpa [Addr.add] using World.cell?_spot h00
        subst hspot
        rw [add_on] at e0 e1 e2
        refine ⟨⟨x0, s1, x2⟩, ⟨rfl, lt_of_cell e0, ?_, ?_, ?_⟩, w0, w1⟩
        · simpa using e0
        · simpa [Nat.add_assoc] using e1
        · simpa [Nat.add_assoc] using e2
    obtain ⟨ls, hlen, hr⟩ := list_of len key
    refine ⟨ls, hlen, fun j hj => ?_, fun d hd => ?_, by omega⟩
    · obtain ⟨⟨hs, hb, h0, h1, h2⟩, _⟩ := hr j hj
      subst hs
      exact ⟨b, off, rfl, hb, h0, h1, h2⟩
    · obtain ⟨j, hj, rfl⟩ := List.getElem_of_mem hd
      exact (hr j hj).2

theorem TabK.nodup {W w : World} {T : Nat} {most : Int} {n : Nat} {l : KV} (h : TabK W w T most n l) : (l.map Prod.fst).Nodup := by
  obtain ⟨E, M, L, ho, rfl⟩ := h
  have := ho.tab.kn
  rwa [show ks L = (kv L).map Prod.fst by simp [kv, ks]] at this
/-- what the document's calls do leaves the table alone. -/
theorem TabK.kp {W w w' : World} {T X : Nat} {most : Int} {n : Nat} {l : KV} (h : TabK W w T most n l) (k : Kp (fun b => b = X) w w') {c : Array Value} (hX : w.heap[X]? = some (.cells c 31 (0, 0))) (hW : W.heap.size ≤ X) : TabK W w' T most n l := by
  obtain ⟨E, M, L, ho, e⟩ := h
  have hne : ∀ b, tS T E M L b → b ≠ X := fun b hb hx => by
    subst hx
    rcases hb with rfl | rfl | rfl | hb
    · have := ho.tab.tb; rw [hX] at this; cases this
    · obtain ⟨es, cl, hm⟩ := ho.tab.mp.isMap; rw [hX] at hm; cases hm
    · obtain ⟨c', hc, _⟩ := ho.tab.row.plc b (by simp); rw [hX] at hc; cases hc
    · obtain ⟨c', hc, _⟩ := ho.tab.row.plc b (List.mem_cons_of_mem _ hb); rw [hX] at hc; cases hc
  exact ⟨E, M, L, ⟨ho.tab.same fun b hb => k.same b (ho.tab.lt hb) (hne b hb), ho.own, ho.bel.trans (k.below ho.bel.size (fun b hb hx => by omega))⟩, e⟩

/-- a table and the document's, side by side. -/
structure Duo (W0 W : World) (T X m n : Nat) (l : KV) : Prop where
  tab : TabK W0 W T (m : Int) n l
  ref : RefAt W W0.heap.size X (m : Int) l
  len : l.length ≤ m
  own : W0.heap.size ≤ X
theorem Duo.base {W0 W : World} {T X m n : Nat} {l : KV} (h : Duo W0 W T X m n l) : W0.heap.size ≤ W.heap.size := h.tab.bel.size
theorem Duo.frn {W0 W W' : World} {T X m n n' : Nat} {l l' : KV} (h : Duo W0 W T X m n l) (ht : TabK W0 W' T (m : Int) n' l') (hf : Frn W W') : TabK W0 W' T (m : Int) n' l' ∧ RefAt W' W0.heap.size X (m : Int) l := ⟨ht, h.ref.frn hf⟩
theorem Duo.blk {W0 W W' : World} {T X m n : Nat} {l : KV} (h : Duo W0 W T X m n l) (hb : Below W.heap.size W W') : Duo W0 W' T X m n l := ⟨h.tab.blk hb, h.ref.blk hb, h.len, h.own⟩
theorem RefAt.typ {W : World} {B X : Nat} {m : Int} {l : KV} (h : RefAt W B X m l) : ∃ c, W.heap[X]? = some (.cells c 31 (0, 0)) := by
  obtain ⟨v, h1, _⟩ := h.tab
  exact ⟨_, h1⟩

end Go.Proofs.Ytcebljcofkohiaa
