/- Layer 12: deeds that come in; a timer beside the document's. -/
import Derived.Deep.Slices
import Derived.Deep.Strs
import Derived.Test.YtdgkknjmhdmlfaaTiRfS
import Derived.Test.YtdgkknjmhdmlfaaTiOrd
namespace Go.Proofs.Ytdgkknjmhdmlfaa
set_option linter.unusedVariables false
open Go.RowKit

structure Dd where
  kd : Int
  ky : Int
  vl : Int
def Dd.Ok (d : Dd) : Prop := W64 d.kd ∧ W64 d.ky ∧ W64 d.vl
def GivenD (W : World) (a0 : Option Addr) (ls : List Dd) : Prop := ∀ j (h : j < ls.length), ∃ b off, a0 = some ⟨b, off, none⟩ ∧ b < W.heap.size ∧ W.cell? ⟨b, off + j * 3, none⟩ = some (.int .i64 ls[j].kd) ∧ W.cell? ⟨b, off + j * 3 + 1, none⟩ = some (.int .i64 ls[j].ky) ∧ W.cell? ⟨b, off + j * 3 + 2, none⟩ = some (.int .i64 ls[j].vl)
theorem cells_deed : Try.prog.cellsOf 31 = 3 := by kernel_rfl
theorem list_of {α : Type} {R : Nat → α → Prop} : ∀ n, (∀ i, i < n → ∃ x, R i x) → ∃ l : List α, l.length = n ∧ ∀ i (h : i < l.length), R i l[i]
  | 0, _ => ⟨[], rfl, fun i h => by simp at h⟩
  | n + 1, h => by
    obtain ⟨l, hl, hr⟩ := list_of n (fun i hi => h i (by omega))
    obtain ⟨x, hx⟩ := h n (by omega)
    refine ⟨l ++ [x], by simp [hl], fun i hi => ?_⟩
    by_cases e : i < l.length
    · rw [List.getElem_append_left e]; exact hr i e
    · have : i = l.length := by simp at hi; omega
      subst this
      simp [hl]; exact hx

open Go.ChangeShapes Go.WideShapes in
theorem open_deeds {H : Type} {enc : TypeId × Value → H} {W : World} {a0 : Option Addr} {len cap fuel : Nat} {x : DataW H × List MemPlace}
    (hf : DataW.trod enc Try.prog W 0 (fun _ => true) true fuel 22 [.slice a0 len cap] = some x) :
    ∃ ls : List Dd, ls.length = len ∧ GivenD W a0 ls ∧ (∀ d ∈ ls, d.Ok) ∧ len ≤ maxLen := by
  rcases Go.Deep.open_slice Try.underlying22 hf with ⟨hcs, hx⟩ | ⟨a, len', cap', m, n, D, Pl, hcs, _, hl, hm, hmm, hx, hall⟩
  · simp at hcs
    obtain ⟨rfl, rfl, rfl⟩ := hcs
    exact ⟨[], rfl, fun j hj => by simp at hj, by simp, by unfold maxLen; omega⟩
  · simp at hcs
    obtain ⟨rfl, rfl, rfl⟩ := hcs
    simp only [if_true] at hmm
    subst hmm
    rw [cells_deed] at hall
    obtain ⟨b, off, spot⟩ := a
    have key : ∀ i, i < len → ∃ d : Dd, (spot = none ∧ b < W.heap.size ∧ W.cell? ⟨b, off + i * 3, none⟩ = some (.int .i64 d.kd) ∧ W.cell? ⟨b, off + i * 3 + 1, none⟩ = some (.int .i64 d.ky) ∧ W.cell? ⟨b, off + i * 3 + 2, none⟩ = some (.int .i64 d.vl)) ∧ d.Ok := fun i hi => by
      obtain ⟨cs', h1, h2⟩ := hall i (by omega)
      obtain ⟨_, hlen, hcell⟩ := World.cells?_some h1
      obtain ⟨y0, y1, y2, k, _, hlc, t0, t1, t2⟩ := Go.Deep.trod_struct3 Try.underlying31 h2
      match cs', hlen with
      | [v0, v1, v2], _ =>
        have e0 := hcell 0 (by omega)
        have e1 := hcell 1 (by omega)
        have e2 := hcell 2 (by omega)
        have t0' : DataW.trod enc Try.prog W 0 (fun _ => true) true k 3 [v0] = some y0 := t0
        have t1' : DataW.trod enc Try.prog W 0 (fun _ => true) true k 3 [v1] = some y1 := t1
        have t2' : DataW.trod enc Try.prog W 0 (fun _ => true) true k 3 [v2] = some y2 := t2
        obtain ⟨x0, q0, _, w0⟩ := DataW.trod_int (t := 3) (k := .i64) Try.underlying3 t0'
        obtain rfl : v0 = .int .i64 x0 := by simpa using q0
        obtain ⟨s1, q1, _, w1⟩ := DataW.trod_int (t := 3) (k := .i64) Try.underlying3 t1'
        obtain rfl : v1 = .int .i64 s1 := by simpa using q1
        obtain ⟨x2, q2, _, w2⟩ := DataW.trod_int (t := 3) (k := .i64) Try.underlying3 t2'
        obtain rfl : v2 = .int .i64 x2 := by simpa using q2
        rw [Go.Deep.add_add] at e0 e1 e2
        have hspot : spot = none := by
          obtain ⟨cs0, h10, _⟩ := hall 0 (by omega)
          obtain ⟨_, hl0, hc0⟩ := World.cells?_some h10
          have h00 := hc0 0 (by omega)
          rw [List.getElem?_eq_getElem (by omega)] at h00
          simpa [Addr.add] using World.cell?_spot h00
        subst hspot
        rw [add_off] at e0 e1 e2
        refine ⟨⟨x0, s1, x2⟩, ⟨rfl, lt_of_cell e0, ?_, ?_, ?_⟩, Go.bounds_i64 w0, Go.bounds_i64 w1, Go.bounds_i64 w2⟩
        · simpa using e0
        · simpa [Nat.add_assoc] using e1
        · simpa [Nat.add_assoc] using e2
    obtain ⟨ls, hlen, hr⟩ := list_of len key
    refine ⟨ls, hlen, fun j hj => ?_, fun d hd => ?_, by omega⟩
    · obtain ⟨⟨hs, hb, h0, h1, h2⟩, _⟩ := hr j hj
      subst hs
      exact ⟨b, off, rfl, hb, h0, h1, h2⟩
    · obtain ⟨j, hj, rfl⟩ := List.getElem_of_mem hd
      exact (hr j hj).2


/-! ### both timers tell the same -/
structure Du (W w : World) (T X k : Nat) (xs L : List En) : Prop where
  tk : Tk W.heap.size w T xs
  ref : RefT w X L
  ord : L.Pairwise lt
  perm : L.Perm xs
  bel : Below W.heap.size W w
  nX : W.heap.size ≤ X
  len : xs.length ≤ k
theorem Du.ll {W w : World} {T X k : Nat} {xs L : List En} (h : Du W w T X k xs L) : L.length ≤ k := by rw [h.perm.length_eq]; exact h.len
theorem Du.nd {W w : World} {T X k : Nat} {xs L : List En} (h : Du W w T X k xs L) : (L.map Prod.fst).Nodup := (h.perm.map _).nodup_iff.2 h.tk.nd
theorem Du.below {W w w' : World} {T X k : Nat} {xs L : List En} (h : Du W w T X k xs L) (hb : Below w.heap.size w w') : Du W w' T X k xs L :=
  ⟨h.tk.blk hb, h.ref.below hb, h.ord, h.perm, h.bel.trans (hb.mono h.bel.size), h.nX, h.len⟩
theorem Du.more {W w : World} {T X k k' : Nat} {xs L : List En} (h : Du W w T X k xs L) (hk : k ≤ k') : Du W w T X k' xs L := ⟨h.tk, h.ref, h.ord, h.perm, h.bel, h.nX, Nat.le_trans h.len hk⟩
theorem Ko.typ {X : Nat} {w w' : World} {L : List En} (h : Ko X w w') (hR : RefT w X L) {b : Nat} {c : Array Value} {t : TypeId} {f : Nat × Nat} (hb : w.heap[b]? = some (.cells c t f)) (ht : t ≠ 29) : w'.heap[b]? = some (.cells c t f) := by
  obtain ⟨v, hX, _⟩ := hR
  exact (h.same b (blk_lt hb) (fun e => by rw [e, hX] at hb; cases hb; exact ht rfl)).trans hb
theorem same_next {xs L : List En} (hh : Hp xs xs.length) (ho : L.Pairwise lt) (hp : L.Perm xs) : nx xs = nx L := by
  cases xs with
  | nil => rw [List.perm_nil.1 hp]
  | cons x xs =>
    cases L with
    | nil => exact absurd hp.length_eq (by simp)
    | cons y L =>
      have hy : y ∈ x :: xs := hp.mem_iff.1 (by simp)
      have hx : x ∈ y :: L := hp.mem_iff.2 (by simp)
      obtain ⟨i, hi, hie⟩ := List.getElem_of_mem hy
      have h1 := hh.least i hi
      rw [A_lt hi, A_lt (by simp), hie] at h1
      simp only [List.getElem_cons_zero] at h1
      have h2 : x = y ∨ lt y x := by
        rcases List.mem_cons.1 hx with h | h
        · exact .inl h
        · exact .inr ((List.pairwise_cons.1 ho).1 x h)
      rcases h2 with rfl | h2
      · rfl
      · exact absurd h2 h1
theorem same_due {xs L ds rest ds2 rest2 : List En} {now : Int} (hI : DueI xs ds rest now) (hl : ∀ e ∈ rest, now < e.2) (ho : L.Pairwise lt) (hp : L.Perm xs) (hs : ds2 ++ rest2 = L) (h2 : ∀ d ∈ ds2, d.2 ≤ now) (h3 : ∀ e r, rest2 = e :: r → now < e.2) : ds = ds2 ∧ rest2.Perm rest ∧ rest2.Pairwise lt := by
  rw [← hs, List.pairwise_append] at ho
  obtain ⟨o1, o2, o3⟩ := ho
  have hr2 : ∀ e ∈ rest2, now < e.2 := by
    cases rest2 with
    | nil => simp
    | cons e r =>
      intro x hx
      have h4 := h3 e r rfl
      rcases List.mem_cons.1 hx with rfl | hx
      · exact h4
      · have := (List.pairwise_cons.1 o2).1 x hx
        unfold lt at this
        omega
  have hpp : (ds ++ rest).Perm (ds2 ++ rest2) := hI.perm.trans (hp.symm.trans (List.Perm.of_eq hs.symm))
  have f1 : ∀ (a b : List En), (∀ d ∈ a, d.2 ≤ now) → (∀ d ∈ b, now < d.2) → (a ++ b).filter (fun e => decide (e.2 ≤ now)) = a := fun a b ha hb => by
    rw [List.filter_append, List.filter_eq_self.2 (fun d hd => by simpa using ha d hd), List.filter_eq_nil_iff.2 (fun d hd => by have := hb d hd; simp; omega), List.append_nil]
  have f2 : ∀ (a b : List En), (∀ d ∈ a, d.2 ≤ now) → (∀ d ∈ b, now < d.2) → (a ++ b).filter (fun e => decide (now < e.2)) = b := fun a b ha hb => by
    rw [List.filter_append, List.filter_eq_nil_iff.2 (fun d hd => by have := ha d hd; simp; omega), List.filter_eq_self.2 (fun d hd => by simpa using hb d hd), List.nil_append]
  have e1 := hpp.filter (fun e => decide (e.2 ≤ now))
  rw [f1 _ _ hI.at' hl, f1 _ _ h2 hr2] at e1
  have e2 := hpp.filter (fun e => decide (now < e.2))
  rw [f2 _ _ hI.at' hl, f2 _ _ h2 hr2] at e2
  exact ⟨ord_eq hI.ord o1 e1, e2.symm, o2⟩
theorem same_there {xs L : List En} (hp : L.Perm xs) (id : Int) : decide (∃ e ∈ xs, e.1 = id) = decide (∃ e ∈ L, e.1 = id) := by
  have : (∃ e ∈ xs, e.1 = id) ↔ ∃ e ∈ L, e.1 = id := ⟨fun ⟨e, h, h2⟩ => ⟨e, hp.mem_iff.2 h, h2⟩, fun ⟨e, h, h2⟩ => ⟨e, hp.mem_iff.1 h, h2⟩⟩
  by_cases h : ∃ e ∈ L, e.1 = id
  · rw [decide_eq_true h, decide_eq_true (this.2 h)]
  · rw [decide_eq_false h, decide_eq_false (fun x => h (this.1 x))]
end Go.Proofs.Ytdgkknjmhdmlfaa
