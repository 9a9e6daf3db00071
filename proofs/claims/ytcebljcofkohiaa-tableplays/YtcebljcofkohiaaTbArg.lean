/- Layer 11: rows of strings that come in; pick. -/
import Derived.ProofKit
import Derived.OpenShut
import Derived.ShutString
import Derived.SliceStrings
import Derived.Carry
import Derived.SizedLaws
import Derived.Test.YtcebljcofkohiaaTbEx
namespace Go.Proofs.Ytcebljcofkohiaa
set_option linter.unusedVariables false
open Go.RowKit

def Given (W : World) (a0 : Option Addr) (ls : List ByteArray) : Prop := ∀ j (h : j < ls.length), ∃ b off, a0 = some ⟨b, off, none⟩ ∧ b < W.heap.size ∧ W.cell? ⟨b, off + j, none⟩ = some (.string ls[j])
theorem Given.below {w W : World} {a0 : Option Addr} {ls : List ByteArray} (h : Given w a0 ls) (hB : Below w.heap.size w W) : Given W a0 ls := fun j hj => by
  obtain ⟨b, off, h1, h2, h3⟩ := h j hj
  exact ⟨b, off, h1, Nat.lt_of_lt_of_le h2 hB.size, (hB.cell (p := ⟨b, off + j, none⟩) h2).trans h3⟩
theorem Given.to {w W : World} {a0 : Option Addr} {ls : List ByteArray} (h : Given w a0 ls) (hB : Below w.heap.size w W) (j : Nat) (hj : j < ls.length) : ∃ b off, a0 = some ⟨b, off, none⟩ ∧ b < W.heap.size ∧ W.cell? ⟨b, off + j, none⟩ = some (.string ls[j]) := h.below hB j hj

theorem lt_of_cell {w : World} {a : Addr} {v : Value} (h : w.cell? a = some v) : a.block < w.heap.size := by
  apply Classical.byContradiction
  intro hn
  have : w.heap[a.block]? = none := by simp; omega
  simp [World.cell?, this] at h
theorem add_on (b off j : Nat) : (⟨b, off, none⟩ : Addr).add j = ⟨b, off + j, none⟩ := by
  unfold Addr.add
  by_cases h : j = 0
  · subst h; rfl
  · simp [h]

theorem cells_str : Try.prog.cellsOf 9 = 1 := by kernel_rfl
theorem bytes_str : Try.prog.bytesOf 9 = 16 := by kernel_rfl
theorem laidOut : laidOutB Try.prog = true := by kernel_rfl

open Go.ChangeShapes Go.WideShapes in
/-- a []string that came in, nil or not. -/
theorem open_given {H : Type} {enc : TypeId × Value → H} {W : World} {a0 : Option Addr} {len cap fuel : Nat} {x : DataW H × List MemPlace}
    (hf : DataW.trod enc Try.prog W 0 (fun _ => true) true fuel 42 [.slice a0 len cap] = some x) :
    ∃ ls : List ByteArray, ls.length = len ∧ Given W a0 ls ∧ (∀ l ∈ ls, l.size ≤ maxLen) ∧ (len = 0 ∨ ∃ elems spare, x.1 = .slice elems spare ∧ elems.length = len) := by
  rcases open_strings Try.underlying42 Try.underlying9 cells_str hf with ⟨hcs, hx⟩ | ⟨a, len', cap', ss, hcs, _, hl, hm, hz, hx, hcell, hsz⟩
  · simp at hcs
    obtain ⟨rfl, rfl, rfl⟩ := hcs
    exact ⟨[], rfl, fun j hj => by simp at hj, by simp, .inl rfl⟩
  · simp at hcs
    obtain ⟨rfl, rfl, rfl⟩ := hcs
    subst hx
    simp only [if_true] at hz
    obtain ⟨b, off, spot⟩ := a
    have hlen : (ss.take len).length = len := by simp; omega
    refine ⟨ss.take len, hlen, fun j hj => ?_, ?_, .inr ⟨_, _, rfl, by simp [strs]; omega⟩⟩
    · rw [hlen] at hj
      have hspot : spot = none := by simpa [Addr.add] using World.cell?_spot (hcell 0 (by omega))
      subst hspot
      refine ⟨b, off, rfl, lt_of_cell (hcell 0 (by omega)), ?_⟩
      have := hcell j (by omega)
      rw [add_on] at this
      rw [this]
      simp [List.getD, List.getElem?_eq_getElem (show j < ss.length by omega)]
    · intro l hl'
      exact hsz l (List.mem_of_mem_take hl')

open Go.ChangeShapes Go.WideShapes in
/-- a []string that came in, nil or not. -/
theorem open_given_b {H : Type} {enc : TypeId × Value → H} {W : World} {a0 : Option Addr} {len cap fuel : Nat} {x : DataW H × List MemPlace}
    (hf : DataW.trod enc Try.prog W 0 (fun _ => true) true fuel 42 [.slice a0 len cap] = some x) :
    ∃ ls : List ByteArray, ls.length = len ∧ Given W a0 ls ∧ (∀ l ∈ ls, l.size ≤ maxLen) ∧ (len = 0 ∨ ∃ elems spare, x.1 = .slice elems spare ∧ elems.length = len) ∧ (∀ l ∈ ls, ∃ elems spare, x.1 = .slice elems spare ∧ DataW.lit (.string l.data.toList) ∈ elems) := by
  rcases open_strings Try.underlying42 Try.underlying9 cells_str hf with ⟨hcs, hx⟩ | ⟨a, len', cap', ss, hcs, _, hl, hm, hz, hx, hcell, hsz⟩
  · simp at hcs
    obtain ⟨rfl, rfl, rfl⟩ := hcs
    exact ⟨[], rfl, fun j hj => by simp at hj, by simp, .inl rfl, by simp⟩
  · simp at hcs
    obtain ⟨rfl, rfl, rfl⟩ := hcs
    subst hx
    simp only [if_true] at hz
    obtain ⟨b, off, spot⟩ := a
    have hlen : (ss.take len).length = len := by simp; omega
    refine ⟨ss.take len, hlen, fun j hj => ?_, ?_, .inr ⟨_, _, rfl, by simp [strs]; omega⟩, fun l hl => ⟨_, _, rfl, ?_⟩⟩
    · rw [hlen] at hj
      have hspot : spot = none := by simpa [Addr.add] using World.cell?_spot (hcell 0 (by omega))
      subst hspot
      refine ⟨b, off, rfl, lt_of_cell (hcell 0 (by omega)), ?_⟩
      have := hcell j (by omega)
      rw [add_on] at this
      rw [this]
      simp [List.getD, List.getElem?_eq_getElem (show j < ss.length by omega)]
    · intro l hl'
      exact hsz l (List.mem_of_mem_take hl')
    · simp only [strs]
      exact List.mem_map.2 ⟨l, hl, rfl⟩
open Go.ChangeShapes Go.WideShapes in
theorem weights_all {H : Type} {P : Program} {e : TypeId} {b : List UInt8} : ∀ {l : List (DataW H)}, DataW.lit (.string b) ∈ l → b.length ∈ DataW.weightsAll P e l
  | d :: r, h => by
    rw [DataW.weightsAll]
    rcases List.mem_cons.1 h with h | h
    · subst h; simp [DataW.weights]
    · exact List.mem_append_right _ (weights_all h)
theorem sized_elem {H : Type} {P : Program} {ts : List TypeId} {ds : List (DataW H)} (h : (DataW.weightsEach P ts ds).all (· ≤ reachBytes) = true) {j : Nat} {t e : TypeId} {elems spare : List (DataW H)} {b : List UInt8} (ht : ts[j]? = some t) (hd : ds[j]? = some (.slice elems spare)) (hu : P.underlying t = some (.slice e)) (hb : DataW.lit (.string b) ∈ elems) : b.length ≤ 140737488351232 := by
  have := List.all_eq_true.1 h _ (DataW.weights_mem_each ht hd b.length (by
    simp only [DataW.weights, hu]
    exact List.mem_cons_of_mem _ (List.mem_append_left _ (weights_all hb))))
  exact of_decide_eq_true this
theorem size_list (s : ByteArray) : s.data.toList.length = s.size := rfl

/-- pick. -/
def pickR (c : Int) (n : Int) : Int := (if c < 0 then -(c + 1) else c).tmod n
theorem pickR_ge (c n : Int) : 0 ≤ pickR c n := by
  unfold pickR
  apply Int.tmod_nonneg
  split <;> omega
theorem pickR_lt (c n : Int) (h : 0 < n) : pickR c n < n := Int.tmod_lt_of_pos _ h
theorem pick_in (w : World) (c n : Int) (hc : -9223372036854775808 ≤ c ∧ c ≤ 9223372036854775807) (hn : 0 < n) (hn2 : n ≤ 1000) :
    Calls Try.prog 8 #[.int .i64 c, .int .i64 n] w fun e w' => e = .returned (.int .i64 (pickR c n)) ∧ w' = w := by
  have hn0 : ¬ n = 0 := by omega
  have hge := pickR_ge c n
  have hlt := pickR_lt c n hn
  by_cases h : c < 0
  · have hp : pickR c n = (-(c + 1)).tmod n := by unfold pickR; rw [if_pos h]
    rw [hp] at hge hlt ⊢
    go_enter Try.func8, Try.ntmps8
    go_wp2
    go_ret
    refine ⟨?_, rfl⟩
    show Ending.returned (Value.int .i64 (-(c + 1).tmod n)) = _
    rw [Int.neg_tmod]
  · have hp : pickR c n = c.tmod n := by unfold pickR; rw [if_neg h]
    rw [hp] at hge hlt ⊢
    go_enter Try.func8, Try.ntmps8
    go_wp2
    go_ret
    refine ⟨?_, rfl⟩
    show Ending.returned (Value.int .i64 (c % n)) = _
    rw [Int.tmod_eq_emod_of_nonneg (by omega)]

end Go.Proofs.Ytcebljcofkohiaa
