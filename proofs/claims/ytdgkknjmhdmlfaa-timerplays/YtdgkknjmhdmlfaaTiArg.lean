/- Layer 12: numbers that come in. -/
import Derived.ProofKit
import Derived.OpenShut
import Derived.ShutString
import Derived.Carry
import Derived.SizedLaws
import Derived.ChangeSlices
import Derived.Test.YtdgkknjmhdmlfaaTiPick
namespace Go.Proofs.Ytdgkknjmhdmlfaa
set_option linter.unusedVariables false
open Go.RowKit

/-- ints that came in. -/
def GivenI (W : World) (a0 : Option Addr) (ls : List Int) : Prop := ∀ j (h : j < ls.length), ∃ b off, a0 = some ⟨b, off, none⟩ ∧ b < W.heap.size ∧ W.cell? ⟨b, off + j, none⟩ = some (.int .i64 ls[j])
theorem GivenI.below {w W : World} {a0 : Option Addr} {ls : List Int} (h : GivenI w a0 ls) (hB : Below w.heap.size w W) : GivenI W a0 ls := fun j hj => by
  obtain ⟨b, off, h1, h2, h3⟩ := h j hj
  exact ⟨b, off, h1, Nat.lt_of_lt_of_le h2 hB.size, (hB.cell (p := ⟨b, off + j, none⟩) h2).trans h3⟩
theorem lt_of_cell {w : World} {a : Addr} {v : Value} (h : w.cell? a = some v) : a.block < w.heap.size := by
  apply Classical.byContradiction
  intro hn
  have : w.heap[a.block]? = none := by simp; omega
  simp [World.cell?, this] at h
theorem cells_int : Try.prog.cellsOf 3 = 1 := by kernel_rfl
theorem cells_u64 : Try.prog.cellsOf 59 = 1 := by kernel_rfl
theorem bytes_u64 : Try.prog.bytesOf 59 = 8 := by kernel_rfl
theorem laidOut : laidOutB Try.prog = true := by kernel_rfl
open Go.ChangeShapes Go.WideShapes in
/-- a []int that came in, nil or not. -/
theorem open_givenI {H : Type} {enc : TypeId × Value → H} {W : World} {a0 : Option Addr} {len cap fuel : Nat} {x : DataW H × List MemPlace}
    (hf : DataW.trod enc Try.prog W 0 (fun _ => true) true fuel 41 [.slice a0 len cap] = some x) :
    ∃ ls : List Int, ls.length = len ∧ GivenI W a0 ls ∧ (∀ z ∈ ls, -9223372036854775808 ≤ z ∧ z ≤ 9223372036854775807) ∧ (len ≤ cap ∧ cap ≤ maxLen ∧ (a0 = none → cap = 0)) := by
  rcases open_ints Try.underlying41 Try.underlying3 cells_int hf with ⟨hcs, hx⟩ | ⟨a, len', cap', zs, hcs, _, hl, hm, hz, hx, hcell, hsz⟩
  · simp at hcs
    obtain ⟨rfl, rfl, rfl⟩ := hcs
    exact ⟨[], rfl, fun j hj => by simp at hj, by simp, by simp⟩
  · simp at hcs
    obtain ⟨rfl, rfl, rfl⟩ := hcs
    subst hx
    simp only [if_true] at hz
    obtain ⟨b, off, spot⟩ := a
    have hlen : (zs.take len).length = len := by simp; omega
    refine ⟨zs.take len, hlen, fun j hj => ?_, fun z hz' => Go.bounds_i64 (hsz z (List.mem_of_mem_take hz')), hl, hm, fun h => by cases h⟩
    rw [hlen] at hj
    have hspot : spot = none := by simpa [Addr.add] using World.cell?_spot (hcell 0 (by omega))
    subst hspot
    have := hcell j (by omega)
    rw [add_off] at this
    refine ⟨b, off, rfl, lt_of_cell this, ?_⟩
    rw [this]
    simp [List.getD, List.getElem?_eq_getElem (show j < zs.length by omega)]
theorem u64_rng {n : Int} (h : (Lit.int .u64 n).wf = true) : 0 ≤ n ∧ n < 18446744073709551616 := by
  simp [Lit.wf, IntKind.min, IntKind.max, IntKind.signed, IntKind.bits] at h
  omega
open Go.ChangeShapes Go.WideShapes in
/-- a []uint64 that came in, nil or not. -/
theorem open_nums {H : Type} {enc : TypeId × Value → H} {W : World} {a0 : Option Addr} {len cap fuel : Nat} {x : DataW H × List MemPlace}
    (hf : DataW.trod enc Try.prog W 0 (fun _ => true) true fuel 53 [.slice a0 len cap] = some x) :
    ∃ ls : List Int, ls.length = len ∧ Nums W (.slice a0 len cap) ls ∧ (len = 0 ∨ ∃ elems spare, x.1 = .slice elems spare ∧ elems.length = len) := by
  rcases open_ints Try.underlying53 Try.underlying59 cells_u64 hf with ⟨hcs, hx⟩ | ⟨a, len', cap', zs, hcs, _, hl, hm, hz, hx, hcell, hsz⟩
  · simp at hcs
    obtain ⟨rfl, rfl, rfl⟩ := hcs
    exact ⟨[], rfl, ⟨⟨none, 0, rfl, Nat.le_refl _, by omega, fun _ => rfl, fun j hj => by simp at hj⟩, by simp⟩, .inl rfl⟩
  · simp at hcs
    obtain ⟨rfl, rfl, rfl⟩ := hcs
    subst hx
    simp only [if_true] at hz
    obtain ⟨b, off, spot⟩ := a
    have hlen : (zs.take len).length = len := by simp; omega
    refine ⟨zs.take len, hlen, ⟨⟨some ⟨b, off, spot⟩, cap, by rw [hlen], by omega, by unfold maxLen at hm; omega, (fun h => by cases h), fun j hj => ?_⟩, fun z hz' => u64_rng (hsz z (List.mem_of_mem_take hz'))⟩, .inr ⟨_, _, rfl, by simp [lits]; omega⟩⟩
    rw [hlen] at hj
    have hspot : spot = none := by simpa [Addr.add] using World.cell?_spot (hcell 0 (by omega))
    subst hspot
    have := hcell j (by omega)
    rw [add_off] at this
    refine ⟨b, off, rfl, lt_of_cell this, ?_⟩
    rw [this]
    simp [List.getD, List.getElem?_eq_getElem (show j < zs.length by omega)]

end Go.Proofs.Ytdgkknjmhdmlfaa
