/- Layer 12: numbers that come in, with their bytes. -/
import Derived.Test.YtdgkknjmhdmlfaaTiArg
namespace Go.Proofs.Ytdgkknjmhdmlfaa
set_option linter.unusedVariables false
open Go.RowKit
theorem bytes_int : Try.prog.bytesOf 3 = 8 := by kernel_rfl
open Go.ChangeShapes Go.WideShapes in
/-- a []int that came in, nil or not. -/
theorem open_givenQ {H : Type} {enc : TypeId × Value → H} {W : World} {a0 : Option Addr} {len cap fuel : Nat} {x : DataW H × List MemPlace}
    (hf : DataW.trod enc Try.prog W 0 (fun _ => true) true fuel 41 [.slice a0 len cap] = some x) :
    ∃ ls : List Int, ls.length = len ∧ GivenI W a0 ls ∧ (∀ z ∈ ls, -9223372036854775808 ≤ z ∧ z ≤ 9223372036854775807) ∧ (len ≤ cap ∧ cap ≤ maxLen ∧ (a0 = none → cap = 0)) ∧ (len = 0 ∨ ∃ elems spare, x.1 = .slice elems spare ∧ elems.length = len) := by
  rcases open_ints Try.underlying41 Try.underlying3 cells_int hf with ⟨hcs, hx⟩ | ⟨a, len', cap', zs, hcs, _, hl, hm, hz, hx, hcell, hsz⟩
  · simp at hcs
    obtain ⟨rfl, rfl, rfl⟩ := hcs
    exact ⟨[], rfl, fun j hj => by simp at hj, by simp, by simp, .inl rfl⟩
  · simp at hcs
    obtain ⟨rfl, rfl, rfl⟩ := hcs
    subst hx
    simp only [if_true] at hz
    obtain ⟨b, off, spot⟩ := a
    have hlen : (zs.take len).length = len := by simp; omega
    refine ⟨zs.take len, hlen, fun j hj => ?_, fun z hz' => Go.bounds_i64 (hsz z (List.mem_of_mem_take hz')), ⟨hl, hm, fun h => by cases h⟩, .inr ⟨_, _, rfl, by simp [lits]; omega⟩⟩
    rw [hlen] at hj
    have hspot : spot = none := by simpa [Addr.add] using World.cell?_spot (hcell 0 (by omega))
    subst hspot
    have := hcell j (by omega)
    rw [add_off] at this
    refine ⟨b, off, rfl, lt_of_cell this, ?_⟩
    rw [this]
    simp [List.getD, List.getElem?_eq_getElem (show j < zs.length by omega)]

end Go.Proofs.Ytdgkknjmhdmlfaa
