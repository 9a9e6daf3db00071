/- What the row lists lies there: the words of the rounds of SHA-256; a world for the witnesses. -/
import Derived.OpenShut
import Derived.WalkKit
import Derived.ProofKit
import Derived.Lib.LaidTab
import Derived.Deep.DeepHandedRow
import Derived.Test.YtdecmbpmgnoelaaDoorTie
import Derived.Test.YtdecmbpmgnoelaaDoorCards
import Derived.Test.YtdecmbpmgnoelaaDoorGStir2
namespace Go.Proofs.YtdecmbpmgnoelaaDoor
set_option linter.unusedVariables false
open Go.RowKit

theorem laid_at {P : Program} {w : World} {n : String} {d : DataW Unit} : ∀ {l : List (String × DataW Unit)} {ps : List MemPlace}, DataW.LaidVars P w l ps → (n, d) ∈ l →
    ∃ g t cs fuel p, P.globalNamed n = some g ∧ (P.globals[g]?).map (·.type) = some t ∧ w.var? P n = some cs ∧ DataW.trod (fun _ => ()) P w 0 (fun _ => true) false fuel t cs.toList = some (d, p)
  | [], _, _, h => by cases h
  | (n', d') :: r, ps, ⟨g, t, cs, fuel, p, q, h1, h2, h3, h4, h5, _⟩, h => by
    rcases List.mem_cons.1 h with e | h
    · cases e
      exact ⟨g, t, cs, fuel, p, h1, h2, h3, h4⟩
    · exact laid_at h5 h
def rkI : List Int := rk.map fun x => (x.toNat : Int)
theorem rk_of {W : World} {l : List (String × DataW Unit)} (h : laidMet Tryd.prog l W) (hs : W.ShapedOpen Tryd.prog) (hm : ("guidepost/digest.rounds256", (Rows.laid_guidepost_digest_rounds256 : DataW Unit)) ∈ l) : Rk W := by
  obtain ⟨ps, hv0, _⟩ := h
  obtain ⟨g, t, cs, fuel, p, hg, ht, hv, hd⟩ := laid_at hv0 hm
  have hg0 : Tryd.prog.globalNamed "guidepost/digest.rounds256" = some 0 := by kernel_rfl
  obtain rfl := Option.some.inj (hg0.symm.trans hg)
  have ht0 : (Tryd.prog.globals[0]?).map (·.type) = some 56 := by kernel_rfl
  obtain rfl := Option.some.inj (ht0.symm.trans ht)
  have hda : (Rows.laid_guidepost_digest_rounds256 : DataW Unit) = Lib.tabData .u32 rkI := by kernel_rfl
  rw [hda] at hd
  have hu2 : Tryd.prog.underlying 31 = some (.int .u32) := by kernel_rfl
  have hc1 : Tryd.prog.cellsOf 31 = 1 := by kernel_rfl
  have hc2 : Tryd.prog.cellsOf 56 = 64 := by kernel_rfl
  have hall := Lib.cells_of_tab und56 hu2 hc1 hc2 hd
  intro i hi
  have hl : i < rk.length := hi
  rw [World.var?_cell hg0 hv i, ← Array.getElem?_toList, hall, rkI, List.getElem?_map, List.getElem?_map, List.getElem?_eq_getElem hl]
  rfl

def lit1 : DataW Unit → List Value
  | .lit (.int k n) => [.int k n]
  | _ => []
def flat1 : DataW Unit → Array Value
  | .agg l => (l.flatMap lit1).toArray
  | _ => #[]
/-- A WORLD FOR THE WITNESS: the settled one, the variable holding what its text lays. -/
noncomputable def laidWorld (os : Os) : World :=
  let w0 := World.holding Tryd.prog os ⟨#[], #[], []⟩
  { w0 with heap := w0.heap.modify 0 fun
      | .cells _ t frozen => .cells (flat1 Rows.laid_guidepost_digest_rounds256) t frozen
      | o => o }
end Go.Proofs.YtdecmbpmgnoelaaDoor
