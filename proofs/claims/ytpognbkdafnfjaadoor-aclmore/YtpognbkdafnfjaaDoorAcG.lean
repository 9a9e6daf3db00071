/- Layer 13: the variables of packages that the calls read. -/
import Derived.Lib.AppendIntMem
import Derived.Lib.LaidTab
import Derived.Test.YtpognbkdafnfjaaDoorShelf
import Derived.Test.YtpognbkdafnfjaaDoorAcPc
namespace Go.Proofs.YtpognbkdafnfjaaDoor
set_option linter.unusedVariables false
open Go.RowKit

theorem cellB {w : World} {p : Addr} {v : Value} (h : w.cell? p = some v) : p.block < w.heap.size := by
  unfold World.cell? at h
  split at h
  · rename_i hb
    exact (Array.getElem?_eq_some_iff.1 hb).1
  · exact absurd h (by simp)
structure AG (W : World) : Prop where
  pow : Lib.TabIs Tryd.prog W "internal/strconv.uint64pow10" .u64 Lib.pow10Tab
  deb : W.cell? ⟨5, 15, none⟩ = some (.int .u8 4)
  syn : ∃ te pe, W.cell? ⟨2, 0, none⟩ = some (.iface te pe)
  rng : ∃ te pe, W.cell? ⟨3, 0, none⟩ = some (.iface te pe)
theorem AG.below {W W' : World} (h : AG W) (hb : Below W.heap.size W W') : AG W' := by
  obtain ⟨te, pe, h1⟩ := h.syn
  obtain ⟨tf, pf, h2⟩ := h.rng
  exact ⟨(Lib.tabBelow_of_tabIs h.pow) W' hb, (hb.cell (p := ⟨5, 15, none⟩) (cellB h.deb)).trans h.deb, ⟨te, pe, (hb.cell (p := ⟨2, 0, none⟩) (cellB h1)).trans h1⟩, ⟨tf, pf, (hb.cell (p := ⟨3, 0, none⟩) (cellB h2)).trans h2⟩⟩
end Go.Proofs.YtpognbkdafnfjaaDoor
