/- What lies there all the time; the reader's word; understood. -/
import Derived.Test.YtkohkkakbcjgcabGreatDoorDGrpTell
namespace Go.Proofs.YtkohkkakbcjgcabGreatDoor
set_option linter.unusedVariables false
open Go.RowKit

/-- the variables of packages that the calls read. -/
structure Glob (W : World) : Prop where
  pow : Pow W
  types : Types W
  maxl : ∃ m, W.cell? ⟨1, 0, none⟩ = some (.int .i64 m)
theorem Glob.below {W W' : World} (h : Glob W) (hb : Below W.heap.size W W') : Glob W' := by
  obtain ⟨m, hm⟩ := h.maxl
  exact ⟨h.pow.below hb, h.types.below hb, m, (hb.cell (p := ⟨1, 0, none⟩) (cell_block hm)).trans hm⟩

/-- what stands ahead of the next blank, and what behind it. -/
def wordB (s : ByteArray) : ByteArray := ⟨(Lib.cut s.data.toList [32]).1.toArray⟩
def restB (s : ByteArray) : ByteArray := ⟨(Lib.cut s.data.toList [32]).2.1.toArray⟩

theorem word_in (W : World) (d : Nat) (s : ByteArray) (hs : s.size ≤ 1000000) (h : Rd W d s) (hG : Glob W) :
    Calls Tryz.prog 88 #[boxV d] W fun e w' => e = .returned (.string (wordB s)) ∧ Rd w' d (restB s) ∧ Kept d W w' := by
  obtain ⟨m, hm⟩ := hG.maxl
  have hc := h.cell
  have HC := Hid.mk (Tryz.strings_Cut s ⟨#[32]⟩ m W (by omega) hm)
  go_enter Tryz.func88, Tryz.ntmps88
  go_wp2_with fail
  refine HC.out.mono ?_
  rintro e w1 ⟨rfl, n, rfl⟩
  have hc1 : (W.drewN n).cell? ⟨d, 0, none⟩ = some (.string s) := hc
  have hf1 : (W.drewN n).frozen? ⟨d, 0, none⟩ = false := h.frozen
  have hf := h.frozen
  go_wp2
  go_ret
  refine ⟨rfl, ?_, ?_⟩
  · exact Rd.set (W := W.drewN n) h _
  · exact ⟨rfl, rfl, rfl, (Kept.set d 0 W _).size, (Kept.set d 0 W _).same⟩

/-- what lies there stays so long as block d alone is written. -/
def GlobK (d : Nat) (W : World) : Prop := ∀ W', Kept d W W' → Glob W'
theorem GlobK.here {d : Nat} {W : World} (h : GlobK d W) : Glob W := h W (Kept.refl _ _)

/-- what a part's read does. -/
def ReadPost (r : Option (ByteArray × ByteArray)) (d : Nat) (W w' : World) (e : Ending) : Prop := match r with
  | some q => e = .returned (.string q.1) ∧ Rd w' d q.2 ∧ Kept d W w'
  | none => e = .panicked mustV ∧ Kept d W w'

/-- what partsOf hands back for who reads. -/
def ReadsPost (n : Nat) (dm : Nat → ByteArray → Prop) (rf : Nat → ByteArray → Option (ByteArray × ByteArray)) (w : World) (e : Ending) (w' : World) : Prop :=
  ∃ g P, e = .returned (.slice (some ⟨g, 0, none⟩) n n) ∧ w.heap.size ≤ g ∧ PartsIn w' g n P ∧ (∀ k, k < n → Enters (P k).read) ∧
    (∀ k, k < n → ∀ (W' : World) (d : Nat) (s' : ByteArray), Kept d w' W' → d < w.heap.size → GlobK d W' → Rd W' d s' → s'.size ≤ 1000000 → dm k s' →
      Calls Tryz.prog (P k).read (#[boxV d] ++ (P k).readC) W' fun e w'' => ReadPost (rf k s') d W' w'' e) ∧ Below w.heap.size w w'

/-- the pieces that n parts read off a text, from the k-th on. -/
def readP (rf : Nat → ByteArray → Option (ByteArray × ByteArray)) : Nat → Nat → ByteArray → Option (List ByteArray)
  | 0, _, _ => some []
  | n + 1, k, s => match rf k s with
    | none => none
    | some q => (readP rf n (k + 1) q.2).map fun r => q.1 :: r
end Go.Proofs.YtkohkkakbcjgcabGreatDoor
