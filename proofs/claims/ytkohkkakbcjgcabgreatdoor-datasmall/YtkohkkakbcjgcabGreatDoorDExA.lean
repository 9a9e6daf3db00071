/- The chapter's two readings of A. -/
import Derived.Test.YtkohkkakbcjgcabGreatDoorDGrpRead
namespace Go.Proofs.YtkohkkakbcjgcabGreatDoor
set_option linter.unusedVariables false
open Go.RowKit

def dmOf (t : ByteArray) : Nat → ByteArray → Prop := fun k s => k = 0 → s = t
def rfOf (t x : ByteArray) : Nat → ByteArray → Option (ByteArray × ByteArray) := fun _ _ => some (x, restB t)

theorem jn_one (x : ByteArray) : jn [x] = x := by
  apply ba_ext
  show Lib.join [x.data.toList] [] = x.data.toList
  exact Lib.join_one _ _

theorem readA_in (t : ByteArray) (ht : t.size ≤ 1000) (gs : List ByteArray) (ns : List Nat) (hlen : gs.length = ns.length) (h4 : ns.length = 4)
    (hok : ∀ j (h1 : j < gs.length) (h2 : j < ns.length), gs[j].size ≤ 1000 ∧ ns[j] < 256 ∧ Lib.parseIntB 64 gs[j].data.toList = .ok (ns[j] : Int))
    (hws : (wordB t).size ≤ 1000) (hrs : (restB t).size ≤ 1000) (hgs : Lib.splitB ⟨#[46]⟩ 0 (min 5 ((wordB t).size + 1) - 1) (wordB t) = gs) (W : World) (hG : Glob W) :
    Calls Tryz.prog 10 #[.int .i64 1, .string t] W fun e w' => e = .returned (if (⟨(aT ⟨(ns.map UInt8.ofNat).toArray⟩).toArray⟩ : ByteArray) = t then .tuple #[.string ⟨(ns.map UInt8.ofNat).toArray⟩, .int .i64 0] else .tuple #[.string ⟨#[]⟩, .int .i64 7]) ∧ Below W.heap.size W w' := by
  obtain ⟨x, hx⟩ : ∃ x : ByteArray, (⟨(ns.map UInt8.ofNat).toArray⟩ : ByteArray) = x := ⟨_, rfl⟩
  have hxz : x.size = 4 := by rw [← hx, ba_size, List.length_map, h4]
  have hU := understood_in W 1 (by omega) 1 t (by omega) (dmOf t) (fun _ => rfl) (rfOf t x) hG (fun k s q hq hs => by
      cases hq
      exact ⟨by show x.size ≤ _; omega, by show (restB t).size ≤ _; omega⟩) (fun k s q _ _ h => absurd h (by omega)) (fun w hGw => by
      refine (partsOf_A w).mono ?_
      rintro e w1 ⟨g, b, hg, hgb, rfl, hc, hbx, hb⟩
      refine ⟨g, fun _ => aPart b, rfl, hg, one_part hc, fun _ _ => enters_by Tryz.func91 (by kernel_rfl) rfl, ?_, hb⟩
      intro k hk W' d s' hkp hd hGK hr hs' hdm
      obtain rfl : k = 0 := by omega
      obtain rfl := hdm rfl
      have := grpRead_ok W' b d (by omega) (hbx.kept hkp (by omega)) s' hr ht hGK gs ns hlen (by omega) hok hws hgs
      rw [hx] at this
      exact this)
  have hrp : readP (rfOf t x) 1 0 t = some [x] := rfl
  rw [hrp] at hU
  have h := read_of (t := ⟨(aT x).toArray⟩) (by omega) hU (fun w hb => by
    rw [jn_one]
    exact told_A x hxz w (hG.below hb).pow)
  rw [jn_one] at h
  rw [hx]
  exact h
end Go.Proofs.YtkohkkakbcjgcabGreatDoor
