/- eachLabel and what it hands back: over any bytes (at most 255) the labels come one behind the other, each with the place of its length byte. -/
import Derived.RangeFuncNested
import Derived.RangeFuncBound
import Derived.RangeFuncCalls
import Derived.RangeFuncLeaves
import Derived.RangeFuncBox
import Derived.Shelf.Abstract
import Derived.Shelf.RegionOpen
import Derived.WalkKit
import Derived.WalkSpells
import Derived.WalkLawsBesides
import Derived.OwnWalkIn
import Derived.TacticsInMore
import Derived.LoopNIn
import Derived.LoopIn
import Derived.Test.YtkohkkakbcjgcabGreatDoorRows
import Derived.Test.YtkohkkakbcjgcabGreatDoorPlain
namespace Go.Proofs.YtkohkkakbcjgcabGreatDoor
set_option linter.unusedVariables false
open Go.RowKit Go.Shelf
attribute [local go_sem] Oper.semAt_some

/-- what a round is handed: the place of the length byte, the label. -/
abbrev Lab (N : Nat) := { x : Nat × ByteArray // x.1 < N ∧ x.2.size ≤ 255 }
variable {N : Nat}
abbrev labEnc (x : Lab N) : Array Value := #[.int .i64 (x.1.1 : Int), .string x.1.2]
def labs (p : List (Lab N)) : List (List UInt8) := p.map fun x => x.1.2.data.toList
theorem labs_snoc (p : List (Lab N)) (x : Lab N) : labs (p ++ [x]) = labs p ++ [x.1.2.data.toList] := by simp [labs]

/-- each label's place is where those ahead of it end. -/
def Placed : List (Lab N) → Prop := fun p => ∀ i (h : i < p.length), (p[i]).1.1 = (flat (labs (p.take i))).length
theorem Placed.nil : Placed ([] : List (Lab N)) := fun i h => by simp at h
theorem Placed.snoc {p : List (Lab N)} (h : Placed p) {x : Lab N} (hx : x.1.1 = (flat (labs p)).length) : Placed (p ++ [x]) := by
  intro i hi
  rw [List.length_append, List.length_singleton] at hi
  by_cases e : i < p.length
  · rw [List.getElem_append_left e, h i e, List.take_append_of_le_length (by omega)]
  · obtain rfl : i = p.length := by omega
    simp [hx]

/-- the cell of block b holds what it held. -/
def KeepCell (b : Nat) (W W' : World) : Prop := ∀ v, W.cell? ⟨b, 0, none⟩ = some v → W'.cell? ⟨b, 0, none⟩ = some v
theorem KeepCell.refl (b : Nat) (W : World) : KeepCell b W W := fun _ h => h
theorem KeepCell.t {b : Nat} {A B C : World} (h : KeepCell b A B) (k : KeepCell b B C) : KeepCell b A C := fun v hv => k v (h v hv)
theorem KeepCell.b {b N' : Nat} (W : World) (l : Nat) (o o' : Obj) (_ : N' ≤ l) (h : W.heap[l]? = some o) (hc : o.isCells = false) (_ : o.isWalk = false) : KeepCell b W (W.putObj l o') :=
  fun _ hv => cell_kept hv (grownBy_putObj' W l o') (fun r e => by cases e; exact ⟨o, h, hc⟩)
theorem KeepCell.of_block {b : Nat} {W W' : World} (h : W'.heap[b]? = W.heap[b]?) : KeepCell b W W' := fun v hv => (World.cell?_of_block (w := W) (a := ⟨b, 0, none⟩) h).trans hv
theorem KeepCell.setCell {b B : Nat} (W : World) (v : Value) (hne : b ≠ B) : KeepCell b W (W.setCell ⟨B, 0, none⟩ v) := KeepCell.of_block (Below.heap_setCell _ _ _ _ hne)
theorem KeepCell.below {b N' : Nat} {W W' : World} (h : Below N' W W') (hb : b < N') : KeepCell b W W' := KeepCell.of_block (h.block b hb)

theorem flat_count : ∀ (p : List (List UInt8)), (∀ l ∈ p, 1 ≤ l.length) → 2 * p.length ≤ (flat p).length
  | [], _ => by simp [flat]
  | l :: p, h => by
    have h1 := h l (by simp)
    have h2 := flat_count p (fun x hx => h x (by simp [hx]))
    simp [flat]; omega
theorem labs_short {s : ByteArray} {p : List (Lab N)} (h : Seq s (labs p)) (hs : s.size ≤ 255) : p.length < 256 := by
  have h1 := flat_count _ (fun l hl => (h.lab l hl).1)
  have h2 := h.le
  simp [labs] at h1; simp [labs] at h2; omega

theorem eachLabel_in (s : ByteArray) (w : World) :
    Calls Tryz.prog 123 #[.string s] w fun e w' => e = .returned (.func (.func 142) #[] #[.pointer (some ⟨w.heap.size, 0, none⟩)]) ∧ w' = w.alloc (.cells #[.string s] 9) := by
  go_enter Tryz.func123, Tryz.ntmps123
  go_wp2
  go_ret
  exact ⟨rfl, rfl⟩

set_option maxRecDepth 100000 in
set_option maxHeartbeats 1000000 in
theorem each1_in (F : Fence) (n : Nat) (h6 : F.fn 142) (hro : F.round = none) (hn : 1 ≤ n) (l Bn : Nat) (s : ByteArray) (hs : s.size ≤ 255) (J Jx : List (Lab s.size) → World → Prop)
    (hY : ∀ pre x W, J pre W → pre.length < 256 → YieldAt F (n - 1) Tryz.prog l (labEnc x) W fun e W' =>
      (e = .returned (.bool true) ∧ J (pre ++ [x]) W' ∧ KeepCell Bn W W') ∨ (e = .returned (.bool false) ∧ Jx (pre ++ [x]) W'))
    (W : World) (hBn : W.cell? ⟨Bn, 0, none⟩ = some (.string s)) (h0 : J [] W) :
    CallsIn F n Tryz.prog 142 #[.func (.yield l) #[] #[], .pointer (some ⟨Bn, 0, none⟩)] W fun e W' => (∃ v, e = .returned v) ∧
      ((∃ ys : List (Lab s.size), (Seq s (labs ys) ∧ Placed ys ∧ Ends s (flat (labs ys)).length) ∧ J ys W') ∨ (∃ pre : List (Lab s.size), (Seq s (labs pre) ∧ Placed pre) ∧ Jx pre W')) := by
  refine callsIn_of_wp Tryz.func142 rfl h6 ?_ hro
  simp only [Tryz.ntmps142, List.size_toArray, List.length_cons, List.length_nil, Nat.reduceAdd, Nat.reduceSub, Array.replicate_succ, Array.replicate_zero, List.push_toArray, List.append_toArray, List.nil_append, List.cons_append]
  gi_wp2
  gi_loopw [3] (fun i wr => ∃ (k : Nat) (pre : List (Lab s.size)), i = .int .i64 k ∧ k = (flat (labs pre)).length ∧ Seq s (labs pre) ∧ Placed pre ∧ J pre wr ∧ wr.cell? ⟨Bn, 0, none⟩ = some (.string s))
    (fun i _ => s.size - (intOf i).toNat)
  case atStart => exact ⟨0, [], rfl, rfl, Seq.nil s, Placed.nil, h0, hBn⟩
  case round =>
    obtain ⟨k, pre, rfl, hk, hsq, hpl, hJs, hcx⟩ := hrel
    have HK : Hid (k = (flat (labs pre)).length) := hk
    clear hk
    have hkle : k ≤ s.size := by rw [HK.out]; exact hsq.le
    by_cases hlt : k < s.size
    · by_cases hz : s[k] = 0
      · have hzb : ((s[k].toNat : Int) != 0) = false := by rw [hz]; rfl
        have hE : Hid (Ends s (flat (labs pre)).length) := by
          show Ends s _; rw [← HK.out]; exact fun _ => .inl hz
        clear hz
        gi_wp2
        go_end0
        exact ⟨⟨_, rfl⟩, .inl ⟨pre, ⟨hsq, hpl, hE.out⟩, hJs⟩⟩
      · have hzb : ((s[k].toNat : Int) != 0) = true := by
          rw [bne_iff_ne]; intro e; exact hz (by rw [← UInt8.ofNat_toNat (x := s[k]), show s[k].toNat = 0 by omega]; rfl)
        by_cases hfit : k + 1 + s[k].toNat ≤ s.size
        · have hu := s[k].toNat_lt
          have hsz : (s.extract (k + 1) (k + 1 + s[k].toNat)).size ≤ 255 := by rw [ByteArray.size_extract]; omega
          obtain ⟨fn, tmps, assign, body, hy, hR⟩ := hY _ ⟨(k, s.extract (k + 1) (k + 1 + s[k].toNat)), hlt, hsz⟩ wr hJs (labs_short hsq hs)
          dsimp only [labEnc] at hy
          have HS := Seq.snoc hsq HK.out hlt hz hfit
          have HL := Seq.snoc_len HK.out hlt hfit
          have HS' : Hid _ := HS
          have HL' : Hid _ := HL
          clear HS HL hz
          gi_wp2
          refine hR.mono ?_
          rintro e W3 (⟨rfl, hJ3, hk3⟩ | ⟨rfl, hJx3⟩)
          · gi_wp2
            go_roundw
            case rel => exact ⟨k + 1 + s[k].toNat, _, by go_num, by rw [labs_snoc]; exact HL'.out.symm, by rw [labs_snoc]; exact HS'.out.1, hpl.snoc HK.out, hJ3, hk3 _ hcx⟩
            case measure => simp [intOf]; omega
          · gi_wp2
            refine bodyPost_ret (results_none rfl _ _ _) rfl ?_
            exact ⟨⟨_, rfl⟩, .inr ⟨_, ⟨by rw [labs_snoc]; exact HS'.out.1, hpl.snoc HK.out⟩, hJx3⟩⟩
        · have hE : Hid (Ends s (flat (labs pre)).length) := by
            show Ends s _; rw [← HK.out]; exact fun _ => .inr (by omega)
          have hu := s[k].toNat_lt
          have hfit' : s.size < k + 1 + s[k].toNat := by omega
          clear hz hfit
          gi_wp2
          refine ⟨fun _ h => (by cases h), ?_⟩
          gi_wp2
          refine bodyPost_ret (results_none rfl _ _ _) rfl ?_
          exact ⟨⟨_, rfl⟩, .inl ⟨pre, ⟨hsq, hpl, hE.out⟩, hJs⟩⟩
    · have hE : Hid (Ends s (flat (labs pre)).length) := by
        show Ends s _; rw [← HK.out]; exact fun h => absurd h hlt
      gi_wp2
      go_end0
      exact ⟨⟨_, rfl⟩, .inl ⟨pre, ⟨hsq, hpl, hE.out⟩, hJs⟩⟩

theorem eachLabel_stops (F : Fence) (n : Nat) (h6 : F.fn 142) (hro : F.round = none) (hn : 1 ≤ n) (Bn : Nat) (s : ByteArray) (hs : s.size ≤ 255) (w : World) (hBw : Bn < w.heap.size)
    (hBn : w.cell? ⟨Bn, 0, none⟩ = some (.string s)) :
    SeqStopsK F n Tryz.prog 142 #[.pointer (some ⟨Bn, 0, none⟩)] labEnc (KeepCell Bn) (fun ys : List (Lab s.size) => Seq s (labs ys) ∧ Placed ys ∧ Ends s (flat (labs ys)).length) (fun pre : List (Lab s.size) => Seq s (labs pre) ∧ Placed pre) 256 w :=
  fun l J Jx W hW _ _ hY h0 => each1_in F n h6 hro hn l Bn s hs J Jx hY W ((hW.cell (p := ⟨Bn, 0, none⟩) hBw).trans hBn) h0

end Go.Proofs.YtkohkkakbcjgcabGreatDoor
