/- piecesOf: data in pieces. -/
import Derived.Test.YtkohkkakbcjgcabGreatDoorDParts
import Derived.Test.YtkohkkakbcjgcabGreatDoorClone
import Derived.Test.YtkohkkakbcjgcabGreatDoorLabelsOf
namespace Go.Proofs.YtkohkkakbcjgcabGreatDoor
set_option linter.unusedVariables false
open Go.RowKit

/-- what a part's pass does: it goes past so many bytes, or panics. -/
def PassPost (r : Option Nat) (s : ByteArray) (d : Nat) (W w' : World) (e : Ending) : Prop := match r with
  | some m => m ≤ s.size ∧ e = .returned (.tuple #[]) ∧ Rd w' d (s.extract m s.size) ∧ Kept d W w'
  | none => e = .panicked mustV ∧ Kept d W w'

/-- a part: its three functions, with what they captured, and whether it is a name. -/
structure Part where
  pass : Nat
  passC : Array Value
  tell : Nat
  tellC : Array Value
  read : Nat
  readC : Array Value
  name : Bool

/-- a function of the program's own, called by its value. -/
def Enters (f : Nat) : Prop := ∀ (args : Array Value) (w : World), (callFunc f args).run Tryz.prog w = .ok (.enter f args) w

/-- parts that lie in a row. -/
structure PartsIn (W : World) (g n : Nat) (P : Nat → Part) : Prop where
  lt : 0 < n → g < W.heap.size
  c0 : ∀ k, k < n → W.cell? ⟨g, k * 4, none⟩ = some (fnV (P k).pass (P k).passC)
  c1 : ∀ k, k < n → W.cell? ⟨g, k * 4 + 1, none⟩ = some (fnV (P k).tell (P k).tellC)
  c2 : ∀ k, k < n → W.cell? ⟨g, k * 4 + 2, none⟩ = some (fnV (P k).read (P k).readC)
  c3 : ∀ k, k < n → W.cell? ⟨g, k * 4 + 3, none⟩ = some (.bool (P k).name)

/-- the pieces of n parts from the k-th on, and what is left. -/
def cutP (pf : Nat → ByteArray → Option Nat) : Nat → Nat → ByteArray → Option (List ByteArray × ByteArray)
  | 0, _, s => some ([], s)
  | n + 1, k, s => match pf k s with
    | none => none
    | some m => (cutP pf n (k + 1) (s.extract m s.size)).map fun r => (s.extract 0 m :: r.1, r.2)
/-- the pieces of data, one a part; none: they are not of the form. -/
def fin (pf : Nat → ByteArray → Option Nat) (n : Nat) (s : ByteArray) : Option (List ByteArray) := match cutP pf n 0 s with
  | none => none
  | some r => if r.2.size = 0 then some r.1 else none

def baV (ps : List ByteArray) : List Value := ps.map .string

def PiePost (R : Option (List ByteArray)) (W : World) (e : Ending) (w' : World) : Prop := (match R with
      | some ps => ∃ v, e = .returned v ∧ w'.ownsRow W.heap.size 9 1 v ps.length (baV ps)
      | none => e = .panicked mustV) ∧ Below W.heap.size W w'

/-- how the loop of piecesOf stands. -/
def PieRel (pf : Nat → ByteArray → Option Nat) (n : Nat) (s : ByteArray) (W : World) (v i : Value) (wr : World) : Prop :=
  ∃ (k : Nat) (done : List ByteArray) (rest : ByteArray), k ≤ n ∧ i = .int .i64 k ∧ done.length = k ∧ wr.ownsRow (W.heap.size + 1) 9 1 v k (baV done) ∧ Rd wr W.heap.size rest ∧ rest.size ≤ s.size ∧
    Hid (cutP pf n 0 s = (cutP pf (n - k) k rest).map fun r => (done ++ r.1, r.2)) ∧ Below W.heap.size W wr ∧ W.heap.size + 1 ≤ wr.heap.size

set_option maxRecDepth 100000 in
set_option maxHeartbeats 4000000 in
theorem piecesOf_in (W : World) (g n cap : Nat) (hn : n ≤ 20) (s : ByteArray) (hs : s.size ≤ 2000) (P : Nat → Part) (hP : PartsIn W g n P) (pf : Nat → ByteArray → Option Nat)
    (hen : ∀ k, k < n → Enters (P k).pass)
    (hpf : ∀ k, k < n → ∀ (W' : World) (d : Nat) (s' : ByteArray), Below W.heap.size W W' → W.heap.size ≤ d → Rd W' d s' → s'.size ≤ 2000 →
      Calls Tryz.prog (P k).pass (#[boxV d] ++ (P k).passC) W' fun e w' => PassPost (pf k s') s' d W' w' e) :
    Calls Tryz.prog 55 #[.slice (some ⟨g, 0, none⟩) n cap, .string s] W fun e w' => PiePost (fin pf n s) W e w' := by
  obtain ⟨i0, hi, hz0, hz1, hz2⟩ := info_parts info9
  obtain ⟨R, hR⟩ : ∃ R, fin pf n s = R := ⟨_, rfl⟩
  rw [hR]
  have HR := Hid.mk hR
  have HPF := Hid.mk hpf
  clear hR hpf
  go_enter Tryz.func55, Tryz.ntmps55
  go_wp2
  go_loopw [6, 15] (fun v i wr => PieRel pf n s W v i wr) (fun _ i _ => n - (intOf i).toNat)
  case atStart =>
    refine ⟨0, [], s, Nat.zero_le _, rfl, rfl, World.ownsRow_nil .., heap_new _ _, Nat.le_refl _, ?_, (Below.refl _ _).alloc (Nat.le_refl _) _, by simp⟩
    rw [Hid, Nat.sub_zero]
    cases cutP pf n 0 s <;> rfl
  case round =>
    obtain ⟨k, done, rest, hk, rfl, hdl, hrow, hrd, hrz, hcut, hbl, hsz⟩ := hrel
    by_cases hlt : k < n
    · have hcall := HPF.out k hlt
      have hent := hen k hlt
      have hg := hP.lt (by omega)
      have c0 := (hbl.cell (p := ⟨g, k * 4, none⟩) hg).trans (hP.c0 k hlt)
      have c1 := (hbl.cell (p := ⟨g, k * 4 + 1, none⟩) hg).trans (hP.c1 k hlt)
      have c2 := (hbl.cell (p := ⟨g, k * 4 + 2, none⟩) hg).trans (hP.c2 k hlt)
      have c3 := (hbl.cell (p := ⟨g, k * 4 + 3, none⟩) hg).trans (hP.c3 k hlt)
      have hrc : ∀ o, (wr.alloc o).cell? ⟨W.heap.size, 0, none⟩ = some (.string rest) := fun o => (hrd.below ((Below.refl _ _).alloc (Nat.le_refl _) o)).cell
      have HC := Hid.mk hcall
      have hcs : cutP pf (n - k) k rest = match pf k rest with
          | none => none
          | some m => (cutP pf (n - (k + 1)) (k + 1) (rest.extract m rest.size)).map fun r => (rest.extract 0 m :: r.1, r.2) := by
        rw [show n - k = n - (k + 1) + 1 by omega]; rfl
      have HCS := Hid.mk (hcut.out.trans (by rw [hcs]))
      clear hcall hcs hcut
      generalize P k = pk at c0 c1 c2 c3 HC hent
      obtain ⟨fp, cp, ft, ct, fr, cr, nmb⟩ := pk
      dsimp only [Enters] at c0 c1 c2 c3 HC hent
      have hrn : Rd (wr.alloc (.cells #[fnV fp cp, fnV ft ct, fnV fr cr, .bool nmb] 86)) W.heap.size rest := hrd.below ((Below.refl _ _).alloc (Nat.le_refl _) _)
      have hbn : Below W.heap.size W (wr.alloc (.cells #[fnV fp cp, fnV ft ct, fnV fr cr, .bool nmb] 86)) := hbl.alloc (by omega) _
      have HC2 := Hid.mk (HC.out _ W.heap.size rest hbn (Nat.le_refl _) hrn (by omega))
      have hrow2 : (wr.alloc (.cells #[fnV fp cp, fnV ft ct, fnV fr cr, .bool nmb] 86)).ownsRow (W.heap.size + 1) 9 1 u6 k (baV done) := hrow.alloc _
      have hszn : W.heap.size + 1 ≤ (wr.alloc (.cells #[fnV fp cp, fnV ft ct, fnV fr cr, .bool nmb] 86)).heap.size := by simp; omega
      clear HC
      cases hpk : pf k rest with
      | none =>
        rw [hpk] at HCS HC2
        go_wp2_with fail
        refine HC2.out.mono ?_
        rintro e w1 ⟨rfl, hkp⟩
        go_wp2
        refine ⟨rfl, ?_, hbn.trans (hkp.below (Nat.le_refl _) (by omega))⟩
        have hRn : R = none := by
          rw [← HR.out, fin, HCS.out]; rfl
        rw [hRn]
      | some m =>
        rw [hpk] at HCS HC2
        go_wp2_with fail
        refine HC2.out.mono ?_
        rintro e w1 ⟨hm, rfl, hrd1, hkp⟩
        have hrc1 := hrd1.cell
        have hez : (rest.extract m rest.size).size = rest.size - m := by rw [ByteArray.size_extract]; omega
        have hw1 : IntKind.i64.wrap ((rest.size : Int) - ((rest.extract m rest.size).size : Int)) = (m : Int) := by rw [hez, IntKind.wrap_i64]; omega
        have hcz : (rest.extract 0 m).size ≤ 65535 := by rw [ByteArray.size_extract]; omega
        have hezl : (rest.extract m rest.size).size ≤ 2000 := by omega
        have HEZ := Hid.mk hez
        clear hez
        have HCN : Hid (cutP pf n 0 s = (cutP pf (n - (k + 1)) (k + 1) (rest.extract m rest.size)).map fun r => ((done ++ [rest.extract 0 m]) ++ r.1, r.2)) := by
          rw [Hid, HCS.out]
          show Option.map _ (Option.map _ _) = _
          rw [Option.map_map]
          congr 1
          funext r
          simp
        clear HCS
        generalize rest.extract m rest.size = rest' at hrd1 hrc1 hw1 HCN HEZ hezl
        go_wp2_with fail
        refine (clone_in _ _ hcz).mono ?_
        rintro e w2 ⟨rfl, hb2⟩
        have k1 : Below W.heap.size W w1 := hbn.trans (hkp.below (Nat.le_refl _) (by omega))
        have hrow1 : w1.ownsRow (W.heap.size + 1) 9 1 u6 k (baV done) := by
          refine ⟨hrow2.1, ?_⟩
          rcases hrow2.2 with h' | ⟨g', cap', cur, hv, hb', hg', hr⟩
          · exact .inl h'
          · exact .inr ⟨g', cap', cur, hv, hb', (hkp.same g' (Array.getElem?_eq_some_iff.1 hg').1 (by omega)).trans hg', hr⟩
        have hrow3 : w2.ownsRow (W.heap.size + 1) 9 1 u6 k (baV done) := by
          refine ⟨hrow1.1, ?_⟩
          rcases hrow1.2 with h' | ⟨g', cap', cur, hv, hb', hg', hr⟩
          · exact .inl h'
          · exact .inr ⟨g', cap', cur, hv, hb', (hb2.block g' (Array.getElem?_eq_some_iff.1 hg').1).trans hg', hr⟩
        have hrd2 := hrd1.below hb2
        have hsz1 : W.heap.size + 1 ≤ w1.heap.size := Nat.le_trans hszn hkp.size
        have hsz2 : W.heap.size + 1 ≤ w2.heap.size := Nat.le_trans hsz1 hb2.size
        have k2 : Below W.heap.size W w2 := k1.trans (hb2.mono (by omega))
        clear hrow2 hrow1 hrow hrd hrn hrd1 hrc hbn hb2 hkp k1 hbl c0 c1 c2 c3 HC2 hent
        go_wp2_with (at_builtin; refine wpList_append_own _ rfl _ _ 61 rfl (W.heap.size + 1) 9 i0 (.string ⟨#[]⟩) 1 16 Tryz.underlying61 hi hz0 hz1 hz2 rfl (by decide) _ _ _ rfl (hrow3.alloc _) ⟨w2.heap.size, 0, none⟩ 1 1 [.string (rest.extract 0 m)] rfl rfl (cell_one_new _ _ _) (by simp [Value.oneCell']) (by unfold maxLen; omega) (by omega) (by simp; omega) ?_; intro v1 w3 hown3 hgrow3 _)
        go_roundw
        case rel =>
          obtain ⟨q1, q2, q3, q4, q5⟩ := hgrow3
          have hne : ∀ b, b < W.heap.size + 1 → some b ≠ u6.ownBlock := by
            intro b hb e
            rcases hrow3.2 with ⟨rfl, _⟩ | ⟨g', cap', cur, rfl, hb', _⟩
            · simp [Value.ownBlock] at e
            · simp [Value.ownBlock] at e; omega
          have hal : ∀ o, Below w2.heap.size w2 (w2.alloc o) := fun o => (Below.refl _ _).alloc (Nat.le_refl _) o
          refine ⟨k + 1, done ++ [rest.extract 0 m], rest', by omega, by go_num, by simp [hdl], ?_, ?_, by have := HEZ.out; omega, HCN, ?_, ?_⟩
          · rw [baV, List.map_append]; exact hown3
          · exact (q5 W.heap.size (by simp; omega) (hne _ (by omega))).trans (hrd2.below (hal _))
          · refine k2.trans ⟨q1.trans (hal _).os, q2.trans (hal _).tape, q3.trans (hal _).output, Nat.le_trans (hal _).size q4, fun b hb => ?_⟩
            exact (q5 b (by simp; omega) (hne b (by omega))).trans ((hal _).block b (by omega))
          · simp at q4; omega
        case measure => simp [intOf]; omega
    · obtain rfl : k = n := by omega
      have hrc := hrd.cell
      have hfn : fin pf k s = if rest.size = 0 then some done else none := by
        rw [fin, hcut.out, Nat.sub_self]
        simp [cutP]
      have hRv := HR.out.symm.trans hfn
      clear hfn hcut
      by_cases h0 : rest.size = 0
      · rw [if_pos h0] at hRv
        have he : rest = ⟨#[]⟩ := ByteArray.ext (Array.eq_empty_of_size_eq_zero h0)
        subst he
        have HRV := Hid.mk hRv
        clear hRv
        go_wp2_with fail
        refine (must_yes _).mono ?_
        rintro e w1 ⟨rfl, rfl⟩
        go_wp2
        go_ret
        rw [HRV.out]
        refine ⟨⟨_, rfl, ?_⟩, hbl⟩
        rw [hdl]
        exact ⟨hrow.1, hrow.2.imp id fun ⟨g', cap', cur, hv, hb', hr⟩ => ⟨g', cap', cur, hv, by omega, hr⟩⟩
      · rw [if_neg h0] at hRv
        have HRV := Hid.mk hRv
        have hbe : (rest.toList == []) = false := by
          rw [beq_eq_false_iff_ne, ByteArray.toList_eq]
          intro e; apply h0; rw [← size_list, e]; rfl
        clear hRv
        go_wp2_with fail
        refine (must_no _).mono ?_
        rintro e w1 ⟨rfl, rfl⟩
        go_wp2
        refine ⟨rfl, ?_⟩
        rw [HRV.out]
        exact ⟨rfl, hbl⟩
end Go.Proofs.YtkohkkakbcjgcabGreatDoor
