/- Strings of TXT: readString and readMarked, where no byte is told by its number. -/
import Derived.Test.YtkohkkakbcjgcabGreatDoorDGrpRead
namespace Go.Proofs.YtkohkkakbcjgcabGreatDoor
set_option linter.unusedVariables false
open Go.RowKit

theorem cons_first (c : UInt8) (t : List UInt8) : (⟨(c :: t).toArray⟩ : ByteArray).extract 0 1 = ⟨#[c]⟩ := by
  apply ba_ext
  rw [Lib.extract_data]; simp
theorem cons_rest (c : UInt8) (t : List UInt8) : (⟨(c :: t).toArray⟩ : ByteArray).extract 1 (⟨(c :: t).toArray⟩ : ByteArray).size = ⟨t.toArray⟩ := by
  apply ba_ext
  rw [Lib.extract_data]; simp [ba_size]

theorem take1_in (W : World) (d : Nat) (c : UInt8) (t : List UInt8) (ht : t.length ≤ 1000000) (h : Rd W d ⟨(c :: t).toArray⟩) :
    Calls Tryz.prog 56 #[boxV d, .int .i64 1] W fun e w' => e = .returned (.string ⟨#[c]⟩) ∧ Rd w' d ⟨t.toArray⟩ ∧ Kept d W w' := by
  have := take_yes W d 1 ⟨(c :: t).toArray⟩ (by rw [ba_size]; unfold maxLen; simp; omega) h (by rw [ba_size]; simp)
  rw [cons_first, cons_rest] at this
  refine this.mono ?_
  rintro e w' ⟨he, hw⟩
  subst hw
  exact ⟨he, h.set _, Kept.set _ _ _ _⟩

theorem marked_in (W : World) (d : Nat) (c : UInt8) (t : List UInt8) (ht : t.length ≤ 1000000) (hc : c = 34 ∨ c = 92) (h : Rd W d ⟨(c :: t).toArray⟩) :
    Calls Tryz.prog 165 #[boxV d] W fun e w' => e = .returned (.int .u8 (c.toNat : Int)) ∧ Rd w' d ⟨t.toArray⟩ ∧ Kept d W w' := by
  have HT := Hid.mk (take1_in W d c t ht h)
  have hcl := h.cell
  have hz : (⟨(c :: t).toArray⟩ : ByteArray).size = t.length + 1 := by rw [ba_size]; rfl
  have h0 : ∀ hh, (⟨(c :: t).toArray⟩ : ByteArray)[0]'hh = c := fun _ => rfl
  generalize hS : (⟨(c :: t).toArray⟩ : ByteArray) = S at hcl hz h0
  have hne : (S.toList == []) = false := by
    rw [beq_eq_false_iff_ne, ByteArray.toList_eq]
    intro e
    have : S.size = 0 := by rw [← size_list, e]; rfl
    omega
  have hne2 : (!S.toList.isEmpty) = true := by
    rw [ByteArray.toList_eq]
    cases hl : S.data.toList with
    | nil => exfalso; have : S.size = 0 := by rw [← size_list, hl]; rfl
             omega
    | cons a l => rfl
  have hpos : 0 < S.size := by omega
  have hix := h0 hpos
  clear hS
  rcases hc with rfl | rfl
  all_goals
    go_enter Tryz.func165, Tryz.ntmps165
    go_wp2_with fail
    refine HT.out.mono ?_
    rintro e w1 ⟨rfl, hr, hk⟩
    go_wp2
    go_ret
    exact ⟨rfl, hr, hk⟩

/-- the bytes that are told up to the closing sign, behind acc, and what is left; none: one is told by its number, or there is no end. -/
def rsGo : Nat → List UInt8 → List UInt8 → Option (List UInt8 × List UInt8)
  | 0, _, _ => none
  | n + 1, acc, l => match l with
    | [] => none
    | c :: t => if c = 34 then some (acc, t) else if c = 92 then (match t with
        | [] => none
        | e :: t' => if e = 34 ∨ e = 92 then rsGo n (acc ++ [e]) t' else none)
      else rsGo n (acc ++ [c]) t

theorem rs_nil (n : Nat) (acc : List UInt8) : rsGo n acc [] = none := by cases n <;> rfl
theorem rs_34 (n : Nat) (acc t : List UInt8) : rsGo (n + 1) acc (34 :: t) = some (acc, t) := rfl
theorem rs_92 (n : Nat) (acc t : List UInt8) (e : UInt8) : rsGo (n + 1) acc (92 :: e :: t) = if e = 34 ∨ e = 92 then rsGo n (acc ++ [e]) t else none := by
  rw [rsGo]
  simp only [show ((92 : UInt8) = 34) = False by simp, if_false, if_true]
theorem rs_else (n : Nat) (acc t : List UInt8) (c : UInt8) (h : c ≠ 34) (h2 : c ≠ 92) : rsGo (n + 1) acc (c :: t) = rsGo n (acc ++ [c]) t := by
  rw [rsGo.eq_def]
  simp only [h, h2, if_false]

theorem Kept.belowTo {d n : Nat} {A B C : World} (h : Kept d A B) (k : Below n B C) (hn : A.heap.size ≤ n) : Kept d A C :=
  ⟨k.os.trans h.os, k.tape.trans h.tape, k.output.trans h.output, Nat.le_trans h.size k.size, fun b hb hd => (k.block b (by omega)).trans (h.same b hb hd)⟩
theorem Rd.belowTo {W W' : World} {d n : Nat} {s : ByteArray} (h : Rd W d s) (k : Below n W W') (hd : d < n) : Rd W' d s := (k.block d hd).trans h
def strLen : Option Value → Nat
  | some (.string s) => s.size
  | _ => 0
def rdLen (W : World) (d : Nat) : Nat := strLen (W.cell? ⟨d, 0, none⟩)
theorem Rd.len {W : World} {d : Nat} {s : ByteArray} (h : Rd W d s) : rdLen W d = s.size := by
  rw [rdLen, h.cell]; rfl
theorem row_slice' {W : World} {n₀ n : Nat} {v : Value} {xs : List Value} (h : W.ownsRow n₀ 5 1 v n xs) : ∃ q cap, v = .slice q n cap := by
  rcases h.2 with ⟨rfl, rfl⟩ | ⟨g, cap, cur, hv, _⟩
  · exact ⟨none, 0, rfl⟩
  · exact ⟨_, _, hv⟩
theorem ba1_ne {c k : UInt8} (h : c ≠ k) : ([c] == [k]) = false := by
  rw [beq_eq_false_iff_ne]; intro e; exact h (by simpa using e)

set_option maxRecDepth 100000 in
set_option maxHeartbeats 1000000 in
theorem readString_in (W : World) (d : Nat) (l : List UInt8) (hl : l.length ≤ 1000) (h : Rd W d ⟨(34 :: l).toArray⟩) (r : List UInt8 × List UInt8) (hr : rsGo (l.length + 1) [] l = some r) :
    Calls Tryz.prog 139 #[boxV d] W fun e w' => e = .returned (.string ⟨r.1.toArray⟩) ∧ Rd w' d ⟨r.2.toArray⟩ ∧ Kept d W w' := by
  obtain ⟨i0, hi, hz0, hz1, hz2⟩ := info_parts info5
  have HT := Hid.mk (take1_in W d 34 l (by omega) h)
  have HR := Hid.mk hr
  clear hr
  go_enter Tryz.func139, Tryz.ntmps139
  go_wp2_with fail
  refine HT.out.mono ?_
  rintro e w1 ⟨rfl, hr1, hk1⟩
  go_wp2_with fail
  refine (must_yes _).mono ?_
  rintro e w2 ⟨rfl, rfl⟩
  go_wp2
  have hdn := hr1.lt
  have hWn := hk1.size
  go_loopw [3] (fun v wr => ∃ (acc t : List UInt8) (n : Nat), acc.length + t.length ≤ 1000 ∧ Rd wr d ⟨t.toArray⟩ ∧ wr.ownsRow w2.heap.size 5 1 v acc.length (Lib.byteCells acc) ∧ Hid (rsGo n acc t = some r) ∧ w2.heap.size ≤ wr.heap.size ∧ Kept d W wr) (fun _ wr => rdLen wr d)
  case atStart => exact ⟨[], l, l.length + 1, by simpa using hl, hr1, World.ownsRow_nil .., HR, Nat.le_refl _, hk1⟩
  case round =>
    obtain ⟨acc, t, n, hat, hrd, hrow, HG, hsz, hkp⟩ := hrel
    have HM := Hid.mk hrd.len
    cases t with
    | nil => exact absurd HG.out (by simp [rs_nil])
    | cons c t =>
      obtain ⟨n, rfl⟩ : ∃ m, n = m + 1 := by
        cases n with
        | zero => exact absurd HG.out (by simp [rsGo])
        | succ m => exact ⟨m, rfl⟩
      have HT2 := Hid.mk (take1_in wr d c t (by simp at hat; omega) hrd)
      simp only [List.length_cons] at hat
      obtain ⟨q, cap, rfl⟩ := row_slice' hrow
      have HROW : Hid (∀ w3, Kept d wr w3 → w3.ownsRow w2.heap.size 5 1 (.slice q acc.length cap) acc.length (Lib.byteCells acc)) := fun w3 hk3 => row_kept' hrow hk3 hdn
      clear hrow
      by_cases h34 : c = 34
      · subst h34
        go_wp2_with fail
        refine HT2.out.mono ?_
        rintro e w3 ⟨rfl, hr3, hk3⟩
        have hrow3 := HROW.out w3 hk3
        have hfin : r = (acc, t) := by have := HG.out; rw [rs_34] at this; exact (Option.some.inj this).symm
        subst hfin
        rcases hrow3.2 with ⟨hv, h0⟩ | ⟨g', cap', cur, hv, _, hg, _, _, _, ht⟩
        · obtain rfl : acc = [] := List.length_eq_zero_iff.1 h0
          cases hv
          have hcv : ∀ W : World, (convert 100 9 (.slice none 0 0)).run Tryz.prog W = .ok (.string ⟨#[]⟩) W := fun W => by kernel_rfl
          go_wp2
          go_ret
          exact ⟨rfl, hr3, hkp.trans hk3⟩
        · cases hv
          have hcv := run_convert_bytes_back (P := Tryz.prog) w3 100 9 5 ⟨g', 0, none⟩ cap acc Tryz.underlying100 Tryz.underlying5 Tryz.underlying9 (fun j hj => Lib.cells_of_row (w := w3) hg acc.length j _ (by rw [Nat.mul_one] at ht; rw [ht]; simp [Lib.byteCells, hj]))
          clear hg ht hrow3
          go_wp2
          go_ret
          exact ⟨rfl, hr3, hkp.trans hk3⟩
      · have hb34 := ba1_ne h34
        by_cases h92 : c = 92
        · subst h92
          go_wp2_with fail
          refine HT2.out.mono ?_
          rintro e w3 ⟨rfl, hr3, hk3⟩
          cases t with
          | nil => exact absurd HG.out (by simp [rsGo])
          | cons c t =>
            have hcc : c = 34 ∨ c = 92 := by
              have := HG.out
              rw [rs_92] at this
              by_cases hc : c = 34 ∨ c = 92
              · exact hc
              · rw [if_neg hc] at this; cases this
            have HG2 : Hid (rsGo n (acc ++ [c]) t = some r) := by
              have := HG.out
              rw [rs_92, if_pos hcc] at this
              exact this
            simp only [List.length_cons] at hat
            have HM3 := Hid.mk (marked_in w3 d c t (by omega) hcc hr3)
            go_wp2_with fail
            refine HM3.out.mono ?_
            rintro e w4 ⟨rfl, hr4, hk4⟩
            have hrow4 := HROW.out w4 (hk3.trans hk4)
            have hsz4 : w2.heap.size ≤ w4.heap.size := Nat.le_trans hsz (hk3.trans hk4).size
            clear HROW
            go_wp2_with (at_builtin; refine wpList_append_own _ rfl _ _ 100 rfl w2.heap.size 5 i0 (.int .u8 0) 1 1 Tryz.underlying100 hi hz0 hz1 hz2 rfl (by decide) _ _ _ rfl (hrow4.alloc _) ⟨w4.heap.size, 0, none⟩ 1 1 [.int .u8 (c.toNat : Int)] rfl rfl (cell_one_new _ _ _) (by simp [Value.oneCell']) (by unfold maxLen; omega) (by omega) (by simp; omega) ?_; intro v1 w5 hown5 hgrow5 _)
            have hb5 : Below w2.heap.size w4 w5 := ((Below.refl _ _).alloc hsz4 _).grown hgrow5 (by simp; omega) (own_base hrow4)
            have hrd5 := hr4.belowTo hb5 hdn
            have HLT : Hid (rdLen w5 d < rdLen wr d) := by
              rw [Hid, HM.out, hrd5.len, ba_size, ba_size]; simp; omega
            have hrelN : ∃ (acc t : List UInt8) (n : Nat), acc.length + t.length ≤ 1000 ∧ Rd w5 d ⟨t.toArray⟩ ∧ w5.ownsRow w2.heap.size 5 1 v1 acc.length (Lib.byteCells acc) ∧ Hid (rsGo n acc t = some r) ∧ w2.heap.size ≤ w5.heap.size ∧ Kept d W w5 :=
              ⟨acc ++ [c], t, n, by simp; omega, hrd5, by rw [List.length_append, byteCells_snoc]; exact hown5, HG2, Nat.le_trans hsz4 hb5.size, ((hkp.trans hk3).trans hk4).belowTo hb5 hWn⟩
            go_wp2
            go_roundw
            case rel => exact hrelN
            case measure => exact HLT.out
        · have hb92 := ba1_ne h92
          go_wp2_with fail
          refine HT2.out.mono ?_
          rintro e w4 ⟨rfl, hr4, hk4⟩
          have hrow4 := HROW.out w4 hk4
          have HG2 : Hid (rsGo n (acc ++ [c]) t = some r) := by
            have := HG.out
            rw [rs_else n acc t c h34 h92] at this
            exact this
          have h0 : ∀ hh, (⟨#[c]⟩ : ByteArray)[0]'hh = c := fun _ => rfl
          have hsz4 : w2.heap.size ≤ w4.heap.size := Nat.le_trans hsz hk4.size
          clear HROW
          go_wp2_with (at_builtin; refine wpList_append_own _ rfl _ _ 100 rfl w2.heap.size 5 i0 (.int .u8 0) 1 1 Tryz.underlying100 hi hz0 hz1 hz2 rfl (by decide) _ _ _ rfl (hrow4.alloc _) ⟨w4.heap.size, 0, none⟩ 1 1 [.int .u8 (c.toNat : Int)] rfl rfl (cell_one_new _ _ _) (by simp [Value.oneCell']) (by unfold maxLen; omega) (by omega) (by simp; omega) ?_; intro v1 w5 hown5 hgrow5 _)
          have hb5 : Below w2.heap.size w4 w5 := ((Below.refl _ _).alloc hsz4 _).grown hgrow5 (by simp; omega) (own_base hrow4)
          have hrd5 := hr4.belowTo hb5 hdn
          have HLT : Hid (rdLen w5 d < rdLen wr d) := by
            rw [Hid, HM.out, hrd5.len, ba_size, ba_size]; simp
          have hrelN : ∃ (acc t : List UInt8) (n : Nat), acc.length + t.length ≤ 1000 ∧ Rd w5 d ⟨t.toArray⟩ ∧ w5.ownsRow w2.heap.size 5 1 v1 acc.length (Lib.byteCells acc) ∧ Hid (rsGo n acc t = some r) ∧ w2.heap.size ≤ w5.heap.size ∧ Kept d W w5 :=
            ⟨acc ++ [c], t, n, by simp; omega, hrd5, by rw [List.length_append, byteCells_snoc]; exact hown5, HG2, Nat.le_trans hsz4 hb5.size, (hkp.trans hk4).belowTo hb5 hWn⟩
          go_wp2
          go_roundw
          case rel => exact hrelN
          case measure => exact HLT.out
end Go.Proofs.YtkohkkakbcjgcabGreatDoor
