/- The reader of data: must, take, all, number, counted. -/
import Derived.WalkKit
import Derived.WalkSpells
import Derived.WalkLawsBesides
import Derived.Laws.Bits64b
import Derived.Defers
import Derived.Recover
import Derived.Test.YtkohkkakbcjgcabGreatDoorRows
import Derived.Test.YtkohkkakbcjgcabGreatDoorPlain
import Derived.Test.YtkohkkakbcjgcabGreatDoorRight
namespace Go.Proofs.YtkohkkakbcjgcabGreatDoor
set_option linter.unusedVariables false
open Go.RowKit

theorem bth {n : Nat} {A B C : World} (h : Below n A B) (k : Below B.heap.size B C) (hn : n ≤ B.heap.size) : Below n A C := h.trans (k.mono hn)

/-- what must panics with. -/
def mustV : List PanicEntry := [{ v := .iface 23 (.int .i64 6), recovered := false }]

theorem must_yes (w : World) : Calls Tryz.prog 58 #[.bool true] w fun e w' => e = .returned (.tuple #[]) ∧ w' = w := by
  go_enter Tryz.func58, Tryz.ntmps58
  go_wp2
  exact bodyPost_end (results_none rfl _ _ _) rfl ⟨rfl, rfl⟩
theorem must_no (w : World) : Calls Tryz.prog 58 #[.bool false] w fun e w' => e = .panicked mustV ∧ w' = w := by
  go_enter Tryz.func58, Tryz.ntmps58
  go_wp2
  exact ⟨rfl, rfl, rfl⟩

theorem isType_in (k : Int) (w : World) : Calls Tryz.prog 30 #[.int .i64 k] w fun e w' => e = .returned (.bool (decide (0 ≤ k ∧ k ≤ 65535))) ∧ w' = w := by
  go_enter Tryz.func30, Tryz.ntmps30
  go_wp2
  all_goals
    go_ret
    refine ⟨?_, rfl⟩
    simp
    omega

/-- all but block d stays. -/
structure Kept (d : Nat) (W W' : World) : Prop where
  os : W'.os = W.os
  tape : W'.tape = W.tape
  output : W'.output = W.output
  size : W.heap.size ≤ W'.heap.size
  same : ∀ b, b < W.heap.size → b ≠ d → W'.heap[b]? = W.heap[b]?
theorem Kept.refl (d : Nat) (W : World) : Kept d W W := ⟨rfl, rfl, rfl, Nat.le_refl _, fun _ _ _ => rfl⟩
theorem Kept.trans {d : Nat} {A B C : World} (h : Kept d A B) (k : Kept d B C) : Kept d A C :=
  ⟨k.os.trans h.os, k.tape.trans h.tape, k.output.trans h.output, Nat.le_trans h.size k.size, fun b hb hd => (k.same b (Nat.lt_of_lt_of_le hb h.size) hd).trans (h.same b hb hd)⟩
theorem Kept.set (d i : Nat) (W : World) (v : Value) : Kept d W (W.setCell ⟨d, i, none⟩ v) :=
  ⟨rfl, rfl, rfl, by simp [World.setCell], fun b _ hd => Below.heap_setCell W ⟨d, i, none⟩ v b hd⟩
theorem Kept.of_below {d : Nat} {W W' : World} (h : Below W.heap.size W W') : Kept d W W' := ⟨h.os, h.tape, h.output, h.size, fun b hb _ => h.block b hb⟩
theorem Kept.below {d n : Nat} {W W' : World} (h : Kept d W W') (hd : n ≤ d) (hn : n ≤ W.heap.size) : Below n W W' :=
  ⟨h.os, h.tape, h.output, h.size, fun b hb => h.same b (by omega) (by omega)⟩

/-- the reader at block d has this text left. -/
def Rd (W : World) (d : Nat) (s : ByteArray) : Prop := W.heap[d]? = some (.cells #[.string s] 94 (0, 0))
theorem Rd.cell {W : World} {d : Nat} {s : ByteArray} (h : Rd W d s) : W.cell? ⟨d, 0, none⟩ = some (.string s) := by simp [World.cell?, show W.heap[d]? = _ from h]
theorem Rd.frozen {W : World} {d : Nat} {s : ByteArray} (h : Rd W d s) : W.frozen? ⟨d, 0, none⟩ = false := by simp [World.frozen?, show W.heap[d]? = _ from h]
theorem Rd.lt {W : World} {d : Nat} {s : ByteArray} (h : Rd W d s) : d < W.heap.size := (Array.getElem?_eq_some_iff.1 h).1
theorem Rd.set {W : World} {d : Nat} {s : ByteArray} (h : Rd W d s) (t : ByteArray) : Rd (W.setCell ⟨d, 0, none⟩ (.string t)) d t := by
  have h' : W.heap[d]? = _ := h
  simp only [Rd, World.setCell, Array.getElem?_modify, h']
  rfl
theorem Rd.kept {W W' : World} {d b : Nat} {s : ByteArray} (h : Rd W d s) (k : Kept b W W') (hb : d ≠ b) : Rd W' d s := (k.same d h.lt hb).trans h
theorem Rd.below {W W' : World} {d : Nat} {s : ByteArray} (h : Rd W d s) (k : Below W.heap.size W W') : Rd W' d s := (k.block d h.lt).trans h

theorem take_yes (W : World) (d n : Nat) (s : ByteArray) (hs : s.size ≤ maxLen) (h : Rd W d s) (hn : n ≤ s.size) :
    Calls Tryz.prog 56 #[.pointer (some ⟨d, 0, none⟩), .int .i64 n] W fun e w' => e = .returned (.string (s.extract 0 n)) ∧ w' = W.setCell ⟨d, 0, none⟩ (.string (s.extract n s.size)) := by
  unfold maxLen at hs
  have hc := h.cell
  have hf := h.frozen
  go_enter Tryz.func56, Tryz.ntmps56
  go_wp2_with fail
  refine (must_yes _).mono ?_
  rintro e w1 ⟨rfl, rfl⟩
  go_wp2
  go_ret
  exact ⟨rfl, rfl⟩
theorem take_no (W : World) (d n : Nat) (s : ByteArray) (hs : s.size ≤ maxLen) (h : Rd W d s) (hn : s.size < n) (hm : n ≤ maxLen) :
    Calls Tryz.prog 56 #[.pointer (some ⟨d, 0, none⟩), .int .i64 n] W fun e w' => e = .panicked mustV ∧ w' = W := by
  unfold maxLen at hs hm
  have hc := h.cell
  have hb : decide (n ≤ s.size) = false := by simp; omega
  go_enter Tryz.func56, Tryz.ntmps56
  go_wp2_with fail
  refine (must_no _).mono ?_
  rintro e w1 ⟨rfl, rfl⟩
  go_wp2
  exact ⟨rfl, rfl, rfl⟩

theorem all_in (W : World) (d : Nat) (s : ByteArray) (hs : s.size ≤ maxLen) (h : Rd W d s) :
    Calls Tryz.prog 100 #[.pointer (some ⟨d, 0, none⟩)] W fun e w' => e = .returned (.string s) ∧ w' = W.setCell ⟨d, 0, none⟩ (.string ⟨#[]⟩) := by
  have hc := h.cell
  have e1 : s.extract 0 s.size = s := by simp
  have e2 : s.extract s.size s.size = ⟨#[]⟩ := by
    apply ByteArray.ext; simp
  go_enter Tryz.func100, Tryz.ntmps100
  go_wp2_with fail
  refine (take_yes W d s.size s hs h (Nat.le_refl _)).mono ?_
  rintro e w1 ⟨rfl, rfl⟩
  rw [e1, e2]
  go_wp2
  go_ret
  exact ⟨rfl, rfl⟩

/-- the number that bytes are. -/
def numB (l : List UInt8) : Nat := l.foldl (fun n b => n * 256 + b.toNat) 0
theorem numB_snoc (l : List UInt8) (b : UInt8) : numB (l ++ [b]) = numB l * 256 + b.toNat := by simp [numB]
theorem numB_go : ∀ (l : List UInt8) (n : Nat), l.foldl (fun n b => n * 256 + b.toNat) n < (n + 1) * 256 ^ l.length
  | [], n => by simp
  | b :: l, n => by
    have h := numB_go l (n * 256 + b.toNat)
    have hb := b.toNat_lt
    rw [List.foldl_cons, List.length_cons, Nat.pow_succ]
    refine Nat.lt_of_lt_of_le h ?_
    rw [Nat.mul_comm (256 ^ l.length) 256, ← Nat.mul_assoc]
    exact Nat.mul_le_mul_right _ (by omega)
theorem numB_lt (l : List UInt8) : numB l < 256 ^ l.length := by
  have := numB_go l 0
  simpa [numB] using this

theorem bits_or_i64_nat (a b : Nat) (ha : a < 9223372036854775808) (hb : b < 9223372036854775808) : bits BinOp.or IntKind.i64 (a : Int) (b : Int) = ((a ||| b : Nat) : Int) := by
  have hx : a ||| b < 2 ^ 63 := Nat.or_lt_two_pow (by omega) (by omega)
  have h1 : (BitVec.ofInt 64 (a : Int)).toNat = a := by
    rw [BitVec.ofInt_natCast, BitVec.toNat_ofNat]; exact Nat.mod_eq_of_lt (by omega)
  have h2 : (BitVec.ofInt 64 (b : Int)).toNat = b := by
    rw [BitVec.ofInt_natCast, BitVec.toNat_ofNat]; exact Nat.mod_eq_of_lt (by omega)
  show IntKind.i64.wrap ((BitVec.ofInt 64 (a : Int) ||| BitVec.ofInt 64 (b : Int)).toNat : Int) = _
  rw [BitVec.toNat_or, h1, h2, IntKind.wrap_i64]
  omega

theorem or_low (n b : Nat) (hn : n < 36028797018963968) (hb : b < 256) : bits BinOp.or IntKind.i64 ((n : Int) * 256) (b : Int) = ((n * 256 + b : Nat) : Int) := by
  have e : ((n : Int) * 256) = ((n * 256 : Nat) : Int) := by omega
  rw [e, bits_or_i64_nat _ _ (by omega) (by omega)]
  congr 1
  have := Nat.two_pow_add_eq_or_of_lt (i := 8) (b := b) (by omega) n
  rw [show n * 256 = 2 ^ 8 * n by omega, ← this]

set_option maxHeartbeats 1000000 in
theorem number_in (s : ByteArray) (hs : s.size ≤ 7) (w : World) :
    Calls Tryz.prog 34 #[.string s] w fun e w' => e = .returned (.int .i64 (numB s.data.toList : Nat)) ∧ w' = w := by
  go_enter Tryz.func34, Tryz.ntmps34
  go_wp2
  go_loopw [3, 7] (fun nv i wr => ∃ k : Nat, k ≤ s.size ∧ i = .int .i64 k ∧ nv = .int .i64 (numB (s.data.toList.take k) : Nat) ∧ wr = w) (fun _ i _ => s.size - (intOf i).toNat)
  case atStart => exact ⟨0, Nat.zero_le _, rfl, rfl, rfl⟩
  case round =>
    obtain ⟨k, hk, rfl, rfl, rfl⟩ := hrel
    by_cases hlt : k < s.size
    · have hlt' : k < s.data.toList.length := by rw [size_list]; exact hlt
      have hb := s[k].toNat_lt
      have hn : numB (s.data.toList.take (k + 1)) = numB (s.data.toList.take k) * 256 + s[k].toNat := by
        rw [List.take_succ_eq_append_getElem hlt', numB_snoc]; rfl
      have hlt6 : numB (s.data.toList.take k) < 36028797018963968 := by
        refine Nat.lt_of_lt_of_le (numB_lt _) ?_
        have : (s.data.toList.take k).length ≤ 6 := by rw [List.length_take]; omega
        exact Nat.le_trans (Nat.pow_le_pow_right (by omega) this) (by decide)
      have hor := or_low (numB (s.data.toList.take k)) s[k].toNat hlt6 (by omega)
      have HN := Hid.mk hn
      clear hn
      generalize numB (s.data.toList.take k) = q at hlt6 hor HN ⊢
      have hsh : IntKind.i64.wrap ((q : Int) * 256) = (q : Int) * 256 := by rw [IntKind.wrap_i64]; omega
      have hcv : IntKind.i64.wrap (s[k].toNat : Int) = (s[k].toNat : Int) := by rw [IntKind.wrap_i64]; omega
      go_wp2
      exact ⟨⟨k + 1, by omega, by go_num, by rw [HN.out]; go_num, trivial⟩, by simp [intOf]; omega⟩
    · have hall : s.data.toList.take k = s.data.toList := List.take_of_length_le (by rw [size_list]; omega)
      rw [hall]
      go_wp2
      go_ret
      exact ⟨rfl, rfl⟩

theorem counted_no0 (W : World) (d : Nat) (s : ByteArray) (h : Rd W d s) (h0 : s.size = 0) :
    Calls Tryz.prog 57 #[.pointer (some ⟨d, 0, none⟩)] W fun e w' => e = .panicked mustV ∧ w' = W := by
  go_enter Tryz.func57, Tryz.ntmps57
  go_wp2_with fail
  refine (take_no W d 1 s (by rw [h0]; decide) h (by omega) (by decide)).mono ?_
  rintro e w1 ⟨rfl, rfl⟩
  go_wp2
  exact ⟨rfl, rfl, rfl⟩

theorem first_one (s : ByteArray) (h0 : 0 < s.size) : (s.extract 0 1).data.toList = [s[0]] := by
  rw [Lib.extract_data, List.drop_zero]
  have := List.take_succ_eq_append_getElem (l := s.data.toList) (i := 0) (by rw [size_list]; exact h0)
  rw [this]; simp; rfl
theorem number_one (s : ByteArray) (h0 : 0 < s.size) (w : World) : Calls Tryz.prog 34 #[.string (s.extract 0 1)] w fun e w' => e = .returned (.int .i64 (s[0].toNat : Nat)) ∧ w' = w := by
  have hnum := number_in (s.extract 0 1) (by rw [← size_list, first_one s h0]; simp) w
  rw [first_one s h0] at hnum
  have hv : numB [s[0]] = s[0].toNat := by simp [numB]
  rw [hv] at hnum
  exact hnum
theorem set_set (w : World) (d : Nat) (v v' : Value) : (w.setCell ⟨d, 0, none⟩ v).setCell ⟨d, 0, none⟩ v' = w.setCell ⟨d, 0, none⟩ v' := by
  simp only [World.setCell]
  congr 1
  apply Array.ext
  · simp
  · intro i h1 h2
    simp only [Array.getElem_modify]
    split
    · cases w.heap[i]'(by simpa using h1) <;> simp
    · rfl

theorem counted_yes (W : World) (d : Nat) (s : ByteArray) (hs : s.size ≤ maxLen) (h : Rd W d s) (h0 : 0 < s.size) (hf : 1 + s[0].toNat ≤ s.size) :
    Calls Tryz.prog 57 #[.pointer (some ⟨d, 0, none⟩)] W fun e w' => e = .returned (.string (s.extract 1 (1 + s[0].toNat))) ∧ w' = W.setCell ⟨d, 0, none⟩ (.string (s.extract (1 + s[0].toNat) s.size)) := by
  have hz : (s.extract 1 s.size).size = s.size - 1 := by rw [ByteArray.size_extract]; omega
  have hr1 := h.set (s.extract 1 s.size)
  have T2 := Hid.mk (take_yes _ d s[0].toNat _ (by rw [hz]; unfold maxLen at hs ⊢; omega) hr1 (by rw [hz]; omega))
  rw [set_set] at T2
  have e1 : (s.extract 1 s.size).extract 0 s[0].toNat = s.extract 1 (1 + s[0].toNat) := by rw [ByteArray.extract_extract]; congr 1; omega
  have e2 : (s.extract 1 s.size).extract s[0].toNat (s.extract 1 s.size).size = s.extract (1 + s[0].toNat) s.size := by rw [hz, ByteArray.extract_extract]; congr 1; omega
  rw [e1, e2] at T2
  have HN := Hid.mk (number_one s h0)
  clear e1 e2 hr1 hz
  go_enter Tryz.func57, Tryz.ntmps57
  go_wp2_with fail
  refine (take_yes W d 1 s hs h (by omega)).mono ?_
  rintro e w1 ⟨rfl, rfl⟩
  go_wp2_with fail
  refine (HN.out _).mono ?_
  rintro e w2 ⟨rfl, rfl⟩
  go_wp2_with fail
  refine T2.out.mono ?_
  rintro e w3 ⟨rfl, rfl⟩
  go_wp2
  go_ret
  exact ⟨rfl, rfl⟩

theorem counted_no (W : World) (d : Nat) (s : ByteArray) (hs : s.size ≤ maxLen) (h : Rd W d s) (h0 : 0 < s.size) (hf : s.size < 1 + s[0].toNat) :
    Calls Tryz.prog 57 #[.pointer (some ⟨d, 0, none⟩)] W fun e w' => e = .panicked mustV ∧ Kept d W w' := by
  have hz : (s.extract 1 s.size).size = s.size - 1 := by rw [ByteArray.size_extract]; omega
  have hr1 := h.set (s.extract 1 s.size)
  have hu := s[0].toNat_lt
  have T2 := Hid.mk (take_no _ d s[0].toNat _ (by rw [hz]; unfold maxLen at hs ⊢; omega) hr1 (by rw [hz]; omega) (by unfold maxLen; omega))
  have HN := Hid.mk (number_one s h0)
  clear hr1 hz
  go_enter Tryz.func57, Tryz.ntmps57
  go_wp2_with fail
  refine (take_yes W d 1 s hs h (by omega)).mono ?_
  rintro e w1 ⟨rfl, rfl⟩
  go_wp2_with fail
  refine (HN.out _).mono ?_
  rintro e w2 ⟨rfl, rfl⟩
  go_wp2_with fail
  refine T2.out.mono ?_
  rintro e w3 ⟨rfl, rfl⟩
  go_wp2
  exact ⟨rfl, rfl, Kept.set _ _ _ _⟩
end Go.Proofs.YtkohkkakbcjgcabGreatDoor
