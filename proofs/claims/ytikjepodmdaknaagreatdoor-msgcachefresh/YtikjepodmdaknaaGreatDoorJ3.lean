/- Texts of this proof, joined: Cmp, Facts, Order, DRead, DParts, DSplit. -/
import Derived.Test.YtikjepodmdaknaaGreatDoorJ2
import Derived.WalkKit
import Derived.WalkSpells
import Derived.WalkLawsBesides
import Derived.Laws.Bits64b
import Derived.Defers
import Derived.Recover
import Derived.Test.YtikjepodmdaknaaGreatDoorRows
import Derived.Test.YtikjepodmdaknaaGreatDoorJ1
import Derived.Laws.EntriesVeiled
set_option linter.unusedVariables false
set_option linter.unusedSimpArgs false
/- cmp.Compare of texts; compareStrays; Compare. -/
namespace Go.Proofs.YtikjepodmdaknaaGreatDoor
open Go.RowKit
def cmpL (a b : List UInt8) : Int := if Op.bytesLess a b = true then -1 else if a = b then 0 else 1
def cmpR : List (List UInt8) → List (List UInt8) → Int
 | [], [] => 0
 | [], _ :: _ => -1
 | _ :: _, [] => 1
 | x :: xs, y :: ys => if x = y then cmpR xs ys else cmpL x y
def cmpN (a b : List (List UInt8)) : Int := cmpR (lowN a).reverse (lowN b).reverse
end Go.Proofs.YtikjepodmdaknaaGreatDoor
/- What the shared end of two names says of 'under', 'common' and the order. -/
namespace Go.Proofs.YtikjepodmdaknaaGreatDoor
end Go.Proofs.YtikjepodmdaknaaGreatDoor
/- The order of names: it is one. -/
namespace Go.Proofs.YtikjepodmdaknaaGreatDoor
open Go.RowKit
end Go.Proofs.YtikjepodmdaknaaGreatDoor
/- The reader of data: must, take, all, number, counted. -/
namespace Go.Proofs.YtikjepodmdaknaaGreatDoor
open Go.RowKit
theorem bth {n : Nat} {A B C : World} (h : Below n A B) (k : Below B.heap.size B C) (hn : n ≤ B.heap.size) : Below n A C := h.trans (k.mono hn)
def mustV : List PanicEntry := [{ v := .iface 25 (.int .i64 6), recovered := false }]
theorem must_yes (w : World) : Calls Tryz.prog 128 #[.bool true] w fun e w' => e = .returned (.tuple #[]) ∧ w' = w := by
 go_enter Tryz.func128, Tryz.ntmps128
 go_wp2
 exact bodyPost_end (results_none rfl _ _ _) rfl ⟨rfl, rfl⟩
theorem must_no (w : World) : Calls Tryz.prog 128 #[.bool false] w fun e w' => e = .panicked mustV ∧ w' = w := by
 go_enter Tryz.func128, Tryz.ntmps128
 go_wp2
 exact ⟨rfl, rfl, rfl⟩
theorem isType_in (k : Int) (w : World) : Calls Tryz.prog 168 #[.int .i64 k] w fun e w' => e = .returned (.bool (decide (0 ≤ k ∧ k ≤ 65535))) ∧ w' = w := by
 go_enter Tryz.func168, Tryz.ntmps168
 go_wp2
 all_goals
  go_ret
  refine ⟨?_, rfl⟩
  simp
  omega
structure Kept (d : Nat) (W W' : World) : Prop where
 os : W'.os = W.os
 tape : W'.tape = W.tape
 output : W'.output = W.output
 size : W.heap.size ≤ W'.heap.size
 same : ∀ b, b < W.heap.size → b ≠ d → W'.heap[b]? = W.heap[b]?
theorem Kept.refl (d : Nat) (W : World) : Kept d W W := ⟨rfl, rfl, rfl, Nat.le_refl _, fun _ _ _ => rfl⟩
theorem Kept.trans {d : Nat} {A B C : World} (h : Kept d A B) (k : Kept d B C) : Kept d A C :=
 ⟨k.os.trans h.os, k.tape.trans h.tape, k.output.trans h.output, Nat.le_trans h.size k.size, fun b hb hd => (k.same b (Nat.lt_of_lt_of_le hb h.size) hd).trans (h.same b hb hd)⟩
theorem Kept.set (d i : Nat) (W : World) (v : Value) : Kept d W (W.setCell ⟨d, i, none⟩ v) :=
 ⟨rfl, rfl, rfl, by simp [World.setCell], fun b _ hd => Below.heap_setCell W ⟨d, i, none⟩ v b hd⟩
theorem Kept.of_below {d : Nat} {W W' : World} (h : Below W.heap.size W W') : Kept d W W' := ⟨h.os, h.tape, h.output, h.size, fun b hb _ => h.block b hb⟩
theorem Kept.below {d n : Nat} {W W' : World} (h : Kept d W W') (hd : n ≤ d) (hn : n ≤ W.heap.size) : Below n W W' :=
 ⟨h.os, h.tape, h.output, h.size, fun b hb => h.same b (by omega) (by omega)⟩
def Rd (W : World) (d : Nat) (s : ByteArray) : Prop := W.heap[d]? = some (.cells #[.string s] 298 (0, 0))
theorem Rd.cell {W : World} {d : Nat} {s : ByteArray} (h : Rd W d s) : W.cell? ⟨d, 0, none⟩ = some (.string s) := by simp [World.cell?, show W.heap[d]? = _ from h]
theorem Rd.frozen {W : World} {d : Nat} {s : ByteArray} (h : Rd W d s) : W.frozen? ⟨d, 0, none⟩ = false := by simp [World.frozen?, show W.heap[d]? = _ from h]
theorem Rd.lt {W : World} {d : Nat} {s : ByteArray} (h : Rd W d s) : d < W.heap.size := (Array.getElem?_eq_some_iff.1 h).1
theorem Rd.set {W : World} {d : Nat} {s : ByteArray} (h : Rd W d s) (t : ByteArray) : Rd (W.setCell ⟨d, 0, none⟩ (.string t)) d t := by
 have h' : W.heap[d]? = _ := h
 simp only [Rd, World.setCell, Array.getElem?_modify, h']
 rfl
theorem Rd.below {W W' : World} {d : Nat} {s : ByteArray} (h : Rd W d s) (k : Below W.heap.size W W') : Rd W' d s := (k.block d h.lt).trans h
theorem take_yes (W : World) (d n : Nat) (s : ByteArray) (hs : s.size ≤ maxLen) (h : Rd W d s) (hn : n ≤ s.size) :
  Calls Tryz.prog 207 #[.pointer (some ⟨d, 0, none⟩), .int .i64 n] W fun e w' => e = .returned (.string (s.extract 0 n)) ∧ w' = W.setCell ⟨d, 0, none⟩ (.string (s.extract n s.size)) := by
 unfold maxLen at hs
 have hc := h.cell
 have hf := h.frozen
 go_enter Tryz.func207, Tryz.ntmps207
 go_wp2_with fail
 refine (must_yes _).mono ?_
 rintro e w1 ⟨rfl, rfl⟩
 go_wp2
 go_ret
 exact ⟨rfl, rfl⟩
theorem take_no (W : World) (d n : Nat) (s : ByteArray) (hs : s.size ≤ maxLen) (h : Rd W d s) (hn : s.size < n) (hm : n ≤ maxLen) :
  Calls Tryz.prog 207 #[.pointer (some ⟨d, 0, none⟩), .int .i64 n] W fun e w' => e = .panicked mustV ∧ w' = W := by
 unfold maxLen at hs hm
 have hc := h.cell
 have hb : decide (n ≤ s.size) = false := by simp; omega
 go_enter Tryz.func207, Tryz.ntmps207
 go_wp2_with fail
 refine (must_no _).mono ?_
 rintro e w1 ⟨rfl, rfl⟩
 go_wp2
 exact ⟨rfl, rfl, rfl⟩
theorem all_in (W : World) (d : Nat) (s : ByteArray) (hs : s.size ≤ maxLen) (h : Rd W d s) :
  Calls Tryz.prog 224 #[.pointer (some ⟨d, 0, none⟩)] W fun e w' => e = .returned (.string s) ∧ w' = W.setCell ⟨d, 0, none⟩ (.string ⟨#[]⟩) := by
 have hc := h.cell
 have e1 : s.extract 0 s.size = s := by simp
 have e2 : s.extract s.size s.size = ⟨#[]⟩ := by
  apply ByteArray.ext; simp
 go_enter Tryz.func224, Tryz.ntmps224
 go_wp2_with fail
 refine (take_yes W d s.size s hs h (Nat.le_refl _)).mono ?_
 rintro e w1 ⟨rfl, rfl⟩
 rw [e1, e2]
 go_wp2
 go_ret
 exact ⟨rfl, rfl⟩
def numB (l : List UInt8) : Nat := l.foldl (fun n b => n * 256 + b.toNat) 0
theorem numB_snoc (l : List UInt8) (b : UInt8) : numB (l ++ [b]) = numB l * 256 + b.toNat := by simp [numB]
theorem numB_go : ∀ (l : List UInt8) (n : Nat), l.foldl (fun n b => n * 256 + b.toNat) n < (n + 1) * 256 ^ l.length
 | [], n => by simp
 | b :: l, n => by
  have h := numB_go l (n * 256 + b.toNat)
  have hb := b.toNat_lt
  rw [List.foldl_cons, List.length_cons, Nat.pow_succ]
  refine Nat.lt_of_lt_of_le h ?_
  rw [Nat.mul_comm (256 ^ l.length) 256, ← Nat.mul_assoc]
  exact Nat.mul_le_mul_right _ (by omega)
theorem numB_lt (l : List UInt8) : numB l < 256 ^ l.length := by
 have := numB_go l 0
 simpa [numB] using this
theorem bits_or_i64_nat (a b : Nat) (ha : a < 9223372036854775808) (hb : b < 9223372036854775808) : bits BinOp.or IntKind.i64 (a : Int) (b : Int) = ((a ||| b : Nat) : Int) := by
 have hx : a ||| b < 2 ^ 63 := Nat.or_lt_two_pow (by omega) (by omega)
 have h1 : (BitVec.ofInt 64 (a : Int)).toNat = a := by
  rw [BitVec.ofInt_natCast, BitVec.toNat_ofNat]; exact Nat.mod_eq_of_lt (by omega)
 have h2 : (BitVec.ofInt 64 (b : Int)).toNat = b := by
  rw [BitVec.ofInt_natCast, BitVec.toNat_ofNat]; exact Nat.mod_eq_of_lt (by omega)
 show IntKind.i64.wrap ((BitVec.ofInt 64 (a : Int) ||| BitVec.ofInt 64 (b : Int)).toNat : Int) = _
 rw [BitVec.toNat_or, h1, h2, IntKind.wrap_i64]
 omega
theorem or_low (n b : Nat) (hn : n < 36028797018963968) (hb : b < 256) : bits BinOp.or IntKind.i64 ((n : Int) * 256) (b : Int) = ((n * 256 + b : Nat) : Int) := by
 have e : ((n : Int) * 256) = ((n * 256 : Nat) : Int) := by omega
 rw [e, bits_or_i64_nat _ _ (by omega) (by omega)]
 congr 1
 have := Nat.two_pow_add_eq_or_of_lt (i := 8) (b := b) (by omega) n
 rw [show n * 256 = 2 ^ 8 * n by omega, ← this]
set_option maxHeartbeats 1000000 in
theorem number_in (s : ByteArray) (hs : s.size ≤ 7) (w : World) :
  Calls Tryz.prog 179 #[.string s] w fun e w' => e = .returned (.int .i64 (numB s.data.toList : Nat)) ∧ w' = w := by
 go_enter Tryz.func179, Tryz.ntmps179
 go_wp2
 go_loopw [3, 7] (fun nv i wr => ∃ k : Nat, k ≤ s.size ∧ i = .int .i64 k ∧ nv = .int .i64 (numB (s.data.toList.take k) : Nat) ∧ wr = w) (fun _ i _ => s.size - (intOf i).toNat)
 case atStart => exact ⟨0, Nat.zero_le _, rfl, rfl, rfl⟩
 case round =>
  obtain ⟨k, hk, rfl, rfl, rfl⟩ := hrel
  by_cases hlt : k < s.size
  ·have hlt' : k < s.data.toList.length := by rw [size_list]; exact hlt
   have hb := s[k].toNat_lt
   have hn : numB (s.data.toList.take (k + 1)) = numB (s.data.toList.take k) * 256 + s[k].toNat := by
    rw [List.take_succ_eq_append_getElem hlt', numB_snoc]; rfl
   have hlt6 : numB (s.data.toList.take k) < 36028797018963968 := by
    refine Nat.lt_of_lt_of_le (numB_lt _) ?_
    have : (s.data.toList.take k).length ≤ 6 := by rw [List.length_take]; omega
    exact Nat.le_trans (Nat.pow_le_pow_right (by omega) this) (by decide)
   have hor := or_low (numB (s.data.toList.take k)) s[k].toNat hlt6 (by omega)
   have HN := Hid.mk hn
   clear hn
   generalize numB (s.data.toList.take k) = q at hlt6 hor HN ⊢
   have hsh : IntKind.i64.wrap ((q : Int) * 256) = (q : Int) * 256 := by rw [IntKind.wrap_i64]; omega
   have hcv : IntKind.i64.wrap (s[k].toNat : Int) = (s[k].toNat : Int) := by rw [IntKind.wrap_i64]; omega
   go_wp2
   exact ⟨⟨k + 1, by omega, by go_num, by rw [HN.out]; go_num, trivial⟩, by simp [intOf]; omega⟩
  ·have hall : s.data.toList.take k = s.data.toList := List.take_of_length_le (by rw [size_list]; omega)
   rw [hall]
   go_wp2
   go_ret
   exact ⟨rfl, rfl⟩
theorem counted_no0 (W : World) (d : Nat) (s : ByteArray) (h : Rd W d s) (h0 : s.size = 0) :
  Calls Tryz.prog 238 #[.pointer (some ⟨d, 0, none⟩)] W fun e w' => e = .panicked mustV ∧ w' = W := by
 go_enter Tryz.func238, Tryz.ntmps238
 go_wp2_with fail
 refine (take_no W d 1 s (by rw [h0]; decide) h (by omega) (by decide)).mono ?_
 rintro e w1 ⟨rfl, rfl⟩
 go_wp2
 exact ⟨rfl, rfl, rfl⟩
theorem first_one (s : ByteArray) (h0 : 0 < s.size) : (s.extract 0 1).data.toList = [s[0]] := by
 rw [Lib.extract_data, List.drop_zero]
 have := List.take_succ_eq_append_getElem (l := s.data.toList) (i := 0) (by rw [size_list]; exact h0)
 rw [this]; simp; rfl
theorem number_one (s : ByteArray) (h0 : 0 < s.size) (w : World) : Calls Tryz.prog 179 #[.string (s.extract 0 1)] w fun e w' => e = .returned (.int .i64 (s[0].toNat : Nat)) ∧ w' = w := by
 have hnum := number_in (s.extract 0 1) (by rw [← size_list, first_one s h0]; simp) w
 rw [first_one s h0] at hnum
 have hv : numB [s[0]] = s[0].toNat := by simp [numB]
 rw [hv] at hnum
 exact hnum
theorem set_set (w : World) (d : Nat) (v v' : Value) : (w.setCell ⟨d, 0, none⟩ v).setCell ⟨d, 0, none⟩ v' = w.setCell ⟨d, 0, none⟩ v' := by
 simp only [World.setCell]
 congr 1
 apply Array.ext
 ·simp
 ·intro i h1 h2
  simp only [Array.getElem_modify]
  split
  ·cases w.heap[i]'(by simpa using h1) <;> simp
  ·rfl
theorem counted_yes (W : World) (d : Nat) (s : ByteArray) (hs : s.size ≤ maxLen) (h : Rd W d s) (h0 : 0 < s.size) (hf : 1 + s[0].toNat ≤ s.size) :
  Calls Tryz.prog 238 #[.pointer (some ⟨d, 0, none⟩)] W fun e w' => e = .returned (.string (s.extract 1 (1 + s[0].toNat))) ∧ w' = W.setCell ⟨d, 0, none⟩ (.string (s.extract (1 + s[0].toNat) s.size)) := by
 have hz : (s.extract 1 s.size).size = s.size - 1 := by rw [ByteArray.size_extract]; omega
 have hr1 := h.set (s.extract 1 s.size)
 have T2 := Hid.mk (take_yes _ d s[0].toNat _ (by rw [hz]; unfold maxLen at hs ⊢; omega) hr1 (by rw [hz]; omega))
 rw [set_set] at T2
 have e1 : (s.extract 1 s.size).extract 0 s[0].toNat = s.extract 1 (1 + s[0].toNat) := by rw [ByteArray.extract_extract]; congr 1; omega
 have e2 : (s.extract 1 s.size).extract s[0].toNat (s.extract 1 s.size).size = s.extract (1 + s[0].toNat) s.size := by rw [hz, ByteArray.extract_extract]; congr 1; omega
 rw [e1, e2] at T2
 have HN := Hid.mk (number_one s h0)
 clear e1 e2 hr1 hz
 go_enter Tryz.func238, Tryz.ntmps238
 go_wp2_with fail
 refine (take_yes W d 1 s hs h (by omega)).mono ?_
 rintro e w1 ⟨rfl, rfl⟩
 go_wp2_with fail
 refine (HN.out _).mono ?_
 rintro e w2 ⟨rfl, rfl⟩
 go_wp2_with fail
 refine T2.out.mono ?_
 rintro e w3 ⟨rfl, rfl⟩
 go_wp2
 go_ret
 exact ⟨rfl, rfl⟩
theorem counted_no (W : World) (d : Nat) (s : ByteArray) (hs : s.size ≤ maxLen) (h : Rd W d s) (h0 : 0 < s.size) (hf : s.size < 1 + s[0].toNat) :
  Calls Tryz.prog 238 #[.pointer (some ⟨d, 0, none⟩)] W fun e w' => e = .panicked mustV ∧ Kept d W w' := by
 have hz : (s.extract 1 s.size).size = s.size - 1 := by rw [ByteArray.size_extract]; omega
 have hr1 := h.set (s.extract 1 s.size)
 have hu := s[0].toNat_lt
 have T2 := Hid.mk (take_no _ d s[0].toNat _ (by rw [hz]; unfold maxLen at hs ⊢; omega) hr1 (by rw [hz]; omega) (by unfold maxLen; omega))
 have HN := Hid.mk (number_one s h0)
 clear hr1 hz
 go_enter Tryz.func238, Tryz.ntmps238
 go_wp2_with fail
 refine (take_yes W d 1 s hs h (by omega)).mono ?_
 rintro e w1 ⟨rfl, rfl⟩
 go_wp2_with fail
 refine (HN.out _).mono ?_
 rintro e w2 ⟨rfl, rfl⟩
 go_wp2_with fail
 refine T2.out.mono ?_
 rintro e w3 ⟨rfl, rfl⟩
 go_wp2
 exact ⟨rfl, rfl, Kept.set _ _ _ _⟩
end Go.Proofs.YtikjepodmdaknaaGreatDoor
/- The parts of a type's form. -/
namespace Go.Proofs.YtikjepodmdaknaaGreatDoor
open Go.RowKit
theorem heap_new (w : World) (o : Obj) : (w.alloc o).heap[w.heap.size]? = some o := by
 show (w.heap.push o)[w.heap.size]? = some o
 simp
theorem mkf (fn : Fn) (first cap : Array Value) (w : World) : (Instr.makeFunc fn first cap).run Tryz.prog w = .ok (.func fn first cap) w := rfl
abbrev fnV (k : Nat) (cap : Array Value) : Value := .func (.func k) #[] cap
abbrev boxV (b : Nat) : Value := .pointer (some ⟨b, 0, none⟩)
abbrev numP (b : Nat) : Array Value := #[fnV 206 #[boxV b], fnV 208 #[], fnV 210 #[boxV b], .bool false]
abbrev anyP : Array Value := #[fnV 247 #[], fnV 248 #[], fnV 250 #[], .bool false]
theorem numberPart_in (n : Int) (w : World) : Calls Tryz.prog 180 #[.int .i64 n] w fun e w' =>
  e = .returned (.agg (numP w.heap.size)) ∧ w'.heap[w.heap.size]? = some (.cells #[.int .i64 n] 3 (0, 0)) ∧ Below w.heap.size w w' := by
 have hmf := mkf
 go_enter Tryz.func180, Tryz.ntmps180
 go_wp2
 refine bodyPost_ret (v := .agg (numP w.heap.size)) (by simp [results, Tryz.results180, go_sem]) rfl ⟨rfl, ?_, ((Below.refl _ _).alloc (Nat.le_refl _) _).alloc (by simp) _⟩
 exact (Below.heap_alloc _ _ _ (by simp)).trans (heap_new w _)
theorem anyPart_in (w : World) : Calls Tryz.prog 189 #[] w fun e w' => e = .returned (.agg anyP) ∧ Below w.heap.size w w' := by
 have hmf := mkf
 go_enter Tryz.func189, Tryz.ntmps189
 go_wp2
 exact bodyPost_ret (v := .agg anyP) (by simp [results, Tryz.results189, go_sem]) rfl ⟨rfl, (Below.refl _ _).alloc (Nat.le_refl _) _⟩
def tabled (k : Int) : Bool := k == 1 || k == 2 || k == 5 || k == 6 || k == 15 || k == 16 || k == 28 || k == 39 || k == 43 || k == 46 || k == 47 || k == 48 || k == 50
theorem tabled_no {k : Int} (h : tabled k = false) : (k == 1) = false ∧ (k == 2) = false ∧ (k == 5) = false ∧ (k == 6) = false ∧ (k == 15) = false ∧ (k == 16) = false ∧ (k == 28) = false ∧ (k == 39) = false ∧ (k == 43) = false ∧ (k == 46) = false ∧ (k == 47) = false ∧ (k == 48) = false ∧ (k == 50) = false := by
 simp only [tabled, Bool.or_eq_false_iff] at h
 obtain ⟨⟨⟨⟨⟨⟨⟨⟨⟨⟨⟨⟨h1, h2⟩, h3⟩, h4⟩, h5⟩, h6⟩, h7⟩, h8⟩, h9⟩, h10⟩, h11⟩, h12⟩, h13⟩ := h
 exact ⟨h1, h2, h3, h4, h5, h6, h7, h8, h9, h10, h11, h12, h13⟩
theorem partsOf_other (k : Int) (hk : tabled k = false) (w : World) : Calls Tryz.prog 161 #[.int .i64 k] w fun e w' => ∃ g, w.heap.size ≤ g ∧
  e = .returned (.slice (some ⟨g, 0, none⟩) 1 1) ∧ w'.heap[g]? = some (.cells anyP 262 (0, 0)) ∧ Below w.heap.size w w' := by
 have hmf := mkf
 obtain ⟨h1, h2, h3, h4, h5, h6, h7, h8, h9, h10, h11, h12, h13⟩ := tabled_no hk
 clear hk
 go_enter Tryz.func161, Tryz.ntmps161
 go_wp2_with fail
 refine (numberPart_in _ _).mono ?_
 rintro e w1 ⟨rfl, ho1, hb1⟩
 go_wp2_with fail
 refine (numberPart_in _ _).mono ?_
 rintro e w2 ⟨rfl, ho2, hb2⟩
 go_wp2_with fail
 refine (numberPart_in _ _).mono ?_
 rintro e w3 ⟨rfl, ho3, hb3⟩
 clear ho1 ho2 ho3
 go_wp2_with fail
 refine (anyPart_in _).mono ?_
 rintro e w4 ⟨rfl, hb4⟩
 have k3 : Below w.heap.size w w3 := bth (bth hb1 hb2 hb1.size) hb3 (Nat.le_trans hb1.size hb2.size)
 have s3 := k3.size
 have k6 : Below w.heap.size w w4 := (((k3.alloc s3 _).alloc (by simp; omega) _).alloc (by simp; omega) _).trans (hb4.mono (by simp; omega))
 clear hb1 hb2 hb3 hb4
 go_wp2
 go_ret
 exact ⟨w4.heap.size, k6.size, rfl, heap_new _ _, k6.alloc k6.size _⟩
end Go.Proofs.YtikjepodmdaknaaGreatDoor
/- piecesOf: data in pieces. -/
namespace Go.Proofs.YtikjepodmdaknaaGreatDoor
open Go.RowKit
def PassPost (r : Option Nat) (s : ByteArray) (d : Nat) (W w' : World) (e : Ending) : Prop := match r with
 | some m => m ≤ s.size ∧ e = .returned (.tuple #[]) ∧ Rd w' d (s.extract m s.size) ∧ Kept d W w'
 | none => e = .panicked mustV ∧ Kept d W w'
structure Part where
 pass : Nat
 passC : Array Value
 tell : Nat
 tellC : Array Value
 read : Nat
 readC : Array Value
 name : Bool
def Enters (f : Nat) : Prop := ∀ (args : Array Value) (w : World), (callFunc f args).run Tryz.prog w = .ok (.enter f args) w
structure PartsIn (W : World) (g n : Nat) (P : Nat → Part) : Prop where
 lt : 0 < n → g < W.heap.size
 c0 : ∀ k, k < n → W.cell? ⟨g, k * 4, none⟩ = some (fnV (P k).pass (P k).passC)
 c1 : ∀ k, k < n → W.cell? ⟨g, k * 4 + 1, none⟩ = some (fnV (P k).tell (P k).tellC)
 c2 : ∀ k, k < n → W.cell? ⟨g, k * 4 + 2, none⟩ = some (fnV (P k).read (P k).readC)
 c3 : ∀ k, k < n → W.cell? ⟨g, k * 4 + 3, none⟩ = some (.bool (P k).name)
def cutP (pf : Nat → ByteArray → Option Nat) : Nat → Nat → ByteArray → Option (List ByteArray × ByteArray)
 | 0, _, s => some ([], s)
 | n + 1, k, s => match pf k s with
  | none => none
  | some m => (cutP pf n (k + 1) (s.extract m s.size)).map fun r => (s.extract 0 m :: r.1, r.2)
def fin (pf : Nat → ByteArray → Option Nat) (n : Nat) (s : ByteArray) : Option (List ByteArray) := match cutP pf n 0 s with
 | none => none
 | some r => if r.2.size = 0 then some r.1 else none
def baV (ps : List ByteArray) : List Value := ps.map .string
def PiePost (R : Option (List ByteArray)) (W : World) (e : Ending) (w' : World) : Prop := (match R with
   | some ps => ∃ v, e = .returned v ∧ w'.ownsRow W.heap.size 9 1 v ps.length (baV ps)
   | none => e = .panicked mustV) ∧ Below W.heap.size W w'
def PieRel (pf : Nat → ByteArray → Option Nat) (n : Nat) (s : ByteArray) (W : World) (v i : Value) (wr : World) : Prop :=
 ∃ (k : Nat) (done : List ByteArray) (rest : ByteArray), k ≤ n ∧ i = .int .i64 k ∧ done.length = k ∧ wr.ownsRow (W.heap.size + 1) 9 1 v k (baV done) ∧ Rd wr W.heap.size rest ∧ rest.size ≤ s.size ∧
  Hid (cutP pf n 0 s = (cutP pf (n - k) k rest).map fun r => (done ++ r.1, r.2)) ∧ Below W.heap.size W wr ∧ W.heap.size + 1 ≤ wr.heap.size
set_option maxRecDepth 100000 in
set_option maxHeartbeats 4000000 in
theorem piecesOf_in (W : World) (g n cap : Nat) (hn : n ≤ 20) (s : ByteArray) (hs : s.size ≤ 2000) (P : Nat → Part) (hP : PartsIn W g n P) (pf : Nat → ByteArray → Option Nat)
  (hen : ∀ k, k < n → Enters (P k).pass)
  (hpf : ∀ k, k < n → ∀ (W' : World) (d : Nat) (s' : ByteArray), Below W.heap.size W W' → W.heap.size ≤ d → Rd W' d s' → s'.size ≤ 2000 →
   Calls Tryz.prog (P k).pass (#[boxV d] ++ (P k).passC) W' fun e w' => PassPost (pf k s') s' d W' w' e) :
  Calls Tryz.prog 170 #[.slice (some ⟨g, 0, none⟩) n cap, .string s] W fun e w' => PiePost (fin pf n s) W e w' := by
 obtain ⟨i0, hi, hz0, hz1, hz2⟩ := info_parts info9
 obtain ⟨R, hR⟩ : ∃ R, fin pf n s = R := ⟨_, rfl⟩
 rw [hR]
 have HR := Hid.mk hR
 have HPF := Hid.mk hpf
 clear hR hpf
 go_enter Tryz.func170, Tryz.ntmps170
 go_wp2
 go_loopw [6, 15] (fun v i wr => PieRel pf n s W v i wr) (fun _ i _ => n - (intOf i).toNat)
 case atStart =>
  refine ⟨0, [], s, Nat.zero_le _, rfl, rfl, World.ownsRow_nil .., heap_new _ _, Nat.le_refl _, ?_, (Below.refl _ _).alloc (Nat.le_refl _) _, by simp⟩
  rw [Hid, Nat.sub_zero]
  cases cutP pf n 0 s <;> rfl
 case round =>
  obtain ⟨k, done, rest, hk, rfl, hdl, hrow, hrd, hrz, hcut, hbl, hsz⟩ := hrel
  by_cases hlt : k < n
  ·have hcall := HPF.out k hlt
   have hent := hen k hlt
   have hg := hP.lt (by omega)
   have c0 := (hbl.cell (p := ⟨g, k * 4, none⟩) hg).trans (hP.c0 k hlt)
   have c1 := (hbl.cell (p := ⟨g, k * 4 + 1, none⟩) hg).trans (hP.c1 k hlt)
   have c2 := (hbl.cell (p := ⟨g, k * 4 + 2, none⟩) hg).trans (hP.c2 k hlt)
   have c3 := (hbl.cell (p := ⟨g, k * 4 + 3, none⟩) hg).trans (hP.c3 k hlt)
   have hrc : ∀ o, (wr.alloc o).cell? ⟨W.heap.size, 0, none⟩ = some (.string rest) := fun o => (hrd.below ((Below.refl _ _).alloc (Nat.le_refl _) o)).cell
   have HC := Hid.mk hcall
   have hcs : cutP pf (n - k) k rest = match pf k rest with
     | none => none
     | some m => (cutP pf (n - (k + 1)) (k + 1) (rest.extract m rest.size)).map fun r => (rest.extract 0 m :: r.1, r.2) := by
    rw [show n - k = n - (k + 1) + 1 by omega]; rfl
   have HCS := Hid.mk (hcut.out.trans (by rw [hcs]))
   clear hcall hcs hcut
   generalize P k = pk at c0 c1 c2 c3 HC hent
   obtain ⟨fp, cp, ft, ct, fr, cr, nmb⟩ := pk
   dsimp only [Enters] at c0 c1 c2 c3 HC hent
   have hrn : Rd (wr.alloc (.cells #[fnV fp cp, fnV ft ct, fnV fr cr, .bool nmb] 262)) W.heap.size rest := hrd.below ((Below.refl _ _).alloc (Nat.le_refl _) _)
   have hbn : Below W.heap.size W (wr.alloc (.cells #[fnV fp cp, fnV ft ct, fnV fr cr, .bool nmb] 262)) := hbl.alloc (by omega) _
   have HC2 := Hid.mk (HC.out _ W.heap.size rest hbn (Nat.le_refl _) hrn (by omega))
   have hrow2 : (wr.alloc (.cells #[fnV fp cp, fnV ft ct, fnV fr cr, .bool nmb] 262)).ownsRow (W.heap.size + 1) 9 1 u6 k (baV done) := hrow.alloc _
   have hszn : W.heap.size + 1 ≤ (wr.alloc (.cells #[fnV fp cp, fnV ft ct, fnV fr cr, .bool nmb] 262)).heap.size := by simp; omega
   clear HC
   cases hpk : pf k rest with
   | none =>
    rw [hpk] at HCS HC2
    go_wp2_with fail
    refine HC2.out.mono ?_
    rintro e w1 ⟨rfl, hkp⟩
    go_wp2
    refine ⟨rfl, ?_, hbn.trans (hkp.below (Nat.le_refl _) (by omega))⟩
    have hRn : R = none := by
     rw [← HR.out, fin, HCS.out]; rfl
    rw [hRn]
   | some m =>
    rw [hpk] at HCS HC2
    go_wp2_with fail
    refine HC2.out.mono ?_
    rintro e w1 ⟨hm, rfl, hrd1, hkp⟩
    have hrc1 := hrd1.cell
    have hez : (rest.extract m rest.size).size = rest.size - m := by rw [ByteArray.size_extract]; omega
    have hw1 : IntKind.i64.wrap ((rest.size : Int) - ((rest.extract m rest.size).size : Int)) = (m : Int) := by rw [hez, IntKind.wrap_i64]; omega
    have hcz : (rest.extract 0 m).size ≤ 65535 := by rw [ByteArray.size_extract]; omega
    have hezl : (rest.extract m rest.size).size ≤ 2000 := by omega
    have HEZ := Hid.mk hez
    clear hez
    have HCN : Hid (cutP pf n 0 s = (cutP pf (n - (k + 1)) (k + 1) (rest.extract m rest.size)).map fun r => ((done ++ [rest.extract 0 m]) ++ r.1, r.2)) := by
     rw [Hid, HCS.out]
     show Option.map _ (Option.map _ _) = _
     rw [Option.map_map]
     congr 1
     funext r
     simp
    clear HCS
    generalize rest.extract m rest.size = rest' at hrd1 hrc1 hw1 HCN HEZ hezl
    go_wp2_with fail
    refine (clone_in _ _ hcz).mono ?_
    rintro e w2 ⟨rfl, hb2⟩
    have k1 : Below W.heap.size W w1 := hbn.trans (hkp.below (Nat.le_refl _) (by omega))
    have hrow1 : w1.ownsRow (W.heap.size + 1) 9 1 u6 k (baV done) := by
     refine ⟨hrow2.1, ?_⟩
     rcases hrow2.2 with h' | ⟨g', cap', cur, hv, hb', hg', hr⟩
     ·exact .inl h'
     ·exact .inr ⟨g', cap', cur, hv, hb', (hkp.same g' (Array.getElem?_eq_some_iff.1 hg').1 (by omega)).trans hg', hr⟩
    have hrow3 : w2.ownsRow (W.heap.size + 1) 9 1 u6 k (baV done) := by
     refine ⟨hrow1.1, ?_⟩
     rcases hrow1.2 with h' | ⟨g', cap', cur, hv, hb', hg', hr⟩
     ·exact .inl h'
     ·exact .inr ⟨g', cap', cur, hv, hb', (hb2.block g' (Array.getElem?_eq_some_iff.1 hg').1).trans hg', hr⟩
    have hrd2 := hrd1.below hb2
    have hsz1 : W.heap.size + 1 ≤ w1.heap.size := Nat.le_trans hszn hkp.size
    have hsz2 : W.heap.size + 1 ≤ w2.heap.size := Nat.le_trans hsz1 hb2.size
    have k2 : Below W.heap.size W w2 := k1.trans (hb2.mono (by omega))
    clear hrow2 hrow1 hrow hrd hrn hrd1 hrc hbn hb2 hkp k1 hbl c0 c1 c2 c3 HC2 hent
    go_wp2_with (at_builtin; refine wpList_append_own _ rfl _ _ 32 rfl (W.heap.size + 1) 9 i0 (.string ⟨#[]⟩) 1 16 Tryz.underlying32 hi hz0 hz1 hz2 rfl (by decide) _ _ _ rfl (hrow3.alloc _) ⟨w2.heap.size, 0, none⟩ 1 1 [.string (rest.extract 0 m)] rfl rfl (cell_one_new _ _ _) (by simp [Value.oneCell']) (by unfold maxLen; omega) (by omega) (by simp; omega) ?_; intro v1 w3 hown3 hgrow3 _)
    go_roundw
    case rel =>
     obtain ⟨q1, q2, q3, q4, q5⟩ := hgrow3
     have hne : ∀ b, b < W.heap.size + 1 → some b ≠ u6.ownBlock := by
      intro b hb e
      rcases hrow3.2 with ⟨rfl, _⟩ | ⟨g', cap', cur, rfl, hb', _⟩
      ·simp [Value.ownBlock] at e
      ·simp [Value.ownBlock] at e; omega
     have hal : ∀ o, Below w2.heap.size w2 (w2.alloc o) := fun o => (Below.refl _ _).alloc (Nat.le_refl _) o
     refine ⟨k + 1, done ++ [rest.extract 0 m], rest', by omega, by go_num, by simp [hdl], ?_, ?_, by have := HEZ.out; omega, HCN, ?_, ?_⟩
     ·rw [baV, List.map_append]; exact hown3
     ·exact (q5 W.heap.size (by simp; omega) (hne _ (by omega))).trans (hrd2.below (hal _))
     ·refine k2.trans ⟨q1.trans (hal _).os, q2.trans (hal _).tape, q3.trans (hal _).output, Nat.le_trans (hal _).size q4, fun b hb => ?_⟩
      exact (q5 b (by simp; omega) (hne b (by omega))).trans ((hal _).block b (by omega))
     ·simp at q4; omega
    case measure => simp [intOf]; omega
  ·obtain rfl : k = n := by omega
   have hrc := hrd.cell
   have hfn : fin pf k s = if rest.size = 0 then some done else none := by
    rw [fin, hcut.out, Nat.sub_self]
    simp [cutP]
   have hRv := HR.out.symm.trans hfn
   clear hfn hcut
   by_cases h0 : rest.size = 0
   ·rw [if_pos h0] at hRv
    have he : rest = ⟨#[]⟩ := ByteArray.ext (Array.eq_empty_of_size_eq_zero h0)
    subst he
    have HRV := Hid.mk hRv
    clear hRv
    go_wp2_with fail
    refine (must_yes _).mono ?_
    rintro e w1 ⟨rfl, rfl⟩
    go_wp2
    go_ret
    rw [HRV.out]
    refine ⟨⟨_, rfl, ?_⟩, hbl⟩
    rw [hdl]
    exact ⟨hrow.1, hrow.2.imp id fun ⟨g', cap', cur, hv, hb', hr⟩ => ⟨g', cap', cur, hv, by omega, hr⟩⟩
   ·rw [if_neg h0] at hRv
    have HRV := Hid.mk hRv
    have hbe : (rest.toList == []) = false := by
     rw [beq_eq_false_iff_ne, ByteArray.toList_eq]
     intro e; apply h0; rw [← size_list, e]; rfl
    clear hRv
    go_wp2_with fail
    refine (must_no _).mono ?_
    rintro e w1 ⟨rfl, rfl⟩
    go_wp2
    refine ⟨rfl, ?_⟩
    rw [HRV.out]
    exact ⟨rfl, hbl⟩
end Go.Proofs.YtikjepodmdaknaaGreatDoor
