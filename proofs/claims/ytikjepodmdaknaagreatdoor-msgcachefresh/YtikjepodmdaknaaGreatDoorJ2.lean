/- Texts of this proof, joined: Leaf, Lowered, Under, Clone, Kin, Kin2. -/
import Derived.WalkKit
import Derived.WalkSpells
import Derived.WalkLawsBesides
import Derived.Test.YtikjepodmdaknaaGreatDoorRows
import Derived.Test.YtikjepodmdaknaaGreatDoorJ1
import Derived.Lib.BufferWrite
import Derived.Lib.SlBytesConst
import Derived.Lib.UnsafeStr
set_option linter.unusedVariables false
set_option linter.unusedSimpArgs false
/- The small functions: lowByte, rightLabel, limited, plain, digit, isNaN, cmp.Compare, HasPrefix and TrimPrefix. -/
namespace Go.Proofs.YtikjepodmdaknaaGreatDoor
open Go.RowKit
def lowB (c : UInt8) : UInt8 := if 65 ≤ c.toNat ∧ c.toNat ≤ 90 then UInt8.ofNat (c.toNat + 32) else c
theorem lowB_toNat (c : UInt8) : (lowB c).toNat = if 65 ≤ c.toNat ∧ c.toNat ≤ 90 then c.toNat + 32 else c.toNat := by
 unfold lowB
 split
 ·rename_i h; simp; omega
 ·rfl
theorem ret_int {k : IntKind} {a b : Int} (h : a = b) : Ending.returned (.int k a) = .returned (.int k b) := by rw [h]
theorem lowByte_in (c : UInt8) (w : World) :
  Calls Tryz.prog 159 #[.int .u8 (c.toNat : Int)] w fun e w' => e = .returned (.int .u8 ((lowB c).toNat : Int)) ∧ w' = w := by
 have hc := c.toNat_lt
 have hl := lowB_toNat c
 by_cases h1 : 65 ≤ c.toNat
 ·by_cases h2 : c.toNat ≤ 90
  ·rw [if_pos ⟨h1, h2⟩] at hl
   rw [hl]; clear hl
   go_enter Tryz.func159, Tryz.ntmps159
   go_wp2
   go_ret
   exact ⟨ret_int (by simp), rfl⟩
  ·rw [if_neg (by omega)] at hl
   rw [hl]; clear hl
   go_enter Tryz.func159, Tryz.ntmps159
   go_wp2
   go_ret
   exact ⟨rfl, rfl⟩
 ·rw [if_neg (by omega)] at hl
  rw [hl]; clear hl
  go_enter Tryz.func159, Tryz.ntmps159
  go_wp2
  go_ret
  exact ⟨rfl, rfl⟩
end Go.Proofs.YtikjepodmdaknaaGreatDoor
/- lowered: the bytes, each great letter made small. -/
namespace Go.Proofs.YtikjepodmdaknaaGreatDoor
open Go.RowKit
theorem info5 : (Tryz.prog.info? 5).map (fun i => (i.zero, i.size, i.bytes)) = some (some (.int .u8 0), 1, 1) := by kernel_rfl
def BytesAt (W : World) (g : Nat) (l : List UInt8) : Prop := ∀ j (h : j < l.length), W.cell? ⟨g, j, none⟩ = some (.int .u8 (l[j].toNat : Int)) ∧ W.frozen? ⟨g, j, none⟩ = false
theorem BytesAt.set {W : World} {g : Nat} {l : List UInt8} (h : BytesAt W g l) (k : Nat) (b : UInt8) : BytesAt (W.setCell ⟨g, k, none⟩ (.int .u8 (b.toNat : Int))) g (l.set k b) := by
 intro j hj
 rw [List.length_set] at hj
 refine ⟨?_, by rw [World.frozen?_setCell]; exact (h j hj).2⟩
 by_cases e : k = j
 ·subst e
  rw [World.cell?_setCell_same' _ _ _ (by rw [(h k hj).1]; rfl)]; simp
 ·rw [World.cell?_setCell_other (h := by intro e'; cases e'; exact e rfl), List.getElem_set_ne e]; exact (h j hj).1
theorem add_at (b j : Nat) : (⟨b, 0, none⟩ : Addr).add j = ⟨b, j, none⟩ := by
 unfold Addr.add
 by_cases h : j = 0
 ·subst h; rfl
 ·simp [h]
def lowTo (l : List UInt8) (k : Nat) : List UInt8 := (l.take k).map lowB ++ l.drop k
theorem lowTo_zero (l : List UInt8) : lowTo l 0 = l := by simp [lowTo]
theorem lowTo_all (l : List UInt8) (k : Nat) (h : l.length ≤ k) : lowTo l k = l.map lowB := by simp [lowTo, List.take_of_length_le h, List.drop_of_length_le h]
theorem lowTo_length (l : List UInt8) (k : Nat) : (lowTo l k).length = l.length := by simp [lowTo]; omega
theorem lowTo_get (l : List UInt8) (k : Nat) (h : k < l.length) : (lowTo l k)[k]'(by rw [lowTo_length]; exact h) = l[k] := by
 simp [lowTo, List.getElem_append_right, Nat.min_eq_left (Nat.le_of_lt h)]
theorem lowTo_succ (l : List UInt8) (k : Nat) (h : k < l.length) : (lowTo l k).set k (lowB l[k]) = lowTo l (k + 1) := by
 have h1 : ((l.take k).map lowB).length = k := by simp; omega
 unfold lowTo
 rw [List.set_append_right _ _ (by omega), h1, Nat.sub_self, List.drop_eq_getElem_cons h, List.take_succ_eq_append_getElem h, List.set_cons_zero, List.map_append, List.append_assoc]
 rfl
theorem Hid.mk' {p : Prop} (h : p) : Hid p := h
set_option maxHeartbeats 1000000 in
theorem lowered_in (s : ByteArray) (w : World) (hs : s.size ≤ 255) :
  Calls Tryz.prog 121 #[.string s] w fun e w' => e = .returned (.string ⟨(s.data.toList.map lowB).toArray⟩) ∧ Below w.heap.size w w' := by
 obtain ⟨i0, hi, hz0, hz1, hz2⟩ := info_parts info5
 have hinfo : (Tryz.prog.info? 5).map (·.size) = some 1 := by rw [hi]; simp [hz1]
 obtain ⟨M, hM⟩ : ∃ M, M = madeCells (Value.int .u8 0).cells (((s.size : Nat) : Int).toNat * i0.size) := ⟨_, rfl⟩
 have hMs : M.size = s.size := by rw [hM, size_madeCells, hz1]; simp
 have hmk : ∀ W : World, (Instr.makeSlice 151 (.int .i64 (s.size : Int)) (.int .i64 (s.size : Int))).run Tryz.prog W = .ok (.slice (some ⟨W.heap.size, 0, none⟩) s.size s.size) (W.alloc (.cells M 5)) := fun W => by
  have h := run_make (P := Tryz.prog) W 151 5 i0 (.int .u8 0) Tryz.underlying151 hi hz0 .i64 .i64 (s.size : Int) (s.size : Int) (by omega) (by omega) (by rw [hz2]; omega) (by omega)
  rw [← hM] at h
  simpa using h
 clear hM
 have hcp := Lib.run_copy_row_string (P := Tryz.prog) (w.alloc (.cells M 5)) 151 9 3 5 w.heap.size 0 s.size s.size s M 5 Tryz.underlying151 hinfo (heap_alloc_new w _) (Nat.le_refl _) (by omega)
 obtain ⟨Y, hY⟩ : ∃ Y, Y = (M.toList.take 0 ++ Lib.byteCells s.data.toList ++ M.toList.drop (0 + s.size)).toArray := ⟨_, rfl⟩
 rw [← hY] at hcp
 have hYl : Y.toList = Lib.byteCells s.data.toList := by
  rw [hY, List.toList_toArray, List.take_zero, List.nil_append, List.drop_of_length_le (by rw [Array.length_toList]; omega), List.append_nil]
 have hgY : ((w.alloc (.cells M 5)).setRow w.heap.size Y).heap[w.heap.size]? = some (.cells Y 5 (0, 0)) := setRow_heap _ _ M _ 5 (0, 0) (heap_alloc_new w _)
 clear hY
 go_enter Tryz.func121, Tryz.ntmps121
 go_wp2_with fail
 go_loopw [14] (fun i wr => ∃ k : Nat, k ≤ s.size ∧ i = .int .i64 k ∧ BytesAt wr w.heap.size (lowTo s.data.toList k) ∧ Below w.heap.size w wr) (fun i _ => s.size - (intOf i).toNat)
 case atStart =>
  refine ⟨0, Nat.zero_le _, rfl, ?_, ?_⟩
  ·rw [lowTo_zero]
   intro j hj
   refine ⟨?_, frozen_of_row _ _ _ _ _ hgY⟩
   have := Lib.cells_of_row hgY Y.size j (.int .u8 (s.data.toList[j].toNat : Int)) (by rw [List.take_of_length_le (by rw [Array.length_toList]; exact Nat.le_refl _), hYl]; simp only [Lib.byteCells, List.getElem?_map, List.getElem?_eq_getElem hj]; rfl)
   rwa [add_at] at this
  ·have hb1 : Below w.heap.size w (w.alloc (.cells M 5)) := (Below.refl _ w).alloc (Nat.le_refl _) _
   have hb2 : Below w.heap.size (w.alloc (.cells M 5)) ((w.alloc (.cells M 5)).setRow w.heap.size Y) := ⟨rfl, rfl, rfl, by simp, fun k hk => setRow_other _ _ _ _ (by omega)⟩
   exact hb1.trans hb2
 case round =>
  obtain ⟨k, hk, rfl, hby, hbl⟩ := hrel
  clear hcp hmk hgY hYl hMs
  by_cases hlt : k < s.size
  ·have hlt' : k < s.data.toList.length := by rw [size_list]; exact hlt
   have hj := hby k (by rw [lowTo_length]; exact hlt')
   rw [lowTo_get _ _ hlt'] at hj
   obtain ⟨hc, hf⟩ := hj
   have hn := (hby.set k (lowB s.data.toList[k]))
   rw [lowTo_succ _ _ hlt'] at hn
   have HN := Hid.mk' hn
   clear hn
   generalize s.data.toList[k] = c at hc HN
   go_wp2_with (go_at_call 159; refine (lowByte_in _ _).mono ?_; rintro e w' ⟨rfl, rfl⟩)
   go_roundw
   case rel => exact ⟨k + 1, by omega, by go_num, HN.out, hbl.setCell (p := ⟨w.heap.size, k, none⟩) (Nat.le_refl _) _⟩
   case measure => simp [intOf]; omega
  ·have hfin : lowTo s.data.toList k = s.data.toList.map lowB := lowTo_all _ _ (by rw [size_list]; omega)
   rw [hfin] at hby
   have hcv := run_convert_bytes_back (P := Tryz.prog) wr 151 9 5 ⟨w.heap.size, 0, none⟩ s.size (s.data.toList.map lowB) Tryz.underlying151 Tryz.underlying5 Tryz.underlying9 (fun j hj => by rw [add_at]; exact (hby j hj).1)
   rw [List.length_map, size_list] at hcv
   clear hfin hby
   go_wp2
   go_ret
   exact ⟨rfl, hbl⟩
def lowN (ls : List (List UInt8)) : List (List UInt8) := ls.map fun l => l.map lowB
theorem lowB_len {n : Nat} (h : n ≤ 63) : lowB (UInt8.ofNat n) = UInt8.ofNat n := by
 have : (UInt8.ofNat n).toNat = n := by simp; omega
 unfold lowB
 rw [if_neg (by omega)]
theorem flat_low : ∀ (ls : List (List UInt8)), (∀ l ∈ ls, 1 ≤ l.length ∧ l.length ≤ 63) → (flat ls).map lowB = flat (lowN ls)
 | [], _ => rfl
 | l :: ls, h => by
  have h1 := h l (by simp)
  have ih := flat_low ls (fun x hx => h x (by simp [hx]))
  simp only [flat, lowN, List.map_cons, List.map_append, List.length_map, lowB_len h1.2]
  rw [ih]; rfl
theorem flat_low_length (ls : List (List UInt8)) : (flat (lowN ls)).length = (flat ls).length := by
 induction ls with
 | nil => rfl
 | cons l ls ih =>
  show (flat ((l.map lowB) :: lowN ls)).length = _
  simp [flat, ih]
theorem OkN.low {ls : List (List UInt8)} (h : OkN ls) : OkN (lowN ls) := by
 refine ⟨fun l hl => ?_, by rw [flat_low_length]; exact h.len⟩
 simp only [lowN, List.mem_map] at hl
 obtain ⟨m, hm, rfl⟩ := hl
 simpa using h.lab m hm
theorem nm_low {ls : List (List UInt8)} (h : OkN ls) : (⟨((nm ls).data.toList.map lowB).toArray⟩ : ByteArray) = nm (lowN ls) := by
 apply ba_ext
 rw [ba_toList, nm_list, nm_list, nmL, nmL, List.map_append, flat_low ls h.lab]; rfl
theorem lowered_nm (ls : List (List UInt8)) (ho : OkN ls) (w : World) :
  Calls Tryz.prog 121 #[.string (nm ls)] w fun e w' => e = .returned (.string (nm (lowN ls))) ∧ Below w.heap.size w w' := by
 have := lowered_in (nm ls) w (by rw [nm_size]; have := ho.len; omega)
 rwa [nm_low ho] at this
end Go.Proofs.YtikjepodmdaknaaGreatDoor
/- under, Under, Equal. -/
namespace Go.Proofs.YtikjepodmdaknaaGreatDoor
open Go.RowKit
theorem bthen {w w1 w2 : World} (h : Below w.heap.size w w1) (k : Below w1.heap.size w1 w2) : Below w.heap.size w w2 := h.trans (k.mono h.size)
theorem nm_inj {a b : List (List UInt8)} (ha : OkN a) (hb : OkN b) (h : nm a = nm b) : a = b := by
 have h1 : Seq (nm b) a := ⟨by rw [← h, nm_list]; exact List.prefix_append _ _, fun l hl => ⟨(ha.lab l hl).1, by have := (ha.lab l hl).2; omega⟩⟩
 have h2 : Ends (nm b) (flat a).length := fun hl => by
  left
  have : (flat a).length < (nm a).size := by rw [nm_size]; omega
  have e := nm_get_end a this
  simp only [← h]; exact e
 exact h1.all_name hb h2
def eqB (a b : List (List UInt8)) : Bool := decide (lowN a = lowN b)
theorem equal_yes (a b : List (List UInt8)) (ha : OkN a) (hb : OkN b) (w : World) :
  Calls Tryz.prog 81 #[.string (nm a), .string (nm b)] w fun e w' => e = .returned (.bool (eqB a b)) ∧ Below w.heap.size w w' := by
 go_enter Tryz.func81, Tryz.ntmps81
 go_wp2_with fail
 refine (right_yes a ha _).mono ?_
 rintro e w1 ⟨rfl, hb1⟩
 go_wp2_with fail
 refine (right_yes b hb _).mono ?_
 rintro e w2 ⟨rfl, hb2⟩
 go_wp2_with fail
 refine (lowered_nm a ha _).mono ?_
 rintro e w3 ⟨rfl, hb3⟩
 go_wp2_with fail
 refine (lowered_nm b hb _).mono ?_
 rintro e w4 ⟨rfl, hb4⟩
 go_wp2
 go_ret
 refine ⟨?_, bthen hb1 (bthen hb2 (bthen hb3 hb4))⟩
 show Ending.returned (.bool ((nm (lowN a)).toList == (nm (lowN b)).toList)) = _
 congr 2
 rw [eqB, Bool.eq_iff_iff, beq_iff_eq, decide_eq_true_iff, ByteArray.toList_eq, ByteArray.toList_eq]
 exact ⟨fun h => nm_inj ha.low hb.low (ba_ext h), fun h => by rw [h]⟩
theorem equal_no (s t : ByteArray) (hs : s.size ≤ maxLen) (ht : t.size ≤ maxLen) (h : ¬ (IsName s ∧ IsName t)) (w : World) :
  Calls Tryz.prog 81 #[.string s, .string t] w fun e w' => e = .returned (.bool false) ∧ Below w.heap.size w w' := by
 by_cases h1 : IsName s
 ·have h2 : ¬ IsName t := fun h2 => h ⟨h1, h2⟩
  obtain ⟨a, ha, rfl⟩ := h1
  go_enter Tryz.func81, Tryz.ntmps81
  go_wp2_with fail
  refine (right_yes a ha _).mono ?_
  rintro e w1 ⟨rfl, hb1⟩
  go_wp2_with fail
  refine (right_no t h2 ht _).mono ?_
  rintro e w2 ⟨rfl, hb2⟩
  go_wp2
  go_ret
  exact ⟨rfl, bthen hb1 hb2⟩
 ·go_enter Tryz.func81, Tryz.ntmps81
  go_wp2_with fail
  refine (right_no s h1 hs _).mono ?_
  rintro e w1 ⟨rfl, hb1⟩
  go_wp2
  go_ret
  exact ⟨rfl, hb1⟩
end Go.Proofs.YtikjepodmdaknaaGreatDoor
/- strings.Clone: the same bytes. -/
namespace Go.Proofs.YtikjepodmdaknaaGreatDoor
open Go.RowKit
theorem cells5 : Tryz.prog.cellsOf 5 = 1 := by kernel_rfl
set_option maxRecDepth 100000 in
theorem liteClone_in (s : ByteArray) (w : World) (hs : s.size ≤ 65535) :
  Calls Tryz.prog 132 #[.string s] w fun e w' => e = .returned (.string s) ∧ Below w.heap.size w w' := by
 by_cases h0 : s.size = 0
 ·have hs : s = ⟨#[]⟩ := by
   apply ByteArray.ext
   exact Array.eq_empty_of_size_eq_zero h0
  subst hs
  go_enter Tryz.func132, Tryz.ntmps132
  go_wp2
  go_ret
  exact ⟨rfl, Below.refl _ _⟩
 ·obtain ⟨i0, hi, hz0, hz1, hz2⟩ := info_parts info5
  have hinfo : (Tryz.prog.info? 5).map (·.size) = some 1 := by rw [hi]; simp [hz1]
  obtain ⟨M, hM⟩ : ∃ M, M = madeCells (Value.int .u8 0).cells (((s.size : Nat) : Int).toNat * i0.size) := ⟨_, rfl⟩
  have hMs : M.size = s.size := by rw [hM, size_madeCells, hz1]; simp
  have hmk : ∀ W : World, (Instr.makeSlice 151 (.int .i64 (s.size : Int)) (.int .i64 (s.size : Int))).run Tryz.prog W = .ok (.slice (some ⟨W.heap.size, 0, none⟩) s.size s.size) (W.alloc (.cells M 5)) := fun W => by
   have h := run_make (P := Tryz.prog) W 151 5 i0 (.int .u8 0) Tryz.underlying151 hi hz0 .i64 .i64 (s.size : Int) (s.size : Int) (by omega) (by omega) (by rw [hz2]; omega) (by omega)
   rw [← hM] at h
   simpa using h
  clear hM
  have hcp := Lib.run_copy_row_string (P := Tryz.prog) (w.alloc (.cells M 5)) 151 9 3 5 w.heap.size 0 s.size s.size s M 5 Tryz.underlying151 hinfo (heap_alloc_new w _) (Nat.le_refl _) (by omega)
  obtain ⟨Y, hY⟩ : ∃ Y, Y = (M.toList.take 0 ++ Lib.byteCells s.data.toList ++ M.toList.drop (0 + s.size)).toArray := ⟨_, rfl⟩
  rw [← hY] at hcp
  have hYl : Y.toList = Lib.byteCells s.data.toList := by
   rw [hY, List.toList_toArray, List.take_zero, List.nil_append, List.drop_of_length_le (by rw [Array.length_toList]; omega), List.append_nil]
  have hYs : Y.size = s.size := by rw [← Array.length_toList, hYl, Lib.byteCells_length, ← Lib.size_eq]
  have hgY : ((w.alloc (.cells M 5)).setRow w.heap.size Y).heap[w.heap.size]? = some (.cells Y 5 (0, 0)) := setRow_heap _ _ M _ 5 (0, 0) (heap_alloc_new w _)
  have hne : s.data.toList ≠ [] := fun e => h0 (by rw [Lib.size_eq, e]; rfl)
  have hUS := Lib.run_unsafeString_row (P := Tryz.prog) ((w.alloc (.cells M 5)).setRow w.heap.size Y) 273 3 9 5 Tryz.underlying273 cells5 w.heap.size Y.size (by unfold World.shape?; rw [hgY]) s.data.toList hne (by rw [← Lib.size_eq]; omega) (by rw [← Lib.size_eq]; omega)
   (fun j x hx => Lib.cells_of_row hgY Y.size j _ (by rw [List.take_of_length_le (by rw [Array.length_toList]; exact Nat.le_refl _), hYl]; simp [Lib.byteCells, hx]))
  rw [← Lib.size_eq] at hUS
  clear hY
  go_enter Tryz.func132, Tryz.ntmps132
  go_wp2
  go_ret
  have hb1 : Below w.heap.size w (w.alloc (.cells M 5)) := (Below.refl _ w).alloc (Nat.le_refl _) _
  have hb2 : Below w.heap.size (w.alloc (.cells M 5)) ((w.alloc (.cells M 5)).setRow w.heap.size Y) := ⟨rfl, rfl, rfl, by simp, fun k hk => setRow_other _ _ _ _ (by omega)⟩
  exact ⟨rfl, Lib.below_freeze (hb1.trans hb2) (p := ⟨w.heap.size, 0, none⟩) (Nat.le_refl _) _⟩
theorem clone_in (s : ByteArray) (w : World) (hs : s.size ≤ 65535) :
  Calls Tryz.prog 94 #[.string s] w fun e w' => e = .returned (.string s) ∧ Below w.heap.size w w' := by
 go_enter Tryz.func94, Tryz.ntmps94
 go_wp2_with (go_at_call 132; refine (liteClone_in _ _ hs).mono ?_; rintro e w' ⟨rfl, hb⟩)
 go_ret
 exact ⟨rfl, hb⟩
end Go.Proofs.YtikjepodmdaknaaGreatDoor
/- withoutFirst, Parent, Common, Child, Moved. -/
namespace Go.Proofs.YtikjepodmdaknaaGreatDoor
open Go.RowKit Go.Shelf
attribute [local go_sem] Oper.semAt_some
end Go.Proofs.YtikjepodmdaknaaGreatDoor
/- Parent, Common, Child, Moved. -/
namespace Go.Proofs.YtikjepodmdaknaaGreatDoor
open Go.RowKit
end Go.Proofs.YtikjepodmdaknaaGreatDoor
