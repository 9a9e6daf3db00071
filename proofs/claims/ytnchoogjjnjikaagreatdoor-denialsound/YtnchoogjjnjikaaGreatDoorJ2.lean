/- Texts of this proof, joined: Lowered, Clone, LabelsOf, DSplit, DSound, DSplit2. -/
import Derived.Lib.BufferWrite
import Derived.Lib.SlBytesConst
import Derived.Test.YtnchoogjjnjikaaGreatDoorJ1
import Derived.Lib.UnsafeStr
import Derived.Maps.AppendAt
import Derived.Lib.Buffer
import Derived.Deep.RegionWith
/- lowered: the bytes, each great letter made small. -/
namespace Go.Proofs.YtnchoogjjnjikaaGreatDoor
set_option linter.unusedVariables false
open Go.RowKit
theorem info5 : (Tryz.prog.info? 5).map (fun i => (i.zero, i.size, i.bytes)) = some (some (.int .u8 0), 1, 1) := by kernel_rfl
def BytesAt (W : World) (g : Nat) (l : List UInt8) : Prop := ∀ j (h : j < l.length), W.cell? ⟨g, j, none⟩ = some (.int .u8 (l[j].toNat : Int)) ∧ W.frozen? ⟨g, j, none⟩ = false
theorem BytesAt.set {W : World} {g : Nat} {l : List UInt8} (h : BytesAt W g l) (k : Nat) (b : UInt8) : BytesAt (W.setCell ⟨g, k, none⟩ (.int .u8 (b.toNat : Int))) g (l.set k b) := by
  intro j hj
  rw [List.length_set] at hj
  refine ⟨?_, by rw [World.frozen?_setCell]; exact (h j hj).2⟩
  by_cases e : k = j
  · subst e
    rw [World.cell?_setCell_same' _ _ _ (by rw [(h k hj).1]; rfl)]; simp
  · rw [World.cell?_setCell_other (h := by intro e'; cases e'; exact e rfl), List.getElem_set_ne e]; exact (h j hj).1
theorem add_at (b j : Nat) : (⟨b, 0, none⟩ : Addr).add j = ⟨b, j, none⟩ := by
  unfold Addr.add
  by_cases h : j = 0
  · subst h; rfl
  · simp [h]
def lowTo (l : List UInt8) (k : Nat) : List UInt8 := (l.take k).map lowB ++ l.drop k
theorem lowTo_zero (l : List UInt8) : lowTo l 0 = l := by simp [lowTo]
theorem lowTo_all (l : List UInt8) (k : Nat) (h : l.length ≤ k) : lowTo l k = l.map lowB := by simp [lowTo, List.take_of_length_le h, List.drop_of_length_le h]
theorem lowTo_length (l : List UInt8) (k : Nat) : (lowTo l k).length = l.length := by simp [lowTo]; omega
theorem lowTo_get (l : List UInt8) (k : Nat) (h : k < l.length) : (lowTo l k)[k]'(by rw [lowTo_length]; exact h) = l[k] := by
  simp [lowTo, List.getElem_append_right, Nat.min_eq_left (Nat.le_of_lt h)]
theorem lowTo_succ (l : List UInt8) (k : Nat) (h : k < l.length) : (lowTo l k).set k (lowB l[k]) = lowTo l (k + 1) := by
  have h1 : ((l.take k).map lowB).length = k := by simp; omega
  unfold lowTo
  rw [List.set_append_right _ _ (by omega), h1, Nat.sub_self, List.drop_eq_getElem_cons h, List.take_succ_eq_append_getElem h, List.set_cons_zero, List.map_append, List.append_assoc]
  rfl
theorem Hid.mk' {p : Prop} (h : p) : Hid p := h
set_option maxHeartbeats 1000000 in
theorem lowered_in (s : ByteArray) (w : World) (hs : s.size ≤ 255) :
    Calls Tryz.prog 20 #[.string s] w fun e w' => e = .returned (.string ⟨(s.data.toList.map lowB).toArray⟩) ∧ Below w.heap.size w w' := by
  obtain ⟨i0, hi, hz0, hz1, hz2⟩ := info_parts info5
  have hinfo : (Tryz.prog.info? 5).map (·.size) = some 1 := by rw [hi]; simp [hz1]
  obtain ⟨M, hM⟩ : ∃ M, M = madeCells (Value.int .u8 0).cells (((s.size : Nat) : Int).toNat * i0.size) := ⟨_, rfl⟩
  have hMs : M.size = s.size := by rw [hM, size_madeCells, hz1]; simp
  have hmk : ∀ W : World, (Instr.makeSlice 58 (.int .i64 (s.size : Int)) (.int .i64 (s.size : Int))).run Tryz.prog W = .ok (.slice (some ⟨W.heap.size, 0, none⟩) s.size s.size) (W.alloc (.cells M 5)) := fun W => by
    have h := run_make (P := Tryz.prog) W 58 5 i0 (.int .u8 0) Tryz.underlying58 hi hz0 .i64 .i64 (s.size : Int) (s.size : Int) (by omega) (by omega) (by rw [hz2]; omega) (by omega)
    rw [← hM] at h
    simpa using h
  clear hM
  have hcp := Lib.run_copy_row_string (P := Tryz.prog) (w.alloc (.cells M 5)) 58 9 3 5 w.heap.size 0 s.size s.size s M 5 Tryz.underlying58 hinfo (heap_alloc_new w _) (Nat.le_refl _) (by omega)
  obtain ⟨Y, hY⟩ : ∃ Y, Y = (M.toList.take 0 ++ Lib.byteCells s.data.toList ++ M.toList.drop (0 + s.size)).toArray := ⟨_, rfl⟩
  rw [← hY] at hcp
  have hYl : Y.toList = Lib.byteCells s.data.toList := by
    rw [hY, List.toList_toArray, List.take_zero, List.nil_append, List.drop_of_length_le (by rw [Array.length_toList]; omega), List.append_nil]
  have hgY : ((w.alloc (.cells M 5)).setRow w.heap.size Y).heap[w.heap.size]? = some (.cells Y 5 (0, 0)) := setRow_heap _ _ M _ 5 (0, 0) (heap_alloc_new w _)
  clear hY
  go_enter Tryz.func20, Tryz.ntmps20
  go_wp2_with fail
  go_loopw [14] (fun i wr => ∃ k : Nat, k ≤ s.size ∧ i = .int .i64 k ∧ BytesAt wr w.heap.size (lowTo s.data.toList k) ∧ Below w.heap.size w wr) (fun i _ => s.size - (intOf i).toNat)
  case atStart =>
    refine ⟨0, Nat.zero_le _, rfl, ?_, ?_⟩
    · rw [lowTo_zero]
      intro j hj
      refine ⟨?_, frozen_of_row _ _ _ _ _ hgY⟩
      have := Lib.cells_of_row hgY Y.size j (.int .u8 (s.data.toList[j].toNat : Int)) (by rw [List.take_of_length_le (by rw [Array.length_toList]; exact Nat.le_refl _), hYl]; simp only [Lib.byteCells, List.getElem?_map, List.getElem?_eq_getElem hj]; rfl)
      rwa [add_at] at this
    · have hb1 : Below w.heap.size w (w.alloc (.cells M 5)) := (Below.refl _ w).alloc (Nat.le_refl _) _
      have hb2 : Below w.heap.size (w.alloc (.cells M 5)) ((w.alloc (.cells M 5)).setRow w.heap.size Y) := ⟨rfl, rfl, rfl, by simp, fun k hk => setRow_other _ _ _ _ (by omega)⟩
      exact hb1.trans hb2
  case round =>
    obtain ⟨k, hk, rfl, hby, hbl⟩ := hrel
    clear hcp hmk hgY hYl hMs
    by_cases hlt : k < s.size
    · have hlt' : k < s.data.toList.length := by rw [size_list]; exact hlt
      have hj := hby k (by rw [lowTo_length]; exact hlt')
      rw [lowTo_get _ _ hlt'] at hj
      obtain ⟨hc, hf⟩ := hj
      have hn := (hby.set k (lowB s.data.toList[k]))
      rw [lowTo_succ _ _ hlt'] at hn
      have HN := Hid.mk' hn
      clear hn
      generalize s.data.toList[k] = c at hc HN
      go_wp2_with (go_at_call 37; refine (lowByte_in _ _).mono ?_; rintro e w' ⟨rfl, rfl⟩)
      go_roundw
      case rel => exact ⟨k + 1, by omega, by go_num, HN.out, hbl.setCell (p := ⟨w.heap.size, k, none⟩) (Nat.le_refl _) _⟩
      case measure => simp [intOf]; omega
    · have hfin : lowTo s.data.toList k = s.data.toList.map lowB := lowTo_all _ _ (by rw [size_list]; omega)
      rw [hfin] at hby
      have hcv := run_convert_bytes_back (P := Tryz.prog) wr 58 9 5 ⟨w.heap.size, 0, none⟩ s.size (s.data.toList.map lowB) Tryz.underlying58 Tryz.underlying5 Tryz.underlying9 (fun j hj => by rw [add_at]; exact (hby j hj).1)
      rw [List.length_map, size_list] at hcv
      clear hfin hby
      go_wp2
      go_ret
      exact ⟨rfl, hbl⟩
def lowN (ls : List (List UInt8)) : List (List UInt8) := ls.map fun l => l.map lowB
theorem lowB_len {n : Nat} (h : n ≤ 63) : lowB (UInt8.ofNat n) = UInt8.ofNat n := by
  have : (UInt8.ofNat n).toNat = n := by simp; omega
  unfold lowB
  rw [if_neg (by omega)]
theorem flat_low : ∀ (ls : List (List UInt8)), (∀ l ∈ ls, 1 ≤ l.length ∧ l.length ≤ 63) → (flat ls).map lowB = flat (lowN ls)
  | [], _ => rfl
  | l :: ls, h => by
    have h1 := h l (by simp)
    have ih := flat_low ls (fun x hx => h x (by simp [hx]))
    simp only [flat, lowN, List.map_cons, List.map_append, List.length_map, lowB_len h1.2]
    rw [ih]; rfl
theorem flat_low_length (ls : List (List UInt8)) : (flat (lowN ls)).length = (flat ls).length := by
  induction ls with
  | nil => rfl
  | cons l ls ih =>
    show (flat ((l.map lowB) :: lowN ls)).length = _
    simp [flat, ih]
theorem OkN.low {ls : List (List UInt8)} (h : OkN ls) : OkN (lowN ls) := by
  refine ⟨fun l hl => ?_, by rw [flat_low_length]; exact h.len⟩
  simp only [lowN, List.mem_map] at hl
  obtain ⟨m, hm, rfl⟩ := hl
  simpa using h.lab m hm
theorem nm_low {ls : List (List UInt8)} (h : OkN ls) : (⟨((nm ls).data.toList.map lowB).toArray⟩ : ByteArray) = nm (lowN ls) := by
  apply ba_ext
  rw [ba_toList, nm_list, nm_list, nmL, nmL, List.map_append, flat_low ls h.lab]; rfl
theorem lowered_nm (ls : List (List UInt8)) (ho : OkN ls) (w : World) :
    Calls Tryz.prog 20 #[.string (nm ls)] w fun e w' => e = .returned (.string (nm (lowN ls))) ∧ Below w.heap.size w w' := by
  have := lowered_in (nm ls) w (by rw [nm_size]; have := ho.len; omega)
  rwa [nm_low ho] at this
end Go.Proofs.YtnchoogjjnjikaaGreatDoor
/- strings.Clone: the same bytes. -/
namespace Go.Proofs.YtnchoogjjnjikaaGreatDoor
set_option linter.unusedVariables false
open Go.RowKit
theorem cells5 : Tryz.prog.cellsOf 5 = 1 := by kernel_rfl
set_option maxRecDepth 100000 in
theorem liteClone_in (s : ByteArray) (w : World) (hs : s.size ≤ 65535) :
    Calls Tryz.prog 128 #[.string s] w fun e w' => e = .returned (.string s) ∧ Below w.heap.size w w' := by
  by_cases h0 : s.size = 0
  · have hs : s = ⟨#[]⟩ := by
      apply ByteArray.ext
      exact Array.eq_empty_of_size_eq_zero h0
    subst hs
    go_enter Tryz.func128, Tryz.ntmps128
    go_wp2
    go_ret
    exact ⟨rfl, Below.refl _ _⟩
  · obtain ⟨i0, hi, hz0, hz1, hz2⟩ := info_parts info5
    have hinfo : (Tryz.prog.info? 5).map (·.size) = some 1 := by rw [hi]; simp [hz1]
    obtain ⟨M, hM⟩ : ∃ M, M = madeCells (Value.int .u8 0).cells (((s.size : Nat) : Int).toNat * i0.size) := ⟨_, rfl⟩
    have hMs : M.size = s.size := by rw [hM, size_madeCells, hz1]; simp
    have hmk : ∀ W : World, (Instr.makeSlice 58 (.int .i64 (s.size : Int)) (.int .i64 (s.size : Int))).run Tryz.prog W = .ok (.slice (some ⟨W.heap.size, 0, none⟩) s.size s.size) (W.alloc (.cells M 5)) := fun W => by
      have h := run_make (P := Tryz.prog) W 58 5 i0 (.int .u8 0) Tryz.underlying58 hi hz0 .i64 .i64 (s.size : Int) (s.size : Int) (by omega) (by omega) (by rw [hz2]; omega) (by omega)
      rw [← hM] at h
      simpa using h
    clear hM
    have hcp := Lib.run_copy_row_string (P := Tryz.prog) (w.alloc (.cells M 5)) 58 9 3 5 w.heap.size 0 s.size s.size s M 5 Tryz.underlying58 hinfo (heap_alloc_new w _) (Nat.le_refl _) (by omega)
    obtain ⟨Y, hY⟩ : ∃ Y, Y = (M.toList.take 0 ++ Lib.byteCells s.data.toList ++ M.toList.drop (0 + s.size)).toArray := ⟨_, rfl⟩
    rw [← hY] at hcp
    have hYl : Y.toList = Lib.byteCells s.data.toList := by
      rw [hY, List.toList_toArray, List.take_zero, List.nil_append, List.drop_of_length_le (by rw [Array.length_toList]; omega), List.append_nil]
    have hYs : Y.size = s.size := by rw [← Array.length_toList, hYl, Lib.byteCells_length, ← Lib.size_eq]
    have hgY : ((w.alloc (.cells M 5)).setRow w.heap.size Y).heap[w.heap.size]? = some (.cells Y 5 (0, 0)) := setRow_heap _ _ M _ 5 (0, 0) (heap_alloc_new w _)
    have hne : s.data.toList ≠ [] := fun e => h0 (by rw [Lib.size_eq, e]; rfl)
    have hUS := Lib.run_unsafeString_row (P := Tryz.prog) ((w.alloc (.cells M 5)).setRow w.heap.size Y) 149 3 9 5 Tryz.underlying149 cells5 w.heap.size Y.size (by unfold World.shape?; rw [hgY]) s.data.toList hne (by rw [← Lib.size_eq]; omega) (by rw [← Lib.size_eq]; omega)
      (fun j x hx => Lib.cells_of_row hgY Y.size j _ (by rw [List.take_of_length_le (by rw [Array.length_toList]; exact Nat.le_refl _), hYl]; simp [Lib.byteCells, hx]))
    rw [← Lib.size_eq] at hUS
    clear hY
    go_enter Tryz.func128, Tryz.ntmps128
    go_wp2
    go_ret
    have hb1 : Below w.heap.size w (w.alloc (.cells M 5)) := (Below.refl _ w).alloc (Nat.le_refl _) _
    have hb2 : Below w.heap.size (w.alloc (.cells M 5)) ((w.alloc (.cells M 5)).setRow w.heap.size Y) := ⟨rfl, rfl, rfl, by simp, fun k hk => setRow_other _ _ _ _ (by omega)⟩
    exact ⟨rfl, Lib.below_freeze (hb1.trans hb2) (p := ⟨w.heap.size, 0, none⟩) (Nat.le_refl _) _⟩
theorem clone_in (s : ByteArray) (w : World) (hs : s.size ≤ 65535) :
    Calls Tryz.prog 97 #[.string s] w fun e w' => e = .returned (.string s) ∧ Below w.heap.size w w' := by
  go_enter Tryz.func97, Tryz.ntmps97
  go_wp2_with (go_at_call 128; refine (liteClone_in _ _ hs).mono ?_; rintro e w' ⟨rfl, hb⟩)
  go_ret
  exact ⟨rfl, hb⟩
end Go.Proofs.YtnchoogjjnjikaaGreatDoor
/- labelsOf: the labels of a name, in a new array. -/
namespace Go.Proofs.YtnchoogjjnjikaaGreatDoor
set_option linter.unusedVariables false
open Go.RowKit Go.Shelf
attribute [local go_sem] Oper.semAt_some
theorem info9 : (Tryz.prog.info? 9).map (fun i => (i.zero, i.size, i.bytes)) = some (some (.string ⟨#[]⟩), 1, 16) := by kernel_rfl
def strV (l : List UInt8) : Value := .string ⟨l.toArray⟩
def strsV (ls : List (List UInt8)) : List Value := ls.map strV
theorem strV_of (s : ByteArray) : strV s.data.toList = .string s := rfl
theorem add_at' (b j : Nat) : (⟨b, 0, none⟩ : Addr).add j = ⟨b, j, none⟩ := by
  unfold Addr.add
  by_cases h : j = 0
  · subst h; rfl
  · simp [h]
def Strs (n₀ : Nat) (W : World) (v : Value) (ls : List (List UInt8)) : Prop :=
  (v = .slice none 0 0 ∧ ls = []) ∨ ∃ g cap, v = .slice (some ⟨g, 0, none⟩) ls.length cap ∧ g < n₀ ∧ ∀ j (h : j < ls.length), W.cell? ⟨g, j, none⟩ = some (strV ls[j])
theorem Strs.below {n₀ : Nat} {W W' : World} {v : Value} {ls : List (List UInt8)} (h : Strs n₀ W v ls) (hb : Below n₀ W W') : Strs n₀ W' v ls := by
  rcases h with h | ⟨g, cap, hv, hg, hc⟩
  · exact .inl h
  · exact .inr ⟨g, cap, hv, hg, fun j hj => (hb.cell (p := ⟨g, j, none⟩) hg).trans (hc j hj)⟩
theorem Strs.mono {n₀ n₁ : Nat} {W : World} {v : Value} {ls : List (List UInt8)} (h : Strs n₀ W v ls) (hb : n₀ ≤ n₁) : Strs n₁ W v ls := by
  rcases h with h | ⟨g, cap, hv, hg, hc⟩
  · exact .inl h
  · exact .inr ⟨g, cap, hv, by omega, hc⟩
theorem strs_of_row {n : Nat} {W : World} {e : TypeId} {v : Value} {ls : List (List UInt8)} (h : W.ownsRow n e 1 v ls.length (strsV ls)) : Strs W.heap.size W v ls := by
  rcases h.2 with ⟨hv, hl⟩ | ⟨g, cap, cur, hv, hb, hgb, hrest⟩
  · exact .inl ⟨hv, List.eq_nil_of_length_eq_zero hl⟩
  · refine .inr ⟨g, cap, hv, (Array.getElem?_eq_some_iff.1 hgb).1, fun j hj => ?_⟩
    have := Lib.cells_of_row hgb ls.length j (strV ls[j]) (by have h4 := hrest.2.2.2; rw [Nat.mul_one] at h4; rw [h4]; simp [strsV, hj])
    rwa [add_at'] at this
theorem appended2 {W w1 : World} {n₁ B : Nat} {t e : TypeId} {size : Nat} {v v' : Value} {k m : Nat} {xs ys : List Value} {tmp : Obj}
    (hv : Boxed W B t v) (hte : t ≠ e) (hrow : W.ownsRow n₁ e size v k xs) (hn₁ : n₁ ≤ W.heap.size)
    (hown' : w1.ownsRow n₁ e size v' m ys) (hgrow : (W.alloc tmp).grownBy w1 v.ownBlock) :
    Boxed w1 B t v ∧ Boxed (w1.setCell ⟨B, 0, none⟩ v') B t v' ∧ (w1.setCell ⟨B, 0, none⟩ v').ownsRow n₁ e size v' m ys ∧ KeepsOthers W (w1.setCell ⟨B, 0, none⟩ v') ∧
      (∀ N, N ≤ n₁ → Below N W w1) := by
  have hv1 : Boxed w1 B t v := (hv.alloc tmp).kept hgrow (hv.not_row hte hrow)
  refine ⟨hv1, hv1.set v', hown'.kept (grownBy_setCell' w1 B v') (.inr (hv1.not_row hte hown').symm), ?_, ?_⟩
  · refine ((KeepsOthers.alloc W tmp).trans (KeepsOthers.of_grownBy hgrow fun j o ej hj => ?_)).trans (KeepsOthers.setCell _ _ _)
    rcases (hrow.alloc tmp).2 with ⟨rfl, _⟩ | ⟨g, cap, cur, rfl, _, hgb, _⟩
    · simp [Value.ownBlock] at ej
    · obtain rfl : g = j := by simpa [Value.ownBlock] using ej
      rw [hgb] at hj; cases hj; rfl
  · intro N hN
    refine ((Below.refl N W).alloc (by omega) tmp).grown hgrow (by simp; omega) fun j ej => ?_
    rcases hrow.2 with ⟨rfl, _⟩ | ⟨g, cap, cur, rfl, hb, _, _⟩
    · simp [Value.ownBlock] at ej
    · obtain rfl : g = j := by simpa [Value.ownBlock] using ej
      omega
set_option maxRecDepth 100000 in
set_option maxHeartbeats 1000000 in
theorem labelsOf_in (ls : List (List UInt8)) (ho : OkN ls) (w : World) :
    Calls Tryz.prog 29 #[.string (nm ls)] w fun e w' => (∃ v, e = .returned v ∧ Strs w'.heap.size w' v ls) ∧ Below w.heap.size w w' := by
  have hsz : (nm ls).size ≤ 255 := by rw [nm_size]; have := ho.len; omega
  obtain ⟨i0, hi, hz0, hz1, hz2⟩ := info_parts info9
  refine (callsIn_wide (n := 5)).1 ?_
  refine callsIn_of_wp_marks Tryz.func29 rfl trivial ?_ rfl
  simp only [Tryz.ntmps29, List.size_toArray, List.length_cons, List.length_nil, Nat.reduceAdd, Nat.reduceSub, Array.replicate_succ, Array.replicate_zero, List.push_toArray, List.append_toArray, List.nil_append, List.cons_append]
  gi_wp2_with (refine ⟨trivial, ?_⟩; gi_at_call 36; refine (callsIn_wide.2 (eachLabel_in _ _)).mono ?_; rintro e w' ⟨rfl, rfl⟩)
  have hs : ((w.alloc (.cells #[.slice none 0 0] 24)).alloc (.cells #[.string (nm ls)] 9)).cell? ⟨w.heap.size + 1, 0, none⟩ = some (.string (nm ls)) := by
    have := (Boxed.new (w.alloc (.cells #[.slice none 0 0] 24)) 9 (.string (nm ls))).cell
    rwa [World.size_alloc] at this
  refine wpIn_rangeFunc_ownF rfl (by omega) (gf := 61) (lb := #[.pointer (some ⟨w.heap.size + 1, 0, none⟩)]) rfl trivial (enters_of Tryz.func61 (by kernel_rfl) rfl)
    (eachLabel_stops Fence.wide (5 - 1) trivial rfl (by omega) (w.heap.size + 1) (nm ls) hsz _ (by simp) hs) KeepCell.t KeepCell.b (Below.refl _ _) (fun _ => rfl)
    (fun pre W => (∃ v, Boxed W w.heap.size 24 v ∧ W.ownsRow (w.heap.size + 2) 9 1 v (labs pre).length (strsV (labs pre)) ∧ True) ∧ (w.heap.size + 2 ≤ W.heap.size ∧ Below w.heap.size w W))
    (fun c pre W => False)
    ?hI ?hIx ?h0 (fun x => { tmps := #[.string (nm ls), undef, .slice none 0 0, .pointer (some ⟨w.heap.size, 0, none⟩), undef, .string x.1.2, .string (nm ls), .func (.func 61) #[] #[.pointer (some ⟨w.heap.size + 1, 0, none⟩)], .int .i64 (x.1.1 : Int), .string x.1.2, undef, undef, undef, undef, undef], defers := [] }) ?assign ?body ?done ?stop
  case hI =>
    refine OwnFrom.and (Own.from (holdsRow_own (w.heap.size + 2) w.heap.size 24 9 1 (fun pre => (labs pre).length) (fun pre => strsV (labs pre)) (fun _ _ => True)) _) (OwnFrom.and ?_ (ownFrom_below (Nat.le_refl _) (by simp; omega)))
    intro s A B row hs hg hr
    exact Nat.le_trans hs hg.size
  case hIx => exact fun c => ownFrom_pure _ _
  case h0 =>
    exact ⟨⟨.slice none 0 0, (Boxed.new _ _ _).alloc _, World.ownsRow_nil .., trivial⟩, by simp, ((Below.refl _ _).alloc (Nat.le_refl _) _).alloc (by simp) _⟩
  case assign =>
    intro l x W K hK
    gi_wp2
    exact hK
  case body =>
    rintro l pre x W ⟨⟨v, hv, hrow, -⟩, hle, hB⟩ hpl
    have hx1 := x.2.1
    have hx2 := x.2.2
    have hc := hv.cell
    gi_wp2_with (gi_at_builtin; refine wpListIn_append_own _ rfl _ _ 24 rfl (w.heap.size + 2) 9 i0 (.string ⟨#[]⟩) 1 16 Tryz.underlying24 hi hz0 hz1 hz2 rfl (by decide) _ _ _ rfl (hrow.alloc _) ⟨W.heap.size, 0, none⟩ 1 1 [.string x.1.2] rfl rfl (cell_one_new _ _ _) (by simp [Value.oneCell']) (by simp [labs]; unfold maxLen; omega) (by simp [labs]; omega) (by simp; omega) ?_; intro v' w1 hown' hgrow _; obtain ⟨g', cap', rfl⟩ := ownsRow_succ hown'; obtain ⟨hv1, hv2, hr2, hk2, hb2⟩ := appended2 hv (by decide) hrow (by omega) hown' hgrow; have hc1 := hv1.cell; have hf1 := hv1.frozen)
    refine ⟨hk2, KeepCell.t (KeepCell.below (hb2 (w.heap.size + 2) (Nat.le_refl _)) (by omega)) (KeepCell.setCell _ _ (by omega)), ⟨_, hv2, ?_, trivial⟩, ?_, ?_⟩
    · rw [labs_snoc, List.length_append]
      simpa [strsV, strV_of] using hr2
    · have := (hb2 0 (Nat.zero_le _)).size; simp; omega
    · exact hB.trans ((hb2 w.heap.size (by omega)).setCell (p := ⟨w.heap.size, 0, none⟩) (Nat.le_refl _) _)
  case done =>
    rintro D ys W hD ⟨hsq, hpl, hen⟩ ⟨⟨v, hv, hrow, -⟩, hle, hB⟩ hK
    have hc := hv.cell
    have hys : labs ys = ls := hsq.all_name ho hen
    gi_wp2
    refine ⟨by simp, .inl ⟨_, _, rfl, run_takeDeferred hK, ?_⟩⟩
    refine ⟨_, results_tmp rfl _ _ _, ⟨v, rfl, ?_⟩, hB.trans (belowK_b (w := w) (Nat.le_refl _) W D _ _ (by simp at hD; omega) hK rfl rfl)⟩
    rw [hys] at hrow
    exact strs_of_row (ownsRow_putObj hrow _ hK rfl)
  case stop =>
    rintro D c pre W _ _ h _
    exact h.elim
end Go.Proofs.YtnchoogjjnjikaaGreatDoor
/- piecesOf: data in pieces. -/
namespace Go.Proofs.YtnchoogjjnjikaaGreatDoor
set_option linter.unusedVariables false
open Go.RowKit
def PassPost (r : Option Nat) (s : ByteArray) (d : Nat) (W w' : World) (e : Ending) : Prop := match r with
  | some m => m ≤ s.size ∧ e = .returned (.tuple #[]) ∧ Rd w' d (s.extract m s.size) ∧ Kept d W w'
  | none => e = .panicked mustV ∧ Kept d W w'
structure Part where
  pass : Nat
  passC : Array Value
  tell : Nat
  tellC : Array Value
  read : Nat
  readC : Array Value
  name : Bool
def Enters (f : Nat) : Prop := ∀ (args : Array Value) (w : World), (callFunc f args).run Tryz.prog w = .ok (.enter f args) w
structure PartsIn (W : World) (g n : Nat) (P : Nat → Part) : Prop where
  lt : 0 < n → g < W.heap.size
  c0 : ∀ k, k < n → W.cell? ⟨g, k * 4, none⟩ = some (fnV (P k).pass (P k).passC)
  c1 : ∀ k, k < n → W.cell? ⟨g, k * 4 + 1, none⟩ = some (fnV (P k).tell (P k).tellC)
  c2 : ∀ k, k < n → W.cell? ⟨g, k * 4 + 2, none⟩ = some (fnV (P k).read (P k).readC)
  c3 : ∀ k, k < n → W.cell? ⟨g, k * 4 + 3, none⟩ = some (.bool (P k).name)
def cutP (pf : Nat → ByteArray → Option Nat) : Nat → Nat → ByteArray → Option (List ByteArray × ByteArray)
  | 0, _, s => some ([], s)
  | n + 1, k, s => match pf k s with
    | none => none
    | some m => (cutP pf n (k + 1) (s.extract m s.size)).map fun r => (s.extract 0 m :: r.1, r.2)
def fin (pf : Nat → ByteArray → Option Nat) (n : Nat) (s : ByteArray) : Option (List ByteArray) := match cutP pf n 0 s with
  | none => none
  | some r => if r.2.size = 0 then some r.1 else none
def baV (ps : List ByteArray) : List Value := ps.map .string
def PiePost (R : Option (List ByteArray)) (W : World) (e : Ending) (w' : World) : Prop := (match R with
      | some ps => ∃ v, e = .returned v ∧ w'.ownsRow W.heap.size 9 1 v ps.length (baV ps)
      | none => e = .panicked mustV) ∧ Below W.heap.size W w'
def PieRel (pf : Nat → ByteArray → Option Nat) (n : Nat) (s : ByteArray) (W : World) (v i : Value) (wr : World) : Prop :=
  ∃ (k : Nat) (done : List ByteArray) (rest : ByteArray), k ≤ n ∧ i = .int .i64 k ∧ done.length = k ∧ wr.ownsRow (W.heap.size + 1) 9 1 v k (baV done) ∧ Rd wr W.heap.size rest ∧ rest.size ≤ s.size ∧
    Hid (cutP pf n 0 s = (cutP pf (n - k) k rest).map fun r => (done ++ r.1, r.2)) ∧ Below W.heap.size W wr ∧ W.heap.size + 1 ≤ wr.heap.size
set_option maxRecDepth 100000 in
set_option maxHeartbeats 4000000 in
theorem piecesOf_in (W : World) (g n cap : Nat) (hn : n ≤ 20) (s : ByteArray) (hs : s.size ≤ 2000) (P : Nat → Part) (hP : PartsIn W g n P) (pf : Nat → ByteArray → Option Nat)
    (hen : ∀ k, k < n → Enters (P k).pass)
    (hpf : ∀ k, k < n → ∀ (W' : World) (d : Nat) (s' : ByteArray), Below W.heap.size W W' → W.heap.size ≤ d → Rd W' d s' → s'.size ≤ 2000 →
      Calls Tryz.prog (P k).pass (#[boxV d] ++ (P k).passC) W' fun e w' => PassPost (pf k s') s' d W' w' e) :
    Calls Tryz.prog 90 #[.slice (some ⟨g, 0, none⟩) n cap, .string s] W fun e w' => PiePost (fin pf n s) W e w' := by
  obtain ⟨i0, hi, hz0, hz1, hz2⟩ := info_parts info9
  obtain ⟨R, hR⟩ : ∃ R, fin pf n s = R := ⟨_, rfl⟩
  rw [hR]
  have HR := Hid.mk hR
  have HPF := Hid.mk hpf
  clear hR hpf
  go_enter Tryz.func90, Tryz.ntmps90
  go_wp2
  go_loopw [6, 15] (fun v i wr => PieRel pf n s W v i wr) (fun _ i _ => n - (intOf i).toNat)
  case atStart =>
    refine ⟨0, [], s, Nat.zero_le _, rfl, rfl, World.ownsRow_nil .., heap_new _ _, Nat.le_refl _, ?_, (Below.refl _ _).alloc (Nat.le_refl _) _, by simp⟩
    rw [Hid, Nat.sub_zero]
    cases cutP pf n 0 s <;> rfl
  case round =>
    obtain ⟨k, done, rest, hk, rfl, hdl, hrow, hrd, hrz, hcut, hbl, hsz⟩ := hrel
    by_cases hlt : k < n
    · have hcall := HPF.out k hlt
      have hent := hen k hlt
      have hg := hP.lt (by omega)
      have c0 := (hbl.cell (p := ⟨g, k * 4, none⟩) hg).trans (hP.c0 k hlt)
      have c1 := (hbl.cell (p := ⟨g, k * 4 + 1, none⟩) hg).trans (hP.c1 k hlt)
      have c2 := (hbl.cell (p := ⟨g, k * 4 + 2, none⟩) hg).trans (hP.c2 k hlt)
      have c3 := (hbl.cell (p := ⟨g, k * 4 + 3, none⟩) hg).trans (hP.c3 k hlt)
      have hrc : ∀ o, (wr.alloc o).cell? ⟨W.heap.size, 0, none⟩ = some (.string rest) := fun o => (hrd.below ((Below.refl _ _).alloc (Nat.le_refl _) o)).cell
      have HC := Hid.mk hcall
      have hcs : cutP pf (n - k) k rest = match pf k rest with
          | none => none
          | some m => (cutP pf (n - (k + 1)) (k + 1) (rest.extract m rest.size)).map fun r => (rest.extract 0 m :: r.1, r.2) := by
        rw [show n - k = n - (k + 1) + 1 by omega]; rfl
      have HCS := Hid.mk (hcut.out.trans (by rw [hcs]))
      clear hcall hcs hcut
      generalize P k = pk at c0 c1 c2 c3 HC hent
      obtain ⟨fp, cp, ft, ct, fr, cr, nmb⟩ := pk
      dsimp only [Enters] at c0 c1 c2 c3 HC hent
      have hrn : Rd (wr.alloc (.cells #[fnV fp cp, fnV ft ct, fnV fr cr, .bool nmb] 156)) W.heap.size rest := hrd.below ((Below.refl _ _).alloc (Nat.le_refl _) _)
      have hbn : Below W.heap.size W (wr.alloc (.cells #[fnV fp cp, fnV ft ct, fnV fr cr, .bool nmb] 156)) := hbl.alloc (by omega) _
      have HC2 := Hid.mk (HC.out _ W.heap.size rest hbn (Nat.le_refl _) hrn (by omega))
      have hrow2 : (wr.alloc (.cells #[fnV fp cp, fnV ft ct, fnV fr cr, .bool nmb] 156)).ownsRow (W.heap.size + 1) 9 1 u6 k (baV done) := hrow.alloc _
      have hszn : W.heap.size + 1 ≤ (wr.alloc (.cells #[fnV fp cp, fnV ft ct, fnV fr cr, .bool nmb] 156)).heap.size := by simp; omega
      clear HC
      cases hpk : pf k rest with
      | none =>
        rw [hpk] at HCS HC2
        go_wp2_with fail
        refine HC2.out.mono ?_
        rintro e w1 ⟨rfl, hkp⟩
        go_wp2
        refine ⟨rfl, ?_, hbn.trans (hkp.below (Nat.le_refl _) (by omega))⟩
        have hRn : R = none := by
          rw [← HR.out, fin, HCS.out]; rfl
        rw [hRn]
      | some m =>
        rw [hpk] at HCS HC2
        go_wp2_with fail
        refine HC2.out.mono ?_
        rintro e w1 ⟨hm, rfl, hrd1, hkp⟩
        have hrc1 := hrd1.cell
        have hez : (rest.extract m rest.size).size = rest.size - m := by rw [ByteArray.size_extract]; omega
        have hw1 : IntKind.i64.wrap ((rest.size : Int) - ((rest.extract m rest.size).size : Int)) = (m : Int) := by rw [hez, IntKind.wrap_i64]; omega
        have hcz : (rest.extract 0 m).size ≤ 65535 := by rw [ByteArray.size_extract]; omega
        have hezl : (rest.extract m rest.size).size ≤ 2000 := by omega
        have HEZ := Hid.mk hez
        clear hez
        have HCN : Hid (cutP pf n 0 s = (cutP pf (n - (k + 1)) (k + 1) (rest.extract m rest.size)).map fun r => ((done ++ [rest.extract 0 m]) ++ r.1, r.2)) := by
          rw [Hid, HCS.out]
          show Option.map _ (Option.map _ _) = _
          rw [Option.map_map]
          congr 1
          funext r
          simp
        clear HCS
        generalize rest.extract m rest.size = rest' at hrd1 hrc1 hw1 HCN HEZ hezl
        go_wp2_with fail
        refine (clone_in _ _ hcz).mono ?_
        rintro e w2 ⟨rfl, hb2⟩
        have k1 : Below W.heap.size W w1 := hbn.trans (hkp.below (Nat.le_refl _) (by omega))
        have hrow1 : w1.ownsRow (W.heap.size + 1) 9 1 u6 k (baV done) := by
          refine ⟨hrow2.1, ?_⟩
          rcases hrow2.2 with h' | ⟨g', cap', cur, hv, hb', hg', hr⟩
          · exact .inl h'
          · exact .inr ⟨g', cap', cur, hv, hb', (hkp.same g' (Array.getElem?_eq_some_iff.1 hg').1 (by omega)).trans hg', hr⟩
        have hrow3 : w2.ownsRow (W.heap.size + 1) 9 1 u6 k (baV done) := by
          refine ⟨hrow1.1, ?_⟩
          rcases hrow1.2 with h' | ⟨g', cap', cur, hv, hb', hg', hr⟩
          · exact .inl h'
          · exact .inr ⟨g', cap', cur, hv, hb', (hb2.block g' (Array.getElem?_eq_some_iff.1 hg').1).trans hg', hr⟩
        have hrd2 := hrd1.below hb2
        have hsz1 : W.heap.size + 1 ≤ w1.heap.size := Nat.le_trans hszn hkp.size
        have hsz2 : W.heap.size + 1 ≤ w2.heap.size := Nat.le_trans hsz1 hb2.size
        have k2 : Below W.heap.size W w2 := k1.trans (hb2.mono (by omega))
        clear hrow2 hrow1 hrow hrd hrn hrd1 hrc hbn hb2 hkp k1 hbl c0 c1 c2 c3 HC2 hent
        go_wp2_with (at_builtin; refine wpList_append_own _ rfl _ _ 24 rfl (W.heap.size + 1) 9 i0 (.string ⟨#[]⟩) 1 16 Tryz.underlying24 hi hz0 hz1 hz2 rfl (by decide) _ _ _ rfl (hrow3.alloc _) ⟨w2.heap.size, 0, none⟩ 1 1 [.string (rest.extract 0 m)] rfl rfl (cell_one_new _ _ _) (by simp [Value.oneCell']) (by unfold maxLen; omega) (by omega) (by simp; omega) ?_; intro v1 w3 hown3 hgrow3 _)
        go_roundw
        case rel =>
          obtain ⟨q1, q2, q3, q4, q5⟩ := hgrow3
          have hne : ∀ b, b < W.heap.size + 1 → some b ≠ u6.ownBlock := by
            intro b hb e
            rcases hrow3.2 with ⟨rfl, _⟩ | ⟨g', cap', cur, rfl, hb', _⟩
            · simp [Value.ownBlock] at e
            · simp [Value.ownBlock] at e; omega
          have hal : ∀ o, Below w2.heap.size w2 (w2.alloc o) := fun o => (Below.refl _ _).alloc (Nat.le_refl _) o
          refine ⟨k + 1, done ++ [rest.extract 0 m], rest', by omega, by go_num, by simp [hdl], ?_, ?_, by have := HEZ.out; omega, HCN, ?_, ?_⟩
          · rw [baV, List.map_append]; exact hown3
          · exact (q5 W.heap.size (by simp; omega) (hne _ (by omega))).trans (hrd2.below (hal _))
          · refine k2.trans ⟨q1.trans (hal _).os, q2.trans (hal _).tape, q3.trans (hal _).output, Nat.le_trans (hal _).size q4, fun b hb => ?_⟩
            exact (q5 b (by simp; omega) (hne b (by omega))).trans ((hal _).block b (by omega))
          · simp at q4; omega
        case measure => simp [intOf]; omega
    · obtain rfl : k = n := by omega
      have hrc := hrd.cell
      have hfn : fin pf k s = if rest.size = 0 then some done else none := by
        rw [fin, hcut.out, Nat.sub_self]
        simp [cutP]
      have hRv := HR.out.symm.trans hfn
      clear hfn hcut
      by_cases h0 : rest.size = 0
      · rw [if_pos h0] at hRv
        have he : rest = ⟨#[]⟩ := ByteArray.ext (Array.eq_empty_of_size_eq_zero h0)
        subst he
        have HRV := Hid.mk hRv
        clear hRv
        go_wp2_with fail
        refine (must_yes _).mono ?_
        rintro e w1 ⟨rfl, rfl⟩
        go_wp2
        go_ret
        rw [HRV.out]
        refine ⟨⟨_, rfl, ?_⟩, hbl⟩
        rw [hdl]
        exact ⟨hrow.1, hrow.2.imp id fun ⟨g', cap', cur, hv, hb', hr⟩ => ⟨g', cap', cur, hv, by omega, hr⟩⟩
      · rw [if_neg h0] at hRv
        have HRV := Hid.mk hRv
        have hbe : (rest.toList == []) = false := by
          rw [beq_eq_false_iff_ne, ByteArray.toList_eq]
          intro e; apply h0; rw [← size_list, e]; rfl
        clear hRv
        go_wp2_with fail
        refine (must_no _).mono ?_
        rintro e w1 ⟨rfl, rfl⟩
        go_wp2
        refine ⟨rfl, ?_⟩
        rw [HRV.out]
        exact ⟨rfl, hbl⟩
end Go.Proofs.YtnchoogjjnjikaaGreatDoor
/- split: data in pieces, or none; sound, which recovers. -/
namespace Go.Proofs.YtnchoogjjnjikaaGreatDoor
set_option linter.unusedVariables false
open Go.RowKit
def PartsPost (n : Nat) (pf : Nat → ByteArray → Option Nat) (w : World) (e : Ending) (w' : World) : Prop :=
  ∃ g P, e = .returned (.slice (some ⟨g, 0, none⟩) n n) ∧ PartsIn w' g n P ∧ (∀ k, k < n → Enters (P k).pass) ∧
    (∀ k, k < n → ∀ (W' : World) (d : Nat) (s' : ByteArray), Below w'.heap.size w' W' → w'.heap.size ≤ d → Rd W' d s' → s'.size ≤ 2000 →
      Calls Tryz.prog (P k).pass (#[boxV d] ++ (P k).passC) W' fun e w'' => PassPost (pf k s') s' d W' w'' e) ∧ Below w.heap.size w w'
theorem box_cell {W : World} {b : Nat} {v : Value} {t : TypeId} (h : W.heap[b]? = some (.cells #[v] t (0, 0))) : W.cell? ⟨b, 0, none⟩ = some v := by simp [World.cell?, h]
theorem box_frozen {W : World} {b : Nat} {v : Value} {t : TypeId} (h : W.heap[b]? = some (.cells #[v] t (0, 0))) : W.frozen? ⟨b, 0, none⟩ = false := by simp [World.frozen?, h]
theorem box_lt {W : World} {b : Nat} {o : Obj} (h : W.heap[b]? = some o) : b < W.heap.size := (Array.getElem?_eq_some_iff.1 h).1
theorem box_set {W : World} {b : Nat} {v : Value} {t : TypeId} (h : W.heap[b]? = some (.cells #[v] t (0, 0))) (u : Value) : (W.setCell ⟨b, 0, none⟩ u).heap[b]? = some (.cells #[u] t (0, 0)) := by
  simp only [World.setCell, Array.getElem?_modify, h]
  rfl
theorem row_kept' {W W' : World} {n₀ n b : Nat} {e : TypeId} {v : Value} {xs : List Value} (h : W.ownsRow n₀ e 1 v n xs) (k : Kept b W W') (hb : b < n₀) : W'.ownsRow n₀ e 1 v n xs := by
  refine ⟨h.1, ?_⟩
  rcases h.2 with h' | ⟨g', cap', cur, hv, hb', hg', hr⟩
  · exact .inl h'
  · exact .inr ⟨g', cap', cur, hv, hb', (k.same g' (box_lt hg') (by omega)).trans hg', hr⟩
theorem row_down {W : World} {n₀ n₁ n : Nat} {e : TypeId} {v : Value} {xs : List Value} (h : W.ownsRow n₁ e 1 v n xs) (hn : n₀ ≤ n₁) : W.ownsRow n₀ e 1 v n xs :=
  ⟨h.1, h.2.imp id fun ⟨g', cap', cur, hv, hb', hr⟩ => ⟨g', cap', cur, hv, by omega, hr⟩⟩
theorem with_dummy {G : Prop} (w : World) (h : G) (d : wpAny Tryz.prog .any #[] (fun _ _ _ => True) 0 #[] { tmps := #[], defers := [] } w) : G := h
theorem row_as {W : World} {n₀ n : Nat} {e : TypeId} {v : Value} {xs : List Value} (h : W.ownsRow n₀ e 1 v n xs) : ∃ q cap, v = .slice q n cap := by
  rcases h.2 with ⟨rfl, rfl⟩ | ⟨g, cap, cur, hv, _⟩
  · exact ⟨none, 0, rfl⟩
  · exact ⟨_, _, hv⟩
def WorkPost (R : Option (List ByteArray)) (b : Nat) (W : World) (e : Ending) (w' : World) : Prop := (match R with
  | some ps => e = .returned (.tuple #[]) ∧ ∃ v, w'.ownsRow W.heap.size 9 1 v ps.length (baV ps) ∧ w'.heap[b]? = some (.cells #[v] 24 (0, 0))
  | none => e = .panicked mustV ∧ w'.heap[b]? = W.heap[b]?) ∧ Kept b W w'
set_option maxRecDepth 100000 in
set_option maxHeartbeats 4000000 in
theorem split1_in (W : World) (bk bd bp n : Nat) (hn : n ≤ 20) (k : Int) (s : ByteArray) (hs : s.size ≤ 2000) (v0 : Value) (pf : Nat → ByteArray → Option Nat)
    (hk : W.heap[bk]? = some (.cells #[.int .i64 k] 3 (0, 0))) (hd : W.heap[bd]? = some (.cells #[.string s] 9 (0, 0))) (hp : W.heap[bp]? = some (.cells #[v0] 24 (0, 0)))
    (hparts : ∀ w, Calls Tryz.prog 91 #[.int .i64 k] w fun e w' => PartsPost n pf w e w') :
    Calls Tryz.prog 89 #[boxV bk, boxV bd, boxV bp] W fun e w' => WorkPost (fin pf n s) bp W e w' := by
  have ck := box_cell hk
  have cd := box_cell hd
  have HP := Hid.mk hparts
  clear hparts
  have hmo : Tryz.prog.follows Departure.mixedOrders = true := by kernel_rfl
  have HL : Hid (∀ (G : Prop) (w1 : World), Below W.drew.heap.size W.drew w1 → (w1.cell? ⟨bd, 0, none⟩ = some (.string s) → w1.heap[bp]? = some (.cells #[v0] 24 (0, 0)) → Kept bp W w1 → W.heap.size ≤ w1.heap.size → G) → G) := by
    intro G w1 hb hG
    have hb' : Below W.heap.size W w1 := ⟨hb.os, hb.tape, hb.output, hb.size, hb.block⟩
    exact hG ((hb'.cell (p := ⟨bd, 0, none⟩) (box_lt hd)).trans cd) ((hb'.block bp (box_lt hp)).trans hp) (Kept.of_below hb') hb.size
  have HQ := Hid.mk (fun (w1 : World) (g : Nat) (P : Nat → Part) (hP : PartsIn w1 g n P) hen hpf => piecesOf_in w1 g n n hn s hs P hP pf hen hpf)
  obtain ⟨R, hR⟩ : ∃ R, fin pf n s = R := ⟨_, rfl⟩
  rw [hR] at HQ ⊢
  clear hR
  cases R with
  | none =>
    go_enter Tryz.func89, Tryz.ntmps89
    go_wp2
    go_region_with (first
      | (go_at_call 91; refine (HP.out _).mono ?_; rintro e w1 ⟨g, P, rfl, hP, hen, hpf, hb1⟩; refine HL.out _ w1 hb1 ?_; intro cd1 hp1 kk1 sz1)
      | (go_at_call 90; refine (HQ.out w1 g P hP hen hpf).mono ?_; rintro e w2 ⟨rfl, hb2⟩; refine with_dummy w2 ⟨rfl, ⟨rfl, ((hb2.block bp (box_lt hp1)).trans hp1).trans hp.symm⟩, kk1.trans (Kept.of_below hb2)⟩ ?_))
    all_goals trivial
  | some ps =>
    have HF : Hid (∀ (G : Prop) (v : Value) (w1 w2 : World), w2.ownsRow w1.heap.size 9 1 v ps.length (baV ps) → w1.heap[bp]? = some (.cells #[v0] 24 (0, 0)) → Below w1.heap.size w1 w2 →
        (∀ q c, v = .slice q ps.length c → w2.heap[bp]? = some (.cells #[v0] 24 (0, 0)) → w2.cell? ⟨bp, 0, none⟩ = some v0 → w2.frozen? ⟨bp, 0, none⟩ = false → G) → G) := by
      intro G v w1 w2 hr h1 hb hG
      have h2 := (hb.block bp (box_lt h1)).trans h1
      obtain ⟨q, c, hv⟩ := row_as hr
      exact hG q c hv h2 (box_cell h2) (box_frozen h2)
    go_enter Tryz.func89, Tryz.ntmps89
    go_wp2
    go_region_with (first
      | (go_at_call 91; refine (HP.out _).mono ?_; rintro e w1 ⟨g, P, rfl, hP, hen, hpf, hb1⟩; refine HL.out _ w1 hb1 ?_; intro cd1 hp1 kk1 sz1)
      | (go_at_call 90; refine (HQ.out w1 g P hP hen hpf).mono ?_; rintro e w2 ⟨⟨v, rfl, hrow⟩, hb2⟩; refine HF.out _ v w1 w2 hrow hp1 hb2 ?_; intro q c hv hp2 cp2 fp2; subst hv))
    all_goals
      go_wp2
      refine bodyPost_end (results_none rfl _ _ _) rfl ⟨⟨rfl, _, ?_, box_set hp2 _⟩, (kk1.trans (Kept.of_below hb2)).trans (Kept.set _ _ _ _)⟩
      exact row_kept' (row_down hrow sz1) (Kept.set _ _ _ _) (box_lt hp)
theorem catch_panic (p : Nat) (w : World) (b : Bool) (h : w.heap[p]? = some (.cells #[.bool b] 4 (0, 0))) (older : List PanicEntry) :
    CallsD Tryz.prog 84 #[boxV p] (.panicking ({ v := .iface 35 (.int .i64 6), recovered := false } :: older)) w fun e u' w' =>
      e = .returned (.tuple #[]) ∧ u' = .panicking ({ v := .iface 35 (.int .i64 6), recovered := true } :: older) ∧ w' = w.setCell ⟨p, 0, none⟩ (.bool false) := by
  have hc := box_cell h
  have hz := box_frozen h
  refine callsD_of_wpS Tryz.func84 rfl fun c₀ cs hu => ?_
  apply wpS_seq
  apply wpS_region
  simp [wpOpsS, go_sem, recoverD, hu, Tryz.ntmps84, Exit.thenS]
  refine wpS_cond (t := true) (by simp [Act.eval, Array.replicate]) ?_
  simp only [if_true]
  apply wpS_region
  simp [wpOpsS, go_sem, hc, hz, bodyPostS, results, Tryz.results84]
theorem catch_idle (p : Nat) (w : World) :
    CallsD Tryz.prog 84 #[boxV p] .returning w fun e u' w' => e = .returned (.tuple #[]) ∧ u' = .returning ∧ w' = w := by
  refine callsD_of_wpS Tryz.func84 rfl fun c₀ cs hu => ?_
  apply wpS_seq
  apply wpS_region
  simp [wpOpsS, go_sem, recoverD, hu, Tryz.ntmps84, Exit.thenS]
  refine wpS_cond (t := false) (by simp [Act.eval, Array.replicate]) ?_
  simp only [Bool.false_eq_true, if_false]
  refine wpS_of_wp (wp_skip ?_)
  cases c₀
  simp_all [bodyPostS, results, Tryz.results84]
end Go.Proofs.YtnchoogjjnjikaaGreatDoor
/- split, with sound around its work; Right. -/
namespace Go.Proofs.YtnchoogjjnjikaaGreatDoor
set_option linter.unusedVariables false
open Go.RowKit
def SoundPost (R : Option (List ByteArray)) (b : Nat) (W : World) (e : Ending) (w' : World) : Prop := (match R with
  | some ps => e = .returned (.bool true) ∧ ∃ v, w'.ownsRow W.heap.size 9 1 v ps.length (baV ps) ∧ w'.heap[b]? = some (.cells #[v] 24 (0, 0))
  | none => e = .returned (.bool false) ∧ w'.heap[b]? = W.heap[b]?) ∧ Kept b W w'
theorem alloc_old (W : World) (o : Obj) (b : Nat) (hb : b < W.heap.size) : (W.alloc o).heap[b]? = W.heap[b]? := ((Below.refl W.heap.size W).alloc (Nat.le_refl _) o).block b hb
theorem kept_box {bp : Nat} {W w1 : World} {o : Obj} (h : Kept bp (W.alloc o) w1) (v : Value) : Kept bp W (w1.setCell ⟨W.heap.size, 0, none⟩ v) := by
  have hs := h.size
  simp at hs
  refine ⟨h.os, h.tape, h.output, by simp [World.setCell]; omega, fun b hb hd => ?_⟩
  rw [Below.heap_setCell w1 ⟨W.heap.size, 0, none⟩ v b (show b ≠ W.heap.size by omega), h.same b (by simp; omega) hd, alloc_old W o b hb]
set_option maxRecDepth 100000 in
set_option maxHeartbeats 2000000 in
theorem soundSplit_in (W : World) (bk bd bp n : Nat) (hn : n ≤ 20) (k : Int) (s : ByteArray) (hs : s.size ≤ 2000) (v0 : Value) (pf : Nat → ByteArray → Option Nat)
    (hk : W.heap[bk]? = some (.cells #[.int .i64 k] 3 (0, 0))) (hd : W.heap[bd]? = some (.cells #[.string s] 9 (0, 0))) (hp : W.heap[bp]? = some (.cells #[v0] 24 (0, 0)))
    (hparts : ∀ w, Calls Tryz.prog 91 #[.int .i64 k] w fun e w' => PartsPost n pf w e w') :
    Calls Tryz.prog 54 #[fnV 89 #[boxV bk, boxV bd, boxV bp]] W fun e w' => SoundPost (fin pf n s) bp W e w' := by
  have hmf := mkf
  have hal : ∀ o, Below W.heap.size W (W.alloc o) := fun o => (Below.refl _ _).alloc (Nat.le_refl _) o
  have HW := Hid.mk (fun (o : Obj) => split1_in (W.alloc o) bk bd bp n hn k s hs v0 pf (((hal o).block bk (box_lt hk)).trans hk) (((hal o).block bd (box_lt hd)).trans hd) (((hal o).block bp (box_lt hp)).trans hp) hparts)
  clear hparts
  obtain ⟨R, hR⟩ : ∃ R, fin pf n s = R := ⟨_, rfl⟩
  rw [hR] at HW ⊢
  clear hR
  cases R with
  | none =>
    go_enter_defers Tryz.func54, Tryz.ntmps54
    go_wp2_with fail
    refine (HW.out _).mono ?_
    rintro e w1 ⟨⟨rfl, hb⟩, hkp⟩
    have hbox : w1.heap[W.heap.size]? = some (.cells #[.bool false] 4 (0, 0)) := (hkp.same _ (by simp) (by have := box_lt hp; omega)).trans (heap_new _ _)
    go_wp2
    refine leaves_cons (f := 84) (args := #[boxV W.heap.size]) (by simp) (by simp [go_sem]) ?_
    refine (catch_panic W.heap.size w1 false hbox []).mono ?_
    rintro e u' w2 ⟨rfl, rfl, rfl⟩
    have hbp := box_lt hp
    have hs2 := box_cell (box_set hbox (.bool false))
    simp [Leaves, settle, results, Tryz.results54, go_sem, hs2]
    refine ⟨⟨rfl, ?_⟩, kept_box hkp _⟩
    rw [Below.heap_setCell w1 ⟨W.heap.size, 0, none⟩ _ bp (show bp ≠ W.heap.size by omega), hb, alloc_old W _ bp hbp]
  | some ps =>
    go_enter_defers Tryz.func54, Tryz.ntmps54
    go_wp2_with fail
    refine (HW.out _).mono ?_
    rintro e w1 ⟨⟨rfl, v, hrow, hb⟩, hkp⟩
    have hbox : w1.heap[W.heap.size]? = some (.cells #[.bool false] 4 (0, 0)) := (hkp.same _ (by simp) (by have := box_lt hp; omega)).trans (heap_new _ _)
    have hbc := box_cell hbox
    have hbf := box_frozen hbox
    go_wp2
    refine leaves_cons (f := 84) (args := #[boxV W.heap.size]) (by simp) (by simp [go_sem]) ?_
    refine (catch_idle W.heap.size _).mono ?_
    rintro e u' w2 ⟨rfl, rfl, rfl⟩
    have hbp := box_lt hp
    have hs2 := box_cell (box_set hbox (.bool true))
    simp [Leaves, settle, results, Tryz.results54, go_sem, hs2]
    refine ⟨⟨rfl, v, ?_, ?_⟩, kept_box hkp _⟩
    · refine row_down (n₁ := (W.alloc (.cells #[.bool false] 4)).heap.size) (row_kept' hrow (Kept.set _ _ _ _) (by simp)) (by simp)
    · rw [Below.heap_setCell w1 ⟨W.heap.size, 0, none⟩ _ bp (show bp ≠ W.heap.size by omega)]; exact hb
def SplitPost (R : Option (List ByteArray)) (W : World) (e : Ending) (w' : World) : Prop := (match R with
  | some ps => ∃ v, e = .returned (.tuple #[v, .bool true]) ∧ w'.ownsRow W.heap.size 9 1 v ps.length (baV ps)
  | none => e = .returned (.tuple #[.slice none 0 0, .bool false])) ∧ Below W.heap.size W w'
set_option maxRecDepth 100000 in
theorem split_long (W : World) (k : Int) (s : ByteArray) (hm : s.size ≤ maxLen) (h : decide (0 ≤ k ∧ k ≤ 65535) = false ∨ 2000 < s.size) :
    Calls Tryz.prog 57 #[.int .i64 k, .string s] W fun e w' => SplitPost none W e w' := by
  unfold maxLen at hm
  cases hd : decide (0 ≤ k ∧ k ≤ 65535) with
  | false =>
    go_enter Tryz.func57, Tryz.ntmps57
    go_wp2_with fail
    refine (isType_in k _).mono ?_
    rintro e w1 ⟨rfl, rfl⟩
    rw [hd]
    go_wp2
    refine bodyPost_ret (v := .tuple #[.slice none 0 0, .bool false]) (by simp [results, Tryz.results57, go_sem]) rfl ⟨rfl, ?_⟩
    exact (((Below.refl _ _).alloc (Nat.le_refl _) _).alloc (by simp) _).alloc (by simp; omega) _
  | true =>
    have hl : 2000 < s.size := by
      rcases h with h | h
      · rw [hd] at h; cases h
      · exact h
    clear h
    go_enter Tryz.func57, Tryz.ntmps57
    go_wp2_with fail
    refine (isType_in k _).mono ?_
    rintro e w1 ⟨rfl, rfl⟩
    rw [hd]
    go_wp2
    refine bodyPost_ret (v := .tuple #[.slice none 0 0, .bool false]) (by simp [results, Tryz.results57, go_sem]) rfl ⟨rfl, ?_⟩
    exact (((Below.refl _ _).alloc (Nat.le_refl _) _).alloc (by simp) _).alloc (by simp; omega) _
set_option maxRecDepth 100000 in
set_option maxHeartbeats 2000000 in
theorem split_in (W : World) (n : Nat) (hn : n ≤ 20) (k : Int) (hk : 0 ≤ k ∧ k ≤ 65535) (s : ByteArray) (hs : s.size ≤ 2000) (pf : Nat → ByteArray → Option Nat)
    (hparts : ∀ w, Calls Tryz.prog 91 #[.int .i64 k] w fun e w' => PartsPost n pf w e w') :
    Calls Tryz.prog 57 #[.int .i64 k, .string s] W fun e w' => SplitPost (fin pf n s) W e w' := by
  have hmf := mkf
  have hd : decide (0 ≤ k ∧ k ≤ 65535) = true := by simp [hk]
  obtain ⟨W3, hW3⟩ : ∃ W3, W3 = (((W.alloc (.cells #[.int .i64 k] 3)).alloc (.cells #[.string s] 9)).alloc (.cells #[.slice none 0 0] 24)) := ⟨_, rfl⟩
  have hk3 : W3.heap[W.heap.size]? = some (.cells #[.int .i64 k] 3 (0, 0)) := by
    rw [hW3, alloc_old _ _ _ (by simp; omega), alloc_old _ _ _ (by simp)]; exact heap_new _ _
  have hd3 : W3.heap[W.heap.size + 1]? = some (.cells #[.string s] 9 (0, 0)) := by
    rw [hW3, alloc_old _ _ _ (by simp)]
    have := heap_new (W.alloc (.cells #[.int .i64 k] 3)) (.cells #[.string s] 9)
    rwa [World.size_alloc] at this
  have hp3 : W3.heap[W.heap.size + 1 + 1]? = some (.cells #[.slice none 0 0] 24 (0, 0)) := by
    rw [hW3]
    have := heap_new ((W.alloc (.cells #[.int .i64 k] 3)).alloc (.cells #[.string s] 9)) (.cells #[.slice none 0 0] 24)
    rwa [World.size_alloc, World.size_alloc] at this
  have hsz3 : W3.heap.size = W.heap.size + 3 := by rw [hW3]; simp
  have hbl3 : Below W.heap.size W W3 := by
    rw [hW3]; exact (((Below.refl _ _).alloc (Nat.le_refl _) _).alloc (by simp) _).alloc (by simp; omega) _
  have HS := Hid.mk (soundSplit_in W3 W.heap.size (W.heap.size + 1) (W.heap.size + 1 + 1) n hn k s hs _ pf hk3 hd3 hp3 hparts)
  obtain ⟨R, hR⟩ : ∃ R, fin pf n s = R := ⟨_, rfl⟩
  rw [hR] at HS ⊢
  have HP3 := Hid.mk hp3
  clear hR hk3 hd3 hparts hp3
  have HW3 := Hid.mk hW3
  cases R with
  | none =>
    go_enter Tryz.func57, Tryz.ntmps57
    go_wp2_with fail
    refine (isType_in k _).mono ?_
    rintro e w1 ⟨rfl, rfl⟩
    rw [hd]
    go_wp2_with fail
    rw [← HW3.out]
    refine HS.out.mono ?_
    rintro e w2 ⟨⟨rfl, hb⟩, hkp⟩
    have hb2 := hb.trans HP3.out
    have hc2 := box_cell hb2
    have hf2 := box_frozen hb2
    clear hW3
    go_wp2
    have hc4 := box_cell (box_set hb2 (.slice none 0 0))
    refine bodyPost_ret (v := .tuple #[.slice none 0 0, .bool false]) (by simp [results, Tryz.results57, go_sem, hc4]) rfl ⟨rfl, ?_⟩
    exact (hbl3.trans (hkp.below (n := W.heap.size) (by omega) (by omega))).setCell (p := ⟨W.heap.size + 1 + 1, 0, none⟩) (show W.heap.size ≤ W.heap.size + 1 + 1 by omega) _
  | some ps =>
    go_enter Tryz.func57, Tryz.ntmps57
    go_wp2_with fail
    refine (isType_in k _).mono ?_
    rintro e w1 ⟨rfl, rfl⟩
    rw [hd]
    go_wp2_with fail
    rw [← HW3.out]
    refine HS.out.mono ?_
    rintro e w2 ⟨⟨rfl, v, hrow, hb2⟩, hkp⟩
    obtain ⟨q, c, hv⟩ := row_as hrow
    subst hv
    have hc2 := box_cell hb2
    have hf2 := box_frozen hb2
    clear hW3
    go_wp2
    have hc4 := box_cell (box_set hb2 (.slice q ps.length c))
    refine bodyPost_ret (v := .tuple #[.slice q ps.length c, .bool true]) (by simp [results, Tryz.results57, go_sem, hc4]) rfl ⟨⟨_, rfl, ?_⟩, ?_⟩
    · exact row_down (row_kept' hrow (Kept.set (W.heap.size + 1 + 1) 0 _ _) (by omega)) (by omega)
    · exact (hbl3.trans (hkp.below (n := W.heap.size) (by omega) (by omega))).setCell (p := ⟨W.heap.size + 1 + 1, 0, none⟩) (show W.heap.size ≤ W.heap.size + 1 + 1 by omega) _
/-! ### Right -/
theorem right_of {k : Int} {s : ByteArray} {R : Option (List ByteArray)} (h : ∀ W, Calls Tryz.prog 57 #[.int .i64 k, .string s] W fun e w' => SplitPost R W e w') (W : World) :
    Calls Tryz.prog 182 #[.int .i64 k, .string s] W fun e w' => e = .returned (.bool R.isSome) ∧ Below W.heap.size W w' := by
  have H := Hid.mk h
  clear h
  cases R with
  | none =>
    go_enter Tryz.func182, Tryz.ntmps182
    go_wp2_with fail
    refine (H.out _).mono ?_
    rintro e w1 ⟨rfl, hb⟩
    go_wp2
    go_ret
    exact ⟨rfl, hb⟩
  | some ps =>
    go_enter Tryz.func182, Tryz.ntmps182
    go_wp2_with fail
    refine (H.out _).mono ?_
    rintro e w1 ⟨⟨v, rfl, _⟩, hb⟩
    go_wp2
    go_ret
    exact ⟨rfl, hb⟩
end Go.Proofs.YtnchoogjjnjikaaGreatDoor