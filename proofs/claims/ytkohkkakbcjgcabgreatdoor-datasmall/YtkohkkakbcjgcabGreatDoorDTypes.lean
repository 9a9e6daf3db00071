/- TypeText, TypeOf. -/
import Derived.Test.YtkohkkakbcjgcabGreatDoorDOther
import Derived.Lib.ItoaNum
import Derived.Deep.WholeRow
import Derived.Deep.Cut
import Derived.Lib.AppendIntMem
import Derived.Test.YtkohkkakbcjgcabGreatDoorShelf
namespace Go.Proofs.YtkohkkakbcjgcabGreatDoor
set_option linter.unusedVariables false
open Go.RowKit Go.Sort

/-- the types with texts of their own. -/
def tab : List (Int × List UInt8) := [(1, [65]), (2, [78, 83]), (5, [67, 78, 65, 77, 69]), (6, [83, 79, 65]), (15, [77, 88]), (16, [84, 88, 84]), (28, [65, 65, 65, 65]), (39, [68, 78, 65, 77, 69]), (41, [79, 80, 84]), (43, [68, 83]), (46, [82, 82, 83, 73, 71]), (47, [78, 83, 69, 67]), (48, [68, 78, 83, 75, 69, 89]), (50, [78, 83, 69, 67, 51]), (255, [65, 78, 89])]
/-- the cells of typeTexts. -/
def tabCells : List Value := [.int .i64 1, .string ⟨#[65]⟩, .int .i64 2, .string ⟨#[78, 83]⟩, .int .i64 5, .string ⟨#[67, 78, 65, 77, 69]⟩, .int .i64 6, .string ⟨#[83, 79, 65]⟩, .int .i64 15, .string ⟨#[77, 88]⟩, .int .i64 16, .string ⟨#[84, 88, 84]⟩, .int .i64 28, .string ⟨#[65, 65, 65, 65]⟩, .int .i64 39, .string ⟨#[68, 78, 65, 77, 69]⟩, .int .i64 41, .string ⟨#[79, 80, 84]⟩, .int .i64 43, .string ⟨#[68, 83]⟩, .int .i64 46, .string ⟨#[82, 82, 83, 73, 71]⟩, .int .i64 47, .string ⟨#[78, 83, 69, 67]⟩, .int .i64 48, .string ⟨#[68, 78, 83, 75, 69, 89]⟩, .int .i64 50, .string ⟨#[78, 83, 69, 67, 51]⟩, .int .i64 255, .string ⟨#[65, 78, 89]⟩]
/-- typeTexts lies there as its text lays it. -/
def Types (W : World) : Prop := ∀ i v, tabCells[i]? = some v → W.cell? ⟨0, i, none⟩ = some v

theorem cell_block {w : World} {a : Addr} {v : Value} (h : w.cell? a = some v) : a.block < w.heap.size := by
  apply Classical.byContradiction
  intro hn
  have : w.heap[a.block]? = none := by simp; omega
  simp [World.cell?, this] at h
theorem Types.below {W W' : World} (h : Types W) (hb : Below W.heap.size W W') : Types W' := fun i v hv =>
  (hb.cell (p := ⟨0, i, none⟩) (cell_block (h i v hv))).trans (h i v hv)

theorem types_load {W : World} (h : Types W) : (loadCells ⟨0, 0, none⟩ tabCells.length).run Tryz.prog W = .ok tabCells.toArray W :=
  run_loadCells_list (P := Tryz.prog) W ⟨0, 0, none⟩ tabCells (fun j v hv => by
    have hadd : (⟨0, 0, none⟩ : Addr).add j = ⟨0, j, none⟩ := by unfold Addr.add; split <;> simp_all
    rw [hadd]; exact h j v hv)

theorem types_agg (W : World) : (isAgg 89).run Tryz.prog W = .ok true W := by kernel_rfl
theorem types_size (W : World) : (Go.sizeOf 89).run Tryz.prog W = .ok tabCells.length W := by kernel_rfl
theorem types_var {W : World} (h : Types W) : (Instr.loadAt 89 (.pointer (some ⟨0, 0, none⟩))).run Tryz.prog W = .ok (.agg tabCells.toArray) W := by
  simp only [Instr.loadAt, Instr.sureAddr, Sem.run_bind, Sem.run_pure, Result.andThen, loadVar, types_agg, types_size, types_load h, if_true]

/-- one operation of a region that yields a value and leaves the world. -/
theorem wpList_run {ops : Array Oper} {rest : List Oper} {o : Oper} {a : Act} {W : World} {Q : Exit → Act → World → Prop} {v : Value} (hgd : o.guard = none)
    (hrun : (execOp a.eval o).run Tryz.prog W = .ok (.value v) W) (h : wpList Tryz.prog ops Q rest (a.put o.dst v) W) : wpList Tryz.prog ops Q (o :: rest) a W :=
  wpList_plain hgd fun K hK => by
    unfold Oper.wp
    rw [hrun]
    exact hK _ _ h

/-- the text of a type's own, if it has one. -/
def own? (k : Int) : Option (List UInt8) := (tab.find? (fun r => r.1 == k)).map (·.2)

theorem tab_at (k : Nat) (hk : k < 15) : ∃ kd tx, tab[k]? = some (kd, tx) ∧ own? kd = some tx ∧ (∀ W : World, (Instr.index 89 (.agg tabCells.toArray) (.int .i64 (k : Int))).run Tryz.prog W = .ok (.agg #[.int .i64 kd, .string ⟨tx.toArray⟩]) W) := by
  rcases (show k = 0 ∨ k = 1 ∨ k = 2 ∨ k = 3 ∨ k = 4 ∨ k = 5 ∨ k = 6 ∨ k = 7 ∨ k = 8 ∨ k = 9 ∨ k = 10 ∨ k = 11 ∨ k = 12 ∨ k = 13 ∨ k = 14 by omega) with rfl | rfl | rfl | rfl | rfl | rfl | rfl | rfl | rfl | rfl | rfl | rfl | rfl | rfl | rfl
  all_goals exact ⟨_, _, rfl, rfl, fun W => by kernel_rfl⟩

theorem own_all {k : Int} (h : ∀ j, j < 15 → ∀ e, tab[j]? = some e → e.1 ≠ k) : own? k = none := by
  rw [own?, Option.map_eq_none_iff, List.find?_eq_none]
  intro e he
  obtain ⟨j, hj, hje⟩ := List.getElem_of_mem he
  have := h j (by have : tab.length = 15 := rfl; omega) e (by rw [List.getElem?_eq_getElem hj, hje])
  simpa using this

theorem isType_yes {k : Int} (hk : 0 ≤ k ∧ k ≤ 65535) (w : World) : Calls Tryz.prog 30 #[.int .i64 k] w fun e w' => e = .returned (.bool true) ∧ w' = w := by
  have := isType_in k w
  rwa [show decide (0 ≤ k ∧ k ≤ 65535) = true by simp [hk]] at this

set_option maxRecDepth 100000 in
set_option maxHeartbeats 2000000 in
theorem typeText_own (k : Int) (hk : 0 ≤ k ∧ k ≤ 65535) (t : List UInt8) (ht : own? k = some t) (w : World) (hT : Types w) :
    Calls Tryz.prog 28 #[.int .i64 k] w fun e w' => e = .returned (.tuple #[.string ⟨t.toArray⟩, .int .i64 0]) ∧ Below w.heap.size w w' := by
  have HK := Hid.mk hk
  have HT := Hid.mk ht
  clear hk ht
  have HL := Hid.mk (types_var hT)
  clear hT
  go_enter Tryz.func28, Tryz.ntmps28
  go_wp2_with fail
  refine (isType_yes HK.out _).mono ?_
  rintro e w1 ⟨rfl, rfl⟩
  go_upto_region 3 with fail
  refine wp_region_lit ?_
  refine wpList_run (v := .agg tabCells.toArray) rfl ?_ ?_
  · simp only [execOp, Act.eval]
    rw [Sem.run_bind, HL.out]; rfl
  go_wp2
  go_loopw [10] (fun i wr => ∃ m : Nat, m ≤ 15 ∧ i = .int .i64 m ∧ Hid (∀ j, j < m → ∀ e, tab[j]? = some e → e.1 ≠ k) ∧ Below w1.heap.size w1 wr) (fun i _ => 15 - (intOf i).toNat)
  case atStart => exact ⟨0, by omega, rfl, fun j hj => absurd hj (by omega), Below.refl _ _⟩
  case round =>
    obtain ⟨m, hm, rfl, hno, hbl⟩ := hrel
    have hsz := hbl.size
    by_cases hlt : m < 15
    · obtain ⟨kd, tx, htab, hown, hix⟩ := tab_at m hlt
      by_cases he : kd = k
      · subst he
        have hte : t = tx := Option.some.inj (HT.out.symm.trans hown)
        subst hte
        clear hno htab hown
        go_wp2
        go_ret2
        exact ⟨rfl, hbl.alloc hsz _⟩
      · have heb : (kd == k) = false := by rw [beq_eq_false_iff_ne]; exact he
        have HN : Hid (∀ j, j < m + 1 → ∀ e, tab[j]? = some e → e.1 ≠ k) := by
          intro j hj e hje
          by_cases hjm : j = m
          · subst hjm; rw [htab] at hje; cases hje; exact he
          · exact hno.out j (by omega) e hje
        clear hno htab hown he
        go_wp2
        go_roundw
        case rel => exact ⟨m + 1, by omega, by go_num, HN, hbl.alloc hsz _⟩
        case measure => simp [intOf]; omega
    · exfalso
      have := own_all (k := k) (fun j hj => hno.out j (by omega))
      rw [HT.out] at this; cases this

/-- the table of powers of ten lies there. -/
def Pow (W : World) : Prop := Lib.TabIs Tryz.prog W "internal/strconv.uint64pow10" .u64 Lib.pow10Tab
theorem Pow.below {W W' : World} (h : Pow W) (hb : Below W.heap.size W W') : Pow W' := (Lib.tabBelow_of_tabIs h) W' hb

theorem below_grown (w : World) (k : Nat) (os : Array Obj) : Below w.heap.size w (grow (w.drewN k) os) := by
  refine ⟨rfl, rfl, rfl, by simp [grow], fun b hb => ?_⟩
  simp [grow, Array.getElem?_append_left hb]

theorem itoa_in (n : Nat) (hn : n ≤ 65535) (w : World) (hp : Pow w) : Calls Tryz.prog 50 #[.int .i64 (n : Int)] w fun e w' => e = .returned (.string ⟨(Lib.decDigits n).toArray⟩) ∧ Below w.heap.size w w' := by
  refine (Tryz.strconv_Itoa (n : Int) (by omega) (by omega) w hp).mono ?_
  rintro e w' ⟨rfl, k, os, rfl⟩
  exact ⟨by rw [Lib.itoa, if_neg (by omega)]; rfl, below_grown w k os⟩

theorem dec_len : ∀ (n k : Nat), k < 10 ^ (n + 1) → (Lib.decDigits k).length ≤ n + 1
  | 0, k, h => by rw [Lib.decDigits, dif_pos (by simpa using h)]; simp
  | n + 1, k, h => by
    rw [Lib.decDigits]
    split
    · simp
    · have h1 : k / 10 < 10 ^ (n + 1) := by rw [Nat.div_lt_iff_lt_mul (by omega)]; rw [Nat.pow_succ] at h; exact h
      have := dec_len n (k / 10) h1
      rw [List.length_append, List.length_singleton]; omega

/-- how a type is told. -/
def typeT (k : Nat) : List UInt8 := match own? (k : Int) with
  | some t => t
  | none => [84, 89, 80, 69] ++ Lib.decDigits k

set_option maxRecDepth 100000 in
set_option maxHeartbeats 2000000 in
theorem typeText_num (k : Nat) (hk : k ≤ 65535) (ht : own? (k : Int) = none) (w : World) (hT : Types w) (hP : Pow w) :
    Calls Tryz.prog 28 #[.int .i64 (k : Int)] w fun e w' => e = .returned (.tuple #[.string ⟨([84, 89, 80, 69] ++ Lib.decDigits k).toArray⟩, .int .i64 0]) ∧ Below w.heap.size w w' := by
  have HK := Hid.mk hk
  have HT := Hid.mk ht
  clear hk ht
  have HL := Hid.mk (types_var hT)
  clear hT
  have hcat : (⟨#[84, 89, 80, 69]⟩ : ByteArray) ++ ⟨(Lib.decDigits k).toArray⟩ = ⟨([84, 89, 80, 69] ++ Lib.decDigits k).toArray⟩ := by
    apply ba_ext
    rw [ByteArray.data_append, Array.toList_append]
  have HC := Hid.mk hcat
  clear hcat
  have hdl := dec_len 4 k (by have := HK.out; omega)
  have HI := Hid.mk (itoa_in k HK.out)
  generalize Lib.decDigits k = ds at HC HI hdl ⊢
  obtain ⟨u, hu⟩ : ∃ u : ByteArray, (⟨ds.toArray⟩ : ByteArray) = u := ⟨_, rfl⟩
  have huz : u.size ≤ 5 := by rw [← hu, ba_size]; exact hdl
  rw [hu] at HC HI
  have HU := Hid.mk hu
  clear hu hdl
  go_enter Tryz.func28, Tryz.ntmps28
  go_wp2_with fail
  refine (isType_yes ⟨by omega, by have := HK.out; omega⟩ _).mono ?_
  rintro e w1 ⟨rfl, rfl⟩
  go_upto_region 3 with fail
  refine wp_region_lit ?_
  refine wpList_run (v := .agg tabCells.toArray) rfl ?_ ?_
  · simp only [execOp, Act.eval]
    rw [Sem.run_bind, HL.out]; rfl
  go_wp2
  go_loopw [10] (fun i wr => ∃ m : Nat, m ≤ 15 ∧ i = .int .i64 m ∧ Below w1.heap.size w1 wr) (fun i _ => 15 - (intOf i).toNat)
  case atStart => exact ⟨0, by omega, rfl, Below.refl _ _⟩
  case round =>
    obtain ⟨m, hm, rfl, hbl⟩ := hrel
    have hsz := hbl.size
    by_cases hlt : m < 15
    · obtain ⟨kd, tx, htab, hown, hix⟩ := tab_at m hlt
      have heb : (kd == (k : Int)) = false := by
        rw [beq_eq_false_iff_ne]
        intro he
        rw [he, HT.out] at hown; cases hown
      clear htab hown
      go_wp2
      go_roundw
      case rel => exact ⟨m + 1, by omega, by go_num, hbl.alloc hsz _⟩
      case measure => simp [intOf]; omega
    · go_wp2_with fail
      refine (HI.out _ (hP.below hbl)).mono ?_
      rintro e w2 ⟨rfl, hb2⟩
      go_wp2
      go_ret2
      refine ⟨?_, hbl.trans (hb2.mono hsz)⟩
      show Ending.returned (.tuple #[.string ((⟨#[84, 89, 80, 69]⟩ : ByteArray) ++ u), .int .i64 0]) = Ending.returned (.tuple #[.string ⟨([84, 89, 80, 69] ++ ds).toArray⟩, .int .i64 0])
      rw [HC.out]

theorem typeText_in (k : Nat) (hk : k ≤ 65535) (w : World) (hT : Types w) (hP : Pow w) :
    Calls Tryz.prog 28 #[.int .i64 (k : Int)] w fun e w' => e = .returned (.tuple #[.string ⟨(typeT k).toArray⟩, .int .i64 0]) ∧ Below w.heap.size w w' := by
  unfold typeT
  cases h : own? (k : Int) with
  | some t => exact typeText_own k ⟨by omega, by omega⟩ t h w hT
  | none => exact typeText_num k hk h w hT hP
theorem typeText_no (k : Int) (hk : ¬ (0 ≤ k ∧ k ≤ 65535)) (w : World) :
    Calls Tryz.prog 28 #[.int .i64 k] w fun e w' => e = .returned (.tuple #[.string ⟨#[]⟩, .int .i64 1]) ∧ w' = w := by
  have H := Hid.mk (isType_in k)
  rw [show decide (0 ≤ k ∧ k ≤ 65535) = false by simp only [decide_eq_false_iff_not]; exact hk] at H
  clear hk
  go_enter Tryz.func28, Tryz.ntmps28
  go_wp2_with fail
  refine (H.out _).mono ?_
  rintro e w1 ⟨rfl, rfl⟩
  go_wp2
  go_ret2
  exact ⟨rfl, rfl⟩
end Go.Proofs.YtkohkkakbcjgcabGreatDoor
