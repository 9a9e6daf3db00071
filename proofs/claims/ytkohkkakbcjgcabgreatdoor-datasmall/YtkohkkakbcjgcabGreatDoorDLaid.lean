/- What the row lists lies there: from the list to the cells. -/
import Derived.OpenShut
import Derived.Lib.LaidTab
import Derived.Deep.DeepHandedRow
import Derived.Test.YtkohkkakbcjgcabGreatDoorTie
import Derived.Test.YtkohkkakbcjgcabGreatDoorCards
import Derived.Test.YtkohkkakbcjgcabGreatDoorDGlob
namespace Go.Proofs.YtkohkkakbcjgcabGreatDoor
set_option linter.unusedVariables false
open Go.RowKit

theorem laid_at {P : Program} {w : World} {n : String} {d : DataW Unit} : ∀ {l : List (String × DataW Unit)} {ps : List MemPlace}, DataW.LaidVars P w l ps → (n, d) ∈ l →
    ∃ g t cs fuel p, P.globalNamed n = some g ∧ (P.globals[g]?).map (·.type) = some t ∧ w.var? P n = some cs ∧ DataW.trod (fun _ => ()) P w 0 (fun _ => true) false fuel t cs.toList = some (d, p)
  | [], _, _, h => by cases h
  | (n', d') :: r, ps, ⟨g, t, cs, fuel, p, q, h1, h2, h3, h4, h5, _⟩, h => by
    rcases List.mem_cons.1 h with e | h
    · cases e
      exact ⟨g, t, cs, fuel, p, h1, h2, h3, h4⟩
    · exact laid_at h5 h

def shp (d : Option TypeDesc) : List (Nat × Nat) := match d with
  | some (.struct fs) => fs.toList.map (fun f => (f.type, f.offset))
  | _ => []
theorem shp_of {d : Option TypeDesc} {a : Nat × Nat} {l : List (Nat × Nat)} (h : shp d = a :: l) : ∃ fs : Array Field, d = some (.struct fs) ∧ fs.toList.map (fun f => (f.type, f.offset)) = a :: l := by
  unfold shp at h
  split at h
  · rename_i fs
    exact ⟨fs, rfl, h⟩
  · cases h

theorem rows_all : ∀ (l : List (Int × List UInt8)) (cs : List Value), cs.length = l.length * 2 → (∀ j e, l[j]? = some e → (cs.drop (j * 2)).take 2 = [.int .i64 e.1, .string ⟨e.2.toArray⟩]) → cs = l.flatMap (fun e => [.int .i64 e.1, .string ⟨e.2.toArray⟩])
  | [], cs, hl, _ => by simpa using hl
  | e :: l, cs, hl, h => by
    match cs, hl, h with
    | [], hl, _ => simp at hl
    | [a], hl, _ => simp at hl; omega
    | a :: b :: cs, hl, h =>
      have h0 := h 0 e rfl
      simp at h0
      have hr := rows_all l cs (by simp at hl; omega) (fun j e' he => by
        have := h (j + 1) e' (by simpa using he)
        rwa [show (j + 1) * 2 = j * 2 + 2 by omega, List.drop_succ_cons, List.drop_succ_cons] at this)
      rw [List.flatMap_cons, ← hr, h0.1, h0.2]
      rfl

abbrev tyRow : Nat := 88
abbrev tyTab : Nat := 89
theorem und_tab : Tryz.prog.underlying tyTab = some (.array 15 tyRow) := by kernel_rfl
theorem und_row : shp (Tryz.prog.underlying tyRow) = [(3, 0), (9, 1)] := by kernel_rfl
theorem cells_row : Tryz.prog.cellsOf tyRow = 2 := by kernel_rfl
theorem cells_tab : Tryz.prog.cellsOf tyTab = 30 := by kernel_rfl
theorem cells_i : Tryz.prog.cellsOf 3 = 1 := by kernel_rfl
theorem cells_s : Tryz.prog.cellsOf 9 = 1 := by kernel_rfl

theorem two_of {l : List Value} (h : l.length = 2) : ∃ a b, l = [a, b] := by
  match l, h with
  | [a, b], _ => exact ⟨a, b, rfl⟩

theorem row_read {w : World} {m : Nat} {row : List Value} {k : Int} {l : List UInt8} {x : DataW Unit × List MemPlace} (hx : x.1 = .agg [.lit (.int .i64 k), .lit (.string l)])
    (h : DataW.trod (fun _ => ()) Tryz.prog w 0 (fun _ => true) false m tyRow row = some x) : row = [.int .i64 k, .string ⟨l.toArray⟩] := by
  obtain ⟨fs, hfs, hm⟩ := shp_of und_row
  obtain ⟨xs, n, _, rfl, hlen, hxl, hf⟩ := DataW.trod_struct hfs h
  have hfl : fs.toList.length = 2 := by have := congrArg List.length hm; simpa using this
  match hfe : fs.toList, hfl with
  | [f0, f1], _ =>
    rw [hfe] at hm
    simp only [List.map_cons, List.map_nil, List.cons.injEq, Prod.mk.injEq, and_true] at hm
    obtain ⟨⟨h00, h01⟩, ⟨h10, h11⟩⟩ := hm
    have g0 := hf 0 f0 (by rw [← Array.getElem?_toList, hfe]; rfl)
    have g1 := hf 1 f1 (by rw [← Array.getElem?_toList, hfe]; rfl)
    rw [h00, h01, cells_i] at g0
    rw [h10, h11, cells_s] at g1
    have hx2 : xs.length = 2 := by rw [hxl, ← Array.length_toList, hfe]; rfl
    match xs, hx2 with
    | [y0, y1], _ =>
      simp only [List.map_cons, List.map_nil, DataW.agg.injEq, List.cons.injEq, and_true] at hx
      obtain ⟨n0, e0, rfl, _⟩ := DataW.trod_int Tryz.underlying3 g0
      obtain ⟨s1, e1, rfl, _⟩ := DataW.trod_string Tryz.underlying9 g1
      simp only [DataW.lit.injEq, Lit.int.injEq, Lit.string.injEq, true_and] at hx
      rw [cells_row] at hlen
      obtain ⟨a, b, rfl⟩ := two_of hlen
      simp at e0 e1
      rw [e0, e1, hx.1, ← hx.2]

theorem types_of {W : World} {ps : List MemPlace} {l : List (String × DataW Unit)} (h : DataW.LaidVars Tryz.prog W l ps) (hm : ("guidepost/data.typeTexts", (Rows.laid_guidepost_data_typeTexts : DataW Unit)) ∈ l) : Types W := by
  obtain ⟨g, t, cs, fuel, p, hg, ht, hv, hd⟩ := laid_at h hm
  have hg0 : Tryz.prog.globalNamed "guidepost/data.typeTexts" = some 0 := by kernel_rfl
  obtain rfl := Option.some.inj (hg0.symm.trans hg)
  have ht0 : (Tryz.prog.globals[0]?).map (·.type) = some tyTab := by kernel_rfl
  obtain rfl := Option.some.inj (ht0.symm.trans ht)
  obtain ⟨xs, m, _, hx, hlen, hxl, hf⟩ := DataW.trod_array und_tab hd
  have hda : (Rows.laid_guidepost_data_typeTexts : DataW Unit) = .agg (tab.map fun e => .agg [.lit (.int .i64 e.1), .lit (.string e.2)]) := rfl
  have hxs : xs.map (·.1) = tab.map fun e => (.agg [.lit (.int .i64 e.1), .lit (.string e.2)] : DataW Unit) := by
    have := congrArg Prod.fst hx
    rw [hda] at this
    simpa using this.symm
  have hall := rows_all tab cs.toList (by rw [hlen, cells_tab]; rfl) (fun j e he => by
    have hj : j < 15 := by have := (List.getElem?_eq_some_iff.1 he).1; exact this
    have h1 := hf j hj
    rw [cells_row] at h1
    have h2 : (xs.map (·.1))[j]? = some (.agg [.lit (.int .i64 e.1), .lit (.string e.2)]) := by rw [hxs, List.getElem?_map, he]; rfl
    rw [List.getElem?_map, Option.map_eq_some_iff] at h2
    obtain ⟨y, hy, hy1⟩ := h2
    rw [hy] at h1
    exact row_read hy1 h1)
  have htc : tab.flatMap (fun e => [Value.int .i64 e.1, Value.string ⟨e.2.toArray⟩]) = tabCells := rfl
  rw [htc] at hall
  intro i v hi
  have := World.var?_cell hg0 hv i
  rw [this, ← Array.getElem?_toList, hall]
  exact hi

theorem pow_of {W : World} {ps : List MemPlace} {l : List (String × DataW Unit)} (h : DataW.LaidVars Tryz.prog W l ps) (hm : ("internal/strconv.uint64pow10", (Rows.laid_internal_strconv_uint64pow10 : DataW Unit)) ∈ l) : Pow W := by
  obtain ⟨g, t, cs, fuel, p, hg, ht, hv, hd⟩ := laid_at h hm
  have hg0 : Tryz.prog.globalNamed "internal/strconv.uint64pow10" = some 2 := by kernel_rfl
  obtain rfl := Option.some.inj (hg0.symm.trans hg)
  have ht0 : (Tryz.prog.globals[2]?).map (·.type) = some 162 := by kernel_rfl
  obtain rfl := Option.some.inj (ht0.symm.trans ht)
  have hda : (Rows.laid_internal_strconv_uint64pow10 : DataW Unit) = Lib.tabData .u64 Lib.pow10Tab := by kernel_rfl
  rw [hda] at hd
  have hu : Tryz.prog.underlying 162 = some (.array 20 137) := by kernel_rfl
  have hu2 : Tryz.prog.underlying 137 = some (.int .u64) := by kernel_rfl
  have hc1 : Tryz.prog.cellsOf 137 = 1 := by kernel_rfl
  have hc2 : Tryz.prog.cellsOf 162 = 20 := by kernel_rfl
  have := Lib.cells_of_tab hu hu2 hc1 hc2 hd
  unfold Pow Lib.TabIs
  rw [hv, ← this]

theorem glob_of {W : World} {l : List (String × DataW Unit)} (h : laidMet Tryz.prog l W) (hs : W.ShapedOpen Tryz.prog) (h1 : ("guidepost/data.typeTexts", (Rows.laid_guidepost_data_typeTexts : DataW Unit)) ∈ l) (h2 : ("internal/strconv.uint64pow10", (Rows.laid_internal_strconv_uint64pow10 : DataW Unit)) ∈ l) : Glob W := by
  obtain ⟨ps, hv, _⟩ := h
  exact ⟨pow_of hv h2, types_of hv h1, Tryz.laysM145.s1_3 W hs⟩
end Go.Proofs.YtkohkkakbcjgcabGreatDoor
