/- TypeOf of a text that is TYPE and a number. -/
import Derived.Test.YtkohkkakbcjgcabGreatDoorDTypes
namespace Go.Proofs.YtkohkkakbcjgcabGreatDoor
set_option linter.unusedVariables false
open Go.RowKit Go.Sort

theorem below_bytesW (w : World) (t : ByteArray) : Below w.heap.size w (Lib.bytesWorld w 5 t) :=
  ⟨rfl, rfl, rfl, by rw [Lib.bytesWorld_size]; omega, fun k hk => Lib.bytesWorld_at_old w 5 t k hk⟩

/-- what TypeOf makes of TYPE and digits that are the number k. -/
def numT (k : Nat) (text : List UInt8) : Nat × Nat := if typeT k = text then (k, 0) else (0, 7)

set_option maxRecDepth 100000 in
set_option maxHeartbeats 2000000 in
theorem numbered_in (text ds : List UInt8) (k : Nat) (hk : k ≤ 65535) (htx : text = [84, 89, 80, 69] ++ ds) (hat : Lib.atoiAll ds = .ok (k : Int)) (hl : text.length ≤ 1000) (w : World) (hT : Types w) (hP : Pow w) :
    Calls Tryz.prog 51 #[.string ⟨text.toArray⟩] w fun e w' => e = .returned (.tuple #[.int .i64 ((numT k text).1 : Nat), .int .i64 ((numT k text).2 : Nat)]) ∧ Below w.heap.size w w' := by
  have h1 : Lib.trimPrefix text [84, 89, 80, 69] = ds := by rw [htx]; simp [Lib.trimPrefix, Lib.hasPrefix]
  have h2 : Lib.hasPrefix text [84, 89, 80, 69] = true := by rw [htx]; simp [Lib.hasPrefix]
  have hC := Tryz.strings_CutPrefix ⟨text.toArray⟩ ⟨#[84, 89, 80, 69]⟩
  have hC' : ∀ w, Calls Tryz.prog 79 #[.string ⟨text.toArray⟩, .string ⟨#[84, 89, 80, 69]⟩] w fun e w' => e = .returned (.tuple #[.string ⟨ds.toArray⟩, .bool true]) ∧ w' = w := by
    intro w
    have := hC w
    simp only at this
    rw [h1, h2] at this
    exact this
  have HC := Hid.mk hC'
  have hA : ∀ w, Calls Tryz.prog 80 #[.string ⟨ds.toArray⟩] w fun e w' => e = .returned (.tuple #[.int .i64 (k : Int), .nilIface]) ∧ Below w.heap.size w w' := by
    intro w
    refine (Tryz.strconv_Atoi_ok ⟨ds.toArray⟩ (by rw [ba_size]; rw [htx, List.length_append] at hl; omega) k hat w).mono ?_
    rintro e w' ⟨rfl, h | ⟨t, h⟩⟩
    · rw [h]; exact ⟨rfl, Below.refl _ _⟩
    · rw [h]; exact ⟨rfl, below_bytesW w t⟩
  have HA := Hid.mk hA
  have HTT := Hid.mk (fun w hT hP => typeText_in k hk w hT hP)
  clear hC hC' hA h1 h2 htx hat hl
  unfold numT
  generalize typeT k = tt at HTT ⊢
  by_cases he : tt = text
  · rw [if_pos he]
    subst he
    have hne : ((⟨tt.toArray⟩ : ByteArray).toList != (⟨tt.toArray⟩ : ByteArray).toList) = false := by simp
    go_enter Tryz.func51, Tryz.ntmps51
    go_wp2_with fail
    refine (HC.out _).mono ?_
    rintro e w1 ⟨rfl, rfl⟩
    go_wp2_with fail
    refine (HA.out _).mono ?_
    rintro e w2 ⟨rfl, hb2⟩
    go_wp2_with fail
    refine (HTT.out _ (hT.below hb2) (hP.below hb2)).mono ?_
    rintro e w3 ⟨rfl, hb3⟩
    go_wp2
    go_ret2
    exact ⟨rfl, hb2.trans (hb3.mono hb2.size)⟩
  · rw [if_neg he]
    have hne : ((⟨tt.toArray⟩ : ByteArray).toList != (⟨text.toArray⟩ : ByteArray).toList) = true := by
      rw [bne_iff_ne, ByteArray.toList_eq, ByteArray.toList_eq]; exact he
    have hn2 : (tt == text) = false := by rw [beq_eq_false_iff_ne]; exact he
    go_enter Tryz.func51, Tryz.ntmps51
    go_wp2_with fail
    refine (HC.out _).mono ?_
    rintro e w1 ⟨rfl, rfl⟩
    go_wp2_with fail
    refine (HA.out _).mono ?_
    rintro e w2 ⟨rfl, hb2⟩
    go_wp2_with fail
    refine (HTT.out _ (hT.below hb2) (hP.below hb2)).mono ?_
    rintro e w3 ⟨rfl, hb3⟩
    go_wp2
    go_ret2
    exact ⟨rfl, hb2.trans (hb3.mono hb2.size)⟩

set_option maxRecDepth 100000 in
set_option maxHeartbeats 2000000 in
theorem typeOf_num (text ds : List UInt8) (k : Nat) (hk : k ≤ 65535) (htx : text = [84, 89, 80, 69] ++ ds) (hno : tab.all (fun r => r.2 != text) = true) (hat : Lib.atoiAll ds = .ok (k : Int)) (hl : text.length ≤ 1000) (w : World) (hT : Types w) (hP : Pow w) :
    Calls Tryz.prog 29 #[.string ⟨text.toArray⟩] w fun e w' => e = .returned (.tuple #[.int .i64 ((numT k text).1 : Nat), .int .i64 ((numT k text).2 : Nat)]) ∧ Below w.heap.size w w' := by
  have HN := Hid.mk (fun w hT hP => numbered_in text ds k hk htx hat hl w hT hP)
  clear hk htx hat hl
  generalize numT k text = r at HN ⊢
  obtain ⟨r1, r2⟩ := r
  have HL := Hid.mk (types_var hT)
  have HNO := Hid.mk hno
  clear hno
  go_enter Tryz.func29, Tryz.ntmps29
  go_upto_region 1 with fail
  refine wp_region_lit ?_
  refine wpList_run (v := .agg tabCells.toArray) rfl ?_ ?_
  · simp only [execOp, Act.eval]
    rw [Sem.run_bind, HL.out]; rfl
  go_wp2
  go_loopw [7] (fun i wr => ∃ m : Nat, m ≤ 15 ∧ i = .int .i64 m ∧ Below w.heap.size w wr) (fun i _ => 15 - (intOf i).toNat)
  case atStart => exact ⟨0, by omega, rfl, Below.refl _ _⟩
  case round =>
    obtain ⟨m, hm, rfl, hbl⟩ := hrel
    have hsz := hbl.size
    by_cases hlt : m < 15
    · obtain ⟨kd, tx, htab, hown, hix⟩ := tab_at m hlt
      have hne : tx ≠ text := by
        have h1 := List.all_eq_true.1 HNO.out _ (List.mem_of_getElem? htab)
        simpa using h1
      have hb1 : (tx == text) = false := by rw [beq_eq_false_iff_ne]; exact hne
      have hb2 : ((⟨tx.toArray⟩ : ByteArray).toList == (⟨text.toArray⟩ : ByteArray).toList) = false := by
        rw [beq_eq_false_iff_ne, ByteArray.toList_eq, ByteArray.toList_eq]; exact hne
      clear htab hown hne
      go_wp2
      go_roundw
      case rel => exact ⟨m + 1, by omega, by go_num, hbl.alloc hsz _⟩
      case measure => simp [intOf]; omega
    · go_wp2_with fail
      refine (HN.out _ (hT.below hbl) (hP.below hbl)).mono ?_
      rintro e w2 ⟨rfl, hb2⟩
      go_wp2
      go_ret2
      exact ⟨rfl, hbl.trans (hb2.mono hsz)⟩
end Go.Proofs.YtkohkkakbcjgcabGreatDoor
