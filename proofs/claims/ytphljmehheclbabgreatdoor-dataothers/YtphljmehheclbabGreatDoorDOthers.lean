/- DataOthers, the walk. -/
import Derived.Test.YtphljmehheclbabGreatDoorDExamples
namespace Go.Proofs.YtphljmehheclbabGreatDoor
set_option linter.unusedVariables false
open Go.RowKit

theorem untabled (k : Int) (h : own? k = none) : tabled k = false := by
  cases ht : tabled k with
  | false => rfl
  | true =>
    simp only [tabled, Bool.or_eq_true, beq_iff_eq] at ht
    rcases ht with ((((((((((((h1 | h1) | h1) | h1) | h1) | h1) | h1) | h1) | h1) | h1) | h1) | h1) | h1) <;> (subst h1; cases h)

theorem namesOthers_no (k : Int) (hk : tabled k = false) (w : World) : Calls Tryz.prog 46 #[.int .i64 k] w fun e w' => e = .returned (.bool false) ∧ w' = w := by
  obtain ⟨h1, h2, h5, h6, h15, h16, h28, h39, h43, h46, h47, h48, h50⟩ := tabled_no hk
  go_enter Tryz.func46, Tryz.ntmps46
  go_wp2
  go_ret
  exact ⟨rfl, rfl⟩

theorem names_no (k : Int) (hk : tabled k = false) (s : ByteArray) (w : World) : Calls Tryz.prog 25 #[.int .i64 k, .string s] w fun e w' => e = .returned (.slice none 0 0) ∧ w' = w := by
  have HN := Hid.mk (namesOthers_no k hk)
  go_enter Tryz.func25, Tryz.ntmps25
  go_wp2_with fail
  refine (HN.out _).mono ?_
  rintro e w1 ⟨rfl, rfl⟩
  go_wp2
  go_ret
  exact ⟨rfl, rfl⟩

theorem lower_no (k : Int) (hk : tabled k = false) (s : ByteArray) (w : World) : Calls Tryz.prog 24 #[.int .i64 k, .string s] w fun e w' => e = .returned (.string s) ∧ w' = w := by
  have HN := Hid.mk (namesOthers_no k hk)
  obtain ⟨h1, h2, h5, h6, h15, h16, h28, h39, h43, h46, h47, h48, h50⟩ := tabled_no hk
  have h46' : (k != 46) = true := by simpa using h46
  go_enter Tryz.func24, Tryz.ntmps24
  go_wp2_with fail
  refine (HN.out _).mono ?_
  rintro e w1 ⟨rfl, rfl⟩
  go_wp2
  go_ret
  exact ⟨rfl, rfl⟩

theorem right_other (k : Int) (hk : 0 ≤ k ∧ k ≤ 65535) (ht : tabled k = false) (s : ByteArray) (hs : s.size ≤ maxLen) (W : World) :
    Calls Tryz.prog 11 #[.int .i64 k, .string s] W fun e w' => e = .returned (.bool (decide (s.size ≤ 2000))) ∧ Below W.heap.size W w' := by
  by_cases h : s.size ≤ 2000
  · have := right_of (split_other k hk ht s h) W
    rw [show decide (s.size ≤ 2000) = true by simp [h]]
    exact this
  · have := right_of (R := none) (fun W => split_long W k s hs (.inr (by omega))) W
    rw [show decide (s.size ≤ 2000) = false by simp; omega]
    exact this

/-- a type's own text is told by no number. -/
theorem own_text (k : Int) (t : List UInt8) (h : own? k = some t) : t.length ≤ 6 ∧ t.take 4 ≠ [84, 89, 80, 69] := by
  rw [own?, Option.map_eq_some_iff] at h
  obtain ⟨r, hr, rfl⟩ := h
  have hm := List.mem_of_find?_eq_some hr
  have : ∀ r ∈ tab, r.2.length ≤ 6 ∧ r.2.take 4 ≠ [84, 89, 80, 69] := by decide
  exact this r hm
theorem dec_pos (n : Nat) : 0 < (Lib.decDigits n).length := by
  rw [Lib.decDigits]
  split <;> simp

set_option maxRecDepth 100000 in
set_option maxHeartbeats 1000000 in
theorem others_walk (k : Int) (d : ByteArray) (hd : d.size ≤ maxLen) (W : World) (hG : Glob W) :
    Calls Tryz.prog 7 #[.int .i64 k, .string d] W fun e w' => e = .returned (.bool true) ∧ Below W.heap.size W w' := by
  by_cases hk : 0 ≤ k ∧ k ≤ 65535
  · obtain ⟨n, rfl⟩ : ∃ n : Nat, k = n := ⟨k.toNat, by omega⟩
    have hT := Hid.mk (fun w h1 h2 => typeText_in n (by omega) w h1 h2)
    cases ho : own? (n : Int) with
    | some t =>
      obtain ⟨h6, h4⟩ := own_text _ _ ho
      have hnt : typeT n = t := by rw [typeT, ho]
      rw [hnt] at hT
      go_enter Tryz.func7, Tryz.ntmps7
      go_wp2_with fail
      refine (examples_in W hG).mono ?_
      rintro e w1 ⟨rfl, hb1⟩
      have hG1 := hG.below hb1
      go_wp2_with fail
      refine (hT.out w1 hG1.types hG1.pow).mono ?_
      rintro e w2 ⟨rfl, hb2⟩
      have k2 : Below W.heap.size W w2 := bth hb1 hb2 hb1.size
      have hz : (⟨t.toArray⟩ : ByteArray).size = t.length := ba_size ..
      by_cases h5 : t.length < 5
      · have h5' : ((t.length : Nat) : Int) < 5 := by omega
        go_wp2
        go_ret
        exact ⟨rfl, k2⟩
      · have h5' : ¬ ((t.length : Nat) : Int) < 5 := by omega
        have hne : (((⟨t.toArray⟩ : ByteArray).extract 0 4).toList == [84, 89, 80, 69]) = false := by
          rw [beq_eq_false_iff_ne, ByteArray.toList_eq, Lib.extract_data]
          simpa using h4
        go_wp2
        go_ret
        exact ⟨rfl, k2⟩
    | none =>
      have ht := untabled _ ho
      have hnt : typeT n = [84, 89, 80, 69] ++ Lib.decDigits n := by rw [typeT, ho]
      rw [hnt] at hT
      have HR := Hid.mk (right_other (n : Int) hk ht d hd)
      have HN := Hid.mk (names_no (n : Int) ht d)
      have HL := Hid.mk (lower_no (n : Int) ht d)
      have h5 : 5 ≤ ([84, 89, 80, 69] ++ Lib.decDigits n).length := by have := dec_pos n; simp; omega
      have heq : ([84, 89, 80, 69] ++ Lib.decDigits n).take 4 = [84, 89, 80, 69] := by simp
      have h9 : (Lib.decDigits n).length ≤ 5 := dec_len 4 n (by omega)
      have h10 : ([84, 89, 80, 69] ++ Lib.decDigits n).length ≤ 9 := by simp; omega
      clear hnt h9 ho
      generalize [84, 89, 80, 69] ++ Lib.decDigits n = t at hT h5 heq h10
      have hz : (⟨t.toArray⟩ : ByteArray).size = t.length := ba_size ..
      have h5' : ¬ ((t.length : Nat) : Int) < 5 := by omega
      have hex : (⟨t.toArray⟩ : ByteArray).extract 0 4 = ⟨#[84, 89, 80, 69]⟩ := by
        apply ba_ext
        rw [Lib.extract_data]
        simpa using heq
      have hdd : (decide (d.size ≤ 2000) == decide ((d.size : Int) ≤ 2000)) = true := by
        rw [beq_iff_eq]
        by_cases h : d.size ≤ 2000
        · rw [decide_eq_true h, decide_eq_true (by omega)]
        · rw [decide_eq_false h, decide_eq_false (by omega)]
      have hself : (d.toList == d.toList) = true := by simp
      generalize hB : decide (d.size ≤ 2000) = B at HR hdd
      have hBd : B = decide ((d.size : Int) ≤ 2000) := by simpa using hdd
      clear hB hdd heq
      go_enter Tryz.func7, Tryz.ntmps7
      go_wp2_with fail
      refine (examples_in W hG).mono ?_
      rintro e w1 ⟨rfl, hb1⟩
      have hG1 := hG.below hb1
      go_wp2_with fail
      refine (hT.out w1 hG1.types hG1.pow).mono ?_
      rintro e w2 ⟨rfl, hb2⟩
      have k2 : Below W.heap.size W w2 := bth hb1 hb2 hb1.size
      go_wp2_with fail
      refine (HR.out _).mono ?_
      rintro e w3 ⟨rfl, hb3⟩
      have k3 : Below W.heap.size W w3 := bth k2 hb3 k2.size
      go_wp2_with fail
      refine (HN.out _).mono ?_
      rintro e w4 ⟨rfl, rfl⟩
      go_wp2_with fail
      refine (HL.out _).mono ?_
      rintro e w5 ⟨rfl, rfl⟩
      go_wp2
      go_ret
      exact ⟨rfl, k3⟩
  · have hT := Hid.mk (typeText_no k hk)
    go_enter Tryz.func7, Tryz.ntmps7
    go_wp2_with fail
    refine (examples_in W hG).mono ?_
    rintro e w1 ⟨rfl, hb1⟩
    go_wp2_with fail
    refine (hT.out w1).mono ?_
    rintro e w2 ⟨rfl, rfl⟩
    go_wp2
    go_ret
    exact ⟨rfl, hb1⟩
end Go.Proofs.YtphljmehheclbabGreatDoor
