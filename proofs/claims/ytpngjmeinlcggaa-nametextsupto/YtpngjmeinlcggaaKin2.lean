/- Parent, Common, Child, Moved. -/
import Derived.Test.YtpngjmeinlcggaaKin
namespace Go.Proofs.Ytpngjmeinlcggaa
set_option linter.unusedVariables false
open Go.RowKit

theorem empty_ba : (⟨#[]⟩ : ByteArray) = ⟨([] : List UInt8).toArray⟩ := rfl

/-! ### Common -/
def comN (a b : List (List UInt8)) : List (List UInt8) := a.drop (a.length - shEnd (lowN a) (lowN b))

theorem cpl_le : ∀ (a b : List (List UInt8)), cpl a b ≤ a.length ∧ cpl a b ≤ b.length
  | [], b => by simp [cpl]
  | a :: a', [] => by simp [cpl]
  | a :: a', b :: b' => by
    have := cpl_le a' b'
    unfold cpl
    split <;> simp <;> omega
theorem shEnd_le (a b : List (List UInt8)) : shEnd a b ≤ a.length ∧ shEnd a b ≤ b.length := by
  have := cpl_le a.reverse b.reverse; simpa [shEnd] using this

set_option maxHeartbeats 400000 in
theorem common_yes (a b : List (List UInt8)) (ha : OkN a) (hb : OkN b) (w : World) :
    Calls Try.prog 24 #[.string (nm a), .string (nm b)] w fun e w' => e = .returned (.tuple #[.string (nm (comN a b)), .int .i64 0]) ∧ Below w.heap.size w w' := by
  have hca := ha.low.count
  have hcb := hb.low.count
  have hla := lowN_length a
  have HL := Hid.mk hla
  have hle := (shEnd_le (lowN a) (lowN b)).1
  have hle' : shEnd (lowN a) (lowN b) ≤ a.length := by rw [← hla]; exact hle
  have hw1 : (((lowN a).length : Int) - (shEnd (lowN a) (lowN b) : Int)) = ((a.length - shEnd (lowN a) (lowN b) : Nat) : Int) := by rw [hla]; omega
  have HW := Hid.mk hw1
  clear hla hle hw1
  go_enter Try.func24, Try.ntmps24
  go_wp2_with fail
  refine (right_yes a ha _).mono ?_
  rintro e w1 ⟨rfl, hb1⟩
  go_wp2_with fail
  refine (right_yes b hb _).mono ?_
  rintro e w2 ⟨rfl, hb2⟩
  go_wp2_with fail
  refine (lowered_nm a ha _).mono ?_
  rintro e w3 ⟨rfl, hb3⟩
  go_wp2_with fail
  refine (labelsOf_in (lowN a) ha.low _).mono ?_
  rintro e w4 ⟨⟨va, rfl, hva⟩, hb4⟩
  go_wp2_with fail
  refine (lowered_nm b hb _).mono ?_
  rintro e w5 ⟨rfl, hb5⟩
  go_wp2_with fail
  refine (labelsOf_in (lowN b) hb.low _).mono ?_
  rintro e w6 ⟨⟨vb, rfl, hvb⟩, hb6⟩
  have hva6 := (hva.below (bthen hb5 hb6)).mono (bthen hb5 hb6).size
  clear hva
  obtain ⟨q, c, hq⟩ := hva6.form
  subst hq
  go_wp2_with fail
  refine (sharedEnd_in _ _ (lowN a) (lowN b) _ _ (by omega) (by omega) hva6 hvb).mono ?_
  rintro e w7 ⟨rfl, hb7⟩
  clear hva6 hvb
  have hle2 : shEnd (lowN a) (lowN b) ≤ (lowN a).length := by rw [HL.out]; exact hle'
  go_wp2_with fail
  rw [HW.out]
  refine (withoutFirst_in a ha _ (by omega) _).mono ?_
  rintro e w8 ⟨rfl, hb8⟩
  go_wp2
  go_ret2
  exact ⟨rfl, bthen hb1 (bthen hb2 (bthen hb3 (bthen hb4 (bthen hb5 (bthen hb6 (bthen hb7 hb8))))))⟩

theorem common_no (s t : ByteArray) (hs : s.size ≤ maxLen) (ht : t.size ≤ maxLen) (h : ¬ (IsName s ∧ IsName t)) (w : World) :
    Calls Try.prog 24 #[.string s, .string t] w fun e w' => e = .returned (.tuple #[.string ⟨#[]⟩, .int .i64 2]) ∧ Below w.heap.size w w' := by
  by_cases h1 : IsName s
  · have h2 : ¬ IsName t := fun h2 => h ⟨h1, h2⟩
    obtain ⟨a, ha, rfl⟩ := h1
    go_enter Try.func24, Try.ntmps24
    go_wp2_with fail
    refine (right_yes a ha _).mono ?_
    rintro e w1 ⟨rfl, hb1⟩
    go_wp2_with fail
    refine (right_no t h2 ht _).mono ?_
    rintro e w2 ⟨rfl, hb2⟩
    go_wp2
    go_ret2
    exact ⟨rfl, bthen hb1 hb2⟩
  · go_enter Try.func24, Try.ntmps24
    go_wp2_with fail
    refine (right_no s h1 hs _).mono ?_
    rintro e w1 ⟨rfl, hb1⟩
    go_wp2
    go_ret2
    exact ⟨rfl, hb1⟩

/-! ### Parent -/
theorem parent_no (s : ByteArray) (hs : s.size ≤ maxLen) (h : ¬ IsName s) (w : World) :
    Calls Try.prog 26 #[.string s] w fun e w' => e = .returned (.tuple #[.string ⟨#[]⟩, .int .i64 2]) ∧ Below w.heap.size w w' := by
  go_enter Try.func26, Try.ntmps26
  go_wp2_with fail
  refine (right_no s h hs _).mono ?_
  rintro e w1 ⟨rfl, hb1⟩
  go_wp2
  go_ret2
  exact ⟨rfl, hb1⟩

theorem okNil : OkN [] := ⟨by simp, by simp [flat]⟩
theorem parent_root (w : World) :
    Calls Try.prog 26 #[.string (nm [])] w fun e w' => e = .returned (.tuple #[.string ⟨#[]⟩, .int .i64 1]) ∧ Below w.heap.size w w' := by
  have hr : ((nm []).toList == [0]) = true := by rw [ByteArray.toList_eq]; rfl
  go_enter Try.func26, Try.ntmps26
  go_wp2_with fail
  refine (right_yes [] okNil _).mono ?_
  rintro e w1 ⟨rfl, hb1⟩
  go_wp2
  go_ret2
  exact ⟨rfl, hb1⟩

theorem nm_not_root {l : List UInt8} {ls : List (List UInt8)} (h : OkN (l :: ls)) : ((nm (l :: ls)).toList == [0]) = false := by
  rw [beq_eq_false_iff_ne, ByteArray.toList_eq, nm_list]
  intro e
  have := congrArg List.length e
  have h1 := h.lab l (by simp)
  simp [nmL, flat] at this

theorem parent_yes (l : List UInt8) (ls : List (List UInt8)) (ho : OkN (l :: ls)) (w : World) :
    Calls Try.prog 26 #[.string (nm (l :: ls))] w fun e w' => e = .returned (.tuple #[.string (nm ls), .int .i64 0]) ∧ Below w.heap.size w w' := by
  have hr := nm_not_root ho
  go_enter Try.func26, Try.ntmps26
  go_wp2_with fail
  refine (right_yes (l :: ls) ho _).mono ?_
  rintro e w1 ⟨rfl, hb1⟩
  go_wp2_with fail
  refine (withoutFirst_in (l :: ls) ho 1 (by simp) _).mono ?_
  rintro e w2 ⟨rfl, hb2⟩
  go_wp2
  go_ret2
  exact ⟨rfl, bthen hb1 hb2⟩

/-! ### Moved -/
theorem moved_no (s t u : ByteArray) (hs : s.size ≤ maxLen) (ht : t.size ≤ maxLen) (hu : u.size ≤ maxLen) (h : ¬ (IsName s ∧ IsName t ∧ IsName u)) (w : World) :
    Calls Try.prog 32 #[.string s, .string t, .string u] w fun e w' => e = .returned (.tuple #[.string ⟨#[]⟩, .int .i64 2]) ∧ Below w.heap.size w w' := by
  by_cases h1 : IsName s
  · by_cases h2 : IsName t
    · have h3 : ¬ IsName u := fun h3 => h ⟨h1, h2, h3⟩
      obtain ⟨a, ha, rfl⟩ := h1
      obtain ⟨b, hb, rfl⟩ := h2
      go_enter Try.func32, Try.ntmps32
      go_wp2_with fail
      refine (right_yes a ha _).mono ?_
      rintro e w1 ⟨rfl, hb1⟩
      go_wp2_with fail
      refine (right_yes b hb _).mono ?_
      rintro e w2 ⟨rfl, hb2⟩
      go_wp2_with fail
      refine (right_no u h3 hu _).mono ?_
      rintro e w3 ⟨rfl, hb3⟩
      go_wp2
      go_ret2
      exact ⟨rfl, bthen hb1 (bthen hb2 hb3)⟩
    · obtain ⟨a, ha, rfl⟩ := h1
      go_enter Try.func32, Try.ntmps32
      go_wp2_with fail
      refine (right_yes a ha _).mono ?_
      rintro e w1 ⟨rfl, hb1⟩
      go_wp2_with fail
      refine (right_no t h2 ht _).mono ?_
      rintro e w2 ⟨rfl, hb2⟩
      go_wp2
      go_ret2
      exact ⟨rfl, bthen hb1 hb2⟩
  · go_enter Try.func32, Try.ntmps32
    go_wp2_with fail
    refine (right_no s h1 hs _).mono ?_
    rintro e w1 ⟨rfl, hb1⟩
    go_wp2
    go_ret2
    exact ⟨rfl, hb1⟩

theorem moved_same (a b c : List (List UInt8)) (ha : OkN a) (hb : OkN b) (hc : OkN c) (h : (nm a).size = (nm b).size) (w : World) :
    Calls Try.prog 32 #[.string (nm a), .string (nm b), .string (nm c)] w fun e w' => e = .returned (.tuple #[.string ⟨#[]⟩, .int .i64 1]) ∧ Below w.heap.size w w' := by
  have he : (((nm a).size : Int) == ((nm b).size : Int)) = true := by rw [h]; simp
  clear h
  go_enter Try.func32, Try.ntmps32
  go_wp2_with fail
  refine (right_yes a ha _).mono ?_
  rintro e w1 ⟨rfl, hb1⟩
  go_wp2_with fail
  refine (right_yes b hb _).mono ?_
  rintro e w2 ⟨rfl, hb2⟩
  go_wp2_with fail
  refine (right_yes c hc _).mono ?_
  rintro e w3 ⟨rfl, hb3⟩
  go_wp2
  go_ret2
  exact ⟨rfl, bthen hb1 (bthen hb2 hb3)⟩

theorem moved_out (a b c : List (List UInt8)) (ha : OkN a) (hb : OkN b) (hc : OkN c) (h : (nm a).size ≠ (nm b).size) (hu : undB a b = false) (w : World) :
    Calls Try.prog 32 #[.string (nm a), .string (nm b), .string (nm c)] w fun e w' => e = .returned (.tuple #[.string ⟨#[]⟩, .int .i64 1]) ∧ Below w.heap.size w w' := by
  have he : (((nm a).size : Int) == ((nm b).size : Int)) = false := by simp; omega
  clear h
  go_enter Try.func32, Try.ntmps32
  go_wp2_with fail
  refine (right_yes a ha _).mono ?_
  rintro e w1 ⟨rfl, hb1⟩
  go_wp2_with fail
  refine (right_yes b hb _).mono ?_
  rintro e w2 ⟨rfl, hb2⟩
  go_wp2_with fail
  refine (right_yes c hc _).mono ?_
  rintro e w3 ⟨rfl, hb3⟩
  go_wp2_with fail
  refine (under_in a b ha hb _).mono ?_
  rintro e w4 ⟨rfl, hb4⟩
  go_wp2
  go_ret2
  exact ⟨rfl, bthen hb1 (bthen hb2 (bthen hb3 hb4))⟩

/-- the labels of a ahead of those that it has of b, and behind them c. -/
def mvN (a b c : List (List UInt8)) : List (List UInt8) := a.take (a.length - b.length) ++ c

theorem moved_go (a b c : List (List UInt8)) (ha : OkN a) (hb : OkN b) (hc : OkN c) (hlt : (nm b).size < (nm a).size) (hu : undB a b = true) (hbytes : (nm a).extract 0 ((nm a).size - (nm b).size) ++ nm c = nm (mvN a b c)) (w : World) :
    Calls Try.prog 32 #[.string (nm a), .string (nm b), .string (nm c)] w fun e w' =>
      e = .returned (if (nm (mvN a b c)).size ≤ 255 then .tuple #[.string (nm (mvN a b c)), .int .i64 0] else .tuple #[.string ⟨#[]⟩, .int .i64 3]) ∧ Below w.heap.size w w' := by
  have he : (((nm a).size : Int) == ((nm b).size : Int)) = false := by simp; omega
  have hz : (nm a).size ≤ 255 := by rw [nm_size]; have := ha.len; omega
  have hzc : (nm c).size ≤ 255 := by rw [nm_size]; have := hc.len; omega
  have hzm : (nm (mvN a b c)).size ≤ 510 := by rw [← hbytes, ByteArray.size_append, ByteArray.size_extract]; omega
  have HB := Hid.mk hbytes
  clear hbytes
  by_cases hl : (nm (mvN a b c)).size ≤ 255
  · rw [if_pos hl]
    go_enter Try.func32, Try.ntmps32
    go_wp2_with fail
    refine (right_yes a ha _).mono ?_
    rintro e w1 ⟨rfl, hb1⟩
    go_wp2_with fail
    refine (right_yes b hb _).mono ?_
    rintro e w2 ⟨rfl, hb2⟩
    go_wp2_with fail
    refine (right_yes c hc _).mono ?_
    rintro e w3 ⟨rfl, hb3⟩
    go_wp2_with fail
    refine (under_in a b ha hb _).mono ?_
    rintro e w4 ⟨rfl, hb4⟩
    go_wp2_with fail
    rw [HB.out]
    refine (limited_ok _ _ hl).mono ?_
    rintro e w5 ⟨rfl, rfl⟩
    go_wp2
    go_ret2
    exact ⟨rfl, bthen hb1 (bthen hb2 (bthen hb3 hb4))⟩
  · rw [if_neg hl]
    go_enter Try.func32, Try.ntmps32
    go_wp2_with fail
    refine (right_yes a ha _).mono ?_
    rintro e w1 ⟨rfl, hb1⟩
    go_wp2_with fail
    refine (right_yes b hb _).mono ?_
    rintro e w2 ⟨rfl, hb2⟩
    go_wp2_with fail
    refine (right_yes c hc _).mono ?_
    rintro e w3 ⟨rfl, hb3⟩
    go_wp2_with fail
    refine (under_in a b ha hb _).mono ?_
    rintro e w4 ⟨rfl, hb4⟩
    go_wp2_with fail
    rw [HB.out]
    refine (limited_long _ _ (by unfold maxLen; omega) (by omega)).mono ?_
    rintro e w5 ⟨rfl, rfl⟩
    go_wp2
    go_ret2
    exact ⟨rfl, bthen hb1 (bthen hb2 (bthen hb3 hb4))⟩

/-! ### what 'under' says of the labels -/
theorem cpl_full : ∀ (a b : List (List UInt8)), cpl a b = b.length ↔ b <+: a
  | [], [] => by simp [cpl]
  | [], b :: b' => by simp [cpl]
  | a :: a', [] => by simp [cpl]
  | a :: a', b :: b' => by
    unfold cpl
    split
    · rename_i e; subst e
      rw [List.cons_prefix_cons, List.length_cons, Nat.add_right_cancel_iff, cpl_full a' b']; simp
    · rename_i e
      rw [List.cons_prefix_cons]
      constructor
      · intro h; simp at h
      · intro h; exact absurd h.1.symm e

theorem undB_iff (a b : List (List UInt8)) : undB a b = true ↔ lowN b <:+ lowN a := by
  rw [undB, decide_eq_true_iff, shEnd, ← List.reverse_prefix, ← cpl_full, List.length_reverse, lowN_length]

theorem lowN_append (a b : List (List UInt8)) : lowN (a ++ b) = lowN a ++ lowN b := by simp [lowN]

/-- where a is under b: its own labels, and those that are b's. -/
theorem und_split {a b : List (List UInt8)} (h : undB a b = true) : b.length ≤ a.length ∧ lowN (a.drop (a.length - b.length)) = lowN b := by
  obtain ⟨p, hp⟩ := (undB_iff a b).1 h
  have hl : p.length + b.length = a.length := by have := congrArg List.length hp; simpa [lowN_length] using this
  refine ⟨by omega, ?_⟩
  have : lowN (a.drop (a.length - b.length)) = (lowN a).drop (a.length - b.length) := by simp [lowN]
  rw [this, ← hp, List.drop_append_of_le_length (by omega), List.drop_of_length_le (by omega), List.nil_append]

theorem und_bytes {a b : List (List UInt8)} (c : List (List UInt8)) (h : undB a b = true) :
    (nm a).extract 0 ((nm a).size - (nm b).size) ++ nm c = nm (mvN a b c) ∧ (nm a).size - (nm b).size = (flat (a.take (a.length - b.length))).length ∧ (nm b).size ≤ (nm a).size := by
  obtain ⟨h1, h2⟩ := und_split h
  have h3 : (flat (a.drop (a.length - b.length))).length = (flat b).length := by rw [← flat_low_length, h2, flat_low_length]
  have h4 : flat a = flat (a.take (a.length - b.length)) ++ flat (a.drop (a.length - b.length)) := by rw [← flat_append, List.take_append_drop]
  have h5 : (nm a).size - (nm b).size = (flat (a.take (a.length - b.length))).length := by
    rw [nm_size, nm_size, h4, List.length_append, h3]; omega
  refine ⟨?_, h5, by rw [nm_size, nm_size, h4, List.length_append, h3]; omega⟩
  apply ba_ext
  rw [ByteArray.data_append, Array.toList_append, Lib.extract_data, h5, nm_list, nm_list, nm_list, mvN, nmL, h4, List.append_assoc, Nat.sub_zero, List.drop_zero, List.take_left, nmL, nmL, flat_append, List.append_assoc]

end Go.Proofs.Ytpngjmeinlcggaa
