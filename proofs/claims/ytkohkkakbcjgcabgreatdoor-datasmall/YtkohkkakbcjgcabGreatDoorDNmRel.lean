/- How data go past a name. -/
import Derived.Test.YtkohkkakbcjgcabGreatDoorDForm
namespace Go.Proofs.YtkohkkakbcjgcabGreatDoor
set_option linter.unusedVariables false
open Go.RowKit

/-- how the loop of passName stands: x is left, lab is the label that came last. -/
def NmRel (R : Option Nat) (s x lab : ByteArray) : Prop :=
  x.size ≤ s.size ∧ x = s.extract (s.size - x.size) s.size ∧ ∃ n, x.size < n ∧ R = if lab.size = 0 then some (s.size - x.size) else (nmGo n x).map (· + (s.size - x.size))

theorem cntK_le {s : ByteArray} {m : Nat} (h : cntK s = some m) : 1 ≤ m ∧ m ≤ s.size := by
  unfold cntK at h
  split at h
  · split at h
    · cases h; omega
    · cases h
  · cases h
theorem nmRel_at {R : Option Nat} {s x lab : ByteArray} {m : Nat} (h : cntK x = some m) (hx : x.size ≤ s.size) (he : x = s.extract (s.size - x.size) s.size) (n : Nat) (hn : x.size < n) (hR : R = (nmGo n x).map (· + (s.size - x.size))) :
    NmRel R s (x.extract m x.size) (x.extract 1 m) := by
  obtain ⟨h1, hm⟩ := cntK_le h
  obtain ⟨n, rfl⟩ : ∃ j, n = j + 1 := ⟨n - 1, by omega⟩
  have hz : (x.extract m x.size).size = x.size - m := by rw [ByteArray.size_extract]; omega
  have hl : (x.extract 1 m).size = m - 1 := by rw [ByteArray.size_extract]; omega
  refine ⟨by omega, ?_, n, by omega, ?_⟩
  · rw [hz]
    conv => lhs; rw [he]
    rw [ByteArray.size_extract, ByteArray.extract_extract]
    congr 1 <;> omega
  · rw [hR, nmGo, h, hl, hz]
    simp only
    by_cases e : m = 1
    · rw [if_pos e, if_pos (by omega), Option.map_some]; congr 1; omega
    · rw [if_neg e, if_neg (by omega), Option.map_map]
      congr 1
      funext j
      simp only [Function.comp]
      omega
theorem nmRel_first {s : ByteArray} {m : Nat} (h : cntK s = some m) : NmRel (nmGo (s.size + 1) s) s (s.extract m s.size) (s.extract 1 m) := by
  refine nmRel_at (lab := s) h (Nat.le_refl _) ?_ (s.size + 1) (by omega) ?_
  · simp
  · simp
theorem nmRel_step {R : Option Nat} {s x lab : ByteArray} {m : Nat} (h : NmRel R s x lab) (hl : lab.size ≠ 0) (hc : cntK x = some m) : NmRel R s (x.extract m x.size) (x.extract 1 m) := by
  obtain ⟨h1, h2, n, hn, hR⟩ := h
  rw [if_neg hl] at hR
  exact nmRel_at (lab := lab) hc h1 h2 n hn hR
theorem nmRel_none {R : Option Nat} {s x lab : ByteArray} (h : NmRel R s x lab) (hl : lab.size ≠ 0) (hc : cntK x = none) : R = none := by
  obtain ⟨h1, h2, n, hn, hR⟩ := h
  obtain ⟨n, rfl⟩ : ∃ j, n = j + 1 := ⟨n - 1, by omega⟩
  rw [if_neg hl, nmGo, hc] at hR
  exact hR
theorem nmRel_end {R : Option Nat} {s x lab : ByteArray} (h : NmRel R s x lab) (hl : lab.size = 0) : R = some (s.size - x.size) ∧ x.size ≤ s.size ∧ x = s.extract (s.size - x.size) s.size := by
  obtain ⟨h1, h2, n, hn, hR⟩ := h
  rw [if_pos hl] at hR
  exact ⟨hR, h1, h2⟩
theorem nmGo_none {s : ByteArray} (h : cntK s = none) : nameK s = none := by
  unfold nameK
  rw [nmGo, h]
theorem nameK_none {s : ByteArray} (h : nmGo (s.size + 1) s = none) : nameK s = none := by
  unfold nameK
  rw [h]
theorem nameK_yes {s : ByteArray} {m : Nat} (h : nmGo (s.size + 1) s = some m) (hn : IsName (s.extract 0 m)) : nameK s = some m := by
  unfold nameK
  rw [h]
  exact if_pos hn
theorem nameK_no {s : ByteArray} {m : Nat} (h : nmGo (s.size + 1) s = some m) (hn : ¬ IsName (s.extract 0 m)) : nameK s = none := by
  unfold nameK
  rw [h]
  exact if_neg hn
theorem right_is (s : ByteArray) (h : IsName s) (w : World) : Calls Tryz.prog 73 #[.string s] w fun e w' => e = .returned (.bool true) ∧ Below w.heap.size w w' := by
  obtain ⟨ls, ho, rfl⟩ := h
  exact right_yes ls ho w

set_option maxHeartbeats 1000000 in
theorem passName_in (W : World) (d : Nat) (s : ByteArray) (hs : s.size ≤ 2000) (h : Rd W d s) :
    Calls Tryz.prog 93 #[boxV d] W fun e w' => PassPost (nameK s) s d W w' e := by
  have hc := h.cell
  have HC := Hid.mk (counted_post W d s hs h)
  cases hcn : cntK s with
  | none =>
    rw [hcn] at HC
    have HN := Hid.mk (nmGo_none hcn)
    clear hcn
    go_enter Tryz.func93, Tryz.ntmps93
    go_wp2_with fail
    refine HC.out.mono ?_
    rintro e w1 ⟨rfl, hk1⟩
    go_wp2
    rw [HN.out]
    exact ⟨rfl, rfl, hk1⟩
  | some m =>
    rw [hcn] at HC
    have HN := Hid.mk (nmRel_first hcn)
    clear hcn
    go_enter Tryz.func93, Tryz.ntmps93
    go_wp2_with fail
    refine HC.out.mono ?_
    rintro e w1 ⟨h1, hm, h256, rfl, hr1, hk1⟩
    go_wp2
    go_loopw [3] (fun lv wr => ∃ (x lab : ByteArray), lv = .string lab ∧ Rd wr d x ∧ x.size ≤ 2000 ∧ Kept d W wr ∧ Hid (NmRel (nmGo (s.size + 1) s) s x lab)) (fun _ wr => rdLen wr d)
    case atStart => exact ⟨_, _, rfl, hr1, by rw [ByteArray.size_extract]; omega, hk1, HN⟩
    case round =>
      obtain ⟨x, lab, rfl, hrd, hx, hkp, HX⟩ := hrel
      have HLn := Hid.mk hrd.len
      by_cases hl0 : 0 < lab.size
      · obtain ⟨hn1, hn2⟩ := ne_text lab hl0
        have hn3 := ne_bne lab hl0
        have HC2 := Hid.mk (counted_post wr d x hx hrd)
        cases hcx : cntK x with
        | none =>
          rw [hcx] at HC2
          have HE := Hid.mk (nameK_none (nmRel_none HX.out (by omega) hcx))
          clear hcx
          go_wp2_with fail
          refine HC2.out.mono ?_
          rintro e w2 ⟨rfl, hk2⟩
          go_wp2
          rw [HE.out]
          exact ⟨rfl, rfl, hkp.trans hk2⟩
        | some j =>
          rw [hcx] at HC2
          have HS := Hid.mk (nmRel_step HX.out (by omega) hcx)
          clear hcx
          go_wp2_with fail
          refine HC2.out.mono ?_
          rintro e w2 ⟨hj1, hj, hj3, rfl, hr2, hk2⟩
          have hez : (x.extract j x.size).size = x.size - j := by rw [ByteArray.size_extract]; omega
          have HLT : Hid (rdLen w2 d < rdLen wr d) := by
            rw [Hid, HLn.out, hr2.len, hez]; omega
          have hrelN : ∃ (x' lab' : ByteArray), Value.string (x.extract 1 j) = .string lab' ∧ Rd w2 d x' ∧ x'.size ≤ 2000 ∧ Kept d W w2 ∧ Hid (NmRel (nmGo (s.size + 1) s) s x' lab') :=
            ⟨_, _, rfl, hr2, by omega, hkp.trans hk2, HS⟩
          go_wp2
          exact ⟨hrelN, HLT.out⟩
      · obtain rfl := ba_empty lab (by omega)
        obtain ⟨hR, hxs, hxe⟩ := nmRel_end HX.out rfl
        have HR := Hid.mk hR
        have HXE := Hid.mk hxe
        have hcl := hrd.cell
        have hw1 : IntKind.i64.wrap ((s.size : Int) - (x.size : Int)) = ((s.size - x.size : Nat) : Int) := by rw [IntKind.wrap_i64]; omega
        have hzx : (s.extract 0 (s.size - x.size)).size ≤ maxLen := by rw [ByteArray.size_extract]; unfold maxLen; omega
        clear hR hxe
        by_cases hnm : IsName (s.extract 0 (s.size - x.size))
        · have HRt := Hid.mk (right_is _ hnm)
          have HNK := Hid.mk (nameK_yes HR.out hnm)
          clear hnm
          go_wp2_with fail
          refine (HRt.out _).mono ?_
          rintro e w3 ⟨rfl, hb3⟩
          go_wp2_with fail
          refine (must_yes _).mono ?_
          rintro e w4 ⟨rfl, rfl⟩
          go_wp2
          refine bodyPost_end (results_none rfl _ _ _) rfl ?_
          rw [HNK.out]
          exact ⟨by omega, rfl, by rw [← HXE.out]; exact hrd.below hb3, hkp.trans (Kept.of_below hb3)⟩
        · have HRt := Hid.mk (right_no _ hnm hzx)
          have HNK := Hid.mk (nameK_no HR.out hnm)
          clear hnm
          go_wp2_with fail
          refine (HRt.out _).mono ?_
          rintro e w3 ⟨rfl, hb3⟩
          go_wp2_with fail
          refine (must_no _).mono ?_
          rintro e w4 ⟨rfl, rfl⟩
          go_wp2
          rw [HNK.out]
          exact ⟨rfl, rfl, hkp.trans (Kept.of_below hb3)⟩
end Go.Proofs.YtkohkkakbcjgcabGreatDoor
