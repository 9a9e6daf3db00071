/- Layer 13: Parse. -/
import Derived.Test.YtpognbkdafnfjaaDoorAcRe
namespace Go.Proofs.YtpognbkdafnfjaaDoor
set_option linter.unusedVariables false
set_option linter.unusedSimpArgs false
open Go.RowKit

/-- the address that a text tells, and the error. -/
def prV (o : Option Ad) : Value := match o with
  | none => .tuple #[adV false 0 0, .int .i64 7]
  | some a => .tuple #[adV a.v6 a.hi a.lo, .int .i64 0]
theorem toL_inj {a b : ByteArray} (h : a.toList = b.toList) : a = b := by
  rw [ByteArray.toList_eq, ByteArray.toList_eq] at h
  obtain ⟨x⟩ := a
  obtain ⟨y⟩ := b
  exact congrArg _ (Array.toList_inj.1 h)
theorem lt_eq (a b : List UInt8) : (a != b) = !decide (a = b) := by
  rw [Bool.eq_iff_iff]
  simp
theorem prs_none {l : List UInt8} (h : rdT l = none) : prs l = none := by
  unfold prs
  rw [h]
theorem prs_of {l : List UInt8} {a : Ad} (h : rdT l = some a) : prs l = if (cutT l).length = (shp (six l)).parts ∧ a.right ∧ txt a = l then some a else none := by
  unfold prs
  rw [h]
theorem rdT_nil : rdT [] = none := by decide
theorem set3_bel {N b : Nat} {w w' : World} (h : Below N w w') (hb : N ≤ b) (x y z : Value) : Below N w (((w'.setCell ⟨b, 0, none⟩ x).setCell ⟨b, 1, none⟩ y).setCell ⟨b, 2, none⟩ z) :=
  ((h.setCell (p := ⟨b, 0, none⟩) hb x).setCell (p := ⟨b, 1, none⟩) hb y).setCell (p := ⟨b, 2, none⟩) hb z
set_option maxRecDepth 100000 in
set_option maxHeartbeats 4000000 in
theorem parse_in (t : ByteArray) (ht : t.size ≤ 140737488355328) (W : World) (hG : AG W) :
    Calls Tryd.prog 16 #[.string t] W fun e w' => e = .returned (prV (prs t.data.toList)) ∧ Below W.heap.size W w' := by
  have HR : Hid (∀ w, Below W.heap.size W w → Calls Tryd.prog 32 #[.string t] w fun e w' => RdPost (rdT t.data.toList) (decide ((cutT t.data.toList).length = (shp (six t.data.toList)).parts)) e ∧ Below w.heap.size w w') := fun w hb => read_in t ht w (hG.below hb)
  have HT : Hid (∀ (a : Ad) w, a.ok → Below W.heap.size W w → Calls Tryd.prog 15 #[adV a.v6 a.hi a.lo] w fun e w' => e = .returned (if a.right then .tuple #[.string ⟨(txt a).toArray⟩, .int .i64 0] else .tuple #[.string ⟨#[]⟩, .int .i64 1]) ∧ Below w.heap.size w w') := fun a w ha hb => text_in w a.v6 a.hi a.lo ha.1 ha.2 (hG.below hb)
  have HPR0 : Hid (rdT t.data.toList = none → prs t.data.toList = none) := prs_none
  have HPR1 : Hid (∀ a, rdT t.data.toList = some a → prs t.data.toList = if (cutT t.data.toList).length = (shp (six t.data.toList)).parts ∧ a.right ∧ txt a = t.data.toList then some a else none) := fun a h => prs_of h
  obtain ⟨PR, hPR⟩ : ∃ PR, prs t.data.toList = PR := ⟨_, rfl⟩
  rw [hPR] at HPR0 HPR1 ⊢
  clear hPR hG
  go_enter Tryd.func16, Tryd.ntmps16
  go_wp2_with fail
  refine (HR.out _ (by go_grown)).mono ?_
  rintro e w1 ⟨hp, hb1⟩
  have hbV : Below W.heap.size W w1 := by
    have h0 : Below W.heap.size W (W.alloc (.cells #[.bool false, .int .u64 0, .int .u64 0] 32 (0, 0))) := by go_grown
    exact h0.trans (hb1.mono (by simp))
  have g0 : w1.heap[W.heap.size]? = some (.cells #[.bool false, .int .u64 0, .int .u64 0] 32 (0, 0)) := (hb1.block W.heap.size (by simp)).trans (heap_alloc_last _ _)
  have hlt1 : W.heap.size < w1.heap.size := (Array.getElem?_eq_some_iff.1 g0).1
  have hne1 : ¬ W.heap.size = w1.heap.size := by omega
  have hne2 : ¬ w1.heap.size = W.heap.size := by omega
  clear hb1
  obtain ⟨b0, hb0⟩ : ∃ b0, W.heap.size = b0 := ⟨_, rfl⟩
  rw [hb0] at g0 hne1 hne2 hlt1
  have HW0 : Hid (W.heap.size ≤ b0) := by unfold Hid; omega
  have hb0' := hb0
  -- what is so behind Text's call
  have HAF : Hid (∀ (a : Ad) w2, Below (w1.alloc (adO a.v6 a.hi a.lo)).heap.size (w1.alloc (adO a.v6 a.hi a.lo)) w2 → w2.heap[b0]? = some (.cells #[.bool false, .int .u64 0, .int .u64 0] 32 (0, 0)) ∧ w2.heap[w1.heap.size]? = some (adO a.v6 a.hi a.lo) ∧ Below W.heap.size W w2) := fun a w2 hb2 => by
    have h1 : Below w1.heap.size w1 (w1.alloc (adO a.v6 a.hi a.lo)) := by go_grown
    refine ⟨(hb2.block b0 (by simp; omega)).trans ((h1.block b0 hlt1).trans g0), (hb2.block _ (by simp)).trans (heap_alloc_last _ _), ?_⟩
    exact (hbV.trans (h1.mono (by omega))).trans (hb2.mono (by simp; omega))
  have HBA : Hid (∀ a : Ad, Below W.heap.size W (w1.alloc (adO a.v6 a.hi a.lo))) := fun a => hbV.alloc (by omega) _
  clear g0 hbV
  rcases hp with ⟨hrn, rfl⟩ | ⟨a, hra, hao, rfl⟩
  · have HPN : Hid (PR = none) := HPR0.out hrn
    have HT1 := Hid.mk (HT.out ⟨false, 0, 0⟩ _ (zero_ok _) (HBA.out ⟨false, 0, 0⟩))
    rw [if_pos (show Ad.right ⟨false, 0, 0⟩ by decide)] at HT1
    simp only at HT1
    rw [hb0]
    clear hrn hb0 hb0'
    go_wp2_with fail
    refine HT1.out.mono ?_
    rintro e w2 ⟨rfl, hb2⟩
    obtain ⟨g0, g1, hbl⟩ := HAF.out ⟨false, 0, 0⟩ w2 hb2
    have c0 := cell_of_heap (i := 0) g0 rfl
    have c1 := cell_of_heap (i := 1) g0 rfl
    have c2 := cell_of_heap (i := 2) g0 rfl
    have f0 := frozen_a g0 0
    have f1 := frozen_a g0 1
    have f2 := frozen_a g0 2
    have HG0 := Hid.mk g0
    clear hb2 g0 g1
    go_wp2
    refine bodyPost_ret (results_ab Tryd.results16 rfl rfl (ad_three HG0.out _ _ _)) rfl ⟨?_, set3_bel hbl HW0.out _ _ _⟩
    rw [HPN.out]
    rfl
  · have HT1 := Hid.mk (HT.out a _ hao (HBA.out a))
    have htne : t.data.toList ≠ [] := fun e => by rw [e, rdT_nil] at hra; cases hra
    have HPS : Hid (PR = if (cutT t.data.toList).length = (shp (six t.data.toList)).parts ∧ a.right ∧ txt a = t.data.toList then some a else none) := HPR1.out a hra
    rw [hb0]
    clear hra hb0 hb0' HPR0 HPR1
    generalize (cutT t.data.toList).length = X at *
    generalize (shp (six t.data.toList)).parts = Y at *
    by_cases hok : X = Y ∧ a.right ∧ txt a = t.data.toList
    · rw [if_pos hok] at HPS
      rw [decide_eq_true hok.1]
      rw [if_pos hok.2.1] at HT1
      have htt : (⟨(txt a).toArray⟩ : ByteArray) = t := by rw [hok.2.2]
      rw [htt] at HT1
      clear htt hok
      go_wp2_with fail
      refine HT1.out.mono ?_
      rintro e w2 ⟨rfl, hb2⟩
      obtain ⟨g0, g1, hbl⟩ := HAF.out a w2 hb2
      have c0 := cell_of_heap (i := 0) g0 rfl
      have c1 := cell_of_heap (i := 1) g0 rfl
      have c2 := cell_of_heap (i := 2) g0 rfl
      have f0 := frozen_a g0 0
      have f1 := frozen_a g0 1
      have f2 := frozen_a g0 2
      have HG0 := Hid.mk g0
      have d0 := cell_of_heap (i := 0) g1 rfl
      have d1 := cell_of_heap (i := 1) g1 rfl
      have d2 := cell_of_heap (i := 2) g1 rfl
      clear hb2 g0 g1
      go_wp2
      refine bodyPost_ret (results_ab Tryd.results16 rfl rfl (ad_three HG0.out _ _ _)) rfl ⟨?_, set3_bel hbl HW0.out _ _ _⟩
      rw [HPS.out]
      rfl
    · rw [if_neg hok] at HPS
      by_cases hxy : X = Y
      · rw [decide_eq_true hxy]
        by_cases har : a.right
        · have htn : ¬ (txt a = t.data.toList) := fun e => hok ⟨hxy, har, e⟩
          rw [if_pos har] at HT1
          have hq : ¬ ((⟨(txt a).toArray⟩ : ByteArray) = t) := fun e => htn (by rw [← e])
          generalize (⟨(txt a).toArray⟩ : ByteArray) = T2 at HT1 hq
          have hq2 : (T2.toList == t.toList) = false := by
            rw [beq_eq_false_iff_ne]
            exact fun e => hq (toL_inj e)
          clear htne hok
          go_wp2_with fail
          refine HT1.out.mono ?_
          rintro e w2 ⟨rfl, hb2⟩
          obtain ⟨g0, g1, hbl⟩ := HAF.out a w2 hb2
          have c0 := cell_of_heap (i := 0) g0 rfl
          have c1 := cell_of_heap (i := 1) g0 rfl
          have c2 := cell_of_heap (i := 2) g0 rfl
          have f0 := frozen_a g0 0
          have f1 := frozen_a g0 1
          have f2 := frozen_a g0 2
          have HG0 := Hid.mk g0
          clear hb2 g0 g1
          go_wp2
          refine bodyPost_ret (results_ab Tryd.results16 rfl rfl (ad_three HG0.out _ _ _)) rfl ⟨?_, set3_bel hbl HW0.out _ _ _⟩
          rw [HPS.out]
          rfl
        · rw [if_neg har] at HT1
          have hq2 : t.toList.isEmpty = false := by
            rw [← decide_eq_emptyBytes]
            exact decide_eq_false (fun h => htne (by rw [h]; rfl))
          clear htne hok
          go_wp2_with fail
          refine HT1.out.mono ?_
          rintro e w2 ⟨rfl, hb2⟩
          obtain ⟨g0, g1, hbl⟩ := HAF.out a w2 hb2
          have c0 := cell_of_heap (i := 0) g0 rfl
          have c1 := cell_of_heap (i := 1) g0 rfl
          have c2 := cell_of_heap (i := 2) g0 rfl
          have f0 := frozen_a g0 0
          have f1 := frozen_a g0 1
          have f2 := frozen_a g0 2
          have HG0 := Hid.mk g0
          clear hb2 g0 g1
          go_wp2
          refine bodyPost_ret (results_ab Tryd.results16 rfl rfl (ad_three HG0.out _ _ _)) rfl ⟨?_, set3_bel hbl HW0.out _ _ _⟩
          rw [HPS.out]
          rfl
      · rw [decide_eq_false hxy]
        by_cases har : a.right
        · rw [if_pos har] at HT1
          clear htne hok
          go_wp2_with fail
          refine HT1.out.mono ?_
          rintro e w2 ⟨rfl, hb2⟩
          obtain ⟨g0, g1, hbl⟩ := HAF.out a w2 hb2
          have c0 := cell_of_heap (i := 0) g0 rfl
          have c1 := cell_of_heap (i := 1) g0 rfl
          have c2 := cell_of_heap (i := 2) g0 rfl
          have f0 := frozen_a g0 0
          have f1 := frozen_a g0 1
          have f2 := frozen_a g0 2
          have HG0 := Hid.mk g0
          clear hb2 g0 g1
          go_wp2
          refine bodyPost_ret (results_ab Tryd.results16 rfl rfl (ad_three HG0.out _ _ _)) rfl ⟨?_, set3_bel hbl HW0.out _ _ _⟩
          rw [HPS.out]
          rfl
        · rw [if_neg har] at HT1
          clear htne hok
          go_wp2_with fail
          refine HT1.out.mono ?_
          rintro e w2 ⟨rfl, hb2⟩
          obtain ⟨g0, g1, hbl⟩ := HAF.out a w2 hb2
          have c0 := cell_of_heap (i := 0) g0 rfl
          have c1 := cell_of_heap (i := 1) g0 rfl
          have c2 := cell_of_heap (i := 2) g0 rfl
          have f0 := frozen_a g0 0
          have f1 := frozen_a g0 1
          have f2 := frozen_a g0 2
          have HG0 := Hid.mk g0
          clear hb2 g0 g1
          go_wp2
          refine bodyPost_ret (results_ab Tryd.results16 rfl rfl (ad_three HG0.out _ _ _)) rfl ⟨?_, set3_bel hbl HW0.out _ _ _⟩
          rw [HPS.out]
          rfl
end Go.Proofs.YtpognbkdafnfjaaDoor
