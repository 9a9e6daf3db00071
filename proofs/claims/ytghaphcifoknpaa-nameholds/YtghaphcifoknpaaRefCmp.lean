/- The document's own Compare and bytes (guidepostref01). -/
import Derived.Test.YtghaphcifoknpaaRefLower
import Derived.Test.YtghaphcifoknpaaCmp
namespace Go.Proofs.Ytghaphcifoknpaa
set_option linter.unusedVariables false
open Go.RowKit

theorem bytes_in (x y : ByteArray) (w : World) :
    Calls Try.prog 58 #[.string x, .string y] w fun e w' => e = .returned (.int .i64 (cmpL x.data.toList y.data.toList)) ∧ w' = w := by
  rw [← ByteArray.toList_eq, ← ByteArray.toList_eq]
  by_cases h1 : Op.bytesLess x.toList y.toList = true
  · have hp : cmpL x.toList y.toList = -1 := by simp [cmpL, h1]
    rw [hp]; clear hp
    go_enter Try.func58, Try.ntmps58
    go_wp2
    go_ret
    exact ⟨rfl, rfl⟩
  · have h1' : Op.bytesLess x.toList y.toList = false := by simpa using h1
    by_cases h2 : x.toList = y.toList
    · have hp : cmpL x.toList y.toList = 0 := by unfold cmpL; rw [if_neg h1, if_pos h2]
      rw [hp]; clear hp h1
      have h2' : (x.toList == y.toList) = true := by simpa using h2
      clear h2
      go_enter Try.func58, Try.ntmps58
      go_wp2
      go_ret
      exact ⟨rfl, rfl⟩
    · have hp : cmpL x.toList y.toList = 1 := by simp [cmpL, h1', h2]
      rw [hp]; clear hp h1
      have h2' : (x.toList == y.toList) = false := by simpa using h2
      clear h2
      go_enter Try.func58, Try.ntmps58
      go_wp2
      go_ret
      exact ⟨rfl, rfl⟩

theorem rCompare_left (a : List (List UInt8)) (ha : OkN a) (t : ByteArray) (ht : t.size ≤ maxLen) (hm : ¬ IsName t) (w : World) :
    Calls Try.prog 31 #[.string (nm a), .string t] w fun e w' => e = .returned (.int .i64 1) ∧ Below w.heap.size w w' := by
  go_enter Try.func31, Try.ntmps31
  go_wp2_with fail
  refine (rLower_yes a ha _).mono ?_
  rintro e w1 ⟨rfl, hb1⟩
  go_wp2_with fail
  refine (rLabels_yes (lowN a) ha.low _).mono ?_
  rintro e w2 ⟨⟨va, rfl, hva⟩, hb2⟩
  obtain ⟨qa, ca, hqa⟩ := hva.form
  subst hqa
  clear hva
  go_wp2_with fail
  refine (rLower_no t ht hm _).mono ?_
  rintro e w3 ⟨rfl, hb3⟩
  go_wp2_with fail
  refine (rLabels_none t ht hm _).mono ?_
  rintro e w4 ⟨rfl, hb4⟩
  go_wp2
  go_ret
  exact ⟨rfl, bthen hb1 (bthen hb2 (bthen hb3 hb4))⟩
theorem rCompare_right (s : ByteArray) (hs : s.size ≤ maxLen) (hn : ¬ IsName s) (b : List (List UInt8)) (hb : OkN b) (w : World) :
    Calls Try.prog 31 #[.string s, .string (nm b)] w fun e w' => e = .returned (.int .i64 (-1)) ∧ Below w.heap.size w w' := by
  go_enter Try.func31, Try.ntmps31
  go_wp2_with fail
  refine (rLower_no s hs hn _).mono ?_
  rintro e w1 ⟨rfl, hb1⟩
  go_wp2_with fail
  refine (rLabels_none s hs hn _).mono ?_
  rintro e w2 ⟨rfl, hb2⟩
  go_wp2_with fail
  refine (rLower_yes b hb _).mono ?_
  rintro e w3 ⟨rfl, hb3⟩
  go_wp2_with fail
  refine (rLabels_yes (lowN b) hb.low _).mono ?_
  rintro e w4 ⟨⟨vb, rfl, hvb⟩, hb4⟩
  obtain ⟨qb, cb, hqb⟩ := hvb.form
  subst hqb
  clear hvb
  go_wp2
  go_ret
  exact ⟨rfl, bthen hb1 (bthen hb2 (bthen hb3 hb4))⟩
theorem rCompare_none (s t : ByteArray) (hs : s.size ≤ maxLen) (hn : ¬ IsName s) (ht : t.size ≤ maxLen) (hm : ¬ IsName t) (w : World) :
    Calls Try.prog 31 #[.string s, .string t] w fun e w' => e = .returned (.int .i64 (cmpL s.data.toList t.data.toList)) ∧ Below w.heap.size w w' := by
  go_enter Try.func31, Try.ntmps31
  go_wp2_with fail
  refine (rLower_no s hs hn _).mono ?_
  rintro e w1 ⟨rfl, hb1⟩
  go_wp2_with fail
  refine (rLabels_none s hs hn _).mono ?_
  rintro e w2 ⟨rfl, hb2⟩
  go_wp2_with fail
  refine (rLower_no t ht hm _).mono ?_
  rintro e w3 ⟨rfl, hb3⟩
  go_wp2_with fail
  refine (rLabels_none t ht hm _).mono ?_
  rintro e w4 ⟨rfl, hb4⟩
  go_wp2_with fail
  refine (bytes_in s t _).mono ?_
  rintro e w5 ⟨rfl, rfl⟩
  go_wp2
  go_ret
  exact ⟨rfl, bthen hb1 (bthen hb2 (bthen hb3 hb4))⟩

/-! ### of two names -/
theorem cmpL_zero' {x y : List UInt8} (e : cmpL x y = 0) : x = y := by
  unfold cmpL at e
  by_cases h1 : Op.bytesLess x y = true
  · rw [if_pos h1] at e; exact absurd e (by decide)
  · rw [if_neg h1] at e
    by_cases h2 : x = y
    · exact h2
    · rw [if_neg h2] at e; exact absurd e (by decide)

theorem rev_get {A : List (List UInt8)} {k : Nat} (h : k < A.length) : A.reverse[k]'(by simpa using h) = A[A.length - 1 - k]'(by omega) := by
  rw [List.getElem_reverse]

/-- where the first k of both are the same, what the rest says. -/
theorem cmpR_drop : ∀ (a b : List (List UInt8)) (k : Nat), k ≤ a.length → k ≤ b.length → a.take k = b.take k → cmpR a b = cmpR (a.drop k) (b.drop k)
  | a, b, 0, _, _, _ => rfl
  | [], b, k + 1, h, _, _ => by simp at h
  | a :: a', [], k + 1, _, h, _ => by simp at h
  | a :: a', b :: b', k + 1, h1, h2, h => by
    simp only [List.take_succ_cons, List.cons.injEq] at h
    obtain ⟨rfl, h⟩ := h
    simp only [cmpR, if_true, List.drop_succ_cons]
    exact cmpR_drop a' b' k (by simpa using h1) (by simpa using h2) h

set_option maxHeartbeats 2000000 in
theorem rCompare_yes (a b : List (List UInt8)) (ha : OkN a) (hb : OkN b) (w : World) :
    Calls Try.prog 31 #[.string (nm a), .string (nm b)] w fun e w' => e = .returned (.int .i64 (cmpN a b)) ∧ Below w.heap.size w w' := by
  have hca := ha.low.count
  have hcb := hb.low.count
  have hU : cmpN a b = cmpR (lowN a).reverse (lowN b).reverse := rfl
  generalize cmpN a b = r at hU ⊢
  have HU := Hid.mk hU
  clear hU
  go_enter Try.func31, Try.ntmps31
  go_wp2_with fail
  refine (rLower_yes a ha _).mono ?_
  rintro e w1 ⟨rfl, hb1⟩
  go_wp2_with fail
  refine (rLabels_yes (lowN a) ha.low _).mono ?_
  rintro e w2 ⟨⟨va, rfl, hva⟩, hb2⟩
  go_wp2_with fail
  refine (rLower_yes b hb _).mono ?_
  rintro e w3 ⟨rfl, hb3⟩
  go_wp2_with fail
  refine (rLabels_yes (lowN b) hb.low _).mono ?_
  rintro e w4 ⟨⟨vb, rfl, hvb⟩, hb4⟩
  have hva4 := (hva.below (bthen hb3 hb4)).mono (bthen hb3 hb4).size
  have k4 := bthen hb1 (bthen hb2 (bthen hb3 hb4))
  clear hva hb1 hb2 hb3 hb4
  generalize lowN a = A at *
  generalize lowN b = B at *
  obtain ⟨qa, ca, hqa⟩ := hva4.form
  subst hqa
  obtain ⟨qb, cb, hqb⟩ := hvb.form
  subst hqb
  go_wp2
  go_loopw [9] (fun i wr => ∃ k : Nat, k ≤ A.length ∧ k ≤ B.length ∧ i = .int .i64 ((k : Int) + 1) ∧ Hid (A.reverse.take k = B.reverse.take k) ∧ ∃ n, wr = w4.drewN n) (fun i _ => A.length + 1 - (intOf i).toNat)
  case atStart => exact ⟨0, Nat.zero_le _, Nat.zero_le _, rfl, rfl, 0, rfl⟩
  case round =>
    obtain ⟨k, hk1, hk2, rfl, hag, n, rfl⟩ := hrel
    by_cases h1 : k < A.length
    · have hd1 : decide ((k : Int) + 1 ≤ (A.length : Int)) = true := by simp; omega
      by_cases h2 : k < B.length
      · have hd2 : decide ((k : Int) + 1 ≤ (B.length : Int)) = true := by simp; omega
        obtain ⟨ga, hga, x, hxl, hc1⟩ : ∃ g, qa = some ⟨g, 0, none⟩ ∧ ∃ x : ByteArray, Hid (x.data.toList = A[A.length - 1 - k]'(by omega)) ∧ w4.cell? ⟨g, A.length - 1 - k, none⟩ = some (.string x) := by
          rcases hva4 with ⟨_, h⟩ | ⟨g, cap, hv, hg, hc⟩
          · rw [h] at h1; simp at h1
          · cases hv; exact ⟨g, rfl, ⟨(A[A.length - 1 - k]'(by omega)).toArray⟩, rfl, hc _ (by omega)⟩
        obtain ⟨gb, hgb, y, hyl, hc2⟩ : ∃ g, qb = some ⟨g, 0, none⟩ ∧ ∃ y : ByteArray, Hid (y.data.toList = B[B.length - 1 - k]'(by omega)) ∧ w4.cell? ⟨g, B.length - 1 - k, none⟩ = some (.string y) := by
          rcases hvb with ⟨_, h⟩ | ⟨g, cap, hv, hg, hc⟩
          · rw [h] at h2; simp at h2
          · cases hv; exact ⟨g, rfl, ⟨(B[B.length - 1 - k]'(by omega)).toArray⟩, rfl, hc _ (by omega)⟩
        subst hga
        subst hgb
        have hw1 : IntKind.i64.wrap ((A.length : Int) - ((k : Int) + 1)) = ((A.length - 1 - k : Nat) : Int) := by rw [IntKind.wrap_i64]; omega
        have hw2 : IntKind.i64.wrap ((B.length : Int) - ((k : Int) + 1)) = ((B.length - 1 - k : Nat) : Int) := by rw [IntKind.wrap_i64]; omega
        have hi1 : A.length - 1 - k < A.length := by omega
        have hi2 : B.length - 1 - k < B.length := by omega
        have hAt : A.reverse.take (k + 1) = A.reverse.take k ++ [A[A.length - 1 - k]'(by omega)] := by
          rw [List.take_succ_eq_append_getElem (by simpa using h1), rev_get h1]
        have hBt : B.reverse.take (k + 1) = B.reverse.take k ++ [B[B.length - 1 - k]'(by omega)] := by
          rw [List.take_succ_eq_append_getElem (by simpa using h2), rev_get h2]
        have HB := Hid.mk (bytes_in x y)
        by_cases heq : A[A.length - 1 - k]'(by omega) = B[B.length - 1 - k]'(by omega)
        · have hz : cmpL x.data.toList y.data.toList = 0 := by
            rw [hxl.out, hyl.out, heq]
            have : Op.bytesLess (B[B.length - 1 - k]'(by omega)) (B[B.length - 1 - k]'(by omega)) = false := by
              generalize B[B.length - 1 - k]'(by omega) = l
              induction l with
              | nil => rfl
              | cons c l ih => simp [Op.bytesLess, ih]
            unfold cmpL; rw [if_neg (by rw [this]; simp), if_pos rfl]
          have HA : Hid (A.reverse.take (k + 1) = B.reverse.take (k + 1)) := by rw [Hid, hAt, hBt, hag.out, heq]
          rw [hz] at HB
          clear heq hag hva4 hvb hAt hBt hz
          go_wp2
          go_quiet ((go_at_call 58; exact (HB.out _).mono fun _ _ hh => ⟨hh.1, _, hh.2⟩))
          go_wp2
          go_roundw
          case rel => exact ⟨k + 1, by omega, by omega, by go_num, HA, _, rfl⟩
          case measure => simp [intOf]; omega
        · have hr : r = cmpL x.data.toList y.data.toList := by
            rw [HU.out, cmpR_drop _ _ k (by simpa using hk1) (by simpa using hk2) hag.out, List.drop_eq_getElem_cons (l := A.reverse) (by simpa using h1), List.drop_eq_getElem_cons (l := B.reverse) (by simpa using h2), rev_get h1, rev_get h2, cmpR, if_neg heq, hxl.out, hyl.out]
          have hnz : (r != 0) = true := by
            rw [bne_iff_ne, hr, hxl.out, hyl.out]
            intro e
            apply heq
            exact cmpL_zero' e
          rw [← hr] at HB
          clear heq hag hva4 hvb hAt hBt hr HU
          go_wp2
          go_quiet ((go_at_call 58; exact (HB.out _).mono fun _ _ hh => ⟨hh.1, _, hh.2⟩))
          go_wp2
          go_ret
          refine ⟨rfl, ?_⟩
          first | exact below_drewN k4 _ | (rw [World.drewN_drewN]; exact below_drewN k4 _)
      · have hd2 : decide ((k : Int) + 1 ≤ (B.length : Int)) = false := by simp; omega
        have hr : r = 1 := by
          rw [HU.out, cmpR_drop _ _ k (by simpa using hk1) (by simpa using hk2) hag.out, List.drop_eq_getElem_cons (by simpa using h1), List.drop_of_length_le (l := B.reverse) (by simp; omega)]
          rfl
        have hgt : B.length < A.length := by omega
        subst hr
        clear hag hva4 hvb HU
        go_wp2
        go_ret
        exact ⟨rfl, below_drewN k4 _⟩
    · have hd1 : decide ((k : Int) + 1 ≤ (A.length : Int)) = false := by simp; omega
      have hA : A.reverse.drop k = [] := List.drop_of_length_le (by simp; omega)
      by_cases h2 : k < B.length
      · have hr : r = -1 := by
          rw [HU.out, cmpR_drop _ _ k (by simpa using hk1) (by simpa using hk2) hag.out, hA, List.drop_eq_getElem_cons (by simpa using h2)]
          rfl
        have hgt : A.length < B.length := by omega
        subst hr
        clear hag hva4 hvb HU hA
        go_wp2
        go_ret
        exact ⟨rfl, below_drewN k4 _⟩
      · have hr : r = 0 := by
          rw [HU.out, cmpR_drop _ _ k (by simpa using hk1) (by simpa using hk2) hag.out, hA, List.drop_of_length_le (l := B.reverse) (by simp; omega)]
          rfl
        have hgt : A.length = B.length := by omega
        have hnl : decide ((A.length : Int) < (B.length : Int)) = false := by simp; omega
        have hng : decide ((B.length : Int) < (A.length : Int)) = false := by simp; omega
        subst hr
        clear hag hva4 hvb HU hA hgt
        go_wp2
        go_ret
        exact ⟨rfl, below_drewN k4 _⟩

end Go.Proofs.Ytghaphcifoknpaa
