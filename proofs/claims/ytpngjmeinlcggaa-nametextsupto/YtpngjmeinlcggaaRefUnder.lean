/- The document's own Under, Last, Parent, Common (guidepostref01). -/
import Derived.Test.YtpngjmeinlcggaaRefLower
import Derived.Test.YtpngjmeinlcggaaFacts
namespace Go.Proofs.Ytpngjmeinlcggaa
set_option linter.unusedVariables false
open Go.RowKit

theorem suffix_at {A B : List (List UInt8)} (hle : B.length ≤ A.length) (h : ∀ i (hi : i < B.length), A[A.length - B.length + i]'(by omega) = B[i]) : B <:+ A := by
  have : A.drop (A.length - B.length) = B := by
    apply List.ext_getElem
    · simp; omega
    · intro i h1 h2
      rw [List.getElem_drop]; exact h i h2
  rw [← this]; exact List.drop_suffix _ _
theorem suffix_get {A B : List (List UInt8)} (h : B <:+ A) : B.length ≤ A.length ∧ ∀ i (hi : i < B.length) (hj : A.length - B.length + i < A.length), A[A.length - B.length + i] = B[i] := by
  obtain ⟨p, rfl⟩ := h
  refine ⟨by simp, fun i hi hj => ?_⟩
  have e : (p ++ B).length - B.length + i = p.length + i := by simp
  simp only [e]
  rw [List.getElem_append_right (by omega)]
  simp

set_option maxHeartbeats 2000000 in
theorem rUnder_yes (a b : List (List UInt8)) (ha : OkN a) (hb : OkN b) (w : World) :
    Calls Try.prog 23 #[.string (nm a), .string (nm b)] w fun e w' => e = .returned (.bool (undB a b)) ∧ Below w.heap.size w w' := by
  have hca := ha.low.count
  have hcb := hb.low.count
  have hU := undB_iff a b
  generalize undB a b = r at hU ⊢
  have HU := Hid.mk hU
  clear hU
  go_enter Try.func23, Try.ntmps23
  go_wp2_with fail
  refine (rLower_yes a ha _).mono ?_
  rintro e w1 ⟨rfl, hb1⟩
  go_wp2_with fail
  refine (rLabels_yes (lowN a) ha.low _).mono ?_
  rintro e w2 ⟨⟨va, rfl, hva⟩, hb2⟩
  go_wp2_with fail
  refine (rLower_yes b hb _).mono ?_
  rintro e w3 ⟨rfl, hb3⟩
  go_wp2_with fail
  refine (rLabels_yes (lowN b) hb.low _).mono ?_
  rintro e w4 ⟨⟨vb, rfl, hvb⟩, hb4⟩
  have hva4 := (hva.below (bthen hb3 hb4)).mono (bthen hb3 hb4).size
  have k4 := bthen hb1 (bthen hb2 (bthen hb3 hb4))
  clear hva hb1 hb2 hb3 hb4
  generalize lowN a = A at *
  generalize lowN b = B at *
  obtain ⟨qa, ca, hqa⟩ := hva4.form
  subst hqa
  obtain ⟨qb, cb, hqb⟩ := hvb.form
  subst hqb
  by_cases hlt : A.length < B.length
  · have hf : r = false := by
      cases hr : r with
      | false => rfl
      | true => have := (suffix_get (HU.out.1 hr)).1; omega
    subst hf
    clear hva4 hvb
    go_wp2
    go_ret
    exact ⟨rfl, k4⟩
  · have hd : decide ((A.length : Int) < (B.length : Int)) = false := by simp; omega
    go_wp2
    go_loopw [9] (fun i wr => ∃ k : Nat, k ≤ B.length ∧ i = .int .i64 k ∧ Hid (∀ j (hj : j < k) (h1 : A.length - B.length + j < A.length) (h2 : j < B.length), A[A.length - B.length + j] = B[j]) ∧ ∃ n, wr = w4.drewN n) (fun i _ => B.length - (intOf i).toNat)
    case atStart => exact ⟨0, Nat.zero_le _, rfl, fun j hj => absurd hj (by omega), 0, rfl⟩
    case round =>
      obtain ⟨k, hk, rfl, hag, n, rfl⟩ := hrel
      by_cases hkl : k < B.length
      · obtain ⟨ga, hga, x, hxl, hc1⟩ : ∃ g, qa = some ⟨g, 0, none⟩ ∧ ∃ x : ByteArray, Hid (x.data.toList = A[A.length - B.length + k]'(by omega)) ∧ w4.cell? ⟨g, A.length - B.length + k, none⟩ = some (.string x) := by
          rcases hva4 with ⟨_, h⟩ | ⟨g, cap, hv, hg, hc⟩
          · rw [h] at hlt; simp at hlt; rw [hlt] at hkl; simp at hkl
          · cases hv; exact ⟨g, rfl, ⟨(A[A.length - B.length + k]'(by omega)).toArray⟩, rfl, hc _ (by omega)⟩
        obtain ⟨gb, hgb, y, hyl, hc2⟩ : ∃ g, qb = some ⟨g, 0, none⟩ ∧ ∃ y : ByteArray, Hid (y.data.toList = B[k]) ∧ w4.cell? ⟨g, k, none⟩ = some (.string y) := by
          rcases hvb with ⟨_, h⟩ | ⟨g, cap, hv, hg, hc⟩
          · rw [h] at hkl; simp at hkl
          · cases hv; exact ⟨g, rfl, ⟨B[k].toArray⟩, rfl, hc _ hkl⟩
        subst hga
        subst hgb
        have hw1 : IntKind.i64.wrap ((A.length : Int) - (B.length : Int)) = ((A.length - B.length : Nat) : Int) := by rw [IntKind.wrap_i64]; omega
        have hw2 : IntKind.i64.wrap (((A.length - B.length : Nat) : Int) + (k : Int)) = ((A.length - B.length + k : Nat) : Int) := by rw [IntKind.wrap_i64]; omega
        have hi1 : A.length - B.length + k < A.length := by omega
        by_cases heq : A[A.length - B.length + k]'(by omega) = B[k]
        · have hbe : (x.toList == y.toList) = true := by rw [beq_iff_eq, ByteArray.toList_eq, ByteArray.toList_eq, hxl.out, hyl.out]; exact heq
          have HA : Hid (∀ j (hj : j < k + 1) (h1 : A.length - B.length + j < A.length) (h2 : j < B.length), A[A.length - B.length + j] = B[j]) := by
            intro j hj h1 h2
            by_cases e : j = k
            · subst e; exact heq
            · exact hag.out j (by omega) h1 h2
          clear heq hag hva4 hvb
          go_wp2
          go_quiet (fail)
          go_wp2
          go_roundw
          case rel => exact ⟨k + 1, by omega, by go_num, HA, _, rfl⟩
          case measure => simp [intOf]; omega
        · have hbe : (x.toList == y.toList) = false := by rw [beq_eq_false_iff_ne, ByteArray.toList_eq, ByteArray.toList_eq, hxl.out, hyl.out]; exact heq
          have hf : r = false := by
            cases hr : r with
            | false => rfl
            | true => exact absurd ((suffix_get (HU.out.1 hr)).2 k hkl hi1) heq
          subst hf
          clear heq hag hva4 hvb
          go_wp2
          go_quiet (fail)
          go_wp2
          go_ret
          refine ⟨rfl, ?_⟩
          first | exact below_drewN k4 _ | (rw [World.drewN_drewN]; exact below_drewN k4 _)
      · have ht : r = true := HU.out.2 (suffix_at (by omega) (fun i hi => hag.out i (by omega) (by omega) hi))
        subst ht
        clear hag hva4 hvb
        go_wp2
        go_ret
        exact ⟨rfl, below_drewN k4 _⟩

set_option maxHeartbeats 1000000 in
theorem rUnder_no (s t : ByteArray) (hs : s.size ≤ maxLen) (ht : t.size ≤ maxLen) (h : ¬ (IsName s ∧ IsName t)) (w : World) :
    Calls Try.prog 23 #[.string s, .string t] w fun e w' => e = .returned (.bool false) ∧ Below w.heap.size w w' := by
  by_cases h1 : IsName s
  · have h2 : ¬ IsName t := fun h2 => h ⟨h1, h2⟩
    obtain ⟨a, ha, rfl⟩ := h1
    go_enter Try.func23, Try.ntmps23
    go_wp2_with fail
    refine (rLower_yes a ha _).mono ?_
    rintro e w1 ⟨rfl, hb1⟩
    go_wp2_with fail
    refine (rLabels_yes (lowN a) ha.low _).mono ?_
    rintro e w2 ⟨⟨va, rfl, hva⟩, hb2⟩
    obtain ⟨qa, ca, hqa⟩ := hva.form
    subst hqa
    clear hva
    go_wp2_with fail
    refine (rLower_no t ht h2 _).mono ?_
    rintro e w3 ⟨rfl, hb3⟩
    go_wp2_with fail
    refine (rLabels_none t ht h2 _).mono ?_
    rintro e w4 ⟨rfl, hb4⟩
    go_wp2
    go_ret
    exact ⟨rfl, bthen hb1 (bthen hb2 (bthen hb3 hb4))⟩
  · by_cases h2 : IsName t
    · obtain ⟨b, hb, rfl⟩ := h2
      go_enter Try.func23, Try.ntmps23
      go_wp2_with fail
      refine (rLower_no s hs h1 _).mono ?_
      rintro e w1 ⟨rfl, hb1⟩
      go_wp2_with fail
      refine (rLabels_none s hs h1 _).mono ?_
      rintro e w2 ⟨rfl, hb2⟩
      go_wp2_with fail
      refine (rLower_yes b hb _).mono ?_
      rintro e w3 ⟨rfl, hb3⟩
      go_wp2_with fail
      refine (rLabels_yes (lowN b) hb.low _).mono ?_
      rintro e w4 ⟨⟨vb, rfl, hvb⟩, hb4⟩
      obtain ⟨qb, cb, hqb⟩ := hvb.form
      subst hqb
      clear hvb
      go_wp2
      go_ret
      exact ⟨rfl, bthen hb1 (bthen hb2 (bthen hb3 hb4))⟩
    · go_enter Try.func23, Try.ntmps23
      go_wp2_with fail
      refine (rLower_no s hs h1 _).mono ?_
      rintro e w1 ⟨rfl, hb1⟩
      go_wp2_with fail
      refine (rLabels_none s hs h1 _).mono ?_
      rintro e w2 ⟨rfl, hb2⟩
      go_wp2_with fail
      refine (rLower_no t ht h2 _).mono ?_
      rintro e w3 ⟨rfl, hb3⟩
      go_wp2_with fail
      refine (rLabels_none t ht h2 _).mono ?_
      rintro e w4 ⟨rfl, hb4⟩
      go_wp2
      go_ret
      exact ⟨rfl, bthen hb1 (bthen hb2 (bthen hb3 hb4))⟩

/-! ### Last -/
theorem ofR_drop {ls : List (List UInt8)} (ho : OkN ls) (k : Nat) : ofR (ls.drop k) = (nmL (ls.drop k), 0) := by
  have h : ∀ l ∈ ls.drop k, 1 ≤ l.length ∧ l.length ≤ 63 := fun l hl => ho.lab l (List.mem_of_mem_drop hl)
  rw [ofR_right h, if_pos]
  rw [nm_size]
  have : flat ls = flat (ls.take k) ++ flat (ls.drop k) := by rw [← flat_append, List.take_append_drop]
  have h2 := ho.len
  rw [this, List.length_append] at h2
  omega

set_option maxHeartbeats 1000000 in
theorem rLast_in (ls : List (List UInt8)) (ho : OkN ls) (hne : ls ≠ []) (m : Nat) (hm : m ≤ ls.length) (w : World) :
    Calls Try.prog 53 #[.string (nm ls), .int .i64 (m : Int)] w fun e w' => e = .returned (.string (nm (ls.drop (ls.length - m)))) ∧ Below w.heap.size w w' := by
  have hcnt := ho.count
  have hlen : ls.length - (ls.length - m) = (ls.drop (ls.length - m)).length := by rw [List.length_drop]
  go_enter Try.func53, Try.ntmps53
  go_wp2_with fail
  refine (rLabels_own ls ho _).mono ?_
  rintro e w1 ⟨⟨v, rfl, hv⟩, hb1⟩
  have hst := strs_of_row hv
  obtain ⟨g, cap, hvv, hcap⟩ : ∃ g cap, v = .slice (some ⟨g, 0, none⟩) ls.length cap ∧ ls.length ≤ cap := by
    rcases hv.2 with ⟨_, h⟩ | ⟨g, cap, cur, hv', _, _, hc, _⟩
    · exact absurd (List.eq_nil_of_length_eq_zero h) hne
    · exact ⟨g, cap, hv', hc⟩
  subst hvv
  obtain ⟨hg, hc⟩ : g < w1.heap.size ∧ ∀ j (h : j < ls.length), w1.cell? ⟨g, j, none⟩ = some (strV ls[j]) := by
    rcases hst with ⟨h, _⟩ | ⟨g', cap', h, hg, hc⟩
    · cases h
    · cases h; exact ⟨hg, hc⟩
  have HO : Hid (∀ off cp, (off = ls.length - m ∨ m = 0) → Calls Try.prog 12 #[.slice (some ⟨g, off, none⟩) (ls.length - (ls.length - m)) cp] w1 fun e w' => e = .returned (.tuple #[.string (nm (ls.drop (ls.length - m))), .int .i64 0]) ∧ Below w1.heap.size w1 w') := by
    intro off cp hoff
    have := rOf_good g off cp (ls.drop (ls.length - m)) w1 hg (by rw [← hlen]; unfold maxLen; omega) (fun j hj => by
      rw [← hlen] at hj
      rcases hoff with rfl | rfl
      · rw [List.getElem_drop]; exact hc _ (by omega)
      · omega) (fun l hl => ho.lab l (List.mem_of_mem_drop hl))
    rw [ofR_drop ho, ← hlen] at this
    exact this
  clear hst hv hc hlen
  go_wp2_with fail
  all_goals
    refine (HO.out _ _ (by omega)).mono ?_
    rintro e w2 ⟨rfl, hb2⟩
    go_wp2
    go_ret
    exact ⟨rfl, bthen hb1 hb2⟩

/-! ### Parent -/
theorem rParent_no (s : ByteArray) (hs : s.size ≤ maxLen) (h : ¬ IsName s) (w : World) :
    Calls Try.prog 27 #[.string s] w fun e w' => e = .returned (.tuple #[.string ⟨#[]⟩, .int .i64 2]) ∧ Below w.heap.size w w' := by
  go_enter Try.func27, Try.ntmps27
  go_wp2_with fail
  refine (rLabels_none s hs h _).mono ?_
  rintro e w1 ⟨rfl, hb1⟩
  go_wp2
  go_ret2
  exact ⟨rfl, hb1⟩
theorem rParent_root (w : World) :
    Calls Try.prog 27 #[.string (nm [])] w fun e w' => e = .returned (.tuple #[.string ⟨#[]⟩, .int .i64 1]) ∧ Below w.heap.size w w' := by
  go_enter Try.func27, Try.ntmps27
  go_wp2_with fail
  refine (rLabels_yes [] okNil _).mono ?_
  rintro e w1 ⟨⟨v, rfl, hv⟩, hb1⟩
  obtain ⟨q, c, hq⟩ := hv.form
  subst hq
  clear hv
  go_wp2
  go_ret2
  exact ⟨rfl, hb1⟩
theorem rParent_yes (l : List UInt8) (ls : List (List UInt8)) (ho : OkN (l :: ls)) (w : World) :
    Calls Try.prog 27 #[.string (nm (l :: ls))] w fun e w' => e = .returned (.tuple #[.string (nm ls), .int .i64 0]) ∧ Below w.heap.size w w' := by
  have hcnt := ho.count
  have HL : Hid (∀ w, Calls Try.prog 53 #[.string (nm (l :: ls)), .int .i64 (ls.length : Int)] w fun e w' => e = .returned (.string (nm ls)) ∧ Below w.heap.size w w') := by
    intro w
    have := rLast_in (l :: ls) ho (by simp) ls.length (by simp) w
    have e1 : (l :: ls).drop ((l :: ls).length - ls.length) = ls := by simp
    rw [e1] at this
    exact this
  have HB : Hid (∀ w, Calls Try.prog 10 #[.string (nm (l :: ls))] w fun e w' => (∃ q c, e = .returned (.tuple #[.slice q (ls.length + 1) c, .bool true])) ∧ Below w.heap.size w w') := by
    intro w
    refine (rLabels_yes (l :: ls) ho w).mono ?_
    rintro e w1 ⟨⟨v, rfl, hv⟩, hb1⟩
    obtain ⟨q, c, hq⟩ := hv.form
    subst hq
    exact ⟨⟨q, c, rfl⟩, hb1⟩
  have hl1 : ls.length + 1 ≤ 127 := by simpa using hcnt
  clear hcnt ho
  generalize nm (l :: ls) = n at *
  go_enter Try.func27, Try.ntmps27
  go_wp2_with fail
  refine (HB.out _).mono ?_
  rintro e w1 ⟨⟨q, c, rfl⟩, hb1⟩
  have hne : (((ls.length : Int) + 1) == 0) = false := by rw [beq_eq_false_iff_ne]; omega
  have hne2 : (((ls.length + 1 : Nat) : Int) == 0) = false := by rw [beq_eq_false_iff_ne]; omega
  have hw1 : IntKind.i64.wrap (((ls.length + 1 : Nat) : Int) - 1) = (ls.length : Int) := by rw [IntKind.wrap_i64]; omega
  have hw2 : IntKind.i64.wrap ((ls.length : Int) + 1 - 1) = (ls.length : Int) := by rw [IntKind.wrap_i64]; omega
  go_wp2_with fail
  refine (HL.out _).mono ?_
  rintro e w2 ⟨rfl, hb2⟩
  go_wp2
  go_ret2
  exact ⟨rfl, bthen hb1 hb2⟩

end Go.Proofs.Ytpngjmeinlcggaa
