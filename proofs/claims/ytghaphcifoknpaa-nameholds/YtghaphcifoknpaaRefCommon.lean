/- The document's own Common (guidepostref01). -/
import Derived.Test.YtghaphcifoknpaaRefUnder
namespace Go.Proofs.Ytghaphcifoknpaa
set_option linter.unusedVariables false
open Go.RowKit

/-! ### Common -/
theorem com_at (a b : List (List UInt8)) (k : Nat) (hk : k ≤ a.length) (h1 : (comN a b).length ≤ k) :
    (k = (comN a b).length → a.drop (a.length - k) = comN a b ∧ undB b (a.drop (a.length - k)) = true) ∧ (k ≠ (comN a b).length → undB b (a.drop (a.length - k)) = false) := by
  constructor
  · intro e
    have : a.drop (a.length - k) = comN a b := by rw [e, comN_len]; rfl
    exact ⟨this, by rw [this]; exact und_com_right a b⟩
  · intro e
    cases h : undB b (a.drop (a.length - k)) with
    | false => rfl
    | true =>
      have h2 : undB a (a.drop (a.length - k)) = true := by
        rw [undB_iff]
        have : lowN (a.drop (a.length - k)) = (lowN a).drop (a.length - k) := by simp [lowN]
        rw [this]; exact List.drop_suffix _ _
      have h3 := und_len (und_com_of a b _ h2 h)
      rw [List.length_drop] at h3
      omega

set_option maxHeartbeats 1000000 in
theorem rCommon_yes (a b : List (List UInt8)) (ha : OkN a) (hb : OkN b) (w : World) :
    Calls Try.prog 25 #[.string (nm a), .string (nm b)] w fun e w' => e = .returned (.tuple #[.string (nm (comN a b)), .int .i64 0]) ∧ Below w.heap.size w w' := by
  have hca := ha.count
  have hcl : (comN a b).length ≤ a.length := by simp [comN]
  have HC := Hid.mk (com_at a b)
  have HL : Hid (∀ k : Nat, 0 < k → k ≤ a.length → ∀ w, Calls Try.prog 53 #[.string (nm a), .int .i64 (k : Int)] w fun e w' => e = .returned (.string (nm (a.drop (a.length - k)))) ∧ Below w.heap.size w w') := by
    intro k h0 h1 w
    exact rLast_in a ha (by rintro rfl; simp at h1; omega) k h1 w
  have HU : Hid (∀ k : Nat, k ≤ a.length → ∀ w, Calls Try.prog 23 #[.string (nm b), .string (nm (a.drop (a.length - k)))] w fun e w' => e = .returned (.bool (undB b (a.drop (a.length - k)))) ∧ Below w.heap.size w w') := by
    intro k h1 w
    exact rUnder_yes b _ hb (ha.drop _) w
  have HN : Hid (comN a b = [] → nm (comN a b) = ⟨#[0]⟩) := by intro h; rw [h]; rfl
  obtain ⟨m, hm⟩ : ∃ m, (comN a b).length = m := ⟨_, rfl⟩
  have HZ : Hid (m = 0 → comN a b = []) := by intro h; exact List.eq_nil_of_length_eq_zero (by omega)
  have HC' : Hid (∀ k, k ≤ a.length → m ≤ k → (k = m → nm (a.drop (a.length - k)) = nm (comN a b) ∧ undB b (a.drop (a.length - k)) = true) ∧ (k ≠ m → undB b (a.drop (a.length - k)) = false)) := by
    intro k h1 h2
    have := HC.out k h1 (by omega)
    rw [hm] at this
    exact ⟨fun e => ⟨by rw [(this.1 e).1], (this.1 e).2⟩, this.2⟩
  clear HC
  have hcl' : m ≤ a.length := by omega
  clear hm hcl
  go_enter Try.func25, Try.ntmps25
  go_wp2_with fail
  refine (rLabels_yes a ha _).mono ?_
  rintro e w1 ⟨⟨va, rfl, hva⟩, hb1⟩
  obtain ⟨qa, ca, hqa⟩ := hva.form
  subst hqa
  clear hva
  go_wp2_with fail
  refine (rRight_yes b hb _).mono ?_
  rintro e w2 ⟨rfl, hb2⟩
  have k2 := bthen hb1 hb2
  clear hb1 hb2
  go_wp2
  go_loopw [9] (fun i wr => ∃ k : Nat, k ≤ a.length ∧ m ≤ k ∧ i = .int .i64 (k : Int) ∧ Below w.heap.size w wr) (fun i _ => (intOf i).toNat)
  case atStart => exact ⟨a.length, Nat.le_refl _, hcl', rfl, k2⟩
  case round =>
    obtain ⟨k, hk1, hk2, rfl, hbl⟩ := hrel
    by_cases h0 : 0 < k
    · obtain ⟨hc1, hc2⟩ := HC'.out k hk1 hk2
      have HL1 := Hid.mk (HL.out k h0 hk1)
      have HU1 := Hid.mk (HU.out k hk1)
      clear HL HU HC'
      generalize undB b (a.drop (a.length - k)) = u at *
      generalize nm (a.drop (a.length - k)) = n at *
      by_cases hkm : k = m
      · obtain ⟨rfl, rfl⟩ := hc1 hkm
        clear hc1 hc2 hkm
        go_wp2_with fail
        refine (HL1.out _).mono ?_
        rintro e w3 ⟨rfl, hb3⟩
        go_wp2_with fail
        refine (HU1.out _).mono ?_
        rintro e w4 ⟨rfl, hb4⟩
        go_wp2
        go_ret2
        exact ⟨rfl, bthen hbl (bthen hb3 hb4)⟩
      · obtain rfl := hc2 hkm
        clear hc1 hc2
        have hw1 : IntKind.i64.wrap ((k : Int) - 1) = ((k - 1 : Nat) : Int) := by rw [IntKind.wrap_i64]; omega
        go_wp2_with fail
        refine (HL1.out _).mono ?_
        rintro e w3 ⟨rfl, hb3⟩
        go_wp2_with fail
        refine (HU1.out _).mono ?_
        rintro e w4 ⟨rfl, hb4⟩
        go_wp2
        go_roundw
        case rel => exact ⟨k - 1, by omega, by omega, by first | rfl | go_num, bthen hbl (bthen hb3 hb4)⟩
        case measure => simp [intOf]; omega
    · have hk0 : k = 0 := by omega
      subst hk0
      have hm0 : m = 0 := by omega
      have HE := Hid.mk (HN.out (HZ.out hm0))
      clear HN HZ HC' HL HU
      go_wp2
      go_ret2
      exact ⟨by rw [HE.out]; rfl, hbl⟩

set_option maxHeartbeats 1000000 in
theorem rCommon_no (s t : ByteArray) (hs : s.size ≤ maxLen) (ht : t.size ≤ maxLen) (h : ¬ (IsName s ∧ IsName t)) (w : World) :
    Calls Try.prog 25 #[.string s, .string t] w fun e w' => e = .returned (.tuple #[.string ⟨#[]⟩, .int .i64 2]) ∧ Below w.heap.size w w' := by
  by_cases h1 : IsName s
  · have h2 : ¬ IsName t := fun h2 => h ⟨h1, h2⟩
    obtain ⟨a, ha, rfl⟩ := h1
    go_enter Try.func25, Try.ntmps25
    go_wp2_with fail
    refine (rLabels_yes a ha _).mono ?_
    rintro e w1 ⟨⟨va, rfl, hva⟩, hb1⟩
    obtain ⟨qa, ca, hqa⟩ := hva.form
    subst hqa
    clear hva
    go_wp2_with fail
    refine (rRight_no t ht h2 _).mono ?_
    rintro e w2 ⟨rfl, hb2⟩
    go_wp2
    go_ret2
    exact ⟨rfl, bthen hb1 hb2⟩
  · by_cases h2 : IsName t
    · obtain ⟨b, hb, rfl⟩ := h2
      go_enter Try.func25, Try.ntmps25
      go_wp2_with fail
      refine (rLabels_none s hs h1 _).mono ?_
      rintro e w1 ⟨rfl, hb1⟩
      go_wp2_with fail
      refine (rRight_yes b hb _).mono ?_
      rintro e w2 ⟨rfl, hb2⟩
      go_wp2
      go_ret2
      exact ⟨rfl, bthen hb1 hb2⟩
    · go_enter Try.func25, Try.ntmps25
      go_wp2_with fail
      refine (rLabels_none s hs h1 _).mono ?_
      rintro e w1 ⟨rfl, hb1⟩
      go_wp2_with fail
      refine (rRight_no t ht h2 _).mono ?_
      rintro e w2 ⟨rfl, hb2⟩
      go_wp2
      go_ret2
      exact ⟨rfl, bthen hb1 hb2⟩

end Go.Proofs.Ytghaphcifoknpaa
