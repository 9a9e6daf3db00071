/- Layer 13: AclNothing. -/
import Derived.Test.YtpognbkdafnfjaaDoorAcNe
namespace Go.Proofs.YtpognbkdafnfjaaDoor
set_option linter.unusedVariables false
set_option linter.unusedSimpArgs false
open Go.RowKit
attribute [local go_sem ↓] bin_ad bin_pf bin_adn bin_pfn
attribute [local go_sem] adEqV_run pfEqV_run adNeV_run pfNeV_run pfNe_zero adEq_zero

theorem no_fnd (a : Ad) : ∀ res, Fnd [] a res → res = noRes := by
  rintro res (⟨_, h⟩ | ⟨r, hr, _⟩)
  · exact h
  · simp at hr
theorem ok0 (v : Bool) : okP ⟨v, 0, 0⟩ 0 := by cases v <;> decide
theorem one_good (v : Bool) (act : Int) : Rl.good ⟨⟨v, 0, 0⟩, 0, act⟩ ↔ (act = 1 ∨ act = 2 ∨ act = 3) := by
  unfold Rl.good
  constructor
  · exact fun h => h.2
  · intro h
    exact ⟨⟨by simp, ok0 v⟩, h⟩
theorem one_ok (v : Bool) (act : Int) : OkRs [⟨⟨v, 0, 0⟩, 0, act⟩] ↔ (act = 1 ∨ act = 2 ∨ act = 3) := by
  constructor
  · intro h
    exact (one_good v act).1 (h.1 _ (by simp))
  · intro h
    exact ⟨fun r hr => by simp at hr; subst hr; exact (one_good v act).2 h, by simp⟩
set_option maxRecDepth 100000 in
theorem one_holds (v : Bool) (act : Int) (a : Ad) (ha : a.ok) : Rl.holds ⟨⟨v, 0, 0⟩, 0, act⟩ a ↔ a.right ∧ v = a.v6 := by
  unfold Rl.holds
  rw [holds_iff (zero_ok v) ha]
  constructor
  · rintro ⟨_, _, h1, h2, _⟩
    exact ⟨h1, h2⟩
  · rintro ⟨h1, h2⟩
    refine ⟨Int.le_refl 0, ok0 v, h1, h2, ?_⟩
    show pth ⟨v, 0, 0⟩ 0 = pth a 0
    rw [pth_zero, pth_zero]
theorem one_fnd (v : Bool) (act : Int) (a : Ad) (ha : a.ok) (res : Res) (h : Fnd [⟨⟨v, 0, 0⟩, 0, act⟩] a res) : res = if a.right ∧ v = a.v6 then ⟨act, ⟨v, 0, 0⟩, 0, true⟩ else noRes := by
  rcases h with ⟨h1, rfl⟩ | ⟨r, hr, hh, _, rfl⟩
  · rw [if_neg]
    intro hc
    exact h1 _ (by simp) ((one_holds v act a ha).2 hc)
  · simp at hr
    subst hr
    rw [if_pos ((one_holds v act a ha).1 hh)]

set_option maxRecDepth 100000 in
set_option maxHeartbeats 8000000 in
theorem nothing_walk (u : Bool) (x y : Nat) (hx : x < 2 ^ 64) (hy : y < 2 ^ 64) (act : Int) (hact : -9223372036854775808 ≤ act ∧ act ≤ 9223372036854775807) (v : Bool) (W : World) (hG : AG W) :
    Calls Tryd.prog 7 #[adV u x y, .int .i64 act, .bool v] W fun e w' => e = .returned (.bool true) ∧ Below W.heap.size W w' := by
  have HE : Hid (∀ w, Below W.heap.size W w → Calls Tryd.prog 8 #[] w fun e w' => e = .returned (.bool true) ∧ Below w.heap.size w w') := fun w hb => examples_in w (hG.below hb)
  have HN0 : Hid (∀ V : World, Calls Tryd.prog 9 #[.slice none 0 0] V fun e w' => ∃ X D, e = .returned (.tuple #[pt X, .int .i64 0]) ∧ Tr 0 w' X D (look []) ∧ Below V.heap.size V w') := fun V => by
    refine (new_in V none 0 [] (fun j hj => by simp at hj) (by simp) (by decide) (by decide)).mono ?_
    rintro e w' ⟨hb, h | h⟩
    · obtain ⟨_, D, he, hT, _⟩ := h
      exact ⟨_, D, he, hT.zero, hb⟩
    · exact absurd OkRs.nil h.1
  have hrok : ∀ r ∈ [(⟨⟨v, 0, 0⟩, 0, act⟩ : Rl)], r.ok := by
    intro r hr
    simp at hr
    subst hr
    exact ⟨zero_ok v, by simp, hact⟩
  have HN1 : Hid (∀ (V : World) (b : Nat), b = V.heap.size → Calls Tryd.prog 9 #[.slice (some ⟨b, 0, none⟩) 1 1] (V.alloc (.cells #[.bool v, .int .u64 0, .int .u64 0, .int .i64 0, .int .i64 act] 36 (0, 0))) fun e w' => NwB (V.alloc (.cells #[.bool v, .int .u64 0, .int .u64 0, .int .i64 0, .int .i64 act] 36 (0, 0))) [⟨⟨v, 0, 0⟩, 0, act⟩] e w') := fun V b hb => by
    subst hb
    have hat : RlsAt (V.alloc (.cells #[.bool v, .int .u64 0, .int .u64 0, .int .i64 0, .int .i64 act] 36 (0, 0))) (some ⟨V.heap.size, 0, none⟩) [⟨⟨v, 0, 0⟩, 0, act⟩] := rls_heap (heap_alloc_last _ _)
    exact new_b _ _ 1 _ hat hrok (by simp) (by decide)
  have HF0 : Hid (∀ (w : World) X D, Tr 0 w X D (look []) → Calls Tryd.prog 11 #[pt X, adV u x y] w fun e w' => e = .returned (.tuple #[.int .i64 2, .agg #[.bool false, .int .u64 0, .int .u64 0, .int .i64 0], .bool false]) ∧ Below w.heap.size w w') := fun w X D hT => by
    refine (find_in hT (by simp) (by simp) u x y hx hy).mono ?_
    rintro e w' ⟨res, h1, h2, h3⟩
    rw [no_fnd _ res h1] at h2
    exact ⟨h2, h3⟩
  have HR : Hid (∀ w, Calls Tryd.prog 17 #[adV u x y] w fun e w' => e = .returned (.bool (decide (Ad.right ⟨u, x, y⟩))) ∧ w' = w.alloc (adO u x y)) := fun w => right_in w u x y
  obtain ⟨V0, hV0, K0, HB0⟩ : ∃ V, W.alloc (adO u x y) = V ∧ Kp V V ∧ Hid (Below W.heap.size W V) := ⟨_, rfl, Kp.refl _, by unfold Hid; go_grown⟩
  have HS : Hid (∀ w, Kp V0 w → w.cell? ⟨W.heap.size, 0, none⟩ = some (.bool u) ∧ w.cell? ⟨W.heap.size, 1, none⟩ = some (.int .u64 (x : Int)) ∧ w.cell? ⟨W.heap.size, 2, none⟩ = some (.int .u64 (y : Int))) := fun w k => by
    have hc := ad_cells W u x y
    rw [hV0] at hc
    have hb : W.heap.size < V0.heap.size := by rw [← hV0]; simp
    exact ⟨k.cell hc.1 hb, k.cell hc.2.1 hb, k.cell hc.2.2 hb⟩
  have HF1 : Hid (∀ (w : World) X D, Tr 0 w X D (look [⟨⟨v, 0, 0⟩, 0, act⟩]) → (act = 1 ∨ act = 2 ∨ act = 3) → Calls Tryd.prog 11 #[pt X, adV u x y] w fun e w' => e = .returned (resV (if Ad.right ⟨u, x, y⟩ ∧ v = u then ⟨act, ⟨v, 0, 0⟩, 0, true⟩ else noRes)) ∧ Below w.heap.size w w') := fun w X D hT ha => by
    refine (find_in hT ((one_ok v act).2 ha).1 hrok u x y hx hy).mono ?_
    rintro e w' ⟨res, h1, h2, h3⟩
    rw [one_fnd v act ⟨u, x, y⟩ ⟨hx, hy⟩ res h1] at h2
    exact ⟨h2, h3⟩
  have hok := one_ok v act
  have HOK := Hid.mk hok
  clear hrok hx hy hG hact hok
  go_enter Tryd.func7, Tryd.ntmps7
  go_wp2_with fail
  try rw [hV0]
  clear hV0
  refine (HE.out _ HB0.out).mono ?_
  rintro e w1 ⟨rfl, hb1⟩
  have K1 := K0.blk hb1
  clear hb1 K0
  go_wp2_with fail
  refine (HN0.out _).mono ?_
  rintro e w2 ⟨X, D, rfl, T2, hb2⟩
  have K2 := K1.blk hb2
  clear hb2 K1
  go_wp2_with fail
  refine (HN1.out _ _ (by first | rfl | simp)).mono ?_
  rintro e w3 ⟨hb3, hres⟩
  have T3 : Tr 0 w3 X D (look []) := (T2.blk (w' := w2.alloc (.cells #[.bool v, .int .u64 0, .int .u64 0, .int .i64 0, .int .i64 act] 36 (0, 0))) (by go_grown)).blk hb3
  have K3 : Kp V0 w3 := (K2.blk (u' := w2.alloc (.cells #[.bool v, .int .u64 0, .int .u64 0, .int .i64 0, .int .i64 act] 36 (0, 0))) (by go_grown)).blk hb3
  obtain ⟨b2, hb2'⟩ : ∃ b2, w2.heap.size = b2 := ⟨_, rfl⟩
  rw [hb2']
  clear hb2' hb3 T2 K2
  have hs3 := HS.out _ K3
  have HF0' := Hid.mk (HF0.out _ _ _ T3)
  rcases hres with ⟨ho, Y, D', rfl, T'⟩ | ⟨hno, rfl⟩
  · have hac := HOK.out.1 ho
    have hac1 : ¬ act < 1 := by omega
    have hac3 : ¬ 3 < act := by omega
    have HOO := Hid.mk hac
    clear hac ho
    go_wp2_with fail
    refine HF0'.out.mono ?_
    rintro e w4 ⟨rfl, hb4⟩
    have K4 := K3.blk hb4
    have T4 := T'.blk hb4
    have K4a : Kp V0 (w4.alloc (.cells #[.bool false, .int .u64 0, .int .u64 0, .int .i64 0] 34 (0, 0))) := K4.blk (by go_grown)
    have T4a : Tr 0 (w4.alloc (.cells #[.bool false, .int .u64 0, .int .u64 0, .int .i64 0] 34 (0, 0))) Y D' (look [⟨⟨v, 0, 0⟩, 0, act⟩]) := T4.blk (by go_grown)
    have hs4 := HS.out _ K4a
    have HF1' := Hid.mk (HF1.out _ _ _ T4a HOO.out)
    clear hb4 T' T4 T3 HF0' T4a K4 K3 hs3
    by_cases hc : Ad.right ⟨u, x, y⟩ ∧ v = u
    · rw [if_pos hc] at HF1'
      rw [decide_eq_true hc.1] at HR
      obtain ⟨hc1, rfl⟩ := hc
      clear hc1
      simp only [resV, fdV] at HF1'
      go_wp2_with fail
      refine HF1'.out.mono ?_
      rintro e w5 ⟨rfl, hb5⟩
      have K5 : Kp V0 (w5.alloc (.cells #[.bool v, .int .u64 0, .int .u64 0, .int .i64 0] 34 (0, 0))) := (K4a.blk hb5).blk (by go_grown)
      have hs5 := HS.out _ K5
      clear hb5
      go_wp2_with fail
      refine (HR.out _).mono ?_
      rintro e w6 ⟨rfl, rfl⟩
      have K6 : Kp V0 ((w5.alloc (.cells #[.bool v, .int .u64 0, .int .u64 0, .int .i64 0] 34 (0, 0))).alloc (adO v x y)) := K5.blk (by go_grown)
      have hs6 := HS.out _ K6
      go_wp2
      go_ret
      exact ⟨rfl, K6.bel HB0.out⟩
    · rw [if_neg hc] at HF1'
      simp only [resV, fdV, noRes] at HF1'
      go_wp2_with fail
      refine HF1'.out.mono ?_
      rintro e w5 ⟨rfl, hb5⟩
      have K5 : Kp V0 (w5.alloc (.cells #[.bool false, .int .u64 0, .int .u64 0, .int .i64 0] 34 (0, 0))) := (K4a.blk hb5).blk (by go_grown)
      have hs5 := HS.out _ K5
      clear hb5
      have K6 : Kp V0 ((w5.alloc (.cells #[.bool false, .int .u64 0, .int .u64 0, .int .i64 0] 34 (0, 0))).alloc (adO u x y)) := K5.blk (by go_grown)
      have hs6 := HS.out _ K6
      by_cases hr : Ad.right ⟨u, x, y⟩
      · rw [decide_eq_true hr] at HR
        have hvu : (u = true ∧ v = false) ∨ (u = false ∧ v = true) := by
          cases u <;> cases v <;> first | exact absurd ⟨hr, rfl⟩ hc | simp
        clear hc hr
        rcases hvu with ⟨rfl, rfl⟩ | ⟨rfl, rfl⟩
        · go_wp2_with fail
          refine (HR.out _).mono ?_
          rintro e w6 ⟨rfl, rfl⟩
          go_wp2
          go_ret
          exact ⟨rfl, K6.bel HB0.out⟩
        · go_wp2_with fail
          refine (HR.out _).mono ?_
          rintro e w6 ⟨rfl, rfl⟩
          go_wp2
          go_ret
          exact ⟨rfl, K6.bel HB0.out⟩
      · rw [decide_eq_false hr] at HR
        clear hc hr
        go_wp2_with fail
        refine (HR.out _).mono ?_
        rintro e w6 ⟨rfl, rfl⟩
        go_wp2
        go_ret
        exact ⟨rfl, K6.bel HB0.out⟩
  · have hac : ¬ (act = 1 ∨ act = 2 ∨ act = 3) := fun h => hno (HOK.out.2 h)
    go_wp2_with fail
    refine HF0'.out.mono ?_
    rintro e w4 ⟨rfl, hb4⟩
    have K4 := K3.blk hb4
    by_cases h1 : act < 1
    · go_wp2
      go_ret
      exact ⟨rfl, (K4.bel HB0.out).alloc (K4.bel HB0.out).size _⟩
    · have h3 : 3 < act := by omega
      go_wp2
      go_ret
      exact ⟨rfl, (K4.bel HB0.out).alloc (K4.bel HB0.out).size _⟩
end Go.Proofs.YtpognbkdafnfjaaDoor
