/- Layer 13: first. -/
import Derived.Test.YtpognbkdafnfjaaDoorAcW
namespace Go.Proofs.YtpognbkdafnfjaaDoor
set_option linter.unusedVariables false
open Go.RowKit

set_option maxRecDepth 100000 in
set_option maxHeartbeats 2000000 in
theorem first_in (w : World) (v : Bool) (h l n : Nat) (hh : h < 2 ^ 64) (hl : l < 2 ^ 64) (hn : n ≤ Ad.wd ⟨v, h, l⟩) :
    Calls Tryd.prog 25 #[adV v h l, .int .i64 (n : Int)] w fun e w' => e = .returned (adV v (clr h (Ad.wd ⟨v, h, l⟩ - n - 64)) (clr l (Ad.wd ⟨v, h, l⟩ - n))) ∧ Below w.heap.size w w' := by
  have hwd : Ad.wd ⟨v, h, l⟩ ≤ 128 := by unfold Ad.wd; split <;> omega
  have HW := Hid.mk (fun w => width_in w v h l)
  generalize Ad.wd ⟨v, h, l⟩ = W at *
  obtain ⟨R, hR⟩ : ∃ R, W - n = R := ⟨_, rfl⟩
  rw [hR]
  obtain rfl : W = R + n := by omega
  have hR8 : R ≤ 128 := by omega
  have H1 : Hid (∀ (w : World), Calls Tryd.prog 35 #[.int .u64 (h : Int), .int .i64 ((R - 64 : Nat) : Int)] w fun e w' => e = .returned (.int .u64 ((clr h (R - 64) : Nat) : Int)) ∧ w' = w) := fun w => cleared_in w h (R - 64) hh (by omega)
  have H2 : Hid (∀ (w : World), Calls Tryd.prog 35 #[.int .u64 (l : Int), .int .i64 (R : Int)] w fun e w' => e = .returned (.int .u64 ((clr l R : Nat) : Int)) ∧ w' = w) := fun w => cleared_in w l R hl (by omega)
  generalize clr h (R - 64) = A at *
  generalize clr l R = B at *
  clear hn hwd hR hh hl
  by_cases h64 : 64 ≤ R
  · obtain ⟨D, hD⟩ : ∃ D, R - 64 = D := ⟨_, rfl⟩
    rw [hD] at H1
    have hw : IntKind.i64.wrap ((R : Int) - 64) = D := by rw [wrapI (by omega) (by omega)]; omega
    have hnl : ¬ ((D : Int) < 0) := by omega
    clear hD h64
    go_enter Tryd.func25, Tryd.ntmps25
    go_wp2_with fail
    refine (HW.out _).mono ?_
    rintro e w1 ⟨rfl, rfl⟩
    go_upto_region 2 with fail
    go_region_held3 (fun u => u.cell? ⟨w.heap.size, 0, none⟩ = some (.bool v) ∧ u.cell? ⟨w.heap.size, 1, none⟩ = some (.int .u64 (h : Int)) ∧ u.cell? ⟨w.heap.size, 2, none⟩ = some (.int .u64 (l : Int))) (first | assumption | go_keep)
      (first
      | (go_at_call 35; refine (H1.out _).mono ?_; rintro e w' ⟨rfl, rfl⟩)
      | (go_at_call 35; refine (H2.out _).mono ?_; rintro e w' ⟨rfl, rfl⟩))
    go_wp2
    refine bodyPost_ret (results_ad Tryd.results25 rfl (heap_mid ..)) rfl ⟨rfl, by go_grown⟩
  · have H0 : Hid (∀ (w : World), Calls Tryd.prog 35 #[.int .u64 (h : Int), .int .i64 0] w fun e w' => e = .returned (.int .u64 ((A : Nat) : Int)) ∧ w' = w) := by rw [show R - 64 = 0 by omega] at H1; exact H1
    have H1 := H0
    have hw : IntKind.i64.wrap ((R : Int) - 64) = (R : Int) - 64 := wrapI (by omega) (by omega)
    have hnl : (R : Int) - 64 < 0 := by omega
    clear h64 H0
    go_enter Tryd.func25, Tryd.ntmps25
    go_wp2_with fail
    refine (HW.out _).mono ?_
    rintro e w1 ⟨rfl, rfl⟩
    go_upto_region 2 with fail
    go_region_held3 (fun u => u.cell? ⟨w.heap.size, 0, none⟩ = some (.bool v) ∧ u.cell? ⟨w.heap.size, 1, none⟩ = some (.int .u64 (h : Int)) ∧ u.cell? ⟨w.heap.size, 2, none⟩ = some (.int .u64 (l : Int))) (first | assumption | go_keep)
      (first
      | (go_at_call 35; refine (H1.out _).mono ?_; rintro e w' ⟨rfl, rfl⟩)
      | (go_at_call 35; refine (H2.out _).mono ?_; rintro e w' ⟨rfl, rfl⟩))
    go_wp2
    refine bodyPost_ret (results_ad Tryd.results25 rfl (heap_mid ..)) rfl ⟨rfl, by go_grown⟩
end Go.Proofs.YtpognbkdafnfjaaDoor
