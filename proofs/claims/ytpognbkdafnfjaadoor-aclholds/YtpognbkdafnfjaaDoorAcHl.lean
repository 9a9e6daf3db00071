/- Layer 13: AclHolds. -/
import Derived.Test.YtpognbkdafnfjaaDoorAcDo
import Derived.Test.YtpognbkdafnfjaaDoorAcEx
import Derived.Test.YtpognbkdafnfjaaDoorAcNe
namespace Go.Proofs.YtpognbkdafnfjaaDoor
set_option linter.unusedVariables false
set_option linter.unusedSimpArgs false
open Go.RowKit

set_option maxRecDepth 100000 in
set_option maxHeartbeats 8000000 in
theorem holds_walk (v : Bool) (h l : Nat) (n : Int) (hh : h < 2 ^ 64) (hl : l < 2 ^ 64) (u : Bool) (x y : Nat) (hx : x < 2 ^ 64) (hy : y < 2 ^ 64) (W : World) (hG : AG W) :
    Calls Tryd.prog 4 #[pfV v h l n, adV u x y] W fun e w' => e = .returned (.bool true) ∧ Below W.heap.size W w' := by
  have HE : Hid (∀ w, Below W.heap.size W w → Calls Tryd.prog 8 #[] w fun e w' => e = .returned (.bool true) ∧ Below w.heap.size w w') := fun w hb => examples_in w (hG.below hb)
  have H1 := Hid.mk (fun w => dho_in w v h l n u x y hh hl hx hy)
  have H2 := Hid.mk (fun w => holds_in w v h l n u x y hh hl hx hy)
  generalize decide (0 ≤ n ∧ holds ⟨v, h, l⟩ n.toNat ⟨u, x, y⟩) = R at H1 H2
  obtain ⟨V, hV, F, HB⟩ : ∃ V, (W.alloc (pfO v h l n)).alloc (adO u x y) = V ∧ Kp V V ∧ Hid (Below W.heap.size W V) := ⟨_, rfl, Kp.refl _, by unfold Hid; go_grown⟩
  have HS : Hid (∀ w, Kp V w → w.cell? ⟨W.heap.size, 0, none⟩ = some (.bool v) ∧ w.cell? ⟨W.heap.size, 1, none⟩ = some (.int .u64 (h : Int)) ∧ w.cell? ⟨W.heap.size, 2, none⟩ = some (.int .u64 (l : Int)) ∧ w.cell? ⟨W.heap.size, 3, none⟩ = some (.int .i64 n) ∧ w.cell? ⟨W.heap.size + 1, 0, none⟩ = some (.bool u) ∧ w.cell? ⟨W.heap.size + 1, 1, none⟩ = some (.int .u64 (x : Int)) ∧ w.cell? ⟨W.heap.size + 1, 2, none⟩ = some (.int .u64 (y : Int))) := fun w k => by
    have hc := ho_cells W v h l n u x y
    rw [hV] at hc
    have hb : W.heap.size + 1 < V.heap.size := by rw [← hV]; simp
    have hb0 : W.heap.size < V.heap.size := by omega
    exact ⟨k.cell hc.1.1 hb0, k.cell hc.1.2.1 hb0, k.cell hc.1.2.2.1 hb0, k.cell hc.1.2.2.2 hb0, k.cell hc.2.1 hb, k.cell hc.2.2.1 hb, k.cell hc.2.2.2 hb⟩
  clear hG hx hy hh hl
  go_enter Tryd.func4, Tryd.ntmps4
  go_wp2_with fail
  try rw [hV]
  clear hV
  refine (HE.out _ HB.out).mono ?_
  rintro e w1 ⟨rfl, hb1⟩
  have K1 := F.blk hb1
  have hs1 := HS.out _ K1
  clear hb1
  go_wp2_with fail
  refine (H1.out _).mono ?_
  rintro e w2 ⟨rfl, hb2⟩
  have K2 := K1.blk hb2
  have hs2 := HS.out _ K2
  clear hb2 hs1
  go_wp2_with fail
  refine (H2.out _).mono ?_
  rintro e w3 ⟨rfl, hb3⟩
  have K3 := K2.blk hb3
  clear hb3 hs2
  go_wp2
  go_ret
  exact ⟨by simp, K3.bel HB.out⟩
end Go.Proofs.YtpognbkdafnfjaaDoor
