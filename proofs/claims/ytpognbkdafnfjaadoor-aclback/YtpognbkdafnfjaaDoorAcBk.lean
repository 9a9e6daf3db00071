/- Layer 13: AclBack. -/
import Derived.Test.YtpognbkdafnfjaaDoorAcNe
namespace Go.Proofs.YtpognbkdafnfjaaDoor
set_option linter.unusedVariables false
set_option linter.unusedSimpArgs false
open Go.RowKit
attribute [local go_sem ↓] bin_ad bin_pf bin_adn bin_pfn
attribute [local go_sem] adEqV_run pfEqV_run adNeV_run pfNeV_run pfNe_zero adEq_zero

set_option maxRecDepth 100000 in
set_option maxHeartbeats 8000000 in
theorem back_walk (u : Bool) (x y : Nat) (hx : x < 2 ^ 64) (hy : y < 2 ^ 64) (t : ByteArray) (ht : t.size ≤ 140737488351232) (W : World) (hG : AG W) :
    Calls Tryd.prog 5 #[adV u x y, .string t] W fun e w' => e = .returned (.bool true) ∧ Below W.heap.size W w' := by
  have HE : Hid (∀ w, Below W.heap.size W w → Calls Tryd.prog 8 #[] w fun e w' => e = .returned (.bool true) ∧ Below w.heap.size w w') := fun w hb => examples_in w (hG.below hb)
  have HT : Hid (∀ (a : Ad) w, a.ok → Below W.heap.size W w → Calls Tryd.prog 15 #[adV a.v6 a.hi a.lo] w fun e w' => e = .returned (if a.right then .tuple #[.string ⟨(txt a).toArray⟩, .int .i64 0] else .tuple #[.string ⟨#[]⟩, .int .i64 1]) ∧ Below w.heap.size w w') := fun a w ha hb => text_in w a.v6 a.hi a.lo ha.1 ha.2 (hG.below hb)
  have HP : Hid (∀ (t : ByteArray) w, t.size ≤ 140737488355328 → Below W.heap.size W w → Calls Tryd.prog 16 #[.string t] w fun e w' => e = .returned (prV (prs t.data.toList)) ∧ Below w.heap.size w w') := fun t w h hb => parse_in t h w (hG.below hb)
  obtain ⟨V0, hV0, K0, HB0⟩ : ∃ V, W.alloc (adO u x y) = V ∧ Kp V V ∧ Hid (Below W.heap.size W V) := ⟨_, rfl, Kp.refl _, by unfold Hid; go_grown⟩
  have HS : Hid (∀ w, Kp V0 w → w.cell? ⟨W.heap.size, 0, none⟩ = some (.bool u) ∧ w.cell? ⟨W.heap.size, 1, none⟩ = some (.int .u64 (x : Int)) ∧ w.cell? ⟨W.heap.size, 2, none⟩ = some (.int .u64 (y : Int))) := fun w k => by
    have hc := ad_cells W u x y
    rw [hV0] at hc
    have hb : W.heap.size < V0.heap.size := by rw [← hV0]; simp
    exact ⟨k.cell hc.1 hb, k.cell hc.2.1 hb, k.cell hc.2.2 hb⟩
  -- the second half: what the text tells
  have HPT : Hid (∀ w, Kp V0 w → Calls Tryd.prog 16 #[.string t] w fun e w' => e = .returned (prV (prs t.data.toList)) ∧ Below w.heap.size w w') := fun w k => HP.out t w (by omega) (k.bel HB0.out)
  have HPS : Hid (∀ c, prs t.data.toList = some c → c.ok ∧ c.right ∧ (⟨(txt c).toArray⟩ : ByteArray) = t) := fun c hc => by
    obtain ⟨h1, h2, h3⟩ := prs_some hc
    exact ⟨h2, h1, by rw [h3]⟩
  generalize prs t.data.toList = PR at HPT HPS
  have HT0 := Hid.mk (fun w (k : Kp V0 w) => HT.out ⟨u, x, y⟩ w ⟨hx, hy⟩ (k.bel HB0.out))
  simp only at HT0
  have HT1 : Hid (∀ (c : Ad) w, c.ok → c.right → (⟨(txt c).toArray⟩ : ByteArray) = t → Kp V0 w → Calls Tryd.prog 15 #[adV c.v6 c.hi c.lo] w fun e w' => e = .returned (.tuple #[.string t, .int .i64 0]) ∧ Below w.heap.size w w') := fun c w h1 h2 h3 k => by
    have := HT.out c w h1 (k.bel HB0.out)
    rw [if_pos h2, h3] at this
    exact this
  have HPA : Hid (∀ w, Kp V0 w → Ad.right ⟨u, x, y⟩ → Calls Tryd.prog 16 #[.string ⟨(txt ⟨u, x, y⟩).toArray⟩] w fun e w' => e = .returned (.tuple #[adV u x y, .int .i64 0]) ∧ Below w.heap.size w w') := fun w k hr => by
    have hl := txt_le ⟨u, x, y⟩
    have hsz : (⟨(txt ⟨u, x, y⟩).toArray⟩ : ByteArray).size = (txt ⟨u, x, y⟩).length := rfl
    have := HP.out ⟨(txt ⟨u, x, y⟩).toArray⟩ w (by omega) (k.bel HB0.out)
    rw [show (⟨(txt ⟨u, x, y⟩).toArray⟩ : ByteArray).data.toList = txt ⟨u, x, y⟩ from rfl, prs_txt ⟨hx, hy⟩ hr] at this
    exact this
  clear HT HP hG hx hy ht
  go_enter Tryd.func5, Tryd.ntmps5
  go_wp2_with fail
  try rw [hV0]
  clear hV0
  refine (HE.out _ HB0.out).mono ?_
  rintro e w1 ⟨rfl, hb1⟩
  have K1 := K0.blk hb1
  have hs1 := HS.out _ K1
  clear hb1 K0
  go_wp2_with fail
  refine (HT0.out _ K1).mono ?_
  rintro e w2 ⟨rfl, hb2⟩
  have K2 := K1.blk hb2
  have hs2 := HS.out _ K2
  clear hb2 K1 hs1
  by_cases hr : Ad.right ⟨u, x, y⟩
  · rw [if_pos hr]
    have HPA1 := Hid.mk (fun w k => HPA.out w k hr)
    generalize (⟨(txt ⟨u, x, y⟩).toArray⟩ : ByteArray) = TX at HPA1 ⊢
    clear hr HPA HT0
    go_wp2_with fail
    refine (HPA1.out _ K2).mono ?_
    rintro e w3 ⟨rfl, hb3⟩
    have K3 := K2.blk hb3
    have hs3 := HS.out _ K3
    clear hb3 K2 hs2
    have K3a : Kp V0 (w3.alloc (.cells #[.bool u, .int .u64 (x : Int), .int .u64 (y : Int)] 32 (0, 0))) := K3.blk (by go_grown)
    have hs3a := HS.out _ K3a
    cases hPR : PR with
    | none =>
      rw [hPR] at HPT
      simp only [prV] at HPT
      clear hPR
      go_wp2_with fail
      refine (HPT.out _ K3a).mono ?_
      rintro e w4 ⟨rfl, hb4⟩
      have K4 := K3a.blk hb4
      go_wp2
      go_ret
      exact ⟨rfl, (K4.bel HB0.out).alloc (K4.bel HB0.out).size _⟩
    | some c =>
      obtain ⟨hc1, hc2, hc3⟩ := HPS.out c hPR
      rw [hPR] at HPT
      simp only [prV] at HPT
      have HT2 := Hid.mk (fun w k => HT1.out c w hc1 hc2 hc3 k)
      clear hPR hc1 hc2 hc3
      go_wp2_with fail
      refine (HPT.out _ K3a).mono ?_
      rintro e w4 ⟨rfl, hb4⟩
      have K4 := K3a.blk hb4
      have K4a : Kp V0 (w4.alloc (adO c.v6 c.hi c.lo)) := K4.blk (by go_grown)
      clear hb4
      go_wp2_with fail
      refine (HT2.out _ K4a).mono ?_
      rintro e w5 ⟨rfl, hb5⟩
      have K5 := K4a.blk hb5
      clear hb5
      go_wp2
      go_ret
      exact ⟨rfl, K5.bel HB0.out⟩
  · rw [if_neg hr]
    clear hr HPA HT0
    cases hPR : PR with
    | none =>
      rw [hPR] at HPT
      simp only [prV] at HPT
      clear hPR
      go_wp2_with fail
      refine (HPT.out _ K2).mono ?_
      rintro e w4 ⟨rfl, hb4⟩
      have K4 := K2.blk hb4
      go_wp2
      go_ret
      exact ⟨rfl, (K4.bel HB0.out).alloc (K4.bel HB0.out).size _⟩
    | some c =>
      obtain ⟨hc1, hc2, hc3⟩ := HPS.out c hPR
      rw [hPR] at HPT
      simp only [prV] at HPT
      have HT2 := Hid.mk (fun w k => HT1.out c w hc1 hc2 hc3 k)
      clear hPR hc1 hc2 hc3
      go_wp2_with fail
      refine (HPT.out _ K2).mono ?_
      rintro e w4 ⟨rfl, hb4⟩
      have K4 := K2.blk hb4
      have K4a : Kp V0 (w4.alloc (adO c.v6 c.hi c.lo)) := K4.blk (by go_grown)
      clear hb4
      go_wp2_with fail
      refine (HT2.out _ K4a).mono ?_
      rintro e w5 ⟨rfl, hb5⟩
      have K5 := K4a.blk hb5
      clear hb5
      go_wp2
      go_ret
      exact ⟨rfl, K5.bel HB0.out⟩
end Go.Proofs.YtpognbkdafnfjaaDoor
