/- Layer 11: All, where each round is a call of guidepostlaw11.TableGoes$1. -/
import Derived.Test.YtcebljcofkohiaaTbColl
import Derived.Deep.RegionHeld3
namespace Go.Proofs.Ytcebljcofkohiaa
set_option linter.unusedVariables false
open Go.RowKit

set_option maxRecDepth 100000 in
set_option maxHeartbeats 4000000 in
theorem allG_in {w : World} {T E M : Nat} {most : Int} {nn : Nat} {L : List Ent} (h : Tab w T E M most nn L) (B1 : Nat) (hB1 : Boxed w B1 24 (pt T)) (c1 c2 c3 c4 c5 : Value) (J : Nat → World → Prop) (Jx : World → Prop)
    (hJd : ∀ i W, J i W → J i W.drew) (hJ0 : ∀ W, Below w.heap.size w W → J 0 W)
    (hst : ∀ i (hi : i < L.length) W, J i W → (∃ v, Calls Try.prog 34 #[pt T, pt L[i].b] W (fun r W' => r = .returned (pt L[i].b) ∧ W' = W) ∧ W.cell? ⟨L[i].b, 0, none⟩ = some (.string L[i].k) ∧ W.cell? ⟨L[i].b, 1, none⟩ = some (.int .i64 v) ∧
        Calls Try.prog 21 #[.string L[i].k, .int .i64 v, c1, c2, c3, c4, c5] W.drew (fun r W' => ∃ bb, r = .returned (.bool bb) ∧ (bb = true → J (i + 1) W') ∧ (bb = false → Jx W') ∧ KT W W' ∧ W'.cell? ⟨L[i].b, 0, none⟩ = some (.string L[i].k) ∧ W'.cell? ⟨L[i].b, 1, none⟩ = some (.int .i64 v))) ∨ (Calls Try.prog 34 #[pt T, pt L[i].b] W (fun r W' => r = .returned nilP ∧ W' = W.drew) ∧ J (i + 1) W)) :
    Calls Try.prog 32 #[.func (.func 21) #[] #[c1, c2, c3, c4, c5], pt B1] w fun r w' => r = .returned (.tuple #[]) ∧ (J L.length w' ∨ Jx w') := by
  have cbx0 := hB1.cell
  have hlen := h.len
  have HT := Hid.mk h
  have HST := Hid.mk hst
  have HJD := Hid.mk hJd
  have HJ0 := Hid.mk hJ0
  clear hst hJd hJ0
  go_enter Try.func32, Try.ntmps32
  go_wp2_with fail
  refine (all_in w T).mono ?_
  rintro e w1 ⟨rfl, hw1⟩
  have hb1 : Below w.heap.size w w1 := by rw [hw1]; exact (Below.refl _ _).alloc (Nat.le_refl _) _
  have hn1 : w1.heap[w.heap.size]? = some (.cells #[.pointer (some ⟨T, 1, none⟩)] 76 (0, 0)) := by rw [hw1]; exact heap_alloc_last _ _
  have HC := Hid.mk (collect_in (h.blk hb1) w.heap.size hn1)
  clear hw1 h
  go_wp2_with fail
  refine HC.out.mono ?_
  rintro e w2 ⟨⟨v, rfl, hrow⟩, hb2⟩
  have hb02 : Below w.heap.size w w2 := hb1.trans (hb2.mono hb1.size)
  obtain ⟨q, cap, rfl⟩ := row_shape hrow
  have hbx2 : Boxed w2 B1 24 (pt T) := (hb02.block _ hB1.lt).trans hB1
  have hj2 := HJ0.out w2 hb02
  obtain ⟨n, hn⟩ : ∃ n, L.length = n := ⟨_, rfl⟩
  have HN := Hid.mk hn
  rw [hn] at hrow hlen ⊢
  clear hn
  go_wp2
  go_loopw [11] (fun j wr => ∃ i : Nat, i ≤ n ∧ j = .int .i64 (i : Int) ∧ J i wr ∧ Boxed wr B1 24 (pt T) ∧ wr.ownsRow w1.heap.size 52 1 (.slice q n cap) n (ptC L)) (fun j _ => n - (intOf j).toNat)
  case atStart => exact ⟨0, Nat.zero_le _, rfl, hj2, hbx2, hrow⟩
  case round =>
    obtain ⟨i, hi, rfl, hj, hbx, hr⟩ := hrel
    by_cases hlt : i < n
    · have hiL : i < L.length := by rw [HN.out]; exact hlt
      obtain ⟨g, cap', e', _, _, hce⟩ := row_cells hr (by omega)
      cases e'
      have ce : wr.cell? ⟨g, i, none⟩ = some (pt (L[i]'hiL).b) := hce i _ (by simp [hiL])
      have cb := hbx.cell
      have HI := Hid.mk (And.intro hlt (And.intro hbx hr))
      have hst1 := HST.out i hiL wr hj
      obtain ⟨b, hb⟩ : ∃ b, (L[i]'hiL).b = b := ⟨_, rfl⟩
      obtain ⟨k, hk⟩ : ∃ k, (L[i]'hiL).k = k := ⟨_, rfl⟩
      rw [hb] at ce
      rw [hb, hk] at hst1
      clear hb hk hce hr hbx hj hi
      rcases hst1 with ⟨v, hnow, h0, h1, hy⟩ | ⟨hnow, hj1⟩
      · have HNow := Hid.mk hnow
        have HY := Hid.mk hy
        clear hnow hy
        go_wp2_with fail
        refine HNow.out.mono ?_
        rintro r w3 ⟨rfl, rfl⟩
        go_wp2
        go_region_held3 (fun u => u.cell? ⟨b, 0, none⟩ = some (.string k) ∧ u.cell? ⟨b, 1, none⟩ = some (.int .i64 v)) (first | exact ⟨h0, h1⟩ | (constructor <;> assumption) | go_keep)
          (first | (go_at_call 21; refine HY.out.mono ?_; rintro r w4 ⟨bb, rfl, hbt, hbf, hfr, k40, k41⟩))
        cases bb with
        | true =>
          have H4 := Hid.mk (And.intro (hbt rfl) hfr)
          clear hbt hbf hfr
          go_wp2
          go_roundw
          case rel => exact ⟨i + 1, HI.out.1, by go_num, H4.out.1, H4.out.2.box HI.out.2.1 (.inl rfl), H4.out.2.row HI.out.2.2 (.inr rfl)⟩
          case measure => simp [intOf]; omega
        | false =>
          have H4 := Hid.mk (hbf rfl)
          clear hbt hbf hfr
          go_wp2
          refine bodyPost_ret (results_none rfl _ _ _) rfl ?_
          exact ⟨rfl, .inr H4.out⟩
      · have HNow := Hid.mk hnow
        have H4 := Hid.mk (HJD.out _ _ (HJD.out _ _ hj1))
        clear hnow hj1
        go_wp2_with fail
        refine HNow.out.mono ?_
        rintro r w3 ⟨rfl, rfl⟩
        go_wp2
        go_region
        go_wp2
        go_roundw
        case rel => exact ⟨i + 1, HI.out.1, by go_num, H4.out, HI.out.2.1, HI.out.2.2⟩
        case measure => simp [intOf]; omega
    · obtain rfl : i = n := by omega
      have H4 : Hid (J L.length wr) := by rw [HN.out]; exact hj
      clear hj
      go_wp2
      go_end0
      exact ⟨rfl, .inl H4.out⟩

end Go.Proofs.Ytcebljcofkohiaa
