/- The document's own Moved (guidepostref01): what is moved. -/
import Derived.Test.YtpngjmeinlcggaaRefMake
namespace Go.Proofs.Ytpngjmeinlcggaa
set_option linter.unusedVariables false
open Go.RowKit

set_option maxHeartbeats 2000000 in
theorem rMoved_go (a b c : List (List UInt8)) (ha : OkN a) (hb : OkN b) (hc : OkN c) (hu : undB a b = true) (hlt : b.length < a.length) (w : World) :
    Calls Try.prog 33 #[.string (nm a), .string (nm b), .string (nm c)] w fun e w' => e = .returned (resV (ofR (mvN a b c))) ∧ Below w.heap.size w w' := by
  have hca := ha.count
  have hcb := hb.count
  have hcc := hc.count
  have hU := rUnder_yes a b ha hb
  rw [hu] at hU
  have HU := Hid.mk hU
  clear hU hu
  have HOf := Hid.mk (fun v w h => rOf_in v (mvN a b c) w h (by simp [mvN]; unfold maxLen; omega) (fun x hx => by
    rcases List.mem_append.1 hx with h | h
    · exact ha.lab x (List.mem_of_mem_take h)
    · exact hc.lab x h))
  generalize ofR (mvN a b c) = r at HOf ⊢
  obtain ⟨rx, rc⟩ := r
  have he : (((a.length : Nat) : Int) == ((b.length : Nat) : Int)) = false := by rw [beq_eq_false_iff_ne]; omega
  have hw1 : IntKind.i64.wrap ((a.length : Int) - (b.length : Int)) = ((a.length - b.length : Nat) : Int) := by rw [IntKind.wrap_i64]; omega
  go_enter Try.func33, Try.ntmps33
  go_wp2_with fail
  refine (rLabels_own a ha _).mono ?_
  rintro e w1 ⟨⟨va, rfl, hva⟩, hb1⟩
  obtain ⟨g, cap, hvv, hcap⟩ : ∃ g cap, va = .slice (some ⟨g, 0, none⟩) a.length cap ∧ a.length ≤ cap := by
    rcases hva.2 with ⟨_, h⟩ | ⟨g, cap, cur, hv', _, _, hc, _⟩
    · omega
    · exact ⟨g, cap, hv', hc⟩
  have hst := strs_of_row hva
  subst hvv
  go_wp2_with fail
  refine (rLabels_yes b hb _).mono ?_
  rintro e w2 ⟨⟨vb, rfl, hvb⟩, hb2⟩
  obtain ⟨qb, pb, hqb⟩ := hvb.form
  subst hqb
  go_wp2_with fail
  refine (rLabels_yes c hc _).mono ?_
  rintro e w3 ⟨⟨vc, rfl, hvc⟩, hb3⟩
  go_wp2_with fail
  refine (HU.out _).mono ?_
  rintro e w4 ⟨rfl, hb4⟩
  have hst4 : Strs w4.heap.size w4 (.slice (some ⟨g, 0, none⟩) (a.length - b.length) cap) (a.take (a.length - b.length)) := by
    have h34 := bthen hb2 (bthen hb3 hb4)
    have h5 := (hst.below h34).mono h34.size
    rcases h5 with ⟨h, _⟩ | ⟨g', cap', h, hg, hc'⟩
    · cases h
    · cases h
      refine .inr ⟨g, cap, by rw [List.length_take, Nat.min_eq_left (by omega)], hg, fun j hj => ?_⟩
      have hj' : j < a.length - b.length := by rw [List.length_take] at hj; omega
      rw [hc' j (by omega), List.getElem_take]
  have hvc4 := (hvc.below hb4).mono hb4.size
  have k4 := bthen hb1 (bthen hb2 (bthen hb3 hb4))
  have hltk : (a.take (a.length - b.length)).length ≤ 1000 := by rw [List.length_take]; omega
  clear hva hst hvb hvc hb1 hb2 hb3 hb4
  go_wp2_with (at_builtin; first
    | (refine wpList_append_strs rfl _ _ rfl w4.heap.size _ _ 0 w4.heap.size [] (a.take (a.length - b.length)) rfl (World.ownsRow_nil ..) rfl hst4 (by omega) hltk (Nat.le_refl _) ?_; intro v5 w5 hrow5 hb5)
    | (refine wpList_append_strs rfl _ _ rfl w4.heap.size _ _ _ w4.heap.size _ c rfl hrow5 rfl (hvc4.below hb5) (by omega) (by omega) hb5.size ?_; intro v6 w6 hrow6 hb6))
  have hstr : Strs w6.heap.size w6 v6 (mvN a b c) := strs_of_row (n := w4.heap.size) (by
    rw [mvN, List.length_append, strsV_append]; simpa using hrow6)
  clear hrow5 hrow6 hst4 hvc4
  refine (HOf.out _ _ hstr).mono ?_
  rintro e w7 ⟨rfl, hb7⟩
  clear hstr
  dsimp only [resV]
  go_wp2
  go_ret2
  have k6 : Below w.heap.size w w6 := k4.trans ((hb5.trans hb6).mono k4.size)
  exact ⟨rfl, bthen k6 hb7⟩

end Go.Proofs.Ytpngjmeinlcggaa
