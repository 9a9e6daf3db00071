/- TimerOrder answers true for every list of times and every list of steps: all that is to be due comes, once, in the order of its time, whenever it is asked for; no condition. -/
import Derived.Test.YtdgkknjmhdmlfaaTiOrd
namespace Go.Proofs.Ytdgkknjmhdmlfaa
set_option linter.unusedVariables false
open Go.RowKit

namespace timerOrder
open Go.ChangeShapes Go.WideShapes Go.ChangeAt Go.RowKit
open Go.ChangeMaps (open_string shut_string)

theorem own : ownKnob Try.prog.godebug = none := by kernel_rfl

set_option maxRecDepth 100000 in
theorem lifted (os : Os) (started : os.Started) (H : Type) (enc : TypeId × Value → H) :
    ReturnsInHanded {} Try.checked os 6 .any (Rows.timerOrderSpec.pre6 enc Try.prog Try.f6 Rows.timerOrderRow.domain false) (Rows.timerOrderSpec.post enc Try.prog Try.f6 false true false false) := by
  refine returnsInHanded_of_change_sized (C := Try.checked) own started (by kernel_rfl) Try.func6
    (ChangeSpec.witness6 (enc := enc) (C := Try.checked) false ⟨#[], #[.slice none 0 0, .slice none 0 0], []⟩ 8 (by kernel_rfl) (by kernel_rfl) (by kernel_rfl) (by kernel_rfl)) ?_
  intro W base args ds gs before hval0 hW hcnd hsz0 _
  have hval : ∀ (j : Nat) t v, Try.f6.params[j]? = some t → args[j]? = some v → Value.okWide Try.prog W .any base t v := hval0
  have hW' := hW
  obtain ⟨p, q, hA0, hV, rfl, hfz, hnd⟩ := hW
  have hA : DataW.TrodAll enc Try.prog W 0 (fun _ => true) true Try.f6.params.toList args.toList ds p := hA0
  have hsz : (DataW.weightsEach Try.prog (Try.f6.params.toList ++ Rows.timerOrderSpec.plain.varTypes Try.prog) (ds ++ gs)).all (· ≤ reachBytes) = true := hsz0
  clear hsz0
  rw [Try.params6] at hA hval hsz
  obtain ⟨v0, vs0, d0, ds0, p0, q0, hargs, rfl, rfl, h0, r0⟩ := trodAll_cons hA
  obtain ⟨v1, vs1, d1, ds1, p1, q1, rfl, rfl, rfl, h1, r1⟩ := trodAll_cons r0
  obtain ⟨rfl, rfl, rfl⟩ := trodAll_nil r1
  obtain rfl : args = #[v0, v1] := by cases args; simp_all
  obtain ⟨rfl, rfl⟩ := trodVars_none hV
  have hlt : ∀ x ∈ p0 ++ p1, x.block < W.heap.size := fun x hx => by simpa using hW'.lt x (by simp only [List.append_nil] at hx ⊢; simpa [List.append_assoc] using hx)
  obtain ⟨a0, len0, cap0, rfl⟩ := okWide_slice Try.underlying41 (hval 0 41 v0 rfl rfl)
  have h0k := h0
  obtain ⟨fuel0, hf0⟩ := h0
  obtain ⟨ls0, hlen0, hgiv0, hrg0, hcp0, hsh0⟩ := open_givenQ hf0
  have w0 : ls0.length * 8 ≤ 140737488355328 := by
    rw [hlen0]
    rcases hsh0 with h0 | ⟨elems, spare, hd, he⟩
    · omega
    · have := sized_slice hsz (j := 0) (t := 41) (e := 3) rfl (by simp only at hd; rw [hd]; rfl) Try.underlying41
      rw [bytes_int] at this
      simp only [reachBytes] at this
      omega
  subst hlen0
  obtain ⟨a1, len1, cap1, rfl⟩ := okWide_slice Try.underlying41 (hval 1 41 v1 rfl rfl)
  have h1k := h1
  obtain ⟨fuel1, hf1⟩ := h1
  obtain ⟨ls1, hlen1, hgiv1, hrg1, hcp1, hsh1⟩ := open_givenQ hf1
  have w1 : ls1.length * 8 ≤ 140737488355328 := by
    rw [hlen1]
    rcases hsh1 with h0 | ⟨elems, spare, hd, he⟩
    · omega
    · have := sized_slice hsz (j := 1) (t := 41) (e := 3) rfl (by simp only at hd; rw [hd]; rfl) Try.underlying41
      rw [bytes_int] at this
      simp only [reachBytes] at this
      omega
  subst hlen1
  clear hA0 hval0
  simp only [List.append_nil] at hW'
  refine (order_walk a0 cap0 ls0 hrg0 hcp0 w0 a1 cap1 ls1 hrg1 hcp1 w1 W hgiv0 hgiv1).mono fun e W' ⟨he, bel⟩ => ?_
  subst he
  exact ⟨_, rfl, _, _, _, [], _, [], hW', trodAll_mk1 (shut_bool Try.underlying4 _), (trodAll_cons_mk (Below.trod laidOut (by kernel_rfl) (of_decide_eq_true (by kernel_rfl)) h0k bel (fun x hx => hlt x (by simp [hx]))) (trodAll_cons_mk (Below.trod laidOut (by kernel_rfl) (of_decide_eq_true (by kernel_rfl)) h1k bel (fun x hx => hlt x (by simp [hx]))) trodAll_mk0)), rfl, bel.frame _, fun h => by cases h⟩

theorem over : Rows.timerOrderRow.holds Try.pinned (OpenSpec.ofChange Rows.timerOrderSpec) :=
  OpenClaim.holds_of_wide 6 Try.f6 rfl rfl rfl rfl rfl rfl rfl ⟨rfl, rfl, rfl, rfl, rfl⟩ rfl rfl rfl rfl rfl (by kernel_rfl) Try.func6 (by kernel_rfl)
    (of_decide_eq_true (by kernel_rfl)) (by unfold Func.isWrapper; first | (rw [if_pos (by decide +kernel)]; kernel_rfl) | (rw [if_neg (by decide +kernel)]; exact ⟨rfl, rfl⟩))
    (fun os started H enc _ => lifted os started H enc)
end timerOrder

theorem timerOrder_holds : Rows.TimerOrderSaid := timerOrder.over

end Go.Proofs.Ytdgkknjmhdmlfaa
