/- Texts of this proof, joined: McRwFresh. -/
import Derived.ProofKit
import Derived.OpenShut
import Derived.ShutString
import Derived.Test.YtikjepodmdaknaaGreatDoorJ1
import Derived.Test.YtikjepodmdaknaaGreatDoorJ28
import Derived.Test.YtikjepodmdaknaaGreatDoorJ35
set_option linter.unusedVariables false
set_option linter.unusedSimpArgs false
/- Layer 17: MsgcacheFresh: from its walk to its row. -/
namespace Go.Proofs.YtikjepodmdaknaaGreatDoor
open Go.RowKit
theorem mfresh_law (W : World) (q : Option Addr) (cap : Nat) (l : List Mc.Dd) (hat : Mc.DdsAt W q l) (hin : ∀ d ∈ l, Mc.DdI d) (hsh : Rc.ShC l.length cap q) (hG : ZG W) : Calls Tryz.prog 5 #[.slice q l.length cap] W fun e w' => e = .returned (.bool true) ∧ Below W.heap.size W w' := Mc.fresh_walk W q cap l hat hin hsh
namespace msgcacheFresh
open Go.ChangeShapes Go.WideShapes Go.ChangeAt Go.RowKit
open Go.ChangeMaps (open_string shut_string)
theorem own : ownKnob Tryz.prog.godebug = none := by kernel_rfl
theorem laid_met (os : Os) : laidMet Tryz.prog Rows.msgcacheFreshRow.laid ((laidWorld os).forCall (fun _ _ => 0) ⟨#[], #[.slice none 0 0], []⟩).memory :=
 laidMet_of_run' 8 (by kernel_rfl) (by kernel_rfl)
theorem reads (os : Os) {H : Type} (enc : TypeId × Value → H) : ∃ places, DataW.whole enc Tryz.prog ((laidWorld os).forCall (fun _ _ => 0) ⟨#[], #[.slice none 0 0], []⟩).memory Tryz.f5.params.toList Rows.msgcacheFreshSpec.vars false #[Value.slice none 0 0].toList 8 = some ([.nil], [], places) :=
 ⟨[], by kernel_rfl⟩
theorem plainH {W : World} (h : laidMetH Tryz.prog Rows.msgcacheFreshRow.laid W) : laidMet Tryz.prog Rows.msgcacheFreshRow.laid W := by
 unfold laidMetH at h
 rw [show (Rows.msgcacheFreshRow.laid.filter fun x => x.2.handleName?.isSome) = [] by kernel_rfl] at h
 exact h
theorem globs {W : World} (h : laidMetH Tryz.prog Rows.msgcacheFreshRow.laid W) (hs : W.ShapedOpen Tryz.prog) : ZG W :=
 zg_of (plainH h) hs
set_option maxRecDepth 100000 in
theorem contract (H : Type) (enc : TypeId × Value → H) (W : World) (base : Nat) (args : Array Value) (ds gs : List (DataW H)) (before : List MemPlace)
  (hval : ∀ (j : Nat) t v, Tryz.f5.params[j]? = some t → args[j]? = some v → Value.okWide Tryz.prog W .any base t v)
  (hW : DataW.Whole enc Tryz.prog Tryz.f5.params.toList Rows.msgcacheFreshSpec.vars false W args.toList ds gs before) (hG : ZG W) (hsz : (DataW.weightsEach Tryz.prog (Tryz.f5.params.toList ++ (OpenSpec.ofChange Rows.msgcacheFreshSpec).bare.plain.varTypes Tryz.prog) (ds ++ gs)).all (· ≤ reachBytes) = true) :
  Calls Tryz.prog 5 args W fun e W' => ∃ v, e = .returned v ∧ Rows.msgcacheFreshSpec.post enc Tryz.prog Tryz.f5 false true false false W args v W' := by
 have hW' := hW
 obtain ⟨p, q, hA0, hV, rfl, hfz, hnd⟩ := hW
 have hA : DataW.TrodAll enc Tryz.prog W 0 (fun _ => true) true Tryz.f5.params.toList args.toList ds p := hA0
 rw [Tryz.params5] at hA hval hsz
 obtain ⟨v0, vs0, d0, ds0, p0, q0, hargs, rfl, rfl, h0, r0⟩ := trodAll_cons hA
 obtain ⟨rfl, rfl, rfl⟩ := trodAll_nil r0
 obtain rfl : args = #[v0] := by cases args; simp_all
 obtain ⟨rfl, rfl⟩ := trodVars_none hV
 have hlt : ∀ x ∈ p0, x.block < W.heap.size := fun x hx => by simpa using hW'.lt x (by simp only [List.append_nil] at hx ⊢; simpa [List.append_assoc] using hx)
 have h0k := h0
 obtain ⟨q0, len0, cap0, rfl⟩ := okWide_slice Tryz.underlying55 (hval 0 55 v0 rfl rfl)
 obtain ⟨fuel0, hf0⟩ := h0
 obtain ⟨l0, hlen0, hat0, hin0, hsh0⟩ := Mc.open_dds hf0
 subst hlen0
 clear hA0
 simp only [List.append_nil] at hW'
 refine (mfresh_law W q0 cap0 l0 hat0 hin0 hsh0 hG).mono fun e W' ⟨he, bel⟩ => ?_
 subst he
 exact ⟨_, rfl, _, _, _, [], _, [], hW', trodAll_mk1 (shut_bool Tryz.underlying4 _), (trodAll_cons_mk (Below.trod laidOut (by kernel_rfl) (of_decide_eq_true (by kernel_rfl)) h0k bel (fun x hx => hlt x (by simp [hx]))) trodAll_mk0), rfl, bel.frame _, fun h => by cases h⟩
set_option maxRecDepth 100000 in
theorem lifted (os : Os) (started : os.Started) (H : Type) (enc : TypeId × Value → H) (F : Stop.Interp) :
  ReturnsInHanded {} Tryz.checked os 5 .any ((OpenSpec.ofChange Rows.msgcacheFreshSpec).preRow enc Tryz.prog Tryz.f5 Rows.msgcacheFreshRow.domain false Rows.msgcacheFreshRow.laid) (((OpenSpec.ofChange Rows.msgcacheFreshSpec).at F).post enc Tryz.prog Tryz.f5 false true false false) := by
 obtain ⟨places, hx⟩ := reads os enc
 refine returnsInHanded_of_row (C := Tryz.checked) (s := (OpenSpec.ofChange Rows.msgcacheFreshSpec)) own started (by kernel_rfl) Tryz.func5
  (witness_row_at (enc := enc) (C := Tryz.checked) false (laidWorld os) #[.slice none 0 0] rfl (by kernel_rfl) (by kernel_rfl) (by kernel_rfl)
   (OpenSpec.preRow_of_cond 8 hx (by kernel_rfl) (fun k hk => by cases hk) (by kernel_rfl) (laid_met os))) ?_
 intro W base args ds gs before hval hW _ _ hsz hL hS _
 exact contract H enc W base args ds gs before hval hW (globs hL hS) hsz
end msgcacheFresh
end Go.Proofs.YtikjepodmdaknaaGreatDoor
