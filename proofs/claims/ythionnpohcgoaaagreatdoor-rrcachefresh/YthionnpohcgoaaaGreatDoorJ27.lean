/- Texts of this proof, joined: RcRowFresh. -/
import Derived.ProofKit
import Derived.OpenShut
import Derived.ShutString
import Derived.Test.YthionnpohcgoaaaGreatDoorJ1
import Derived.Test.YthionnpohcgoaaaGreatDoorJ12
import Derived.Test.YthionnpohcgoaaaGreatDoorJ26
set_option linter.unusedVariables false
set_option linter.unusedSimpArgs false
/- Layer 16: RrcacheFresh: from its walk to its row. -/
namespace Go.Proofs.YthionnpohcgoaaaGreatDoor
open Go.RowKit
theorem fresh_law (W : World) (q : Option Addr) (cap : Nat) (l : List Rc.Dd) (hat : Rc.DdsAt W q l) (hin : ∀ d ∈ l, Rc.DdI d) (hsh : Rc.ShC l.length cap q) (kind : Int) (hkind : I64 kind) (hG : ZG W) : Calls Tryz.prog 4 #[.slice q l.length cap, .int .i64 kind] W fun e w' => e = .returned (.bool true) ∧ Below W.heap.size W w' := Rc.fresh_walk W kind hkind q cap l hat hin hsh
namespace rrcacheFresh
open Go.ChangeShapes Go.WideShapes Go.ChangeAt Go.RowKit
open Go.ChangeMaps (open_string shut_string)
theorem own : ownKnob Tryz.prog.godebug = none := by kernel_rfl
theorem laid_met (os : Os) : laidMet Tryz.prog Rows.rrcacheFreshRow.laid ((laidWorld os).forCall (fun _ _ => 0) ⟨#[], #[.slice none 0 0, .int .i64 0], []⟩).memory :=
 laidMet_of_run' 8 (by kernel_rfl) (by kernel_rfl)
theorem reads (os : Os) {H : Type} (enc : TypeId × Value → H) : ∃ places, DataW.whole enc Tryz.prog ((laidWorld os).forCall (fun _ _ => 0) ⟨#[], #[.slice none 0 0, .int .i64 0], []⟩).memory Tryz.f4.params.toList Rows.rrcacheFreshSpec.vars false #[Value.slice none 0 0, .int .i64 0].toList 8 = some ([.nil, .lit (.int .i64 0)], [], places) :=
 ⟨[], by kernel_rfl⟩
theorem plainH {W : World} (h : laidMetH Tryz.prog Rows.rrcacheFreshRow.laid W) : laidMet Tryz.prog Rows.rrcacheFreshRow.laid W := by
 unfold laidMetH at h
 rw [show (Rows.rrcacheFreshRow.laid.filter fun x => x.2.handleName?.isSome) = [] by kernel_rfl] at h
 exact h
theorem globs {W : World} (h : laidMetH Tryz.prog Rows.rrcacheFreshRow.laid W) (hs : W.ShapedOpen Tryz.prog) : ZG W :=
 zg_of (plainH h) hs
set_option maxRecDepth 100000 in
theorem contract (H : Type) (enc : TypeId × Value → H) (W : World) (base : Nat) (args : Array Value) (ds gs : List (DataW H)) (before : List MemPlace)
  (hval : ∀ (j : Nat) t v, Tryz.f4.params[j]? = some t → args[j]? = some v → Value.okWide Tryz.prog W .any base t v)
  (hW : DataW.Whole enc Tryz.prog Tryz.f4.params.toList Rows.rrcacheFreshSpec.vars false W args.toList ds gs before) (hG : ZG W) (hsz : (DataW.weightsEach Tryz.prog (Tryz.f4.params.toList ++ (OpenSpec.ofChange Rows.rrcacheFreshSpec).bare.plain.varTypes Tryz.prog) (ds ++ gs)).all (· ≤ reachBytes) = true) :
  Calls Tryz.prog 4 args W fun e W' => ∃ v, e = .returned v ∧ Rows.rrcacheFreshSpec.post enc Tryz.prog Tryz.f4 false true false false W args v W' := by
 have hW' := hW
 obtain ⟨p, q, hA0, hV, rfl, hfz, hnd⟩ := hW
 have hA : DataW.TrodAll enc Tryz.prog W 0 (fun _ => true) true Tryz.f4.params.toList args.toList ds p := hA0
 rw [Tryz.params4] at hA hval hsz
 obtain ⟨v0, vs0, d0, ds0, p0, q0, hargs, rfl, rfl, h0, r0⟩ := trodAll_cons hA
 obtain ⟨v1, vs1, d1, ds1, p1, q1, rfl, rfl, rfl, h1, r1⟩ := trodAll_cons r0
 obtain ⟨rfl, rfl, rfl⟩ := trodAll_nil r1
 obtain rfl : args = #[v0, v1] := by cases args; simp_all
 obtain ⟨rfl, rfl⟩ := trodVars_none hV
 have hlt : ∀ x ∈ p0 ++ p1, x.block < W.heap.size := fun x hx => by simpa using hW'.lt x (by simp only [List.append_nil] at hx ⊢; simpa [List.append_assoc] using hx)
 have h0k := h0
 obtain ⟨q0, len0, cap0, rfl⟩ := okWide_slice Tryz.underlying22 (hval 0 22 v0 rfl rfl)
 obtain ⟨fuel0, hf0⟩ := h0
 obtain ⟨l0, hlen0, hat0, hin0, hsh0⟩ := Rc.open_dds hf0
 subst hlen0
 have h1k := h1
 obtain ⟨z1, rfl, _, _, w1⟩ := open_int Tryz.underlying3 (hval 1 3 v1 rfl rfl) h1
 clear hA0
 simp only [List.append_nil] at hW'
 refine (fresh_law W q0 cap0 l0 hat0 hin0 hsh0 z1 (Go.bounds_i64 w1) hG).mono fun e W' ⟨he, bel⟩ => ?_
 subst he
 exact ⟨_, rfl, _, _, _, [], _, [], hW', trodAll_mk1 (shut_bool Tryz.underlying4 _), (trodAll_cons_mk (Below.trod laidOut (by kernel_rfl) (of_decide_eq_true (by kernel_rfl)) h0k bel (fun x hx => hlt x (by simp [hx]))) (trodAll_cons_mk (Below.trod laidOut (by kernel_rfl) (of_decide_eq_true (by kernel_rfl)) h1k bel (fun x hx => hlt x (by simp [hx]))) trodAll_mk0)), rfl, bel.frame _, fun h => by cases h⟩
set_option maxRecDepth 100000 in
theorem lifted (os : Os) (started : os.Started) (H : Type) (enc : TypeId × Value → H) (F : Stop.Interp) :
  ReturnsInHanded {} Tryz.checked os 4 .any ((OpenSpec.ofChange Rows.rrcacheFreshSpec).preRow enc Tryz.prog Tryz.f4 Rows.rrcacheFreshRow.domain false Rows.rrcacheFreshRow.laid) (((OpenSpec.ofChange Rows.rrcacheFreshSpec).at F).post enc Tryz.prog Tryz.f4 false true false false) := by
 obtain ⟨places, hx⟩ := reads os enc
 refine returnsInHanded_of_row (C := Tryz.checked) (s := (OpenSpec.ofChange Rows.rrcacheFreshSpec)) own started (by kernel_rfl) Tryz.func4
  (witness_row_at (enc := enc) (C := Tryz.checked) false (laidWorld os) #[.slice none 0 0, .int .i64 0] rfl (by kernel_rfl) (by kernel_rfl) (by kernel_rfl)
   (OpenSpec.preRow_of_cond 8 hx (by kernel_rfl) (fun k hk => by cases hk) (by kernel_rfl) (laid_met os))) ?_
 intro W base args ds gs before hval hW _ _ hsz hL hS _
 exact contract H enc W base args ds gs before hval hW (globs hL hS) hsz
end rrcacheFresh
end Go.Proofs.YthionnpohcgoaaaGreatDoor
