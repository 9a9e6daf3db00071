/- NameMoves returns true for every three texts: what was moved is moved back, if nothing is too long. No conditions. -/
import Derived.ProofKit
import Derived.OpenShut
import Derived.ShutString
import Derived.Test.YtghaphcifoknpabExamples
namespace Go.Proofs.Ytghaphcifoknpab
set_option linter.unusedVariables false
open Go.RowKit

theorem ok_append {p q : List (List UInt8)} (hp : ∀ l ∈ p, 1 ≤ l.length ∧ l.length ≤ 63) (hq : ∀ l ∈ q, 1 ≤ l.length ∧ l.length ≤ 63) (h : (nm (p ++ q)).size ≤ 255) : OkN (p ++ q) := by
  refine ⟨fun l hl => ?_, by rw [nm_size] at h; omega⟩
  rcases List.mem_append.1 hl with h' | h'
  · exact hp l h'
  · exact hq l h'

theorem und_self_append (p c : List (List UInt8)) : undB (p ++ c) c = true := by
  rw [undB_iff, lowN_append]; exact List.suffix_append _ _

theorem mv_back (p b c : List (List UInt8)) : mvN (p ++ c) c b = p ++ b := by
  have : (p ++ c).length - c.length = p.length := by simp
  rw [mvN, this, List.take_left]

/-- what Moved answers where all is right. -/
structure MvFacts (a b c : List (List UInt8)) : Prop where
  okm : OkN (mvN a b c)
  okb : OkN (mvN (mvN a b c) c b)
  ltm : (nm c).size < (nm (mvN a b c)).size
  und : undB (mvN a b c) c = true
  bts : (nm (mvN a b c)).extract 0 ((nm (mvN a b c)).size - (nm c).size) ++ nm b = nm (mvN (mvN a b c) c b)
  szb : (nm (mvN (mvN a b c) c b)).size ≤ 255
  eql : eqB (mvN (mvN a b c) c b) a = true

theorem mv_facts {a b c : List (List UInt8)} (ha : OkN a) (hb : OkN b) (hc : OkN c) (hu : undB a b = true) (hlt : (nm b).size < (nm a).size) (hm : (nm (mvN a b c)).size ≤ 255) : MvFacts a b c := by
  obtain ⟨h1, h2⟩ := und_split hu
  have hx := (und_bytes c hu).2.1
  have hp : ∀ l ∈ a.take (a.length - b.length), 1 ≤ l.length ∧ l.length ≤ 63 := fun l hl => ha.lab l (List.mem_of_mem_take hl)
  have hbk : mvN (mvN a b c) c b = a.take (a.length - b.length) ++ b := mv_back _ _ _
  have hund := und_self_append (a.take (a.length - b.length)) c
  have hz : (nm (a.take (a.length - b.length) ++ b)).size = (nm a).size := by
    rw [nm_size, flat_append, List.length_append, ← hx, nm_size, nm_size] ; rw [nm_size, nm_size] at hlt; omega
  have hza : (nm a).size ≤ 255 := by rw [nm_size]; have := ha.len; omega
  refine ⟨ok_append hp hc.lab hm, ?_, ?_, hund, ?_, ?_, ?_⟩
  · rw [hbk]; exact ok_append hp hb.lab (by omega)
  · show _ < (nm (a.take (a.length - b.length) ++ c)).size
    rw [nm_size, nm_size, flat_append, List.length_append, ← hx]; omega
  · exact (und_bytes b hund).1
  · rw [hbk]; omega
  · rw [hbk, eqB, decide_eq_true_iff, lowN_append, ← h2, ← lowN_append, List.take_append_drop]

set_option maxHeartbeats 1000000 in
theorem moves_no (s t u : ByteArray) (k : Int) (hk : (k != 0) = true) (w : World)
    (hm : ∀ w, Calls Try.prog 14 #[.string s, .string t, .string u] w fun e w' => e = .returned (.tuple #[.string ⟨#[]⟩, .int .i64 k]) ∧ Below w.heap.size w w') :
    Calls Try.prog 4 #[.string s, .string t, .string u] w fun e w' => e = .returned (.bool true) ∧ Below w.heap.size w w' := by
  have HM : Hid _ := hm
  clear hm
  go_enter Try.func4, Try.ntmps4
  go_wp2_with fail
  refine (examples_in _).mono ?_
  rintro e w1 ⟨rfl, hb1⟩
  go_wp2_with fail
  refine (HM.out _).mono ?_
  rintro e w2 ⟨rfl, hb2⟩
  go_wp2
  go_ret
  exact ⟨rfl, bthen hb1 hb2⟩

set_option maxHeartbeats 1000000 in
theorem moves_go (a b c : List (List UInt8)) (ha : OkN a) (hb : OkN b) (hc : OkN c) (hlt : (nm b).size < (nm a).size) (hu : undB a b = true) (hm : (nm (mvN a b c)).size ≤ 255) (w : World) :
    Calls Try.prog 4 #[.string (nm a), .string (nm b), .string (nm c)] w fun e w' => e = .returned (.bool true) ∧ Below w.heap.size w w' := by
  have F := mv_facts ha hb hc hu hlt hm
  have hM1 := moved_go a b c ha hb hc hlt hu (und_bytes c hu).1
  have hM2 := moved_go (mvN a b c) c b F.okm hc hb F.ltm F.und F.bts
  rw [if_pos hm] at hM1
  rw [if_pos F.szb] at hM2
  have hU := under_yes (mvN a b c) c F.okm hc
  have hE := equal_yes (mvN (mvN a b c) c b) a F.okb ha
  rw [F.und] at hU
  rw [F.eql] at hE
  generalize hm1 : mvN a b c = m at hM1 hM2 hU hE
  generalize hm2 : mvN m c b = bk at hM2 hE
  have H1 := Hid.mk hM1
  have H2 := Hid.mk hM2
  have H3 := Hid.mk hU
  have H4 := Hid.mk hE
  clear hM1 hM2 hU hE hm1 hm2 F hm hlt hu
  go_enter Try.func4, Try.ntmps4
  go_wp2_with fail
  refine (examples_in _).mono ?_
  rintro e w1 ⟨rfl, hb1⟩
  go_wp2_with fail
  refine (H1.out _).mono ?_
  rintro e w2 ⟨rfl, hb2⟩
  go_wp2_with fail
  refine (H2.out _).mono ?_
  rintro e w3 ⟨rfl, hb3⟩
  go_wp2_with fail
  refine (H3.out _).mono ?_
  rintro e w4 ⟨rfl, hb4⟩
  go_wp2_with fail
  refine (H4.out _).mono ?_
  rintro e w5 ⟨rfl, hb5⟩
  go_wp2
  go_ret
  exact ⟨rfl, bthen hb1 (bthen hb2 (bthen hb3 (bthen hb4 hb5)))⟩

theorem moves_walk (s t u : ByteArray) (hs : s.size ≤ maxLen) (ht : t.size ≤ maxLen) (hu : u.size ≤ maxLen) (w : World) :
    Calls Try.prog 4 #[.string s, .string t, .string u] w fun e w' => e = .returned (.bool true) ∧ Below w.heap.size w w' := by
  by_cases h : IsName s ∧ IsName t ∧ IsName u
  · obtain ⟨⟨a, ha, rfl⟩, ⟨b, hb, rfl⟩, ⟨c, hc, rfl⟩⟩ := h
    by_cases h1 : (nm a).size = (nm b).size
    · exact moves_no _ _ _ 1 (by decide) w (moved_same a b c ha hb hc h1)
    · by_cases h2 : undB a b = true
      · have hlt : (nm b).size < (nm a).size := by have := (und_bytes c h2).2.2; omega
        by_cases h3 : (nm (mvN a b c)).size ≤ 255
        · exact moves_go a b c ha hb hc hlt h2 h3 w
        · refine moves_no _ _ _ 3 (by decide) w (fun w => ?_)
          have := moved_go a b c ha hb hc hlt h2 (und_bytes c h2).1 w
          rw [if_neg h3] at this
          exact this
      · exact moves_no _ _ _ 1 (by decide) w (moved_out a b c ha hb hc h1 (by simpa using h2))
  · exact moves_no s t u 2 (by decide) w (moved_no s t u hs ht hu h)

namespace nameMoves
open Go.ChangeShapes Go.WideShapes Go.ChangeAt Go.RowKit
open Go.ChangeMaps (open_string shut_string)

theorem own : ownKnob Try.prog.godebug = none := by kernel_rfl

set_option maxRecDepth 100000 in
theorem lifted (os : Os) (started : os.Started) (H : Type) (enc : TypeId × Value → H) :
    ReturnsInHanded {} Try.checked os 4 .any (Rows.nameMovesSpec.pre6 enc Try.prog Try.f4 Rows.nameMovesRow.domain false) (Rows.nameMovesSpec.post enc Try.prog Try.f4 false true false false) := by
  refine returnsInHanded_of_change (C := Try.checked) own started (by kernel_rfl) Try.func4
    (ChangeSpec.witness6 (enc := enc) (C := Try.checked) false ⟨#[], #[.string ByteArray.empty, .string ByteArray.empty, .string ByteArray.empty], []⟩ 8 (by kernel_rfl) (by kernel_rfl) (by kernel_rfl) (by kernel_rfl)) ?_
  intro W base args ds gs before hval0 hW hcnd _
  have hval : ∀ (j : Nat) t v, Try.f4.params[j]? = some t → args[j]? = some v → Value.okWide Try.prog W .any base t v := hval0
  have hW' := hW
  obtain ⟨p, q, hA0, hV, rfl, hfz, hnd⟩ := hW
  have hA : DataW.TrodAll enc Try.prog W 0 (fun _ => true) true Try.f4.params.toList args.toList ds p := hA0
  rw [Try.params4] at hA hval
  obtain ⟨v0, vs0, d0, ds0, p0, q0, hargs, rfl, rfl, h0, r0⟩ := trodAll_cons hA
  obtain ⟨v1, vs1, d1, ds1, p1, q1, rfl, rfl, rfl, h1, r1⟩ := trodAll_cons r0
  obtain ⟨v2, vs2, d2, ds2, p2, q2, rfl, rfl, rfl, h2, r2⟩ := trodAll_cons r1
  obtain ⟨rfl, rfl, rfl⟩ := trodAll_nil r2
  obtain rfl : args = #[v0, v1, v2] := by cases args; simp_all
  obtain ⟨rfl, rfl⟩ := trodVars_none hV
  obtain ⟨a0, rfl, rfl, rfl, w0⟩ := open_string Try.underlying9 (hval 0 9 v0 rfl rfl) h0
  obtain ⟨a1, rfl, rfl, rfl, w1⟩ := open_string Try.underlying9 (hval 1 9 v1 rfl rfl) h1
  obtain ⟨a2, rfl, rfl, rfl, w2⟩ := open_string Try.underlying9 (hval 2 9 v2 rfl rfl) h2
  clear hA0 hval0
  simp only [List.append_nil] at hW'
  refine (moves_walk a0 a1 a2 w0 w1 w2 W).mono fun e W' ⟨he, bel⟩ => ?_
  subst he
  exact ⟨_, rfl, _, _, _, [], [], [], hW', trodAll_mk1 (shut_bool Try.underlying4 _), (trodAll_cons_mk (shut_string Try.underlying9 w0) (trodAll_cons_mk (shut_string Try.underlying9 w1) (trodAll_cons_mk (shut_string Try.underlying9 w2) trodAll_mk0))), rfl, bel.frame _, fun h => by cases h⟩

theorem over : Rows.nameMovesRow.holds Try.pinned (OpenSpec.ofChange Rows.nameMovesSpec) :=
  OpenClaim.holds_of_wide 4 Try.f4 rfl rfl rfl rfl rfl rfl rfl ⟨rfl, rfl, rfl, rfl, rfl⟩ rfl rfl rfl rfl rfl (by kernel_rfl) Try.func4 (by kernel_rfl)
    (of_decide_eq_true (by kernel_rfl)) (by unfold Func.isWrapper; first | (rw [if_pos (by decide +kernel)]; kernel_rfl) | (rw [if_neg (by decide +kernel)]; exact ⟨rfl, rfl⟩))
    (fun os started H enc _ => lifted os started H enc)
end nameMoves

theorem nameMoves_holds : Rows.NameMovesSaid := nameMoves.over

end Go.Proofs.Ytghaphcifoknpab
