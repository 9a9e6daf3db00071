/- NameForms returns true for every text and every list of texts: what name says of a text and makes of labels is what the document says, and what is handed in stays. No conditions. -/
import Derived.ProofKit
import Derived.OpenShut
import Derived.ShutString
import Derived.SliceStrings
import Derived.Carry
import Derived.SizedLaws
import Derived.Test.YtpngjmeinlcggaaExamples
import Derived.Test.YtpngjmeinlcggaaForms
import Derived.Test.YtpngjmeinlcggaaRefLower
namespace Go.Proofs.Ytpngjmeinlcggaa
set_option linter.unusedVariables false
open Go.RowKit

theorem same_forms (s : ByteArray) (hs : s.size ≤ maxLen) : ∃ (ns : List (List UInt8)) (ok : Bool) (t : ByteArray), ns.length ≤ 127 ∧
    (∀ w, Calls Try.prog 10 #[.string s] w fun e w' => (∃ v, e = .returned (.tuple #[v, .bool ok]) ∧ Strs w'.heap.size w' v ns) ∧ Below w.heap.size w w') ∧
    (∀ w, Calls Try.prog 14 #[.string s] w fun e w' => (∃ v, e = .returned v ∧ w'.ownsRow w.heap.size 9 1 v ns.length (strsV ns)) ∧ Below w.heap.size w w') ∧
    (∀ w, Calls Try.prog 15 #[.string s] w fun e w' => e = .returned (.bool ok) ∧ Below w.heap.size w w') ∧
    (∀ w, Calls Try.prog 16 #[.string s] w fun e w' => e = .returned (.string t) ∧ Below w.heap.size w w') ∧
    (∀ w, Calls Try.prog 17 #[.string s] w fun e w' => e = .returned (.string t) ∧ Below w.heap.size w w') := by
  by_cases h : IsName s
  · obtain ⟨ls, ho, rfl⟩ := h
    exact ⟨ls, true, nm (lowN ls), ho.count, rLabels_yes ls ho, labels_own ls ho, right_yes ls ho, low_yes ls ho, rLower_yes ls ho⟩
  · refine ⟨[], false, s, by simp, fun w => (rLabels_none s hs h w).mono ?_, fun w => (labels_no s hs h w).mono ?_, right_no s h hs, low_no s hs h, rLower_no s hs h⟩
    · rintro e w' ⟨rfl, hb⟩
      exact ⟨⟨_, rfl, .inl ⟨rfl, rfl⟩⟩, hb⟩
    · rintro e w' ⟨rfl, hb⟩
      exact ⟨⟨_, rfl, World.ownsRow_nil ..⟩, hb⟩

/-- a list of texts that came in lies there. -/
def Given (W : World) (a0 : Option Addr) (cap : Nat) (ls : List (List UInt8)) : Prop :=
  (a0 = none ∧ ls = [] ∧ cap = 0) ∨ ∃ ad, a0 = some ad ∧ (ls ≠ [] → ∃ b off, ad = ⟨b, off, none⟩ ∧ b < W.heap.size ∧ ∀ j (h : j < ls.length), W.cell? ⟨b, off + j, none⟩ = some (strV ls[j]))
theorem Given.below {w W : World} {a0 : Option Addr} {cap : Nat} {ls : List (List UInt8)} (h : Given w a0 cap ls) (hB : Below w.heap.size w W) : Given W a0 cap ls := by
  rcases h with h | ⟨ad, rfl, h⟩
  · exact .inl h
  · refine .inr ⟨ad, rfl, fun hne => ?_⟩
    obtain ⟨b, off, h1, h2, h3⟩ := h hne
    exact ⟨b, off, h1, Nat.lt_of_lt_of_le h2 hB.size, fun j hj => (hB.cell (p := ⟨b, off + j, none⟩) h2).trans (h3 j hj)⟩
theorem Given.cells {W : World} {a0 : Option Addr} {cap : Nat} {ls : List (List UInt8)} (h : Given W a0 cap ls) : ∀ j (h : j < ls.length), ∃ b off, a0 = some ⟨b, off, none⟩ ∧ W.cell? ⟨b, off + j, none⟩ = some (strV ls[j]) := by
  intro j hj
  rcases h with ⟨_, rfl, _⟩ | ⟨ad, rfl, h⟩
  · simp at hj
  · obtain ⟨b, off, rfl, h2, h3⟩ := h (by intro e; subst e; simp at hj)
    exact ⟨b, off, rfl, h3 j hj⟩
theorem rOf_given {W : World} {a0 : Option Addr} {cap : Nat} {ls : List (List UInt8)} (h : Given W a0 cap ls) (hnm : ls.length ≤ maxLen) (hl : ∀ l ∈ ls, l.length ≤ maxLen) :
    Calls Try.prog 12 #[.slice a0 ls.length cap] W fun e w' => e = .returned (resV (ofR ls)) ∧ Below W.heap.size W w' := by
  by_cases hne : ls = []
  · subst hne; exact rOf_zero a0 cap W
  · rcases h with ⟨_, h, _⟩ | ⟨ad, rfl, h⟩
    · exact absurd h hne
    · obtain ⟨b, off, rfl, hb, hc⟩ := h hne
      rw [← ofR_rofR]
      by_cases hg : ∀ l ∈ ls, goodL l
      · rw [rofR, if_pos hg]; exact rOf_good b off cap ls W hb hnm hc hg
      · rw [rofR, if_neg hg]
        refine rOf_bad b off cap ls W hnm hl hc ?_
        apply Classical.byContradiction
        intro hx
        exact hg (fun l hl => Classical.byContradiction fun hb => hx ⟨l, hl, hb⟩)

set_option maxRecDepth 100000 in
set_option maxHeartbeats 4000000 in
theorem forms_walk (s : ByteArray) (hs : s.size ≤ maxLen) (a0 : Option Addr) (cap : Nat) (ls : List (List UInt8)) (hn : ls.length * 16 ≤ 140737488355328) (hl : ∀ l ∈ ls, l.length ≤ maxLen) (w : World)
    (hin : Given w a0 cap ls) :
    Calls Try.prog 3 #[.string s, .slice a0 ls.length cap] w fun e w' => e = .returned (.bool true) ∧ Below w.heap.size w w' := by
  have hnm : ls.length ≤ maxLen := by unfold maxLen; omega
  obtain ⟨ns, ok, t, hns, c1, c2, c3, c4, c5⟩ := same_forms s hs
  have C1 := Hid.mk c1
  have C2 := Hid.mk c2
  have C3 := Hid.mk c3
  have C4 := Hid.mk c4
  have C5 := Hid.mk c5
  clear c1 c2 c3 c4 c5
  have HROf := Hid.mk (fun (W : World) (h : Given W a0 cap ls) => rOf_given h hnm hl)
  have HOf := Hid.mk (fun v w h => of_in v ls w h hnm hl)
  generalize ofR ls = r at HROf HOf
  obtain ⟨rx, rc⟩ := r
  have HT := Hid.mk (fun a1 c1 w h1 h2 => texts_same a1 a0 c1 cap ls w hnm h1 h2)
  have hss : (t.toList == t.toList) = true := by simp
  have hln : (ls.length : Int) ≤ 9223372036854775807 := by omega
  clear hl hnm
  go_enter Try.func3, Try.ntmps3
  go_wp2_with fail
  refine (examples_in _).mono ?_
  rintro e w1 ⟨rfl, hb1⟩
  go_wp2_with fail
  refine (C1.out _).mono ?_
  rintro e w2 ⟨⟨vw, rfl, hvw⟩, hb2⟩
  have k2 := bthen hb1 hb2
  obtain ⟨qw, cw, hqw⟩ := hvw.form
  subst hqw
  have hA := hin.below k2
  go_wp2_with (at_builtin; refine wpList_append_in rfl _ _ rfl a0 cap ls rfl rfl hn hA ?_; intro v3 w3 hrow3 hb3)
  have hst3 := strs_of_row hrow3
  have hA3 := hA.below hb3
  have hvw3 := (hvw.below hb3).mono hb3.size
  obtain ⟨qo, co, hqo⟩ := hst3.form
  subst hqo
  refine (HOf.out _ _ hst3).mono ?_
  rintro e w4 ⟨rfl, hb4⟩
  dsimp only [resV]
  have hst4 := (hst3.below hb4).mono hb4.size
  have hA4 := hA3.below hb4
  have hvw4 := (hvw3.below hb4).mono hb4.size
  go_wp2_with fail
  refine (HROf.out _ hA4).mono ?_
  rintro e w5 ⟨rfl, hb5⟩
  dsimp only [resV]
  have hst5 := (hst4.below hb5).mono hb5.size
  have hA5 := hA4.below hb5
  have hvw5 := (hvw4.below hb5).mono hb5.size
  go_wp2_with fail
  refine (HT.out _ _ _ hst5.cells hA5.cells).mono ?_
  rintro e w6 ⟨rfl, hb6⟩
  have hvw6 := (hvw5.below hb6).mono hb6.size
  have k6 := bthen k2 (bthen hb3 (bthen hb4 (bthen hb5 hb6)))
  clear hst3 hst4 hst5 hA hA3 hA4 hA5 hvw hvw3 hvw4 hvw5 hb1 hb2 hb3 hb4 hb5 hb6 hrow3 hin k2
  go_wp2
  go_loopw [14] (fun tv wr => ∃ k : Nat, k ≤ 2 ∧ tv = .int .i64 k ∧ Below w6.heap.size w6 wr) (fun tv _ => 2 - (intOf tv).toNat)
  case atStart => exact ⟨0, by omega, rfl, Below.refl _ _⟩
  case round =>
    obtain ⟨wo, rfl⟩ : ∃ wo : World, wo = wr := ⟨_, rfl⟩
    obtain ⟨k, hk, rfl, hbl⟩ := hrel
    by_cases hlt : k < 2
    · go_wp2_with fail
      refine (C2.out _).mono ?_
      rintro e w7 ⟨⟨v, rfl, hrow⟩, hb7⟩
      have hst7 := strs_of_row hrow
      obtain ⟨q7, c7, hq7⟩ := hst7.form
      subst hq7
      have k7 := bthen hbl hb7
      have hvw7 := (hvw6.below k7).mono k7.size
      go_wp2_with fail
      refine (texts_same q7 qw c7 cw ns w7 (by unfold maxLen; omega) hst7.cells hvw7.cells).mono ?_
      rintro e w8 ⟨rfl, hb8⟩
      obtain ⟨q8, c8, hq8, hfree⟩ := free_of_row (row_below hrow hb8)
      cases hq8
      have k8 := bthen hb7 hb8
      clear hst7 hvw7 hrow hb7 hb8
      go_wp2
      go_loopw [17] (fun i wr => ∃ j : Nat, j ≤ ns.length ∧ i = .int .i64 j ∧ (0 < ns.length → ∃ g, q7 = some ⟨g, 0, none⟩ ∧ wo.heap.size ≤ g ∧ Free wr g ns.length) ∧ Below wo.heap.size wo wr) (fun i _ => ns.length - (intOf i).toNat)
      case atStart => exact ⟨0, Nat.zero_le _, rfl, hfree, k8⟩
      case round =>
        clear hfree k8
        obtain ⟨j, hj, rfl, hfr, hbl2⟩ := hrel
        by_cases hltj : j < ns.length
        · obtain ⟨g, rfl, hg, hf⟩ := hfr (by omega)
          obtain ⟨⟨u, hu⟩, hz⟩ := hf j hltj
          have HF := Hid.mk (hf.set j (.string ⟨#[63]⟩))
          clear hf hfr
          go_wp2
          exact ⟨⟨j + 1, by omega, by go_num, fun _ => ⟨g, rfl, hg, HF.out⟩, hbl2.setCell (p := ⟨g, j, none⟩) hg _⟩, by simp [intOf]; omega⟩
        · clear hfr
          go_wp2
          exact ⟨⟨k + 1, by omega, by go_num, bthen hbl hbl2⟩, by simp [intOf]; omega⟩
    · go_wp2_with fail
      refine (C3.out _).mono ?_
      rintro e w7 ⟨rfl, hb7⟩
      go_wp2_with fail
      refine (C4.out _).mono ?_
      rintro e w8 ⟨rfl, hb8⟩
      go_wp2_with fail
      refine (C5.out _).mono ?_
      rintro e w9 ⟨rfl, hb9⟩
      go_wp2
      go_ret
      refine ⟨?_, bthen k6 (bthen hbl (bthen hb7 (bthen hb8 hb9)))⟩
      first | rfl | simp

theorem lt_of_cell {w : World} {a : Addr} {v : Value} (h : w.cell? a = some v) : a.block < w.heap.size := by
  apply Classical.byContradiction
  intro hn
  have : w.heap[a.block]? = none := by simp; omega
  simp [World.cell?, this] at h

theorem cells_str : Try.prog.cellsOf 9 = 1 := by kernel_rfl
theorem bytes_str : Try.prog.bytesOf 9 = 16 := by kernel_rfl
theorem laidOut : laidOutB Try.prog = true := by kernel_rfl

open Go.ChangeShapes Go.WideShapes in
/-- a []string that came in, nil or not. -/
theorem open_given {H : Type} {enc : TypeId × Value → H} {W : World} {a0 : Option Addr} {len cap fuel : Nat} {x : DataW H × List MemPlace}
    (hf : DataW.trod enc Try.prog W 0 (fun _ => true) true fuel 22 [.slice a0 len cap] = some x) :
    ∃ ls : List (List UInt8), ls.length = len ∧ Given W a0 cap ls ∧ (∀ l ∈ ls, l.length ≤ maxLen) ∧ (len = 0 ∨ ∃ elems spare, x.1 = .slice elems spare ∧ elems.length = len) := by
  rcases open_strings Try.underlying22 Try.underlying9 cells_str hf with ⟨hcs, hx⟩ | ⟨a, len', cap', ss, hcs, _, hl, hm, hz, hx, hcell, hsz⟩
  · simp at hcs
    obtain ⟨rfl, rfl, rfl⟩ := hcs
    exact ⟨[], rfl, .inl ⟨rfl, rfl, rfl⟩, by simp, .inl rfl⟩
  · simp at hcs
    obtain ⟨rfl, rfl, rfl⟩ := hcs
    subst hx
    simp only [if_true] at hz
    obtain ⟨b, off, spot⟩ := a
    have hlen : ((ss.take len).map fun s => s.data.toList).length = len := by simp; omega
    refine ⟨(ss.take len).map fun s => s.data.toList, hlen, .inr ⟨_, rfl, fun hne => ?_⟩, ?_, .inr ⟨_, _, rfl, by simp [strs]; omega⟩⟩
    · have h0 : 0 < len := by
        rcases Nat.eq_zero_or_pos len with h | h
        · subst h; simp at hne
        · exact h
      have hspot : spot = none := by simpa [Addr.add] using World.cell?_spot (hcell 0 (by omega))
      subst hspot
      refine ⟨b, off, rfl, lt_of_cell (hcell 0 (by omega)), fun j hj => ?_⟩
      rw [hlen] at hj
      have := hcell j (by omega)
      rw [add_on] at this
      rw [this]
      simp [strV, List.getD, List.getElem?_eq_getElem (show j < ss.length by omega)]
    · intro l hl'
      obtain ⟨s, hs, rfl⟩ := List.mem_map.1 hl'
      rw [size_list]
      exact hsz s (List.mem_of_mem_take hs)

namespace nameForms
open Go.ChangeShapes Go.WideShapes Go.ChangeAt Go.RowKit
open Go.ChangeMaps (open_string shut_string)

theorem own : ownKnob Try.prog.godebug = none := by kernel_rfl

set_option maxRecDepth 100000 in
theorem lifted (os : Os) (started : os.Started) (H : Type) (enc : TypeId × Value → H) :
    ReturnsInHanded {} Try.checked os 3 .any (Rows.nameFormsSpec.pre6 enc Try.prog Try.f3 Rows.nameFormsRow.domain false) (Rows.nameFormsSpec.post enc Try.prog Try.f3 false true false false) := by
  refine returnsInHanded_of_change_sized (C := Try.checked) own started (by kernel_rfl) Try.func3
    (ChangeSpec.witness6 (enc := enc) (C := Try.checked) false ⟨#[], #[.string ByteArray.empty, .slice none 0 0], []⟩ 8 (by kernel_rfl) (by kernel_rfl) (by kernel_rfl) (by kernel_rfl)) ?_
  intro W base args ds gs before hval0 hW hcnd hsz0 _
  have hval : ∀ (j : Nat) t v, Try.f3.params[j]? = some t → args[j]? = some v → Value.okWide Try.prog W .any base t v := hval0
  have hW' := hW
  obtain ⟨p, q, hA0, hV, rfl, hfz, hnd⟩ := hW
  have hA : DataW.TrodAll enc Try.prog W 0 (fun _ => true) true Try.f3.params.toList args.toList ds p := hA0
  have hsz : (DataW.weightsEach Try.prog (Try.f3.params.toList ++ Rows.nameFormsSpec.plain.varTypes Try.prog) (ds ++ gs)).all (· ≤ reachBytes) = true := hsz0
  clear hsz0
  rw [Try.params3] at hA hval hsz
  obtain ⟨v0, vs0, d0, ds0, p0, q0, hargs, rfl, rfl, h0, r0⟩ := trodAll_cons hA
  obtain ⟨v1, vs1, d1, ds1, p1, q1, rfl, rfl, rfl, h1, r1⟩ := trodAll_cons r0
  obtain ⟨rfl, rfl, rfl⟩ := trodAll_nil r1
  obtain rfl : args = #[v0, v1] := by cases args; simp_all
  obtain ⟨rfl, rfl⟩ := trodVars_none hV
  have hlt : ∀ x ∈ p0 ++ p1, x.block < W.heap.size := fun x hx => by simpa using hW'.lt x (by simp only [List.append_nil] at hx ⊢; simpa [List.append_assoc] using hx)
  obtain ⟨a0, rfl, rfl, rfl, w0⟩ := open_string Try.underlying9 (hval 0 9 v0 rfl rfl) h0
  obtain ⟨a1, len1, cap1, rfl⟩ := okWide_slice Try.underlying22 (hval 1 22 v1 rfl rfl)
  have h1k := h1
  obtain ⟨fuel1, hf1⟩ := h1
  obtain ⟨ls1, hlen1, hgiv1, hmax1, hsh1⟩ := open_given hf1
  have w1 : ls1.length * 16 ≤ 140737488355328 := by
    rw [hlen1]
    rcases hsh1 with h0 | ⟨elems, spare, hd, he⟩
    · omega
    · have := sized_slice hsz (j := 1) (t := 22) (e := 9) rfl (by simp only at hd; rw [hd]; rfl) Try.underlying22
      rw [bytes_str] at this
      simp only [reachBytes] at this
      omega
  subst hlen1
  clear hA0 hval0
  simp only [List.append_nil] at hW'
  refine (forms_walk a0 w0 a1 cap1 ls1 w1 hmax1 W hgiv1).mono fun e W' ⟨he, bel⟩ => ?_
  subst he
  exact ⟨_, rfl, _, _, _, [], _, [], hW', trodAll_mk1 (shut_bool Try.underlying4 _), (trodAll_cons_mk (shut_string Try.underlying9 w0) (trodAll_cons_mk (Below.trod laidOut (by kernel_rfl) (of_decide_eq_true (by kernel_rfl)) h1k bel (fun x hx => hlt x (by simp [hx]))) trodAll_mk0)), rfl, bel.frame _, fun h => by cases h⟩

theorem over : Rows.nameFormsRow.holds Try.pinned (OpenSpec.ofChange Rows.nameFormsSpec) :=
  OpenClaim.holds_of_wide 3 Try.f3 rfl rfl rfl rfl rfl rfl rfl ⟨rfl, rfl, rfl, rfl, rfl⟩ rfl rfl rfl rfl rfl (by kernel_rfl) Try.func3 (by kernel_rfl)
    (of_decide_eq_true (by kernel_rfl)) (by unfold Func.isWrapper; first | (rw [if_pos (by decide +kernel)]; kernel_rfl) | (rw [if_neg (by decide +kernel)]; exact ⟨rfl, rfl⟩))
    (fun os started H enc _ => lifted os started H enc)
end nameForms

theorem nameForms_holds : Rows.NameFormsSaid := nameForms.over

end Go.Proofs.Ytpngjmeinlcggaa
