/- NameJoins returns true for every two texts: a name made of two names' labels is under the second one, and its Common with that is it; label by label it is made the same way. No conditions. -/
import Derived.ProofKit
import Derived.OpenShut
import Derived.ShutString
import Derived.Laws.AppendOwnNone
import Derived.Test.YtghaphcifoknpabExamples
import Derived.Test.YtghaphcifoknpabFacts
import Derived.Test.YtghaphcifoknpabChild
import Derived.Test.YtghaphcifoknpabOfLabels
namespace Go.Proofs.Ytghaphcifoknpab
set_option linter.unusedVariables false
open Go.RowKit

theorem joins_no (s t : ByteArray) (hs : s.size ≤ maxLen) (ht : t.size ≤ maxLen) (h : ¬ (IsName s ∧ IsName t)) (w : World) :
    Calls Try.prog 5 #[.string s, .string t] w fun e w' => e = .returned (.bool true) ∧ Below w.heap.size w w' := by
  by_cases h1 : IsName s
  · have h2 : ¬ IsName t := fun h2 => h ⟨h1, h2⟩
    obtain ⟨a, ha, rfl⟩ := h1
    go_enter Try.func5, Try.ntmps5
    go_wp2_with fail
    refine (examples_in _).mono ?_
    rintro e w1 ⟨rfl, hb1⟩
    go_wp2_with fail
    refine (right_yes a ha _).mono ?_
    rintro e w2 ⟨rfl, hb2⟩
    go_wp2_with fail
    refine (right_no t h2 ht _).mono ?_
    rintro e w3 ⟨rfl, hb3⟩
    go_wp2
    go_ret
    exact ⟨rfl, bthen hb1 (bthen hb2 hb3)⟩
  · go_enter Try.func5, Try.ntmps5
    go_wp2_with fail
    refine (examples_in _).mono ?_
    rintro e w1 ⟨rfl, hb1⟩
    go_wp2_with fail
    refine (right_no s h1 hs _).mono ?_
    rintro e w2 ⟨rfl, hb2⟩
    go_wp2
    go_ret
    exact ⟨rfl, bthen hb1 hb2⟩

theorem strs_src {n₀ : Nat} {W : World} {g : Nat} {ls : List (List UInt8)} (hc : ∀ j (h : j < ls.length), W.cell? ⟨g, j, none⟩ = some (strV ls[j])) : ∀ j u, (strsV ls)[j]? = some u → W.cell? ((⟨g, 0, none⟩ : Addr).add j) = some u := by
  intro j u hu
  obtain ⟨hj, he⟩ := List.getElem?_eq_some_iff.1 hu
  have hj' : j < ls.length := by simpa [strsV] using hj
  rw [add_at', hc j hj', ← he]; simp [strsV]
theorem strs_one (ls : List (List UInt8)) : ∀ u ∈ strsV ls, u.oneCell' = true := by
  intro u hu
  simp only [strsV, List.mem_map] at hu
  obtain ⟨l, _, rfl⟩ := hu
  rfl
theorem strsV_append (a b : List (List UInt8)) : strsV (a ++ b) = strsV a ++ strsV b := by simp [strsV]
theorem strsV_len (a : List (List UInt8)) : (strsV a).length = a.length := by simp [strsV]

theorem str_base {W : World} {n₀ n : Nat} {e : TypeId} {v : Value} {xs : List Value} (h : W.ownsRow n₀ e 1 v n xs) : ∀ k, v.ownBlock = some k → n₀ ≤ k := by
  intro k e
  rcases h.2 with ⟨rfl, _⟩ | ⟨g, cap, cur, rfl, hb, _⟩
  · simp [Value.ownBlock] at e
  · obtain rfl : g = k := by simpa [Value.ownBlock] using e
    exact hb
theorem row_below {W W' : World} {n₀ n : Nat} {e : TypeId} {v : Value} {xs : List Value} (h : W.ownsRow n₀ e 1 v n xs) (hb : Below W.heap.size W W') : W'.ownsRow n₀ e 1 v n xs := by
  refine ⟨h.1, ?_⟩
  rcases h.2 with h' | ⟨g, cap, cur, hv, hb', hg, hr⟩
  · exact .inl h'
  · exact .inr ⟨g, cap, cur, hv, hb', (hb.block g (Array.getElem?_eq_some_iff.1 hg).1).trans hg, hr⟩

/-- 'append(row, more...)' of texts: nil or not. -/
theorem wpList_append_strs {W : World} {ops : Array Oper} {rest : List Oper} {o : Oper} {a : Act} {Q : Exit → Act → World → Prop} (hgd : o.guard = none) (s x : Operand)
    (ho : o.op = .call { callee := .builtin .append, args := #[s, x], argTypes := #[32, 32] })
    (base : Nat) (v vx : Value) (n N : Nat) (xs : List Value) (ls : List (List UInt8)) (hs : a.eval s = v) (hown : W.ownsRow base 9 1 v n xs) (hx : a.eval x = vx) (hstr : Strs N W vx ls)
    (hn : n ≤ 1000) (hl : ls.length ≤ 1000) (hbase : base ≤ W.heap.size)
    (h : ∀ v' w', w'.ownsRow base 9 1 v' (n + ls.length) (xs ++ strsV ls) → Below base W w' → wpList Try.prog ops Q rest (a.put o.dst v') w') : wpList Try.prog ops Q (o :: rest) a W := by
  obtain ⟨i0, hi, hz0, hz1, hz2⟩ := info_parts info9
  rcases hstr with ⟨rfl, rfl⟩ | ⟨g, cap, rfl, hg, hc⟩
  · refine wpList_append_own_none hgd s x 32 ho base 9 i0 1 Try.underlying32 hi v n xs hs hown hx ?_
    exact h v W (by simpa [strsV] using hown) (Below.refl _ _)
  · refine wpList_append_own W hgd s x 32 ho base 9 i0 (.string ⟨#[]⟩) 1 16 Try.underlying32 hi hz0 hz1 hz2 rfl (by decide) v n xs hs hown ⟨g, 0, none⟩ ls.length cap (strsV ls) hx (by rw [strsV_len]; omega) (strs_src (n₀ := 0) hc) (strs_one ls) (by unfold maxLen; omega) (by omega) hbase ?_
    intro v' w' h1 h2 _
    exact h v' w' h1 ((Below.refl base W).grown h2 hbase (str_base hown))

theorem joins_of (a b : List (List UInt8)) (ha : OkN a) (hb : OkN b) (v : Value) (w : World) (h : Strs w.heap.size w v (a ++ b)) :
    Calls Try.prog 17 #[v] w fun e w' => e = .returned (resV (if (nm (a ++ b)).size ≤ 255 then (nmL (a ++ b), 0) else ([], 3))) ∧ Below w.heap.size w w' := by
  have hca := ha.count
  have hcb := hb.count
  have hr := ofR_right (ls := a ++ b) (fun l hl => by rcases List.mem_append.1 hl with h | h; exact ha.lab l h; exact hb.lab l h)
  rw [← hr]
  refine of_in v (a ++ b) w h (by rw [List.length_append]; unfold maxLen; omega) (fun l hl => ?_)
  have : l.length ≤ 63 := by rcases List.mem_append.1 hl with h | h; exact (ha.lab l h).2; exact (hb.lab l h).2
  unfold maxLen; omega

theorem join_size (a b : List (List UInt8)) : (nm (a ++ b)).size + 1 = (nm a).size + (nm b).size := by
  rw [nm_size, nm_size, nm_size, flat_append, List.length_append]; omega

set_option maxRecDepth 100000 in
set_option maxHeartbeats 4000000 in
theorem joins_long (a b : List (List UInt8)) (ha : OkN a) (hb : OkN b) (hz : ¬ (nm (a ++ b)).size ≤ 255) (w : World) :
    Calls Try.prog 5 #[.string (nm a), .string (nm b)] w fun e w' => e = .returned (.bool true) ∧ Below w.heap.size w w' := by
  have hca := ha.count
  have hcb := hb.count
  have hna : (nm a).size ≤ 255 := by rw [nm_size]; have := ha.len; omega
  have hnb : (nm b).size ≤ 255 := by rw [nm_size]; have := hb.len; omega
  have hgt : decide ((255 : Int) < ((nm a).size : Int) + ((nm b).size : Int) - 1) = true := by
    have := join_size a b; simp; omega
  have HOf := Hid.mk (joins_of a b ha hb)
  rw [if_neg hz] at HOf
  clear hz
  go_enter Try.func5, Try.ntmps5
  go_wp2_with fail
  refine (examples_in _).mono ?_
  rintro e w1 ⟨rfl, hb1⟩
  go_wp2_with fail
  refine (right_yes a ha _).mono ?_
  rintro e w2 ⟨rfl, hb2⟩
  go_wp2_with fail
  refine (right_yes b hb _).mono ?_
  rintro e w3 ⟨rfl, hb3⟩
  go_wp2_with fail
  refine (labels_yes a ha _).mono ?_
  rintro e w4 ⟨⟨va, rfl, hva⟩, hb4⟩
  go_wp2_with (at_builtin; refine wpList_append_strs rfl _ _ rfl w4.heap.size _ _ 0 w4.heap.size [] a rfl (World.ownsRow_nil ..) rfl hva (by omega) (by omega) (Nat.le_refl _) ?_; intro v1 w5 hrow1 hb5)
  refine (labels_yes b hb _).mono ?_
  rintro e w6 ⟨⟨vb, rfl, hvb⟩, hb6⟩
  have hrow2 := row_below hrow1 hb6
  have hsz6 : w4.heap.size ≤ w6.heap.size := Nat.le_trans hb5.size hb6.size
  clear hrow1
  go_wp2_with (at_builtin; refine wpList_append_strs rfl _ _ rfl w4.heap.size _ _ _ w6.heap.size _ b rfl hrow2 rfl hvb (by omega) (by omega) hsz6 ?_; intro v2 w7 hrow3 hb7)
  have hstr : Strs w7.heap.size w7 v2 (a ++ b) := strs_of_row (n := w4.heap.size) (by rw [List.length_append, strsV_append]; simpa using hrow3)
  clear hrow2 hrow3
  refine (HOf.out _ _ hstr).mono ?_
  rintro e w8 ⟨rfl, hb8⟩
  clear hstr hva hvb
  dsimp only [resV]
  go_wp2
  go_ret
  refine ⟨by first | rfl | simp, ?_⟩
  have k1 := bthen hb1 (bthen hb2 (bthen hb3 hb4))
  have k2 := k1.trans (hb5.mono k1.size)
  have k3 := bthen k2 hb6
  have k4 := k3.trans (hb7.mono k1.size)
  exact bthen k4 hb8

theorem ok_join {a b : List (List UInt8)} (ha : OkN a) (hb : OkN b) (h : (nm (a ++ b)).size ≤ 255) : OkN (a ++ b) := by
  refine ⟨fun l hl => ?_, by rw [nm_size] at h; omega⟩
  rcases List.mem_append.1 hl with h' | h'
  · exact ha.lab l h'
  · exact hb.lab l h'
theorem ok_join_drop {a b : List (List UInt8)} (h : OkN (a ++ b)) (k : Nat) (hk : k ≤ a.length) : OkN (a.drop k ++ b) := by
  have : a.drop k ++ b = (a ++ b).drop k := by rw [List.drop_append_of_le_length hk]
  rw [this]; exact h.drop k
theorem und_self_join (a b : List (List UInt8)) : undB (a ++ b) b = true := by
  rw [undB_iff, lowN_append]; exact List.suffix_append _ _
theorem eq_self_join (a b : List (List UInt8)) : eqB (comN (a ++ b) b) b = true := by
  have h := und_iff_com (a ++ b) b
  rw [und_self_join] at h
  have h' := h.symm
  rw [eqB, decide_eq_true_iff] at h' ⊢
  exact h'.symm

set_option maxRecDepth 100000 in
set_option maxHeartbeats 4000000 in
theorem joins_go (a b : List (List UInt8)) (ha : OkN a) (hb : OkN b) (hz : (nm (a ++ b)).size ≤ 255) (w : World) :
    Calls Try.prog 5 #[.string (nm a), .string (nm b)] w fun e w' => e = .returned (.bool true) ∧ Below w.heap.size w w' := by
  have hca := ha.count
  have hcb := hb.count
  have hna : (nm a).size ≤ 255 := by rw [nm_size]; have := ha.len; omega
  have hnb : (nm b).size ≤ 255 := by rw [nm_size]; have := hb.len; omega
  have hon := ok_join ha hb hz
  have hC := common_yes (a ++ b) b hon hb
  have hU := under_yes (a ++ b) b hon hb
  rw [und_self_join] at hU
  have hE := equal_yes (comN (a ++ b) b) b (ok_com hon) hb
  rw [eq_self_join] at hE
  have H1 := Hid.mk hC
  have H2 := Hid.mk hU
  have H3 := Hid.mk hE
  have hsz := join_size a b
  have hlen : (((nm (a ++ b)).size : Int) == ((nm a).size : Int) + ((nm b).size : Int) - 1) = true := by
    rw [beq_iff_eq]; omega
  have HZ := Hid.mk hz
  have HO := Hid.mk hon
  clear hC hU hE hsz hon
  generalize nm (comN (a ++ b) b) = c at H1 H3
  have HOf : Hid (∀ v w, Strs w.heap.size w v (a ++ b) → Calls Try.prog 17 #[v] w fun e w' => e = .returned (.tuple #[.string (nm (a ++ b)), .int .i64 0]) ∧ Below w.heap.size w w') := by
    intro v w h
    have := joins_of a b ha hb v w h
    rw [if_pos hz] at this
    exact this
  clear hz
  go_enter Try.func5, Try.ntmps5
  go_wp2_with fail
  refine (examples_in _).mono ?_
  rintro e w1 ⟨rfl, hb1⟩
  go_wp2_with fail
  refine (right_yes a ha _).mono ?_
  rintro e w2 ⟨rfl, hb2⟩
  go_wp2_with fail
  refine (right_yes b hb _).mono ?_
  rintro e w3 ⟨rfl, hb3⟩
  go_wp2_with fail
  refine (labels_yes a ha _).mono ?_
  rintro e w4 ⟨⟨va, rfl, hva⟩, hb4⟩
  go_wp2_with (at_builtin; refine wpList_append_strs rfl _ _ rfl w4.heap.size _ _ 0 w4.heap.size [] a rfl (World.ownsRow_nil ..) rfl hva (by omega) (by omega) (Nat.le_refl _) ?_; intro v1 w5 hrow1 hb5)
  refine (labels_yes b hb _).mono ?_
  rintro e w6 ⟨⟨vb, rfl, hvb⟩, hb6⟩
  have hrow2 := row_below hrow1 hb6
  have hsz6 : w4.heap.size ≤ w6.heap.size := Nat.le_trans hb5.size hb6.size
  clear hrow1
  go_wp2_with (at_builtin; refine wpList_append_strs rfl _ _ rfl w4.heap.size _ _ _ w6.heap.size _ b rfl hrow2 rfl hvb (by omega) (by omega) hsz6 ?_; intro v2 w7 hrow3 hb7)
  have hstr : Strs w7.heap.size w7 v2 (a ++ b) := strs_of_row (n := w4.heap.size) (by rw [List.length_append, strsV_append]; simpa using hrow3)
  clear hrow2 hrow3
  refine (HOf.out _ _ hstr).mono ?_
  rintro e w8 ⟨rfl, hb8⟩
  clear hstr hvb
  have k1 := bthen hb1 (bthen hb2 (bthen hb3 hb4))
  have k0 : Below w4.heap.size w4 w8 := (hb5.trans (hb6.mono hb5.size)).trans (hb7.trans (hb8.mono (Nat.le_trans hsz6 hb7.size)))
  have hva8 := hva.below k0
  have k2 := bthen k1 k0
  have hw48 := k0.size
  clear hva hb1 hb2 hb3 hb4 hb5 hb6 hb7 hb8 k1
  obtain ⟨q, cp, hq⟩ := hva8.form
  subst hq
  go_wp2
  go_loopw [9, 10] (fun m i wr => ∃ k : Nat, k ≤ a.length ∧ i = .int .i64 ((k : Int) - 1) ∧ m = .string (nm (a.drop k ++ b)) ∧ Below w8.heap.size w8 wr) (fun _ i _ => ((intOf i) + 1).toNat)
  case atStart => exact ⟨a.length, Nat.le_refl _, rfl, by rw [List.drop_length]; rfl, Below.refl _ _⟩
  case round =>
    obtain ⟨k, hk, rfl, rfl, hbl⟩ := hrel
    by_cases h0 : 0 < k
    · obtain ⟨j, rfl⟩ : ∃ j, k = j + 1 := ⟨k - 1, by omega⟩
      have hj : j < a.length := by omega
      obtain ⟨g, hg, hgq, hcl⟩ : ∃ g, q = some ⟨g, 0, none⟩ ∧ g < w4.heap.size ∧ w8.cell? ⟨g, j, none⟩ = some (strV a[j]) := by
        rcases hva8 with ⟨_, h⟩ | ⟨g, cap, hv, hg, hc⟩
        · rw [h] at hj; simp at hj
        · cases hv; exact ⟨g, rfl, hg, hc j hj⟩
      subst hg
      have hcx : wr.cell? ⟨g, j, none⟩ = some (.string ⟨a[j].toArray⟩) := (hbl.cell (p := ⟨g, j, none⟩) (by show g < _; omega)).trans hcl
      have e1 : (((j + 1 : Nat) : Int) - 1) = (j : Int) := by omega
      rw [e1]
      have hdr : a.drop j = a[j] :: a.drop (j + 1) := List.drop_eq_getElem_cons hj
      have hlab := ha.lab a[j] (List.getElem_mem hj)
      have hokd : OkN (a.drop (j + 1) ++ b) := ok_join_drop HO.out (j + 1) (by omega)
      have hokj : OkN (a.drop j ++ b) := ok_join_drop HO.out j (by omega)
      have hch := child_in a[j] (a.drop (j + 1) ++ b) hlab.1 hlab.2 hokd
      rw [← List.cons_append, ← hdr] at hch
      rw [if_pos (by rw [nm_size]; have := hokj.len; omega)] at hch
      have HCH := Hid.mk hch
      clear hch hdr hlab hokd hokj hva8 hcl h0
      generalize a[j] = lab at hcx HCH
      generalize nm (a.drop (j + 1) ++ b) = mm at HCH
      go_wp2_with fail
      refine (HCH.out _).mono ?_
      rintro e w9 ⟨rfl, hb9⟩
      go_wp2
      refine ⟨⟨j, by omega, rfl, rfl, bthen hbl hb9⟩, ?_⟩
      simp only [intOf]; omega
    · obtain rfl : k = 0 := by omega
      have hd0 : a.drop 0 ++ b = a ++ b := by rw [List.drop_zero]
      rw [hd0]
      have hnn : ((nm (a ++ b)).toList == (nm (a ++ b)).toList) = true := by simp
      have e1 : (((0 : Nat) : Int) - 1) = -1 := by omega
      rw [e1]
      clear hva8 hd0
      go_wp2_with fail
      refine (H1.out _).mono ?_
      rintro e w9 ⟨rfl, hb9⟩
      go_wp2_with fail
      refine (H2.out _).mono ?_
      rintro e w10 ⟨rfl, hb10⟩
      go_wp2_with fail
      refine (H3.out _).mono ?_
      rintro e w11 ⟨rfl, hb11⟩
      go_wp2
      go_ret
      exact ⟨by first | rfl | simp, bthen k2 (bthen hbl (bthen hb9 (bthen hb10 hb11)))⟩

theorem joins_walk (s t : ByteArray) (hs : s.size ≤ maxLen) (ht : t.size ≤ maxLen) (w : World) :
    Calls Try.prog 5 #[.string s, .string t] w fun e w' => e = .returned (.bool true) ∧ Below w.heap.size w w' := by
  by_cases h : IsName s ∧ IsName t
  · obtain ⟨⟨a, ha, rfl⟩, ⟨b, hb, rfl⟩⟩ := h
    by_cases hz : (nm (a ++ b)).size ≤ 255
    · exact joins_go a b ha hb hz w
    · exact joins_long a b ha hb hz w
  · exact joins_no s t hs ht h w

namespace nameJoins
open Go.ChangeShapes Go.WideShapes Go.ChangeAt Go.RowKit
open Go.ChangeMaps (open_string shut_string)

theorem own : ownKnob Try.prog.godebug = none := by kernel_rfl

set_option maxRecDepth 100000 in
theorem lifted (os : Os) (started : os.Started) (H : Type) (enc : TypeId × Value → H) :
    ReturnsInHanded {} Try.checked os 5 .any (Rows.nameJoinsSpec.pre6 enc Try.prog Try.f5 Rows.nameJoinsRow.domain false) (Rows.nameJoinsSpec.post enc Try.prog Try.f5 false true false false) := by
  refine returnsInHanded_of_change (C := Try.checked) own started (by kernel_rfl) Try.func5
    (ChangeSpec.witness6 (enc := enc) (C := Try.checked) false ⟨#[], #[.string ByteArray.empty, .string ByteArray.empty], []⟩ 8 (by kernel_rfl) (by kernel_rfl) (by kernel_rfl) (by kernel_rfl)) ?_
  intro W base args ds gs before hval0 hW hcnd _
  have hval : ∀ (j : Nat) t v, Try.f5.params[j]? = some t → args[j]? = some v → Value.okWide Try.prog W .any base t v := hval0
  have hW' := hW
  obtain ⟨p, q, hA0, hV, rfl, hfz, hnd⟩ := hW
  have hA : DataW.TrodAll enc Try.prog W 0 (fun _ => true) true Try.f5.params.toList args.toList ds p := hA0
  rw [Try.params5] at hA hval
  obtain ⟨v0, vs0, d0, ds0, p0, q0, hargs, rfl, rfl, h0, r0⟩ := trodAll_cons hA
  obtain ⟨v1, vs1, d1, ds1, p1, q1, rfl, rfl, rfl, h1, r1⟩ := trodAll_cons r0
  obtain ⟨rfl, rfl, rfl⟩ := trodAll_nil r1
  obtain rfl : args = #[v0, v1] := by cases args; simp_all
  obtain ⟨rfl, rfl⟩ := trodVars_none hV
  obtain ⟨a0, rfl, rfl, rfl, w0⟩ := open_string Try.underlying9 (hval 0 9 v0 rfl rfl) h0
  obtain ⟨a1, rfl, rfl, rfl, w1⟩ := open_string Try.underlying9 (hval 1 9 v1 rfl rfl) h1
  clear hA0 hval0
  simp only [List.append_nil] at hW'
  refine (joins_walk a0 a1 w0 w1 W).mono fun e W' ⟨he, bel⟩ => ?_
  subst he
  exact ⟨_, rfl, _, _, _, [], [], [], hW', trodAll_mk1 (shut_bool Try.underlying4 _), (trodAll_cons_mk (shut_string Try.underlying9 w0) (trodAll_cons_mk (shut_string Try.underlying9 w1) trodAll_mk0)), rfl, bel.frame _, fun h => by cases h⟩

theorem over : Rows.nameJoinsRow.holds Try.pinned (OpenSpec.ofChange Rows.nameJoinsSpec) :=
  OpenClaim.holds_of_wide 5 Try.f5 rfl rfl rfl rfl rfl rfl rfl ⟨rfl, rfl, rfl, rfl, rfl⟩ rfl rfl rfl rfl rfl (by kernel_rfl) Try.func5 (by kernel_rfl)
    (of_decide_eq_true (by kernel_rfl)) (by unfold Func.isWrapper; first | (rw [if_pos (by decide +kernel)]; kernel_rfl) | (rw [if_neg (by decide +kernel)]; exact ⟨rfl, rfl⟩))
    (fun os started H enc _ => lifted os started H enc)
end nameJoins

theorem nameJoins_holds : Rows.NameJoinsSaid := nameJoins.over

end Go.Proofs.Ytghaphcifoknpab
