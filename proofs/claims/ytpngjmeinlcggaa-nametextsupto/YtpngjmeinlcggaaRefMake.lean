/- The document's own Child and Moved (guidepostref01). -/
import Derived.Test.YtpngjmeinlcggaaAppStrs
namespace Go.Proofs.Ytpngjmeinlcggaa
set_option linter.unusedVariables false
open Go.RowKit

theorem rChild_no (l s : ByteArray) (hs : s.size ≤ maxLen) (h : ¬ IsName s) (w : World) :
    Calls Try.prog 35 #[.string l, .string s] w fun e w' => e = .returned (.tuple #[.string ⟨#[]⟩, .int .i64 2]) ∧ Below w.heap.size w w' := by
  go_enter Try.func35, Try.ntmps35
  go_wp2_with fail
  refine (rLabels_none s hs h _).mono ?_
  rintro e w1 ⟨rfl, hb1⟩
  go_wp2
  go_ret2
  exact ⟨rfl, hb1⟩

/-- what the document's Of makes of any labels. -/
noncomputable def rofR (ls : List (List UInt8)) : List UInt8 × Nat := open Classical in if ∀ l ∈ ls, goodL l then ofR ls else ([], 2)

theorem rOf_any (v : Value) (ls : List (List UInt8)) (w : World) (h : Strs w.heap.size w v ls) (hn : ls.length ≤ maxLen) (hl : ∀ l ∈ ls, l.length ≤ maxLen) :
    Calls Try.prog 12 #[v] w fun e w' => e = .returned (resV (rofR ls)) ∧ Below w.heap.size w w' := by
  by_cases hg : ∀ l ∈ ls, goodL l
  · rw [rofR, if_pos hg]; exact rOf_in v ls w h hn hg
  · rw [rofR, if_neg hg]
    rcases h with ⟨rfl, rfl⟩ | ⟨g, cap, rfl, hg', hc⟩
    · exact absurd (by simp) hg
    · refine rOf_bad g 0 cap ls w hn hl (fun j hj => by rw [Nat.zero_add]; exact hc j hj) ?_
      apply Classical.byContradiction
      intro hx
      exact hg (fun l hl => Classical.byContradiction fun hb => hx ⟨l, hl, hb⟩)

set_option maxHeartbeats 1000000 in
theorem rChild_yes (l : ByteArray) (hl : l.size ≤ maxLen) (ls : List (List UInt8)) (ho : OkN ls) (w : World) :
    Calls Try.prog 35 #[.string l, .string (nm ls)] w fun e w' => e = .returned (resV (rofR (l.data.toList :: ls))) ∧ Below w.heap.size w w' := by
  have hcnt := ho.count
  have HOf := Hid.mk (fun v w h => rOf_any v (l.data.toList :: ls) w h (by simp; unfold maxLen; omega) (fun x hx => by
    rcases List.mem_cons.1 hx with rfl | h
    · rw [size_list]; exact hl
    · have := (ho.lab x h).2; unfold maxLen; omega))
  generalize rofR (l.data.toList :: ls) = r at HOf ⊢
  obtain ⟨rx, rc⟩ := r
  go_enter Try.func35, Try.ntmps35
  go_wp2_with fail
  refine (rLabels_yes ls ho _).mono ?_
  rintro e w1 ⟨⟨v, rfl, hv⟩, hb1⟩
  have hv2 : Strs w1.heap.size (w1.alloc (.cells #[.string l] 9)) v ls := hv.below ((Below.refl _ _).alloc (Nat.le_refl _) _)
  go_wp2_with (at_builtin; refine wpList_append_strs rfl _ _ rfl w1.heap.size _ _ 1 w1.heap.size [.string l] ls rfl (row_one_new w1 _ _) rfl hv2 (by omega) (by omega) (by simp) ?_; intro v2 w2 hrow2 hb2)
  have hstr : Strs w2.heap.size w2 v2 (l.data.toList :: ls) := strs_of_row (n := w1.heap.size) (by
    rw [List.length_cons, Nat.add_comm]
    have : strsV (l.data.toList :: ls) = [.string l] ++ strsV ls := by simp [strsV, strV_of]
    rw [this]; exact hrow2)
  clear hrow2 hv2 hv
  refine (HOf.out _ _ hstr).mono ?_
  rintro e w3 ⟨rfl, hb3⟩
  clear hstr
  dsimp only [resV]
  go_wp2
  go_ret2
  have k1 : Below w.heap.size w w2 := hb1.trans ((((Below.refl _ w1).alloc (Nat.le_refl _) _).trans hb2).mono hb1.size)
  exact ⟨rfl, bthen k1 hb3⟩

/-! ### Moved -/
set_option maxHeartbeats 1000000 in
theorem rMoved_no (s t u : ByteArray) (hs : s.size ≤ maxLen) (ht : t.size ≤ maxLen) (hu : u.size ≤ maxLen) (h : ¬ (IsName s ∧ IsName t ∧ IsName u)) (w : World) :
    Calls Try.prog 33 #[.string s, .string t, .string u] w fun e w' => e = .returned (.tuple #[.string ⟨#[]⟩, .int .i64 2]) ∧ Below w.heap.size w w' := by
  have hL : ∀ s : ByteArray, s.size ≤ maxLen → ∃ b : Bool, (b = true ↔ IsName s) ∧ ∀ w, Calls Try.prog 10 #[.string s] w fun e w' => (∃ q n c, e = .returned (.tuple #[.slice q n c, .bool b])) ∧ Below w.heap.size w w' := by
    intro s hs
    by_cases h : IsName s
    · refine ⟨true, by simp [h], fun w => ?_⟩
      obtain ⟨a, ha, rfl⟩ := h
      refine (rLabels_yes a ha w).mono ?_
      rintro e w1 ⟨⟨v, rfl, hv⟩, hb1⟩
      obtain ⟨q, c, hq⟩ := hv.form
      subst hq
      exact ⟨⟨q, _, c, rfl⟩, hb1⟩
    · exact ⟨false, by simp [h], fun w => (rLabels_none s hs h w).mono fun e w' ⟨he, hb⟩ => ⟨⟨none, 0, 0, he⟩, hb⟩⟩
  obtain ⟨b1, i1, c1⟩ := hL s hs
  obtain ⟨b2, i2, c2⟩ := hL t ht
  obtain ⟨b3, i3, c3⟩ := hL u hu
  rw [← i1, ← i2, ← i3] at h
  have C1 := Hid.mk c1
  have C2 := Hid.mk c2
  have C3 := Hid.mk c3
  clear hL i1 i2 i3 c1 c2 c3
  cases b1 <;> cases b2 <;> cases b3
  case true.true.true => exact absurd ⟨rfl, rfl, rfl⟩ h
  all_goals
    clear h
    go_enter Try.func33, Try.ntmps33
    go_wp2_with fail
    refine (C1.out _).mono ?_
    rintro e w1 ⟨⟨q1, n1, p1, rfl⟩, hb1⟩
    go_wp2_with fail
    refine (C2.out _).mono ?_
    rintro e w2 ⟨⟨q2, n2, p2, rfl⟩, hb2⟩
    go_wp2_with fail
    refine (C3.out _).mono ?_
    rintro e w3 ⟨⟨q3, n3, p3, rfl⟩, hb3⟩
    go_wp2
    go_ret2
    exact ⟨rfl, bthen hb1 (bthen hb2 hb3)⟩

theorem rMoved_arg (a b c : List (List UInt8)) (ha : OkN a) (hb : OkN b) (hc : OkN c) (h : undB a b = false ∨ a.length = b.length) (w : World) :
    Calls Try.prog 33 #[.string (nm a), .string (nm b), .string (nm c)] w fun e w' => e = .returned (.tuple #[.string ⟨#[]⟩, .int .i64 1]) ∧ Below w.heap.size w w' := by
  have hca := ha.count
  have hcb := hb.count
  have HU := Hid.mk (rUnder_yes a b ha hb)
  generalize undB a b = r at h HU
  go_enter Try.func33, Try.ntmps33
  go_wp2_with fail
  refine (rLabels_yes a ha _).mono ?_
  rintro e w1 ⟨⟨va, rfl, hva⟩, hb1⟩
  obtain ⟨qa, pa, hqa⟩ := hva.form
  subst hqa
  go_wp2_with fail
  refine (rLabels_yes b hb _).mono ?_
  rintro e w2 ⟨⟨vb, rfl, hvb⟩, hb2⟩
  obtain ⟨qb, pb, hqb⟩ := hvb.form
  subst hqb
  go_wp2_with fail
  refine (rLabels_yes c hc _).mono ?_
  rintro e w3 ⟨⟨vc, rfl, hvc⟩, hb3⟩
  obtain ⟨qc, pc, hqc⟩ := hvc.form
  subst hqc
  clear hva hvb hvc
  go_wp2_with fail
  refine (HU.out _).mono ?_
  rintro e w4 ⟨rfl, hb4⟩
  cases r with
  | false =>
    clear h
    go_wp2
    go_ret2
    exact ⟨rfl, bthen hb1 (bthen hb2 (bthen hb3 hb4))⟩
  | true =>
    have he : (((a.length : Nat) : Int) == ((b.length : Nat) : Int)) = true := by
      rcases h with h | h
      · cases h
      · rw [h]; simp
    clear h
    go_wp2
    go_ret2
    exact ⟨rfl, bthen hb1 (bthen hb2 (bthen hb3 hb4))⟩

end Go.Proofs.Ytpngjmeinlcggaa
