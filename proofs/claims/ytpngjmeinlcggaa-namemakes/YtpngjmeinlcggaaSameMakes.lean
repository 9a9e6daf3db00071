/- Child and Moved: what name answers is what the document answers. -/
import Derived.Test.YtpngjmeinlcggaaRefMoved
import Derived.Test.YtpngjmeinlcggaaChild
namespace Go.Proofs.Ytpngjmeinlcggaa
set_option linter.unusedVariables false
open Go.RowKit

theorem same_child (l s : ByteArray) (hl : l.size ≤ maxLen) (hs : s.size ≤ maxLen) : ∃ (c : ByteArray) (k : Int), IntKind.i64.wrap k = k ∧
    (∀ w, Calls Try.prog 34 #[.string l, .string s] w fun e w' => e = .returned (.tuple #[.string c, .int .i64 k]) ∧ Below w.heap.size w w') ∧
    (∀ w, Calls Try.prog 35 #[.string l, .string s] w fun e w' => e = .returned (.tuple #[.string c, .int .i64 k]) ∧ Below w.heap.size w w') := by
  by_cases h : IsName s
  · by_cases hg : 1 ≤ l.size ∧ l.size ≤ 63
    · obtain ⟨ls, ho, rfl⟩ := h
      have h1 := child_in l.data.toList ls (by rw [size_list]; exact hg.1) (by rw [size_list]; exact hg.2) ho
      have h2 := rChild_yes l hl ls ho
      have hall : ∀ x ∈ l.data.toList :: ls, goodL x := fun x hx => by
        rcases List.mem_cons.1 hx with rfl | h
        · unfold goodL; rw [size_list]; exact hg
        · exact ho.lab x h
      rw [rofR, if_pos hall, ofR_right hall] at h2
      by_cases hz : (nm (l.data.toList :: ls)).size ≤ 255
      · rw [if_pos hz] at h1 h2
        exact ⟨_, 0, rfl, h1, h2⟩
      · rw [if_neg hz] at h1 h2
        exact ⟨_, 3, rfl, h1, h2⟩
    · refine ⟨⟨#[]⟩, 2, rfl, child_bad l s hl hs (fun h' => hg h'.2), ?_⟩
      obtain ⟨ls, ho, rfl⟩ := h
      have h2 := rChild_yes l hl ls ho
      rw [rofR, if_neg (fun hall => hg (by have := hall l.data.toList (by simp); unfold goodL at this; rw [size_list] at this; exact this))] at h2
      exact h2
  · exact ⟨⟨#[]⟩, 2, rfl, child_bad l s hl hs (fun h' => h h'.1), rChild_no l s hs h⟩

theorem und_sizes {a b : List (List UInt8)} (ha : OkN a) (h : undB a b = true) : ((nm a).size = (nm b).size ↔ a.length = b.length) ∧ b.length ≤ a.length ∧ (nm b).size ≤ (nm a).size := by
  obtain ⟨_, h2, h3⟩ := und_bytes [] h
  have h4 := (und_split h).1
  have h5 : a.length - b.length ≤ (flat (a.take (a.length - b.length))).length := by
    have := flat_count (a.take (a.length - b.length)) (fun l hl => (ha.lab l (List.mem_of_mem_take hl)).1)
    rw [List.length_take] at this; omega
  refine ⟨⟨fun e => by omega, fun e => ?_⟩, h4, h3⟩
  have h6 : a.length - b.length = 0 := by omega
  rw [h6] at h2
  simp [flat] at h2
  omega

theorem same_moved (s t u : ByteArray) (hs : s.size ≤ maxLen) (ht : t.size ≤ maxLen) (hu : u.size ≤ maxLen) : ∃ (c : ByteArray) (k : Int), IntKind.i64.wrap k = k ∧
    (∀ w, Calls Try.prog 32 #[.string s, .string t, .string u] w fun e w' => e = .returned (.tuple #[.string c, .int .i64 k]) ∧ Below w.heap.size w w') ∧
    (∀ w, Calls Try.prog 33 #[.string s, .string t, .string u] w fun e w' => e = .returned (.tuple #[.string c, .int .i64 k]) ∧ Below w.heap.size w w') := by
  by_cases h : IsName s ∧ IsName t ∧ IsName u
  · obtain ⟨⟨a, ha, rfl⟩, ⟨b, hb, rfl⟩, ⟨c, hc, rfl⟩⟩ := h
    cases hun : undB a b with
    | false =>
      refine ⟨⟨#[]⟩, 1, rfl, ?_, rMoved_arg a b c ha hb hc (.inl hun)⟩
      by_cases he : (nm a).size = (nm b).size
      · exact moved_same a b c ha hb hc he
      · exact moved_out a b c ha hb hc he hun
    | true =>
      obtain ⟨h1, h2, h3⟩ := und_sizes ha hun
      by_cases he : (nm a).size = (nm b).size
      · exact ⟨⟨#[]⟩, 1, rfl, moved_same a b c ha hb hc he, rMoved_arg a b c ha hb hc (.inr (h1.1 he))⟩
      · have hlt : b.length < a.length := by
          have : a.length ≠ b.length := fun e => he (h1.2 e)
          omega
        have g1 := moved_go a b c ha hb hc (by omega) hun (und_bytes c hun).1
        have g2 := rMoved_go a b c ha hb hc hun hlt
        have hall : ∀ x ∈ mvN a b c, 1 ≤ x.length ∧ x.length ≤ 63 := fun x hx => by
          rcases List.mem_append.1 hx with h | h
          · exact ha.lab x (List.mem_of_mem_take h)
          · exact hc.lab x h
        rw [ofR_right hall] at g2
        by_cases hz : (nm (mvN a b c)).size ≤ 255
        · rw [if_pos hz] at g1 g2
          exact ⟨_, 0, rfl, g1, g2⟩
        · rw [if_neg hz] at g1 g2
          exact ⟨_, 3, rfl, g1, g2⟩
  · exact ⟨⟨#[]⟩, 2, rfl, moved_no s t u hs ht hu h, rMoved_no s t u hs ht hu h⟩

end Go.Proofs.Ytpngjmeinlcggaa
