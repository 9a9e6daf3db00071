/- The walk of DigestTells. -/
import Derived.Test.YtdecmbpmgnoelaaDoorGRUnb
import Derived.Test.YtdecmbpmgnoelaaDoorGExam
namespace Go.Proofs.YtdecmbpmgnoelaaDoor
set_option linter.unusedVariables false
open Go.RowKit
set_option maxRecDepth 100000 in
theorem unhex_no (t : ByteArray) (ht : t.size ≤ 8388613) (h : uns 4 t.data.toList = none) (W : World) : Calls Tryd.prog 11 #[.string t] W fun e w' => e = .returned (.tuple #[.string ⟨#[]⟩, .int .i64 7]) ∧ Below W.heap.size W w' := by
  have H := Hid.mk (unspelt_4 t ht)
  rw [unsE, h] at H
  clear h
  go_enter Tryd.func11, Tryd.ntmps11
  go_wp2_with fail
  refine (H.out _).mono ?_
  rintro e w1 ⟨rfl, hb⟩
  go_wp2
  go_ret2
  exact ⟨rfl, hb⟩
/-- what both answer of a text that is to be read: the text and whether it is right. -/
theorem both_read (w : Nat) (l : List UInt8) (f g : FuncId) (t : ByteArray) (hl : t.data.toList = l)
    (hy : ∀ s, uns w t.data.toList = some s → ∀ W : World, Calls Tryd.prog f #[.string t] W fun e w' => e = .returned (.tuple #[.string ⟨s.toArray⟩, .int .i64 0]) ∧ Below W.heap.size W w')
    (hn : uns w t.data.toList = none → ∀ W : World, Calls Tryd.prog f #[.string t] W fun e w' => e = .returned (.tuple #[.string ⟨#[]⟩, .int .i64 7]) ∧ Below W.heap.size W w')
    (E : Ending → Prop) (hE : ∀ e, E e → (∃ r, uns w l = some r ∧ e = .returned (.tuple #[.string ⟨r.toArray⟩, .bool true])) ∨ (uns w l = none ∧ e = .returned (.tuple #[.string ⟨#[]⟩, .bool false])))
    (hg : ∀ W : World, Calls Tryd.prog g #[.string t] W fun e w' => E e ∧ Below W.heap.size W w') :
    ∃ (R : ByteArray) (v : Int) (b : Bool), (v = 0 ∧ b = true ∨ v = 7 ∧ b = false) ∧ Hid (∀ W : World, Calls Tryd.prog f #[.string t] W fun e w' => e = .returned (.tuple #[.string R, .int .i64 v]) ∧ Below W.heap.size W w') ∧
      Hid (∀ W : World, Calls Tryd.prog g #[.string t] W fun e w' => e = .returned (.tuple #[.string R, .bool b]) ∧ Below W.heap.size W w') := by
  subst hl
  cases hu : uns w t.data.toList with
  | some s =>
    refine ⟨⟨s.toArray⟩, 0, true, .inl ⟨rfl, rfl⟩, fun W => hy s hu W, fun W => (hg W).mono ?_⟩
    rintro e w' ⟨he, hb⟩
    rcases hE e he with ⟨r, h1, h2⟩ | ⟨h1, h2⟩
    · rw [hu] at h1; cases h1; exact ⟨h2, hb⟩
    · rw [hu] at h1; cases h1
  | none =>
    refine ⟨⟨#[]⟩, 7, false, .inr ⟨rfl, rfl⟩, fun W => hn hu W, fun W => (hg W).mono ?_⟩
    rintro e w' ⟨he, hb⟩
    rcases hE e he with ⟨r, h1, h2⟩ | ⟨h1, h2⟩
    · rw [hu] at h1; cases h1
    · exact ⟨h2, hb⟩
set_option maxRecDepth 100000 in
set_option maxHeartbeats 4000000 in
theorem tells_walk (s : ByteArray) (hs : s.size ≤ 1048576) (x : ByteArray) (hx : x.size ≤ 1048576) (y : ByteArray) (hy : y.size ≤ 1048576) (W : World) (hG : Rk W) : Calls Tryd.prog 5 #[.string s, .string x, .string y] W fun e w' => e = .returned (.bool true) ∧ Below W.heap.size W w' := by
  have HE := Hid.mk (examples_in W hG)
  obtain ⟨X, hX⟩ : ∃ X : ByteArray, X = ⟨(spl 4 s.data.toList).toArray⟩ := ⟨_, rfl⟩
  obtain ⟨Y, hY⟩ : ∃ Y : ByteArray, Y = ⟨(spl 5 s.data.toList).toArray⟩ := ⟨_, rfl⟩
  have A1 : Hid (∀ W : World, Calls Tryd.prog 15 #[.string s] W fun e w' => e = .returned (.string X) ∧ Below W.heap.size W w') := fun W => by rw [hX]; exact hex_in s hs W
  have A2 : Hid (∀ W : World, Calls Tryd.prog 16 #[.string s] W fun e w' => e = .returned (.string X) ∧ Below W.heap.size W w') := fun W => by rw [hX, spl_hex]; exact rhex_in s hs W
  have A3 : Hid (∀ W : World, Calls Tryd.prog 17 #[.string s] W fun e w' => e = .returned (.string Y) ∧ Below W.heap.size W w') := fun W => by rw [hY]; exact b32_in s hs W
  have A4 : Hid (∀ W : World, Calls Tryd.prog 18 #[.string s] W fun e w' => e = .returned (.string Y) ∧ Below W.heap.size W w') := fun W => by
    rw [hY, spl_b32, size_list]; exact rb32_in s hs W
  obtain ⟨a, e, ok, he, A5, A6⟩ := both_read 4 x.data.toList 11 12 x rfl (fun r hr W => unhex_yes x (by omega) r hr W) (fun hr W => unhex_no x (by omega) hr W) (RunE x.data.toList) (run_uns x.data.toList) (fun W => runhex_in x hx W)
  obtain ⟨c, f, fine, hf, A7, A8⟩ := both_read 5 y.data.toList 13 14 y rfl (fun r hr W => unb32_yes y (by omega) r hr W) (fun hr W => unb32_no y (by omega) hr W) (RunF y.data.toList) (run_unb y.data.toList) (fun W => runb_in y hy W)
  clear hX hY hs hx hy hG
  rcases he with ⟨rfl, rfl⟩ | ⟨rfl, rfl⟩ <;> rcases hf with ⟨rfl, rfl⟩ | ⟨rfl, rfl⟩
  all_goals (
    go_enter Tryd.func5, Tryd.ntmps5
    go_wp2_with fail
    refine HE.out.mono ?_
    rintro e w1 ⟨rfl, hb1⟩
    go_wp2_with fail
    refine (A5.out _).mono ?_
    rintro e w2 ⟨rfl, hb2⟩
    go_wp2_with fail
    refine (A6.out _).mono ?_
    rintro e w3 ⟨rfl, hb3⟩
    go_wp2_with fail
    refine (A7.out _).mono ?_
    rintro e w4 ⟨rfl, hb4⟩
    go_wp2_with fail
    refine (A8.out _).mono ?_
    rintro e w5 ⟨rfl, hb5⟩
    go_wp2_with fail
    refine (A1.out _).mono ?_
    rintro e w6 ⟨rfl, hb6⟩
    go_wp2_with fail
    refine (A2.out _).mono ?_
    rintro e w7 ⟨rfl, hb7⟩
    go_wp2_with fail
    refine (A3.out _).mono ?_
    rintro e w8 ⟨rfl, hb8⟩
    go_wp2_with fail
    refine (A4.out _).mono ?_
    rintro e w9 ⟨rfl, hb9⟩
    have k9 := bthen (bthen (bthen (bthen (bthen (bthen (bthen (bthen hb1 hb2) hb3) hb4) hb5) hb6) hb7) hb8) hb9
    go_wp2
    go_ret
    exact ⟨rfl, k9⟩)
end Go.Proofs.YtdecmbpmgnoelaaDoor
