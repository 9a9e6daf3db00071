/- Child. -/
import Derived.Test.YtpngjmeinlcggaaKin2
namespace Go.Proofs.Ytpngjmeinlcggaa
set_option linter.unusedVariables false
open Go.RowKit

theorem child_bad (s t : ByteArray) (hs : s.size ≤ maxLen) (ht : t.size ≤ maxLen) (h : ¬ (IsName t ∧ 1 ≤ s.size ∧ s.size ≤ 63)) (w : World) :
    Calls Try.prog 34 #[.string s, .string t] w fun e w' => e = .returned (.tuple #[.string ⟨#[]⟩, .int .i64 2]) ∧ Below w.heap.size w w' := by
  by_cases h1 : IsName t
  · have h2 : s.size < 1 ∨ 63 < s.size := by
      by_cases h3 : 1 ≤ s.size
      · right; apply Nat.lt_of_not_le; intro h4; exact h ⟨h1, h3, h4⟩
      · left; omega
    obtain ⟨a, ha, rfl⟩ := h1
    go_enter Try.func34, Try.ntmps34
    go_wp2_with fail
    refine (right_yes a ha _).mono ?_
    rintro e w1 ⟨rfl, hb1⟩
    go_wp2_with fail
    refine (rightLabel_no s _ hs h2).mono ?_
    rintro e w2 ⟨rfl, rfl⟩
    go_wp2
    go_ret2
    exact ⟨rfl, hb1⟩
  · go_enter Try.func34, Try.ntmps34
    go_wp2_with fail
    refine (right_no t h1 ht _).mono ?_
    rintro e w1 ⟨rfl, hb1⟩
    go_wp2
    go_ret2
    exact ⟨rfl, hb1⟩

theorem child_bytes (l : List UInt8) (ls : List (List UInt8)) : (⟨[UInt8.ofNat l.length].toArray⟩ : ByteArray) ++ ⟨l.toArray⟩ ++ nm ls = nm (l :: ls) := by
  apply ba_ext
  rw [ByteArray.data_append, ByteArray.data_append, Array.toList_append, Array.toList_append, nm_list, nm_list]
  simp [nmL, flat]

set_option maxHeartbeats 400000 in
theorem child_in (l : List UInt8) (ls : List (List UInt8)) (h1 : 1 ≤ l.length) (h2 : l.length ≤ 63) (ho : OkN ls) (w : World) :
    Calls Try.prog 34 #[.string ⟨l.toArray⟩, .string (nm ls)] w fun e w' =>
      e = .returned (if (nm (l :: ls)).size ≤ 255 then .tuple #[.string (nm (l :: ls)), .int .i64 0] else .tuple #[.string ⟨#[]⟩, .int .i64 3]) ∧ Below w.heap.size w w' := by
  have HB := Hid.mk (child_bytes l ls)
  obtain ⟨s, hs⟩ : ∃ s : ByteArray, (⟨l.toArray⟩ : ByteArray) = s := ⟨_, rfl⟩
  have hsz : s.size = l.length := by rw [← hs]; rfl
  have hs1 : 1 ≤ s.size := by omega
  have hs2 : s.size ≤ 63 := by omega
  rw [hs] at HB ⊢
  have HZ := Hid.mk hsz
  clear hs hsz h1 h2
  have hlen := ho.len
  have hzz : (nm (l :: ls)).size ≤ 400 := by
    rw [nm_size]; simp [flat]; have := HZ.out; omega
  have hcell : ∀ W : World, (W.alloc (.cells #[.int .u8 (s.size : Int)] 5)).cell? ⟨W.heap.size, 0, none⟩ = some (.int .u8 (s.size : Int)) := fun W => (Boxed.new W 5 _).cell
  have hcv : ∀ W : World, (convert 56 9 (.slice (some ⟨W.heap.size, 0, none⟩) 1 1)).run Try.prog (W.alloc (.cells #[.int .u8 (s.size : Int)] 5)) = .ok (.string ⟨[UInt8.ofNat s.size].toArray⟩) (W.alloc (.cells #[.int .u8 (s.size : Int)] 5)) := fun W => by
    have := run_convert_bytes_back (P := Try.prog) (W.alloc (.cells #[.int .u8 (s.size : Int)] 5)) 56 9 5 ⟨W.heap.size, 0, none⟩ 1 [UInt8.ofNat s.size] Try.underlying56 Try.underlying5 Try.underlying9 (fun j hj => by
      have e : j = 0 := by simpa using hj
      subst e
      rw [add_at, hcell]
      simp; omega)
    simpa using this
  have hcat : ((⟨#[UInt8.ofNat s.size]⟩ : ByteArray) ++ s).size ≤ 64 := by rw [ByteArray.size_append]; show 1 + s.size ≤ 64; omega
  have hnz : (nm ls).size ≤ 255 := by rw [nm_size]; omega
  by_cases hl : (nm (l :: ls)).size ≤ 255
  · rw [if_pos hl]
    go_enter Try.func34, Try.ntmps34
    go_wp2_with fail
    refine (right_yes ls ho _).mono ?_
    rintro e w1 ⟨rfl, hb1⟩
    go_wp2_with fail
    refine (rightLabel_yes s _ hs1 hs2).mono ?_
    rintro e w2 ⟨rfl, rfl⟩
    go_wp2_with fail
    rw [HZ.out, HB.out]
    refine (limited_ok _ _ hl).mono ?_
    rintro e w3 ⟨rfl, rfl⟩
    go_wp2
    go_ret2
    exact ⟨rfl, hb1.alloc hb1.size _⟩
  · rw [if_neg hl]
    go_enter Try.func34, Try.ntmps34
    go_wp2_with fail
    refine (right_yes ls ho _).mono ?_
    rintro e w1 ⟨rfl, hb1⟩
    go_wp2_with fail
    refine (rightLabel_yes s _ hs1 hs2).mono ?_
    rintro e w2 ⟨rfl, rfl⟩
    go_wp2_with fail
    rw [HZ.out, HB.out]
    refine (limited_long _ _ (by unfold maxLen; omega) (by omega)).mono ?_
    rintro e w3 ⟨rfl, rfl⟩
    go_wp2
    go_ret2
    exact ⟨rfl, hb1.alloc hb1.size _⟩

end Go.Proofs.Ytpngjmeinlcggaa
