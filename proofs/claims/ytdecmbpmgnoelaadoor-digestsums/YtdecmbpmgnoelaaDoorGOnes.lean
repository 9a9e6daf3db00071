/- The document's Sum1 is SHA-1; the walk of DigestOnes. -/
import Derived.Test.YtdecmbpmgnoelaaDoorGRSum1
import Derived.Test.YtdecmbpmgnoelaaDoorGExam
namespace Go.Proofs.YtdecmbpmgnoelaaDoor
set_option linter.unusedVariables false
open Go.RowKit
theorem padL_len (l : List UInt8) : (padL l).length = 64 * nb l.length := by simp [padL]
theorem pad_blk (l : List UInt8) (k j : Nat) (hk : k < nb l.length) (hj : j < 64) : (padL l)[64 * k + j]?.getD 0 = (blk l k)[j]?.getD 0 := by
  rw [blk_at l k j hj, padL, List.getElem?_map, List.getElem?_range (by omega)]
  rfl
theorem pad_wd (l : List UInt8) (k i : Nat) (hk : k < nb l.length) (hi : i < 16) : w4 ((padL l)[64 * k + 4 * i]?.getD 0) ((padL l)[64 * k + 4 * i + 1]?.getD 0) ((padL l)[64 * k + 4 * i + 2]?.getD 0) ((padL l)[64 * k + 4 * i + 3]?.getD 0) = wd (blk l k) i := by
  unfold wd
  rw [Nat.add_assoc, Nat.add_assoc, Nat.add_assoc, pad_blk l k (4 * i) hk (by omega), pad_blk l k (4 * i + 1) hk (by omega), pad_blk l k (4 * i + 2) hk (by omega), pad_blk l k (4 * i + 3) hk (by omega)]
/-- a word of the padded text. -/
theorem word_pad (s : ByteArray) (hs : s.size ≤ 140737488351232) (k i : Nat) (hk : k < nb s.size) (hi : i < 16) (W : World) :
    Calls Tryd.prog 24 #[.string ⟨(padL s.data.toList).toArray⟩, .int .i64 (((64 * k : Nat) : Int) + 4 * (i : Int))] W fun e w' => e = .returned (.int .u32 ((wd (blk s.data.toList k) i).toNat : Int)) ∧ ∃ j, w' = W.drewN j := by
  have hsz : (⟨(padL s.data.toList).toArray⟩ : ByteArray).size = 64 * nb s.size := by rw [ba_size, padL_len, size_list]
  have hb : nb s.size ≤ 2199023255553 := by unfold nb; omega
  have h := rword_in ⟨(padL s.data.toList).toArray⟩ (64 * k + 4 * i) (by omega) (by omega) W
  rw [show ((64 * k : Nat) : Int) + 4 * (i : Int) = ((64 * k + 4 * i : Nat) : Int) by omega, ← pad_wd s.data.toList k i (by rw [size_list]; exact hk) hi]
  exact h
theorem rsum1_in (s : ByteArray) (hs : s.size ≤ 140737488351232) (W : World) :
    Calls Tryd.prog 8 #[.string s] W fun e w' => e = .returned (.string ⟨(sha1 s.data.toList).toArray⟩) ∧ Below W.heap.size W w' :=
  rsum1_gen s ⟨(padL s.data.toList).toArray⟩ (nb s.size) (by rw [ba_size, padL_len, size_list]) (by unfold nb; omega) (fun W => padded_in s hs W) (blk s.data.toList) (fun k i hk hi W => word_pad s hs k i hk hi W)
    (fun k m => sch1 (blk s.data.toList k) m) (fun k => rfl) (fun k m => sch1_len _ m) (fun k m => rfl) (go1 s.data.toList) (fun k m => rn1 (sch1 (blk s.data.toList k) 80) m (go1 s.data.toList k)) (fun k => rfl) (fun k m => rfl) rfl (fun k => rfl)
    (sha1 s.data.toList) (fun W b h => tell_in W b (go1 s.data.toList (nb s.size)).l 31 (by show 5 ≤ 100; omega) h) W
set_option maxRecDepth 100000 in
set_option maxHeartbeats 2000000 in
theorem ones_walk (s : ByteArray) (hs : s.size ≤ 140737488351232) (W : World) (hG : Rk W) : Calls Tryd.prog 3 #[.string s] W fun e w' => e = .returned (.bool true) ∧ Below W.heap.size W w' := by
  have HE := Hid.mk (examples_in W hG)
  obtain ⟨X, hX⟩ : ∃ X : ByteArray, X = ⟨(sha1 s.data.toList).toArray⟩ := ⟨_, rfl⟩
  have A1 : Hid (∀ W : World, Calls Tryd.prog 7 #[.string s] W fun e w' => e = .returned (.string X) ∧ Below W.heap.size W w') := fun W => by rw [hX]; exact sum1_in s (by omega) W
  have A2 : Hid (∀ W : World, Calls Tryd.prog 8 #[.string s] W fun e w' => e = .returned (.string X) ∧ Below W.heap.size W w') := fun W => by rw [hX]; exact rsum1_in s hs W
  clear hX hs hG
  go_enter Tryd.func3, Tryd.ntmps3
  go_wp2_with fail
  refine HE.out.mono ?_
  rintro e w1 ⟨rfl, hb1⟩
  go_wp2_with fail
  refine (A1.out _).mono ?_
  rintro e w2 ⟨rfl, hb2⟩
  go_wp2_with fail
  refine (A2.out _).mono ?_
  rintro e w3 ⟨rfl, hb3⟩
  have k3 := bthen (bthen hb1 hb2) hb3
  go_wp2
  go_ret
  exact ⟨rfl, k3⟩
end Go.Proofs.YtdecmbpmgnoelaaDoor
