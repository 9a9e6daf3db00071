/- The document's Sum256 is SHA-256; the walk of DigestSums. -/
import Derived.Test.YtdecmbpmgnoelaaDoorGRSum2
import Derived.Test.YtdecmbpmgnoelaaDoorGOnes
namespace Go.Proofs.YtdecmbpmgnoelaaDoor
set_option linter.unusedVariables false
open Go.RowKit
theorem mix_all (s t : S8) : mix s.l t.l 8 = (add8 s t).l := rfl
theorem rsum2_in (s : ByteArray) (hs : s.size ≤ 140737488351232) (W : World) :
    Calls Tryd.prog 10 #[.string s] W fun e w' => e = .returned (.string ⟨(sha2 s.data.toList).toArray⟩) ∧ Below W.heap.size W w' :=
  rsum2_gen s ⟨(padL s.data.toList).toArray⟩ (nb s.size) (by rw [ba_size, padL_len, size_list]) (by unfold nb; omega) (fun W => padded_in s hs W) (blk s.data.toList) (fun k i hk hi W => word_pad s hs k i hk hi W)
    rk rfl rrounds_in (fun k m => sch2 (blk s.data.toList k) m) (fun k => rfl) (fun k m => sch2_len _ m) (fun k m => rfl) (go2 s.data.toList) (fun k m => rn2 (sch2 (blk s.data.toList k) 64) m (go2 s.data.toList k)) (fun k => rfl) (fun k m => rfl) rfl (fun k => (mix_all _ _).symm)
    (sha2 s.data.toList) (fun W b h => tell_in W b (go2 s.data.toList (nb s.size)).l 31 (by show 8 ≤ 100; omega) h) W
set_option maxRecDepth 100000 in
set_option maxHeartbeats 2000000 in
theorem sums_walk (s : ByteArray) (hs : s.size ≤ 140737488351232) (W : World) (hG : Rk W) : Calls Tryd.prog 4 #[.string s] W fun e w' => e = .returned (.bool true) ∧ Below W.heap.size W w' := by
  have HE := Hid.mk (examples_in W hG)
  have HG := Hid.mk hG
  obtain ⟨X, hX⟩ : ∃ X : ByteArray, X = ⟨(sha2 s.data.toList).toArray⟩ := ⟨_, rfl⟩
  have A1 : Hid (∀ W : World, Rk W → Calls Tryd.prog 9 #[.string s] W fun e w' => e = .returned (.string X) ∧ Below W.heap.size W w') := fun W hk => by rw [hX]; exact sum2_in s (by omega) W hk
  have A2 : Hid (∀ W : World, Calls Tryd.prog 10 #[.string s] W fun e w' => e = .returned (.string X) ∧ Below W.heap.size W w') := fun W => by rw [hX]; exact rsum2_in s hs W
  clear hX hs hG
  go_enter Tryd.func4, Tryd.ntmps4
  go_wp2_with fail
  refine HE.out.mono ?_
  rintro e w1 ⟨rfl, hb1⟩
  go_wp2_with fail
  refine (A1.out _ (HG.out.below hb1)).mono ?_
  rintro e w2 ⟨rfl, hb2⟩
  go_wp2_with fail
  refine (A2.out _).mono ?_
  rintro e w3 ⟨rfl, hb3⟩
  have k3 := bthen (bthen hb1 hb2) hb3
  go_wp2
  go_ret
  exact ⟨rfl, k3⟩
end Go.Proofs.YtdecmbpmgnoelaaDoor
