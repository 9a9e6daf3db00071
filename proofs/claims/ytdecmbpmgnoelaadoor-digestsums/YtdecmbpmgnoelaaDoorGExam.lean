/- The examples are so; DigestBack's walk. -/
import Derived.Test.YtdecmbpmgnoelaaDoorGTop
namespace Go.Proofs.YtdecmbpmgnoelaaDoor
set_option linter.unusedVariables false
open Go.RowKit
theorem ex_h2 : spl 4 (sha2 [97, 98, 99]) = [98, 97, 55, 56, 49, 54, 98, 102, 56, 102, 48, 49, 99, 102, 101, 97, 52, 49, 52, 49, 52, 48, 100, 101, 53, 100, 97, 101, 50, 50, 50, 51, 98, 48, 48, 51, 54, 49, 97, 51, 57, 54, 49, 55, 55, 97, 57, 99, 98, 52, 49, 48, 102, 102, 54, 49, 102, 50, 48, 48, 49, 53, 97, 100] := by rw [sha2_abc]; decide +kernel
set_option maxRecDepth 100000 in
set_option maxHeartbeats 2000000 in
theorem examples_in (W : World) (hG : Rk W) : Calls Tryd.prog 6 #[] W fun e w' => e = .returned (.bool true) ∧ Below W.heap.size W w' := by
  have HG := Hid.mk hG
  have A1 : Hid (∀ W : World, Calls Tryd.prog 13 #[.string ⟨#[86, 83]⟩] W fun e w' => e = .returned (.tuple #[.string ⟨#[255]⟩, .int .i64 0]) ∧ Below W.heap.size W w') := fun W => unb32_yes ⟨#[86, 83]⟩ (by show 2 ≤ 8388613; omega) [255] ex_vs W
  have A2 : Hid (∀ W : World, Calls Tryd.prog 13 #[.string ⟨#[118, 116]⟩] W fun e w' => e = .returned (.tuple #[.string ⟨#[]⟩, .int .i64 7]) ∧ Below W.heap.size W w') := fun W => unb32_no ⟨#[118, 116]⟩ (by show 2 ≤ 8388613; omega) ex_vt W
  have A3 : Hid (∀ W : World, Calls Tryd.prog 11 #[.string ⟨#[102, 70]⟩] W fun e w' => e = .returned (.tuple #[.string ⟨#[255]⟩, .int .i64 0]) ∧ Below W.heap.size W w') := fun W => unhex_yes ⟨#[102, 70]⟩ (by show 2 ≤ 8388613; omega) [255] ex_ff W
  obtain ⟨S1, A4, A5⟩ : ∃ S1 : ByteArray, Hid (∀ W : World, Calls Tryd.prog 7 #[.string ⟨#[97, 98, 99]⟩] W fun e w' => e = .returned (.string S1) ∧ Below W.heap.size W w') ∧ Hid (∀ W : World, Calls Tryd.prog 15 #[.string S1] W fun e w' => e = .returned (.string ⟨#[97, 57, 57, 57, 51, 101, 51, 54, 52, 55, 48, 54, 56, 49, 54, 97, 98, 97, 51, 101, 50, 53, 55, 49, 55, 56, 53, 48, 99, 50, 54, 99, 57, 99, 100, 48, 100, 56, 57, 100]⟩) ∧ Below W.heap.size W w') :=
    ⟨⟨(sha1 [97, 98, 99]).toArray⟩, fun W => sum1_in ⟨#[97, 98, 99]⟩ (by show 3 ≤ 140737488355328; omega) W, fun W => by
      have h := hex_in ⟨(sha1 [97, 98, 99]).toArray⟩ (by rw [ba_size, sha1_len]; omega) W
      rwa [ex_h1] at h⟩
  obtain ⟨S2, A6, A7⟩ : ∃ S2 : ByteArray, Hid (∀ W : World, Rk W → Calls Tryd.prog 9 #[.string ⟨#[97, 98, 99]⟩] W fun e w' => e = .returned (.string S2) ∧ Below W.heap.size W w') ∧ Hid (∀ W : World, Calls Tryd.prog 15 #[.string S2] W fun e w' => e = .returned (.string ⟨#[98, 97, 55, 56, 49, 54, 98, 102, 56, 102, 48, 49, 99, 102, 101, 97, 52, 49, 52, 49, 52, 48, 100, 101, 53, 100, 97, 101, 50, 50, 50, 51, 98, 48, 48, 51, 54, 49, 97, 51, 57, 54, 49, 55, 55, 97, 57, 99, 98, 52, 49, 48, 102, 102, 54, 49, 102, 50, 48, 48, 49, 53, 97, 100]⟩) ∧ Below W.heap.size W w') :=
    ⟨⟨(sha2 [97, 98, 99]).toArray⟩, fun W hk => sum2_in ⟨#[97, 98, 99]⟩ (by show 3 ≤ 140737488355328; omega) W hk, fun W => by
      have h := hex_in ⟨(sha2 [97, 98, 99]).toArray⟩ (by rw [ba_size, sha2_len]; omega) W
      rwa [ex_h2] at h⟩
  have A8 : Hid (∀ W : World, Calls Tryd.prog 17 #[.string ⟨#[255]⟩] W fun e w' => e = .returned (.string ⟨#[118, 115]⟩) ∧ Below W.heap.size W w') := fun W => by
    have h := b32_in ⟨#[255]⟩ (by show 1 ≤ 1048576; omega) W
    rwa [show (⟨#[255]⟩ : ByteArray).data.toList = [255] from rfl, ex_b] at h
  clear hG
  go_enter Tryd.func6, Tryd.ntmps6
  go_wp2_with fail
  refine (A1.out _).mono ?_
  rintro e w1 ⟨rfl, hb1⟩
  go_wp2_with fail
  refine (A2.out _).mono ?_
  rintro e w2 ⟨rfl, hb2⟩
  go_wp2_with fail
  refine (A3.out _).mono ?_
  rintro e w3 ⟨rfl, hb3⟩
  have k3 := bthen (bthen hb1 hb2) hb3
  go_wp2_with fail
  refine (A4.out _).mono ?_
  rintro e w4 ⟨rfl, hb4⟩
  go_wp2_with fail
  refine (A5.out _).mono ?_
  rintro e w5 ⟨rfl, hb5⟩
  have k5 := bthen (bthen k3 hb4) hb5
  go_wp2_with fail
  refine (A6.out _ (HG.out.below k5)).mono ?_
  rintro e w6 ⟨rfl, hb6⟩
  go_wp2_with fail
  refine (A7.out _).mono ?_
  rintro e w7 ⟨rfl, hb7⟩
  go_wp2_with fail
  refine (A8.out _).mono ?_
  rintro e w8 ⟨rfl, hb8⟩
  have k8 := bthen (bthen (bthen k5 hb6) hb7) hb8
  go_wp2
  go_ret
  exact ⟨rfl, k8⟩
end Go.Proofs.YtdecmbpmgnoelaaDoor
