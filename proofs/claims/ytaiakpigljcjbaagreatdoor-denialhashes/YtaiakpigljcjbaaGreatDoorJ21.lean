/- Texts of this proof, joined: ZRHash, ZHashes. -/
import Derived.Test.YtaiakpigljcjbaaGreatDoorJ18
import Derived.Test.YtaiakpigljcjbaaGreatDoorJ19
import Derived.Test.YtaiakpigljcjbaaGreatDoorJ20
/- The document's Hash and Between. -/
namespace Go.Proofs.YtaiakpigljcjbaaGreatDoor
set_option linter.unusedVariables false
set_option linter.unusedSimpArgs false
open Go.RowKit
attribute [local go_sem ↓] storeAt_lk loadAt_lk
set_option maxRecDepth 100000 in
set_option maxHeartbeats 1000000 in
theorem rhash_no (s : ByteArray) (hs : s.size ≤ maxLen) (h : ¬ IsName s) (salt : ByteArray) (r : Int) (W : World) : Calls Tryz.prog 8 #[.string s, .string salt, .int .i64 r] W fun e w' => e = .returned (.tuple #[.string ⟨#[]⟩, .int .i64 2]) ∧ Below W.heap.size W w' := by
  have HR : Hid (∀ w, Calls Tryz.prog 20 #[.string s] w fun e w' => e = .returned (.bool false) ∧ Below w.heap.size w w') := fun w => rRight_no s hs h w
  clear h hs
  go_enter Tryz.func8, Tryz.ntmps8
  go_wp2_with fail
  refine (HR.out _).mono ?_
  rintro e w1 ⟨rfl, b1⟩
  go_wp2
  go_ret2
  exact ⟨rfl, b1⟩
set_option maxRecDepth 100000 in
set_option maxHeartbeats 2000000 in
theorem rhash_arg (ls : List (List UInt8)) (ho : OkN ls) (salt : ByteArray) (r : Int) (hr : r < 0 ∨ 65535 < r) (W : World) : Calls Tryz.prog 8 #[.string (nm ls), .string salt, .int .i64 r] W fun e w' => e = .returned (.tuple #[.string ⟨#[]⟩, .int .i64 1]) ∧ Below W.heap.size W w' := by
  have HR := Hid.mk (rRight_yes ls ho)
  generalize nm ls = sn at HR ⊢
  by_cases h1 : r < 0
  · have d1 : decide (r < 0) = true := decide_eq_true h1
    clear hr
    go_enter Tryz.func8, Tryz.ntmps8
    go_wp2_with fail
    refine (HR.out _).mono ?_
    rintro e w1 ⟨rfl, b1⟩
    go_wp2
    go_ret2
    exact ⟨rfl, b1⟩
  · have d1 : decide (r < 0) = false := decide_eq_false h1
    have h2 : 65535 < r := by omega
    have d2 : decide (65535 < r) = true := decide_eq_true h2
    clear hr
    go_enter Tryz.func8, Tryz.ntmps8
    go_wp2_with fail
    refine (HR.out _).mono ?_
    rintro e w1 ⟨rfl, b1⟩
    go_wp2
    go_ret2
    exact ⟨rfl, b1⟩
set_option maxRecDepth 100000 in
set_option maxHeartbeats 2000000 in
theorem rhash_long (ls : List (List UInt8)) (ho : OkN ls) (salt : ByteArray) (hs : 255 < salt.size) (r : Nat) (hr : r ≤ 65535) (W : World) : Calls Tryz.prog 8 #[.string (nm ls), .string salt, .int .i64 (r : Int)] W fun e w' => e = .returned (.tuple #[.string ⟨#[]⟩, .int .i64 3]) ∧ Below W.heap.size W w' := by
  have HR := Hid.mk (rRight_yes ls ho)
  have d1 : decide ((r : Int) < 0) = false := decide_eq_false (by omega)
  have d2 : decide ((65535 : Int) < (r : Int)) = false := decide_eq_false (by omega)
  have d3 : decide (255 < salt.size) = true := decide_eq_true hs
  have d4 : decide ((255 : Int) < (salt.size : Int)) = true := decide_eq_true (by omega)
  have d5 : decide (65535 < r) = false := decide_eq_false (by omega)
  have e2 : ¬ 65535 < r := by omega
  generalize nm ls = sn at HR ⊢
  go_enter Tryz.func8, Tryz.ntmps8
  go_wp2_with fail
  refine (HR.out _).mono ?_
  rintro e w1 ⟨rfl, b1⟩
  go_wp2
  go_ret2
  exact ⟨rfl, b1⟩
set_option maxRecDepth 100000 in
set_option maxHeartbeats 1000000 in
theorem rhash_ok (ls : List (List UInt8)) (ho : OkN ls) (salt : ByteArray) (hs : salt.size ≤ 255) (r : Nat) (hr : r ≤ 65535) (W : World) : Calls Tryz.prog 8 #[.string (nm ls), .string salt, .int .i64 (r : Int)] W fun e w' => e = .returned (.tuple #[.string (hashB ls salt r), .int .i64 0]) ∧ Below W.heap.size W w' := by
  have HRt := Hid.mk (rRight_yes ls ho)
  have HL := Hid.mk (U.rLower_yes ls ho)
  have hlen : (nmL (lowN ls)).length ≤ 255 := by
    have h1 := ho.low.len
    have h2 := nm_size (lowN ls)
    rw [← size_list, nm_list] at h2
    omega
  have HN := Hid.mk (hsh_len (nmL (lowN ls)) salt.data.toList hlen)
  obtain ⟨H, hH⟩ : ∃ H : Nat → ByteArray, H = fun i => ⟨(hsh (nmL (lowN ls)) salt.data.toList i).toArray⟩ := ⟨_, rfl⟩
  have H0 : nm (lowN ls) = H 0 := by rw [hH]; rfl
  have HS : Hid (∀ i w, Calls Tryz.prog 21 #[.string (H i ++ salt)] w fun e w' => e = .returned (.string (H (i + 1))) ∧ Below w.heap.size w w') := fun i w => by
    have hz : (H i ++ salt).size ≤ 140737488351232 := by
      rw [ByteArray.size_append, hH]
      have := HN.out i
      show (hsh (nmL (lowN ls)) salt.data.toList i).toArray.size + salt.size ≤ _
      simp only [List.size_toArray]
      omega
    have := G.rsum1_in (H i ++ salt) hz w
    rwa [show (⟨(G.sha1 (H i ++ salt).data.toList).toArray⟩ : ByteArray) = H (i + 1) by
      rw [hH]
      show (⟨(G.sha1 _).toArray⟩ : ByteArray) = ⟨(G.sha1 _).toArray⟩
      rw [ByteArray.data_append, Array.toList_append]] at this
  have HZ : Hid (∀ i, ¬ (9223372036854775807 < (H i).size + salt.size)) := fun i => by
    have := HN.out i
    rw [hH]
    show ¬ (9223372036854775807 < (hsh (nmL (lowN ls)) salt.data.toList i).toArray.size + salt.size)
    simp only [List.size_toArray]
    omega
  have HE : Hid (hashB ls salt r = H (r + 1)) := by rw [Hid, hH]; rfl
  rw [HE.out]
  rw [H0] at HL
  have d1 : decide ((r : Int) < 0) = false := decide_eq_false (by omega)
  have d2 : decide ((65535 : Int) < (r : Int)) = false := decide_eq_false (by omega)
  have d3 : decide (255 < salt.size) = false := decide_eq_false (by omega)
  have d4 : decide ((255 : Int) < (salt.size : Int)) = false := decide_eq_false (by omega)
  have d5 : decide (65535 < r) = false := decide_eq_false (by omega)
  have e1 : ¬ 255 < salt.size := by omega
  have e2 : ¬ 65535 < r := by omega
  generalize nm ls = sn at HL HRt ⊢
  obtain ⟨R, hR⟩ : ∃ R, H (r + 1) = R := ⟨_, rfl⟩
  have HR := Hid.mk hR
  rw [hR]
  clear hH H0 HE HN hlen hR hs
  have HZ0 := HZ.out 0
  have HS0 := Hid.mk (HS.out 0)
  obtain ⟨A0, hA0⟩ : ∃ A, H 0 = A := ⟨_, rfl⟩
  obtain ⟨A1, hA1⟩ : ∃ A, H 1 = A := ⟨_, rfl⟩
  have HA1 := Hid.mk hA1
  rw [hA0] at HL HZ0
  rw [hA0, show (0 + 1 : Nat) = 1 from rfl, hA1] at HS0
  clear hA0 hA1
  go_enter Tryz.func8, Tryz.ntmps8
  go_wp2_with fail
  refine (HRt.out _).mono ?_
  rintro e w0 ⟨rfl, b0⟩
  go_wp2_with fail
  refine (HL.out _).mono ?_
  rintro e w1 ⟨rfl, b1⟩
  replace b1 := bthen b0 b1
  clear b0
  go_wp2_with fail
  refine (HS0.out _).mono ?_
  rintro e w2 ⟨rfl, b2⟩
  replace b1 := bthen b1 b2
  clear b2
  go_wp2_with fail
  go_loopw [9, 10] (fun sv iv wr => ∃ i : Nat, i ≤ r ∧ iv = .int .i64 (i : Int) ∧ sv = .string (H (i + 1)) ∧ Below W.heap.size W wr) (fun _ iv _ => r - (intOf iv).toNat)
  case atStart => exact ⟨0, Nat.zero_le _, rfl, by rw [show (0 + 1 : Nat) = 1 from rfl, HA1.out], b1⟩
  case round =>
    obtain ⟨i, hi, rfl, rfl, hbl⟩ := hrel
    by_cases hlt : i < r
    · have hi' : (i : Int) < (r : Int) := by omega
      have hz := HZ.out (i + 1)
      have HSi := Hid.mk (HS.out (i + 1))
      obtain ⟨A, hA⟩ : ∃ A, H (i + 1) = A := ⟨_, rfl⟩
      obtain ⟨B, hB⟩ : ∃ B, H (i + 1 + 1) = B := ⟨_, rfl⟩
      rw [hA, hB] at HSi
      rw [hA] at hz ⊢
      have HB := Hid.mk hB
      clear hA hB
      go_wp2_with fail
      refine (HSi.out _).mono ?_
      rintro e w3 ⟨rfl, b2⟩
      have b3 := bthen hbl b2
      clear b2
      go_wp2
      go_roundw
      case rel => exact ⟨i + 1, by omega, by go_num, by rw [HB.out], b3⟩
      case measure => simp [intOf]; omega
    · obtain rfl : i = r := by omega
      rw [HR.out]
      go_wp2
      go_ret2
      exact ⟨rfl, hbl⟩
theorem rRight_dec (x : ByteArray) (hx : x.size ≤ maxLen) : ∃ D : Bool, (D = true ↔ IsName x) ∧ ∀ w, Calls Tryz.prog 20 #[.string x] w fun e w' => e = .returned (.bool D) ∧ Below w.heap.size w w' := by
  by_cases hn : IsName x
  · obtain ⟨ls, ho, rfl⟩ := hn
    exact ⟨true, ⟨fun _ => ⟨ls, ho, rfl⟩, fun _ => rfl⟩, rRight_yes ls ho⟩
  · exact ⟨false, ⟨fun h => by simp at h, fun h => absurd h hn⟩, fun w => rRight_no x hx hn w⟩
set_option maxRecDepth 100000 in
set_option maxHeartbeats 2000000 in
theorem rbtw_gen (a n b : ByteArray) (D1 D2 D3 : Bool) (hD : ¬ (D1 = true ∧ D2 = true ∧ D3 = true)) (W : World) (h1 : Hid (∀ w, Calls Tryz.prog 20 #[.string a] w fun en w' => en = .returned (.bool D1) ∧ Below w.heap.size w w')) (h2 : Hid (∀ w, Calls Tryz.prog 20 #[.string n] w fun en w' => en = .returned (.bool D2) ∧ Below w.heap.size w w')) (h3 : Hid (∀ w, Calls Tryz.prog 20 #[.string b] w fun en w' => en = .returned (.bool D3) ∧ Below w.heap.size w w')) : Calls Tryz.prog 9 #[.string a, .string n, .string b] W fun e w' => e = .returned (.bool false) ∧ Below W.heap.size W w' := by
  have HD := Hid.mk hD
  clear hD
  have F := Fm.start W
  go_enter Tryz.func9, Tryz.ntmps9
  go_wp2_with fail
  refine (h1.out _).mono ?_
  rintro e u1 ⟨rfl, hb⟩
  replace F := F.blk hb
  clear hb
  go_wp2_with fail
  refine (h2.out _).mono ?_
  rintro e u2 ⟨rfl, hb⟩
  replace F := F.blk hb
  clear hb
  go_wp2_with fail
  refine (h3.out _).mono ?_
  rintro e u3 ⟨rfl, hb⟩
  replace F := F.blk hb
  clear hb
  cases D1 with
  | false =>
    go_wp2
    go_ret
    exact ⟨rfl, F.bel⟩
  | true =>
    cases D2 with
    | false =>
      go_wp2
      go_ret
      exact ⟨rfl, F.bel⟩
    | true =>
      cases D3 with
      | false =>
        go_wp2
        go_ret
        exact ⟨rfl, F.bel⟩
      | true => exact absurd ⟨rfl, rfl, rfl⟩ HD.out
set_option maxRecDepth 100000 in
set_option maxHeartbeats 2000000 in
theorem rbtw_yes' (a n b : ByteArray) (x y z : Int) (hxy : x = 0 → y = z) (W : World) (h1 : Hid (∀ w, Calls Tryz.prog 20 #[.string a] w fun en w' => en = .returned (.bool true) ∧ Below w.heap.size w w')) (h2 : Hid (∀ w, Calls Tryz.prog 20 #[.string n] w fun en w' => en = .returned (.bool true) ∧ Below w.heap.size w w')) (h3 : Hid (∀ w, Calls Tryz.prog 20 #[.string b] w fun en w' => en = .returned (.bool true) ∧ Below w.heap.size w w')) (c1 : Hid (∀ w, Calls Tryz.prog 23 #[.string n, .string a] w fun en w' => en = .returned (.int .i64 x) ∧ Below w.heap.size w w')) (c2 : Hid (∀ w, Calls Tryz.prog 23 #[.string n, .string b] w fun en w' => en = .returned (.int .i64 y) ∧ Below w.heap.size w w')) (c3 : Hid (∀ w, Calls Tryz.prog 23 #[.string a, .string b] w fun en w' => en = .returned (.int .i64 z) ∧ Below w.heap.size w w')) : Calls Tryz.prog 9 #[.string a, .string n, .string b] W fun e w' => e = .returned (.bool (gapB x y z)) ∧ Below W.heap.size W w' := by
  have HXY := Hid.mk hxy
  clear hxy
  unfold gapB
  by_cases k1 : z < 0
  · rw [if_pos k1]
    have d1 : decide (z < 0) = true := decide_eq_true k1
    by_cases k2 : 0 < x
    · have d2 : decide (0 < x) = true := decide_eq_true k2
      rw [d2, Bool.true_and]
      by_cases k3 : y < 0
      · have d3 : decide (y < 0) = true := decide_eq_true k3
        rw [d3]
        have F := Fm.start W
        go_enter Tryz.func9, Tryz.ntmps9
        go_wp2_with fail
        refine (h1.out _).mono ?_
        rintro e u1 ⟨rfl, hb⟩
        replace F := F.blk hb
        clear hb
        go_wp2_with fail
        refine (h2.out _).mono ?_
        rintro e u2 ⟨rfl, hb⟩
        replace F := F.blk hb
        clear hb
        go_wp2_with fail
        refine (h3.out _).mono ?_
        rintro e u3 ⟨rfl, hb⟩
        replace F := F.blk hb
        clear hb
        go_wp2_with fail
        refine (c1.out _).mono ?_
        rintro e u4 ⟨rfl, hb⟩
        replace F := F.blk hb
        clear hb
        go_wp2_with fail
        refine (c2.out _).mono ?_
        rintro e u5 ⟨rfl, hb⟩
        replace F := F.blk hb
        clear hb
        go_wp2_with fail
        refine (c3.out _).mono ?_
        rintro e u6 ⟨rfl, hb⟩
        replace F := F.blk hb
        clear hb
        go_wp2
        go_ret
        exact ⟨by first | rfl | simp, F.bel⟩
      · have d3 : decide (y < 0) = false := decide_eq_false k3
        rw [d3]
        have F := Fm.start W
        go_enter Tryz.func9, Tryz.ntmps9
        go_wp2_with fail
        refine (h1.out _).mono ?_
        rintro e u1 ⟨rfl, hb⟩
        replace F := F.blk hb
        clear hb
        go_wp2_with fail
        refine (h2.out _).mono ?_
        rintro e u2 ⟨rfl, hb⟩
        replace F := F.blk hb
        clear hb
        go_wp2_with fail
        refine (h3.out _).mono ?_
        rintro e u3 ⟨rfl, hb⟩
        replace F := F.blk hb
        clear hb
        go_wp2_with fail
        refine (c1.out _).mono ?_
        rintro e u4 ⟨rfl, hb⟩
        replace F := F.blk hb
        clear hb
        go_wp2_with fail
        refine (c2.out _).mono ?_
        rintro e u5 ⟨rfl, hb⟩
        replace F := F.blk hb
        clear hb
        go_wp2_with fail
        refine (c3.out _).mono ?_
        rintro e u6 ⟨rfl, hb⟩
        replace F := F.blk hb
        clear hb
        go_wp2
        go_ret
        exact ⟨by first | rfl | simp, F.bel⟩
    · have d2 : decide (0 < x) = false := decide_eq_false k2
      rw [d2, Bool.false_and]
      by_cases k3 : y < 0
      · have d3 : decide (y < 0) = true := decide_eq_true k3
        have F := Fm.start W
        go_enter Tryz.func9, Tryz.ntmps9
        go_wp2_with fail
        refine (h1.out _).mono ?_
        rintro e u1 ⟨rfl, hb⟩
        replace F := F.blk hb
        clear hb
        go_wp2_with fail
        refine (h2.out _).mono ?_
        rintro e u2 ⟨rfl, hb⟩
        replace F := F.blk hb
        clear hb
        go_wp2_with fail
        refine (h3.out _).mono ?_
        rintro e u3 ⟨rfl, hb⟩
        replace F := F.blk hb
        clear hb
        go_wp2_with fail
        refine (c1.out _).mono ?_
        rintro e u4 ⟨rfl, hb⟩
        replace F := F.blk hb
        clear hb
        go_wp2_with fail
        refine (c2.out _).mono ?_
        rintro e u5 ⟨rfl, hb⟩
        replace F := F.blk hb
        clear hb
        go_wp2_with fail
        refine (c3.out _).mono ?_
        rintro e u6 ⟨rfl, hb⟩
        replace F := F.blk hb
        clear hb
        go_wp2
        go_ret
        exact ⟨by first | rfl | simp, F.bel⟩
      · have d3 : decide (y < 0) = false := decide_eq_false k3
        have F := Fm.start W
        go_enter Tryz.func9, Tryz.ntmps9
        go_wp2_with fail
        refine (h1.out _).mono ?_
        rintro e u1 ⟨rfl, hb⟩
        replace F := F.blk hb
        clear hb
        go_wp2_with fail
        refine (h2.out _).mono ?_
        rintro e u2 ⟨rfl, hb⟩
        replace F := F.blk hb
        clear hb
        go_wp2_with fail
        refine (h3.out _).mono ?_
        rintro e u3 ⟨rfl, hb⟩
        replace F := F.blk hb
        clear hb
        go_wp2_with fail
        refine (c1.out _).mono ?_
        rintro e u4 ⟨rfl, hb⟩
        replace F := F.blk hb
        clear hb
        go_wp2_with fail
        refine (c2.out _).mono ?_
        rintro e u5 ⟨rfl, hb⟩
        replace F := F.blk hb
        clear hb
        go_wp2_with fail
        refine (c3.out _).mono ?_
        rintro e u6 ⟨rfl, hb⟩
        replace F := F.blk hb
        clear hb
        go_wp2
        go_ret
        exact ⟨by first | rfl | simp, F.bel⟩
  · rw [if_neg k1]
    have d1 : decide (z < 0) = false := decide_eq_false k1
    by_cases k2 : 0 < x
    · have d2 : decide (0 < x) = true := decide_eq_true k2
      rw [d2, Bool.true_or]
      by_cases k3 : y < 0
      · have d3 : decide (y < 0) = true := decide_eq_true k3
        have F := Fm.start W
        go_enter Tryz.func9, Tryz.ntmps9
        go_wp2_with fail
        refine (h1.out _).mono ?_
        rintro e u1 ⟨rfl, hb⟩
        replace F := F.blk hb
        clear hb
        go_wp2_with fail
        refine (h2.out _).mono ?_
        rintro e u2 ⟨rfl, hb⟩
        replace F := F.blk hb
        clear hb
        go_wp2_with fail
        refine (h3.out _).mono ?_
        rintro e u3 ⟨rfl, hb⟩
        replace F := F.blk hb
        clear hb
        go_wp2_with fail
        refine (c1.out _).mono ?_
        rintro e u4 ⟨rfl, hb⟩
        replace F := F.blk hb
        clear hb
        go_wp2_with fail
        refine (c2.out _).mono ?_
        rintro e u5 ⟨rfl, hb⟩
        replace F := F.blk hb
        clear hb
        go_wp2_with fail
        refine (c3.out _).mono ?_
        rintro e u6 ⟨rfl, hb⟩
        replace F := F.blk hb
        clear hb
        go_wp2
        go_ret
        exact ⟨by first | rfl | simp, F.bel⟩
      · have d3 : decide (y < 0) = false := decide_eq_false k3
        have F := Fm.start W
        go_enter Tryz.func9, Tryz.ntmps9
        go_wp2_with fail
        refine (h1.out _).mono ?_
        rintro e u1 ⟨rfl, hb⟩
        replace F := F.blk hb
        clear hb
        go_wp2_with fail
        refine (h2.out _).mono ?_
        rintro e u2 ⟨rfl, hb⟩
        replace F := F.blk hb
        clear hb
        go_wp2_with fail
        refine (h3.out _).mono ?_
        rintro e u3 ⟨rfl, hb⟩
        replace F := F.blk hb
        clear hb
        go_wp2_with fail
        refine (c1.out _).mono ?_
        rintro e u4 ⟨rfl, hb⟩
        replace F := F.blk hb
        clear hb
        go_wp2_with fail
        refine (c2.out _).mono ?_
        rintro e u5 ⟨rfl, hb⟩
        replace F := F.blk hb
        clear hb
        go_wp2_with fail
        refine (c3.out _).mono ?_
        rintro e u6 ⟨rfl, hb⟩
        replace F := F.blk hb
        clear hb
        go_wp2
        go_ret
        exact ⟨by first | rfl | simp, F.bel⟩
    · have d2 : decide (0 < x) = false := decide_eq_false k2
      rw [d2, Bool.false_or]
      by_cases k3 : y < 0
      · have d3 : decide (y < 0) = true := decide_eq_true k3
        have hx0 : x ≠ 0 := fun h => by have := HXY.out h; omega
        have hx1 : (x == 0) = false := by simpa using hx0
        rw [d3]
        have F := Fm.start W
        go_enter Tryz.func9, Tryz.ntmps9
        go_wp2_with fail
        refine (h1.out _).mono ?_
        rintro e u1 ⟨rfl, hb⟩
        replace F := F.blk hb
        clear hb
        go_wp2_with fail
        refine (h2.out _).mono ?_
        rintro e u2 ⟨rfl, hb⟩
        replace F := F.blk hb
        clear hb
        go_wp2_with fail
        refine (h3.out _).mono ?_
        rintro e u3 ⟨rfl, hb⟩
        replace F := F.blk hb
        clear hb
        go_wp2_with fail
        refine (c1.out _).mono ?_
        rintro e u4 ⟨rfl, hb⟩
        replace F := F.blk hb
        clear hb
        go_wp2_with fail
        refine (c2.out _).mono ?_
        rintro e u5 ⟨rfl, hb⟩
        replace F := F.blk hb
        clear hb
        go_wp2_with fail
        refine (c3.out _).mono ?_
        rintro e u6 ⟨rfl, hb⟩
        replace F := F.blk hb
        clear hb
        go_wp2_with fail
        refine (c1.out _).mono ?_
        rintro e u7 ⟨rfl, hb⟩
        replace F := F.blk hb
        clear hb
        go_wp2
        go_ret
        exact ⟨by first | rfl | simp [hx0], F.bel⟩
      · have d3 : decide (y < 0) = false := decide_eq_false k3
        rw [d3]
        have F := Fm.start W
        go_enter Tryz.func9, Tryz.ntmps9
        go_wp2_with fail
        refine (h1.out _).mono ?_
        rintro e u1 ⟨rfl, hb⟩
        replace F := F.blk hb
        clear hb
        go_wp2_with fail
        refine (h2.out _).mono ?_
        rintro e u2 ⟨rfl, hb⟩
        replace F := F.blk hb
        clear hb
        go_wp2_with fail
        refine (h3.out _).mono ?_
        rintro e u3 ⟨rfl, hb⟩
        replace F := F.blk hb
        clear hb
        go_wp2_with fail
        refine (c1.out _).mono ?_
        rintro e u4 ⟨rfl, hb⟩
        replace F := F.blk hb
        clear hb
        go_wp2_with fail
        refine (c2.out _).mono ?_
        rintro e u5 ⟨rfl, hb⟩
        replace F := F.blk hb
        clear hb
        go_wp2_with fail
        refine (c3.out _).mono ?_
        rintro e u6 ⟨rfl, hb⟩
        replace F := F.blk hb
        clear hb
        go_wp2
        go_ret
        exact ⟨by first | rfl | simp, F.bel⟩
theorem rbtw_yes (a n b : List (List UInt8)) (ha : OkN a) (hn : OkN n) (hb : OkN b) (W : World) : Calls Tryz.prog 9 #[.string (nm a), .string (nm n), .string (nm b)] W fun e w' => e = .returned (.bool (btwB a n b)) ∧ Below W.heap.size W w' :=
  rbtw_yes' _ _ _ (cmpN n a) (cmpN n b) (cmpN a b) (fun h => by
    have h1 : (lowN n).reverse = (lowN a).reverse := cmpR_zero h
    show cmpR _ _ = cmpR _ _
    rw [h1]) W (rRight_yes a ha) (rRight_yes n hn) (rRight_yes b hb) (U.rCompare_yes n a hn ha) (U.rCompare_yes n b hn hb) (U.rCompare_yes a b ha hb)
/-- the document's Between and the program's. -/
theorem btw_both (a n b : ByteArray) (ha : a.size ≤ maxLen) (hn : n.size ≤ maxLen) (hb : b.size ≤ maxLen) : ∃ D : Bool, (∀ w, Calls Tryz.prog 9 #[.string a, .string n, .string b] w fun e w' => e = .returned (.bool D) ∧ Below w.heap.size w w') ∧ ∀ w, Calls Tryz.prog 10 #[.string a, .string n, .string b] w fun e w' => e = .returned (.bool D) ∧ Below w.heap.size w w' := by
  by_cases h : IsName a ∧ IsName n ∧ IsName b
  · obtain ⟨⟨la, oa, rfl⟩, ⟨ln, on, rfl⟩, ⟨lb, ob, rfl⟩⟩ := h
    exact ⟨btwB la ln lb, rbtw_yes la ln lb oa on ob, btw_yes la ln lb oa on ob⟩
  · obtain ⟨D1, i1, r1⟩ := rRight_dec a ha
    obtain ⟨D2, i2, r2⟩ := rRight_dec n hn
    obtain ⟨D3, i3, r3⟩ := rRight_dec b hb
    exact ⟨false, fun w => rbtw_gen a n b D1 D2 D3 (fun ⟨p, q, r⟩ => h ⟨i1.1 p, i2.1 q, i3.1 r⟩) w r1 r2 r3, fun w => btw_no a n b ha hn hb h w⟩
/-- the document's Hash and the program's. -/
theorem hash_both (n salt : ByteArray) (hn : n.size ≤ maxLen) (m : Int) : ∃ (h : ByteArray) (er : Int), (∀ w, Calls Tryz.prog 8 #[.string n, .string salt, .int .i64 m] w fun e w' => e = .returned (.tuple #[.string h, .int .i64 er]) ∧ Below w.heap.size w w') ∧ ∀ w, Calls Tryz.prog 7 #[.string n, .string salt, .int .i64 m] w fun e w' => e = .returned (.tuple #[.string h, .int .i64 er]) ∧ Below w.heap.size w w' := by
  by_cases h : IsName n
  · obtain ⟨ls, ho, rfl⟩ := h
    by_cases hm : m < 0 ∨ 65535 < m
    · exact ⟨⟨#[]⟩, 1, fun w => rhash_arg ls ho salt m hm w, fun w => hash_arg ls ho salt m hm w⟩
    · obtain ⟨r, rfl⟩ : ∃ r : Nat, m = r := ⟨m.toNat, by omega⟩
      by_cases hs : salt.size ≤ 255
      · exact ⟨hashB ls salt r, 0, fun w => rhash_ok ls ho salt hs r (by omega) w, fun w => hash_ok ls ho salt hs r (by omega) w⟩
      · exact ⟨⟨#[]⟩, 3, fun w => rhash_long ls ho salt (by omega) r (by omega) w, fun w => hash_long ls ho salt (by omega) r (by omega) w⟩
  · exact ⟨⟨#[]⟩, 2, fun w => rhash_no n hn h salt m w, fun w => hash_no n hn h salt m w⟩
end Go.Proofs.YtaiakpigljcjbaaGreatDoor

/- DenialHashes. -/
namespace Go.Proofs.YtaiakpigljcjbaaGreatDoor
set_option linter.unusedVariables false
set_option linter.unusedSimpArgs false
open Go.RowKit
attribute [local go_sem ↓] storeAt_lk loadAt_lk
set_option maxRecDepth 100000 in
set_option maxHeartbeats 2000000 in
theorem hashes_gen (n salt a b h : ByteArray) (er : Int) (m M : Int) (D : Bool) (W : World) (hM : M = if 300 < m ∧ m < 65536 then 300 else m) (h1 : Hid (∀ w, Calls Tryz.prog 7 #[.string n, .string salt, .int .i64 M] w fun en w' => en = .returned (.tuple #[.string h, .int .i64 er]) ∧ Below w.heap.size w w')) (h2 : Hid (∀ w, Calls Tryz.prog 8 #[.string n, .string salt, .int .i64 M] w fun en w' => en = .returned (.tuple #[.string h, .int .i64 er]) ∧ Below w.heap.size w w')) (h3 : Hid (∀ w, Calls Tryz.prog 9 #[.string a, .string n, .string b] w fun en w' => en = .returned (.bool D) ∧ Below w.heap.size w w')) (h4 : Hid (∀ w, Calls Tryz.prog 10 #[.string a, .string n, .string b] w fun en w' => en = .returned (.bool D) ∧ Below w.heap.size w w')) :
    Calls Tryz.prog 3 #[.string n, .string salt, .int .i64 m, .string a, .string b] W fun e w' => e = .returned (.bool true) ∧ Below W.heap.size W w' := by
  have HX := Hid.mk examples9_in
  by_cases k1 : 300 < m
  · have d1 : decide (300 < m) = true := decide_eq_true k1
    by_cases k2 : m < 65536
    · have d2 : decide (m < 65536) = true := decide_eq_true k2
      rw [if_pos ⟨k1, k2⟩] at hM
      subst hM
      have F := Fm.start W
      go_enter Tryz.func3, Tryz.ntmps3
      go_wp2_with fail
      refine (HX.out _).mono ?_
      rintro e u0 ⟨rfl, hb⟩
      replace F := F.blk hb
      clear hb
      go_wp2_with fail
      refine (h1.out _).mono ?_
      rintro e u1 ⟨rfl, hb⟩
      replace F := F.blk hb
      clear hb
      go_wp2_with fail
      refine (h2.out _).mono ?_
      rintro e u2 ⟨rfl, hb⟩
      replace F := F.blk hb
      clear hb
      go_wp2_with fail
      refine (h3.out _).mono ?_
      rintro e u3 ⟨rfl, hb⟩
      replace F := F.blk hb
      clear hb
      go_wp2_with fail
      refine (h4.out _).mono ?_
      rintro e u4 ⟨rfl, hb⟩
      replace F := F.blk hb
      clear hb
      go_wp2
      go_ret
      exact ⟨by first | rfl | simp | (cases D <;> rfl), F.bel⟩
    · have d2 : decide (m < 65536) = false := decide_eq_false k2
      rw [if_neg (fun h => k2 h.2)] at hM
      subst hM
      have F := Fm.start W
      go_enter Tryz.func3, Tryz.ntmps3
      go_wp2_with fail
      refine (HX.out _).mono ?_
      rintro e u0 ⟨rfl, hb⟩
      replace F := F.blk hb
      clear hb
      go_wp2_with fail
      refine (h1.out _).mono ?_
      rintro e u1 ⟨rfl, hb⟩
      replace F := F.blk hb
      clear hb
      go_wp2_with fail
      refine (h2.out _).mono ?_
      rintro e u2 ⟨rfl, hb⟩
      replace F := F.blk hb
      clear hb
      go_wp2_with fail
      refine (h3.out _).mono ?_
      rintro e u3 ⟨rfl, hb⟩
      replace F := F.blk hb
      clear hb
      go_wp2_with fail
      refine (h4.out _).mono ?_
      rintro e u4 ⟨rfl, hb⟩
      replace F := F.blk hb
      clear hb
      go_wp2
      go_ret
      exact ⟨by first | rfl | simp | (cases D <;> rfl), F.bel⟩
  · have d1 : decide (300 < m) = false := decide_eq_false k1
    rw [if_neg (fun h => k1 h.1)] at hM
    subst hM
    have F := Fm.start W
    go_enter Tryz.func3, Tryz.ntmps3
    go_wp2_with fail
    refine (HX.out _).mono ?_
    rintro e u0 ⟨rfl, hb⟩
    replace F := F.blk hb
    clear hb
    go_wp2_with fail
    refine (h1.out _).mono ?_
    rintro e u1 ⟨rfl, hb⟩
    replace F := F.blk hb
    clear hb
    go_wp2_with fail
    refine (h2.out _).mono ?_
    rintro e u2 ⟨rfl, hb⟩
    replace F := F.blk hb
    clear hb
    go_wp2_with fail
    refine (h3.out _).mono ?_
    rintro e u3 ⟨rfl, hb⟩
    replace F := F.blk hb
    clear hb
    go_wp2_with fail
    refine (h4.out _).mono ?_
    rintro e u4 ⟨rfl, hb⟩
    replace F := F.blk hb
    clear hb
    go_wp2
    go_ret
    exact ⟨by first | rfl | simp | (cases D <;> rfl), F.bel⟩
theorem hashes_walk (n : ByteArray) (hn : n.size ≤ 140737488355328) (salt : ByteArray) (hs : salt.size ≤ 140737488355328) (m : Int) (hm : (Lit.int .i64 m).wf = true) (a : ByteArray) (ha : a.size ≤ 140737488355328) (b : ByteArray) (hb : b.size ≤ 140737488355328) (W : World) (hG : ZG W) : Calls Tryz.prog 3 #[.string n, .string salt, .int .i64 m, .string a, .string b] W fun e w' => e = .returned (.bool true) ∧ Below W.heap.size W w' := by
  have m1 : a.size ≤ maxLen := by unfold maxLen; omega
  have m2 : n.size ≤ maxLen := by unfold maxLen; omega
  have m3 : b.size ≤ maxLen := by unfold maxLen; omega
  obtain ⟨h, er, p1, p2⟩ := hash_both n salt m2 (if 300 < m ∧ m < 65536 then 300 else m)
  obtain ⟨D, q1, q2⟩ := btw_both a n b m1 m2 m3
  exact hashes_gen n salt a b h er m _ D W rfl p2 p1 q1 q2
end Go.Proofs.YtaiakpigljcjbaaGreatDoor
