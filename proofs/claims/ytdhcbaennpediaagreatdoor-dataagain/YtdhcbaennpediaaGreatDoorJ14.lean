/- Texts of this proof, joined: DExam, DExamples, DAgain. -/
import Derived.Test.YtdhcbaennpediaaGreatDoorJ7
import Derived.Test.YtdhcbaennpediaaGreatDoorJ13
import Derived.Test.YtdhcbaennpediaaGreatDoorJ10
import Derived.Test.YtdhcbaennpediaaGreatDoorJ11
/- The chapter's examples, one by one. -/
namespace Go.Proofs.YtdhcbaennpediaaGreatDoor
set_option linter.unusedVariables false
open Go.RowKit

theorem word_all (s : List UInt8) (h : Lib.cut s [32] = (s, [], false)) : wordB ⟨s.toArray⟩ = ⟨s.toArray⟩ ∧ restB ⟨s.toArray⟩ = ⟨#[]⟩ := by
  unfold wordB restB
  simp only [h]
  exact ⟨trivial, trivial⟩

theorem dd0 : Lib.decDigits 0 = [48] := by rw [Lib.decDigits]; rfl
theorem dd1 : Lib.decDigits 1 = [49] := by rw [Lib.decDigits]; rfl
theorem dd2 : Lib.decDigits 2 = [50] := by rw [Lib.decDigits]; rfl
theorem dd7 : Lib.decDigits 7 = [55] := by rw [Lib.decDigits]; rfl
theorem dd19 : Lib.decDigits 19 = [49, 57] := by
  rw [Lib.decDigits, dif_neg (by omega), show 19 / 10 = 1 from rfl, dd1]; rfl
theorem dd192 : Lib.decDigits 192 = [49, 57, 50] := by
  rw [Lib.decDigits, dif_neg (by omega), show 192 / 10 = 19 from rfl, dd19]; rfl
theorem dd70 : Lib.decDigits 70 = [55, 48] := by
  rw [Lib.decDigits, dif_neg (by omega), show 70 / 10 = 7 from rfl, dd7]; rfl
theorem aT_ex : aT ⟨#[192, 0, 2, 1]⟩ = [49, 57, 50, 46, 48, 46, 50, 46, 49] := by
  have h : grpW (⟨#[192, 0, 2, 1]⟩ : ByteArray).data.toList = [⟨#[49, 57, 50]⟩, ⟨#[48]⟩, ⟨#[50]⟩, ⟨#[49]⟩] := by
    show [(⟨(Lib.decDigits 192).toArray⟩ : ByteArray), ⟨(Lib.decDigits 0).toArray⟩, ⟨(Lib.decDigits 2).toArray⟩, ⟨(Lib.decDigits 1).toArray⟩] = _
    rw [dd0, dd1, dd2, dd192]
  rw [aT, h]
  rfl

theorem ex_A1 (W : World) (hG : Glob W) : Calls Tryz.prog 32 #[.int .i64 1, .string ⟨#[49, 57, 50, 46, 48, 46, 50, 46, 49]⟩] W fun e w' => e = .returned (.tuple #[.string ⟨#[192, 0, 2, 1]⟩, .int .i64 0]) ∧ Below W.heap.size W w' := by
  have hw := word_all [49, 57, 50, 46, 48, 46, 50, 46, 49] (by rfl)
  have h := readA_in ⟨#[49, 57, 50, 46, 48, 46, 50, 46, 49]⟩ (by decide) [⟨#[49, 57, 50]⟩, ⟨#[48]⟩, ⟨#[50]⟩, ⟨#[49]⟩] [192, 0, 2, 1] rfl rfl (by
      intro j h1 h2
      match j, h1 with
      | 0, _ => exact ⟨Nat.le_of_ble_eq_true rfl, Nat.le_of_ble_eq_true rfl, by rfl⟩
      | 1, _ => exact ⟨Nat.le_of_ble_eq_true rfl, Nat.le_of_ble_eq_true rfl, by rfl⟩
      | 2, _ => exact ⟨Nat.le_of_ble_eq_true rfl, Nat.le_of_ble_eq_true rfl, by rfl⟩
      | 3, _ => exact ⟨Nat.le_of_ble_eq_true rfl, Nat.le_of_ble_eq_true rfl, by rfl⟩) (by rw [hw.1]; decide) (by rw [hw.2]; decide) (by rw [hw.1]; kernel_rfl) W hG
  have hv : (⟨([192, 0, 2, 1].map UInt8.ofNat).toArray⟩ : ByteArray) = ⟨#[192, 0, 2, 1]⟩ := rfl
  rw [hv, aT_ex] at h
  rw [if_pos rfl] at h
  exact h

theorem ex_A2 (W : World) (hG : Glob W) : Calls Tryz.prog 32 #[.int .i64 1, .string ⟨#[49, 57, 50, 46, 48, 46, 50, 46, 48, 49]⟩] W fun e w' => e = .returned (.tuple #[.string ⟨#[]⟩, .int .i64 7]) ∧ Below W.heap.size W w' := by
  have hw := word_all [49, 57, 50, 46, 48, 46, 50, 46, 48, 49] (by rfl)
  have h := readA_in ⟨#[49, 57, 50, 46, 48, 46, 50, 46, 48, 49]⟩ (by decide) [⟨#[49, 57, 50]⟩, ⟨#[48]⟩, ⟨#[50]⟩, ⟨#[48, 49]⟩] [192, 0, 2, 1] rfl rfl (by
      intro j h1 h2
      match j, h1 with
      | 0, _ => exact ⟨Nat.le_of_ble_eq_true rfl, Nat.le_of_ble_eq_true rfl, by rfl⟩
      | 1, _ => exact ⟨Nat.le_of_ble_eq_true rfl, Nat.le_of_ble_eq_true rfl, by rfl⟩
      | 2, _ => exact ⟨Nat.le_of_ble_eq_true rfl, Nat.le_of_ble_eq_true rfl, by rfl⟩
      | 3, _ => exact ⟨Nat.le_of_ble_eq_true rfl, Nat.le_of_ble_eq_true rfl, by rfl⟩) (by rw [hw.1]; decide) (by rw [hw.2]; decide) (by rw [hw.1]; kernel_rfl) W hG
  have hv : (⟨([192, 0, 2, 1].map UInt8.ofNat).toArray⟩ : ByteArray) = ⟨#[192, 0, 2, 1]⟩ := rfl
  rw [hv, aT_ex] at h
  rw [if_neg (by intro e; have := congrArg ByteArray.size e; revert this; decide)] at h
  exact h

theorem ex_T70 (W : World) (hG : Glob W) : Calls Tryz.prog 33 #[.int .i64 70, .string ⟨#[1]⟩] W fun e w' => e = .returned (.tuple #[.string ⟨#[92, 35, 32, 49, 32, 48, 49]⟩, .int .i64 0]) ∧ Below W.heap.size W w' := by
  have h := text_of (by omega) (told_other 70 (by omega) rfl ⟨#[1]⟩ (by decide) W hG.pow)
  have ha : anyT ⟨#[1]⟩ = [92, 35, 32, 49, 32, 48, 49] := by
    have : (⟨#[1]⟩ : ByteArray).size = 1 := rfl
    simp [anyT, this, Lib.decDigits, hexL, hexB, dig]
  rw [ha] at h
  exact h

theorem ex_Txt (W : World) (hG : Glob W) : Calls Tryz.prog 32 #[.int .i64 16, .string ⟨#[34, 97, 92, 34, 98, 34, 32, 34, 34]⟩] W fun e w' => e = .returned (.tuple #[.string ⟨#[3, 97, 34, 98, 0]⟩, .int .i64 0]) ∧ Below W.heap.size W w' := by
  have hm : RsM [32, 34, 34] [0] := RsM.cons [34] [] [] [] rfl (by decide) RsM.nil
  have ht : txtT ⟨(cntd [97, 34, 98] ++ [0]).toArray⟩ = [34, 97, 92, 34, 98, 34, 32, 34, 34] := by kernel_rfl
  have h := readT_in [97, 92, 34, 98, 34, 32, 34, 34] [97, 34, 98] [32, 34, 34] [0] (by decide) rfl (by decide) hm (by kernel_rfl) (by rw [ht]; decide) (by rw [ht]; decide) W hG
  rw [ht, if_pos rfl] at h
  exact h

theorem ex_Of70 (W : World) (hG : Glob W) : Calls Tryz.prog 34 #[.string ⟨#[84, 89, 80, 69, 55, 48]⟩] W fun e w' => e = .returned (.tuple #[.int .i64 70, .int .i64 0]) ∧ Below W.heap.size W w' := by
  have h := typeOf_num [84, 89, 80, 69, 55, 48] [55, 48] 70 (by omega) rfl (by decide) (by rfl) (by decide) W hG.types hG.pow
  have hn : numT 70 [84, 89, 80, 69, 55, 48] = (70, 0) := by
    unfold numT
    have : typeT 70 = [84, 89, 80, 69, 55, 48] := by
      have ho : own? ((70 : Nat) : Int) = none := by rfl
      rw [typeT, ho]
      simp only [dd70]
      rfl
    rw [this]; rfl
  rw [hn] at h
  exact h
theorem ex_Of1 (W : World) (hG : Glob W) : Calls Tryz.prog 34 #[.string ⟨#[84, 89, 80, 69, 49]⟩] W fun e w' => e = .returned (.tuple #[.int .i64 0, .int .i64 7]) ∧ Below W.heap.size W w' := by
  have h := typeOf_num [84, 89, 80, 69, 49] [49] 1 (by omega) rfl (by decide) (by rfl) (by decide) W hG.types hG.pow
  have hn : numT 1 [84, 89, 80, 69, 49] = (0, 7) := by
    unfold numT
    have : typeT 1 = [65] := by
      have ho : own? ((1 : Nat) : Int) = some [65] := by rfl
      rw [typeT, ho]
    rw [this]; rfl
  rw [hn] at h
  exact h

theorem ex_R1 (W : World) : Calls Tryz.prog 35 #[.int .i64 1, .string ⟨#[97, 98, 99]⟩] W fun e w' => e = .returned (.bool false) ∧ Below W.heap.size W w' :=
  right_of (R := none) (split_A_no ⟨#[97, 98, 99]⟩ (by decide) (by decide)) W
theorem ex_R2 (W : World) : Calls Tryz.prog 35 #[.int .i64 70000, .string ⟨#[]⟩] W fun e w' => e = .returned (.bool false) ∧ Below W.heap.size W w' :=
  right_of (R := none) (fun W => split_long W 70000 ⟨#[]⟩ (by decide) (.inl (by decide))) W
end Go.Proofs.YtdhcbaennpediaaGreatDoor

/- examples() holds. -/
namespace Go.Proofs.YtdhcbaennpediaaGreatDoor
set_option linter.unusedVariables false
open Go.RowKit

set_option maxRecDepth 100000 in
set_option maxHeartbeats 2000000 in
theorem examples_in (W : World) (hG : Glob W) : Calls Tryz.prog 7 #[] W fun e w' => e = .returned (.bool true) ∧ Below W.heap.size W w' := by
  go_enter Tryz.func7, Tryz.ntmps7
  go_wp2_with fail
  refine (ex_A1 W hG).mono ?_
  rintro e w1 ⟨rfl, hb1⟩
  have hG1 := hG.below hb1
  go_wp2_with fail
  refine (ex_A2 w1 hG1).mono ?_
  rintro e w2 ⟨rfl, hb2⟩
  have hG2 := hG1.below hb2
  have k2 : Below W.heap.size W w2 := bth hb1 hb2 hb1.size
  go_wp2_with fail
  refine (ex_T70 w2 hG2).mono ?_
  rintro e w3 ⟨rfl, hb3⟩
  have hG3 := hG2.below hb3
  have k3 : Below W.heap.size W w3 := bth k2 hb3 k2.size
  go_wp2_with fail
  refine (ex_Txt w3 hG3).mono ?_
  rintro e w4 ⟨rfl, hb4⟩
  have hG4 := hG3.below hb4
  have k4 : Below W.heap.size W w4 := bth k3 hb4 k3.size
  go_wp2_with fail
  refine (ex_Of70 w4 hG4).mono ?_
  rintro e w5 ⟨rfl, hb5⟩
  have hG5 := hG4.below hb5
  have k5 : Below W.heap.size W w5 := bth k4 hb5 k4.size
  go_wp2_with fail
  refine (ex_Of1 w5 hG5).mono ?_
  rintro e w6 ⟨rfl, hb6⟩
  have k6 : Below W.heap.size W w6 := bth k5 hb6 k5.size
  go_wp2_with fail
  refine (ex_R1 w6).mono ?_
  rintro e w7 ⟨rfl, hb7⟩
  have k7 : Below W.heap.size W w7 := bth k6 hb7 k6.size
  go_wp2_with fail
  refine (ex_R2 w7).mono ?_
  rintro e w8 ⟨rfl, hb8⟩
  have k8 : Below W.heap.size W w8 := bth k7 hb8 k7.size
  go_wp2
  go_ret
  exact ⟨rfl, k8⟩
end Go.Proofs.YtdhcbaennpediaaGreatDoor

/- DataAgain, the walk: what is taken apart is put together again. -/
namespace Go.Proofs.YtdhcbaennpediaaGreatDoor
set_option linter.unusedVariables false
open Go.RowKit

theorem or_ok {er : Int} {J : Option ByteArray} {d : ByteArray} (h : er = 0 → J = some d) : (er != 0) = true ∨ ((er != 0) = false ∧ ((strOf J).toList == d.toList) = true) := by
  by_cases e : er = 0
  · right
    rw [h e, e]
    exact ⟨rfl, by simp [strOf]⟩
  · left
    simpa using e
theorem old_new {A B : World} {b : Nat} {o p : Obj} (h : A.heap[b]? = some o) (hb : Below (A.alloc p).heap.size (A.alloc p) B) : B.heap[b]? = some o := by
  have hl := box_lt h
  exact (hb.block b (by simp; omega)).trans ((alloc_old _ _ _ hl).trans h)
theorem new_new {A B : World} {p : Obj} (hb : Below (A.alloc p).heap.size (A.alloc p) B) : B.heap[A.heap.size]? = some p := (hb.block _ (by simp)).trans (heap_new _ _)
theorem old_old {A B : World} {b : Nat} {o : Obj} (h : A.heap[b]? = some o) (hb : Below A.heap.size A B) : B.heap[b]? = some o := (hb.block b (box_lt h)).trans h
theorem bel_new {W A B : World} {p : Obj} (h : Below W.heap.size W A) (hb : Below (A.alloc p).heap.size (A.alloc p) B) : Below W.heap.size W B := (h.alloc h.size _).trans (hb.mono (by have := h.size; simp; omega))

set_option maxRecDepth 100000 in
set_option maxHeartbeats 4000000 in
theorem again_walk (d : ByteArray) (hd : d.size ≤ maxLen) (W : World) (hG : Glob W) :
    Calls Tryz.prog 5 #[.string d] W fun e w' => e = .returned (.bool true) ∧ Below W.heap.size W w' := by
  have HT1 := Hid.mk (takeSoa_in d hd)
  have HT2 := Hid.mk (takeSig_in d hd)
  have HT3 := Hid.mk (takeKey_in d hd)
  have HT4 := Hid.mk (takeDs_in d hd)
  have HT5 := Hid.mk (takeNsec_in d hd)
  have HT6 := Hid.mk (takeNsec3_in d hd)
  go_enter Tryz.func5, Tryz.ntmps5
  go_wp2_with fail
  refine (examples_in W hG).mono ?_
  rintro e w1 ⟨rfl, k1⟩
  go_wp2_with fail
  refine (HT1.out _).mono ?_
  rintro e w2 ⟨⟨v1, er1, rfl, ⟨x1n2, x1n3, x1n4, x1n5, x1n6, x1s0, x1s1, rfl, hbd1, J1, _⟩⟩, y1⟩
  have J1H := Hid.mk (or_ok J1)
  have B1H := Hid.mk hbd1
  have k2 := Hid.mk (bth k1 y1 k1.size)
  clear HT1 J1 hbd1 y1 k1
  go_wp2_with fail
  refine (HT2.out _).mono ?_
  rintro e w3 ⟨⟨v2, er2, rfl, ⟨x2n0, x2n1, x2n2, x2n3, x2n4, x2n5, x2n6, x2s7, x2s8, rfl, hbd2, J2, _⟩⟩, y2⟩
  have J2H := Hid.mk (or_ok J2)
  have B2H := Hid.mk hbd2
  have k3 := Hid.mk (bel_new k2.out y2)
  have H1 := Hid.mk (new_new y2)
  clear HT2 J2 hbd2 y2
  go_wp2_with fail
  refine (HT3.out _).mono ?_
  rintro e w4 ⟨⟨v3, er3, rfl, ⟨x3n0, x3n1, x3n2, x3s3, rfl, hbd3, J3, _⟩⟩, y3⟩
  have J3H := Hid.mk (or_ok J3)
  have B3H := Hid.mk hbd3
  have k4 := Hid.mk (bel_new k3.out y3)
  replace H1 := Hid.mk (old_new H1.out y3)
  have H2 := Hid.mk (new_new y3)
  clear HT3 J3 hbd3 y3
  go_wp2_with fail
  refine (HT4.out _).mono ?_
  rintro e w5 ⟨⟨v4, er4, rfl, ⟨x4n0, x4n1, x4n2, x4s3, rfl, hbd4, J4, _⟩⟩, y4⟩
  have J4H := Hid.mk (or_ok J4)
  have B4H := Hid.mk hbd4
  have k5 := Hid.mk (bel_new k4.out y4)
  replace H1 := Hid.mk (old_new H1.out y4)
  replace H2 := Hid.mk (old_new H2.out y4)
  have H3 := Hid.mk (new_new y4)
  clear HT4 J4 hbd4 y4
  go_wp2_with fail
  refine (HT5.out _).mono ?_
  rintro e w6 ⟨⟨v5, er5, rfl, ⟨x5nx, x5v, x5l, x5b, rfl, I5, hbd5, hln5, hen5, J5, _⟩⟩, y5⟩
  have I5H := Hid.mk I5
  obtain ⟨q5, c5, hv5, _⟩ := I5
  subst hv5
  have J5H := Hid.mk (or_ok J5)
  have B5H := Hid.mk hbd5
  have L5H := Hid.mk hln5
  have E5H := Hid.mk hen5
  have k6 := Hid.mk (bel_new k5.out y5)
  replace H1 := Hid.mk (old_new H1.out y5)
  replace H2 := Hid.mk (old_new H2.out y5)
  replace H3 := Hid.mk (old_new H3.out y5)
  have H4 := Hid.mk (new_new y5)
  clear HT5 J5 hbd5 y5 hln5 hen5
  go_wp2_with fail
  refine (HT6.out _).mono ?_
  rintro e w7 ⟨⟨v6, er6, rfl, ⟨x6n0, x6n1, x6n2, x6sa, x6nx, x6v, x6l, x6b, rfl, I6, hbd6, hln6, hen6, J6, _⟩⟩, y6⟩
  have I6H := Hid.mk I6
  obtain ⟨q6, c6, hv6, _⟩ := I6
  subst hv6
  have J6H := Hid.mk (or_ok J6)
  have B6H := Hid.mk hbd6
  have L6H := Hid.mk hln6
  have E6H := Hid.mk hen6
  have k7 := Hid.mk (bel_new k6.out y6)
  replace H1 := Hid.mk (old_new H1.out y6)
  replace H2 := Hid.mk (old_new H2.out y6)
  replace H3 := Hid.mk (old_new H3.out y6)
  replace H4 := Hid.mk (old_new H4.out y6)
  have H5 := Hid.mk (new_new y6)
  replace I5H := Hid.mk ((I5H.out.below ((Below.refl _ _).alloc (Nat.le_refl _) _)).below y6)
  clear HT6 J6 hbd6 y6 hln6 hen6
  have H6 : Hid ((w7.alloc (.cells #[.int .i64 ((x6n0 : Nat) : Int), .int .i64 ((x6n1 : Nat) : Int), .int .i64 ((x6n2 : Nat) : Int), .string ⟨x6sa.toArray⟩, .string ⟨x6nx.toArray⟩, .slice q6 x6l.length c6] 56)).heap[w7.heap.size]? = some (.cells #[.int .i64 ((x6n0 : Nat) : Int), .int .i64 ((x6n1 : Nat) : Int), .int .i64 ((x6n2 : Nat) : Int), .string ⟨x6sa.toArray⟩, .string ⟨x6nx.toArray⟩, .slice q6 x6l.length c6] 56 (0, 0))) := heap_new _ _
  replace H1 := Hid.mk ((alloc_old w7 (.cells #[.int .i64 ((x6n0 : Nat) : Int), .int .i64 ((x6n1 : Nat) : Int), .int .i64 ((x6n2 : Nat) : Int), .string ⟨x6sa.toArray⟩, .string ⟨x6nx.toArray⟩, .slice q6 x6l.length c6] 56) _ (box_lt H1.out)).trans H1.out)
  replace H2 := Hid.mk ((alloc_old w7 (.cells #[.int .i64 ((x6n0 : Nat) : Int), .int .i64 ((x6n1 : Nat) : Int), .int .i64 ((x6n2 : Nat) : Int), .string ⟨x6sa.toArray⟩, .string ⟨x6nx.toArray⟩, .slice q6 x6l.length c6] 56) _ (box_lt H2.out)).trans H2.out)
  replace H3 := Hid.mk ((alloc_old w7 (.cells #[.int .i64 ((x6n0 : Nat) : Int), .int .i64 ((x6n1 : Nat) : Int), .int .i64 ((x6n2 : Nat) : Int), .string ⟨x6sa.toArray⟩, .string ⟨x6nx.toArray⟩, .slice q6 x6l.length c6] 56) _ (box_lt H3.out)).trans H3.out)
  replace H4 := Hid.mk ((alloc_old w7 (.cells #[.int .i64 ((x6n0 : Nat) : Int), .int .i64 ((x6n1 : Nat) : Int), .int .i64 ((x6n2 : Nat) : Int), .string ⟨x6sa.toArray⟩, .string ⟨x6nx.toArray⟩, .slice q6 x6l.length c6] 56) _ (box_lt H4.out)).trans H4.out)
  replace H5 := Hid.mk ((alloc_old w7 (.cells #[.int .i64 ((x6n0 : Nat) : Int), .int .i64 ((x6n1 : Nat) : Int), .int .i64 ((x6n2 : Nat) : Int), .string ⟨x6sa.toArray⟩, .string ⟨x6nx.toArray⟩, .slice q6 x6l.length c6] 56) _ (box_lt H5.out)).trans H5.out)
  replace I5H := Hid.mk (I5H.out.below ((Below.refl w7.heap.size w7).alloc (Nat.le_refl _) (.cells #[.int .i64 ((x6n0 : Nat) : Int), .int .i64 ((x6n1 : Nat) : Int), .int .i64 ((x6n2 : Nat) : Int), .string ⟨x6sa.toArray⟩, .string ⟨x6nx.toArray⟩, .slice q6 x6l.length c6] 56)))
  replace I6H := Hid.mk (I6H.out.below ((Below.refl w7.heap.size w7).alloc (Nat.le_refl _) (.cells #[.int .i64 ((x6n0 : Nat) : Int), .int .i64 ((x6n1 : Nat) : Int), .int .i64 ((x6n2 : Nat) : Int), .string ⟨x6sa.toArray⟩, .string ⟨x6nx.toArray⟩, .slice q6 x6l.length c6] 56)))
  have k8 := Hid.mk (k7.out.alloc k7.out.size (.cells #[.int .i64 ((x6n0 : Nat) : Int), .int .i64 ((x6n1 : Nat) : Int), .int .i64 ((x6n2 : Nat) : Int), .string ⟨x6sa.toArray⟩, .string ⟨x6nx.toArray⟩, .slice q6 x6l.length c6] 56))
  have hh := H1.out
  have e0 := (cells_at (v := .string x1s0) (j := 0) hh rfl).1
  have e1 := (cells_at (v := .string x1s1) (j := 1) hh rfl).1
  have e2 := (cells_at (v := .int .i64 ((x1n2 : Nat) : Int)) (j := 2) hh rfl).1
  have e3 := (cells_at (v := .int .i64 ((x1n3 : Nat) : Int)) (j := 3) hh rfl).1
  have e4 := (cells_at (v := .int .i64 ((x1n4 : Nat) : Int)) (j := 4) hh rfl).1
  have e5 := (cells_at (v := .int .i64 ((x1n5 : Nat) : Int)) (j := 5) hh rfl).1
  have e6 := (cells_at (v := .int .i64 ((x1n6 : Nat) : Int)) (j := 6) hh rfl).1
  obtain ⟨b0, b1, b2, b3, b4, b5, b6⟩ := B1H.out
  have HO := Hid.mk (ofSoa_in x1n2 x1n3 x1n4 x1n5 x1n6 x1s0 x1s1 b0 b1 b2 b3 b4 b5 b6)
  clear b0 b1 b2 b3 b4 b5 b6
  clear hh
  go_wp2_with fail
  refine (HO.out _).mono ?_
  rintro e u1 ⟨rfl, y⟩
  have k9 := Hid.mk (bth k8.out y k8.out.size)
  replace H2 := Hid.mk (old_old H2.out y)
  replace H3 := Hid.mk (old_old H3.out y)
  replace H4 := Hid.mk (old_old H4.out y)
  replace H5 := Hid.mk (old_old H5.out y)
  replace H6 := Hid.mk (old_old H6.out y)
  replace I5H := Hid.mk (I5H.out.below y)
  replace I6H := Hid.mk (I6H.out.below y)
  clear y HO H1 B1H e0 e1 e2 e3 e4 e5 e6
  have hh := H2.out
  have e0 := (cells_at (v := .int .i64 ((x2n0 : Nat) : Int)) (j := 0) hh rfl).1
  have e1 := (cells_at (v := .int .i64 ((x2n1 : Nat) : Int)) (j := 1) hh rfl).1
  have e2 := (cells_at (v := .int .i64 ((x2n2 : Nat) : Int)) (j := 2) hh rfl).1
  have e3 := (cells_at (v := .int .i64 ((x2n3 : Nat) : Int)) (j := 3) hh rfl).1
  have e4 := (cells_at (v := .int .i64 ((x2n4 : Nat) : Int)) (j := 4) hh rfl).1
  have e5 := (cells_at (v := .int .i64 ((x2n5 : Nat) : Int)) (j := 5) hh rfl).1
  have e6 := (cells_at (v := .int .i64 ((x2n6 : Nat) : Int)) (j := 6) hh rfl).1
  have e7 := (cells_at (v := .string x2s7) (j := 7) hh rfl).1
  have e8 := (cells_at (v := .string x2s8) (j := 8) hh rfl).1
  obtain ⟨b0, b1, b2, b3, b4, b5, b6, b7, b8⟩ := B2H.out
  have HO := Hid.mk (ofSig_in x2n0 x2n1 x2n2 x2n3 x2n4 x2n5 x2n6 x2s7 x2s8 b0 b1 b2 b3 b4 b5 b6 b7 b8)
  clear b0 b1 b2 b3 b4 b5 b6 b7 b8
  clear hh
  go_wp2_with fail
  refine (HO.out _).mono ?_
  rintro e u2 ⟨rfl, y⟩
  have k10 := Hid.mk (bth k9.out y k9.out.size)
  replace H3 := Hid.mk (old_old H3.out y)
  replace H4 := Hid.mk (old_old H4.out y)
  replace H5 := Hid.mk (old_old H5.out y)
  replace H6 := Hid.mk (old_old H6.out y)
  replace I5H := Hid.mk (I5H.out.below y)
  replace I6H := Hid.mk (I6H.out.below y)
  clear y HO H2 B2H e0 e1 e2 e3 e4 e5 e6 e7 e8
  have hh := H3.out
  have e0 := (cells_at (v := .int .i64 ((x3n0 : Nat) : Int)) (j := 0) hh rfl).1
  have e1 := (cells_at (v := .int .i64 ((x3n1 : Nat) : Int)) (j := 1) hh rfl).1
  have e2 := (cells_at (v := .int .i64 ((x3n2 : Nat) : Int)) (j := 2) hh rfl).1
  have e3 := (cells_at (v := .string x3s3) (j := 3) hh rfl).1
  obtain ⟨b0, b1, b2, b3⟩ := B3H.out
  have HO := Hid.mk (ofKey_in x3n0 x3n1 x3n2 x3s3 b0 b1 b2 b3)
  clear b0 b1 b2 b3
  clear hh
  go_wp2_with fail
  refine (HO.out _).mono ?_
  rintro e u3 ⟨rfl, y⟩
  have k11 := Hid.mk (bth k10.out y k10.out.size)
  replace H4 := Hid.mk (old_old H4.out y)
  replace H5 := Hid.mk (old_old H5.out y)
  replace H6 := Hid.mk (old_old H6.out y)
  replace I5H := Hid.mk (I5H.out.below y)
  replace I6H := Hid.mk (I6H.out.below y)
  clear y HO H3 B3H e0 e1 e2 e3
  have hh := H4.out
  have e0 := (cells_at (v := .int .i64 ((x4n0 : Nat) : Int)) (j := 0) hh rfl).1
  have e1 := (cells_at (v := .int .i64 ((x4n1 : Nat) : Int)) (j := 1) hh rfl).1
  have e2 := (cells_at (v := .int .i64 ((x4n2 : Nat) : Int)) (j := 2) hh rfl).1
  have e3 := (cells_at (v := .string x4s3) (j := 3) hh rfl).1
  obtain ⟨b0, b1, b2, b3⟩ := B4H.out
  have HO := Hid.mk (ofDs_in x4n0 x4n1 x4n2 x4s3 b0 b1 b2 b3)
  clear b0 b1 b2 b3
  clear hh
  go_wp2_with fail
  refine (HO.out _).mono ?_
  rintro e u4 ⟨rfl, y⟩
  have k12 := Hid.mk (bth k11.out y k11.out.size)
  replace H5 := Hid.mk (old_old H5.out y)
  replace H6 := Hid.mk (old_old H6.out y)
  replace I5H := Hid.mk (I5H.out.below y)
  replace I6H := Hid.mk (I6H.out.below y)
  clear y HO H4 B4H e0 e1 e2 e3
  have hh := H5.out
  have e0 := (cells_at (v := .string x5nx) (j := 0) hh rfl).1
  have e1 := (cells_at (v := .slice q5 x5l.length c5) (j := 1) hh rfl).1
  have HO := Hid.mk (fun (X : World) hv => ofNsec_in x5nx (.slice q5 x5l.length c5) x5l x5b B5H.out L5H.out E5H.out X hv)
  clear hh
  go_wp2_with fail
  refine (HO.out _ I5H.out).mono ?_
  rintro e u5 ⟨rfl, y⟩
  have k13 := Hid.mk (bth k12.out y k12.out.size)
  replace H6 := Hid.mk (old_old H6.out y)
  replace I6H := Hid.mk (I6H.out.below y)
  clear y HO H5 B5H e0 e1 I5H L5H E5H
  have hh := H6.out
  have e0 := (cells_at (v := .int .i64 ((x6n0 : Nat) : Int)) (j := 0) hh rfl).1
  have e1 := (cells_at (v := .int .i64 ((x6n1 : Nat) : Int)) (j := 1) hh rfl).1
  have e2 := (cells_at (v := .int .i64 ((x6n2 : Nat) : Int)) (j := 2) hh rfl).1
  have e3 := (cells_at (v := .string ⟨x6sa.toArray⟩) (j := 3) hh rfl).1
  have e4 := (cells_at (v := .string ⟨x6nx.toArray⟩) (j := 4) hh rfl).1
  have e5 := (cells_at (v := .slice q6 x6l.length c6) (j := 5) hh rfl).1
  have HO := Hid.mk (fun (X : World) hv => ofNsec3_in x6n0 x6n1 x6n2 B6H.out.1 B6H.out.2.1 B6H.out.2.2.1 x6sa x6nx B6H.out.2.2.2.1 B6H.out.2.2.2.2 (.slice q6 x6l.length c6) x6l x6b L6H.out E6H.out X hv)
  clear hh
  go_wp2_with fail
  refine (HO.out _ I6H.out).mono ?_
  rintro e u6 ⟨rfl, y⟩
  have k14 := Hid.mk (bth k13.out y k13.out.size)
  clear y HO H6 B6H e0 e1 e2 e3 e4 e5 I6H L6H E6H
  have kk := k14.out
  clear k2 k3 k4 k5 k6 k7 k8 k9 k10 k11 k12 k13 k14
  have o1 := J1H.out
  have o2 := J2H.out
  have o3 := J3H.out
  have o4 := J4H.out
  have o5 := J5H.out
  have o6 := J6H.out
  clear J1H J2H J3H J4H J5H J6H hG hd
  rcases o1 with a1 | ⟨a1, b1⟩ <;> rcases o2 with a2 | ⟨a2, b2⟩ <;> rcases o3 with a3 | ⟨a3, b3⟩ <;> rcases o4 with a4 | ⟨a4, b4⟩ <;> rcases o5 with a5 | ⟨a5, b5⟩ <;> rcases o6 with a6 | ⟨a6, b6⟩
  all_goals
    go_wp2
    go_ret
    exact ⟨rfl, kk⟩
end Go.Proofs.YtdhcbaennpediaaGreatDoor
