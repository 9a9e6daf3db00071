/- Texts of this proof, joined: KVer, KSignF, KBytes. -/
import Derived.Test.YtlcjagkfeakinaaGreatDoorJ15
import Derived.Test.YtlcjagkfeakinaaGreatDoorJ6
import Derived.Test.YtlcjagkfeakinaaGreatDoorJ14
import Derived.Lib.Repeat
import Derived.Test.YtlcjagkfeakinaaGreatDoorJ12
import Derived.Lib.ConvBytes
import Derived.Test.YtlcjagkfeakinaaGreatDoorJ3
/- open, padded, Verify. -/
namespace Go.Proofs.YtlcjagkfeakinaaGreatDoor
set_option linter.unusedVariables false
open Go.RowKit
attribute [local go_sem ↓] N.loadAt_nat N.storeAt_nat N.build_nat N.build_nat'
attribute [local go_sem] N.st1 N.st2a N.st2b N.natBuild_run

/-- what PKCS #1 puts ahead of the digest, with the byte between. -/
abbrev shaH : ByteArray := ⟨#[0, 48, 49, 48, 13, 6, 9, 96, 134, 72, 1, 101, 3, 4, 2, 1, 5, 0, 4, 32]⟩
/-- what a right sign opens to. -/
def padB (sum : ByteArray) (many : Nat) : ByteArray := (⟨#[0, 1]⟩ : ByteArray) ++ ⟨(Lib.repeatL [255] (many - 2 - (20 + sum.size))).toArray⟩ ++ (shaH ++ sum)
theorem rep_len : ∀ c, (Lib.repeatL [255] c).length = c
  | 0 => rfl
  | c + 1 => by simp [Lib.repeatL, rep_len c]
set_option maxRecDepth 100000 in
theorem padded_in (sum : ByteArray) (many : Nat) (hs : sum.size = 32) (h1 : 54 ≤ many) (h2 : many ≤ 1000) (W : World) : Calls Tryz.prog 50 #[.string sum, .int .i64 (many : Int)] W fun e w' => e = .returned (.string (padB sum many)) ∧ Below W.heap.size W w' := by
  have hrs : (shaH ++ sum).size = 52 := by rw [ByteArray.size_append, hs]; rfl
  obtain ⟨c, hc⟩ : ∃ c, many - 2 - 52 = c := ⟨_, rfl⟩
  have HR := Hid.mk (Tryz.strings_Repeat ⟨#[255]⟩ c · (by omega) (by show 1 * c ≤ _; omega))
  obtain ⟨R, hR⟩ : ∃ R : ByteArray, (⟨(Lib.repeatL [255] c).toArray⟩ : ByteArray) = R := ⟨_, rfl⟩
  have hRs : R.size = c := by rw [← hR]; exact rep_len c
  have HR' : Hid (∀ w, Calls Tryz.prog 57 #[.string ⟨#[255]⟩, .int .i64 (c : Int)] w fun e w' => e = .returned (.string R) ∧ Below w.heap.size w w') := fun w => by
    have := HR.out w
    rw [show (⟨#[255]⟩ : ByteArray).data.toList = [255] from rfl, hR] at this
    exact this
  have hp : padB sum many = (⟨#[0, 1]⟩ : ByteArray) ++ R ++ (shaH ++ sum) := by unfold padB; rw [hs, ← hR, ← hc]
  rw [hp]
  have w1 : IntKind.i64.wrap ((many : Int) - 2) = (many : Int) - 2 := by rw [IntKind.wrap_i64]; omega
  have w2 : IntKind.i64.wrap ((many : Int) - 2 - 52) = (c : Int) := by rw [IntKind.wrap_i64]; omega
  have z1 : ¬ (9223372036854775807 < shaH.size + sum.size) := by rw [hs]; decide
  have z2 : ¬ (9223372036854775807 < (⟨#[0, 1]⟩ : ByteArray).size + R.size) := by rw [hRs]; show ¬ (9223372036854775807 < 2 + c); omega
  have z3 : ¬ (9223372036854775807 < 2 + R.size + 52) := by omega
  clear HR hR hRs hp
  go_enter Tryz.func50, Tryz.ntmps50
  go_wp2_with fail
  refine (HR'.out _).mono ?_
  rintro e w1 ⟨rfl, hb1⟩
  go_wp2
  go_ret
  exact ⟨rfl, hb1⟩
/-- what a sign opens to. -/
noncomputable def opnR (sign : ByteArray) (E M : Nat) : ByteArray × Bool := if N.numB sign.data.toList < M then (⟨(N.bys (N.numB sign.data.toList ^ E % M) sign.size).toArray⟩, true) else (⟨#[]⟩, false)
theorem cmp_lt {S M : Nat} (h : S < M) : N.cmpI S M = -1 := by
  unfold N.cmpI Lib.compareInt
  rw [if_pos (by omega)]
theorem cmp_ge {S M : Nat} (h : ¬ S < M) : 0 ≤ N.cmpI S M := by
  unfold N.cmpI Lib.compareInt
  rw [if_neg (by omega)]
  split <;> omega
set_option maxRecDepth 100000 in
set_option maxHeartbeats 1000000 in
theorem open_in (sign : ByteArray) (E M : Nat) (hE : E < N.Lim) (hM : M < N.Lim) (hM0 : M ≠ 0) (hb : N.btl M ≤ 2048) (hs : sign.size = N.nbl M) (W : World) : Calls Tryz.prog 49 #[.string sign, .agg (N.natL E).toArray, .agg (N.natL M).toArray] W fun e w' => e = .returned (.tuple #[.string (opnR sign E M).1, .bool (opnR sign E M).2]) ∧ Below W.heap.size W w' := by
  have hz := N.zero26
  have hsl : sign.size ≤ 256 := by rw [hs]; unfold N.nbl; omega
  have hS : N.numB sign.data.toList < N.Lim := N.knum_lim _ (by rw [size_list]; omega)
  have HO := Hid.mk (N.of_in sign (by omega))
  have ho : N.ofR sign.data.toList = .returned (.tuple #[.agg (N.natL (N.numB sign.data.toList)).toArray, .int .i64 0]) := by
    unfold N.ofR
    rw [if_pos]
    have := N.strip_512 sign.data.toList 512 128 rfl
    exact this.2 hS
  rw [ho] at HO
  unfold opnR
  generalize N.numB sign.data.toList = S at HO hS ⊢
  have HC := Hid.mk (N.cmp_in S M hS hM)
  obtain ⟨V, hV, b0, b1, hBl, hsz⟩ : ∃ V, (W.alloc (.cells (N.natL E).toArray 43)).alloc (.cells (N.natL M).toArray 43) = V ∧ V.heap[W.heap.size]? = some (.cells (N.natL E).toArray 43 (0, 0)) ∧ V.heap[W.heap.size + 1]? = some (.cells (N.natL M).toArray 43 (0, 0)) ∧ Below W.heap.size W V ∧ V.heap.size = W.heap.size + 2 :=
    ⟨_, rfl, (N.two_new W _ _ _ _).1, (N.two_new W _ _ _ _).2.1, ((Below.refl _ _).alloc (Nat.le_refl _) _).alloc (by simp) _, by simp⟩
  by_cases hlt : S < M
  · rw [if_pos hlt]
    have hc0 := cmp_lt hlt
    rw [hc0] at HC
    have hfl : N.flt M = 0 := (N.flt_ok M).2 ⟨hM0, hb⟩
    have HP := Hid.mk (N.pow_in S E M hS hE hM)
    rw [show N.powR S E M = .returned (.tuple #[.agg (N.natL (S ^ E % M)).toArray, .int .i64 0]) by unfold N.powR; rw [if_pos hfl]] at HP
    have hPl : S ^ E % M < M := Nat.mod_lt _ (by omega)
    obtain ⟨P, hP⟩ : ∃ P, S ^ E % M = P := ⟨_, rfl⟩
    rw [hP] at HP hPl ⊢
    have HW := Hid.mk (N.wide_in P sign.size (by omega) (by omega) (by rw [N.nbl_le_iff, hs]; exact Nat.lt_trans hPl (N.nbl_lt M)))
    clear hP hfl hc0 ho hsl
    generalize hk : sign.size = L at HW ⊢
    clear hs
    go_enter Tryz.func49, Tryz.ntmps49
    go_wp2_with fail
    refine (HO.out _).mono ?_
    rintro e w1 ⟨rfl, hb1⟩
    have B1 := Hid.mk (bth hBl hb1 hBl.size)
    have c0 := (hb1.block _ (by omega)).trans b0
    have c1 := (hb1.block _ (by omega)).trans b1
    have C0 := Hid.mk c0
    have C1 := Hid.mk c1
    have x8 := heap_new w1 (.cells (N.natL S).toArray 43)
    have X8 := Hid.mk x8
    have l8 := N.natLoad_run x8
    have l5 := N.natLoad_run ((heap_alloc_old w1 (.cells (N.natL S).toArray 43) (N.box_lt c1)).trans c1)
    clear hV b0 b1 hBl hsz hb1 c0 c1 x8
    go_wp2_with fail
    refine (HC.out _).mono ?_
    rintro e w2 ⟨rfl, hb2⟩
    have hA := B1.out.alloc B1.out.size (.cells (N.natL S).toArray 43)
    have B2 := Hid.mk (bth hA hb2 hA.size)
    have l8 := N.natLoad_run ((hb2.block _ (N.box_lt X8.out)).trans X8.out)
    have l4 := N.natLoad_run ((hb2.block _ (by have := N.box_lt C0.out; simp; omega)).trans ((heap_alloc_old w1 (.cells (N.natL S).toArray 43) (N.box_lt C0.out)).trans C0.out))
    have l5 := N.natLoad_run ((hb2.block _ (by have := N.box_lt C1.out; simp; omega)).trans ((heap_alloc_old w1 (.cells (N.natL S).toArray 43) (N.box_lt C1.out)).trans C1.out))
    clear hA hb2
    go_wp2_with fail
    refine (HP.out _).mono ?_
    rintro e w3 ⟨rfl, hb3⟩
    have B3 := Hid.mk (bth B2.out hb3 B2.out.size)
    have l10 := N.natLoad_run (heap_new w3 (.cells (N.natL P).toArray 43))
    clear hb3 l8 l4 l5
    go_wp2_with fail
    refine (HW.out _).mono ?_
    rintro e w4 ⟨rfl, hb4⟩
    have hA := B3.out.alloc B3.out.size (.cells (N.natL P).toArray 43)
    have B4 := Hid.mk (bth hA hb4 hA.size)
    clear hA hb4 l10
    go_wp2
    exact bodyPost_ret (v := .tuple #[.string ⟨(N.bys P L).toArray⟩, .bool true]) (by simp [results, Tryz.results49, go_sem]) rfl ⟨rfl, B4.out⟩
  · rw [if_neg hlt]
    have hc0 := cmp_ge hlt
    generalize N.cmpI S M = q at HC hc0
    clear ho hsl hs
    go_enter Tryz.func49, Tryz.ntmps49
    go_wp2_with fail
    refine (HO.out _).mono ?_
    rintro e w1 ⟨rfl, hb1⟩
    have B1 := Hid.mk (bth hBl hb1 hBl.size)
    have c1 := (hb1.block _ (by omega)).trans b1
    have l8 := N.natLoad_run (heap_new w1 (.cells (N.natL S).toArray 43))
    have l5 := N.natLoad_run ((heap_alloc_old w1 (.cells (N.natL S).toArray 43) (N.box_lt c1)).trans c1)
    clear hV b0 b1 hBl hsz hb1 c1
    go_wp2_with fail
    refine (HC.out _).mono ?_
    rintro e w2 ⟨rfl, hb2⟩
    have hA := B1.out.alloc B1.out.size (.cells (N.natL S).toArray 43)
    have B2 := Hid.mk (bth hA hb2 hA.size)
    clear hA hb2
    go_wp2
    exact bodyPost_ret (v := .tuple #[.string ⟨#[]⟩, .bool false]) (by simp [results, Tryz.results49, go_sem]) rfl ⟨rfl, B2.out⟩
theorem nkR_ok {l : List UInt8} {least : Nat} (h : (N.nkR l least).2 = true) : least ≤ N.btl (N.nkR l least).1 ∧ N.btl (N.nkR l least).1 ≤ 2048 := by
  unfold N.nkR at h ⊢
  split at h
  · simp at h
  · rename_i hn
    rw [if_neg hn]
    show least ≤ N.btl (N.numB l) ∧ N.btl (N.numB l) ≤ 2048
    constructor <;> omega
theorem rsa_some {s : ByteArray} {E M : Nat} (h : N.rsaR s = some (E, M)) : M ≠ 0 ∧ 496 ≤ N.btl M ∧ N.btl M ≤ 2048 ∧ E < N.Lim ∧ M < N.Lim := by
  have hl := rsa_lim s
  rw [h] at hl
  unfold N.rsaR at h
  split at h
  · rename_i hc
    obtain ⟨rfl, rfl⟩ := Prod.mk.inj (Option.some.inj h)
    have hb := nkR_ok hc.2
    refine ⟨fun h0 => ?_, hb.1, hb.2, hl.1, hl.2⟩
    rw [h0] at hb
    simp [N.btl] at hb
  · cases h
/-- what Verify answers. -/
noncomputable def vfyR (s text sign : ByteArray) : Bool := match N.rsaR s with
  | none => false
  | some (E, M) => decide (sign.size = N.nbl M) && ((opnR sign E M).2 && decide ((opnR sign E M).1 = padB ⟨(G.sha2 text.data.toList).toArray⟩ (N.nbl M)))
set_option maxRecDepth 100000 in
set_option maxHeartbeats 1000000 in
theorem verify_none (s text sign : ByteArray) (hs : s.size ≤ 140737488355328) (hr : N.rsaR s = none) (W : World) : Calls Tryz.prog 23 #[.string s, .string text, .string sign] W fun e w' => e = .returned (.bool false) ∧ Below W.heap.size W w' := by
  have hz := N.zero26
  have HR := Hid.mk (N.krsa_in s hs)
  rw [hr] at HR
  have HB := Hid.mk (N.bytes_in 0 (Nat.pow_pos (by omega)))
  clear hr
  go_enter Tryz.func23, Tryz.ntmps23
  go_wp2_with fail
  refine (HR.out _).mono ?_
  rintro e w1 ⟨rfl, hb1⟩
  have x1 := (N.two_new w1 (N.natL 0) (N.natL 0) 43 43).2.1
  have l1 := N.natLoad_run x1
  have hA := (hb1.alloc hb1.size (.cells (N.natL 0).toArray 43)).alloc (Nat.le_trans hb1.size (by simp)) (.cells (N.natL 0).toArray 43)
  have BA := Hid.mk hA
  clear hb1 x1 hA
  go_wp2_with fail
  refine (HB.out _).mono ?_
  rintro e w2 ⟨rfl, hb2⟩
  have B2 := Hid.mk (bth BA.out hb2 BA.out.size)
  clear hb2
  go_wp2
  go_ret
  exact ⟨rfl, B2.out⟩
set_option maxRecDepth 100000 in
set_option maxHeartbeats 1000000 in
theorem verify_some (s text sign X Z : ByteArray) (E M L : Nat) (fd : Bool) (hs : s.size ≤ 140737488355328) (hr : N.rsaR s = some (E, M)) (hE : E < N.Lim) (hM : M < N.Lim) (hL : N.nbl M = L) (hLb : L ≤ 256)
    (HO : sign.size = L → Hid (∀ W, Calls Tryz.prog 49 #[.string sign, .agg (N.natL E).toArray, .agg (N.natL M).toArray] W fun e w' => e = .returned (.tuple #[.string X, .bool fd]) ∧ Below W.heap.size W w'))
    (HS : Hid (∀ W, G.Rk W → Calls Tryz.prog 51 #[.string text] W fun e w' => e = .returned (.string Z) ∧ Below W.heap.size W w'))
    (HP : Hid (∀ W, Calls Tryz.prog 50 #[.string Z, .int .i64 (L : Int)] W fun e w' => e = .returned (.string (padB Z L)) ∧ Below W.heap.size W w'))
    (W : World) (hG : G.Rk W) : Calls Tryz.prog 23 #[.string s, .string text, .string sign] W fun e w' => e = .returned (.bool (decide (sign.size = L) && (fd && decide (X = padB Z L)))) ∧ Below W.heap.size W w' := by
  have hz := N.zero26
  have HR := Hid.mk (N.krsa_in s hs)
  rw [hr] at HR
  have HB := Hid.mk (N.bytes_in M hM)
  have hbl : (⟨(N.bys M (N.nbl M)).toArray⟩ : ByteArray).size = L := by rw [← size_list]; rw [N.bys_len, hL]
  generalize (⟨(N.bys M (N.nbl M)).toArray⟩ : ByteArray) = Y at HB hbl
  have G0 := Hid.mk hG
  clear hr hG hL
  by_cases hsz : sign.size = L
  · have HO' := HO hsz
    clear HO
    cases fd with
    | false =>
      rw [show (decide (sign.size = L) && (false && decide (X = padB Z L))) = false by simp]
      have hsz' : ((sign.size : Int) != (L : Int)) = false := by simp [hsz]
      clear hsz
      go_enter Tryz.func23, Tryz.ntmps23
      go_wp2_with fail
      refine (HR.out _).mono ?_
      rintro e w1 ⟨rfl, hb1⟩
      have B1 := Hid.mk hb1
      obtain ⟨x0, x1, _, _⟩ := N.two_new w1 (N.natL E) (N.natL M) 43 43
      have X0 := Hid.mk x0
      have X1 := Hid.mk x1
      have l1 := N.natLoad_run x1
      have hA := (hb1.alloc hb1.size (.cells (N.natL E).toArray 43)).alloc (Nat.le_trans hb1.size (by simp)) (.cells (N.natL M).toArray 43)
      have BA := Hid.mk hA
      clear hb1 x0 x1 hA
      go_wp2_with fail
      refine (HB.out _).mono ?_
      rintro e w2 ⟨rfl, hb2⟩
      have B2 := Hid.mk (bth BA.out hb2 BA.out.size)
      have l0 := N.natLoad_run ((hb2.block _ (N.box_lt X0.out)).trans X0.out)
      have l1' := N.natLoad_run ((hb2.block _ (N.box_lt X1.out)).trans X1.out)
      clear hb2 l1
      go_wp2_with fail
      refine (HO'.out _).mono ?_
      rintro e w3 ⟨rfl, hb3⟩
      have B3 := Hid.mk (bth B2.out hb3 B2.out.size)
      clear hb3 l0 l1'
      go_wp2
      go_ret
      exact ⟨rfl, B3.out⟩
    | true =>
      rw [show (decide (sign.size = L) && (true && decide (X = padB Z L))) = decide (X = padB Z L) by simp [hsz]]
      have hsz' : ((sign.size : Int) != (L : Int)) = false := by simp [hsz]
      clear hsz
      generalize padB Z L = Q at HP ⊢
      go_enter Tryz.func23, Tryz.ntmps23
      go_wp2_with fail
      refine (HR.out _).mono ?_
      rintro e w1 ⟨rfl, hb1⟩
      have B1 := Hid.mk hb1
      obtain ⟨x0, x1, _, _⟩ := N.two_new w1 (N.natL E) (N.natL M) 43 43
      have X0 := Hid.mk x0
      have X1 := Hid.mk x1
      have l1 := N.natLoad_run x1
      have hA := (hb1.alloc hb1.size (.cells (N.natL E).toArray 43)).alloc (Nat.le_trans hb1.size (by simp)) (.cells (N.natL M).toArray 43)
      have BA := Hid.mk hA
      clear hb1 x0 x1 hA
      go_wp2_with fail
      refine (HB.out _).mono ?_
      rintro e w2 ⟨rfl, hb2⟩
      have B2 := Hid.mk (bth BA.out hb2 BA.out.size)
      have l0 := N.natLoad_run ((hb2.block _ (N.box_lt X0.out)).trans X0.out)
      have l1' := N.natLoad_run ((hb2.block _ (N.box_lt X1.out)).trans X1.out)
      clear hb2 l1
      go_wp2_with fail
      refine (HO'.out _).mono ?_
      rintro e w3 ⟨rfl, hb3⟩
      have B3 := Hid.mk (bth B2.out hb3 B2.out.size)
      clear hb3 l0 l1'
      go_wp2_with fail
      refine (HS.out _ (G0.out.below B3.out)).mono ?_
      rintro e w4 ⟨rfl, hb4⟩
      have B4 := Hid.mk (bth B3.out hb4 B3.out.size)
      clear hb4
      go_wp2_with fail
      refine (HP.out _).mono ?_
      rintro e w5 ⟨rfl, hb5⟩
      have B5 := Hid.mk (bth B4.out hb5 B4.out.size)
      clear hb5
      go_wp2
      all_goals
        go_ret
        refine ⟨ret_dec ?_, B5.out⟩
        simp_all [toList_iff]
  · rw [show (decide (sign.size = L) && (fd && decide (X = padB Z L))) = false by simp [hsz]]
    have hsz' : ((sign.size : Int) != (L : Int)) = true := by simp; omega
    clear HO hsz
    go_enter Tryz.func23, Tryz.ntmps23
    go_wp2_with fail
    refine (HR.out _).mono ?_
    rintro e w1 ⟨rfl, hb1⟩
    have B1 := Hid.mk hb1
    obtain ⟨x0, x1, _, _⟩ := N.two_new w1 (N.natL E) (N.natL M) 43 43
    have l1 := N.natLoad_run x1
    have hA := (hb1.alloc hb1.size (.cells (N.natL E).toArray 43)).alloc (Nat.le_trans hb1.size (by simp)) (.cells (N.natL M).toArray 43)
    have BA := Hid.mk hA
    clear hb1 x0 x1 hA
    go_wp2_with fail
    refine (HB.out _).mono ?_
    rintro e w2 ⟨rfl, hb2⟩
    have B2 := Hid.mk (bth BA.out hb2 BA.out.size)
    clear hb2 l1
    go_wp2
    go_ret
    exact ⟨rfl, B2.out⟩
theorem verify_in (s text sign : ByteArray) (hs : s.size ≤ 140737488355328) (ht : text.size ≤ 140737488355328) (W : World) (hG : G.Rk W) : Calls Tryz.prog 23 #[.string s, .string text, .string sign] W fun e w' => e = .returned (.bool (vfyR s text sign)) ∧ Below W.heap.size W w' := by
  unfold vfyR
  cases hr : N.rsaR s with
  | none => exact verify_none s text sign hs hr W
  | some p =>
    obtain ⟨E, M⟩ := p
    obtain ⟨h0, h1, h2, hE, hM⟩ := rsa_some hr
    have hL1 : 54 ≤ N.nbl M := by unfold N.nbl; omega
    have hL2 : N.nbl M ≤ 256 := by unfold N.nbl; omega
    exact verify_some s text sign _ _ E M _ _ hs hr hE hM rfl hL2 (fun h => Hid.mk (open_in sign E M hE hM h0 h2 h)) (Hid.mk fun W hG => G.sum2_in text ht W hG) (Hid.mk (padded_in _ _ (G.sha2_len _) hL1 (by omega))) W hG
end Go.Proofs.YtlcjagkfeakinaaGreatDoor

/- Facts for KeysSigns: what Verify answers of signs of 64 bytes; block. -/
namespace Go.Proofs.YtlcjagkfeakinaaGreatDoor.N
set_option linter.unusedVariables false
open Go.RowKit
theorem bys_succ (N L : Nat) : bys N (L + 1) = UInt8.ofNat (N / 256 ^ L) :: bys N L := by
  unfold bys
  rw [List.range_succ_eq_map, List.map_cons, List.map_map]
  refine List.cons_eq_cons.2 ⟨by simp, List.map_congr_left fun k hk => ?_⟩
  simp only [Function.comp]
  rw [show L + 1 - 1 - (k + 1) = L - 1 - k by omega]
theorem mod_succ (a L : Nat) : a % 256 ^ (L + 1) = a / 256 ^ L % 256 * 256 ^ L + a % 256 ^ L := by
  rw [Nat.pow_succ, Nat.mod_mul, Nat.add_comm, Nat.mul_comm]
theorem numB_bys : ∀ (L N : Nat), numB (bys N L) = N % 256 ^ L
  | 0, N => by simp [bys, numB, Nat.mod_one]
  | L + 1, N => by
    rw [bys_succ, numB, numB_bys L N, bys_len, mod_succ, UInt8.toNat_ofNat']
theorem numB_inj : ∀ (a b : List UInt8), a.length = b.length → numB a = numB b → a = b
  | [], [], _, _ => rfl
  | x :: a, y :: b, hl, h => by
    have hl' : a.length = b.length := by simpa using hl
    have h1 := numB_lt a
    have h2 := numB_lt b
    simp only [numB] at h
    rw [hl'] at h h1
    have hxy : x.toNat = y.toNat := by
      have e1 : (x.toNat * 256 ^ b.length + numB a) / 256 ^ b.length = x.toNat := by
        rw [Nat.add_comm, Nat.add_mul_div_right _ _ (Nat.pow_pos (by omega)), Nat.div_eq_of_lt h1, Nat.zero_add]
      have e2 : (y.toNat * 256 ^ b.length + numB b) / 256 ^ b.length = y.toNat := by
        rw [Nat.add_comm, Nat.add_mul_div_right _ _ (Nat.pow_pos (by omega)), Nat.div_eq_of_lt h2, Nat.zero_add]
      rw [← e1, ← e2, h]
    obtain rfl := UInt8.toNat_inj.1 hxy
    rw [numB_inj a b hl' (by omega)]
  | [], _ :: _, hl, _ => by simp at hl
  | _ :: _, [], hl, _ => by simp at hl
theorem bys_num (l : List UInt8) : bys (numB l) l.length = l :=
  numB_inj _ _ (bys_len _ _) (by rw [numB_bys, Nat.mod_eq_of_lt (numB_lt l)])
theorem padB_len (Z : ByteArray) (hZ : Z.size = 32) : (padB Z 64).data.toList.length = 64 := by
  unfold padB
  rw [app_list, app_list, app_list, List.length_append, List.length_append, List.length_append, hZ]
  show 2 + (Lib.repeatL [255] (64 - 2 - (20 + 32))).length + (20 + Z.size) = 64
  rw [rep_len, hZ]
/-- the number of what is signed. -/
noncomputable def blkN (text : ByteArray) : Nat := numB (padB ⟨(G.sha2 text.data.toList).toArray⟩ 64).data.toList
theorem vfy_64 {P text sign : ByteArray} {e n : Nat} (hr : rsaR P = some (e, n)) (hL : nbl n = 64) (hs : sign.size = 64) (hn : n ≠ 0) : vfyR P text sign = (decide (numB sign.data.toList < n) && decide (numB sign.data.toList ^ e % n = blkN text)) := by
  unfold vfyR
  rw [hr]
  simp only [hL, hs, decide_true, Bool.true_and]
  unfold opnR
  by_cases hlt : numB sign.data.toList < n
  · rw [if_pos hlt, decide_eq_true hlt, Bool.true_and, hs]
    simp only [Bool.true_and]
    refine decide_eq_decide.2 ⟨fun h => ?_, fun h => ?_⟩
    · have h1 := congrArg (fun x : ByteArray => numB x.data.toList) h
      have h2 : numB (bys (numB sign.data.toList ^ e % n) 64) = blkN text := h1
      rw [numB_bys, Nat.mod_eq_of_lt] at h2
      · exact h2
      · refine Nat.lt_trans (Nat.mod_lt _ (by omega)) ?_
        rw [← hL]
        exact nbl_lt n
    · rw [h]
      apply ba_ext
      have := bys_num (padB ⟨(G.sha2 text.data.toList).toArray⟩ 64).data.toList
      rw [padB_len ⟨(G.sha2 text.data.toList).toArray⟩ (G.sha2_len _)] at this
      exact this
  · rw [if_neg hlt, decide_eq_false hlt]
    rfl
theorem vfy_short {P text sign : ByteArray} {e n : Nat} (hr : rsaR P = some (e, n)) (hL : nbl n = 64) (hs : sign.size = 63) : vfyR P text sign = false := by
  unfold vfyR
  rw [hr]
  simp [hL, hs]
/-- the public key that the law makes. -/
abbrev pubB (E M : ByteArray) : ByteArray := (⟨#[UInt8.ofNat E.size]⟩ : ByteArray) ++ E ++ M
theorem pub_list (E M : ByteArray) : (pubB E M).data.toList = UInt8.ofNat E.size :: (E.data.toList ++ M.data.toList) := by
  rw [app_list, app_list]
  rfl
theorem pub_rsa {E M : ByteArray} (h1 : 1 ≤ E.size) (h8 : E.size ≤ 8) (hM : M.size = 64) {e n : Nat} (hr : rsaR (pubB E M) = some (e, n)) : nbl n = 64 ∧ n ≠ 0 ∧ btl n ≤ 2048 ∧ e < Lim ∧ n < Lim := by
  obtain ⟨hn0, _, h2, he, hn⟩ := rsa_some hr
  have hl := pub_list E M
  have hsz : (pubB E M).size = 1 + E.size + 64 := by rw [← size_list, hl, List.length_cons, List.length_append, size_list, size_list, hM]; omega
  have h0 : 0 < (pubB E M).size := by omega
  have hb0 : (pubB E M)[0].toNat = E.size := by
    have : (pubB E M)[0] = (pubB E M).data.toList[0]'(by rw [size_list]; exact h0) := rfl
    rw [this]
    simp only [hl, List.getElem_cons_zero]
    rw [UInt8.toNat_ofNat']
    omega
  have parts := (spl_parts (pubB E M) h0 1 E.size (.inl ⟨by omega, rfl, hb0.symm⟩)).1 (by omega)
  have p2 : (splB (pubB E M)).2.data.toList = M.data.toList := by
    rw [parts.2, hl, Nat.add_comm, List.drop_succ_cons, List.drop_append_of_le_length (by rw [size_list]; omega), List.drop_of_length_le (by rw [size_list]; omega), List.nil_append]
  have hk : KeyOk (splB (pubB E M)).1.data.toList M.data.toList := by
    refine Classical.byContradiction fun hc => ?_
    rw [rsa_no rfl p2 hc] at hr
    cases hr
  have hy := rsa_yes rfl p2 hk
  rw [hy] at hr
  have hnn : numB M.data.toList = n := (Prod.mk.inj (Option.some.inj hr)).2
  have hb := btl_first M.data.toList hk.2.2.2.1 hk.2.2.2.2.1
  rw [hnn, size_list, hM] at hb
  refine ⟨?_, hn0, h2, he, hn⟩
  unfold nbl
  omega
/-- the text that the law signs. -/
abbrev txtB (d : ByteArray) : ByteArray := (⟨#[0]⟩ : ByteArray) ++ d
theorem dig_root (d : ByteArray) (h5 : 5 ≤ d.size) (h2 : d.size ≤ 2000) : digR 2 exO d = (⟨(G.sha2 (txtB d).data.toList).toArray⟩, 0) := by
  unfold digR
  rw [if_neg (not_not_intro (.inr rfl)), if_neg (not_not_intro exO_name), if_neg (not_not_intro ⟨h5, h2⟩)]
  unfold hshd
  rw [if_neg (by omega), app_list]
  rfl
def ffC (c : Nat) : ByteArray := (⟨#[0, 1]⟩ : ByteArray) ++ ⟨(Lib.repeatL [255] c).toArray⟩
theorem ffC_size (c : Nat) : (ffC c).size = 2 + c := by
  unfold ffC
  rw [ByteArray.size_append]
  show 2 + (Lib.repeatL [255] c).length = 2 + c
  rw [rep_len]
theorem repC_snoc : ∀ c, Lib.repeatL [255] c ++ [255] = Lib.repeatL [255] (c + 1)
  | 0 => rfl
  | c + 1 => by
    show ([255] ++ Lib.repeatL [255] c) ++ [255] = [255] ++ Lib.repeatL [255] (c + 1)
    rw [List.append_assoc, repC_snoc c]
theorem ffC_snoc (c : Nat) : ffC c ++ (⟨#[255]⟩ : ByteArray) = ffC (c + 1) := by
  apply ba_ext
  unfold ffC
  rw [app_list, app_list, app_list]
  show (_ ++ Lib.repeatL [255] c) ++ [255] = _ ++ Lib.repeatL [255] (c + 1)
  rw [List.append_assoc, repC_snoc c]
theorem pad_ffC (Z : ByteArray) (hZ : Z.size = 32) : ffC 10 ++ shaH ++ Z = padB Z 64 := by
  apply ba_ext
  unfold padB ffC
  rw [hZ]
  simp only [app_list, List.append_assoc]
/-- how long a text is. -/
def strLn : Value → Nat
  | .string s => s.size
  | _ => 0
set_option maxRecDepth 100000 in
theorem lblock_in (d : ByteArray) (Z : ByteArray) (hZ : Z.size = 32) (HD : Hid (∀ W, G.Rk W → Calls Tryz.prog 12 #[.int .i64 2, .string ⟨#[0]⟩, .string d] W fun e w' => e = .returned (.tuple #[.string Z, .int .i64 0]) ∧ Below W.heap.size W w')) (W : World) (hG : G.Rk W) :
    Calls Tryz.prog 26 #[.string d] W fun e w' => e = .returned (.string (padB Z 64)) ∧ Below W.heap.size W w' := by
  have G0 := Hid.mk hG
  have hPZ := Hid.mk (pad_ffC Z hZ)
  clear hG
  go_enter Tryz.func26, Tryz.ntmps26
  go_wp2
  go_loopw [3] (fun sv wr => ∃ c, c ≤ 10 ∧ sv = .string (ffC c) ∧ wr = W) (fun sv _ => 12 - strLn sv)
  case atStart => exact ⟨0, Nat.zero_le _, rfl, rfl⟩
  case round =>
    obtain ⟨c, hc, rfl, rfl⟩ := hrel
    have hF := ffC_size c
    by_cases hlt : c < 10
    · have hsn := Hid.mk (ffC_snoc c)
      have hsz := Hid.mk (ffC_size (c + 1))
      generalize hF' : ffC (c + 1) = F' at hsn hsz
      have HQ := Hid.mk hF'
      generalize ffC c = F at hF hsn ⊢
      have c1 : (F.size : Int) < 12 := by omega
      have z2 : ¬ (9223372036854775807 < F.size + 1) := by omega
      have hFs := Hid.mk hF
      clear hF hF'
      go_wp2
      rw [hsn.out]
      refine ⟨⟨c + 1, by omega, by rw [HQ.out], trivial⟩, ?_⟩
      have := hFs.out
      have := hsz.out
      show 12 - F'.size < 12 - F.size
      omega
    · obtain rfl : c = 10 := by omega
      generalize hFe : ffC 10 = F at hF ⊢
      rw [hFe] at hPZ
      have c1 : ¬ ((F.size : Int) < 12) := by omega
      have z3 : ¬ (9223372036854775807 < F.size + 20) := by omega
      have z4 : ¬ (9223372036854775807 < F.size + 20 + Z.size) := by omega
      clear hF hFe
      go_wp2_with fail
      refine (HD.out _ G0.out).mono ?_
      rintro e w1 ⟨rfl, hb1⟩
      go_wp2
      go_ret
      exact ⟨by rw [← hPZ.out]; rfl, hb1⟩
end Go.Proofs.YtlcjagkfeakinaaGreatDoor.N

/- Rows of bytes that '[]byte(s)' makes. -/
namespace Go.Proofs.YtlcjagkfeakinaaGreatDoor.KB
set_option linter.unusedVariables false
open Go.RowKit
theorem bytesAt_conv (w : World) (s : ByteArray) : BytesAt (Lib.bytesWorld w 5 s) w.heap.size s.data.toList := by
  intro j hj
  have hn := Lib.bytesWorld_at_new w 5 s
  have hz : s.size ≤ (Lib.bytesCells w 5 s).size := by simp [Lib.bytesCells]
  have hc : (Lib.bytesCells w 5 s).toList[j]? = some (.int .u8 (s.data.toList[j].toNat : Int)) := by
    simp only [Lib.bytesCells, Array.toList_append, Array.toList_map]
    rw [List.getElem?_append_left (by simpa using hj), List.getElem?_map, List.getElem?_eq_getElem hj]
    rfl
  constructor
  · simp only [World.cell?, hn]
    rw [← Array.getElem?_toList]
    simpa using hc
  · simp only [World.frozen?, hn, Bool.and_eq_false_iff, decide_eq_false_iff_not]
    rw [size_list] at hj
    omega
theorem bytesWorld_below (w : World) (s : ByteArray) : Below w.heap.size w (Lib.bytesWorld w 5 s) :=
  ⟨rfl, rfl, rfl, by simp [Lib.bytesWorld, World.freeze, World.alloc, World.drew, -World.alloc_eq, -World.drew_eq], fun k hk => Lib.bytesWorld_at_old w 5 s k hk⟩
theorem bytesAt_below {W W' : World} {g : Nat} {l : List UInt8} (h : BytesAt W g l) (hl : 0 < l.length) (k : Below W.heap.size W W') (hg : g < W.heap.size) : BytesAt W' g l := by
  intro j hj
  obtain ⟨h1, h2⟩ := h j hj
  refine ⟨(k.cell (p := ⟨g, j, none⟩) hg).trans h1, ?_⟩
  have hb := k.block g hg
  simp only [World.frozen?] at h2 ⊢
  rw [hb]
  exact h2
theorem bytesAt_back {W : World} {g cap n : Nat} {l : List UInt8} (h : BytesAt W g l) (hn : l.length = n) : (convert 55 9 (.slice (some ⟨g, 0, none⟩) n cap)).run Tryz.prog W = .ok (.string ⟨l.toArray⟩) W := by
  subst hn
  refine run_convert_bytes_back (P := Tryz.prog) W 55 9 5 ⟨g, 0, none⟩ cap l Tryz.underlying55 Tryz.underlying5 Tryz.underlying9 (fun j hj => ?_)
  rw [add_at]
  exact (h j hj).1
end Go.Proofs.YtlcjagkfeakinaaGreatDoor.KB
