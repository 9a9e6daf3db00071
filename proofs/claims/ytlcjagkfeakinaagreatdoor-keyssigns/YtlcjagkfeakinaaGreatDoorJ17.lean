/- Texts of this proof, joined: KSignsW. -/
import Derived.OpenShut
import Derived.Test.YtlcjagkfeakinaaGreatDoorJ16
import Derived.Test.YtlcjagkfeakinaaGreatDoorJ13
/- KeysSigns: the walk. -/
namespace Go.Proofs.YtlcjagkfeakinaaGreatDoor.N
set_option linter.unusedVariables false
open Go.RowKit
attribute [local go_sem ↓] loadAt_nat storeAt_nat build_nat build_nat'
attribute [local go_sem] st1 st2a st2b natBuild_run
/-- the law's key in its box. -/
def Bx (w : World) (b : Nat) (E M D : ByteArray) : Prop := w.heap[b]? = some (.cells #[.string E, .string M, .string D] 54 (0, 0))
theorem Bx.blk {w w' : World} {b : Nat} {E M D : ByteArray} (h : Bx w b E M D) (hb : Below w.heap.size w w') : Bx w' b E M D := (hb.block _ (box_lt h)).trans h
theorem Bx.c {w : World} {b : Nat} {E M D : ByteArray} (h : Bx w b E M D) : w.cell? ⟨b, 0, none⟩ = some (.string E) ∧ w.cell? ⟨b, 1, none⟩ = some (.string M) ∧ w.cell? ⟨b, 2, none⟩ = some (.string D) :=
  ⟨(G.cells_at (j := 0) h rfl).1, (G.cells_at (j := 1) h rfl).1, (G.cells_at (j := 2) h rfl).1⟩
/-- a row of bytes. -/
structure Bat (w : World) (g : Nat) (l : List UInt8) : Prop where
  at' : BytesAt w g l
  lt : g < w.heap.size
  pos : 0 < l.length
theorem Bat.blk {w w' : World} {g : Nat} {l : List UInt8} (h : Bat w g l) (hb : Below w.heap.size w w') : Bat w' g l := ⟨KB.bytesAt_below h.at' h.pos hb h.lt, Nat.lt_of_lt_of_le h.lt hb.size, h.pos⟩
theorem xor_byte (a b : Int) : ∃ c : UInt8, bits BinOp.xor IntKind.u8 a b = (c.toNat : Int) := by
  have h := Go.wf_bits BinOp.xor IntKind.u8 a b
  have h2 := Go.bounds_u8 h
  refine ⟨UInt8.ofNat (bits BinOp.xor IntKind.u8 a b).toNat, ?_⟩
  rw [UInt8.toNat_ofNat']
  omega
set_option maxRecDepth 100000 in
set_option maxHeartbeats 4000000 in
theorem signs_pn (E M D d P X S Q Tn : ByteArray) (ax ay : Int) (e n x b s t y p : Nat) (q1 q2 q3 q4 : Int) (r gd : Bool) (I : Nat) (c' : UInt8) (hE1 : 1 ≤ E.size) (hE8 : E.size ≤ 8) (hM : M.size = 64) (hD : D.size ≤ 64) (hd : d.size ≤ 2000) (hS : S.size = 64) (hI : I < 64)
    (hP : (⟨#[UInt8.ofNat E.size]⟩ : ByteArray) ++ E ++ M = P) (hX : (⟨#[0]⟩ : ByteArray) ++ d = X) (hT : Hid (Tn = ⟨(S.data.toList.set I c').toArray⟩))
    (HR : Hid (∀ W, Calls Tryz.prog 18 #[.string P] W fun e' w' => e' = .returned (.tuple #[.agg (natL e).toArray, .agg (natL n).toArray, .int .i64 0]) ∧ Below W.heap.size W w'))
    (HD : Hid (∀ W, Calls Tryz.prog 24 #[.int .i64 48, .string d] W fun e w' => e = .returned (.bool true) ∧ Below W.heap.size W w'))
    (HO1 : Hid (∀ W, Calls Tryz.prog 25 #[.string D] W fun e w' => e = .returned (.tuple #[.agg (natL x).toArray, .int .i64 0]) ∧ Below W.heap.size W w'))
    (Hb : Hid (∀ W, G.Rk W → Calls Tryz.prog 26 #[.string d] W fun e w' => e = .returned (.string Q) ∧ Below W.heap.size W w'))
    (HO2 : Hid (∀ W, Calls Tryz.prog 25 #[.string Q] W fun e w' => e = .returned (.tuple #[.agg (natL b).toArray, .int .i64 0]) ∧ Below W.heap.size W w'))
    (HP1 : Hid (∀ W, Calls Tryz.prog 27 #[.agg (natL b).toArray, .agg (natL x).toArray, .agg (natL n).toArray] W fun e w' => e = .returned (.tuple #[.agg (natL s).toArray, .int .i64 0]) ∧ Below W.heap.size W w'))
    (HW : Hid (∀ W, Calls Tryz.prog 28 #[.agg (natL s).toArray, .int .i64 64] W fun e w' => e = .returned (.tuple #[.string S, .int .i64 0]) ∧ Below W.heap.size W w'))
    (HP2 : Hid (∀ W, Calls Tryz.prog 27 #[.agg (natL s).toArray, .agg (natL e).toArray, .agg (natL n).toArray] W fun e w' => e = .returned (.tuple #[.agg (natL t).toArray, .int .i64 0]) ∧ Below W.heap.size W w'))
    (HC1 : Hid (∀ W, Calls Tryz.prog 29 #[.agg (natL t).toArray, .agg (natL b).toArray] W fun e w' => e = .returned (.int .i64 q1) ∧ Below W.heap.size W w'))
    (HC2 : Hid (∀ W, Calls Tryz.prog 29 #[.agg (natL b).toArray, .agg (natL n).toArray] W fun e w' => e = .returned (.int .i64 q2) ∧ Below W.heap.size W w'))
    (HV1 : Hid (∀ W, G.Rk W → Calls Tryz.prog 23 #[.string P, .string X, .string S] W fun e w' => e = .returned (.bool r) ∧ Below W.heap.size W w'))
    (HO3 : Hid (∀ W, Calls Tryz.prog 25 #[.string Tn] W fun e w' => e = .returned (.tuple #[.agg (natL y).toArray, .int .i64 0]) ∧ Below W.heap.size W w'))
    (HP3 : Hid (∀ W, Calls Tryz.prog 27 #[.agg (natL y).toArray, .agg (natL e).toArray, .agg (natL n).toArray] W fun e w' => e = .returned (.tuple #[.agg (natL p).toArray, .int .i64 0]) ∧ Below W.heap.size W w'))
    (HC3 : Hid (∀ W, Calls Tryz.prog 29 #[.agg (natL p).toArray, .agg (natL b).toArray] W fun e w' => e = .returned (.int .i64 q3) ∧ Below W.heap.size W w'))
    (HC4 : Hid (∀ W, Calls Tryz.prog 29 #[.agg (natL y).toArray, .agg (natL n).toArray] W fun e w' => e = .returned (.int .i64 q4) ∧ Below W.heap.size W w'))
    (HV2 : Hid (∀ W, G.Rk W → Calls Tryz.prog 23 #[.string P, .string X, .string Tn] W fun e w' => e = .returned (.bool gd) ∧ Below W.heap.size W w'))
    (HV3 : Hid (∀ W, G.Rk W → Calls Tryz.prog 23 #[.string P, .string X, .string (S.extract 1 64)] W fun e w' => e = .returned (.bool false) ∧ Below W.heap.size W w'))
    (hq1 : ((q1 == 0) = true ∧ q2 < 0 ∧ r = true) ∨ ((q1 == 0) = false ∧ r = false))
    (hq3 : ((q3 == 0) = true ∧ q4 < 0 ∧ q2 < 0 ∧ gd = true) ∨ ((q3 == 0) = true ∧ ¬ q4 < 0 ∧ gd = false) ∨ ((q3 == 0) = false ∧ gd = false))
    (nat : ¬ ax < 0) (mat : ax.tmod 64 = (I : Nat)) (mby : (ay.tmod 256 == 0) = false) (hxr : Hid (∀ z : UInt8, S.data.toList[I]?.getD 0 = z → bits BinOp.xor IntKind.u8 (z.toNat : Int) (ay % 256) = (c'.toNat : Int)))
    (W : World) (hG : G.Rk W) :
    Calls Tryz.prog 6 #[.agg #[.string E, .string M, .string D], .string d, .int .i64 ax, .int .i64 ay] W fun e w' => e = .returned (.bool true) ∧ Below W.heap.size W w' := by
  have hz := zero26
  have HX := Hid.mk kexamples_in
  have G0 := Hid.mk hG
  have K : Bx (W.alloc (.cells #[.string E, .string M, .string D] 54)) W.heap.size E M D := heap_new _ _
  have B : Below W.heap.size W (W.alloc (.cells #[.string E, .string M, .string D] 54)) := (Below.refl _ _).alloc (Nat.le_refl _) _
  clear hG
  have G : Has (W.alloc (.cells #[.string E, .string M, .string D] 54)) [] := trivial
  have s1 : ¬ ((E.size : Int) < 1) := by omega
  have s2 : ¬ ((8 : Int) < (E.size : Int)) := by omega
  have s3 : ((M.size : Int) != 64) = false := by rw [hM]; rfl
  have s4 : ¬ ((64 : Int) < (D.size : Int)) := by omega
  have wE : IntKind.u8.wrap (E.size : Int) = (E.size : Int) := by rw [IntKind.wrap_u8]; omega
  have z1 : ¬ (9223372036854775807 < 1 + E.size) := by omega
  have z2 : ¬ (9223372036854775807 < 1 + E.size + M.size) := by omega
  have z3 : ¬ (9223372036854775807 < 1 + d.size) := by omega
  have g1 : (1 : Int) ≤ (S.size : Int) := by omega
  have HSS := Hid.mk hS
  have HII := Hid.mk hI
  have iI : (I : Int) < 64 := by omega
  have wI : IntKind.i64.wrap (I : Int) = (I : Int) := by rw [IntKind.wrap_i64]; omega
  have HE8 := Hid.mk hE8
  clear hE1 hE8 hM hD hd hI
  go_enter Tryz.func6, Tryz.ntmps6
  go_wp2_with fail
  refine (HX.out _ (G0.out.below B)).mono ?_
  rintro e u1 ⟨rfl, hb⟩
  replace G := G.blk hb
  replace B := bthen B hb
  replace K := K.blk hb
  clear hb
  obtain ⟨k0, k1, k2⟩ := K.c
  have hkl := box_lt K
  have hkn : W.heap.size ≠ u1.heap.size := by omega
  have hA := (Below.refl u1.heap.size u1).alloc (Nat.le_refl _) (.cells #[.int .u8 (E.size : Int)] 5)
  have hcv : (convert 55 9 (.slice (some ⟨u1.heap.size, 0, none⟩) 1 1)).run Tryz.prog (u1.alloc (.cells #[.int .u8 (E.size : Int)] 5)) = .ok (.string ⟨#[UInt8.ofNat E.size]⟩) (u1.alloc (.cells #[.int .u8 (E.size : Int)] 5)) := by
    have := run_convert_bytes_back (P := Tryz.prog) (u1.alloc (.cells #[.int .u8 (E.size : Int)] 5)) 55 9 5 ⟨u1.heap.size, 0, none⟩ 1 [UInt8.ofNat E.size] Tryz.underlying55 Tryz.underlying5 Tryz.underlying9 (fun j hj => by
      have e0 : j = 0 := by simpa using hj
      subst e0
      have hc0 := (_root_.Go.Proofs.YtlcjagkfeakinaaGreatDoor.G.cells_at (v := .int .u8 (E.size : Int)) (j := 0) (heap_new u1 (.cells #[.int .u8 (E.size : Int)] 5)) rfl).1
      rw [add_at]
      refine hc0.trans ?_
      have := HE8.out
      simp [Nat.mod_eq_of_lt (show E.size < 256 by omega)])
    simpa using this
  go_wp2_with fail
  refine (HR.out _).mono ?_
  rintro e' u2 ⟨rfl, hb⟩
  replace G := (G.blk hA).blk hb
  replace K := (K.blk hA).blk hb
  replace B := bthen (bthen B hA) hb
  clear hb hA hcv k0 k1 k2 hkl hkn hP wE z1 z2
  go_upto_region 6 with fail
  replace G := G.new2 (e) (n)
  replace B := below_new2 (e) (n) B
  replace K := K.blk (two_new u2 (natL (e)) (natL (n)) 43 43).2.2.1
  generalize (u2.alloc (.cells (natL (e)).toArray 43)).alloc (.cells (natL (n)).toArray 43) = v2 at G B K ⊢
  generalize u2.heap.size = b_e at G ⊢
  obtain ⟨b_n, h_n⟩ : ∃ x, b_e + 1 = x := ⟨_, rfl⟩
  rw [h_n] at G ⊢
  clear h_n
  go_wp2_with fail
  refine (HD.out _).mono ?_
  rintro e u3 ⟨rfl, hb⟩
  replace G := G.blk hb
  replace B := bthen B hb
  replace K := K.blk hb
  clear hb
  obtain ⟨k0, k1, k2⟩ := K.c
  go_wp2_with fail
  refine (HO1.out _).mono ?_
  rintro e u4 ⟨rfl, hb⟩
  replace G := G.blk hb
  replace B := bthen B hb
  replace K := K.blk hb
  clear hb
  clear k0 k1 k2
  go_upto_region 9 with fail
  replace G := G.new1 (x)
  replace B := below_new1 (x) B
  replace K := K.blk (w' := u4.alloc (.cells (natL (x)).toArray 43)) ((Below.refl _ _).alloc (Nat.le_refl _) _)
  generalize u4.alloc (.cells (natL (x)).toArray 43) = v4 at G B K ⊢
  generalize u4.heap.size = b_x at G ⊢
  go_wp2_with fail
  refine (Hb.out _ (G0.out.below B)).mono ?_
  rintro e u5 ⟨rfl, hb⟩
  replace G := G.blk hb
  replace B := bthen B hb
  replace K := K.blk hb
  clear hb
  go_wp2_with fail
  refine (HO2.out _).mono ?_
  rintro e u6 ⟨rfl, hb⟩
  replace G := G.blk hb
  replace B := bthen B hb
  replace K := K.blk hb
  clear hb
  go_upto_region 10 with fail
  replace G := G.new1 (b)
  replace B := below_new1 (b) B
  replace K := K.blk (w' := u6.alloc (.cells (natL (b)).toArray 43)) ((Below.refl _ _).alloc (Nat.le_refl _) _)
  generalize u6.alloc (.cells (natL (b)).toArray 43) = v6 at G B K ⊢
  generalize u6.heap.size = b_b at G ⊢
  have l_b := natLoad_run (G.get 0 rfl)
  have l_x := natLoad_run (G.get 1 rfl)
  have l_n := natLoad_run (G.get 3 rfl)
  go_wp2_with fail
  refine (HP1.out _).mono ?_
  rintro e u7 ⟨rfl, hb⟩
  replace G := G.blk hb
  replace B := bthen B hb
  replace K := K.blk hb
  clear hb
  clear l_b l_x l_n
  go_upto_region 11 with fail
  replace G := G.new1 (s)
  replace B := below_new1 (s) B
  replace K := K.blk (w' := u7.alloc (.cells (natL (s)).toArray 43)) ((Below.refl _ _).alloc (Nat.le_refl _) _)
  generalize u7.alloc (.cells (natL (s)).toArray 43) = v7 at G B K ⊢
  generalize u7.heap.size = b_s at G ⊢
  have l_s := natLoad_run (G.get 0 rfl)
  go_wp2_with fail
  refine (HW.out _).mono ?_
  rintro e u8 ⟨rfl, hb⟩
  replace G := G.blk hb
  replace B := bthen B hb
  replace K := K.blk hb
  clear hb
  clear l_s
  have l_s := natLoad_run (G.get 0 rfl)
  have l_e := natLoad_run (G.get 3 rfl)
  have l_n := natLoad_run (G.get 4 rfl)
  go_wp2_with fail
  refine (HP2.out _).mono ?_
  rintro e u9 ⟨rfl, hb⟩
  replace G := G.blk hb
  replace B := bthen B hb
  replace K := K.blk hb
  clear hb
  clear l_s l_e l_n
  go_upto_region 13 with fail
  replace G := G.new1 (t)
  replace B := below_new1 (t) B
  replace K := K.blk (w' := u9.alloc (.cells (natL (t)).toArray 43)) ((Below.refl _ _).alloc (Nat.le_refl _) _)
  generalize u9.alloc (.cells (natL (t)).toArray 43) = v9 at G B K ⊢
  generalize u9.heap.size = b_t at G ⊢
  have l_t := natLoad_run (G.get 0 rfl)
  have l_b := natLoad_run (G.get 2 rfl)
  go_wp2_with fail
  refine (HC1.out _).mono ?_
  rintro e u10 ⟨rfl, hb⟩
  replace G := G.blk hb
  replace B := bthen B hb
  replace K := K.blk hb
  clear hb
  clear l_t l_b
  rcases hq1 with ⟨h1, h2, rfl⟩ | ⟨h1, rfl⟩
  · have l_b := natLoad_run (G.get 2 rfl)
    have l_n := natLoad_run (G.get 5 rfl)
    go_wp2_with fail
    refine (HC2.out _).mono ?_
    rintro e u11 ⟨rfl, hb⟩
    replace G := G.blk hb
    replace B := bthen B hb
    replace K := K.blk hb
    clear hb
    clear l_b l_n
    go_wp2_with fail
    refine (HV1.out _ (G0.out.below B)).mono ?_
    rintro e u12 ⟨rfl, hb⟩
    replace G := G.blk hb
    replace B := bthen B hb
    replace K := K.blk hb
    clear hb
    have hcz := Lib.run_convert_string_bytes (P := Tryz.prog) u12 9 55 5 S Tryz.underlying9 Tryz.underlying55 Tryz.underlying5
    have V0 := KB.bytesAt_conv u12 S
    have hA := KB.bytesWorld_below u12 S
    have hlt : u12.heap.size < (Lib.bytesWorld u12 5 S).heap.size := Array.getElem?_eq_some_iff.1 (Lib.bytesWorld_at_new u12 5 S) |>.1
    generalize hV : Lib.bytesWorld u12 5 S = V at V0 hA hcz hlt
    clear hV
    have hIl : I < S.data.toList.length := by rw [size_list, HSS.out]; exact HII.out
    obtain ⟨c0, f0⟩ := V0 I hIl
    have hxb := hxr.out (S.data.toList[I]) (by rw [List.getElem?_eq_getElem hIl]; rfl)
    generalize S.data.toList[I] = z at c0 hxb
    have VS := V0.set I c'
    have hA2 := hA.setCell (p := ⟨u12.heap.size, I, none⟩) (Nat.le_refl _) (.int .u8 (c'.toNat : Int))
    have Y : Bat (V.setCell ⟨u12.heap.size, I, none⟩ (.int .u8 (c'.toNat : Int))) u12.heap.size (S.data.toList.set I c') := ⟨VS, by simpa using hlt, by rw [List.length_set]; omega⟩
    have hsl : (S.data.toList.set I c').length = 64 := by rw [List.length_set, size_list, HSS.out]
    have HSL := Hid.mk hsl
    have hbk := KB.bytesAt_back (cap := grownCap u12 64 0 5) VS hsl
    rw [← hT.out] at hbk
    have iS : (I : Int) < (S.size : Int) := by rw [HSS.out]; exact iI
    obtain ⟨gg, hgg⟩ : ∃ gg, u12.heap.size = gg := ⟨_, rfl⟩
    clear hA hlt V0 VS hIl hsl hgg
    go_wp2_with fail
    refine (HO3.out _).mono ?_
    rintro e' u13 ⟨rfl, hb⟩
    replace G := (G.blk hA2).blk hb
    replace K := (K.blk hA2).blk hb
    replace B := bthen (bthen B hA2) hb
    replace Y := Y.blk hb
    clear hb hA2 hbk hcz c0 f0 hxb iS
    go_upto_region 24 with fail
    replace G := G.new1 (y)
    replace B := below_new1 (y) B
    replace K := K.blk (w' := u13.alloc (.cells (natL (y)).toArray 43)) ((Below.refl _ _).alloc (Nat.le_refl _) _)
    replace Y := Y.blk (w' := u13.alloc (.cells (natL (y)).toArray 43)) ((Below.refl _ _).alloc (Nat.le_refl _) _)
    generalize u13.alloc (.cells (natL (y)).toArray 43) = v13 at G B K Y ⊢
    generalize u13.heap.size = b_y at G ⊢
    have l_y := natLoad_run (G.get 0 rfl)
    have l_e := natLoad_run (G.get 5 rfl)
    have l_n := natLoad_run (G.get 6 rfl)
    go_wp2_with fail
    refine (HP3.out _).mono ?_
    rintro e u14 ⟨rfl, hb⟩
    replace G := G.blk hb
    replace B := bthen B hb
    replace K := K.blk hb
    replace Y := Y.blk hb
    clear hb
    clear l_y l_e l_n
    go_upto_region 25 with fail
    replace G := G.new1 (p)
    replace B := below_new1 (p) B
    replace K := K.blk (w' := u14.alloc (.cells (natL (p)).toArray 43)) ((Below.refl _ _).alloc (Nat.le_refl _) _)
    replace Y := Y.blk (w' := u14.alloc (.cells (natL (p)).toArray 43)) ((Below.refl _ _).alloc (Nat.le_refl _) _)
    generalize u14.alloc (.cells (natL (p)).toArray 43) = v14 at G B K Y ⊢
    generalize u14.heap.size = b_p at G ⊢
    have l_p := natLoad_run (G.get 0 rfl)
    have l_b := natLoad_run (G.get 4 rfl)
    go_wp2_with fail
    refine (HC3.out _).mono ?_
    rintro e u15 ⟨rfl, hb⟩
    replace G := G.blk hb
    replace B := bthen B hb
    replace K := K.blk hb
    replace Y := Y.blk hb
    clear hb
    clear l_p l_b
    rcases hq3 with ⟨h3, h4, h5, rfl⟩ | ⟨h3, h4, rfl⟩ | ⟨h3, rfl⟩
    · have l_y := natLoad_run (G.get 1 rfl)
      have l_n := natLoad_run (G.get 7 rfl)
      go_wp2_with fail
      refine (HC4.out _).mono ?_
      rintro e u16 ⟨rfl, hb⟩
      replace G := G.blk hb
      replace B := bthen B hb
      replace K := K.blk hb
      replace Y := Y.blk hb
      clear hb
      clear l_y l_n
      have l_b := natLoad_run (G.get 4 rfl)
      have l_n := natLoad_run (G.get 7 rfl)
      go_wp2_with fail
      refine (HC2.out _).mono ?_
      rintro e u17 ⟨rfl, hb⟩
      replace G := G.blk hb
      replace B := bthen B hb
      replace K := K.blk hb
      replace Y := Y.blk hb
      clear hb
      clear l_b l_n
      have hbk := KB.bytesAt_back (cap := grownCap u12 64 0 5) Y.at' HSL.out
      rw [← hT.out] at hbk
      go_wp2_with fail
      refine (HV2.out _ (G0.out.below B)).mono ?_
      rintro e u18 ⟨rfl, hb⟩
      replace G := G.blk hb
      replace B := bthen B hb
      replace K := K.blk hb
      replace Y := Y.blk hb
      clear hb
      clear hbk
      go_wp2_with fail
      refine (HV3.out _ (G0.out.below B)).mono ?_
      rintro e u19 ⟨rfl, hb⟩
      replace G := G.blk hb
      replace B := bthen B hb
      replace K := K.blk hb
      replace Y := Y.blk hb
      clear hb
      go_wp2
      go_ret
      exact ⟨rfl, B⟩
    · have l_y := natLoad_run (G.get 1 rfl)
      have l_n := natLoad_run (G.get 7 rfl)
      go_wp2_with fail
      refine (HC4.out _).mono ?_
      rintro e u16 ⟨rfl, hb⟩
      replace G := G.blk hb
      replace B := bthen B hb
      replace K := K.blk hb
      replace Y := Y.blk hb
      clear hb
      clear l_y l_n
      have hbk := KB.bytesAt_back (cap := grownCap u12 64 0 5) Y.at' HSL.out
      rw [← hT.out] at hbk
      go_wp2_with fail
      refine (HV2.out _ (G0.out.below B)).mono ?_
      rintro e u17 ⟨rfl, hb⟩
      replace G := G.blk hb
      replace B := bthen B hb
      replace K := K.blk hb
      replace Y := Y.blk hb
      clear hb
      clear hbk
      go_wp2_with fail
      refine (HV3.out _ (G0.out.below B)).mono ?_
      rintro e u18 ⟨rfl, hb⟩
      replace G := G.blk hb
      replace B := bthen B hb
      replace K := K.blk hb
      replace Y := Y.blk hb
      clear hb
      go_wp2
      go_ret
      exact ⟨rfl, B⟩
    · have hbk := KB.bytesAt_back (cap := grownCap u12 64 0 5) Y.at' HSL.out
      rw [← hT.out] at hbk
      go_wp2_with fail
      refine (HV2.out _ (G0.out.below B)).mono ?_
      rintro e u16 ⟨rfl, hb⟩
      replace G := G.blk hb
      replace B := bthen B hb
      replace K := K.blk hb
      replace Y := Y.blk hb
      clear hb
      clear hbk
      go_wp2_with fail
      refine (HV3.out _ (G0.out.below B)).mono ?_
      rintro e u17 ⟨rfl, hb⟩
      replace G := G.blk hb
      replace B := bthen B hb
      replace K := K.blk hb
      replace Y := Y.blk hb
      clear hb
      go_wp2
      go_ret
      exact ⟨rfl, B⟩
  · go_wp2_with fail
    refine (HV1.out _ (G0.out.below B)).mono ?_
    rintro e u11 ⟨rfl, hb⟩
    replace G := G.blk hb
    replace B := bthen B hb
    replace K := K.blk hb
    clear hb
    have hcz := Lib.run_convert_string_bytes (P := Tryz.prog) u11 9 55 5 S Tryz.underlying9 Tryz.underlying55 Tryz.underlying5
    have V0 := KB.bytesAt_conv u11 S
    have hA := KB.bytesWorld_below u11 S
    have hlt : u11.heap.size < (Lib.bytesWorld u11 5 S).heap.size := Array.getElem?_eq_some_iff.1 (Lib.bytesWorld_at_new u11 5 S) |>.1
    generalize hV : Lib.bytesWorld u11 5 S = V at V0 hA hcz hlt
    clear hV
    have hIl : I < S.data.toList.length := by rw [size_list, HSS.out]; exact HII.out
    obtain ⟨c0, f0⟩ := V0 I hIl
    have hxb := hxr.out (S.data.toList[I]) (by rw [List.getElem?_eq_getElem hIl]; rfl)
    generalize S.data.toList[I] = z at c0 hxb
    have VS := V0.set I c'
    have hA2 := hA.setCell (p := ⟨u11.heap.size, I, none⟩) (Nat.le_refl _) (.int .u8 (c'.toNat : Int))
    have Y : Bat (V.setCell ⟨u11.heap.size, I, none⟩ (.int .u8 (c'.toNat : Int))) u11.heap.size (S.data.toList.set I c') := ⟨VS, by simpa using hlt, by rw [List.length_set]; omega⟩
    have hsl : (S.data.toList.set I c').length = 64 := by rw [List.length_set, size_list, HSS.out]
    have HSL := Hid.mk hsl
    have hbk := KB.bytesAt_back (cap := grownCap u11 64 0 5) VS hsl
    rw [← hT.out] at hbk
    have iS : (I : Int) < (S.size : Int) := by rw [HSS.out]; exact iI
    obtain ⟨gg, hgg⟩ : ∃ gg, u11.heap.size = gg := ⟨_, rfl⟩
    clear hA hlt V0 VS hIl hsl hgg
    go_wp2_with fail
    refine (HO3.out _).mono ?_
    rintro e' u12 ⟨rfl, hb⟩
    replace G := (G.blk hA2).blk hb
    replace K := (K.blk hA2).blk hb
    replace B := bthen (bthen B hA2) hb
    replace Y := Y.blk hb
    clear hb hA2 hbk hcz c0 f0 hxb iS
    go_upto_region 24 with fail
    replace G := G.new1 (y)
    replace B := below_new1 (y) B
    replace K := K.blk (w' := u12.alloc (.cells (natL (y)).toArray 43)) ((Below.refl _ _).alloc (Nat.le_refl _) _)
    replace Y := Y.blk (w' := u12.alloc (.cells (natL (y)).toArray 43)) ((Below.refl _ _).alloc (Nat.le_refl _) _)
    generalize u12.alloc (.cells (natL (y)).toArray 43) = v12 at G B K Y ⊢
    generalize u12.heap.size = b_y at G ⊢
    have l_y := natLoad_run (G.get 0 rfl)
    have l_e := natLoad_run (G.get 5 rfl)
    have l_n := natLoad_run (G.get 6 rfl)
    go_wp2_with fail
    refine (HP3.out _).mono ?_
    rintro e u13 ⟨rfl, hb⟩
    replace G := G.blk hb
    replace B := bthen B hb
    replace K := K.blk hb
    replace Y := Y.blk hb
    clear hb
    clear l_y l_e l_n
    go_upto_region 25 with fail
    replace G := G.new1 (p)
    replace B := below_new1 (p) B
    replace K := K.blk (w' := u13.alloc (.cells (natL (p)).toArray 43)) ((Below.refl _ _).alloc (Nat.le_refl _) _)
    replace Y := Y.blk (w' := u13.alloc (.cells (natL (p)).toArray 43)) ((Below.refl _ _).alloc (Nat.le_refl _) _)
    generalize u13.alloc (.cells (natL (p)).toArray 43) = v13 at G B K Y ⊢
    generalize u13.heap.size = b_p at G ⊢
    have l_p := natLoad_run (G.get 0 rfl)
    have l_b := natLoad_run (G.get 4 rfl)
    go_wp2_with fail
    refine (HC3.out _).mono ?_
    rintro e u14 ⟨rfl, hb⟩
    replace G := G.blk hb
    replace B := bthen B hb
    replace K := K.blk hb
    replace Y := Y.blk hb
    clear hb
    clear l_p l_b
    rcases hq3 with ⟨h3, h4, h5, rfl⟩ | ⟨h3, h4, rfl⟩ | ⟨h3, rfl⟩
    · have l_y := natLoad_run (G.get 1 rfl)
      have l_n := natLoad_run (G.get 7 rfl)
      go_wp2_with fail
      refine (HC4.out _).mono ?_
      rintro e u15 ⟨rfl, hb⟩
      replace G := G.blk hb
      replace B := bthen B hb
      replace K := K.blk hb
      replace Y := Y.blk hb
      clear hb
      clear l_y l_n
      have l_b := natLoad_run (G.get 4 rfl)
      have l_n := natLoad_run (G.get 7 rfl)
      go_wp2_with fail
      refine (HC2.out _).mono ?_
      rintro e u16 ⟨rfl, hb⟩
      replace G := G.blk hb
      replace B := bthen B hb
      replace K := K.blk hb
      replace Y := Y.blk hb
      clear hb
      clear l_b l_n
      have hbk := KB.bytesAt_back (cap := grownCap u11 64 0 5) Y.at' HSL.out
      rw [← hT.out] at hbk
      go_wp2_with fail
      refine (HV2.out _ (G0.out.below B)).mono ?_
      rintro e u17 ⟨rfl, hb⟩
      replace G := G.blk hb
      replace B := bthen B hb
      replace K := K.blk hb
      replace Y := Y.blk hb
      clear hb
      clear hbk
      go_wp2_with fail
      refine (HV3.out _ (G0.out.below B)).mono ?_
      rintro e u18 ⟨rfl, hb⟩
      replace G := G.blk hb
      replace B := bthen B hb
      replace K := K.blk hb
      replace Y := Y.blk hb
      clear hb
      go_wp2
      go_ret
      exact ⟨rfl, B⟩
    · have l_y := natLoad_run (G.get 1 rfl)
      have l_n := natLoad_run (G.get 7 rfl)
      go_wp2_with fail
      refine (HC4.out _).mono ?_
      rintro e u15 ⟨rfl, hb⟩
      replace G := G.blk hb
      replace B := bthen B hb
      replace K := K.blk hb
      replace Y := Y.blk hb
      clear hb
      clear l_y l_n
      have hbk := KB.bytesAt_back (cap := grownCap u11 64 0 5) Y.at' HSL.out
      rw [← hT.out] at hbk
      go_wp2_with fail
      refine (HV2.out _ (G0.out.below B)).mono ?_
      rintro e u16 ⟨rfl, hb⟩
      replace G := G.blk hb
      replace B := bthen B hb
      replace K := K.blk hb
      replace Y := Y.blk hb
      clear hb
      clear hbk
      go_wp2_with fail
      refine (HV3.out _ (G0.out.below B)).mono ?_
      rintro e u17 ⟨rfl, hb⟩
      replace G := G.blk hb
      replace B := bthen B hb
      replace K := K.blk hb
      replace Y := Y.blk hb
      clear hb
      go_wp2
      go_ret
      exact ⟨rfl, B⟩
    · have hbk := KB.bytesAt_back (cap := grownCap u11 64 0 5) Y.at' HSL.out
      rw [← hT.out] at hbk
      go_wp2_with fail
      refine (HV2.out _ (G0.out.below B)).mono ?_
      rintro e u15 ⟨rfl, hb⟩
      replace G := G.blk hb
      replace B := bthen B hb
      replace K := K.blk hb
      replace Y := Y.blk hb
      clear hb
      clear hbk
      go_wp2_with fail
      refine (HV3.out _ (G0.out.below B)).mono ?_
      rintro e u16 ⟨rfl, hb⟩
      replace G := G.blk hb
      replace B := bthen B hb
      replace K := K.blk hb
      replace Y := Y.blk hb
      clear hb
      go_wp2
      go_ret
      exact ⟨rfl, B⟩
set_option maxRecDepth 100000 in
set_option maxHeartbeats 4000000 in
theorem signs_pz (E M D d P X S Q Tn : ByteArray) (ax ay : Int) (e n x b s t y p : Nat) (q1 q2 q3 q4 : Int) (r gd : Bool) (I : Nat) (c' : UInt8) (hE1 : 1 ≤ E.size) (hE8 : E.size ≤ 8) (hM : M.size = 64) (hD : D.size ≤ 64) (hd : d.size ≤ 2000) (hS : S.size = 64) (hI : I < 64)
    (hP : (⟨#[UInt8.ofNat E.size]⟩ : ByteArray) ++ E ++ M = P) (hX : (⟨#[0]⟩ : ByteArray) ++ d = X) (hT : Hid (Tn = ⟨(S.data.toList.set I c').toArray⟩))
    (HR : Hid (∀ W, Calls Tryz.prog 18 #[.string P] W fun e' w' => e' = .returned (.tuple #[.agg (natL e).toArray, .agg (natL n).toArray, .int .i64 0]) ∧ Below W.heap.size W w'))
    (HD : Hid (∀ W, Calls Tryz.prog 24 #[.int .i64 48, .string d] W fun e w' => e = .returned (.bool true) ∧ Below W.heap.size W w'))
    (HO1 : Hid (∀ W, Calls Tryz.prog 25 #[.string D] W fun e w' => e = .returned (.tuple #[.agg (natL x).toArray, .int .i64 0]) ∧ Below W.heap.size W w'))
    (Hb : Hid (∀ W, G.Rk W → Calls Tryz.prog 26 #[.string d] W fun e w' => e = .returned (.string Q) ∧ Below W.heap.size W w'))
    (HO2 : Hid (∀ W, Calls Tryz.prog 25 #[.string Q] W fun e w' => e = .returned (.tuple #[.agg (natL b).toArray, .int .i64 0]) ∧ Below W.heap.size W w'))
    (HP1 : Hid (∀ W, Calls Tryz.prog 27 #[.agg (natL b).toArray, .agg (natL x).toArray, .agg (natL n).toArray] W fun e w' => e = .returned (.tuple #[.agg (natL s).toArray, .int .i64 0]) ∧ Below W.heap.size W w'))
    (HW : Hid (∀ W, Calls Tryz.prog 28 #[.agg (natL s).toArray, .int .i64 64] W fun e w' => e = .returned (.tuple #[.string S, .int .i64 0]) ∧ Below W.heap.size W w'))
    (HP2 : Hid (∀ W, Calls Tryz.prog 27 #[.agg (natL s).toArray, .agg (natL e).toArray, .agg (natL n).toArray] W fun e w' => e = .returned (.tuple #[.agg (natL t).toArray, .int .i64 0]) ∧ Below W.heap.size W w'))
    (HC1 : Hid (∀ W, Calls Tryz.prog 29 #[.agg (natL t).toArray, .agg (natL b).toArray] W fun e w' => e = .returned (.int .i64 q1) ∧ Below W.heap.size W w'))
    (HC2 : Hid (∀ W, Calls Tryz.prog 29 #[.agg (natL b).toArray, .agg (natL n).toArray] W fun e w' => e = .returned (.int .i64 q2) ∧ Below W.heap.size W w'))
    (HV1 : Hid (∀ W, G.Rk W → Calls Tryz.prog 23 #[.string P, .string X, .string S] W fun e w' => e = .returned (.bool r) ∧ Below W.heap.size W w'))
    (HO3 : Hid (∀ W, Calls Tryz.prog 25 #[.string Tn] W fun e w' => e = .returned (.tuple #[.agg (natL y).toArray, .int .i64 0]) ∧ Below W.heap.size W w'))
    (HP3 : Hid (∀ W, Calls Tryz.prog 27 #[.agg (natL y).toArray, .agg (natL e).toArray, .agg (natL n).toArray] W fun e w' => e = .returned (.tuple #[.agg (natL p).toArray, .int .i64 0]) ∧ Below W.heap.size W w'))
    (HC3 : Hid (∀ W, Calls Tryz.prog 29 #[.agg (natL p).toArray, .agg (natL b).toArray] W fun e w' => e = .returned (.int .i64 q3) ∧ Below W.heap.size W w'))
    (HC4 : Hid (∀ W, Calls Tryz.prog 29 #[.agg (natL y).toArray, .agg (natL n).toArray] W fun e w' => e = .returned (.int .i64 q4) ∧ Below W.heap.size W w'))
    (HV2 : Hid (∀ W, G.Rk W → Calls Tryz.prog 23 #[.string P, .string X, .string Tn] W fun e w' => e = .returned (.bool gd) ∧ Below W.heap.size W w'))
    (HV3 : Hid (∀ W, G.Rk W → Calls Tryz.prog 23 #[.string P, .string X, .string (S.extract 1 64)] W fun e w' => e = .returned (.bool false) ∧ Below W.heap.size W w'))
    (hq1 : ((q1 == 0) = true ∧ q2 < 0 ∧ r = true) ∨ ((q1 == 0) = false ∧ r = false))
    (hq3 : ((q3 == 0) = true ∧ q4 < 0 ∧ q2 < 0 ∧ gd = true) ∨ ((q3 == 0) = true ∧ ¬ q4 < 0 ∧ gd = false) ∨ ((q3 == 0) = false ∧ gd = false))
    (nat : ¬ ax < 0) (mat : ax.tmod 64 = (I : Nat)) (mby : (ay.tmod 256 == 0) = true) (hxr : Hid (∀ z : UInt8, S.data.toList[I]?.getD 0 = z → bits BinOp.xor IntKind.u8 (z.toNat : Int) 1 = (c'.toNat : Int)))
    (W : World) (hG : G.Rk W) :
    Calls Tryz.prog 6 #[.agg #[.string E, .string M, .string D], .string d, .int .i64 ax, .int .i64 ay] W fun e w' => e = .returned (.bool true) ∧ Below W.heap.size W w' := by
  have hz := zero26
  have HX := Hid.mk kexamples_in
  have G0 := Hid.mk hG
  have K : Bx (W.alloc (.cells #[.string E, .string M, .string D] 54)) W.heap.size E M D := heap_new _ _
  have B : Below W.heap.size W (W.alloc (.cells #[.string E, .string M, .string D] 54)) := (Below.refl _ _).alloc (Nat.le_refl _) _
  clear hG
  have G : Has (W.alloc (.cells #[.string E, .string M, .string D] 54)) [] := trivial
  have s1 : ¬ ((E.size : Int) < 1) := by omega
  have s2 : ¬ ((8 : Int) < (E.size : Int)) := by omega
  have s3 : ((M.size : Int) != 64) = false := by rw [hM]; rfl
  have s4 : ¬ ((64 : Int) < (D.size : Int)) := by omega
  have wE : IntKind.u8.wrap (E.size : Int) = (E.size : Int) := by rw [IntKind.wrap_u8]; omega
  have z1 : ¬ (9223372036854775807 < 1 + E.size) := by omega
  have z2 : ¬ (9223372036854775807 < 1 + E.size + M.size) := by omega
  have z3 : ¬ (9223372036854775807 < 1 + d.size) := by omega
  have g1 : (1 : Int) ≤ (S.size : Int) := by omega
  have HSS := Hid.mk hS
  have HII := Hid.mk hI
  have iI : (I : Int) < 64 := by omega
  have wI : IntKind.i64.wrap (I : Int) = (I : Int) := by rw [IntKind.wrap_i64]; omega
  have HE8 := Hid.mk hE8
  clear hE1 hE8 hM hD hd hI
  go_enter Tryz.func6, Tryz.ntmps6
  go_wp2_with fail
  refine (HX.out _ (G0.out.below B)).mono ?_
  rintro e u1 ⟨rfl, hb⟩
  replace G := G.blk hb
  replace B := bthen B hb
  replace K := K.blk hb
  clear hb
  obtain ⟨k0, k1, k2⟩ := K.c
  have hkl := box_lt K
  have hkn : W.heap.size ≠ u1.heap.size := by omega
  have hA := (Below.refl u1.heap.size u1).alloc (Nat.le_refl _) (.cells #[.int .u8 (E.size : Int)] 5)
  have hcv : (convert 55 9 (.slice (some ⟨u1.heap.size, 0, none⟩) 1 1)).run Tryz.prog (u1.alloc (.cells #[.int .u8 (E.size : Int)] 5)) = .ok (.string ⟨#[UInt8.ofNat E.size]⟩) (u1.alloc (.cells #[.int .u8 (E.size : Int)] 5)) := by
    have := run_convert_bytes_back (P := Tryz.prog) (u1.alloc (.cells #[.int .u8 (E.size : Int)] 5)) 55 9 5 ⟨u1.heap.size, 0, none⟩ 1 [UInt8.ofNat E.size] Tryz.underlying55 Tryz.underlying5 Tryz.underlying9 (fun j hj => by
      have e0 : j = 0 := by simpa using hj
      subst e0
      have hc0 := (_root_.Go.Proofs.YtlcjagkfeakinaaGreatDoor.G.cells_at (v := .int .u8 (E.size : Int)) (j := 0) (heap_new u1 (.cells #[.int .u8 (E.size : Int)] 5)) rfl).1
      rw [add_at]
      refine hc0.trans ?_
      have := HE8.out
      simp [Nat.mod_eq_of_lt (show E.size < 256 by omega)])
    simpa using this
  go_wp2_with fail
  refine (HR.out _).mono ?_
  rintro e' u2 ⟨rfl, hb⟩
  replace G := (G.blk hA).blk hb
  replace K := (K.blk hA).blk hb
  replace B := bthen (bthen B hA) hb
  clear hb hA hcv k0 k1 k2 hkl hkn hP wE z1 z2
  go_upto_region 6 with fail
  replace G := G.new2 (e) (n)
  replace B := below_new2 (e) (n) B
  replace K := K.blk (two_new u2 (natL (e)) (natL (n)) 43 43).2.2.1
  generalize (u2.alloc (.cells (natL (e)).toArray 43)).alloc (.cells (natL (n)).toArray 43) = v2 at G B K ⊢
  generalize u2.heap.size = b_e at G ⊢
  obtain ⟨b_n, h_n⟩ : ∃ x, b_e + 1 = x := ⟨_, rfl⟩
  rw [h_n] at G ⊢
  clear h_n
  go_wp2_with fail
  refine (HD.out _).mono ?_
  rintro e u3 ⟨rfl, hb⟩
  replace G := G.blk hb
  replace B := bthen B hb
  replace K := K.blk hb
  clear hb
  obtain ⟨k0, k1, k2⟩ := K.c
  go_wp2_with fail
  refine (HO1.out _).mono ?_
  rintro e u4 ⟨rfl, hb⟩
  replace G := G.blk hb
  replace B := bthen B hb
  replace K := K.blk hb
  clear hb
  clear k0 k1 k2
  go_upto_region 9 with fail
  replace G := G.new1 (x)
  replace B := below_new1 (x) B
  replace K := K.blk (w' := u4.alloc (.cells (natL (x)).toArray 43)) ((Below.refl _ _).alloc (Nat.le_refl _) _)
  generalize u4.alloc (.cells (natL (x)).toArray 43) = v4 at G B K ⊢
  generalize u4.heap.size = b_x at G ⊢
  go_wp2_with fail
  refine (Hb.out _ (G0.out.below B)).mono ?_
  rintro e u5 ⟨rfl, hb⟩
  replace G := G.blk hb
  replace B := bthen B hb
  replace K := K.blk hb
  clear hb
  go_wp2_with fail
  refine (HO2.out _).mono ?_
  rintro e u6 ⟨rfl, hb⟩
  replace G := G.blk hb
  replace B := bthen B hb
  replace K := K.blk hb
  clear hb
  go_upto_region 10 with fail
  replace G := G.new1 (b)
  replace B := below_new1 (b) B
  replace K := K.blk (w' := u6.alloc (.cells (natL (b)).toArray 43)) ((Below.refl _ _).alloc (Nat.le_refl _) _)
  generalize u6.alloc (.cells (natL (b)).toArray 43) = v6 at G B K ⊢
  generalize u6.heap.size = b_b at G ⊢
  have l_b := natLoad_run (G.get 0 rfl)
  have l_x := natLoad_run (G.get 1 rfl)
  have l_n := natLoad_run (G.get 3 rfl)
  go_wp2_with fail
  refine (HP1.out _).mono ?_
  rintro e u7 ⟨rfl, hb⟩
  replace G := G.blk hb
  replace B := bthen B hb
  replace K := K.blk hb
  clear hb
  clear l_b l_x l_n
  go_upto_region 11 with fail
  replace G := G.new1 (s)
  replace B := below_new1 (s) B
  replace K := K.blk (w' := u7.alloc (.cells (natL (s)).toArray 43)) ((Below.refl _ _).alloc (Nat.le_refl _) _)
  generalize u7.alloc (.cells (natL (s)).toArray 43) = v7 at G B K ⊢
  generalize u7.heap.size = b_s at G ⊢
  have l_s := natLoad_run (G.get 0 rfl)
  go_wp2_with fail
  refine (HW.out _).mono ?_
  rintro e u8 ⟨rfl, hb⟩
  replace G := G.blk hb
  replace B := bthen B hb
  replace K := K.blk hb
  clear hb
  clear l_s
  have l_s := natLoad_run (G.get 0 rfl)
  have l_e := natLoad_run (G.get 3 rfl)
  have l_n := natLoad_run (G.get 4 rfl)
  go_wp2_with fail
  refine (HP2.out _).mono ?_
  rintro e u9 ⟨rfl, hb⟩
  replace G := G.blk hb
  replace B := bthen B hb
  replace K := K.blk hb
  clear hb
  clear l_s l_e l_n
  go_upto_region 13 with fail
  replace G := G.new1 (t)
  replace B := below_new1 (t) B
  replace K := K.blk (w' := u9.alloc (.cells (natL (t)).toArray 43)) ((Below.refl _ _).alloc (Nat.le_refl _) _)
  generalize u9.alloc (.cells (natL (t)).toArray 43) = v9 at G B K ⊢
  generalize u9.heap.size = b_t at G ⊢
  have l_t := natLoad_run (G.get 0 rfl)
  have l_b := natLoad_run (G.get 2 rfl)
  go_wp2_with fail
  refine (HC1.out _).mono ?_
  rintro e u10 ⟨rfl, hb⟩
  replace G := G.blk hb
  replace B := bthen B hb
  replace K := K.blk hb
  clear hb
  clear l_t l_b
  rcases hq1 with ⟨h1, h2, rfl⟩ | ⟨h1, rfl⟩
  · have l_b := natLoad_run (G.get 2 rfl)
    have l_n := natLoad_run (G.get 5 rfl)
    go_wp2_with fail
    refine (HC2.out _).mono ?_
    rintro e u11 ⟨rfl, hb⟩
    replace G := G.blk hb
    replace B := bthen B hb
    replace K := K.blk hb
    clear hb
    clear l_b l_n
    go_wp2_with fail
    refine (HV1.out _ (G0.out.below B)).mono ?_
    rintro e u12 ⟨rfl, hb⟩
    replace G := G.blk hb
    replace B := bthen B hb
    replace K := K.blk hb
    clear hb
    have hcz := Lib.run_convert_string_bytes (P := Tryz.prog) u12 9 55 5 S Tryz.underlying9 Tryz.underlying55 Tryz.underlying5
    have V0 := KB.bytesAt_conv u12 S
    have hA := KB.bytesWorld_below u12 S
    have hlt : u12.heap.size < (Lib.bytesWorld u12 5 S).heap.size := Array.getElem?_eq_some_iff.1 (Lib.bytesWorld_at_new u12 5 S) |>.1
    generalize hV : Lib.bytesWorld u12 5 S = V at V0 hA hcz hlt
    clear hV
    have hIl : I < S.data.toList.length := by rw [size_list, HSS.out]; exact HII.out
    obtain ⟨c0, f0⟩ := V0 I hIl
    have hxb := hxr.out (S.data.toList[I]) (by rw [List.getElem?_eq_getElem hIl]; rfl)
    generalize S.data.toList[I] = z at c0 hxb
    have VS := V0.set I c'
    have hA2 := hA.setCell (p := ⟨u12.heap.size, I, none⟩) (Nat.le_refl _) (.int .u8 (c'.toNat : Int))
    have Y : Bat (V.setCell ⟨u12.heap.size, I, none⟩ (.int .u8 (c'.toNat : Int))) u12.heap.size (S.data.toList.set I c') := ⟨VS, by simpa using hlt, by rw [List.length_set]; omega⟩
    have hsl : (S.data.toList.set I c').length = 64 := by rw [List.length_set, size_list, HSS.out]
    have HSL := Hid.mk hsl
    have hbk := KB.bytesAt_back (cap := grownCap u12 64 0 5) VS hsl
    rw [← hT.out] at hbk
    have iS : (I : Int) < (S.size : Int) := by rw [HSS.out]; exact iI
    obtain ⟨gg, hgg⟩ : ∃ gg, u12.heap.size = gg := ⟨_, rfl⟩
    clear hA hlt V0 VS hIl hsl hgg
    go_wp2_with fail
    refine (HO3.out _).mono ?_
    rintro e' u13 ⟨rfl, hb⟩
    replace G := (G.blk hA2).blk hb
    replace K := (K.blk hA2).blk hb
    replace B := bthen (bthen B hA2) hb
    replace Y := Y.blk hb
    clear hb hA2 hbk hcz c0 f0 hxb iS
    go_upto_region 24 with fail
    replace G := G.new1 (y)
    replace B := below_new1 (y) B
    replace K := K.blk (w' := u13.alloc (.cells (natL (y)).toArray 43)) ((Below.refl _ _).alloc (Nat.le_refl _) _)
    replace Y := Y.blk (w' := u13.alloc (.cells (natL (y)).toArray 43)) ((Below.refl _ _).alloc (Nat.le_refl _) _)
    generalize u13.alloc (.cells (natL (y)).toArray 43) = v13 at G B K Y ⊢
    generalize u13.heap.size = b_y at G ⊢
    have l_y := natLoad_run (G.get 0 rfl)
    have l_e := natLoad_run (G.get 5 rfl)
    have l_n := natLoad_run (G.get 6 rfl)
    go_wp2_with fail
    refine (HP3.out _).mono ?_
    rintro e u14 ⟨rfl, hb⟩
    replace G := G.blk hb
    replace B := bthen B hb
    replace K := K.blk hb
    replace Y := Y.blk hb
    clear hb
    clear l_y l_e l_n
    go_upto_region 25 with fail
    replace G := G.new1 (p)
    replace B := below_new1 (p) B
    replace K := K.blk (w' := u14.alloc (.cells (natL (p)).toArray 43)) ((Below.refl _ _).alloc (Nat.le_refl _) _)
    replace Y := Y.blk (w' := u14.alloc (.cells (natL (p)).toArray 43)) ((Below.refl _ _).alloc (Nat.le_refl _) _)
    generalize u14.alloc (.cells (natL (p)).toArray 43) = v14 at G B K Y ⊢
    generalize u14.heap.size = b_p at G ⊢
    have l_p := natLoad_run (G.get 0 rfl)
    have l_b := natLoad_run (G.get 4 rfl)
    go_wp2_with fail
    refine (HC3.out _).mono ?_
    rintro e u15 ⟨rfl, hb⟩
    replace G := G.blk hb
    replace B := bthen B hb
    replace K := K.blk hb
    replace Y := Y.blk hb
    clear hb
    clear l_p l_b
    rcases hq3 with ⟨h3, h4, h5, rfl⟩ | ⟨h3, h4, rfl⟩ | ⟨h3, rfl⟩
    · have l_y := natLoad_run (G.get 1 rfl)
      have l_n := natLoad_run (G.get 7 rfl)
      go_wp2_with fail
      refine (HC4.out _).mono ?_
      rintro e u16 ⟨rfl, hb⟩
      replace G := G.blk hb
      replace B := bthen B hb
      replace K := K.blk hb
      replace Y := Y.blk hb
      clear hb
      clear l_y l_n
      have l_b := natLoad_run (G.get 4 rfl)
      have l_n := natLoad_run (G.get 7 rfl)
      go_wp2_with fail
      refine (HC2.out _).mono ?_
      rintro e u17 ⟨rfl, hb⟩
      replace G := G.blk hb
      replace B := bthen B hb
      replace K := K.blk hb
      replace Y := Y.blk hb
      clear hb
      clear l_b l_n
      have hbk := KB.bytesAt_back (cap := grownCap u12 64 0 5) Y.at' HSL.out
      rw [← hT.out] at hbk
      go_wp2_with fail
      refine (HV2.out _ (G0.out.below B)).mono ?_
      rintro e u18 ⟨rfl, hb⟩
      replace G := G.blk hb
      replace B := bthen B hb
      replace K := K.blk hb
      replace Y := Y.blk hb
      clear hb
      clear hbk
      go_wp2_with fail
      refine (HV3.out _ (G0.out.below B)).mono ?_
      rintro e u19 ⟨rfl, hb⟩
      replace G := G.blk hb
      replace B := bthen B hb
      replace K := K.blk hb
      replace Y := Y.blk hb
      clear hb
      go_wp2
      go_ret
      exact ⟨rfl, B⟩
    · have l_y := natLoad_run (G.get 1 rfl)
      have l_n := natLoad_run (G.get 7 rfl)
      go_wp2_with fail
      refine (HC4.out _).mono ?_
      rintro e u16 ⟨rfl, hb⟩
      replace G := G.blk hb
      replace B := bthen B hb
      replace K := K.blk hb
      replace Y := Y.blk hb
      clear hb
      clear l_y l_n
      have hbk := KB.bytesAt_back (cap := grownCap u12 64 0 5) Y.at' HSL.out
      rw [← hT.out] at hbk
      go_wp2_with fail
      refine (HV2.out _ (G0.out.below B)).mono ?_
      rintro e u17 ⟨rfl, hb⟩
      replace G := G.blk hb
      replace B := bthen B hb
      replace K := K.blk hb
      replace Y := Y.blk hb
      clear hb
      clear hbk
      go_wp2_with fail
      refine (HV3.out _ (G0.out.below B)).mono ?_
      rintro e u18 ⟨rfl, hb⟩
      replace G := G.blk hb
      replace B := bthen B hb
      replace K := K.blk hb
      replace Y := Y.blk hb
      clear hb
      go_wp2
      go_ret
      exact ⟨rfl, B⟩
    · have hbk := KB.bytesAt_back (cap := grownCap u12 64 0 5) Y.at' HSL.out
      rw [← hT.out] at hbk
      go_wp2_with fail
      refine (HV2.out _ (G0.out.below B)).mono ?_
      rintro e u16 ⟨rfl, hb⟩
      replace G := G.blk hb
      replace B := bthen B hb
      replace K := K.blk hb
      replace Y := Y.blk hb
      clear hb
      clear hbk
      go_wp2_with fail
      refine (HV3.out _ (G0.out.below B)).mono ?_
      rintro e u17 ⟨rfl, hb⟩
      replace G := G.blk hb
      replace B := bthen B hb
      replace K := K.blk hb
      replace Y := Y.blk hb
      clear hb
      go_wp2
      go_ret
      exact ⟨rfl, B⟩
  · go_wp2_with fail
    refine (HV1.out _ (G0.out.below B)).mono ?_
    rintro e u11 ⟨rfl, hb⟩
    replace G := G.blk hb
    replace B := bthen B hb
    replace K := K.blk hb
    clear hb
    have hcz := Lib.run_convert_string_bytes (P := Tryz.prog) u11 9 55 5 S Tryz.underlying9 Tryz.underlying55 Tryz.underlying5
    have V0 := KB.bytesAt_conv u11 S
    have hA := KB.bytesWorld_below u11 S
    have hlt : u11.heap.size < (Lib.bytesWorld u11 5 S).heap.size := Array.getElem?_eq_some_iff.1 (Lib.bytesWorld_at_new u11 5 S) |>.1
    generalize hV : Lib.bytesWorld u11 5 S = V at V0 hA hcz hlt
    clear hV
    have hIl : I < S.data.toList.length := by rw [size_list, HSS.out]; exact HII.out
    obtain ⟨c0, f0⟩ := V0 I hIl
    have hxb := hxr.out (S.data.toList[I]) (by rw [List.getElem?_eq_getElem hIl]; rfl)
    generalize S.data.toList[I] = z at c0 hxb
    have VS := V0.set I c'
    have hA2 := hA.setCell (p := ⟨u11.heap.size, I, none⟩) (Nat.le_refl _) (.int .u8 (c'.toNat : Int))
    have Y : Bat (V.setCell ⟨u11.heap.size, I, none⟩ (.int .u8 (c'.toNat : Int))) u11.heap.size (S.data.toList.set I c') := ⟨VS, by simpa using hlt, by rw [List.length_set]; omega⟩
    have hsl : (S.data.toList.set I c').length = 64 := by rw [List.length_set, size_list, HSS.out]
    have HSL := Hid.mk hsl
    have hbk := KB.bytesAt_back (cap := grownCap u11 64 0 5) VS hsl
    rw [← hT.out] at hbk
    have iS : (I : Int) < (S.size : Int) := by rw [HSS.out]; exact iI
    obtain ⟨gg, hgg⟩ : ∃ gg, u11.heap.size = gg := ⟨_, rfl⟩
    clear hA hlt V0 VS hIl hsl hgg
    go_wp2_with fail
    refine (HO3.out _).mono ?_
    rintro e' u12 ⟨rfl, hb⟩
    replace G := (G.blk hA2).blk hb
    replace K := (K.blk hA2).blk hb
    replace B := bthen (bthen B hA2) hb
    replace Y := Y.blk hb
    clear hb hA2 hbk hcz c0 f0 hxb iS
    go_upto_region 24 with fail
    replace G := G.new1 (y)
    replace B := below_new1 (y) B
    replace K := K.blk (w' := u12.alloc (.cells (natL (y)).toArray 43)) ((Below.refl _ _).alloc (Nat.le_refl _) _)
    replace Y := Y.blk (w' := u12.alloc (.cells (natL (y)).toArray 43)) ((Below.refl _ _).alloc (Nat.le_refl _) _)
    generalize u12.alloc (.cells (natL (y)).toArray 43) = v12 at G B K Y ⊢
    generalize u12.heap.size = b_y at G ⊢
    have l_y := natLoad_run (G.get 0 rfl)
    have l_e := natLoad_run (G.get 5 rfl)
    have l_n := natLoad_run (G.get 6 rfl)
    go_wp2_with fail
    refine (HP3.out _).mono ?_
    rintro e u13 ⟨rfl, hb⟩
    replace G := G.blk hb
    replace B := bthen B hb
    replace K := K.blk hb
    replace Y := Y.blk hb
    clear hb
    clear l_y l_e l_n
    go_upto_region 25 with fail
    replace G := G.new1 (p)
    replace B := below_new1 (p) B
    replace K := K.blk (w' := u13.alloc (.cells (natL (p)).toArray 43)) ((Below.refl _ _).alloc (Nat.le_refl _) _)
    replace Y := Y.blk (w' := u13.alloc (.cells (natL (p)).toArray 43)) ((Below.refl _ _).alloc (Nat.le_refl _) _)
    generalize u13.alloc (.cells (natL (p)).toArray 43) = v13 at G B K Y ⊢
    generalize u13.heap.size = b_p at G ⊢
    have l_p := natLoad_run (G.get 0 rfl)
    have l_b := natLoad_run (G.get 4 rfl)
    go_wp2_with fail
    refine (HC3.out _).mono ?_
    rintro e u14 ⟨rfl, hb⟩
    replace G := G.blk hb
    replace B := bthen B hb
    replace K := K.blk hb
    replace Y := Y.blk hb
    clear hb
    clear l_p l_b
    rcases hq3 with ⟨h3, h4, h5, rfl⟩ | ⟨h3, h4, rfl⟩ | ⟨h3, rfl⟩
    · have l_y := natLoad_run (G.get 1 rfl)
      have l_n := natLoad_run (G.get 7 rfl)
      go_wp2_with fail
      refine (HC4.out _).mono ?_
      rintro e u15 ⟨rfl, hb⟩
      replace G := G.blk hb
      replace B := bthen B hb
      replace K := K.blk hb
      replace Y := Y.blk hb
      clear hb
      clear l_y l_n
      have l_b := natLoad_run (G.get 4 rfl)
      have l_n := natLoad_run (G.get 7 rfl)
      go_wp2_with fail
      refine (HC2.out _).mono ?_
      rintro e u16 ⟨rfl, hb⟩
      replace G := G.blk hb
      replace B := bthen B hb
      replace K := K.blk hb
      replace Y := Y.blk hb
      clear hb
      clear l_b l_n
      have hbk := KB.bytesAt_back (cap := grownCap u11 64 0 5) Y.at' HSL.out
      rw [← hT.out] at hbk
      go_wp2_with fail
      refine (HV2.out _ (G0.out.below B)).mono ?_
      rintro e u17 ⟨rfl, hb⟩
      replace G := G.blk hb
      replace B := bthen B hb
      replace K := K.blk hb
      replace Y := Y.blk hb
      clear hb
      clear hbk
      go_wp2_with fail
      refine (HV3.out _ (G0.out.below B)).mono ?_
      rintro e u18 ⟨rfl, hb⟩
      replace G := G.blk hb
      replace B := bthen B hb
      replace K := K.blk hb
      replace Y := Y.blk hb
      clear hb
      go_wp2
      go_ret
      exact ⟨rfl, B⟩
    · have l_y := natLoad_run (G.get 1 rfl)
      have l_n := natLoad_run (G.get 7 rfl)
      go_wp2_with fail
      refine (HC4.out _).mono ?_
      rintro e u15 ⟨rfl, hb⟩
      replace G := G.blk hb
      replace B := bthen B hb
      replace K := K.blk hb
      replace Y := Y.blk hb
      clear hb
      clear l_y l_n
      have hbk := KB.bytesAt_back (cap := grownCap u11 64 0 5) Y.at' HSL.out
      rw [← hT.out] at hbk
      go_wp2_with fail
      refine (HV2.out _ (G0.out.below B)).mono ?_
      rintro e u16 ⟨rfl, hb⟩
      replace G := G.blk hb
      replace B := bthen B hb
      replace K := K.blk hb
      replace Y := Y.blk hb
      clear hb
      clear hbk
      go_wp2_with fail
      refine (HV3.out _ (G0.out.below B)).mono ?_
      rintro e u17 ⟨rfl, hb⟩
      replace G := G.blk hb
      replace B := bthen B hb
      replace K := K.blk hb
      replace Y := Y.blk hb
      clear hb
      go_wp2
      go_ret
      exact ⟨rfl, B⟩
    · have hbk := KB.bytesAt_back (cap := grownCap u11 64 0 5) Y.at' HSL.out
      rw [← hT.out] at hbk
      go_wp2_with fail
      refine (HV2.out _ (G0.out.below B)).mono ?_
      rintro e u15 ⟨rfl, hb⟩
      replace G := G.blk hb
      replace B := bthen B hb
      replace K := K.blk hb
      replace Y := Y.blk hb
      clear hb
      clear hbk
      go_wp2_with fail
      refine (HV3.out _ (G0.out.below B)).mono ?_
      rintro e u16 ⟨rfl, hb⟩
      replace G := G.blk hb
      replace B := bthen B hb
      replace K := K.blk hb
      replace Y := Y.blk hb
      clear hb
      go_wp2
      go_ret
      exact ⟨rfl, B⟩
set_option maxRecDepth 100000 in
set_option maxHeartbeats 4000000 in
theorem signs_nn (E M D d P X S Q Tn : ByteArray) (ax ay : Int) (e n x b s t y p : Nat) (q1 q2 q3 q4 : Int) (r gd : Bool) (I : Nat) (c' : UInt8) (hE1 : 1 ≤ E.size) (hE8 : E.size ≤ 8) (hM : M.size = 64) (hD : D.size ≤ 64) (hd : d.size ≤ 2000) (hS : S.size = 64) (hI : I < 64)
    (hP : (⟨#[UInt8.ofNat E.size]⟩ : ByteArray) ++ E ++ M = P) (hX : (⟨#[0]⟩ : ByteArray) ++ d = X) (hT : Hid (Tn = ⟨(S.data.toList.set I c').toArray⟩))
    (HR : Hid (∀ W, Calls Tryz.prog 18 #[.string P] W fun e' w' => e' = .returned (.tuple #[.agg (natL e).toArray, .agg (natL n).toArray, .int .i64 0]) ∧ Below W.heap.size W w'))
    (HD : Hid (∀ W, Calls Tryz.prog 24 #[.int .i64 48, .string d] W fun e w' => e = .returned (.bool true) ∧ Below W.heap.size W w'))
    (HO1 : Hid (∀ W, Calls Tryz.prog 25 #[.string D] W fun e w' => e = .returned (.tuple #[.agg (natL x).toArray, .int .i64 0]) ∧ Below W.heap.size W w'))
    (Hb : Hid (∀ W, G.Rk W → Calls Tryz.prog 26 #[.string d] W fun e w' => e = .returned (.string Q) ∧ Below W.heap.size W w'))
    (HO2 : Hid (∀ W, Calls Tryz.prog 25 #[.string Q] W fun e w' => e = .returned (.tuple #[.agg (natL b).toArray, .int .i64 0]) ∧ Below W.heap.size W w'))
    (HP1 : Hid (∀ W, Calls Tryz.prog 27 #[.agg (natL b).toArray, .agg (natL x).toArray, .agg (natL n).toArray] W fun e w' => e = .returned (.tuple #[.agg (natL s).toArray, .int .i64 0]) ∧ Below W.heap.size W w'))
    (HW : Hid (∀ W, Calls Tryz.prog 28 #[.agg (natL s).toArray, .int .i64 64] W fun e w' => e = .returned (.tuple #[.string S, .int .i64 0]) ∧ Below W.heap.size W w'))
    (HP2 : Hid (∀ W, Calls Tryz.prog 27 #[.agg (natL s).toArray, .agg (natL e).toArray, .agg (natL n).toArray] W fun e w' => e = .returned (.tuple #[.agg (natL t).toArray, .int .i64 0]) ∧ Below W.heap.size W w'))
    (HC1 : Hid (∀ W, Calls Tryz.prog 29 #[.agg (natL t).toArray, .agg (natL b).toArray] W fun e w' => e = .returned (.int .i64 q1) ∧ Below W.heap.size W w'))
    (HC2 : Hid (∀ W, Calls Tryz.prog 29 #[.agg (natL b).toArray, .agg (natL n).toArray] W fun e w' => e = .returned (.int .i64 q2) ∧ Below W.heap.size W w'))
    (HV1 : Hid (∀ W, G.Rk W → Calls Tryz.prog 23 #[.string P, .string X, .string S] W fun e w' => e = .returned (.bool r) ∧ Below W.heap.size W w'))
    (HO3 : Hid (∀ W, Calls Tryz.prog 25 #[.string Tn] W fun e w' => e = .returned (.tuple #[.agg (natL y).toArray, .int .i64 0]) ∧ Below W.heap.size W w'))
    (HP3 : Hid (∀ W, Calls Tryz.prog 27 #[.agg (natL y).toArray, .agg (natL e).toArray, .agg (natL n).toArray] W fun e w' => e = .returned (.tuple #[.agg (natL p).toArray, .int .i64 0]) ∧ Below W.heap.size W w'))
    (HC3 : Hid (∀ W, Calls Tryz.prog 29 #[.agg (natL p).toArray, .agg (natL b).toArray] W fun e w' => e = .returned (.int .i64 q3) ∧ Below W.heap.size W w'))
    (HC4 : Hid (∀ W, Calls Tryz.prog 29 #[.agg (natL y).toArray, .agg (natL n).toArray] W fun e w' => e = .returned (.int .i64 q4) ∧ Below W.heap.size W w'))
    (HV2 : Hid (∀ W, G.Rk W → Calls Tryz.prog 23 #[.string P, .string X, .string Tn] W fun e w' => e = .returned (.bool gd) ∧ Below W.heap.size W w'))
    (HV3 : Hid (∀ W, G.Rk W → Calls Tryz.prog 23 #[.string P, .string X, .string (S.extract 1 64)] W fun e w' => e = .returned (.bool false) ∧ Below W.heap.size W w'))
    (hq1 : ((q1 == 0) = true ∧ q2 < 0 ∧ r = true) ∨ ((q1 == 0) = false ∧ r = false))
    (hq3 : ((q3 == 0) = true ∧ q4 < 0 ∧ q2 < 0 ∧ gd = true) ∨ ((q3 == 0) = true ∧ ¬ q4 < 0 ∧ gd = false) ∨ ((q3 == 0) = false ∧ gd = false))
    (nat : ax < 0) (wa1 : IntKind.i64.wrap (ax + 1) = ax + 1) (wa2 : IntKind.i64.wrap (-(ax + 1)) = -(ax + 1)) (mat : (-(ax + 1)).tmod 64 = (I : Nat)) (mby : (ay.tmod 256 == 0) = false) (hxr : Hid (∀ z : UInt8, S.data.toList[I]?.getD 0 = z → bits BinOp.xor IntKind.u8 (z.toNat : Int) (ay % 256) = (c'.toNat : Int)))
    (W : World) (hG : G.Rk W) :
    Calls Tryz.prog 6 #[.agg #[.string E, .string M, .string D], .string d, .int .i64 ax, .int .i64 ay] W fun e w' => e = .returned (.bool true) ∧ Below W.heap.size W w' := by
  have hz := zero26
  have HX := Hid.mk kexamples_in
  have G0 := Hid.mk hG
  have K : Bx (W.alloc (.cells #[.string E, .string M, .string D] 54)) W.heap.size E M D := heap_new _ _
  have B : Below W.heap.size W (W.alloc (.cells #[.string E, .string M, .string D] 54)) := (Below.refl _ _).alloc (Nat.le_refl _) _
  clear hG
  have G : Has (W.alloc (.cells #[.string E, .string M, .string D] 54)) [] := trivial
  have s1 : ¬ ((E.size : Int) < 1) := by omega
  have s2 : ¬ ((8 : Int) < (E.size : Int)) := by omega
  have s3 : ((M.size : Int) != 64) = false := by rw [hM]; rfl
  have s4 : ¬ ((64 : Int) < (D.size : Int)) := by omega
  have wE : IntKind.u8.wrap (E.size : Int) = (E.size : Int) := by rw [IntKind.wrap_u8]; omega
  have z1 : ¬ (9223372036854775807 < 1 + E.size) := by omega
  have z2 : ¬ (9223372036854775807 < 1 + E.size + M.size) := by omega
  have z3 : ¬ (9223372036854775807 < 1 + d.size) := by omega
  have g1 : (1 : Int) ≤ (S.size : Int) := by omega
  have HSS := Hid.mk hS
  have HII := Hid.mk hI
  have iI : (I : Int) < 64 := by omega
  have wI : IntKind.i64.wrap (I : Int) = (I : Int) := by rw [IntKind.wrap_i64]; omega
  have HE8 := Hid.mk hE8
  clear hE1 hE8 hM hD hd hI
  go_enter Tryz.func6, Tryz.ntmps6
  go_wp2_with fail
  refine (HX.out _ (G0.out.below B)).mono ?_
  rintro e u1 ⟨rfl, hb⟩
  replace G := G.blk hb
  replace B := bthen B hb
  replace K := K.blk hb
  clear hb
  obtain ⟨k0, k1, k2⟩ := K.c
  have hkl := box_lt K
  have hkn : W.heap.size ≠ u1.heap.size := by omega
  have hA := (Below.refl u1.heap.size u1).alloc (Nat.le_refl _) (.cells #[.int .u8 (E.size : Int)] 5)
  have hcv : (convert 55 9 (.slice (some ⟨u1.heap.size, 0, none⟩) 1 1)).run Tryz.prog (u1.alloc (.cells #[.int .u8 (E.size : Int)] 5)) = .ok (.string ⟨#[UInt8.ofNat E.size]⟩) (u1.alloc (.cells #[.int .u8 (E.size : Int)] 5)) := by
    have := run_convert_bytes_back (P := Tryz.prog) (u1.alloc (.cells #[.int .u8 (E.size : Int)] 5)) 55 9 5 ⟨u1.heap.size, 0, none⟩ 1 [UInt8.ofNat E.size] Tryz.underlying55 Tryz.underlying5 Tryz.underlying9 (fun j hj => by
      have e0 : j = 0 := by simpa using hj
      subst e0
      have hc0 := (_root_.Go.Proofs.YtlcjagkfeakinaaGreatDoor.G.cells_at (v := .int .u8 (E.size : Int)) (j := 0) (heap_new u1 (.cells #[.int .u8 (E.size : Int)] 5)) rfl).1
      rw [add_at]
      refine hc0.trans ?_
      have := HE8.out
      simp [Nat.mod_eq_of_lt (show E.size < 256 by omega)])
    simpa using this
  go_wp2_with fail
  refine (HR.out _).mono ?_
  rintro e' u2 ⟨rfl, hb⟩
  replace G := (G.blk hA).blk hb
  replace K := (K.blk hA).blk hb
  replace B := bthen (bthen B hA) hb
  clear hb hA hcv k0 k1 k2 hkl hkn hP wE z1 z2
  go_upto_region 6 with fail
  replace G := G.new2 (e) (n)
  replace B := below_new2 (e) (n) B
  replace K := K.blk (two_new u2 (natL (e)) (natL (n)) 43 43).2.2.1
  generalize (u2.alloc (.cells (natL (e)).toArray 43)).alloc (.cells (natL (n)).toArray 43) = v2 at G B K ⊢
  generalize u2.heap.size = b_e at G ⊢
  obtain ⟨b_n, h_n⟩ : ∃ x, b_e + 1 = x := ⟨_, rfl⟩
  rw [h_n] at G ⊢
  clear h_n
  go_wp2_with fail
  refine (HD.out _).mono ?_
  rintro e u3 ⟨rfl, hb⟩
  replace G := G.blk hb
  replace B := bthen B hb
  replace K := K.blk hb
  clear hb
  obtain ⟨k0, k1, k2⟩ := K.c
  go_wp2_with fail
  refine (HO1.out _).mono ?_
  rintro e u4 ⟨rfl, hb⟩
  replace G := G.blk hb
  replace B := bthen B hb
  replace K := K.blk hb
  clear hb
  clear k0 k1 k2
  go_upto_region 9 with fail
  replace G := G.new1 (x)
  replace B := below_new1 (x) B
  replace K := K.blk (w' := u4.alloc (.cells (natL (x)).toArray 43)) ((Below.refl _ _).alloc (Nat.le_refl _) _)
  generalize u4.alloc (.cells (natL (x)).toArray 43) = v4 at G B K ⊢
  generalize u4.heap.size = b_x at G ⊢
  go_wp2_with fail
  refine (Hb.out _ (G0.out.below B)).mono ?_
  rintro e u5 ⟨rfl, hb⟩
  replace G := G.blk hb
  replace B := bthen B hb
  replace K := K.blk hb
  clear hb
  go_wp2_with fail
  refine (HO2.out _).mono ?_
  rintro e u6 ⟨rfl, hb⟩
  replace G := G.blk hb
  replace B := bthen B hb
  replace K := K.blk hb
  clear hb
  go_upto_region 10 with fail
  replace G := G.new1 (b)
  replace B := below_new1 (b) B
  replace K := K.blk (w' := u6.alloc (.cells (natL (b)).toArray 43)) ((Below.refl _ _).alloc (Nat.le_refl _) _)
  generalize u6.alloc (.cells (natL (b)).toArray 43) = v6 at G B K ⊢
  generalize u6.heap.size = b_b at G ⊢
  have l_b := natLoad_run (G.get 0 rfl)
  have l_x := natLoad_run (G.get 1 rfl)
  have l_n := natLoad_run (G.get 3 rfl)
  go_wp2_with fail
  refine (HP1.out _).mono ?_
  rintro e u7 ⟨rfl, hb⟩
  replace G := G.blk hb
  replace B := bthen B hb
  replace K := K.blk hb
  clear hb
  clear l_b l_x l_n
  go_upto_region 11 with fail
  replace G := G.new1 (s)
  replace B := below_new1 (s) B
  replace K := K.blk (w' := u7.alloc (.cells (natL (s)).toArray 43)) ((Below.refl _ _).alloc (Nat.le_refl _) _)
  generalize u7.alloc (.cells (natL (s)).toArray 43) = v7 at G B K ⊢
  generalize u7.heap.size = b_s at G ⊢
  have l_s := natLoad_run (G.get 0 rfl)
  go_wp2_with fail
  refine (HW.out _).mono ?_
  rintro e u8 ⟨rfl, hb⟩
  replace G := G.blk hb
  replace B := bthen B hb
  replace K := K.blk hb
  clear hb
  clear l_s
  have l_s := natLoad_run (G.get 0 rfl)
  have l_e := natLoad_run (G.get 3 rfl)
  have l_n := natLoad_run (G.get 4 rfl)
  go_wp2_with fail
  refine (HP2.out _).mono ?_
  rintro e u9 ⟨rfl, hb⟩
  replace G := G.blk hb
  replace B := bthen B hb
  replace K := K.blk hb
  clear hb
  clear l_s l_e l_n
  go_upto_region 13 with fail
  replace G := G.new1 (t)
  replace B := below_new1 (t) B
  replace K := K.blk (w' := u9.alloc (.cells (natL (t)).toArray 43)) ((Below.refl _ _).alloc (Nat.le_refl _) _)
  generalize u9.alloc (.cells (natL (t)).toArray 43) = v9 at G B K ⊢
  generalize u9.heap.size = b_t at G ⊢
  have l_t := natLoad_run (G.get 0 rfl)
  have l_b := natLoad_run (G.get 2 rfl)
  go_wp2_with fail
  refine (HC1.out _).mono ?_
  rintro e u10 ⟨rfl, hb⟩
  replace G := G.blk hb
  replace B := bthen B hb
  replace K := K.blk hb
  clear hb
  clear l_t l_b
  rcases hq1 with ⟨h1, h2, rfl⟩ | ⟨h1, rfl⟩
  · have l_b := natLoad_run (G.get 2 rfl)
    have l_n := natLoad_run (G.get 5 rfl)
    go_wp2_with fail
    refine (HC2.out _).mono ?_
    rintro e u11 ⟨rfl, hb⟩
    replace G := G.blk hb
    replace B := bthen B hb
    replace K := K.blk hb
    clear hb
    clear l_b l_n
    go_wp2_with fail
    refine (HV1.out _ (G0.out.below B)).mono ?_
    rintro e u12 ⟨rfl, hb⟩
    replace G := G.blk hb
    replace B := bthen B hb
    replace K := K.blk hb
    clear hb
    have hcz := Lib.run_convert_string_bytes (P := Tryz.prog) u12 9 55 5 S Tryz.underlying9 Tryz.underlying55 Tryz.underlying5
    have V0 := KB.bytesAt_conv u12 S
    have hA := KB.bytesWorld_below u12 S
    have hlt : u12.heap.size < (Lib.bytesWorld u12 5 S).heap.size := Array.getElem?_eq_some_iff.1 (Lib.bytesWorld_at_new u12 5 S) |>.1
    generalize hV : Lib.bytesWorld u12 5 S = V at V0 hA hcz hlt
    clear hV
    have hIl : I < S.data.toList.length := by rw [size_list, HSS.out]; exact HII.out
    obtain ⟨c0, f0⟩ := V0 I hIl
    have hxb := hxr.out (S.data.toList[I]) (by rw [List.getElem?_eq_getElem hIl]; rfl)
    generalize S.data.toList[I] = z at c0 hxb
    have VS := V0.set I c'
    have hA2 := hA.setCell (p := ⟨u12.heap.size, I, none⟩) (Nat.le_refl _) (.int .u8 (c'.toNat : Int))
    have Y : Bat (V.setCell ⟨u12.heap.size, I, none⟩ (.int .u8 (c'.toNat : Int))) u12.heap.size (S.data.toList.set I c') := ⟨VS, by simpa using hlt, by rw [List.length_set]; omega⟩
    have hsl : (S.data.toList.set I c').length = 64 := by rw [List.length_set, size_list, HSS.out]
    have HSL := Hid.mk hsl
    have hbk := KB.bytesAt_back (cap := grownCap u12 64 0 5) VS hsl
    rw [← hT.out] at hbk
    have iS : (I : Int) < (S.size : Int) := by rw [HSS.out]; exact iI
    obtain ⟨gg, hgg⟩ : ∃ gg, u12.heap.size = gg := ⟨_, rfl⟩
    clear hA hlt V0 VS hIl hsl hgg
    go_wp2_with fail
    refine (HO3.out _).mono ?_
    rintro e' u13 ⟨rfl, hb⟩
    replace G := (G.blk hA2).blk hb
    replace K := (K.blk hA2).blk hb
    replace B := bthen (bthen B hA2) hb
    replace Y := Y.blk hb
    clear hb hA2 hbk hcz c0 f0 hxb iS
    go_upto_region 24 with fail
    replace G := G.new1 (y)
    replace B := below_new1 (y) B
    replace K := K.blk (w' := u13.alloc (.cells (natL (y)).toArray 43)) ((Below.refl _ _).alloc (Nat.le_refl _) _)
    replace Y := Y.blk (w' := u13.alloc (.cells (natL (y)).toArray 43)) ((Below.refl _ _).alloc (Nat.le_refl _) _)
    generalize u13.alloc (.cells (natL (y)).toArray 43) = v13 at G B K Y ⊢
    generalize u13.heap.size = b_y at G ⊢
    have l_y := natLoad_run (G.get 0 rfl)
    have l_e := natLoad_run (G.get 5 rfl)
    have l_n := natLoad_run (G.get 6 rfl)
    go_wp2_with fail
    refine (HP3.out _).mono ?_
    rintro e u14 ⟨rfl, hb⟩
    replace G := G.blk hb
    replace B := bthen B hb
    replace K := K.blk hb
    replace Y := Y.blk hb
    clear hb
    clear l_y l_e l_n
    go_upto_region 25 with fail
    replace G := G.new1 (p)
    replace B := below_new1 (p) B
    replace K := K.blk (w' := u14.alloc (.cells (natL (p)).toArray 43)) ((Below.refl _ _).alloc (Nat.le_refl _) _)
    replace Y := Y.blk (w' := u14.alloc (.cells (natL (p)).toArray 43)) ((Below.refl _ _).alloc (Nat.le_refl _) _)
    generalize u14.alloc (.cells (natL (p)).toArray 43) = v14 at G B K Y ⊢
    generalize u14.heap.size = b_p at G ⊢
    have l_p := natLoad_run (G.get 0 rfl)
    have l_b := natLoad_run (G.get 4 rfl)
    go_wp2_with fail
    refine (HC3.out _).mono ?_
    rintro e u15 ⟨rfl, hb⟩
    replace G := G.blk hb
    replace B := bthen B hb
    replace K := K.blk hb
    replace Y := Y.blk hb
    clear hb
    clear l_p l_b
    rcases hq3 with ⟨h3, h4, h5, rfl⟩ | ⟨h3, h4, rfl⟩ | ⟨h3, rfl⟩
    · have l_y := natLoad_run (G.get 1 rfl)
      have l_n := natLoad_run (G.get 7 rfl)
      go_wp2_with fail
      refine (HC4.out _).mono ?_
      rintro e u16 ⟨rfl, hb⟩
      replace G := G.blk hb
      replace B := bthen B hb
      replace K := K.blk hb
      replace Y := Y.blk hb
      clear hb
      clear l_y l_n
      have l_b := natLoad_run (G.get 4 rfl)
      have l_n := natLoad_run (G.get 7 rfl)
      go_wp2_with fail
      refine (HC2.out _).mono ?_
      rintro e u17 ⟨rfl, hb⟩
      replace G := G.blk hb
      replace B := bthen B hb
      replace K := K.blk hb
      replace Y := Y.blk hb
      clear hb
      clear l_b l_n
      have hbk := KB.bytesAt_back (cap := grownCap u12 64 0 5) Y.at' HSL.out
      rw [← hT.out] at hbk
      go_wp2_with fail
      refine (HV2.out _ (G0.out.below B)).mono ?_
      rintro e u18 ⟨rfl, hb⟩
      replace G := G.blk hb
      replace B := bthen B hb
      replace K := K.blk hb
      replace Y := Y.blk hb
      clear hb
      clear hbk
      go_wp2_with fail
      refine (HV3.out _ (G0.out.below B)).mono ?_
      rintro e u19 ⟨rfl, hb⟩
      replace G := G.blk hb
      replace B := bthen B hb
      replace K := K.blk hb
      replace Y := Y.blk hb
      clear hb
      go_wp2
      go_ret
      exact ⟨rfl, B⟩
    · have l_y := natLoad_run (G.get 1 rfl)
      have l_n := natLoad_run (G.get 7 rfl)
      go_wp2_with fail
      refine (HC4.out _).mono ?_
      rintro e u16 ⟨rfl, hb⟩
      replace G := G.blk hb
      replace B := bthen B hb
      replace K := K.blk hb
      replace Y := Y.blk hb
      clear hb
      clear l_y l_n
      have hbk := KB.bytesAt_back (cap := grownCap u12 64 0 5) Y.at' HSL.out
      rw [← hT.out] at hbk
      go_wp2_with fail
      refine (HV2.out _ (G0.out.below B)).mono ?_
      rintro e u17 ⟨rfl, hb⟩
      replace G := G.blk hb
      replace B := bthen B hb
      replace K := K.blk hb
      replace Y := Y.blk hb
      clear hb
      clear hbk
      go_wp2_with fail
      refine (HV3.out _ (G0.out.below B)).mono ?_
      rintro e u18 ⟨rfl, hb⟩
      replace G := G.blk hb
      replace B := bthen B hb
      replace K := K.blk hb
      replace Y := Y.blk hb
      clear hb
      go_wp2
      go_ret
      exact ⟨rfl, B⟩
    · have hbk := KB.bytesAt_back (cap := grownCap u12 64 0 5) Y.at' HSL.out
      rw [← hT.out] at hbk
      go_wp2_with fail
      refine (HV2.out _ (G0.out.below B)).mono ?_
      rintro e u16 ⟨rfl, hb⟩
      replace G := G.blk hb
      replace B := bthen B hb
      replace K := K.blk hb
      replace Y := Y.blk hb
      clear hb
      clear hbk
      go_wp2_with fail
      refine (HV3.out _ (G0.out.below B)).mono ?_
      rintro e u17 ⟨rfl, hb⟩
      replace G := G.blk hb
      replace B := bthen B hb
      replace K := K.blk hb
      replace Y := Y.blk hb
      clear hb
      go_wp2
      go_ret
      exact ⟨rfl, B⟩
  · go_wp2_with fail
    refine (HV1.out _ (G0.out.below B)).mono ?_
    rintro e u11 ⟨rfl, hb⟩
    replace G := G.blk hb
    replace B := bthen B hb
    replace K := K.blk hb
    clear hb
    have hcz := Lib.run_convert_string_bytes (P := Tryz.prog) u11 9 55 5 S Tryz.underlying9 Tryz.underlying55 Tryz.underlying5
    have V0 := KB.bytesAt_conv u11 S
    have hA := KB.bytesWorld_below u11 S
    have hlt : u11.heap.size < (Lib.bytesWorld u11 5 S).heap.size := Array.getElem?_eq_some_iff.1 (Lib.bytesWorld_at_new u11 5 S) |>.1
    generalize hV : Lib.bytesWorld u11 5 S = V at V0 hA hcz hlt
    clear hV
    have hIl : I < S.data.toList.length := by rw [size_list, HSS.out]; exact HII.out
    obtain ⟨c0, f0⟩ := V0 I hIl
    have hxb := hxr.out (S.data.toList[I]) (by rw [List.getElem?_eq_getElem hIl]; rfl)
    generalize S.data.toList[I] = z at c0 hxb
    have VS := V0.set I c'
    have hA2 := hA.setCell (p := ⟨u11.heap.size, I, none⟩) (Nat.le_refl _) (.int .u8 (c'.toNat : Int))
    have Y : Bat (V.setCell ⟨u11.heap.size, I, none⟩ (.int .u8 (c'.toNat : Int))) u11.heap.size (S.data.toList.set I c') := ⟨VS, by simpa using hlt, by rw [List.length_set]; omega⟩
    have hsl : (S.data.toList.set I c').length = 64 := by rw [List.length_set, size_list, HSS.out]
    have HSL := Hid.mk hsl
    have hbk := KB.bytesAt_back (cap := grownCap u11 64 0 5) VS hsl
    rw [← hT.out] at hbk
    have iS : (I : Int) < (S.size : Int) := by rw [HSS.out]; exact iI
    obtain ⟨gg, hgg⟩ : ∃ gg, u11.heap.size = gg := ⟨_, rfl⟩
    clear hA hlt V0 VS hIl hsl hgg
    go_wp2_with fail
    refine (HO3.out _).mono ?_
    rintro e' u12 ⟨rfl, hb⟩
    replace G := (G.blk hA2).blk hb
    replace K := (K.blk hA2).blk hb
    replace B := bthen (bthen B hA2) hb
    replace Y := Y.blk hb
    clear hb hA2 hbk hcz c0 f0 hxb iS
    go_upto_region 24 with fail
    replace G := G.new1 (y)
    replace B := below_new1 (y) B
    replace K := K.blk (w' := u12.alloc (.cells (natL (y)).toArray 43)) ((Below.refl _ _).alloc (Nat.le_refl _) _)
    replace Y := Y.blk (w' := u12.alloc (.cells (natL (y)).toArray 43)) ((Below.refl _ _).alloc (Nat.le_refl _) _)
    generalize u12.alloc (.cells (natL (y)).toArray 43) = v12 at G B K Y ⊢
    generalize u12.heap.size = b_y at G ⊢
    have l_y := natLoad_run (G.get 0 rfl)
    have l_e := natLoad_run (G.get 5 rfl)
    have l_n := natLoad_run (G.get 6 rfl)
    go_wp2_with fail
    refine (HP3.out _).mono ?_
    rintro e u13 ⟨rfl, hb⟩
    replace G := G.blk hb
    replace B := bthen B hb
    replace K := K.blk hb
    replace Y := Y.blk hb
    clear hb
    clear l_y l_e l_n
    go_upto_region 25 with fail
    replace G := G.new1 (p)
    replace B := below_new1 (p) B
    replace K := K.blk (w' := u13.alloc (.cells (natL (p)).toArray 43)) ((Below.refl _ _).alloc (Nat.le_refl _) _)
    replace Y := Y.blk (w' := u13.alloc (.cells (natL (p)).toArray 43)) ((Below.refl _ _).alloc (Nat.le_refl _) _)
    generalize u13.alloc (.cells (natL (p)).toArray 43) = v13 at G B K Y ⊢
    generalize u13.heap.size = b_p at G ⊢
    have l_p := natLoad_run (G.get 0 rfl)
    have l_b := natLoad_run (G.get 4 rfl)
    go_wp2_with fail
    refine (HC3.out _).mono ?_
    rintro e u14 ⟨rfl, hb⟩
    replace G := G.blk hb
    replace B := bthen B hb
    replace K := K.blk hb
    replace Y := Y.blk hb
    clear hb
    clear l_p l_b
    rcases hq3 with ⟨h3, h4, h5, rfl⟩ | ⟨h3, h4, rfl⟩ | ⟨h3, rfl⟩
    · have l_y := natLoad_run (G.get 1 rfl)
      have l_n := natLoad_run (G.get 7 rfl)
      go_wp2_with fail
      refine (HC4.out _).mono ?_
      rintro e u15 ⟨rfl, hb⟩
      replace G := G.blk hb
      replace B := bthen B hb
      replace K := K.blk hb
      replace Y := Y.blk hb
      clear hb
      clear l_y l_n
      have l_b := natLoad_run (G.get 4 rfl)
      have l_n := natLoad_run (G.get 7 rfl)
      go_wp2_with fail
      refine (HC2.out _).mono ?_
      rintro e u16 ⟨rfl, hb⟩
      replace G := G.blk hb
      replace B := bthen B hb
      replace K := K.blk hb
      replace Y := Y.blk hb
      clear hb
      clear l_b l_n
      have hbk := KB.bytesAt_back (cap := grownCap u11 64 0 5) Y.at' HSL.out
      rw [← hT.out] at hbk
      go_wp2_with fail
      refine (HV2.out _ (G0.out.below B)).mono ?_
      rintro e u17 ⟨rfl, hb⟩
      replace G := G.blk hb
      replace B := bthen B hb
      replace K := K.blk hb
      replace Y := Y.blk hb
      clear hb
      clear hbk
      go_wp2_with fail
      refine (HV3.out _ (G0.out.below B)).mono ?_
      rintro e u18 ⟨rfl, hb⟩
      replace G := G.blk hb
      replace B := bthen B hb
      replace K := K.blk hb
      replace Y := Y.blk hb
      clear hb
      go_wp2
      go_ret
      exact ⟨rfl, B⟩
    · have l_y := natLoad_run (G.get 1 rfl)
      have l_n := natLoad_run (G.get 7 rfl)
      go_wp2_with fail
      refine (HC4.out _).mono ?_
      rintro e u15 ⟨rfl, hb⟩
      replace G := G.blk hb
      replace B := bthen B hb
      replace K := K.blk hb
      replace Y := Y.blk hb
      clear hb
      clear l_y l_n
      have hbk := KB.bytesAt_back (cap := grownCap u11 64 0 5) Y.at' HSL.out
      rw [← hT.out] at hbk
      go_wp2_with fail
      refine (HV2.out _ (G0.out.below B)).mono ?_
      rintro e u16 ⟨rfl, hb⟩
      replace G := G.blk hb
      replace B := bthen B hb
      replace K := K.blk hb
      replace Y := Y.blk hb
      clear hb
      clear hbk
      go_wp2_with fail
      refine (HV3.out _ (G0.out.below B)).mono ?_
      rintro e u17 ⟨rfl, hb⟩
      replace G := G.blk hb
      replace B := bthen B hb
      replace K := K.blk hb
      replace Y := Y.blk hb
      clear hb
      go_wp2
      go_ret
      exact ⟨rfl, B⟩
    · have hbk := KB.bytesAt_back (cap := grownCap u11 64 0 5) Y.at' HSL.out
      rw [← hT.out] at hbk
      go_wp2_with fail
      refine (HV2.out _ (G0.out.below B)).mono ?_
      rintro e u15 ⟨rfl, hb⟩
      replace G := G.blk hb
      replace B := bthen B hb
      replace K := K.blk hb
      replace Y := Y.blk hb
      clear hb
      clear hbk
      go_wp2_with fail
      refine (HV3.out _ (G0.out.below B)).mono ?_
      rintro e u16 ⟨rfl, hb⟩
      replace G := G.blk hb
      replace B := bthen B hb
      replace K := K.blk hb
      replace Y := Y.blk hb
      clear hb
      go_wp2
      go_ret
      exact ⟨rfl, B⟩
set_option maxRecDepth 100000 in
set_option maxHeartbeats 4000000 in
theorem signs_nz (E M D d P X S Q Tn : ByteArray) (ax ay : Int) (e n x b s t y p : Nat) (q1 q2 q3 q4 : Int) (r gd : Bool) (I : Nat) (c' : UInt8) (hE1 : 1 ≤ E.size) (hE8 : E.size ≤ 8) (hM : M.size = 64) (hD : D.size ≤ 64) (hd : d.size ≤ 2000) (hS : S.size = 64) (hI : I < 64)
    (hP : (⟨#[UInt8.ofNat E.size]⟩ : ByteArray) ++ E ++ M = P) (hX : (⟨#[0]⟩ : ByteArray) ++ d = X) (hT : Hid (Tn = ⟨(S.data.toList.set I c').toArray⟩))
    (HR : Hid (∀ W, Calls Tryz.prog 18 #[.string P] W fun e' w' => e' = .returned (.tuple #[.agg (natL e).toArray, .agg (natL n).toArray, .int .i64 0]) ∧ Below W.heap.size W w'))
    (HD : Hid (∀ W, Calls Tryz.prog 24 #[.int .i64 48, .string d] W fun e w' => e = .returned (.bool true) ∧ Below W.heap.size W w'))
    (HO1 : Hid (∀ W, Calls Tryz.prog 25 #[.string D] W fun e w' => e = .returned (.tuple #[.agg (natL x).toArray, .int .i64 0]) ∧ Below W.heap.size W w'))
    (Hb : Hid (∀ W, G.Rk W → Calls Tryz.prog 26 #[.string d] W fun e w' => e = .returned (.string Q) ∧ Below W.heap.size W w'))
    (HO2 : Hid (∀ W, Calls Tryz.prog 25 #[.string Q] W fun e w' => e = .returned (.tuple #[.agg (natL b).toArray, .int .i64 0]) ∧ Below W.heap.size W w'))
    (HP1 : Hid (∀ W, Calls Tryz.prog 27 #[.agg (natL b).toArray, .agg (natL x).toArray, .agg (natL n).toArray] W fun e w' => e = .returned (.tuple #[.agg (natL s).toArray, .int .i64 0]) ∧ Below W.heap.size W w'))
    (HW : Hid (∀ W, Calls Tryz.prog 28 #[.agg (natL s).toArray, .int .i64 64] W fun e w' => e = .returned (.tuple #[.string S, .int .i64 0]) ∧ Below W.heap.size W w'))
    (HP2 : Hid (∀ W, Calls Tryz.prog 27 #[.agg (natL s).toArray, .agg (natL e).toArray, .agg (natL n).toArray] W fun e w' => e = .returned (.tuple #[.agg (natL t).toArray, .int .i64 0]) ∧ Below W.heap.size W w'))
    (HC1 : Hid (∀ W, Calls Tryz.prog 29 #[.agg (natL t).toArray, .agg (natL b).toArray] W fun e w' => e = .returned (.int .i64 q1) ∧ Below W.heap.size W w'))
    (HC2 : Hid (∀ W, Calls Tryz.prog 29 #[.agg (natL b).toArray, .agg (natL n).toArray] W fun e w' => e = .returned (.int .i64 q2) ∧ Below W.heap.size W w'))
    (HV1 : Hid (∀ W, G.Rk W → Calls Tryz.prog 23 #[.string P, .string X, .string S] W fun e w' => e = .returned (.bool r) ∧ Below W.heap.size W w'))
    (HO3 : Hid (∀ W, Calls Tryz.prog 25 #[.string Tn] W fun e w' => e = .returned (.tuple #[.agg (natL y).toArray, .int .i64 0]) ∧ Below W.heap.size W w'))
    (HP3 : Hid (∀ W, Calls Tryz.prog 27 #[.agg (natL y).toArray, .agg (natL e).toArray, .agg (natL n).toArray] W fun e w' => e = .returned (.tuple #[.agg (natL p).toArray, .int .i64 0]) ∧ Below W.heap.size W w'))
    (HC3 : Hid (∀ W, Calls Tryz.prog 29 #[.agg (natL p).toArray, .agg (natL b).toArray] W fun e w' => e = .returned (.int .i64 q3) ∧ Below W.heap.size W w'))
    (HC4 : Hid (∀ W, Calls Tryz.prog 29 #[.agg (natL y).toArray, .agg (natL n).toArray] W fun e w' => e = .returned (.int .i64 q4) ∧ Below W.heap.size W w'))
    (HV2 : Hid (∀ W, G.Rk W → Calls Tryz.prog 23 #[.string P, .string X, .string Tn] W fun e w' => e = .returned (.bool gd) ∧ Below W.heap.size W w'))
    (HV3 : Hid (∀ W, G.Rk W → Calls Tryz.prog 23 #[.string P, .string X, .string (S.extract 1 64)] W fun e w' => e = .returned (.bool false) ∧ Below W.heap.size W w'))
    (hq1 : ((q1 == 0) = true ∧ q2 < 0 ∧ r = true) ∨ ((q1 == 0) = false ∧ r = false))
    (hq3 : ((q3 == 0) = true ∧ q4 < 0 ∧ q2 < 0 ∧ gd = true) ∨ ((q3 == 0) = true ∧ ¬ q4 < 0 ∧ gd = false) ∨ ((q3 == 0) = false ∧ gd = false))
    (nat : ax < 0) (wa1 : IntKind.i64.wrap (ax + 1) = ax + 1) (wa2 : IntKind.i64.wrap (-(ax + 1)) = -(ax + 1)) (mat : (-(ax + 1)).tmod 64 = (I : Nat)) (mby : (ay.tmod 256 == 0) = true) (hxr : Hid (∀ z : UInt8, S.data.toList[I]?.getD 0 = z → bits BinOp.xor IntKind.u8 (z.toNat : Int) 1 = (c'.toNat : Int)))
    (W : World) (hG : G.Rk W) :
    Calls Tryz.prog 6 #[.agg #[.string E, .string M, .string D], .string d, .int .i64 ax, .int .i64 ay] W fun e w' => e = .returned (.bool true) ∧ Below W.heap.size W w' := by
  have hz := zero26
  have HX := Hid.mk kexamples_in
  have G0 := Hid.mk hG
  have K : Bx (W.alloc (.cells #[.string E, .string M, .string D] 54)) W.heap.size E M D := heap_new _ _
  have B : Below W.heap.size W (W.alloc (.cells #[.string E, .string M, .string D] 54)) := (Below.refl _ _).alloc (Nat.le_refl _) _
  clear hG
  have G : Has (W.alloc (.cells #[.string E, .string M, .string D] 54)) [] := trivial
  have s1 : ¬ ((E.size : Int) < 1) := by omega
  have s2 : ¬ ((8 : Int) < (E.size : Int)) := by omega
  have s3 : ((M.size : Int) != 64) = false := by rw [hM]; rfl
  have s4 : ¬ ((64 : Int) < (D.size : Int)) := by omega
  have wE : IntKind.u8.wrap (E.size : Int) = (E.size : Int) := by rw [IntKind.wrap_u8]; omega
  have z1 : ¬ (9223372036854775807 < 1 + E.size) := by omega
  have z2 : ¬ (9223372036854775807 < 1 + E.size + M.size) := by omega
  have z3 : ¬ (9223372036854775807 < 1 + d.size) := by omega
  have g1 : (1 : Int) ≤ (S.size : Int) := by omega
  have HSS := Hid.mk hS
  have HII := Hid.mk hI
  have iI : (I : Int) < 64 := by omega
  have wI : IntKind.i64.wrap (I : Int) = (I : Int) := by rw [IntKind.wrap_i64]; omega
  have HE8 := Hid.mk hE8
  clear hE1 hE8 hM hD hd hI
  go_enter Tryz.func6, Tryz.ntmps6
  go_wp2_with fail
  refine (HX.out _ (G0.out.below B)).mono ?_
  rintro e u1 ⟨rfl, hb⟩
  replace G := G.blk hb
  replace B := bthen B hb
  replace K := K.blk hb
  clear hb
  obtain ⟨k0, k1, k2⟩ := K.c
  have hkl := box_lt K
  have hkn : W.heap.size ≠ u1.heap.size := by omega
  have hA := (Below.refl u1.heap.size u1).alloc (Nat.le_refl _) (.cells #[.int .u8 (E.size : Int)] 5)
  have hcv : (convert 55 9 (.slice (some ⟨u1.heap.size, 0, none⟩) 1 1)).run Tryz.prog (u1.alloc (.cells #[.int .u8 (E.size : Int)] 5)) = .ok (.string ⟨#[UInt8.ofNat E.size]⟩) (u1.alloc (.cells #[.int .u8 (E.size : Int)] 5)) := by
    have := run_convert_bytes_back (P := Tryz.prog) (u1.alloc (.cells #[.int .u8 (E.size : Int)] 5)) 55 9 5 ⟨u1.heap.size, 0, none⟩ 1 [UInt8.ofNat E.size] Tryz.underlying55 Tryz.underlying5 Tryz.underlying9 (fun j hj => by
      have e0 : j = 0 := by simpa using hj
      subst e0
      have hc0 := (_root_.Go.Proofs.YtlcjagkfeakinaaGreatDoor.G.cells_at (v := .int .u8 (E.size : Int)) (j := 0) (heap_new u1 (.cells #[.int .u8 (E.size : Int)] 5)) rfl).1
      rw [add_at]
      refine hc0.trans ?_
      have := HE8.out
      simp [Nat.mod_eq_of_lt (show E.size < 256 by omega)])
    simpa using this
  go_wp2_with fail
  refine (HR.out _).mono ?_
  rintro e' u2 ⟨rfl, hb⟩
  replace G := (G.blk hA).blk hb
  replace K := (K.blk hA).blk hb
  replace B := bthen (bthen B hA) hb
  clear hb hA hcv k0 k1 k2 hkl hkn hP wE z1 z2
  go_upto_region 6 with fail
  replace G := G.new2 (e) (n)
  replace B := below_new2 (e) (n) B
  replace K := K.blk (two_new u2 (natL (e)) (natL (n)) 43 43).2.2.1
  generalize (u2.alloc (.cells (natL (e)).toArray 43)).alloc (.cells (natL (n)).toArray 43) = v2 at G B K ⊢
  generalize u2.heap.size = b_e at G ⊢
  obtain ⟨b_n, h_n⟩ : ∃ x, b_e + 1 = x := ⟨_, rfl⟩
  rw [h_n] at G ⊢
  clear h_n
  go_wp2_with fail
  refine (HD.out _).mono ?_
  rintro e u3 ⟨rfl, hb⟩
  replace G := G.blk hb
  replace B := bthen B hb
  replace K := K.blk hb
  clear hb
  obtain ⟨k0, k1, k2⟩ := K.c
  go_wp2_with fail
  refine (HO1.out _).mono ?_
  rintro e u4 ⟨rfl, hb⟩
  replace G := G.blk hb
  replace B := bthen B hb
  replace K := K.blk hb
  clear hb
  clear k0 k1 k2
  go_upto_region 9 with fail
  replace G := G.new1 (x)
  replace B := below_new1 (x) B
  replace K := K.blk (w' := u4.alloc (.cells (natL (x)).toArray 43)) ((Below.refl _ _).alloc (Nat.le_refl _) _)
  generalize u4.alloc (.cells (natL (x)).toArray 43) = v4 at G B K ⊢
  generalize u4.heap.size = b_x at G ⊢
  go_wp2_with fail
  refine (Hb.out _ (G0.out.below B)).mono ?_
  rintro e u5 ⟨rfl, hb⟩
  replace G := G.blk hb
  replace B := bthen B hb
  replace K := K.blk hb
  clear hb
  go_wp2_with fail
  refine (HO2.out _).mono ?_
  rintro e u6 ⟨rfl, hb⟩
  replace G := G.blk hb
  replace B := bthen B hb
  replace K := K.blk hb
  clear hb
  go_upto_region 10 with fail
  replace G := G.new1 (b)
  replace B := below_new1 (b) B
  replace K := K.blk (w' := u6.alloc (.cells (natL (b)).toArray 43)) ((Below.refl _ _).alloc (Nat.le_refl _) _)
  generalize u6.alloc (.cells (natL (b)).toArray 43) = v6 at G B K ⊢
  generalize u6.heap.size = b_b at G ⊢
  have l_b := natLoad_run (G.get 0 rfl)
  have l_x := natLoad_run (G.get 1 rfl)
  have l_n := natLoad_run (G.get 3 rfl)
  go_wp2_with fail
  refine (HP1.out _).mono ?_
  rintro e u7 ⟨rfl, hb⟩
  replace G := G.blk hb
  replace B := bthen B hb
  replace K := K.blk hb
  clear hb
  clear l_b l_x l_n
  go_upto_region 11 with fail
  replace G := G.new1 (s)
  replace B := below_new1 (s) B
  replace K := K.blk (w' := u7.alloc (.cells (natL (s)).toArray 43)) ((Below.refl _ _).alloc (Nat.le_refl _) _)
  generalize u7.alloc (.cells (natL (s)).toArray 43) = v7 at G B K ⊢
  generalize u7.heap.size = b_s at G ⊢
  have l_s := natLoad_run (G.get 0 rfl)
  go_wp2_with fail
  refine (HW.out _).mono ?_
  rintro e u8 ⟨rfl, hb⟩
  replace G := G.blk hb
  replace B := bthen B hb
  replace K := K.blk hb
  clear hb
  clear l_s
  have l_s := natLoad_run (G.get 0 rfl)
  have l_e := natLoad_run (G.get 3 rfl)
  have l_n := natLoad_run (G.get 4 rfl)
  go_wp2_with fail
  refine (HP2.out _).mono ?_
  rintro e u9 ⟨rfl, hb⟩
  replace G := G.blk hb
  replace B := bthen B hb
  replace K := K.blk hb
  clear hb
  clear l_s l_e l_n
  go_upto_region 13 with fail
  replace G := G.new1 (t)
  replace B := below_new1 (t) B
  replace K := K.blk (w' := u9.alloc (.cells (natL (t)).toArray 43)) ((Below.refl _ _).alloc (Nat.le_refl _) _)
  generalize u9.alloc (.cells (natL (t)).toArray 43) = v9 at G B K ⊢
  generalize u9.heap.size = b_t at G ⊢
  have l_t := natLoad_run (G.get 0 rfl)
  have l_b := natLoad_run (G.get 2 rfl)
  go_wp2_with fail
  refine (HC1.out _).mono ?_
  rintro e u10 ⟨rfl, hb⟩
  replace G := G.blk hb
  replace B := bthen B hb
  replace K := K.blk hb
  clear hb
  clear l_t l_b
  rcases hq1 with ⟨h1, h2, rfl⟩ | ⟨h1, rfl⟩
  · have l_b := natLoad_run (G.get 2 rfl)
    have l_n := natLoad_run (G.get 5 rfl)
    go_wp2_with fail
    refine (HC2.out _).mono ?_
    rintro e u11 ⟨rfl, hb⟩
    replace G := G.blk hb
    replace B := bthen B hb
    replace K := K.blk hb
    clear hb
    clear l_b l_n
    go_wp2_with fail
    refine (HV1.out _ (G0.out.below B)).mono ?_
    rintro e u12 ⟨rfl, hb⟩
    replace G := G.blk hb
    replace B := bthen B hb
    replace K := K.blk hb
    clear hb
    have hcz := Lib.run_convert_string_bytes (P := Tryz.prog) u12 9 55 5 S Tryz.underlying9 Tryz.underlying55 Tryz.underlying5
    have V0 := KB.bytesAt_conv u12 S
    have hA := KB.bytesWorld_below u12 S
    have hlt : u12.heap.size < (Lib.bytesWorld u12 5 S).heap.size := Array.getElem?_eq_some_iff.1 (Lib.bytesWorld_at_new u12 5 S) |>.1
    generalize hV : Lib.bytesWorld u12 5 S = V at V0 hA hcz hlt
    clear hV
    have hIl : I < S.data.toList.length := by rw [size_list, HSS.out]; exact HII.out
    obtain ⟨c0, f0⟩ := V0 I hIl
    have hxb := hxr.out (S.data.toList[I]) (by rw [List.getElem?_eq_getElem hIl]; rfl)
    generalize S.data.toList[I] = z at c0 hxb
    have VS := V0.set I c'
    have hA2 := hA.setCell (p := ⟨u12.heap.size, I, none⟩) (Nat.le_refl _) (.int .u8 (c'.toNat : Int))
    have Y : Bat (V.setCell ⟨u12.heap.size, I, none⟩ (.int .u8 (c'.toNat : Int))) u12.heap.size (S.data.toList.set I c') := ⟨VS, by simpa using hlt, by rw [List.length_set]; omega⟩
    have hsl : (S.data.toList.set I c').length = 64 := by rw [List.length_set, size_list, HSS.out]
    have HSL := Hid.mk hsl
    have hbk := KB.bytesAt_back (cap := grownCap u12 64 0 5) VS hsl
    rw [← hT.out] at hbk
    have iS : (I : Int) < (S.size : Int) := by rw [HSS.out]; exact iI
    obtain ⟨gg, hgg⟩ : ∃ gg, u12.heap.size = gg := ⟨_, rfl⟩
    clear hA hlt V0 VS hIl hsl hgg
    go_wp2_with fail
    refine (HO3.out _).mono ?_
    rintro e' u13 ⟨rfl, hb⟩
    replace G := (G.blk hA2).blk hb
    replace K := (K.blk hA2).blk hb
    replace B := bthen (bthen B hA2) hb
    replace Y := Y.blk hb
    clear hb hA2 hbk hcz c0 f0 hxb iS
    go_upto_region 24 with fail
    replace G := G.new1 (y)
    replace B := below_new1 (y) B
    replace K := K.blk (w' := u13.alloc (.cells (natL (y)).toArray 43)) ((Below.refl _ _).alloc (Nat.le_refl _) _)
    replace Y := Y.blk (w' := u13.alloc (.cells (natL (y)).toArray 43)) ((Below.refl _ _).alloc (Nat.le_refl _) _)
    generalize u13.alloc (.cells (natL (y)).toArray 43) = v13 at G B K Y ⊢
    generalize u13.heap.size = b_y at G ⊢
    have l_y := natLoad_run (G.get 0 rfl)
    have l_e := natLoad_run (G.get 5 rfl)
    have l_n := natLoad_run (G.get 6 rfl)
    go_wp2_with fail
    refine (HP3.out _).mono ?_
    rintro e u14 ⟨rfl, hb⟩
    replace G := G.blk hb
    replace B := bthen B hb
    replace K := K.blk hb
    replace Y := Y.blk hb
    clear hb
    clear l_y l_e l_n
    go_upto_region 25 with fail
    replace G := G.new1 (p)
    replace B := below_new1 (p) B
    replace K := K.blk (w' := u14.alloc (.cells (natL (p)).toArray 43)) ((Below.refl _ _).alloc (Nat.le_refl _) _)
    replace Y := Y.blk (w' := u14.alloc (.cells (natL (p)).toArray 43)) ((Below.refl _ _).alloc (Nat.le_refl _) _)
    generalize u14.alloc (.cells (natL (p)).toArray 43) = v14 at G B K Y ⊢
    generalize u14.heap.size = b_p at G ⊢
    have l_p := natLoad_run (G.get 0 rfl)
    have l_b := natLoad_run (G.get 4 rfl)
    go_wp2_with fail
    refine (HC3.out _).mono ?_
    rintro e u15 ⟨rfl, hb⟩
    replace G := G.blk hb
    replace B := bthen B hb
    replace K := K.blk hb
    replace Y := Y.blk hb
    clear hb
    clear l_p l_b
    rcases hq3 with ⟨h3, h4, h5, rfl⟩ | ⟨h3, h4, rfl⟩ | ⟨h3, rfl⟩
    · have l_y := natLoad_run (G.get 1 rfl)
      have l_n := natLoad_run (G.get 7 rfl)
      go_wp2_with fail
      refine (HC4.out _).mono ?_
      rintro e u16 ⟨rfl, hb⟩
      replace G := G.blk hb
      replace B := bthen B hb
      replace K := K.blk hb
      replace Y := Y.blk hb
      clear hb
      clear l_y l_n
      have l_b := natLoad_run (G.get 4 rfl)
      have l_n := natLoad_run (G.get 7 rfl)
      go_wp2_with fail
      refine (HC2.out _).mono ?_
      rintro e u17 ⟨rfl, hb⟩
      replace G := G.blk hb
      replace B := bthen B hb
      replace K := K.blk hb
      replace Y := Y.blk hb
      clear hb
      clear l_b l_n
      have hbk := KB.bytesAt_back (cap := grownCap u12 64 0 5) Y.at' HSL.out
      rw [← hT.out] at hbk
      go_wp2_with fail
      refine (HV2.out _ (G0.out.below B)).mono ?_
      rintro e u18 ⟨rfl, hb⟩
      replace G := G.blk hb
      replace B := bthen B hb
      replace K := K.blk hb
      replace Y := Y.blk hb
      clear hb
      clear hbk
      go_wp2_with fail
      refine (HV3.out _ (G0.out.below B)).mono ?_
      rintro e u19 ⟨rfl, hb⟩
      replace G := G.blk hb
      replace B := bthen B hb
      replace K := K.blk hb
      replace Y := Y.blk hb
      clear hb
      go_wp2
      go_ret
      exact ⟨rfl, B⟩
    · have l_y := natLoad_run (G.get 1 rfl)
      have l_n := natLoad_run (G.get 7 rfl)
      go_wp2_with fail
      refine (HC4.out _).mono ?_
      rintro e u16 ⟨rfl, hb⟩
      replace G := G.blk hb
      replace B := bthen B hb
      replace K := K.blk hb
      replace Y := Y.blk hb
      clear hb
      clear l_y l_n
      have hbk := KB.bytesAt_back (cap := grownCap u12 64 0 5) Y.at' HSL.out
      rw [← hT.out] at hbk
      go_wp2_with fail
      refine (HV2.out _ (G0.out.below B)).mono ?_
      rintro e u17 ⟨rfl, hb⟩
      replace G := G.blk hb
      replace B := bthen B hb
      replace K := K.blk hb
      replace Y := Y.blk hb
      clear hb
      clear hbk
      go_wp2_with fail
      refine (HV3.out _ (G0.out.below B)).mono ?_
      rintro e u18 ⟨rfl, hb⟩
      replace G := G.blk hb
      replace B := bthen B hb
      replace K := K.blk hb
      replace Y := Y.blk hb
      clear hb
      go_wp2
      go_ret
      exact ⟨rfl, B⟩
    · have hbk := KB.bytesAt_back (cap := grownCap u12 64 0 5) Y.at' HSL.out
      rw [← hT.out] at hbk
      go_wp2_with fail
      refine (HV2.out _ (G0.out.below B)).mono ?_
      rintro e u16 ⟨rfl, hb⟩
      replace G := G.blk hb
      replace B := bthen B hb
      replace K := K.blk hb
      replace Y := Y.blk hb
      clear hb
      clear hbk
      go_wp2_with fail
      refine (HV3.out _ (G0.out.below B)).mono ?_
      rintro e u17 ⟨rfl, hb⟩
      replace G := G.blk hb
      replace B := bthen B hb
      replace K := K.blk hb
      replace Y := Y.blk hb
      clear hb
      go_wp2
      go_ret
      exact ⟨rfl, B⟩
  · go_wp2_with fail
    refine (HV1.out _ (G0.out.below B)).mono ?_
    rintro e u11 ⟨rfl, hb⟩
    replace G := G.blk hb
    replace B := bthen B hb
    replace K := K.blk hb
    clear hb
    have hcz := Lib.run_convert_string_bytes (P := Tryz.prog) u11 9 55 5 S Tryz.underlying9 Tryz.underlying55 Tryz.underlying5
    have V0 := KB.bytesAt_conv u11 S
    have hA := KB.bytesWorld_below u11 S
    have hlt : u11.heap.size < (Lib.bytesWorld u11 5 S).heap.size := Array.getElem?_eq_some_iff.1 (Lib.bytesWorld_at_new u11 5 S) |>.1
    generalize hV : Lib.bytesWorld u11 5 S = V at V0 hA hcz hlt
    clear hV
    have hIl : I < S.data.toList.length := by rw [size_list, HSS.out]; exact HII.out
    obtain ⟨c0, f0⟩ := V0 I hIl
    have hxb := hxr.out (S.data.toList[I]) (by rw [List.getElem?_eq_getElem hIl]; rfl)
    generalize S.data.toList[I] = z at c0 hxb
    have VS := V0.set I c'
    have hA2 := hA.setCell (p := ⟨u11.heap.size, I, none⟩) (Nat.le_refl _) (.int .u8 (c'.toNat : Int))
    have Y : Bat (V.setCell ⟨u11.heap.size, I, none⟩ (.int .u8 (c'.toNat : Int))) u11.heap.size (S.data.toList.set I c') := ⟨VS, by simpa using hlt, by rw [List.length_set]; omega⟩
    have hsl : (S.data.toList.set I c').length = 64 := by rw [List.length_set, size_list, HSS.out]
    have HSL := Hid.mk hsl
    have hbk := KB.bytesAt_back (cap := grownCap u11 64 0 5) VS hsl
    rw [← hT.out] at hbk
    have iS : (I : Int) < (S.size : Int) := by rw [HSS.out]; exact iI
    obtain ⟨gg, hgg⟩ : ∃ gg, u11.heap.size = gg := ⟨_, rfl⟩
    clear hA hlt V0 VS hIl hsl hgg
    go_wp2_with fail
    refine (HO3.out _).mono ?_
    rintro e' u12 ⟨rfl, hb⟩
    replace G := (G.blk hA2).blk hb
    replace K := (K.blk hA2).blk hb
    replace B := bthen (bthen B hA2) hb
    replace Y := Y.blk hb
    clear hb hA2 hbk hcz c0 f0 hxb iS
    go_upto_region 24 with fail
    replace G := G.new1 (y)
    replace B := below_new1 (y) B
    replace K := K.blk (w' := u12.alloc (.cells (natL (y)).toArray 43)) ((Below.refl _ _).alloc (Nat.le_refl _) _)
    replace Y := Y.blk (w' := u12.alloc (.cells (natL (y)).toArray 43)) ((Below.refl _ _).alloc (Nat.le_refl _) _)
    generalize u12.alloc (.cells (natL (y)).toArray 43) = v12 at G B K Y ⊢
    generalize u12.heap.size = b_y at G ⊢
    have l_y := natLoad_run (G.get 0 rfl)
    have l_e := natLoad_run (G.get 5 rfl)
    have l_n := natLoad_run (G.get 6 rfl)
    go_wp2_with fail
    refine (HP3.out _).mono ?_
    rintro e u13 ⟨rfl, hb⟩
    replace G := G.blk hb
    replace B := bthen B hb
    replace K := K.blk hb
    replace Y := Y.blk hb
    clear hb
    clear l_y l_e l_n
    go_upto_region 25 with fail
    replace G := G.new1 (p)
    replace B := below_new1 (p) B
    replace K := K.blk (w' := u13.alloc (.cells (natL (p)).toArray 43)) ((Below.refl _ _).alloc (Nat.le_refl _) _)
    replace Y := Y.blk (w' := u13.alloc (.cells (natL (p)).toArray 43)) ((Below.refl _ _).alloc (Nat.le_refl _) _)
    generalize u13.alloc (.cells (natL (p)).toArray 43) = v13 at G B K Y ⊢
    generalize u13.heap.size = b_p at G ⊢
    have l_p := natLoad_run (G.get 0 rfl)
    have l_b := natLoad_run (G.get 4 rfl)
    go_wp2_with fail
    refine (HC3.out _).mono ?_
    rintro e u14 ⟨rfl, hb⟩
    replace G := G.blk hb
    replace B := bthen B hb
    replace K := K.blk hb
    replace Y := Y.blk hb
    clear hb
    clear l_p l_b
    rcases hq3 with ⟨h3, h4, h5, rfl⟩ | ⟨h3, h4, rfl⟩ | ⟨h3, rfl⟩
    · have l_y := natLoad_run (G.get 1 rfl)
      have l_n := natLoad_run (G.get 7 rfl)
      go_wp2_with fail
      refine (HC4.out _).mono ?_
      rintro e u15 ⟨rfl, hb⟩
      replace G := G.blk hb
      replace B := bthen B hb
      replace K := K.blk hb
      replace Y := Y.blk hb
      clear hb
      clear l_y l_n
      have l_b := natLoad_run (G.get 4 rfl)
      have l_n := natLoad_run (G.get 7 rfl)
      go_wp2_with fail
      refine (HC2.out _).mono ?_
      rintro e u16 ⟨rfl, hb⟩
      replace G := G.blk hb
      replace B := bthen B hb
      replace K := K.blk hb
      replace Y := Y.blk hb
      clear hb
      clear l_b l_n
      have hbk := KB.bytesAt_back (cap := grownCap u11 64 0 5) Y.at' HSL.out
      rw [← hT.out] at hbk
      go_wp2_with fail
      refine (HV2.out _ (G0.out.below B)).mono ?_
      rintro e u17 ⟨rfl, hb⟩
      replace G := G.blk hb
      replace B := bthen B hb
      replace K := K.blk hb
      replace Y := Y.blk hb
      clear hb
      clear hbk
      go_wp2_with fail
      refine (HV3.out _ (G0.out.below B)).mono ?_
      rintro e u18 ⟨rfl, hb⟩
      replace G := G.blk hb
      replace B := bthen B hb
      replace K := K.blk hb
      replace Y := Y.blk hb
      clear hb
      go_wp2
      go_ret
      exact ⟨rfl, B⟩
    · have l_y := natLoad_run (G.get 1 rfl)
      have l_n := natLoad_run (G.get 7 rfl)
      go_wp2_with fail
      refine (HC4.out _).mono ?_
      rintro e u15 ⟨rfl, hb⟩
      replace G := G.blk hb
      replace B := bthen B hb
      replace K := K.blk hb
      replace Y := Y.blk hb
      clear hb
      clear l_y l_n
      have hbk := KB.bytesAt_back (cap := grownCap u11 64 0 5) Y.at' HSL.out
      rw [← hT.out] at hbk
      go_wp2_with fail
      refine (HV2.out _ (G0.out.below B)).mono ?_
      rintro e u16 ⟨rfl, hb⟩
      replace G := G.blk hb
      replace B := bthen B hb
      replace K := K.blk hb
      replace Y := Y.blk hb
      clear hb
      clear hbk
      go_wp2_with fail
      refine (HV3.out _ (G0.out.below B)).mono ?_
      rintro e u17 ⟨rfl, hb⟩
      replace G := G.blk hb
      replace B := bthen B hb
      replace K := K.blk hb
      replace Y := Y.blk hb
      clear hb
      go_wp2
      go_ret
      exact ⟨rfl, B⟩
    · have hbk := KB.bytesAt_back (cap := grownCap u11 64 0 5) Y.at' HSL.out
      rw [← hT.out] at hbk
      go_wp2_with fail
      refine (HV2.out _ (G0.out.below B)).mono ?_
      rintro e u15 ⟨rfl, hb⟩
      replace G := G.blk hb
      replace B := bthen B hb
      replace K := K.blk hb
      replace Y := Y.blk hb
      clear hb
      clear hbk
      go_wp2_with fail
      refine (HV3.out _ (G0.out.below B)).mono ?_
      rintro e u16 ⟨rfl, hb⟩
      replace G := G.blk hb
      replace B := bthen B hb
      replace K := K.blk hb
      replace Y := Y.blk hb
      clear hb
      go_wp2
      go_ret
      exact ⟨rfl, B⟩
set_option maxRecDepth 100000 in
theorem signs_s1 (E M D d : ByteArray) (ax ay : Int) (h1 : E.size < 1) (W : World) (hG : G.Rk W) :
    Calls Tryz.prog 6 #[.agg #[.string E, .string M, .string D], .string d, .int .i64 ax, .int .i64 ay] W fun e w' => e = .returned (.bool true) ∧ Below W.heap.size W w' := by
  have s1 : (E.size : Int) < 1 := by omega
  have HX := Hid.mk kexamples_in
  have G0 := Hid.mk hG
  have K : Bx (W.alloc (.cells #[.string E, .string M, .string D] 54)) W.heap.size E M D := heap_new _ _
  have B : Below W.heap.size W (W.alloc (.cells #[.string E, .string M, .string D] 54)) := (Below.refl _ _).alloc (Nat.le_refl _) _
  clear hG
  go_enter Tryz.func6, Tryz.ntmps6
  go_wp2_with fail
  refine (HX.out _ (G0.out.below B)).mono ?_
  rintro e u1 ⟨rfl, hb⟩
  replace K := K.blk hb
  replace B := bthen B hb
  obtain ⟨k0, k1, k2⟩ := K.c
  clear hb
  go_wp2
  go_ret
  exact ⟨rfl, B⟩
set_option maxRecDepth 100000 in
theorem signs_s2 (E M D d : ByteArray) (ax ay : Int) (h1 : 1 ≤ E.size) (h2 : 8 < E.size) (W : World) (hG : G.Rk W) :
    Calls Tryz.prog 6 #[.agg #[.string E, .string M, .string D], .string d, .int .i64 ax, .int .i64 ay] W fun e w' => e = .returned (.bool true) ∧ Below W.heap.size W w' := by
  have s1 : ¬ ((E.size : Int) < 1) := by omega
  have s2 : (8 : Int) < (E.size : Int) := by omega
  have HX := Hid.mk kexamples_in
  have G0 := Hid.mk hG
  have K : Bx (W.alloc (.cells #[.string E, .string M, .string D] 54)) W.heap.size E M D := heap_new _ _
  have B : Below W.heap.size W (W.alloc (.cells #[.string E, .string M, .string D] 54)) := (Below.refl _ _).alloc (Nat.le_refl _) _
  clear hG
  go_enter Tryz.func6, Tryz.ntmps6
  go_wp2_with fail
  refine (HX.out _ (G0.out.below B)).mono ?_
  rintro e u1 ⟨rfl, hb⟩
  replace K := K.blk hb
  replace B := bthen B hb
  obtain ⟨k0, k1, k2⟩ := K.c
  clear hb
  go_wp2
  go_ret
  exact ⟨rfl, B⟩
set_option maxRecDepth 100000 in
theorem signs_s3 (E M D d : ByteArray) (ax ay : Int) (h1 : 1 ≤ E.size) (h2 : E.size ≤ 8) (hM : M.size ≠ 64) (W : World) (hG : G.Rk W) :
    Calls Tryz.prog 6 #[.agg #[.string E, .string M, .string D], .string d, .int .i64 ax, .int .i64 ay] W fun e w' => e = .returned (.bool true) ∧ Below W.heap.size W w' := by
  have s1 : ¬ ((E.size : Int) < 1) := by omega
  have s2 : ¬ ((8 : Int) < (E.size : Int)) := by omega
  have s3 : ((M.size : Int) != 64) = true := by simp; omega
  have HX := Hid.mk kexamples_in
  have G0 := Hid.mk hG
  have K : Bx (W.alloc (.cells #[.string E, .string M, .string D] 54)) W.heap.size E M D := heap_new _ _
  have B : Below W.heap.size W (W.alloc (.cells #[.string E, .string M, .string D] 54)) := (Below.refl _ _).alloc (Nat.le_refl _) _
  clear hG
  go_enter Tryz.func6, Tryz.ntmps6
  go_wp2_with fail
  refine (HX.out _ (G0.out.below B)).mono ?_
  rintro e u1 ⟨rfl, hb⟩
  replace K := K.blk hb
  replace B := bthen B hb
  obtain ⟨k0, k1, k2⟩ := K.c
  clear hb
  go_wp2
  go_ret
  exact ⟨rfl, B⟩
set_option maxRecDepth 100000 in
theorem signs_s4 (E M D d : ByteArray) (ax ay : Int) (h1 : 1 ≤ E.size) (h2 : E.size ≤ 8) (hM : M.size = 64) (hD : 64 < D.size) (W : World) (hG : G.Rk W) :
    Calls Tryz.prog 6 #[.agg #[.string E, .string M, .string D], .string d, .int .i64 ax, .int .i64 ay] W fun e w' => e = .returned (.bool true) ∧ Below W.heap.size W w' := by
  have s1 : ¬ ((E.size : Int) < 1) := by omega
  have s2 : ¬ ((8 : Int) < (E.size : Int)) := by omega
  have s3 : ((M.size : Int) != 64) = false := by rw [hM]; rfl
  have s4 : (64 : Int) < (D.size : Int) := by omega
  have HX := Hid.mk kexamples_in
  have G0 := Hid.mk hG
  have K : Bx (W.alloc (.cells #[.string E, .string M, .string D] 54)) W.heap.size E M D := heap_new _ _
  have B : Below W.heap.size W (W.alloc (.cells #[.string E, .string M, .string D] 54)) := (Below.refl _ _).alloc (Nat.le_refl _) _
  clear hG
  go_enter Tryz.func6, Tryz.ntmps6
  go_wp2_with fail
  refine (HX.out _ (G0.out.below B)).mono ?_
  rintro e u1 ⟨rfl, hb⟩
  replace K := K.blk hb
  replace B := bthen B hb
  obtain ⟨k0, k1, k2⟩ := K.c
  clear hb
  go_wp2
  go_ret
  exact ⟨rfl, B⟩
set_option maxRecDepth 100000 in
set_option maxHeartbeats 1000000 in
theorem signs_none (E M D d P : ByteArray) (ax ay : Int) (e n : Nat) (er : Int) (rt : Bool) (hE1 : 1 ≤ E.size) (hE8 : E.size ≤ 8) (hM : M.size = 64) (hD : D.size ≤ 64) (hP : (⟨#[UInt8.ofNat E.size]⟩ : ByteArray) ++ E ++ M = P)
    (HR : Hid (∀ W, Calls Tryz.prog 18 #[.string P] W fun e' w' => e' = .returned (.tuple #[.agg (natL e).toArray, .agg (natL n).toArray, .int .i64 er]) ∧ Below W.heap.size W w'))
    (HD : Hid (∀ W, Calls Tryz.prog 24 #[.int .i64 48, .string d] W fun e w' => e = .returned (.bool rt) ∧ Below W.heap.size W w')) (hc : er = 8 ∨ (er = 0 ∧ rt = false)) (W : World) (hG : G.Rk W) :
    Calls Tryz.prog 6 #[.agg #[.string E, .string M, .string D], .string d, .int .i64 ax, .int .i64 ay] W fun e w' => e = .returned (.bool true) ∧ Below W.heap.size W w' := by
  have hz := zero26
  have HX := Hid.mk kexamples_in
  have G0 := Hid.mk hG
  have K : Bx (W.alloc (.cells #[.string E, .string M, .string D] 54)) W.heap.size E M D := heap_new _ _
  have B : Below W.heap.size W (W.alloc (.cells #[.string E, .string M, .string D] 54)) := (Below.refl _ _).alloc (Nat.le_refl _) _
  clear hG
  have G : Has (W.alloc (.cells #[.string E, .string M, .string D] 54)) [] := trivial
  have s1 : ¬ ((E.size : Int) < 1) := by omega
  have s2 : ¬ ((8 : Int) < (E.size : Int)) := by omega
  have s3 : ((M.size : Int) != 64) = false := by rw [hM]; rfl
  have s4 : ¬ ((64 : Int) < (D.size : Int)) := by omega
  have wE : IntKind.u8.wrap (E.size : Int) = (E.size : Int) := by rw [IntKind.wrap_u8]; omega
  have z1 : ¬ (9223372036854775807 < 1 + E.size) := by omega
  have z2 : ¬ (9223372036854775807 < 1 + E.size + M.size) := by omega
  have HE8 := Hid.mk hE8
  clear hE1 hE8 hM hD
  go_enter Tryz.func6, Tryz.ntmps6
  go_wp2_with fail
  refine (HX.out _ (G0.out.below B)).mono ?_
  rintro e u1 ⟨rfl, hb⟩
  replace G := G.blk hb
  replace B := bthen B hb
  replace K := K.blk hb
  clear hb
  obtain ⟨k0, k1, k2⟩ := K.c
  have hkl := box_lt K
  have hkn : W.heap.size ≠ u1.heap.size := by omega
  have hA := (Below.refl u1.heap.size u1).alloc (Nat.le_refl _) (.cells #[.int .u8 (E.size : Int)] 5)
  have hcv : (convert 55 9 (.slice (some ⟨u1.heap.size, 0, none⟩) 1 1)).run Tryz.prog (u1.alloc (.cells #[.int .u8 (E.size : Int)] 5)) = .ok (.string ⟨#[UInt8.ofNat E.size]⟩) (u1.alloc (.cells #[.int .u8 (E.size : Int)] 5)) := by
    have := run_convert_bytes_back (P := Tryz.prog) (u1.alloc (.cells #[.int .u8 (E.size : Int)] 5)) 55 9 5 ⟨u1.heap.size, 0, none⟩ 1 [UInt8.ofNat E.size] Tryz.underlying55 Tryz.underlying5 Tryz.underlying9 (fun j hj => by
      have e0 : j = 0 := by simpa using hj
      subst e0
      have hc0 := (_root_.Go.Proofs.YtlcjagkfeakinaaGreatDoor.G.cells_at (v := .int .u8 (E.size : Int)) (j := 0) (heap_new u1 (.cells #[.int .u8 (E.size : Int)] 5)) rfl).1
      rw [add_at]
      refine hc0.trans ?_
      have := HE8.out
      simp [Nat.mod_eq_of_lt (show E.size < 256 by omega)])
    simpa using this
  go_wp2_with fail
  refine (HR.out _).mono ?_
  rintro e' u2 ⟨rfl, hb⟩
  replace G := (G.blk hA).blk hb
  replace K := (K.blk hA).blk hb
  replace B := bthen (bthen B hA) hb
  clear hb hA hcv k0 k1 k2 hkl hkn hP wE z1 z2
  go_upto_region 6 with fail
  replace G := G.new2 (e) (n)
  replace B := below_new2 (e) (n) B
  replace K := K.blk (two_new u2 (natL (e)) (natL (n)) 43 43).2.2.1
  generalize (u2.alloc (.cells (natL (e)).toArray 43)).alloc (.cells (natL (n)).toArray 43) = v2 at G B K ⊢
  generalize u2.heap.size = b_e at G ⊢
  obtain ⟨b_n, h_n⟩ : ∃ x, b_e + 1 = x := ⟨_, rfl⟩
  rw [h_n] at G ⊢
  clear h_n
  rcases hc with rfl | ⟨rfl, rfl⟩
  · go_wp2
    go_ret
    exact ⟨rfl, B⟩
  · go_wp2_with fail
    refine (HD.out _).mono ?_
    rintro e u3 ⟨rfl, hb⟩
    replace G := G.blk hb
    replace B := bthen B hb
    replace K := K.blk hb
    clear hb
    go_wp2
    go_ret
    exact ⟨rfl, B⟩
theorem cmp_ne {a b : Nat} (h : a ≠ b) : (cmpI a b == 0) = false := by
  rw [beq_eq_false_iff_ne]
  unfold cmpI Lib.compareInt
  split
  · omega
  · split <;> omega
theorem of_ok' (s : ByteArray) (h : s.size ≤ 512) (W : World) : Calls Tryz.prog 25 #[.string s] W fun e w' => e = .returned (.tuple #[.agg (natL (numB s.data.toList)).toArray, .int .i64 0]) ∧ Below W.heap.size W w' := by
  have := of_in s (by omega) W
  rwa [ofR_ok _ (Nat.le_trans (strip_le _) (by rw [size_list]; exact h))] at this
theorem pow_ok' (a x n : Nat) (ha : a < Lim) (hx : x < Lim) (hn : n < Lim) (h0 : n ≠ 0) (hb : btl n ≤ 2048) (W : World) : Calls Tryz.prog 27 #[.agg (natL a).toArray, .agg (natL x).toArray, .agg (natL n).toArray] W fun e w' => e = .returned (.tuple #[.agg (natL (a ^ x % n)).toArray, .int .i64 0]) ∧ Below W.heap.size W w' := by
  have := pow_in a x n ha hx hn W
  rwa [show powR a x n = .returned (.tuple #[.agg (natL (a ^ x % n)).toArray, .int .i64 0]) by unfold powR; rw [if_pos ((flt_ok n).2 ⟨h0, hb⟩)]] at this
theorem keyssigns_walk (E M D : ByteArray) (d : ByteArray) (hd0 : d.size ≤ 140737488355328) (ax : Int) (hax : (Lit.int .i64 ax).wf = true) (ay : Int) (hay : (Lit.int .i64 ay).wf = true) (W : World) (hG : G.Rk W) :
    Calls Tryz.prog 6 #[.agg #[.string E, .string M, .string D], .string d, .int .i64 ax, .int .i64 ay] W fun e w' => e = .returned (.bool true) ∧ Below W.heap.size W w' := by
  have hd' : d.size ≤ maxLen := by unfold maxLen; omega
  by_cases hE1 : 1 ≤ E.size
  · by_cases hE8 : E.size ≤ 8
    · by_cases hM : M.size = 64
      · by_cases hD : D.size ≤ 64
        · have hPs : (pubB E M).size ≤ 140737488355328 := by
            rw [← size_list, pub_list, List.length_cons, List.length_append, size_list, size_list, hM]; omega
          have HR := Hid.mk (krsa_in (pubB E M) hPs)
          have HDt := Hid.mk (K48.right48 d hd')
          cases hr : rsaR (pubB E M) with
          | none =>
            rw [hr] at HR
            exact signs_none E M D d _ ax ay 0 0 8 _ hE1 hE8 hM hD rfl HR HDt (.inl rfl) W hG
          | some q =>
            obtain ⟨e, n⟩ := q
            rw [hr] at HR
            obtain ⟨hL, hn0, hbt, he, hn⟩ := pub_rsa hE1 hE8 hM hr
            by_cases h5 : 5 ≤ d.size ∧ d.size ≤ 2000
            · rw [decide_eq_true h5] at HDt
              have hnp : n < 256 ^ 64 := by rw [← hL]; exact nbl_lt n
              have hDl : numB D.data.toList < Lim := knum_lim _ (by rw [size_list]; omega)
              have hZ : (⟨(G.sha2 (txtB d).data.toList).toArray⟩ : ByteArray).size = 32 := G.sha2_len _
              have hQl := padB_len _ hZ
              have hbl : blkN (txtB d) < Lim := knum_lim _ (by rw [hQl]; omega)
              have Hb := Hid.mk (fun W hG => lblock_in d _ hZ (Hid.mk fun W hG => by
                have := digest_in 2 exO d (by decide) hd' W hG
                rwa [dig_root d h5.1 h5.2] at this) W hG)
              have HO2 := Hid.mk (of_ok' (padB ⟨(G.sha2 (txtB d).data.toList).toArray⟩ 64) (by rw [← size_list, hQl]; omega))
              have HP1 := Hid.mk (pow_ok' (blkN (txtB d)) (numB D.data.toList) n hbl hDl hn hn0 hbt)
              have hsn : blkN (txtB d) ^ numB D.data.toList % n < n := Nat.mod_lt _ (by omega)
              generalize hs : blkN (txtB d) ^ numB D.data.toList % n = s at HP1 hsn
              have HW := Hid.mk (wide_in s 64 (by omega) (by omega) ((nbl_le_iff s 64).2 (by omega)))
              obtain ⟨S, hS⟩ : ∃ S : ByteArray, (⟨(bys s 64).toArray⟩ : ByteArray) = S := ⟨_, rfl⟩
              rw [hS] at HW
              have hSl : S.data.toList = bys s 64 := by rw [← hS]
              have hSs : S.size = 64 := by rw [← size_list, hSl, bys_len]
              have hSn : numB S.data.toList = s := by rw [hSl, numB_bys, Nat.mod_eq_of_lt (by omega)]
              have HP2 := Hid.mk (pow_ok' s e n (by omega) he hn hn0 hbt)
              have htn : s ^ e % n < n := Nat.mod_lt _ (by omega)
              have hv1 : vfyR (pubB E M) (txtB d) S = decide (s ^ e % n = blkN (txtB d)) := by
                rw [vfy_64 hr hL hSs hn0, hSn, decide_eq_true hsn, Bool.true_and]
              generalize ht : s ^ e % n = t at HP2 htn hv1
              have HX' : (txtB d).size ≤ 140737488355328 := by rw [ByteArray.size_append]; show 1 + d.size ≤ _; omega
              have HV1 := Hid.mk (fun W hG => verify_in (pubB E M) (txtB d) S hPs HX' W hG)
              have HV3 := Hid.mk (fun W hG => verify_in (pubB E M) (txtB d) (S.extract 1 64) hPs HX' W hG)
              rw [vfy_short hr hL (by rw [ByteArray.size_extract]; omega)] at HV3
              have hq1 : ((cmpI t (blkN (txtB d)) == 0) = true ∧ cmpI (blkN (txtB d)) n < 0 ∧ vfyR (pubB E M) (txtB d) S = true) ∨ ((cmpI t (blkN (txtB d)) == 0) = false ∧ vfyR (pubB E M) (txtB d) S = false) := by
                rw [hv1]
                by_cases h : t = blkN (txtB d)
                · left
                  rw [← h, cmpI_eq, cmp_lt htn]
                  simp
                · right
                  exact ⟨cmp_ne h, decide_eq_false h⟩
              have key : ∀ (I : Nat) (c' : UInt8), I < 64 → ∃ Tn : ByteArray, Tn = ⟨(S.data.toList.set I c').toArray⟩ ∧ Tn.size = 64 := fun I c' _ => ⟨_, rfl, by rw [ba_size, List.length_set, size_list, hSs]⟩
              have rest : ∀ (Tn : ByteArray), Tn.size = 64 → numB Tn.data.toList < Lim ∧ (((cmpI (numB Tn.data.toList ^ e % n) (blkN (txtB d)) == 0) = true ∧ cmpI (numB Tn.data.toList) n < 0 ∧ cmpI (blkN (txtB d)) n < 0 ∧ vfyR (pubB E M) (txtB d) Tn = true) ∨ ((cmpI (numB Tn.data.toList ^ e % n) (blkN (txtB d)) == 0) = true ∧ ¬ cmpI (numB Tn.data.toList) n < 0 ∧ vfyR (pubB E M) (txtB d) Tn = false) ∨ ((cmpI (numB Tn.data.toList ^ e % n) (blkN (txtB d)) == 0) = false ∧ vfyR (pubB E M) (txtB d) Tn = false)) := by
                intro Tn hTs
                refine ⟨knum_lim _ (by rw [size_list]; omega), ?_⟩
                rw [vfy_64 hr hL hTs hn0]
                have hpn : numB Tn.data.toList ^ e % n < n := Nat.mod_lt _ (by omega)
                generalize numB Tn.data.toList ^ e % n = p at hpn
                by_cases h : p = blkN (txtB d)
                · by_cases hy : numB Tn.data.toList < n
                  · left
                    rw [← h, cmpI_eq, cmp_lt hpn, cmp_lt hy]
                    simp [hy]
                  · right; left
                    have := cmp_ge hy
                    rw [← h, cmpI_eq]
                    exact ⟨rfl, by omega, by simp [hy]⟩
                · right; right
                  exact ⟨cmp_ne h, by simp [h]⟩
              have bx := Go.bounds_i64 hax
              obtain ⟨I, mI, lI⟩ : ∃ I : Nat, (if ax < 0 then -(ax + 1) else ax).tmod 64 = (I : Nat) ∧ I < 64 := by
                refine ⟨((if ax < 0 then -(ax + 1) else ax) % 64).toNat, ?_, by omega⟩
                rw [Int.tmod_eq_emod_of_nonneg (by split <;> omega)]
                omega
              by_cases hat : ax < 0
              · rw [if_pos hat] at mI
                have wa1 : IntKind.i64.wrap (ax + 1) = ax + 1 := by rw [IntKind.wrap_i64]; omega
                have wa2 : IntKind.i64.wrap (-(ax + 1)) = -(ax + 1) := by rw [IntKind.wrap_i64]; omega
                by_cases hz : (ay.tmod 256 == 0) = true
                · obtain ⟨c', hc'⟩ := xor_byte ((S.data.toList[I]?.getD 0).toNat : Int) 1
                  obtain ⟨Tn, hTn, hTs⟩ := key I c' lI
                  obtain ⟨hyl, hq3⟩ := rest Tn hTs
                  exact signs_nz E M D d _ _ S _ Tn ax ay e n _ _ s t _ _ _ _ _ _ _ _ I c' hE1 hE8 hM hD h5.2 hSs lI rfl rfl (Hid.mk hTn) HR HDt (Hid.mk (of_ok' D (by omega))) Hb HO2 HP1 HW HP2 (Hid.mk (cmp_in t _ (by omega) hbl)) (Hid.mk (cmp_in _ n hbl hn)) HV1 (Hid.mk (of_ok' Tn (by omega))) (Hid.mk (pow_ok' _ e n hyl he hn hn0 hbt)) (Hid.mk (cmp_in _ _ (Nat.lt_trans (Nat.mod_lt _ (by omega)) hn) hbl)) (Hid.mk (cmp_in _ n hyl hn)) (Hid.mk fun W hG => verify_in (pubB E M) (txtB d) Tn hPs HX' W hG) HV3 hq1 hq3 hat wa1 wa2 mI hz (Hid.mk fun z hzz => by rw [← hzz]; exact hc') W hG
                · obtain ⟨c', hc'⟩ := xor_byte ((S.data.toList[I]?.getD 0).toNat : Int) (ay % 256)
                  obtain ⟨Tn, hTn, hTs⟩ := key I c' lI
                  obtain ⟨hyl, hq3⟩ := rest Tn hTs
                  exact signs_nn E M D d _ _ S _ Tn ax ay e n _ _ s t _ _ _ _ _ _ _ _ I c' hE1 hE8 hM hD h5.2 hSs lI rfl rfl (Hid.mk hTn) HR HDt (Hid.mk (of_ok' D (by omega))) Hb HO2 HP1 HW HP2 (Hid.mk (cmp_in t _ (by omega) hbl)) (Hid.mk (cmp_in _ n hbl hn)) HV1 (Hid.mk (of_ok' Tn (by omega))) (Hid.mk (pow_ok' _ e n hyl he hn hn0 hbt)) (Hid.mk (cmp_in _ _ (Nat.lt_trans (Nat.mod_lt _ (by omega)) hn) hbl)) (Hid.mk (cmp_in _ n hyl hn)) (Hid.mk fun W hG => verify_in (pubB E M) (txtB d) Tn hPs HX' W hG) HV3 hq1 hq3 hat wa1 wa2 mI (by simpa using hz) (Hid.mk fun z hzz => by rw [← hzz]; exact hc') W hG
              · rw [if_neg hat] at mI
                by_cases hz : (ay.tmod 256 == 0) = true
                · obtain ⟨c', hc'⟩ := xor_byte ((S.data.toList[I]?.getD 0).toNat : Int) 1
                  obtain ⟨Tn, hTn, hTs⟩ := key I c' lI
                  obtain ⟨hyl, hq3⟩ := rest Tn hTs
                  exact signs_pz E M D d _ _ S _ Tn ax ay e n _ _ s t _ _ _ _ _ _ _ _ I c' hE1 hE8 hM hD h5.2 hSs lI rfl rfl (Hid.mk hTn) HR HDt (Hid.mk (of_ok' D (by omega))) Hb HO2 HP1 HW HP2 (Hid.mk (cmp_in t _ (by omega) hbl)) (Hid.mk (cmp_in _ n hbl hn)) HV1 (Hid.mk (of_ok' Tn (by omega))) (Hid.mk (pow_ok' _ e n hyl he hn hn0 hbt)) (Hid.mk (cmp_in _ _ (Nat.lt_trans (Nat.mod_lt _ (by omega)) hn) hbl)) (Hid.mk (cmp_in _ n hyl hn)) (Hid.mk fun W hG => verify_in (pubB E M) (txtB d) Tn hPs HX' W hG) HV3 hq1 hq3 hat mI hz (Hid.mk fun z hzz => by rw [← hzz]; exact hc') W hG
                · obtain ⟨c', hc'⟩ := xor_byte ((S.data.toList[I]?.getD 0).toNat : Int) (ay % 256)
                  obtain ⟨Tn, hTn, hTs⟩ := key I c' lI
                  obtain ⟨hyl, hq3⟩ := rest Tn hTs
                  exact signs_pn E M D d _ _ S _ Tn ax ay e n _ _ s t _ _ _ _ _ _ _ _ I c' hE1 hE8 hM hD h5.2 hSs lI rfl rfl (Hid.mk hTn) HR HDt (Hid.mk (of_ok' D (by omega))) Hb HO2 HP1 HW HP2 (Hid.mk (cmp_in t _ (by omega) hbl)) (Hid.mk (cmp_in _ n hbl hn)) HV1 (Hid.mk (of_ok' Tn (by omega))) (Hid.mk (pow_ok' _ e n hyl he hn hn0 hbt)) (Hid.mk (cmp_in _ _ (Nat.lt_trans (Nat.mod_lt _ (by omega)) hn) hbl)) (Hid.mk (cmp_in _ n hyl hn)) (Hid.mk fun W hG => verify_in (pubB E M) (txtB d) Tn hPs HX' W hG) HV3 hq1 hq3 hat mI (by simpa using hz) (Hid.mk fun z hzz => by rw [← hzz]; exact hc') W hG
            · rw [decide_eq_false h5] at HDt
              exact signs_none E M D d _ ax ay e n 0 false hE1 hE8 hM hD rfl HR HDt (.inr ⟨rfl, rfl⟩) W hG
        · exact signs_s4 E M D d ax ay hE1 hE8 hM (by omega) W hG
      · exact signs_s3 E M D d ax ay hE1 hE8 hM W hG
    · exact signs_s2 E M D d ax ay hE1 (by omega) W hG
  · exact signs_s1 E M D d ax ay (by omega) W hG
end Go.Proofs.YtlcjagkfeakinaaGreatDoor.N
