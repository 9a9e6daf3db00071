/- Texts of this proof, joined: GTop, CCv, CScl, COn, CP256, CPofA. -/
import Derived.Test.YtmjenhilafdioaaDoorJ12
import Derived.Test.YtmjenhilafdioaaDoorJ9
import Derived.Test.YtmjenhilafdioaaDoorJ4
/- Hex, Base32, Unhex, Unbase32; the examples. -/
namespace Go.Proofs.YtmjenhilafdioaaDoor.G
set_option linter.unusedVariables false
open Go.RowKit
theorem hex_in (s : ByteArray) (hs : s.size ≤ 1048576) (W : World) : Calls Tryd.prog 17 #[.string s] W fun e w' => e = .returned (.string ⟨(spl 4 s.data.toList).toArray⟩) ∧ Below W.heap.size W w' := by
  have H := Hid.mk (spelt_in s hs 4 (.inl rfl))
  go_enter Tryd.func17, Tryd.ntmps17
  go_wp2_with fail
  refine (H.out _).mono ?_
  rintro e w1 ⟨rfl, hb⟩
  go_wp2
  go_ret
  exact ⟨rfl, hb⟩
theorem unhex_yes (t : ByteArray) (ht : t.size ≤ 8388613) (s : List UInt8) (h : uns 4 t.data.toList = some s) (W : World) : Calls Tryd.prog 21 #[.string t] W fun e w' => e = .returned (.tuple #[.string ⟨s.toArray⟩, .int .i64 0]) ∧ Below W.heap.size W w' := by
  have H := Hid.mk (unspelt_4 t ht)
  rw [unsE, h] at H
  clear h
  go_enter Tryd.func21, Tryd.ntmps21
  go_wp2_with fail
  refine (H.out _).mono ?_
  rintro e w1 ⟨rfl, hb⟩
  go_wp2
  go_ret2
  exact ⟨rfl, hb⟩
theorem ex_vs : uns 5 [86, 83] = some [255] := by decide +kernel
theorem ex_vt : uns 5 [118, 116] = none := by decide +kernel
theorem ex_ff : uns 4 [102, 70] = some [255] := by decide +kernel
theorem ex_h1 : spl 4 (sha1 [97, 98, 99]) = [97, 57, 57, 57, 51, 101, 51, 54, 52, 55, 48, 54, 56, 49, 54, 97, 98, 97, 51, 101, 50, 53, 55, 49, 55, 56, 53, 48, 99, 50, 54, 99, 57, 99, 100, 48, 100, 56, 57, 100] := by rw [sha1_abc]; decide +kernel
theorem ex_b : spl 5 [255] = [118, 115] := by decide +kernel
end Go.Proofs.YtmjenhilafdioaaDoor.G

/- The curve in its box: numberOf, known, reckoningOf, p256, nowhere. -/
namespace Go.Proofs.YtmjenhilafdioaaDoor
set_option linter.unusedVariables false
set_option linter.unusedSimpArgs false
open Go.RowKit N
attribute [local go_sem ↓] N.loadAt_nat N.storeAt_nat N.build_nat N.build_nat' loadAt_pt storeAt_pt build_pt0 build_pt0' build_pt'
attribute [local go_sem] N.st1 N.st2a N.st2b N.st1d N.st2ad N.st2bd N.natBuild_run ptst1 ptst1d ptBuild0_run build_pt ptBuild_run
abbrev hexP : ByteArray := ⟨#[102, 102, 102, 102, 102, 102, 102, 102, 48, 48, 48, 48, 48, 48, 48, 49, 48, 48, 48, 48, 48, 48, 48, 48, 48, 48, 48, 48, 48, 48, 48, 48, 48, 48, 48, 48, 48, 48, 48, 48, 102, 102, 102, 102, 102, 102, 102, 102, 102, 102, 102, 102, 102, 102, 102, 102, 102, 102, 102, 102, 102, 102, 102, 102]⟩
abbrev hexPb : List UInt8 := [255, 255, 255, 255, 0, 0, 0, 1, 0, 0, 0, 0, 0, 0, 0, 0, 0, 0, 0, 0, 255, 255, 255, 255, 255, 255, 255, 255, 255, 255, 255, 255]
theorem hexP_u : G.uns 4 hexP.data.toList = some hexPb := by decide +kernel
abbrev hexN : ByteArray := ⟨#[102, 102, 102, 102, 102, 102, 102, 102, 48, 48, 48, 48, 48, 48, 48, 48, 102, 102, 102, 102, 102, 102, 102, 102, 102, 102, 102, 102, 102, 102, 102, 102, 98, 99, 101, 54, 102, 97, 97, 100, 97, 55, 49, 55, 57, 101, 56, 52, 102, 51, 98, 57, 99, 97, 99, 50, 102, 99, 54, 51, 50, 53, 53, 49]⟩
abbrev hexNb : List UInt8 := [255, 255, 255, 255, 0, 0, 0, 0, 255, 255, 255, 255, 255, 255, 255, 255, 188, 230, 250, 173, 167, 23, 158, 132, 243, 185, 202, 194, 252, 99, 37, 81]
theorem hexN_u : G.uns 4 hexN.data.toList = some hexNb := by decide +kernel
abbrev hexB : ByteArray := ⟨#[53, 97, 99, 54, 51, 53, 100, 56, 97, 97, 51, 97, 57, 51, 101, 55, 98, 51, 101, 98, 98, 100, 53, 53, 55, 54, 57, 56, 56, 54, 98, 99, 54, 53, 49, 100, 48, 54, 98, 48, 99, 99, 53, 51, 98, 48, 102, 54, 51, 98, 99, 101, 51, 99, 51, 101, 50, 55, 100, 50, 54, 48, 52, 98]⟩
abbrev hexBb : List UInt8 := [90, 198, 53, 216, 170, 58, 147, 231, 179, 235, 189, 85, 118, 152, 134, 188, 101, 29, 6, 176, 204, 83, 176, 246, 59, 206, 60, 62, 39, 210, 96, 75]
theorem hexB_u : G.uns 4 hexB.data.toList = some hexBb := by decide +kernel
abbrev hexX : ByteArray := ⟨#[54, 98, 49, 55, 100, 49, 102, 50, 101, 49, 50, 99, 52, 50, 52, 55, 102, 56, 98, 99, 101, 54, 101, 53, 54, 51, 97, 52, 52, 48, 102, 50, 55, 55, 48, 51, 55, 100, 56, 49, 50, 100, 101, 98, 51, 51, 97, 48, 102, 52, 97, 49, 51, 57, 52, 53, 100, 56, 57, 56, 99, 50, 57, 54]⟩
abbrev hexXb : List UInt8 := [107, 23, 209, 242, 225, 44, 66, 71, 248, 188, 230, 229, 99, 164, 64, 242, 119, 3, 125, 129, 45, 235, 51, 160, 244, 161, 57, 69, 216, 152, 194, 150]
theorem hexX_u : G.uns 4 hexX.data.toList = some hexXb := by decide +kernel
abbrev hexY : ByteArray := ⟨#[52, 102, 101, 51, 52, 50, 101, 50, 102, 101, 49, 97, 55, 102, 57, 98, 56, 101, 101, 55, 101, 98, 52, 97, 55, 99, 48, 102, 57, 101, 49, 54, 50, 98, 99, 101, 51, 51, 53, 55, 54, 98, 51, 49, 53, 101, 99, 101, 99, 98, 98, 54, 52, 48, 54, 56, 51, 55, 98, 102, 53, 49, 102, 53]⟩
abbrev hexYb : List UInt8 := [79, 227, 66, 226, 254, 26, 127, 155, 142, 231, 235, 74, 124, 15, 158, 22, 43, 206, 51, 87, 107, 49, 94, 206, 203, 182, 64, 104, 55, 191, 81, 245]
theorem hexY_u : G.uns 4 hexY.data.toList = some hexYb := by decide +kernel
abbrev hexG : ByteArray := ⟨#[54, 98, 49, 55, 100, 49, 102, 50, 101, 49, 50, 99, 52, 50, 52, 55, 102, 56, 98, 99, 101, 54, 101, 53, 54, 51, 97, 52, 52, 48, 102, 50, 55, 55, 48, 51, 55, 100, 56, 49, 50, 100, 101, 98, 51, 51, 97, 48, 102, 52, 97, 49, 51, 57, 52, 53, 100, 56, 57, 56, 99, 50, 57, 54, 52, 102, 101, 51, 52, 50, 101, 50, 102, 101, 49, 97, 55, 102, 57, 98, 56, 101, 101, 55, 101, 98, 52, 97, 55, 99, 48, 102, 57, 101, 49, 54, 50, 98, 99, 101, 51, 51, 53, 55, 54, 98, 51, 49, 53, 101, 99, 101, 99, 98, 98, 54, 52, 48, 54, 56, 51, 55, 98, 102, 53, 49, 102, 53]⟩
abbrev hexGb : List UInt8 := [107, 23, 209, 242, 225, 44, 66, 71, 248, 188, 230, 229, 99, 164, 64, 242, 119, 3, 125, 129, 45, 235, 51, 160, 244, 161, 57, 69, 216, 152, 194, 150, 79, 227, 66, 226, 254, 26, 127, 155, 142, 231, 235, 74, 124, 15, 158, 22, 43, 206, 51, 87, 107, 49, 94, 206, 203, 182, 64, 104, 55, 191, 81, 245]
theorem hexG_u : G.uns 4 hexG.data.toList = some hexGb := by decide +kernel
theorem hexP_n : N.numB hexPb = pP := by decide +kernel
theorem hexN_n : N.numB hexNb = nN := by decide +kernel
theorem hexB_n : N.numB hexBb = bP := by decide +kernel
theorem hexX_n : N.numB hexXb = bX := by decide +kernel
theorem hexY_n : N.numB hexYb = bY := by decide +kernel
abbrev fnM (f m : Nat) : Value := .func (.func f) #[boxM m] #[]
/-- what a modulus does, as values. -/
def rkL (m : Nat) : List Value := [fnM 58 m, fnM 59 m, fnM 60 m, fnM 61 m, fnM 62 m, fnM 63 m]
noncomputable def cvL (mp mn : Nat) : List Value := rkL mp ++ rkL mn ++ N.natL bP
/-- the curve lies there. -/
structure Cv (W : World) (c mp mn : Nat) : Prop where
  box : W.heap[c]? = some (.cells (cvL mp mn).toArray 67 (0, 0))
  p : W.heap[mp]? = some (.cells (N.natL pP).toArray 98 (0, 0))
  n : W.heap[mn]? = some (.cells (N.natL nN).toArray 98 (0, 0))
theorem Cv.blk {W w : World} {c mp mn : Nat} (h : Cv W c mp mn) (hb : Below W.heap.size W w) : Cv w c mp mn :=
  ⟨(hb.block _ (N.box_lt h.box)).trans h.box, (hb.block _ (N.box_lt h.p)).trans h.p, (hb.block _ (N.box_lt h.n)).trans h.n⟩
theorem Fm.cv {W w : World} {l : List (Nat × Obj)} {c mp mn : Nat} (h : Fm W l w) (hc : Cv W c mp mn) : Cv w c mp mn := hc.blk h.bel
theorem Fz.bel {W w : World} {b : Nat} {l : List (Nat × Obj)} (h : Fz W b l w) : Below W.heap.size W w := h.elim fun z h => h.bel
theorem Fq.bel {W w : World} {b : Nat} {l : List (Nat × Obj)} (h : Fq W b l w) : Below W.heap.size W w := h.elim fun z h => h.bel
theorem Fz.cv {W w : World} {b : Nat} {l : List (Nat × Obj)} {c mp mn : Nat} (h : Fz W b l w) (hc : Cv W c mp mn) : Cv w c mp mn := hc.blk h.bel
theorem Fq.cv {W w : World} {b : Nat} {l : List (Nat × Obj)} {c mp mn : Nat} (h : Fq W b l w) (hc : Cv W c mp mn) : Cv w c mp mn := hc.blk h.bel
theorem Cv.fn {W : World} {c mp mn : Nat} (h : Cv W c mp mn) (k : Nat) {v : Value} (e : (rkL mp ++ rkL mn)[k]? = some v) : W.cell? ⟨c, k, none⟩ = some v := by
  refine (N.cells_at h.box ?_).1
  unfold cvL
  rw [List.getElem?_append_left (List.getElem?_eq_some_iff.1 e).1]
  exact e
theorem Cv.b {W : World} {c mp mn : Nat} (h : Cv W c mp mn) : (N.natLoad (.pointer (some ⟨c, 12, none⟩))).run Tryd.prog W = .ok (.agg (N.natL bP).toArray) W :=
  natLoad_mid (A := rkL mp ++ rkL mn) (B := []) h.box (by simp [cvL]) rfl
theorem lim2 {A B : Nat} (hA : A < 2 ^ 256) (hB : B < 2 ^ 256) : A * B < N.Lim := by
  refine N.lim_big 16 _ (by omega) ?_
  have h2 : A * B < 2 ^ 256 * 2 ^ 256 := by
    have h1 : A * B ≤ A * 2 ^ 256 := Nat.mul_le_mul (Nat.le_refl _) (Nat.le_of_lt hB)
    have h3 : A * 2 ^ 256 < 2 ^ 256 * 2 ^ 256 := (Nat.mul_lt_mul_right (by decide)).2 hA
    exact Nat.lt_of_le_of_lt h1 h3
  exact Nat.lt_of_lt_of_le h2 (by decide)
theorem p256_lt : pP < 2 ^ 256 := by decide
theorem n256_lt : nN < 2 ^ 256 := by decide
theorem flt_p : N.flt pP = 0 := (N.flt_ok pP).2 ⟨by decide, by decide +kernel⟩
theorem flt_n : N.flt nN = 0 := (N.flt_ok nN).2 ⟨by decide, by decide +kernel⟩
theorem pTimes {W : World} {c mp mn A B : Nat} (C : Cv W c mp mn) (hA : A < pP) (hB : B < pP) : Calls Tryd.prog 63 #[boxM mp, .agg (N.natL A).toArray, .agg (N.natL B).toArray] W fun e w' => e = .returned (.agg (N.natL (mtimes A B)).toArray) ∧ Below W.heap.size W w' :=
  times_in mp pP A B W C.p pP_lim (lim_p hA) (lim_p hB) (lim2 (Nat.lt_trans hA p256_lt) (Nat.lt_trans hB p256_lt)) (by decide)
theorem pPlus {W : World} {c mp mn A B : Nat} (C : Cv W c mp mn) (hA : A < pP) (hB : B < pP) : Calls Tryd.prog 61 #[boxM mp, .agg (N.natL A).toArray, .agg (N.natL B).toArray] W fun e w' => e = .returned (.agg (N.natL (mplus A B)).toArray) ∧ Below W.heap.size W w' :=
  plus_in mp pP A B W C.p pP_lim hA hB (Nat.le_of_lt (N.lim_big 9 (pP + pP) (by omega) (by decide)))
theorem pMinus {W : World} {c mp mn A B : Nat} (C : Cv W c mp mn) (hA : A < pP) (hB : B < pP) : Calls Tryd.prog 62 #[boxM mp, .agg (N.natL A).toArray, .agg (N.natL B).toArray] W fun e w' => e = .returned (.agg (N.natL (mminus A B)).toArray) ∧ Below W.heap.size W w' :=
  minus_in mp pP A B W C.p pP_lim hA hB
theorem pBelow {W : World} {c mp mn A : Nat} (C : Cv W c mp mn) (hA : A < N.Lim) : Calls Tryd.prog 58 #[boxM mp, .agg (N.natL A).toArray] W fun e w' => e = .returned (.bool (decide (A < pP))) ∧ Below W.heap.size W w' :=
  below_in mp pP A W C.p pP_lim hA
theorem pInv {W : World} {c mp mn A : Nat} (C : Cv W c mp mn) (hA : A < pP) (h0 : A ≠ 0) : Calls Tryd.prog 60 #[boxM mp, .agg (N.natL A).toArray] W fun e w' => e = .returned (.agg (N.natL (ivN pP A)).toArray) ∧ Below W.heap.size W w' :=
  inverse_in mp pP A W C.p pP_lim (lim_p hA) flt_p (by rw [Nat.gcd_comm]; exact cop_p hA h0)
/-- what is not 0 has an inverse, and it is told. -/
theorem iv_spec {P A : Nat} (hp : Pr P) (h0 : A ≠ 0) (hA : A < P) : A * ivN P A % P = 1 ∧ ivN P A < P := by
  have h2 := hp.1
  have hnd : ¬ P ∣ A := fun h => by
    have := Nat.le_of_dvd (Nat.pos_of_ne_zero h0) h
    omega
  have hf := fermat hp hnd
  have h1 : 1 % P = 1 := Nat.mod_eq_of_lt (by omega)
  have he : A * (A ^ (P - 2) % P) % P = 1 % P := by
    rw [Nat.mul_mod, Nat.mod_mod, ← Nat.mul_mod, Nat.mul_comm, ← Nat.pow_succ, show (P - 2).succ = P - 1 by omega, hf, h1]
  have hi := ivN_is (P := P) (A := A) ⟨A ^ (P - 2) % P, Or.inl ⟨rfl, Nat.mod_lt _ (by omega), he⟩⟩
  rcases hi with ⟨_, h3, h4⟩ | ⟨h5, _⟩
  · exact ⟨by rw [h4, h1], h3⟩
  · simp at h5
theorem strip_le' : ∀ l : List UInt8, (N.strip l).length ≤ l.length
  | [] => by simp [N.strip]
  | x :: l => by
    rw [N.strip]
    split
    · have := strip_le' l; simp; omega
    · exact Nat.le_refl _
set_option maxRecDepth 100000 in
set_option maxHeartbeats 1000000 in
theorem numberOf_in (s : ByteArray) (hs : s.size ≤ 512) (W : World) : Calls Tryd.prog 29 #[.string s] W fun e w' => e = .returned (.agg (N.natL (N.numB s.data.toList)).toArray) ∧ Below W.heap.size W w' := by
  have hz := N.zero26
  have HO := Hid.mk (N.of_in s (by omega))
  have h5 : (N.strip s.data.toList).length ≤ 512 := Nat.le_trans (strip_le' _) (by rw [size_list]; exact hs)
  rw [show N.ofR s.data.toList = .returned (.tuple #[.agg (N.natL (N.numB s.data.toList)).toArray, .int .i64 0]) from if_pos h5] at HO
  clear h5 hs
  generalize N.numB s.data.toList = Q at HO ⊢
  obtain ⟨V, hV, F⟩ : ∃ V, (W.alloc (Obj.cells (N.natL 0).toArray 29 (0, 0))) = V ∧ Fm W [(W.heap.size, Obj.cells (N.natL 0).toArray 29 (0, 0))] V := ⟨_, rfl, Fm.box1 W _⟩
  go_enter Tryd.func29, Tryd.ntmps29
  go_wp2_with fail
  refine (HO.out _).mono ?_
  rintro e u1 ⟨rfl, hb⟩
  replace F := F.blk hb
  clear hb hV
  go_upto_region 2 with fail
  replace F := F.new (Obj.cells (N.natL Q).toArray 29 (0, 0))
  generalize u1.alloc (Obj.cells (N.natL Q).toArray 29 (0, 0)) = v1 at F ⊢
  generalize u1.heap.size = b3 at F ⊢
  have l3 := N.natLoad_run (F.get 0 rfl)
  have s2 := N.natStore_run (N := Q) (F.get 1 rfl)
  have F4 := F.put 1 (N.natL Q).toArray rfl
  go_wp2
  exact bodyPost_ret (N.results_nat Tryd.results29 rfl (F4.get 1 rfl) (N.natL_len Q)) rfl ⟨rfl, F4.bel⟩
set_option maxRecDepth 100000 in
set_option maxHeartbeats 1000000 in
theorem known_in (h : ByteArray) (s : List UInt8) (hh : h.size ≤ 1000) (hu : G.uns 4 h.data.toList = some s) (hs : s.length ≤ 512) (W : World) : Calls Tryd.prog 35 #[.string h] W fun e w' => e = .returned (.agg (N.natL (N.numB s)).toArray) ∧ Below W.heap.size W w' := by
  have hz := N.zero26
  have HU := Hid.mk (G.unhex_yes h (by omega) s hu)
  have HO := Hid.mk (numberOf_in ⟨s.toArray⟩ (by show s.toArray.size ≤ 512; simpa using hs))
  rw [show (⟨s.toArray⟩ : ByteArray).data.toList = s from rfl] at HO
  clear hu hs hh
  generalize N.numB s = Q at HO ⊢
  obtain ⟨V, hV, F⟩ : ∃ V, (W.alloc (Obj.cells (N.natL 0).toArray 29 (0, 0))) = V ∧ Fm W [(W.heap.size, Obj.cells (N.natL 0).toArray 29 (0, 0))] V := ⟨_, rfl, Fm.box1 W _⟩
  go_enter Tryd.func35, Tryd.ntmps35
  go_wp2_with fail
  refine (HU.out _).mono ?_
  rintro e u1 ⟨rfl, hb⟩
  replace F := F.blk hb
  clear hb hV
  go_wp2_with fail
  refine (HO.out _).mono ?_
  rintro e u2 ⟨rfl, hb⟩
  replace F := F.blk hb
  clear hb
  have s2 := N.natStore_run (N := Q) (F.get 0 rfl)
  have F4 := F.put 0 (N.natL Q).toArray rfl
  go_wp2
  exact bodyPost_ret (N.results_nat Tryd.results35 rfl (F4.get 0 rfl) (N.natL_len Q)) rfl ⟨rfl, F4.bel⟩
theorem eqPt (W : World) (a b : T3) (ha : a.Lm) (hb : b.Lm) : (binOp .eql 41 (.agg (ptL a).toArray) (.agg (ptL b).toArray)).run Tryd.prog W = .ok (.bool (decide (a = b))) W := by
  rw [run_eql_struct, ptEq_run W ha hb]
  rfl
theorem eqNat (W : World) (a b : Nat) (ha : a < N.Lim) (hb : b < N.Lim) : (binOp .eql 29 (.agg (N.natL a).toArray) (.agg (N.natL b).toArray)).run Tryd.prog W = .ok (.bool (decide (a = b))) W := by
  rw [run_eql_struct, natEq_run 9997 W ha hb]
  rfl
def natEqV (x y : Value) : Sem Value := binOp .eql 29 x y
def ptEqV (x y : Value) : Sem Value := binOp .eql 41 x y
theorem bin_nat (x y : Value) : binOp .eql 29 x y = natEqV x y := rfl
theorem bin_pt (x y : Value) : binOp .eql 41 x y = ptEqV x y := rfl
attribute [local go_sem ↓] bin_nat bin_pt
theorem T3.zero_lm : T3.zero.Lm := T3.zero_ok.lm
set_option maxRecDepth 100000 in
set_option maxHeartbeats 1000000 in
theorem nowhere_in (a : T3) (ha : a.Lm) (W : World) : Calls Tryd.prog 20 #[.agg (ptL a).toArray] W fun e w' => e = .returned (.bool (decide (a = T3.zero))) ∧ Below W.heap.size W w' := by
  obtain ⟨V, hV, F⟩ : ∃ V, (W.alloc (Obj.cells (ptL a).toArray 41 (0, 0))) = V ∧ Fm W [(W.heap.size, Obj.cells (ptL a).toArray 41 (0, 0))] V := ⟨_, rfl, Fm.box1 W _⟩
  have l1 := ptLoad_run (F.get 0 rfl)
  have he : (ptEqV (.agg (ptL a).toArray) (.agg (ptL T3.zero).toArray)).run Tryd.prog V = _ := eqPt V a T3.zero ha T3.zero_lm
  generalize decide (a = T3.zero) = D at he ⊢
  go_enter Tryd.func20, Tryd.ntmps20
  go_wp2
  go_ret
  exact ⟨rfl, F.bel⟩
end Go.Proofs.YtmjenhilafdioaaDoor

/- scaled. -/
namespace Go.Proofs.YtmjenhilafdioaaDoor
set_option linter.unusedVariables false
set_option linter.unusedSimpArgs false
open Go.RowKit N
attribute [local go_sem ↓] N.loadAt_nat N.storeAt_nat N.build_nat N.build_nat' loadAt_pt storeAt_pt build_pt0 build_pt0' build_pt'
attribute [local go_sem] N.st1 N.st2a N.st2b N.st1d N.st2ad N.st2bd N.natBuild_run ptst1 ptst1d ptBuild0_run build_pt ptBuild_run
attribute [local go_sem ↓] bin_nat bin_pt
theorem Fm.swap {W w : World} {x y : Nat × Obj} {l : List (Nat × Obj)} (h : Fm W (x :: y :: l) w) : Fm W (y :: x :: l) w where
  has := fun i b o e => by
    match i, e with
    | 0, e => exact h.has 1 b o (by simpa using e)
    | 1, e => exact h.has 0 b o (by simpa using e)
    | i + 2, e => exact h.has (i + 2) b o (by simpa using e)
  own := fun p hp => h.own p (by simp only [List.mem_cons] at hp ⊢; rcases hp with h | h | h <;> simp [h])
  nd := by
    have := h.nd
    simp only [List.map_cons, List.nodup_cons, List.mem_cons, not_or] at this ⊢
    exact ⟨⟨fun e => this.1.1 e.symm, this.2.1⟩, this.1.2, this.2.2⟩
  bel := h.bel
theorem results_pt {fn : Func} {p : Tmp} (h : fn.results = #[.cell p 41]) {tmps : Array Value} {W : World} {b : Nat} {a : T3} {fz : Nat × Nat} (hp : tmps.getD p undef = .pointer (some ⟨b, 0, none⟩)) (hb : W.heap[b]? = some (.cells (ptL a).toArray 41 fz)) : (results fn tmps).run Tryd.prog W = .ok (.agg (ptL a).toArray) W := by
  have hp' : tmps[p]?.getD undef = .pointer (some ⟨b, 0, none⟩) := by simpa using hp
  simp only [results, h]
  simp [hp', asAddr, pt_loadV hb]
/-- a number's box made ahead of a call, and an older one. -/
theorem kpM {p : Prop} {V w2 : World} {M : Nat} (hb : Below (V.alloc (.cells (N.natL M).toArray 29)).heap.size (V.alloc (.cells (N.natL M).toArray 29)) w2) (k : (w2.heap[V.heap.size]? = some (.cells (N.natL M).toArray 29 (0, 0)) ∧
    (∀ v, (N.natStore (.pointer (some ⟨V.heap.size, 0, none⟩)) (.agg (N.natL v).toArray)).run Tryd.prog w2 = .ok () (w2.setRow V.heap.size (N.natL v).toArray))) → p) : p := by
  have g : w2.heap[V.heap.size]? = some (.cells (N.natL M).toArray 29 (0, 0)) := (hb.block V.heap.size (by simp)).trans (N.heap_new V _)
  exact k ⟨g, fun v => N.natStore_run g⟩
theorem kpO {p : Prop} {w w2 : World} {b M : Nat} (g : w.heap[b]? = some (.cells (N.natL M).toArray 29 (0, 0))) (hb : Below w.heap.size w w2) (k : (w2.heap[b]? = some (.cells (N.natL M).toArray 29 (0, 0)) ∧
    (∀ v, (N.natStore (.pointer (some ⟨b, 0, none⟩)) (.agg (N.natL v).toArray)).run Tryd.prog w2 = .ok () (w2.setRow b (N.natL v).toArray))) → p) : p := by
  have g2 : w2.heap[b]? = some (.cells (N.natL M).toArray 29 (0, 0)) := (hb.block b (N.box_lt g)).trans g
  exact k ⟨g2, fun v => N.natStore_run g2⟩
set_option maxRecDepth 100000 in
set_option maxHeartbeats 2000000 in
theorem scaled_in {c mp mn : Nat} (a : T3) (k : Nat) (W : World) (C : Cv W c mp mn) (ha : a.Ok) (hk : k < pP) :
    Calls Tryd.prog 52 #[boxM c, .agg (ptL a).toArray, .agg (N.natL k).toArray] W fun e w' => e = .returned (.agg (ptL (a.scl k)).toArray) ∧ Below W.heap.size W w' := by
  obtain ⟨sq, E_sq⟩ : ∃ R, Hid (mtimes k k = R) := ⟨_, Hid.mk rfl⟩
  have b_sq : sq < pP := by rw [← E_sq.out]; exact mtimes_lt _ _
  obtain ⟨x, E_x⟩ : ∃ R, Hid (mtimes a.x sq = R) := ⟨_, Hid.mk rfl⟩
  have b_x : x < pP := by rw [← E_x.out]; exact mtimes_lt _ _
  obtain ⟨t, E_t⟩ : ∃ R, Hid (mtimes sq k = R) := ⟨_, Hid.mk rfl⟩
  have b_t : t < pP := by rw [← E_t.out]; exact mtimes_lt _ _
  obtain ⟨y, E_y⟩ : ∃ R, Hid (mtimes a.y t = R) := ⟨_, Hid.mk rfl⟩
  have b_y : y < pP := by rw [← E_y.out]; exact mtimes_lt _ _
  obtain ⟨z, E_z⟩ : ∃ R, Hid (mtimes a.z k = R) := ⟨_, Hid.mk rfl⟩
  have b_z : z < pP := by rw [← E_z.out]; exact mtimes_lt _ _
  have hfin : a.scl k = ⟨x, y, z⟩ := by unfold T3.scl; rw [E_sq.out, E_x.out, E_t.out, E_y.out, E_z.out]
  rw [hfin]
  clear hfin
  have hz := N.zero26
  have hzp := zeroPt
  obtain ⟨V, hV, F⟩ : ∃ V, (((W.alloc (Obj.cells (ptL a).toArray 41 (0, 0))).alloc (Obj.cells (N.natL k).toArray 29 (0, 0))).alloc (Obj.cells (ptL (T3.zero)).toArray 41 (0, 0))) = V ∧ Fm W [(W.heap.size + 2, Obj.cells (ptL (T3.zero)).toArray 41 (0, 0)), (W.heap.size + 1, Obj.cells (N.natL k).toArray 29 (0, 0)), (W.heap.size, Obj.cells (ptL a).toArray 41 (0, 0))] V := ⟨_, rfl, Fm.box3 W _ _ _⟩
  have c5 := (F.cv C).fn 5 rfl
  have l5 := N.natLoad_run (F.get 1 rfl)
  have H1 : Hid (∀ w, Fm W [(W.heap.size + 2, Obj.cells (ptL (T3.zero)).toArray 41 (0, 0)), (W.heap.size + 1, Obj.cells (N.natL k).toArray 29 (0, 0)), (W.heap.size, Obj.cells (ptL a).toArray 41 (0, 0))] w → Calls Tryd.prog 63 #[boxM mp, .agg (N.natL k).toArray, .agg (N.natL k).toArray] w fun e w' => e = .returned (.agg (N.natL sq).toArray) ∧ Below w.heap.size w w') := fun w h => (pTimes (h.cv C) hk hk).mono fun e w' ⟨he, hb⟩ => ⟨by rw [he, E_sq.out], hb⟩
  go_enter Tryd.func52, Tryd.ntmps52
  go_wp2_with fail
  refine (H1.out _ F).mono ?_
  rintro e u1 ⟨rfl, hb⟩
  replace F := F.blk hb
  clear hb c5 l5 hV H1
  go_upto_region 3 with fail
  replace F := F.new (Obj.cells (N.natL sq).toArray 29 (0, 0))
  generalize u1.alloc (Obj.cells (N.natL sq).toArray 29 (0, 0)) = v1 at F ⊢
  generalize u1.heap.size = b8 at F ⊢
  replace F := F.swap
  obtain ⟨L, hL⟩ : ∃ L : List (Nat × Obj), [(b8, Obj.cells (N.natL sq).toArray 29 (0, 0)), (W.heap.size + 1, Obj.cells (N.natL k).toArray 29 (0, 0)), (W.heap.size, Obj.cells (ptL a).toArray 41 (0, 0))] = L := ⟨_, rfl⟩
  rw [hL] at F
  have Z : Fq W (W.heap.size + 2) L v1 := ⟨_, F⟩
  have HS : Hid (∀ w, Fq W (W.heap.size + 2) L w → Fq W (W.heap.size + 2) L w ∧ (∀ v, (ptStore (.pointer (some ⟨W.heap.size + 2, 0, none⟩)) (.agg (ptL v).toArray)).run Tryd.prog w = .ok () (w.setRow (W.heap.size + 2) (ptL v).toArray)) ∧ (N.natLoad (.pointer (some ⟨b8, 0, none⟩))).run Tryd.prog w = .ok (.agg (N.natL sq).toArray) w ∧ (N.natLoad (.pointer (some ⟨W.heap.size + 1, 0, none⟩))).run Tryd.prog w = .ok (.agg (N.natL k).toArray) w ∧ (N.natLoad (.pointer (some ⟨W.heap.size, 0, none⟩))).run Tryd.prog w = .ok (.agg (N.natL a.x).toArray) w ∧ (N.natLoad (.pointer (some ⟨W.heap.size, 129, none⟩))).run Tryd.prog w = .ok (.agg (N.natL a.y).toArray) w ∧ (N.natLoad (.pointer (some ⟨W.heap.size, 258, none⟩))).run Tryd.prog w = .ok (.agg (N.natL a.z).toArray) w) := fun w h => ⟨h, h.st, N.natLoad_run (h.get 0 (by rw [← hL]; rfl)), N.natLoad_run (h.get 1 (by rw [← hL]; rfl)), ptX (h.get 2 (by rw [← hL]; rfl)), ptY (h.get 2 (by rw [← hL]; rfl)), ptZ (h.get 2 (by rw [← hL]; rfl))⟩
  have H1 : Hid (∀ w, Fq W (W.heap.size + 2) L w → Calls Tryd.prog 63 #[boxM mp, .agg (N.natL a.x).toArray, .agg (N.natL sq).toArray] w fun e w' => e = .returned (.agg (N.natL x).toArray) ∧ Below w.heap.size w w') := fun w h => (pTimes (h.cv C) ha.1 b_sq).mono fun e w' ⟨he, hb⟩ => ⟨by rw [he, E_x.out], hb⟩
  have H2 : Hid (∀ w, Fq W (W.heap.size + 2) L w → Calls Tryd.prog 63 #[boxM mp, .agg (N.natL sq).toArray, .agg (N.natL k).toArray] w fun e w' => e = .returned (.agg (N.natL t).toArray) ∧ Below w.heap.size w w') := fun w h => (pTimes (h.cv C) b_sq hk).mono fun e w' ⟨he, hb⟩ => ⟨by rw [he, E_t.out], hb⟩
  have H3 : Hid (∀ w, Fq W (W.heap.size + 2) L w → Calls Tryd.prog 63 #[boxM mp, .agg (N.natL a.y).toArray, .agg (N.natL t).toArray] w fun e w' => e = .returned (.agg (N.natL y).toArray) ∧ Below w.heap.size w w') := fun w h => (pTimes (h.cv C) ha.2.1 b_t).mono fun e w' ⟨he, hb⟩ => ⟨by rw [he, E_y.out], hb⟩
  have H4 : Hid (∀ w, Fq W (W.heap.size + 2) L w → Calls Tryd.prog 63 #[boxM mp, .agg (N.natL a.z).toArray, .agg (N.natL k).toArray] w fun e w' => e = .returned (.agg (N.natL z).toArray) ∧ Below w.heap.size w w') := fun w h => (pTimes (h.cv C) ha.2.2 hk).mono fun e w' ⟨he, hb⟩ => ⟨by rw [he, E_z.out], hb⟩
  have hS0 := HS.out _ Z
  clear F hL C
  simp only [Nat.add_assoc, Nat.reduceAdd]
  go_region_held3 (fun w => Fq W (W.heap.size + 2) L w ∧ (∀ v, (ptStore (.pointer (some ⟨W.heap.size + 2, 0, none⟩)) (.agg (ptL v).toArray)).run Tryd.prog w = .ok () (w.setRow (W.heap.size + 2) (ptL v).toArray)) ∧ (N.natLoad (.pointer (some ⟨b8, 0, none⟩))).run Tryd.prog w = .ok (.agg (N.natL sq).toArray) w ∧ (N.natLoad (.pointer (some ⟨W.heap.size + 1, 0, none⟩))).run Tryd.prog w = .ok (.agg (N.natL k).toArray) w ∧ (N.natLoad (.pointer (some ⟨W.heap.size, 0, none⟩))).run Tryd.prog w = .ok (.agg (N.natL a.x).toArray) w ∧ (N.natLoad (.pointer (some ⟨W.heap.size, 129, none⟩))).run Tryd.prog w = .ok (.agg (N.natL a.y).toArray) w ∧ (N.natLoad (.pointer (some ⟨W.heap.size, 258, none⟩))).run Tryd.prog w = .ok (.agg (N.natL a.z).toArray) w)
    (first | assumption | (apply HS.out; repeat (first | assumption | apply Fm.drew | apply Fz.drew | apply Fq.drew | apply Fm.alloc | apply Fq.set)))
    (first
      | (go_at_call 63; with_reducible refine (H1.out _ (by repeat (first | assumption | apply Fm.drew | apply Fz.drew | apply Fq.drew | apply Fm.alloc))).mono ?_; rintro e w2 ⟨rfl, hb2⟩; have F2 := Fq.blk (by repeat (first | assumption | apply Fm.drew | apply Fz.drew | apply Fq.drew | apply Fm.alloc)) hb2; have hs2 := HS.out _ F2)
      | (go_at_call 63; with_reducible refine (H2.out _ (by repeat (first | assumption | apply Fm.drew | apply Fz.drew | apply Fq.drew | apply Fm.alloc))).mono ?_; rintro e w3 ⟨rfl, hb3⟩; have F3 := Fq.blk (by repeat (first | assumption | apply Fm.drew | apply Fz.drew | apply Fq.drew | apply Fm.alloc)) hb3; have hs3 := HS.out _ F3)
      | (go_at_call 63; with_reducible refine (H3.out _ (by repeat (first | assumption | apply Fm.drew | apply Fz.drew | apply Fq.drew | apply Fm.alloc))).mono ?_; rintro e w4 ⟨rfl, hb4⟩; have F4 := Fq.blk (by repeat (first | assumption | apply Fm.drew | apply Fz.drew | apply Fq.drew | apply Fm.alloc)) hb4; have hs4 := HS.out _ F4)
      | (go_at_call 63; with_reducible refine (H4.out _ (by repeat (first | assumption | apply Fm.drew | apply Fz.drew | apply Fq.drew | apply Fm.alloc))).mono ?_; rintro e w5 ⟨rfl, hb5⟩; have F5 := Fq.blk (by repeat (first | assumption | apply Fm.drew | apply Fz.drew | apply Fq.drew | apply Fm.alloc)) hb5; have hs5 := HS.out _ F5))
  have F6 := F5.fin ⟨x, y, z⟩
  go_wp2
  exact bodyPost_ret (results_pt Tryd.results52 rfl (F6.get 0 rfl)) rfl ⟨rfl, F6.bel⟩
end Go.Proofs.YtmjenhilafdioaaDoor

/- on. -/
namespace Go.Proofs.YtmjenhilafdioaaDoor
set_option linter.unusedVariables false
set_option linter.unusedSimpArgs false
open Go.RowKit N
attribute [local go_sem ↓] N.loadAt_nat N.storeAt_nat N.build_nat N.build_nat' loadAt_pt storeAt_pt build_pt0 build_pt0' build_pt'
attribute [local go_sem] N.st1 N.st2a N.st2b N.st1d N.st2ad N.st2bd N.natBuild_run ptst1 ptst1d ptBuild0_run build_pt ptBuild_run
attribute [local go_sem ↓] bin_nat bin_pt
/-- whether two numbers are a point's, as it is reckoned. -/
def onN (x y : Nat) : Bool := decide (mtimes y y = mplus (mminus (mtimes x (mtimes x x)) (mtimes x 3)) bP)
set_option maxRecDepth 100000 in
set_option maxHeartbeats 2000000 in
theorem on_in {c mp mn : Nat} (x y : Nat) (W : World) (C : Cv W c mp mn) (hx : x < pP) (hy : y < pP) :
    Calls Tryd.prog 36 #[boxM c, .agg (N.natL x).toArray, .agg (N.natL y).toArray] W fun e w' => e = .returned (.bool (onN x y)) ∧ Below W.heap.size W w' := by
  obtain ⟨x2, E_x2⟩ : ∃ R, Hid (mtimes x x = R) := ⟨_, Hid.mk rfl⟩
  have b_x2 : x2 < pP := by rw [← E_x2.out]; exact mtimes_lt _ _
  obtain ⟨x3, E_x3⟩ : ∃ R, Hid (mtimes x x2 = R) := ⟨_, Hid.mk rfl⟩
  have b_x3 : x3 < pP := by rw [← E_x3.out]; exact mtimes_lt _ _
  obtain ⟨y2, E_y2⟩ : ∃ R, Hid (mtimes y y = R) := ⟨_, Hid.mk rfl⟩
  have b_y2 : y2 < pP := by rw [← E_y2.out]; exact mtimes_lt _ _
  obtain ⟨t3, E_t3⟩ : ∃ R, Hid (mtimes x 3 = R) := ⟨_, Hid.mk rfl⟩
  have b_t3 : t3 < pP := by rw [← E_t3.out]; exact mtimes_lt _ _
  obtain ⟨d1, E_d1⟩ : ∃ R, Hid (mminus x3 t3 = R) := ⟨_, Hid.mk rfl⟩
  have b_d1 : d1 < pP := by rw [← E_d1.out]; exact mminus_lt b_x3 b_t3
  obtain ⟨r, E_r⟩ : ∃ R, Hid (mplus d1 bP = R) := ⟨_, Hid.mk rfl⟩
  have b_r : r < pP := by rw [← E_r.out]; exact mplus_lt b_d1 (show bP < pP by decide)
  have hfin : onN x y = decide (y2 = r) := by unfold onN; rw [E_x2.out, E_x3.out, E_y2.out, E_t3.out, E_d1.out, E_r.out]
  rw [hfin]
  clear hfin
  have HE : Hid (∀ w, (natEqV (.agg (N.natL y2).toArray) (.agg (N.natL r).toArray)).run Tryd.prog w = .ok (.bool (decide (y2 = r))) w) := fun w => eqNat w y2 r (lim_p b_y2) (lim_p b_r)
  generalize decide (y2 = r) = D at HE ⊢
  have HSm := Hid.mk (N.small_in 3 (by omega))
  have hz := N.zero26
  obtain ⟨V, hV, F⟩ : ∃ V, ((W.alloc (Obj.cells (N.natL x).toArray 29 (0, 0))).alloc (Obj.cells (N.natL y).toArray 29 (0, 0))) = V ∧ Fm W [(W.heap.size + 1, Obj.cells (N.natL y).toArray 29 (0, 0)), (W.heap.size, Obj.cells (N.natL x).toArray 29 (0, 0))] V := ⟨_, rfl, Fm.box2 W _ _⟩
  have c3 := (F.cv C).fn 3 rfl
  have c4 := (F.cv C).fn 4 rfl
  have c5 := (F.cv C).fn 5 rfl
  go_enter Tryd.func36, Tryd.ntmps36
  go_upto_region 1 with fail
  go_region
  go_upto_region 2 with fail
  replace F := F.drew
  generalize V.drew = v0 at F ⊢
  clear hV c3 c4 c5
  obtain ⟨L, hL⟩ : ∃ L : List (Nat × Obj), [(W.heap.size + 1, Obj.cells (N.natL y).toArray 29 (0, 0)), (W.heap.size, Obj.cells (N.natL x).toArray 29 (0, 0))] = L := ⟨_, rfl⟩
  rw [hL] at F
  have HS : Hid (∀ w, Fm W L w → Fm W L w ∧ (N.natLoad (.pointer (some ⟨W.heap.size, 0, none⟩))).run Tryd.prog w = .ok (.agg (N.natL x).toArray) w) := fun w h => ⟨h, N.natLoad_run (h.get 1 (by rw [← hL]; rfl))⟩
  have H1 : Hid (∀ w, Fm W L w → Calls Tryd.prog 63 #[boxM mp, .agg (N.natL x).toArray, .agg (N.natL x).toArray] w fun e w' => e = .returned (.agg (N.natL x2).toArray) ∧ Below w.heap.size w w') := fun w h => (pTimes (h.cv C) hx hx).mono fun e w' ⟨he, hb⟩ => ⟨by rw [he, E_x2.out], hb⟩
  have H2 : Hid (∀ w, Fm W L w → Calls Tryd.prog 63 #[boxM mp, .agg (N.natL x).toArray, .agg (N.natL x2).toArray] w fun e w' => e = .returned (.agg (N.natL x3).toArray) ∧ Below w.heap.size w w') := fun w h => (pTimes (h.cv C) hx b_x2).mono fun e w' ⟨he, hb⟩ => ⟨by rw [he, E_x3.out], hb⟩
  have hS0 := HS.out _ F
  go_cut [10] (fun s wx => ∃ b, s = .pointer (some ⟨b, 0, none⟩) ∧ Fm W ((b, Obj.cells (N.natL x3).toArray 29 (0, 0)) :: L) wx)
  case first =>
    go_region_held3 (fun w => Fm W L w ∧ (N.natLoad (.pointer (some ⟨W.heap.size, 0, none⟩))).run Tryd.prog w = .ok (.agg (N.natL x).toArray) w)
      (first | assumption | (apply HS.out; repeat (first | assumption | apply Fm.drew | apply Fz.drew | apply Fq.drew | apply Fm.alloc | (apply Fm.setO (V := _); assumption))))
      (first
        | (go_at_call 63; with_reducible refine (H2.out _ (by repeat (first | assumption | apply Fm.drew | apply Fz.drew | apply Fq.drew | apply Fm.alloc))).mono ?_; rintro e w3 ⟨rfl, hb3⟩; have F3 := Fm.blk (by repeat (first | assumption | apply Fm.drew | apply Fz.drew | apply Fq.drew | apply Fm.alloc)) hb3; have hs3 := HS.out _ F3
           first
             | (refine kpN hb3 ?_; rintro ⟨g1, s1⟩)
             | (refine kpM hb3 ?_; rintro ⟨g1, s1⟩)
             | (refine kpO g1 hb3 ?_; rintro ⟨g2, s2⟩; clear g1 s1; have g1 := g2; have s1 := s2; clear g2 s2)
             | skip)
        | (go_at_call 63; with_reducible refine (H1.out _ (by repeat (first | assumption | apply Fm.drew | apply Fz.drew | apply Fq.drew | apply Fm.alloc))).mono ?_; rintro e w2 ⟨rfl, hb2⟩; have F2 := Fm.blk (by repeat (first | assumption | apply Fm.drew | apply Fz.drew | apply Fq.drew | apply Fm.alloc)) hb2; have hs2 := HS.out _ F2
           first
             | (refine kpN hb2 ?_; rintro ⟨g1, s1⟩)
             | (refine kpM hb2 ?_; rintro ⟨g1, s1⟩)
             | (refine kpO g1 hb2 ?_; rintro ⟨g2, s2⟩; clear g1 s1; have g1 := g2; have s1 := s2; clear g2 s2)
             | skip))
    all_goals go_wp2
    all_goals go_meet
    all_goals (first
      | exact ⟨_, rfl, Fm.new (by assumption) _⟩
      | exact ⟨_, rfl, Fm.late (by assumption) (by assumption) g1⟩)
  case rest =>
    obtain ⟨b10, rfl, F1⟩ := hcut
    rw [← hL] at F1
    clear hS0 F HS hL H1 H2
    go_upto_region 3 with fail
    obtain ⟨L1, hL1⟩ : ∃ L : List (Nat × Obj), [(b10, Obj.cells (N.natL x3).toArray 29 (0, 0)), (W.heap.size + 1, Obj.cells (N.natL y).toArray 29 (0, 0)), (W.heap.size, Obj.cells (N.natL x).toArray 29 (0, 0))] = L := ⟨_, rfl⟩
    rw [hL1] at F1
    have HS : Hid (∀ w, Fm W L1 w → Fm W L1 w ∧ (N.natLoad (.pointer (some ⟨W.heap.size + 1, 0, none⟩))).run Tryd.prog w = .ok (.agg (N.natL y).toArray) w ∧ (N.natLoad (.pointer (some ⟨W.heap.size, 0, none⟩))).run Tryd.prog w = .ok (.agg (N.natL x).toArray) w ∧ (N.natLoad (.pointer (some ⟨b10, 0, none⟩))).run Tryd.prog w = .ok (.agg (N.natL x3).toArray) w ∧ (N.natLoad (.pointer (some ⟨c, 12, none⟩))).run Tryd.prog w = .ok (.agg (N.natL bP).toArray) w ∧ (natEqV (.agg (N.natL y2).toArray) (.agg (N.natL r).toArray)).run Tryd.prog w = .ok (.bool D) w) := fun w h => ⟨h, N.natLoad_run (h.get 1 (by rw [← hL1]; rfl)), N.natLoad_run (h.get 2 (by rw [← hL1]; rfl)), N.natLoad_run (h.get 0 (by rw [← hL1]; rfl)), (h.cv C).b, HE.out w⟩
    have H1 : Hid (∀ w, Fm W L1 w → Calls Tryd.prog 63 #[boxM mp, .agg (N.natL y).toArray, .agg (N.natL y).toArray] w fun e w' => e = .returned (.agg (N.natL y2).toArray) ∧ Below w.heap.size w w') := fun w h => (pTimes (h.cv C) hy hy).mono fun e w' ⟨he, hb⟩ => ⟨by rw [he, E_y2.out], hb⟩
    have H3 : Hid (∀ w, Fm W L1 w → Calls Tryd.prog 63 #[boxM mp, .agg (N.natL x).toArray, .agg (N.natL 3).toArray] w fun e w' => e = .returned (.agg (N.natL t3).toArray) ∧ Below w.heap.size w w') := fun w h => (pTimes (h.cv C) hx (show 3 < pP by decide)).mono fun e w' ⟨he, hb⟩ => ⟨by rw [he, E_t3.out], hb⟩
    have H4 : Hid (∀ w, Fm W L1 w → Calls Tryd.prog 62 #[boxM mp, .agg (N.natL x3).toArray, .agg (N.natL t3).toArray] w fun e w' => e = .returned (.agg (N.natL d1).toArray) ∧ Below w.heap.size w w') := fun w h => (pMinus (h.cv C) b_x3 b_t3).mono fun e w' ⟨he, hb⟩ => ⟨by rw [he, E_d1.out], hb⟩
    have H5 : Hid (∀ w, Fm W L1 w → Calls Tryd.prog 61 #[boxM mp, .agg (N.natL d1).toArray, .agg (N.natL bP).toArray] w fun e w' => e = .returned (.agg (N.natL r).toArray) ∧ Below w.heap.size w w') := fun w h => (pPlus (h.cv C) b_d1 (show bP < pP by decide)).mono fun e w' ⟨he, hb⟩ => ⟨by rw [he, E_r.out], hb⟩
    have H2 : Hid (∀ w, Fm W L1 w → Calls Tryd.prog 11 #[.int .u64 3] w fun e w' => e = .returned (.agg (N.natL 3).toArray) ∧ Below w.heap.size w w') := fun w _ => HSm.out w
    have hS0 := HS.out _ F1
    go_region_held3 (fun w => Fm W L1 w ∧ (N.natLoad (.pointer (some ⟨W.heap.size + 1, 0, none⟩))).run Tryd.prog w = .ok (.agg (N.natL y).toArray) w ∧ (N.natLoad (.pointer (some ⟨W.heap.size, 0, none⟩))).run Tryd.prog w = .ok (.agg (N.natL x).toArray) w ∧ (N.natLoad (.pointer (some ⟨b10, 0, none⟩))).run Tryd.prog w = .ok (.agg (N.natL x3).toArray) w ∧ (N.natLoad (.pointer (some ⟨c, 12, none⟩))).run Tryd.prog w = .ok (.agg (N.natL bP).toArray) w ∧ (natEqV (.agg (N.natL y2).toArray) (.agg (N.natL r).toArray)).run Tryd.prog w = .ok (.bool D) w)
      (first | assumption | (apply HS.out; repeat (first | assumption | apply Fm.drew | apply Fz.drew | apply Fq.drew | apply Fm.alloc)))
      (first
        | (go_at_call 61; with_reducible refine (H5.out _ (by repeat (first | assumption | apply Fm.drew | apply Fz.drew | apply Fq.drew | apply Fm.alloc))).mono ?_; rintro e w6 ⟨rfl, hb6⟩; have F6 := Fm.blk (by repeat (first | assumption | apply Fm.drew | apply Fz.drew | apply Fq.drew | apply Fm.alloc)) hb6; have hs6 := HS.out _ F6)
        | (go_at_call 62; with_reducible refine (H4.out _ (by repeat (first | assumption | apply Fm.drew | apply Fz.drew | apply Fq.drew | apply Fm.alloc))).mono ?_; rintro e w5 ⟨rfl, hb5⟩; have F5 := Fm.blk (by repeat (first | assumption | apply Fm.drew | apply Fz.drew | apply Fq.drew | apply Fm.alloc)) hb5; have hs5 := HS.out _ F5)
        | (go_at_call 63; with_reducible refine (H3.out _ (by repeat (first | assumption | apply Fm.drew | apply Fz.drew | apply Fq.drew | apply Fm.alloc))).mono ?_; rintro e w4 ⟨rfl, hb4⟩; have F4 := Fm.blk (by repeat (first | assumption | apply Fm.drew | apply Fz.drew | apply Fq.drew | apply Fm.alloc)) hb4; have hs4 := HS.out _ F4)
        | (go_at_call 11; with_reducible refine (H2.out _ (by repeat (first | assumption | apply Fm.drew | apply Fz.drew | apply Fq.drew | apply Fm.alloc))).mono ?_; rintro e w3 ⟨rfl, hb3⟩; have F3 := Fm.blk (by repeat (first | assumption | apply Fm.drew | apply Fz.drew | apply Fq.drew | apply Fm.alloc)) hb3; have hs3 := HS.out _ F3)
        | (go_at_call 63; with_reducible refine (H1.out _ (by repeat (first | assumption | apply Fm.drew | apply Fz.drew | apply Fq.drew | apply Fm.alloc))).mono ?_; rintro e w2 ⟨rfl, hb2⟩; have F2 := Fm.blk (by repeat (first | assumption | apply Fm.drew | apply Fz.drew | apply Fq.drew | apply Fm.alloc)) hb2; have hs2 := HS.out _ F2))
    go_wp2
    go_ret
    exact ⟨rfl, F6.bel⟩
end Go.Proofs.YtmjenhilafdioaaDoor

/- reckoningOf, p256. -/
namespace Go.Proofs.YtmjenhilafdioaaDoor
set_option linter.unusedVariables false
set_option linter.unusedSimpArgs false
open Go.RowKit N
attribute [local go_sem ↓] N.loadAt_nat N.storeAt_nat N.build_nat N.build_nat' loadAt_pt storeAt_pt build_pt0 build_pt0' build_pt'
attribute [local go_sem] N.st1 N.st2a N.st2b N.st1d N.st2ad N.st2bd N.natBuild_run ptst1 ptst1d ptBuild0_run build_pt ptBuild_run
def modStore (a x : Value) : Sem Unit := Instr.storeAt 98 a x
theorem storeAt_mod (a x : Value) : Instr.storeAt 98 a x = modStore a x := rfl
theorem sizeMod : (Tryd.prog.info? 98).map (·.size) = some 129 := by kernel_rfl
theorem zeroMod (W : World) : (zeroValue 98).run Tryd.prog W = .ok (.agg (N.natL 0).toArray) W := by
  rw [N.natZ]
  kernel_rfl
theorem modst1 (w : World) (n m : Nat) : (modStore (.pointer (some ⟨w.heap.size, 0, none⟩)) (.agg (N.natL n).toArray)).run Tryd.prog (w.alloc (.cells (N.natL m).toArray 98)) = .ok () (w.alloc (.cells (N.natL n).toArray 98)) := by
  unfold modStore
  simp only [Instr.storeAt, Instr.sureAddr, Sem.run_bind, Sem.run_pure, Result.andThen]
  rw [run_storeVar_row (w.alloc (.cells (N.natL m).toArray 98)) w.heap.size _ _ _ _ (N.heap_new _ _) (by rw [List.size_toArray, N.natL_len]; exact sizeMod) (by rw [List.size_toArray, List.size_toArray, N.natL_len, N.natL_len]) (by simpa using N.natL_cells n), N.setRow_new]
def modBuild (p : Nat × Value) : Sem Value := Instr.build 98 #[p]
theorem build_mod' (f : Nat × Operand → Nat × Value) (x : Nat × Operand) : Instr.build 98 (Array.map f #[x]) = modBuild (f x) := by simp [modBuild]
set_option maxRecDepth 100000 in
theorem modBuild_run (x : Nat) (W : World) : (modBuild (0, .agg (N.natL x).toArray)).run Tryd.prog W = .ok (.agg (N.natL x).toArray) W := by
  have hf : Instr.fill (fun i => (#[(0, 129)] : Array (Nat × Nat))[i]?) (N.natL 0).toArray [(0, .agg (N.natL x).toArray)] = some (N.natL x).toArray := by
    have n0 := N.natL_len 0
    have nx := N.natL_len x
    have f0 := fold_mid [] (N.natL 0) [] (N.natL x) (by rw [nx, n0]) 0 rfl
    simp only [List.nil_append, List.append_nil] at f0
    unfold Instr.fill
    simp only [Value.cells, List.getElem?_cons_zero, List.size_toArray, List.getElem?_toArray]
    rw [if_neg (by simp [n0, nx]), f0]
    unfold Instr.fill
    rfl
  unfold modBuild Instr.build
  have hu : Tryd.prog.underlying 98 = some (.struct (Tryd.prog.fieldsOf 98)) := by kernel_rfl
  have hp : (((Tryd.prog.fieldsOf 98).mapM fun f => do pure (f.offset, ← sizeOf f.type)) : Sem (Array (Nat × Nat))).run Tryd.prog W = .ok #[(0, 129)] W := by kernel_rfl
  simp only [Sem.run_bind, zeroMod, Result.andThen_ok, run_underlying hu]
  rw [hp]
  simp only [Result.andThen_ok]
  rw [show Value.cells (.agg (N.natL 0).toArray) = (N.natL 0).toArray from rfl]
  simp only [hf]
  rfl
def cvBuild (p q r : Nat × Value) : Sem Value := Instr.build 67 #[p, q, r]
theorem build_cv' (f : Nat × Operand → Nat × Value) (x y z : Nat × Operand) : Instr.build 67 (Array.map f #[x, y, z]) = cvBuild (f x) (f y) (f z) := by simp [cvBuild]
theorem zeroCv (W : World) : (zeroValue 67).run Tryd.prog W = .ok (.agg (List.replicate 6 Value.nilFunc ++ List.replicate 6 Value.nilFunc ++ N.natL 0).toArray) W := by
  rw [N.natZ]
  kernel_rfl
set_option maxRecDepth 100000 in
theorem cvBuild_run (mp mn : Nat) (W : World) : (cvBuild (0, .agg (rkL mp).toArray) (1, .agg (rkL mn).toArray) (2, .agg (N.natL bP).toArray)).run Tryd.prog W = .ok (.agg (cvL mp mn).toArray) W := by
  have hf : Instr.fill (fun i => (#[(0, 6), (6, 6), (12, 129)] : Array (Nat × Nat))[i]?) (List.replicate 6 Value.nilFunc ++ List.replicate 6 Value.nilFunc ++ N.natL 0).toArray [(0, .agg (rkL mp).toArray), (1, .agg (rkL mn).toArray), (2, .agg (N.natL bP).toArray)] = some (cvL mp mn).toArray := by
    unfold cvL
    have n0 := N.natL_len 0
    have nx := N.natL_len bP
    have r1 : (rkL mp).length = 6 := rfl
    have r2 : (rkL mn).length = 6 := rfl
    generalize rkL mp = R1 at r1 ⊢
    generalize rkL mn = R2 at r2 ⊢
    have f0 := fold_mid [] (List.replicate 6 Value.nilFunc) (List.replicate 6 Value.nilFunc ++ N.natL 0) R1 (by rw [r1]; rfl) 0 rfl
    have f1 := fold_mid R1 (List.replicate 6 Value.nilFunc) (N.natL 0) R2 (by rw [r2]; rfl) 6 r1
    have f2 := fold_mid (R1 ++ R2) (N.natL 0) [] (N.natL bP) (by rw [nx, n0]) 12 (by simp [r1, r2])
    rw [show List.replicate 6 Value.nilFunc ++ List.replicate 6 Value.nilFunc ++ N.natL 0 = [] ++ List.replicate 6 Value.nilFunc ++ (List.replicate 6 Value.nilFunc ++ N.natL 0) by rw [List.nil_append, List.append_assoc]]
    unfold Instr.fill
    simp only [Value.cells, List.getElem?_cons_zero, List.size_toArray, List.getElem?_toArray]
    rw [if_neg (by simp [n0, r1]), f0]
    unfold Instr.fill
    simp only [Value.cells, List.getElem?_cons_zero, List.getElem?_cons_succ, List.size_toArray, List.getElem?_toArray]
    rw [if_neg (by simp [n0, r1, r2]), show [] ++ R1 ++ (List.replicate 6 Value.nilFunc ++ N.natL 0) = R1 ++ List.replicate 6 Value.nilFunc ++ N.natL 0 by simp, f1]
    unfold Instr.fill
    simp only [Value.cells, List.getElem?_cons_zero, List.getElem?_cons_succ, List.size_toArray, List.getElem?_toArray]
    rw [if_neg (by simp [n0, r1, r2, nx]), show R1 ++ R2 ++ N.natL 0 = R1 ++ R2 ++ N.natL 0 ++ [] by simp, f2]
    unfold Instr.fill
    simp
  unfold cvBuild Instr.build
  have hu : Tryd.prog.underlying 67 = some (.struct (Tryd.prog.fieldsOf 67)) := by kernel_rfl
  have hp : (((Tryd.prog.fieldsOf 67).mapM fun f => do pure (f.offset, ← sizeOf f.type)) : Sem (Array (Nat × Nat))).run Tryd.prog W = .ok #[(0, 6), (6, 6), (12, 129)] W := by kernel_rfl
  simp only [Sem.run_bind, zeroCv, Result.andThen_ok, run_underlying hu]
  rw [hp]
  simp only [Result.andThen_ok]
  rw [show Value.cells (.agg (List.replicate 6 Value.nilFunc ++ List.replicate 6 Value.nilFunc ++ N.natL 0).toArray) = (List.replicate 6 Value.nilFunc ++ List.replicate 6 Value.nilFunc ++ N.natL 0).toArray from rfl]
  simp only [hf]
  rfl
attribute [local go_sem ↓] storeAt_mod build_mod' build_cv'
attribute [local go_sem] modst1 modBuild_run cvBuild_run
def rkStore (a x : Value) : Sem Unit := Instr.storeAt 64 a x
theorem storeAt_rk (a x : Value) : Instr.storeAt 64 a x = rkStore a x := rfl
theorem sizeRk : (Tryd.prog.info? 64).map (·.size) = some 6 := by kernel_rfl
theorem rkStore_run (m : Nat) {W : World} {b : Nat} {L : Array Value} (h : W.heap[b]? = some (.cells L 64 (0, 0))) (hL : L.size = 6) : (rkStore (.pointer (some ⟨b, 0, none⟩)) (.agg #[fnM 58 m, fnM 59 m, fnM 60 m, fnM 61 m, fnM 62 m, fnM 63 m])).run Tryd.prog W = .ok () (W.setRow b (rkL m).toArray) := by
  unfold rkStore
  simp only [Instr.storeAt, Instr.sureAddr, Sem.run_bind, Sem.run_pure, Result.andThen]
  exact run_storeVar_row W b _ _ _ _ h sizeRk (by rw [hL]; rfl) (by simp [Value.oneCell'])
theorem results_rk {fn : Func} {p : Tmp} (h : fn.results = #[.cell p 64]) {tmps : Array Value} {W : World} {b m : Nat} {fz : Nat × Nat} (hp : tmps.getD p undef = .pointer (some ⟨b, 0, none⟩)) (hb : W.heap[b]? = some (.cells (rkL m).toArray 64 fz)) : (results fn tmps).run Tryd.prog W = .ok (.agg (rkL m).toArray) W := by
  have hp' : tmps[p]?.getD undef = .pointer (some ⟨b, 0, none⟩) := by simpa using hp
  have hl : (loadVar 64 ⟨b, 0, none⟩).run Tryd.prog W = .ok (.agg (rkL m).toArray) W := run_loadVar_row W b _ _ _ fz _ hb Tryd.underlying64 rfl sizeRk
  simp only [results, h]
  simp [hp', asAddr, hl]
attribute [local go_sem ↓] storeAt_rk
theorem mkf (k : Nat) (first caps : Array Value) (w : World) : (Instr.makeFunc (.func k) first caps).run Tryd.prog w = .ok (.func (.func k) first caps) w := rfl
set_option maxRecDepth 100000 in
set_option maxHeartbeats 2000000 in
theorem reckoningOf_in (P : Nat) (W : World) : Calls Tryd.prog 34 #[.agg (N.natL P).toArray] W fun e w' => ∃ m, e = .returned (.agg (rkL m).toArray) ∧ w'.heap[m]? = some (.cells (N.natL P).toArray 98 (0, 0)) ∧ Below W.heap.size W w' := by
  have hz := zeroMod
  have hmf := mkf
  obtain ⟨V, hV, F⟩ : ∃ V, (W.alloc (.cells (N.natL P).toArray 29)).alloc (.cells #[.nilFunc, .nilFunc, .nilFunc, .nilFunc, .nilFunc, .nilFunc] 64) = V ∧ Fm W [(W.heap.size + 1, .cells #[.nilFunc, .nilFunc, .nilFunc, .nilFunc, .nilFunc, .nilFunc] 64), (W.heap.size, .cells (N.natL P).toArray 29)] V := ⟨_, rfl, Fm.box2 W _ _⟩
  have l1 := N.natLoad_run (F.get 1 rfl)
  go_enter Tryd.func34, Tryd.ntmps34
  go_upto_region 2 with fail
  replace F := F.new (.cells (N.natL P).toArray 98)
  generalize V.alloc (.cells (N.natL P).toArray 98) = v1 at F ⊢
  generalize V.heap.size = m at F ⊢
  clear hV l1
  have s2 := rkStore_run m (F.get 1 rfl) rfl
  have F4 := F.put 1 (rkL m).toArray rfl
  go_wp2
  exact bodyPost_ret (results_rk Tryd.results34 rfl (F4.get 1 rfl)) rfl ⟨m, rfl, F4.get 0 rfl, F4.bel⟩
set_option maxRecDepth 100000 in
set_option maxHeartbeats 2000000 in
theorem p256_in (W : World) : Calls Tryd.prog 18 #[] W fun e w' => ∃ c mp mn, e = .returned (boxM c) ∧ Cv w' c mp mn ∧ Below W.heap.size W w' := by
  have HP := Hid.mk (known_in hexP hexPb (by decide) hexP_u (by decide))
  have HN := Hid.mk (known_in hexN hexNb (by decide) hexN_u (by decide))
  have HB := Hid.mk (known_in hexB hexBb (by decide) hexB_u (by decide))
  rw [hexP_n] at HP
  rw [hexN_n] at HN
  rw [hexB_n] at HB
  have HR1 := Hid.mk (reckoningOf_in pP)
  have HR2 := Hid.mk (reckoningOf_in nN)
  generalize hp : pP = p at HP HR1
  generalize hn : nN = n at HN HR2
  generalize hbb : bP = q at HB
  have hcb : ∀ mp mn W, (cvBuild (0, .agg (rkL mp).toArray) (1, .agg (rkL mn).toArray) (2, .agg (N.natL q).toArray)).run Tryd.prog W = .ok (.agg (cvL mp mn).toArray) W := by rw [← hbb]; exact cvBuild_run
  have Hp := Hid.mk hp
  have Hn := Hid.mk hn
  clear hp hn hbb
  have F := Fm.start W
  go_enter Tryd.func18, Tryd.ntmps18
  go_wp2_with fail
  refine (HP.out _).mono ?_
  rintro e u1 ⟨rfl, hb⟩
  replace F := F.blk hb
  clear hb
  go_wp2_with fail
  refine (HR1.out _).mono ?_
  rintro e u2 ⟨mp, rfl, gp, hb⟩
  replace F := F.blk hb
  clear hb
  obtain ⟨R1, h1⟩ : ∃ R, rkL mp = R := ⟨_, rfl⟩
  rw [h1]
  go_wp2_with fail
  refine (HN.out _).mono ?_
  rintro e u3 ⟨rfl, hb⟩
  replace F := F.blk hb
  replace gp := N.blk hb gp
  clear hb
  go_wp2_with fail
  refine (HR2.out _).mono ?_
  rintro e u4 ⟨mn, rfl, gn, hb⟩
  replace F := F.blk hb
  replace gp := N.blk hb gp
  clear hb
  obtain ⟨R2, h2⟩ : ∃ R, rkL mn = R := ⟨_, rfl⟩
  rw [h2]
  go_wp2_with fail
  refine (HB.out _).mono ?_
  rintro e u5 ⟨rfl, hb⟩
  replace F := F.blk hb
  replace gp := N.blk hb gp
  replace gn := N.blk hb gn
  clear hb
  have hcv := hcb mp mn
  rw [h1, h2] at hcv
  clear hcb h1 h2
  go_wp2
  go_ret
  rw [← Hp.out] at gp
  rw [← Hn.out] at gn
  have hA : Below u5.heap.size u5 (u5.alloc (.cells (cvL mp mn).toArray 67)) := (Below.refl _ _).alloc (Nat.le_refl _) _
  exact ⟨_, mp, mn, rfl, ⟨N.heap_new _ _, N.blk hA gp, N.blk hA gn⟩, N.bthen F.bel hA⟩
end Go.Proofs.YtmjenhilafdioaaDoor

/- pointOf. -/
namespace Go.Proofs.YtmjenhilafdioaaDoor
set_option linter.unusedVariables false
set_option linter.unusedSimpArgs false
open Go.RowKit N
attribute [local go_sem ↓] N.loadAt_nat N.storeAt_nat N.build_nat N.build_nat' loadAt_pt storeAt_pt build_pt0 build_pt0' build_pt'
attribute [local go_sem] N.st1 N.st2a N.st2b N.st1d N.st2ad N.st2bd N.natBuild_run ptst1 ptst1d ptBuild0_run build_pt ptBuild_run
attribute [local go_sem ↓] bin_nat bin_pt
/-- the first 32 bytes, and those behind. -/
noncomputable def hiN (s : ByteArray) : Nat := N.numB (s.extract 0 32).data.toList
noncomputable def loN (s : ByteArray) : Nat := N.numB (s.extract 32 s.size).data.toList
/-- the point of bytes. -/
noncomputable def ptOf (s : ByteArray) : T3 × Bool :=
  if s.size = 0 then (T3.zero, true) else if s.size ≠ 64 then (T3.zero, false) else
    if hiN s < pP then if loN s < pP then if onN (hiN s) (loN s) then (⟨hiN s, loN s, 1⟩, true) else (T3.zero, false) else (T3.zero, false) else (T3.zero, false)
theorem results_pt_tmp {fn : Func} {p u : Tmp} (h : fn.results = #[.cell p 41, .tmp u]) {tmps : Array Value} {W : World} {b : Nat} {a : T3} {fz : Nat × Nat} {v : Value} (hp : tmps.getD p undef = .pointer (some ⟨b, 0, none⟩)) (hv : tmps.getD u undef = v) (hb : W.heap[b]? = some (.cells (ptL a).toArray 41 fz)) : (results fn tmps).run Tryd.prog W = .ok (.tuple #[.agg (ptL a).toArray, v]) W := by
  have hp' : tmps[p]?.getD undef = .pointer (some ⟨b, 0, none⟩) := by simpa using hp
  have hv' : tmps[u]?.getD undef = v := by simpa using hv
  simp only [results, h]
  simp [hp', hv', asAddr, pt_loadV hb]
theorem kqN {p : Prop} {V w2 : World} {M : T3} (hb : Below (V.alloc (.cells (ptL M).toArray 41)).drew.heap.size (V.alloc (.cells (ptL M).toArray 41)).drew w2) (k : (w2.heap[V.heap.size]? = some (.cells (ptL M).toArray 41 (0, 0)) ∧
    (∀ v, (ptStore (.pointer (some ⟨V.heap.size, 0, none⟩)) (.agg (ptL v).toArray)).run Tryd.prog w2 = .ok () (w2.setRow V.heap.size (ptL v).toArray))) → p) : p := by
  have g : w2.heap[V.heap.size]? = some (.cells (ptL M).toArray 41 (0, 0)) := (hb.block V.heap.size (by simp)).trans (N.heap_new V _)
  exact k ⟨g, fun v => ptStore_run g⟩
theorem kqM {p : Prop} {V w2 : World} {M : T3} (hb : Below (V.alloc (.cells (ptL M).toArray 41)).heap.size (V.alloc (.cells (ptL M).toArray 41)) w2) (k : (w2.heap[V.heap.size]? = some (.cells (ptL M).toArray 41 (0, 0)) ∧
    (∀ v, (ptStore (.pointer (some ⟨V.heap.size, 0, none⟩)) (.agg (ptL v).toArray)).run Tryd.prog w2 = .ok () (w2.setRow V.heap.size (ptL v).toArray))) → p) : p := by
  have g : w2.heap[V.heap.size]? = some (.cells (ptL M).toArray 41 (0, 0)) := (hb.block V.heap.size (by simp)).trans (N.heap_new V _)
  exact k ⟨g, fun v => ptStore_run g⟩
theorem kqO {p : Prop} {w w2 : World} {b : Nat} {M : T3} (g : w.heap[b]? = some (.cells (ptL M).toArray 41 (0, 0))) (hb : Below w.heap.size w w2) (k : (w2.heap[b]? = some (.cells (ptL M).toArray 41 (0, 0)) ∧
    (∀ v, (ptStore (.pointer (some ⟨b, 0, none⟩)) (.agg (ptL v).toArray)).run Tryd.prog w2 = .ok () (w2.setRow b (ptL v).toArray))) → p) : p := by
  have g2 : w2.heap[b]? = some (.cells (ptL M).toArray 41 (0, 0)) := (hb.block b (N.box_lt g)).trans g
  exact k ⟨g2, fun v => ptStore_run g2⟩
theorem numB_32 (s : ByteArray) (h : s.size ≤ 32) : N.numB s.data.toList < N.Lim := N.lim_big 8 _ (by omega) (by
  have h1 : N.numB s.data.toList < 256 ^ s.data.toList.length := N.numB_lt _
  rw [size_list] at h1
  exact Nat.lt_of_lt_of_le h1 (Nat.le_trans (Nat.pow_le_pow_right (by omega) h) (by decide)))
set_option maxRecDepth 100000 in
set_option maxHeartbeats 2000000 in
theorem pof_0 {c mp mn : Nat} (s : ByteArray) (W : World) (C : Cv W c mp mn) (h : s.size = 0) :
    Calls Tryd.prog 19 #[boxM c, .string s] W fun e w' => e = .returned (.tuple #[.agg (ptL T3.zero).toArray, .bool true]) ∧ Below W.heap.size W w' := by
  have he : s.toList = [] := by rw [ByteArray.toList_eq]; exact List.length_eq_zero_iff.1 (by rw [size_list]; exact h)
  clear h
  have hzp := zeroPt
  obtain ⟨V, hV, F⟩ : ∃ V, (W.alloc (Obj.cells (ptL (T3.zero)).toArray 41 (0, 0))) = V ∧ Fm W [(W.heap.size, Obj.cells (ptL (T3.zero)).toArray 41 (0, 0))] V := ⟨_, rfl, Fm.box1 W _⟩
  have s4 := fun q => ptStore_run (c := q) (F.get 0 rfl)
  have F4 := F.put 0 (ptL T3.zero).toArray rfl
  go_enter Tryd.func19, Tryd.ntmps19
  go_wp2
  exact bodyPost_ret (results_pt_tmp Tryd.results19 rfl rfl (F4.get 0 rfl)) rfl ⟨rfl, F4.bel⟩
set_option maxRecDepth 100000 in
set_option maxHeartbeats 2000000 in
theorem pof_n {c mp mn : Nat} (s : ByteArray) (W : World) (C : Cv W c mp mn) (h : s.size ≠ 0) (h2 : s.size ≠ 64) :
    Calls Tryd.prog 19 #[boxM c, .string s] W fun e w' => e = .returned (.tuple #[.agg (ptL T3.zero).toArray, .bool false]) ∧ Below W.heap.size W w' := by
  have he : s.toList.isEmpty = false := by
    rw [Bool.eq_false_iff]
    intro e
    exact h (by rw [← size_list, ← ByteArray.toList_eq, List.isEmpty_iff.1 e]; rfl)
  have he2 : ((s.size : Int) != 64) = true := by simp; omega
  clear h h2
  have hzp := zeroPt
  obtain ⟨V, hV, F⟩ : ∃ V, (W.alloc (Obj.cells (ptL (T3.zero)).toArray 41 (0, 0))) = V ∧ Fm W [(W.heap.size, Obj.cells (ptL (T3.zero)).toArray 41 (0, 0))] V := ⟨_, rfl, Fm.box1 W _⟩
  have s4 := fun q => ptStore_run (c := q) (F.get 0 rfl)
  have F4 := F.put 0 (ptL T3.zero).toArray rfl
  go_enter Tryd.func19, Tryd.ntmps19
  go_wp2
  exact bodyPost_ret (results_pt_tmp Tryd.results19 rfl rfl (F4.get 0 rfl)) rfl ⟨rfl, F4.bel⟩
end Go.Proofs.YtmjenhilafdioaaDoor
