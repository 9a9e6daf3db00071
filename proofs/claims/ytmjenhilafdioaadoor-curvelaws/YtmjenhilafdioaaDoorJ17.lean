/- Texts of this proof, joined: CExa, CTurnsW, CLawsW. -/
import Derived.Test.YtmjenhilafdioaaDoorJ16
/- The chapter's examples; wide, hexed. -/
namespace Go.Proofs.YtmjenhilafdioaaDoor
set_option linter.unusedVariables false
set_option linter.unusedSimpArgs false
open Go.RowKit N
attribute [local go_sem ↓] N.loadAt_nat N.storeAt_nat N.build_nat N.build_nat' loadAt_pt storeAt_pt build_pt0 build_pt0' build_pt'
attribute [local go_sem] N.st1 N.st2a N.st2b N.st1d N.st2ad N.st2bd N.natBuild_run ptst1 ptst1d ptBuild0_run build_pt ptBuild_run
attribute [local go_sem ↓] bin_nat bin_pt
abbrev hex2 : ByteArray := ⟨#[55, 99, 102, 50, 55, 98, 49, 56, 56, 100, 48, 51, 52, 102, 55, 101, 56, 97, 53, 50, 51, 56, 48, 51, 48, 52, 98, 53, 49, 97, 99, 51, 99, 48, 56, 57, 54, 57, 101, 50, 55, 55, 102, 50, 49, 98, 51, 53, 97, 54, 48, 98, 52, 56, 102, 99, 52, 55, 54, 54, 57, 57, 55, 56, 48, 55, 55, 55, 53, 53, 49, 48, 100, 98, 56, 101, 100, 48, 52, 48, 50, 57, 51, 100, 57, 97, 99, 54, 57, 102, 55, 52, 51, 48, 100, 98, 98, 97, 55, 100, 97, 100, 101, 54, 51, 99, 101, 57, 56, 50, 50, 57, 57, 101, 48, 52, 98, 55, 57, 100, 50, 50, 55, 56, 55, 51, 100, 49]⟩
abbrev hex2b : List UInt8 := [124, 242, 123, 24, 141, 3, 79, 126, 138, 82, 56, 3, 4, 181, 26, 195, 192, 137, 105, 226, 119, 242, 27, 53, 166, 11, 72, 252, 71, 102, 153, 120, 7, 119, 85, 16, 219, 142, 208, 64, 41, 61, 154, 198, 159, 116, 48, 219, 186, 125, 173, 230, 60, 233, 130, 41, 158, 4, 183, 157, 34, 120, 115, 209]
theorem hex2_u : G.spl 4 hex2b = hex2.data.toList := by decide +kernel
def X2 : Nat := 56515219790691171413109057904011688695424810155802929973526481321309856242040
def Y2 : Nat := 3377031843712258259223711451491452598088675519751548567112458094635497583569
theorem x2_b : N.bys X2 32 ++ N.bys Y2 32 = hex2b := by decide +kernel
/-- the sum of the base and itself. -/
theorem rep_2g : Rep ((⟨bX, bY, 1⟩ : T3).sum ⟨bX, bY, 1⟩).jp (some ⟨fz X2, fz Y2⟩) := by
  unfold Rep
  decide +kernel
theorem two_g : tellE (ecG.add ecG) = ⟨hex2b.toArray⟩ := by
  have h1 : (⟨bX, bY, 1⟩ : T3).Ok := T3.one_ok (by decide) (by decide)
  have h2 : Rep (⟨bX, bY, 1⟩ : T3).jp ecG.o := rep_xy bX bY
  have h3 := T3.rep_sum h1 h1 h2 h2
  have h4 := rep_2g
  have ho : (ecG.add ecG).o = some ⟨fz X2, fz Y2⟩ := by
    cases e : (ecG.add ecG).o with
    | none =>
      rw [e] at h3
      exact absurd (show ((⟨bX, bY, 1⟩ : T3).sum ⟨bX, bY, 1⟩).jp.z = 0 by rw [show ((⟨bX, bY, 1⟩ : T3).sum ⟨bX, bY, 1⟩).jp = Jp.zero from h3]; rfl) h4.1
    | some q =>
      rw [e] at h3
      rw [(h3.eq h4 rfl).1 rfl]
  unfold tellE
  rw [ho]
  have v1 : (fz X2).val = X2 := Nat.mod_eq_of_lt (by decide)
  have v2 : (fz Y2).val = Y2 := Nat.mod_eq_of_lt (by decide)
  simp only [v1, v2]
  rw [← x2_b]
  apply ByteArray.ext
  rw [ByteArray.data_append]
  simp
theorem ecG_ne : ecG ≠ Ec.zero := fun h => by cases congrArg Ec.o h
theorem tell_zero : tellE Ec.zero = ⟨#[]⟩ := rfl
theorem ptOf_x : (ptOf ⟨#[120]⟩).2 = false := by
  unfold ptOf
  rw [if_neg (by decide), if_pos (by decide)]
set_option maxRecDepth 100000 in
set_option maxHeartbeats 2000000 in
theorem examples_in  (W : World)  : Calls Tryd.prog 5 #[] W fun e w' => e = .returned (.bool true) ∧ Below W.heap.size W w' := by
  have HB := Hid.mk base_in
  have HS := Hid.mk (sum_yes ecG ecG)
  rw [two_g] at HS
  have hsz : (tellE ecG).size = 64 := by rw [tellE_size]; rfl
  have HT := Hid.mk (fun w => times_len ⟨#[]⟩ (tellE ecG) w (by decide))
  have HX := Hid.mk (fun w => sum_no (tellE ecG) ⟨#[120]⟩ w (Or.inr ptOf_x))
  have HO := Hid.mk (fun w => on_yes ecG w ecG_ne)
  have HZ := Hid.mk (fun w => on_zero Ec.zero w rfl)
  rw [tell_zero] at HZ
  have HH := Hid.mk (G.hex_in ⟨hex2b.toArray⟩ (by decide))
  rw [show (⟨hex2b.toArray⟩ : ByteArray).data.toList = hex2b from rfl, hex2_u] at HH
  generalize tellE ecG = g at *
  have hg : (g.size : Int) = 64 := by omega
  have F := Fm.start W
  go_enter Tryd.func5, Tryd.ntmps5
  go_wp2_with fail
  refine (HB.out _).mono ?_
  rintro e u1 ⟨rfl, hb⟩
  replace F := F.blk hb
  clear hb
  generalize (⟨hex2b.toArray⟩ : ByteArray) = g2 at HS HH
  go_wp2_with fail
  refine (HS.out _).mono ?_
  rintro e u2 ⟨rfl, hb⟩
  replace F := F.blk hb
  clear hb
  go_wp2_with fail
  refine (HT.out _).mono ?_
  rintro e u3 ⟨rfl, hb⟩
  replace F := F.blk hb
  clear hb
  go_wp2_with fail
  refine (HX.out _).mono ?_
  rintro e u4 ⟨rfl, hb⟩
  replace F := F.blk hb
  clear hb
  go_wp2_with fail
  refine (HO.out _).mono ?_
  rintro e u5 ⟨rfl, hb⟩
  replace F := F.blk hb
  clear hb
  go_wp2_with fail
  refine (HZ.out _).mono ?_
  rintro e u6 ⟨rfl, hb⟩
  replace F := F.blk hb
  clear hb
  go_wp2_with fail
  refine (HH.out _).mono ?_
  rintro e u7 ⟨rfl, hb⟩
  replace F := F.blk hb
  clear hb
  go_wp2
  go_ret
  exact ⟨rfl, F.bel⟩
set_option maxRecDepth 100000 in
set_option maxHeartbeats 2000000 in
theorem hexed_in (h : ByteArray) (s : List UInt8) (W : World) (hh : h.size ≤ 1000) (hu : G.uns 4 h.data.toList = some s) : Calls Tryd.prog 15 #[.string h] W fun e w' => e = .returned (.string ⟨s.toArray⟩) ∧ Below W.heap.size W w' := by
  have HU := Hid.mk (G.unhex_yes h (by omega) s hu)
  clear hu hh
  generalize (⟨s.toArray⟩ : ByteArray) = t at HU ⊢
  have F := Fm.start W
  go_enter Tryd.func15, Tryd.ntmps15
  go_wp2_with fail
  refine (HU.out _).mono ?_
  rintro e u1 ⟨rfl, hb⟩
  replace F := F.blk hb
  clear hb
  go_wp2
  go_ret
  exact ⟨rfl, F.bel⟩
set_option maxRecDepth 100000 in
set_option maxHeartbeats 2000000 in
theorem wide_in (s : ByteArray) (W : World) (hs : s.size ≤ 140737488355328) : Calls Tryd.prog 6 #[.string s] W fun e w' => ∃ t : ByteArray, e = .returned (.string t) ∧ t.size = 32 ∧ Below W.heap.size W w' := by
  go_enter Tryd.func6, Tryd.ntmps6
  go_wp2
  go_loopw [0] (fun sv wr => ∃ t : ByteArray, sv = .string t ∧ t.size ≤ 140737488355328 ∧ wr = W) (fun sv _ => match sv with | .string t => 32 - t.size | _ => 0)
  case atStart => exact ⟨s, rfl, hs, rfl⟩
  case round =>
    obtain ⟨t, rfl, ht, rfl⟩ := hrel
    by_cases hlt : t.size < 32
    · have h1 : (t.size : Int) < 32 := by omega
      have z1 : ¬ (9223372036854775807 < (⟨#[0]⟩ : ByteArray).size + t.size) := by show ¬ (9223372036854775807 < 1 + t.size); omega
      have hsz : ((⟨#[0]⟩ : ByteArray) ++ t).size = 1 + t.size := by rw [ByteArray.size_append]; rfl
      have hsz' := Hid.mk hsz
      clear hsz
      go_wp2
      go_roundw
      case rel => exact ⟨_, rfl, by rw [hsz'.out]; omega, by first | rfl | trivial⟩
      case measure => simp only [hsz'.out]; omega
    · have h1 : ¬ (t.size : Int) < 32 := by omega
      have h2 : (32 : Int) ≤ (t.size : Int) := by omega
      obtain ⟨d, hd⟩ : ∃ d, t.size - 32 = d := ⟨_, rfl⟩
      have w1 : IntKind.i64.wrap ((t.size : Int) - 32) = (d : Int) := by rw [IntKind.wrap_i64]; omega
      have w2 : (d : Int) ≤ (t.size : Int) := by omega
      have w3 : (0 : Int) ≤ (d : Int) := by omega
      have w4 : (t.size : Int) - 32 = (d : Int) := by omega
      have hfin : (t.extract d t.size).size = 32 := by rw [ByteArray.size_extract]; omega
      have Hf := Hid.mk hfin
      clear hfin hd
      go_wp2
      go_ret
      exact ⟨_, rfl, Hf.out, Below.refl _ _⟩
end Go.Proofs.YtmjenhilafdioaaDoor

/- CurveTurns: a point with its second number taken from the prime. -/
namespace Go.Proofs.YtmjenhilafdioaaDoor
set_option linter.unusedVariables false
set_option linter.unusedSimpArgs false
open Go.RowKit N
attribute [local go_sem ↓] N.loadAt_nat N.storeAt_nat N.build_nat N.build_nat' loadAt_pt storeAt_pt build_pt0 build_pt0' build_pt'
attribute [local go_sem] N.st1 N.st2a N.st2b N.st1d N.st2ad N.st2bd N.natBuild_run ptst1 ptst1d ptBuild0_run build_pt ptBuild_run
attribute [local go_sem ↓] bin_nat bin_pt
theorem of_ok (s : ByteArray) (hs : s.size ≤ 512) (W : World) : Calls Tryd.prog 9 #[.string s] W fun e w' => e = .returned (.tuple #[.agg (N.natL (N.numB s.data.toList)).toArray, .int .i64 0]) ∧ Below W.heap.size W w' := by
  have h5 : (N.strip s.data.toList).length ≤ 512 := Nat.le_trans (strip_le' _) (by rw [size_list]; exact hs)
  have := N.of_in s (by omega) W
  rwa [show N.ofR s.data.toList = .returned (.tuple #[.agg (N.natL (N.numB s.data.toList)).toArray, .int .i64 0]) from if_pos h5] at this
theorem Ec.neg_ne {q : Ec} (h : q ≠ Ec.zero) : q.neg ≠ Ec.zero := fun e => h (by
  have := q.add_neg
  rw [e, Ec.add_zero] at this
  exact this)
theorem turn_facts {q : Ec} (h : q ≠ Ec.zero) : ∃ (X Y : ByteArray) (yv : Nat), (tellE q).size = 64 ∧ (tellE q).extract 0 32 = X ∧ (tellE q).extract 32 (tellE q).size = Y ∧ X.size = 32 ∧ Y.size = 32 ∧ N.numB Y.data.toList = yv ∧ yv < pP ∧ yv ≠ 0 ∧ X ++ ⟨(N.bys (pP - yv) 32).toArray⟩ = tellE q.neg := by
  obtain ⟨po, hon⟩ := q
  cases po with
  | none => exact absurd rfl h
  | some r =>
    have z1 := bys_32 r.x.val
    have z2 := bys_32 r.y.val
    have hr : r.On := hon
    have hy0 : r.y.val ≠ 0 := fun e => by
      have hy : r.y = 0 := by rw [← fz_val r.y, e, fz_0]
      have := hr.yy_ne
      rw [hy] at this
      exact this (by decide +kernel)
    refine ⟨⟨(N.bys r.x.val 32).toArray⟩, ⟨(N.bys r.y.val 32).toArray⟩, r.y.val, ?_, ext_l _ _ 32 z1, ext_r _ _ 32 z1, z1, z2, ?_, r.y.isLt, hy0, ?_⟩
    · show ((⟨(N.bys r.x.val 32).toArray⟩ : ByteArray) ++ ⟨(N.bys r.y.val 32).toArray⟩).size = 64
      rw [app_size, z1, z2]
    · show N.numB (N.bys r.y.val 32) = _
      rw [N.numB_bys, Nat.mod_eq_of_lt (lt_p256 r.y.isLt)]
    · have e : (-r.y).val = pP - r.y.val := by
        have e1 : fz (pP - r.y.val) = -r.y := by
          rw [fz_sub (Nat.le_of_lt r.y.isLt), fz_p, fz_val]
          generalize r.y = v
          clear hy0 hr
          grind -lia
        rw [← e1]
        have hlt := r.y.isLt
        exact Nat.mod_eq_of_lt (by omega)
      show _ = (⟨(N.bys r.x.val 32).toArray⟩ : ByteArray) ++ ⟨(N.bys (-r.y).val 32).toArray⟩
      rw [e]
set_option maxRecDepth 100000 in
set_option maxHeartbeats 2000000 in
theorem turns_a (k : ByteArray) (q : Ec) (W : World) (hq : q ≠ Ec.zero) : Calls Tryd.prog 4 #[.string k, .string (tellE q)] W fun e w' => e = .returned (.bool true) ∧ Below W.heap.size W w' := by
  have HE := Hid.mk examples_in
  have hz := N.zero26
  have HO0 := Hid.mk (fun w => on_yes q w hq)
  obtain ⟨X, Y, yv, f1, f2, f3, f4, f5, f6, f7, f8, f9⟩ := turn_facts hq
  have HSu := Hid.mk (sum_yes q q.neg)
  rw [Ec.add_neg, tell_zero, ← f9] at HSu
  have HOn := Hid.mk (fun w => on_yes q.neg w (Ec.neg_ne hq))
  rw [← f9] at HOn
  have HHx := Hid.mk (fun w => hexed_in hexP hexPb w (by decide) hexP_u)
  have HO1 := Hid.mk (of_ok ⟨hexPb.toArray⟩ (by decide))
  rw [show (⟨hexPb.toArray⟩ : ByteArray).data.toList = hexPb from rfl, hexP_n] at HO1
  have HO2 := Hid.mk (of_ok Y (by omega))
  rw [f6] at HO2
  have HSb := Hid.mk (N.sub_in pP yv pP_lim (lim_p f7))
  rw [show N.subR pP yv = .returned (.tuple #[.agg (N.natL (pP - yv)).toArray, .int .i64 0]) from if_pos (Nat.le_of_lt f7)] at HSb
  have hdl : pP - yv < pP := by omega
  have HW := Hid.mk (N.wide_in (pP - yv) 32 (lim_p hdl) (by omega) ((N.nbl_le_iff _ 32).2 (lt_p256 hdl)))
  have z9 := bys_32 (pP - yv)
  generalize (⟨(N.bys (pP - yv) 32).toArray⟩ : ByteArray) = O at HSu HOn HW z9
  obtain ⟨XO, hXO⟩ : ∃ t, X ++ O = t := ⟨_, rfl⟩
  rw [hXO] at HSu HOn
  have z3 : ¬ (9223372036854775807 < X.size + O.size) := by rw [f4, z9]; decide
  generalize pP - yv = dv at HSb HW
  generalize hpv : pP = pv at HO1 HSb
  clear f9 f6 f7 f8 hdl hpv f4 f5 z9
  generalize tellE q = sq at *
  have n1 : ((sq.size : Int) != 64) = false := by simp; omega
  have n2 : (32 : Int) ≤ (sq.size : Int) := by omega
  have n3 : (0 : Int) ≤ (sq.size : Int) := by omega
  clear f1
  have F := Fm.start W
  go_enter Tryd.func4, Tryd.ntmps4
  go_wp2_with fail
  refine (HE.out _).mono ?_
  rintro e u1 ⟨rfl, hb⟩
  replace F := F.blk hb
  clear hb
  go_wp2_with fail
  refine (HO0.out _).mono ?_
  rintro e u2 ⟨rfl, hb⟩
  replace F := F.blk hb
  clear hb
  go_wp2_with fail
  refine (HHx.out _).mono ?_
  rintro e v1 ⟨rfl, hb⟩
  replace F := F.blk hb
  clear hb
  generalize (⟨hexPb.toArray⟩ : ByteArray) = hp0 at HO1 ⊢
  go_wp2_with fail
  refine (HO1.out _).mono ?_
  rintro e v2 ⟨rfl, hb⟩
  replace F := F.blk hb
  clear hb
  go_upto_region 7 with fail
  replace F := F.new (Obj.cells (N.natL pv).toArray 29 (0, 0))
  generalize v2.alloc (Obj.cells (N.natL pv).toArray 29 (0, 0)) = v3 at F ⊢
  generalize v2.heap.size = b6 at F ⊢
  go_wp2_with fail
  refine (HO2.out _).mono ?_
  rintro e v4 ⟨rfl, hb⟩
  replace F := F.blk hb
  clear hb
  go_upto_region 8 with fail
  replace F := F.new (Obj.cells (N.natL yv).toArray 29 (0, 0))
  generalize v4.alloc (Obj.cells (N.natL yv).toArray 29 (0, 0)) = v5 at F ⊢
  generalize v4.heap.size = b8 at F ⊢
  have l6 := N.natLoad_run (F.get 1 rfl)
  have l8 := N.natLoad_run (F.get 0 rfl)
  go_wp2_with fail
  refine (HSb.out _).mono ?_
  rintro e v6 ⟨rfl, hb⟩
  replace F := F.blk hb
  clear hb l6 l8
  go_upto_region 9 with fail
  replace F := F.new (Obj.cells (N.natL dv).toArray 29 (0, 0))
  generalize v6.alloc (Obj.cells (N.natL dv).toArray 29 (0, 0)) = v7 at F ⊢
  generalize v6.heap.size = b10 at F ⊢
  have l10 := N.natLoad_run (F.get 0 rfl)
  go_wp2_with fail
  refine (HW.out _).mono ?_
  rintro e v8 ⟨rfl, hb⟩
  replace F := F.blk hb
  clear hb l10
  go_wp2_with fail
  refine (HSu.out _).mono ?_
  rintro e v9 ⟨rfl, hb⟩
  replace F := F.blk hb
  clear hb
  go_wp2_with fail
  refine (HOn.out _).mono ?_
  rintro e v10 ⟨rfl, hb⟩
  replace F := F.blk hb
  clear hb
  go_wp2
  go_ret
  exact ⟨rfl, F.bel⟩
set_option maxRecDepth 100000 in
set_option maxHeartbeats 2000000 in
theorem turns_b (k s : ByteArray) (W : World) (hk : k.size ≤ 140737488355328) (hs : (ptOf s).2 = false ∨ s = tellE Ec.zero) : Calls Tryd.prog 4 #[.string k, .string s] W fun e w' => e = .returned (.bool true) ∧ Below W.heap.size W w' := by
  have HE := Hid.mk examples_in
  have hz := N.zero26
  have HO0 : Hid (∀ w, Calls Tryd.prog 7 #[.string s] w fun e w' => e = .returned (.bool false) ∧ Below w.heap.size w w') := fun w => by
    rcases hs with hs | hs
    · exact on_no s w hs
    · have := on_zero Ec.zero w rfl
      rwa [hs]
  clear hs
  have HWi := Hid.mk (fun w => wide_in k w hk)
  have HBa := Hid.mk base_in
  have HTi : Hid (∀ t : ByteArray, t.size = 32 → ∀ w, Calls Tryd.prog 13 #[.string t, .string (tellE ecG)] w fun e w' => ∃ q, e = .returned (.tuple #[.string (tellE q), .int .i64 0]) ∧ Below w.heap.size w w') := fun t ht w => (times_yes t ecG w ht).mono fun e w' ⟨he, hb⟩ => ⟨_, he, hb⟩
  clear hk
  generalize tellE ecG = g at HBa HTi
  have F := Fm.start W
  go_enter Tryd.func4, Tryd.ntmps4
  go_wp2_with fail
  refine (HE.out _).mono ?_
  rintro e u1 ⟨rfl, hb⟩
  replace F := F.blk hb
  clear hb
  go_wp2_with fail
  refine (HO0.out _).mono ?_
  rintro e u2 ⟨rfl, hb⟩
  replace F := F.blk hb
  clear hb
  go_wp2_with fail
  refine (HWi.out _).mono ?_
  rintro e u3 ⟨t, rfl, ht, hb⟩
  replace F := F.blk hb
  clear hb
  go_wp2_with fail
  refine (HBa.out _).mono ?_
  rintro e u4 ⟨rfl, hb⟩
  replace F := F.blk hb
  clear hb
  go_wp2_with fail
  refine (HTi.out t ht _).mono ?_
  rintro e u5 ⟨q, rfl, hb⟩
  replace F := F.blk hb
  clear hb
  clear HWi HBa HTi HO0 HE ht
  by_cases hq : q = Ec.zero
  · subst hq
    rw [tell_zero]
    go_wp2
    go_ret
    exact ⟨rfl, F.bel⟩
  · obtain ⟨X, Y, yv, f1, f2, f3, f4, f5, f6, f7, f8, f9⟩ := turn_facts hq
    have HSu := Hid.mk (sum_yes q q.neg)
    rw [Ec.add_neg, tell_zero, ← f9] at HSu
    have HOn := Hid.mk (fun w => on_yes q.neg w (Ec.neg_ne hq))
    rw [← f9] at HOn
    have HHx := Hid.mk (fun w => hexed_in hexP hexPb w (by decide) hexP_u)
    have HO1 := Hid.mk (of_ok ⟨hexPb.toArray⟩ (by decide))
    rw [show (⟨hexPb.toArray⟩ : ByteArray).data.toList = hexPb from rfl, hexP_n] at HO1
    have HO2 := Hid.mk (of_ok Y (by omega))
    rw [f6] at HO2
    have HSb := Hid.mk (N.sub_in pP yv pP_lim (lim_p f7))
    rw [show N.subR pP yv = .returned (.tuple #[.agg (N.natL (pP - yv)).toArray, .int .i64 0]) from if_pos (Nat.le_of_lt f7)] at HSb
    have hdl : pP - yv < pP := by omega
    have HW := Hid.mk (N.wide_in (pP - yv) 32 (lim_p hdl) (by omega) ((N.nbl_le_iff _ 32).2 (lt_p256 hdl)))
    have z9 := bys_32 (pP - yv)
    generalize (⟨(N.bys (pP - yv) 32).toArray⟩ : ByteArray) = O at HSu HOn HW z9
    obtain ⟨XO, hXO⟩ : ∃ t, X ++ O = t := ⟨_, rfl⟩
    rw [hXO] at HSu HOn
    have z3 : ¬ (9223372036854775807 < X.size + O.size) := by rw [f4, z9]; decide
    generalize pP - yv = dv at HSb HW
    generalize hpv : pP = pv at HO1 HSb
    clear f9 f6 f7 f8 hdl hpv f4 f5 z9
    generalize tellE q = sq at *
    have n1 : ((sq.size : Int) != 64) = false := by simp; omega
    have n2 : (32 : Int) ≤ (sq.size : Int) := by omega
    have n3 : (0 : Int) ≤ (sq.size : Int) := by omega
    clear f1
    go_wp2_with fail
    refine (HHx.out _).mono ?_
    rintro e v1 ⟨rfl, hb⟩
    replace F := F.blk hb
    clear hb
    generalize (⟨hexPb.toArray⟩ : ByteArray) = hp0 at HO1 ⊢
    go_wp2_with fail
    refine (HO1.out _).mono ?_
    rintro e v2 ⟨rfl, hb⟩
    replace F := F.blk hb
    clear hb
    go_upto_region 7 with fail
    replace F := F.new (Obj.cells (N.natL pv).toArray 29 (0, 0))
    generalize v2.alloc (Obj.cells (N.natL pv).toArray 29 (0, 0)) = v3 at F ⊢
    generalize v2.heap.size = b6 at F ⊢
    go_wp2_with fail
    refine (HO2.out _).mono ?_
    rintro e v4 ⟨rfl, hb⟩
    replace F := F.blk hb
    clear hb
    go_upto_region 8 with fail
    replace F := F.new (Obj.cells (N.natL yv).toArray 29 (0, 0))
    generalize v4.alloc (Obj.cells (N.natL yv).toArray 29 (0, 0)) = v5 at F ⊢
    generalize v4.heap.size = b8 at F ⊢
    have l6 := N.natLoad_run (F.get 1 rfl)
    have l8 := N.natLoad_run (F.get 0 rfl)
    go_wp2_with fail
    refine (HSb.out _).mono ?_
    rintro e v6 ⟨rfl, hb⟩
    replace F := F.blk hb
    clear hb l6 l8
    go_upto_region 9 with fail
    replace F := F.new (Obj.cells (N.natL dv).toArray 29 (0, 0))
    generalize v6.alloc (Obj.cells (N.natL dv).toArray 29 (0, 0)) = v7 at F ⊢
    generalize v6.heap.size = b10 at F ⊢
    have l10 := N.natLoad_run (F.get 0 rfl)
    go_wp2_with fail
    refine (HW.out _).mono ?_
    rintro e v8 ⟨rfl, hb⟩
    replace F := F.blk hb
    clear hb l10
    go_wp2_with fail
    refine (HSu.out _).mono ?_
    rintro e v9 ⟨rfl, hb⟩
    replace F := F.blk hb
    clear hb
    go_wp2_with fail
    refine (HOn.out _).mono ?_
    rintro e v10 ⟨rfl, hb⟩
    replace F := F.blk hb
    clear hb
    go_wp2
    go_ret
    exact ⟨rfl, F.bel⟩
theorem curveturns_walk (k : ByteArray) (hk : k.size ≤ 140737488355328) (s : ByteArray) (hs : s.size ≤ 140737488355328) (W : World) (hG : NG W) : Calls Tryd.prog 4 #[.string k, .string s] W fun e w' => e = .returned (.bool true) ∧ Below W.heap.size W w' := by
  cases h : (ptOf s).2 with
  | false => exact turns_b k s W hk (Or.inl h)
  | true =>
    obtain ⟨p, hp⟩ := ptOf_ex h
    by_cases hz : p = Ec.zero
    · exact turns_b k s W hk (Or.inr (by rw [hp, hz]))
    · rw [hp]
      exact turns_a k p W hz
end Go.Proofs.YtmjenhilafdioaaDoor

/- CurveLaws. -/
namespace Go.Proofs.YtmjenhilafdioaaDoor
set_option linter.unusedVariables false
set_option linter.unusedSimpArgs false
open Go.RowKit N
attribute [local go_sem ↓] N.loadAt_nat N.storeAt_nat N.build_nat N.build_nat' loadAt_pt storeAt_pt build_pt0 build_pt0' build_pt'
attribute [local go_sem] N.st1 N.st2a N.st2b N.st1d N.st2ad N.st2bd N.natBuild_run ptst1 ptst1d ptBuild0_run build_pt ptBuild_run
attribute [local go_sem ↓] bin_nat bin_pt
set_option maxRecDepth 100000 in
set_option maxHeartbeats 2000000 in
theorem laws_a (k : ByteArray) (p : Ec) (W : World) (hk : k.size ≤ 140737488355328) (hp : p ≠ Ec.zero) : Calls Tryd.prog 3 #[.string k, .string (tellE p)] W fun e w' => e = .returned (.bool true) ∧ Below W.heap.size W w' := by
  have HE := Hid.mk examples_in
  have hz := N.zero26
  have HWi := Hid.mk (fun w => wide_in k w hk)
  clear hk
  have HO0 := Hid.mk (fun w => on_yes p w hp)
  have HTi : Hid (∀ t : ByteArray, t.size = 32 → ∀ w, Calls Tryd.prog 13 #[.string t, .string (tellE p)] w fun e w' => e = .returned (.tuple #[.string (tellE (Ec.mul (N.numB t.data.toList) p)), .int .i64 0]) ∧ Below w.heap.size w w') := fun t ht w => times_yes t p w ht
  have HHx := Hid.mk (fun w => hexed_in hexN hexNb w (by decide) hexN_u)
  have HTn := Hid.mk (HTi.out ⟨hexNb.toArray⟩ (by decide))
  rw [show (⟨hexNb.toArray⟩ : ByteArray).data.toList = hexNb from rfl, hexN_n, ec_order p, tell_zero] at HTn
  have HSo := Hid.mk (sum_yes p Ec.zero)
  rw [Ec.add_zero, tell_zero] at HSo
  have HS1 := Hid.mk (N.small_in 1 (by omega))
  have F := Fm.start W
  go_enter Tryd.func3, Tryd.ntmps3
  go_wp2_with fail
  refine (HE.out _).mono ?_
  rintro e u1 ⟨rfl, hb⟩
  replace F := F.blk hb
  clear hb
  go_wp2_with fail
  refine (HWi.out _).mono ?_
  rintro e u2 ⟨t, rfl, ht, hb⟩
  replace F := F.blk hb
  clear hb HWi HE
  go_wp2_with fail
  refine (HO0.out _).mono ?_
  rintro e u3 ⟨rfl, hb⟩
  replace F := F.blk hb
  clear hb HO0
  have HOf := Hid.mk (of_ok t (by omega))
  have HT1 := Hid.mk (HTi.out t ht)
  have hK : N.numB t.data.toList < 256 ^ 32 := by
    have h1 := N.numB_lt t.data.toList
    rwa [size_list, ht] at h1
  generalize N.numB t.data.toList = K at HOf HT1 hK
  have hKL : K < N.Lim := N.lim_big 8 K (by omega) (Nat.lt_of_lt_of_le hK (by decide))
  have hK1 : K + 1 < N.Lim := N.lim_big 9 (K + 1) (by omega) (by
    have h1 : K + 1 ≤ 256 ^ 32 := hK
    exact Nat.lt_of_le_of_lt h1 (by decide))
  have HAd := Hid.mk (N.add_in K 1 hKL (N.lim_big 1 1 (by omega) (by omega)))
  rw [N.natR_ok _ hK1] at HAd
  clear ht
  go_wp2_with fail
  refine (HOf.out _).mono ?_
  rintro e v1 ⟨rfl, hb⟩
  replace F := F.blk hb
  clear hb
  go_upto_region 6 with fail
  replace F := F.new (Obj.cells (N.natL K).toArray 29 (0, 0))
  generalize v1.alloc (Obj.cells (N.natL K).toArray 29 (0, 0)) = v2 at F ⊢
  generalize v1.heap.size = b6 at F ⊢
  obtain ⟨L, hL⟩ : ∃ L : List (Nat × Obj), [(b6, Obj.cells (N.natL K).toArray 29 (0, 0))] = L := ⟨_, rfl⟩
  rw [hL] at F
  have HS : Hid (∀ w, Fm W L w → Fm W L w ∧ (N.natLoad (.pointer (some ⟨b6, 0, none⟩))).run Tryd.prog w = .ok (.agg (N.natL K).toArray) w) := fun w h => ⟨h, N.natLoad_run (h.get 0 (by rw [← hL]; rfl))⟩
  have H1 : Hid (∀ w, Fm W L w → Calls Tryd.prog 11 #[.int .u64 1] w fun e w' => e = .returned (.agg (N.natL 1).toArray) ∧ Below w.heap.size w w') := fun w _ => HS1.out w
  obtain ⟨K1, hK1e⟩ : ∃ m, K + 1 = m := ⟨_, rfl⟩
  rw [hK1e] at HAd
  have H2 : Hid (∀ w, Fm W L w → Calls Tryd.prog 10 #[.agg (N.natL K).toArray, .agg (N.natL 1).toArray] w fun e w' => e = .returned (.tuple #[.agg (N.natL K1).toArray, .int .i64 0]) ∧ Below w.heap.size w w') := fun w _ => HAd.out w
  have hS0 := HS.out _ F
  have HK1e := Hid.mk hK1e
  clear hK1e
  go_cut [8] (fun s wx => ∃ b, s = .pointer (some ⟨b, 0, none⟩) ∧ Fm W ((b, Obj.cells (N.natL K1).toArray 29 (0, 0)) :: L) wx)
  case first =>
    go_region_held3 (fun w => Fm W L w ∧ (N.natLoad (.pointer (some ⟨b6, 0, none⟩))).run Tryd.prog w = .ok (.agg (N.natL K).toArray) w)
      (first | assumption | (apply HS.out; repeat (first | assumption | apply Fm.drew | apply Fz.drew | apply Fq.drew | apply Fm.alloc | (apply Fm.setO (V := _); assumption))))
      (first
        | (go_at_call 10; with_reducible refine (H2.out _ (by repeat (first | assumption | apply Fm.drew | apply Fz.drew | apply Fq.drew | apply Fm.alloc))).mono ?_; rintro e w3 ⟨rfl, hb3⟩; have F3 := Fm.blk (by repeat (first | assumption | apply Fm.drew | apply Fz.drew | apply Fq.drew | apply Fm.alloc)) hb3; have hs3 := HS.out _ F3
           first
             | (refine kpN hb3 ?_; rintro ⟨g1, s1⟩)
             | (refine kpM hb3 ?_; rintro ⟨g1, s1⟩)
             | (refine kpO g1 hb3 ?_; rintro ⟨g2, s2⟩; clear g1 s1; have g1 := g2; have s1 := s2; clear g2 s2)
             | skip)
        | (go_at_call 11; with_reducible refine (H1.out _ (by repeat (first | assumption | apply Fm.drew | apply Fz.drew | apply Fq.drew | apply Fm.alloc))).mono ?_; rintro e w2 ⟨rfl, hb2⟩; have F2 := Fm.blk (by repeat (first | assumption | apply Fm.drew | apply Fz.drew | apply Fq.drew | apply Fm.alloc)) hb2; have hs2 := HS.out _ F2
           first
             | (refine kpN hb2 ?_; rintro ⟨g1, s1⟩)
             | (refine kpM hb2 ?_; rintro ⟨g1, s1⟩)
             | (refine kpO g1 hb2 ?_; rintro ⟨g2, s2⟩; clear g1 s1; have g1 := g2; have s1 := s2; clear g2 s2)
             | skip))
    all_goals go_wp2
    all_goals go_meet
    all_goals (first
      | exact ⟨_, rfl, Fm.new (by assumption) _⟩
      | exact ⟨_, rfl, Fm.late (by assumption) (by assumption) g1⟩)
  case rest =>
    obtain ⟨b8, rfl, F1⟩ := hcut
    rw [← hL] at F1
    clear hS0 F HS hL H1 H2
    have F := F1
    clear F1
    have l8 := N.natLoad_run (F.get 0 rfl)
    by_cases hf : N.nbl K1 ≤ 32
    · have HW := Hid.mk (N.wide_in K1 32 (by rw [← HK1e.out]; exact hK1) (by omega) hf)
      have z9 := bys_32 K1
      have hnum : N.numB (⟨(N.bys K1 32).toArray⟩ : ByteArray).data.toList = K1 := by
        show N.numB (N.bys K1 32) = _
        rw [N.numB_bys, Nat.mod_eq_of_lt ((N.nbl_le_iff K1 32).1 hf)]
      have HT2 := Hid.mk (HTi.out _ z9)
      rw [hnum] at HT2
      generalize (⟨(N.bys K1 32).toArray⟩ : ByteArray) = O at HW HT2
      rw [← HK1e.out] at HT2
      have HSa := Hid.mk (sum_yes (Ec.mul K p) p)
      have HSb := Hid.mk (sum_yes p (Ec.mul K p))
      rw [Ec.add_comm p] at HSb
      rw [show Ec.mul (K + 1) p = (Ec.mul K p).add p from rfl] at HT2
      clear hnum z9 hf HTi
      go_wp2_with fail
      refine (HW.out _).mono ?_
      rintro e x1 ⟨rfl, hb⟩
      replace F := F.blk hb
      clear hb l8 HW
      by_cases hx : Ec.mul K p = Ec.zero
      · rw [hx, tell_zero] at HT1
        rw [hx, Ec.zero_add] at HT2
        rw [hx, Ec.zero_add, tell_zero] at HSa HSb
        clear hx hp hK hKL hK1
        generalize tellE p = sp at *
        go_wp2_with fail
        refine (HT1.out _).mono ?_
        rintro e x2 ⟨rfl, hb⟩
        replace F := F.blk hb
        clear hb
        go_wp2_with fail
        refine (HT2.out _).mono ?_
        rintro e x3 ⟨rfl, hb⟩
        replace F := F.blk hb
        clear hb
        go_wp2_with fail
        refine (HSa.out _).mono ?_
        rintro e x4 ⟨rfl, hb⟩
        replace F := F.blk hb
        clear hb
        go_wp2_with fail
        refine (HSb.out _).mono ?_
        rintro e x5 ⟨rfl, hb⟩
        replace F := F.blk hb
        clear hb
        go_wp2_with fail
        refine (HHx.out _).mono ?_
        rintro e x6 ⟨rfl, hb⟩
        replace F := F.blk hb
        clear hb
        generalize (⟨hexNb.toArray⟩ : ByteArray) = hn0 at HTn ⊢
        go_wp2_with fail
        refine (HTn.out _).mono ?_
        rintro e x7 ⟨rfl, hb⟩
        replace F := F.blk hb
        clear hb
        go_wp2_with fail
        refine (HSo.out _).mono ?_
        rintro e x8 ⟨rfl, hb⟩
        replace F := F.blk hb
        clear hb
        go_wp2
        go_ret
        exact ⟨rfl, F.bel⟩
      · have HOx := Hid.mk (fun w => on_yes _ w hx)
        have hne : (tellE (Ec.mul K p)).toList.isEmpty = false := by
          rw [Bool.eq_false_iff]
          intro e
          have h0 : (tellE (Ec.mul K p)).size = 0 := by rw [← size_list, ← ByteArray.toList_eq, List.isEmpty_iff.1 e]; rfl
          rw [tellE_size] at h0
          split at h0
          · rename_i ho; exact hx (Ec.ext2 ho)
          · omega
        generalize tellE ((Ec.mul K p).add p) = sy at *
        generalize tellE (Ec.mul K p) = sx at *
        clear hx hp hK hKL hK1
        generalize tellE p = sp at *
        go_wp2_with fail
        refine (HT1.out _).mono ?_
        rintro e x2 ⟨rfl, hb⟩
        replace F := F.blk hb
        clear hb
        go_wp2_with fail
        refine (HT2.out _).mono ?_
        rintro e x3 ⟨rfl, hb⟩
        replace F := F.blk hb
        clear hb
        go_wp2_with fail
        refine (HSa.out _).mono ?_
        rintro e x4 ⟨rfl, hb⟩
        replace F := F.blk hb
        clear hb
        go_wp2_with fail
        refine (HSb.out _).mono ?_
        rintro e x5 ⟨rfl, hb⟩
        replace F := F.blk hb
        clear hb
        go_wp2_with fail
        refine (HHx.out _).mono ?_
        rintro e x6 ⟨rfl, hb⟩
        replace F := F.blk hb
        clear hb
        generalize (⟨hexNb.toArray⟩ : ByteArray) = hn0 at HTn ⊢
        go_wp2_with fail
        refine (HTn.out _).mono ?_
        rintro e x7 ⟨rfl, hb⟩
        replace F := F.blk hb
        clear hb
        go_wp2_with fail
        refine (HSo.out _).mono ?_
        rintro e x8 ⟨rfl, hb⟩
        replace F := F.blk hb
        clear hb
        go_wp2_with fail
        refine (HOx.out _).mono ?_
        rintro e x9 ⟨rfl, hb⟩
        replace F := F.blk hb
        clear hb
        go_wp2
        go_ret
        exact ⟨rfl, F.bel⟩
    · have HW := Hid.mk (N.wide_long K1 32 (by rw [← HK1e.out]; exact hK1) (by omega) (by omega))
      clear hf
      go_wp2_with fail
      refine (HW.out _).mono ?_
      rintro e x1 ⟨rfl, hb⟩
      replace F := F.blk hb
      clear hb l8 HW
      go_wp2
      go_ret
      exact ⟨rfl, F.bel⟩
set_option maxRecDepth 100000 in
set_option maxHeartbeats 2000000 in
theorem laws_b (k s : ByteArray) (W : World) (hk : k.size ≤ 140737488355328) (hs : (ptOf s).2 = false ∨ s = tellE Ec.zero) : Calls Tryd.prog 3 #[.string k, .string s] W fun e w' => e = .returned (.bool true) ∧ Below W.heap.size W w' := by
  have HE := Hid.mk examples_in
  have hz := N.zero26
  have HWi := Hid.mk (fun w => wide_in k w hk)
  clear hk
  have HO0 : Hid (∀ w, Calls Tryd.prog 7 #[.string s] w fun e w' => e = .returned (.bool false) ∧ Below w.heap.size w w') := fun w => by
    rcases hs with hs | hs
    · exact on_no s w hs
    · have := on_zero Ec.zero w rfl
      rwa [hs]
  clear hs
  have HBa := Hid.mk base_in
  obtain ⟨p, hpe⟩ : ∃ p, ecG = p := ⟨_, rfl⟩
  have hp : p ≠ Ec.zero := by rw [← hpe]; exact ecG_ne
  rw [hpe] at HBa
  clear hpe
  have HTi : Hid (∀ t : ByteArray, t.size = 32 → ∀ w, Calls Tryd.prog 13 #[.string t, .string (tellE p)] w fun e w' => e = .returned (.tuple #[.string (tellE (Ec.mul (N.numB t.data.toList) p)), .int .i64 0]) ∧ Below w.heap.size w w') := fun t ht w => times_yes t p w ht
  have HHx := Hid.mk (fun w => hexed_in hexN hexNb w (by decide) hexN_u)
  have HTn := Hid.mk (HTi.out ⟨hexNb.toArray⟩ (by decide))
  rw [show (⟨hexNb.toArray⟩ : ByteArray).data.toList = hexNb from rfl, hexN_n, ec_order p, tell_zero] at HTn
  have HSo := Hid.mk (sum_yes p Ec.zero)
  rw [Ec.add_zero, tell_zero] at HSo
  have HS1 := Hid.mk (N.small_in 1 (by omega))
  have F := Fm.start W
  go_enter Tryd.func3, Tryd.ntmps3
  go_wp2_with fail
  refine (HE.out _).mono ?_
  rintro e u1 ⟨rfl, hb⟩
  replace F := F.blk hb
  clear hb
  go_wp2_with fail
  refine (HWi.out _).mono ?_
  rintro e u2 ⟨t, rfl, ht, hb⟩
  replace F := F.blk hb
  clear hb HWi HE
  go_wp2_with fail
  refine (HO0.out _).mono ?_
  rintro e u3 ⟨rfl, hb⟩
  replace F := F.blk hb
  clear hb HO0
  go_wp2_with fail
  refine (HBa.out _).mono ?_
  rintro e u4 ⟨rfl, hb⟩
  replace F := F.blk hb
  clear hb HBa
  have HOf := Hid.mk (of_ok t (by omega))
  have HT1 := Hid.mk (HTi.out t ht)
  have hK : N.numB t.data.toList < 256 ^ 32 := by
    have h1 := N.numB_lt t.data.toList
    rwa [size_list, ht] at h1
  generalize N.numB t.data.toList = K at HOf HT1 hK
  have hKL : K < N.Lim := N.lim_big 8 K (by omega) (Nat.lt_of_lt_of_le hK (by decide))
  have hK1 : K + 1 < N.Lim := N.lim_big 9 (K + 1) (by omega) (by
    have h1 : K + 1 ≤ 256 ^ 32 := hK
    exact Nat.lt_of_le_of_lt h1 (by decide))
  have HAd := Hid.mk (N.add_in K 1 hKL (N.lim_big 1 1 (by omega) (by omega)))
  rw [N.natR_ok _ hK1] at HAd
  clear ht
  go_wp2_with fail
  refine (HOf.out _).mono ?_
  rintro e v1 ⟨rfl, hb⟩
  replace F := F.blk hb
  clear hb
  go_upto_region 6 with fail
  replace F := F.new (Obj.cells (N.natL K).toArray 29 (0, 0))
  generalize v1.alloc (Obj.cells (N.natL K).toArray 29 (0, 0)) = v2 at F ⊢
  generalize v1.heap.size = b6 at F ⊢
  obtain ⟨L, hL⟩ : ∃ L : List (Nat × Obj), [(b6, Obj.cells (N.natL K).toArray 29 (0, 0))] = L := ⟨_, rfl⟩
  rw [hL] at F
  have HS : Hid (∀ w, Fm W L w → Fm W L w ∧ (N.natLoad (.pointer (some ⟨b6, 0, none⟩))).run Tryd.prog w = .ok (.agg (N.natL K).toArray) w) := fun w h => ⟨h, N.natLoad_run (h.get 0 (by rw [← hL]; rfl))⟩
  have H1 : Hid (∀ w, Fm W L w → Calls Tryd.prog 11 #[.int .u64 1] w fun e w' => e = .returned (.agg (N.natL 1).toArray) ∧ Below w.heap.size w w') := fun w _ => HS1.out w
  obtain ⟨K1, hK1e⟩ : ∃ m, K + 1 = m := ⟨_, rfl⟩
  rw [hK1e] at HAd
  have H2 : Hid (∀ w, Fm W L w → Calls Tryd.prog 10 #[.agg (N.natL K).toArray, .agg (N.natL 1).toArray] w fun e w' => e = .returned (.tuple #[.agg (N.natL K1).toArray, .int .i64 0]) ∧ Below w.heap.size w w') := fun w _ => HAd.out w
  have hS0 := HS.out _ F
  have HK1e := Hid.mk hK1e
  clear hK1e
  go_cut [8] (fun s wx => ∃ b, s = .pointer (some ⟨b, 0, none⟩) ∧ Fm W ((b, Obj.cells (N.natL K1).toArray 29 (0, 0)) :: L) wx)
  case first =>
    go_region_held3 (fun w => Fm W L w ∧ (N.natLoad (.pointer (some ⟨b6, 0, none⟩))).run Tryd.prog w = .ok (.agg (N.natL K).toArray) w)
      (first | assumption | (apply HS.out; repeat (first | assumption | apply Fm.drew | apply Fz.drew | apply Fq.drew | apply Fm.alloc | (apply Fm.setO (V := _); assumption))))
      (first
        | (go_at_call 10; with_reducible refine (H2.out _ (by repeat (first | assumption | apply Fm.drew | apply Fz.drew | apply Fq.drew | apply Fm.alloc))).mono ?_; rintro e w3 ⟨rfl, hb3⟩; have F3 := Fm.blk (by repeat (first | assumption | apply Fm.drew | apply Fz.drew | apply Fq.drew | apply Fm.alloc)) hb3; have hs3 := HS.out _ F3
           first
             | (refine kpN hb3 ?_; rintro ⟨g1, s1⟩)
             | (refine kpM hb3 ?_; rintro ⟨g1, s1⟩)
             | (refine kpO g1 hb3 ?_; rintro ⟨g2, s2⟩; clear g1 s1; have g1 := g2; have s1 := s2; clear g2 s2)
             | skip)
        | (go_at_call 11; with_reducible refine (H1.out _ (by repeat (first | assumption | apply Fm.drew | apply Fz.drew | apply Fq.drew | apply Fm.alloc))).mono ?_; rintro e w2 ⟨rfl, hb2⟩; have F2 := Fm.blk (by repeat (first | assumption | apply Fm.drew | apply Fz.drew | apply Fq.drew | apply Fm.alloc)) hb2; have hs2 := HS.out _ F2
           first
             | (refine kpN hb2 ?_; rintro ⟨g1, s1⟩)
             | (refine kpM hb2 ?_; rintro ⟨g1, s1⟩)
             | (refine kpO g1 hb2 ?_; rintro ⟨g2, s2⟩; clear g1 s1; have g1 := g2; have s1 := s2; clear g2 s2)
             | skip))
    all_goals go_wp2
    all_goals go_meet
    all_goals (first
      | exact ⟨_, rfl, Fm.new (by assumption) _⟩
      | exact ⟨_, rfl, Fm.late (by assumption) (by assumption) g1⟩)
  case rest =>
    obtain ⟨b8, rfl, F1⟩ := hcut
    rw [← hL] at F1
    clear hS0 F HS hL H1 H2
    have F := F1
    clear F1
    have l8 := N.natLoad_run (F.get 0 rfl)
    by_cases hf : N.nbl K1 ≤ 32
    · have HW := Hid.mk (N.wide_in K1 32 (by rw [← HK1e.out]; exact hK1) (by omega) hf)
      have z9 := bys_32 K1
      have hnum : N.numB (⟨(N.bys K1 32).toArray⟩ : ByteArray).data.toList = K1 := by
        show N.numB (N.bys K1 32) = _
        rw [N.numB_bys, Nat.mod_eq_of_lt ((N.nbl_le_iff K1 32).1 hf)]
      have HT2 := Hid.mk (HTi.out _ z9)
      rw [hnum] at HT2
      generalize (⟨(N.bys K1 32).toArray⟩ : ByteArray) = O at HW HT2
      rw [← HK1e.out] at HT2
      have HSa := Hid.mk (sum_yes (Ec.mul K p) p)
      have HSb := Hid.mk (sum_yes p (Ec.mul K p))
      rw [Ec.add_comm p] at HSb
      rw [show Ec.mul (K + 1) p = (Ec.mul K p).add p from rfl] at HT2
      clear hnum z9 hf HTi
      go_wp2_with fail
      refine (HW.out _).mono ?_
      rintro e x1 ⟨rfl, hb⟩
      replace F := F.blk hb
      clear hb l8 HW
      by_cases hx : Ec.mul K p = Ec.zero
      · rw [hx, tell_zero] at HT1
        rw [hx, Ec.zero_add] at HT2
        rw [hx, Ec.zero_add, tell_zero] at HSa HSb
        clear hx hp hK hKL hK1
        generalize tellE p = sp at *
        go_wp2_with fail
        refine (HT1.out _).mono ?_
        rintro e x2 ⟨rfl, hb⟩
        replace F := F.blk hb
        clear hb
        go_wp2_with fail
        refine (HT2.out _).mono ?_
        rintro e x3 ⟨rfl, hb⟩
        replace F := F.blk hb
        clear hb
        go_wp2_with fail
        refine (HSa.out _).mono ?_
        rintro e x4 ⟨rfl, hb⟩
        replace F := F.blk hb
        clear hb
        go_wp2_with fail
        refine (HSb.out _).mono ?_
        rintro e x5 ⟨rfl, hb⟩
        replace F := F.blk hb
        clear hb
        go_wp2_with fail
        refine (HHx.out _).mono ?_
        rintro e x6 ⟨rfl, hb⟩
        replace F := F.blk hb
        clear hb
        generalize (⟨hexNb.toArray⟩ : ByteArray) = hn0 at HTn ⊢
        go_wp2_with fail
        refine (HTn.out _).mono ?_
        rintro e x7 ⟨rfl, hb⟩
        replace F := F.blk hb
        clear hb
        go_wp2_with fail
        refine (HSo.out _).mono ?_
        rintro e x8 ⟨rfl, hb⟩
        replace F := F.blk hb
        clear hb
        go_wp2
        go_ret
        exact ⟨rfl, F.bel⟩
      · have HOx := Hid.mk (fun w => on_yes _ w hx)
        have hne : (tellE (Ec.mul K p)).toList.isEmpty = false := by
          rw [Bool.eq_false_iff]
          intro e
          have h0 : (tellE (Ec.mul K p)).size = 0 := by rw [← size_list, ← ByteArray.toList_eq, List.isEmpty_iff.1 e]; rfl
          rw [tellE_size] at h0
          split at h0
          · rename_i ho; exact hx (Ec.ext2 ho)
          · omega
        generalize tellE ((Ec.mul K p).add p) = sy at *
        generalize tellE (Ec.mul K p) = sx at *
        clear hx hp hK hKL hK1
        generalize tellE p = sp at *
        go_wp2_with fail
        refine (HT1.out _).mono ?_
        rintro e x2 ⟨rfl, hb⟩
        replace F := F.blk hb
        clear hb
        go_wp2_with fail
        refine (HT2.out _).mono ?_
        rintro e x3 ⟨rfl, hb⟩
        replace F := F.blk hb
        clear hb
        go_wp2_with fail
        refine (HSa.out _).mono ?_
        rintro e x4 ⟨rfl, hb⟩
        replace F := F.blk hb
        clear hb
        go_wp2_with fail
        refine (HSb.out _).mono ?_
        rintro e x5 ⟨rfl, hb⟩
        replace F := F.blk hb
        clear hb
        go_wp2_with fail
        refine (HHx.out _).mono ?_
        rintro e x6 ⟨rfl, hb⟩
        replace F := F.blk hb
        clear hb
        generalize (⟨hexNb.toArray⟩ : ByteArray) = hn0 at HTn ⊢
        go_wp2_with fail
        refine (HTn.out _).mono ?_
        rintro e x7 ⟨rfl, hb⟩
        replace F := F.blk hb
        clear hb
        go_wp2_with fail
        refine (HSo.out _).mono ?_
        rintro e x8 ⟨rfl, hb⟩
        replace F := F.blk hb
        clear hb
        go_wp2_with fail
        refine (HOx.out _).mono ?_
        rintro e x9 ⟨rfl, hb⟩
        replace F := F.blk hb
        clear hb
        go_wp2
        go_ret
        exact ⟨rfl, F.bel⟩
    · have HW := Hid.mk (N.wide_long K1 32 (by rw [← HK1e.out]; exact hK1) (by omega) (by omega))
      clear hf
      go_wp2_with fail
      refine (HW.out _).mono ?_
      rintro e x1 ⟨rfl, hb⟩
      replace F := F.blk hb
      clear hb l8 HW
      go_wp2
      go_ret
      exact ⟨rfl, F.bel⟩
theorem curvelaws_walk (k : ByteArray) (hk : k.size ≤ 140737488355328) (s : ByteArray) (hs : s.size ≤ 140737488355328) (W : World) (hG : NG W) : Calls Tryd.prog 3 #[.string k, .string s] W fun e w' => e = .returned (.bool true) ∧ Below W.heap.size W w' := by
  cases h : (ptOf s).2 with
  | false => exact laws_b k s W hk (Or.inl h)
  | true =>
    obtain ⟨p, hp⟩ := ptOf_ex h
    by_cases hz : p = Ec.zero
    · exact laws_b k s W hk (Or.inr (by rw [hp, hz]))
    · rw [hp]
      exact laws_a k p W hk hz
end Go.Proofs.YtmjenhilafdioaaDoor
