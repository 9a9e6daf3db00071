/- Texts of this proof, joined: CEq, NDv, NTms, NFault, NWide, NPowF. -/
import Derived.Test.YtpimliebiapnfaaGreatDoorJ7
import Derived.ChangeKeysEq
import Derived.Test.YtpimliebiapnfaaGreatDoorJ5
/- Numbers and points compared as wholes. -/
namespace Go.Proofs.YtpimliebiapnfaaGreatDoor
set_option linter.unusedVariables false
set_option linter.unusedSimpArgs false
open Go.RowKit

theorem eqItems_u32 (d : Nat) (W : World) (xs ys : Array Value) (f g : Nat → BitVec 32) : ∀ (l : List Nat), (∀ i ∈ l, xs[i]? = some (.int .u32 ((f i).toNat : Int)) ∧ ys[i]? = some (.int .u32 ((g i).toNat : Int))) →
    (Op.eqItems (d + 1) 35 1 xs ys l).run Tryz.prog W = .ok (l.all fun i => f i == g i) W
  | [], _ => by simp [Op.eqItems]
  | i :: l, h => by
    obtain ⟨h1, h2⟩ := h i (by simp)
    have he : Tryz.prog.plainKey 35 = true := by kernel_rfl
    have hu : Tryz.prog.underlying 35 = some (.int .u32) := by kernel_rfl
    have ih := eqItems_u32 d W xs ys f g l fun j hj => h j (by simp [hj])
    simp only [Op.eqItems, Nat.mul_one, Sem.run_bind, run_part_plain W he h1, run_part_plain W he h2, Result.andThen_ok, run_equalIn_int W d _ .u32 .u32 _ _ hu, List.all_cons]
    by_cases e : f i = g i
    · rw [e]
      simpa using ih
    · have e2 : (((f i).toNat : Int) == ((g i).toNat : Int)) = false := by
        rw [beq_eq_false_iff_ne]
        intro h
        exact e (BitVec.eq_of_toNat_eq (by omega))
      have e3 : (f i == g i) = false := by rw [beq_eq_false_iff_ne]; exact e
      simp [e2, e3]
theorem nat_inj {a b : Nat} (ha : a < N.Lim) (hb : b < N.Lim) : (∀ i, i < 128 → (N.dg a)[i]?.getD 0 = (N.dg b)[i]?.getD 0) → a = b := by
  intro h
  rw [← N.dg_val a ha, ← N.dg_val b hb]
  congr 1
  apply List.ext_getElem?
  intro i
  by_cases hi : i < 128
  · have h1 : i < (N.dg a).length := by rw [N.dg_len]; exact hi
    have h2 : i < (N.dg b).length := by rw [N.dg_len]; exact hi
    have := h i hi
    rw [List.getElem?_eq_getElem h1, List.getElem?_eq_getElem h2] at this ⊢
    simpa using this
  · rw [List.getElem?_eq_none (by rw [N.dg_len]; omega), List.getElem?_eq_none (by rw [N.dg_len]; omega)]
theorem ext_digits (n : Nat) (B : List Value) : ((N.natL n ++ B).toArray.extract 0 128) = (N.wl (N.dg n)).toArray := by
  apply Array.toList_inj.1
  rw [Array.toList_extract]
  simp only [List.extract_eq_take_drop, List.drop_zero, Nat.sub_zero]
  rw [N.natL, List.append_assoc, List.take_append_of_le_length (by rw [N.wl_len, N.dg_len]; exact Nat.le_refl _), List.take_of_length_le (by rw [N.wl_len, N.dg_len]; exact Nat.le_refl _)]
theorem wl_at (l : List (BitVec 32)) (i : Nat) (h : i < l.length) : (N.wl l)[i]? = some (.int .u32 ((l[i]?.getD 0).toNat : Int)) := by
  unfold N.wl
  rw [List.getElem?_map, List.getElem?_eq_getElem h]
  rfl
theorem eqFields_cons {d : Nat} {xs ys : Array Value} {f : Field} {fs : List Field} (h : f.name ≠ "_") : Op.eqFields d xs ys (f :: fs) = (do
    let a ← part f.type xs f.offset
    let b ← part f.type ys f.offset
    let r ← Op.equalIn d f.type a b
    if (!r) = true then pure false else Op.eqFields d xs ys fs) := by rw [Op.eqFields, if_pos h]
theorem natEq_run (d : Nat) (W : World) {a b : Nat} (ha : a < N.Lim) (hb : b < N.Lim) : (Op.equalIn (d + 3) 38 (.agg (N.natL a).toArray) (.agg (N.natL b).toArray)).run Tryz.prog W = .ok (decide (a = b)) W := by
  have hu : Tryz.prog.underlying 38 = some (.struct (Tryz.prog.fieldsOf 38)) := by kernel_rfl
  have hst : Tryz.prog.stoodInHeld 38 = false := by kernel_rfl
  obtain ⟨f1, f2, hf, n1, n2, t1, t2, o1, o2⟩ : ∃ f1 f2 : Field, (Tryz.prog.fieldsOf 38).toList = [f1, f2] ∧ f1.name = "digits" ∧ f2.name = "many" ∧ f1.type = 36 ∧ f2.type = 3 ∧ f1.offset = 0 ∧ f2.offset = 128 :=
    ⟨(Tryz.prog.fieldsOf 38)[0]!, (Tryz.prog.fieldsOf 38)[1]!, by kernel_rfl, by kernel_rfl, by kernel_rfl, by kernel_rfl, by kernel_rfl, by kernel_rfl, by kernel_rfl⟩
  replace n1 : f1.name ≠ "_" := by rw [n1]; simp
  replace n2 : f2.name ≠ "_" := by rw [n2]; simp
  have ua : Tryz.prog.underlying 36 = some (.array 128 35) := by kernel_rfl
  have sa : (sizeOf 36).run Tryz.prog W = .ok 128 W := by kernel_rfl
  have ui : Tryz.prog.underlying 3 = some (.int .i64) := by kernel_rfl
  have hi : Tryz.prog.plainKey 3 = true := by kernel_rfl
  obtain ⟨i, hinf⟩ : ∃ i, Tryz.prog.info? 35 = some i := Option.isSome_iff_exists.1 (by kernel_rfl)
  have hc : Tryz.prog.cellsOf 35 = 1 := by kernel_rfl
  have pa : ∀ n, (part 36 (N.natL n).toArray 0).run Tryz.prog W = .ok (.agg (N.wl (N.dg n)).toArray) W := fun n => by
    have := ext_digits n []
    rw [List.append_nil] at this
    unfold part isAgg
    simp only [Sem.run_bind, run_underlying ua, Result.andThen_ok, Sem.run_pure, if_true, sa, Nat.zero_add, this]
  have pm : ∀ n, (part 3 (N.natL n).toArray 128).run Tryz.prog W = .ok (.int .i64 (N.mny n : Int)) W := fun n => run_part_plain W hi (by rw [List.getElem?_toArray]; exact N.nat_many n)
  have ei := eqItems_u32 d W (N.wl (N.dg a)).toArray (N.wl (N.dg b)).toArray (fun i => (N.dg a)[i]?.getD 0) (fun i => (N.dg b)[i]?.getD 0) (List.range 128) fun i hi => by
    have hi' : i < 128 := by simpa using hi
    constructor
    · rw [List.getElem?_toArray]; exact wl_at _ _ (by rw [N.dg_len]; exact hi')
    · rw [List.getElem?_toArray]; exact wl_at _ _ (by rw [N.dg_len]; exact hi')
  have hr : ((List.range 128).all fun i => (N.dg a)[i]?.getD 0 == (N.dg b)[i]?.getD 0) = decide (a = b) := by
    rw [Bool.eq_iff_iff, decide_eq_true_iff, List.all_eq_true]
    constructor
    · intro h
      refine nat_inj ha hb fun i hi => ?_
      have := h i (List.mem_range.2 hi)
      exact eq_of_beq this
    · intro h i _
      rw [h]
      exact beq_self_eq_true _
  rw [hr] at ei
  rw [run_equalIn_struct W (d + 2) _ _ _ hu hst, hf]
  rw [eqFields_cons n1, t1, o1, Sem.run_bind, pa a, Result.andThen_ok, Sem.run_bind, pa b, Result.andThen_ok, Sem.run_bind, run_equalIn_array W (d + 1) _ _ ua hinf, hc, ei, Result.andThen_ok]
  by_cases e : a = b
  · subst e
    rw [decide_eq_true rfl, if_neg (by simp), eqFields_cons n2, t2, o2, Sem.run_bind, pm a, Result.andThen_ok, Sem.run_bind, pm a, Result.andThen_ok, Sem.run_bind, run_equalIn_int W (d + 1) _ .i64 .i64 _ _ ui, Result.andThen_ok, beq_self_eq_true, if_neg (by simp), Op.eqFields, Sem.run_pure]
  · rw [decide_eq_false e, if_pos (by simp), Sem.run_pure]
def T3.Lm (a : T3) : Prop := a.x < N.Lim ∧ a.y < N.Lim ∧ a.z < N.Lim
theorem pP_lim : pP < N.Lim := N.lim_big 8 pP (by omega) (by decide)
theorem nN_lim : nN < N.Lim := N.lim_big 8 nN (by omega) (by decide)
theorem lim_p {n : Nat} (h : n < pP) : n < N.Lim := Nat.lt_trans h pP_lim
theorem T3.Ok.lm {a : T3} (h : a.Ok) : a.Lm := ⟨lim_p h.1, lim_p h.2.1, lim_p h.2.2⟩
theorem ext_mid (A L B : List Value) (o n : Nat) (ho : A.length = o) (hl : L.length = n) : (A ++ L ++ B).toArray.extract o (o + n) = L.toArray := by
  subst ho hl
  apply Array.toList_inj.1
  rw [Array.toList_extract]
  simp only [List.extract_eq_take_drop]
  rw [List.append_assoc, List.drop_left, Nat.add_sub_cancel_left, List.take_left]
theorem ptEq_run (W : World) {a b : T3} (ha : a.Lm) (hb : b.Lm) : (Op.equalIn 10000 40 (.agg (ptL a).toArray) (.agg (ptL b).toArray)).run Tryz.prog W = .ok (decide (a = b)) W := by
  have hu : Tryz.prog.underlying 40 = some (.struct (Tryz.prog.fieldsOf 40)) := by kernel_rfl
  have hst : Tryz.prog.stoodInHeld 40 = false := by kernel_rfl
  obtain ⟨f1, f2, f3, hf, n1, n2, n3, t1, t2, t3, o1, o2, o3⟩ : ∃ f1 f2 f3 : Field, (Tryz.prog.fieldsOf 40).toList = [f1, f2, f3] ∧ f1.name = "x" ∧ f2.name = "y" ∧ f3.name = "z" ∧ f1.type = 38 ∧ f2.type = 38 ∧ f3.type = 38 ∧ f1.offset = 0 ∧ f2.offset = 129 ∧ f3.offset = 258 :=
    ⟨(Tryz.prog.fieldsOf 40)[0]!, (Tryz.prog.fieldsOf 40)[1]!, (Tryz.prog.fieldsOf 40)[2]!, by kernel_rfl, by kernel_rfl, by kernel_rfl, by kernel_rfl, by kernel_rfl, by kernel_rfl, by kernel_rfl, by kernel_rfl, by kernel_rfl, by kernel_rfl⟩
  replace n1 : f1.name ≠ "_" := by rw [n1]; simp
  replace n2 : f2.name ≠ "_" := by rw [n2]; simp
  replace n3 : f3.name ≠ "_" := by rw [n3]; simp
  have un : Tryz.prog.underlying 38 = some (.struct (Tryz.prog.fieldsOf 38)) := by kernel_rfl
  have sn : (sizeOf 38).run Tryz.prog W = .ok 129 W := by kernel_rfl
  have p1 : ∀ c : T3, (part 38 (ptL c).toArray 0).run Tryz.prog W = .ok (.agg (N.natL c.x).toArray) W := fun c => by
    have := ext_mid [] (N.natL c.x) (N.natL c.y ++ N.natL c.z) 0 129 rfl (N.natL_len _)
    rw [List.nil_append, ← List.append_assoc] at this
    unfold part isAgg ptL
    simp only [Sem.run_bind, run_underlying un, Result.andThen_ok, Sem.run_pure, if_true, sn, this]
  have p2 : ∀ c : T3, (part 38 (ptL c).toArray 129).run Tryz.prog W = .ok (.agg (N.natL c.y).toArray) W := fun c => by
    have := ext_mid (N.natL c.x) (N.natL c.y) (N.natL c.z) 129 129 (N.natL_len _) (N.natL_len _)
    simp only [Nat.reduceAdd] at this
    unfold part isAgg ptL
    simp only [Sem.run_bind, run_underlying un, Result.andThen_ok, Sem.run_pure, if_true, sn, this]
  have p3 : ∀ c : T3, (part 38 (ptL c).toArray 258).run Tryz.prog W = .ok (.agg (N.natL c.z).toArray) W := fun c => by
    have := ext_mid (N.natL c.x ++ N.natL c.y) (N.natL c.z) [] 258 129 (by simp [N.natL_len]) (N.natL_len _)
    rw [List.append_nil] at this
    simp only [Nat.reduceAdd] at this
    unfold part isAgg ptL
    simp only [Sem.run_bind, run_underlying un, Result.andThen_ok, Sem.run_pure, if_true, sn, this]
  have e1 := natEq_run 9996 W ha.1 hb.1
  have e2 := natEq_run 9996 W ha.2.1 hb.2.1
  have e3 := natEq_run 9996 W ha.2.2 hb.2.2
  rw [run_equalIn_struct W 9999 _ _ _ hu hst, hf]
  have hab : a = b ↔ a.x = b.x ∧ a.y = b.y ∧ a.z = b.z := by
    cases a; cases b; simp
  rw [eqFields_cons n1, t1, o1, Sem.run_bind, p1 a, Result.andThen_ok, Sem.run_bind, p1 b, Result.andThen_ok, Sem.run_bind, e1, Result.andThen_ok]
  by_cases q1 : a.x = b.x
  · rw [decide_eq_true q1, if_neg (by simp), eqFields_cons n2, t2, o2, Sem.run_bind, p2 a, Result.andThen_ok, Sem.run_bind, p2 b, Result.andThen_ok, Sem.run_bind, e2, Result.andThen_ok]
    by_cases q2 : a.y = b.y
    · rw [decide_eq_true q2, if_neg (by simp), eqFields_cons n3, t3, o3, Sem.run_bind, p3 a, Result.andThen_ok, Sem.run_bind, p3 b, Result.andThen_ok, Sem.run_bind, e3, Result.andThen_ok]
      by_cases q3 : a.z = b.z
      · rw [decide_eq_true q3, decide_eq_true (hab.2 ⟨q1, q2, q3⟩), if_neg (by simp), Op.eqFields, Sem.run_pure]
      · rw [decide_eq_false q3, decide_eq_false (fun h => q3 (hab.1 h).2.2), if_pos (by simp), Sem.run_pure]
    · rw [decide_eq_false q2, decide_eq_false (fun h => q2 (hab.1 h).2.1), if_pos (by simp), Sem.run_pure]
  · rw [decide_eq_false q1, decide_eq_false (fun h => q1 (hab.1 h).1), if_pos (by simp), Sem.run_pure]
end Go.Proofs.YtpimliebiapnfaaGreatDoor

/- Div. -/
namespace Go.Proofs.YtpimliebiapnfaaGreatDoor.N
set_option linter.unusedVariables false
open Go.RowKit
attribute [local go_sem ↓] loadAt_nat storeAt_nat build_nat build_nat'
attribute [local go_sem] st1 st2a st2b natBuild_run
set_option maxRecDepth 100000 in
set_option maxHeartbeats 400000 in
theorem div_in (N M : Nat) (hN : N < Lim) (hM : M < Lim) (hM0 : M ≠ 0) (W : World) : Calls Tryz.prog 104 #[.agg (natL N).toArray, .agg (natL M).toArray] W fun e w' => e = .returned (.tuple #[.agg (natL (N / M)).toArray, .agg (natL (N % M)).toArray, .int .i64 0]) ∧ Below W.heap.size W w' := by
  obtain ⟨V, hV, b0, b1, b2, b3, hBl, hsz⟩ := four_new W (natL N) (natL M) (natL 0) (natL 0) 38 38 38 38
  have hz := zero26
  have HD := Hid.mk (divided_in N M hN hM hM0)
  have hm0 : 0 < mny M := (mny_ge M hM0).1
  obtain ⟨q, hq⟩ : ∃ q, mny M = q := ⟨_, rfl⟩
  have c1 : V.cell? ⟨W.heap.size + 1, 128, none⟩ = some (.int .i64 (q : Int)) := by have := (cells_at b1 (nat_many M)).1; rwa [hq] at this
  have hq0 : ((q : Int) == 0) = false := by rw [beq_eq_false_iff_ne]; omega
  clear hm0 hq
  generalize N / M = QQ at HD ⊢
  generalize N % M = RR at HD ⊢
  have l0 := natLoad_run b0
  have l1 := natLoad_run b1
  go_enter Tryz.func104, Tryz.ntmps104
  go_wp2_with fail
  refine (HD.out _).mono ?_
  rintro e w1 ⟨rfl, hb1⟩
  have k2 : w1.heap[W.heap.size + 2]? = some (.cells (natL 0).toArray 38 (0, 0)) := (hb1.block _ (box_lt b2)).trans b2
  have k3 : w1.heap[W.heap.size + 3]? = some (.cells (natL 0).toArray 38 (0, 0)) := (hb1.block _ (box_lt b3)).trans b3
  have hBW : Below W.heap.size W w1 := bthen hBl hb1
  have hg : W.heap.size + 3 < w1.heap.size := box_lt k3
  clear b0 b1 b2 b3 hV l0 l1 c1 hBl hb1 hsz
  go_upto_region 4 with fail
  obtain ⟨t0, t1, tB, tS⟩ := two_new w1 (natL QQ) (natL RR) 38 38
  have k2' := (tB.block _ (by omega)).trans k2
  have k3' := (tB.block _ (by omega)).trans k3
  have hBU : Below W.heap.size W ((w1.alloc (.cells (natL QQ).toArray 38)).alloc (.cells (natL RR).toArray 38)) := hBW.trans (tB.mono (by omega))
  generalize ((w1.alloc (.cells (natL QQ).toArray 38)).alloc (.cells (natL RR).toArray 38)) = U at t0 t1 k2' k3' hBU ⊢
  clear tB tS k2 k3
  simp only [Nat.add_assoc, Nat.reduceAdd]
  have lq : (natLoad (.pointer (some ⟨w1.heap.size, 0, none⟩))).run Tryz.prog U.drew = .ok _ U.drew := natLoad_run (w := U.drew) t0
  have lr : (natLoad (.pointer (some ⟨w1.heap.size + 1, 0, none⟩))).run Tryz.prog U.drew = .ok _ U.drew := natLoad_run (w := U.drew) t1
  have lr2 : (natLoad (.pointer (some ⟨w1.heap.size + 1, 0, none⟩))).run Tryz.prog (U.drew.setRow (W.heap.size + 2) (natL QQ).toArray) = .ok _ (U.drew.setRow (W.heap.size + 2) (natL QQ).toArray) := natLoad_run ((setRow_other _ _ _ _ (by omega)).trans t1)
  have sq : (natStore (.pointer (some ⟨W.heap.size + 2, 0, none⟩)) (.agg (natL QQ).toArray)).run Tryz.prog U.drew = _ := natStore_run (w := U.drew) k2'
  have sr : (natStore (.pointer (some ⟨W.heap.size + 3, 0, none⟩)) (.agg (natL RR).toArray)).run Tryz.prog (U.drew.setRow (W.heap.size + 2) (natL QQ).toArray) = _ := natStore_run ((setRow_other _ _ _ _ (by omega)).trans k3')
  go_region
  have r2 : ((U.drew.setRow (W.heap.size + 2) (natL QQ).toArray).setRow (W.heap.size + 3) (natL RR).toArray).heap[W.heap.size + 2]? = some (.cells (natL QQ).toArray 38 (0, 0)) := (setRow_other _ _ _ _ (by omega)).trans (setRow_heap (U.drew) _ _ _ _ _ k2')
  have r3 : ((U.drew.setRow (W.heap.size + 2) (natL QQ).toArray).setRow (W.heap.size + 3) (natL RR).toArray).heap[W.heap.size + 3]? = some (.cells (natL RR).toArray 38 (0, 0)) := setRow_heap _ _ _ _ _ _ ((setRow_other _ _ _ _ (by omega)).trans k3')
  have hBZ : Below W.heap.size W ((U.drew.setRow (W.heap.size + 2) (natL QQ).toArray).setRow (W.heap.size + 3) (natL RR).toArray) := below_row (below_row hBU.drew (by omega) _) (by omega) _
  generalize ((U.drew.setRow (W.heap.size + 2) (natL QQ).toArray).setRow (W.heap.size + 3) (natL RR).toArray) = Z at r2 r3 hBZ ⊢
  clear lq lr lr2 sq sr t0 t1 k2' k3'
  go_wp2
  exact bodyPost_ret (results_nat3 Tryz.results104 rfl rfl rfl r2 r3 (natL_len QQ) (natL_len RR)) rfl ⟨rfl, hBZ⟩
set_option maxRecDepth 100000 in
set_option maxHeartbeats 400000 in
theorem div_no (N : Nat) (hN : N < Lim) (W : World) : Calls Tryz.prog 104 #[.agg (natL N).toArray, .agg (natL 0).toArray] W fun e w' => e = .returned (.tuple #[.agg (natL 0).toArray, .agg (natL 0).toArray, .int .i64 1]) ∧ Below W.heap.size W w' := by
  obtain ⟨V, hV, b0, b1, b2, b3, hBl, hsz⟩ := four_new W (natL N) (natL 0) (natL 0) (natL 0) 38 38 38 38
  have hz := zero26
  have c1 : V.cell? ⟨W.heap.size + 1, 128, none⟩ = some (.int .i64 0) := (cells_at b1 (nat_many 0)).1
  have s2 := natStore_run (N := 0) b2
  have r3 := (setRow_other V (W.heap.size + 2) (W.heap.size + 3) (natL 0).toArray (by omega)).trans b3
  have s3 := natStore_run (N := 0) r3
  have q2 := (setRow_other (V.setRow (W.heap.size + 2) (natL 0).toArray) (W.heap.size + 3) (W.heap.size + 2) (natL 0).toArray (by omega)).trans (setRow_heap _ _ _ (natL 0).toArray _ _ b2)
  have q3 := setRow_heap _ _ _ (natL 0).toArray _ _ r3
  have hB2 := below_row (below_row hBl (show W.heap.size ≤ W.heap.size + 2 by omega) (natL 0).toArray) (show W.heap.size ≤ W.heap.size + 3 by omega) (natL 0).toArray
  go_enter Tryz.func104, Tryz.ntmps104
  go_wp2_with fail
  exact bodyPost_ret (results_nat3 Tryz.results104 rfl rfl rfl q2 q3 (natL_len 0) (natL_len 0)) rfl ⟨rfl, hB2⟩
end Go.Proofs.YtpimliebiapnfaaGreatDoor.N

/- times. -/
namespace Go.Proofs.YtpimliebiapnfaaGreatDoor.N
set_option linter.unusedVariables false
open Go.RowKit
end Go.Proofs.YtpimliebiapnfaaGreatDoor.N

/- faultOf. -/
namespace Go.Proofs.YtpimliebiapnfaaGreatDoor.N
set_option linter.unusedVariables false
open Go.RowKit
theorem mny_none (M : Nat) : mny M = 0 ↔ M = 0 := by
  unfold mny
  split <;> omega
def flt (M : Nat) : Int := if M = 0 then 1 else if 2048 < btl M then 3 else 0
set_option maxRecDepth 100000 in
set_option maxHeartbeats 1000000 in
theorem fault_in (M : Nat) (hM : M < Lim) (W : World) : Calls Tryz.prog 124 #[.agg (natL M).toArray] W fun e w' => e = .returned (.int .i64 (flt M)) ∧ Below W.heap.size W w' := by
  have HB := Hid.mk (boxed W (natL M) 38)
  have hmany := (cells_at HB.out (nat_many M)).1
  have hB : Below W.heap.size W (W.alloc (.cells (natL M).toArray 38)) := (Below.refl _ _).alloc (Nat.le_refl _) _
  have HBT := Hid.mk (bits_in M hM)
  by_cases h0 : M = 0
  · have HF : Hid (flt M = 1) := if_pos h0
    rw [(mny_none M).2 h0] at hmany
    have hm0 : (W.alloc (.cells (natL M).toArray 38)).cell? ⟨W.heap.size, 128, none⟩ = some (.int .i64 0) := hmany
    clear hmany h0
    go_enter Tryz.func124, Tryz.ntmps124
    go_wp2
    go_ret
    exact ⟨by rw [HF.out]; rfl, hB⟩
  · have hne : ((mny M : Int) == 0) = false := by rw [beq_eq_false_iff_ne]; have := (mny_none M).1; omega
    have HF : Hid (flt M = if 2048 < btl M then 3 else 0) := if_neg h0
    generalize mny M = k at hmany hne
    obtain ⟨bt, hbt⟩ : ∃ bt, btl M = bt := ⟨_, rfl⟩
    rw [hbt] at HF HBT
    clear hbt
    go_enter Tryz.func124, Tryz.ntmps124
    go_upto_region 3 with fail
    generalize W.alloc (.cells (natL M).toArray 38) = V at HB hB hmany ⊢
    refine wp_region_lit ?_
    refine wpList_run (W' := V) (v := .agg (natL M).toArray) rfl (op_load HB.out (natL_len M) rfl rfl) ?_
    simp only [Act.put, List.setIfInBounds_toArray, List.set_cons_succ, List.set_cons_zero]
    go_wp2_with fail
    refine (HBT.out _).mono ?_
    rintro e w1 ⟨rfl, hb1⟩
    have hBW : Below W.heap.size W w1 := bthen hB hb1
    by_cases h2 : 2048 < bt
    · rw [if_pos h2] at HF
      have h2i : (2048 : Int) < (bt : Int) := by omega
      go_wp2
      go_ret
      exact ⟨by rw [HF.out]; rfl, hBW⟩
    · rw [if_neg h2] at HF
      have h2i : (bt : Int) ≤ 2048 := by omega
      go_wp2
      go_ret
      exact ⟨by rw [HF.out]; rfl, hBW⟩
end Go.Proofs.YtpimliebiapnfaaGreatDoor.N

/- Wide. -/
namespace Go.Proofs.YtpimliebiapnfaaGreatDoor.N
set_option linter.unusedVariables false
open Go.RowKit
attribute [local go_sem ↓] loadAt_nat storeAt_nat build_nat build_nat'
attribute [local go_sem] st1 st2a st2b natBuild_run
theorem btl_lt (N : Nat) : N < 2 ^ btl N := by
  unfold btl
  split
  · rename_i h; rw [h]; exact Nat.two_pow_pos _
  · exact Nat.lt_log2_self
theorem nbl_lt (N : Nat) : N < 256 ^ nbl N := by
  have h1 := btl_lt N
  have h2 : 2 ^ btl N ≤ 2 ^ (8 * nbl N) := Nat.pow_le_pow_right (by omega) (by unfold nbl; omega)
  rw [Nat.pow_mul, show 2 ^ 8 = 256 from rfl] at h2
  omega
theorem nbl_le_iff (N k : Nat) : nbl N ≤ k ↔ N < 256 ^ k := by
  constructor
  · intro h
    exact Nat.lt_of_lt_of_le (nbl_lt N) (Nat.pow_le_pow_right (by omega) h)
  · intro h
    rw [show 256 = 2 ^ 8 from rfl, ← Nat.pow_mul] at h
    by_cases h0 : N = 0
    · unfold nbl btl; rw [if_pos h0]; omega
    · have := (Nat.log2_lt h0).2 h
      unfold nbl btl; rw [if_neg h0]; omega
theorem bys_wide (N k : Nat) (h : nbl N ≤ k) : List.replicate (k - nbl N) 0 ++ bys N (nbl N) = bys N k := by
  apply List.ext_getElem
  · rw [List.length_append, List.length_replicate, bys_len, bys_len]; omega
  · intro j h1 h2
    rw [bys_len] at h2
    simp only [bys, List.getElem_append, List.length_replicate, List.getElem_replicate, List.getElem_map, List.getElem_range]
    by_cases hj : j < k - nbl N
    · rw [dif_pos hj]
      have h3 := nbl_lt N
      have h4 : 256 ^ nbl N ≤ 256 ^ (k - 1 - j) := Nat.pow_le_pow_right (by omega) (by omega)
      rw [Nat.div_eq_of_lt (by omega)]
      rfl
    · rw [dif_neg hj, show nbl N - 1 - (j - (k - nbl N)) = k - 1 - j by omega]
set_option maxRecDepth 100000 in
set_option maxHeartbeats 400000 in
theorem wide_in (N k : Nat) (hN : N < Lim) (hk : k ≤ 2147483647) (hl : nbl N ≤ k) (W : World) : Calls Tryz.prog 48 #[.agg (natL N).toArray, .int .i64 (k : Int)] W fun e w' => e = .returned (.tuple #[.string ⟨(bys N k).toArray⟩, .int .i64 0]) ∧ Below W.heap.size W w' := by
  have l0 := natLoad_run (boxed W (natL N) 38)
  have hB : Below W.heap.size W (W.alloc (.cells (natL N).toArray 38)) := (Below.refl _ _).alloc (Nat.le_refl _) _
  have HBY := Hid.mk (bytes_in N hN)
  have HR : Hid (∀ W, Calls Tryz.prog 88 #[.string ⟨#[0]⟩, .int .i64 ((k : Int) - (nbl N : Int))] W fun e w' => e = .returned (.string ⟨(List.replicate (k - nbl N) (0 : UInt8)).toArray⟩) ∧ Below W.heap.size W w') := fun W => by
    have h := Tryz.strings_Repeat ⟨#[0]⟩ (k - nbl N) W (by omega) (by show 1 * _ ≤ _; omega)
    have e : Lib.repeatL (⟨#[0]⟩ : ByteArray).data.toList (k - nbl N) = List.replicate (k - nbl N) 0 := by
      have := Lib.repeatL_replicate 0 1 (k - nbl N)
      rw [Nat.mul_one] at this
      exact this
    rw [e, show ((k - nbl N : Nat) : Int) = (k : Int) - (nbl N : Int) by omega] at h
    exact h
  have HW := Hid.mk (bys_wide N k hl)
  obtain ⟨s, hs⟩ : ∃ s : ByteArray, (⟨(bys N (nbl N)).toArray⟩ : ByteArray) = s := ⟨_, rfl⟩
  have hsz : s.size = nbl N := by rw [← hs, ba_size, bys_len]
  have HS := Hid.mk hs
  rw [hs] at HBY
  obtain ⟨z, hz⟩ : ∃ z : ByteArray, (⟨(List.replicate (k - nbl N) (0 : UInt8)).toArray⟩ : ByteArray) = z := ⟨_, rfl⟩
  have HZ := Hid.mk hz
  rw [hz] at HR
  have hk0 : (0 : Int) ≤ (k : Int) := by omega
  have hk1 : ¬ ((2147483647 : Int) < (k : Int)) := by omega
  have hk2 : (k : Int) ≤ 2147483647 := by omega
  have hlI : ¬ ((k : Int) < (nbl N : Int)) := by omega
  have hlJ : (nbl N : Int) ≤ (k : Int) := by omega
  have hn0 : (0 : Int) ≤ (nbl N : Int) := by omega
  clear hs hz
  generalize nbl N = n at *
  go_enter Tryz.func48, Tryz.ntmps48
  go_wp2_with fail
  refine (HBY.out _).mono ?_
  rintro e w1 ⟨rfl, hb1⟩
  have hb1' : Below W.heap.size W w1 := bthen hB hb1
  clear l0
  go_wp2_with fail
  refine (HR.out _).mono ?_
  rintro e w2 ⟨rfl, hb2⟩
  have hb2' : Below W.heap.size W w2 := bthen hb1' hb2
  have HE : Hid (z ++ s = ⟨(bys N k).toArray⟩) := by
    rw [Hid, ← HZ.out, ← HS.out]
    apply ba_ext
    rw [ByteArray.toList_data_append]
    exact HW.out
  have hzn : ¬ 9223372036854775807 < z.size + n := by
    have e := congrArg ByteArray.size HZ.out
    rw [ba_size, List.length_replicate] at e
    omega
  go_wp2
  go_ret2
  exact ⟨by rw [← HE.out]; rfl, hb2'⟩
set_option maxRecDepth 100000 in
set_option maxHeartbeats 400000 in
theorem wide_long (N k : Nat) (hN : N < Lim) (hk : k ≤ 2147483647) (hl : k < nbl N) (W : World) : Calls Tryz.prog 48 #[.agg (natL N).toArray, .int .i64 (k : Int)] W fun e w' => e = .returned (.tuple #[.string ⟨#[]⟩, .int .i64 3]) ∧ Below W.heap.size W w' := by
  have l0 := natLoad_run (boxed W (natL N) 38)
  have hB : Below W.heap.size W (W.alloc (.cells (natL N).toArray 38)) := (Below.refl _ _).alloc (Nat.le_refl _) _
  have HBY := Hid.mk (bytes_in N hN)
  obtain ⟨s, hs⟩ : ∃ s : ByteArray, (⟨(bys N (nbl N)).toArray⟩ : ByteArray) = s := ⟨_, rfl⟩
  have hsz : s.size = nbl N := by rw [← hs, ba_size, bys_len]
  rw [hs] at HBY
  have hk0 : (0 : Int) ≤ (k : Int) := by omega
  have hk2 : (k : Int) ≤ 2147483647 := by omega
  have hlJ : (k : Int) < (nbl N : Int) := by omega
  clear hs
  generalize nbl N = n at *
  go_enter Tryz.func48, Tryz.ntmps48
  go_wp2_with fail
  refine (HBY.out _).mono ?_
  rintro e w1 ⟨rfl, hb1⟩
  have hb1' : Below W.heap.size W w1 := bthen hB hb1
  clear l0
  go_wp2
  go_ret2
  exact ⟨rfl, hb1'⟩
set_option maxRecDepth 100000 in
set_option maxHeartbeats 400000 in
theorem wide_neg (N : Nat) (k : Int) (hN : N < Lim) (hk : k < 0) (W : World) : Calls Tryz.prog 48 #[.agg (natL N).toArray, .int .i64 k] W fun e w' => e = .returned (.tuple #[.string ⟨#[]⟩, .int .i64 1]) ∧ Below W.heap.size W w' := by
  have hB : Below W.heap.size W (W.alloc (.cells (natL N).toArray 38)) := (Below.refl _ _).alloc (Nat.le_refl _) _
  go_enter Tryz.func48, Tryz.ntmps48
  go_wp2
  go_ret2
  exact ⟨rfl, hB⟩
end Go.Proofs.YtpimliebiapnfaaGreatDoor.N

/- Facts on powers modulo a number. -/
namespace Go.Proofs.YtpimliebiapnfaaGreatDoor.N
set_option linter.unusedVariables false
open Go.RowKit
theorem bit_at (N k : Nat) : N / 4294967296 ^ (k / 32) % 4294967296 / 2 ^ (k % 32) % 2 = N / 2 ^ k % 2 := by
  have e : 2 ^ k = 4294967296 ^ (k / 32) * 2 ^ (k % 32) := by
    rw [show (4294967296 : Nat) = 2 ^ 32 from rfl, ← Nat.pow_mul, ← Nat.pow_add, Nat.div_add_mod]
  rw [e, ← Nat.div_div_eq_div_mul]
  generalize N / 4294967296 ^ (k / 32) = A
  have h : k % 32 < 32 := Nat.mod_lt _ (by omega)
  generalize k % 32 = r at h
  have e2 : 4294967296 = 2 ^ r * 2 ^ (31 - r) * 2 := by
    rw [← Nat.pow_add, show r + (31 - r) = 31 by omega]
  have e3 : A % 4294967296 = A % (2 ^ r * (2 ^ (31 - r) * 2)) := by rw [← Nat.mul_assoc, ← e2]
  rw [e3, Nat.mod_mul_right_div_self]
  rw [Nat.mod_mul_left_mod]
theorem and_one (q : Nat) (h : q < 4294967296) : bits .and .u32 (q : Int) 1 = ((q % 2 : Nat) : Int) := by
  have := u32_and_nat q 1 h (by omega)
  rw [Nat.and_one_is_mod] at this
  exact this
/-- the power of the first i bits. -/
def pwr (A E M n i : Nat) : Nat := A ^ (E / 2 ^ (n - i)) % M
theorem pwr_start (A E M n : Nat) (h : E < 2 ^ n) : pwr A E M n 0 = 1 % M := by
  unfold pwr
  rw [Nat.sub_zero, Nat.div_eq_of_lt h, Nat.pow_zero]
theorem pwr_end (A E M n : Nat) : pwr A E M n n = A ^ E % M := by
  unfold pwr
  rw [Nat.sub_self, Nat.pow_zero, Nat.div_one]
theorem pwr_lt (A E M n i : Nat) (h : M ≠ 0) : pwr A E M n i < M := Nat.mod_lt _ (by omega)
theorem half (E k : Nat) : E / 2 ^ k = E / 2 ^ (k + 1) + E / 2 ^ (k + 1) + E / 2 ^ k % 2 := by
  rw [Nat.pow_succ, ← Nat.div_div_eq_div_mul]
  omega
theorem pow_even (A q M : Nat) : A ^ q % M * (A ^ q % M) % M = A ^ (q + q + 0) % M := by
  rw [Nat.add_zero, Nat.pow_add, ← Nat.mul_mod]
theorem pow_odd (A q M : Nat) : (A ^ q % M * (A ^ q % M) % M) * (A % M) % M = A ^ (q + q + 1) % M := by
  rw [pow_even, Nat.add_zero, ← Nat.mul_mod, Nat.pow_succ]
theorem pwr_even (A E M n i k : Nat) (hk : n - (i + 1) = k) (hi : i < n) (hb : E / 2 ^ k % 2 = 0) : pwr A E M n i * pwr A E M n i % M = pwr A E M n (i + 1) := by
  have h := half E k
  rw [hb] at h
  unfold pwr
  rw [hk, show n - i = k + 1 by omega, h]
  exact pow_even _ _ _
theorem pwr_odd (A E M n i k : Nat) (hk : n - (i + 1) = k) (hi : i < n) (hb : E / 2 ^ k % 2 = 1) : (pwr A E M n i * pwr A E M n i % M) * (A % M) % M = pwr A E M n (i + 1) := by
  have h := half E k
  rw [hb] at h
  unfold pwr
  rw [hk, show n - i = k + 1 by omega, h]
  exact pow_odd _ _ _
theorem lt_pow_of_btl (M k : Nat) (h : btl M ≤ 32 * k) : M < 4294967296 ^ k := by
  rw [pow_bits]
  exact Nat.lt_of_lt_of_le (btl_lt M) (Nat.pow_le_pow_right (by omega) h)
theorem lim_sq (M : Nat) (h : btl M ≤ 2048) : M * M ≤ Lim := by
  have h2 := lt_pow_of_btl M 64 h
  have h4 : M * M ≤ 4294967296 ^ 64 * 4294967296 ^ 64 := Nat.mul_le_mul (Nat.le_of_lt h2) (Nat.le_of_lt h2)
  rw [← Nat.pow_add] at h4
  exact h4
end Go.Proofs.YtpimliebiapnfaaGreatDoor.N
