/- Texts of this proof, joined: CRsum, CRsumI. -/
import Derived.Test.YtpimliebiapnfaaGreatDoorJ23
/- The document's sum of two that are somewhere. -/
namespace Go.Proofs.YtpimliebiapnfaaGreatDoor
set_option linter.unusedVariables false
set_option linter.unusedSimpArgs false
open Go.RowKit N
attribute [local go_sem ↓] N.loadAt_nat N.storeAt_nat N.build_nat N.build_nat' loadAt_pt storeAt_pt build_pt0 build_pt0' build_pt'
attribute [local go_sem] N.st1 N.st2a N.st2b N.st1d N.st2ad N.st2bd N.natBuild_run ptst1 ptst1d ptBuild0_run build_pt ptBuild_run
attribute [local go_sem ↓] bin_nat bin_pt
attribute [local go_sem ↓] storeAt_pd loadAt_pd
def Fd (W : World) (b : Nat) (l : List (Nat × Obj)) (w : World) : Prop := ∃ x y z, Fm W ((b, .cells #[x, y, z] 47 (0, 0)) :: l) w
theorem Fd.drew {W w : World} {b : Nat} {l : List (Nat × Obj)} (h : Fd W b l w) : Fd W b l w.drew := h.elim fun x h => h.elim fun y h => h.elim fun z h => ⟨x, y, z, h.drew⟩
theorem Fd.blk {W w w' : World} {b : Nat} {l : List (Nat × Obj)} (h : Fd W b l w) (hb : Below w.heap.size w w') : Fd W b l w' := h.elim fun x h => h.elim fun y h => h.elim fun z h => ⟨x, y, z, h.blk hb⟩
theorem Fd.bel {W w : World} {b : Nat} {l : List (Nat × Obj)} (h : Fd W b l w) : Below W.heap.size W w := h.elim fun x h => h.elim fun y h => h.elim fun z h => h.bel
theorem Fd.get {W w : World} {b : Nat} {l : List (Nat × Obj)} (h : Fd W b l w) (i : Nat) {c : Nat} {o : Obj} (e : l[i]? = some (c, o)) : w.heap[c]? = some o := h.elim fun x h => h.elim fun y h => h.elim fun z h => h.get (i + 1) (by simpa using e)
theorem Fd.set {W w : World} {b : Nat} {l : List (Nat × Obj)} (h : Fd W b l w) (x y z : Value) : Fd W b l (w.setRow b #[x, y, z]) := h.elim fun x' h => h.elim fun y' h => h.elim fun z' h => ⟨x, y, z, h.put 0 #[x, y, z] rfl⟩
theorem Fd.fin {W w : World} {b : Nat} {l : List (Nat × Obj)} (h : Fd W b l w) (x y z : Value) : Fm W ((b, .cells #[x, y, z] 47 (0, 0)) :: l) (w.setRow b #[x, y, z]) := h.elim fun x' h => h.elim fun y' h => h.elim fun z' h => h.put 0 #[x, y, z] rfl
theorem Fd.st {W w : World} {b : Nat} {l : List (Nat × Obj)} (h : Fd W b l w) (p : Option Addr) (n c : Nat) (p' : Option Addr) (n' c' : Nat) : (pdStore (.pointer (some ⟨b, 0, none⟩)) (.agg #[.slice p n c, .slice p' n' c', .bool false])).run Tryz.prog w = .ok () (w.setRow b #[.slice p n c, .slice p' n' c', .bool false]) := h.elim fun x h => h.elim fun y h => h.elim fun z h => pdStore_run (h.get 0 rfl) rfl rfl rfl
theorem Fd.at {W w : World} {b : Nat} {l : List (Nat × Obj)} (h : Fd W b l w) : ∃ L, w.heap[b]? = some (.cells L 47 (0, 0)) := h.elim fun x h => h.elim fun y h => h.elim fun z h => ⟨_, h.get 0 rfl⟩
theorem mny_0 {n : Nat} (h : n ≠ 0) : ((N.mny n : Int) == 0) = false := by
  have := (N.mny_ge n h).1
  rw [beq_eq_false_iff_ne]
  omega
set_option maxRecDepth 100000 in
set_option maxHeartbeats 2000000 in
theorem rsum_n (W : World) (vp ax ay bx by' : Value) (xa ya xb yb : Nat) (hP : RN W vp pP) (hxa : RN W ax xa) (hya : RN W ay ya) (hxb : RN W bx xb) (hyb : RN W by' yb) (l1 : xa < pP) (l2 : ya < pP) (l3 : xb < pP) (l4 : yb < pP) (hlow : mminus xb xa = 0) (hboth : mplus ya yb = 0) : Calls Tryz.prog 24 #[.agg #[vp], .agg #[ax, ay, .bool false], .agg #[bx, by', .bool false]] W fun e w' => e = .returned (.agg #[.slice none 0 0, .slice none 0 0, .bool true]) ∧ Below W.heap.size W w' := by
  obtain ⟨t0, E_t0⟩ : ∃ R, Hid (mminus yb ya = R) := ⟨_, Hid.mk rfl⟩
  have b_t0 : t0 < pP := by rw [← E_t0.out]; exact mminus_lt l4 l2
  obtain ⟨w0, E_w0⟩ : ∃ R, Hid (mminus xb xa = R) := ⟨_, Hid.mk rfl⟩
  have b_w0 : w0 < pP := by rw [← E_w0.out]; exact mminus_lt l3 l1
  rw [E_w0.out] at hlow
  obtain ⟨bo, E_bo⟩ : ∃ R, Hid (mplus ya yb = R) := ⟨_, Hid.mk rfl⟩
  have b_bo : bo < pP := by rw [← E_bo.out]; exact mplus_lt l2 l4
  rw [E_bo.out] at hboth
  have H5 : Hid (∀ w va vb, RN w vp pP → RN w va yb → RN w vb ya → Calls Tryz.prog 55 #[.agg #[vp], va, vb] w fun e w' => ∃ v, e = .returned v ∧ RN w' v t0 ∧ Below w.heap.size w w') := fun w va vb h k l => (rfSub w vp va vb yb ya h k l l4 l2).mono fun e w' ⟨v, q1, q2, q3⟩ => ⟨v, q1, by rw [← E_t0.out]; exact q2, q3⟩
  have H6 : Hid (∀ w va vb, RN w vp pP → RN w va xb → RN w vb xa → Calls Tryz.prog 55 #[.agg #[vp], va, vb] w fun e w' => ∃ v, e = .returned v ∧ RN w' v w0 ∧ Below w.heap.size w w') := fun w va vb h k l => (rfSub w vp va vb xb xa h k l l3 l1).mono fun e w' ⟨v, q1, q2, q3⟩ => ⟨v, q1, by rw [← E_w0.out]; exact q2, q3⟩
  have H8 : Hid (∀ w va vb, RN w vp pP → RN w va ya → RN w vb yb → Calls Tryz.prog 56 #[.agg #[vp], va, vb] w fun e w' => ∃ v, e = .returned v ∧ RN w' v bo ∧ Below w.heap.size w w') := fun w va vb h k l => (rfAdd w vp va vb ya yb h k l l2 l4).mono fun e w' ⟨v, q1, q2, q3⟩ => ⟨v, q1, by rw [← E_bo.out]; exact q2, q3⟩
  subst hlow hboth
  have HP := Hid.mk hP
  have HXA := Hid.mk hxa
  have HYA := Hid.mk hya
  have HXB := Hid.mk hxb
  have HYB := Hid.mk hyb
  clear hP hxa hya hxb hyb l1 l2 l3 l4 b_t0 b_w0 b_bo E_t0 E_w0 E_bo
  obtain ⟨pp, hpp⟩ : ∃ q, pP = q := ⟨_, rfl⟩
  rw [hpp] at HP H5 H6 H8
  clear hpp
  obtain ⟨V, hV, F⟩ : ∃ V, ((((W.alloc (Obj.cells #[vp] 54 (0, 0))).alloc (Obj.cells #[ax, ay, .bool false] 47 (0, 0))).alloc (Obj.cells #[bx, by', .bool false] 47 (0, 0))).alloc (Obj.cells #[.slice none 0 0, .slice none 0 0, .bool false] 47 (0, 0))) = V ∧ Fm W [(W.heap.size + 3, Obj.cells #[.slice none 0 0, .slice none 0 0, .bool false] 47 (0, 0)), (W.heap.size + 2, Obj.cells #[bx, by', .bool false] 47 (0, 0)), (W.heap.size + 1, Obj.cells #[ax, ay, .bool false] 47 (0, 0)), (W.heap.size, Obj.cells #[vp] 54 (0, 0))] V := ⟨_, rfl, Fm.box4 W _ _ _ _⟩
  have qf : V.cell? ⟨W.heap.size, 0, none⟩ = some vp := (N.cells_at (L := [vp]) (F.get 3 rfl) rfl).1
  have qax : V.cell? ⟨W.heap.size + 1, 0, none⟩ = some ax := (N.cells_at (L := [ax, ay, .bool false]) (F.get 2 rfl) rfl).1
  have qay : V.cell? ⟨W.heap.size + 1, 1, none⟩ = some ay := (N.cells_at (L := [ax, ay, .bool false]) (F.get 2 rfl) rfl).1
  have qan : V.cell? ⟨W.heap.size + 1, 2, none⟩ = some (.bool false) := (N.cells_at (L := [ax, ay, .bool false]) (F.get 2 rfl) rfl).1
  have qbx : V.cell? ⟨W.heap.size + 2, 0, none⟩ = some bx := (N.cells_at (L := [bx, by', .bool false]) (F.get 1 rfl) rfl).1
  have qby : V.cell? ⟨W.heap.size + 2, 1, none⟩ = some by' := (N.cells_at (L := [bx, by', .bool false]) (F.get 1 rfl) rfl).1
  have qbn : V.cell? ⟨W.heap.size + 2, 2, none⟩ = some (.bool false) := (N.cells_at (L := [bx, by', .bool false]) (F.get 1 rfl) rfl).1
  go_enter Tryz.func24, Tryz.ntmps24
  go_upto_region 1 with fail
  simp only [Nat.add_assoc, Nat.reduceAdd]
  clear hV
  go_wp2_with fail
  refine (H5.out _ _ _ (RN.blk F.bel HP.out) (RN.blk F.bel HYB.out) (RN.blk F.bel HYA.out)).mono ?_
  rintro e y1 ⟨v1, rfl, r1, hb⟩
  replace F := F.blk hb
  clear hb qf qax qay qan qbx qby qbn
  have qf : y1.cell? ⟨W.heap.size, 0, none⟩ = some vp := (N.cells_at (L := [vp]) (F.get 3 rfl) rfl).1
  have qax : y1.cell? ⟨W.heap.size + 1, 0, none⟩ = some ax := (N.cells_at (L := [ax, ay, .bool false]) (F.get 2 rfl) rfl).1
  have qay : y1.cell? ⟨W.heap.size + 1, 1, none⟩ = some ay := (N.cells_at (L := [ax, ay, .bool false]) (F.get 2 rfl) rfl).1
  have qan : y1.cell? ⟨W.heap.size + 1, 2, none⟩ = some (.bool false) := (N.cells_at (L := [ax, ay, .bool false]) (F.get 2 rfl) rfl).1
  have qbx : y1.cell? ⟨W.heap.size + 2, 0, none⟩ = some bx := (N.cells_at (L := [bx, by', .bool false]) (F.get 1 rfl) rfl).1
  have qby : y1.cell? ⟨W.heap.size + 2, 1, none⟩ = some by' := (N.cells_at (L := [bx, by', .bool false]) (F.get 1 rfl) rfl).1
  have qbn : y1.cell? ⟨W.heap.size + 2, 2, none⟩ = some (.bool false) := (N.cells_at (L := [bx, by', .bool false]) (F.get 1 rfl) rfl).1
  go_wp2_with fail
  refine (H6.out _ _ _ (RN.blk F.bel HP.out) (RN.blk F.bel HXB.out) (RN.blk F.bel HXA.out)).mono ?_
  rintro e y2 ⟨v2, rfl, r2, hb⟩
  replace F := F.blk hb
  replace r1 := RN.blk hb r1
  clear hb qf qax qay qan qbx qby qbn
  have qf : y2.cell? ⟨W.heap.size, 0, none⟩ = some vp := (N.cells_at (L := [vp]) (F.get 3 rfl) rfl).1
  have qax : y2.cell? ⟨W.heap.size + 1, 0, none⟩ = some ax := (N.cells_at (L := [ax, ay, .bool false]) (F.get 2 rfl) rfl).1
  have qay : y2.cell? ⟨W.heap.size + 1, 1, none⟩ = some ay := (N.cells_at (L := [ax, ay, .bool false]) (F.get 2 rfl) rfl).1
  have qan : y2.cell? ⟨W.heap.size + 1, 2, none⟩ = some (.bool false) := (N.cells_at (L := [ax, ay, .bool false]) (F.get 2 rfl) rfl).1
  have qbx : y2.cell? ⟨W.heap.size + 2, 0, none⟩ = some bx := (N.cells_at (L := [bx, by', .bool false]) (F.get 1 rfl) rfl).1
  have qby : y2.cell? ⟨W.heap.size + 2, 1, none⟩ = some by' := (N.cells_at (L := [bx, by', .bool false]) (F.get 1 rfl) rfl).1
  have qbn : y2.cell? ⟨W.heap.size + 2, 2, none⟩ = some (.bool false) := (N.cells_at (L := [bx, by', .bool false]) (F.get 1 rfl) rfl).1
  obtain ⟨pl, kl, rfl⟩ := r2.sl
  have hm0 : N.mny 0 = 0 := N.mny_zero
  go_wp2_with fail
  refine (H8.out _ _ _ (RN.blk F.bel HP.out) (RN.blk F.bel HYA.out) (RN.blk F.bel HYB.out)).mono ?_
  rintro e y3 ⟨v3, rfl, r3, hb⟩
  replace F := F.blk hb
  clear hb qf qax qay qan qbx qby qbn
  have qf : y3.cell? ⟨W.heap.size, 0, none⟩ = some vp := (N.cells_at (L := [vp]) (F.get 3 rfl) rfl).1
  have qax : y3.cell? ⟨W.heap.size + 1, 0, none⟩ = some ax := (N.cells_at (L := [ax, ay, .bool false]) (F.get 2 rfl) rfl).1
  have qay : y3.cell? ⟨W.heap.size + 1, 1, none⟩ = some ay := (N.cells_at (L := [ax, ay, .bool false]) (F.get 2 rfl) rfl).1
  have qan : y3.cell? ⟨W.heap.size + 1, 2, none⟩ = some (.bool false) := (N.cells_at (L := [ax, ay, .bool false]) (F.get 2 rfl) rfl).1
  have qbx : y3.cell? ⟨W.heap.size + 2, 0, none⟩ = some bx := (N.cells_at (L := [bx, by', .bool false]) (F.get 1 rfl) rfl).1
  have qby : y3.cell? ⟨W.heap.size + 2, 1, none⟩ = some by' := (N.cells_at (L := [bx, by', .bool false]) (F.get 1 rfl) rfl).1
  have qbn : y3.cell? ⟨W.heap.size + 2, 2, none⟩ = some (.bool false) := (N.cells_at (L := [bx, by', .bool false]) (F.get 1 rfl) rfl).1
  obtain ⟨pb, kb, rfl⟩ := r3.sl
  have s6 := pdStore_run (x' := .slice none 0 0) (y' := .slice none 0 0) (z' := .bool true) (F.get 0 rfl) rfl rfl rfl
  have F4 := F.put 0 #[.slice none 0 0, .slice none 0 0, .bool true] rfl
  go_wp2
  exact bodyPost_ret (results_pd Tryz.results24 rfl (F4.get 0 rfl)) rfl ⟨rfl, F4.bel⟩
set_option maxRecDepth 100000 in
set_option maxHeartbeats 2000000 in
theorem rsum_d (W : World) (vp ax ay bx by' : Value) (xa ya xb yb S X3 Y3 : Nat) (hP : RN W vp pP) (hxa : RN W ax xa) (hya : RN W ay ya) (hxb : RN W bx xb) (hyb : RN W by' yb) (l1 : xa < pP) (l2 : ya < pP) (l3 : xb < pP) (l4 : yb < pP) (hlow : mminus xb xa ≠ 0) (hS : mtimes (mminus yb ya) (ivN pP (mminus xb xa)) = S) (hX3 : mminus (mminus (mtimes S S) xa) xb = X3) (hY3 : mminus (mtimes S (mminus xa X3)) ya = Y3) : Calls Tryz.prog 24 #[.agg #[vp], .agg #[ax, ay, .bool false], .agg #[bx, by', .bool false]] W fun e w' => ∃ v u, e = .returned (.agg #[v, u, .bool false]) ∧ v.oneCell' = true ∧ u.oneCell' = true ∧ RN w' v X3 ∧ RN w' u Y3 ∧ Below W.heap.size W w' := by
  obtain ⟨t0, E_t0⟩ : ∃ R, Hid (mminus yb ya = R) := ⟨_, Hid.mk rfl⟩
  have b_t0 : t0 < pP := by rw [← E_t0.out]; exact mminus_lt l4 l2
  obtain ⟨w0, E_w0⟩ : ∃ R, Hid (mminus xb xa = R) := ⟨_, Hid.mk rfl⟩
  have b_w0 : w0 < pP := by rw [← E_w0.out]; exact mminus_lt l3 l1
  rw [E_w0.out] at hlow
  rw [E_t0.out, E_w0.out] at hS
  obtain ⟨iv, E_iv⟩ : ∃ R, Hid (ivN pP w0 = R) := ⟨_, Hid.mk rfl⟩
  have b_iv : iv < pP := by rw [← E_iv.out]; exact (iv_spec pr_P hlow b_w0).2
  rw [E_iv.out] at hS
  have E_S := Hid.mk hS
  have b_S : S < pP := by rw [← hS]; exact mtimes_lt _ _
  have HIV : Hid (∀ w va, RN w vp pP → RN w va w0 → Calls Tryz.prog 36 #[.agg #[vp], va] w fun e w' => ∃ v, e = .returned v ∧ RN w' v iv ∧ Below w.heap.size w w') := fun w va h k => (rfInv w vp va w0 h k b_w0 hlow).mono fun e w' ⟨v, q1, q2, q3⟩ => ⟨v, q1, by rw [← E_iv.out]; exact q2, q3⟩
  obtain ⟨s2, E_s2⟩ : ∃ R, Hid (mtimes S S = R) := ⟨_, Hid.mk rfl⟩
  have b_s2 : s2 < pP := by rw [← E_s2.out]; exact mtimes_lt _ _
  obtain ⟨e1, E_e1⟩ : ∃ R, Hid (mminus s2 xa = R) := ⟨_, Hid.mk rfl⟩
  have b_e1 : e1 < pP := by rw [← E_e1.out]; exact mminus_lt b_s2 l1
  rw [E_s2.out, E_e1.out] at hX3
  have E_X3 := Hid.mk hX3
  have b_X3 : X3 < pP := by rw [← hX3]; exact mminus_lt b_e1 l3
  obtain ⟨e2, E_e2⟩ : ∃ R, Hid (mminus xa X3 = R) := ⟨_, Hid.mk rfl⟩
  have b_e2 : e2 < pP := by rw [← E_e2.out]; exact mminus_lt l1 b_X3
  obtain ⟨m2, E_m2⟩ : ∃ R, Hid (mtimes S e2 = R) := ⟨_, Hid.mk rfl⟩
  have b_m2 : m2 < pP := by rw [← E_m2.out]; exact mtimes_lt _ _
  rw [E_e2.out, E_m2.out] at hY3
  have E_Y3 := Hid.mk hY3
  have b_Y3 : Y3 < pP := by rw [← hY3]; exact mminus_lt b_m2 l2
  have H5 : Hid (∀ w va vb, RN w vp pP → RN w va yb → RN w vb ya → Calls Tryz.prog 55 #[.agg #[vp], va, vb] w fun e w' => ∃ v, e = .returned v ∧ RN w' v t0 ∧ Below w.heap.size w w') := fun w va vb h k l => (rfSub w vp va vb yb ya h k l l4 l2).mono fun e w' ⟨v, q1, q2, q3⟩ => ⟨v, q1, by rw [← E_t0.out]; exact q2, q3⟩
  have H6 : Hid (∀ w va vb, RN w vp pP → RN w va xb → RN w vb xa → Calls Tryz.prog 55 #[.agg #[vp], va, vb] w fun e w' => ∃ v, e = .returned v ∧ RN w' v w0 ∧ Below w.heap.size w w') := fun w va vb h k l => (rfSub w vp va vb xb xa h k l l3 l1).mono fun e w' ⟨v, q1, q2, q3⟩ => ⟨v, q1, by rw [← E_w0.out]; exact q2, q3⟩
  have H13 : Hid (∀ w va vb, RN w vp pP → RN w va t0 → RN w vb iv → Calls Tryz.prog 37 #[.agg #[vp], va, vb] w fun e w' => ∃ v, e = .returned v ∧ RN w' v S ∧ Below w.heap.size w w') := fun w va vb h k l => (rfMul w vp va vb t0 iv h k l b_t0 b_iv).mono fun e w' ⟨v, q1, q2, q3⟩ => ⟨v, q1, by rw [← E_S.out]; exact q2, q3⟩
  have H14a : Hid (∀ w va vb, RN w vp pP → RN w va S → RN w vb S → Calls Tryz.prog 37 #[.agg #[vp], va, vb] w fun e w' => ∃ v, e = .returned v ∧ RN w' v s2 ∧ Below w.heap.size w w') := fun w va vb h k l => (rfMul w vp va vb S S h k l b_S b_S).mono fun e w' ⟨v, q1, q2, q3⟩ => ⟨v, q1, by rw [← E_s2.out]; exact q2, q3⟩
  have H14b : Hid (∀ w va vb, RN w vp pP → RN w va s2 → RN w vb xa → Calls Tryz.prog 55 #[.agg #[vp], va, vb] w fun e w' => ∃ v, e = .returned v ∧ RN w' v e1 ∧ Below w.heap.size w w') := fun w va vb h k l => (rfSub w vp va vb s2 xa h k l b_s2 l1).mono fun e w' ⟨v, q1, q2, q3⟩ => ⟨v, q1, by rw [← E_e1.out]; exact q2, q3⟩
  have H14c : Hid (∀ w va vb, RN w vp pP → RN w va e1 → RN w vb xb → Calls Tryz.prog 55 #[.agg #[vp], va, vb] w fun e w' => ∃ v, e = .returned v ∧ RN w' v X3 ∧ Below w.heap.size w w') := fun w va vb h k l => (rfSub w vp va vb e1 xb h k l b_e1 l3).mono fun e w' ⟨v, q1, q2, q3⟩ => ⟨v, q1, by rw [← E_X3.out]; exact q2, q3⟩
  have H15a : Hid (∀ w va vb, RN w vp pP → RN w va xa → RN w vb X3 → Calls Tryz.prog 55 #[.agg #[vp], va, vb] w fun e w' => ∃ v, e = .returned v ∧ RN w' v e2 ∧ Below w.heap.size w w') := fun w va vb h k l => (rfSub w vp va vb xa X3 h k l l1 b_X3).mono fun e w' ⟨v, q1, q2, q3⟩ => ⟨v, q1, by rw [← E_e2.out]; exact q2, q3⟩
  have H15b : Hid (∀ w va vb, RN w vp pP → RN w va S → RN w vb e2 → Calls Tryz.prog 37 #[.agg #[vp], va, vb] w fun e w' => ∃ v, e = .returned v ∧ RN w' v m2 ∧ Below w.heap.size w w') := fun w va vb h k l => (rfMul w vp va vb S e2 h k l b_S b_e2).mono fun e w' ⟨v, q1, q2, q3⟩ => ⟨v, q1, by rw [← E_m2.out]; exact q2, q3⟩
  have H15d : Hid (∀ w va vb, RN w vp pP → RN w va m2 → RN w vb ya → Calls Tryz.prog 55 #[.agg #[vp], va, vb] w fun e w' => ∃ v, e = .returned v ∧ RN w' v Y3 ∧ Below w.heap.size w w') := fun w va vb h k l => (rfSub w vp va vb m2 ya h k l b_m2 l2).mono fun e w' ⟨v, q1, q2, q3⟩ => ⟨v, q1, by rw [← E_Y3.out]; exact q2, q3⟩
  have H15c : Hid (∀ w va vb, RN w vp pP → RN w va m2 → RN w vb ya → Calls Tryz.prog 55 #[.agg #[vp], va, vb] w fun e w' => ∃ p k, e = .returned (.slice p (N.mny Y3) k) ∧ RN w' (.slice p (N.mny Y3) k) Y3 ∧ Below w.heap.size w w') := fun w va vb h k l => (H15d.out w va vb h k l).mono fun e w' ⟨v, q1, q2, q3⟩ => by
    obtain ⟨p, c, rfl⟩ := q2.sl
    exact ⟨p, c, q1, q2, q3⟩
  clear H15d
  have hl0 := mny_0 hlow
  have HP := Hid.mk hP
  have HXA := Hid.mk hxa
  have HYA := Hid.mk hya
  have HXB := Hid.mk hxb
  have HYB := Hid.mk hyb
  clear hP hxa hya hxb hyb l1 l2 l3 l4 b_t0 b_w0 b_s2 b_e1 b_e2 b_m2 E_t0 E_w0 E_s2 E_e1 E_e2 E_m2 b_iv E_iv b_S E_S b_X3 E_X3 b_Y3 E_Y3 hS hX3 hY3 hlow
  obtain ⟨pp, hpp⟩ : ∃ q, pP = q := ⟨_, rfl⟩
  rw [hpp] at HP H5 H6 H13 H14a H14b H14c H15a H15b H15c HIV
  clear hpp
  obtain ⟨V, hV, F⟩ : ∃ V, ((((W.alloc (Obj.cells #[vp] 54 (0, 0))).alloc (Obj.cells #[ax, ay, .bool false] 47 (0, 0))).alloc (Obj.cells #[bx, by', .bool false] 47 (0, 0))).alloc (Obj.cells #[.slice none 0 0, .slice none 0 0, .bool false] 47 (0, 0))) = V ∧ Fm W [(W.heap.size + 3, Obj.cells #[.slice none 0 0, .slice none 0 0, .bool false] 47 (0, 0)), (W.heap.size + 2, Obj.cells #[bx, by', .bool false] 47 (0, 0)), (W.heap.size + 1, Obj.cells #[ax, ay, .bool false] 47 (0, 0)), (W.heap.size, Obj.cells #[vp] 54 (0, 0))] V := ⟨_, rfl, Fm.box4 W _ _ _ _⟩
  have qf : V.cell? ⟨W.heap.size, 0, none⟩ = some vp := (N.cells_at (L := [vp]) (F.get 3 rfl) rfl).1
  have qax : V.cell? ⟨W.heap.size + 1, 0, none⟩ = some ax := (N.cells_at (L := [ax, ay, .bool false]) (F.get 2 rfl) rfl).1
  have qay : V.cell? ⟨W.heap.size + 1, 1, none⟩ = some ay := (N.cells_at (L := [ax, ay, .bool false]) (F.get 2 rfl) rfl).1
  have qan : V.cell? ⟨W.heap.size + 1, 2, none⟩ = some (.bool false) := (N.cells_at (L := [ax, ay, .bool false]) (F.get 2 rfl) rfl).1
  have qbx : V.cell? ⟨W.heap.size + 2, 0, none⟩ = some bx := (N.cells_at (L := [bx, by', .bool false]) (F.get 1 rfl) rfl).1
  have qby : V.cell? ⟨W.heap.size + 2, 1, none⟩ = some by' := (N.cells_at (L := [bx, by', .bool false]) (F.get 1 rfl) rfl).1
  have qbn : V.cell? ⟨W.heap.size + 2, 2, none⟩ = some (.bool false) := (N.cells_at (L := [bx, by', .bool false]) (F.get 1 rfl) rfl).1
  go_enter Tryz.func24, Tryz.ntmps24
  go_upto_region 1 with fail
  simp only [Nat.add_assoc, Nat.reduceAdd]
  clear hV
  go_wp2_with fail
  refine (H5.out _ _ _ (RN.blk F.bel HP.out) (RN.blk F.bel HYB.out) (RN.blk F.bel HYA.out)).mono ?_
  rintro e y1 ⟨v1, rfl, r1, hb⟩
  replace F := F.blk hb
  clear hb qf qax qay qan qbx qby qbn
  have qf : y1.cell? ⟨W.heap.size, 0, none⟩ = some vp := (N.cells_at (L := [vp]) (F.get 3 rfl) rfl).1
  have qax : y1.cell? ⟨W.heap.size + 1, 0, none⟩ = some ax := (N.cells_at (L := [ax, ay, .bool false]) (F.get 2 rfl) rfl).1
  have qay : y1.cell? ⟨W.heap.size + 1, 1, none⟩ = some ay := (N.cells_at (L := [ax, ay, .bool false]) (F.get 2 rfl) rfl).1
  have qan : y1.cell? ⟨W.heap.size + 1, 2, none⟩ = some (.bool false) := (N.cells_at (L := [ax, ay, .bool false]) (F.get 2 rfl) rfl).1
  have qbx : y1.cell? ⟨W.heap.size + 2, 0, none⟩ = some bx := (N.cells_at (L := [bx, by', .bool false]) (F.get 1 rfl) rfl).1
  have qby : y1.cell? ⟨W.heap.size + 2, 1, none⟩ = some by' := (N.cells_at (L := [bx, by', .bool false]) (F.get 1 rfl) rfl).1
  have qbn : y1.cell? ⟨W.heap.size + 2, 2, none⟩ = some (.bool false) := (N.cells_at (L := [bx, by', .bool false]) (F.get 1 rfl) rfl).1
  go_wp2_with fail
  refine (H6.out _ _ _ (RN.blk F.bel HP.out) (RN.blk F.bel HXB.out) (RN.blk F.bel HXA.out)).mono ?_
  rintro e y2 ⟨v2, rfl, r2, hb⟩
  replace F := F.blk hb
  replace r1 := RN.blk hb r1
  clear hb qf qax qay qan qbx qby qbn
  have qf : y2.cell? ⟨W.heap.size, 0, none⟩ = some vp := (N.cells_at (L := [vp]) (F.get 3 rfl) rfl).1
  have qax : y2.cell? ⟨W.heap.size + 1, 0, none⟩ = some ax := (N.cells_at (L := [ax, ay, .bool false]) (F.get 2 rfl) rfl).1
  have qay : y2.cell? ⟨W.heap.size + 1, 1, none⟩ = some ay := (N.cells_at (L := [ax, ay, .bool false]) (F.get 2 rfl) rfl).1
  have qan : y2.cell? ⟨W.heap.size + 1, 2, none⟩ = some (.bool false) := (N.cells_at (L := [ax, ay, .bool false]) (F.get 2 rfl) rfl).1
  have qbx : y2.cell? ⟨W.heap.size + 2, 0, none⟩ = some bx := (N.cells_at (L := [bx, by', .bool false]) (F.get 1 rfl) rfl).1
  have qby : y2.cell? ⟨W.heap.size + 2, 1, none⟩ = some by' := (N.cells_at (L := [bx, by', .bool false]) (F.get 1 rfl) rfl).1
  have qbn : y2.cell? ⟨W.heap.size + 2, 2, none⟩ = some (.bool false) := (N.cells_at (L := [bx, by', .bool false]) (F.get 1 rfl) rfl).1
  obtain ⟨pl, kl, rfl⟩ := r2.sl
  obtain ⟨L, hL⟩ : ∃ L : List (Nat × Obj), [(W.heap.size + 2, Obj.cells #[bx, by', .bool false] 47 (0, 0)), (W.heap.size + 1, Obj.cells #[ax, ay, .bool false] 47 (0, 0)), (W.heap.size, Obj.cells #[vp] 54 (0, 0))] = L := ⟨_, rfl⟩
  rw [hL] at F
  clear qf qax qay qan qbx qby qbn
  have HS : Hid (∀ w, Fd W (W.heap.size + 3) L w → Fd W (W.heap.size + 3) L w ∧ w.cell? ⟨W.heap.size, 0, none⟩ = some vp ∧ w.cell? ⟨W.heap.size + 1, 0, none⟩ = some ax ∧ w.cell? ⟨W.heap.size + 1, 1, none⟩ = some ay ∧ w.cell? ⟨W.heap.size + 2, 0, none⟩ = some bx ∧ (∀ p n c p' n' c', (pdStore (.pointer (some ⟨W.heap.size + 3, 0, none⟩)) (.agg #[.slice p n c, .slice p' n' c', .bool false])).run Tryz.prog w = .ok () (w.setRow (W.heap.size + 3) #[.slice p n c, .slice p' n' c', .bool false]))) := fun w h => ⟨h, (N.cells_at (L := [vp]) (h.get 2 (by rw [← hL]; rfl)) rfl).1, (N.cells_at (L := [ax, ay, .bool false]) (h.get 1 (by rw [← hL]; rfl)) rfl).1, (N.cells_at (L := [ax, ay, .bool false]) (h.get 1 (by rw [← hL]; rfl)) rfl).1, (N.cells_at (L := [bx, by', .bool false]) (h.get 0 (by rw [← hL]; rfl)) rfl).1, h.st⟩
  have Z : Fd W (W.heap.size + 3) L _ := ⟨_, _, _, F⟩
  go_upto_region 13 with fail
  have hS0 := HS.out _ Z
  clear F
  have r1 := RN.drew' r1
  have r2 := RN.drew' r2
  go_region_held3 (fun w => Fd W (W.heap.size + 3) L w ∧ w.cell? ⟨W.heap.size, 0, none⟩ = some vp ∧ w.cell? ⟨W.heap.size + 1, 0, none⟩ = some ax ∧ w.cell? ⟨W.heap.size + 1, 1, none⟩ = some ay ∧ w.cell? ⟨W.heap.size + 2, 0, none⟩ = some bx ∧ (∀ p n c p' n' c', (pdStore (.pointer (some ⟨W.heap.size + 3, 0, none⟩)) (.agg #[.slice p n c, .slice p' n' c', .bool false])).run Tryz.prog w = .ok () (w.setRow (W.heap.size + 3) #[.slice p n c, .slice p' n' c', .bool false])))
    (first | assumption | (apply HS.out; repeat (first | assumption | apply Fd.drew | apply Fd.set)))
    (first
      | (go_at_call 36; with_reducible refine (HIV.out _ _ (RN.blk (Fd.bel (by repeat (first | assumption | apply Fd.drew))) HP.out) r2).mono ?_; rintro e w21 ⟨v21, rfl, r21, hb21⟩; have F21 := Fd.blk (by repeat (first | assumption | apply Fd.drew)) hb21; have hs21 := HS.out _ F21; have r1 := RN.blk hb21 r1)
      | (go_at_call 37; with_reducible refine (H13.out _ _ _ (RN.blk (Fd.bel (by repeat (first | assumption | apply Fd.drew))) HP.out) r1 r21).mono ?_; rintro e w22 ⟨v22, rfl, r22, hb22⟩; have F22 := Fd.blk (by repeat (first | assumption | apply Fd.drew)) hb22; have hs22 := HS.out _ F22))
  have Z := F22
  have rS := RN.drew' r22
  clear hS0
  go_upto_region 14 with fail
  have hS0 := HS.out _ Z
  have r20 := rS
  go_region_held3 (fun w => Fd W (W.heap.size + 3) L w ∧ w.cell? ⟨W.heap.size, 0, none⟩ = some vp ∧ w.cell? ⟨W.heap.size + 1, 0, none⟩ = some ax ∧ w.cell? ⟨W.heap.size + 1, 1, none⟩ = some ay ∧ w.cell? ⟨W.heap.size + 2, 0, none⟩ = some bx ∧ (∀ p n c p' n' c', (pdStore (.pointer (some ⟨W.heap.size + 3, 0, none⟩)) (.agg #[.slice p n c, .slice p' n' c', .bool false])).run Tryz.prog w = .ok () (w.setRow (W.heap.size + 3) #[.slice p n c, .slice p' n' c', .bool false])))
    (first | assumption | (apply HS.out; repeat (first | assumption | apply Fd.drew | apply Fd.set)))
    (first
      | (go_at_call 37; with_reducible refine (H14a.out _ _ _ (RN.blk (Fd.bel (by repeat (first | assumption | apply Fd.drew))) HP.out) r20 r20).mono ?_; rintro e w31 ⟨v31, rfl, r31, hb31⟩; have F31 := Fd.blk (by repeat (first | assumption | apply Fd.drew)) hb31; have hs31 := HS.out _ F31; have r20 := RN.blk hb31 r20)
      | (go_at_call 55; with_reducible refine (H14b.out _ _ _ (RN.blk (Fd.bel (by repeat (first | assumption | apply Fd.drew))) HP.out) r31 (RN.blk (Fd.bel (by repeat (first | assumption | apply Fd.drew))) HXA.out)).mono ?_; rintro e w32 ⟨v32, rfl, r32, hb32⟩; have F32 := Fd.blk (by repeat (first | assumption | apply Fd.drew)) hb32; have hs32 := HS.out _ F32; have r20 := RN.blk hb32 r20)
      | (go_at_call 55; with_reducible refine (H14c.out _ _ _ (RN.blk (Fd.bel (by repeat (first | assumption | apply Fd.drew))) HP.out) r32 (RN.blk (Fd.bel (by repeat (first | assumption | apply Fd.drew))) HXB.out)).mono ?_; rintro e w33 ⟨v33, rfl, r33, hb33⟩; have F33 := Fd.blk (by repeat (first | assumption | apply Fd.drew)) hb33; have hs33 := HS.out _ F33; have r20 := RN.blk hb33 r20))
  have Z := F33
  obtain ⟨p33, k33, rfl⟩ := r33.sl
  have r34 := RN.drew' r20
  have r35 := RN.drew' r33
  clear hS0
  go_upto_region 15 with fail
  have hS0 := HS.out _ Z
  go_region_held3 (fun w => Fd W (W.heap.size + 3) L w ∧ w.cell? ⟨W.heap.size, 0, none⟩ = some vp ∧ w.cell? ⟨W.heap.size + 1, 0, none⟩ = some ax ∧ w.cell? ⟨W.heap.size + 1, 1, none⟩ = some ay ∧ w.cell? ⟨W.heap.size + 2, 0, none⟩ = some bx ∧ (∀ p n c p' n' c', (pdStore (.pointer (some ⟨W.heap.size + 3, 0, none⟩)) (.agg #[.slice p n c, .slice p' n' c', .bool false])).run Tryz.prog w = .ok () (w.setRow (W.heap.size + 3) #[.slice p n c, .slice p' n' c', .bool false])))
    (first | assumption | (apply HS.out; repeat (first | assumption | apply Fd.drew | apply Fd.set)))
    (first
      | (go_at_call 55; with_reducible refine (H15a.out _ _ _ (RN.blk (Fd.bel (by repeat (first | assumption | apply Fd.drew))) HP.out) (RN.blk (Fd.bel (by repeat (first | assumption | apply Fd.drew))) HXA.out) r35).mono ?_; rintro e w41 ⟨v41, rfl, r41, hb41⟩; have F41 := Fd.blk (by repeat (first | assumption | apply Fd.drew)) hb41; have hs41 := HS.out _ F41; have r34 := RN.blk hb41 r34; have r35 := RN.blk hb41 r35)
      | (go_at_call 37; with_reducible refine (H15b.out _ _ _ (RN.blk (Fd.bel (by repeat (first | assumption | apply Fd.drew))) HP.out) r34 r41).mono ?_; rintro e w42 ⟨v42, rfl, r42, hb42⟩; have F42 := Fd.blk (by repeat (first | assumption | apply Fd.drew)) hb42; have hs42 := HS.out _ F42; have r35 := RN.blk hb42 r35)
      | (go_at_call 55; with_reducible refine (H15c.out _ _ _ (RN.blk (Fd.bel (by repeat (first | assumption | apply Fd.drew))) HP.out) r42 (RN.blk (Fd.bel (by repeat (first | assumption | apply Fd.drew))) HYA.out)).mono ?_; rintro e w43 ⟨p43, k43, rfl, r43, hb43⟩; have F43 := Fd.blk (by repeat (first | assumption | apply Fd.drew)) hb43; have hs43 := HS.out _ F43; have r35 := RN.blk hb43 r35))
  have F6 := F43.fin (.slice p33 (N.mny X3) k33) (.slice p43 (N.mny Y3) k43) (.bool false)
  obtain ⟨LL, hLL⟩ := F43.at
  go_wp2
  exact bodyPost_ret (results_pd Tryz.results24 rfl (F6.get 0 rfl)) rfl ⟨_, _, rfl, rfl, rfl, rn_row r35 hLL, rn_row r43 hLL, F6.bel⟩
set_option maxRecDepth 100000 in
set_option maxHeartbeats 2000000 in
theorem rsum_t (W : World) (vp ax ay bx by' : Value) (xa ya xb yb S X3 Y3 : Nat) (hP : RN W vp pP) (hxa : RN W ax xa) (hya : RN W ay ya) (hxb : RN W bx xb) (hyb : RN W by' yb) (l1 : xa < pP) (l2 : ya < pP) (l3 : xb < pP) (l4 : yb < pP) (hlow : mminus xb xa = 0) (hboth : mplus ya yb ≠ 0) (h2 : mplus ya ya ≠ 0) (hS : mtimes (mminus (mtimes 3 (mtimes xa xa)) 3) (ivN pP (mplus ya ya)) = S) (hX3 : mminus (mminus (mtimes S S) xa) xb = X3) (hY3 : mminus (mtimes S (mminus xa X3)) ya = Y3) : Calls Tryz.prog 24 #[.agg #[vp], .agg #[ax, ay, .bool false], .agg #[bx, by', .bool false]] W fun e w' => ∃ v u, e = .returned (.agg #[v, u, .bool false]) ∧ v.oneCell' = true ∧ u.oneCell' = true ∧ RN w' v X3 ∧ RN w' u Y3 ∧ Below W.heap.size W w' := by
  obtain ⟨t0, E_t0⟩ : ∃ R, Hid (mminus yb ya = R) := ⟨_, Hid.mk rfl⟩
  have b_t0 : t0 < pP := by rw [← E_t0.out]; exact mminus_lt l4 l2
  obtain ⟨w0, E_w0⟩ : ∃ R, Hid (mminus xb xa = R) := ⟨_, Hid.mk rfl⟩
  have b_w0 : w0 < pP := by rw [← E_w0.out]; exact mminus_lt l3 l1
  rw [E_w0.out] at hlow
  obtain ⟨bo, E_bo⟩ : ∃ R, Hid (mplus ya yb = R) := ⟨_, Hid.mk rfl⟩
  have b_bo : bo < pP := by rw [← E_bo.out]; exact mplus_lt l2 l4
  rw [E_bo.out] at hboth
  obtain ⟨x2, E_x2⟩ : ∃ R, Hid (mtimes xa xa = R) := ⟨_, Hid.mk rfl⟩
  have b_x2 : x2 < pP := by rw [← E_x2.out]; exact mtimes_lt _ _
  obtain ⟨x23, E_x23⟩ : ∃ R, Hid (mtimes 3 x2 = R) := ⟨_, Hid.mk rfl⟩
  have b_x23 : x23 < pP := by rw [← E_x23.out]; exact mtimes_lt _ _
  obtain ⟨t1, E_t1⟩ : ∃ R, Hid (mminus x23 3 = R) := ⟨_, Hid.mk rfl⟩
  have b_t1 : t1 < pP := by rw [← E_t1.out]; exact mminus_lt b_x23 (show 3 < pP by decide)
  obtain ⟨w1, E_w1⟩ : ∃ R, Hid (mplus ya ya = R) := ⟨_, Hid.mk rfl⟩
  have b_w1 : w1 < pP := by rw [← E_w1.out]; exact mplus_lt l2 l2
  rw [E_x2.out, E_x23.out, E_t1.out, E_w1.out] at hS
  rw [E_w1.out] at h2
  obtain ⟨iv, E_iv⟩ : ∃ R, Hid (ivN pP w1 = R) := ⟨_, Hid.mk rfl⟩
  have b_iv : iv < pP := by rw [← E_iv.out]; exact (iv_spec pr_P h2 b_w1).2
  rw [E_iv.out] at hS
  have E_S := Hid.mk hS
  have b_S : S < pP := by rw [← hS]; exact mtimes_lt _ _
  have HIV : Hid (∀ w va, RN w vp pP → RN w va w1 → Calls Tryz.prog 36 #[.agg #[vp], va] w fun e w' => ∃ v, e = .returned v ∧ RN w' v iv ∧ Below w.heap.size w w') := fun w va h k => (rfInv w vp va w1 h k b_w1 h2).mono fun e w' ⟨v, q1, q2, q3⟩ => ⟨v, q1, by rw [← E_iv.out]; exact q2, q3⟩
  obtain ⟨s2, E_s2⟩ : ∃ R, Hid (mtimes S S = R) := ⟨_, Hid.mk rfl⟩
  have b_s2 : s2 < pP := by rw [← E_s2.out]; exact mtimes_lt _ _
  obtain ⟨e1, E_e1⟩ : ∃ R, Hid (mminus s2 xa = R) := ⟨_, Hid.mk rfl⟩
  have b_e1 : e1 < pP := by rw [← E_e1.out]; exact mminus_lt b_s2 l1
  rw [E_s2.out, E_e1.out] at hX3
  have E_X3 := Hid.mk hX3
  have b_X3 : X3 < pP := by rw [← hX3]; exact mminus_lt b_e1 l3
  obtain ⟨e2, E_e2⟩ : ∃ R, Hid (mminus xa X3 = R) := ⟨_, Hid.mk rfl⟩
  have b_e2 : e2 < pP := by rw [← E_e2.out]; exact mminus_lt l1 b_X3
  obtain ⟨m2, E_m2⟩ : ∃ R, Hid (mtimes S e2 = R) := ⟨_, Hid.mk rfl⟩
  have b_m2 : m2 < pP := by rw [← E_m2.out]; exact mtimes_lt _ _
  rw [E_e2.out, E_m2.out] at hY3
  have E_Y3 := Hid.mk hY3
  have b_Y3 : Y3 < pP := by rw [← hY3]; exact mminus_lt b_m2 l2
  have H5 : Hid (∀ w va vb, RN w vp pP → RN w va yb → RN w vb ya → Calls Tryz.prog 55 #[.agg #[vp], va, vb] w fun e w' => ∃ v, e = .returned v ∧ RN w' v t0 ∧ Below w.heap.size w w') := fun w va vb h k l => (rfSub w vp va vb yb ya h k l l4 l2).mono fun e w' ⟨v, q1, q2, q3⟩ => ⟨v, q1, by rw [← E_t0.out]; exact q2, q3⟩
  have H6 : Hid (∀ w va vb, RN w vp pP → RN w va xb → RN w vb xa → Calls Tryz.prog 55 #[.agg #[vp], va, vb] w fun e w' => ∃ v, e = .returned v ∧ RN w' v w0 ∧ Below w.heap.size w w') := fun w va vb h k l => (rfSub w vp va vb xb xa h k l l3 l1).mono fun e w' ⟨v, q1, q2, q3⟩ => ⟨v, q1, by rw [← E_w0.out]; exact q2, q3⟩
  have H8 : Hid (∀ w va vb, RN w vp pP → RN w va ya → RN w vb yb → Calls Tryz.prog 56 #[.agg #[vp], va, vb] w fun e w' => ∃ v, e = .returned v ∧ RN w' v bo ∧ Below w.heap.size w w') := fun w va vb h k l => (rfAdd w vp va vb ya yb h k l l2 l4).mono fun e w' ⟨v, q1, q2, q3⟩ => ⟨v, q1, by rw [← E_bo.out]; exact q2, q3⟩
  have H11a : Hid (∀ w va vb, RN w vp pP → RN w va xa → RN w vb xa → Calls Tryz.prog 37 #[.agg #[vp], va, vb] w fun e w' => ∃ v, e = .returned v ∧ RN w' v x2 ∧ Below w.heap.size w w') := fun w va vb h k l => (rfMul w vp va vb xa xa h k l l1 l1).mono fun e w' ⟨v, q1, q2, q3⟩ => ⟨v, q1, by rw [← E_x2.out]; exact q2, q3⟩
  have H11b : Hid (∀ w va vb, RN w vp pP → RN w va 3 → RN w vb x2 → Calls Tryz.prog 37 #[.agg #[vp], va, vb] w fun e w' => ∃ v, e = .returned v ∧ RN w' v x23 ∧ Below w.heap.size w w') := fun w va vb h k l => (rfMul w vp va vb 3 x2 h k l (show 3 < pP by decide) b_x2).mono fun e w' ⟨v, q1, q2, q3⟩ => ⟨v, q1, by rw [← E_x23.out]; exact q2, q3⟩
  have H11c : Hid (∀ w va vb, RN w vp pP → RN w va x23 → RN w vb 3 → Calls Tryz.prog 55 #[.agg #[vp], va, vb] w fun e w' => ∃ v, e = .returned v ∧ RN w' v t1 ∧ Below w.heap.size w w') := fun w va vb h k l => (rfSub w vp va vb x23 3 h k l b_x23 (show 3 < pP by decide)).mono fun e w' ⟨v, q1, q2, q3⟩ => ⟨v, q1, by rw [← E_t1.out]; exact q2, q3⟩
  have H12 : Hid (∀ w va vb, RN w vp pP → RN w va ya → RN w vb ya → Calls Tryz.prog 56 #[.agg #[vp], va, vb] w fun e w' => ∃ v, e = .returned v ∧ RN w' v w1 ∧ Below w.heap.size w w') := fun w va vb h k l => (rfAdd w vp va vb ya ya h k l l2 l2).mono fun e w' ⟨v, q1, q2, q3⟩ => ⟨v, q1, by rw [← E_w1.out]; exact q2, q3⟩
  have H13 : Hid (∀ w va vb, RN w vp pP → RN w va t1 → RN w vb iv → Calls Tryz.prog 37 #[.agg #[vp], va, vb] w fun e w' => ∃ v, e = .returned v ∧ RN w' v S ∧ Below w.heap.size w w') := fun w va vb h k l => (rfMul w vp va vb t1 iv h k l b_t1 b_iv).mono fun e w' ⟨v, q1, q2, q3⟩ => ⟨v, q1, by rw [← E_S.out]; exact q2, q3⟩
  have H14a : Hid (∀ w va vb, RN w vp pP → RN w va S → RN w vb S → Calls Tryz.prog 37 #[.agg #[vp], va, vb] w fun e w' => ∃ v, e = .returned v ∧ RN w' v s2 ∧ Below w.heap.size w w') := fun w va vb h k l => (rfMul w vp va vb S S h k l b_S b_S).mono fun e w' ⟨v, q1, q2, q3⟩ => ⟨v, q1, by rw [← E_s2.out]; exact q2, q3⟩
  have H14b : Hid (∀ w va vb, RN w vp pP → RN w va s2 → RN w vb xa → Calls Tryz.prog 55 #[.agg #[vp], va, vb] w fun e w' => ∃ v, e = .returned v ∧ RN w' v e1 ∧ Below w.heap.size w w') := fun w va vb h k l => (rfSub w vp va vb s2 xa h k l b_s2 l1).mono fun e w' ⟨v, q1, q2, q3⟩ => ⟨v, q1, by rw [← E_e1.out]; exact q2, q3⟩
  have H14c : Hid (∀ w va vb, RN w vp pP → RN w va e1 → RN w vb xb → Calls Tryz.prog 55 #[.agg #[vp], va, vb] w fun e w' => ∃ v, e = .returned v ∧ RN w' v X3 ∧ Below w.heap.size w w') := fun w va vb h k l => (rfSub w vp va vb e1 xb h k l b_e1 l3).mono fun e w' ⟨v, q1, q2, q3⟩ => ⟨v, q1, by rw [← E_X3.out]; exact q2, q3⟩
  have H15a : Hid (∀ w va vb, RN w vp pP → RN w va xa → RN w vb X3 → Calls Tryz.prog 55 #[.agg #[vp], va, vb] w fun e w' => ∃ v, e = .returned v ∧ RN w' v e2 ∧ Below w.heap.size w w') := fun w va vb h k l => (rfSub w vp va vb xa X3 h k l l1 b_X3).mono fun e w' ⟨v, q1, q2, q3⟩ => ⟨v, q1, by rw [← E_e2.out]; exact q2, q3⟩
  have H15b : Hid (∀ w va vb, RN w vp pP → RN w va S → RN w vb e2 → Calls Tryz.prog 37 #[.agg #[vp], va, vb] w fun e w' => ∃ v, e = .returned v ∧ RN w' v m2 ∧ Below w.heap.size w w') := fun w va vb h k l => (rfMul w vp va vb S e2 h k l b_S b_e2).mono fun e w' ⟨v, q1, q2, q3⟩ => ⟨v, q1, by rw [← E_m2.out]; exact q2, q3⟩
  have H15d : Hid (∀ w va vb, RN w vp pP → RN w va m2 → RN w vb ya → Calls Tryz.prog 55 #[.agg #[vp], va, vb] w fun e w' => ∃ v, e = .returned v ∧ RN w' v Y3 ∧ Below w.heap.size w w') := fun w va vb h k l => (rfSub w vp va vb m2 ya h k l b_m2 l2).mono fun e w' ⟨v, q1, q2, q3⟩ => ⟨v, q1, by rw [← E_Y3.out]; exact q2, q3⟩
  have H15c : Hid (∀ w va vb, RN w vp pP → RN w va m2 → RN w vb ya → Calls Tryz.prog 55 #[.agg #[vp], va, vb] w fun e w' => ∃ p k, e = .returned (.slice p (N.mny Y3) k) ∧ RN w' (.slice p (N.mny Y3) k) Y3 ∧ Below w.heap.size w w') := fun w va vb h k l => (H15d.out w va vb h k l).mono fun e w' ⟨v, q1, q2, q3⟩ => by
    obtain ⟨p, c, rfl⟩ := q2.sl
    exact ⟨p, c, q1, q2, q3⟩
  clear H15d
  have HSm : Hid (∀ w, Calls Tryz.prog 57 #[.int .u64 3] w fun e w' => ∃ v, e = .returned v ∧ RN w' v 3 ∧ Below w.heap.size w w') := fun w => rfSmall w 3 (by omega)
  have hl1 := mny_0 hboth
  subst hlow
  have HP := Hid.mk hP
  have HXA := Hid.mk hxa
  have HYA := Hid.mk hya
  have HXB := Hid.mk hxb
  have HYB := Hid.mk hyb
  clear hP hxa hya hxb hyb l1 l2 l3 l4 b_t0 b_w0 b_bo b_x2 b_x23 b_t1 b_w1 b_s2 b_e1 b_e2 b_m2 E_t0 E_w0 E_bo E_x2 E_x23 E_t1 E_w1 E_s2 E_e1 E_e2 E_m2 b_iv E_iv b_S E_S b_X3 E_X3 b_Y3 E_Y3 hS hX3 hY3 hboth h2
  obtain ⟨pp, hpp⟩ : ∃ q, pP = q := ⟨_, rfl⟩
  rw [hpp] at HP H5 H6 H8 H11a H11b H11c H12 H13 H14a H14b H14c H15a H15b H15c HIV
  clear hpp
  obtain ⟨V, hV, F⟩ : ∃ V, ((((W.alloc (Obj.cells #[vp] 54 (0, 0))).alloc (Obj.cells #[ax, ay, .bool false] 47 (0, 0))).alloc (Obj.cells #[bx, by', .bool false] 47 (0, 0))).alloc (Obj.cells #[.slice none 0 0, .slice none 0 0, .bool false] 47 (0, 0))) = V ∧ Fm W [(W.heap.size + 3, Obj.cells #[.slice none 0 0, .slice none 0 0, .bool false] 47 (0, 0)), (W.heap.size + 2, Obj.cells #[bx, by', .bool false] 47 (0, 0)), (W.heap.size + 1, Obj.cells #[ax, ay, .bool false] 47 (0, 0)), (W.heap.size, Obj.cells #[vp] 54 (0, 0))] V := ⟨_, rfl, Fm.box4 W _ _ _ _⟩
  have qf : V.cell? ⟨W.heap.size, 0, none⟩ = some vp := (N.cells_at (L := [vp]) (F.get 3 rfl) rfl).1
  have qax : V.cell? ⟨W.heap.size + 1, 0, none⟩ = some ax := (N.cells_at (L := [ax, ay, .bool false]) (F.get 2 rfl) rfl).1
  have qay : V.cell? ⟨W.heap.size + 1, 1, none⟩ = some ay := (N.cells_at (L := [ax, ay, .bool false]) (F.get 2 rfl) rfl).1
  have qan : V.cell? ⟨W.heap.size + 1, 2, none⟩ = some (.bool false) := (N.cells_at (L := [ax, ay, .bool false]) (F.get 2 rfl) rfl).1
  have qbx : V.cell? ⟨W.heap.size + 2, 0, none⟩ = some bx := (N.cells_at (L := [bx, by', .bool false]) (F.get 1 rfl) rfl).1
  have qby : V.cell? ⟨W.heap.size + 2, 1, none⟩ = some by' := (N.cells_at (L := [bx, by', .bool false]) (F.get 1 rfl) rfl).1
  have qbn : V.cell? ⟨W.heap.size + 2, 2, none⟩ = some (.bool false) := (N.cells_at (L := [bx, by', .bool false]) (F.get 1 rfl) rfl).1
  go_enter Tryz.func24, Tryz.ntmps24
  go_upto_region 1 with fail
  simp only [Nat.add_assoc, Nat.reduceAdd]
  clear hV
  go_wp2_with fail
  refine (H5.out _ _ _ (RN.blk F.bel HP.out) (RN.blk F.bel HYB.out) (RN.blk F.bel HYA.out)).mono ?_
  rintro e y1 ⟨v1, rfl, r1, hb⟩
  replace F := F.blk hb
  clear hb qf qax qay qan qbx qby qbn
  have qf : y1.cell? ⟨W.heap.size, 0, none⟩ = some vp := (N.cells_at (L := [vp]) (F.get 3 rfl) rfl).1
  have qax : y1.cell? ⟨W.heap.size + 1, 0, none⟩ = some ax := (N.cells_at (L := [ax, ay, .bool false]) (F.get 2 rfl) rfl).1
  have qay : y1.cell? ⟨W.heap.size + 1, 1, none⟩ = some ay := (N.cells_at (L := [ax, ay, .bool false]) (F.get 2 rfl) rfl).1
  have qan : y1.cell? ⟨W.heap.size + 1, 2, none⟩ = some (.bool false) := (N.cells_at (L := [ax, ay, .bool false]) (F.get 2 rfl) rfl).1
  have qbx : y1.cell? ⟨W.heap.size + 2, 0, none⟩ = some bx := (N.cells_at (L := [bx, by', .bool false]) (F.get 1 rfl) rfl).1
  have qby : y1.cell? ⟨W.heap.size + 2, 1, none⟩ = some by' := (N.cells_at (L := [bx, by', .bool false]) (F.get 1 rfl) rfl).1
  have qbn : y1.cell? ⟨W.heap.size + 2, 2, none⟩ = some (.bool false) := (N.cells_at (L := [bx, by', .bool false]) (F.get 1 rfl) rfl).1
  go_wp2_with fail
  refine (H6.out _ _ _ (RN.blk F.bel HP.out) (RN.blk F.bel HXB.out) (RN.blk F.bel HXA.out)).mono ?_
  rintro e y2 ⟨v2, rfl, r2, hb⟩
  replace F := F.blk hb
  replace r1 := RN.blk hb r1
  clear hb qf qax qay qan qbx qby qbn
  have qf : y2.cell? ⟨W.heap.size, 0, none⟩ = some vp := (N.cells_at (L := [vp]) (F.get 3 rfl) rfl).1
  have qax : y2.cell? ⟨W.heap.size + 1, 0, none⟩ = some ax := (N.cells_at (L := [ax, ay, .bool false]) (F.get 2 rfl) rfl).1
  have qay : y2.cell? ⟨W.heap.size + 1, 1, none⟩ = some ay := (N.cells_at (L := [ax, ay, .bool false]) (F.get 2 rfl) rfl).1
  have qan : y2.cell? ⟨W.heap.size + 1, 2, none⟩ = some (.bool false) := (N.cells_at (L := [ax, ay, .bool false]) (F.get 2 rfl) rfl).1
  have qbx : y2.cell? ⟨W.heap.size + 2, 0, none⟩ = some bx := (N.cells_at (L := [bx, by', .bool false]) (F.get 1 rfl) rfl).1
  have qby : y2.cell? ⟨W.heap.size + 2, 1, none⟩ = some by' := (N.cells_at (L := [bx, by', .bool false]) (F.get 1 rfl) rfl).1
  have qbn : y2.cell? ⟨W.heap.size + 2, 2, none⟩ = some (.bool false) := (N.cells_at (L := [bx, by', .bool false]) (F.get 1 rfl) rfl).1
  obtain ⟨pl, kl, rfl⟩ := r2.sl
  have hm0 : N.mny 0 = 0 := N.mny_zero
  go_wp2_with fail
  refine (H8.out _ _ _ (RN.blk F.bel HP.out) (RN.blk F.bel HYA.out) (RN.blk F.bel HYB.out)).mono ?_
  rintro e y3 ⟨v3, rfl, r3, hb⟩
  replace F := F.blk hb
  clear hb qf qax qay qan qbx qby qbn
  have qf : y3.cell? ⟨W.heap.size, 0, none⟩ = some vp := (N.cells_at (L := [vp]) (F.get 3 rfl) rfl).1
  have qax : y3.cell? ⟨W.heap.size + 1, 0, none⟩ = some ax := (N.cells_at (L := [ax, ay, .bool false]) (F.get 2 rfl) rfl).1
  have qay : y3.cell? ⟨W.heap.size + 1, 1, none⟩ = some ay := (N.cells_at (L := [ax, ay, .bool false]) (F.get 2 rfl) rfl).1
  have qan : y3.cell? ⟨W.heap.size + 1, 2, none⟩ = some (.bool false) := (N.cells_at (L := [ax, ay, .bool false]) (F.get 2 rfl) rfl).1
  have qbx : y3.cell? ⟨W.heap.size + 2, 0, none⟩ = some bx := (N.cells_at (L := [bx, by', .bool false]) (F.get 1 rfl) rfl).1
  have qby : y3.cell? ⟨W.heap.size + 2, 1, none⟩ = some by' := (N.cells_at (L := [bx, by', .bool false]) (F.get 1 rfl) rfl).1
  have qbn : y3.cell? ⟨W.heap.size + 2, 2, none⟩ = some (.bool false) := (N.cells_at (L := [bx, by', .bool false]) (F.get 1 rfl) rfl).1
  obtain ⟨pb, kb, rfl⟩ := r3.sl
  obtain ⟨L, hL⟩ : ∃ L : List (Nat × Obj), [(W.heap.size + 2, Obj.cells #[bx, by', .bool false] 47 (0, 0)), (W.heap.size + 1, Obj.cells #[ax, ay, .bool false] 47 (0, 0)), (W.heap.size, Obj.cells #[vp] 54 (0, 0))] = L := ⟨_, rfl⟩
  rw [hL] at F
  clear qf qax qay qan qbx qby qbn
  have HS : Hid (∀ w, Fd W (W.heap.size + 3) L w → Fd W (W.heap.size + 3) L w ∧ w.cell? ⟨W.heap.size, 0, none⟩ = some vp ∧ w.cell? ⟨W.heap.size + 1, 0, none⟩ = some ax ∧ w.cell? ⟨W.heap.size + 1, 1, none⟩ = some ay ∧ w.cell? ⟨W.heap.size + 2, 0, none⟩ = some bx ∧ (∀ p n c p' n' c', (pdStore (.pointer (some ⟨W.heap.size + 3, 0, none⟩)) (.agg #[.slice p n c, .slice p' n' c', .bool false])).run Tryz.prog w = .ok () (w.setRow (W.heap.size + 3) #[.slice p n c, .slice p' n' c', .bool false]))) := fun w h => ⟨h, (N.cells_at (L := [vp]) (h.get 2 (by rw [← hL]; rfl)) rfl).1, (N.cells_at (L := [ax, ay, .bool false]) (h.get 1 (by rw [← hL]; rfl)) rfl).1, (N.cells_at (L := [ax, ay, .bool false]) (h.get 1 (by rw [← hL]; rfl)) rfl).1, (N.cells_at (L := [bx, by', .bool false]) (h.get 0 (by rw [← hL]; rfl)) rfl).1, h.st⟩
  have Z : Fd W (W.heap.size + 3) L _ := ⟨_, _, _, F⟩
  go_upto_region 11 with fail
  have hS0 := HS.out _ Z
  clear F r1 r2 r3
  go_region_held3 (fun w => Fd W (W.heap.size + 3) L w ∧ w.cell? ⟨W.heap.size, 0, none⟩ = some vp ∧ w.cell? ⟨W.heap.size + 1, 0, none⟩ = some ax ∧ w.cell? ⟨W.heap.size + 1, 1, none⟩ = some ay ∧ w.cell? ⟨W.heap.size + 2, 0, none⟩ = some bx ∧ (∀ p n c p' n' c', (pdStore (.pointer (some ⟨W.heap.size + 3, 0, none⟩)) (.agg #[.slice p n c, .slice p' n' c', .bool false])).run Tryz.prog w = .ok () (w.setRow (W.heap.size + 3) #[.slice p n c, .slice p' n' c', .bool false])))
    (first | assumption | (apply HS.out; repeat (first | assumption | apply Fd.drew | apply Fd.set)))
    (first
      | (go_at_call 55; with_reducible refine (H11c.out _ _ _ (RN.blk (Fd.bel (by repeat (first | assumption | apply Fd.drew))) HP.out) r13 r14).mono ?_; rintro e w15 ⟨v15, rfl, r15, hb15⟩; have F15 := Fd.blk (by repeat (first | assumption | apply Fd.drew)) hb15; have hs15 := HS.out _ F15)
      | (have hck := r13; clear hck; go_at_call 57; with_reducible refine (HSm.out _).mono ?_; rintro e w14 ⟨v14, rfl, r14, hb14⟩; have F14 := Fd.blk (by repeat (first | assumption | apply Fd.drew)) hb14; have hs14 := HS.out _ F14; have r13 := RN.blk hb14 r13)
      | (go_at_call 37; with_reducible refine (H11b.out _ _ _ (RN.blk (Fd.bel (by repeat (first | assumption | apply Fd.drew))) HP.out) r11 r12).mono ?_; rintro e w13 ⟨v13, rfl, r13, hb13⟩; have F13 := Fd.blk (by repeat (first | assumption | apply Fd.drew)) hb13; have hs13 := HS.out _ F13)
      | (go_at_call 37; with_reducible refine (H11a.out _ _ _ (RN.blk (Fd.bel (by repeat (first | assumption | apply Fd.drew))) HP.out) (RN.blk (Fd.bel (by repeat (first | assumption | apply Fd.drew))) HXA.out) (RN.blk (Fd.bel (by repeat (first | assumption | apply Fd.drew))) HXA.out)).mono ?_; rintro e w12 ⟨v12, rfl, r12, hb12⟩; have F12 := Fd.blk (by repeat (first | assumption | apply Fd.drew)) hb12; have hs12 := HS.out _ F12; have r11 := RN.blk hb12 r11)
      | (go_at_call 57; with_reducible refine (HSm.out _).mono ?_; rintro e w11 ⟨v11, rfl, r11, hb11⟩; have F11 := Fd.blk (by repeat (first | assumption | apply Fd.drew)) hb11; have hs11 := HS.out _ F11))
  have Z := F15
  clear hS0
  go_wp2_with fail
  refine (H12.out _ _ _ (RN.blk Z.bel HP.out) (RN.blk Z.bel HYA.out) (RN.blk Z.bel HYA.out)).mono ?_
  rintro e y16 ⟨v16, rfl, r16, hb⟩
  replace Z := Z.blk hb
  replace r15 := RN.blk hb r15
  clear hb
  obtain ⟨pl2, kl2, rfl⟩ := r16.sl
  go_upto_region 13 with fail
  have hS0 := HS.out _ Z
  have r1 := RN.drew' r15
  have r2 := RN.drew' r16
  go_region_held3 (fun w => Fd W (W.heap.size + 3) L w ∧ w.cell? ⟨W.heap.size, 0, none⟩ = some vp ∧ w.cell? ⟨W.heap.size + 1, 0, none⟩ = some ax ∧ w.cell? ⟨W.heap.size + 1, 1, none⟩ = some ay ∧ w.cell? ⟨W.heap.size + 2, 0, none⟩ = some bx ∧ (∀ p n c p' n' c', (pdStore (.pointer (some ⟨W.heap.size + 3, 0, none⟩)) (.agg #[.slice p n c, .slice p' n' c', .bool false])).run Tryz.prog w = .ok () (w.setRow (W.heap.size + 3) #[.slice p n c, .slice p' n' c', .bool false])))
    (first | assumption | (apply HS.out; repeat (first | assumption | apply Fd.drew | apply Fd.set)))
    (first
      | (go_at_call 36; with_reducible refine (HIV.out _ _ (RN.blk (Fd.bel (by repeat (first | assumption | apply Fd.drew))) HP.out) r2).mono ?_; rintro e w21 ⟨v21, rfl, r21, hb21⟩; have F21 := Fd.blk (by repeat (first | assumption | apply Fd.drew)) hb21; have hs21 := HS.out _ F21; have r1 := RN.blk hb21 r1)
      | (go_at_call 37; with_reducible refine (H13.out _ _ _ (RN.blk (Fd.bel (by repeat (first | assumption | apply Fd.drew))) HP.out) r1 r21).mono ?_; rintro e w22 ⟨v22, rfl, r22, hb22⟩; have F22 := Fd.blk (by repeat (first | assumption | apply Fd.drew)) hb22; have hs22 := HS.out _ F22))
  have Z := F22
  have rS := RN.drew' r22
  clear hS0
  go_upto_region 14 with fail
  have hS0 := HS.out _ Z
  have r20 := rS
  go_region_held3 (fun w => Fd W (W.heap.size + 3) L w ∧ w.cell? ⟨W.heap.size, 0, none⟩ = some vp ∧ w.cell? ⟨W.heap.size + 1, 0, none⟩ = some ax ∧ w.cell? ⟨W.heap.size + 1, 1, none⟩ = some ay ∧ w.cell? ⟨W.heap.size + 2, 0, none⟩ = some bx ∧ (∀ p n c p' n' c', (pdStore (.pointer (some ⟨W.heap.size + 3, 0, none⟩)) (.agg #[.slice p n c, .slice p' n' c', .bool false])).run Tryz.prog w = .ok () (w.setRow (W.heap.size + 3) #[.slice p n c, .slice p' n' c', .bool false])))
    (first | assumption | (apply HS.out; repeat (first | assumption | apply Fd.drew | apply Fd.set)))
    (first
      | (go_at_call 37; with_reducible refine (H14a.out _ _ _ (RN.blk (Fd.bel (by repeat (first | assumption | apply Fd.drew))) HP.out) r20 r20).mono ?_; rintro e w31 ⟨v31, rfl, r31, hb31⟩; have F31 := Fd.blk (by repeat (first | assumption | apply Fd.drew)) hb31; have hs31 := HS.out _ F31; have r20 := RN.blk hb31 r20)
      | (go_at_call 55; with_reducible refine (H14b.out _ _ _ (RN.blk (Fd.bel (by repeat (first | assumption | apply Fd.drew))) HP.out) r31 (RN.blk (Fd.bel (by repeat (first | assumption | apply Fd.drew))) HXA.out)).mono ?_; rintro e w32 ⟨v32, rfl, r32, hb32⟩; have F32 := Fd.blk (by repeat (first | assumption | apply Fd.drew)) hb32; have hs32 := HS.out _ F32; have r20 := RN.blk hb32 r20)
      | (go_at_call 55; with_reducible refine (H14c.out _ _ _ (RN.blk (Fd.bel (by repeat (first | assumption | apply Fd.drew))) HP.out) r32 (RN.blk (Fd.bel (by repeat (first | assumption | apply Fd.drew))) HXB.out)).mono ?_; rintro e w33 ⟨v33, rfl, r33, hb33⟩; have F33 := Fd.blk (by repeat (first | assumption | apply Fd.drew)) hb33; have hs33 := HS.out _ F33; have r20 := RN.blk hb33 r20))
  have Z := F33
  obtain ⟨p33, k33, rfl⟩ := r33.sl
  have r34 := RN.drew' r20
  have r35 := RN.drew' r33
  clear hS0
  go_upto_region 15 with fail
  have hS0 := HS.out _ Z
  go_region_held3 (fun w => Fd W (W.heap.size + 3) L w ∧ w.cell? ⟨W.heap.size, 0, none⟩ = some vp ∧ w.cell? ⟨W.heap.size + 1, 0, none⟩ = some ax ∧ w.cell? ⟨W.heap.size + 1, 1, none⟩ = some ay ∧ w.cell? ⟨W.heap.size + 2, 0, none⟩ = some bx ∧ (∀ p n c p' n' c', (pdStore (.pointer (some ⟨W.heap.size + 3, 0, none⟩)) (.agg #[.slice p n c, .slice p' n' c', .bool false])).run Tryz.prog w = .ok () (w.setRow (W.heap.size + 3) #[.slice p n c, .slice p' n' c', .bool false])))
    (first | assumption | (apply HS.out; repeat (first | assumption | apply Fd.drew | apply Fd.set)))
    (first
      | (go_at_call 55; with_reducible refine (H15a.out _ _ _ (RN.blk (Fd.bel (by repeat (first | assumption | apply Fd.drew))) HP.out) (RN.blk (Fd.bel (by repeat (first | assumption | apply Fd.drew))) HXA.out) r35).mono ?_; rintro e w41 ⟨v41, rfl, r41, hb41⟩; have F41 := Fd.blk (by repeat (first | assumption | apply Fd.drew)) hb41; have hs41 := HS.out _ F41; have r34 := RN.blk hb41 r34; have r35 := RN.blk hb41 r35)
      | (go_at_call 37; with_reducible refine (H15b.out _ _ _ (RN.blk (Fd.bel (by repeat (first | assumption | apply Fd.drew))) HP.out) r34 r41).mono ?_; rintro e w42 ⟨v42, rfl, r42, hb42⟩; have F42 := Fd.blk (by repeat (first | assumption | apply Fd.drew)) hb42; have hs42 := HS.out _ F42; have r35 := RN.blk hb42 r35)
      | (go_at_call 55; with_reducible refine (H15c.out _ _ _ (RN.blk (Fd.bel (by repeat (first | assumption | apply Fd.drew))) HP.out) r42 (RN.blk (Fd.bel (by repeat (first | assumption | apply Fd.drew))) HYA.out)).mono ?_; rintro e w43 ⟨p43, k43, rfl, r43, hb43⟩; have F43 := Fd.blk (by repeat (first | assumption | apply Fd.drew)) hb43; have hs43 := HS.out _ F43; have r35 := RN.blk hb43 r35))
  have F6 := F43.fin (.slice p33 (N.mny X3) k33) (.slice p43 (N.mny Y3) k43) (.bool false)
  obtain ⟨LL, hLL⟩ := F43.at
  go_wp2
  exact bodyPost_ret (results_pd Tryz.results24 rfl (F6.get 0 rfl)) rfl ⟨_, _, rfl, rfl, rfl, rn_row r35 hLL, rn_row r43 hLL, F6.bel⟩
end Go.Proofs.YtpimliebiapnfaaGreatDoor
/- The document's sum is the curve's. -/
namespace Go.Proofs.YtpimliebiapnfaaGreatDoor
set_option linter.unusedVariables false
open Go.RowKit N
theorem fz_low {a : Nat} (ha : a < pP) (h0 : a ≠ 0) : fz a * fz (ivN pP a) = 1 := by
  have h := (iv_spec pr_P h0 ha).1
  have : fz (a * ivN pP a) = fz 1 := fz_eq (by rw [h]; decide)
  rw [fz_mul] at this
  exact this
theorem slope_fz {t l S : Nat} (ht : t < pP) (hl : l < pP) (h0 : l ≠ 0) (hS : mtimes t (ivN pP l) = S) : fz S * fz l = fz t := by
  rw [← hS, fz_times]
  have := fz_low hl h0
  generalize fz (ivN pP l) = i at *
  generalize fz l = a at *
  generalize fz t = b at *
  clear ht hl h0 hS
  have e : b * i * a = b * (a * i) := by grind -lia
  rw [e, this]
  clear e this
  grind -lia
theorem third_fz {u v : Pt} {S X3 Y3 : Nat} (hX : mminus (mminus (mtimes S S) u.x.val) v.x.val = X3) (hY : mminus (mtimes S (mminus u.x.val X3)) u.y.val = Y3) (hx3 : X3 < pP) : fz X3 = fz S * fz S - u.x - v.x ∧ fz Y3 = fz S * (u.x - (fz S * fz S - u.x - v.x)) - u.y := by
  have e1 : fz X3 = fz S * fz S - u.x - v.x := by rw [← hX, fz_minus v.x.isLt, fz_minus u.x.isLt, fz_times, fz_val, fz_val]
  refine ⟨e1, ?_⟩
  rw [← hY, fz_minus u.y.isLt, fz_times, fz_minus hx3, fz_val, fz_val, e1]
theorem ptd_some {w : World} {a b : Value} {p : Ec} {X3 Y3 : Nat} (h : p.o = some ⟨fz X3, fz Y3⟩) (hx : X3 < pP) (hy : Y3 < pP) (ra : RN w a X3) (rb : RN w b Y3) : PtD w a b false p := by
  unfold PtD
  rw [h]
  have v1 : (fz X3).val = X3 := Nat.mod_eq_of_lt hx
  have v2 : (fz Y3).val = Y3 := Nat.mod_eq_of_lt hy
  refine ⟨rfl, ?_, ?_⟩
  · show RN w a (fz X3).val
    rw [v1]; exact ra
  · show RN w b (fz Y3).val
    rw [v2]; exact rb
theorem rsum_in (vp ax ay bx by' : Value) (na nb : Bool) (p q : Ec) (W : World) (hP : RN W vp pP) (hp : PtD W ax ay na p) (hq : PtD W bx by' nb q) (o1 : ax.oneCell' = true) (o2 : ay.oneCell' = true) (o3 : bx.oneCell' = true) (o4 : by'.oneCell' = true) :
    Calls Tryz.prog 24 #[.agg #[vp], .agg #[ax, ay, .bool na], .agg #[bx, by', .bool nb]] W fun e w' => ∃ x y n, e = .returned (.agg #[x, y, .bool n]) ∧ x.oneCell' = true ∧ y.oneCell' = true ∧ PtD w' x y n (p.add q) ∧ Below W.heap.size W w' := by
  cases po : p.o with
  | none =>
    have ep : p = Ec.zero := Ec.ext2 po
    subst ep
    have hna : na = true := by unfold PtD at hp; rw [po] at hp; exact hp
    subst hna
    rw [Ec.zero_add]
    cases nb with
    | false => exact (rsum_a0 W vp ax ay bx by' o3 o4).mono fun e w' ⟨h1, h2⟩ => ⟨_, _, _, h1, o3, o4, hq.blk h2, h2⟩
    | true => exact (rsum_a1 W vp ax ay bx by' o3 o4).mono fun e w' ⟨h1, h2⟩ => ⟨_, _, _, h1, o3, o4, hq.blk h2, h2⟩
  | some u =>
    have hp' := hp
    unfold PtD at hp
    rw [po] at hp
    obtain ⟨rfl, hxa, hya⟩ := hp
    cases qo : q.o with
    | none =>
      have eq : q = Ec.zero := Ec.ext2 qo
      subst eq
      have hnb : nb = true := by unfold PtD at hq; rw [qo] at hq; exact hq
      subst hnb
      rw [Ec.add_zero]
      exact (rsum_b W vp ax ay bx by' o1 o2).mono fun e w' ⟨h1, h2⟩ => ⟨_, _, _, h1, o1, o2, hp'.blk h2, h2⟩
    | some v =>
      unfold PtD at hq
      rw [qo] at hq
      obtain ⟨rfl, hxb, hyb⟩ := hq
      have hu : u.On := by have := p.on; rw [po] at this; exact this
      have hv : v.On := by have := q.on; rw [qo] at this; exact this
      have hadd := Ec.add_adds p q
      rw [po, qo] at hadd
      have ew : fz (mminus v.x.val u.x.val) = v.x - u.x := by rw [fz_minus u.x.isLt, fz_val, fz_val]
      have bw := mminus_lt v.x.isLt u.x.isLt
      by_cases hlow : mminus v.x.val u.x.val = 0
      · have exx : v.x = u.x := by
          rw [hlow, fz_0] at ew
          generalize v.x = a at *
          generalize u.x = b at *
          have : a = b + (a - b) := by clear ew; grind -lia
          rw [this, ← ew]
          clear this ew
          grind -lia
        have hyy : u.y * u.y = v.y * v.y := by
          unfold Pt.On at hu hv
          rw [hu, hv, exx]
        by_cases hboth : mplus u.y.val v.y.val = 0
        · have hs : u.y + v.y = 0 := by
            have := congrArg fz hboth
            rw [fz_plus, fz_val, fz_val, fz_0] at this
            exact this
          have hneg : v = u.neg := by
            refine Pt.ext2 exx ?_
            show v.y = -u.y
            generalize u.y = a at *
            generalize v.y = b at *
            clear hyy hadd hu hv hxa hya hxb hyb hp'
            grind -lia
          have hz : (p.add q).o = none := by
            rw [hneg] at hadd
            exact hadd.same (Adds.opp u)
          exact (rsum_n W vp ax ay bx by' _ _ _ _ hP hxa hya hxb hyb u.x.isLt u.y.isLt v.x.isLt v.y.isLt hlow hboth).mono fun e w' ⟨h1, h2⟩ => ⟨_, _, true, h1, rfl, rfl, by unfold PtD; rw [hz], h2⟩
        · have huv : u = v := by
            rcases fp_sq hyy with e | e
            · exact Pt.ext2 exx.symm e
            · refine absurd ?_ hboth
              refine fz_lt (mplus_lt u.y.isLt v.y.isLt) (by decide) ?_
              rw [fz_plus, fz_val, fz_val, fz_0, e]
              generalize v.y = b
              clear hyy hadd hu hv hxa hya hxb hyb hp' e
              grind -lia
          have h2 : mplus u.y.val u.y.val ≠ 0 := by
            rw [← huv] at hboth
            exact hboth
          have bt := mminus_lt (mtimes_lt 3 (mtimes u.x.val u.x.val)) (show 3 < pP by decide)
          have bl := mplus_lt u.y.isLt u.y.isLt
          obtain ⟨S, hS⟩ : ∃ S, mtimes (mminus (mtimes 3 (mtimes u.x.val u.x.val)) 3) (ivN pP (mplus u.y.val u.y.val)) = S := ⟨_, rfl⟩
          obtain ⟨X3, hX3⟩ : ∃ X, mminus (mminus (mtimes S S) u.x.val) v.x.val = X := ⟨_, rfl⟩
          obtain ⟨Y3, hY3⟩ : ∃ Y, mminus (mtimes S (mminus u.x.val X3)) u.y.val = Y := ⟨_, rfl⟩
          have bX : X3 < pP := by rw [← hX3]; exact mminus_lt (mminus_lt (mtimes_lt _ _) u.x.isLt) v.x.isLt
          have bY : Y3 < pP := by rw [← hY3]; exact mminus_lt (mtimes_lt _ _) u.y.isLt
          have sl := slope_fz bt bl h2 hS
          rw [fz_plus, fz_minus (show 3 < pP by decide), fz_times, fz_times, fz_3, fz_val, fz_val] at sl
          obtain ⟨f1, f2⟩ := third_fz hX3 hY3 bX
          have hr := hadd.same (adds_slope hu hv (.inr ⟨huv, sl⟩))
          rw [← f2, ← f1] at hr
          exact (rsum_t W vp ax ay bx by' _ _ _ _ S X3 Y3 hP hxa hya hxb hyb u.x.isLt u.y.isLt v.x.isLt v.y.isLt hlow hboth h2 hS hX3 hY3).mono fun e w' ⟨a, b, h1, g1, g2, h2, h3, h4⟩ => ⟨_, _, false, h1, g1, g2, ptd_some hr bX bY h2 h3, h4⟩
      · have hne : u.x ≠ v.x := fun e => hlow (fz_lt bw (by decide) (by
          rw [ew, fz_0, e]
          generalize v.x = b
          clear ew bw hlow hadd hu hv hxa hya hxb hyb hp' e
          grind -lia))
        have bt := mminus_lt v.y.isLt u.y.isLt
        obtain ⟨S, hS⟩ : ∃ S, mtimes (mminus v.y.val u.y.val) (ivN pP (mminus v.x.val u.x.val)) = S := ⟨_, rfl⟩
        obtain ⟨X3, hX3⟩ : ∃ X, mminus (mminus (mtimes S S) u.x.val) v.x.val = X := ⟨_, rfl⟩
        obtain ⟨Y3, hY3⟩ : ∃ Y, mminus (mtimes S (mminus u.x.val X3)) u.y.val = Y := ⟨_, rfl⟩
        have bX : X3 < pP := by rw [← hX3]; exact mminus_lt (mminus_lt (mtimes_lt _ _) u.x.isLt) v.x.isLt
        have bY : Y3 < pP := by rw [← hY3]; exact mminus_lt (mtimes_lt _ _) u.y.isLt
        have sl := slope_fz bt bw hlow hS
        rw [ew, fz_minus u.y.isLt, fz_val, fz_val] at sl
        obtain ⟨f1, f2⟩ := third_fz hX3 hY3 bX
        have hr := hadd.same (adds_slope hu hv (.inl ⟨hne, sl⟩))
        rw [← f2, ← f1] at hr
        exact (rsum_d W vp ax ay bx by' _ _ _ _ S X3 Y3 hP hxa hya hxb hyb u.x.isLt u.y.isLt v.x.isLt v.y.isLt hlow hS hX3 hY3).mono fun e w' ⟨a, b, h1, g1, g2, h2, h3, h4⟩ => ⟨_, _, false, h1, g1, g2, ptd_some hr bX bY h2 h3, h4⟩
end Go.Proofs.YtpimliebiapnfaaGreatDoor