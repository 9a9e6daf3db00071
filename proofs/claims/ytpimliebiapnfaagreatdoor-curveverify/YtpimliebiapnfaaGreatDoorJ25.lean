/- Texts of this proof, joined: CSumsW, CRtw. -/
import Derived.Test.YtpimliebiapnfaaGreatDoorJ24
import Derived.Test.YtpimliebiapnfaaGreatDoorJ17
/- The document's Sum; CurveSums. -/
namespace Go.Proofs.YtpimliebiapnfaaGreatDoor
set_option linter.unusedVariables false
set_option linter.unusedSimpArgs false
open Go.RowKit N
attribute [local go_sem ↓] N.loadAt_nat N.storeAt_nat N.build_nat N.build_nat' loadAt_pt storeAt_pt build_pt0 build_pt0' build_pt'
attribute [local go_sem] N.st1 N.st2a N.st2b N.st1d N.st2ad N.st2bd N.natBuild_run ptst1 ptst1d ptBuild0_run build_pt ptBuild_run
attribute [local go_sem ↓] bin_nat bin_pt
attribute [local go_sem ↓] storeAt_pd loadAt_pd
theorem pdst1 (w : World) (x y : Value) (n : Bool) (h1 : x.oneCell' = true) (h2 : y.oneCell' = true) : (pdStore (.pointer (some ⟨w.heap.size, 0, none⟩)) (.agg #[x, y, .bool n])).run Tryz.prog (w.alloc (Obj.cells #[.slice none 0 0, .slice none 0 0, .bool false] 47 (0, 0))) = .ok () (w.alloc (Obj.cells #[x, y, .bool n] 47 (0, 0))) := by
  rw [pdStore_run (N.heap_new _ _) h1 h2 rfl]
  exact congrArg (Result.ok ()) (N.setRow_new w [.slice none 0 0, .slice none 0 0, .bool false] [x, y, .bool n] 47)
end Go.Proofs.YtpimliebiapnfaaGreatDoor
/- The document's twice. -/
namespace Go.Proofs.YtpimliebiapnfaaGreatDoor
set_option linter.unusedVariables false
set_option linter.unusedSimpArgs false
open Go.RowKit N
attribute [local go_sem ↓] N.loadAt_nat N.storeAt_nat N.build_nat N.build_nat' loadAt_pt storeAt_pt build_pt0 build_pt0' build_pt'
attribute [local go_sem] N.st1 N.st2a N.st2b N.st1d N.st2ad N.st2bd N.natBuild_run ptst1 ptst1d ptBuild0_run build_pt ptBuild_run
attribute [local go_sem ↓] bin_nat bin_pt
def sdStore (a x : Value) : Sem Unit := Instr.storeAt 96 a x
theorem storeAt_sd (a x : Value) : Instr.storeAt 96 a x = sdStore a x := rfl
def sdLoad (a : Value) : Sem Value := Instr.loadAt 96 a
theorem loadAt_sd (a : Value) : Instr.loadAt 96 a = sdLoad a := rfl
theorem sizeSd : (Tryz.prog.info? 96).map (·.size) = some 3 := by kernel_rfl
theorem sdStore_run {W : World} {b : Nat} {x y z x' y' z' : Value} (h : W.heap[b]? = some (.cells #[x, y, z] 96 (0, 0))) (h1 : x'.oneCell' = true) (h2 : y'.oneCell' = true) (h3 : z'.oneCell' = true) : (sdStore (.pointer (some ⟨b, 0, none⟩)) (.agg #[x', y', z'])).run Tryz.prog W = .ok () (W.setRow b #[x', y', z']) := by
  unfold sdStore
  simp only [Instr.storeAt, Instr.sureAddr, Sem.run_bind, Sem.run_pure, Result.andThen]
  exact run_storeVar_row W b _ _ _ _ h sizeSd rfl (by simp [h1, h2, h3])
theorem sd_loadV {W : World} {b : Nat} {x y z : Value} (h : W.heap[b]? = some (.cells #[x, y, z] 96 (0, 0))) : (loadVar 96 ⟨b, 0, none⟩).run Tryz.prog W = .ok (.agg #[x, y, z]) W :=
  run_loadVar_row W b _ _ _ (0, 0) _ h Tryz.underlying96 rfl sizeSd
theorem sdLoad_run {W : World} {b : Nat} {x y z : Value} (h : W.heap[b]? = some (.cells #[x, y, z] 96 (0, 0))) : (sdLoad (.pointer (some ⟨b, 0, none⟩))).run Tryz.prog W = .ok (.agg #[x, y, z]) W := by
  unfold sdLoad
  simp only [Instr.loadAt, Instr.sureAddr, Sem.run_bind, Sem.run_pure, Result.andThen]
  exact sd_loadV h
theorem results_sd {fn : Func} {p : Tmp} (h : fn.results = #[.cell p 96]) {tmps : Array Value} {W : World} {b : Nat} {x y z : Value} (hp : tmps.getD p undef = .pointer (some ⟨b, 0, none⟩)) (hb : W.heap[b]? = some (.cells #[x, y, z] 96 (0, 0))) : (results fn tmps).run Tryz.prog W = .ok (.agg #[x, y, z]) W := by
  have hp' : tmps[p]?.getD undef = .pointer (some ⟨b, 0, none⟩) := by simpa using hp
  simp only [results, h]
  simp [hp', asAddr, sd_loadV hb]
attribute [local go_sem ↓] storeAt_sd loadAt_sd
theorem rn_rows {w : World} {v : Value} {n b : Nat} {L x : Array Value} (h : RN w v n) (hb : w.heap[b]? = some (.cells L 96 (0, 0))) : RN (w.setRow b x) v n := by
  obtain ⟨ds, ⟨h1, ⟨h2, h3⟩ | ⟨g', cap, cur, h2, h3, h4, h5, h6, h7, h8⟩⟩, hv, ht⟩ := h
  · exact ⟨ds, ⟨h1, .inl ⟨h2, h3⟩⟩, hv, ht⟩
  · have hg : g' ≠ b := fun e => by
      subst e
      have := h4.symm.trans hb
      simp at this
    exact ⟨ds, ⟨h1, .inr ⟨g', cap, cur, h2, h3, (setRow_other _ _ _ _ hg).trans h4, h5, h6, h7, h8⟩⟩, hv, ht⟩
def Fs (W : World) (b : Nat) (l : List (Nat × Obj)) (w : World) : Prop := ∃ x y z, Fm W ((b, .cells #[x, y, z] 96 (0, 0)) :: l) w
theorem Fs.drew {W w : World} {b : Nat} {l : List (Nat × Obj)} (h : Fs W b l w) : Fs W b l w.drew := h.elim fun x h => h.elim fun y h => h.elim fun z h => ⟨x, y, z, h.drew⟩
theorem Fs.blk {W w w' : World} {b : Nat} {l : List (Nat × Obj)} (h : Fs W b l w) (hb : Below w.heap.size w w') : Fs W b l w' := h.elim fun x h => h.elim fun y h => h.elim fun z h => ⟨x, y, z, h.blk hb⟩
theorem Fs.bel {W w : World} {b : Nat} {l : List (Nat × Obj)} (h : Fs W b l w) : Below W.heap.size W w := h.elim fun x h => h.elim fun y h => h.elim fun z h => h.bel
theorem Fs.get {W w : World} {b : Nat} {l : List (Nat × Obj)} (h : Fs W b l w) (i : Nat) {c : Nat} {o : Obj} (e : l[i]? = some (c, o)) : w.heap[c]? = some o := h.elim fun x h => h.elim fun y h => h.elim fun z h => h.get (i + 1) (by simpa using e)
theorem Fs.set {W w : World} {b : Nat} {l : List (Nat × Obj)} (h : Fs W b l w) (x y z : Value) : Fs W b l (w.setRow b #[x, y, z]) := h.elim fun x' h => h.elim fun y' h => h.elim fun z' h => ⟨x, y, z, h.put 0 #[x, y, z] rfl⟩
theorem Fs.fin {W w : World} {b : Nat} {l : List (Nat × Obj)} (h : Fs W b l w) (x y z : Value) : Fm W ((b, .cells #[x, y, z] 96 (0, 0)) :: l) (w.setRow b #[x, y, z]) := h.elim fun x' h => h.elim fun y' h => h.elim fun z' h => h.put 0 #[x, y, z] rfl
theorem Fs.st {W w : World} {b : Nat} {l : List (Nat × Obj)} (h : Fs W b l w) (p : Option Addr) (n c : Nat) (p' : Option Addr) (n' c' : Nat) (p'' : Option Addr) (n'' c'' : Nat) : (sdStore (.pointer (some ⟨b, 0, none⟩)) (.agg #[.slice p n c, .slice p' n' c', .slice p'' n'' c''])).run Tryz.prog w = .ok () (w.setRow b #[.slice p n c, .slice p' n' c', .slice p'' n'' c'']) := h.elim fun x h => h.elim fun y h => h.elim fun z h => sdStore_run (h.get 0 rfl) rfl rfl rfl
theorem Fs.at {W w : World} {b : Nat} {l : List (Nat × Obj)} (h : Fs W b l w) : ∃ L, w.heap[b]? = some (.cells L 96 (0, 0)) := h.elim fun x h => h.elim fun y h => h.elim fun z h => ⟨_, h.get 0 rfl⟩
set_option maxRecDepth 100000 in
set_option maxHeartbeats 2000000 in
theorem rtwice_0 (W : World) (vp ax ay : Value) (pz : Option Addr) (kz : Nat) (h1 : ax.oneCell' = true) (h2 : ay.oneCell' = true) : Calls Tryz.prog 65 #[.agg #[vp], .agg #[ax, ay, .slice pz 0 kz]] W fun e w' => e = .returned (.agg #[ax, ay, .slice pz 0 kz]) ∧ Below W.heap.size W w' := by
  obtain ⟨V, hV, F⟩ : ∃ V, (((W.alloc (Obj.cells #[vp] 54 (0, 0))).alloc (Obj.cells #[ax, ay, .slice pz 0 kz] 96 (0, 0))).alloc (Obj.cells #[.slice none 0 0, .slice none 0 0, .slice none 0 0] 96 (0, 0))) = V ∧ Fm W [(W.heap.size + 2, Obj.cells #[.slice none 0 0, .slice none 0 0, .slice none 0 0] 96 (0, 0)), (W.heap.size + 1, Obj.cells #[ax, ay, .slice pz 0 kz] 96 (0, 0)), (W.heap.size, Obj.cells #[vp] 54 (0, 0))] V := ⟨_, rfl, Fm.box3 W _ _ _⟩
  have c1 : V.cell? ⟨W.heap.size + 1, 2, none⟩ = some (.slice pz 0 kz) := (N.cells_at (L := [ax, ay, .slice pz 0 kz]) (F.get 1 rfl) rfl).1
  have l1 := sdLoad_run (F.get 1 rfl)
  have s6 := sdStore_run (x' := ax) (y' := ay) (z' := .slice pz 0 kz) (F.get 0 rfl) h1 h2 rfl
  have F4 := F.put 0 #[ax, ay, .slice pz 0 kz] rfl
  go_enter Tryz.func65, Tryz.ntmps65
  go_upto_region 1 with fail
  simp only [Nat.add_assoc, Nat.reduceAdd]
  clear hV
  go_wp2
  exact bodyPost_ret (results_sd Tryz.results65 rfl (F4.get 0 rfl)) rfl ⟨rfl, F4.bel⟩
set_option maxRecDepth 100000 in
set_option maxHeartbeats 2000000 in
theorem rtwice_n (W : World) (vp ax ay : Value) (pz : Option Addr) (kz : Nat) (xa ya za yy zz xy s xm xp xx m mm ss X3 sx ms y4 y8 Y3 y2 Z3 : Nat) (hP : RN W vp pP) (hxa : RN W ax xa) (hya : RN W ay ya) (hza : RN W (.slice pz (N.mny za) kz) za) (l1 : xa < pP) (l2 : ya < pP) (l3 : za < pP) (h0 : za ≠ 0) (e_yy : mtimes ya ya = yy) (e_zz : mtimes za za = zz) (e_xy : mtimes xa yy = xy) (e_s : mtimes 4 xy = s) (e_xm : mminus xa zz = xm) (e_xp : mplus xa zz = xp) (e_xx : mtimes xm xp = xx) (e_m : mtimes 3 xx = m) (e_mm : mtimes m m = mm) (e_ss : mplus s s = ss) (e_X3 : mminus mm ss = X3) (e_sx : mminus s X3 = sx) (e_ms : mtimes m sx = ms) (e_y4 : mtimes yy yy = y4) (e_y8 : mtimes 8 y4 = y8) (e_Y3 : mminus ms y8 = Y3) (e_y2 : mplus ya ya = y2) (e_Z3 : mtimes y2 za = Z3) : Calls Tryz.prog 65 #[.agg #[vp], .agg #[ax, ay, .slice pz (N.mny za) kz]] W fun e w' => ∃ p k p' k' p'' k'', e = .returned (.agg #[.slice p (N.mny X3) k, .slice p' (N.mny Y3) k', .slice p'' (N.mny Z3) k'']) ∧ RN w' (.slice p (N.mny X3) k) X3 ∧ RN w' (.slice p' (N.mny Y3) k') Y3 ∧ RN w' (.slice p'' (N.mny Z3) k'') Z3 ∧ Below W.heap.size W w' := by
  have E_yy := Hid.mk e_yy
  have b_yy : yy < pP := by rw [← e_yy]; exact mtimes_lt _ _
  have E_zz := Hid.mk e_zz
  have b_zz : zz < pP := by rw [← e_zz]; exact mtimes_lt _ _
  have E_xy := Hid.mk e_xy
  have b_xy : xy < pP := by rw [← e_xy]; exact mtimes_lt _ _
  have E_s := Hid.mk e_s
  have b_s : s < pP := by rw [← e_s]; exact mtimes_lt _ _
  have E_xm := Hid.mk e_xm
  have b_xm : xm < pP := by rw [← e_xm]; exact mminus_lt l1 b_zz
  have E_xp := Hid.mk e_xp
  have b_xp : xp < pP := by rw [← e_xp]; exact mplus_lt l1 b_zz
  have E_xx := Hid.mk e_xx
  have b_xx : xx < pP := by rw [← e_xx]; exact mtimes_lt _ _
  have E_m := Hid.mk e_m
  have b_m : m < pP := by rw [← e_m]; exact mtimes_lt _ _
  have E_mm := Hid.mk e_mm
  have b_mm : mm < pP := by rw [← e_mm]; exact mtimes_lt _ _
  have E_ss := Hid.mk e_ss
  have b_ss : ss < pP := by rw [← e_ss]; exact mplus_lt b_s b_s
  have E_X3 := Hid.mk e_X3
  have b_X3 : X3 < pP := by rw [← e_X3]; exact mminus_lt b_mm b_ss
  have E_sx := Hid.mk e_sx
  have b_sx : sx < pP := by rw [← e_sx]; exact mminus_lt b_s b_X3
  have E_ms := Hid.mk e_ms
  have b_ms : ms < pP := by rw [← e_ms]; exact mtimes_lt _ _
  have E_y4 := Hid.mk e_y4
  have b_y4 : y4 < pP := by rw [← e_y4]; exact mtimes_lt _ _
  have E_y8 := Hid.mk e_y8
  have b_y8 : y8 < pP := by rw [← e_y8]; exact mtimes_lt _ _
  have E_Y3 := Hid.mk e_Y3
  have b_Y3 : Y3 < pP := by rw [← e_Y3]; exact mminus_lt b_ms b_y8
  have E_y2 := Hid.mk e_y2
  have b_y2 : y2 < pP := by rw [← e_y2]; exact mplus_lt l2 l2
  have E_Z3 := Hid.mk e_Z3
  have b_Z3 : Z3 < pP := by rw [← e_Z3]; exact mtimes_lt _ _
  have H5 : Hid (∀ w va vb, RN w vp pP → RN w va ya → RN w vb ya → Calls Tryz.prog 37 #[.agg #[vp], va, vb] w fun e w' => ∃ v, e = .returned v ∧ RN w' v yy ∧ Below w.heap.size w w') := fun w va vb h k l => (rfMul w vp va vb ya ya h k l l2 l2).mono fun e w' ⟨v, q1, q2, q3⟩ => ⟨v, q1, by rw [← E_yy.out]; exact q2, q3⟩
  have H6 : Hid (∀ w va vb, RN w vp pP → RN w va za → RN w vb za → Calls Tryz.prog 37 #[.agg #[vp], va, vb] w fun e w' => ∃ v, e = .returned v ∧ RN w' v zz ∧ Below w.heap.size w w') := fun w va vb h k l => (rfMul w vp va vb za za h k l l3 l3).mono fun e w' ⟨v, q1, q2, q3⟩ => ⟨v, q1, by rw [← E_zz.out]; exact q2, q3⟩
  have H7a : Hid (∀ w va vb, RN w vp pP → RN w va xa → RN w vb yy → Calls Tryz.prog 37 #[.agg #[vp], va, vb] w fun e w' => ∃ v, e = .returned v ∧ RN w' v xy ∧ Below w.heap.size w w') := fun w va vb h k l => (rfMul w vp va vb xa yy h k l l1 b_yy).mono fun e w' ⟨v, q1, q2, q3⟩ => ⟨v, q1, by rw [← E_xy.out]; exact q2, q3⟩
  have H7b : Hid (∀ w va vb, RN w vp pP → RN w va 4 → RN w vb xy → Calls Tryz.prog 37 #[.agg #[vp], va, vb] w fun e w' => ∃ v, e = .returned v ∧ RN w' v s ∧ Below w.heap.size w w') := fun w va vb h k l => (rfMul w vp va vb 4 xy h k l (show 4 < pP by decide) b_xy).mono fun e w' ⟨v, q1, q2, q3⟩ => ⟨v, q1, by rw [← E_s.out]; exact q2, q3⟩
  have H8a : Hid (∀ w va vb, RN w vp pP → RN w va xa → RN w vb zz → Calls Tryz.prog 55 #[.agg #[vp], va, vb] w fun e w' => ∃ v, e = .returned v ∧ RN w' v xm ∧ Below w.heap.size w w') := fun w va vb h k l => (rfSub w vp va vb xa zz h k l l1 b_zz).mono fun e w' ⟨v, q1, q2, q3⟩ => ⟨v, q1, by rw [← E_xm.out]; exact q2, q3⟩
  have H8b : Hid (∀ w va vb, RN w vp pP → RN w va xa → RN w vb zz → Calls Tryz.prog 56 #[.agg #[vp], va, vb] w fun e w' => ∃ v, e = .returned v ∧ RN w' v xp ∧ Below w.heap.size w w') := fun w va vb h k l => (rfAdd w vp va vb xa zz h k l l1 b_zz).mono fun e w' ⟨v, q1, q2, q3⟩ => ⟨v, q1, by rw [← E_xp.out]; exact q2, q3⟩
  have H8c : Hid (∀ w va vb, RN w vp pP → RN w va xm → RN w vb xp → Calls Tryz.prog 37 #[.agg #[vp], va, vb] w fun e w' => ∃ v, e = .returned v ∧ RN w' v xx ∧ Below w.heap.size w w') := fun w va vb h k l => (rfMul w vp va vb xm xp h k l b_xm b_xp).mono fun e w' ⟨v, q1, q2, q3⟩ => ⟨v, q1, by rw [← E_xx.out]; exact q2, q3⟩
  have H8d : Hid (∀ w va vb, RN w vp pP → RN w va 3 → RN w vb xx → Calls Tryz.prog 37 #[.agg #[vp], va, vb] w fun e w' => ∃ v, e = .returned v ∧ RN w' v m ∧ Below w.heap.size w w') := fun w va vb h k l => (rfMul w vp va vb 3 xx h k l (show 3 < pP by decide) b_xx).mono fun e w' ⟨v, q1, q2, q3⟩ => ⟨v, q1, by rw [← E_m.out]; exact q2, q3⟩
  have H9a : Hid (∀ w va vb, RN w vp pP → RN w va m → RN w vb m → Calls Tryz.prog 37 #[.agg #[vp], va, vb] w fun e w' => ∃ v, e = .returned v ∧ RN w' v mm ∧ Below w.heap.size w w') := fun w va vb h k l => (rfMul w vp va vb m m h k l b_m b_m).mono fun e w' ⟨v, q1, q2, q3⟩ => ⟨v, q1, by rw [← E_mm.out]; exact q2, q3⟩
  have H9b : Hid (∀ w va vb, RN w vp pP → RN w va s → RN w vb s → Calls Tryz.prog 56 #[.agg #[vp], va, vb] w fun e w' => ∃ v, e = .returned v ∧ RN w' v ss ∧ Below w.heap.size w w') := fun w va vb h k l => (rfAdd w vp va vb s s h k l b_s b_s).mono fun e w' ⟨v, q1, q2, q3⟩ => ⟨v, q1, by rw [← E_ss.out]; exact q2, q3⟩
  have H9c : Hid (∀ w va vb, RN w vp pP → RN w va mm → RN w vb ss → Calls Tryz.prog 55 #[.agg #[vp], va, vb] w fun e w' => ∃ v, e = .returned v ∧ RN w' v X3 ∧ Below w.heap.size w w') := fun w va vb h k l => (rfSub w vp va vb mm ss h k l b_mm b_ss).mono fun e w' ⟨v, q1, q2, q3⟩ => ⟨v, q1, by rw [← E_X3.out]; exact q2, q3⟩
  have H10a : Hid (∀ w va vb, RN w vp pP → RN w va s → RN w vb X3 → Calls Tryz.prog 55 #[.agg #[vp], va, vb] w fun e w' => ∃ v, e = .returned v ∧ RN w' v sx ∧ Below w.heap.size w w') := fun w va vb h k l => (rfSub w vp va vb s X3 h k l b_s b_X3).mono fun e w' ⟨v, q1, q2, q3⟩ => ⟨v, q1, by rw [← E_sx.out]; exact q2, q3⟩
  have H10b : Hid (∀ w va vb, RN w vp pP → RN w va m → RN w vb sx → Calls Tryz.prog 37 #[.agg #[vp], va, vb] w fun e w' => ∃ v, e = .returned v ∧ RN w' v ms ∧ Below w.heap.size w w') := fun w va vb h k l => (rfMul w vp va vb m sx h k l b_m b_sx).mono fun e w' ⟨v, q1, q2, q3⟩ => ⟨v, q1, by rw [← E_ms.out]; exact q2, q3⟩
  have H10d : Hid (∀ w va vb, RN w vp pP → RN w va yy → RN w vb yy → Calls Tryz.prog 37 #[.agg #[vp], va, vb] w fun e w' => ∃ v, e = .returned v ∧ RN w' v y4 ∧ Below w.heap.size w w') := fun w va vb h k l => (rfMul w vp va vb yy yy h k l b_yy b_yy).mono fun e w' ⟨v, q1, q2, q3⟩ => ⟨v, q1, by rw [← E_y4.out]; exact q2, q3⟩
  have H10e : Hid (∀ w va vb, RN w vp pP → RN w va 8 → RN w vb y4 → Calls Tryz.prog 37 #[.agg #[vp], va, vb] w fun e w' => ∃ v, e = .returned v ∧ RN w' v y8 ∧ Below w.heap.size w w') := fun w va vb h k l => (rfMul w vp va vb 8 y4 h k l (show 8 < pP by decide) b_y4).mono fun e w' ⟨v, q1, q2, q3⟩ => ⟨v, q1, by rw [← E_y8.out]; exact q2, q3⟩
  have H10f : Hid (∀ w va vb, RN w vp pP → RN w va ms → RN w vb y8 → Calls Tryz.prog 55 #[.agg #[vp], va, vb] w fun e w' => ∃ v, e = .returned v ∧ RN w' v Y3 ∧ Below w.heap.size w w') := fun w va vb h k l => (rfSub w vp va vb ms y8 h k l b_ms b_y8).mono fun e w' ⟨v, q1, q2, q3⟩ => ⟨v, q1, by rw [← E_Y3.out]; exact q2, q3⟩
  have H11a : Hid (∀ w va vb, RN w vp pP → RN w va ya → RN w vb ya → Calls Tryz.prog 56 #[.agg #[vp], va, vb] w fun e w' => ∃ v, e = .returned v ∧ RN w' v y2 ∧ Below w.heap.size w w') := fun w va vb h k l => (rfAdd w vp va vb ya ya h k l l2 l2).mono fun e w' ⟨v, q1, q2, q3⟩ => ⟨v, q1, by rw [← E_y2.out]; exact q2, q3⟩
  have H11bD : Hid (∀ w va vb, RN w vp pP → RN w va y2 → RN w vb za → Calls Tryz.prog 37 #[.agg #[vp], va, vb] w fun e w' => ∃ v, e = .returned v ∧ RN w' v Z3 ∧ Below w.heap.size w w') := fun w va vb h k l => (rfMul w vp va vb y2 za h k l b_y2 l3).mono fun e w' ⟨v, q1, q2, q3⟩ => ⟨v, q1, by rw [← E_Z3.out]; exact q2, q3⟩
  have H11b : Hid (∀ w va vb, RN w vp pP → RN w va y2 → RN w vb za → Calls Tryz.prog 37 #[.agg #[vp], va, vb] w fun e w' => ∃ p k, e = .returned (.slice p (N.mny Z3) k) ∧ RN w' (.slice p (N.mny Z3) k) Z3 ∧ Below w.heap.size w w') := fun w va vb h k l => (H11bD.out w va vb h k l).mono fun e w' ⟨v, q1, q2, q3⟩ => by
    obtain ⟨p, c, rfl⟩ := q2.sl
    exact ⟨p, c, q1, q2, q3⟩
  clear H11bD
  have HS3 : Hid (∀ w, Calls Tryz.prog 57 #[.int .u64 3] w fun e w' => ∃ v, e = .returned v ∧ RN w' v 3 ∧ Below w.heap.size w w') := fun w => rfSmall w 3 (by omega)
  have HS4 : Hid (∀ w, Calls Tryz.prog 57 #[.int .u64 4] w fun e w' => ∃ v, e = .returned v ∧ RN w' v 4 ∧ Below w.heap.size w w') := fun w => rfSmall w 4 (by omega)
  have HS8 : Hid (∀ w, Calls Tryz.prog 57 #[.int .u64 8] w fun e w' => ∃ v, e = .returned v ∧ RN w' v 8 ∧ Below w.heap.size w w') := fun w => rfSmall w 8 (by omega)
  have hl0 := mny_0 h0
  have HP := Hid.mk hP
  have HXA := Hid.mk hxa
  have HYA := Hid.mk hya
  have HZA := Hid.mk hza
  clear hP hxa hya hza l1 l2 l3 h0 b_yy E_yy e_yy b_zz E_zz e_zz b_xy E_xy e_xy b_s E_s e_s b_xm E_xm e_xm b_xp E_xp e_xp b_xx E_xx e_xx b_m E_m e_m b_mm E_mm e_mm b_ss E_ss e_ss b_X3 E_X3 e_X3 b_sx E_sx e_sx b_ms E_ms e_ms b_y4 E_y4 e_y4 b_y8 E_y8 e_y8 b_Y3 E_Y3 e_Y3 b_y2 E_y2 e_y2 b_Z3 E_Z3 e_Z3
  obtain ⟨pp, hpp⟩ : ∃ q, pP = q := ⟨_, rfl⟩
  rw [hpp] at HP H5 H6 H7a H7b H8a H8b H8c H8d H9a H9b H9c H10a H10b H10d H10e H10f H11a H11b
  clear hpp
  obtain ⟨V, hV, F⟩ : ∃ V, (((W.alloc (Obj.cells #[vp] 54 (0, 0))).alloc (Obj.cells #[ax, ay, .slice pz (N.mny za) kz] 96 (0, 0))).alloc (Obj.cells #[.slice none 0 0, .slice none 0 0, .slice none 0 0] 96 (0, 0))) = V ∧ Fm W [(W.heap.size + 2, Obj.cells #[.slice none 0 0, .slice none 0 0, .slice none 0 0] 96 (0, 0)), (W.heap.size + 1, Obj.cells #[ax, ay, .slice pz (N.mny za) kz] 96 (0, 0)), (W.heap.size, Obj.cells #[vp] 54 (0, 0))] V := ⟨_, rfl, Fm.box3 W _ _ _⟩
  have qf : V.cell? ⟨W.heap.size, 0, none⟩ = some vp := (N.cells_at (L := [vp]) (F.get 2 rfl) rfl).1
  have qx : V.cell? ⟨W.heap.size + 1, 0, none⟩ = some ax := (N.cells_at (L := [ax, ay, .slice pz (N.mny za) kz]) (F.get 1 rfl) rfl).1
  have qy : V.cell? ⟨W.heap.size + 1, 1, none⟩ = some ay := (N.cells_at (L := [ax, ay, .slice pz (N.mny za) kz]) (F.get 1 rfl) rfl).1
  have qz : V.cell? ⟨W.heap.size + 1, 2, none⟩ = some (.slice pz (N.mny za) kz) := (N.cells_at (L := [ax, ay, .slice pz (N.mny za) kz]) (F.get 1 rfl) rfl).1
  go_enter Tryz.func65, Tryz.ntmps65
  go_upto_region 1 with fail
  simp only [Nat.add_assoc, Nat.reduceAdd]
  clear hV
  go_wp2_with fail
  refine (H5.out _ _ _ (RN.blk F.bel HP.out) (RN.blk F.bel HYA.out) (RN.blk F.bel HYA.out)).mono ?_
  rintro e y1 ⟨v1, rfl, r1, hb⟩
  replace F := F.blk hb
  clear hb qf qx qy qz
  have qf : y1.cell? ⟨W.heap.size, 0, none⟩ = some vp := (N.cells_at (L := [vp]) (F.get 2 rfl) rfl).1
  have qx : y1.cell? ⟨W.heap.size + 1, 0, none⟩ = some ax := (N.cells_at (L := [ax, ay, .slice pz (N.mny za) kz]) (F.get 1 rfl) rfl).1
  have qy : y1.cell? ⟨W.heap.size + 1, 1, none⟩ = some ay := (N.cells_at (L := [ax, ay, .slice pz (N.mny za) kz]) (F.get 1 rfl) rfl).1
  have qz : y1.cell? ⟨W.heap.size + 1, 2, none⟩ = some (.slice pz (N.mny za) kz) := (N.cells_at (L := [ax, ay, .slice pz (N.mny za) kz]) (F.get 1 rfl) rfl).1
  go_wp2_with fail
  refine (H6.out _ _ _ (RN.blk F.bel HP.out) (RN.blk F.bel HZA.out) (RN.blk F.bel HZA.out)).mono ?_
  rintro e y2 ⟨v2, rfl, r2, hb⟩
  replace F := F.blk hb
  replace r1 := RN.blk hb r1
  clear hb qf qx qy qz
  have qf : y2.cell? ⟨W.heap.size, 0, none⟩ = some vp := (N.cells_at (L := [vp]) (F.get 2 rfl) rfl).1
  have qx : y2.cell? ⟨W.heap.size + 1, 0, none⟩ = some ax := (N.cells_at (L := [ax, ay, .slice pz (N.mny za) kz]) (F.get 1 rfl) rfl).1
  have qy : y2.cell? ⟨W.heap.size + 1, 1, none⟩ = some ay := (N.cells_at (L := [ax, ay, .slice pz (N.mny za) kz]) (F.get 1 rfl) rfl).1
  have qz : y2.cell? ⟨W.heap.size + 1, 2, none⟩ = some (.slice pz (N.mny za) kz) := (N.cells_at (L := [ax, ay, .slice pz (N.mny za) kz]) (F.get 1 rfl) rfl).1
  obtain ⟨L, hL⟩ : ∃ L : List (Nat × Obj), [(W.heap.size + 1, Obj.cells #[ax, ay, .slice pz (N.mny za) kz] 96 (0, 0)), (W.heap.size, Obj.cells #[vp] 54 (0, 0))] = L := ⟨_, rfl⟩
  rw [hL] at F
  clear qf qx qy qz
  have HS : Hid (∀ w, Fs W (W.heap.size + 2) L w → Fs W (W.heap.size + 2) L w ∧ w.cell? ⟨W.heap.size, 0, none⟩ = some vp ∧ w.cell? ⟨W.heap.size + 1, 0, none⟩ = some ax ∧ w.cell? ⟨W.heap.size + 1, 1, none⟩ = some ay ∧ w.cell? ⟨W.heap.size + 1, 2, none⟩ = some (.slice pz (N.mny za) kz) ∧ (∀ p n c p' n' c' p'' n'' c'', (sdStore (.pointer (some ⟨W.heap.size + 2, 0, none⟩)) (.agg #[.slice p n c, .slice p' n' c', .slice p'' n'' c''])).run Tryz.prog w = .ok () (w.setRow (W.heap.size + 2) #[.slice p n c, .slice p' n' c', .slice p'' n'' c'']))) := fun w h => ⟨h, (N.cells_at (L := [vp]) (h.get 1 (by rw [← hL]; rfl)) rfl).1, (N.cells_at (L := [ax, ay, .slice pz (N.mny za) kz]) (h.get 0 (by rw [← hL]; rfl)) rfl).1, (N.cells_at (L := [ax, ay, .slice pz (N.mny za) kz]) (h.get 0 (by rw [← hL]; rfl)) rfl).1, (N.cells_at (L := [ax, ay, .slice pz (N.mny za) kz]) (h.get 0 (by rw [← hL]; rfl)) rfl).1, h.st⟩
  have Z : Fs W (W.heap.size + 2) L _ := ⟨_, _, _, F⟩
  go_upto_region 5 with fail
  have hS0 := HS.out _ Z
  clear F
  replace r1 := RN.drew' r1
  replace r2 := RN.drew' r2
  go_region_held3 (fun w => Fs W (W.heap.size + 2) L w ∧ w.cell? ⟨W.heap.size, 0, none⟩ = some vp ∧ w.cell? ⟨W.heap.size + 1, 0, none⟩ = some ax ∧ w.cell? ⟨W.heap.size + 1, 1, none⟩ = some ay ∧ w.cell? ⟨W.heap.size + 1, 2, none⟩ = some (.slice pz (N.mny za) kz) ∧ (∀ p n c p' n' c' p'' n'' c'', (sdStore (.pointer (some ⟨W.heap.size + 2, 0, none⟩)) (.agg #[.slice p n c, .slice p' n' c', .slice p'' n'' c''])).run Tryz.prog w = .ok () (w.setRow (W.heap.size + 2) #[.slice p n c, .slice p' n' c', .slice p'' n'' c''])))
    (first | assumption | (apply HS.out; repeat (first | assumption | apply Fs.drew | apply Fs.set)))
    (first
      | (go_at_call 37; with_reducible refine (H7b.out _ _ _ (RN.blk (Fs.bel (by repeat (first | assumption | apply Fs.drew))) HP.out) r11 r12).mono ?_; rintro e w13 ⟨v13, rfl, r13, hb13⟩; have F13 := Fs.blk (by repeat (first | assumption | apply Fs.drew)) hb13; have hs13 := HS.out _ F13; have r1 := RN.blk hb13 r1; have r2 := RN.blk hb13 r2)
      | (go_at_call 37; with_reducible refine (H7a.out _ _ _ (RN.blk (Fs.bel (by repeat (first | assumption | apply Fs.drew))) HP.out) (RN.blk (Fs.bel (by repeat (first | assumption | apply Fs.drew))) HXA.out) r1).mono ?_; rintro e w12 ⟨v12, rfl, r12, hb12⟩; have F12 := Fs.blk (by repeat (first | assumption | apply Fs.drew)) hb12; have hs12 := HS.out _ F12; have r1 := RN.blk hb12 r1; have r2 := RN.blk hb12 r2; have r11 := RN.blk hb12 r11)
      | (go_at_call 57; with_reducible refine (HS4.out _).mono ?_; rintro e w11 ⟨v11, rfl, r11, hb11⟩; have F11 := Fs.blk (by repeat (first | assumption | apply Fs.drew)) hb11; have hs11 := HS.out _ F11; have r1 := RN.blk hb11 r1; have r2 := RN.blk hb11 r2))
  have Z := F13
  have r3 := RN.drew' r1
  have r4 := RN.drew' r2
  have r5 := RN.drew' r13
  clear hS0
  go_upto_region 6 with fail
  have hS0 := HS.out _ Z
  go_region_held3 (fun w => Fs W (W.heap.size + 2) L w ∧ w.cell? ⟨W.heap.size, 0, none⟩ = some vp ∧ w.cell? ⟨W.heap.size + 1, 0, none⟩ = some ax ∧ w.cell? ⟨W.heap.size + 1, 1, none⟩ = some ay ∧ w.cell? ⟨W.heap.size + 1, 2, none⟩ = some (.slice pz (N.mny za) kz) ∧ (∀ p n c p' n' c' p'' n'' c'', (sdStore (.pointer (some ⟨W.heap.size + 2, 0, none⟩)) (.agg #[.slice p n c, .slice p' n' c', .slice p'' n'' c''])).run Tryz.prog w = .ok () (w.setRow (W.heap.size + 2) #[.slice p n c, .slice p' n' c', .slice p'' n'' c''])))
    (first | assumption | (apply HS.out; repeat (first | assumption | apply Fs.drew | apply Fs.set)))
    (first
      | (go_at_call 37; with_reducible refine (H8d.out _ _ _ (RN.blk (Fs.bel (by repeat (first | assumption | apply Fs.drew))) HP.out) r21 r24).mono ?_; rintro e w25 ⟨v25, rfl, r25, hb25⟩; have F25 := Fs.blk (by repeat (first | assumption | apply Fs.drew)) hb25; have hs25 := HS.out _ F25; have r3 := RN.blk hb25 r3; have r5 := RN.blk hb25 r5)
      | (go_at_call 37; with_reducible refine (H8c.out _ _ _ (RN.blk (Fs.bel (by repeat (first | assumption | apply Fs.drew))) HP.out) r22 r23).mono ?_; rintro e w24 ⟨v24, rfl, r24, hb24⟩; have F24 := Fs.blk (by repeat (first | assumption | apply Fs.drew)) hb24; have hs24 := HS.out _ F24; have r3 := RN.blk hb24 r3; have r5 := RN.blk hb24 r5; have r21 := RN.blk hb24 r21)
      | (go_at_call 56; with_reducible refine (H8b.out _ _ _ (RN.blk (Fs.bel (by repeat (first | assumption | apply Fs.drew))) HP.out) (RN.blk (Fs.bel (by repeat (first | assumption | apply Fs.drew))) HXA.out) r4).mono ?_; rintro e w23 ⟨v23, rfl, r23, hb23⟩; have F23 := Fs.blk (by repeat (first | assumption | apply Fs.drew)) hb23; have hs23 := HS.out _ F23; have r3 := RN.blk hb23 r3; have r5 := RN.blk hb23 r5; have r21 := RN.blk hb23 r21; have r22 := RN.blk hb23 r22)
      | (go_at_call 55; with_reducible refine (H8a.out _ _ _ (RN.blk (Fs.bel (by repeat (first | assumption | apply Fs.drew))) HP.out) (RN.blk (Fs.bel (by repeat (first | assumption | apply Fs.drew))) HXA.out) r4).mono ?_; rintro e w22 ⟨v22, rfl, r22, hb22⟩; have F22 := Fs.blk (by repeat (first | assumption | apply Fs.drew)) hb22; have hs22 := HS.out _ F22; have r3 := RN.blk hb22 r3; have r4 := RN.blk hb22 r4; have r5 := RN.blk hb22 r5; have r21 := RN.blk hb22 r21)
      | (go_at_call 57; with_reducible refine (HS3.out _).mono ?_; rintro e w21 ⟨v21, rfl, r21, hb21⟩; have F21 := Fs.blk (by repeat (first | assumption | apply Fs.drew)) hb21; have hs21 := HS.out _ F21; have r3 := RN.blk hb21 r3; have r4 := RN.blk hb21 r4; have r5 := RN.blk hb21 r5))
  have Z := F25
  have r6 := RN.drew' r3
  have r7 := RN.drew' r5
  have r8 := RN.drew' r25
  clear hS0
  go_upto_region 7 with fail
  have hS0 := HS.out _ Z
  go_region_held3 (fun w => Fs W (W.heap.size + 2) L w ∧ w.cell? ⟨W.heap.size, 0, none⟩ = some vp ∧ w.cell? ⟨W.heap.size + 1, 0, none⟩ = some ax ∧ w.cell? ⟨W.heap.size + 1, 1, none⟩ = some ay ∧ w.cell? ⟨W.heap.size + 1, 2, none⟩ = some (.slice pz (N.mny za) kz) ∧ (∀ p n c p' n' c' p'' n'' c'', (sdStore (.pointer (some ⟨W.heap.size + 2, 0, none⟩)) (.agg #[.slice p n c, .slice p' n' c', .slice p'' n'' c''])).run Tryz.prog w = .ok () (w.setRow (W.heap.size + 2) #[.slice p n c, .slice p' n' c', .slice p'' n'' c''])))
    (first | assumption | (apply HS.out; repeat (first | assumption | apply Fs.drew | apply Fs.set)))
    (first
      | (go_at_call 55; with_reducible refine (H9c.out _ _ _ (RN.blk (Fs.bel (by repeat (first | assumption | apply Fs.drew))) HP.out) r31 r32).mono ?_; rintro e w33 ⟨v33, rfl, r33, hb33⟩; have F33 := Fs.blk (by repeat (first | assumption | apply Fs.drew)) hb33; have hs33 := HS.out _ F33; have r6 := RN.blk hb33 r6; have r7 := RN.blk hb33 r7; have r8 := RN.blk hb33 r8)
      | (go_at_call 56; with_reducible refine (H9b.out _ _ _ (RN.blk (Fs.bel (by repeat (first | assumption | apply Fs.drew))) HP.out) r7 r7).mono ?_; rintro e w32 ⟨v32, rfl, r32, hb32⟩; have F32 := Fs.blk (by repeat (first | assumption | apply Fs.drew)) hb32; have hs32 := HS.out _ F32; have r6 := RN.blk hb32 r6; have r7 := RN.blk hb32 r7; have r8 := RN.blk hb32 r8; have r31 := RN.blk hb32 r31)
      | (go_at_call 37; with_reducible refine (H9a.out _ _ _ (RN.blk (Fs.bel (by repeat (first | assumption | apply Fs.drew))) HP.out) r8 r8).mono ?_; rintro e w31 ⟨v31, rfl, r31, hb31⟩; have F31 := Fs.blk (by repeat (first | assumption | apply Fs.drew)) hb31; have hs31 := HS.out _ F31; have r6 := RN.blk hb31 r6; have r7 := RN.blk hb31 r7; have r8 := RN.blk hb31 r8))
  have Z := F33
  obtain ⟨p33, k33, rfl⟩ := r33.sl
  have r15 := RN.drew' r6
  have r16 := RN.drew' r7
  have r17 := RN.drew' r8
  have r18 := RN.drew' r33
  clear hS0
  go_upto_region 8 with fail
  have hS0 := HS.out _ Z
  go_region_held3 (fun w => Fs W (W.heap.size + 2) L w ∧ w.cell? ⟨W.heap.size, 0, none⟩ = some vp ∧ w.cell? ⟨W.heap.size + 1, 0, none⟩ = some ax ∧ w.cell? ⟨W.heap.size + 1, 1, none⟩ = some ay ∧ w.cell? ⟨W.heap.size + 1, 2, none⟩ = some (.slice pz (N.mny za) kz) ∧ (∀ p n c p' n' c' p'' n'' c'', (sdStore (.pointer (some ⟨W.heap.size + 2, 0, none⟩)) (.agg #[.slice p n c, .slice p' n' c', .slice p'' n'' c''])).run Tryz.prog w = .ok () (w.setRow (W.heap.size + 2) #[.slice p n c, .slice p' n' c', .slice p'' n'' c''])))
    (first | assumption | (apply HS.out; repeat (first | assumption | apply Fs.drew | apply Fs.set)))
    (first
      | (go_at_call 55; with_reducible refine (H10f.out _ _ _ (RN.blk (Fs.bel (by repeat (first | assumption | apply Fs.drew))) HP.out) r42 r45).mono ?_; rintro e w46 ⟨v46, rfl, r46, hb46⟩; have F46 := Fs.blk (by repeat (first | assumption | apply Fs.drew)) hb46; have hs46 := HS.out _ F46; have r18 := RN.blk hb46 r18)
      | (go_at_call 37; with_reducible refine (H10e.out _ _ _ (RN.blk (Fs.bel (by repeat (first | assumption | apply Fs.drew))) HP.out) r43 r44).mono ?_; rintro e w45 ⟨v45, rfl, r45, hb45⟩; have F45 := Fs.blk (by repeat (first | assumption | apply Fs.drew)) hb45; have hs45 := HS.out _ F45; have r18 := RN.blk hb45 r18; have r42 := RN.blk hb45 r42)
      | (go_at_call 37; with_reducible refine (H10d.out _ _ _ (RN.blk (Fs.bel (by repeat (first | assumption | apply Fs.drew))) HP.out) r15 r15).mono ?_; rintro e w44 ⟨v44, rfl, r44, hb44⟩; have F44 := Fs.blk (by repeat (first | assumption | apply Fs.drew)) hb44; have hs44 := HS.out _ F44; have r18 := RN.blk hb44 r18; have r42 := RN.blk hb44 r42; have r43 := RN.blk hb44 r43)
      | (go_at_call 57; with_reducible refine (HS8.out _).mono ?_; rintro e w43 ⟨v43, rfl, r43, hb43⟩; have F43 := Fs.blk (by repeat (first | assumption | apply Fs.drew)) hb43; have hs43 := HS.out _ F43; have r15 := RN.blk hb43 r15; have r18 := RN.blk hb43 r18; have r42 := RN.blk hb43 r42)
      | (go_at_call 37; with_reducible refine (H10b.out _ _ _ (RN.blk (Fs.bel (by repeat (first | assumption | apply Fs.drew))) HP.out) r17 r41).mono ?_; rintro e w42 ⟨v42, rfl, r42, hb42⟩; have F42 := Fs.blk (by repeat (first | assumption | apply Fs.drew)) hb42; have hs42 := HS.out _ F42; have r15 := RN.blk hb42 r15; have r18 := RN.blk hb42 r18)
      | (go_at_call 55; with_reducible refine (H10a.out _ _ _ (RN.blk (Fs.bel (by repeat (first | assumption | apply Fs.drew))) HP.out) r16 r18).mono ?_; rintro e w41 ⟨v41, rfl, r41, hb41⟩; have F41 := Fs.blk (by repeat (first | assumption | apply Fs.drew)) hb41; have hs41 := HS.out _ F41; have r15 := RN.blk hb41 r15; have r17 := RN.blk hb41 r17; have r18 := RN.blk hb41 r18))
  have Z := F46
  obtain ⟨p46, k46, rfl⟩ := r46.sl
  have r19 := RN.drew' r18
  have r20 := RN.drew' r46
  clear hS0
  go_upto_region 9 with fail
  have hS0 := HS.out _ Z
  go_region_held3 (fun w => Fs W (W.heap.size + 2) L w ∧ w.cell? ⟨W.heap.size, 0, none⟩ = some vp ∧ w.cell? ⟨W.heap.size + 1, 0, none⟩ = some ax ∧ w.cell? ⟨W.heap.size + 1, 1, none⟩ = some ay ∧ w.cell? ⟨W.heap.size + 1, 2, none⟩ = some (.slice pz (N.mny za) kz) ∧ (∀ p n c p' n' c' p'' n'' c'', (sdStore (.pointer (some ⟨W.heap.size + 2, 0, none⟩)) (.agg #[.slice p n c, .slice p' n' c', .slice p'' n'' c''])).run Tryz.prog w = .ok () (w.setRow (W.heap.size + 2) #[.slice p n c, .slice p' n' c', .slice p'' n'' c''])))
    (first | assumption | (apply HS.out; repeat (first | assumption | apply Fs.drew | apply Fs.set)))
    (first
      | (go_at_call 37; with_reducible refine (H11b.out _ _ _ (RN.blk (Fs.bel (by repeat (first | assumption | apply Fs.drew))) HP.out) r51 (RN.blk (Fs.bel (by repeat (first | assumption | apply Fs.drew))) HZA.out)).mono ?_; rintro e w52 ⟨p52, k52, rfl, r52, hb52⟩; have F52 := Fs.blk (by repeat (first | assumption | apply Fs.drew)) hb52; have hs52 := HS.out _ F52; have r19 := RN.blk hb52 r19; have r20 := RN.blk hb52 r20)
      | (go_at_call 56; with_reducible refine (H11a.out _ _ _ (RN.blk (Fs.bel (by repeat (first | assumption | apply Fs.drew))) HP.out) (RN.blk (Fs.bel (by repeat (first | assumption | apply Fs.drew))) HYA.out) (RN.blk (Fs.bel (by repeat (first | assumption | apply Fs.drew))) HYA.out)).mono ?_; rintro e w51 ⟨v51, rfl, r51, hb51⟩; have F51 := Fs.blk (by repeat (first | assumption | apply Fs.drew)) hb51; have hs51 := HS.out _ F51; have r19 := RN.blk hb51 r19; have r20 := RN.blk hb51 r20))
  have F6 := F52.fin (.slice p33 (N.mny X3) k33) (.slice p46 (N.mny Y3) k46) (.slice p52 (N.mny Z3) k52)
  obtain ⟨LL, hLL⟩ := F52.at
  go_wp2
  exact bodyPost_ret (results_sd Tryz.results65 rfl (F6.get 0 rfl)) rfl ⟨_, _, _, _, _, _, rfl, rn_rows r19 hLL, rn_rows r20 hLL, rn_rows r52 hLL, F6.bel⟩
def Sc (w : World) (v : Value) (a : T3) : Prop := ∃ p k p' k' p'' k'', v = .agg #[.slice p (N.mny a.x) k, .slice p' (N.mny a.y) k', .slice p'' (N.mny a.z) k''] ∧ RN w (.slice p (N.mny a.x) k) a.x ∧ RN w (.slice p' (N.mny a.y) k') a.y ∧ RN w (.slice p'' (N.mny a.z) k'') a.z
theorem Sc.blk {w w' : World} {v : Value} {a : T3} (hb : Below w.heap.size w w') (h : Sc w v a) : Sc w' v a := by
  obtain ⟨p, k, p', k', p'', k'', e, h1, h2, h3⟩ := h
  exact ⟨p, k, p', k', p'', k'', e, RN.blk hb h1, RN.blk hb h2, RN.blk hb h3⟩
theorem rtwice_in (W : World) (vp v : Value) (a : T3) (hP : RN W vp pP) (ha : a.Ok) (h : Sc W v a) : Calls Tryz.prog 65 #[.agg #[vp], v] W fun e w' => ∃ v', e = .returned v' ∧ Sc w' v' a.dtwice ∧ Below W.heap.size W w' := by
  obtain ⟨p, k, p', k', p'', k'', rfl, h1, h2, h3⟩ := h
  by_cases h0 : a.z = 0
  · have hm : N.mny a.z = 0 := by rw [h0]; exact N.mny_zero
    have hd : a.dtwice = a := by unfold T3.dtwice; rw [if_pos h0]
    rw [hd]
    refine (show Calls Tryz.prog _ #[.agg #[vp], .agg #[.slice p (N.mny a.x) k, .slice p' (N.mny a.y) k', .slice p'' (N.mny a.z) k'']] W _ from by
      rw [hm]
      exact rtwice_0 W vp _ _ p'' k'' rfl rfl).mono ?_
    rintro e w' ⟨rfl, hb⟩
    refine ⟨_, rfl, ⟨p, k, p', k', p'', k'', by rw [hm], RN.blk hb h1, RN.blk hb h2, RN.blk hb h3⟩, hb⟩
  · refine (rtwice_n W vp _ _ p'' k'' a.x a.y a.z _ _ _ _ _ _ _ _ _ _ _ _ _ _ _ _ _ _ hP h1 h2 h3 ha.1 ha.2.1 ha.2.2 h0 rfl rfl rfl rfl rfl rfl rfl rfl rfl rfl rfl rfl rfl rfl rfl rfl rfl rfl).mono ?_
    rintro e w' ⟨q, j, q', j', q'', j'', rfl, g1, g2, g3, hb⟩
    refine ⟨_, rfl, ?_, hb⟩
    unfold T3.dtwice
    rw [if_neg h0]
    exact ⟨q, j, q', j', q'', j'', rfl, g1, g2, g3⟩
end Go.Proofs.YtpimliebiapnfaaGreatDoor