/- Texts of this proof, joined: RcB, RcK, RcGt. -/
import Derived.Laws.CopyOwn
import Derived.Deep.WholeRow
import Derived.Test.YtikjepodmdaknaaGreatDoorJ20
import Derived.Test.YtikjepodmdaknaaGreatDoorJ21
import Derived.Test.YtikjepodmdaknaaGreatDoorJ22
set_option linter.unusedVariables false
set_option linter.unusedSimpArgs false
/- Layer 16: whole structs in boxes, loaded and stored as one step. -/
namespace Go.Proofs.YtikjepodmdaknaaGreatDoor.Rc
open Go.RowKit
theorem load_all {t : TypeId} {n : Nat} (w : World) (b off : Nat) (cs : List Value) (hl : cs.length = n) (ha : (isAgg t).run Tryz.prog w = .ok true w) (hs : (Go.sizeOf t).run Tryz.prog w = .ok n w) (h : ∀ (j : Nat) v, cs[j]? = some v → w.cell? ⟨b, off + j, none⟩ = some v) :
    (Instr.loadAt t (.pointer (some ⟨b, off, none⟩))).run Tryz.prog w = .ok (.agg cs.toArray) w := by
  have hl' : (loadCells ⟨b, off, none⟩ n).run Tryz.prog w = .ok cs.toArray w := by
    rw [← hl]
    exact run_loadCells_list (P := Tryz.prog) w _ cs (fun j v hv => by rw [So.add_of]; exact h j v hv)
  simp only [Instr.loadAt, Instr.sureAddr, Sem.run_bind, Sem.run_pure, Result.andThen_ok]
  unfold loadVar
  simp only [Sem.run_bind, ha, hs, hl', Result.andThen_ok, if_true, Sem.run_pure]
theorem store_all {t T : TypeId} {n : Nat} (w : World) (b off : Nat) (c cs : List Value) (hl : cs.length = n) (hs : (Go.sizeOf t).run Tryz.prog w = .ok n w) (h : w.heap[b]? = some (.cells c.toArray T (0, 0))) (ho : off + n ≤ c.length) (h1 : ∀ v ∈ cs, v.oneCell' = true) :
    (Instr.storeAt t (.pointer (some ⟨b, off, none⟩)) (.agg cs.toArray)).run Tryz.prog w = .ok () (w.setRow b (c.take off ++ cs ++ c.drop (off + n)).toArray) := by
  have hst := run_storeCells_at (P := Tryz.prog) b off T cs 0 _ w h (by simp only [List.size_toArray]; omega) h1
  have h6 : ¬ (cs.toArray.size ≠ n) := by simp [hl]
  simp only [Instr.storeAt, Instr.sureAddr, storeVar, Value.cells, Sem.run_bind, Sem.run_pure, Result.andThen_ok, hs]
  refine Eq.trans (congrArg (fun m => Sem.run Tryz.prog m w) (if_neg h6)) ?_
  rw [hst]
  simp only [Nat.add_zero, hl]
def enLoad (a : Value) : Sem Value := Instr.loadAt 44 a
theorem loadAt_en (a : Value) : Instr.loadAt 44 a = enLoad a := rfl
def enStore (a x : Value) : Sem Unit := Instr.storeAt 44 a x
theorem storeAt_en (a x : Value) : Instr.storeAt 44 a x = enStore a x := rfl
def seLoad (a : Value) : Sem Value := Instr.loadAt 34 a
theorem loadAt_se (a : Value) : Instr.loadAt 34 a = seLoad a := rfl
def seStore (a x : Value) : Sem Unit := Instr.storeAt 34 a x
theorem storeAt_se (a x : Value) : Instr.storeAt 34 a x = seStore a x := rfl
theorem en_load {w : World} {b : Nat} {c : List Value} {T : TypeId} {f : Nat × Nat} (h : w.heap[b]? = some (.cells c.toArray T f)) (hl : c.length = 10) : (enLoad (pt b)).run Tryz.prog w = .ok (.agg c.toArray) w :=
  load_all (n := 10) w b 0 c hl (by kernel_rfl) (by kernel_rfl) fun j v hv => by rw [So.cell_blk h, Nat.zero_add, List.getElem?_toArray]; exact hv
theorem en_store {w : World} {b : Nat} {c c' : List Value} {T : TypeId} (h : w.heap[b]? = some (.cells c.toArray T (0, 0))) (hl : c.length = 10) (hl' : c'.length = 10) (h1 : ∀ v ∈ c', v.oneCell' = true) : (enStore (pt b) (.agg c'.toArray)).run Tryz.prog w = .ok () (w.setRow b c'.toArray) := by
  have := store_all (t := 44) (n := 10) w b 0 c c' hl' (by kernel_rfl) h (by omega) h1
  rw [List.take_zero, List.drop_of_length_le (by omega), List.nil_append, List.append_nil] at this
  exact this
theorem se_load {w : World} {b : Nat} {c : List Value} {T : TypeId} {f : Nat × Nat} (h : w.heap[b]? = some (.cells c.toArray T f)) (off : Nat) (cs : List Value) (hl : cs.length = 6) (hc : ∀ (j : Nat) v, cs[j]? = some v → c[off + j]? = some v) : (seLoad (.pointer (some ⟨b, off, none⟩))).run Tryz.prog w = .ok (.agg cs.toArray) w :=
  load_all (n := 6) w b off cs hl (by kernel_rfl) (by kernel_rfl) fun j v hv => by rw [So.cell_blk h, List.getElem?_toArray]; exact hc j v hv
theorem se_store {w : World} {b off : Nat} {c cs : List Value} {T : TypeId} (h : w.heap[b]? = some (.cells c.toArray T (0, 0))) (hl : cs.length = 6) (ho : off + 6 ≤ c.length) (h1 : ∀ v ∈ cs, v.oneCell' = true) : (seStore (.pointer (some ⟨b, off, none⟩)) (.agg cs.toArray)).run Tryz.prog w = .ok () (w.setRow b (c.take off ++ cs ++ c.drop (off + 6)).toArray) :=
  store_all w b off c cs hl (by kernel_rfl) h ho h1
theorem row_self {w : World} {b : Nat} {c c' : List Value} {T : TypeId} {f : Nat × Nat} (h : w.heap[b]? = some (.cells c.toArray T f)) : (w.setRow b c'.toArray).heap[b]? = some (.cells c'.toArray T f) := setRow_heap w b _ _ T f h
abbrev ze : List Value := [.string ⟨#[]⟩, .int .i64 0, .int .i64 0, .int .i64 0, .slice none 0 0, .slice none 0 0, .int .i64 0, .int .i64 0, .int .i64 0, .int .i64 0]
theorem sv_ones (s : Sv) (qd : Option Addr) (cd : Nat) (qg : Option Addr) (cg : Nat) : ∀ v ∈ svC s qd cd qg cg, v.oneCell' = true := by
  intro v hv
  simp only [svC, List.mem_cons, List.not_mem_nil, or_false] at hv
  rcases hv with rfl | rfl | rfl | rfl | rfl | rfl <;> rfl
theorem ev_ones (x : Ev) (qd : Option Addr) (cd : Nat) (qg : Option Addr) (cg : Nat) : ∀ v ∈ evC x qd cd qg cg, v.oneCell' = true := by
  intro v hv
  simp only [evC, List.mem_cons, List.not_mem_nil, or_false] at hv
  rcases hv with rfl | rfl | rfl | rfl | rfl | rfl | rfl | rfl | rfl | rfl <;> rfl
end Go.Proofs.YtikjepodmdaknaaGreatDoor.Rc
/- Layer 16: what is told of a set. -/
namespace Go.Proofs.YtikjepodmdaknaaGreatDoor.Rc
open Go.RowKit
section
attribute [local go_sem ↓] loadAt_en storeAt_en loadAt_se storeAt_se
set_option maxRecDepth 100000 in
set_option maxHeartbeats 4000000 in
theorem toldAt_in {w : World} {Q : Nat → Prop} {b n : Nat} {x : Ev} (h : EvAt w Q b x) (hx : EvI n x) (now : Int) (h0 : 0 ≤ now) (h1 : now < x.un) :
    Calls Tryz.prog 57 #[pt b, .int .i64 now] w fun e w' => ∃ q1 c1 q2 c2, e = .returned (.agg (evC (toldE x now) q1 c1 q2 c2).toArray) ∧ w'.ownsRow w.heap.size 9 1 (.slice q1 x.s.ds.length c1) x.s.ds.length (strs x.s.ds) ∧ w'.ownsRow w.heap.size 9 1 (.slice q2 x.s.sg.length c2) x.s.sg.length (strs x.s.sg) ∧ Below w.heap.size w w' := by
  have hlt := h.lt
  obtain ⟨qd, cd, qg, cg, hb, hds, hgs, hcd, hcg⟩ := h
  obtain ⟨N, hN⟩ : ∃ N, w.heap.size = N := ⟨_, rfl⟩
  have hsm := data_small hx.ok
  have hu := hx.un
  have hwr : IntKind.i64.wrap (x.un - now) = x.un - now := by rw [IntKind.wrap_i64]; omega
  obtain ⟨V0, hV0⟩ : ∃ V, w.alloc (.cells #[.string ⟨#[]⟩, .int .i64 0, .int .i64 0, .int .i64 0, .slice none 0 0, .slice none 0 0, .int .i64 0, .int .i64 0, .int .i64 0, .int .i64 0] 44) = V := ⟨_, rfl⟩
  obtain ⟨V1, hV1⟩ : ∃ V, V0.alloc (.cells #[.string ⟨#[]⟩, .int .i64 0, .int .i64 0, .int .i64 0, .slice none 0 0, .slice none 0 0, .int .i64 0, .int .i64 0, .int .i64 0, .int .i64 0] 44) = V := ⟨_, rfl⟩
  obtain ⟨V, hV⟩ : ∃ V, V1.setRow (N + 1) (evC x qd cd qg cg).toArray = V := ⟨_, rfl⟩
  have b0 : Below N w V0 := by rw [← hN, ← hV0]; exact (Below.refl _ _).alloc (Nat.le_refl _) _
  have s0 : V0.heap.size = N + 1 := by rw [← hV0]; simp [hN]
  have b1 : Below N w V1 := by rw [← hV1]; exact b0.alloc (by omega) _
  have bV : Below N w V := by rw [← hV]; exact below_setRow b1 (by omega) _
  have g0 : V0.heap[N]? = some (.cells ze.toArray 44 (0, 0)) := by rw [← hV0, ← hN]; exact heap_alloc_new w _
  have g1 : V1.heap[N]? = some (.cells ze.toArray 44 (0, 0)) := by rw [← hV1, Below.heap_alloc _ _ _ (by omega)]; exact g0
  have g2 : V1.heap[N + 1]? = some (.cells ze.toArray 44 (0, 0)) := by rw [← hV1, ← s0]; exact heap_alloc_new V0 _
  have gV : V.heap[N]? = some (.cells ze.toArray 44 (0, 0)) := by rw [← hV, setRow_other _ _ _ _ (by omega)]; exact g1
  have gV2 : V.heap[N + 1]? = some (.cells (evC x qd cd qg cg).toArray 44 (0, 0)) := by rw [← hV]; exact row_self g2
  have hb0 : V0.heap[b]? = some (.cells (evC x qd cd qg cg).toArray 44 (0, 0)) := (b0.block b (by omega)).trans hb
  have hbV : V.heap[b]? = some (.cells (evC x qd cd qg cg).toArray 44 (0, 0)) := (bV.block b (by omega)).trans hb
  have sV : V.heap.size = N + 2 := by rw [← hV, setRow_size, ← hV1]; simp [s0]
  have l0 := en_load hb0 rfl
  have t1 := en_store g2 (c' := evC x qd cd qg cg) rfl rfl (ev_ones x qd cd qg cg)
  rw [hV] at t1
  have l1 := se_load hbV 0 (svC x.s qd cd qg cg) rfl (fun j v hv => by
    rw [Nat.zero_add]
    match j, hv with
    | 0, hv => exact hv
    | 1, hv => exact hv
    | 2, hv => exact hv
    | 3, hv => exact hv
    | 4, hv => exact hv
    | 5, hv => exact hv)
  have HC : Hid (Calls Tryz.prog 46 #[.agg (svC x.s qd cd qg cg).toArray] V fun e w' => ∃ q1 c1 q2 c2, e = .returned (.agg (svC x.s q1 c1 q2 c2).toArray) ∧ w'.ownsRow V.heap.size 9 1 (.slice q1 x.s.ds.length c1) x.s.ds.length (strs x.s.ds) ∧ w'.ownsRow V.heap.size 9 1 (.slice q2 x.s.sg.length c2) x.s.sg.length (strs x.s.sg) ∧ Below V.heap.size V w') := copied_in x.s (by omega) (fun d hd => by have := hsm.2.1 d hd; omega) (fun d hd => by have := hsm.2.2.1 d hd; omega) (by omega) (by omega) qd cd qg cg V ((⟨hds.at, hgs.at, hcd, hcg⟩ : SvAt w x.s qd cd qg cg).blk (by rw [hN]; exact bV))
  have HG : Hid (∀ w', Below V.heap.size V w' → w'.heap[N]? = some (.cells ze.toArray 44 (0, 0)) ∧ w'.heap[N + 1]? = some (.cells (evC x qd cd qg cg).toArray 44 (0, 0)) ∧ w'.heap[b]? = some (.cells (evC x qd cd qg cg).toArray 44 (0, 0)) ∧ Below N w w' ∧ N ≤ V.heap.size) := fun w' hw => ⟨(hw.block _ (by omega)).trans gV, (hw.block _ (by omega)).trans gV2, (hw.block _ (by omega)).trans hbV, bV.trans (hw.mono (by omega)), by omega⟩
  have HV0 := Hid.mk hV0
  have HNb : Hid (¬ b = N ∧ ¬ b = N + 1) := ⟨by omega, by omega⟩
  rw [← hV1] at t1
  obtain ⟨M, hM⟩ : ∃ M, N + 1 = M := ⟨_, rfl⟩
  rw [hM] at t1 HG HNb s0
  have HMN : Hid (¬ N = M ∧ N ≤ M ∧ M ≠ N) := ⟨by omega, by omega, by omega⟩
  rw [hN]
  unfold toldE
  simp only [svC, evC] at l0 l1 t1 HC HG ⊢
  generalize strs x.s.ds = D at *
  generalize strs x.s.sg = G at *
  generalize x.s.ds.length = nd at *
  generalize x.s.sg.length = ng at *
  generalize x.s.nm = x0 at *
  generalize x.s.ty = x1 at *
  generalize x.s.cl = x2 at *
  generalize x.s.tl = x3 at *
  generalize x.rk = x6 at *
  generalize x.se = x7 at *
  generalize x.ve = x8 at *
  generalize x.un = u at *
  clear hV hM b0 b1 bV g0 g1 g2 gV gV2 hb0 hbV hsm hx hu hds hgs hcd hcg hb sV hlt hV0 hV1 h0 h1
  go_enter Tryz.func57, Tryz.ntmps57
  go_upto_region 1 with fail
  (try rw [hN])
  rw [HV0.out]
  go_upto_region 2 with fail
  clear s0 l0 t1
  go_wp2_with fail
  refine HC.out.mono ?_
  rintro e w2 ⟨q1, c1, q2, c2, rfl, o1, o2, hb2⟩
  obtain ⟨g0, g1, gb, hbw, hNV⟩ := HG.out _ hb2
  obtain ⟨V3, hV3⟩ : ∃ V3, w2.setRow M ([.string x0, .int .i64 x1, .int .i64 x2, .int .i64 x3, .slice q1 nd c1, .slice q2 ng c2, .int .i64 x6, .int .i64 x7, .int .i64 x8, .int .i64 u] : List Value).toArray = V3 := ⟨_, rfl⟩
  have t2 := se_store (off := 0) (cs := [.string x0, .int .i64 x1, .int .i64 x2, .int .i64 x3, .slice q1 nd c1, .slice q2 ng c2]) g1 rfl (by simp) (by intro v hv; simp at hv; rcases hv with rfl | rfl | rfl | rfl | rfl | rfl <;> rfl)
  rw [show ([Value.string x0, .int .i64 x1, .int .i64 x2, .int .i64 x3, .slice qd nd cd, .slice qg ng cg, .int .i64 x6, .int .i64 x7, .int .i64 x8, .int .i64 u].take 0 ++ [.string x0, .int .i64 x1, .int .i64 x2, .int .i64 x3, .slice q1 nd c1, .slice q2 ng c2] ++ [Value.string x0, .int .i64 x1, .int .i64 x2, .int .i64 x3, .slice qd nd cd, .slice qg ng cg, .int .i64 x6, .int .i64 x7, .int .i64 x8, .int .i64 u].drop (0 + 6)) = [.string x0, .int .i64 x1, .int .i64 x2, .int .i64 x3, .slice q1 nd c1, .slice q2 ng c2, .int .i64 x6, .int .i64 x7, .int .i64 x8, .int .i64 u] from rfl, hV3] at t2
  have k0 : V3.heap[N]? = some (.cells ze.toArray 44 (0, 0)) := by rw [← hV3, setRow_other _ _ _ _ HMN.out.1]; exact g0
  have k1 : V3.heap[M]? = some (.cells [.string x0, .int .i64 x1, .int .i64 x2, .int .i64 x3, .slice q1 nd c1, .slice q2 ng c2, .int .i64 x6, .int .i64 x7, .int .i64 x8, .int .i64 u].toArray 44 (0, 0)) := by rw [← hV3]; exact row_self g1
  have kb : V3.cell? ⟨b, 9, none⟩ = some (.int .i64 u) := by
    rw [So.cell_blk (show V3.heap[b]? = _ from (by rw [← hV3, setRow_other _ _ _ _ HNb.out.2]; exact gb))]; rfl
  have k3 : V3.cell? ⟨M, 3, none⟩ = some (.int .i64 x3) := by rw [So.cell_blk k1]; rfl
  have f3 : V3.frozen? ⟨M, 3, none⟩ = false := free_at k1 3
  obtain ⟨V4, hV4⟩ : ∃ V4, V3.setCell ⟨M, 3, none⟩ (.int .i64 (min (u - now) 604800)) = V4 := ⟨_, rfl⟩
  have k4 : V4.heap[M]? = some (.cells [.string x0, .int .i64 x1, .int .i64 x2, .int .i64 (min (u - now) 604800), .slice q1 nd c1, .slice q2 ng c2, .int .i64 x6, .int .i64 x7, .int .i64 x8, .int .i64 u].toArray 44 (0, 0)) := by rw [← hV4]; exact set_blk k1 3 _
  have k5 : V4.heap[N]? = some (.cells ze.toArray 44 (0, 0)) := by rw [← hV4, Below.heap_setCell _ _ _ _ HMN.out.1]; exact k0
  have l4 := en_load k4 rfl
  obtain ⟨V5, hV5⟩ : ∃ V5, V4.setRow N ([.string x0, .int .i64 x1, .int .i64 x2, .int .i64 (min (u - now) 604800), .slice q1 nd c1, .slice q2 ng c2, .int .i64 x6, .int .i64 x7, .int .i64 x8, .int .i64 u] : List Value).toArray = V5 := ⟨_, rfl⟩
  have t4 := en_store k5 (c' := [.string x0, .int .i64 x1, .int .i64 x2, .int .i64 (min (u - now) 604800), .slice q1 nd c1, .slice q2 ng c2, .int .i64 x6, .int .i64 x7, .int .i64 x8, .int .i64 u]) rfl rfl (by intro v hv; simp at hv; rcases hv with rfl | rfl | rfl | rfl | rfl | rfl | rfl | rfl | rfl | rfl <;> rfl)
  rw [hV5] at t4
  have k6 : V5.heap[N]? = some (.cells [.string x0, .int .i64 x1, .int .i64 x2, .int .i64 (min (u - now) 604800), .slice q1 nd c1, .slice q2 ng c2, .int .i64 x6, .int .i64 x7, .int .i64 x8, .int .i64 u].toArray 44 (0, 0)) := by rw [← hV5]; exact row_self k5
  have hoth : ∀ x, x ≠ N → x ≠ M → V5.heap[x]? = w2.heap[x]? := fun x h1 h2 => by
    rw [← hV5, setRow_other _ _ _ _ h1, ← hV4, Below.heap_setCell _ _ _ _ h2, ← hV3, setRow_other _ _ _ _ h2]
  have hown : ∀ {v : Value} {k : Nat} {xs : List Value}, w2.ownsRow V.heap.size 9 1 v k xs → V5.ownsRow N 9 1 v k xs := fun h => own_lowS (own_same h fun x c f _ hx => hoth x (fun e => by
    subst e
    rw [g0] at hx
    simp at hx) (fun e => by
    subst e
    rw [g1] at hx
    simp at hx)) hNV
  have HE : Hid (V5.ownsRow N 9 1 (.slice q1 nd c1) nd D ∧ V5.ownsRow N 9 1 (.slice q2 ng c2) ng G ∧ Below N w V5) := by
    refine ⟨hown o1, hown o2, ?_⟩
    rw [← hV5, ← hV4, ← hV3]
    exact below_setRow ((below_setRow hbw HMN.out.2.1 _).setCell (p := ⟨M, 3, none⟩) HMN.out.2.1 _) (Nat.le_refl _) _
  have H4 := Hid.mk hV4
  have H6 := Hid.mk k6
  clear o1 o2 hb2 g0 g1 gb hbw hNV hV3 k0 k1 hV4 k4 k5 hV5 k6 hoth hown
  go_upto_region 4 with fail
  rw [H4.out]
  clear kb k3 f3
  go_wp2
  refine bodyPost_ret (results_cell_row Tryz.results57 _ _ N 44 _ (0, 0) _ (by rfl) H6.out Tryz.underlying44 rfl (by kernel_rfl)) rfl ?_
  exact ⟨q1, c1, q2, c2, rfl, HE.out⟩
end
end Go.Proofs.YtikjepodmdaknaaGreatDoor.Rc
/- Layer 16: Get. -/
namespace Go.Proofs.YtikjepodmdaknaaGreatDoor.Rc
open Go.RowKit
theorem nodup_inj {α β : Type} {f : α → β} : ∀ {l : List α}, (l.map f).Nodup → ∀ {a b : α}, a ∈ l → b ∈ l → f a = f b → a = b
  | [], _, a, b, ha, _, _ => by cases ha
  | x :: l, h, a, b, ha, hb, e => by
    rw [List.map_cons, List.nodup_cons] at h
    rcases List.mem_cons.1 ha with rfl | ha'
    · rcases List.mem_cons.1 hb with rfl | hb'
      · rfl
      · exact absurd (e ▸ List.mem_map_of_mem hb') h.1
    · rcases List.mem_cons.1 hb with rfl | hb'
      · exact absurd (e ▸ List.mem_map_of_mem ha') h.1
      · exact nodup_inj h.2 ha' hb' e
section
variable {W w w' : World} {C T m n : Nat} {ver : Int} {l : ML} {Q : Nat → Prop}
theorem RC.got {k : Ky} {v : Nat × Ev} (h : RC W w C T m n ver l Q) (hg : getR l k = some v) (hf : Frn T w w') (ht : TabK W w' T (m : Int) n ((k, v.1) :: without (l.map fun p => (p.1, p.2.1)) k)) : RC W w' C T m n ver ((k, v) :: without l k) Q := by
  have hm := getR_mem hg
  refine h.next (FrC.frn hf) (hf.same C _ _ _ h.bx (by decide) (by decide)) ?_ (Nat.le_refl _) h.vb ?_ ?_ ?_
  · rw [List.map_cons, ← without_map Prod.fst l k]
    exact ht
  · intro p hp
    rcases List.mem_cons.1 hp with rfl | hp
    · exact hm
    · exact (mem_without.1 hp).1
  · have := getR_split hg
    have := h.len
    simp only [List.length_cons]
    omega
  · rw [List.map_cons, List.nodup_cons]
    refine ⟨fun hh => ?_, h.nd.sublist ((List.filter_sublist).map _)⟩
    obtain ⟨p, hp, e⟩ := List.mem_map.1 hh
    obtain ⟨hp1, hp2⟩ := mem_without.1 hp
    have : p = (k, v) := nodup_inj (f := fun p : Ky × (Nat × Ev) => p.2.1) h.nd hp1 hm e
    rw [this] at hp2
    exact hp2 rfl
theorem RC.gone {k : Ky} (h : RC W w C T m n ver l Q) (hf : Frn T w w') (ht : TabK W w' T (m : Int) n (without (l.map fun p => (p.1, p.2.1)) k)) : RC W w' C T m n ver (without l k) Q := by
  refine h.next (FrC.frn hf) (hf.same C _ _ _ h.bx (by decide) (by decide)) ?_ (Nat.le_refl _) h.vb (fun p hp => (mem_without.1 hp).1) (Nat.le_trans without_len h.len) (h.nd.sublist ((List.filter_sublist).map _))
  rw [← without_map Prod.fst l k]
  exact ht
end
theorem RC.rowN {W u : World} {C T m n N : Nat} {ver : Int} {l : ML} {Q : Nat → Prop} (h : RC W u C T m n ver l Q) {c : Array Value} (g : u.heap[N]? = some (.cells c 44 (0, 0))) (hW : W.heap.size ≤ N) (hne : ∀ p ∈ l, p.2.1 ≠ N) (cs : Array Value) : RC W (u.setRow N cs) C T m n ver l Q := by
  have hs : ∀ (b : Nat) (c : Array Value) (t : TypeId) (f : Nat × Nat), u.heap[b]? = some (.cells c t f) → t ≠ 44 → (u.setRow N cs).heap[b]? = some (.cells c t f) := fun b c t f hb ht => by
    rw [setRow_other _ _ _ _ (fun e => by subst e; rw [g] at hb; cases hb; exact ht rfl)]
    exact hb
  refine ⟨hs _ _ _ _ h.bx (by decide), h.own, ?_, fun p hp => ⟨?_, (h.ev p hp).2⟩, h.ok, h.len, h.nd, h.vb, h.mb⟩
  · obtain ⟨E, M, L, ho, e⟩ := h.tab
    refine ⟨E, M, L, ⟨ho.tab.same fun b hb => ?_, ho.own, below_setRow ho.bel hW _⟩, e⟩
    refine setRow_other _ _ _ _ (fun e => ?_)
    subst e
    rcases hb with x | x | x | x
    · have := ho.tab.tb; rw [← x, g] at this; cases this
    · obtain ⟨es, cl, hm⟩ := ho.tab.mp.isMap; rw [← x, g] at hm; cases hm
    · obtain ⟨c', hc, _⟩ := ho.tab.row.plc E (by simp); rw [← x, g] at hc; cases hc
    · obtain ⟨c', hc, _⟩ := ho.tab.row.plc b (List.mem_cons_of_mem _ x); rw [g] at hc; cases hc
  · obtain ⟨qd, cd, qg, cg, h0, h1, h2, r⟩ := (h.ev p hp).1
    refine ⟨qd, cd, qg, cg, (setRow_other _ _ _ _ (hne p hp)).trans h0, h1.same (fun b cur _ hb => ?_), h2.same (fun b cur _ hb => ?_), r⟩
    · exact (hs b _ _ _ hb (by decide)).trans hb.symm
    · exact (hs b _ _ _ hb (by decide)).trans hb.symm
theorem FrC.rowN {T : Nat} {w u : World} {N : Nat} (h : FrC T w u) (hN : w.heap.size ≤ N) (cs : Array Value) : FrC T w (u.setRow N cs) :=
  ⟨by rw [setRow_size]; exact h.size, fun b c t f hb h1 h2 h3 => (setRow_other _ _ _ _ (by have := blk_lt hb; omega)).trans (h.same b c t f hb h1 h2 h3), fun M hM => by
    have hT : T < w.heap.size := by
      unfold World.cell? at hM
      cases hb : w.heap[T]? with
      | none => rw [show (⟨T, 3, none⟩ : Addr).block = T from rfl, hb] at hM; simp at hM
      | some o => exact blk_lt hb
    exact ⟨(cell_same (setRow_other _ _ _ _ (by omega))).trans (h.mp M hM).1, fun b es cl hb hm => (setRow_other _ _ _ _ (by have := blk_lt hm; omega)).trans ((h.mp M hM).2 b es cl hb hm)⟩⟩
def GetP (W w w' : World) (C T m n : Nat) (ver : Int) (l : ML) (Q : Nat → Prop) (k : Ky) (now : Int) (e : Ending) : Prop :=
  RC W w' C T m n ver (getL l k now) Q ∧ FrC T w w' ∧
  ((foundA (abs l) k now = none ∧ e = .returned (.tuple #[.agg ze.toArray, .bool false])) ∨
   (∃ x q1 c1 q2 c2, foundA (abs l) k now = some x ∧ e = .returned (.tuple #[.agg (evC (toldE x now) q1 c1 q2 c2).toArray, .bool true]) ∧ w'.ownsRow w.heap.size 9 1 (.slice q1 x.s.ds.length c1) x.s.ds.length (strs x.s.ds) ∧ w'.ownsRow w.heap.size 9 1 (.slice q2 x.s.sg.length c2) x.s.sg.length (strs x.s.sg)))
theorem tim_iff {now : Int} : timB now = true ↔ 0 ≤ now ∧ now ≤ 4294967295 := by unfold timB; simp
theorem found_none {l : ML} {k : Ky} {now : Int} (h : getR l k = none) : foundA (abs l) k now = none ∧ getL l k now = l := by
  unfold foundA getL
  rw [abs_get, h]
  simp
theorem found_not {l : ML} {k : Ky} {now : Int} (h : timB now = false) : foundA (abs l) k now = none ∧ getL l k now = l := by
  unfold foundA getL
  rw [h]
  simp
theorem found_over {l : ML} {k : Ky} {now : Int} {v : Nat × Ev} (ht : timB now = true) (h : getR l k = some v) (ho : over v.2 now = true) : foundA (abs l) k now = none ∧ getL l k now = without l k := by
  unfold foundA getL
  rw [abs_get, h]
  simp [ht, ho]
theorem found_yes {l : ML} {k : Ky} {now : Int} {v : Nat × Ev} (ht : timB now = true) (h : getR l k = some v) (ho : over v.2 now = false) : foundA (abs l) k now = some v.2 ∧ getL l k now = (k, v) :: without l k := by
  unfold foundA getL
  rw [abs_get, h]
  simp [ht, ho]
end Go.Proofs.YtikjepodmdaknaaGreatDoor.Rc
