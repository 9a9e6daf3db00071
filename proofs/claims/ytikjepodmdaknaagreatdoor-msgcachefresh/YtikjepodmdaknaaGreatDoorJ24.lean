/- Texts of this proof, joined: RcGe, RcA. -/
import Derived.Deep.RegionHeld3
import Derived.Test.YtikjepodmdaknaaGreatDoorJ23
import Derived.Test.YtikjepodmdaknaaGreatDoorJ22
import Derived.Test.YtikjepodmdaknaaGreatDoorJ16
set_option linter.unusedVariables false
set_option linter.unusedSimpArgs false
/- Layer 16: Get's walks. -/
namespace Go.Proofs.YtikjepodmdaknaaGreatDoor.Rc
open Go.RowKit
section
attribute [local go_sem ↓] loadAt_en storeAt_en loadAt_se storeAt_se
theorem results_en {fn : Func} {p j : Tmp} (h : fn.results = #[.cell p 44, .tmp j]) {tmps : Array Value} {W : World} {b : Nat} {c : List Value} {t : Value} (hp : tmps.getD p undef = .pointer (some ⟨b, 0, none⟩)) (ht : tmps.getD j undef = t) (hb : W.heap[b]? = some (.cells c.toArray 44 (0, 0))) (hc : c.length = 10) : (results fn tmps).run Tryz.prog W = .ok (.tuple #[.agg c.toArray, t]) W := by
  have ht' : tmps[j]?.getD undef = t := by simpa using ht
  have hp' : tmps[p]?.getD undef = .pointer (some ⟨b, 0, none⟩) := by simpa using hp
  have hl : (loadVar 44 ⟨b, 0, none⟩).run Tryz.prog W = .ok (.agg c.toArray) W := by
    have := en_load hb hc
    simpa only [enLoad, Instr.loadAt, Instr.sureAddr, Sem.run_bind, Sem.run_pure, Result.andThen_ok] using this
  simp only [results, h]
  simp [hp', ht', asAddr, hl]
theorem ze_ones : ∀ v ∈ ze, v.oneCell' = true := by
  intro v hv
  simp at hv
  rcases hv with rfl | rfl | rfl | rfl | rfl | rfl | rfl | rfl | rfl | rfl <;> rfl
set_option maxRecDepth 100000 in
set_option maxHeartbeats 4000000 in
theorem rget_not {W w : World} {C T m n : Nat} {ver : Int} {l : ML} {Q : Nat → Prop} (h : RC W w C T m n ver l Q) (nm : ByteArray) (k now : Int) (ht : timB now = false) :
    Calls Tryz.prog 15 #[pt C, .string nm, .int .i64 k, .int .i64 now] w fun e w' => GetP W w w' C T m n ver l Q (keyS nm k) now e := by
  obtain ⟨N, hN⟩ : ∃ N, w.heap.size = N := ⟨_, rfl⟩
  obtain ⟨V, hV⟩ : ∃ V, w.alloc (.cells #[.string ⟨#[]⟩, .int .i64 0, .int .i64 0, .int .i64 0, .slice none 0 0, .slice none 0 0, .int .i64 0, .int .i64 0, .int .i64 0, .int .i64 0] 44) = V := ⟨_, rfl⟩
  have bV : Below N w V := by rw [← hV, ← hN]; exact (Below.refl _ _).alloc (Nat.le_refl _) _
  have gV : V.heap[N]? = some (.cells ze.toArray 44 (0, 0)) := by rw [← hV, ← hN]; exact heap_alloc_new w _
  obtain ⟨U, hU⟩ : ∃ U, V.setRow N #[.string ⟨#[]⟩, .int .i64 0, .int .i64 0, .int .i64 0, .slice none 0 0, .slice none 0 0, .int .i64 0, .int .i64 0, .int .i64 0, .int .i64 0] = U := ⟨_, rfl⟩
  have bU : Below N w U := by rw [← hU]; exact below_setRow bV (Nat.le_refl _) _
  have gU : U.heap[N]? = some (.cells ze.toArray 44 (0, 0)) := by rw [← hU]; exact row_self gV
  have st := en_store gV (c' := ze) rfl rfl ze_ones
  have HT : Hid (∀ w, Calls Tryz.prog 41 #[.int .i64 now] w fun e w' => e = .returned (.bool false) ∧ w' = w) := fun w => by have := isTime_in now w; rw [ht] at this; exact this
  have HF : Hid (GetP W w U C T m n ver l Q (keyS nm k) now (.returned (.tuple #[.agg ze.toArray, .bool false]))) := by
    obtain ⟨e1, e2⟩ := found_not (l := l) (k := keyS nm k) ht
    refine ⟨?_, FrC.below (by rw [hN]; exact bU), .inl ⟨e1, rfl⟩⟩
    rw [e2]
    exact h.blk (by rw [hN]; exact bU)
  rw [hU] at st
  have HV := Hid.mk hV
  have HG := Hid.mk gU
  clear h hV bV gV bU gU hU ht
  go_enter Tryz.func15, Tryz.ntmps15
  go_upto_region 1 with fail
  rw [HV.out]
  go_wp2_with fail
  refine (HT.out _).mono ?_
  rintro e w1 ⟨rfl, rfl⟩
  (try rw [hN])
  go_wp2
  refine bodyPost_ret (results_en Tryz.results15 rfl rfl HG.out rfl) rfl ?_
  exact HF.out
set_option maxRecDepth 100000 in
set_option maxHeartbeats 8000000 in
theorem rget_none {W w : World} {C T m n : Nat} {ver : Int} {l : ML} {Q : Nat → Prop} (h : RC W w C T m n ver l Q) (nm : ByteArray) (hnm : nm.size ≤ maxLen) (k now : Int) (hk : I64 k) (ht : timB now = true) (hget : getR l (keyS nm k) = none) :
    Calls Tryz.prog 15 #[pt C, .string nm, .int .i64 k, .int .i64 now] w fun e w' => GetP W w w' C T m n ver l Q (keyS nm k) now e := by
  obtain ⟨N, hN⟩ : ∃ N, w.heap.size = N := ⟨_, rfl⟩
  have hC := blk_lt h.bx
  have hko := keyS_ok hnm hk
  have hg1 : getR (l.map fun p => (p.1, p.2.1)) (keyS nm k) = none := by rw [getR_fst, hget]; rfl
  obtain ⟨V, hV⟩ : ∃ V, w.alloc (.cells #[.string ⟨#[]⟩, .int .i64 0, .int .i64 0, .int .i64 0, .slice none 0 0, .slice none 0 0, .int .i64 0, .int .i64 0, .int .i64 0, .int .i64 0] 44) = V := ⟨_, rfl⟩
  have bV : Below N w V := by rw [← hV, ← hN]; exact (Below.refl _ _).alloc (Nat.le_refl _) _
  have sV : V.heap.size = N + 1 := by rw [← hV]; simp [hN]
  have gV : V.heap[N]? = some (.cells ze.toArray 44 (0, 0)) := by rw [← hV, ← hN]; exact heap_alloc_new w _
  have HT : Hid (∀ w, Calls Tryz.prog 41 #[.int .i64 now] w fun e w' => e = .returned (.bool true) ∧ w' = w) := fun w => by have := isTime_in now w; rw [ht] at this; exact this
  have HKy : Hid (∀ w, Calls Tryz.prog 42 #[.string nm, .int .i64 k] w fun e w' => e = .returned (kV (keyS nm k)) ∧ Below w.heap.size w w') := fun w => keyOf_in nm k hnm w
  have HRC : Hid (∀ w', Below N w w' → RC W w' C T m n ver l Q) := fun w' hw => h.blk (by rw [hN]; exact hw)
  have HGt : Hid (∀ w', Below N w w' → Calls Tryz.prog 55 #[pt T, kV (keyS nm k)] w' fun r w2 => r = .returned (.tuple #[nilP, .bool false]) ∧ RC W w2 C T m n ver l Q ∧ Frn T w' w2) := fun w' hw => by
    have hr := h.blk (by rw [hN]; exact hw : Below w.heap.size w w')
    have := get_kv hr.tab (keyS nm k) hko
    rw [hg1] at this
    refine this.mono ?_
    rintro r w2 ⟨rfl, ht2, hf⟩
    exact ⟨rfl, hr.next (FrC.frn hf) (hf.same C _ _ _ hr.bx (by decide) (by decide)) ht2 (Nat.le_refl _) hr.vb (fun p hp => hp) hr.len hr.nd, hf⟩
  have HCl : Hid (∀ {w' l'}, RC W w' C T m n ver l' Q → w'.cell? ⟨C, 0, none⟩ = some (pt T)) := fun hr => by rw [So.cell_blk hr.bx]; rfl
  have HS0 : Hid (N < V.heap.size ∧ N ≤ V.heap.size ∧ Below N w V) := ⟨by omega, by omega, bV⟩
  have HgV := Hid.mk gV
  have HNb : Hid (∀ p ∈ l, p.2.1 ≠ N) := fun p hp => by have := (h.ev p hp).1.lt; omega
  have HS1 : Hid (W.heap.size ≤ N) := by rw [← hN]; exact h.bel.size
  have HS2 : Hid (w.heap.size ≤ N) := Nat.le_of_eq hN
  obtain ⟨lw, hlw⟩ : ∃ q, (keyS nm k).1 = q := ⟨_, rfl⟩
  have hkv : kV (keyS nm k) = .agg #[.string lw, .int .i64 k] := by rw [← hlw]; rfl
  rw [hkv] at HKy HGt
  have HF : Hid (∀ w' e, RC W w' C T m n ver l Q → FrC T w w' → e = .returned (.tuple #[.agg ze.toArray, .bool false]) → GetP W w w' C T m n ver l Q (keyS nm k) now e) := fun w' e h1 h2 h3 => by
    obtain ⟨e1, e2⟩ := found_none (now := now) hget
    refine ⟨by rw [e2]; exact h1, h2, .inl ⟨e1, h3⟩⟩
  have HFb : Hid (∀ w', Below N w w' → FrC T w w') := fun w' hw => FrC.below (by rw [hN]; exact hw)
  have HV := Hid.mk hV
  clear h hC hko hg1 hget hV bV sV gV ht hnm hk hkv hlw
  go_enter Tryz.func15, Tryz.ntmps15
  go_upto_region 1 with fail
  (try rw [hN])
  rw [HV.out]
  clear hN
  go_wp2_with fail
  refine (HT.out _).mono ?_
  rintro e w1 ⟨rfl, rfl⟩
  go_wp2_with fail
  refine (HKy.out _).mono ?_
  rintro e w3 ⟨rfl, hb3⟩
  have hB3 : Below N w w3 := HS0.out.2.2.trans (hb3.mono HS0.out.2.1)
  have g3 : w3.heap[N]? = some (.cells ze.toArray 44 (0, 0)) := (hb3.block N HS0.out.1).trans HgV.out
  clear hb3
  obtain ⟨P, hP⟩ : ∃ P, w3.heap.size = P := ⟨_, rfl⟩
  obtain ⟨U, hU⟩ : ∃ U, w3.alloc (.cells #[.string lw, .int .i64 k] 94) = U := ⟨_, rfl⟩
  have gU : U.heap[P]? = some (.cells #[.string lw, .int .i64 k] 94 (0, 0)) := by rw [← hU, ← hP]; exact heap_alloc_new w3 _
  have bU : Below N w U := by rw [← hU]; exact hB3.alloc (Nat.le_of_lt (blk_lt g3)) _
  have gN : U.heap[N]? = some (.cells ze.toArray 44 (0, 0)) := by rw [← hU, Below.heap_alloc _ _ _ (blk_lt g3)]; exact g3
  have HU := Hid.mk hU
  have HB : Hid (Below N w U ∧ U.heap[P]? = some (.cells #[.string lw, .int .i64 k] 94 (0, 0)) ∧ U.heap[N]? = some (.cells ze.toArray 44 (0, 0))) := ⟨bU, gU, gN⟩
  have HCc := Hid.mk (HCl.out (HRC.out _ bU))
  clear hU gU bU gN hB3 g3
  go_upto_region 4 with fail
  (try rw [hP])
  rw [HU.out]
  clear hP
  refine wp_region_held_drew (S := (fun w : World => w.cell? ⟨C, 0, none⟩ = some (pt T) ∧ w.cell? ⟨P, 0, none⟩ = some (.string lw) ∧ w.cell? ⟨P, 1, none⟩ = some (.int .i64 k))) (by kernel_rfl) ⟨HCc.out, by rw [So.cell_blk (w := World.drew U) HB.out.2.1]; rfl, by rw [So.cell_blk (w := World.drew U) HB.out.2.1]; rfl⟩ (fun hHeld => ?_)
  refine wU (i := 0) (v := ?va_0) rfl ?ya_0 (by assumption) ?_
  case ya_0 => (intro w hSw; (try dsimp only at hSw); go_simp; try with_reducible rfl)
  refine wU (i := 1) (v := ?va_1) rfl ?ya_1 (by assumption) ?_
  case ya_1 => (intro w hSw; (try dsimp only at hSw); go_simp; try with_reducible rfl)
  refine wU (i := 2) (v := ?va_2) rfl ?ya_2 (by assumption) ?_
  case ya_2 => (intro w hSw; (try dsimp only at hSw); go_simp; try with_reducible rfl)
  refine wU (i := 3) (v := ?va_3) rfl ?ya_3 (by assumption) ?_
  case ya_3 => (intro w hSw; (try dsimp only at hSw); go_simp; try with_reducible rfl)
  refine wU (i := 4) (v := ?va_4) rfl ?ya_4 (by assumption) ?_
  case ya_4 => (intro w hSw; (try dsimp only at hSw); go_simp; try with_reducible rfl)
  try simp only [Act.put, List.getElem_toArray, List.getElem_cons_succ, List.getElem_cons_zero, List.setIfInBounds_toArray, List.set_cons_zero, List.set_cons_succ]
  refine wpAnyH_ready (rs := [5]) (by kernel_rfl) (by simp) ?_
  refine AllReadyH.cons rfl (fun K hK => ?_) AllReadyH.nil
  go_simp
  go_at_call 55
  refine (HGt.out _ HB.out.1.drew).mono ?_
  rintro e w4 ⟨rfl, hr4, hf4⟩
  have g4 : w4.heap[P]? = some (.cells #[.string lw, .int .i64 k] 94 (0, 0)) := hf4.same P _ _ _ HB.out.2.1 (by decide) (by decide)
  have g4N : w4.heap[N]? = some (.cells ze.toArray 44 (0, 0)) := hf4.same N _ _ _ HB.out.2.2 (by decide) (by decide)
  have HF4 : Hid (FrC T w w4) := (HFb.out _ HB.out.1.drew).trans (FrC.frn hf4)
  have HR4 := Hid.mk hr4
  have HG4 := Hid.mk (And.intro g4 g4N)
  have hS4 : (fun w : World => w.cell? ⟨C, 0, none⟩ = some (pt T) ∧ w.cell? ⟨P, 0, none⟩ = some (.string lw) ∧ w.cell? ⟨P, 1, none⟩ = some (.int .i64 k)) w4 := ⟨HCl.out hr4, by rw [So.cell_blk g4]; rfl, by rw [So.cell_blk g4]; rfl⟩
  refine hK.out _ _ hS4 (fun hHeld => ?_)
  clear hK K hr4 hf4 g4 g4N
  try simp only [Act.put, List.getElem_toArray, List.getElem_cons_succ, List.getElem_cons_zero, List.setIfInBounds_toArray, List.set_cons_zero, List.set_cons_succ]
  refine wU (i := 6) (v := ?vb_6) rfl ?yb_6 (by assumption) ?_
  case yb_6 => (intro w hSw; (try dsimp only at hSw); go_simp; try with_reducible rfl)
  refine wU (i := 7) (v := ?vb_7) rfl ?yb_7 (by assumption) ?_
  case yb_7 => (intro w hSw; (try dsimp only at hSw); go_simp; try with_reducible rfl)
  refine wU (i := 8) (v := ?vb_8) rfl ?yb_8 (by assumption) ?_
  case yb_8 => (intro w hSw; (try dsimp only at hSw); go_simp; try with_reducible rfl)
  try simp only [Act.put, List.getElem_toArray, List.getElem_cons_succ, List.getElem_cons_zero, List.setIfInBounds_toArray, List.set_cons_zero, List.set_cons_succ]
  refine wU (i := 9) (v := ?vc_9) rfl ?yc_9 (by assumption) ?_
  case yc_9 => (intro w hSw; (try dsimp only at hSw); go_simp; try with_reducible rfl)
  try simp only [Act.put, List.getElem_toArray, List.getElem_cons_succ, List.getElem_cons_zero, List.setIfInBounds_toArray, List.set_cons_zero, List.set_cons_succ]
  refine wU (i := 10) (v := ?vd_10) rfl ?yd_10 (by assumption) ?_
  case yd_10 => (intro w hSw; (try dsimp only at hSw); go_simp; try with_reducible rfl)
  try simp only [Act.put, List.getElem_toArray, List.getElem_cons_succ, List.getElem_cons_zero, List.setIfInBounds_toArray, List.set_cons_zero, List.set_cons_succ]
  refine wpAnyH_done (by kernel_rfl) ?_ _
  clear hHeld hS4
  obtain ⟨X, hX⟩ : ∃ X, w4.setRow N #[.string ⟨#[]⟩, .int .i64 0, .int .i64 0, .int .i64 0, .slice none 0 0, .slice none 0 0, .int .i64 0, .int .i64 0, .int .i64 0, .int .i64 0] = X := ⟨_, rfl⟩
  have st := en_store (w := w4) HG4.out.2 (c' := ze) rfl rfl ze_ones
  rw [hX] at st
  have HE : Hid (GetP W w X C T m n ver l Q (keyS nm k) now (.returned (.tuple #[.agg ze.toArray, .bool false]))) := by
    refine HF.out _ _ ?_ ?_ rfl
    · rw [← hX]; exact RC.rowN HR4.out HG4.out.2 HS1.out (fun p hp => HNb.out p hp) _
    · rw [← hX]; exact HF4.out.rowN HS2.out _
  have HXN : Hid (X.heap[N]? = some (.cells ze.toArray 44 (0, 0))) := by rw [Hid, ← hX]; exact row_self HG4.out.2
  clear hX
  go_wp2
  refine bodyPost_ret (results_en Tryz.results15 rfl rfl HXN.out rfl) rfl ?_
  exact HE.out
set_option maxRecDepth 100000 in
set_option maxHeartbeats 8000000 in
theorem rget_over {W w : World} {C T m n : Nat} {ver : Int} {l : ML} {Q : Nat → Prop} (h : RC W w C T m n ver l Q) (nm : ByteArray) (hnm : nm.size ≤ maxLen) (k now : Int) (hk : I64 k) (ht : timB now = true) (b : Nat) (x : Ev) (hget : getR l (keyS nm k) = some (b, x)) (ho : over x now = true) :
    Calls Tryz.prog 15 #[pt C, .string nm, .int .i64 k, .int .i64 now] w fun e w' => GetP W w w' C T m n ver l Q (keyS nm k) now e := by
  obtain ⟨N, hN⟩ : ∃ N, w.heap.size = N := ⟨_, rfl⟩
  have hC := blk_lt h.bx
  have hko := keyS_ok hnm hk
  have hg1 : getR (l.map fun p => (p.1, p.2.1)) (keyS nm k) = some b := by rw [getR_fst, hget]; rfl
  obtain ⟨V, hV⟩ : ∃ V, w.alloc (.cells #[.string ⟨#[]⟩, .int .i64 0, .int .i64 0, .int .i64 0, .slice none 0 0, .slice none 0 0, .int .i64 0, .int .i64 0, .int .i64 0, .int .i64 0] 44) = V := ⟨_, rfl⟩
  have bV : Below N w V := by rw [← hV, ← hN]; exact (Below.refl _ _).alloc (Nat.le_refl _) _
  have sV : V.heap.size = N + 1 := by rw [← hV]; simp [hN]
  have gV : V.heap[N]? = some (.cells ze.toArray 44 (0, 0)) := by rw [← hV, ← hN]; exact heap_alloc_new w _
  have HT : Hid (∀ w, Calls Tryz.prog 41 #[.int .i64 now] w fun e w' => e = .returned (.bool true) ∧ w' = w) := fun w => by have := isTime_in now w; rw [ht] at this; exact this
  have HKy : Hid (∀ w, Calls Tryz.prog 42 #[.string nm, .int .i64 k] w fun e w' => e = .returned (kV (keyS nm k)) ∧ Below w.heap.size w w') := fun w => keyOf_in nm k hnm w
  have HRC : Hid (∀ w', Below N w w' → RC W w' C T m n ver l Q) := fun w' hw => h.blk (by rw [hN]; exact hw)
  have HGt : Hid (∀ w', Below N w w' → Calls Tryz.prog 55 #[pt T, kV (keyS nm k)] w' fun r w2 => r = .returned (.tuple #[pt b, .bool true]) ∧ RC W w2 C T m n ver ((keyS nm k, (b, x)) :: without l (keyS nm k)) Q ∧ Frn T w' w2) := fun w' hw => by
    have hr := h.blk (by rw [hN]; exact hw : Below w.heap.size w w')
    have := get_kv hr.tab (keyS nm k) hko
    rw [hg1] at this
    refine this.mono ?_
    rintro r w2 ⟨rfl, ht2, hf⟩
    exact ⟨rfl, RC.got hr hget hf ht2, hf⟩
  have HCl : Hid (∀ {w' l'}, RC W w' C T m n ver l' Q → w'.cell? ⟨C, 0, none⟩ = some (pt T)) := fun hr => by rw [So.cell_blk hr.bx]; rfl
  have HS0 : Hid (N < V.heap.size ∧ N ≤ V.heap.size ∧ Below N w V) := ⟨by omega, by omega, bV⟩
  have HgV := Hid.mk gV
  have HNb : Hid (∀ p ∈ l, p.2.1 ≠ N) := fun p hp => by have := (h.ev p hp).1.lt; omega
  have HS1 : Hid (W.heap.size ≤ N) := by rw [← hN]; exact h.bel.size
  have HS2 : Hid (w.heap.size ≤ N) := Nat.le_of_eq hN
  have HOv : Hid (∀ w', RC W w' C T m n ver ((keyS nm k, (b, x)) :: without l (keyS nm k)) Q → Calls Tryz.prog 44 #[pt b, .int .i64 now] w' fun e w2 => e = .returned (.bool true) ∧ w2 = w') := fun w' hr => by
    have := over_in (hr.ev _ (List.mem_cons_self)).1 now
    rw [ho] at this
    exact this
  have HDr : Hid (∀ w', RC W w' C T m n ver ((keyS nm k, (b, x)) :: without l (keyS nm k)) Q → Calls Tryz.prog 56 #[pt T, kV (keyS nm k)] w' fun r w2 => (∃ bb, r = .returned (.bool bb)) ∧ RC W w2 C T m n ver (without l (keyS nm k)) Q ∧ Frn T w' w2) := fun w' hr => by
    refine (drop_kv hr.tab (keyS nm k) hko).mono ?_
    rintro r w2 ⟨rfl, ht2, hf⟩
    have := RC.gone hr hf ht2
    rw [without_head] at this
    exact ⟨⟨_, rfl⟩, this, hf⟩
  obtain ⟨lw, hlw⟩ : ∃ q, (keyS nm k).1 = q := ⟨_, rfl⟩
  have hkv : kV (keyS nm k) = .agg #[.string lw, .int .i64 k] := by rw [← hlw]; rfl
  rw [hkv] at HKy HGt HDr
  have HF : Hid (∀ w' e, RC W w' C T m n ver (without l (keyS nm k)) Q → FrC T w w' → e = .returned (.tuple #[.agg ze.toArray, .bool false]) → GetP W w w' C T m n ver l Q (keyS nm k) now e) := fun w' e h1 h2 h3 => by
    obtain ⟨e1, e2⟩ := found_over ht hget ho
    refine ⟨by rw [e2]; exact h1, h2, .inl ⟨e1, h3⟩⟩
  have HFb : Hid (∀ w', Below N w w' → FrC T w w') := fun w' hw => FrC.below (by rw [hN]; exact hw)
  have HV := Hid.mk hV
  clear h hC hko hg1 hget hV bV sV gV ht hnm hk hkv hlw ho
  go_enter Tryz.func15, Tryz.ntmps15
  go_upto_region 1 with fail
  (try rw [hN])
  rw [HV.out]
  clear hN
  go_wp2_with fail
  refine (HT.out _).mono ?_
  rintro e w1 ⟨rfl, rfl⟩
  go_wp2_with fail
  refine (HKy.out _).mono ?_
  rintro e w3 ⟨rfl, hb3⟩
  have hB3 : Below N w w3 := HS0.out.2.2.trans (hb3.mono HS0.out.2.1)
  have g3 : w3.heap[N]? = some (.cells ze.toArray 44 (0, 0)) := (hb3.block N HS0.out.1).trans HgV.out
  clear hb3
  obtain ⟨P, hP⟩ : ∃ P, w3.heap.size = P := ⟨_, rfl⟩
  obtain ⟨U, hU⟩ : ∃ U, w3.alloc (.cells #[.string lw, .int .i64 k] 94) = U := ⟨_, rfl⟩
  have gU : U.heap[P]? = some (.cells #[.string lw, .int .i64 k] 94 (0, 0)) := by rw [← hU, ← hP]; exact heap_alloc_new w3 _
  have bU : Below N w U := by rw [← hU]; exact hB3.alloc (Nat.le_of_lt (blk_lt g3)) _
  have gN : U.heap[N]? = some (.cells ze.toArray 44 (0, 0)) := by rw [← hU, Below.heap_alloc _ _ _ (blk_lt g3)]; exact g3
  have HU := Hid.mk hU
  have HB : Hid (Below N w U ∧ U.heap[P]? = some (.cells #[.string lw, .int .i64 k] 94 (0, 0)) ∧ U.heap[N]? = some (.cells ze.toArray 44 (0, 0))) := ⟨bU, gU, gN⟩
  have HCc := Hid.mk (HCl.out (HRC.out _ bU))
  clear hU gU bU gN hB3 g3
  go_upto_region 4 with fail
  (try rw [hP])
  rw [HU.out]
  clear hP
  refine wp_region_held_drew (S := (fun w : World => w.cell? ⟨C, 0, none⟩ = some (pt T) ∧ w.cell? ⟨P, 0, none⟩ = some (.string lw) ∧ w.cell? ⟨P, 1, none⟩ = some (.int .i64 k))) (by kernel_rfl) ⟨HCc.out, by rw [So.cell_blk (w := World.drew U) HB.out.2.1]; rfl, by rw [So.cell_blk (w := World.drew U) HB.out.2.1]; rfl⟩ (fun hHeld => ?_)
  refine wU (i := 0) (v := ?va_0) rfl ?ya_0 (by assumption) ?_
  case ya_0 => (intro w hSw; (try dsimp only at hSw); go_simp; try with_reducible rfl)
  refine wU (i := 1) (v := ?va_1) rfl ?ya_1 (by assumption) ?_
  case ya_1 => (intro w hSw; (try dsimp only at hSw); go_simp; try with_reducible rfl)
  refine wU (i := 2) (v := ?va_2) rfl ?ya_2 (by assumption) ?_
  case ya_2 => (intro w hSw; (try dsimp only at hSw); go_simp; try with_reducible rfl)
  refine wU (i := 3) (v := ?va_3) rfl ?ya_3 (by assumption) ?_
  case ya_3 => (intro w hSw; (try dsimp only at hSw); go_simp; try with_reducible rfl)
  refine wU (i := 4) (v := ?va_4) rfl ?ya_4 (by assumption) ?_
  case ya_4 => (intro w hSw; (try dsimp only at hSw); go_simp; try with_reducible rfl)
  try simp only [Act.put, List.getElem_toArray, List.getElem_cons_succ, List.getElem_cons_zero, List.setIfInBounds_toArray, List.set_cons_zero, List.set_cons_succ]
  refine wpAnyH_ready (rs := [5]) (by kernel_rfl) (by simp) ?_
  refine AllReadyH.cons rfl (fun K hK => ?_) AllReadyH.nil
  go_simp
  go_at_call 55
  refine (HGt.out _ HB.out.1.drew).mono ?_
  rintro e w4 ⟨rfl, hr4, hf4⟩
  have g4 : w4.heap[P]? = some (.cells #[.string lw, .int .i64 k] 94 (0, 0)) := hf4.same P _ _ _ HB.out.2.1 (by decide) (by decide)
  have g4N : w4.heap[N]? = some (.cells ze.toArray 44 (0, 0)) := hf4.same N _ _ _ HB.out.2.2 (by decide) (by decide)
  have HF4 : Hid (FrC T w w4) := (HFb.out _ HB.out.1.drew).trans (FrC.frn hf4)
  have HR4 := Hid.mk hr4
  have HG4 := Hid.mk (And.intro g4 g4N)
  have hS4 : (fun w : World => w.cell? ⟨C, 0, none⟩ = some (pt T) ∧ w.cell? ⟨P, 0, none⟩ = some (.string lw) ∧ w.cell? ⟨P, 1, none⟩ = some (.int .i64 k)) w4 := ⟨HCl.out hr4, by rw [So.cell_blk g4]; rfl, by rw [So.cell_blk g4]; rfl⟩
  refine hK.out _ _ hS4 (fun hHeld => ?_)
  clear hK K hr4 hf4 g4 g4N
  try simp only [Act.put, List.getElem_toArray, List.getElem_cons_succ, List.getElem_cons_zero, List.setIfInBounds_toArray, List.set_cons_zero, List.set_cons_succ]
  refine wU (i := 6) (v := ?vb_6) rfl ?yb_6 (by assumption) ?_
  case yb_6 => (intro w hSw; (try dsimp only at hSw); go_simp; try with_reducible rfl)
  refine wU (i := 7) (v := ?vb_7) rfl ?yb_7 (by assumption) ?_
  case yb_7 => (intro w hSw; (try dsimp only at hSw); go_simp; try with_reducible rfl)
  refine wU (i := 8) (v := ?vb_8) rfl ?yb_8 (by assumption) ?_
  case yb_8 => (intro w hSw; (try dsimp only at hSw); go_simp; try with_reducible rfl)
  try simp only [Act.put, List.getElem_toArray, List.getElem_cons_succ, List.getElem_cons_zero, List.setIfInBounds_toArray, List.set_cons_zero, List.set_cons_succ]
  refine wU (i := 9) (v := ?vc_9) rfl ?yc_9 (by assumption) ?_
  case yc_9 => (intro w hSw; (try dsimp only at hSw); go_simp; try with_reducible rfl)
  try simp only [Act.put, List.getElem_toArray, List.getElem_cons_succ, List.getElem_cons_zero, List.setIfInBounds_toArray, List.set_cons_zero, List.set_cons_succ]
  refine wU (i := 10) (v := ?vd_10) rfl ?yd_10 (by assumption) ?_
  case yd_10 => (intro w hSw; (try dsimp only at hSw); go_simp; try with_reducible rfl)
  try simp only [Act.put, List.getElem_toArray, List.getElem_cons_succ, List.getElem_cons_zero, List.setIfInBounds_toArray, List.set_cons_zero, List.set_cons_succ]
  refine wpAnyH_done (by kernel_rfl) ?_ _
  clear hHeld
  have HO4 := Hid.mk (HOv.out _ HR4.out)
  go_wp2_with fail
  refine HO4.out.mono ?_
  rintro e w9 ⟨rfl, rfl⟩
  go_upto_region 8 with fail
  refine wp_region_held_drew (S := (fun w : World => w.cell? ⟨C, 0, none⟩ = some (pt T) ∧ w.cell? ⟨P, 0, none⟩ = some (.string lw) ∧ w.cell? ⟨P, 1, none⟩ = some (.int .i64 k))) (by kernel_rfl) hS4 (fun hHeld => ?_)
  refine wU (i := 0) (v := ?ve_0) rfl ?ye_0 (by assumption) ?_
  case ye_0 => (intro w hSw; (try dsimp only at hSw); go_simp; try with_reducible rfl)
  refine wU (i := 1) (v := ?ve_1) rfl ?ye_1 (by assumption) ?_
  case ye_1 => (intro w hSw; (try dsimp only at hSw); go_simp; try with_reducible rfl)
  refine wU (i := 2) (v := ?ve_2) rfl ?ye_2 (by assumption) ?_
  case ye_2 => (intro w hSw; (try dsimp only at hSw); go_simp; try with_reducible rfl)
  refine wU (i := 3) (v := ?ve_3) rfl ?ye_3 (by assumption) ?_
  case ye_3 => (intro w hSw; (try dsimp only at hSw); go_simp; try with_reducible rfl)
  refine wU (i := 4) (v := ?ve_4) rfl ?ye_4 (by assumption) ?_
  case ye_4 => (intro w hSw; (try dsimp only at hSw); go_simp; try with_reducible rfl)
  try simp only [Act.put, List.getElem_toArray, List.getElem_cons_succ, List.getElem_cons_zero, List.setIfInBounds_toArray, List.set_cons_zero, List.set_cons_succ]
  refine wpAnyH_ready (rs := [5]) (by kernel_rfl) (by simp) ?_
  refine AllReadyH.cons rfl (fun K hK => ?_) AllReadyH.nil
  go_simp
  go_at_call 56
  refine (HDr.out _ HR4.out.drew).mono ?_
  rintro e w6 ⟨⟨bb, rfl⟩, hr6, hf6⟩
  have g6 : w6.heap[P]? = some (.cells #[.string lw, .int .i64 k] 94 (0, 0)) := hf6.same P _ _ _ HG4.out.1 (by decide) (by decide)
  have g6N : w6.heap[N]? = some (.cells ze.toArray 44 (0, 0)) := hf6.same N _ _ _ HG4.out.2 (by decide) (by decide)
  have HF6 : Hid (FrC T w w6) := HF4.out.drew.trans (FrC.frn hf6)
  have HR6 := Hid.mk hr6
  have HG6 := Hid.mk g6N
  have hS6 : (fun w : World => w.cell? ⟨C, 0, none⟩ = some (pt T) ∧ w.cell? ⟨P, 0, none⟩ = some (.string lw) ∧ w.cell? ⟨P, 1, none⟩ = some (.int .i64 k)) w6 := ⟨HCl.out hr6, by rw [So.cell_blk g6]; rfl, by rw [So.cell_blk g6]; rfl⟩
  refine hK.out _ _ hS6 (fun hHeld => ?_)
  clear hK K hr6 hf6 g6 g6N
  try simp only [Act.put, List.getElem_toArray, List.getElem_cons_succ, List.getElem_cons_zero, List.setIfInBounds_toArray, List.set_cons_zero, List.set_cons_succ]
  refine wpAnyH_done (by kernel_rfl) ?_ _
  clear hHeld hS4 hS6
  obtain ⟨X, hX⟩ : ∃ X, w6.setRow N #[.string ⟨#[]⟩, .int .i64 0, .int .i64 0, .int .i64 0, .slice none 0 0, .slice none 0 0, .int .i64 0, .int .i64 0, .int .i64 0, .int .i64 0] = X := ⟨_, rfl⟩
  have st := en_store (w := w6) HG6.out (c' := ze) rfl rfl ze_ones
  rw [hX] at st
  have HE : Hid (GetP W w X C T m n ver l Q (keyS nm k) now (.returned (.tuple #[.agg ze.toArray, .bool false]))) := by
    refine HF.out _ _ ?_ ?_ rfl
    · rw [← hX]; exact RC.rowN HR6.out HG6.out HS1.out (fun p hp => HNb.out p (mem_without.1 hp).1) _
    · rw [← hX]; exact HF6.out.rowN HS2.out _
  have HXN : Hid (X.heap[N]? = some (.cells ze.toArray 44 (0, 0))) := by rw [Hid, ← hX]; exact row_self HG6.out
  clear hX
  go_wp2
  refine bodyPost_ret (results_en Tryz.results15 rfl rfl HXN.out rfl) rfl ?_
  exact HE.out
set_option maxRecDepth 100000 in
set_option maxHeartbeats 8000000 in
theorem rget_yes {W w : World} {C T m n : Nat} {ver : Int} {l : ML} {Q : Nat → Prop} (h : RC W w C T m n ver l Q) (nm : ByteArray) (hnm : nm.size ≤ maxLen) (k now : Int) (hk : I64 k) (ht : timB now = true) (b : Nat) (x : Ev) (hget : getR l (keyS nm k) = some (b, x)) (ho : over x now = false) :
    Calls Tryz.prog 15 #[pt C, .string nm, .int .i64 k, .int .i64 now] w fun e w' => GetP W w w' C T m n ver l Q (keyS nm k) now e := by
  obtain ⟨N, hN⟩ : ∃ N, w.heap.size = N := ⟨_, rfl⟩
  have hC := blk_lt h.bx
  have hko := keyS_ok hnm hk
  have hg1 : getR (l.map fun p => (p.1, p.2.1)) (keyS nm k) = some b := by rw [getR_fst, hget]; rfl
  obtain ⟨V, hV⟩ : ∃ V, w.alloc (.cells #[.string ⟨#[]⟩, .int .i64 0, .int .i64 0, .int .i64 0, .slice none 0 0, .slice none 0 0, .int .i64 0, .int .i64 0, .int .i64 0, .int .i64 0] 44) = V := ⟨_, rfl⟩
  have bV : Below N w V := by rw [← hV, ← hN]; exact (Below.refl _ _).alloc (Nat.le_refl _) _
  have sV : V.heap.size = N + 1 := by rw [← hV]; simp [hN]
  have gV : V.heap[N]? = some (.cells ze.toArray 44 (0, 0)) := by rw [← hV, ← hN]; exact heap_alloc_new w _
  have HT : Hid (∀ w, Calls Tryz.prog 41 #[.int .i64 now] w fun e w' => e = .returned (.bool true) ∧ w' = w) := fun w => by have := isTime_in now w; rw [ht] at this; exact this
  have HKy : Hid (∀ w, Calls Tryz.prog 42 #[.string nm, .int .i64 k] w fun e w' => e = .returned (kV (keyS nm k)) ∧ Below w.heap.size w w') := fun w => keyOf_in nm k hnm w
  have HRC : Hid (∀ w', Below N w w' → RC W w' C T m n ver l Q) := fun w' hw => h.blk (by rw [hN]; exact hw)
  have HGt : Hid (∀ w', Below N w w' → Calls Tryz.prog 55 #[pt T, kV (keyS nm k)] w' fun r w2 => r = .returned (.tuple #[pt b, .bool true]) ∧ RC W w2 C T m n ver ((keyS nm k, (b, x)) :: without l (keyS nm k)) Q ∧ Frn T w' w2) := fun w' hw => by
    have hr := h.blk (by rw [hN]; exact hw : Below w.heap.size w w')
    have := get_kv hr.tab (keyS nm k) hko
    rw [hg1] at this
    refine this.mono ?_
    rintro r w2 ⟨rfl, ht2, hf⟩
    exact ⟨rfl, RC.got hr hget hf ht2, hf⟩
  have HCl : Hid (∀ {w' l'}, RC W w' C T m n ver l' Q → w'.cell? ⟨C, 0, none⟩ = some (pt T)) := fun hr => by rw [So.cell_blk hr.bx]; rfl
  have HS0 : Hid (N < V.heap.size ∧ N ≤ V.heap.size ∧ Below N w V) := ⟨by omega, by omega, bV⟩
  have HgV := Hid.mk gV
  have HNb : Hid (∀ p ∈ l, p.2.1 ≠ N) := fun p hp => by have := (h.ev p hp).1.lt; omega
  have HS1 : Hid (W.heap.size ≤ N) := by rw [← hN]; exact h.bel.size
  have HS2 : Hid (w.heap.size ≤ N) := Nat.le_of_eq hN
  have HOv : Hid (∀ w', RC W w' C T m n ver ((keyS nm k, (b, x)) :: without l (keyS nm k)) Q → Calls Tryz.prog 44 #[pt b, .int .i64 now] w' fun e w2 => e = .returned (.bool false) ∧ w2 = w') := fun w' hr => by
    have := over_in (hr.ev _ (List.mem_cons_self)).1 now
    rw [ho] at this
    exact this
  have htm := tim_iff.1 ht
  have hun : now < x.un := by
    unfold over at ho
    have := of_decide_eq_false ho
    omega
  have hxi := (h.ok _ (getR_mem hget)).2
  have HMem : Hid ((keyS nm k, (b, x)) ∈ l) := getR_mem hget
  have HTo : Hid (∀ w', RC W w' C T m n ver ((keyS nm k, (b, x)) :: without l (keyS nm k)) Q → Calls Tryz.prog 57 #[pt b, .int .i64 now] w' fun e w2 => ∃ q1 c1 q2 c2, e = .returned (.agg (evC (toldE x now) q1 c1 q2 c2).toArray) ∧ w2.ownsRow w'.heap.size 9 1 (.slice q1 x.s.ds.length c1) x.s.ds.length (strs x.s.ds) ∧ w2.ownsRow w'.heap.size 9 1 (.slice q2 x.s.sg.length c2) x.s.sg.length (strs x.s.sg) ∧ Below w'.heap.size w' w2) := fun w' hr => toldAt_in (hr.ev _ (List.mem_cons_self)).1 hxi now htm.1 hun
  obtain ⟨lw, hlw⟩ : ∃ q, (keyS nm k).1 = q := ⟨_, rfl⟩
  have hkv : kV (keyS nm k) = .agg #[.string lw, .int .i64 k] := by rw [← hlw]; rfl
  rw [hkv] at HKy HGt
  have HF : Hid (∀ w' e, RC W w' C T m n ver ((keyS nm k, (b, x)) :: without l (keyS nm k)) Q → FrC T w w' → (∃ q1 c1 q2 c2, e = .returned (.tuple #[.agg (evC (toldE x now) q1 c1 q2 c2).toArray, .bool true]) ∧ w'.ownsRow w.heap.size 9 1 (.slice q1 x.s.ds.length c1) x.s.ds.length (strs x.s.ds) ∧ w'.ownsRow w.heap.size 9 1 (.slice q2 x.s.sg.length c2) x.s.sg.length (strs x.s.sg)) → GetP W w w' C T m n ver l Q (keyS nm k) now e) := fun w' e h1 h2 h3 => by
    obtain ⟨e1, e2⟩ := found_yes ht hget ho
    refine ⟨by rw [e2]; exact h1, h2, .inr (by
      obtain ⟨q1, c1, q2, c2, r⟩ := h3
      exact ⟨x, q1, c1, q2, c2, e1, r⟩)⟩
  have HFb : Hid (∀ w', Below N w w' → FrC T w w') := fun w' hw => FrC.below (by rw [hN]; exact hw)
  have HV := Hid.mk hV
  clear h hC hko hg1 hget hV bV sV gV ht hnm hk hkv hlw ho htm hun hxi
  go_enter Tryz.func15, Tryz.ntmps15
  go_upto_region 1 with fail
  (try rw [hN])
  rw [HV.out]
  clear hN
  go_wp2_with fail
  refine (HT.out _).mono ?_
  rintro e w1 ⟨rfl, rfl⟩
  go_wp2_with fail
  refine (HKy.out _).mono ?_
  rintro e w3 ⟨rfl, hb3⟩
  have hB3 : Below N w w3 := HS0.out.2.2.trans (hb3.mono HS0.out.2.1)
  have g3 : w3.heap[N]? = some (.cells ze.toArray 44 (0, 0)) := (hb3.block N HS0.out.1).trans HgV.out
  clear hb3
  obtain ⟨P, hP⟩ : ∃ P, w3.heap.size = P := ⟨_, rfl⟩
  obtain ⟨U, hU⟩ : ∃ U, w3.alloc (.cells #[.string lw, .int .i64 k] 94) = U := ⟨_, rfl⟩
  have gU : U.heap[P]? = some (.cells #[.string lw, .int .i64 k] 94 (0, 0)) := by rw [← hU, ← hP]; exact heap_alloc_new w3 _
  have bU : Below N w U := by rw [← hU]; exact hB3.alloc (Nat.le_of_lt (blk_lt g3)) _
  have gN : U.heap[N]? = some (.cells ze.toArray 44 (0, 0)) := by rw [← hU, Below.heap_alloc _ _ _ (blk_lt g3)]; exact g3
  have HU := Hid.mk hU
  have HB : Hid (Below N w U ∧ U.heap[P]? = some (.cells #[.string lw, .int .i64 k] 94 (0, 0)) ∧ U.heap[N]? = some (.cells ze.toArray 44 (0, 0))) := ⟨bU, gU, gN⟩
  have HCc := Hid.mk (HCl.out (HRC.out _ bU))
  clear hU gU bU gN hB3 g3
  go_upto_region 4 with fail
  (try rw [hP])
  rw [HU.out]
  clear hP
  refine wp_region_held_drew (S := (fun w : World => w.cell? ⟨C, 0, none⟩ = some (pt T) ∧ w.cell? ⟨P, 0, none⟩ = some (.string lw) ∧ w.cell? ⟨P, 1, none⟩ = some (.int .i64 k))) (by kernel_rfl) ⟨HCc.out, by rw [So.cell_blk (w := World.drew U) HB.out.2.1]; rfl, by rw [So.cell_blk (w := World.drew U) HB.out.2.1]; rfl⟩ (fun hHeld => ?_)
  refine wU (i := 0) (v := ?va_0) rfl ?ya_0 (by assumption) ?_
  case ya_0 => (intro w hSw; (try dsimp only at hSw); go_simp; try with_reducible rfl)
  refine wU (i := 1) (v := ?va_1) rfl ?ya_1 (by assumption) ?_
  case ya_1 => (intro w hSw; (try dsimp only at hSw); go_simp; try with_reducible rfl)
  refine wU (i := 2) (v := ?va_2) rfl ?ya_2 (by assumption) ?_
  case ya_2 => (intro w hSw; (try dsimp only at hSw); go_simp; try with_reducible rfl)
  refine wU (i := 3) (v := ?va_3) rfl ?ya_3 (by assumption) ?_
  case ya_3 => (intro w hSw; (try dsimp only at hSw); go_simp; try with_reducible rfl)
  refine wU (i := 4) (v := ?va_4) rfl ?ya_4 (by assumption) ?_
  case ya_4 => (intro w hSw; (try dsimp only at hSw); go_simp; try with_reducible rfl)
  try simp only [Act.put, List.getElem_toArray, List.getElem_cons_succ, List.getElem_cons_zero, List.setIfInBounds_toArray, List.set_cons_zero, List.set_cons_succ]
  refine wpAnyH_ready (rs := [5]) (by kernel_rfl) (by simp) ?_
  refine AllReadyH.cons rfl (fun K hK => ?_) AllReadyH.nil
  go_simp
  go_at_call 55
  refine (HGt.out _ HB.out.1.drew).mono ?_
  rintro e w4 ⟨rfl, hr4, hf4⟩
  have g4 : w4.heap[P]? = some (.cells #[.string lw, .int .i64 k] 94 (0, 0)) := hf4.same P _ _ _ HB.out.2.1 (by decide) (by decide)
  have g4N : w4.heap[N]? = some (.cells ze.toArray 44 (0, 0)) := hf4.same N _ _ _ HB.out.2.2 (by decide) (by decide)
  have HF4 : Hid (FrC T w w4) := (HFb.out _ HB.out.1.drew).trans (FrC.frn hf4)
  have HR4 := Hid.mk hr4
  have HG4 := Hid.mk (And.intro g4 g4N)
  have hS4 : (fun w : World => w.cell? ⟨C, 0, none⟩ = some (pt T) ∧ w.cell? ⟨P, 0, none⟩ = some (.string lw) ∧ w.cell? ⟨P, 1, none⟩ = some (.int .i64 k)) w4 := ⟨HCl.out hr4, by rw [So.cell_blk g4]; rfl, by rw [So.cell_blk g4]; rfl⟩
  refine hK.out _ _ hS4 (fun hHeld => ?_)
  clear hK K hr4 hf4 g4 g4N
  try simp only [Act.put, List.getElem_toArray, List.getElem_cons_succ, List.getElem_cons_zero, List.setIfInBounds_toArray, List.set_cons_zero, List.set_cons_succ]
  refine wU (i := 6) (v := ?vb_6) rfl ?yb_6 (by assumption) ?_
  case yb_6 => (intro w hSw; (try dsimp only at hSw); go_simp; try with_reducible rfl)
  refine wU (i := 7) (v := ?vb_7) rfl ?yb_7 (by assumption) ?_
  case yb_7 => (intro w hSw; (try dsimp only at hSw); go_simp; try with_reducible rfl)
  refine wU (i := 8) (v := ?vb_8) rfl ?yb_8 (by assumption) ?_
  case yb_8 => (intro w hSw; (try dsimp only at hSw); go_simp; try with_reducible rfl)
  try simp only [Act.put, List.getElem_toArray, List.getElem_cons_succ, List.getElem_cons_zero, List.setIfInBounds_toArray, List.set_cons_zero, List.set_cons_succ]
  refine wU (i := 9) (v := ?vc_9) rfl ?yc_9 (by assumption) ?_
  case yc_9 => (intro w hSw; (try dsimp only at hSw); go_simp; try with_reducible rfl)
  try simp only [Act.put, List.getElem_toArray, List.getElem_cons_succ, List.getElem_cons_zero, List.setIfInBounds_toArray, List.set_cons_zero, List.set_cons_succ]
  refine wU (i := 10) (v := ?vd_10) rfl ?yd_10 (by assumption) ?_
  case yd_10 => (intro w hSw; (try dsimp only at hSw); go_simp; try with_reducible rfl)
  try simp only [Act.put, List.getElem_toArray, List.getElem_cons_succ, List.getElem_cons_zero, List.setIfInBounds_toArray, List.set_cons_zero, List.set_cons_succ]
  refine wpAnyH_done (by kernel_rfl) ?_ _
  clear hHeld
  have HO4 := Hid.mk (HOv.out _ HR4.out)
  go_wp2_with fail
  refine HO4.out.mono ?_
  rintro e w9 ⟨rfl, rfl⟩
  have HT4 := Hid.mk (HTo.out _ HR4.out)
  go_wp2_with fail
  refine HT4.out.mono ?_
  rintro e w5 ⟨q1, c1, q2, c2, rfl, o1, o2, hb5⟩
  have g5 : w5.heap[N]? = some (.cells ze.toArray 44 (0, 0)) := (hb5.block N (blk_lt HG4.out.2)).trans HG4.out.2
  have hN4 : w.heap.size ≤ w9.heap.size := Nat.le_trans HS2.out (Nat.le_of_lt (blk_lt HG4.out.2))
  obtain ⟨X, hX⟩ : ∃ X, w5.setRow N (evC (toldE x now) q1 c1 q2 c2).toArray = X := ⟨_, rfl⟩
  have st := en_store (w := w5) g5 (c' := evC (toldE x now) q1 c1 q2 c2) rfl rfl (ev_ones _ _ _ _ _)
  rw [hX] at st
  have hown : ∀ {v : Value} {k : Nat} {xs : List Value}, w5.ownsRow w9.heap.size 9 1 v k xs → X.ownsRow w.heap.size 9 1 v k xs := fun h => own_lowS (own_same h fun y c f _ hy => by
    rw [← hX, setRow_other _ _ _ _ (fun e => by
      subst e
      rw [g5] at hy
      simp at hy)]) hN4
  have HE : Hid (GetP W w X C T m n ver l Q (keyS nm k) now (.returned (.tuple #[.agg (evC (toldE x now) q1 c1 q2 c2).toArray, .bool true]))) := by
    refine HF.out _ _ ?_ ?_ ⟨q1, c1, q2, c2, rfl, hown o1, hown o2⟩
    · rw [← hX]
      exact RC.rowN (HR4.out.blk hb5) g5 HS1.out (fun p hp => HNb.out p (by
        rcases List.mem_cons.1 hp with rfl | hp
        · exact HMem.out
        · exact (mem_without.1 hp).1)) _
    · rw [← hX]
      exact (HF4.out.trans (FrC.below hb5)).rowN HS2.out _
  have HXN : Hid (X.heap[N]? = some (.cells (evC (toldE x now) q1 c1 q2 c2).toArray 44 (0, 0))) := by rw [Hid, ← hX]; exact row_self g5
  clear hX hown o1 o2 hb5 g5 hN4 hS4
  simp only [evC] at st HXN HE ⊢
  go_wp2
  refine bodyPost_ret (results_en Tryz.results15 rfl rfl HXN.out rfl) rfl ?_
  exact HE.out
end
end Go.Proofs.YtikjepodmdaknaaGreatDoor.Rc
/- Layer 16: Put and Get by the list of what is known. -/
namespace Go.Proofs.YtikjepodmdaknaaGreatDoor.Rc
open Go.RowKit
theorem rput_in {W w : World} {C T m n : Nat} {ver : Int} {l : ML} {Q : Nat → Prop} (h : RC W w C T m n ver l Q) (hn : n < 2305843009213693952) (s : Sv) (hs : SvI s) (qd : Option Addr) (cd : Nat) (qg : Option Addr) (cg : Nat) (hat : SvAt w s qd cd qg cg) (rk se now : Int) :
    Calls Tryz.prog 13 #[pt C, .agg (svC s qd cd qg cg).toArray, .int .i64 rk, .int .i64 se, .int .i64 now] w fun e w' => PutP W w w' C T m n ver l Q s rk se now e ∧ FrC T w w' := by
  cases hok : putOk s rk se now with
  | false =>
    refine (rput_no h s hs.sv qd cd qg cg hat rk se now hok).mono ?_
    rintro e w' ⟨rfl, hb⟩
    exact ⟨.inl ⟨hok, rfl, h.blk hb⟩, FrC.below hb⟩
  | true =>
    cases hg : getR l (keyS s.nm s.ty) with
    | none => exact rput_none h hn s hs qd cd qg cg hat rk se now hok hg
    | some p =>
      obtain ⟨b, x⟩ := p
      exact rput_some h hn s hs qd cd qg cg hat rk se now hok b x hg
theorem rget_in {W w : World} {C T m n : Nat} {ver : Int} {l : ML} {Q : Nat → Prop} (h : RC W w C T m n ver l Q) (nm : ByteArray) (hnm : nm.size ≤ maxLen) (k now : Int) (hk : I64 k) :
    Calls Tryz.prog 15 #[pt C, .string nm, .int .i64 k, .int .i64 now] w fun e w' => GetP W w w' C T m n ver l Q (keyS nm k) now e := by
  cases ht : timB now with
  | false => exact rget_not h nm k now ht
  | true =>
    cases hg : getR l (keyS nm k) with
    | none => exact rget_none h nm hnm k now hk ht hg
    | some p =>
      obtain ⟨b, x⟩ := p
      cases ho : over x now with
      | true => exact rget_over h nm hnm k now hk ht b x hg ho
      | false => exact rget_yes h nm hnm k now hk ht b x hg ho
structure RCA (W w : World) (C T m n : Nat) (ver : Int) (A : AL) : Prop where
  ex : ∃ (l : ML) (Q : Nat → Prop), RC W w C T m n ver l Q ∧ abs l = A
section
variable {W w w' : World} {C T m n : Nat} {ver : Int} {A : AL}
theorem RCA.blk (h : RCA W w C T m n ver A) (hb : Below w.heap.size w w') : RCA W w' C T m n ver A := by
  obtain ⟨l, Q, hr, e⟩ := h.ex
  exact ⟨l, Q, hr.blk hb, e⟩
theorem RCA.bel (h : RCA W w C T m n ver A) : Below W.heap.size W w := by
  obtain ⟨l, Q, hr, e⟩ := h.ex
  exact hr.bel
theorem RCA.ok (h : RCA W w C T m n ver A) : ∀ p ∈ A, p.1 = keyS p.2.s.nm p.2.s.ty ∧ EvI n p.2 := by
  obtain ⟨l, Q, hr, rfl⟩ := h.ex
  intro p hp
  obtain ⟨q, hq, rfl⟩ := List.mem_map.1 hp
  exact hr.ok q hq
structure Told (w : World) (N : Nat) (s : Sv) (q1 : Option Addr) (c1 : Nat) (q2 : Option Addr) (c2 : Nat) : Prop where
  d : w.ownsRow N 9 1 (.slice q1 s.ds.length c1) s.ds.length (strs s.ds)
  g : w.ownsRow N 9 1 (.slice q2 s.sg.length c2) s.sg.length (strs s.sg)
theorem Told.frc {T : Nat} {N : Nat} {s : Sv} {q1 : Option Addr} {c1 : Nat} {q2 : Option Addr} {c2 : Nat} (h : Told w N s q1 c1 q2 c2) (hf : FrC T w w') : Told w' N s q1 c1 q2 c2 := ⟨hf.row h.d (by decide) (by decide) (by decide), hf.row h.g (by decide) (by decide) (by decide)⟩
theorem Told.sv {N : Nat} {s : Sv} {q1 : Option Addr} {c1 : Nat} {q2 : Option Addr} {c2 : Nat} (h : Told w N s q1 c1 q2 c2) : SvAt w s q1 c1 q2 c2 := ⟨(TxQ.of_own h.d).at, (TxQ.of_own h.g).at, own_cap h.d, own_cap h.g⟩
theorem told_ok {n : Nat} {x : Ev} {now : Int} (h : EvI n x) (h0 : 0 ≤ now) (h1 : now < x.un) : setOk (toldE x now).s = true ∧ SvI (toldE x now).s := by
  have hu := h.un
  refine ⟨setOk_tl h.ok (by omega) (by omega), ⟨⟨h.sv.sv.nm, h.sv.sv.ds, h.sv.sv.sg⟩, h.sv.ty, h.sv.cl, ?_⟩⟩
  show I64 (min (x.un - now) 604800)
  unfold I64
  omega
def APut (W w' : World) (C T m n : Nat) (ver : Int) (A : AL) (s : Sv) (rk se now : Int) (e : Ending) : Prop :=
  (putOk s rk se now = false ∧ e = .returned (.tuple #[.bool false, .int .i64 1]) ∧ RCA W w' C T m n ver A) ∨
  (putOk s rk se now = true ∧ refused A s rk now = true ∧ e = .returned (.tuple #[.bool false, .int .i64 0]) ∧ RCA W w' C T m n ver A) ∨
  (putOk s rk se now = true ∧ refused A s rk now = false ∧ e = .returned (.tuple #[.bool true, .int .i64 0]) ∧ RCA W w' C T m (n + 1) (verC ver (getR A (keyS s.nm s.ty)) s) (putR m A (keyS s.nm s.ty) (putX ver A s rk se now)))
theorem aput_in (h : RCA W w C T m n ver A) (hn : n < 2305843009213693952) (s : Sv) (hs : SvI s) (qd : Option Addr) (cd : Nat) (qg : Option Addr) (cg : Nat) (hat : SvAt w s qd cd qg cg) (rk se now : Int) :
    Calls Tryz.prog 13 #[pt C, .agg (svC s qd cd qg cg).toArray, .int .i64 rk, .int .i64 se, .int .i64 now] w fun e w' => APut W w' C T m n ver A s rk se now e ∧ FrC T w w' := by
  obtain ⟨l, Q, hr, rfl⟩ := h.ex
  refine (rput_in hr hn s hs qd cd qg cg hat rk se now).mono ?_
  rintro e w' ⟨hp, hf⟩
  refine ⟨?_, hf⟩
  rcases hp with ⟨h1, h2, h3⟩ | ⟨h1, h2, h3, h4⟩ | ⟨h1, h2, h3, b, _, h4⟩
  · exact .inl ⟨h1, h2, l, Q, h3, rfl⟩
  · exact .inr (.inl ⟨h1, h2, h3, l, Q, h4, rfl⟩)
  · refine .inr (.inr ⟨h1, h2, h3, _, _, h4, ?_⟩)
    rw [abs_put]
def AGet (W w w' : World) (C T m n : Nat) (ver : Int) (A : AL) (k : Ky) (now : Int) (e : Ending) : Prop :=
  RCA W w' C T m n ver (getA A k now) ∧ FrC T w w' ∧
  ((foundA A k now = none ∧ e = .returned (.tuple #[.agg ze.toArray, .bool false])) ∨
   (∃ x q1 c1 q2 c2, foundA A k now = some x ∧ e = .returned (.tuple #[.agg (evC (toldE x now) q1 c1 q2 c2).toArray, .bool true]) ∧ Told w' w.heap.size (toldE x now).s q1 c1 q2 c2))
theorem aget_in (h : RCA W w C T m n ver A) (nm : ByteArray) (hnm : nm.size ≤ maxLen) (k now : Int) (hk : I64 k) :
    Calls Tryz.prog 15 #[pt C, .string nm, .int .i64 k, .int .i64 now] w fun e w' => AGet W w w' C T m n ver A (keyS nm k) now e := by
  obtain ⟨l, Q, hr, rfl⟩ := h.ex
  refine (rget_in hr nm hnm k now hk).mono ?_
  rintro e w' ⟨h1, h2, h3⟩
  refine ⟨⟨_, _, h1, abs_getL _ _ _⟩, h2, ?_⟩
  rcases h3 with ⟨h4, h5⟩ | ⟨x, q1, c1, q2, c2, h4, h5, h6, h7⟩
  · exact .inl ⟨h4, h5⟩
  · exact .inr ⟨x, q1, c1, q2, c2, h4, h5, h6, h7⟩
theorem alen_in (h : RCA W w C T m n ver A) : Calls Tryz.prog 22 #[pt C] w fun e w' => e = .returned (.int .i64 (A.length : Int)) ∧ w' = w := by
  obtain ⟨l, Q, hr, rfl⟩ := h.ex
  unfold abs
  rw [List.length_map]
  exact rlen_in hr
end
theorem anew_in (w : World) (m : Nat) (h1 : 1 ≤ m) (h2 : m ≤ 100000) : Calls Tryz.prog 10 #[.int .i64 (m : Int)] w fun e w' => ∃ C T, e = .returned (.tuple #[pt C, .int .i64 0]) ∧ RCA w w' C T m 0 0 [] := by
  refine (rnew_in w m h1 h2).mono ?_
  rintro e w' ⟨C, T, he, hr⟩
  exact ⟨C, T, he, [], _, hr, rfl⟩
theorem found_is {A : AL} {k : Ky} {now : Int} {x : Ev} (h : foundA A k now = some x) : timB now = true ∧ getR A k = some x ∧ over x now = false := by
  unfold foundA at h
  split at h
  · rename_i ht
    refine ⟨ht, ?_⟩
    split at h
    · cases h
    · rename_i v hv
      split at h
      · cases h
      · rename_i ho
        cases h
        exact ⟨hv, by simpa using ho⟩
  · cases h
theorem over_lt {x : Ev} {now : Int} (h : over x now = false) : now < x.un := by
  unfold over at h
  have := of_decide_eq_false h
  omega
end Go.Proofs.YtikjepodmdaknaaGreatDoor.Rc
