/- Layer 13: Find. -/
import Derived.Test.YtpognbkdafnfjaaDoorAcNa
namespace Go.Proofs.YtpognbkdafnfjaaDoor
set_option linter.unusedVariables false
set_option linter.unusedSimpArgs false
open Go.RowKit

set_option maxRecDepth 100000 in
theorem tree_in (W : World) (X : Nat) (v : Bool) (h l : Nat) :
    Calls Tryd.prog 21 #[pt X, adV v h l] W fun e w' => e = .returned (.pointer (some ⟨X, if v then 3 else 0, none⟩)) ∧ Below W.heap.size W w' := by
  cases v with
  | true =>
    go_enter Tryd.func21, Tryd.ntmps21
    go_wp2
    go_ret
    exact ⟨rfl, by go_grown⟩
  | false =>
    go_enter Tryd.func21, Tryd.ntmps21
    go_wp2
    go_ret
    exact ⟨rfl, by go_grown⟩
theorem tree_b {N : Nat} {W : World} {X : Nat} {D : Nd} {A : Bool → List Bool → Int} (T : Tr N W X D A) (v : Bool) (h l : Nat) :
    Calls Tryd.prog 21 #[pt X, adV v h l] W fun e w' => e = .returned (pO (D v [])) ∧ Below W.heap.size W w' :=
  (tree_in W X v h l).mono fun e w' ⟨h1, h2⟩ => ⟨by rw [h1, T.root v]; rfl, h2⟩
theorem sizePf : (Tryd.prog.info? 34).map (·.size) = some 4 := by kernel_rfl
theorem results_fd {fn : Func} {i p j : Tmp} (h : fn.results = #[.tmp i, .cell p 34, .tmp j]) {tmps : Array Value} {W : World} {b : Nat} {x y z u : Value} {s t : Value} (hs : tmps.getD i undef = s) (hp : tmps.getD p undef = .pointer (some ⟨b, 0, none⟩)) (ht : tmps.getD j undef = t) (hb : W.heap[b]? = some (.cells #[x, y, z, u] 34 (0, 0))) : (results fn tmps).run Tryd.prog W = .ok (.tuple #[s, .agg #[x, y, z, u], t]) W := by
  have hs' : tmps[i]?.getD undef = s := by simpa using hs
  have ht' : tmps[j]?.getD undef = t := by simpa using ht
  have hp' : tmps[p]?.getD undef = .pointer (some ⟨b, 0, none⟩) := by simpa using hp
  have hl : (loadVar 34 ⟨b, 0, none⟩).run Tryd.prog W = .ok (.agg #[x, y, z, u]) W := run_loadVar_row W b _ _ _ (0, 0) _ hb Tryd.underlying34 rfl sizePf
  simp only [results, h]
  simp [hp', hs', ht', asAddr, hl]
def fdV (act : Int) (v : Bool) (h l : Nat) (n : Int) (is : Bool) : Value := .tuple #[.int .i64 act, pfV v h l n, .bool is]
def resV (r : Res) : Value := fdV r.act r.p.v6 r.p.hi r.p.lo r.n r.is
abbrev pf0 : Obj := .cells #[.bool false, .int .u64 0, .int .u64 0, .int .i64 0] 34 (0, 0)
theorem heap_set_same {w : World} {b : Nat} {c : Array Value} {t : TypeId} {f : Nat × Nat} (h : w.heap[b]? = some (.cells c t f)) (i : Nat) (v : Value) : (w.setCell ⟨b, i, none⟩ v).heap[b]? = some (.cells (c.setIfInBounds i v) t f) := by
  simp only [World.setCell, Array.getElem?_modify, if_true, h]
  rfl
theorem pf_four {w : World} {b : Nat} {x0 x1 x2 x3 : Value} (h : w.heap[b]? = some (.cells #[x0, x1, x2, x3] 34 (0, 0))) (x y z u : Value) : ((((w.setCell ⟨b, 0, none⟩ x).setCell ⟨b, 1, none⟩ y).setCell ⟨b, 2, none⟩ z).setCell ⟨b, 3, none⟩ u).heap[b]? = some (.cells #[x, y, z, u] 34 (0, 0)) :=
  heap_set_same (heap_set_same (heap_set_same (heap_set_same h 0 x) 1 y) 2 z) 3 u
theorem pf_bel {w w' : World} {N b : Nat} (h : Below N w w') (hb : N ≤ b) (x y z u : Value) : Below N w ((((w'.setCell ⟨b, 0, none⟩ x).setCell ⟨b, 1, none⟩ y).setCell ⟨b, 2, none⟩ z).setCell ⟨b, 3, none⟩ u) :=
  (((h.setCell (p := ⟨b, 0, none⟩) hb x).setCell (p := ⟨b, 1, none⟩) hb y).setCell (p := ⟨b, 2, none⟩) hb z).setCell (p := ⟨b, 3, none⟩) hb u
theorem frozen_of {w : World} {b : Nat} {c : Array Value} {t : TypeId} (h : w.heap[b]? = some (.cells c t (0, 0))) (i : Nat) : w.frozen? ⟨b, i, none⟩ = false := by
  unfold World.frozen?
  rw [show (⟨b, i, none⟩ : Addr).block = b from rfl, h]
  simp

set_option maxRecDepth 100000 in
set_option maxHeartbeats 4000000 in
theorem find_no (W : World) (X : Nat) (v : Bool) (h l : Nat) (hr : ¬ Ad.right ⟨v, h, l⟩) :
    Calls Tryd.prog 11 #[pt X, adV v h l] W fun e w' => e = .returned (fdV 2 false 0 0 0 false) ∧ Below W.heap.size W w' := by
  have H1 : Hid (∀ w, Calls Tryd.prog 17 #[adV v h l] w fun e w' => e = .returned (.bool false) ∧ w' = w.alloc (adO v h l)) := fun w => by have := right_in w v h l; rwa [decide_eq_false hr] at this
  clear hr
  go_enter Tryd.func11, Tryd.ntmps11
  go_wp2_with fail
  refine (H1.out _).mono ?_
  rintro e w1 ⟨rfl, rfl⟩
  go_wp2
  refine bodyPost_ret (results_fd Tryd.results11 rfl rfl rfl (heap_mid ..)) rfl ⟨rfl, by go_grown⟩

set_option maxRecDepth 100000 in
set_option maxHeartbeats 4000000 in
theorem find_yes {N : Nat} {W : World} {X : Nat} {D : Nd} {A : Bool → List Bool → Int} (T : Tr N W X D A) (v : Bool) (h l : Nat) (hh : h < 2 ^ 64) (hl : l < 2 ^ 64) (hr : Ad.right ⟨v, h, l⟩) :
    Calls Tryd.prog 11 #[pt X, adV v h l] W fun e w' => ∃ x b, Best A ⟨v, h, l⟩ (Ad.wd ⟨v, h, l⟩ + 1) x b ∧ e = .returned (if x = 0 then fdV 2 false 0 0 0 false else fdV x v (Ad.fst ⟨v, h, l⟩ b).hi (Ad.fst ⟨v, h, l⟩ b).lo b true) ∧ Below W.heap.size W w' := by
  have H1 : Hid (∀ w, Calls Tryd.prog 17 #[adV v h l] w fun e w' => e = .returned (.bool true) ∧ w' = w.alloc (adO v h l)) := fun w => by have := right_in w v h l; rwa [decide_eq_true hr] at this
  clear hr
  have HF : Hid (∀ w b, b ≤ Ad.wd ⟨v, h, l⟩ → Calls Tryd.prog 25 #[adV v h l, .int .i64 (b : Int)] w fun e w' => e = .returned (adV v (Ad.fst ⟨v, h, l⟩ b).hi (Ad.fst ⟨v, h, l⟩ b).lo) ∧ Below w.heap.size w w') := fun w b hb => first_b w v h l b hh hl hb
  have HN : Hid (∀ w, Tr N w X D A → Calls Tryd.prog 24 #[pO (D v []), adV v h l] w fun e w' => NfPost w A ⟨v, h, l⟩ e w') := fun w t => nfind_in t v h l hh hl
  obtain ⟨V, hV, F, HB⟩ : ∃ V, ((W.alloc (adO v h l)).alloc pf0).alloc (adO v h l) = V ∧ Kp V V ∧ Hid (Below W.heap.size W V) := ⟨_, rfl, Kp.refl _, by unfold Hid; go_grown⟩
  have HT : Hid (∀ w, Kp V w → Tr N w X D A) := fun w k => T.blk (k.bel HB.out)
  have HPB : Hid (∀ w, Kp V w → w.heap[W.heap.size + 1]? = some pf0) := fun w k => by
    have hm := heap_mid W (adO v h l) pf0 (adO v h l)
    have hm' : V.heap[W.heap.size + 1]? = some pf0 := by rw [← hV]; exact hm
    have hb : W.heap.size + 1 < V.heap.size := by rw [← hV]; simp
    exact (Below.block k _ hb).trans hm'
  have HS : Hid (∀ w, Kp V w → Kp V w ∧ w.cell? ⟨W.heap.size, 0, none⟩ = some (.bool v) ∧ w.cell? ⟨W.heap.size, 1, none⟩ = some (.int .u64 (h : Int)) ∧ w.cell? ⟨W.heap.size, 2, none⟩ = some (.int .u64 (l : Int))) := fun w k => by
    have hc := ad_cells W v h l
    have hk : Kp (W.alloc (adO v h l)) V := by rw [← hV]; exact (Below.alloc (Below.alloc (Below.refl _ _) (Nat.le_refl _) _) (by simp) _)
    have hb : W.heap.size < (W.alloc (adO v h l)).heap.size := by simp
    have hb' : W.heap.size < V.heap.size := by rw [← hV]; simp; omega
    exact ⟨k, k.cell (hk.cell hc.1 hb) hb', k.cell (hk.cell hc.2.1 hb) hb', k.cell (hk.cell hc.2.2 hb) hb'⟩
  clear hh hl T
  go_enter Tryd.func11, Tryd.ntmps11
  go_wp2_with fail
  refine (H1.out _).mono ?_
  rintro e w1 ⟨rfl, rfl⟩
  go_upto_region 3 with fail
  try rw [hV]
  clear hV
  have hS0 := HS.out _ F
  go_region_held3 (fun w => Kp V w ∧ w.cell? ⟨W.heap.size, 0, none⟩ = some (.bool v) ∧ w.cell? ⟨W.heap.size, 1, none⟩ = some (.int .u64 (h : Int)) ∧ w.cell? ⟨W.heap.size, 2, none⟩ = some (.int .u64 (l : Int)))
    (first | assumption | (apply HS.out; repeat (first | assumption | apply Kp.drew)))
    (first
    | (go_at_call 21; refine (tree_b (HT.out _ (by repeat (first | assumption | apply Kp.drew))) v h l).mono ?_; rintro e w2 ⟨rfl, hb2⟩; have K2 := Kp.blk (V := V) (by repeat (first | assumption | apply Kp.drew)) hb2; have hs2 := HS.out _ K2)
    | (go_at_call 24; refine (HN.out _ (HT.out _ (by repeat (first | assumption | apply Kp.drew)))).mono ?_; rintro e w3 ⟨x, b, rfl, hbest, hb3⟩; have K3 := Kp.blk (V := V) (by repeat (first | assumption | apply Kp.drew)) hb3; have hs3 := HS.out _ K3))
  by_cases hx : x = 0
  · have HX := Hid.mk hbest
    subst hx
    have hpb := HPB.out _ K3
    have c0 := cell_of_heap (i := 0) hpb rfl
    have c1 := cell_of_heap (i := 1) hpb rfl
    have c2 := cell_of_heap (i := 2) hpb rfl
    have c3 := cell_of_heap (i := 3) hpb rfl
    have f0 := frozen_of hpb 0
    have f1 := frozen_of hpb 1
    have f2 := frozen_of hpb 2
    have f3 := frozen_of hpb 3
    go_wp2
    refine bodyPost_ret (results_fd Tryd.results11 rfl rfl rfl (pf_four hpb _ _ _ _)) rfl ⟨_, _, HX.out, by rw [if_pos rfl]; rfl, pf_bel (K3.bel HB.out) (by omega) _ _ _ _⟩
  · have hb : b ≤ Ad.wd ⟨v, h, l⟩ := by
      rcases hbest with ⟨h1, _⟩ | ⟨_, h2, _⟩
      · exact absurd h1 hx
      · omega
    have HX := Hid.mk hbest
    have HF1 := Hid.mk (fun w => HF.out w b hb)
    clear hbest hb
    go_wp2_with fail
    refine (HF1.out _).mono ?_
    rintro e w4 ⟨rfl, hb4⟩
    have K4 := K3.blk hb4
    have hpb := HPB.out _ K4
    have c0 := cell_of_heap (i := 0) hpb rfl
    have c1 := cell_of_heap (i := 1) hpb rfl
    have c2 := cell_of_heap (i := 2) hpb rfl
    have c3 := cell_of_heap (i := 3) hpb rfl
    have f0 := frozen_of hpb 0
    have f1 := frozen_of hpb 1
    have f2 := frozen_of hpb 2
    have f3 := frozen_of hpb 3
    go_wp2
    refine bodyPost_ret (results_fd Tryd.results11 rfl rfl rfl (pf_four hpb _ _ _ _)) rfl ⟨_, _, HX.out, by rw [if_neg hx]; rfl, pf_bel (K4.bel HB.out) (by omega) _ _ _ _⟩
/-- what is told of an address. -/
theorem find_in {N : Nat} {W : World} {X : Nat} {D : Nd} {rs : List Rl} (T : Tr N W X D (look rs)) (hg : ∀ r ∈ rs, r.good) (ho : ∀ r ∈ rs, r.ok) (v : Bool) (h l : Nat) (hh : h < 2 ^ 64) (hl : l < 2 ^ 64) :
    Calls Tryd.prog 11 #[pt X, adV v h l] W fun e w' => ∃ res, Fnd rs ⟨v, h, l⟩ res ∧ e = .returned (resV res) ∧ Below W.heap.size W w' := by
  by_cases hr : Ad.right ⟨v, h, l⟩
  · refine (find_yes T v h l hh hl hr).mono ?_
    rintro e w' ⟨x, b, hb, rfl, hbl⟩
    refine ⟨_, best_fnd hg ho ⟨hh, hl⟩ hr hb, ?_, hbl⟩
    by_cases hx : x = 0
    · rw [if_pos hx, if_pos hx]; rfl
    · rw [if_neg hx, if_neg hx]; rfl
  · refine (find_no W X v h l hr).mono ?_
    rintro e w' ⟨rfl, hbl⟩
    exact ⟨noRes, .inl ⟨fun r _ hh => hr hh.2.2.1, rfl⟩, rfl, hbl⟩
end Go.Proofs.YtpognbkdafnfjaaDoor
