/- Layer 13: AclMore. -/
import Derived.Deep.DeepCutAuto
import Derived.Test.YtpognbkdafnfjaaDoorAcAp
namespace Go.Proofs.YtpognbkdafnfjaaDoor
set_option linter.unusedVariables false
set_option linter.unusedSimpArgs false
open Go.RowKit
attribute [local go_sem ↓] bin_ad bin_pf bin_adn bin_pfn app_r
attribute [local go_sem] adEqV_run pfEqV_run adNeV_run pfNeV_run pfNe_zero adEq_zero

theorem more_no {rs : List Rl} {z : Rl} {a : Ad} {x y : Res} (hok : OkRs (rs ++ [z])) (hn : ¬ z.holds a) (hx : Fnd rs a x) (hy : Fnd (rs ++ [z]) a y) : x = y := by
  refine Fnd.uniq hok ?_ hy
  rcases hx with ⟨h1, e⟩ | ⟨r, hr, hh, hm, e⟩
  · refine .inl ⟨fun r hr => ?_, e⟩
    rcases List.mem_append.1 hr with h | h
    · exact h1 r h
    · rw [List.mem_singleton.1 h]; exact hn
  · refine .inr ⟨r, List.mem_append_left _ hr, hh, fun r' hr' hh' => ?_, e⟩
    rcases List.mem_append.1 hr' with h | h
    · exact hm r' h hh'
    · rw [List.mem_singleton.1 h] at hh'; exact absurd hh' hn
theorem more_yes {rs : List Rl} {z : Rl} {a : Ad} {x y : Res} (hz : z.holds a) (hx : Fnd rs a x) (hy : Fnd (rs ++ [z]) a y) : y.is = true ∧ z.n ≤ y.n ∧ (x.is = true → x.n ≤ y.n) := by
  rcases hy with ⟨h1, _⟩ | ⟨r, hr, hh, hm, rfl⟩
  · exact absurd hz (h1 z (by simp))
  · refine ⟨rfl, hm z (by simp) hz, fun hi => ?_⟩
    rcases hx with ⟨_, rfl⟩ | ⟨r1, hr1, hh1, _, rfl⟩
    · cases hi
    · exact hm r1 (by simp [hr1]) hh1
theorem more_rev {rs : List Rl} {a : Ad} {x y : Res} (hok : OkRs rs) (hx : Fnd rs a x) (hy : Fnd rs.reverse a y) : x = y := Fnd.uniq hok hx (hy.mem (by simp))
theorem rapp1 {W : World} {B g : Nat} {q : Option Addr} {rs : List Rl} {z : Rl} {cap : Nat} (ho : OwnR B W q rs cap) (hat : RlsAt W (some ⟨g, 0, none⟩) [z]) (hB : B ≤ W.heap.size) (hl : (rs.length + 1) * 40 ≤ 140737488355328) :
    ∃ q' cap' w', (bAppR #[.slice q rs.length cap, .slice (some ⟨g, 0, none⟩) 1 1]).run Tryd.prog W = .ok (.slice q' (rs.length + 1) cap') w' ∧ OwnR B w' q' (rs ++ [z]) cap' ∧ Below B W w' :=
  rapp (ns := [z]) (c := 1) ho hat (by simp) hB hl
theorem step_app {ops : Array Oper} {o : Oper} {a : Act} {w : World} {K : Act → World → Prop} {Q : Exit → Act → World → Prop} {E : Prop} (hg : o.guard = none) (s x : Operand) (hop : o.op = Op.call { callee := Callee.builtin Builtin.append, args := #[s, x], argTypes := #[22, 22] }) (hty : o.type = 22) (vs vx v' : Value) (w' : World) (hs : a.eval s = vs) (hx : a.eval x = vx) (hrun : (bAppR #[vs, vx]).run Tryd.prog w = .ok v' w') (hK : K (a.put o.dst v') w') :
    if Region.wanted o (yielded ops a.tmps) = true then Oper.wp Tryd.prog o a w K Q else E := by
  have hw : Region.wanted o (yielded ops a.tmps) = true := by simp [Region.wanted, hg]
  rw [if_pos hw]
  unfold bAppR at hrun
  unfold Oper.wp execOp
  simp only [hop, hty, resolve, invoke, builtin, Sem.run_bind, Sem.run_pure, Result.andThen_ok, List.map_toArray, List.map_cons, List.map_nil, hs, hx, hrun]
  exact hK
/-- what New made. -/
def MoP (rs : List Rl) (L E : Value) (w : World) : Prop := (OkRs rs ∧ ∃ X D, L = pt X ∧ E = .int .i64 0 ∧ Tr 0 w X D (look rs)) ∨ (¬ OkRs rs ∧ L = .pointer none ∧ E = .int .i64 12)
theorem MoP.blk {rs : List Rl} {L E : Value} {w w' : World} (h : MoP rs L E w) (hb : Below w.heap.size w w') : MoP rs L E w' := by
  rcases h with ⟨h1, X, D, h2, h3, h4⟩ | h
  · exact .inl ⟨h1, X, D, h2, h3, h4.blk hb⟩
  · exact .inr h
theorem mo_new (W : World) (q : Option Addr) (cap k : Nat) (rs : List Rl) (hk : rs.length = k) (hat : RlsAt W q rs) (hok : ∀ r ∈ rs, r.ok) (hcap : rs.length ≤ cap) (hcap2 : cap ≤ maxLen) :
    Calls Tryd.prog 9 #[.slice q k cap] W fun e w' => ∃ L E, e = .returned (.tuple #[L, E]) ∧ MoP rs L E w' ∧ Below W.heap.size W w' := by
  subst hk
  refine (new_b W q cap rs hat hok hcap (by unfold maxLen at hcap2; omega)).mono ?_
  rintro e w' ⟨hb, ⟨h1, X, D, rfl, T⟩ | ⟨h1, rfl⟩⟩
  · exact ⟨_, _, rfl, .inl ⟨h1, X, D, rfl, rfl, T⟩, hb⟩
  · exact ⟨_, _, rfl, .inr ⟨h1, rfl, rfl⟩, hb⟩
def MvRel (V : World) (rs : List Rl) (s i : Value) (wr : World) : Prop := ∃ (m : Nat) (q : Option Addr) (cap : Nat), s = .slice q (rs.drop m).reverse.length cap ∧ i = .int .i64 ((m : Int) - 1) ∧ m ≤ rs.length ∧ OwnR V.heap.size wr q (rs.drop m).reverse cap ∧ Kp V wr
theorem drop_rev {rs : List Rl} {k : Nat} (h : k < rs.length) : (rs.drop (k + 1)).reverse ++ [rs[k]] = (rs.drop k).reverse := by
  rw [List.drop_eq_getElem_cons h, List.reverse_cons]
theorem more_cells (W : World) (v : Bool) (h l : Nat) (n act : Int) (u : Bool) (x y : Nat) (w : World) (k : Kp ((W.alloc (.cells #[.bool v, .int .u64 (h : Int), .int .u64 (l : Int), .int .i64 n, .int .i64 act] 36 (0, 0))).alloc (adO u x y)) w) : (w.cell? ⟨W.heap.size, 0, none⟩ = some (.bool v) ∧ w.cell? ⟨W.heap.size, 1, none⟩ = some (.int .u64 (h : Int)) ∧ w.cell? ⟨W.heap.size, 2, none⟩ = some (.int .u64 (l : Int)) ∧ w.cell? ⟨W.heap.size, 3, none⟩ = some (.int .i64 n) ∧ w.cell? ⟨W.heap.size, 4, none⟩ = some (.int .i64 act)) ∧ w.cell? ⟨W.heap.size + 1, 0, none⟩ = some (.bool u) ∧ w.cell? ⟨W.heap.size + 1, 1, none⟩ = some (.int .u64 (x : Int)) ∧ w.cell? ⟨W.heap.size + 1, 2, none⟩ = some (.int .u64 (y : Int)) := by
  have hh0 := heap_alloc_last W (.cells #[.bool v, .int .u64 (h : Int), .int .u64 (l : Int), .int .i64 n, .int .i64 act] 36 (0, 0))
  have hk : Kp (W.alloc (.cells #[.bool v, .int .u64 (h : Int), .int .u64 (l : Int), .int .i64 n, .int .i64 act] 36 (0, 0))) ((W.alloc (.cells #[.bool v, .int .u64 (h : Int), .int .u64 (l : Int), .int .i64 n, .int .i64 act] 36 (0, 0))).alloc (adO u x y)) := Below.alloc (Below.refl _ _) (Nat.le_refl _) _
  have hb0 : W.heap.size < (W.alloc (.cells #[.bool v, .int .u64 (h : Int), .int .u64 (l : Int), .int .i64 n, .int .i64 act] 36 (0, 0))).heap.size := by simp
  have hb1 : W.heap.size < ((W.alloc (.cells #[.bool v, .int .u64 (h : Int), .int .u64 (l : Int), .int .i64 n, .int .i64 act] 36 (0, 0))).alloc (adO u x y)).heap.size := by simp; omega
  have hb2 : W.heap.size + 1 < ((W.alloc (.cells #[.bool v, .int .u64 (h : Int), .int .u64 (l : Int), .int .i64 n, .int .i64 act] 36 (0, 0))).alloc (adO u x y)).heap.size := by simp
  have hh := heap_alloc_last (W.alloc (.cells #[.bool v, .int .u64 (h : Int), .int .u64 (l : Int), .int .i64 n, .int .i64 act] 36 (0, 0))) (adO u x y)
  rw [show (W.alloc (.cells #[.bool v, .int .u64 (h : Int), .int .u64 (l : Int), .int .i64 n, .int .i64 act] 36 (0, 0))).heap.size = W.heap.size + 1 by simp] at hh
  exact ⟨⟨k.cell (hk.cell (cell_of_heap hh0 rfl) hb0) hb1, k.cell (hk.cell (cell_of_heap hh0 rfl) hb0) hb1, k.cell (hk.cell (cell_of_heap hh0 rfl) hb0) hb1, k.cell (hk.cell (cell_of_heap hh0 rfl) hb0) hb1, k.cell (hk.cell (cell_of_heap hh0 rfl) hb0) hb1⟩, k.cell (cell_of_heap hh rfl) hb2, k.cell (cell_of_heap hh rfl) hb2, k.cell (cell_of_heap hh rfl) hb2⟩
set_option maxRecDepth 100000 in
set_option maxHeartbeats 16000000 in
theorem more_walk (q : Option Addr) (cap : Nat) (rs : List Rl) (hsz : rs.length * 40 ≤ 140737488351232) (hcp : rs.length ≤ cap ∧ cap ≤ maxLen ∧ (q = none → cap = 0)) (hok : ∀ r ∈ rs, r.ok) (z : Rl) (hz : z.ok) (u : Bool) (x y : Nat) (hx : x < 2 ^ 64) (hy : y < 2 ^ 64) (W : World) (hat : RlsAt W q rs) (hG : AG W) :
    Calls Tryd.prog 6 #[.slice q rs.length cap, rlV z.p.v6 z.p.hi z.p.lo z.n z.act, adV u x y] W fun e w' => e = .returned (.bool true) ∧ Below W.heap.size W w' := by
  have hzo : ∀ r ∈ rs ++ [z], r.ok := fun r hr => by
    rcases List.mem_append.1 hr with h | h
    · exact hok r h
    · rw [List.mem_singleton.1 h]; exact hz
  have hro : ∀ r ∈ rs.reverse, r.ok := fun r hr => hok r (by simpa using hr)
  have HE : Hid (∀ w, Below W.heap.size W w → Calls Tryd.prog 8 #[] w fun e w' => e = .returned (.bool true) ∧ Below w.heap.size w w') := fun w hb => examples_in w (hG.below hb)
  have HAP : Hid (∀ w, Kp W w → ∃ q' cap' w', (bAppR #[.slice none 0 0, .slice q rs.length cap]).run Tryd.prog w = .ok (.slice q' rs.length cap') w' ∧ OwnR w.heap.size w' q' rs cap' ∧ Below w.heap.size w w') := fun w k => rapp0 (hat.blk k) (fun h => by have := hcp.2.2 h; have := hcp.1; omega) (by omega)
  have HN1 : Hid (∀ w, Kp W w → Calls Tryd.prog 9 #[.slice q rs.length cap] w fun e w' => ∃ L E, e = .returned (.tuple #[L, E]) ∧ MoP rs L E w' ∧ Below w.heap.size w w') := fun w k => mo_new w q cap _ rs rfl (hat.blk k) hok hcp.1 hcp.2.1
  have HN2 : Hid (∀ (B : Nat) w q' cap', OwnR B w q' (rs ++ [z]) cap' → Calls Tryd.prog 9 #[.slice q' (rs.length + 1) cap'] w fun e w' => ∃ L E, e = .returned (.tuple #[L, E]) ∧ MoP (rs ++ [z]) L E w' ∧ Below w.heap.size w w') := fun B w q' cap' ho => mo_new w q' cap' _ (rs ++ [z]) (by simp) ho.at.1 hzo ho.at.2.1 ho.at.2.2.1
  have HN3 : Hid (∀ (B : Nat) w q' cap' k, rs.reverse.length = k → OwnR B w q' rs.reverse cap' → Calls Tryd.prog 9 #[.slice q' k cap'] w fun e w' => ∃ L E, e = .returned (.tuple #[L, E]) ∧ MoP rs.reverse L E w' ∧ Below w.heap.size w w') := fun B w q' cap' k hk ho => mo_new w q' cap' k rs.reverse hk ho.at.1 hro ho.at.2.1 ho.at.2.2.1
  have HF : Hid (∀ (X : Nat) (D : Nd) (rr : List Rl) w, OkRs rr → (∀ r ∈ rr, r.ok) → Tr 0 w X D (look rr) → Calls Tryd.prog 11 #[pt X, adV u x y] w fun e w' => ∃ res, Fnd rr ⟨u, x, y⟩ res ∧ e = .returned (resV res) ∧ Below w.heap.size w w') := fun X D rr w ho hr t => find_in t ho.1 hr u x y hx hy
  have HOK := Hid.mk hok
  have HZO := Hid.mk hzo
  have HRO := Hid.mk hro
  have HAT := Hid.mk hat
  have hll : rs.length ≤ 3518437208780 := by omega
  obtain ⟨⟨v, h, l⟩, n, act⟩ := z
  have HHO := Hid.mk (fun w => holds_in w v h l n u x y hz.1.1 hz.1.2 hx hy)
  obtain ⟨a, ha⟩ : ∃ a : Ad, (⟨u, x, y⟩ : Ad) = a := ⟨_, rfl⟩
  rw [ha] at HHO HF
  obtain ⟨z, hzz⟩ : ∃ z : Rl, (⟨⟨v, h, l⟩, n, act⟩ : Rl) = z := ⟨_, rfl⟩
  have HZN : Hid (z.n = n) := by rw [← hzz]; rfl
  have HRT : Hid (decide (0 ≤ n ∧ holds ⟨v, h, l⟩ n.toNat a) = true → z.holds a) := fun e => by rw [← hzz]; exact of_decide_eq_true e
  have HRF : Hid (decide (0 ≤ n ∧ holds ⟨v, h, l⟩ n.toNat a) = false → ¬ z.holds a) := fun e => by rw [← hzz]; exact of_decide_eq_false e
  generalize decide (0 ≤ n ∧ holds ⟨v, h, l⟩ n.toNat a) = R at HHO HRT HRF
  have HZ1 : Hid (∀ w : World, RlsAt (w.alloc (.cells #[.bool v, .int .u64 (h : Int), .int .u64 (l : Int), .int .i64 n, .int .i64 act] 36 (0, 0))) (some ⟨w.heap.size, 0, none⟩) [z]) := fun w => by rw [← hzz]; exact rls_heap (heap_alloc_last _ _)
  rw [hzz] at HN2 HZO
  simp only
  obtain ⟨V, hV, F, HB⟩ : ∃ V, (W.alloc (.cells #[.bool v, .int .u64 (h : Int), .int .u64 (l : Int), .int .i64 n, .int .i64 act] 36 (0, 0))).alloc (adO u x y) = V ∧ Kp V V ∧ Hid (Below W.heap.size W V) := ⟨_, rfl, Kp.refl _, by unfold Hid; go_grown⟩
  have HCC : Hid (∀ w, Kp V w → (w.cell? ⟨W.heap.size, 0, none⟩ = some (.bool v) ∧ w.cell? ⟨W.heap.size, 1, none⟩ = some (.int .u64 (h : Int)) ∧ w.cell? ⟨W.heap.size, 2, none⟩ = some (.int .u64 (l : Int)) ∧ w.cell? ⟨W.heap.size, 3, none⟩ = some (.int .i64 n) ∧ w.cell? ⟨W.heap.size, 4, none⟩ = some (.int .i64 act)) ∧ w.cell? ⟨W.heap.size + 1, 0, none⟩ = some (.bool u) ∧ w.cell? ⟨W.heap.size + 1, 1, none⟩ = some (.int .u64 (x : Int)) ∧ w.cell? ⟨W.heap.size + 1, 2, none⟩ = some (.int .u64 (y : Int))) := fun w k => by rw [← hV] at k; exact more_cells W v h l n act u x y w k
  have HS : Hid (∀ w, Kp V w → Kp V w ∧ w.cell? ⟨W.heap.size, 0, none⟩ = some (.bool v) ∧ w.cell? ⟨W.heap.size, 1, none⟩ = some (.int .u64 (h : Int)) ∧ w.cell? ⟨W.heap.size, 2, none⟩ = some (.int .u64 (l : Int)) ∧ w.cell? ⟨W.heap.size, 3, none⟩ = some (.int .i64 n) ∧ w.cell? ⟨W.heap.size, 4, none⟩ = some (.int .i64 act)) := fun w k => ⟨k, (HCC.out w k).1⟩
  clear hG hat hok hzo hro hcp hz hx hy ha hzz hsz
  go_enter Tryd.func6, Tryd.ntmps6
  go_wp2_with fail
  try rw [hV]
  clear hV
  refine (HE.out _ HB.out).mono ?_
  rintro e w1 ⟨rfl, hb1⟩
  have K1 := F.blk hb1
  clear hb1
  go_wp2_with fail
  refine (HN1.out _ (K1.bel HB.out)).mono ?_
  rintro e w2 ⟨L1, E1, rfl, hP1, hb2⟩
  have K2 := K1.blk hb2
  have HP1 := Hid.mk hP1
  clear hb2 hP1
  go_upto_region 3 with fail
  have hS0 := HS.out _ K2
  go_cut [10, 11] (fun L2 E2 wx => MoP (rs ++ [z]) L2 E2 wx ∧ Kp V wx ∧ Below w2.heap.size w2 wx)
  case first =>
    refine wp_region_held_drew (S := fun w => Kp V w ∧ w.cell? ⟨W.heap.size, 0, none⟩ = some (.bool v) ∧ w.cell? ⟨W.heap.size, 1, none⟩ = some (.int .u64 (h : Int)) ∧ w.cell? ⟨W.heap.size, 2, none⟩ = some (.int .u64 (l : Int)) ∧ w.cell? ⟨W.heap.size, 3, none⟩ = some (.int .i64 n) ∧ w.cell? ⟨W.heap.size, 4, none⟩ = some (.int .i64 act)) (by kernel_rfl) (HS.out _ (Kp.drew K2)) (fun hHeld => ?_)
    refine wpAnyH_take (i := 0) (v := ?vh1_0) rfl (by kernel_rfl) (by kernel_rfl) (by kernel_rfl) (fun _ _ _ h => h) (Or.inl ⟨by kernel_rfl, ?yh1_0⟩) (by assumption) ?_
    case yh1_0 => (intro w hSw; (try dsimp only at hSw); go_simp; try with_reducible rfl)
    refine wpAnyH_take (i := 2) (v := ?vh1_2) rfl (by kernel_rfl) (by kernel_rfl) (by kernel_rfl) (fun _ _ _ h => h) (Or.inl ⟨by kernel_rfl, ?yh1_2⟩) (by assumption) ?_
    case yh1_2 => (intro w hSw; (try dsimp only at hSw); go_simp; try with_reducible rfl)
    try simp only [Act.put, List.getElem_toArray, List.getElem_cons_succ, List.getElem_cons_zero, List.setIfInBounds_toArray, List.set_cons_zero, List.set_cons_succ]
    refine wpAnyH_ready (rs := [1, 3]) (by kernel_rfl) (by simp) ?_
    refine AllReadyH.cons rfl (fun K hK => ?_) (AllReadyH.cons rfl (fun K hK => ?_) AllReadyH.nil)
    · have hsz2 : w2.drew.heap.size = w2.heap.size := rfl
      obtain ⟨q1, cap1, w3, r1, ho1, hb3⟩ := HAP.out w2.drew (K2.drew.bel HB.out)
      rw [hsz2] at ho1 hb3
      refine step_app rfl _ _ rfl rfl _ _ _ _ rfl rfl r1 ?_
      have F3 : Kp V w3 := K2.drew.blk hb3
      refine hK.out _ _ (HS.out _ F3) (fun hHeld3 => ?_)
      clear hK K r1
      try simp only [Act.put, List.getElem_toArray, List.getElem_cons_succ, List.getElem_cons_zero, List.setIfInBounds_toArray, List.set_cons_zero, List.set_cons_succ]
      refine wpAnyH_ready (rs := [3]) (by kernel_rfl) (by simp) ?_
      refine AllReadyH.cons rfl (fun K hK => ?_) AllReadyH.nil
      go_simp
      have F4 : Kp V (w3.alloc (.cells #[.bool v, .int .u64 (h : Int), .int .u64 (l : Int), .int .i64 n, .int .i64 act] 36 (0, 0))) := F3.blk (by go_grown)
      have hb3w : Below w2.heap.size w2 w3 := (Below.refl _ _).drew.trans hb3
      refine hK.out _ _ (HS.out _ F4) (fun hHeld4 => ?_)
      clear hK K
      try simp only [Act.put, List.getElem_toArray, List.getElem_cons_succ, List.getElem_cons_zero, List.setIfInBounds_toArray, List.set_cons_zero, List.set_cons_succ]
      obtain ⟨q5, cap5, w5, r5, ho5, hb5⟩ := rapp1 (z := z) (World.ownsRow.alloc ho1 (.cells #[.bool v, .int .u64 (h : Int), .int .u64 (l : Int), .int .i64 n, .int .i64 act] 36 (0, 0)) : OwnR _ _ _ _ _) (HZ1.out w3) (by have := hb3w.size; simp; omega) (by omega)
      refine wpAnyH_ready (rs := [4]) (by kernel_rfl) (by simp) ?_
      refine AllReadyH.cons rfl (fun K hK => ?_) AllReadyH.nil
      refine step_app rfl _ _ rfl rfl _ _ _ _ rfl rfl r5 ?_
      have F5 : Kp V w5 := Below.trans F4 (hb5.mono (K2.size))
      have G5 : Below w2.heap.size w2 w5 := (hb3w.alloc hb3w.size _).trans hb5
      refine hK.out _ _ (HS.out _ F5) (fun hHeld5 => ?_)
      clear hK K r5
      try simp only [Act.put, List.getElem_toArray, List.getElem_cons_succ, List.getElem_cons_zero, List.setIfInBounds_toArray, List.set_cons_zero, List.set_cons_succ]
      refine wpAnyH_ready (rs := [5]) (by kernel_rfl) (by simp) ?_
      refine AllReadyH.cons rfl (fun K hK => ?_) AllReadyH.nil
      go_simp
      go_at_call 9
      with_reducible refine (HN2.out _ _ _ _ ho5).mono ?_
      rintro e w6 ⟨L2, E2, rfl, hP2, hb6⟩
      have F6 := F5.blk hb6
      have HP2 := Hid.mk hP2
      have G6 : Below w2.heap.size w2 w6 := G5.trans (hb6.mono G5.size)
      refine hK.out _ _ (HS.out _ F6) (fun hHeld6 => ?_)
      clear hK K hP2
      try simp only [Act.put, List.getElem_toArray, List.getElem_cons_succ, List.getElem_cons_zero, List.setIfInBounds_toArray, List.set_cons_zero, List.set_cons_succ]
      refine wpAnyH_take (i := 6) (v := ?vh2_6) rfl (by kernel_rfl) (by kernel_rfl) (by kernel_rfl) (fun _ _ _ h => h) (Or.inl ⟨by kernel_rfl, ?yh2_6⟩) (by assumption) ?_
      case yh2_6 => (intro w hSw; (try dsimp only at hSw); go_simp; try with_reducible rfl)
      refine wpAnyH_take (i := 7) (v := ?vh2_7) rfl (by kernel_rfl) (by kernel_rfl) (by kernel_rfl) (fun _ _ _ h => h) (Or.inl ⟨by kernel_rfl, ?yh2_7⟩) (by assumption) ?_
      case yh2_7 => (intro w hSw; (try dsimp only at hSw); go_simp; try with_reducible rfl)
      refine wpAnyH_take (i := 8) (v := ?vh2_8) rfl (by kernel_rfl) (by kernel_rfl) (by kernel_rfl) (fun _ _ _ h => h) (Or.inl ⟨by kernel_rfl, ?yh2_8⟩) (by assumption) ?_
      case yh2_8 => (intro w hSw; (try dsimp only at hSw); go_simp; try with_reducible rfl)
      refine wpAnyH_take (i := 9) (v := ?vh2_9) rfl (by kernel_rfl) (by kernel_rfl) (by kernel_rfl) (fun _ _ _ h => h) (Or.inl ⟨by kernel_rfl, ?yh2_9⟩) (by assumption) ?_
      case yh2_9 => (intro w hSw; (try dsimp only at hSw); go_simp; try with_reducible rfl)
      refine wpAnyH_take (i := 10) (v := ?vh2_10) rfl (by kernel_rfl) (by kernel_rfl) (by kernel_rfl) (fun _ _ _ h => h) (Or.inl ⟨by kernel_rfl, ?yh2_10⟩) (by assumption) ?_
      case yh2_10 => (intro w hSw; (try dsimp only at hSw); go_simp; try with_reducible rfl)
      try simp only [Act.put, List.getElem_toArray, List.getElem_cons_succ, List.getElem_cons_zero, List.setIfInBounds_toArray, List.set_cons_zero, List.set_cons_succ]
      refine wpAnyH_done (by kernel_rfl) ?_ _
      go_wp2
      go_meet
      exact ⟨HP2.out, F6, G6⟩
    · have F3 : Kp V (w2.drew.alloc (.cells #[.bool v, .int .u64 (h : Int), .int .u64 (l : Int), .int .i64 n, .int .i64 act] 36 (0, 0))) := K2.drew.blk (by go_grown)
      obtain ⟨q1, cap1, w4, r1, ho1, hb4⟩ := HAP.out (w2.drew.alloc (.cells #[.bool v, .int .u64 (h : Int), .int .u64 (l : Int), .int .i64 n, .int .i64 act] 36 (0, 0))) (F3.bel HB.out)
      have hsz2 : (w2.drew.alloc (.cells #[.bool v, .int .u64 (h : Int), .int .u64 (l : Int), .int .i64 n, .int .i64 act] 36 (0, 0))).heap.size = w2.heap.size + 1 := (show (w2.alloc (.cells #[.bool v, .int .u64 (h : Int), .int .u64 (l : Int), .int .i64 n, .int .i64 act] 36 (0, 0))).heap.size = _ by simp)
      have hdz : w2.drew.heap.size = w2.heap.size := rfl
      have hz4 := (HZ1.out w2.drew).blk hb4
      go_simp
      refine hK.out _ _ (HS.out _ F3) (fun hHeld3 => ?_)
      clear hK K
      try simp only [Act.put, List.getElem_toArray, List.getElem_cons_succ, List.getElem_cons_zero, List.setIfInBounds_toArray, List.set_cons_zero, List.set_cons_succ]
      refine wpAnyH_ready (rs := [1]) (by kernel_rfl) (by simp) ?_
      refine AllReadyH.cons rfl (fun K hK => ?_) AllReadyH.nil
      refine step_app rfl _ _ rfl rfl _ _ _ _ rfl rfl r1 ?_
      have F4 : Kp V w4 := F3.blk hb4
      refine hK.out _ _ (HS.out _ F4) (fun hHeld4 => ?_)
      clear hK K r1
      try simp only [Act.put, List.getElem_toArray, List.getElem_cons_succ, List.getElem_cons_zero, List.setIfInBounds_toArray, List.set_cons_zero, List.set_cons_succ]
      obtain ⟨q5, cap5, w5, r5, ho5, hb5⟩ := rapp1 (z := z) ho1 hz4 hb4.size (by omega)
      refine wpAnyH_ready (rs := [4]) (by kernel_rfl) (by simp) ?_
      refine AllReadyH.cons rfl (fun K hK => ?_) AllReadyH.nil
      refine step_app rfl _ _ rfl rfl _ _ _ _ rfl rfl r5 ?_
      have F5 : Kp V w5 := Below.trans F4 (hb5.mono F3.size)
      have G5 : Below w2.heap.size w2 w5 := ((Below.refl _ _).drew.alloc (Nat.le_refl _) _).trans ((hb4.mono (by rw [hsz2]; omega)).trans (hb5.mono (by rw [hsz2]; omega)))
      refine hK.out _ _ (HS.out _ F5) (fun hHeld5 => ?_)
      clear hK K r5
      try simp only [Act.put, List.getElem_toArray, List.getElem_cons_succ, List.getElem_cons_zero, List.setIfInBounds_toArray, List.set_cons_zero, List.set_cons_succ]
      refine wpAnyH_ready (rs := [5]) (by kernel_rfl) (by simp) ?_
      refine AllReadyH.cons rfl (fun K hK => ?_) AllReadyH.nil
      go_simp
      go_at_call 9
      with_reducible refine (HN2.out _ _ _ _ ho5).mono ?_
      rintro e w6 ⟨L2, E2, rfl, hP2, hb6⟩
      have F6 := F5.blk hb6
      have HP2 := Hid.mk hP2
      have G6 : Below w2.heap.size w2 w6 := G5.trans (hb6.mono G5.size)
      refine hK.out _ _ (HS.out _ F6) (fun hHeld6 => ?_)
      clear hK K hP2
      try simp only [Act.put, List.getElem_toArray, List.getElem_cons_succ, List.getElem_cons_zero, List.setIfInBounds_toArray, List.set_cons_zero, List.set_cons_succ]
      refine wpAnyH_take (i := 6) (v := ?vh3_6) rfl (by kernel_rfl) (by kernel_rfl) (by kernel_rfl) (fun _ _ _ h => h) (Or.inl ⟨by kernel_rfl, ?yh3_6⟩) (by assumption) ?_
      case yh3_6 => (intro w hSw; (try dsimp only at hSw); go_simp; try with_reducible rfl)
      refine wpAnyH_take (i := 7) (v := ?vh3_7) rfl (by kernel_rfl) (by kernel_rfl) (by kernel_rfl) (fun _ _ _ h => h) (Or.inl ⟨by kernel_rfl, ?yh3_7⟩) (by assumption) ?_
      case yh3_7 => (intro w hSw; (try dsimp only at hSw); go_simp; try with_reducible rfl)
      refine wpAnyH_take (i := 8) (v := ?vh3_8) rfl (by kernel_rfl) (by kernel_rfl) (by kernel_rfl) (fun _ _ _ h => h) (Or.inl ⟨by kernel_rfl, ?yh3_8⟩) (by assumption) ?_
      case yh3_8 => (intro w hSw; (try dsimp only at hSw); go_simp; try with_reducible rfl)
      refine wpAnyH_take (i := 9) (v := ?vh3_9) rfl (by kernel_rfl) (by kernel_rfl) (by kernel_rfl) (fun _ _ _ h => h) (Or.inl ⟨by kernel_rfl, ?yh3_9⟩) (by assumption) ?_
      case yh3_9 => (intro w hSw; (try dsimp only at hSw); go_simp; try with_reducible rfl)
      refine wpAnyH_take (i := 10) (v := ?vh3_10) rfl (by kernel_rfl) (by kernel_rfl) (by kernel_rfl) (fun _ _ _ h => h) (Or.inl ⟨by kernel_rfl, ?yh3_10⟩) (by assumption) ?_
      case yh3_10 => (intro w hSw; (try dsimp only at hSw); go_simp; try with_reducible rfl)
      try simp only [Act.put, List.getElem_toArray, List.getElem_cons_succ, List.getElem_cons_zero, List.setIfInBounds_toArray, List.set_cons_zero, List.set_cons_succ]
      refine wpAnyH_done (by kernel_rfl) ?_ _
      go_wp2
      go_meet
      exact ⟨HP2.out, F6, G6⟩
  case rest =>
    have HP2 := Hid.mk (hcut.1)
    have K3 := hcut.2.1
    have HB3 := Hid.mk hcut.2.2
    clear hcut hS0
    have hc3 := HCC.out _ K3
    rcases HP1.out with ⟨hOk1, X1, D1, rfl, rfl, T1⟩ | ⟨_, rfl, rfl⟩
    · rcases HP2.out with ⟨hOk2, X2, D2, rfl, rfl, T2⟩ | ⟨_, rfl, rfl⟩
      · have HOK1 := Hid.mk hOk1
        have HOK2 := Hid.mk hOk2
        have HF1 := Hid.mk (HF.out X1 D1 rs wc hOk1 HOK.out (T1.blk HB3.out))
        have HT2 := Hid.mk T2
        clear hOk1 hOk2 T1 T2
        go_wp2_with fail
        refine HF1.out.mono ?_
        rintro e w6 ⟨res1, hres1, rfl, hb6⟩
        obtain ⟨act1, ⟨pv1, ph1, pl1⟩, pn1, is1⟩ := res1
        have HR1 := Hid.mk hres1
        have K6 := K3.blk hb6
        have HG6 : Hid (Below wc.heap.size wc w6) := hb6
        clear hres1 hb6 hc3
        simp only [resV, fdV]
        obtain ⟨V6, hV6, HB6⟩ : ∃ V6, w6.alloc (.cells #[.bool pv1, .int .u64 (ph1 : Int), .int .u64 (pl1 : Int), .int .i64 pn1] 34 (0, 0)) = V6 ∧ Hid (Below w6.heap.size w6 V6) := ⟨_, rfl, by unfold Hid; go_grown⟩
        have HPC1 : Hid (∀ w, Kp V6 w → w.cell? ⟨w6.heap.size, 0, none⟩ = some (.bool pv1) ∧ w.cell? ⟨w6.heap.size, 1, none⟩ = some (.int .u64 (ph1 : Int)) ∧ w.cell? ⟨w6.heap.size, 2, none⟩ = some (.int .u64 (pl1 : Int)) ∧ w.cell? ⟨w6.heap.size, 3, none⟩ = some (.int .i64 pn1)) := fun w k => by
          have hc := pf_cells w6 pv1 ph1 pl1 pn1
          rw [hV6] at hc
          have hb : w6.heap.size < V6.heap.size := by rw [← hV6]; simp
          exact ⟨k.cell hc.1 hb, k.cell hc.2.1 hb, k.cell hc.2.2.1 hb, k.cell hc.2.2.2 hb⟩
        have KV6 := K6.blk HB6.out
        have hc6 := HCC.out _ KV6
        have HF2 := Hid.mk (HF.out X2 D2 (rs ++ [z]) V6 HOK2.out HZO.out (HT2.out.blk (HG6.out.trans (HB6.out.mono HG6.out.size))))
        go_wp2_with fail
        try rw [hV6]
        clear hV6 hc6
        refine HF2.out.mono ?_
        rintro e w7 ⟨res2, hres2, rfl, hb7⟩
        obtain ⟨act2, ⟨pv2, ph2, pl2⟩, pn2, is2⟩ := res2
        have HR2 := Hid.mk hres2
        have K7 := KV6.blk hb7
        have J7 : Kp V6 w7 := hb7
        clear hres2 hb7
        simp only [resV, fdV]
        obtain ⟨V7, hV7, HB7⟩ : ∃ V7, w7.alloc (.cells #[.bool pv2, .int .u64 (ph2 : Int), .int .u64 (pl2 : Int), .int .i64 pn2] 34 (0, 0)) = V7 ∧ Hid (Below w7.heap.size w7 V7) := ⟨_, rfl, by unfold Hid; go_grown⟩
        have HPC2 : Hid (∀ w, Kp V7 w → w.cell? ⟨w7.heap.size, 0, none⟩ = some (.bool pv2) ∧ w.cell? ⟨w7.heap.size, 1, none⟩ = some (.int .u64 (ph2 : Int)) ∧ w.cell? ⟨w7.heap.size, 2, none⟩ = some (.int .u64 (pl2 : Int)) ∧ w.cell? ⟨w7.heap.size, 3, none⟩ = some (.int .i64 pn2)) := fun w k => by
          have hc := pf_cells w7 pv2 ph2 pl2 pn2
          rw [hV7] at hc
          have hb : w7.heap.size < V7.heap.size := by rw [← hV7]; simp
          exact ⟨k.cell hc.1 hb, k.cell hc.2.1 hb, k.cell hc.2.2.1 hb, k.cell hc.2.2.2 hb⟩
        have HUP : Hid (∀ w, Kp V7 w → Kp V w ∧ Kp V6 w) := fun w k => ⟨K7.blk (HB7.out.trans (Below.mono k HB7.out.size)), J7.blk (HB7.out.trans (Below.mono k HB7.out.size))⟩
        have HALL : Hid (∀ w, Kp V7 w → ((w.cell? ⟨W.heap.size, 0, none⟩ = some (.bool v) ∧ w.cell? ⟨W.heap.size, 1, none⟩ = some (.int .u64 (h : Int)) ∧ w.cell? ⟨W.heap.size, 2, none⟩ = some (.int .u64 (l : Int)) ∧ w.cell? ⟨W.heap.size, 3, none⟩ = some (.int .i64 n) ∧ w.cell? ⟨W.heap.size, 4, none⟩ = some (.int .i64 act)) ∧ w.cell? ⟨W.heap.size + 1, 0, none⟩ = some (.bool u) ∧ w.cell? ⟨W.heap.size + 1, 1, none⟩ = some (.int .u64 (x : Int)) ∧ w.cell? ⟨W.heap.size + 1, 2, none⟩ = some (.int .u64 (y : Int))) ∧ (w.cell? ⟨w6.heap.size, 0, none⟩ = some (.bool pv1) ∧ w.cell? ⟨w6.heap.size, 1, none⟩ = some (.int .u64 (ph1 : Int)) ∧ w.cell? ⟨w6.heap.size, 2, none⟩ = some (.int .u64 (pl1 : Int)) ∧ w.cell? ⟨w6.heap.size, 3, none⟩ = some (.int .i64 pn1)) ∧ (w.cell? ⟨w7.heap.size, 0, none⟩ = some (.bool pv2) ∧ w.cell? ⟨w7.heap.size, 1, none⟩ = some (.int .u64 (ph2 : Int)) ∧ w.cell? ⟨w7.heap.size, 2, none⟩ = some (.int .u64 (pl2 : Int)) ∧ w.cell? ⟨w7.heap.size, 3, none⟩ = some (.int .i64 pn2))) := fun w k => ⟨HCC.out w (HUP.out w k).1, HPC1.out w (HUP.out w k).2, HPC2.out w k⟩
        have hc7 := HALL.out _ (Kp.refl V7)
        go_wp2_with fail
        try rw [hV7]
        clear hV7
        refine (HHO.out _).mono ?_
        rintro e w8 ⟨rfl, hb8⟩
        have K8 : Kp V7 w8 := hb8
        have hc8 := HALL.out _ K8
        clear hb8 hc7
        cases R with
        | false =>
          have hE := more_no HOK2.out (HRF.out rfl) HR1.out HR2.out
          simp only [Res.mk.injEq, Ad.mk.injEq] at hE
          obtain ⟨rfl, ⟨rfl, rfl, rfl⟩, rfl, rfl⟩ := hE
          go_wp2_with fail
          refine (HHO.out _).mono ?_
          rintro e w9 ⟨rfl, hb9⟩
          have K9 := K8.blk hb9
          have hc9 := HALL.out _ K9
          clear hb9 hc8
          have HKW : Hid (∀ w, Kp w9 w → Kp W w ∧ Kp V7 w) := fun w k => ⟨(HUP.out w (K9.blk k)).1.bel HB.out, K9.blk k⟩
          go_wp2
          clear hc9
          go_loopw [18, 19] (fun s i wr => MvRel w9 rs s i wr) (fun _ i _ => (intOf i + 1).toNat)
          case atStart => exact ⟨rs.length, none, 0, by simp, by go_num, Nat.le_refl _, by rw [List.drop_length]; exact OwnR.nil _ _, Kp.refl _⟩
          case round =>
            obtain ⟨m, q3, cap3, rfl, rfl, hm, hown, K⟩ := hrel
            by_cases h0 : 0 < m
            · obtain ⟨k, rfl⟩ : ∃ k, m = k + 1 := ⟨m - 1, by omega⟩
              have hk : k < rs.length := by omega
              have hki : (k : Int) < (rs.length : Int) := by omega
              rw [show (((k + 1 : Nat) : Int) - 1) = (k : Int) by omega]
              have HDR := Hid.mk (drop_rev hk)
              have HDL : Hid ((rs.drop (k + 1)).reverse.length ≤ rs.length) := by unfold Hid; simp
              obtain ⟨L, hL⟩ : ∃ L, (rs.drop (k + 1)).reverse = L := ⟨_, rfl⟩
              rw [hL] at HDR HDL hown ⊢
              clear hL
              obtain ⟨g, off, rfl, hg, _⟩ := HAT.out k hk
              have hck := (HAT.out.blk (HKW.out _ K).1).at k hk
              generalize rs[k] = r' at HDR hck
              obtain ⟨⟨v', h', l'⟩, n', act'⟩ := r'
              simp only [RlC] at hck
              have K4 : Kp w9 (wr.alloc (.cells #[.bool v', .int .u64 (h' : Int), .int .u64 (l' : Int), .int .i64 n', .int .i64 act'] 36 (0, 0))) := K.blk (by go_grown)
              have hzk : RlsAt (wr.alloc (.cells #[.bool v', .int .u64 (h' : Int), .int .u64 (l' : Int), .int .i64 n', .int .i64 act'] 36 (0, 0))) (some ⟨wr.heap.size, 0, none⟩) [⟨⟨v', h', l'⟩, n', act'⟩] := rls_heap (heap_alloc_last _ _)
              obtain ⟨q5, cap5, w5, r5, ho5, hb5⟩ := rapp1 (z := ⟨⟨v', h', l'⟩, n', act'⟩) (World.ownsRow.alloc hown (.cells #[.bool v', .int .u64 (h' : Int), .int .u64 (l' : Int), .int .i64 n', .int .i64 act'] 36 (0, 0)) : OwnR _ _ _ _ _) hzk K4.size (by have := HDL.out; omega)
              have HNX : Hid (MvRel w9 rs (.slice q5 (L.length + 1) cap5) (.int .i64 ((k : Int) - 1)) w5) := ⟨k, q5, cap5, by rw [← HDR.out]; simp, rfl, by omega, by rw [← HDR.out]; exact ho5, Below.trans K4 hb5⟩
              clear hzk ho5 hb5 hown K4
              go_wp2
              exact ⟨HNX.out, by simp [intOf]⟩
            · obtain rfl : m = 0 := by omega
              rw [show ((0 : Nat) : Int) - 1 = -1 by omega]
              rw [List.drop_zero] at hown ⊢
              obtain ⟨ln, hln⟩ : ∃ ln, rs.reverse.length = ln := ⟨_, rfl⟩
              have HN4 := Hid.mk (HN3.out _ wr q3 cap3 ln hln hown)
              rw [hln]
              clear hown hln
              go_wp2_with fail
              refine HN4.out.mono ?_
              rintro e w10 ⟨L3, E3, rfl, hP3, hb10⟩
              rcases hP3 with ⟨hOk3, X3, D3, rfl, rfl, T3⟩ | ⟨hno, _, _⟩
              · have K10 := K.blk hb10
                have HF3 := Hid.mk (HF.out X3 D3 rs.reverse w10 hOk3 HRO.out T3)
                have hc10 := HALL.out _ (HKW.out _ K10).2
                clear hOk3 T3 hb10
                go_wp2_with fail
                refine HF3.out.mono ?_
                rintro e w11 ⟨res3, hres3, rfl, hb11⟩
                obtain rfl := more_rev HOK1.out HR1.out hres3
                simp only [resV, fdV]
                have K11 := K10.blk hb11
                have K12 : Kp w9 (w11.alloc (.cells #[.bool pv1, .int .u64 (ph1 : Int), .int .u64 (pl1 : Int), .int .i64 pn1] 34 (0, 0))) := K11.blk (by go_grown)
                have hc12 := HALL.out _ (HKW.out _ K12).2
                clear hres3 hb11 hc10
                go_wp2
                go_ret
                exact ⟨rfl, (HKW.out _ K12).1⟩
              · exact absurd HOK1.out.rev hno
        | true =>
          obtain ⟨e1, e2, e3⟩ := more_yes (HRT.out rfl) HR1.out HR2.out
          simp only at e1 e2 e3
          subst e1
          rw [HZN.out] at e2
          have hd2 : decide (pn2 < n) = false := decide_eq_false (by omega)
          go_wp2_with fail
          refine (HHO.out _).mono ?_
          rintro e w9 ⟨rfl, hb9⟩
          have K9 := K8.blk hb9
          have hc9 := HALL.out _ K9
          clear hb9 hc8
          cases is1 with
          | true =>
            have hd3 : decide (pn2 < pn1) = false := decide_eq_false (by have := e3 rfl; omega)
            clear e2 e3
            have HKW : Hid (∀ w, Kp w9 w → Kp W w ∧ Kp V7 w) := fun w k => ⟨(HUP.out w (K9.blk k)).1.bel HB.out, K9.blk k⟩
            go_wp2
            clear hc9
            go_loopw [18, 19] (fun s i wr => MvRel w9 rs s i wr) (fun _ i _ => (intOf i + 1).toNat)
            case atStart => exact ⟨rs.length, none, 0, by simp, by go_num, Nat.le_refl _, by rw [List.drop_length]; exact OwnR.nil _ _, Kp.refl _⟩
            case round =>
              obtain ⟨m, q3, cap3, rfl, rfl, hm, hown, K⟩ := hrel
              by_cases h0 : 0 < m
              · obtain ⟨k, rfl⟩ : ∃ k, m = k + 1 := ⟨m - 1, by omega⟩
                have hk : k < rs.length := by omega
                have hki : (k : Int) < (rs.length : Int) := by omega
                rw [show (((k + 1 : Nat) : Int) - 1) = (k : Int) by omega]
                have HDR := Hid.mk (drop_rev hk)
                have HDL : Hid ((rs.drop (k + 1)).reverse.length ≤ rs.length) := by unfold Hid; simp
                obtain ⟨L, hL⟩ : ∃ L, (rs.drop (k + 1)).reverse = L := ⟨_, rfl⟩
                rw [hL] at HDR HDL hown ⊢
                clear hL
                obtain ⟨g, off, rfl, hg, _⟩ := HAT.out k hk
                have hck := (HAT.out.blk (HKW.out _ K).1).at k hk
                generalize rs[k] = r' at HDR hck
                obtain ⟨⟨v', h', l'⟩, n', act'⟩ := r'
                simp only [RlC] at hck
                have K4 : Kp w9 (wr.alloc (.cells #[.bool v', .int .u64 (h' : Int), .int .u64 (l' : Int), .int .i64 n', .int .i64 act'] 36 (0, 0))) := K.blk (by go_grown)
                have hzk : RlsAt (wr.alloc (.cells #[.bool v', .int .u64 (h' : Int), .int .u64 (l' : Int), .int .i64 n', .int .i64 act'] 36 (0, 0))) (some ⟨wr.heap.size, 0, none⟩) [⟨⟨v', h', l'⟩, n', act'⟩] := rls_heap (heap_alloc_last _ _)
                obtain ⟨q5, cap5, w5, r5, ho5, hb5⟩ := rapp1 (z := ⟨⟨v', h', l'⟩, n', act'⟩) (World.ownsRow.alloc hown (.cells #[.bool v', .int .u64 (h' : Int), .int .u64 (l' : Int), .int .i64 n', .int .i64 act'] 36 (0, 0)) : OwnR _ _ _ _ _) hzk K4.size (by have := HDL.out; omega)
                have HNX : Hid (MvRel w9 rs (.slice q5 (L.length + 1) cap5) (.int .i64 ((k : Int) - 1)) w5) := ⟨k, q5, cap5, by rw [← HDR.out]; simp, rfl, by omega, by rw [← HDR.out]; exact ho5, Below.trans K4 hb5⟩
                clear hzk ho5 hb5 hown K4
                go_wp2
                exact ⟨HNX.out, by simp [intOf]⟩
              · obtain rfl : m = 0 := by omega
                rw [show ((0 : Nat) : Int) - 1 = -1 by omega]
                rw [List.drop_zero] at hown ⊢
                obtain ⟨ln, hln⟩ : ∃ ln, rs.reverse.length = ln := ⟨_, rfl⟩
                have HN4 := Hid.mk (HN3.out _ wr q3 cap3 ln hln hown)
                rw [hln]
                clear hown hln
                go_wp2_with fail
                refine HN4.out.mono ?_
                rintro e w10 ⟨L3, E3, rfl, hP3, hb10⟩
                rcases hP3 with ⟨hOk3, X3, D3, rfl, rfl, T3⟩ | ⟨hno, _, _⟩
                · have K10 := K.blk hb10
                  have HF3 := Hid.mk (HF.out X3 D3 rs.reverse w10 hOk3 HRO.out T3)
                  have hc10 := HALL.out _ (HKW.out _ K10).2
                  clear hOk3 T3 hb10
                  go_wp2_with fail
                  refine HF3.out.mono ?_
                  rintro e w11 ⟨res3, hres3, rfl, hb11⟩
                  obtain rfl := more_rev HOK1.out HR1.out hres3
                  simp only [resV, fdV]
                  have K11 := K10.blk hb11
                  have K12 : Kp w9 (w11.alloc (.cells #[.bool pv1, .int .u64 (ph1 : Int), .int .u64 (pl1 : Int), .int .i64 pn1] 34 (0, 0))) := K11.blk (by go_grown)
                  have hc12 := HALL.out _ (HKW.out _ K12).2
                  clear hres3 hb11 hc10
                  go_wp2
                  go_ret
                  exact ⟨rfl, (HKW.out _ K12).1⟩
                · exact absurd HOK1.out.rev hno
          | false =>
            clear e2 e3
            have HKW : Hid (∀ w, Kp w9 w → Kp W w ∧ Kp V7 w) := fun w k => ⟨(HUP.out w (K9.blk k)).1.bel HB.out, K9.blk k⟩
            go_wp2
            clear hc9
            go_loopw [18, 19] (fun s i wr => MvRel w9 rs s i wr) (fun _ i _ => (intOf i + 1).toNat)
            case atStart => exact ⟨rs.length, none, 0, by simp, by go_num, Nat.le_refl _, by rw [List.drop_length]; exact OwnR.nil _ _, Kp.refl _⟩
            case round =>
              obtain ⟨m, q3, cap3, rfl, rfl, hm, hown, K⟩ := hrel
              by_cases h0 : 0 < m
              · obtain ⟨k, rfl⟩ : ∃ k, m = k + 1 := ⟨m - 1, by omega⟩
                have hk : k < rs.length := by omega
                have hki : (k : Int) < (rs.length : Int) := by omega
                rw [show (((k + 1 : Nat) : Int) - 1) = (k : Int) by omega]
                have HDR := Hid.mk (drop_rev hk)
                have HDL : Hid ((rs.drop (k + 1)).reverse.length ≤ rs.length) := by unfold Hid; simp
                obtain ⟨L, hL⟩ : ∃ L, (rs.drop (k + 1)).reverse = L := ⟨_, rfl⟩
                rw [hL] at HDR HDL hown ⊢
                clear hL
                obtain ⟨g, off, rfl, hg, _⟩ := HAT.out k hk
                have hck := (HAT.out.blk (HKW.out _ K).1).at k hk
                generalize rs[k] = r' at HDR hck
                obtain ⟨⟨v', h', l'⟩, n', act'⟩ := r'
                simp only [RlC] at hck
                have K4 : Kp w9 (wr.alloc (.cells #[.bool v', .int .u64 (h' : Int), .int .u64 (l' : Int), .int .i64 n', .int .i64 act'] 36 (0, 0))) := K.blk (by go_grown)
                have hzk : RlsAt (wr.alloc (.cells #[.bool v', .int .u64 (h' : Int), .int .u64 (l' : Int), .int .i64 n', .int .i64 act'] 36 (0, 0))) (some ⟨wr.heap.size, 0, none⟩) [⟨⟨v', h', l'⟩, n', act'⟩] := rls_heap (heap_alloc_last _ _)
                obtain ⟨q5, cap5, w5, r5, ho5, hb5⟩ := rapp1 (z := ⟨⟨v', h', l'⟩, n', act'⟩) (World.ownsRow.alloc hown (.cells #[.bool v', .int .u64 (h' : Int), .int .u64 (l' : Int), .int .i64 n', .int .i64 act'] 36 (0, 0)) : OwnR _ _ _ _ _) hzk K4.size (by have := HDL.out; omega)
                have HNX : Hid (MvRel w9 rs (.slice q5 (L.length + 1) cap5) (.int .i64 ((k : Int) - 1)) w5) := ⟨k, q5, cap5, by rw [← HDR.out]; simp, rfl, by omega, by rw [← HDR.out]; exact ho5, Below.trans K4 hb5⟩
                clear hzk ho5 hb5 hown K4
                go_wp2
                exact ⟨HNX.out, by simp [intOf]⟩
              · obtain rfl : m = 0 := by omega
                rw [show ((0 : Nat) : Int) - 1 = -1 by omega]
                rw [List.drop_zero] at hown ⊢
                obtain ⟨ln, hln⟩ : ∃ ln, rs.reverse.length = ln := ⟨_, rfl⟩
                have HN4 := Hid.mk (HN3.out _ wr q3 cap3 ln hln hown)
                rw [hln]
                clear hown hln
                go_wp2_with fail
                refine HN4.out.mono ?_
                rintro e w10 ⟨L3, E3, rfl, hP3, hb10⟩
                rcases hP3 with ⟨hOk3, X3, D3, rfl, rfl, T3⟩ | ⟨hno, _, _⟩
                · have K10 := K.blk hb10
                  have HF3 := Hid.mk (HF.out X3 D3 rs.reverse w10 hOk3 HRO.out T3)
                  have hc10 := HALL.out _ (HKW.out _ K10).2
                  clear hOk3 T3 hb10
                  go_wp2_with fail
                  refine HF3.out.mono ?_
                  rintro e w11 ⟨res3, hres3, rfl, hb11⟩
                  obtain rfl := more_rev HOK1.out HR1.out hres3
                  simp only [resV, fdV]
                  have K11 := K10.blk hb11
                  have K12 : Kp w9 (w11.alloc (.cells #[.bool pv1, .int .u64 (ph1 : Int), .int .u64 (pl1 : Int), .int .i64 pn1] 34 (0, 0))) := K11.blk (by go_grown)
                  have hc12 := HALL.out _ (HKW.out _ K12).2
                  clear hres3 hb11 hc10
                  go_wp2
                  go_ret
                  exact ⟨rfl, (HKW.out _ K12).1⟩
                · exact absurd HOK1.out.rev hno
      · go_wp2
        go_ret
        exact ⟨rfl, K3.bel HB.out⟩
    · go_wp2
      go_ret
      exact ⟨rfl, K3.bel HB.out⟩
end Go.Proofs.YtpognbkdafnfjaaDoor
