/- Layer 13: New. -/
import Derived.Test.YtpognbkdafnfjaaDoorAcFd
namespace Go.Proofs.YtpognbkdafnfjaaDoor
set_option linter.unusedVariables false
set_option linter.unusedSimpArgs false
open Go.RowKit

set_option maxRecDepth 100000 in
theorem ra_in (w : World) (n : Int) : Calls Tryd.prog 20 #[.int .i64 n] w fun e w' => e = .returned (.bool (decide (n = 1 ∨ n = 2 ∨ n = 3))) ∧ Below w.heap.size w w' := by
  by_cases h1 : n = 1
  · subst h1
    go_enter Tryd.func20, Tryd.ntmps20
    go_wp2
    go_ret
    exact ⟨rfl, Below.refl _ _⟩
  · by_cases h2 : n = 2
    · subst h2
      go_enter Tryd.func20, Tryd.ntmps20
      go_wp2
      go_ret
      exact ⟨rfl, Below.refl _ _⟩
    · by_cases h3 : n = 3
      · subst h3
        go_enter Tryd.func20, Tryd.ntmps20
        go_wp2
        go_ret
        exact ⟨rfl, Below.refl _ _⟩
      · rw [decide_eq_false (by omega)]
        go_enter Tryd.func20, Tryd.ntmps20
        go_wp2
        go_ret
        refine ⟨?_, Below.refl _ _⟩
        have e3 : (n == 3) = false := by simpa using h3
        first | rfl | (rw [e3]; rfl) | simp [h1, h2, h3]
/-- rules in a slice. -/
def RlsAt (w : World) (q : Option Addr) (rs : List Rl) : Prop := ∀ j (hj : j < rs.length), ∃ g off, q = some ⟨g, off, none⟩ ∧ g < w.heap.size ∧ w.cell? ⟨g, off + j * 5, none⟩ = some (.bool rs[j].p.v6) ∧ w.cell? ⟨g, off + j * 5 + 1, none⟩ = some (.int .u64 (rs[j].p.hi : Int)) ∧ w.cell? ⟨g, off + j * 5 + 2, none⟩ = some (.int .u64 (rs[j].p.lo : Int)) ∧ w.cell? ⟨g, off + j * 5 + 3, none⟩ = some (.int .i64 rs[j].n) ∧ w.cell? ⟨g, off + j * 5 + 4, none⟩ = some (.int .i64 rs[j].act)
theorem RlsAt.blk {w w' : World} {q : Option Addr} {rs : List Rl} (h : RlsAt w q rs) (hb : Below w.heap.size w w') : RlsAt w' q rs := fun j hj => by
  obtain ⟨g, off, e, hg, c0, c1, c2, c3, c4⟩ := h j hj
  exact ⟨g, off, e, Nat.lt_of_lt_of_le hg hb.size, (hb.cell (p := ⟨g, _, none⟩) hg).trans c0, (hb.cell (p := ⟨g, _, none⟩) hg).trans c1, (hb.cell (p := ⟨g, _, none⟩) hg).trans c2, (hb.cell (p := ⟨g, _, none⟩) hg).trans c3, (hb.cell (p := ⟨g, _, none⟩) hg).trans c4⟩
theorem Tr.drew {N : Nat} {w : World} {X : Nat} {D : Nd} {A : Bool → List Bool → Int} (h : Tr N w X D A) : Tr N w.drew X D A := h.blk (Below.refl _ _).drew
/-- a box, and what lies below. -/
def Kr (N : Nat) (W : World) (R : Nat) (o : Obj) (u : World) : Prop := Below N W u ∧ u.heap[R]? = some o ∧ R < u.heap.size ∧ N ≤ u.heap.size
theorem Kr.drew {N : Nat} {W : World} {R : Nat} {o : Obj} {u : World} (h : Kr N W R o u) : Kr N W R o u.drew := ⟨h.1.drew, h.2.1, h.2.2.1, h.2.2.2⟩
theorem Kr.blk {N : Nat} {W : World} {R : Nat} {o : Obj} {u u' : World} (h : Kr N W R o u) (hb : Below u.heap.size u u') : Kr N W R o u' :=
  ⟨h.1.trans (hb.mono h.2.2.2), (hb.block R h.2.2.1).trans h.2.1, Nat.lt_of_lt_of_le h.2.2.1 hb.size, Nat.le_trans h.2.2.2 hb.size⟩
def NwRel (W : World) (rs : List Rl) (i : Value) (wr : World) : Prop :=
  ∃ (m : Nat) (D : Nd), i = .int .i64 (m : Int) ∧ m ≤ rs.length ∧ Tr W.heap.size wr W.heap.size D (look (rs.take m)) ∧ OkRs (rs.take m) ∧ Below W.heap.size W wr ∧ W.heap.size < wr.heap.size
def NwPost (W : World) (rs : List Rl) (e : Ending) (w' : World) : Prop :=
  Below W.heap.size W w' ∧ ((OkRs rs ∧ ∃ D, e = .returned (.tuple #[pt W.heap.size, .int .i64 0]) ∧ Tr W.heap.size w' W.heap.size D (look rs) ∧ W.heap.size < w'.heap.size) ∨ (¬ OkRs rs ∧ e = .returned (.tuple #[.pointer none, .int .i64 12])))
theorem take_snoc {rs : List Rl} {m : Nat} (h : m < rs.length) : rs.take (m + 1) = rs.take m ++ [rs[m]] := by
  rw [List.take_add_one, List.getElem?_eq_getElem h]; rfl
theorem okRs_take {rs : List Rl} (h : OkRs rs) (m : Nat) : OkRs (rs.take m) := by
  rw [← List.take_append_drop m rs] at h
  exact h.sub

set_option maxRecDepth 100000 in
set_option maxHeartbeats 8000000 in
theorem new_in (W : World) (q : Option Addr) (cap : Nat) (rs : List Rl) (hat : RlsAt W q rs) (hok : ∀ r ∈ rs, r.ok) (hcap : rs.length ≤ cap) (hcap2 : cap ≤ 9223372036854775807) :
    Calls Tryd.prog 9 #[.slice q rs.length cap] W fun e w' => NwPost W rs e w' := by
  have HAT := Hid.mk hat
  have HOK := Hid.mk hok
  have HST : Hid (NwRel W rs (.int .i64 0) (W.alloc aclO)) := ⟨0, _, rfl, Nat.zero_le _, Tr.new W (Nat.le_refl _), OkRs.nil, by go_grown, by simp⟩
  clear hat hok
  go_enter Tryd.func9, Tryd.ntmps9
  go_wp2
  go_loopw [11] (fun i wr => NwRel W rs i wr) (fun i _ => rs.length + 1 - (intOf i).toNat)
  case atStart => exact HST.out
  case round =>
    obtain ⟨m, D, rfl, hm, T, hokp, hbel, hszr⟩ := hrel
    by_cases hlt : m < rs.length
    · obtain ⟨g, off, rfl, hg, c0, c1, c2, c3, c4⟩ := (HAT.out.blk (rs := rs) (w' := wr) hbel) m hlt
      have hrok := HOK.out rs[m] (List.getElem_mem hlt)
      have HSN := Hid.mk (take_snoc hlt)
      have HOKS : Hid (∀ x ∈ rs.take m ++ [rs[m]], x.ok) := fun x hx => by
        rw [← take_snoc hlt] at hx
        exact HOK.out x (List.mem_of_mem_take hx)
      have HNO : Hid (¬ OkRs (rs.take (m + 1)) → ¬ OkRs rs) := fun h h' => h (okRs_take h' _)
      generalize rs[m] = r at *
      obtain ⟨⟨v, h, l⟩, n, act⟩ := r
      simp only at c0 c1 c2 c3 c4
      obtain ⟨⟨hh, hl⟩, hn, hact⟩ := hrok
      simp only at hh hl hn hact
      have HRP := Hid.mk (fun w => rp_in w v h l n hh hl)
      have HRA := Hid.mk (fun w => ra_in w act)
      obtain ⟨V, hV, F, TV⟩ : ∃ V, wr.alloc (rlO v h l n act) = V ∧ Kr W.heap.size W wr.heap.size (rlO v h l n act) V ∧ Tr W.heap.size V W.heap.size D (look (rs.take m)) :=
        ⟨_, rfl, ⟨hbel.alloc (by omega) _, heap_alloc_last _ _, by simp, by simp; omega⟩, T.blk (by go_grown)⟩
      have HS : Hid (∀ w, Kr W.heap.size W wr.heap.size (rlO v h l n act) w → Kr W.heap.size W wr.heap.size (rlO v h l n act) w ∧ w.cell? ⟨wr.heap.size, 0, none⟩ = some (.bool v) ∧ w.cell? ⟨wr.heap.size, 1, none⟩ = some (.int .u64 (h : Int)) ∧ w.cell? ⟨wr.heap.size, 2, none⟩ = some (.int .u64 (l : Int)) ∧ w.cell? ⟨wr.heap.size, 3, none⟩ = some (.int .i64 n) ∧ w.cell? ⟨wr.heap.size, 4, none⟩ = some (.int .i64 act)) := fun w k => ⟨k, cell_of_heap k.2.1 rfl, cell_of_heap k.2.1 rfl, cell_of_heap k.2.1 rfl, cell_of_heap k.2.1 rfl, cell_of_heap k.2.1 rfl⟩
      have HTO : Hid (∀ v q p, D v q = some p → p.1 ≠ wr.heap.size) := fun v q p hp => by have := (T.old v q p hp).2; omega
      clear T hbel
      go_upto_region 5 with fail
      try rw [hV]
      clear hV c0 c1 c2 c3 c4
      by_cases hp : 0 ≤ n ∧ okP ⟨v, h, l⟩ n.toNat
      · by_cases hac : act = 1 ∨ act = 2 ∨ act = 3
        · rw [decide_eq_true hp] at HRP
          rw [decide_eq_true hac] at HRA
          obtain ⟨k, hk⟩ : ∃ k : Nat, n = k := ⟨n.toNat, by omega⟩
          have HAD : Hid (∀ w, W.heap.size ≤ w.heap.size → Tr W.heap.size w W.heap.size D (look (rs.take m)) → Calls Tryd.prog 22 #[pO (D v []), rlV v h l n act] w fun e w' => NaPost W.heap.size w D W.heap.size (look (rs.take m)) ⟨v, h, l⟩ k act e w') := fun w hw t => by
            rw [hk]
            exact nadd_in hw t v h l k act hh hl (by have := hp.2.2.1; omega)
          have HGD : Hid (Rl.good ⟨⟨v, h, l⟩, n, act⟩) := ⟨hp, hac⟩
          have HNA := Hid.mk (not_add hokp HGD.out HOKS.out)
          have HLA := Hid.mk (fun hx => (look_add hx HOKS.out).1)
          have HKN : Hid (n.toNat = k) := by unfold Hid; omega
          clear hk
          refine wp_region_held_drew (S := fun w => Kr W.heap.size W wr.heap.size (rlO v h l n act) w ∧ w.cell? ⟨wr.heap.size, 0, none⟩ = some (.bool v) ∧ w.cell? ⟨wr.heap.size, 1, none⟩ = some (.int .u64 (h : Int)) ∧ w.cell? ⟨wr.heap.size, 2, none⟩ = some (.int .u64 (l : Int)) ∧ w.cell? ⟨wr.heap.size, 3, none⟩ = some (.int .i64 n) ∧ w.cell? ⟨wr.heap.size, 4, none⟩ = some (.int .i64 act)) (by kernel_rfl) (HS.out _ (Kr.drew F)) (fun hHeld => ?_)
          refine wpAnyH_take (i := 0) (v := ?vg1_0) rfl (by kernel_rfl) (by kernel_rfl) (by kernel_rfl) (fun _ _ _ h => h) (Or.inl ⟨by kernel_rfl, ?yg1_0⟩) (by assumption) ?_
          case yg1_0 => (intro w hSw; (try dsimp only at hSw); go_simp; try with_reducible rfl)
          refine wpAnyH_take (i := 1) (v := ?vg1_1) rfl (by kernel_rfl) (by kernel_rfl) (by kernel_rfl) (fun _ _ _ h => h) (Or.inl ⟨by kernel_rfl, ?yg1_1⟩) (by assumption) ?_
          case yg1_1 => (intro w hSw; (try dsimp only at hSw); go_simp; try with_reducible rfl)
          try simp only [Act.put, List.getElem_toArray, List.getElem_cons_succ, List.getElem_cons_zero, List.setIfInBounds_toArray, List.set_cons_zero, List.set_cons_succ]
          refine wpAnyH_ready (rs := [2]) (by kernel_rfl) (by simp) ?_
          refine AllReadyH.cons rfl (fun K hK => ?_) AllReadyH.nil
          go_simp
          go_at_call 19
          with_reducible refine (HRP.out _).mono ?_
          rintro e w2 ⟨rfl, hb2⟩
          have F2 := Kr.blk (N := W.heap.size) (W := W) (R := wr.heap.size) (o := rlO v h l n act) (by repeat (first | assumption | apply Kr.drew)) hb2
          have T2 := Tr.blk (N := W.heap.size) (X := W.heap.size) (D := D) (A := look (rs.take m)) (by repeat (first | assumption | apply Tr.drew)) hb2
          have hs2 := HS.out _ F2
          refine hK.out _ _ hs2 (fun hHeld2 => ?_)
          clear hK K
          try simp only [Act.put, List.getElem_toArray, List.getElem_cons_succ, List.getElem_cons_zero, List.setIfInBounds_toArray, List.set_cons_zero, List.set_cons_succ]
          refine wpAnyH_take (i := 3) (v := ?vg1_3) rfl (by kernel_rfl) (by kernel_rfl) (by kernel_rfl) (fun _ _ _ h => h) (Or.inl ⟨by kernel_rfl, ?yg1_3⟩) (by assumption) ?_
          case yg1_3 => (intro w hSw; (try dsimp only at hSw); go_simp; try with_reducible rfl)
          refine wpAnyH_take (i := 4) (v := ?vg1_4) rfl (by kernel_rfl) (by kernel_rfl) (by kernel_rfl) (fun _ _ _ h => h) (Or.inl ⟨by kernel_rfl, ?yg1_4⟩) (by assumption) ?_
          case yg1_4 => (intro w hSw; (try dsimp only at hSw); go_simp; try with_reducible rfl)
          refine wpAnyH_take (i := 5) (v := ?vg1_5) rfl (by kernel_rfl) (by kernel_rfl) (by kernel_rfl) (fun _ _ _ h => h) (Or.inl ⟨by kernel_rfl, ?yg1_5⟩) (by assumption) ?_
          case yg1_5 => (intro w hSw; (try dsimp only at hSw); go_simp; try with_reducible rfl)
          refine wpAnyH_take (i := 6) (v := ?vg1_6) rfl (by kernel_rfl) (by kernel_rfl) (by kernel_rfl) (fun _ _ _ h => h) (Or.inl ⟨by kernel_rfl, ?yg1_6⟩) (by assumption) ?_
          case yg1_6 => (intro w hSw; (try dsimp only at hSw); go_simp; try with_reducible rfl)
          try simp only [Act.put, List.getElem_toArray, List.getElem_cons_succ, List.getElem_cons_zero, List.setIfInBounds_toArray, List.set_cons_zero, List.set_cons_succ]
          refine wpAnyH_ready (rs := [7]) (by kernel_rfl) (by simp) ?_
          refine AllReadyH.cons rfl (fun K hK => ?_) AllReadyH.nil
          go_simp
          go_at_call 20
          with_reducible refine (HRA.out _).mono ?_
          rintro e w3 ⟨rfl, hb3⟩
          have F3 := Kr.blk (N := W.heap.size) (W := W) (R := wr.heap.size) (o := rlO v h l n act) (by repeat (first | assumption | apply Kr.drew)) hb3
          have T3 := Tr.blk (N := W.heap.size) (X := W.heap.size) (D := D) (A := look (rs.take m)) (by repeat (first | assumption | apply Tr.drew)) hb3
          have hs3 := HS.out _ F3
          refine hK.out _ _ hs3 (fun hHeld3 => ?_)
          clear hK K
          try simp only [Act.put, List.getElem_toArray, List.getElem_cons_succ, List.getElem_cons_zero, List.setIfInBounds_toArray, List.set_cons_zero, List.set_cons_succ]
          refine wpAnyH_take (i := 8) (v := ?vg1_8) rfl (by kernel_rfl) (by kernel_rfl) (by kernel_rfl) (fun _ _ _ h => h) (Or.inl ⟨by kernel_rfl, ?yg1_8⟩) (by assumption) ?_
          case yg1_8 => (intro w hSw; (try dsimp only at hSw); go_simp; try with_reducible rfl)
          refine wpAnyH_take (i := 9) (v := ?vg1_9) rfl (by kernel_rfl) (by kernel_rfl) (by kernel_rfl) (fun _ _ _ h => h) (Or.inl ⟨by kernel_rfl, ?yg1_9⟩) (by assumption) ?_
          case yg1_9 => (intro w hSw; (try dsimp only at hSw); go_simp; try with_reducible rfl)
          refine wpAnyH_take (i := 10) (v := ?vg1_10) rfl (by kernel_rfl) (by kernel_rfl) (by kernel_rfl) (fun _ _ _ h => h) (Or.inl ⟨by kernel_rfl, ?yg1_10⟩) (by assumption) ?_
          case yg1_10 => (intro w hSw; (try dsimp only at hSw); go_simp; try with_reducible rfl)
          refine wpAnyH_take (i := 11) (v := ?vg1_11) rfl (by kernel_rfl) (by kernel_rfl) (by kernel_rfl) (fun _ _ _ h => h) (Or.inl ⟨by kernel_rfl, ?yg1_11⟩) (by assumption) ?_
          case yg1_11 => (intro w hSw; (try dsimp only at hSw); go_simp; try with_reducible rfl)
          refine wpAnyH_take (i := 12) (v := ?vg1_12) rfl (by kernel_rfl) (by kernel_rfl) (by kernel_rfl) (fun _ _ _ h => h) (Or.inl ⟨by kernel_rfl, ?yg1_12⟩) (by assumption) ?_
          case yg1_12 => (intro w hSw; (try dsimp only at hSw); go_simp; try with_reducible rfl)
          refine wpAnyH_take (i := 13) (v := ?vg1_13) rfl (by kernel_rfl) (by kernel_rfl) (by kernel_rfl) (fun _ _ _ h => h) (Or.inl ⟨by kernel_rfl, ?yg1_13⟩) (by assumption) ?_
          case yg1_13 => (intro w hSw; (try dsimp only at hSw); go_simp; try with_reducible rfl)
          refine wpAnyH_take (i := 14) (v := ?vg1_14) rfl (by kernel_rfl) (by kernel_rfl) (by kernel_rfl) (fun _ _ _ h => h) (Or.inl ⟨by kernel_rfl, ?yg1_14⟩) (by assumption) ?_
          case yg1_14 => (intro w hSw; (try dsimp only at hSw); go_simp; try with_reducible rfl)
          refine wpAnyH_take (i := 16) (v := ?vg1_16) rfl (by kernel_rfl) (by kernel_rfl) (by kernel_rfl) (fun _ _ _ h => h) (Or.inl ⟨by kernel_rfl, ?yg1_16⟩) (by assumption) ?_
          case yg1_16 => (intro w hSw; (try dsimp only at hSw); go_simp; try with_reducible rfl)
          try simp only [Act.put, List.getElem_toArray, List.getElem_cons_succ, List.getElem_cons_zero, List.setIfInBounds_toArray, List.set_cons_zero, List.set_cons_succ]
          refine wpAnyH_ready (rs := [15]) (by kernel_rfl) (by simp) ?_
          refine AllReadyH.cons rfl (fun K hK => ?_) AllReadyH.nil
          go_simp
          go_at_call 21
          with_reducible refine (tree_b (by repeat (first | assumption | apply Tr.drew)) v h l).mono ?_
          rintro e w4 ⟨rfl, hb4⟩
          have F4 := Kr.blk (N := W.heap.size) (W := W) (R := wr.heap.size) (o := rlO v h l n act) (by repeat (first | assumption | apply Kr.drew)) hb4
          have T4 := Tr.blk (N := W.heap.size) (X := W.heap.size) (D := D) (A := look (rs.take m)) (by repeat (first | assumption | apply Tr.drew)) hb4
          have hs4 := HS.out _ F4
          refine hK.out _ _ hs4 (fun hHeld4 => ?_)
          clear hK K
          try simp only [Act.put, List.getElem_toArray, List.getElem_cons_succ, List.getElem_cons_zero, List.setIfInBounds_toArray, List.set_cons_zero, List.set_cons_succ]
          refine wpAnyH_ready (rs := [17]) (by kernel_rfl) (by simp) ?_
          refine AllReadyH.cons rfl (fun K hK => ?_) AllReadyH.nil
          go_simp
          go_at_call 22
          have F4d : Kr W.heap.size W wr.heap.size (rlO v h l n act) w4 := by repeat (first | assumption | apply Kr.drew)
          have hF4 : W.heap.size ≤ w4.heap.size := F4d.2.2.2
          with_reducible refine (HAD.out _ hF4 (by repeat (first | assumption | apply Tr.drew))).mono ?_
          rintro e w5 ⟨hb5, hk5, hres⟩
          have F5 : Kr W.heap.size W wr.heap.size (rlO v h l n act) w5 := ⟨F4d.1.trans (by first | exact hb5 | simpa using hb5), (hk5 _ F4d.2.2.1 HTO.out).trans F4d.2.1, Nat.lt_of_lt_of_le F4d.2.2.1 hb5.size, Nat.le_trans F4d.2.2.2 hb5.size⟩
          have hs5 := HS.out _ F5
          rcases hres with ⟨hne, rfl⟩ | ⟨hze, rfl, D5, T5⟩
          · refine hK.out _ _ hs5 (fun hHeld5 => ?_)
            clear hK K
            try simp only [Act.put, List.getElem_toArray, List.getElem_cons_succ, List.getElem_cons_zero, List.setIfInBounds_toArray, List.set_cons_zero, List.set_cons_succ]
            refine wpAnyH_take (i := 18) (v := ?vg2_18) rfl (by kernel_rfl) (by kernel_rfl) (by kernel_rfl) (fun _ _ _ h => h) (Or.inl ⟨by kernel_rfl, ?yg2_18⟩) (by assumption) ?_
            case yg2_18 => (intro w hSw; (try dsimp only at hSw); go_simp; try with_reducible rfl)
            refine wpAnyH_take (i := 19) (v := ?vg2_19) rfl (by kernel_rfl) (by kernel_rfl) (by kernel_rfl) (fun _ _ _ h => h) (Or.inl ⟨by kernel_rfl, ?yg2_19⟩) (by assumption) ?_
            case yg2_19 => (intro w hSw; (try dsimp only at hSw); go_simp; try with_reducible rfl)
            try simp only [Act.put, List.getElem_toArray, List.getElem_cons_succ, List.getElem_cons_zero, List.setIfInBounds_toArray, List.set_cons_zero, List.set_cons_succ]
            refine wpAnyH_done (by kernel_rfl) ?_ _
            go_wp2
            go_ret2
            refine ⟨F5.1, .inr ⟨HNO.out fun hx => hne ?_, rfl⟩⟩
            rw [HSN.out, HNA.out, HKN.out] at hx
            exact hx
          · refine hK.out _ _ hs5 (fun hHeld5 => ?_)
            clear hK K
            try simp only [Act.put, List.getElem_toArray, List.getElem_cons_succ, List.getElem_cons_zero, List.setIfInBounds_toArray, List.set_cons_zero, List.set_cons_succ]
            refine wpAnyH_take (i := 18) (v := ?vg3_18) rfl (by kernel_rfl) (by kernel_rfl) (by kernel_rfl) (fun _ _ _ h => h) (Or.inl ⟨by kernel_rfl, ?yg3_18⟩) (by assumption) ?_
            case yg3_18 => (intro w hSw; (try dsimp only at hSw); go_simp; try with_reducible rfl)
            refine wpAnyH_take (i := 19) (v := ?vg3_19) rfl (by kernel_rfl) (by kernel_rfl) (by kernel_rfl) (fun _ _ _ h => h) (Or.inl ⟨by kernel_rfl, ?yg3_19⟩) (by assumption) ?_
            case yg3_19 => (intro w hSw; (try dsimp only at hSw); go_simp; try with_reducible rfl)
            try simp only [Act.put, List.getElem_toArray, List.getElem_cons_succ, List.getElem_cons_zero, List.setIfInBounds_toArray, List.set_cons_zero, List.set_cons_succ]
            refine wpAnyH_done (by kernel_rfl) ?_ _
            go_wp2
            have hx : OkRs (rs.take (m + 1)) := by rw [HSN.out, HNA.out, HKN.out]; exact hze
            have hA : (fun v' q' => if v' = v ∧ q' = pth ⟨v, h, l⟩ k then act else look (rs.take m) v' q') = look (rs.take (m + 1)) := by
              funext v' q'
              have hx' := hx
              rw [HSN.out] at hx'
              rw [HSN.out, HLA.out hx' v' q']
              have e : (Rl.at ⟨⟨v, h, l⟩, n, act⟩ v' q') ↔ (v' = v ∧ q' = pth ⟨v, h, l⟩ k) := by
                unfold Rl.at
                rw [HKN.out]
                constructor
                · rintro ⟨h1, h2⟩
                  exact ⟨h1.symm, h2.symm⟩
                · rintro ⟨h1, h2⟩
                  exact ⟨h1.symm, h2.symm⟩
              simp only [e]
            rw [hA] at T5
            exact ⟨⟨m + 1, D5, by go_num, by omega, T5, hx, F5.1, by have := F5.2.2.1; omega⟩, by simp [intOf]; omega⟩
        · rw [decide_eq_true hp] at HRP
          rw [decide_eq_false hac] at HRA
          refine wp_region_held_drew (S := fun w => Kr W.heap.size W wr.heap.size (rlO v h l n act) w ∧ w.cell? ⟨wr.heap.size, 0, none⟩ = some (.bool v) ∧ w.cell? ⟨wr.heap.size, 1, none⟩ = some (.int .u64 (h : Int)) ∧ w.cell? ⟨wr.heap.size, 2, none⟩ = some (.int .u64 (l : Int)) ∧ w.cell? ⟨wr.heap.size, 3, none⟩ = some (.int .i64 n) ∧ w.cell? ⟨wr.heap.size, 4, none⟩ = some (.int .i64 act)) (by kernel_rfl) (HS.out _ (Kr.drew F)) (fun hHeld => ?_)
          refine wpAnyH_take (i := 0) (v := ?vg4_0) rfl (by kernel_rfl) (by kernel_rfl) (by kernel_rfl) (fun _ _ _ h => h) (Or.inl ⟨by kernel_rfl, ?yg4_0⟩) (by assumption) ?_
          case yg4_0 => (intro w hSw; (try dsimp only at hSw); go_simp; try with_reducible rfl)
          refine wpAnyH_take (i := 1) (v := ?vg4_1) rfl (by kernel_rfl) (by kernel_rfl) (by kernel_rfl) (fun _ _ _ h => h) (Or.inl ⟨by kernel_rfl, ?yg4_1⟩) (by assumption) ?_
          case yg4_1 => (intro w hSw; (try dsimp only at hSw); go_simp; try with_reducible rfl)
          try simp only [Act.put, List.getElem_toArray, List.getElem_cons_succ, List.getElem_cons_zero, List.setIfInBounds_toArray, List.set_cons_zero, List.set_cons_succ]
          refine wpAnyH_ready (rs := [2]) (by kernel_rfl) (by simp) ?_
          refine AllReadyH.cons rfl (fun K hK => ?_) AllReadyH.nil
          go_simp
          go_at_call 19
          with_reducible refine (HRP.out _).mono ?_
          rintro e w2 ⟨rfl, hb2⟩
          have F2 := Kr.blk (N := W.heap.size) (W := W) (R := wr.heap.size) (o := rlO v h l n act) (by repeat (first | assumption | apply Kr.drew)) hb2
          have T2 := Tr.blk (N := W.heap.size) (X := W.heap.size) (D := D) (A := look (rs.take m)) (by repeat (first | assumption | apply Tr.drew)) hb2
          have hs2 := HS.out _ F2
          refine hK.out _ _ hs2 (fun hHeld2 => ?_)
          clear hK K
          try simp only [Act.put, List.getElem_toArray, List.getElem_cons_succ, List.getElem_cons_zero, List.setIfInBounds_toArray, List.set_cons_zero, List.set_cons_succ]
          refine wpAnyH_take (i := 3) (v := ?vg4_3) rfl (by kernel_rfl) (by kernel_rfl) (by kernel_rfl) (fun _ _ _ h => h) (Or.inl ⟨by kernel_rfl, ?yg4_3⟩) (by assumption) ?_
          case yg4_3 => (intro w hSw; (try dsimp only at hSw); go_simp; try with_reducible rfl)
          refine wpAnyH_take (i := 4) (v := ?vg4_4) rfl (by kernel_rfl) (by kernel_rfl) (by kernel_rfl) (fun _ _ _ h => h) (Or.inl ⟨by kernel_rfl, ?yg4_4⟩) (by assumption) ?_
          case yg4_4 => (intro w hSw; (try dsimp only at hSw); go_simp; try with_reducible rfl)
          refine wpAnyH_take (i := 5) (v := ?vg4_5) rfl (by kernel_rfl) (by kernel_rfl) (by kernel_rfl) (fun _ _ _ h => h) (Or.inl ⟨by kernel_rfl, ?yg4_5⟩) (by assumption) ?_
          case yg4_5 => (intro w hSw; (try dsimp only at hSw); go_simp; try with_reducible rfl)
          refine wpAnyH_take (i := 6) (v := ?vg4_6) rfl (by kernel_rfl) (by kernel_rfl) (by kernel_rfl) (fun _ _ _ h => h) (Or.inl ⟨by kernel_rfl, ?yg4_6⟩) (by assumption) ?_
          case yg4_6 => (intro w hSw; (try dsimp only at hSw); go_simp; try with_reducible rfl)
          try simp only [Act.put, List.getElem_toArray, List.getElem_cons_succ, List.getElem_cons_zero, List.setIfInBounds_toArray, List.set_cons_zero, List.set_cons_succ]
          refine wpAnyH_ready (rs := [7]) (by kernel_rfl) (by simp) ?_
          refine AllReadyH.cons rfl (fun K hK => ?_) AllReadyH.nil
          go_simp
          go_at_call 20
          with_reducible refine (HRA.out _).mono ?_
          rintro e w3 ⟨rfl, hb3⟩
          have F3 := Kr.blk (N := W.heap.size) (W := W) (R := wr.heap.size) (o := rlO v h l n act) (by repeat (first | assumption | apply Kr.drew)) hb3
          have T3 := Tr.blk (N := W.heap.size) (X := W.heap.size) (D := D) (A := look (rs.take m)) (by repeat (first | assumption | apply Tr.drew)) hb3
          have hs3 := HS.out _ F3
          refine hK.out _ _ hs3 (fun hHeld3 => ?_)
          clear hK K
          try simp only [Act.put, List.getElem_toArray, List.getElem_cons_succ, List.getElem_cons_zero, List.setIfInBounds_toArray, List.set_cons_zero, List.set_cons_succ]
          refine wpAnyH_take (i := 8) (v := ?vg4_8) rfl (by kernel_rfl) (by kernel_rfl) (by kernel_rfl) (fun _ _ _ h => h) (Or.inl ⟨by kernel_rfl, ?yg4_8⟩) (by assumption) ?_
          case yg4_8 => (intro w hSw; (try dsimp only at hSw); go_simp; try with_reducible rfl)
          refine wpAnyH_take (i := 9) (v := ?vg4_9) rfl (by kernel_rfl) (by kernel_rfl) (by kernel_rfl) (fun _ _ _ h => h) (Or.inl ⟨by kernel_rfl, ?yg4_9⟩) (by assumption) ?_
          case yg4_9 => (intro w hSw; (try dsimp only at hSw); go_simp; try with_reducible rfl)
          refine wpAnyH_take (i := 10) (v := ?vg4_10) rfl (by kernel_rfl) (by kernel_rfl) (by kernel_rfl) (fun _ _ _ h => h) (Or.inl ⟨by kernel_rfl, ?yg4_10⟩) (by assumption) ?_
          case yg4_10 => (intro w hSw; (try dsimp only at hSw); go_simp; try with_reducible rfl)
          try simp only [Act.put, List.getElem_toArray, List.getElem_cons_succ, List.getElem_cons_zero, List.setIfInBounds_toArray, List.set_cons_zero, List.set_cons_succ]
          refine wpAnyH_take (i := 11) (v := undef) rfl (by kernel_rfl) (by kernel_rfl) (by kernel_rfl) (fun _ _ _ h => h) (Or.inr ⟨by kernel_rfl, rfl⟩) (by assumption) ?_
          refine wpAnyH_take (i := 12) (v := undef) rfl (by kernel_rfl) (by kernel_rfl) (by kernel_rfl) (fun _ _ _ h => h) (Or.inr ⟨by kernel_rfl, rfl⟩) (by assumption) ?_
          refine wpAnyH_take (i := 13) (v := undef) rfl (by kernel_rfl) (by kernel_rfl) (by kernel_rfl) (fun _ _ _ h => h) (Or.inr ⟨by kernel_rfl, rfl⟩) (by assumption) ?_
          refine wpAnyH_take (i := 14) (v := undef) rfl (by kernel_rfl) (by kernel_rfl) (by kernel_rfl) (fun _ _ _ h => h) (Or.inr ⟨by kernel_rfl, rfl⟩) (by assumption) ?_
          refine wpAnyH_take (i := 15) (v := undef) rfl (by kernel_rfl) (by kernel_rfl) (by kernel_rfl) (fun _ _ _ h => h) (Or.inr ⟨by kernel_rfl, rfl⟩) (by assumption) ?_
          refine wpAnyH_take (i := 16) (v := undef) rfl (by kernel_rfl) (by kernel_rfl) (by kernel_rfl) (fun _ _ _ h => h) (Or.inr ⟨by kernel_rfl, rfl⟩) (by assumption) ?_
          refine wpAnyH_take (i := 17) (v := undef) rfl (by kernel_rfl) (by kernel_rfl) (by kernel_rfl) (fun _ _ _ h => h) (Or.inr ⟨by kernel_rfl, rfl⟩) (by assumption) ?_
          refine wpAnyH_take (i := 18) (v := undef) rfl (by kernel_rfl) (by kernel_rfl) (by kernel_rfl) (fun _ _ _ h => h) (Or.inr ⟨by kernel_rfl, rfl⟩) (by assumption) ?_
          try simp only [Act.put, List.getElem_toArray, List.getElem_cons_succ, List.getElem_cons_zero, List.setIfInBounds_toArray, List.set_cons_zero, List.set_cons_succ]
          refine wpAnyH_take (i := 19) (v := ?vg4_19) rfl (by kernel_rfl) (by kernel_rfl) (by kernel_rfl) (fun _ _ _ h => h) (Or.inl ⟨by kernel_rfl, ?yg4_19⟩) (by assumption) ?_
          case yg4_19 => (intro w hSw; (try dsimp only at hSw); go_simp; try with_reducible rfl)
          try simp only [Act.put, List.getElem_toArray, List.getElem_cons_succ, List.getElem_cons_zero, List.setIfInBounds_toArray, List.set_cons_zero, List.set_cons_succ]
          refine wpAnyH_done (by kernel_rfl) ?_ _
          go_wp2
          go_ret2
          refine ⟨F3.1, .inr ⟨HNO.out fun hx => hac ?_, rfl⟩⟩
          rw [HSN.out] at hx
          exact (hx.1 ⟨⟨v, h, l⟩, n, act⟩ (by simp)).2
      · rw [decide_eq_false hp] at HRP
        refine wp_region_held_drew (S := fun w => Kr W.heap.size W wr.heap.size (rlO v h l n act) w ∧ w.cell? ⟨wr.heap.size, 0, none⟩ = some (.bool v) ∧ w.cell? ⟨wr.heap.size, 1, none⟩ = some (.int .u64 (h : Int)) ∧ w.cell? ⟨wr.heap.size, 2, none⟩ = some (.int .u64 (l : Int)) ∧ w.cell? ⟨wr.heap.size, 3, none⟩ = some (.int .i64 n) ∧ w.cell? ⟨wr.heap.size, 4, none⟩ = some (.int .i64 act)) (by kernel_rfl) (HS.out _ (Kr.drew F)) (fun hHeld => ?_)
        refine wpAnyH_take (i := 0) (v := ?vg5_0) rfl (by kernel_rfl) (by kernel_rfl) (by kernel_rfl) (fun _ _ _ h => h) (Or.inl ⟨by kernel_rfl, ?yg5_0⟩) (by assumption) ?_
        case yg5_0 => (intro w hSw; (try dsimp only at hSw); go_simp; try with_reducible rfl)
        refine wpAnyH_take (i := 1) (v := ?vg5_1) rfl (by kernel_rfl) (by kernel_rfl) (by kernel_rfl) (fun _ _ _ h => h) (Or.inl ⟨by kernel_rfl, ?yg5_1⟩) (by assumption) ?_
        case yg5_1 => (intro w hSw; (try dsimp only at hSw); go_simp; try with_reducible rfl)
        try simp only [Act.put, List.getElem_toArray, List.getElem_cons_succ, List.getElem_cons_zero, List.setIfInBounds_toArray, List.set_cons_zero, List.set_cons_succ]
        refine wpAnyH_ready (rs := [2]) (by kernel_rfl) (by simp) ?_
        refine AllReadyH.cons rfl (fun K hK => ?_) AllReadyH.nil
        go_simp
        go_at_call 19
        with_reducible refine (HRP.out _).mono ?_
        rintro e w2 ⟨rfl, hb2⟩
        have F2 := Kr.blk (N := W.heap.size) (W := W) (R := wr.heap.size) (o := rlO v h l n act) (by repeat (first | assumption | apply Kr.drew)) hb2
        have T2 := Tr.blk (N := W.heap.size) (X := W.heap.size) (D := D) (A := look (rs.take m)) (by repeat (first | assumption | apply Tr.drew)) hb2
        have hs2 := HS.out _ F2
        refine hK.out _ _ hs2 (fun hHeld2 => ?_)
        clear hK K
        try simp only [Act.put, List.getElem_toArray, List.getElem_cons_succ, List.getElem_cons_zero, List.setIfInBounds_toArray, List.set_cons_zero, List.set_cons_succ]
        refine wpAnyH_take (i := 3) (v := ?vg5_3) rfl (by kernel_rfl) (by kernel_rfl) (by kernel_rfl) (fun _ _ _ h => h) (Or.inl ⟨by kernel_rfl, ?yg5_3⟩) (by assumption) ?_
        case yg5_3 => (intro w hSw; (try dsimp only at hSw); go_simp; try with_reducible rfl)
        refine wpAnyH_take (i := 4) (v := ?vg5_4) rfl (by kernel_rfl) (by kernel_rfl) (by kernel_rfl) (fun _ _ _ h => h) (Or.inl ⟨by kernel_rfl, ?yg5_4⟩) (by assumption) ?_
        case yg5_4 => (intro w hSw; (try dsimp only at hSw); go_simp; try with_reducible rfl)
        try simp only [Act.put, List.getElem_toArray, List.getElem_cons_succ, List.getElem_cons_zero, List.setIfInBounds_toArray, List.set_cons_zero, List.set_cons_succ]
        refine wpAnyH_take (i := 5) (v := undef) rfl (by kernel_rfl) (by kernel_rfl) (by kernel_rfl) (fun _ _ _ h => h) (Or.inr ⟨by kernel_rfl, rfl⟩) (by assumption) ?_
        refine wpAnyH_take (i := 6) (v := undef) rfl (by kernel_rfl) (by kernel_rfl) (by kernel_rfl) (fun _ _ _ h => h) (Or.inr ⟨by kernel_rfl, rfl⟩) (by assumption) ?_
        refine wpAnyH_take (i := 7) (v := undef) rfl (by kernel_rfl) (by kernel_rfl) (by kernel_rfl) (fun _ _ _ h => h) (Or.inr ⟨by kernel_rfl, rfl⟩) (by assumption) ?_
        refine wpAnyH_take (i := 8) (v := undef) rfl (by kernel_rfl) (by kernel_rfl) (by kernel_rfl) (fun _ _ _ h => h) (Or.inr ⟨by kernel_rfl, rfl⟩) (by assumption) ?_
        try simp only [Act.put, List.getElem_toArray, List.getElem_cons_succ, List.getElem_cons_zero, List.setIfInBounds_toArray, List.set_cons_zero, List.set_cons_succ]
        refine wpAnyH_take (i := 9) (v := ?vg5_9) rfl (by kernel_rfl) (by kernel_rfl) (by kernel_rfl) (fun _ _ _ h => h) (Or.inl ⟨by kernel_rfl, ?yg5_9⟩) (by assumption) ?_
        case yg5_9 => (intro w hSw; (try dsimp only at hSw); go_simp; try with_reducible rfl)
        refine wpAnyH_take (i := 10) (v := ?vg5_10) rfl (by kernel_rfl) (by kernel_rfl) (by kernel_rfl) (fun _ _ _ h => h) (Or.inl ⟨by kernel_rfl, ?yg5_10⟩) (by assumption) ?_
        case yg5_10 => (intro w hSw; (try dsimp only at hSw); go_simp; try with_reducible rfl)
        try simp only [Act.put, List.getElem_toArray, List.getElem_cons_succ, List.getElem_cons_zero, List.setIfInBounds_toArray, List.set_cons_zero, List.set_cons_succ]
        refine wpAnyH_take (i := 11) (v := undef) rfl (by kernel_rfl) (by kernel_rfl) (by kernel_rfl) (fun _ _ _ h => h) (Or.inr ⟨by kernel_rfl, rfl⟩) (by assumption) ?_
        refine wpAnyH_take (i := 12) (v := undef) rfl (by kernel_rfl) (by kernel_rfl) (by kernel_rfl) (fun _ _ _ h => h) (Or.inr ⟨by kernel_rfl, rfl⟩) (by assumption) ?_
        refine wpAnyH_take (i := 13) (v := undef) rfl (by kernel_rfl) (by kernel_rfl) (by kernel_rfl) (fun _ _ _ h => h) (Or.inr ⟨by kernel_rfl, rfl⟩) (by assumption) ?_
        refine wpAnyH_take (i := 14) (v := undef) rfl (by kernel_rfl) (by kernel_rfl) (by kernel_rfl) (fun _ _ _ h => h) (Or.inr ⟨by kernel_rfl, rfl⟩) (by assumption) ?_
        refine wpAnyH_take (i := 15) (v := undef) rfl (by kernel_rfl) (by kernel_rfl) (by kernel_rfl) (fun _ _ _ h => h) (Or.inr ⟨by kernel_rfl, rfl⟩) (by assumption) ?_
        refine wpAnyH_take (i := 16) (v := undef) rfl (by kernel_rfl) (by kernel_rfl) (by kernel_rfl) (fun _ _ _ h => h) (Or.inr ⟨by kernel_rfl, rfl⟩) (by assumption) ?_
        refine wpAnyH_take (i := 17) (v := undef) rfl (by kernel_rfl) (by kernel_rfl) (by kernel_rfl) (fun _ _ _ h => h) (Or.inr ⟨by kernel_rfl, rfl⟩) (by assumption) ?_
        refine wpAnyH_take (i := 18) (v := undef) rfl (by kernel_rfl) (by kernel_rfl) (by kernel_rfl) (fun _ _ _ h => h) (Or.inr ⟨by kernel_rfl, rfl⟩) (by assumption) ?_
        try simp only [Act.put, List.getElem_toArray, List.getElem_cons_succ, List.getElem_cons_zero, List.setIfInBounds_toArray, List.set_cons_zero, List.set_cons_succ]
        refine wpAnyH_take (i := 19) (v := ?vg5_19) rfl (by kernel_rfl) (by kernel_rfl) (by kernel_rfl) (fun _ _ _ h => h) (Or.inl ⟨by kernel_rfl, ?yg5_19⟩) (by assumption) ?_
        case yg5_19 => (intro w hSw; (try dsimp only at hSw); go_simp; try with_reducible rfl)
        try simp only [Act.put, List.getElem_toArray, List.getElem_cons_succ, List.getElem_cons_zero, List.setIfInBounds_toArray, List.set_cons_zero, List.set_cons_succ]
        refine wpAnyH_done (by kernel_rfl) ?_ _
        go_wp2
        go_ret2
        refine ⟨F2.1, .inr ⟨HNO.out fun hx => hp ?_, rfl⟩⟩
        rw [HSN.out] at hx
        exact (hx.1 ⟨⟨v, h, l⟩, n, act⟩ (by simp)).1
    · obtain rfl : m = rs.length := by omega
      rw [List.take_length] at T hokp
      go_wp2
      go_ret2
      exact ⟨hbel, .inl ⟨hokp, D, rfl, T, hszr⟩⟩
end Go.Proofs.YtpognbkdafnfjaaDoor
