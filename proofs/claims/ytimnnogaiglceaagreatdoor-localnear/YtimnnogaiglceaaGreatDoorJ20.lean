/- Texts of this proof, joined: LdL, LdM, LdN, LdO, LdP, LdQ. -/
import Derived.Test.YtimnnogaiglceaaGreatDoorJ19
import Derived.Test.YtimnnogaiglceaaGreatDoorJ17
/- Layer 14: what a zone answers. -/
namespace Go.Proofs.YtimnnogaiglceaaGreatDoor
set_option linter.unusedVariables false
set_option linter.unusedSimpArgs false
open Go.RowKit
open So (El elC SRow)
def AnP (W : World) (c : Int × List St) (e : Ending) (w' : World) : Prop := ∃ v, e = .returned (.tuple #[.int .i64 c.1, v]) ∧ SetsAt W.heap.size w' v c.2 ∧ Below W.heap.size W w'
theorem AnP.nil (W : World) (c : Int) : AnP W (c, []) (.returned (.tuple #[.int .i64 c, .slice none 0 0])) W := ⟨_, rfl, ⟨[], World.ownsRow_nil .., trivial⟩, Below.refl _ _⟩
theorem AnP.nil' {W w : World} (c : Int) (hb : Below W.heap.size W w) : AnP W (c, []) (.returned (.tuple #[.int .i64 c, .slice none 0 0])) w := ⟨_, rfl, ⟨[], World.ownsRow_nil .., trivial⟩, hb⟩
structure ZOk (z : Lc) : Prop where
  rin : RIn z.rs
  rt : rightR z = true
theorem wo_s : So.Wo ltS where
  ir := fun x => So.wo.ir (⟨x.ls, 0, 0, 0, nilS, nilS⟩ : El)
  tr := fun x y z => So.wo.tr (⟨x.ls, 0, 0, 0, nilS, nilS⟩ : El) ⟨y.ls, 0, 0, 0, nilS, nilS⟩ ⟨z.ls, 0, 0, 0, nilS, nilS⟩
  nt := fun x y z => So.wo.nt (⟨x.ls, 0, 0, 0, nilS, nilS⟩ : El) ⟨y.ls, 0, 0, 0, nilS, nilS⟩ ⟨z.ls, 0, 0, 0, nilS, nilS⟩
structure ZFct (N : Nat) (W : World) (Z : Nat) (z : Lc) (q : Option Addr) (cap : Nat) (els : List El) (w : World) : Prop where
  fnd : Fnd W Z (nm (lb z.nm)) (.func (.func (mtd z.kd)) #[ptA Z 0] #[]) q cap els w
  rel : F2 (ElSt N w) els (zsets z.rs)
  ok : ∀ e ∈ els, OkN e.ls
  ris : So.Ris So.lt els
  len : els.length ≤ 1000
  cap : els.length ≤ cap
  ds : ∀ s ∈ zsets z.rs, s.ds.length ≤ 1000
  zn : OkN (lb z.nm) ∧ z.nm = nm (lb z.nm)
theorem ZoneAt.fct {N : Nat} {W : World} {Z : Nat} {z : Lc} (h : ZoneAt N W Z z) (hz : ZOk z) : ∃ q cap els, ZFct N W Z z q cap els W := by
  obtain ⟨v, els, q, cap, hb, hs⟩ := h.blk
  obtain ⟨hnm, hkd, hlen, hty⟩ := zone_ty hz.rt
  obtain ⟨so, _⟩ := setsR_ok z.rs hz.rin
  have hp : ∀ s ∈ zsets z.rs, s ∈ setsR z.rs := fun s hs => (So.isort_perm _).mem_iff.1 hs
  have hl : els.length ≤ 200 := by rw [hs.rel.len]; unfold zsets; rw [So.isort_len]; exact Nat.le_trans (setsR_len _) hlen
  refine ⟨q, cap, els, ⟨?_, fun h0 => ?_, Below.refl _ _⟩, hs.rel, fun e he => ?_, ?_, by omega, hs.le.1, fun s h => ?_, lb_ok hnm⟩
  · rw [hb, hs.v, ← (lb_ok hnm).2]
  · obtain ⟨g, e, _, hr⟩ := hs.row h0; exact ⟨g, e, hr⟩
  · obtain ⟨j, hj, rfl⟩ := List.getElem_of_mem he
    have hj' : j < (zsets z.rs).length := by rw [← hs.rel.len]; exact hj
    rw [(hs.rel.at j hj hj').ls]
    exact (so _ (hp _ (List.getElem_mem hj'))).1
  · have hr : So.Ris ltS (zsets z.rs) := So.isort_ris wo_s _
    unfold So.Ris at hr ⊢
    rw [List.pairwise_iff_getElem] at hr ⊢
    intro i j hi hj hij
    have hi' : i < (zsets z.rs).length := by rw [← hs.rel.len]; exact hi
    have hj' : j < (zsets z.rs).length := by rw [← hs.rel.len]; exact hj
    rw [lt_rel _ _ _ _ (hs.rel.at j hj hj') (hs.rel.at i hi hi')]
    exact hr i j hi' hj' hij
  · have := (so _ (hp _ h)).2.2.2.2.1; omega
theorem fst_rel {N : Nat} {w : World} {els : List El} {ss : List St} (h : F2 (ElSt N w) els ss) (n : N3) : fstE els n = fstR ss n := by
  unfold fstE fstR
  exact (filter_rel (q := fun s : St => decide (cmpN s.ls n < 0)) (fun a b hab => by rw [hab.ls]) h).len
theorem own_rel {N : Nat} {w : World} {els : List El} {ss : List St} (h : F2 (ElSt N w) els ss) (n : N3) : F2 (ElSt N w) (ownE els n) (ownR ss n) := by
  unfold ownE ownR
  rw [fst_rel h]
  exact takeWhile_rel (fun a b hab => by rw [hab.ls]) (h.drop _)
theorem has_rel {N : Nat} {w : World} {els : List El} {ss : List St} (h : F2 (ElSt N w) els ss) (n : N3) : hasE els n = hasR ss n := by
  unfold hasE hasR
  rw [fst_rel h]
  by_cases hl : fstR ss n < els.length
  · have hl' : fstR ss n < ss.length := by rw [← h.len]; exact hl
    rw [List.getElem?_eq_getElem hl, List.getElem?_eq_getElem hl']
    simp only
    rw [(h.at _ hl hl').ls]
  · rw [List.getElem?_eq_none (by omega), List.getElem?_eq_none (by rw [← h.len]; omega)]
theorem mem_own {ss : List St} {n : N3} {s : St} (h : s ∈ ownR ss n) : s ∈ ss := by
  unfold ownR at h
  exact List.mem_of_mem_drop ((List.takeWhile_sublist _).subset h)
theorem own_len (els : List El) (n : N3) : (ownE els n).length ≤ els.length := by
  unfold ownE
  exact Nat.le_trans (List.takeWhile_sublist _).length_le (by rw [List.length_drop]; omega)
set_option maxRecDepth 100000 in
theorem drop_in (W : World) (Z : Nat) (s : ByteArray) (k : Int) : Calls Tryz.prog 39 #[ptA Z 0, .string s, .int .i64 k] W fun e w' => AnP W (1, []) e w' := by
  go_enter Tryz.func39, Tryz.ntmps39
  go_wp2
  go_ret2
  exact AnP.nil W 1
set_option maxRecDepth 100000 in
theorem refuse_in (W : World) (Z : Nat) (s : ByteArray) (k : Int) : Calls Tryz.prog 40 #[ptA Z 0, .string s, .int .i64 k] W fun e w' => AnP W (2, []) e w' := by
  go_enter Tryz.func40, Tryz.ntmps40
  go_wp2
  go_ret2
  exact AnP.nil W 2
theorem F2.blk {N : Nat} {w w' : World} {els : List El} {ss : List St} (h : F2 (ElSt N w) els ss) (hb : Below w.heap.size w w') : F2 (ElSt N w') els ss := h.mono fun e s hs => hs.keep fun b c f _ hc => hb.block b (Array.getElem?_eq_some_iff.1 hc).1
theorem AnP.low {W w1 : World} {c : Int × List St} {e : Ending} {w' : World} (h : AnP w1 c e w') (hb : Below W.heap.size W w1) : AnP W c e w' := by
  obtain ⟨v, e1, s1, b1⟩ := h
  exact ⟨v, e1, s1.mono hb.size, hb.trans (b1.mono hb.size)⟩
set_option maxRecDepth 100000 in
set_option maxHeartbeats 1000000 in
theorem redirect_in (N : Nat) (W : World) (Z : Nat) (z : Lc) (h : ZoneAt N W Z z) (hz : ZOk z) (n : N3) (hn : OkN n) (kind : Int) : Calls Tryz.prog 43 #[ptA Z 0, .string (nm n), .int .i64 kind] W fun e w' => AnP W (chosR (zsets z.rs) n kind) e w' := by
  obtain ⟨q, cap, els, hf⟩ := h.fct hz
  have hs : Src W q els := fun h0 => by
    obtain ⟨g, e, hr⟩ := hf.fnd.row h0
    exact ⟨g, 0, els, by rw [e, Nat.zero_mul], hr, by simp⟩
  have HC := Hid.mk (chosen_in N W q cap els _ hs hf.rel hf.ds hf.len n hn kind)
  have c1 := hf.fnd.c1
  clear hf hs
  go_enter Tryz.func43, Tryz.ntmps43
  go_wp2_with fail
  refine HC.out.mono ?_
  rintro e w1 ⟨v, rfl, hs, hb⟩
  go_wp2
  go_ret2
  exact ⟨v, rfl, hs, hb⟩
set_option maxRecDepth 100000 in
set_option maxHeartbeats 1000000 in
theorem static_in (N : Nat) (W : World) (Z : Nat) (z : Lc) (h : ZoneAt N W Z z) (hz : ZOk z) (n : N3) (hn : OkN n) (kind : Int) : Calls Tryz.prog 41 #[ptA Z 0, .string (nm n), .int .i64 kind] W fun e w' => AnP W (stcR (zsets z.rs) n (lb z.nm) kind) e w' := by
  obtain ⟨q, cap, els, hf⟩ := h.fct hz
  have HF := Hid.mk (find_in W Z (lb z.nm) hf.zn.1 _ q cap els hf.fnd hf.ok hf.ris hf.len hf.cap n hn)
  have HC := Hid.mk (fun (w : World) (hb : Below W.heap.size W w) q' c' (hs : Src w q' (ownE els n)) => chosen_in N w q' c' (ownE els n) (ownR (zsets z.rs) n) hs (own_rel (hf.rel.blk hb) n) (fun s hm => hf.ds s (mem_own hm)) (Nat.le_trans (own_len _ _) hf.len) n hn kind)
  have HT : Hid (stcR (zsets z.rs) n (lb z.nm) kind = if (hasE els n || eqB n (lb z.nm)) then chosR (ownR (zsets z.rs) n) n kind else (5, [])) := by
    show _ = _
    unfold stcR thrR
    rw [has_rel hf.rel]
  clear hf
  obtain ⟨th, hth⟩ : ∃ th, (hasE els n || eqB n (lb z.nm)) = th := ⟨_, rfl⟩
  unfold FiP at HF
  rw [hth] at HF HT
  obtain ⟨R, hR⟩ : ∃ R, stcR (zsets z.rs) n (lb z.nm) kind = R := ⟨_, rfl⟩
  rw [hR] at HT ⊢
  clear hth hR
  go_enter Tryz.func41, Tryz.ntmps41
  go_wp2_with fail
  refine HF.out.mono ?_
  rintro e w1 ⟨⟨q', c', rfl, hs⟩, hb⟩
  have HB := Hid.mk hb
  have HC1 := Hid.mk (HC.out w1 hb q' c' hs)
  clear hb hs
  cases th with
  | false =>
    have HR : Hid (R = (5, [])) := by show _ = _; rw [HT.out]; rfl
    go_wp2
    go_ret2
    rw [HR.out]
    exact AnP.nil' 5 HB.out
  | true =>
    have HR : Hid (R = chosR (ownR (zsets z.rs) n) n kind) := by show _ = _; rw [HT.out]; rfl
    go_wp2_with fail
    refine HC1.out.mono ?_
    rintro e w2 ⟨v, rfl, hs2, hb2⟩
    have HA : Hid (AnP W R (.returned (.tuple #[.int .i64 R.1, v])) w2) := by
      rw [HR.out]
      exact AnP.low ⟨v, rfl, hs2, hb2⟩ HB.out
    rw [← HR.out]
    clear hs2 hb2
    go_wp2
    go_ret2
    exact HA.out
set_option maxRecDepth 100000 in
set_option maxHeartbeats 1000000 in
theorem transparent_in (N : Nat) (W : World) (Z : Nat) (z : Lc) (h : ZoneAt N W Z z) (hz : ZOk z) (n : N3) (hn : OkN n) (kind : Int) : Calls Tryz.prog 42 #[ptA Z 0, .string (nm n), .int .i64 kind] W fun e w' => AnP W (trsR (zsets z.rs) n (lb z.nm) kind) e w' := by
  have HS := Hid.mk (static_in N W Z z h hz n hn kind)
  have HT : Hid (trsR (zsets z.rs) n (lb z.nm) kind = if (stcR (zsets z.rs) n (lb z.nm) kind).1 = 5 then (0, []) else stcR (zsets z.rs) n (lb z.nm) kind) := rfl
  obtain ⟨R, hR⟩ : ∃ R, stcR (zsets z.rs) n (lb z.nm) kind = R := ⟨_, rfl⟩
  obtain ⟨T, hT⟩ : ∃ T, trsR (zsets z.rs) n (lb z.nm) kind = T := ⟨_, rfl⟩
  rw [hR] at HS HT
  rw [hT] at HT ⊢
  obtain ⟨r1, r2⟩ := R
  clear hR hT
  go_enter Tryz.func42, Tryz.ntmps42
  go_wp2_with fail
  refine HS.out.mono ?_
  rintro e w1 ⟨v, rfl, hs, hb⟩
  have HB := Hid.mk hb
  have HSs := Hid.mk hs
  obtain ⟨els, hr, _⟩ := hs
  obtain ⟨q', c', hv⟩ := srow_any hr
  subst hv
  clear hr hb
  by_cases h5 : r1 = 5
  · have HR : Hid (T = (0, [])) := by show _ = _; rw [HT.out, if_pos h5]
    have h5b : (r1 == 5) = true := by simpa using h5
    clear h5
    go_wp2
    go_ret2
    rw [HR.out]
    exact AnP.nil' 0 HB.out
  · have HR : Hid (T = (r1, r2)) := by show _ = _; rw [HT.out, if_neg h5]
    have h5b : (r1 == 5) = false := by simpa using h5
    clear h5
    go_wp2
    go_ret2
    rw [HR.out]
    exact ⟨_, rfl, HSs.out, HB.out⟩
end Go.Proofs.YtimnnogaiglceaaGreatDoor
/- Layer 14: Answer. -/
namespace Go.Proofs.YtimnnogaiglceaaGreatDoor
set_option linter.unusedVariables false
set_option linter.unusedSimpArgs false
open Go.RowKit
theorem meth_in (N : Nat) (W : World) (Z : Nat) (z : Lc) (h : ZoneAt N W Z z) (hz : ZOk z) (n : N3) (hn : OkN n) (kind : Int) : Calls Tryz.prog (mtd z.kd) #[ptA Z 0, .string (nm n), .int .i64 kind] W fun e w' => AnP W (ansZ z n kind) e w' := by
  unfold ansZ mtd
  by_cases h1 : z.kd = 1
  · rw [if_pos h1, if_pos h1]; exact drop_in W Z _ _
  by_cases h2 : z.kd = 2
  · rw [if_neg h1, if_neg h1, if_pos h2, if_pos h2]; exact refuse_in W Z _ _
  by_cases h3 : z.kd = 3
  · rw [if_neg h1, if_neg h1, if_neg h2, if_neg h2, if_pos h3, if_pos h3]; exact static_in N W Z z h hz n hn kind
  by_cases h4 : z.kd = 4
  · rw [if_neg h1, if_neg h1, if_neg h2, if_neg h2, if_neg h3, if_neg h3, if_pos h4, if_pos h4]; exact transparent_in N W Z z h hz n hn kind
  rw [if_neg h1, if_neg h1, if_neg h2, if_neg h2, if_neg h3, if_neg h3, if_neg h4, if_neg h4]; exact redirect_in N W Z z h hz n hn kind
noncomputable def ansP (L : List (Nat × Lc)) (s : ByteArray) (kind : Int) : Int × List St := match nearP L s with | none => (0, []) | some p => ansZ p.2 (lb s) kind
theorem nearL_snd : ∀ (L : List (Nat × Lc)) (n : N3), (nearL L n).map Prod.snd = nearR (L.map Prod.snd) n := by
  intro L n
  have hf : ∀ k, (L.find? (kz k)).map Prod.snd = (L.map Prod.snd).find? (keyZ k) := by
    intro k
    induction L with
    | nil => rfl
    | cons p L ih =>
      rw [List.map_cons, List.find?_cons, List.find?_cons]
      have : kz k p = keyZ k p.2 := rfl
      rw [this]
      cases keyZ k p.2 with
      | true => rfl
      | false => exact ih
  induction n with
  | nil => rw [nearL, nearR]; exact hf []
  | cons l n ih =>
    rw [nearL, nearR, ← hf (l :: n)]
    cases L.find? (kz (l :: n)) with
    | none => exact ih
    | some p => rfl
theorem ansP_eq (L : List (Nat × Lc)) (s : ByteArray) (kind : Int) : ansP L s kind = ansR (L.map Prod.snd) s kind := by
  unfold ansP ansR nearP near
  cases isN s with
  | false => rfl
  | true =>
    simp only [if_true]
    rw [← nearL_snd]
    cases nearL L (lowN (lb s)) <;> rfl
set_option maxRecDepth 100000 in
set_option maxHeartbeats 1000000 in
theorem answer_in (N : Nat) (W : World) (X M : Nat) (L : List (Nat × Lc)) (h : Locs N W X M L) (hok : ∀ p ∈ L, ZOk p.2) (s : ByteArray) (hs : s.size ≤ maxLen) (kind : Int) : Calls Tryz.prog 12 #[ptA X 0, .string s, .int .i64 kind] W fun e w' => AnP W (ansP L s kind) e w' := by
  have HN := Hid.mk (nearest_in N W X M L h s hs)
  unfold ansP
  cases hf : nearP L s with
  | none =>
    rw [hf] at HN
    simp only [pV] at HN
    clear hf h
    go_enter Tryz.func12, Tryz.ntmps12
    go_wp2_with fail
    refine HN.out.mono ?_
    rintro e w1 ⟨rfl, hb1⟩
    go_wp2
    go_ret2
    exact AnP.nil' 0 hb1
  | some p =>
    rw [hf] at HN
    simp only [pV] at HN ⊢
    obtain ⟨hm, hns⟩ := nearP_mem hf
    have HM : Hid (∀ w, Below W.heap.size W w → ∃ v, w.heap[p.1]? = some (.cells #[.string p.2.nm, v, .func (.func (mtd p.2.kd)) #[ptA p.1 0] #[]] 65 (0, 0)) ∧ Calls Tryz.prog (mtd p.2.kd) #[ptA p.1 0, .string s, .int .i64 kind] w fun e w' => AnP w (ansZ p.2 (lb s) kind) e w') := by
      intro w hb
      have hz := ((h.blk hb).zs p hm).1
      obtain ⟨v, els, q, cap, hzb, _⟩ := hz.blk
      refine ⟨v, hzb, ?_⟩
      have := meth_in N w p.1 p.2 hz (hok p hm) (lb s) (lb_ok hns).1 kind
      rw [← (lb_ok hns).2] at this
      exact this
    obtain ⟨A, hA⟩ : ∃ A, ansZ p.2 (lb s) kind = A := ⟨_, rfl⟩
    rw [hA] at HM ⊢
    obtain ⟨f, hfe⟩ : ∃ f, mtd p.2.kd = f := ⟨_, rfl⟩
    have hfv : f = 39 ∨ f = 40 ∨ f = 41 ∨ f = 42 ∨ f = 43 := by
      rw [← hfe]
      unfold mtd
      repeat' split
      all_goals simp
    rw [hfe] at HM
    clear hf h hm hns hA hfe
    rcases hfv with rfl | rfl | rfl | rfl | rfl
    · go_enter Tryz.func12, Tryz.ntmps12
      go_wp2_with fail
      refine HN.out.mono ?_
      rintro e w1 ⟨rfl, hb1⟩
      obtain ⟨v, hz, hc⟩ := HM.out _ hb1
      have cz : w1.cell? ⟨p.1, 2, none⟩ = some (.func (.func 39) #[ptA p.1 0] #[]) := by rw [So.cell_blk hz]; rfl
      have HC := Hid.mk hc
      have HB := Hid.mk hb1
      clear hz hc hb1 HM
      go_wp2_with fail
      refine HC.out.mono ?_
      rintro e w2 ⟨v', rfl, hs2, hb2⟩
      have HE : Hid (AnP W A (.returned (.tuple #[.int .i64 A.1, v'])) w2) := AnP.low ⟨v', rfl, hs2, hb2⟩ HB.out
      clear hs2 hb2
      go_wp2
      go_ret2
      exact HE.out
    · go_enter Tryz.func12, Tryz.ntmps12
      go_wp2_with fail
      refine HN.out.mono ?_
      rintro e w1 ⟨rfl, hb1⟩
      obtain ⟨v, hz, hc⟩ := HM.out _ hb1
      have cz : w1.cell? ⟨p.1, 2, none⟩ = some (.func (.func 40) #[ptA p.1 0] #[]) := by rw [So.cell_blk hz]; rfl
      have HC := Hid.mk hc
      have HB := Hid.mk hb1
      clear hz hc hb1 HM
      go_wp2_with fail
      refine HC.out.mono ?_
      rintro e w2 ⟨v', rfl, hs2, hb2⟩
      have HE : Hid (AnP W A (.returned (.tuple #[.int .i64 A.1, v'])) w2) := AnP.low ⟨v', rfl, hs2, hb2⟩ HB.out
      clear hs2 hb2
      go_wp2
      go_ret2
      exact HE.out
    · go_enter Tryz.func12, Tryz.ntmps12
      go_wp2_with fail
      refine HN.out.mono ?_
      rintro e w1 ⟨rfl, hb1⟩
      obtain ⟨v, hz, hc⟩ := HM.out _ hb1
      have cz : w1.cell? ⟨p.1, 2, none⟩ = some (.func (.func 41) #[ptA p.1 0] #[]) := by rw [So.cell_blk hz]; rfl
      have HC := Hid.mk hc
      have HB := Hid.mk hb1
      clear hz hc hb1 HM
      go_wp2_with fail
      refine HC.out.mono ?_
      rintro e w2 ⟨v', rfl, hs2, hb2⟩
      have HE : Hid (AnP W A (.returned (.tuple #[.int .i64 A.1, v'])) w2) := AnP.low ⟨v', rfl, hs2, hb2⟩ HB.out
      clear hs2 hb2
      go_wp2
      go_ret2
      exact HE.out
    · go_enter Tryz.func12, Tryz.ntmps12
      go_wp2_with fail
      refine HN.out.mono ?_
      rintro e w1 ⟨rfl, hb1⟩
      obtain ⟨v, hz, hc⟩ := HM.out _ hb1
      have cz : w1.cell? ⟨p.1, 2, none⟩ = some (.func (.func 42) #[ptA p.1 0] #[]) := by rw [So.cell_blk hz]; rfl
      have HC := Hid.mk hc
      have HB := Hid.mk hb1
      clear hz hc hb1 HM
      go_wp2_with fail
      refine HC.out.mono ?_
      rintro e w2 ⟨v', rfl, hs2, hb2⟩
      have HE : Hid (AnP W A (.returned (.tuple #[.int .i64 A.1, v'])) w2) := AnP.low ⟨v', rfl, hs2, hb2⟩ HB.out
      clear hs2 hb2
      go_wp2
      go_ret2
      exact HE.out
    · go_enter Tryz.func12, Tryz.ntmps12
      go_wp2_with fail
      refine HN.out.mono ?_
      rintro e w1 ⟨rfl, hb1⟩
      obtain ⟨v, hz, hc⟩ := HM.out _ hb1
      have cz : w1.cell? ⟨p.1, 2, none⟩ = some (.func (.func 43) #[ptA p.1 0] #[]) := by rw [So.cell_blk hz]; rfl
      have HC := Hid.mk hc
      have HB := Hid.mk hb1
      clear hz hc hb1 HM
      go_wp2_with fail
      refine HC.out.mono ?_
      rintro e w2 ⟨v', rfl, hs2, hb2⟩
      have HE : Hid (AnP W A (.returned (.tuple #[.int .i64 A.1, v'])) w2) := AnP.low ⟨v', rfl, hs2, hb2⟩ HB.out
      clear hs2 hb2
      go_wp2
      go_ret2
      exact HE.out
end Go.Proofs.YtimnnogaiglceaaGreatDoor
/- Layer 14: the chapter's examples, as lists. -/
namespace Go.Proofs.YtimnnogaiglceaaGreatDoor
set_option linter.unusedVariables false
set_option linter.unusedSimpArgs false
open Go.RowKit
theorem ok_dec {ls : N3} (h1 : ∀ l ∈ ls, 1 ≤ l.length ∧ l.length ≤ 63) (h2 : (flat ls).length ≤ 254) : OkN ls := ⟨h1, h2⟩
def exD : ByteArray := ⟨#[10, 0, 0, 1]⟩
theorem dRt_a : dRt 1 exD = true := by
  unfold dRt
  have : splitR 1 exD = some [exD] := (split_iff 1 exD [exD]).2 ⟨by decide, by decide, by rfl, by
    have : formOf 1 = [.grp 4 1 10 46] := rfl
    rw [this]
    exact ⟨rfl, trivial⟩⟩
  rw [this]
  rfl
def exR (n : N3) : Rc := ⟨nm n, 1, 1, 5, exD⟩
theorem sets_a {n : N3} (h : OkN n) : setsR [exR n] = [⟨n, 1, 1, 5, [exD]⟩] := by
  have h1 : rOk (exR n) = true := by
    unfold rOk exR
    simp only
    rw [isN_yes ⟨n, h, rfl⟩, dRt_a]
    rfl
  have h2 : mks (exR n).ty = true := rfl
  unfold setsR
  simp only [List.foldl_cons, List.foldl_nil]
  unfold stepR
  rw [h1, h2]
  simp only [Bool.and_self, if_true, addR]
  unfold newS exR
  simp only
  rw [lb_nm h]
  rfl
theorem zsets_a {n : N3} (h : OkN n) : zsets [exR n] = [⟨n, 1, 1, 5, [exD]⟩] := by unfold zsets; rw [sets_a h, So.isort_one]
theorem rcR_a {n : N3} (h : OkN n) : rcR (exR n) = true := by
  unfold rcR
  rw [sets_a h]
  rfl
def n1 : N3 := [[97], [98], [115]]
def ns : N3 := [[115]]
def nr : N3 := [[114]]
def no : N3 := [[110, 111], [115]]
theorem ok_1 : OkN n1 := ok_dec (by decide) (by decide)
theorem ok_s : OkN ns := ok_dec (by decide) (by decide)
theorem ok_r : OkN nr := ok_dec (by decide) (by decide)
theorem ok_o : OkN no := ok_dec (by decide) (by decide)
def z1 : Lc := ⟨nm ns, 3, [exR n1]⟩
def z2 : Lc := ⟨nm nr, 5, [exR nr]⟩
def z3 : Lc := ⟨nm no, 2, []⟩
def exL : List Lc := [z1, z2, z3]
theorem right_1 : rightR z1 = true := by
  unfold rightR z1
  simp only [List.all_cons, List.all_nil, Bool.and_true]
  rw [isN_yes ⟨ns, ok_s, rfl⟩, rcR_a ok_1]
  have : plcR (exR n1).nm ⟨nm ns, 3, [exR n1]⟩ = true := by
    unfold plcR exR
    simp only
    rw [if_pos (.inl trivial), undF_nm ok_1 ok_s]
    decide
  rw [this]
  decide
theorem right_2 : rightR z2 = true := by
  unfold rightR z2
  simp only [List.all_cons, List.all_nil, Bool.and_true]
  rw [isN_yes ⟨nr, ok_r, rfl⟩, rcR_a ok_r]
  have : plcR (exR nr).nm ⟨nm nr, 5, [exR nr]⟩ = true := by
    unfold plcR exR
    simp only
    rw [if_neg (by decide), if_pos trivial, eqF_nm ok_r ok_r]
    decide
  rw [this]
  decide
theorem right_3 : rightR z3 = true := by
  unfold rightR z3
  simp only [List.all_nil, Bool.and_true]
  rw [isN_yes ⟨no, ok_o, rfl⟩]
  decide
theorem zk_nm {a : N3} (h : OkN a) (k : Int) (rs : List Rc) : zk ⟨nm a, k, rs⟩ = (nm (lowN a)).data.toList := by unfold zk; simp only; rw [lb_nm h]
theorem okL_ex : okL exL := by
  refine ⟨fun z hz => ?_, ?_⟩
  · simp only [exL, List.mem_cons, List.not_mem_nil, or_false] at hz
    rcases hz with rfl | rfl | rfl
    · exact right_1
    · exact right_2
    · exact right_3
  · unfold exL
    simp only [List.pairwise_cons, List.mem_cons, List.not_mem_nil, or_false, forall_eq_or_imp, forall_eq]
    unfold z1 z2 z3
    simp only [zk_nm ok_s, zk_nm ok_r, zk_nm ok_o]
    refine ⟨⟨by decide, by decide⟩, by decide, ?_⟩
    simp
theorem not_empty : ¬ okL [⟨⟨#[]⟩, 0, []⟩] := by
  intro h
  have := h.1 _ (List.mem_singleton.2 rfl)
  unfold rightR at this
  simp at this
theorem keyZ_nm {a : N3} (h : OkN a) (k : N3) (kd : Int) (rs : List Rc) : keyZ k ⟨nm a, kd, rs⟩ = decide (lowN a = k) := by
  unfold keyZ
  simp only
  rw [lb_nm h]
theorem near_ex {n : N3} (hn : OkN n) (kind : Int) : ansR exL (nm n) kind = match nearR exL (lowN n) with | none => (0, []) | some z => ansZ z n kind := by
  unfold ansR near
  rw [isN_yes ⟨n, hn, rfl⟩, if_pos rfl, lb_nm hn]
  cases nearR exL (lowN n) <;> rfl
theorem find_ex (k : N3) : exL.find? (keyZ k) = if lowN ns = k then some z1 else if lowN nr = k then some z2 else if lowN no = k then some z3 else none := by
  unfold exL
  rw [List.find?_cons, List.find?_cons, List.find?_cons, List.find?_nil]
  unfold z1 z2 z3
  rw [keyZ_nm ok_s, keyZ_nm ok_r, keyZ_nm ok_o]
  by_cases h1 : lowN ns = k
  · simp [h1]
  · by_cases h2 : lowN nr = k
    · simp [h1, h2]
    · by_cases h3 : lowN no = k <;> simp [h1, h2, h3]
theorem ans_z1 (n : N3) (kind : Int) : ansZ z1 n kind = stcR [⟨n1, 1, 1, 5, [exD]⟩] n ns kind := by
  unfold ansZ z1
  simp only
  rw [if_neg (by decide), if_neg (by decide), if_pos trivial, zsets_a ok_1, lb_nm ok_s]
theorem ans_z2 (n : N3) (kind : Int) : ansZ z2 n kind = chosR [⟨nr, 1, 1, 5, [exD]⟩] n kind := by
  unfold ansZ z2
  simp only
  rw [if_neg (by decide), if_neg (by decide), if_neg (by decide), if_neg (by decide), zsets_a ok_r]
theorem ans_z3 (n : N3) (kind : Int) : ansZ z3 n kind = (2, []) := by
  unfold ansZ z3
  simp only
  rw [if_neg (by decide), if_pos trivial]
theorem ex_b : ansR exL (nm n1) 1 = (3, [⟨n1, 1, 1, 5, [exD]⟩]) := by
  rw [near_ex ok_1]
  have : nearR exL (lowN n1) = some z1 := by
    have e : lowN n1 = [[97], [98], [115]] := by decide
    rw [e]
    simp only [nearR, find_ex]
    rfl
  rw [this]
  simp only
  rw [ans_z1]
  rfl
theorem ex_c : ansR exL (nm [[98], [115]]) 1 = (4, []) := by
  rw [near_ex (ok_dec (by decide) (by decide))]
  have : nearR exL (lowN [[98], [115]]) = some z1 := by
    have e : lowN [[98], [115]] = [[98], [115]] := by decide
    rw [e]
    simp only [nearR, find_ex]
    rfl
  rw [this]
  simp only
  rw [ans_z1]
  rfl
theorem ex_d : ansR exL (nm [[99], [115]]) 1 = (5, []) := by
  rw [near_ex (ok_dec (by decide) (by decide))]
  have : nearR exL (lowN [[99], [115]]) = some z1 := by
    have e : lowN [[99], [115]] = [[99], [115]] := by decide
    rw [e]
    simp only [nearR, find_ex]
    rfl
  rw [this]
  simp only
  rw [ans_z1]
  rfl
theorem ex_g : ansR exL (nm [[113], [114]]) 1 = (3, [⟨[[113], [114]], 1, 1, 5, [exD]⟩]) := by
  rw [near_ex (ok_dec (by decide) (by decide))]
  have : nearR exL (lowN [[113], [114]]) = some z2 := by
    have e : lowN [[113], [114]] = [[113], [114]] := by decide
    rw [e]
    simp only [nearR, find_ex]
    rfl
  rw [this]
  simp only
  rw [ans_z2]
  rfl
theorem ex_h : ansR exL (nm [[120], [110, 111], [115]]) 1 = (2, []) := by
  rw [near_ex (ok_dec (by decide) (by decide))]
  have : nearR exL (lowN [[120], [110, 111], [115]]) = some z3 := by
    have e : lowN [[120], [110, 111], [115]] = [[120], [110, 111], [115]] := by decide
    rw [e]
    simp only [nearR, find_ex]
    rfl
  rw [this]
  simp only
  rw [ans_z3]
theorem ex_i : ansR exL (nm []) 1 = (0, []) := by
  rw [near_ex (ok_dec (by decide) (by decide))]
  have : nearR exL (lowN []) = none := by
    have e : lowN [] = [] := by decide
    rw [e]
    simp only [nearR, find_ex]
    rfl
  rw [this]
end Go.Proofs.YtimnnogaiglceaaGreatDoor
/- Layer 14: the law's a. -/
namespace Go.Proofs.YtimnnogaiglceaaGreatDoor
set_option linter.unusedVariables false
set_option linter.unusedSimpArgs false
open Go.RowKit
set_option maxRecDepth 100000 in
theorem la_in (s : ByteArray) (W : World) : Calls Tryz.prog 17 #[.string s] W fun e w' => e = .returned (.agg #[.string s, .int .i64 1, .int .i64 1, .int .i64 5, .string exD]) ∧ Below W.heap.size W w' := by
  have HX : ∀ c, (W.alloc (.cells c 33)).heap[W.heap.size]? = some (.cells c 33 (0, 0)) := fun c => heap_alloc_new W _
  unfold exD
  go_enter Tryz.func17, Tryz.ntmps17
  go_wp2
  refine bodyPost_ret (results_cell_row Tryz.results17 _ _ W.heap.size 33 _ (0, 0) _ (by rfl) (HX _) Tryz.underlying33 rfl (by kernel_rfl)) rfl ?_
  exact ⟨rfl, (Below.refl _ _).alloc (Nat.le_refl _) _⟩
end Go.Proofs.YtimnnogaiglceaaGreatDoor
/- Layer 14: the examples' zones in memory. -/
namespace Go.Proofs.YtimnnogaiglceaaGreatDoor
set_option linter.unusedVariables false
set_option linter.unusedSimpArgs false
open Go.RowKit
theorem e_1 : (⟨#[1, 97, 1, 98]⟩ : ByteArray) ++ ⟨#[1, 115, 0]⟩ = nm n1 := by rfl
theorem e_s : (⟨#[1, 115, 0]⟩ : ByteArray) = nm ns := by rfl
theorem e_r : (⟨#[1, 114, 0]⟩ : ByteArray) = nm nr := by rfl
theorem e_o : (⟨#[2, 110, 111]⟩ : ByteArray) ++ ⟨#[1, 115, 0]⟩ = nm no := by rfl
theorem e_c : (⟨#[1, 98]⟩ : ByteArray) ++ ⟨#[1, 115, 0]⟩ = nm [[98], [115]] := by rfl
theorem e_d : (⟨#[1, 99]⟩ : ByteArray) ++ ⟨#[1, 115, 0]⟩ = nm [[99], [115]] := by rfl
theorem e_g : (⟨#[1, 113, 1, 114, 0]⟩ : ByteArray) = nm [[113], [114]] := by rfl
theorem e_h : (⟨#[1, 120, 2, 110, 111]⟩ : ByteArray) ++ ⟨#[1, 115, 0]⟩ = nm [[120], [110, 111], [115]] := by rfl
theorem e_i : (⟨#[0]⟩ : ByteArray) = nm [] := by rfl
theorem rec_at {w : World} {b : Nat} {n : N3} (h : w.heap[b]? = some (.cells #[.string (nm n), .int .i64 1, .int .i64 1, .int .i64 5, .string exD] 33 (0, 0))) : RcsAt w (some ⟨b, 0, none⟩) [exR n] := by
  intro j hj
  have : j = 0 := by simpa using hj
  subst this
  refine ⟨b, 0, rfl, (Array.getElem?_eq_some_iff.1 h).1, ?_, ?_, ?_, ?_, ?_⟩
  all_goals rw [So.cell_blk h]; rfl
theorem ex_at {w : World} {b1 b2 b3 : Nat} (h1 : w.heap[b1]? = some (.cells #[.string (nm n1), .int .i64 1, .int .i64 1, .int .i64 5, .string exD] 33 (0, 0))) (h2 : w.heap[b2]? = some (.cells #[.string (nm nr), .int .i64 1, .int .i64 1, .int .i64 5, .string exD] 33 (0, 0)))
    (h3 : w.heap[b3]? = some (.cells #[.string (nm ns), .int .i64 3, .slice (some ⟨b1, 0, none⟩) 1 1, .string (nm nr), .int .i64 5, .slice (some ⟨b2, 0, none⟩) 1 1, .string (nm no), .int .i64 2, .slice none 0 0] 26 (0, 0))) : LcsAt w (some ⟨b3, 0, none⟩) exL := by
  have hlt := (Array.getElem?_eq_some_iff.1 h3).1
  intro j hj
  have : j = 0 ∨ j = 1 ∨ j = 2 := by simp [exL] at hj; omega
  rcases this with rfl | rfl | rfl
  · exact ⟨b3, 0, some ⟨b1, 0, none⟩, 1, rfl, hlt, by rw [So.cell_blk h3]; rfl, by rw [So.cell_blk h3]; rfl, by rw [So.cell_blk h3]; rfl, rec_at h1⟩
  · exact ⟨b3, 0, some ⟨b2, 0, none⟩, 1, rfl, hlt, by rw [So.cell_blk h3]; rfl, by rw [So.cell_blk h3]; rfl, by rw [So.cell_blk h3]; rfl, rec_at h2⟩
  · exact ⟨b3, 0, none, 0, rfl, hlt, by rw [So.cell_blk h3]; rfl, by rw [So.cell_blk h3]; rfl, by rw [So.cell_blk h3]; rfl, fun j hj => by simp [exL, z3] at hj⟩
theorem rin_a {n : N3} (h : OkN n) : RIn [exR n] := by
  intro r hr
  obtain rfl := List.mem_singleton.1 hr
  refine ⟨?_, (by decide : exD.size ≤ maxLen), (⟨by decide, by decide⟩ : I64 1), (⟨by decide, by decide⟩ : I64 1)⟩
  show (nm n).size ≤ maxLen
  rw [nm_size]
  have := h.len
  unfold maxLen
  omega
theorem nm_le {n : N3} (h : OkN n) : (nm n).size ≤ maxLen := by rw [nm_size]; have := h.len; unfold maxLen; omega
theorem ex_in : LIn exL := by
  intro z hz
  simp only [exL, List.mem_cons, List.not_mem_nil, or_false] at hz
  rcases hz with rfl | rfl | rfl
  · exact ⟨nm_le ok_s, rin_a ok_1, by decide, by decide, by decide⟩
  · exact ⟨nm_le ok_r, rin_a ok_r, by decide, by decide, by decide⟩
  · exact ⟨nm_le ok_o, fun r hr => by simp [z3] at hr, by decide, by decide, by decide⟩
def emL : List Lc := [⟨⟨#[]⟩, 0, []⟩]
theorem em_at {w : World} {b : Nat} (h : w.heap[b]? = some (.cells #[.string ⟨#[]⟩, .int .i64 0, .slice none 0 0] 26 (0, 0))) : LcsAt w (some ⟨b, 0, none⟩) emL := by
  intro j hj
  have : j = 0 := by simp [emL] at hj; omega
  subst this
  exact ⟨b, 0, none, 0, rfl, (Array.getElem?_eq_some_iff.1 h).1, by rw [So.cell_blk h]; rfl, by rw [So.cell_blk h]; rfl, by rw [So.cell_blk h]; rfl, fun j hj => by simp [emL] at hj⟩
theorem em_in : LIn emL := by
  intro z hz
  obtain rfl := List.mem_singleton.1 hz
  exact ⟨by decide, fun r hr => by simp at hr, by decide, by decide, by decide⟩
theorem ask_ex {N : Nat} {w : World} {X M : Nat} {L : List (Nat × Lc)} (h : Locs N w X M L) (hL : L.map Prod.snd = exL) {n : N3} (hn : OkN n) : Calls Tryz.prog 12 #[ptA X 0, .string (nm n), .int .i64 1] w fun e w' => AnP w (ansR exL (nm n) 1) e w' := by
  have hz : ∀ p ∈ L, ZOk p.2 := fun p hp => by
    have hm : p.2 ∈ exL := by rw [← hL]; exact List.mem_map_of_mem hp
    exact ⟨(ex_in _ hm).2.1, okL_ex.1 _ hm⟩
  have := answer_in N w X M L h hz (nm n) (nm_le hn) 1
  rw [ansP_eq, hL] at this
  exact this
theorem name_of {N : Nat} {w : World} {v : Value} {s : St} (h : SetsAt N w v [s]) : ∃ g cap, v = .slice (some ⟨g, 0, none⟩) 1 cap ∧ w.cell? ⟨g, 0, none⟩ = some (.string (nm s.ls)) := by
  obtain ⟨els, hr, hf⟩ := h
  have hl : els.length = 1 := hf.len
  obtain ⟨g, cap, hv, _, hs⟩ := srow_form hr (by omega)
  refine ⟨g, cap, by rw [hv, hl], ?_⟩
  have := hs.cell 0 (by omega) 0 (by decide)
  rw [Nat.zero_mul] at this
  rw [this]
  have e := (hf.at 0 (by omega) (by simp)).ls
  simp only [List.getElem_cons_zero] at e
  rw [← e]
  rfl
end Go.Proofs.YtimnnogaiglceaaGreatDoor
/- Layer 14: the law's examples. -/
namespace Go.Proofs.YtimnnogaiglceaaGreatDoor
set_option linter.unusedVariables false
set_option linter.unusedSimpArgs false
open Go.RowKit
theorem ok_c : OkN [[98], [115]] := ok_dec (by decide) (by decide)
theorem ok_d : OkN [[99], [115]] := ok_dec (by decide) (by decide)
theorem ok_g : OkN [[113], [114]] := ok_dec (by decide) (by decide)
theorem ok_h : OkN [[120], [110, 111], [115]] := ok_dec (by decide) (by decide)
theorem ok_i : OkN [] := ok_dec (by decide) (by decide)
set_option maxRecDepth 100000 in
set_option maxHeartbeats 4000000 in
theorem examples14_in (W : World) : Calls Tryz.prog 6 #[] W fun e w' => e = .returned (.bool true) ∧ Below W.heap.size W w' := by
  have HA := Hid.mk la_in
  obtain ⟨D, hD⟩ : ∃ D, exD = D := ⟨_, rfl⟩
  have HD := Hid.mk hD
  rw [hD] at HA
  clear hD
  go_enter Tryz.func6, Tryz.ntmps6
  go_wp2_with fail
  refine (HA.out _ _).mono ?_
  rintro e w1 ⟨rfl, hb1⟩
  go_wp2_with fail
  refine (HA.out _ _).mono ?_
  rintro e w2 ⟨rfl, hb2⟩
  go_wp2_with fail
  obtain ⟨R1, hR1⟩ : ∃ R1, w1.alloc (.cells #[.string ((⟨#[1, 97, 1, 98]⟩ : ByteArray) ++ ⟨#[1, 115, 0]⟩), .int .i64 1, .int .i64 1, .int .i64 5, .string D] 33) = R1 := ⟨_, rfl⟩
  rw [hR1] at hb2
  obtain ⟨R2, hR2⟩ : ∃ R2, w2.alloc (.cells #[.string ⟨#[1, 114, 0]⟩, .int .i64 1, .int .i64 1, .int .i64 5, .string D] 33) = R2 := ⟨_, rfl⟩
  obtain ⟨R3, hR3⟩ : ∃ R3, R2.alloc (.cells #[.string ⟨#[1, 115, 0]⟩, .int .i64 3, .slice (some ⟨w1.heap.size, 0, none⟩) 1 1, .string ⟨#[1, 114, 0]⟩, .int .i64 5, .slice (some ⟨w2.heap.size, 0, none⟩) 1 1, .string ((⟨#[2, 110, 111]⟩ : ByteArray) ++ ⟨#[1, 115, 0]⟩), .int .i64 2, .slice none 0 0] 26) = R3 := ⟨_, rfl⟩
  have d1 : Below w1.heap.size w1 R1 := hR1 ▸ (Below.refl _ _).alloc (Nat.le_refl _) _
  have d2 : Below w2.heap.size w2 R2 := hR2 ▸ (Below.refl _ _).alloc (Nat.le_refl _) _
  have d3 : Below R2.heap.size R2 R3 := hR3 ▸ (Below.refl _ _).alloc (Nat.le_refl _) _
  have s2 : R2.heap.size = w2.heap.size + 1 := by rw [← hR2]; simp
  have x1 : R1.heap[w1.heap.size]? = some (.cells #[.string (nm n1), .int .i64 1, .int .i64 1, .int .i64 5, .string exD] 33 (0, 0)) := by rw [HD.out, ← e_1]; exact hR1 ▸ heap_alloc_new w1 _
  have x2 : R2.heap[w2.heap.size]? = some (.cells #[.string (nm nr), .int .i64 1, .int .i64 1, .int .i64 5, .string exD] 33 (0, 0)) := by rw [HD.out, ← e_r]; exact hR2 ▸ heap_alloc_new w2 _
  have x3 : R3.heap[w2.heap.size + 1]? = some (.cells #[.string (nm ns), .int .i64 3, .slice (some ⟨w1.heap.size, 0, none⟩) 1 1, .string (nm nr), .int .i64 5, .slice (some ⟨w2.heap.size, 0, none⟩) 1 1, .string (nm no), .int .i64 2, .slice none 0 0] 26 (0, 0)) := by rw [← e_s, ← e_r, ← e_o, ← s2]; exact hR3 ▸ heap_alloc_new R2 _
  have y1 := (d3.block _ (Array.getElem?_eq_some_iff.1 ((d2.block _ (Array.getElem?_eq_some_iff.1 ((hb2.block _ (Array.getElem?_eq_some_iff.1 x1).1).trans x1)).1).trans ((hb2.block _ (Array.getElem?_eq_some_iff.1 x1).1).trans x1))).1).trans ((d2.block _ (Array.getElem?_eq_some_iff.1 ((hb2.block _ (Array.getElem?_eq_some_iff.1 x1).1).trans x1)).1).trans ((hb2.block _ (Array.getElem?_eq_some_iff.1 x1).1).trans x1))
  have y2 := (d3.block _ (Array.getElem?_eq_some_iff.1 x2).1).trans x2
  have HNew := Hid.mk (new14_in R3 (some ⟨w2.heap.size + 1, 0, none⟩) 3 exL (ex_at y1 y2 x3) ex_in (by decide))
  have bR3 : Below W.heap.size W R3 := by
    have a1 := hb1
    have a2 := a1.trans (d1.mono a1.size)
    have a3 := a2.trans (hb2.mono a2.size)
    have a4 := a3.trans (d2.mono a3.size)
    exact a4.trans (d3.mono a4.size)
  have HBR := Hid.mk bR3
  rw [hR2, hR3]
  clear d1 d2 d3 s2 x1 x2 x3 y1 y2 hb1 hb2 hR1 hR2 hR3 bR3
  refine HNew.out.mono ?_
  rintro e w4 ⟨h4, hb4⟩
  rcases h4 with ⟨_, X, M, rfl, L, hLm, hL4⟩ | ⟨hno, _⟩
  case inr => exact absurd okL_ex hno
  have HLm := Hid.mk hLm
  have HL4 := Hid.mk hL4
  have HB4 := Hid.mk (HBR.out.trans (hb4.mono HBR.out.size))
  obtain ⟨R5, hR5⟩ : ∃ R5, w4.alloc (.cells #[.string ⟨#[]⟩, .int .i64 0, .slice none 0 0] 26) = R5 := ⟨_, rfl⟩
  have d5 : Below w4.heap.size w4 R5 := hR5 ▸ (Below.refl _ _).alloc (Nat.le_refl _) _
  have x5 : R5.heap[w4.heap.size]? = some (.cells #[.string ⟨#[]⟩, .int .i64 0, .slice none 0 0] 26 (0, 0)) := hR5 ▸ heap_alloc_new w4 _
  have HNw5 := Hid.mk (new14_in R5 (some ⟨w4.heap.size, 0, none⟩) 1 emL (em_at x5) em_in (by decide))
  have HL5 := Hid.mk (hL4.blk d5)
  have HB5 := Hid.mk (HB4.out.trans (d5.mono HB4.out.size))
  have HR5 := Hid.mk hR5
  clear hR5 x5 d5 hL4 hLm hb4 HNew HBR HB4
  go_wp2_with fail
  rw [HR5.out]
  refine HNw5.out.mono ?_
  rintro e w6 ⟨h6, hb6⟩
  rcases h6 with ⟨hok, _⟩ | ⟨_, rfl⟩
  case inl => exact absurd hok not_empty
  have HL6 := Hid.mk (HL5.out.blk hb6)
  have HB6 := Hid.mk (HB5.out.trans (hb6.mono HB5.out.size))
  clear hb6 HL5 HB5 HNw5 HR5
  have HQ6 : Hid (Calls Tryz.prog 12 #[ptA X 0, .string (nm n1), .int .i64 1] w6 fun e w' => AnP w6 (ansR exL (nm n1) 1) e w') := ask_ex HL6.out HLm.out ok_1
  rw [ex_b, ← e_1] at HQ6
  go_wp2_with fail
  refine HQ6.out.mono ?_
  rintro e w7 ⟨v7, rfl, hs7, hb7⟩
  have HL7 := Hid.mk (HL6.out.blk hb7)
  have HB7 := Hid.mk (HB6.out.trans (hb7.mono HB6.out.size))
  obtain ⟨gl, cl, hv7, _⟩ := name_of hs7
  subst hv7
  clear hs7 hb7 HL6 HB6 HQ6
  have HQ7 : Hid (Calls Tryz.prog 12 #[ptA X 0, .string (nm [[98], [115]]), .int .i64 1] w7 fun e w' => AnP w7 (ansR exL (nm [[98], [115]]) 1) e w') := ask_ex HL7.out HLm.out ok_c
  rw [ex_c, ← e_c] at HQ7
  go_wp2_with fail
  refine HQ7.out.mono ?_
  rintro e w8 ⟨v8, rfl, hs8, hb8⟩
  have HL8 := Hid.mk (HL7.out.blk hb8)
  have HB8 := Hid.mk (HB7.out.trans (hb8.mono HB7.out.size))
  obtain ⟨q8, c8, hv8⟩ := setsAt_len hs8
  subst hv8
  clear hs8 hb8 HL7 HB7 HQ7
  have HQ8 : Hid (Calls Tryz.prog 12 #[ptA X 0, .string (nm [[99], [115]]), .int .i64 1] w8 fun e w' => AnP w8 (ansR exL (nm [[99], [115]]) 1) e w') := ask_ex HL8.out HLm.out ok_d
  rw [ex_d, ← e_d] at HQ8
  go_wp2_with fail
  refine HQ8.out.mono ?_
  rintro e w9 ⟨v9, rfl, hs9, hb9⟩
  have HL9 := Hid.mk (HL8.out.blk hb9)
  have HB9 := Hid.mk (HB8.out.trans (hb9.mono HB8.out.size))
  obtain ⟨q9, c9, hv9⟩ := setsAt_len hs9
  subst hv9
  clear hs9 hb9 HL8 HB8 HQ8
  have HQ9 : Hid (Calls Tryz.prog 12 #[ptA X 0, .string (nm [[113], [114]]), .int .i64 1] w9 fun e w' => AnP w9 (ansR exL (nm [[113], [114]]) 1) e w') := ask_ex HL9.out HLm.out ok_g
  rw [ex_g, ← e_g] at HQ9
  go_wp2_with fail
  refine HQ9.out.mono ?_
  rintro e w10 ⟨v10, rfl, hs10, hb10⟩
  have HL10 := Hid.mk (HL9.out.blk hb10)
  have HB10 := Hid.mk (HB9.out.trans (hb10.mono HB9.out.size))
  obtain ⟨gm, cm, hv10, _⟩ := name_of hs10
  subst hv10
  have HSm := Hid.mk (fun w (hb : Below w10.heap.size w10 w) => (name_of (hs10.blk hb)))
  have HZ10 := Hid.mk (Below.refl w10.heap.size w10)
  clear hs10 hb10 HL9 HB9 HQ9
  have HQ10 : Hid (Calls Tryz.prog 12 #[ptA X 0, .string (nm [[120], [110, 111], [115]]), .int .i64 1] w10 fun e w' => AnP w10 (ansR exL (nm [[120], [110, 111], [115]]) 1) e w') := ask_ex HL10.out HLm.out ok_h
  rw [ex_h, ← e_h] at HQ10
  go_wp2_with fail
  refine HQ10.out.mono ?_
  rintro e w11 ⟨v11, rfl, hs11, hb11⟩
  have HL11 := Hid.mk (HL10.out.blk hb11)
  have HB11 := Hid.mk (HB10.out.trans (hb11.mono HB10.out.size))
  obtain ⟨q11, c11, hv11⟩ := setsAt_len hs11
  subst hv11
  have HZ11 := Hid.mk (HZ10.out.trans (hb11.mono HZ10.out.size))
  clear hs11 hb11 HL10 HB10 HQ10
  have HQ11 : Hid (Calls Tryz.prog 12 #[ptA X 0, .string (nm []), .int .i64 1] w11 fun e w' => AnP w11 (ansR exL (nm []) 1) e w') := ask_ex HL11.out HLm.out ok_i
  rw [ex_i, ← e_i] at HQ11
  go_wp2_with fail
  refine HQ11.out.mono ?_
  rintro e w12 ⟨v12, rfl, hs12, hb12⟩
  have HL12 := Hid.mk (HL11.out.blk hb12)
  have HB12 := Hid.mk (HB11.out.trans (hb12.mono HB11.out.size))
  obtain ⟨q12, c12, hv12⟩ := setsAt_len hs12
  subst hv12
  have HZ12 := Hid.mk (HZ11.out.trans (hb12.mono HZ11.out.size))
  clear hs12 hb12 HL11 HB11 HQ11
  obtain ⟨g2, c2, hg2, cn⟩ := HSm.out _ HZ12.out
  cases hg2
  have hbb := HB12.out
  rw [← e_g] at cn
  clear HL12 HB12 HZ12 HZ11 HZ10 HSm HLm HA HD
  go_wp2
  go_ret
  exact ⟨rfl, hbb⟩
end Go.Proofs.YtimnnogaiglceaaGreatDoor