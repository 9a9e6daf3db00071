/- Layer 11: TableGoes' own round. -/
import Derived.Test.YtcebljcofkohiaaTbGoF
import Derived.Test.YtcebljcofkohiaaTbKeepW
import Derived.Deep.Cut
namespace Go.Proofs.Ytcebljcofkohiaa
set_option linter.unusedVariables false
open Go.RowKit

abbrev tSS : TypeId := 42
abbrev tSt : TypeId := 9
theorem app_tab {W w1 : World} {n₁ B k : Nat} {t e : TypeId} {v v' : Value} {xs ys : List Value} (A : App1 W w1 n₁ B t e v v' k ys) (hr : W.ownsRow n₁ e 1 v k xs) (hB : Boxed W B t v) (h1 : t ≠ 58) (h2 : t ≠ 62) (h3 : 58 ≠ e) (h4 : 62 ≠ e)
    {T E M : Nat} {most : Int} {n : Nat} {L : List Ent} (h : Tab W T E M most n L) : Tab (w1.setCell ⟨B, 0, none⟩ v') T E M most n L := by
  refine h.same fun b hb => A.same b (h.lt hb) (fun x => ?_) (fun x => ?_)
  · subst x
    rcases hb with rfl | rfl | rfl | hb
    · have := h.tb; rw [show W.heap[b]? = _ from hB] at this; cases this
    · obtain ⟨es, cl, hm⟩ := h.mp.isMap; rw [show W.heap[b]? = _ from hB] at hm; cases hm
    · obtain ⟨c, hc, _⟩ := h.row.plc b (by simp); rw [show W.heap[b]? = _ from hB] at hc; cases hc; exact h2 rfl
    · obtain ⟨c, hc, _⟩ := h.row.plc b (List.mem_cons_of_mem _ hb); rw [show W.heap[b]? = _ from hB] at hc; cases hc; exact h2 rfl
  · rcases hb with rfl | rfl | rfl | hb
    · exact row_far hr h.tb h3 x
    · obtain ⟨es, cl, hm⟩ := h.mp.isMap
      rcases hr.2 with ⟨rfl, _⟩ | ⟨g, cap, cur, rfl, _, hg, _⟩
      · simp [Value.ownBlock] at x
      · obtain rfl : b = g := by simpa [Value.ownBlock] using x
        rw [hg] at hm; cases hm
    · obtain ⟨c, hc, _⟩ := h.row.plc b (by simp); exact row_far hr hc h4 x
    · obtain ⟨c, hc, _⟩ := h.row.plc b (List.mem_cons_of_mem _ hb); exact row_far hr hc h4 x
theorem app_dead {W w1 : World} {n₁ B k : Nat} {t e : TypeId} {v v' : Value} {xs ys : List Value} (A : App1 W w1 n₁ B t e v v' k ys) (hr : W.ownsRow n₁ e 1 v k xs) (hB : Boxed W B t v) (h2 : t ≠ 62) (h4 : 62 ≠ e) {x : Ent} (h : DeadAt W x) : DeadAt (w1.setCell ⟨B, 0, none⟩ v') x := by
  obtain ⟨c, hc, _⟩ := h.plc
  refine h.same (A.same _ h.plc.lt (fun y => ?_) (row_far hr hc h4))
  rw [y, show W.heap[B]? = _ from hB] at hc
  cases hc
  exact h2 rfl
theorem app_frn {W w1 : World} {n₁ B k : Nat} {t e : TypeId} {v v' : Value} {xs ys : List Value} (A : App1 W w1 n₁ B t e v v' k ys) (hr : W.ownsRow n₁ e 1 v k xs) {b : Nat} {c : Array Value} {t' : TypeId} {f : Nat × Nat} (hb : W.heap[b]? = some (.cells c t' f)) (hn : b ≠ B) (ht : t' ≠ e ∨ b < n₁) : (w1.setCell ⟨B, 0, none⟩ v').heap[b]? = some (.cells c t' f) := by
  refine (A.same b (blk_lt hb) hn (fun x => ?_)).trans hb
  rcases ht with ht | ht
  · exact row_far hr hb ht x
  · have := row_base hr x; omega

structure GoS (W0 W : World) (T E M n₁ bT bD bt bB bL : Nat) (P : List Ent) (ds : List ByteArray) (ad : Option Addr) (cd : Nat) (qb : Option Addr) (cb : Nat) (last : Nat) (tl D : List ByteArray) (cc : Nat) : Prop where
  tab : ∃ n L, TabO W0 W T E M (1000 : Int) n L ∧ n ≤ 100 + cc ∧ L.length ≤ 60 + cc ∧ PInv P W L D
  told : ∃ v, Boxed W bT tSS v ∧ W.ownsRow n₁ tSt 1 v tl.length (strC tl)
  xD : Boxed W bD tSS (.slice ad ds.length cd)
  xt : Boxed W bt 24 (pt T)
  xB : Boxed W bB tSS (.slice qb P.length cb)
  xL : Boxed W bL 3 (.int .i64 (last : Int))
  bf : W.ownsRow W0.heap.size tSt 1 (.slice qb P.length cb) P.length (strC (ks P))
  bg : ∀ g, some g = (Value.slice qb P.length cb).ownBlock → g < n₁
  nw : n₁ ≤ W.heap.size
  n0 : W0.heap.size ≤ n₁
  ne : W0.heap.size ≤ bT ∧ bT ≠ bD ∧ bT ≠ bt ∧ bT ≠ bB ∧ bT ≠ bL
theorem GoS.bel {W0 W : World} {T E M n₁ bT bD bt bB bL : Nat} {P : List Ent} {ds : List ByteArray} {ad : Option Addr} {cd : Nat} {qb : Option Addr} {cb last : Nat} {tl D : List ByteArray} {cc : Nat} (h : GoS W0 W T E M n₁ bT bD bt bB bL P ds ad cd qb cb last tl D cc) : Below W0.heap.size W0 W := by
  obtain ⟨n, L, ho, _⟩ := h.tab
  exact ho.bel
/-- behind calls on the table alone. -/
theorem GoS.frn {W0 W W' : World} {T E M n₁ bT bD bt bB bL : Nat} {P : List Ent} {ds : List ByteArray} {ad : Option Addr} {cd : Nat} {qb : Option Addr} {cb last : Nat} {tl D D' : List ByteArray} {cc cc' : Nat} (h : GoS W0 W T E M n₁ bT bD bt bB bL P ds ad cd qb cb last tl D cc) (hf : Frn W W')
    (ht : ∃ n L, TabO W0 W' T E M (1000 : Int) n L ∧ n ≤ 100 + cc' ∧ L.length ≤ 60 + cc' ∧ PInv P W' L D') : GoS W0 W' T E M n₁ bT bD bt bB bL P ds ad cd qb cb last tl D' cc' where
  tab := ht
  told := by
    obtain ⟨v, h1, h2⟩ := h.told
    exact ⟨v, hf.box h1 (by decide) (by decide), hf.row h2 (by decide) (by decide)⟩
  xD := hf.box h.xD (by decide) (by decide)
  xt := hf.box h.xt (by decide) (by decide)
  xB := hf.box h.xB (by decide) (by decide)
  xL := hf.box h.xL (by decide) (by decide)
  bf := hf.row h.bf (by decide) (by decide)
  bg := h.bg
  nw := Nat.le_trans h.nw hf.size
  n0 := h.n0
  ne := h.ne

theorem beq_toList (a b : ByteArray) : (a.toList == b.toList) = decide (a = b) := by
  by_cases h : a = b
  · subst h; simp
  · rw [decide_eq_false h, beq_eq_false_iff_ne]
    exact toList_ne h
theorem GoS.more {W0 W : World} {T E M n₁ bT bD bt bB bL : Nat} {P : List Ent} {ds : List ByteArray} {ad : Option Addr} {cd : Nat} {qb : Option Addr} {cb last : Nat} {tl D : List ByteArray} {cc : Nat} (h : GoS W0 W T E M n₁ bT bD bt bB bL P ds ad cd qb cb last tl D cc) : GoS W0 W T E M n₁ bT bD bt bB bL P ds ad cd qb cb last tl D (cc + 1) := by
  obtain ⟨n, L, ho, h1, h2, h3⟩ := h.tab
  exact { h with tab := ⟨n, L, ho, by omega, by omega, h3⟩ }
def newK (d : ByteArray) : ByteArray := (⟨#[110, 101, 119]⟩ : ByteArray) ++ d
def othB (l : List ByteArray) (k : ByteArray) (x : Nat) : Bool := (List.range x).all fun j => decide (l.getD j ⟨#[]⟩ ≠ k)
theorem oth_step (l : List ByteArray) (k : ByteArray) (x : Nat) : othB l k (x + 1) = (othB l k x && decide (l.getD x ⟨#[]⟩ ≠ k)) := by
  unfold othB
  rw [List.range_succ, List.all_append, List.all_cons, List.all_nil, Bool.and_true]
theorem oth_all {l : List ByteArray} {k : ByteArray} (h : othB l k l.length = true) : ∀ x ∈ l, x ≠ k := by
  intro x hx
  obtain ⟨j, hj, rfl⟩ := List.getElem_of_mem hx
  have := List.all_eq_true.1 h j (List.mem_range.2 hj)
  rw [decide_eq_true_eq, getD_at l j hj] at this
  exact this

/-- one key more is told. -/
theorem GoS.app {W0 W w1 : World} {T E M n₁ bT bD bt bB bL : Nat} {P : List Ent} {ds : List ByteArray} {ad : Option Addr} {cd : Nat} {qb : Option Addr} {cb last : Nat} {tl D : List ByteArray} {cc : Nat} (h : GoS W0 W T E M n₁ bT bD bt bB bL P ds ad cd qb cb last tl D cc) {vt v' : Value} {k : ByteArray}
    (hv : Boxed W bT tSS vt) (hr : W.ownsRow n₁ tSt 1 vt tl.length (strC tl)) (A : App1 W w1 n₁ bT tSS tSt vt v' tl.length (strC tl ++ [.string k])) : GoS W0 (w1.setCell ⟨bT, 0, none⟩ v') T E M n₁ bT bD bt bB bL P ds ad cd qb cb last (tl ++ [k]) D cc := by
  obtain ⟨n, L, ho, h1, h2, h3⟩ := h.tab
  obtain ⟨x0, x1, x2, x3, x4⟩ := h.ne
  refine ⟨⟨n, L, ⟨app_tab A hr hv (by decide) (by decide) (by decide) (by decide) ho.tab, ho.own, ho.bel.trans (A.below hr h.n0 x0 ho.bel.size)⟩, h1, h2, fun e he => ?_⟩, ⟨v', A.box', ?_⟩, app_frn A hr h.xD (Ne.symm x1) (.inl (by decide)), app_frn A hr h.xt (Ne.symm x2) (.inl (by decide)), app_frn A hr h.xB (Ne.symm x3) (.inl (by decide)), app_frn A hr h.xL (Ne.symm x4) (.inl (by decide)), ?_, h.bg, Nat.le_trans h.nw A.size, h.n0, h.ne⟩
  · rcases h3 e he with hl | ⟨y1, y2, y3⟩
    · exact .inl hl
    · exact .inr ⟨y1, app_dead A hr hv (by decide) (by decide) y2, y3⟩
  · rw [List.length_append, strC, List.map_append]
    exact A.row
  · obtain ⟨hl, h0 | ⟨g, cap, cur, hv', hb, hg, r⟩⟩ := h.bf
    · exact ⟨hl, .inl h0⟩
    · have hgn : g < n₁ := h.bg g (by rw [hv']; rfl)
      refine ⟨hl, .inr ⟨g, cap, cur, hv', hb, app_frn A hr hg (fun e => ?_) (.inr hgn), r⟩⟩
      subst e
      rw [show W.heap[g]? = _ from hv] at hg
      cases hg
theorem app_kt {W w1 : World} {n₁ B k : Nat} {v v' : Value} {xs ys : List Value} (A : App1 W w1 n₁ B tSS tSt v v' k ys) (hr : W.ownsRow n₁ tSt 1 v k xs) (hB : Boxed W B tSS v) : KT W (w1.setCell ⟨B, 0, none⟩ v') := fun b c t f ht hb => by
  refine app_frn A hr hb (fun e => ?_) (.inl (by rcases ht with rfl | rfl <;> decide))
  subst e
  rw [show W.heap[b]? = _ from hB] at hb
  cases hb
  rcases ht with ht | ht <;> cases ht

attribute [local go_sem ↓] app_k
set_option maxRecDepth 100000 in
set_option maxHeartbeats 4000000 in
theorem goes1_in {W0 W : World} {T E M n₁ bT bD bt bB bL : Nat} {P : List Ent} {ds : List ByteArray} {ad : Option Addr} {cd : Nat} {qb : Option Addr} {cb last : Nat} {tl : List ByteArray} (h : GoS W0 W T E M n₁ bT bD bt bB bL P ds ad cd qb cb last tl (ds.take tl.length) tl.length)
    (hg : Given W0 ad ds) (hds : ∀ d ∈ ds, d.size ≤ 140737488351232) (hdn : ds.length ≤ 100000000000000) (htl : tl.length ≤ last) (hlast : last < 40) (hP : P.length ≤ 60) (k : ByteArray) (v : Int) :
    Calls Try.prog 21 #[.string k, .int .i64 v, pt bT, pt bD, pt bt, pt bB, pt bL] W fun r W' => r = .returned (.bool (decide (tl.length + 1 ≤ last))) ∧ GoS W0 W' T E M n₁ bT bD bt bB bL P ds ad cd qb cb last (tl ++ [k]) (ds.take (tl.length + 1)) (tl.length + 1) ∧ KT W W' := by
  obtain ⟨vt, hvt, hrt⟩ := h.told
  obtain ⟨qt, ct, rfl⟩ := row_shape hrt
  obtain ⟨g, cap, w1, hap, A⟩ := app1' (x := .string k) hvt (by decide) hrt h.nw Try.underlying42 infoS rfl rfl (by omega) (by decide)
  rw [app_k] at hap
  have ct0 := hvt.cell
  have cv3 := A.box.cell
  have fv3 := A.box.frozen
  have hl1 := hvt.lt
  have hl2 : ¬ bT = W.heap.size := by omega
  obtain ⟨W1, hW1⟩ : ∃ W1, w1.setCell ⟨bT, 0, none⟩ (.slice (some ⟨g, 0, none⟩) (tl.length + 1) cap) = W1 := ⟨_, rfl⟩
  have h1 := h.app hvt hrt A
  have HKT := Hid.mk (app_kt A hrt hvt)
  rw [hW1] at h1 HKT
  have cT : W1.cell? ⟨bT, 0, none⟩ = some (.slice (some ⟨g, 0, none⟩) (tl.length + 1) cap) := by rw [← hW1]; exact A.box'.cell
  have cD := h1.xD.cell
  have cL := h1.xL.cell
  have HW := Hid.mk hW1
  obtain ⟨t, ht⟩ : ∃ t, tl.length = t := ⟨_, rfl⟩
  have HTL := Hid.mk ht
  rw [ht] at hap cT ct0 cv3 htl HW ⊢
  obtain ⟨D, hD⟩ : ∃ D, ds.take t = D := ⟨_, rfl⟩
  have HD := Hid.mk hD
  rw [ht, hD] at h1
  clear A hW1 hvt hrt h ht hD
  obtain ⟨nd, hnd⟩ : ∃ nd, ds.length = nd := ⟨_, rfl⟩
  have HND := Hid.mk hnd
  rw [hnd] at cD hdn
  have H1 := Hid.mk h1
  go_enter Try.func21, Try.ntmps21
  go_upto_region 2 with fail
  rw [HW.out]
  clear HW hap cv3 fv3 hl1 hl2 ct0 hnd h1
  have hres : Hid (Ending.returned (Value.bool (decide ((t : Int) + 1 ≤ (last : Int)))) = Ending.returned (Value.bool (decide (t + 1 ≤ last)))) := by
    rw [Hid, show decide ((t : Int) + 1 ≤ (last : Int)) = decide (t + 1 ≤ last) from decide_eq_decide.2 (by omega)]
  by_cases hle : t + 1 ≤ nd
  · have htd : t < ds.length := by rw [HND.out]; omega
    obtain ⟨b, off, rfl, hcell⟩ := hg.at H1.out.bel t htd
    rw [getD_at ds t htd] at hcell
    have hdz := hds _ (List.getElem_mem htd)
    have HDD : Hid (ds.take (t + 1) = D ++ [ds[t]]) := by rw [Hid, List.take_succ_eq_append_getElem htd, HD.out]
    obtain ⟨d, hd⟩ : ∃ d, ds[t] = d := ⟨_, rfl⟩
    rw [hd] at hcell hdz HDD
    clear hd
    have hle2 : (t : Int) + 1 ≤ (nd : Int) := by omega
    have cx := H1.out.xt.cell
    obtain ⟨n, L, ho, hn, hL, hPI⟩ := H1.out.tab
    have HDr := Hid.mk (drop_P ho hPI d (by unfold maxLen; omega))
    have HnL := Hid.mk (And.intro hn hL)
    have htd' : t < nd := by omega
    clear ho hn hL hPI hg hds htd
    go_wp2_with fail
    refine HDr.out.mono ?_
    rintro r w2 ⟨bb, L2, rfl, ho2, hL2, hP2, hf2⟩
    have h2 := H1.out.frn (D' := D ++ [d]) (cc' := t) hf2 ⟨n, L2, ho2, HnL.out.1, Nat.le_trans hL2 HnL.out.2, hP2⟩
    have HKT2 := Hid.mk (HKT.out.trans (KT.frn hf2))
    have H2 := Hid.mk h2
    have HT2 := Hid.mk (And.intro ho2 (And.intro (Nat.le_trans hL2 HnL.out.2) hP2))
    have cB := h2.xB.cell
    have cT2 : w2.cell? ⟨bT, 0, none⟩ = some (.slice (some ⟨g, 0, none⟩) (t + 1) cap) := (cell_same (i := 0) (by
      obtain ⟨vt, hvt, _⟩ := H1.out.told
      have e1 : vt = .slice (some ⟨g, 0, none⟩) (t + 1) cap := by
        have := hvt.cell
        rw [cT] at this
        exact (Option.some.inj this).symm
      rw [show W1.heap[bT]? = _ from hvt]
      exact hf2.box hvt (by decide) (by decide))).trans cT
    have cL2 := h2.xL.cell
    have cx2 := h2.xt.cell
    obtain ⟨np, hnp⟩ : ∃ np, P.length = np := ⟨_, rfl⟩
    have HNP := Hid.mk hnp
    rw [hnp] at cB hP
    have hbc : ∀ j, j < np → ∃ gb, qb = some ⟨gb, 0, none⟩ ∧ w2.cell? ⟨gb, j, none⟩ = some (.string ((ks P).getD j ⟨#[]⟩)) := fun j hj => by
      have hjl : j < (ks P).length := by simp [ks]; omega
      obtain ⟨gb, cc, e1, _, _, hce⟩ := row_cells h2.bf (by omega)
      cases e1
      exact ⟨gb, rfl, hce j _ (by rw [getD_at _ _ hjl]; simp [hjl])⟩
    have HBC := Hid.mk hbc
    clear h2 ho2 hL2 hP2 hf2 hnp hbc cT cD cL cx hcell
    go_wp2
    go_loopw [11, 12] (fun o j wr => ∃ x : Nat, x ≤ np ∧ j = .int .i64 (x : Int) ∧ o = .bool (othB (ks P) (newK d) x) ∧ wr = w2) (fun _ j _ => np - (intOf j).toNat)
    case atStart => exact ⟨0, Nat.zero_le _, rfl, rfl, rfl⟩
    case round =>
      obtain ⟨x, hx, rfl, rfl, rfl⟩ := hrel
      by_cases hxn : x < np
      · obtain ⟨gb, rfl, hcx⟩ := HBC.out x hxn
        have HO := Hid.mk (oth_step (ks P) (newK d) x)
        obtain ⟨sx, hsx⟩ : ∃ s, (ks P).getD x ⟨#[]⟩ = s := ⟨_, rfl⟩
        rw [hsx] at hcx HO
        clear hsx
        cases hl : othB (ks P) (newK d) x with
        | false =>
          rw [hl, Bool.false_and] at HO
          clear hl
          go_wp2
          go_roundw
          case rel => exact ⟨x + 1, hxn, by go_num, by rw [HO.out], by first | rfl | trivial⟩
          case measure => simp [intOf]; omega
        | true =>
          rw [hl, Bool.true_and] at HO
          clear hl
          go_wp2
          refine ⟨⟨x + 1, hxn, by go_num, ?_, trivial⟩, by simp [intOf]; omega⟩
          rw [HO.out, beq_toList]
          show Value.bool (!decide (sx = newK d)) = _
          rw [← decide_not]
      · obtain rfl : x = np := by omega
        cases hl : othB (ks P) (newK d) x with
        | false =>
          clear hl
          go_wp2
          go_ret
          refine ⟨hres.out, ?_, HKT2.out⟩
          rw [HDD.out]
          exact H2.out.more
        | true =>
          have hnk := oth_all (l := ks P) (k := newK d) (by rw [show (ks P).length = x by simp [ks]; exact HNP.out]; exact hl)
          have hle40 : t + 1 ≤ 40 := by omega
          have hLl := HT2.out.2.1
          have hnn := HnL.out.1
          have HPut := Hid.mk (put_P (m := 1000) HT2.out.1 HT2.out.2.2 (newK d) 1 (fun e he => hnk _ (List.mem_map_of_mem he)) (by omega) (by decide) (by
            unfold newK maxLen
            rw [ByteArray.size_append]
            show 3 + d.size ≤ _
            omega) (by unfold maxLen; omega))
          clear hl hnk
          go_wp2_with fail
          refine HPut.out.mono ?_
          rintro r w3 ⟨s3, bb3, L3, rfl, ho3, hL3, hP3, hf3⟩
          have h3 := H2.out.frn (D' := D ++ [d]) (cc' := t + 1) hf3 ⟨n + 1, L3, ho3, by omega, by omega, hP3⟩
          have HKT3 := Hid.mk (HKT2.out.trans (KT.frn hf3))
          have cT3 : w3.cell? ⟨bT, 0, none⟩ = some (.slice (some ⟨g, 0, none⟩) (t + 1) cap) := (cell_same (i := 0) (by
            obtain ⟨vt, hvt, _⟩ := H2.out.told
            rw [show wr.heap[bT]? = _ from hvt]
            exact hf3.box hvt (by decide) (by decide))).trans cT2
          have cL3 := h3.xL.cell
          have H3 := Hid.mk h3
          clear h3 ho3 hL3 hP3 hf3
          go_wp2
          go_ret
          refine ⟨hres.out, ?_, HKT3.out⟩
          rw [HDD.out]
          exact H3.out
  · have hle2 : ¬ ((t : Int) + 1 ≤ (nd : Int)) := by omega
    go_wp2
    go_ret
    refine ⟨hres.out, ?_, HKT.out⟩
    rw [show ds.take (t + 1) = D by rw [← HD.out, List.take_of_length_le (by rw [HND.out]; omega), List.take_of_length_le (by rw [HND.out]; omega)]]
    exact H1.out.more

end Go.Proofs.Ytcebljcofkohiaa
